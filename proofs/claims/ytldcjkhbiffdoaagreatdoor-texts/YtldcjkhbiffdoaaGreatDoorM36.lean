import Derived.Test.YtldcjkhbiffdoaaGreatDoorM35
import Derived.Test.YtldcjkhbiffdoaaGreatDoorM14

/-
  factorref: Read: words and monomials through stores and appends.
-/
namespace Go.Proofs.YtldcjkhbiffdoaaGreatDoor
open Go.RowKit

/-- Every word is in order. -/
def WdOk (len : Nat) (p : Wd) : Prop := (∀ c, c ∈ p.2.1 → isDig c = true) ∧ p.2.1.length ≤ len ∧ p.2.2 ≤ len

theorem wdsF_ok (l : List UInt8) : ∀ (f n : Nat), n ≤ l.length → ∀ p, p ∈ wdsF l f n → WdOk l.length p
  | 0, n, _, p, h => by simp [wdsF] at h
  | f + 1, n, hn, p, h => by
    unfold wdsF at h
    cases hc : l[n]? with
    | none =>
      rw [hc] at h
      simp at h
      subst h
      exact ⟨fun c hc => by simp at hc, by simp, Nat.le_refl _⟩
    | some c =>
      have hlt := (List.getElem?_eq_some_iff.1 hc).1
      rw [hc] at h
      simp only at h
      split at h
      · exact wdsF_ok l f (n + 1) (by omega) p h
      · split at h
        · have h2 := digs_le (l.drop n)
          rw [List.length_drop] at h2
          rcases List.mem_cons.1 h with rfl | h
          · exact ⟨digs_all _, by show (digs (l.drop n)).length ≤ _; omega, by show n ≤ _; omega⟩
          · exact wdsF_ok l f _ (by omega) p h
        · rcases List.mem_cons.1 h with rfl | h
          · exact ⟨fun c hc => by simp at hc, by simp, by show n ≤ _; omega⟩
          · exact wdsF_ok l f (n + 1) (by omega) p h
theorem wdsF_len (l : List UInt8) : ∀ (f n : Nat), (wdsF l f n).length ≤ f
  | 0, n => by simp [wdsF]
  | f + 1, n => by
    unfold wdsF
    cases l[n]? with
    | none => simp
    | some c =>
      simp only
      split
      · have := wdsF_len l f (n + 1); omega
      · split
        · have := wdsF_len l f (n + (digs (l.drop n)).length); simp; omega
        · have := wdsF_len l f (n + 1); simp; omega
theorem wds_ok {l : List UInt8} {p : Wd} (h : p ∈ wds l 0) : WdOk l.length p := wdsF_ok l _ 0 (Nat.zero_le _) p h
theorem wds_len (l : List UInt8) : (wds l 0).length ≤ l.length + 1 := by
  have := wdsF_len l (l.length + 1 - 0) 0
  unfold wds; omega

/-- Only the block km has been written into. -/
structure SetM (w w' : World) (km : Nat) : Prop where
  other : ∀ j, j ≠ km → w'.heap[j]? = w.heap[j]?
  size : w'.heap.size = w.heap.size

theorem setM1 (w : World) (km o : Nat) (u : Value) : SetM w (w.setCell ⟨km, o, none⟩ u) km := ⟨fun _ hj => Below.heap_setCell _ _ _ _ hj, by simp⟩
theorem SetM.trans {a b c : World} {km : Nat} (h1 : SetM a b km) (h2 : SetM b c km) : SetM a c km := ⟨fun j hj => (h2.other j hj).trans (h1.other j hj), h2.size.trans h1.size⟩
theorem setM2 (w : World) (km o o2 : Nat) (u v : Value) : SetM w ((w.setCell ⟨km, o, none⟩ u).setCell ⟨km, o2, none⟩ v) km := (setM1 w km o u).trans (setM1 _ km o2 v)
theorem setM4 (w : World) (km : Nat) (a b c d : Value) : SetM w ((((w.setCell ⟨km, 0, none⟩ a).setCell ⟨km, 1, none⟩ b).setCell ⟨km, 2, none⟩ c).setCell ⟨km, 3, none⟩ d) km := (setM2 w km 0 1 a b).trans (setM2 _ km 2 3 c d)

theorem BxM.set01 {w : World} {k : Nat} {a b c d : Value} (h : BxM w k a b c d) (a' b' : Value) : BxM ((w.setCell ⟨k, 0, none⟩ a').setCell ⟨k, 1, none⟩ b') k a' b' c d := by
  unfold BxM at h ⊢
  rw [heap_setCell_same _ k 1 #[a', b, c, d] _ b' (by rw [heap_setCell_same w k 0 #[a, b, c, d] _ a' h]; rfl)]
  rfl
theorem BxM.set23 {w : World} {k : Nat} {a b c d : Value} (h : BxM w k a b c d) (c' d' : Value) : BxM ((w.setCell ⟨k, 2, none⟩ c').setCell ⟨k, 3, none⟩ d') k a b c' d' := by
  unfold BxM at h ⊢
  rw [heap_setCell_same _ k 3 #[a, b, c', d] _ d' (by rw [heap_setCell_same w k 2 #[a, b, c, d] _ c' h]; rfl)]
  rfl
theorem BxM.set4 {w : World} {k : Nat} {a b c d : Value} (h : BxM w k a b c d) (a' b' c' d' : Value) : BxM ((((w.setCell ⟨k, 0, none⟩ a').setCell ⟨k, 1, none⟩ b').setCell ⟨k, 2, none⟩ c').setCell ⟨k, 3, none⟩ d') k a' b' c' d' := (h.set01 a' b').set23 c' d'

theorem IsN.setM {w w' : World} {km : Nat} {a b c d : Value} {v : Value} {z : Int} (h : IsN w v z) (hk : BxM w km a b c d) (hS : SetM w w' km) : IsN w' v z := by
  obtain ⟨b', x, l, e, hr, hl⟩ := h
  refine ⟨b', x, l, e, ⟨hr.1, ?_⟩, hl⟩
  rcases hr.2 with h1 | ⟨g, cap, cur, hv, hb, hg, r⟩
  · exact .inl h1
  · refine .inr ⟨g, cap, cur, hv, hb, ?_, r⟩
    rw [hS.other g]
    · exact hg
    · intro e
      unfold BxM at hk
      rw [e, hk] at hg
      simp at hg
theorem OwnW.setM {B : Nat} {w w' : World} {km : Nat} {a b c d : Value} {v : Value} {ws : List Wd} (h : OwnW B w v ws) (hk : BxM w km a b c d) (hS : SetM w w' km) : OwnW B w' v ws := by
  refine ⟨h.1, ?_⟩
  rcases h.2 with h1 | ⟨g, cap, cur, hv, hb, hg, r⟩
  · exact .inl h1
  · refine .inr ⟨g, cap, cur, hv, hb, ?_, r⟩
    rw [hS.other g]
    · exact hg
    · intro e
      unfold BxM at hk
      rw [e, hk] at hg
      simp at hg
theorem OwnM.setM {B : Nat} {w w' : World} {km : Nat} {a b c d : Value} {v : Value} {ts : List (Int × Nat)} (h : OwnM B w v ts) (hB : km < B) (hk : BxM w km a b c d) (hS : SetM w w' km) : OwnM B w' v ts := by
  have hblk := h.block
  obtain ⟨cs, h1, h2, h3⟩ := h
  refine ⟨cs, h1, ⟨h2.1, ?_⟩, fun i p hp => ⟨(h3 i p hp).1.setM hk hS, (h3 i p hp).2.setM hk hS⟩⟩
  rcases h2.2 with h1 | ⟨g, cap, cur, hv, hb, hg, r⟩
  · exact .inl h1
  · refine .inr ⟨g, cap, cur, hv, hb, ?_, r⟩
    rw [hS.other g (by omega)]
    exact hg
theorem OwnW.grownM {B C : Nat} {w w' : World} {v u : Value} {ws : List Wd} {ts : List (Int × Nat)} (h : OwnW B w v ws) (hg : w.grownBy w' u.ownBlock) (hu : OwnM C w u ts) : OwnW B w' v ws := by
  refine World.ownsRow.kept h hg ?_
  rcases h.2 with ⟨hn, _⟩ | ⟨k, cap, cur, hv, _, hk, _⟩
  · left; rw [hn]; rfl
  · right
    rw [hv]
    show some k ≠ u.ownBlock
    intro e
    obtain ⟨cur', hc⟩ := hu.typ k e.symm
    rw [hk] at hc
    simp at hc
theorem BxM.grownM {C k : Nat} {w w' : World} {u a b c d : Value} {ts : List (Int × Nat)} (h : BxM w k a b c d) (hg : w.grownBy w' u.ownBlock) (hu : OwnM C w u ts) (hk : k < C) : BxM w' k a b c d := by
  have hlt := h.lt
  unfold BxM at h ⊢
  rw [hg.block k hlt (fun e => by have := hu.block k e.symm; omega)]
  exact h

/-- The monomial that is being read: its box. -/
def IsM (w : World) (k : Nat) (c : Int) (e : Nat) : Prop :=
  ∃ b xa xn xc d ya yn yc, BxM w k (.bool b) (.slice xa xn xc) (.bool d) (.slice ya yn yc) ∧ IsN w (.agg #[.bool b, .slice xa xn xc]) c ∧ IsN w (.agg #[.bool d, .slice ya yn yc]) (e : Int)

theorem IsM.below {w w' : World} {k : Nat} {c : Int} {e : Nat} (h : IsM w k c e) (hb : Below w.heap.size w w') : IsM w' k c e := by
  obtain ⟨b, xa, xn, xc, d, ya, yn, yc, h1, h2, h3⟩ := h
  exact ⟨b, xa, xn, xc, d, ya, yn, yc, h1.below hb, h2.below hb, h3.below hb⟩

/-- What the reading keeps, from word to word. -/
structure Rdg (B km : Nat) (wv lv : Value) (ws : List Wd) (w : World) (s : St) : Prop where
  words : OwnW B w wv ws
  list : OwnM (km + 1) w lv s.ms
  box : IsM w km s.c s.e
  small : TsB s.ms
  cs : s.c.natAbs < 10 ^ 201
  es : s.e < 10 ^ 201

theorem Rdg.below {B km : Nat} {wv lv : Value} {ws : List Wd} {w w' : World} {s : St} (h : Rdg B km wv lv ws w s) (hb : Below w.heap.size w w') : Rdg B km wv lv ws w' s :=
  ⟨h.words.below hb, h.list.below hb, h.box.below hb, h.small, h.cs, h.es⟩

/-- The coefficient is stored. -/
theorem Rdg.setC {B km : Nat} {wv lv : Value} {ws : List Wd} {w : World} {s : St} (h : Rdg B km wv lv ws w s) {b : Bool} {a : Option Addr} {n c : Nat} {z : Int} (hz : IsN w (.agg #[.bool b, .slice a n c]) z) (hzb : z.natAbs < 10 ^ 201) (neg : Bool) (st : Nat) :
    Rdg B km wv lv ws ((w.setCell ⟨km, 0, none⟩ (.bool b)).setCell ⟨km, 1, none⟩ (.slice a n c)) ⟨s.ms, z, s.e, neg, st⟩ := by
  obtain ⟨b0, xa, xn, xc, d, ya, yn, yc, h1, h2, h3⟩ := h.box
  have hS := setM2 w km 0 1 (.bool b) (.slice a n c)
  exact ⟨h.words.setM h1 hS, h.list.setM (Nat.lt_succ_self _) h1 hS, ⟨_, _, _, _, _, _, _, _, h1.set01 _ _, hz.setM h1 hS, h3.setM h1 hS⟩, h.small, hzb, h.es⟩
/-- The exponent is stored. -/
theorem Rdg.setE {B km : Nat} {wv lv : Value} {ws : List Wd} {w : World} {s : St} (h : Rdg B km wv lv ws w s) {b : Bool} {a : Option Addr} {n c : Nat} {z : Nat} (hz : IsN w (.agg #[.bool b, .slice a n c]) (z : Int)) (hzb : z < 10 ^ 201) (neg : Bool) (st : Nat) :
    Rdg B km wv lv ws ((w.setCell ⟨km, 2, none⟩ (.bool b)).setCell ⟨km, 3, none⟩ (.slice a n c)) ⟨s.ms, s.c, z, neg, st⟩ := by
  obtain ⟨b0, xa, xn, xc, d, ya, yn, yc, h1, h2, h3⟩ := h.box
  have hS := setM2 w km 2 3 (.bool b) (.slice a n c)
  exact ⟨h.words.setM h1 hS, h.list.setM (Nat.lt_succ_self _) h1 hS, ⟨_, _, _, _, _, _, _, _, h1.set23 _ _, h2.setM h1 hS, hz.setM h1 hS⟩, h.small, h.cs, hzb⟩

end Go.Proofs.YtldcjkhbiffdoaaGreatDoor

/-
  factorref: Read.
-/
namespace Go.Proofs.YtldcjkhbiffdoaaGreatDoor
open Go.RowKit

/-- What the document's Read answers. -/
def RAns (w' : World) (r : Nat × Nat × List Int) (en : Ending) : Prop :=
  (r.1 = 0 ∧ inB r.2.2 = true ∧ ∃ x, en = .returned (.tuple #[x, .int .i64 0, .int .i64 0]) ∧ IsLN w' x r.2.2) ∨ (r.1 ≠ 0 ∧ en = .returned (.tuple #[.slice none 0 0, .int .i64 (r.1 : Int), .int .i64 (r.2.1 : Int)]))

theorem numOf_small {D : List UInt8} (h : ∀ c, c ∈ D → isDig c = true) (hl : D.length ≤ 200) : numOf 0 D < 10 ^ 201 := by
  have h1 := numOf_lt D 0 0 (by decide) h
  rw [Nat.zero_add] at h1
  exact Nat.lt_of_lt_of_le h1 (Nat.pow_le_pow_right (by omega) (by omega))

theorem TsB.snoc {ms : List (Int × Nat)} (h : TsB ms) {c : Int} {e : Nat} (hl : ms.length ≤ 500) (hc : c.natAbs < 10 ^ 201) (he : e < 10 ^ 201) : TsB (ms ++ [(c, e)]) := by
  refine ⟨by simp; omega, fun i => ?_⟩
  rcases Nat.lt_trichotomy i ms.length with h1 | h1 | h1
  · have : (ms ++ [(c, e)]).getD i (0, 0) = ms.getD i (0, 0) := by simp [List.getD, List.getElem?_append_left h1]
    rw [this]; exact h.2 i
  · subst h1
    have : (ms ++ [(c, e)]).getD ms.length (0, 0) = (c, e) := by simp [List.getD]
    rw [this]; exact ⟨hc, he⟩
  · have : (ms ++ [(c, e)]).getD i (0, 0) = (0, 0) := by
      simp [List.getD, List.getElem?_eq_none (show (ms ++ [(c, e)]).length ≤ i by simp; omega)]
    rw [this]; exact ⟨Nat.pow_pos (by omega), Nat.pow_pos (by omega)⟩

theorem one_small : (1 : Int).natAbs < 10 ^ 201 := Nat.lt_of_lt_of_le (show 1 < 10 ^ 1 by decide) (Nat.pow_le_pow_right (by omega) (by omega))

/-- The first loop of a body. -/
def loopOf : Code → Option Code
  | .seq a b => match loopOf a with
    | some c => some c
    | none => loopOf b
  | .block _ c => loopOf c
  | .scope c => loopOf c
  | .loop c => some c
  | _ => none

end Go.Proofs.YtldcjkhbiffdoaaGreatDoor
