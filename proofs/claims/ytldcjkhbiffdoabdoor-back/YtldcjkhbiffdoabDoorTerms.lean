/-
  The reader's terms in memory: 'OwnT B w v ts'.
-/
import Derived.Test.YtldcjkhbiffdoabDoorReadPow
namespace Go.Proofs.YtldcjkhbiffdoabDoor
open Go.RowKit

/-- The cells of a term. -/
structure TC where
  a : Bool
  x : Value
  b : Bool
  y : Value

def flat4 : List TC → List Value
  | [] => []
  | p :: l => .bool p.a :: p.x :: .bool p.b :: p.y :: flat4 l

theorem flat4_append (a b : List TC) : flat4 (a ++ b) = flat4 a ++ flat4 b := by
  induction a with
  | nil => rfl
  | cons p a ih => simp [flat4, ih]

theorem flat4_length (a : List TC) : (flat4 a).length = a.length * 4 := by
  induction a with
  | nil => rfl
  | cons p a ih => simp [flat4, ih]; omega

theorem flat4_at : ∀ (a : List TC) (i : Nat) (p : TC), a[i]? = some p → (flat4 a)[i * 4]? = some (.bool p.a) ∧ (flat4 a)[i * 4 + 1]? = some p.x ∧ (flat4 a)[i * 4 + 2]? = some (.bool p.b) ∧ (flat4 a)[i * 4 + 3]? = some p.y
  | [], i, p, h => by simp at h
  | q :: a, 0, p, h => by simp at h; subst h; simp [flat4]
  | q :: a, i + 1, p, h => by
    have := flat4_at a i p (by simpa using h)
    rw [show (i + 1) * 4 = i * 4 + 1 + 1 + 1 + 1 by omega]
    simpa [flat4] using this

theorem flat4_set : ∀ (a : List TC) (i : Nat) (p : TC) (u : Bool) (x : Value), a[i]? = some p → flat4 (a.set i ⟨u, x, p.b, p.y⟩) = ((flat4 a).set (i * 4) (.bool u)).set (i * 4 + 1) x
  | [], i, p, u, x, h => by simp at h
  | q :: a, 0, p, u, x, h => by simp at h; subst h; simp [flat4]
  | q :: a, i + 1, p, u, x, h => by
    have := flat4_set a i p u x (by simpa using h)
    rw [show (i + 1) * 4 = i * 4 + 1 + 1 + 1 + 1 by omega]
    simp [flat4, this]

def OwnT (B : Nat) (w : World) (v : Value) (ts : List (Int × Nat)) : Prop :=
  ∃ cs : List TC, cs.length = ts.length ∧ w.ownsRow B 46 4 v ts.length (flat4 cs) ∧
    ∀ i p, cs[i]? = some p → IsI w (.agg #[.bool p.a, p.x]) (ts.getD i (0, 0)).1 ∧ IsI w (.agg #[.bool p.b, p.y]) ((ts.getD i (0, 0)).2 : Int)

theorem OwnT.nil (B : Nat) (w : World) : OwnT B w (.slice none 0 0) [] := ⟨[], rfl, World.ownsRow_nil w B _ _, fun i p hp => by simp at hp⟩

theorem OwnT.block {B : Nat} {w : World} {v : Value} {ts : List (Int × Nat)} (h : OwnT B w v ts) : ∀ k, v.ownBlock = some k → B ≤ k := by
  obtain ⟨cs, h1, h2, h3⟩ := h
  exact fun k hk => (World.ownsRow.lt h2 k hk).1

theorem OwnT.typ {B : Nat} {w : World} {v : Value} {ts : List (Int × Nat)} (h : OwnT B w v ts) : ∀ k, v.ownBlock = some k → ∃ cur, w.heap[k]? = some (.cells cur 46 (0, 0)) := by
  obtain ⟨cs, h1, h2, h3⟩ := h
  intro k hk
  rcases h2.2 with ⟨hn, _⟩ | ⟨g, cap, cur, hv, _, hg, _⟩
  · rw [hn] at hk; simp [Value.ownBlock] at hk
  · rw [hv] at hk; simp [Value.ownBlock] at hk; subst hk; exact ⟨cur, hg⟩

theorem OwnT.val {B : Nat} {w : World} {v : Value} {ts : List (Int × Nat)} (h : OwnT B w v ts) : ∃ a c, v = .slice a ts.length c := by
  obtain ⟨cs, h1, h2, h3⟩ := h
  rcases h2.2 with ⟨h, h'⟩ | ⟨g, cap, cur, hv, _⟩
  · exact ⟨none, 0, by rw [h']; exact h⟩
  · exact ⟨_, _, hv⟩

/-- While its own block stays. -/
theorem OwnT.stays {B B' : Nat} {w w' : World} {v : Value} {ts : List (Int × Nat)} (h : OwnT B w v ts) (hk : Kp B' w w') (hs : ∀ k, v.ownBlock = some k → w'.heap[k]? = w.heap[k]?) : OwnT B w' v ts := by
  obtain ⟨cs, h1, h2, h3⟩ := h
  refine ⟨cs, h1, ⟨h2.1, ?_⟩, fun i p hp => ⟨(h3 i p hp).1.kp hk, (h3 i p hp).2.kp hk⟩⟩
  rcases h2.2 with h | ⟨g, cap, cur, hv, hB, hg, r⟩
  · exact .inl h
  · exact .inr ⟨g, cap, cur, hv, hB, by rw [hs g (by rw [hv]; rfl)]; exact hg, r⟩
theorem OwnT.below {B : Nat} {w w' : World} {v : Value} {ts : List (Int × Nat)} (h : OwnT B w v ts) (hb : Below w.heap.size w w') : OwnT B w' v ts := by
  refine h.stays (Kg.of hb (Nat.le_refl _)) (fun k hk => ?_)
  obtain ⟨cur, hc⟩ := h.typ k hk
  exact hb.block k (lt_of_block hc)
theorem OwnT.kr {B B' : Nat} {w w' : World} {v : Value} {ts : List (Int × Nat)} (h : OwnT B w v ts) (hk : Kr B' w w') : OwnT B w' v ts := by
  refine h.stays hk.kp (fun k hv => ?_)
  obtain ⟨cur, hc⟩ := h.typ k hv
  rw [hk.keep k _ _ _ hc (by unfold isR; decide), hc]
theorem OwnT.set {B : Nat} {w : World} {v : Value} {ts : List (Int × Nat)} (h : OwnT B w v ts) {k o : Nat} {u : Value} (hk : ∃ (c : Array Value) (e : TypeId) (f : Nat × Nat), w.heap[k]? = some (Obj.cells c e f) ∧ e = 31) : OwnT B (w.setCell ⟨k, o, none⟩ u) v ts := by
  obtain ⟨c, e, f, hc, rfl⟩ := hk
  refine h.stays ((Kg.refl 0 w).set (Nat.zero_le _) ⟨c, _, f, hc, .inl rfl⟩) (fun j hj => ?_)
  obtain ⟨cur, hcu⟩ := h.typ j hj
  refine Below.heap_setCell _ _ _ _ (fun e => ?_)
  rw [show j = k from e, hc] at hcu
  simp at hcu

/-- A term of it: its four cells. -/
theorem OwnT.at {B : Nat} {w : World} {a : Option Addr} {c : Nat} {ts : List (Int × Nat)} (h : OwnT B w (.slice a ts.length c) ts) (i : Nat) (hi : i < ts.length) :
    ∃ g b xa xn xc d ya yn yc, a = some ⟨g, 0, none⟩ ∧ ts.length ≤ c ∧ c ≤ maxLen ∧ g < w.heap.size ∧ B ≤ g ∧ w.cell? ⟨g, i * 4, none⟩ = some (.bool b) ∧ w.cell? ⟨g, i * 4 + 1, none⟩ = some (.slice xa xn xc) ∧ w.cell? ⟨g, i * 4 + 2, none⟩ = some (.bool d) ∧ w.cell? ⟨g, i * 4 + 3, none⟩ = some (.slice ya yn yc) ∧
      (∀ o, w.frozen? ⟨g, o, none⟩ = false) ∧ IsI w (.agg #[.bool b, .slice xa xn xc]) (ts.getD i (0, 0)).1 ∧ IsI w (.agg #[.bool d, .slice ya yn yc]) ((ts.getD i (0, 0)).2 : Int) := by
  obtain ⟨cs, h1, h2, h3⟩ := h
  rcases h2.2 with ⟨_, h'⟩ | ⟨g, cap, cur, hv, hB, hg, hnc, hcm, _⟩
  · omega
  · simp only [Value.slice.injEq, true_and] at hv
    obtain ⟨rfl, rfl⟩ := hv
    have hp : cs[i]? = some cs[i] := List.getElem?_eq_getElem (by omega)
    obtain ⟨e1, e2, e3, e4⟩ := flat4_at cs i _ hp
    obtain ⟨hI, hJ⟩ := h3 i _ hp
    obtain ⟨b', xa, xn, xc, hx⟩ := hI.form
    obtain ⟨d', ya, yn, yc, hy⟩ := hJ.form
    simp at hx hy
    rw [hx.2] at hI e2
    rw [hy.2] at hJ e4
    refine ⟨g, cs[i].a, xa, xn, xc, cs[i].b, ya, yn, yc, rfl, hnc, hcm, (Array.getElem?_eq_some_iff.1 hg).1, hB, ?_, ?_, ?_, ?_, fun o => h2.frozenAt o, hI, hJ⟩
    · rw [h2.cellAt (i * 4) (by omega)]; exact e1
    · rw [h2.cellAt (i * 4 + 1) (by omega)]; exact e2
    · rw [h2.cellAt (i * 4 + 2) (by omega)]; exact e3
    · rw [h2.cellAt (i * 4 + 3) (by omega)]; exact e4

/-- The number of a term is written anew. -/
theorem OwnT.store {B : Nat} {w : World} {g c : Nat} {ts : List (Int × Nat)} (h : OwnT B w (.slice (some ⟨g, 0, none⟩) ts.length c) ts) (i : Nat) (hi : i < ts.length) {b : Bool} {x : Value} {z : Int} (hz : IsI w (.agg #[.bool b, x]) z) :
    OwnT B ((w.setCell ⟨g, i * 4, none⟩ (.bool b)).setCell ⟨g, i * 4 + 1, none⟩ x) (.slice (some ⟨g, 0, none⟩) ts.length c) (ts.set i (z, (ts.getD i (0, 0)).2)) := by
  obtain ⟨cur, htyp⟩ := h.typ g rfl
  obtain ⟨cs, h1, h2, h3⟩ := h
  have hp : cs[i]? = some cs[i] := List.getElem?_eq_getElem (by omega)
  have hk1 : Kp 0 w (w.setCell ⟨g, i * 4, none⟩ (.bool b)) := (Kg.refl 0 w).set (Nat.zero_le _) ⟨_, _, _, htyp, .inr rfl⟩
  have hk2 : Kp 0 w ((w.setCell ⟨g, i * 4, none⟩ (.bool b)).setCell ⟨g, i * 4 + 1, none⟩ x) := hk1.set (Nat.zero_le _) ⟨_, _, _, heap_setCell_same w g (i * 4) cur _ _ htyp, .inr rfl⟩
  refine ⟨cs.set i ⟨b, x, cs[i].b, cs[i].y⟩, by simpa using h1, ?_, ?_⟩
  · rw [flat4_set cs i _ b x hp, List.length_set]
    exact ((h2.stored _ _).1.stored _ _).1
  · intro j p hj
    by_cases hij : i = j
    · subst hij
      rw [List.getElem?_set_self (by omega)] at hj
      have hj := Option.some.inj hj
      subst hj
      have e : (ts.set i (z, (ts.getD i (0, 0)).2)).getD i (0, 0) = (z, (ts.getD i (0, 0)).2) := by simp [List.getD, hi]
      rw [e]
      exact ⟨hz.kp hk2, (h3 i _ hp).2.kp hk2⟩
    · rw [List.getElem?_set_ne hij] at hj
      have e : (ts.set i (z, (ts.getD i (0, 0)).2)).getD j (0, 0) = ts.getD j (0, 0) := by simp [List.getD, List.getElem?_set_ne hij]
      rw [e]
      exact ⟨(h3 j p hj).1.kp hk2, (h3 j p hj).2.kp hk2⟩

theorem Tryd.infoTerm : (Tryd.prog.info? 46).map (fun i => (i.zero, i.size, i.bytes)) = some (some (.agg #[.bool false, .slice none 0 0, .bool false, .slice none 0 0]), 4, 64) := by kernel_rfl
theorem Tryd.sliceTerm : Tryd.prog.underlying 29 = some (.slice 46) := by kernel_rfl

theorem Kg.grownT {w w' : World} {g : Option Nat} (hg : w.grownBy w' g) (ht : ∀ k, g = some k → ∃ cur, w.heap[k]? = some (.cells cur 46 (0, 0))) : ∀ (k : Nat) (c : Array Value) (e : TypeId) (f : Nat × Nat), w.heap[k]? = some (Obj.cells c e f) → ¬ isRT e → w'.heap[k]? = some (Obj.cells c e f) := by
  intro k c e f h0 h2
  rw [hg.block k (lt_of_block h0) (fun e0 => ?_)]
  · exact h0
  · obtain ⟨cur, hc⟩ := ht k e0.symm
    rw [h0] at hc
    simp at hc
    exact h2 (.inr hc.2.1)

/-- 'l = append(l, t)' on terms that the call's own reader holds, as a step. -/
theorem wp_pushT {o : Oper} {a : Act} {K : Act → World → Prop} {Q : Exit → Act → World → Prop} {W : World} (s x : Operand)
    (ho : o.op = .call { callee := .builtin .append, args := #[s, x], argTypes := #[29, 29] })
    (B : Nat) (v : Value) (ts : List (Int × Nat)) (b d : Bool) (y u : Value) (z : Int) (p : Nat) (ad : Nat) (hs : a.eval s = v) (hx : a.eval x = .slice (some ⟨ad, 0, none⟩) 1 1) (hown : OwnT B W v ts) (hz : IsI W (.agg #[.bool b, y]) z) (hp : IsI W (.agg #[.bool d, u]) (p : Int))
    (hc : ∀ j q, [.bool b, y, .bool d, u][j]? = some q → W.cell? ((⟨ad, 0, none⟩ : Addr).add j) = some q)
    (hlen : ts.length ≤ 1000000) (hB : B ≤ W.heap.size)
    (h : ∀ v' w', OwnT B w' v' (ts ++ [(z, p)]) → Kp B W w' → W.grownBy w' v.ownBlock → K (a.put o.dst v') w') :
    o.wp Tryd.prog a W K Q := by
  obtain ⟨i, hi, hz0, hz1, hz2⟩ := info_parts Tryd.infoTerm
  have htyp := hown.typ
  have hblk := hown.block
  obtain ⟨cs, h1, h2, h3⟩ := hown
  obtain ⟨_, xa, xn, xc, ey⟩ := hz.form
  obtain ⟨_, ya, yn, yc, eu⟩ := hp.form
  simp at ey eu
  obtain ⟨_, rfl⟩ := ey
  obtain ⟨_, rfl⟩ := eu
  refine wp_append_own _ s x 29 ho B 46 i (.agg #[.bool false, .slice none 0 0, .bool false, .slice none 0 0]) 4 64 Tryd.sliceTerm hi hz0 hz1 hz2 rfl (by decide) v ts.length (flat4 cs) hs h2 ⟨ad, 0, none⟩ 1 1 [.bool b, .slice xa xn xc, .bool d, .slice ya yn yc] hx rfl hc ?_ ?_ ?_ hB ?_
  · intro q hq
    simp at hq
    rcases hq with rfl | rfl | rfl | rfl <;> rfl
  · unfold maxLen; omega
  · omega
  · intro v' w' g1 g2 _
    have hkp : Kp B W w' := ⟨(Below.refl _ _).grown g2 hB hblk, Kg.grownT g2 htyp⟩
    refine h v' w' ⟨cs ++ [⟨b, .slice xa xn xc, d, .slice ya yn yc⟩], by simp [h1], ?_, ?_⟩ hkp g2
    · rw [flat4_append]
      simpa [flat4] using g1
    · intro j q hj
      by_cases hjl : j < cs.length
      · rw [List.getElem?_append_left hjl] at hj
        have hj2 : (ts ++ [(z, p)]).getD j (0, 0) = ts.getD j (0, 0) := by simp [List.getD, List.getElem?_append_left (show j < ts.length by omega)]
        rw [hj2]
        exact ⟨(h3 j q hj).1.kp hkp, (h3 j q hj).2.kp hkp⟩
      · rw [List.getElem?_append_right (by omega)] at hj
        have hj0 : j - cs.length = 0 := by
          rcases Nat.eq_zero_or_pos (j - cs.length) with h0 | h0
          · exact h0
          · rw [List.getElem?_eq_none (by simp; omega)] at hj; simp at hj
        rw [hj0] at hj
        simp at hj
        subst hj
        have hj2 : (ts ++ [(z, p)]).getD j (0, 0) = (z, p) := by
          rw [show j = ts.length by omega]; simp [List.getD]
        rw [hj2]
        exact ⟨hz.kp hkp, hp.kp hkp⟩

/-- The same, as a step of a region that draws. -/
theorem step_pushT {ops : Array Oper} {o : Oper} {a : Act} {K : Act → World → Prop} {Q : Exit → Act → World → Prop} {E : Prop} {W : World} (hg : o.guard = none) (s x : Operand)
    (ho : o.op = .call { callee := .builtin .append, args := #[s, x], argTypes := #[29, 29] })
    (B : Nat) (v : Value) (ts : List (Int × Nat)) (b d : Bool) (y u : Value) (z : Int) (p : Nat) (ad : Nat) (hs : a.eval s = v) (hx : a.eval x = .slice (some ⟨ad, 0, none⟩) 1 1) (hown : OwnT B W v ts) (hz : IsI W (.agg #[.bool b, y]) z) (hp : IsI W (.agg #[.bool d, u]) (p : Int))
    (hc : ∀ j q, [.bool b, y, .bool d, u][j]? = some q → W.cell? ((⟨ad, 0, none⟩ : Addr).add j) = some q)
    (hlen : ts.length ≤ 1000000) (hB : B ≤ W.heap.size)
    (h : ∀ v' w', OwnT B w' v' (ts ++ [(z, p)]) → Kp B W w' → W.grownBy w' v.ownBlock → K (a.put o.dst v') w') :
    if Region.wanted o (yielded ops a.tmps) = true then Oper.wp Tryd.prog o a W K Q else E := by
  have hw : Region.wanted o (yielded ops a.tmps) = true := by simp [Region.wanted, hg]
  rw [if_pos hw]
  exact wp_pushT s x ho B v ts b d y u z p ad hs hx hown hz hp hc hlen hB h

end Go.Proofs.YtldcjkhbiffdoabDoor
