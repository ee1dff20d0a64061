/-
  The reader in memory; skipBlanks, take.
-/
import Derived.Test.YtldcjkhbiffdoabDoorPolyText
import Derived.Test.YtldcjkhbiffdoabDoorRead0
namespace Go.Proofs.YtldcjkhbiffdoabDoor
open Go.RowKit

/-- The reader's block: the text, how far it is read, its terms. -/
def Rd (w : World) (rb : Nat) (s : ByteArray) (n : Nat) (tv : Value) : Prop := w.heap[rb]? = some (.cells #[.string s, .int .i64 (n : Int), tv] 31 (0, 0))

theorem Rd.c0 {w : World} {rb n : Nat} {s : ByteArray} {tv : Value} (h : Rd w rb s n tv) : w.cell? ⟨rb, 0, none⟩ = some (.string s) := by unfold Rd at h; simp [World.cell?, h]
theorem Rd.c1 {w : World} {rb n : Nat} {s : ByteArray} {tv : Value} (h : Rd w rb s n tv) : w.cell? ⟨rb, 1, none⟩ = some (.int .i64 (n : Int)) := by unfold Rd at h; simp [World.cell?, h]
theorem Rd.c2 {w : World} {rb n : Nat} {s : ByteArray} {tv : Value} (h : Rd w rb s n tv) : w.cell? ⟨rb, 2, none⟩ = some tv := by unfold Rd at h; simp [World.cell?, h]
theorem Rd.f1 {w : World} {rb n : Nat} {s : ByteArray} {tv : Value} (h : Rd w rb s n tv) (o : Nat) : w.frozen? ⟨rb, o, none⟩ = false := by unfold Rd at h; simp [World.frozen?, h]
theorem Rd.lt {w : World} {rb n : Nat} {s : ByteArray} {tv : Value} (h : Rd w rb s n tv) : rb < w.heap.size := lt_of_block h
theorem Rd.set1 {w : World} {rb n : Nat} {s : ByteArray} {tv : Value} (h : Rd w rb s n tv) {m : Int} {m' : Nat} (hm : m = m') : Rd (w.setCell ⟨rb, 1, none⟩ (.int .i64 m)) rb s m' tv := by
  subst hm
  unfold Rd at h ⊢
  rw [heap_setCell_same w rb 1 _ _ _ h]; rfl
theorem Rd.set2 {w : World} {rb n : Nat} {s : ByteArray} {tv : Value} (h : Rd w rb s n tv) (tv' : Value) : Rd (w.setCell ⟨rb, 2, none⟩ tv') rb s n tv' := by
  unfold Rd at h ⊢
  rw [heap_setCell_same w rb 2 _ _ _ h]; rfl
theorem Rd.below {w w' : World} {rb n : Nat} {s : ByteArray} {tv : Value} (h : Rd w rb s n tv) (hb : Below w.heap.size w w') : Rd w' rb s n tv := by unfold Rd; rw [hb.block rb h.lt]; exact h

/-- Below B nothing has turned; from B on nothing but blocks of the types X. -/
structure Kg (X : TypeId → Prop) (B : Nat) (w w' : World) : Prop where
  bel : Below B w w'
  keep : ∀ (k : Nat) (c : Array Value) (e : TypeId) (f : Nat × Nat), w.heap[k]? = some (Obj.cells c e f) → ¬ X e → w'.heap[k]? = some (Obj.cells c e f)

/-- Readers; readers and terms. -/
def isR (e : TypeId) : Prop := e = 31
def isRT (e : TypeId) : Prop := e = 31 ∨ e = 46
abbrev Kr := Kg isR
abbrev Kp := Kg isRT
/-- Neither limbs nor numbers. -/
def Okx (X : TypeId → Prop) : Prop := ¬ X 2 ∧ ¬ X 43
theorem okR : Okx isR := by unfold Okx isR; decide
theorem okRT : Okx isRT := by unfold Okx isRT; decide
theorem Kg.kp {B : Nat} {w w' : World} (h : Kr B w w') : Kp B w w' := ⟨h.bel, fun k c e f h0 h1 => h.keep k c e f h0 (fun e0 => h1 (.inl e0))⟩

section
variable {X : TypeId → Prop}
theorem Kg.refl (B : Nat) (w : World) : Kg X B w w := ⟨Below.refl _ _, fun _ _ _ _ h _ => h⟩
theorem Kg.trans {B : Nat} {a b c : World} (h : Kg X B a b) (k : Kg X B b c) : Kg X B a c := ⟨h.bel.trans k.bel, fun i x e f h0 h1 => k.keep i x e f (h.keep i x e f h0 h1) h1⟩
theorem Kg.of {B : Nat} {w w' : World} (h : Below w.heap.size w w') (hB : B ≤ w.heap.size) : Kg X B w w' := ⟨h.mono hB, fun k c e f h0 _ => by rw [h.block k (lt_of_block h0)]; exact h0⟩
theorem Kg.step {B : Nat} {a w w' : World} (h : Kg X B a w) (hb : Below w.heap.size w w') (hB : B ≤ a.heap.size) : Kg X B a w' := h.trans (Kg.of hb (Nat.le_trans hB h.bel.size))
theorem Kg.drewN {B : Nat} {a w : World} (h : Kg X B a w) (n : Nat) : Kg X B a (w.drewN n) := ⟨below_drewN h.bel n, h.keep⟩
theorem Kg.drew {B : Nat} {a w : World} (h : Kg X B a w) : Kg X B a w.drew := ⟨h.bel.drew, h.keep⟩

/-- A store into such a block. -/
theorem Kg.set {B : Nat} {a w : World} (h : Kg X B a w) {k o : Nat} {v : Value} (hB : B ≤ k) (hk : ∃ (c : Array Value) (e : TypeId) (f : Nat × Nat), w.heap[k]? = some (Obj.cells c e f) ∧ X e) : Kg X B a (w.setCell ⟨k, o, none⟩ v) := by
  refine ⟨h.bel.setCell hB v, fun i c e f h0 h1 => ?_⟩
  have h3 := h.keep i c e f h0 h1
  obtain ⟨c', e', f', hk', he⟩ := hk
  have : i ≠ k := by
    intro e0
    subst e0
    rw [h3] at hk'
    simp at hk'
    obtain ⟨_, rfl, _⟩ := hk'
    exact h1 he
  rw [Below.heap_setCell _ _ _ _ this]
  exact h3
/-- A store into what is new. -/
theorem Kg.setNew {B : Nat} {a w : World} (h : Kg X B a w) {k o : Nat} {v : Value} (hB : B ≤ a.heap.size) (hk : a.heap.size ≤ k) : Kg X B a (w.setCell ⟨k, o, none⟩ v) := by
  refine ⟨h.bel.setCell (Nat.le_trans hB hk) v, fun i c e f h0 h1 => ?_⟩
  have h3 := h.keep i c e f h0 h1
  have hi := lt_of_block h0
  rw [Below.heap_setCell _ _ _ _ (by show i ≠ k; omega)]
  exact h3

theorem Row.kp {B : Nat} {w w' : World} {v : Value} {l : List Int} (h : Row w v l) (hk : Kg X B w w') (hX : Okx X := by first | exact okR | exact okRT) : Row w' v l := by
  refine ⟨h.1, ?_⟩
  rcases h.2 with h1 | ⟨g, cap, cur, hv, hb0, hg, r⟩
  · exact .inl h1
  · exact .inr ⟨g, cap, cur, hv, hb0, hk.keep g _ _ _ hg hX.1, r⟩
theorem IsI.kp {B : Nat} {w w' : World} {v : Value} {z : Int} (h : IsI w v z) (hk : Kg X B w w') (hX : Okx X := by first | exact okR | exact okRT) : IsI w' v z := by
  obtain ⟨b, x, l, h1, h2, h3⟩ := h
  exact ⟨b, x, l, h1, h2.kp hk hX, h3⟩
theorem Bx.kp {B : Nat} {w w' : World} {k : Nat} {a b : Value} (h : Bx w k a b) (hk : Kg X B w w') (hX : Okx X := by first | exact okR | exact okRT) : Bx w' k a b := hk.keep k _ _ _ h hX.2
end

theorem Rd.typ {X : TypeId → Prop} {w : World} {rb n : Nat} {s : ByteArray} {tv : Value} (h : Rd w rb s n tv) (hX : X 31 := by first | exact rfl | exact Or.inl rfl) : ∃ (c : Array Value) (e : TypeId) (f : Nat × Nat), w.heap[rb]? = some (Obj.cells c e f) ∧ X e := ⟨_, _, _, h, hX⟩

theorem byte_at {s : ByteArray} {k : Nat} (h : k < s.size) : s.data.toList[k]? = some s[k] := by
  rw [List.getElem?_eq_getElem (by simpa using h)]; rfl
theorem byte_none {s : ByteArray} {k : Nat} (h : ¬ k < s.size) : s.data.toList[k]? = none := List.getElem?_eq_none (by simpa using h)

/-- How far the reader has read. -/
def rdAt (rb : Nat) (w : World) : Nat := match w.cell? ⟨rb, 1, none⟩ with
  | some (.int _ q) => q.toNat
  | _ => 0
theorem Rd.at {w : World} {rb n : Nat} {s : ByteArray} {tv : Value} (h : Rd w rb s n tv) : rdAt rb w = n := by unfold rdAt; rw [h.c1]; simp

theorem toList_len (s : ByteArray) : s.data.toList.length = s.size := by rw [Array.length_toList]; rfl

set_option maxHeartbeats 1000000 in
theorem skip_any (s : ByteArray) (n rb : Nat) (tv : Value) (w : World) (B : Nat) (hR : Rd w rb s n tv) (hn : n ≤ s.size) (hs : s.size ≤ 200) (hB : B ≤ rb) :
    Calls Tryd.prog 12 #[.pointer (some ⟨rb, 0, none⟩)] w fun e w' => e = .returned (.tuple #[]) ∧ Rd w' rb s (skp s.data.toList n) tv ∧ Kr B w w' := by
  go_enter Tryd.func12, Tryd.ntmps12
  go_wp2_with fail
  go_loopw [] (fun wr => ∃ k : Nat, k ≤ s.size ∧ Rd wr rb s k tv ∧ Hid (skp s.data.toList k = skp s.data.toList n) ∧ Kr B w wr) (fun wr => s.size - rdAt rb wr)
  case atStart => exact ⟨n, hn, hR, rfl, Kg.refl _ _⟩
  case round =>
    obtain ⟨k, hk, hRk, HE, hKp⟩ := hrel
    have c0 := hRk.c0; have c1 := hRk.c1; have f1 := hRk.f1 1
    by_cases hlt : k < s.size
    · have hki : (k : Int) < (s.size : Int) := by omega
      by_cases hb : s[k] = 32
      · have hbb : ((s[k].toNat : Int) == 32) = true := by rw [hb]; rfl
        go_wp2_with fail
        go_quiet (fail)
        go_wp2
        have hRn : Rd (wr.drewN nq) rb s k tv := hRk
        have hR2 : Rd ((wr.drewN nq).setCell ⟨rb, 1, none⟩ (.int .i64 ((k : Int) + 1))) rb s (k + 1) tv := hRn.set1 (by omega)
        refine ⟨⟨k + 1, by omega, hR2, ?_, (hKp.drewN nq).set hB hRn.typ⟩, ?_⟩
        · have h1 := HE.out
          rw [skp_step (by rw [byte_at hlt, hb])] at h1
          exact h1
        · rw [hR2.at, hRk.at]; omega
      · have hbb : ((s[k].toNat : Int) == 32) = false := by
          simp only [beq_eq_false_iff_ne, ne_eq]
          intro h
          exact hb (UInt8.toNat_inj.1 (by have : (32 : UInt8).toNat = 32 := rfl; omega))
        have hsk : skp s.data.toList n = k := by
          rw [← HE.out]; exact skp_stop (by rw [byte_at hlt]; intro h; exact hb (Option.some.inj h))
        go_wp2_with fail
        go_quiet (fail)
        go_wp2
        go_end0
        exact ⟨rfl, by rw [hsk]; exact hRk, hKp.drewN nq⟩
    · have hd : decide ((k : Int) < (s.size : Int)) = false := by simp; omega
      have hsk : skp s.data.toList n = k := by
        rw [← HE.out]; exact skp_stop (by rw [byte_none hlt]; simp)
      go_wp2_with fail
      go_quiet (fail)
      go_wp2
      go_end0
      exact ⟨rfl, by rw [hsk]; exact hRk, hKp.drewN nq⟩

set_option maxHeartbeats 1000000 in
theorem take_any (s : ByteArray) (n rb : Nat) (tv : Value) (c : UInt8) (ci : Int) (hc : ci = (c.toNat : Int)) (w : World) (B : Nat) (hR : Rd w rb s n tv) (hn : n ≤ s.size) (hs : s.size ≤ 200) (hB : B ≤ rb) :
    Calls Tryd.prog 10 #[.pointer (some ⟨rb, 0, none⟩), .int .u8 ci] w fun e w' => e = .returned (.bool (tak s.data.toList c n).1) ∧ Rd w' rb s (tak s.data.toList c n).2 tv ∧ Kr B w w' := by
  have hS := skip_any s n rb tv w B hR hn hs hB
  have hsl := skp_le (l := s.data.toList) (n := n) (by simpa using hn)
  unfold tak
  have hl := toList_len s
  rw [hl] at hsl
  generalize skp s.data.toList n = k at *
  subst hc
  by_cases hlt : k < s.size
  · by_cases hb : s[k] = c
    · rw [if_pos (by rw [byte_at hlt, hb])]
      have hbb : ((s[k].toNat : Int) != (c.toNat : Int)) = false := by rw [hb]; simp
      have hki : (k : Int) < (s.size : Int) := by omega
      have hd : decide ((s.size : Int) ≤ (k : Int)) = false := by simp; omega
      go_enter Tryd.func10, Tryd.ntmps10
      go_wp2_with fail
      refine hS.mono ?_
      rintro e w1 ⟨rfl, hR1, hK1⟩
      have c0 := hR1.c0; have c1 := hR1.c1; have f1 := hR1.f1 1
      go_wp2_with fail
      go_quiet (fail)
      go_wp2
      go_ret
      have hRn : Rd (w1.drewN nq) rb s k tv := hR1
      exact ⟨rfl, hRn.set1 (by omega), (hK1.drewN nq).set hB hRn.typ⟩
    · rw [if_neg (by rw [byte_at hlt]; intro h; exact hb (Option.some.inj h))]
      have hbb : ((s[k].toNat : Int) != (c.toNat : Int)) = true := by
        rw [bne_iff_ne]
        intro h
        exact hb (UInt8.toNat_inj.1 (by omega))
      have hki : (k : Int) < (s.size : Int) := by omega
      have hd : decide ((s.size : Int) ≤ (k : Int)) = false := by simp; omega
      go_enter Tryd.func10, Tryd.ntmps10
      go_wp2_with fail
      refine hS.mono ?_
      rintro e w1 ⟨rfl, hR1, hK1⟩
      have c0 := hR1.c0; have c1 := hR1.c1; have f1 := hR1.f1 1
      go_wp2_with fail
      go_quiet (fail)
      go_wp2
      go_ret
      exact ⟨rfl, hR1, hK1.drewN nq⟩
  · rw [if_neg (by rw [byte_none hlt]; simp)]
    have hd : decide ((s.size : Int) ≤ (k : Int)) = true := by simp; omega
    go_enter Tryd.func10, Tryd.ntmps10
    go_wp2_with fail
    refine hS.mono ?_
    rintro e w1 ⟨rfl, hR1, hK1⟩
    have c0 := hR1.c0; have c1 := hR1.c1
    go_wp2_with fail
    go_quiet (fail)
    go_wp2
    go_ret
    exact ⟨rfl, hR1, hK1.drewN nq⟩

end Go.Proofs.YtldcjkhbiffdoabDoor
