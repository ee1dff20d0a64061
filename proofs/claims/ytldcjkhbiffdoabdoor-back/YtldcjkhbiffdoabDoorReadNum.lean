/-
  isDigit, readNumber.
-/
import Derived.Test.YtldcjkhbiffdoabDoorSkip
import Derived.Test.YtldcjkhbiffdoabDoorIntMul
import Derived.Test.YtldcjkhbiffdoabDoorIntOf
import Derived.Deep.CutRange
namespace Go.Proofs.YtldcjkhbiffdoabDoor
open Go.RowKit

theorem fit_nat {n k : Nat} (h : n < 10 ^ k) (hk : k ≤ 10000000) : Fit (n : Int) := by
  refine ⟨k, hk, ?_⟩
  have h3 : 10 ^ k ≤ 1000000000 ^ k := Nat.pow_le_pow_left (by omega) k
  have : ((n : Int)).natAbs = n := by simp
  omega

/-- Box k holds the number z. -/
def IsB (w : World) (k : Nat) (z : Int) : Prop := ∃ b x, Bx w k (.bool b) x ∧ IsI w (.agg #[.bool b, x]) z

theorem IsB.open {w : World} {k : Nat} {z : Int} (h : IsB w k z) : ∃ b xa xn xc, Bx w k (.bool b) (.slice xa xn xc) ∧ IsI w (.agg #[.bool b, .slice xa xn xc]) z := by
  obtain ⟨b, x, h1, h2⟩ := h
  obtain ⟨b', x', l, e, hr, hl⟩ := id h2
  obtain ⟨xa, xc, hx⟩ := hr.val
  simp at e
  obtain ⟨rfl, rfl⟩ := e
  subst hx
  exact ⟨b, xa, _, xc, h1, h2⟩
theorem IsB.below {w w' : World} {k : Nat} {z : Int} (h : IsB w k z) (hb : Below w.heap.size w w') : IsB w' k z := by
  obtain ⟨b, x, h1, h2⟩ := h
  exact ⟨b, x, h1.below hb, h2.below hb⟩
theorem IsB.kp {X : TypeId → Prop} {B : Nat} {w w' : World} {k : Nat} {z : Int} (h : IsB w k z) (hb : Kg X B w w') (hX : Okx X := by first | exact okR | exact okRT) : IsB w' k z := by
  obtain ⟨b, x, h1, h2⟩ := h
  exact ⟨b, x, h1.kp hb hX, h2.kp hb hX⟩
theorem IsB.lt {w : World} {k : Nat} {z : Int} (h : IsB w k z) : k < w.heap.size := by
  obtain ⟨b, x, h1, h2⟩ := h
  exact h1.lt

theorem cell_set2 {w : World} {p : Addr} {v : Value} (h : w.cell? p = some v) {j : Nat} (hne : p.block ≠ j) (a b : Value) : ((w.setCell ⟨j, 0, none⟩ a).setCell ⟨j, 1, none⟩ b).cell? p = some v := by
  rw [World.cell?_of_block (w := w) (by rw [Below.heap_setCell _ _ _ _ hne, Below.heap_setCell _ _ _ _ hne])]
  exact h

theorem Bx.other {w : World} {k j : Nat} {a b : Value} (h : Bx w k a b) (hne : k ≠ j) (u v : Value) : Bx ((w.setCell ⟨j, 0, none⟩ u).setCell ⟨j, 1, none⟩ v) k a b := by
  unfold Bx at h ⊢
  rw [Below.heap_setCell _ _ _ _ hne, Below.heap_setCell _ _ _ _ hne]
  exact h
theorem Rd.other {w : World} {rb n j : Nat} {s : ByteArray} {tv : Value} (h : Rd w rb s n tv) (hne : rb ≠ j) (u v : Value) : Rd ((w.setCell ⟨j, 0, none⟩ u).setCell ⟨j, 1, none⟩ v) rb s n tv := by
  unfold Rd at h ⊢
  rw [Below.heap_setCell _ _ _ _ hne, Below.heap_setCell _ _ _ _ hne]
  exact h
theorem IsI.set2 {w : World} {u : Value} {z : Int} (h : IsI w u z) {k : Nat} {a b : Value} (hk : Bx w k a b) (a' b' : Value) : IsI ((w.setCell ⟨k, 0, none⟩ a').setCell ⟨k, 1, none⟩ b') u z := by
  obtain ⟨b1, x, l, h1, h2, h3⟩ := h
  exact ⟨b1, x, l, h1, h2.set2 hk a' b', h3⟩
theorem IsB.other {w : World} {k j : Nat} {z : Int} (h : IsB w k z) {a b : Value} (hj : Bx w j a b) (hne : k ≠ j) (u v : Value) : IsB ((w.setCell ⟨j, 0, none⟩ u).setCell ⟨j, 1, none⟩ v) k z := by
  obtain ⟨b1, x, h1, h2⟩ := h
  exact ⟨b1, x, h1.other hne u v, h2.set2 hj u v⟩
theorem IsB.stored {w : World} {j : Nat} {a b : Value} (hj : Bx w j a b) {b1 : Bool} {x : Value} {z : Int} (h : IsI w (.agg #[.bool b1, x]) z) : IsB ((w.setCell ⟨j, 0, none⟩ (.bool b1)).setCell ⟨j, 1, none⟩ x) j z :=
  ⟨b1, x, hj.set _ _, h.set2 hj _ _⟩
theorem IsB.new {w : World} {b1 : Bool} {x : Value} {z : Int} (h : IsI w (.agg #[.bool b1, x]) z) : IsB (w.alloc (.cells #[.bool b1, x] 43)) w.heap.size z :=
  ⟨b1, x, Bx.alloc w _ _, h.below ((Below.refl _ _).alloc (Nat.le_refl _) _)⟩
theorem IsI.form {w : World} {v : Value} {z : Int} (h : IsI w v z) : ∃ b xa xn xc, v = .agg #[.bool b, .slice xa xn xc] := by
  obtain ⟨b, x, l, h1, h2, h3⟩ := h
  obtain ⟨xa, xc, rfl⟩ := h2.val
  exact ⟨b, xa, _, xc, h1⟩
theorem IsI.zero (w : World) : IsI w (.agg #[.bool false, .slice none 0 0]) 0 :=
  ⟨false, _, [], rfl, ⟨rfl, .inl ⟨rfl, rfl⟩⟩, Dig.nil _, (fun x h => by simp at h), (fun h => by simp at h), by simp [sv, ev]⟩

set_option maxHeartbeats 400000 in
theorem isDigit_any (c : UInt8) (ci : Int) (hc : ci = (c.toNat : Int)) (w : World) :
    Calls Tryd.prog 31 #[.int .u8 ci] w fun e w' => e = .returned (.bool (isDig c)) ∧ w' = w := by
  have hd : isDig c = (decide (48 ≤ ci) && decide (ci ≤ 57)) := by
    subst hc
    unfold isDig
    rw [Bool.eq_iff_iff]
    simp [UInt8.le_iff_toNat_le]
    omega
  rw [hd]
  clear hd hc
  by_cases h1 : 48 ≤ ci
  · by_cases h2 : ci ≤ 57
    · rw [decide_eq_true h1, decide_eq_true h2]
      go_enter Tryd.func31, Tryd.ntmps31
      go_wp2
      go_ret
      exact ⟨rfl, rfl⟩
    · rw [decide_eq_true h1, decide_eq_false h2]
      go_enter Tryd.func31, Tryd.ntmps31
      go_wp2
      go_ret
      exact ⟨rfl, rfl⟩
  · rw [decide_eq_false h1]
    go_enter Tryd.func31, Tryd.ntmps31
    go_wp2
    go_ret
    exact ⟨rfl, rfl⟩

theorem digit_wrap (c : Int) (h1 : 48 ≤ c) (h2 : c ≤ 57) : IntKind.i64.wrap (IntKind.u8.wrap (c - 48)) = c - 48 := by
  rw [IntKind.wrap_i64, IntKind.wrap_u8]; omega

/-- The number, as far as it is read. -/
def NumAt (l : List UInt8) (k0 k num : Nat) : Prop := numOf num (digs (l.drop k)) = numOf 0 (digs (l.drop k0)) ∧ k + (digs (l.drop k)).length = k0 + (digs (l.drop k0)).length ∧ num < 10 ^ (k - k0)

theorem NumAt.start (l : List UInt8) (k0 : Nat) : NumAt l k0 k0 0 := ⟨rfl, rfl, by simp⟩
theorem NumAt.step {l : List UInt8} {k0 k num : Nat} {c : UInt8} (h : NumAt l k0 k num) (hk : k0 ≤ k) (hc : l[k]? = some c) (hd : isDig c = true) : NumAt l k0 (k + 1) (10 * num + (c.toNat - 48)) := by
  obtain ⟨h1, h2, h3⟩ := h
  rw [digs_step hc hd] at h1 h2
  have h4 := isDig_le hd
  refine ⟨h1, by simp at h2; omega, ?_⟩
  rw [show k + 1 - k0 = (k - k0) + 1 by omega, Nat.pow_succ]
  omega
theorem NumAt.stop {l : List UInt8} {k0 k num : Nat} (h : NumAt l k0 k num) (hd : ∀ c, l[k]? = some c → isDig c = false) : num = numOf 0 (digs (l.drop k0)) ∧ k = k0 + (digs (l.drop k0)).length := by
  obtain ⟨h1, h2, h3⟩ := h
  rw [digs_stop hd] at h1 h2
  exact ⟨h1, h2⟩

end Go.Proofs.YtldcjkhbiffdoabDoor
