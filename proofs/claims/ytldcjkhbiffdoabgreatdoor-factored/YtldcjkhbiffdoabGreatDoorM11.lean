import Derived.Test.YtldcjkhbiffdoabGreatDoorM10
import Derived.Test.YtldcjkhbiffdoabGreatDoorM09
import Derived.OwnWalk

namespace Go.Proofs.YtldcjkhbiffdoabGreatDoor
open Go.RowKit

end Go.Proofs.YtldcjkhbiffdoabGreatDoor

namespace Go.Proofs.YtldcjkhbiffdoabGreatDoor
open Go.RowKit

def MInN (l m P : List Int) (i j : Nat) (c : Int) : Prop :=
  Dig 10 P ∧ ev 10 P + c * 10 ^ (i + j) = ev 10 (l.take i) * ev 10 m + l.getD i 0 * ev 10 (m.take j) * 10 ^ i ∧ ∀ k, i + m.length ≤ k → i + j ≤ k → P.getD k 0 = 0
def MOutN (l m P : List Int) (i : Nat) : Prop := Dig 10 P ∧ ev 10 P = ev 10 (l.take i) * ev 10 m ∧ ∀ k, i + m.length ≤ k → P.getD k 0 = 0

theorem MInN.step {l m P : List Int} {i j : Nat} {c p x y t : Int} (h : MInN l m P i j c) (hk : i + j < P.length) (hp : P.getD (i + j) 0 = p) (hx : l.getD i 0 = x) (hy : m.getD j 0 = y)
    (ht : t = p + x * y + c) (_h0 : 0 ≤ t) (_h9 : t < 100) : MInN l m (P.set (i + j) (t % 10)) i (j + 1) (t / 10) := by
  obtain ⟨h1, h2, h3⟩ := h
  refine ⟨h1.set _ (by omega) (by omega), ?_, fun k hk' hk2 => ?_⟩
  · rw [ev_take, hy, hx]
    rw [hx] at h2
    exact mul_round P i j hk x y c t _ _ h2 (by rw [hp]; exact ht)
  · rw [getD_set_ne _ (by omega)]; exact h3 k hk' (by omega)

theorem MOutN.into {l m P : List Int} {i : Nat} (h : MOutN l m P i) : MInN l m P i 0 0 := by
  refine ⟨h.1, ?_, fun k hk _ => h.2.2 k hk⟩
  rw [h.2.1]; simp [ev]

theorem MInN.out {l m P : List Int} {i j : Nat} (h : MInN l m P i j 0) (hj : m.length ≤ j) (hj2 : j ≤ m.length + 1) : MOutN l m P (i + 1) := by
  obtain ⟨h1, h2, h3⟩ := h
  refine ⟨h1, ?_, fun k hk' => h3 k (by omega) (by omega)⟩
  rw [List.take_of_length_le hj] at h2
  rw [ev_take, Int.add_mul]
  simp only [Int.zero_mul, Int.add_zero] at h2
  rw [h2]
  congr 1
  rw [Int.mul_assoc, Int.mul_comm (ev 10 m), ← Int.mul_assoc]

end Go.Proofs.YtldcjkhbiffdoabGreatDoor

namespace Go.Proofs.YtldcjkhbiffdoabGreatDoor
open Go.RowKit

theorem FitN.neg {z : Int} (h : FitN z) : FitN (-z) := by
  obtain ⟨n, h1, h2⟩ := h
  exact ⟨n, h1, by rw [Int.natAbs_neg]; exact h2⟩

theorem IsN.open {w : World} {v : Value} {z : Int} (h : IsN w v z) : ∃ b a n c l, v = .agg #[.bool b, .slice a n c] ∧ RowN w (.slice a n c) l ∧ LimN b l z := by
  obtain ⟨b, x, l, rfl, hr, hl⟩ := h
  obtain ⟨a, c, rfl⟩ := hr.val
  exact ⟨b, a, _, c, l, rfl, hr, hl⟩

theorem LimN.sign {b : Bool} {l : List Int} {z : Int} (h : LimN b l z) (hz : z ≠ 0) : b = decide (z < 0) := by
  have h0 := h.nonneg
  have hv := h.val
  cases b
  · rw [decide_eq_false]; simp [sv] at hv; omega
  · rw [decide_eq_true]; simp [sv] at hv; omega

end Go.Proofs.YtldcjkhbiffdoabGreatDoor
