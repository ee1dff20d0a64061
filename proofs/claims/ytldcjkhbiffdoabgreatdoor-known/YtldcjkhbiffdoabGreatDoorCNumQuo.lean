import Derived.Test.YtldcjkhbiffdoabGreatDoorM10
import Derived.Laws.AppendOwnNone

namespace Go.Proofs.YtldcjkhbiffdoabGreatDoor
open Go.RowKit

def QInv (l m Q rl : List Int) (k : Nat) : Prop :=
  Dig 10 Q ∧ ev 10 (l.drop k) = ev 10 (Q.drop k) * ev 10 m + ev 10 rl ∧ ev 10 rl < ev 10 m ∧ ∀ j, j < k → Q.getD j 0 = 0
def QIn (l m Q rl : List Int) (j : Nat) : Prop :=
  Dig 10 Q ∧ ev 10 (l.drop j) = ev 10 (Q.drop j) * ev 10 m + ev 10 rl ∧ ev 10 rl + Q.getD j 0 * ev 10 m < 10 * ev 10 m ∧ ∀ i, i < j → Q.getD i 0 = 0

theorem ev_drop10 {l : List Int} {j : Nat} (hj : j < l.length) : ev 10 (l.drop j) = l.getD j 0 + 10 * ev 10 (l.drop (j + 1)) := by
  rw [List.drop_eq_getElem_cons hj, ← getD_lt hj]
  rfl

theorem QInv.into {l m Q rl rl' : List Int} {j : Nat} {x : Int} (h : QInv l m Q rl (j + 1)) (hj : j < l.length) (hQ : Q.length = l.length) (hx : l.getD j 0 = x) (hx9 : x < 10) (he : ev 10 rl' = ev 10 (x :: rl)) : QIn l m Q rl' j := by
  obtain ⟨h1, h2, h3, h4⟩ := h
  have e : ev 10 rl' = x + 10 * ev 10 rl := he
  have hz := h4 j (by omega)
  refine ⟨h1, ?_, ?_, fun i hi => h4 i (by omega)⟩
  · rw [ev_drop10 hj, ev_drop10 (l := Q) (by omega), hx, hz, h2, e, Int.zero_add, Int.mul_assoc]
    omega
  · rw [hz, e]
    omega

theorem QIn.step {l m Q rl rl' : List Int} {j : Nat} {c : Int} (h : QIn l m Q rl j) (hj : j < Q.length) (hc : Q.getD j 0 = c) (hge : ev 10 m ≤ ev 10 rl) (hm : 0 < ev 10 m) (he : ev 10 rl' = ev 10 rl - ev 10 m) :
    QIn l m (Q.set j (c + 1)) rl' j ∧ c + 1 < 10 := by
  obtain ⟨h1, h2, h3, h4⟩ := h
  have hd := Dig.getD (by omega) h1 j
  rw [hc] at h3 hd
  have hg : (Q.set j (c + 1)).getD j 0 = c + 1 := by simp [List.getD, hj]
  have hmul : (c + 1) * ev 10 m = c * ev 10 m + ev 10 m := by rw [Int.add_mul]; omega
  have hc9 : c + 1 < 10 := by
    rcases Int.lt_or_le (c + 1) 10 with h | h
    · exact h
    · have := Int.mul_le_mul_of_nonneg_right h (Int.le_of_lt hm)
      omega
  refine ⟨⟨h1.set j (by omega) hc9, ?_, ?_, fun i hi => ?_⟩, hc9⟩
  · have hdr : (Q.set j (c + 1)).drop (j + 1) = Q.drop (j + 1) := by rw [List.drop_set_of_lt (by omega)]
    rw [h2, ev_drop10 (l := Q.set j (c + 1)) (by simpa using hj), ev_drop10 hj, hg, hdr, hc, he, Int.add_mul, Int.add_mul, hmul]
    omega
  · rw [hg, he, hmul]
    omega
  · rw [getD_set_ne _ (by omega)]
    exact h4 i hi

theorem QIn.out {l m Q rl : List Int} {j : Nat} (h : QIn l m Q rl j) (hlt : ev 10 rl < ev 10 m) : QInv l m Q rl j := ⟨h.1, h.2.1, hlt, h.2.2.2⟩

end Go.Proofs.YtldcjkhbiffdoabGreatDoor
