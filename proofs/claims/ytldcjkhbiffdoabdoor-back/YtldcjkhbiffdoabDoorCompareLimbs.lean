/-
  whole.compareLimbs.
-/
import Derived.Test.YtldcjkhbiffdoabDoorLimbAt
namespace Go.Proofs.YtldcjkhbiffdoabDoor
open Go.RowKit

/-- -1, 0 or 1. -/
def cmp3 (a b : Int) : Int := if a < b then -1 else if b < a then 1 else 0
theorem cmp3_lt {a b : Int} (h : a < b) : cmp3 a b = -1 := if_pos h
theorem cmp3_gt {a b : Int} (h : b < a) : cmp3 a b = 1 := by unfold cmp3; rw [if_neg (by omega), if_pos h]
theorem cmp3_eq (a : Int) : cmp3 a a = 0 := by unfold cmp3; rw [if_neg (by omega), if_neg (by omega)]
theorem cmp3_bd (a b : Int) : -1 ≤ cmp3 a b ∧ cmp3 a b ≤ 1 := by
  unfold cmp3
  split
  · omega
  · split <;> omega

set_option maxHeartbeats 1000000 in
theorem compareLimbs_any (l m : List Int) (u v : Value) (w : World) (hu : Row w u l) (hv : Row w v m) (hl : l.length ≤ 1000000000) (dl : Dig 1000000000 l) (dm : Dig 1000000000 m) (tl : Trim l) (tm : Trim m) :
    Calls Tryd.prog 25 #[u, v] w fun e w' => e = .returned (.int .i64 (cmp3 (ev 1000000000 l) (ev 1000000000 m))) ∧ w' = w := by
  obtain ⟨ua, uc, rfl⟩ := hu.val
  obtain ⟨va, vc, rfl⟩ := hv.val
  by_cases h1 : l.length < m.length
  · rw [cmp3_lt (ev_lt_of_length (by omega) dl dm tm h1)]
    go_enter Tryd.func25, Tryd.ntmps25
    go_wp2
    go_ret
    exact ⟨rfl, rfl⟩
  by_cases h2 : m.length < l.length
  · rw [cmp3_gt (ev_lt_of_length (by omega) dm dl tl h2)]
    go_enter Tryd.func25, Tryd.ntmps25
    go_wp2
    go_ret
    exact ⟨rfl, rfl⟩
  obtain ⟨z, HZ⟩ : ∃ z, Hid (cmp3 (ev 1000000000 l) (ev 1000000000 m) = z) := ⟨_, rfl⟩
  rw [HZ.out]
  go_enter Tryd.func25, Tryd.ntmps25
  go_wp2_with fail
  go_loop [5] (fun i => ∃ (k : Nat), k ≤ l.length ∧ i = .int .i64 ((k : Int) - 1) ∧ Hid (l.drop k = m.drop k)) (fun i => (intOf i + 1).toNat)
  case atStart => exact ⟨l.length, Nat.le_refl _, rfl, by rw [List.drop_of_length_le (Nat.le_refl _), List.drop_of_length_le (by omega)]; rfl⟩
  case round =>
    obtain ⟨k, hk, rfl, HD⟩ := hrel
    cases k with
    | zero =>
      have hz : z = 0 := by
        have : l = m := by simpa using HD.out
        rw [← HZ.out, this, cmp3_eq]
      subst hz
      clear HD HZ
      go_wp2
      go_ret
      exact ⟨rfl, rfl⟩
    | succ j =>
      rw [show (((j + 1 : Nat) : Int) - 1) = (j : Int) by omega]
      have hcx := limbAt_any l (.slice ua l.length uc) j w hu (by omega) (by omega)
      have hcy := limbAt_any m (.slice va m.length vc) j w hv (by omega) (by omega)
      obtain ⟨x, HX⟩ : ∃ x, Hid (l.getD j 0 = x) := ⟨_, rfl⟩
      obtain ⟨y, HY⟩ : ∃ y, Hid (m.getD j 0 = y) := ⟨_, rfl⟩
      rw [HX.out] at hcx
      rw [HY.out] at hcy
      rcases (show x < y ∨ y < x ∨ x = y by omega) with hxy | hxy | hxy
      · have hz : z = -1 := by
          rw [← HZ.out]
          exact cmp3_lt (ev_lt_of_limb (by omega) dl dm (by omega) j (by omega) HD.out (by rw [HX.out, HY.out]; exact hxy))
        subst hz
        clear HD HZ HX HY
        go_wp2_with fail
        refine hcx.mono ?_
        rintro e w' ⟨rfl, rfl⟩
        go_wp2_with fail
        refine hcy.mono ?_
        rintro e w' ⟨rfl, rfl⟩
        go_wp2_with fail
        go_ret
        exact ⟨rfl, rfl⟩
      · have hz : z = 1 := by
          rw [← HZ.out]
          exact cmp3_gt (ev_lt_of_limb (by omega) dm dl (by omega) j (by omega) HD.out.symm (by rw [HX.out, HY.out]; exact hxy))
        subst hz
        clear HD HZ HX HY
        go_wp2_with fail
        refine hcx.mono ?_
        rintro e w' ⟨rfl, rfl⟩
        go_wp2_with fail
        refine hcy.mono ?_
        rintro e w' ⟨rfl, rfl⟩
        go_wp2_with fail
        go_ret
        exact ⟨rfl, rfl⟩
      · have hd : Hid (l.drop j = m.drop j) := drop_eq_step j (by omega) (by omega) HD.out (by rw [HX.out, HY.out]; exact hxy)
        subst hxy
        clear HD HX HY
        go_wp2_with fail
        refine hcx.mono ?_
        rintro e w' ⟨rfl, rfl⟩
        go_wp2_with fail
        refine hcy.mono ?_
        rintro e w' ⟨rfl, rfl⟩
        go_wp2_with fail
        go_round
        case rel => exact ⟨j, by omega, by go_num, hd⟩
        case measure => simp [intOf]

end Go.Proofs.YtldcjkhbiffdoabDoor
