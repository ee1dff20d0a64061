/-
  factorkeep.back, factorkeep.Back.
-/
import Derived.Test.YtldcjkhbiffdoabDoorRT
namespace Go.Proofs.YtldcjkhbiffdoabDoor
open Go.RowKit

set_option maxHeartbeats 1000000 in
theorem back_any (s : ByteArray) (w : World) (ht : Tab w) (hs0 : s.size ≤ 9223372036854775807) :
    Calls Tryd.prog 4 #[.string s] w fun e w' => e = .returned (.bool true) ∧ Below w.heap.size w w' := by
  have hR := read_any s w ht hs0
  have hbd := pread_bd s.data.toList (rsum_le _)
  rw [toList_len] at hbd
  have hrt := rt s.data.toList
  generalize pread s.data.toList = r at *
  obtain ⟨r1, r2, zs⟩ := r
  obtain ⟨hb1, hb2, hb3⟩ := hbd
  have hb1 : r1 ≤ 3 := hb1
  have hb2 : r2 ≤ s.size := hb2
  have hb3 : r1 = 2 ∨ r2 = 0 := hb3
  have HRT : Hid _ := hrt
  clear hrt
  by_cases h0 : r1 = 0
  · subst h0
    obtain ⟨T, HT⟩ : ∃ T, Hid (ptext zs = T) := ⟨_, rfl⟩
    go_enter Tryd.func4, Tryd.ntmps4
    go_wp2_with fail
    refine hR.mono ?_
    rintro e w1 ⟨hA, hbw1⟩
    rcases hA with ⟨_, hin, p, rfl, hp⟩ | ⟨hne, _⟩
    · have hTx := polyText_any zs p w1 hp hin (ht.below hbw1)
      obtain ⟨pk, pv, rfl, hpk, hpv⟩ := id hp
      rw [HT.out] at hTx
      go_wp2_with fail
      refine hTx.mono ?_
      rintro e w2 ⟨rfl, hb2'⟩
      have hbw2 := hbw1.trans (hb2'.mono hbw1.size)
      by_cases hlong : 200 < T.length
      · go_wp2
        go_ret
        exact ⟨rfl, hbw2⟩
      · have hrd := read_any ⟨T.toArray⟩ w2 (ht.below hbw2) (by show T.length ≤ _; omega)
        have hpr : pread (ByteArray.mk T.toArray).data.toList = (0, 0, zs) := by
          show pread T = _
          rw [← HT.out]
          exact HRT.out (by first | rfl | trivial) (by rw [show ptext ((0 : Nat), (0 : Nat), zs).2.2 = ptext zs from rfl, HT.out]; omega)
        rw [hpr] at hrd
        clear hpr
        go_wp2_with fail
        refine hrd.mono ?_
        rintro e w3 ⟨hA3, hb3'⟩
        have hbw3 := hbw2.trans (hb3'.mono hbw2.size)
        rcases hA3 with ⟨_, hin3, q, rfl, hq⟩ | ⟨hne, _⟩
        · have hTx3 := polyText_any zs q w3 hq hin (ht.below hbw3)
          obtain ⟨qk, qv, rfl, hqk, hqv⟩ := id hq
          rw [HT.out] at hTx3
          go_wp2_with fail
          refine hTx3.mono ?_
          rintro e w4 ⟨rfl, hb4'⟩
          go_wp2
          go_ret
          exact ⟨rfl, hbw3.trans (hb4'.mono hbw3.size)⟩
        · exact absurd rfl hne
    · exact absurd rfl hne
  · have hcases : (r1 = 1 ∧ r2 = 0) ∨ r1 = 2 ∨ (r1 = 3 ∧ r2 = 0) := by omega
    rcases hcases with ⟨rfl, rfl⟩ | rfl | ⟨rfl, rfl⟩
    all_goals
      go_enter Tryd.func4, Tryd.ntmps4
      go_wp2_with fail
      refine hR.mono ?_
      rintro e w1 ⟨hA, hbw1⟩
      rcases hA with ⟨hz, _⟩ | ⟨_, rfl⟩
      · exact absurd hz h0
      · go_wp2
        go_ret
        exact ⟨rfl, hbw1⟩

set_option maxHeartbeats 1000000 in
theorem Back_any (s : ByteArray) (w : World) (ht : Tab w) (hs0 : s.size ≤ 9223372036854775807) :
    Calls Tryd.prog 3 #[.string s] w fun e w' => e = .returned (.bool true) ∧ Below w.heap.size w w' := by
  have hb := back_any s w ht hs0
  by_cases hl : 1048576 < s.size
  · go_enter Tryd.func3, Tryd.ntmps3
    go_wp2
    go_ret
    exact ⟨rfl, Below.refl _ _⟩
  · go_enter Tryd.func3, Tryd.ntmps3
    go_wp2_with fail
    refine hb.mono ?_
    rintro e w1 ⟨rfl, hb1⟩
    go_wp2
    go_ret
    exact ⟨rfl, hb1⟩

end Go.Proofs.YtldcjkhbiffdoabDoor
