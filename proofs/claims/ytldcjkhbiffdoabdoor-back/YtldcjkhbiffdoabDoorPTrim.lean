/-
  poly.trimmed.
-/
import Derived.Test.YtldcjkhbiffdoabDoorLists
import Derived.Test.YtldcjkhbiffdoabDoorTz
namespace Go.Proofs.YtldcjkhbiffdoabDoor
open Go.RowKit

set_option maxHeartbeats 1000000 in
theorem ptrimmed_any (zs : List Int) (v : Value) (w : World) (hv : IsL w v zs) (hl : zs.length ≤ 1000000) (hf : ∀ i, i < zs.length → Fit (zs.getD i 0)) :
    Calls Tryd.prog 26 #[v] w fun e w' => ∃ x, e = .returned x ∧ OwnL w.heap.size w' x (tz zs) ∧ Below w.heap.size w w' := by
  obtain ⟨va, vc, rfl⟩ := OwnL.val hv
  obtain ⟨n, HN⟩ : ∃ n, Hid (tzn zs zs.length = n) := ⟨_, rfl⟩
  unfold tz
  rw [HN.out]
  go_enter Tryd.func26, Tryd.ntmps26
  go_wp2_with fail
  go_loopw [3] (fun c wr => ∃ (k : Nat), k ≤ zs.length ∧ c = .int .i64 k ∧ Hid (tzn zs k = n) ∧ Below w.heap.size w wr) (fun c _ => (intOf c).toNat)
  case atStart => exact ⟨zs.length, Nat.le_refl _, rfl, HN, Below.refl _ _⟩
  case round =>
    obtain ⟨k, hk, rfl, HT, hbel⟩ := hrel
    cases k with
    | zero =>
      have hn : n = 0 := HT.out.symm
      subst hn
      go_wp2_with fail
      refine wp_loop_rounds 1 ?_; rw [rounds_succ]
      go_wp2
      go_ret
      refine ⟨_, rfl, ?_, hbel.alloc hbel.size _⟩
      have := OwnL.lit (w := wr) rfl
      exact (OwnL.lower this hbel.size)
    | succ j =>
      obtain ⟨g, b, xa, xn, xc, rfl, hc1, hc2, hg, _, hc0, hcx, hI⟩ := OwnL.at (OwnL.below hv hbel) j (by omega)
      obtain ⟨z, HZ⟩ : ∃ z, Hid (zs.getD j 0 = z) := ⟨_, rfl⟩
      rw [HZ.out] at hI
      have hfz := hf j (by omega)
      rw [HZ.out] at hfz
      have hS := sign_any _ z wr hI hfz
      have hsz : (z = 0 ∧ sgn3 z = 0) ∨ (z ≠ 0 ∧ (sgn3 z == 0) = false) := by
        unfold sgn3
        rcases (show z = 0 ∨ z < 0 ∨ 0 < z by omega) with h | h | h
        · left; subst h; simp
        · right; exact ⟨by omega, by rw [if_pos h]; rfl⟩
        · right; exact ⟨by omega, by rw [if_neg (by omega), if_neg (by omega)]; rfl⟩
      generalize sgn3 z = sz at *
      rcases hsz with ⟨hz0, rfl⟩ | ⟨hz0, hsz⟩
      · have HT2 : Hid (tzn zs j = n) := by
          have := HT.out
          rw [tzn, if_pos (by rw [HZ.out]; exact hz0)] at this
          exact this
        clear HT HZ hz0
        go_wp2_with fail
        refine hS.mono ?_
        rintro e w1 ⟨rfl, hb1⟩
        go_wp2_with fail
        go_roundw
        case rel => exact ⟨j, by omega, by go_num, HT2, hbel.trans (hb1.mono hbel.size)⟩
        case measure => simp [intOf]
      · have hn : n = j + 1 := by
          have := HT.out
          rw [tzn, if_neg (by rw [HZ.out]; exact hz0)] at this
          exact this.symm
        subst hn
        clear HT HZ hz0
        go_wp2_with fail
        refine hS.mono ?_
        rintro e w1 ⟨rfl, hb1⟩
        have hbw := hbel.trans (hb1.mono hbel.size)
        have hszw := hbw.size
        go_wp2_with fail
        go_loopw [4, 5] (fun s i wq => ∃ (k : Nat), k ≤ j + 1 ∧ i = .int .i64 k ∧ OwnL w1.heap.size wq s (zs.take k) ∧ Below w1.heap.size w1 wq) (fun _ i _ => j + 1 - (intOf i).toNat)
        case atStart => exact ⟨0, Nat.zero_le _, rfl, OwnL.lit rfl, (Below.refl _ _).alloc (Nat.le_refl _) _⟩
        case round =>
          clear hc0 hcx hS
          obtain ⟨k, hk2, rfl, hown, hbel2⟩ := hrel
          have hbq : Below w.heap.size w wr := hbw.trans (hbel2.mono hbw.size)
          by_cases hlt : k < j + 1
          · obtain ⟨g', b', ya, yn, yc, hgg, _, _, hg', _, hc0, hcx, hIk⟩ := OwnL.at (OwnL.below hv hbq) k (by omega)
            simp at hgg
            subst hgg
            obtain ⟨z2, HZ2⟩ : ∃ z2, Hid (zs.getD k 0 = z2) := ⟨_, rfl⟩
            rw [HZ2.out] at hIk
            have htk : zs.take (k + 1) = zs.take k ++ [z2] := by
              rw [List.take_succ_eq_append_getElem (by omega), ← getD_lt (by omega), HZ2.out]
            have HTK : Hid _ := htk
            clear htk HZ2
            go_wp2_with (at_builtin; refine wpList_pushI rfl (.tmp 27) (.tmp 32) rfl w1.heap.size _ (zs.take k) _ _ z2 rfl hown hIk rfl (by rw [List.length_take]; omega) hbel2.size ?_)
            intro v' w3 hown3 hb3 _
            rw [← HTK.out] at hown3
            go_wp2
            go_roundw
            case rel => exact ⟨k + 1, by omega, by go_num, hown3, hbel2.trans hb3⟩
            case measure => simp [intOf]; omega
          · obtain rfl : k = j + 1 := by omega
            obtain ⟨sa, sc, hsl⟩ := hown.val
            subst hsl
            go_wp2
            go_ret
            exact ⟨_, rfl, OwnL.lower hown hszw, hbq⟩

end Go.Proofs.YtldcjkhbiffdoabDoor
