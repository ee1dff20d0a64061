import Derived.Test.YtldcjkhbiffdoabGreatDoorCKCmn

set_option linter.unusedSimpArgs false
namespace Go.Proofs.YtldcjkhbiffdoabGreatDoor
open Go.RowKit

set_option maxRecDepth 100000 in
set_option maxHeartbeats 4000000 in
theorem Common_any (s t : ByteArray) (w : World) (ht : Tab w) (hs0 : s.size ≤ 9223372036854775807) (ht0 : t.size ≤ 9223372036854775807) :
    Calls Tryz.prog 5 #[.string s, .string t] w fun e w' => e = .returned (.bool true) ∧ Below w.heap.size w w' := by
  have h1 := of_any s w ht hs0
  have H2 : Hid _ := fun (V : World) (h : Below w.heap.size w V) => of_any t V (ht.below h) ht0
  go_enter Tryz.func5, Tryz.ntmps5
  go_wp2_with fail
  refine h1.mono ?_
  rintro e w1 ⟨p, rfl, hp, hb1⟩
  go_wp2_with fail
  refine (H2.out w1 hb1).mono ?_
  rintro e w2 ⟨q, rfl, hq, hb2⟩
  have hb2w := hb1.trans (hb2.mono hb1.size)
  have hp2 := hp.below hb2
  rcases hp2 with rfl | ⟨xs, hx, tx, hpx⟩
  · go_wp2
    go_ret
    exact ⟨rfl, hb2w⟩
  · rcases hq with rfl | ⟨ys, hy, ty, hqy⟩
    · obtain ⟨kp, vp, rfl, _⟩ := id hpx
      go_wp2
      go_ret
      exact ⟨rfl, hb2w⟩
    · have hC := common_any xs ys p q w2 hpx hqy hx hy tx ty (ht.below hb2w)
      obtain ⟨kp, vp, rfl, _⟩ := id hpx
      obtain ⟨kq, vq, rfl, _⟩ := id hqy
      go_wp2_with fail
      refine hC.mono ?_
      rintro e w3 ⟨rfl, hb3⟩
      go_wp2
      go_ret
      exact ⟨rfl, hb2w.trans (hb3.mono hb2w.size)⟩

end Go.Proofs.YtldcjkhbiffdoabGreatDoor
