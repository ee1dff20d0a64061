/-
  whole.subLimbs.
-/
import Derived.Test.YthllbidhbdjjlabDoorLimbAt
namespace Go.Proofs.YthllbidhbdjjlabDoor
open Go.RowKit

theorem sub_step {l m sl : List Int} {k : Nat} {cy x y t c' : Int} (hsl : sl.length = k) (h : Dig 1000000000 sl ∧ ev 1000000000 sl - cy * 1000000000 ^ k = ev 1000000000 (l.take k) - ev 1000000000 (m.take k)) (hx : l.getD k 0 = x) (hy : m.getD k 0 = y)
    (ht : t - c' * 1000000000 = x - y - cy) (h0 : 0 ≤ t) (h1 : t < 1000000000) : Dig 1000000000 (sl ++ [t]) ∧ ev 1000000000 (sl ++ [t]) - c' * 1000000000 ^ (k + 1) = ev 1000000000 (l.take (k + 1)) - ev 1000000000 (m.take (k + 1)) := by
  refine ⟨h.1.snoc h0 h1, ?_⟩
  rw [ev_take, ev_take, hx, hy]
  exact sub_round sl k hsl cy x y _ _ t c' h.2 ht

theorem sub_last {l m sl : List Int} {k : Nat} {cy : Int} (hsl : sl.length = k) (h : Dig 1000000000 sl ∧ ev 1000000000 sl - cy * 1000000000 ^ k = ev 1000000000 (l.take k) - ev 1000000000 (m.take k)) (hl : l.length ≤ k) (hm : m.length ≤ k)
    (hc : cy = 0 ∨ cy = 1) (hle : ev 1000000000 m ≤ ev 1000000000 l) : Dig 1000000000 sl ∧ ev 1000000000 sl = ev 1000000000 l - ev 1000000000 m := by
  refine ⟨h.1, ?_⟩
  have h2 := h.2
  rw [List.take_of_length_le hl, List.take_of_length_le hm, ← hsl] at h2
  exact sub_end (by omega) sl h.1 cy hc _ _ h2 hle

set_option maxHeartbeats 1000000 in
theorem subLimbs_any (l m : List Int) (u v : Value) (w : World) (hu : Row w u l) (hv : Row w v m) (hl : l.length ≤ 1000000000) (hm : m.length ≤ l.length) (dl : Dig 1000000000 l) (dm : Dig 1000000000 m) (hle : ev 1000000000 m ≤ ev 1000000000 l) :
    Calls Tryd.prog 50 #[u, v] w fun e w' => ∃ s x, e = .returned x ∧ Row w' x s ∧ Dig 1000000000 s ∧ ev 1000000000 s = ev 1000000000 l - ev 1000000000 m ∧ s.length ≤ l.length ∧ Below w.heap.size w w' := by
  have HLE : Hid _ := hle
  clear hle
  obtain ⟨ua, uc, rfl⟩ := hu.val
  obtain ⟨va, vc, rfl⟩ := hv.val
  go_enter Tryd.func50, Tryd.ntmps50
  go_wp2_with fail
  go_loopw [5, 6, 7] (fun s c i wr => ∃ (k : Nat) (sl : List Int) (cy : Int), k ≤ l.length ∧ i = .int .i64 k ∧ c = .int .i64 cy ∧ 0 ≤ cy ∧ cy ≤ 1 ∧ Own w.heap.size wr s sl ∧ sl.length = k ∧ Hid (Dig 1000000000 sl ∧ ev 1000000000 sl - cy * 1000000000 ^ k = ev 1000000000 (l.take k) - ev 1000000000 (m.take k)) ∧ Below w.heap.size w wr)
    (fun _ _ i _ => l.length - (intOf i).toNat)
  case atStart => exact ⟨0, [], 0, Nat.zero_le _, rfl, rfl, by omega, by omega, Own.lit rfl, rfl, ⟨Dig.nil _, by simp [ev]⟩, (Below.refl _ _).alloc (Nat.le_refl _) _⟩
  case round =>
    obtain ⟨k, sl, cy, hk, rfl, rfl, hc0, hc1, hown, hsl, HE, hbel⟩ := hrel
    have hx := Dig.getD (by omega) dl k
    have hy := Dig.getD (by omega) dm k
    have hru := hu.below hbel
    have hrv := hv.below hbel
    have hcx := limbAt_any l (.slice ua l.length uc) k wr hru (by omega) (by omega)
    have hcy := limbAt_any m (.slice va m.length vc) k wr hrv (by omega) (by omega)
    obtain ⟨x, HX⟩ : ∃ x, Hid (l.getD k 0 = x) := ⟨_, rfl⟩
    obtain ⟨y, HY⟩ : ∃ y, Hid (m.getD k 0 = y) := ⟨_, rfl⟩
    rw [HX.out] at hx hcx
    rw [HY.out] at hy hcy
    obtain ⟨hx0, hx1⟩ := hx
    obtain ⟨hy0, hy1⟩ := hy
    by_cases hlt : k < l.length
    · by_cases hneg : x - y - cy < 0
      · go_wp2_with fail
        refine hcx.mono ?_
        rintro e w' ⟨rfl, rfl⟩
        go_wp2_with fail
        refine hcy.mono ?_
        rintro e w' ⟨rfl, rfl⟩
        go_wp2_with (at_builtin; refine wpList_push rfl (.tmp 33) (.tmp 35) rfl w.heap.size _ sl _ rfl hown rfl (by omega) hbel.size ?_)
        intro v' w1 hown1 hb1 _
        have hs := sub_step (t := x - y - cy + 1000000000) (c' := 1) hsl HE.out HX.out HY.out (by omega) (by omega) (by omega)
        have HS : Hid _ := hs
        clear hs HE HX HY hcx hcy hru hrv
        go_wp2
        go_roundw
        case rel => exact ⟨k + 1, _, 1, by omega, by go_num, rfl, by omega, by omega, hown1, by simp; omega, HS, hbel.trans hb1⟩
        case measure => simp [intOf]; omega
      · go_wp2_with fail
        refine hcx.mono ?_
        rintro e w' ⟨rfl, rfl⟩
        go_wp2_with fail
        refine hcy.mono ?_
        rintro e w' ⟨rfl, rfl⟩
        go_wp2_with (at_builtin; refine wpList_push rfl (.tmp 33) (.tmp 35) rfl w.heap.size _ sl _ rfl hown rfl (by omega) hbel.size ?_)
        intro v' w1 hown1 hb1 _
        have hs := sub_step (t := x - y - cy) (c' := 0) hsl HE.out HX.out HY.out (by omega) (by omega) (by omega)
        have HS : Hid _ := hs
        clear hs HE HX HY hcx hcy hru hrv
        go_wp2
        go_roundw
        case rel => exact ⟨k + 1, _, 0, by omega, by go_num, rfl, by omega, by omega, hown1, by simp; omega, HS, hbel.trans hb1⟩
        case measure => simp [intOf]; omega
    · have hlk : l.length ≤ k := by omega
      have hs := sub_last hsl HE.out hlk (by omega) (by omega) HLE.out
      have HS : Hid _ := hs
      clear hs HE HX HY hcx hcy hru hrv hx0 hx1 hy0 hy1
      go_wp2
      go_ret
      exact ⟨_, _, rfl, hown.row, HS.out.1, HS.out.2, by omega, hbel⟩

end Go.Proofs.YthllbidhbdjjlabDoor
