/-
  whole.subLimbs.
-/
import Derived.Test.YtldcjkhbiffdoabDoorLimbAt
namespace Go.Proofs.YtldcjkhbiffdoabDoor
open Go.RowKit

theorem sub_step {l m sl : List Int} {k : Nat} {cy x y t c' : Int} (hsl : sl.length = k) (h : Dig 1000000000 sl ∧ ev 1000000000 sl - cy * 1000000000 ^ k = ev 1000000000 (l.take k) - ev 1000000000 (m.take k)) (hx : l.getD k 0 = x) (hy : m.getD k 0 = y)
    (ht : t - c' * 1000000000 = x - y - cy) (h0 : 0 ≤ t) (h1 : t < 1000000000) : Dig 1000000000 (sl ++ [t]) ∧ ev 1000000000 (sl ++ [t]) - c' * 1000000000 ^ (k + 1) = ev 1000000000 (l.take (k + 1)) - ev 1000000000 (m.take (k + 1)) := by
  refine ⟨h.1.snoc h0 h1, ?_⟩
  rw [ev_take, ev_take, hx, hy]
  exact sub_round sl k hsl cy x y _ _ t c' h.2 ht

theorem sub_last {l m P : List Int} {cy : Int} (hP : P.length = l.length) (h : Dig 1000000000 P ∧ ev 1000000000 (P.take l.length) - cy * 1000000000 ^ l.length = ev 1000000000 (l.take l.length) - ev 1000000000 (m.take l.length)) (hm : m.length ≤ l.length)
    (hc : cy = 0 ∨ cy = 1) (hle : ev 1000000000 m ≤ ev 1000000000 l) : Dig 1000000000 P ∧ ev 1000000000 P = ev 1000000000 l - ev 1000000000 m := by
  refine ⟨h.1, ?_⟩
  have h2 := h.2
  rw [List.take_length, List.take_of_length_le hm, List.take_of_length_le (by omega), ← hP] at h2
  exact sub_end (by omega) P h.1 cy hc _ _ h2 hle

theorem sub_set {l m P : List Int} {k : Nat} {cy x y t c' : Int} (hk : k < P.length) (h : Dig 1000000000 P ∧ ev 1000000000 (P.take k) - cy * 1000000000 ^ k = ev 1000000000 (l.take k) - ev 1000000000 (m.take k)) (hx : l.getD k 0 = x) (hy : m.getD k 0 = y)
    (ht : t - c' * 1000000000 = x - y - cy) (h0 : 0 ≤ t) (h1 : t < 1000000000) : Dig 1000000000 (P.set k t) ∧ ev 1000000000 ((P.set k t).take (k + 1)) - c' * 1000000000 ^ (k + 1) = ev 1000000000 (l.take (k + 1)) - ev 1000000000 (m.take (k + 1)) := by
  refine ⟨h.1.set k h0 h1, ?_⟩
  rw [take_set hk]
  exact (sub_step (by rw [List.length_take]; omega) ⟨h.1.take k, h.2⟩ hx hy ht h0 h1).2

set_option maxHeartbeats 1000000 in
theorem subLimbs_any (l m : List Int) (u v : Value) (w : World) (hu : Row w u l) (hv : Row w v m) (hl : l.length ≤ 1000000000) (hm : m.length ≤ l.length) (dl : Dig 1000000000 l) (dm : Dig 1000000000 m) (hle : ev 1000000000 m ≤ ev 1000000000 l) :
    Calls Tryd.prog 40 #[u, v] w fun e w' => ∃ s x, e = .returned x ∧ Row w' x s ∧ Dig 1000000000 s ∧ ev 1000000000 s = ev 1000000000 l - ev 1000000000 m ∧ s.length ≤ l.length ∧ Below w.heap.size w w' := by
  have HLE : Hid _ := hle
  clear hle
  obtain ⟨ua, uc, rfl⟩ := hu.val
  obtain ⟨va, vc, rfl⟩ := hv.val
  go_enter Tryd.func40, Tryd.ntmps40
  go_wp2_with (at_make; refine wpList_make64 rfl (.tmp 12) (.tmp 12) rfl _ _ l.length rfl rfl rfl rfl (by omega) ?_)
  intro w1 P0 HP0 hown1 hb1
  go_wp2_with fail
  go_loopw [6, 7] (fun c i wr => ∃ (k : Nat) (P : List Int) (cy : Int), k ≤ l.length ∧ i = .int .i64 k ∧ c = .int .i64 cy ∧ 0 ≤ cy ∧ cy ≤ 1 ∧ P.length = l.length ∧ wr.ownsRow w.heap.size 2 1 (.slice (some ⟨w.heap.size, 0, none⟩) l.length l.length) l.length (P.map (Value.int .i64)) ∧ Hid (Dig 1000000000 P ∧ ev 1000000000 (P.take k) - cy * 1000000000 ^ k = ev 1000000000 (l.take k) - ev 1000000000 (m.take k)) ∧ Below w.heap.size w wr)
    (fun _ i _ => l.length - (intOf i).toNat)
  case atStart => exact ⟨0, P0, 0, Nat.zero_le _, rfl, rfl, by omega, by omega, by rw [HP0.out]; simp, hown1, ⟨by rw [HP0.out]; exact Dig.zeros (by omega) _, by simp [ev]⟩, hb1⟩
  case round =>
    clear hown1 hb1 HP0
    obtain ⟨k, P, cy, hk, rfl, rfl, hc0, hc1, hP, hown, HE, hbel⟩ := hrel
    by_cases hlt : k < l.length
    · have hx := Dig.getD (by omega) dl k
      have hy := Dig.getD (by omega) dm k
      have hru := hu.below hbel
      have hrv := hv.below hbel
      have hcx := limbAt_any l (.slice ua l.length uc) k wr hru (by omega) (by omega)
      have hcy := limbAt_any m (.slice va m.length vc) k wr hrv (by omega) (by omega)
      obtain ⟨x, HX⟩ : ∃ x, Hid (l.getD k 0 = x) := ⟨_, rfl⟩
      obtain ⟨y, HY⟩ : ∃ y, Hid (m.getD k 0 = y) := ⟨_, rfl⟩
      rw [HX.out] at hx hcx
      rw [HY.out] at hy hcy
      obtain ⟨hx0, hx1⟩ := hx
      obtain ⟨hy0, hy1⟩ := hy
      have hfp := hown.frozenAt k
      have hcp : wr.cell? ⟨w.heap.size, k, none⟩ = some (.int .i64 (P.getD k 0)) := by
        rw [hown.cellAt k (by omega)]
        simp [List.getD, show k < P.length by omega]
      generalize P.getD k 0 = p at hcp
      by_cases hneg : x - y - cy < 0
      · have hs := sub_set (t := x - y - cy + 1000000000) (c' := 1) (by omega) HE.out HX.out HY.out (by omega) (by omega) (by omega)
        have HS : Hid _ := hs
        clear hs HE HX HY hru hrv
        go_wp2_with fail
        refine hcx.mono ?_
        rintro e w' ⟨rfl, rfl⟩
        go_wp2_with fail
        refine hcy.mono ?_
        rintro e w' ⟨rfl, rfl⟩
        clear hcx hcy
        go_wp2
        go_roundw
        case rel =>
          refine ⟨k + 1, P.set k (x - y - cy + 1000000000), 1, by omega, by go_num, rfl, by omega, by omega, by simpa using hP, ?_, HS, hbel.setCell (Nat.le_refl _) _⟩
          rw [← map_set]
          exact (World.ownsRow.stored (w := w') hown _ _).1
        case measure => simp [intOf]; omega
      · have hs := sub_set (t := x - y - cy) (c' := 0) (by omega) HE.out HX.out HY.out (by omega) (by omega) (by omega)
        have HS : Hid _ := hs
        clear hs HE HX HY hru hrv
        go_wp2_with fail
        refine hcx.mono ?_
        rintro e w' ⟨rfl, rfl⟩
        go_wp2_with fail
        refine hcy.mono ?_
        rintro e w' ⟨rfl, rfl⟩
        clear hcx hcy
        go_wp2
        go_roundw
        case rel =>
          refine ⟨k + 1, P.set k (x - y - cy), 0, by omega, by go_num, rfl, by omega, by omega, by simpa using hP, ?_, HS, hbel.setCell (Nat.le_refl _) _⟩
          rw [← map_set]
          exact (World.ownsRow.stored (w := w') hown _ _).1
        case measure => simp [intOf]; omega
    · obtain rfl : k = l.length := by omega
      have hs := sub_last hP HE.out (by omega) (by omega) HLE.out
      have HS : Hid _ := hs
      clear hs HE
      go_wp2
      go_ret
      exact ⟨P, _, rfl, (made_own hown hP).row, HS.out.1, HS.out.2, by omega, hbel⟩

end Go.Proofs.YtldcjkhbiffdoabDoor
