/-
  whole.addLimbs.
-/
import Derived.Test.YthllbidhbdjjlabDoorLimbAt
namespace Go.Proofs.YthllbidhbdjjlabDoor
open Go.RowKit

theorem add_step {l m sl : List Int} {k : Nat} {cy x y : Int} (hsl : sl.length = k) (h : Dig 1000000000 sl ∧ ev 1000000000 sl + cy * 1000000000 ^ k = ev 1000000000 (l.take k) + ev 1000000000 (m.take k)) (hx : l.getD k 0 = x) (hy : m.getD k 0 = y)
    : Dig 1000000000 (sl ++ [(x + y + cy) % 1000000000]) ∧ ev 1000000000 (sl ++ [(x + y + cy) % 1000000000]) + (x + y + cy) / 1000000000 * 1000000000 ^ (k + 1) = ev 1000000000 (l.take (k + 1)) + ev 1000000000 (m.take (k + 1)) := by
  refine ⟨h.1.snoc (by omega) (by omega), ?_⟩
  rw [ev_take, ev_take, hx, hy]
  exact add_round sl k hsl cy x y _ _ h.2

theorem add_last {l m sl : List Int} {k : Nat} {cy : Int} (hsl : sl.length = k) (h : Dig 1000000000 sl ∧ ev 1000000000 sl + cy * 1000000000 ^ k = ev 1000000000 (l.take k) + ev 1000000000 (m.take k)) (hl : l.length ≤ k) (hm : m.length ≤ k)
    (h0 : 0 ≤ cy) (h1 : cy ≤ 1) : Dig 1000000000 (sl ++ [cy]) ∧ ev 1000000000 (sl ++ [cy]) = ev 1000000000 l + ev 1000000000 m := by
  refine ⟨h.1.snoc h0 (by omega), ?_⟩
  have := h.2
  rw [List.take_of_length_le hl, List.take_of_length_le hm] at this
  rw [ev_snoc, hsl, this]

set_option maxHeartbeats 1000000 in
theorem addLimbs_any (l m : List Int) (u v : Value) (w : World) (hu : Row w u l) (hv : Row w v m) (hl : l.length ≤ 1000000000) (hm : m.length ≤ 1000000000) (dl : Dig 1000000000 l) (dm : Dig 1000000000 m) :
    Calls Tryd.prog 49 #[u, v] w fun e w' => ∃ s x, e = .returned x ∧ Row w' x s ∧ Dig 1000000000 s ∧ ev 1000000000 s = ev 1000000000 l + ev 1000000000 m ∧ s.length ≤ max l.length m.length + 1 ∧ Below w.heap.size w w' := by
  obtain ⟨ua, uc, rfl⟩ := hu.val
  obtain ⟨va, vc, rfl⟩ := hv.val
  go_enter Tryd.func49, Tryd.ntmps49
  go_wp2_with fail
  go_loopw [5, 6, 7] (fun s c i wr => ∃ (k : Nat) (sl : List Int) (cy : Int), k ≤ max l.length m.length ∧ i = .int .i64 k ∧ c = .int .i64 cy ∧ 0 ≤ cy ∧ cy ≤ 1 ∧ Own w.heap.size wr s sl ∧ sl.length = k ∧ Hid (Dig 1000000000 sl ∧ ev 1000000000 sl + cy * 1000000000 ^ k = ev 1000000000 (l.take k) + ev 1000000000 (m.take k)) ∧ Below w.heap.size w wr)
    (fun _ _ i _ => max l.length m.length - (intOf i).toNat)
  case atStart => exact ⟨0, [], 0, Nat.zero_le _, rfl, rfl, by omega, by omega, Own.lit rfl, rfl, ⟨Dig.nil _, by simp [ev]⟩, (Below.refl _ _).alloc (Nat.le_refl _) _⟩
  case round =>
    obtain ⟨k, sl, cy, hk, rfl, rfl, hc0, hc1, hown, hsl, HE, hbel⟩ := hrel
    have hd := HE.1
    have hx := Dig.getD (by omega) dl k
    have hy := Dig.getD (by omega) dm k
    have hru := hu.below hbel
    have hrv := hv.below hbel
    have hcx := limbAt_any l (.slice ua l.length uc) k wr hru (by omega) (by omega)
    have hcy := limbAt_any m (.slice va m.length vc) k wr hrv (by omega) (by omega)
    obtain ⟨x, HX⟩ : ∃ x, Hid (l.getD k 0 = x) := ⟨_, rfl⟩
    obtain ⟨y, HY⟩ : ∃ y, Hid (m.getD k 0 = y) := ⟨_, rfl⟩
    rw [HX.out] at hx hcx
    rw [HY.out] at hy hcy
    obtain ⟨hx0, hx1⟩ := hx
    obtain ⟨hy0, hy1⟩ := hy
    by_cases hlt : k < max l.length m.length
    · go_wp2_with fail
      all_goals
        refine hcx.mono ?_
        rintro e w' ⟨rfl, rfl⟩
        go_wp2_with fail
        refine hcy.mono ?_
        rintro e w' ⟨rfl, rfl⟩
        go_wp2_with (at_builtin; refine wpList_push rfl (.tmp 35) (.tmp 38) rfl w.heap.size _ sl _ rfl hown rfl (by omega) hbel.size ?_)
        intro v' w1 hown1 hb1 _
        have hs := add_step hsl HE.out HX.out HY.out
        have HS : Hid _ := hs
        clear hs HE HX HY hcx hcy hru hrv
        go_wp2
        go_roundw
        case rel => exact ⟨k + 1, _, _, by omega, by go_num, rfl, by omega, by omega, hown1, by simp; omega, HS, hbel.trans hb1⟩
        case measure => simp [intOf]; omega
    · have hlk : l.length ≤ k := by omega
      have hmk : m.length ≤ k := by omega
      have hs := add_last hsl HE.out hlk hmk hc0 hc1
      have HS : Hid _ := hs
      clear hs HE HX HY hcx hcy hru hrv hlt hx0 hx1 hy0 hy1
      go_wp2_with (at_builtin; refine wpList_push rfl (.tmp 42) (.tmp 44) rfl w.heap.size _ sl _ rfl hown rfl (by omega) hbel.size ?_)
      intro v' w1 hown1 hb1 _
      go_wp2
      go_ret
      exact ⟨_, _, rfl, hown1.row, HS.out.1, HS.out.2, by simp; omega, hbel.trans hb1⟩

end Go.Proofs.YthllbidhbdjjlabDoor
