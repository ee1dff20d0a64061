/-
  whole.addLimbs.
-/
import Derived.Test.YtldcjkhbiffdoabDoorLimbAt
namespace Go.Proofs.YtldcjkhbiffdoabDoor
open Go.RowKit

theorem add_step {l m sl : List Int} {k : Nat} {cy x y : Int} (hsl : sl.length = k) (h : Dig 1000000000 sl ∧ ev 1000000000 sl + cy * 1000000000 ^ k = ev 1000000000 (l.take k) + ev 1000000000 (m.take k)) (hx : l.getD k 0 = x) (hy : m.getD k 0 = y)
    : Dig 1000000000 (sl ++ [(x + y + cy) % 1000000000]) ∧ ev 1000000000 (sl ++ [(x + y + cy) % 1000000000]) + (x + y + cy) / 1000000000 * 1000000000 ^ (k + 1) = ev 1000000000 (l.take (k + 1)) + ev 1000000000 (m.take (k + 1)) := by
  refine ⟨h.1.snoc (by omega) (by omega), ?_⟩
  rw [ev_take, ev_take, hx, hy]
  exact add_round sl k hsl cy x y _ _ h.2

theorem add_last {l m P : List Int} {n : Nat} (hP : P.length = n) (h : Dig 1000000000 P ∧ ev 1000000000 (P.take n) + 0 * 1000000000 ^ n = ev 1000000000 (l.take n) + ev 1000000000 (m.take n)) (hl : l.length ≤ n) (hm : m.length ≤ n) :
    Dig 1000000000 P ∧ ev 1000000000 P = ev 1000000000 l + ev 1000000000 m := by
  refine ⟨h.1, ?_⟩
  have := h.2
  rw [List.take_of_length_le hl, List.take_of_length_le hm, List.take_of_length_le (by omega), Int.zero_mul, Int.add_zero] at this
  exact this

/-- One limb more is written. -/
theorem add_set {l m P : List Int} {k : Nat} {cy x y : Int} (hk : k < P.length) (h : Dig 1000000000 P ∧ ev 1000000000 (P.take k) + cy * 1000000000 ^ k = ev 1000000000 (l.take k) + ev 1000000000 (m.take k)) (hx : l.getD k 0 = x) (hy : m.getD k 0 = y) :
    Dig 1000000000 (P.set k ((x + y + cy) % 1000000000)) ∧ ev 1000000000 ((P.set k ((x + y + cy) % 1000000000)).take (k + 1)) + (x + y + cy) / 1000000000 * 1000000000 ^ (k + 1) = ev 1000000000 (l.take (k + 1)) + ev 1000000000 (m.take (k + 1)) := by
  refine ⟨h.1.set k (by omega) (by omega), ?_⟩
  rw [take_set hk]
  exact (add_step (by rw [List.length_take]; omega) ⟨h.1.take k, h.2⟩ hx hy).2

set_option maxHeartbeats 1000000 in
theorem addLimbs_any (l m : List Int) (u v : Value) (w : World) (hu : Row w u l) (hv : Row w v m) (hl : l.length ≤ 1000000000) (hm : m.length ≤ 1000000000) (dl : Dig 1000000000 l) (dm : Dig 1000000000 m) :
    Calls Tryd.prog 39 #[u, v] w fun e w' => ∃ s x, e = .returned x ∧ Row w' x s ∧ Dig 1000000000 s ∧ ev 1000000000 s = ev 1000000000 l + ev 1000000000 m ∧ s.length ≤ max l.length m.length + 1 ∧ Below w.heap.size w w' := by
  obtain ⟨ua, uc, rfl⟩ := hu.val
  obtain ⟨va, vc, rfl⟩ := hv.val
  obtain ⟨n, HN⟩ : ∃ n, Hid (n = max l.length m.length + 1) := ⟨_, rfl⟩
  have hnl : l.length < n := by have := HN.out; omega
  have hnm : m.length < n := by have := HN.out; omega
  have hnx : n ≤ l.length + 1 ∨ n ≤ m.length + 1 := by have := HN.out; omega
  rw [← HN.out]
  go_enter Tryd.func39, Tryd.ntmps39
  by_cases hc : l.length < m.length
  all_goals
    go_wp2_with (at_make; refine wpList_make64 rfl (.tmp 21) (.tmp 21) rfl _ _ n rfl rfl (by omega) (by omega) (by omega) ?_)
    intro w1 P0 HP0 hown1 hb1
    go_wp2_with fail
    go_loopw [7, 8] (fun c i wr => ∃ (k : Nat) (P : List Int) (cy : Int), k ≤ n ∧ i = .int .i64 k ∧ c = .int .i64 cy ∧ 0 ≤ cy ∧ cy ≤ 1 ∧ (k = n → cy = 0) ∧ P.length = n ∧ wr.ownsRow w.heap.size 2 1 (.slice (some ⟨w.heap.size, 0, none⟩) n n) n (P.map (Value.int .i64)) ∧ Hid (Dig 1000000000 P ∧ ev 1000000000 (P.take k) + cy * 1000000000 ^ k = ev 1000000000 (l.take k) + ev 1000000000 (m.take k)) ∧ Below w.heap.size w wr)
      (fun _ i _ => n - (intOf i).toNat)
    case atStart => exact ⟨0, P0, 0, Nat.zero_le _, rfl, rfl, by omega, by omega, fun _ => rfl, by rw [HP0.out]; simp, hown1, ⟨by rw [HP0.out]; exact Dig.zeros (by omega) _, by simp [ev]⟩, hb1⟩
    case round =>
      clear hown1 hb1 HP0
      obtain ⟨k, P, cy, hk, rfl, rfl, hc0, hc1, hce, hP, hown, HE, hbel⟩ := hrel
      by_cases hlt : k < n
      · have hx := Dig.getD (by omega) dl k
        have hy := Dig.getD (by omega) dm k
        have hru := hu.below hbel
        have hrv := hv.below hbel
        have hcx := limbAt_any l (.slice ua l.length uc) k wr hru (by omega) (by omega)
        have hcy := limbAt_any m (.slice va m.length vc) k wr hrv (by omega) (by omega)
        have hout : k + 1 = n → l.getD k 0 = 0 ∧ m.getD k 0 = 0 := by
          intro h
          have h1 : l.length ≤ k := by have := HN.out; omega
          have h2 : m.length ≤ k := by have := HN.out; omega
          simp [List.getD, List.getElem?_eq_none h1, List.getElem?_eq_none h2]
        obtain ⟨x, HX⟩ : ∃ x, Hid (l.getD k 0 = x) := ⟨_, rfl⟩
        obtain ⟨y, HY⟩ : ∃ y, Hid (m.getD k 0 = y) := ⟨_, rfl⟩
        rw [HX.out] at hx hcx hout
        rw [HY.out] at hy hcy hout
        have hlast : k + 1 = n → (x + y + cy) / 1000000000 = 0 := by
          intro h
          obtain ⟨rfl, rfl⟩ := hout h
          omega
        obtain ⟨hx0, hx1⟩ := hx
        obtain ⟨hy0, hy1⟩ := hy
        have hfp := hown.frozenAt k
        have hcp : wr.cell? ⟨w.heap.size, k, none⟩ = some (.int .i64 (P.getD k 0)) := by
          rw [hown.cellAt k (by omega)]
          simp [List.getD, show k < P.length by omega]
        have hs := add_set (by omega) HE.out HX.out HY.out
        have HS : Hid _ := hs
        generalize P.getD k 0 = p at hcp
        clear hs HE HX HY hru hrv hout hce
        go_wp2_with fail
        refine hcx.mono ?_
        rintro e w' ⟨rfl, rfl⟩
        go_wp2_with fail
        refine hcy.mono ?_
        rintro e w' ⟨rfl, rfl⟩
        clear hcx hcy
        go_wp2
        go_roundw
        case rel =>
          refine ⟨k + 1, P.set k ((x + y + cy) % 1000000000), _, by omega, by go_num, rfl, by omega, by omega, hlast, by simpa using hP, ?_, HS, hbel.setCell (Nat.le_refl _) _⟩
          rw [← map_set]
          exact (World.ownsRow.stored (w := w') hown _ _).1
        case measure => simp [intOf]; omega
      · obtain rfl : k = n := by omega
        obtain rfl := hce rfl
        have hs := add_last hP HE.out (by omega) (by omega)
        have HS : Hid _ := hs
        clear hs HE
        go_wp2
        go_ret
        exact ⟨P, _, rfl, (made_own hown hP).row, HS.out.1, HS.out.2, by omega, hbel⟩

end Go.Proofs.YtldcjkhbiffdoabDoor
