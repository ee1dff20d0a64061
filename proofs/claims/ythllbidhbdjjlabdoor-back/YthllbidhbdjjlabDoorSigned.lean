/-
  whole.signed.
-/
import Derived.Test.YthllbidhbdjjlabDoorLimbAt
namespace Go.Proofs.YthllbidhbdjjlabDoor
open Go.RowKit

set_option maxHeartbeats 1000000 in
theorem signed_any (b : Bool) (l : List Int) (u : Value) (w : World) (hu : Row w u l) (hl : l.length ≤ 1000000000) (dl : Dig 1000000000 l) :
    Calls Tryd.prog 47 #[.bool b, u] w fun e w' => ∃ s x, e = .returned (.agg #[.bool (b && !s.isEmpty), x]) ∧ Row w' x s ∧ Dig 1000000000 s ∧ Trim s ∧ ev 1000000000 s = ev 1000000000 l ∧ s.length ≤ l.length ∧ Below w.heap.size w w' := by
  obtain ⟨ua, uc, rfl⟩ := hu.val
  go_enter Tryd.func47, Tryd.ntmps47
  go_wp2_with fail
  go_loop [5] (fun n => ∃ (k : Nat), k ≤ l.length ∧ n = .int .i64 k ∧ Hid (ev 1000000000 (l.take k) = ev 1000000000 l)) (fun n => (intOf n).toNat)
  case atStart => exact ⟨l.length, Nat.le_refl _, rfl, by rw [List.take_length]; rfl⟩
  case round =>
    obtain ⟨k, hk, rfl, HE⟩ := hrel
    cases k with
    | zero =>
      cases b
      all_goals
        go_wp2_with fail
        refine wp_loop_rounds 1 ?_; rw [rounds_succ]
        go_wp2
        refine bodyPost_ret (v := .agg #[.bool false, .slice (some ⟨w.heap.size + 1, 0, none⟩) 0 0]) (by simp [results, Tryd.results47, go_sem]) rfl ⟨[], _, rfl, (Own.lit (by simp)).row, Dig.nil _, (fun x h => by simp at h), HE.out, Nat.zero_le _, ?_⟩
        exact ((Below.refl _ _).alloc (Nat.le_refl _) _).alloc (by simp) _
    | succ j =>
      obtain ⟨g, rfl, hc1, hc2, hg, hcell⟩ := hu.at j (by omega)
      obtain ⟨x, HX⟩ : ∃ x, Hid (l.getD j 0 = x) := ⟨_, rfl⟩
      rw [HX.out] at hcell
      by_cases hx : x = 0
      · subst hx
        have he : Hid (ev 1000000000 (l.take j) = ev 1000000000 l) := by
          have := HE.out
          rw [ev_take, HX.out] at this
          simp at this
          exact this
        clear HE HX
        go_wp2_with fail
        go_round
        case rel => exact ⟨j, by omega, by go_num, he⟩
        case measure => simp [intOf]
      · have hxb : (x == 0) = false := by simp [hx]
        go_wp2_with fail
        go_loopw [6, 7] (fun s i wr => ∃ (k : Nat), k ≤ j + 1 ∧ i = .int .i64 k ∧ Own (w.heap.size + 1) wr s (l.take k) ∧ Below (w.heap.size + 1) (w.alloc (Obj.cells #[Value.bool false, Value.slice none 0 0] 60)) wr) (fun _ i _ => j + 1 - (intOf i).toNat)
        case atStart => exact ⟨0, Nat.zero_le _, rfl, Own.lit (by simp), (Below.refl _ _).alloc (by simp) _⟩
        case round =>
          obtain ⟨k, hk2, rfl, hown, hbel⟩ := hrel
          have hlen : (l.take k).length = k := by rw [List.length_take]; omega
          have hsz := hbel.size
          rw [World.size_alloc] at hsz
          by_cases hlt : k < j + 1
          · obtain ⟨g', hgg, _, _, _, hcl⟩ := hu.at k (by omega)
            simp at hgg
            subst hgg
            have hcl2 : wr.cell? ⟨g, k, none⟩ = some (.int .i64 (l.getD k 0)) := by
              rw [hbel.cell (by show g < _; omega)]
              rw [World.cell?_alloc_past _ _ _ (by show g < _; omega)]
              exact hcl
            obtain ⟨y, HY⟩ : ∃ y, Hid (l.getD k 0 = y) := ⟨_, rfl⟩
            rw [HY.out] at hcl2
            clear hcl hcell
            go_wp2_with (at_builtin; refine wpList_push rfl (.tmp 28) (.tmp 33) rfl (w.heap.size + 1) _ (l.take k) _ rfl hown rfl (by omega) hsz ?_)
            intro v' w1 hown1 hb1 _
            have hown2 : Own (w.heap.size + 1) w1 v' (l.take (k + 1)) := by
              rw [List.take_succ_eq_append_getElem (by omega), ← getD_lt (by omega), HY.out]
              exact hown1
            clear hown1
            go_wp2
            go_roundw
            case rel => exact ⟨k + 1, by omega, by go_num, hown2, hbel.trans hb1⟩
            case measure => simp [intOf]; omega
          · obtain rfl : k = j + 1 := by omega
            have hc0 : wr.cell? ⟨w.heap.size, 0, none⟩ = some (.bool false) := by rw [hbel.cell (by simp)]; simp
            have hc1' : wr.cell? ⟨w.heap.size, 1, none⟩ = some (.slice none 0 0) := by rw [hbel.cell (by simp)]; simp
            have hf0 : wr.frozen? ⟨w.heap.size, 0, none⟩ = false := by rw [hbel.frozen (by simp)]; simp
            have hf1 : wr.frozen? ⟨w.heap.size, 1, none⟩ = false := by rw [hbel.frozen (by simp)]; simp
            have hT : Dig 1000000000 (l.take (j + 1)) ∧ Trim (l.take (j + 1)) := by
              refine ⟨dl.take _, fun y hy => ?_⟩
              rw [List.take_succ_eq_append_getElem (by omega), ← getD_lt (by omega), HX.out] at hy
              simp at hy
              omega
            obtain ⟨t, HTE⟩ : ∃ t, Hid (l.take (j + 1) = t) := ⟨_, rfl⟩
            have HE2 := HE.out
            rw [HTE.out] at hown hT HE2 hlen
            have HE3 : Hid _ := HE2
            have HL : Hid _ := hlen
            clear HE2 HE HX HTE hlen
            obtain ⟨sa, sc, rfl⟩ := hown.row.val
            have htl : t.length ≤ l.length := by have := HL.out; omega
            have hte : t.isEmpty = false := by
              have := HL.out
              cases t with
              | nil => simp at this
              | cons a b => rfl
            cases b
            · go_wp2
              refine bodyPost_ret (v := .agg #[.bool false, .slice sa t.length sc]) (by simp [results, Tryd.results47, go_sem, hc0, hc1']) rfl ⟨t, _, rfl, Own.row (B := w.heap.size + 1) (ownsRow_setCell_below (ownsRow_setCell_below hown (by simp) _) (by simp) _), hT.1, hT.2, HE3.out, htl, ?_⟩
              exact ((((Below.refl _ _).alloc (Nat.le_refl _) _).trans (hbel.mono (by omega))).setCell (by simp) _).setCell (by simp) _
            · go_wp2
              refine bodyPost_ret (v := .agg #[.bool true, .slice sa t.length sc]) (by simp [results, Tryd.results47, go_sem, hc0, hc1']) rfl ⟨t, _, by rw [hte]; rfl, Own.row (B := w.heap.size + 1) (ownsRow_setCell_below (ownsRow_setCell_below hown (by simp) _) (by simp) _), hT.1, hT.2, HE3.out, htl, ?_⟩
              exact ((((Below.refl _ _).alloc (Nat.le_refl _) _).trans (hbel.mono (by omega))).setCell (by simp) _).setCell (by simp) _

end Go.Proofs.YthllbidhbdjjlabDoor
