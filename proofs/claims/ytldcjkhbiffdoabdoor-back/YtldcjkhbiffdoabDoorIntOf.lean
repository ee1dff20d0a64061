/-
  whole.Small, at small numbers.
-/
import Derived.Test.YtldcjkhbiffdoabDoorIntSmall
namespace Go.Proofs.YtldcjkhbiffdoabDoor
open Go.RowKit

set_option maxHeartbeats 1000000 in
theorem small_zero (w : World) : Calls Tryd.prog 13 #[.int .i64 0] w fun e w' => ∃ v, e = .returned v ∧ IsI w' v 0 ∧ Below w.heap.size w w' := by
  go_enter Tryd.func13, Tryd.ntmps13
  go_wp2_with fail
  refine wp_loop_rounds 1 ?_; rw [rounds_succ]
  go_wp2
  refine bodyPost_ret (v := .agg #[.bool false, .slice (some ⟨w.heap.size + 1, 0, none⟩) 0 0]) (by simp [results, Tryd.results13, go_sem]) rfl ⟨_, rfl, ⟨_, _, [], rfl, (Own.lit (by simp)).row, Dig.nil _, (fun x h => by simp at h), (fun h => by simp at h), by simp [sv, ev]⟩, ?_⟩
  exact ((Below.refl _ _).alloc (Nat.le_refl _) _).alloc (by simp) _

theorem tmod_small {n : Int} (h0 : n < 0) (h1 : -1000000000 < n) : n.tmod 1000000000 = n := by
  have : n = -(-n) := by omega
  rw [this, Int.neg_tmod, Int.tmod_eq_emod_of_nonneg (by omega)]; omega
theorem tdiv_small {n : Int} (h0 : n < 0) (h1 : -1000000000 < n) : n.tdiv 1000000000 = 0 := by
  have : n = -(-n) := by omega
  rw [this, Int.neg_tdiv, Int.tdiv_eq_ediv_of_nonneg (by omega)]; omega

set_option maxHeartbeats 1000000 in
theorem small_pos (n : Int) (h0 : 0 < n) (h1 : n < 1000000000) (w : World) : Calls Tryd.prog 13 #[.int .i64 n] w fun e w' => ∃ v, e = .returned v ∧ IsI w' v n ∧ Below w.heap.size w w' := by
  obtain ⟨q, HQ⟩ : ∃ q, Hid (n % 1000000000 = q) := ⟨_, rfl⟩
  have hq : q = n := by rw [← HQ.out]; omega
  have e1 : n % 1000000000 = n := by rw [HQ.out]; exact hq
  have e2 : n / 1000000000 = 0 := by omega
  clear hq HQ
  go_enter Tryd.func13, Tryd.ntmps13
  go_wp2_with fail
  generalize hW : (w.alloc (Obj.cells #[Value.bool false, Value.slice none 0 0] 43)).alloc (Obj.cells #[] 2) = W1
  have hown0 : Own (w.heap.size + 1) W1 (.slice (some ⟨w.heap.size + 1, 0, none⟩) 0 0) [] := by rw [← hW]; exact Own.lit (by simp)
  have X0 : Bx W1 w.heap.size (.bool false) (.slice none 0 0) := by rw [← hW]; exact (Bx.alloc w _ _).alloc_old _
  have hsz : w.heap.size + 1 ≤ W1.heap.size := by rw [← hW]; simp
  have hb0 : Below w.heap.size w W1 := by rw [← hW]; exact ((Below.refl _ _).alloc (Nat.le_refl _) _).alloc (by simp) _
  clear hW
  refine wp_loop_rounds 2 ?_; rw [rounds_succ]
  go_wp2_with (at_builtin; refine wpList_push rfl (.tmp 19) (.tmp 21) rfl (w.heap.size + 1) _ [] _ rfl hown0 rfl (by simp) hsz ?_)
  intro v' w1 hown1 hb1 _
  obtain ⟨xa, xc, rfl⟩ := hown1.row.val
  have X1 : Bx w1 w.heap.size (.bool false) (.slice none 0 0) := by unfold Bx; rw [hb1.block _ (by omega)]; exact X0
  have r3 := X1.c0; have r4 := X1.c1; have g3 := X1.f0; have g4 := X1.f1
  go_wp2
  rw [rounds_succ]
  go_wp2
  refine bodyPost_ret (v := .agg #[.bool false, .slice xa 1 xc]) (by simp [results, Tryd.results13, go_sem, r3, r4]; omega) rfl ⟨_, rfl, ⟨_, _, [n], rfl, hown1.row.set2 X1 _ _, ?_⟩, ?_⟩
  · refine ⟨?_, ?_, ?_, ?_⟩
    · intro x hx; simp at hx; omega
    · intro x hx; simp at hx; omega
    · intro _; simp
    · simp [sv, ev]
  · exact below_set2 (hb0.trans (hb1.mono (by omega))) (Nat.le_refl _) _ _

set_option maxHeartbeats 1000000 in
theorem small_neg (n : Int) (h0 : n < 0) (h1 : -1000000000 < n) (w : World) : Calls Tryd.prog 13 #[.int .i64 n] w fun e w' => ∃ v, e = .returned v ∧ IsI w' v n ∧ Below w.heap.size w w' := by
  obtain ⟨q, HQ⟩ : ∃ q, Hid (n.tmod 1000000000 = q) := ⟨_, rfl⟩
  have hq : q = n := by rw [← HQ.out]; exact tmod_small h0 h1
  have e1 : n.tmod 1000000000 = n := by rw [HQ.out]; exact hq
  have e2 : n.tdiv 1000000000 = 0 := by exact tdiv_small h0 h1
  clear hq HQ
  go_enter Tryd.func13, Tryd.ntmps13
  go_wp2_with fail
  generalize hW : (w.alloc (Obj.cells #[Value.bool false, Value.slice none 0 0] 43)).alloc (Obj.cells #[] 2) = W1
  have hown0 : Own (w.heap.size + 1) W1 (.slice (some ⟨w.heap.size + 1, 0, none⟩) 0 0) [] := by rw [← hW]; exact Own.lit (by simp)
  have X0 : Bx W1 w.heap.size (.bool false) (.slice none 0 0) := by rw [← hW]; exact (Bx.alloc w _ _).alloc_old _
  have hsz : w.heap.size + 1 ≤ W1.heap.size := by rw [← hW]; simp
  have hb0 : Below w.heap.size w W1 := by rw [← hW]; exact ((Below.refl _ _).alloc (Nat.le_refl _) _).alloc (by simp) _
  clear hW
  refine wp_loop_rounds 2 ?_; rw [rounds_succ]
  go_wp2_with (at_builtin; refine wpList_push rfl (.tmp 19) (.tmp 21) rfl (w.heap.size + 1) _ [] _ rfl hown0 rfl (by simp) hsz ?_)
  intro v' w1 hown1 hb1 _
  obtain ⟨xa, xc, rfl⟩ := hown1.row.val
  have X1 : Bx w1 w.heap.size (.bool false) (.slice none 0 0) := by unfold Bx; rw [hb1.block _ (by omega)]; exact X0
  have r3 := X1.c0; have r4 := X1.c1; have g3 := X1.f0; have g4 := X1.f1
  go_wp2
  rw [rounds_succ]
  go_wp2
  refine bodyPost_ret (v := .agg #[.bool true, .slice xa 1 xc]) (by simp [results, Tryd.results13, go_sem, r3, r4]) rfl ⟨_, rfl, ⟨_, _, [-n], rfl, hown1.row.set2 X1 _ _, ?_⟩, ?_⟩
  · refine ⟨?_, ?_, ?_, ?_⟩
    · intro x hx; simp at hx; omega
    · intro x hx; simp at hx; omega
    · intro _; simp
    · simp [sv, ev]
  · exact below_set2 (hb0.trans (hb1.mono (by omega))) (Nat.le_refl _) _ _

/-- whole.Small. -/
theorem small_any (n : Int) (h0 : -1000000000 < n) (h1 : n < 1000000000) (w : World) : Calls Tryd.prog 13 #[.int .i64 n] w fun e w' => ∃ v, e = .returned v ∧ IsI w' v n ∧ Below w.heap.size w w' := by
  rcases (show n = 0 ∨ 0 < n ∨ n < 0 by omega) with rfl | h | h
  · exact small_zero w
  · exact small_pos n h h1 w
  · exact small_neg n h h0 w

end Go.Proofs.YtldcjkhbiffdoabDoor
