/-
  whole.signed.
-/
import Derived.Test.YtldcjkhbiffdoabDoorTrimmed
namespace Go.Proofs.YtldcjkhbiffdoabDoor
open Go.RowKit

set_option maxHeartbeats 1000000 in
theorem signed_any (b : Bool) (l : List Int) (u : Value) (w : World) (hu : Row w u l) (hl : l.length ≤ 1000000000) (dl : Dig 1000000000 l) :
    Calls Tryd.prog 30 #[.bool b, u] w fun e w' => ∃ s x, e = .returned (.agg #[.bool (b && !s.isEmpty), x]) ∧ Row w' x s ∧ Dig 1000000000 s ∧ Trim s ∧ ev 1000000000 s = ev 1000000000 l ∧ s.length ≤ l.length ∧ Below w.heap.size w w' := by
  obtain ⟨ua, uc, rfl⟩ := hu.val
  have hT := fun (W : World) (h : Row W (.slice ua l.length uc) l) => trimmed_any l (.slice ua l.length uc) W h hl dl
  go_enter Tryd.func30, Tryd.ntmps30
  go_wp2_with fail
  generalize hW : w.alloc (Obj.cells #[Value.bool false, Value.slice none 0 0] 43) = W0
  have hsz0 : W0.heap.size = w.heap.size + 1 := by rw [← hW]; simp
  have hb0 : Below w.heap.size w W0 := by rw [← hW]; exact (Below.refl _ _).alloc (Nat.le_refl _) _
  have hx0 : W0.heap[w.heap.size]? = some (.cells #[Value.bool false, Value.slice none 0 0] 43 (0, 0)) := by rw [← hW]; exact heap_alloc_new w _
  clear hW
  refine (hT W0 (hu.below hb0)).mono ?_
  rintro e w1 ⟨s, x, rfl, hown, hTs, hb1⟩
  rw [hsz0] at hown hb1
  obtain ⟨xa, xc, rfl⟩ := hown.row.val
  have hx1 : w1.heap[w.heap.size]? = some (.cells #[Value.bool false, Value.slice none 0 0] 43 (0, 0)) := by rw [hb1.block _ (by omega)]; exact hx0
  have hc0 : w1.cell? ⟨w.heap.size, 0, none⟩ = some (.bool false) := by simp [World.cell?, hx1]
  have hc1 : w1.cell? ⟨w.heap.size, 1, none⟩ = some (.slice none 0 0) := by simp [World.cell?, hx1]
  have hf0 : w1.frozen? ⟨w.heap.size, 0, none⟩ = false := by simp [World.frozen?, hx1]
  have hf1 : w1.frozen? ⟨w.heap.size, 1, none⟩ = false := by simp [World.frozen?, hx1]
  have hbw : Below w.heap.size w w1 := hb0.trans (hb1.mono (by omega))
  have hemp : s.isEmpty = decide (s.length = 0) := by cases s <;> simp
  clear hx0 hx1
  cases b
  all_goals
    have hcase : s.length = 0 ∨ (0 < s.length ∧ ¬ s.length = 0) := by omega
    rcases hcase with h0 | ⟨h0, h1⟩
    all_goals
      go_wp2
      refine bodyPost_ret (by simp [results, Tryd.results30, go_sem, hc0, hc1]; rfl) rfl ⟨s, .slice xa s.length xc, ?_, Own.row (B := w.heap.size + 1) (ownsRow_setCell_below (ownsRow_setCell_below hown (by simp) _) (by simp) _), hTs.dig, hTs.trim, hTs.val, hTs.len, (hbw.setCell (by simp) _).setCell (by simp) _⟩
      simp [*]

end Go.Proofs.YtldcjkhbiffdoabDoor
