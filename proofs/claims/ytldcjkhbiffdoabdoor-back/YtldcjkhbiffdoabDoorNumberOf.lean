/-
  numberOf.
-/
import Derived.Test.YtldcjkhbiffdoabDoorReadSum
namespace Go.Proofs.YtldcjkhbiffdoabDoor
open Go.RowKit

/-- The number at a power. -/
def nAt (p : Nat) : List (Int × Nat) → Int
  | [] => 0
  | (d, q) :: l => if q = p then d else nAt p l

theorem nAt_drop {p : Nat} {ts : List (Int × Nat)} {i : Nat} (hi : i < ts.length) : nAt p (ts.drop i) = if (ts.getD i (0, 0)).2 = p then (ts.getD i (0, 0)).1 else nAt p (ts.drop (i + 1)) := by
  have hg : ts.getD i (0, 0) = ts[i] := by simp [List.getD, hi]
  rw [hg, List.drop_eq_getElem_cons hi]
  generalize ts[i] = q
  obtain ⟨d, r⟩ := q
  rfl

set_option maxHeartbeats 2000000 in
theorem numberOf_any (tv : Value) (ts : List (Int × Nat)) (v : Value) (p : Nat) (w : World) (B : Nat) (hO : OwnT B w tv ts) (hv : IsI w v (p : Int)) (fp : Fit (p : Int)) (ft : ∀ i, i < ts.length → Fit (ts.getD i (0, 0)).1 ∧ Fit ((ts.getD i (0, 0)).2 : Int)) (hl : ts.length ≤ 1000) :
    Calls Tryd.prog 16 #[tv, v] w fun e w' => ∃ u, e = .returned u ∧ IsI w' u (nAt p ts) ∧ Below w.heap.size w w' := by
  obtain ⟨ta, tcp, rfl⟩ := hO.val
  obtain ⟨vb, va, vn, vc, rfl⟩ := hv.form
  obtain ⟨R, HRes⟩ : ∃ R, Hid (nAt p ts = R) := ⟨_, rfl⟩
  rw [HRes.out]
  go_enter Tryd.func16, Tryd.ntmps16
  go_wp2_with fail
  generalize hW : (w.alloc (Obj.cells #[Value.bool vb, Value.slice va vn vc] 43)).alloc (Obj.cells #[Value.bool false, Value.slice none 0 0] 43) = W0
  obtain ⟨hz0, hb0, X0, X1⟩ := two_new hW
  clear hW
  have hI0 : IsB W0 w.heap.size (p : Int) := ⟨_, _, X0, hv.below hb0⟩
  have hO0 := hO.below hb0
  clear X0 hv hO
  go_loopw [5] (fun i wr => ∃ (k : Nat), k ≤ ts.length ∧ i = .int .i64 k ∧ OwnT B wr (.slice ta ts.length tcp) ts ∧ IsB wr w.heap.size (p : Int) ∧ Bx wr (w.heap.size + 1) (.bool false) (.slice none 0 0) ∧ Hid (nAt p (ts.drop k) = R) ∧ Below w.heap.size w wr) (fun i _ => ts.length - (intOf i).toNat)
  case atStart => exact ⟨0, Nat.zero_le _, rfl, hO0, hI0, X1, HRes, hb0⟩
  case round =>
    clear hO0 hI0 X1
    obtain ⟨k, hk, rfl, hOk, hI0, X1, HE, hbel⟩ := hrel
    by_cases hlt : k < ts.length
    · obtain ⟨g, b, xa, xn, xc, d, ya, yn, yc, rfl, hc1, hc2, hg, hBg, e0, e1, e2, e3, ef, hIx, hIy⟩ := hOk.at k hlt
      obtain ⟨qb, qa, qn, qc, Q1, J1⟩ := hI0.open
      have q0 := Q1.c0; have q1 := Q1.c1
      have hft := ft k hlt
      have hE := HE.out
      rw [nAt_drop hlt] at hE
      generalize (ts.getD k (0, 0)).2 = pw at *
      generalize (ts.getD k (0, 0)).1 = nm at *
      have hC := fun (W : World) (g1 : IsI W (.agg #[.bool d, .slice ya yn yc]) (pw : Int)) (g2 : IsI W (.agg #[.bool qb, .slice qa qn qc]) (p : Int)) => compare_any _ _ (pw : Int) (p : Int) W g1 g2 hft.2 fp
      by_cases hpw : pw = p
      · have hz : cmp3 (pw : Int) (p : Int) = 0 := by rw [hpw]; exact cmp3_eq _
        simp only [hz] at hC
        rw [if_pos hpw] at hE
        have HC : Hid _ := hC; have HE2 : Hid _ := hE
        clear hC hz HE hE
        go_wp2_with fail
        go_region_held3 (fun w' => w'.cell? ⟨g, k * 4 + 2, none⟩ = some (.bool d) ∧ w'.cell? ⟨g, k * 4 + 3, none⟩ = some (.slice ya yn yc) ∧ w'.cell? ⟨w.heap.size, 0, none⟩ = some (.bool qb) ∧ w'.cell? ⟨w.heap.size, 1, none⟩ = some (.slice qa qn qc))
          (first | exact ⟨e2, e3, q0, q1⟩ | exact ⟨t2, t3, u0, u1⟩)
          (first | (go_at_call 15; refine (HC.out _ (by exact hIy) (by exact J1)).mono ?_; rintro e w1 ⟨rfl, hb1'⟩; have hb1 := of_drew hb1'; clear hb1'; have t2 := (hb1.cell (p := ⟨g, k * 4 + 2, none⟩) hg).trans e2; have t3 := (hb1.cell (p := ⟨g, k * 4 + 3, none⟩) hg).trans e3; have u0 := (hb1.cell (p := ⟨w.heap.size, 0, none⟩) Q1.lt).trans q0; have u1 := (hb1.cell (p := ⟨w.heap.size, 1, none⟩) Q1.lt).trans q1))
        have t0 := (hb1.cell (p := ⟨g, k * 4, none⟩) hg).trans e0
        have t1 := (hb1.cell (p := ⟨g, k * 4 + 1, none⟩) hg).trans e1
        have X1' := X1.below hb1
        have x0 := X1'.c0; have x1 := X1'.c1; have x2 := X1'.f0; have x3 := X1'.f1
        go_wp2
        have hbw := hbel.trans (hb1.mono hbel.size)
        refine bodyPost_ret (v := .agg #[.bool b, .slice xa xn xc]) (by simp [results, Tryd.results16, go_sem, x0, x1]) rfl ⟨_, rfl, ?_, below_set2 hbw (by omega) _ _⟩
        rw [← HE2.out]
        exact (hIx.below hb1).set2 X1' _ _
      · have hz : (cmp3 (pw : Int) (p : Int) == 0) = false := by
          rcases (show (pw : Int) < p ∨ (p : Int) < pw by omega) with h | h
          · rw [cmp3_lt h]; rfl
          · rw [cmp3_gt h]; rfl
        generalize cmp3 (pw : Int) (p : Int) = cz at *
        rw [if_neg hpw] at hE
        have HC : Hid _ := hC; have HE2 : Hid _ := hE
        clear hC HE hE
        go_wp2_with fail
        go_region_held3 (fun w' => w'.cell? ⟨g, k * 4 + 2, none⟩ = some (.bool d) ∧ w'.cell? ⟨g, k * 4 + 3, none⟩ = some (.slice ya yn yc) ∧ w'.cell? ⟨w.heap.size, 0, none⟩ = some (.bool qb) ∧ w'.cell? ⟨w.heap.size, 1, none⟩ = some (.slice qa qn qc))
          (first | exact ⟨e2, e3, q0, q1⟩ | exact ⟨t2, t3, u0, u1⟩)
          (first | (go_at_call 15; refine (HC.out _ (by exact hIy) (by exact J1)).mono ?_; rintro e w1 ⟨rfl, hb1'⟩; have hb1 := of_drew hb1'; clear hb1'; have t2 := (hb1.cell (p := ⟨g, k * 4 + 2, none⟩) hg).trans e2; have t3 := (hb1.cell (p := ⟨g, k * 4 + 3, none⟩) hg).trans e3; have u0 := (hb1.cell (p := ⟨w.heap.size, 0, none⟩) Q1.lt).trans q0; have u1 := (hb1.cell (p := ⟨w.heap.size, 1, none⟩) Q1.lt).trans q1))
        all_goals go_wp2_with fail
        go_roundw
        case rel => exact ⟨k + 1, by omega, by go_num, hOk.below hb1, hI0.below hb1, X1.below hb1, HE2, hbel.trans (hb1.mono hbel.size)⟩
        case measure => simp [intOf]; omega
    · obtain rfl : k = ts.length := by omega
      have hE := HE.out
      rw [List.drop_length] at hE
      have HE2 : Hid _ := hE
      clear HE hE
      have x0 := X1.c0; have x1 := X1.c1; have x2 := X1.f0; have x3 := X1.f1
      go_wp2
      refine bodyPost_ret (v := .agg #[.bool false, .slice none 0 0]) (by simp [results, Tryd.results16, go_sem, x0, x1]) rfl ⟨_, rfl, ?_, below_set2 hbel (by omega) _ _⟩
      rw [← HE2.out]
      exact IsI.zero _

end Go.Proofs.YtldcjkhbiffdoabDoor
