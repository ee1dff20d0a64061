import Derived.Test.YtldcjkhbiffdoabGreatDoorM28

set_option linter.unusedSimpArgs false
namespace Go.Proofs.YtldcjkhbiffdoabGreatDoor
open Go.RowKit

set_option maxRecDepth 100000 in
set_option maxHeartbeats 4000000 in
theorem slope_any (zs : List Int) (e : Nat) (u : Value) (w : World) (hu : IsL w u zs) (hl : zs.length ≤ 900) (fx : Bd zs e) (he : e ≤ 70000000) :
    Calls Tryz.prog 73 #[u] w fun en w' => ∃ x, en = .returned x ∧ OwnL w.heap.size w' x (slp zs) ∧ Below w.heap.size w w' := by
  obtain ⟨ua, uc, rfl⟩ := OwnL.val hu
  obtain ⟨f, HF⟩ : ∃ f : Nat → Int, Hid (f = fun k => zs.getD (k + 1) 0 * ((k + 1 : Nat) : Int)) := ⟨_, rfl⟩
  have HT : Hid (slp zs = tab (zs.length - 1) f) := by rw [HF.out]; rfl
  rw [HT.out]
  clear HT
  go_enter Tryz.func73, Tryz.ntmps73
  go_wp2_with fail
  go_loopw [3, 4] (fun o i wr => ∃ (k : Nat), k ≤ zs.length - 1 ∧ i = .int .i64 ((k : Int) + 1) ∧ OwnL w.heap.size wr o (tab k f) ∧ Below w.heap.size w wr) (fun _ i _ => zs.length - (intOf i).toNat)
  case atStart => exact ⟨0, Nat.zero_le _, rfl, OwnL.lit rfl, below_one w _⟩
  case round =>
    obtain ⟨k, hk, rfl, hown, hbel⟩ := hrel
    have hlen : (tab k f).length ≤ 900 := by rw [tab_len]; omega
    by_cases hlt : k + 1 < zs.length
    · have hsu := tab_succ k f
      obtain ⟨g, b, xa, xn, xc, rfl, hc1, hc2, hg, _, hc0, hcx, hI0⟩ := OwnL.at hu (k + 1) hlt
      have hfk : f k = zs.getD (k + 1) 0 * ((k + 1 : Nat) : Int) := by rw [HF.out]
      rw [hfk, show ((k + 1 : Nat) : Int) = (k : Int) + 1 by omega] at hsu
      have fxi : Fit (zs.getD (k + 1) 0) := fitW_of (fx (k + 1)) (by omega)
      generalize zs.getD (k + 1) 0 = x at *
      have HSU : Hid _ := hsu
      clear hsu hfk
      obtain ⟨L, HL⟩ : ∃ L, Hid (tab k f = L) := ⟨_, rfl⟩
      rw [HL.out] at hown hlen
      obtain ⟨oa, oc, rfl⟩ := OwnL.val hown
      have fki : Fit ((k : Int) + 1) := fitW_of (e := 4) (by omega) (by omega)
      have hM := fun (W : World) (b2 : Bool) (a2 : Option Addr) (n2 c2 : Nat) (g1 : IsI W (.agg #[.bool b, .slice xa xn xc]) x) (g2 : IsI W (.agg #[.bool b2, .slice a2 n2 c2]) ((k : Int) + 1)) => mul_any _ _ x ((k : Int) + 1) W g1 g2 fxi fki
      have HM : Hid _ := hM
      clear hM
      have hSV : ∀ W, Below w.heap.size w W → W.cell? ⟨g, (k + 1) * 2, none⟩ = some (.bool b) ∧ W.cell? ⟨g, (k + 1) * 2 + 1, none⟩ = some (.slice xa xn xc) := fun W h => ⟨(h.cell (p := ⟨g, (k + 1) * 2, none⟩) hg).trans hc0, (h.cell (p := ⟨g, (k + 1) * 2 + 1, none⟩) hg).trans hcx⟩
      have hbd : Below w.heap.size w wr.drew := ⟨hbel.os, hbel.tape, hbel.output, hbel.size, hbel.block⟩
      have hbdw : Below wr.heap.size wr wr.drew := ⟨rfl, rfl, rfl, Nat.le_refl _, fun _ _ => rfl⟩
      have hI := (hI0.below hbel).below hbdw
      have hownd := OwnL.below hown hbdw
      have hki : (k : Int) + 1 < (zs.length : Int) := by omega
      have hki0 : (0 : Int) ≤ (k : Int) + 1 := by omega
      have htn : ((k : Int) + 1).toNat = k + 1 := by omega
      go_wp2_with fail
      refine wp_region_held_drew (S := fun W => W.cell? ⟨g, (k + 1) * 2, none⟩ = some (.bool b) ∧ W.cell? ⟨g, (k + 1) * 2 + 1, none⟩ = some (.slice xa xn xc)) (by kernel_rfl) (hSV _ hbd) fun hS => ?_
      generalize wr.drew = W0 at *
      refine h_take 0 12 (.slice oa L.length oc) rfl rfl (by kernel_rfl) (by kernel_rfl) (by kernel_rfl) (fun _ _ _ h => h) rfl (fun _ _ => by first | rfl | go_simp) hS ?_
      simp only [Act.put, tA, tB, tC]
      refine h_take 1 13 (.slice (some ⟨g, 0, none⟩) zs.length uc) rfl rfl (by kernel_rfl) (by kernel_rfl) (by kernel_rfl) (fun _ _ _ h => h) rfl (fun _ _ => by first | rfl | go_simp) hS ?_
      simp only [Act.put, tA, tB, tC]
      refine h_take 2 14 (.int .i64 ((k : Int) + 1)) rfl rfl (by kernel_rfl) (by kernel_rfl) (by kernel_rfl) (fun _ _ _ h => h) rfl (fun _ _ => by first | rfl | go_simp) hS ?_
      simp only [Act.put, tA, tB, tC]
      refine h_take 3 15 (.pointer (some ⟨g, (k + 1) * 2, none⟩)) rfl rfl (by kernel_rfl) (by kernel_rfl) (by kernel_rfl) (fun _ _ _ h => h) rfl (fun _ _ => by first | rfl | go_simp) hS ?_
      simp only [Act.put, tA, tB, tC]
      refine h_take 4 16 (.agg #[.bool b, .slice xa xn xc]) rfl rfl (by kernel_rfl) (by kernel_rfl) (by kernel_rfl) (fun _ _ _ h => h) rfl (fun w' hw' => by obtain ⟨y0, y1⟩ := hw'; go_simp) hS ?_
      simp only [Act.put, tA, tB, tC]
      refine h_take 5 17 (.int .i64 ((k : Int) + 1)) rfl rfl (by kernel_rfl) (by kernel_rfl) (by kernel_rfl) (fun _ _ _ h => h) rfl (fun _ _ => by first | rfl | go_simp) hS ?_
      simp only [Act.put, tA, tB, tC]
      refine h_call 6 18 50 #[.int .i64 ((k : Int) + 1)] rfl rfl (by kernel_rfl) rfl (by go_simp) ?_
      refine (small_any ((k : Int) + 1) (by omega) (by omega) W0).mono ?_
      rintro en w4 ⟨x4, rfl, hI4, hb4⟩
      obtain ⟨b4, a4, n4, c4, rfl⟩ := hI4.form
      have hb4w := hbd.trans (hb4.mono hbd.size)
      refine ⟨_, rfl, hSV _ hb4w, ?_⟩
      simp only [Act.put, tA, tB, tC]
      refine h_call 7 19 69 #[.agg #[.bool b, .slice xa xn xc], .agg #[.bool b4, .slice a4 n4 c4]] rfl rfl (by kernel_rfl) rfl (by go_simp) ?_
      refine (HM.out w4 b4 a4 n4 c4 (hI.below hb4) hI4).mono ?_
      rintro en w5 ⟨x5, rfl, hI5, hb5⟩
      obtain ⟨b5, a5, n5, c5, rfl⟩ := hI5.form
      have hb5w := hb4w.trans (hb5.mono hb4w.size)
      have hown5 := OwnL.below (OwnL.below hownd hb4) hb5
      refine ⟨_, rfl, hSV _ hb5w, ?_⟩
      simp only [Act.put, tA, tB, tC]
      refine h_val 8 20 (.slice (some ⟨w5.heap.size, 0, none⟩) 1 1) (w' := w5.alloc (.cells #[.bool b5, .slice a5 n5 c5] 70)) rfl rfl (by kernel_rfl) rfl (by go_simp) (hSV _ (hb5w.alloc hb5w.size _)) ?_
      simp only [Act.put, tA, tB, tC]
      refine h_op 9 21 (fun v' w' => OwnL w.heap.size w' v' (L ++ [x * ((k : Int) + 1)]) ∧ Below w.heap.size w5 w') rfl rfl (by kernel_rfl) rfl (fun K hK => wp_pushI (.tmp 12) (.tmp 20) rfl w.heap.size _ L _ _ (x * ((k : Int) + 1)) rfl hown5 hI5 rfl (by omega) hb5w.size fun v' w' g1 g2 => hK v' w' ⟨g1, g2⟩) ?_
      rintro v6 w6 ⟨hown6, hb6⟩
      have hb6w := hb5w.trans hb6
      rw [← HL.out, ← HSU.out] at hown6
      refine ⟨hSV _ hb6w, ?_⟩
      simp only [Act.put, tA, tB, tC]
      refine h_val 10 3 v6 (w' := w6) rfl rfl (by kernel_rfl) rfl rfl (hSV _ hb6w) ?_
      simp only [Act.put, tA, tB, tC]
      refine wpAnyH_done (by kernel_rfl) ?_ _
      go_wp2
      go_roundw
      case rel => exact ⟨k + 1, by omega, by go_num, hown6, hb6w⟩
      case measure => simp [intOf]; omega
    · obtain rfl : k = zs.length - 1 := by omega
      have hge : ¬ ((zs.length - 1 : Nat) : Int) + 1 < (zs.length : Int) := by omega
      obtain ⟨oa, oc, hoe⟩ := OwnL.val hown
      subst hoe
      clear hlen
      generalize ((zs.length - 1 : Nat) : Int) + 1 = kk at *
      go_wp2
      go_ret
      exact ⟨_, rfl, hown, hbel⟩

theorem nrm_take {zs : List Int} {k : Nat} (h : k < zs.length) : nrm (zs.take (k + 1)) = nrm (zs.take k) + (zs.getD k 0).natAbs := by
  rw [List.take_succ_eq_append_getElem h, ← getD_lt h]
  generalize zs.take k = l
  generalize zs.getD k 0 = x
  induction l with
  | nil => simp [nrm]
  | cons a l ih => simp only [List.cons_append, nrm, ih]; omega

theorem nrm_take_le (zs : List Int) (k : Nat) : nrm (zs.take k) ≤ nrm zs := by
  induction zs generalizing k with
  | nil => simp [nrm]
  | cons a l ih =>
    cases k with
    | zero => simp [nrm]
    | succ k => have := ih k; simp only [List.take_succ_cons, nrm]; omega

set_option maxRecDepth 100000 in
set_option maxHeartbeats 4000000 in
theorem bound_any (zs : List Int) (e : Nat) (u : Value) (w : World) (hu : IsL w u zs) (hl : zs.length ≤ 11) (fx : Bd zs e) (hn : nrm zs * 2048 < 10 ^ e) (he : e ≤ 70000000) :
    Calls Tryz.prog 70 #[u] w fun en w' => ∃ x, en = .returned x ∧ IsI w' x (((2 ^ (zs.length - 1) * nrm zs : Nat) : Int)) ∧ Below w.heap.size w w' := by
  obtain ⟨ua, uc, rfl⟩ := OwnL.val hu
  have hft : ∀ k, k ≤ zs.length → Fit ((nrm (zs.take k) : Nat) : Int) := fun k _ => fitW_of (e := e) (by have := nrm_take_le zs k; rw [Int.natAbs_natCast]; omega) (by omega)
  have hf2 : ∀ k, k ≤ 10 → Fit (((2 ^ k * nrm zs : Nat) : Int)) := fun k hk => fitW_of (e := e) (by
    rw [Int.natAbs_natCast]
    have h1 : 2 ^ k ≤ 2 ^ 10 := Nat.pow_le_pow_right (by omega) hk
    have h2 := Nat.mul_le_mul_right (nrm zs) h1
    omega) (by omega)
  have HFT : Hid _ := hft
  have HF2 : Hid _ := hf2
  clear hft hf2
  obtain ⟨N, HN⟩ : ∃ N : Nat → Nat, Hid (N = fun k => 2 ^ k * nrm zs) := ⟨_, rfl⟩
  have HN0 : Hid (N 0 = nrm (zs.take zs.length)) := by show _ = _; rw [HN.out, List.take_length]; simp
  have HN1 : Hid (∀ k, N (k + 1) = N k + N k) := fun k => by rw [HN.out]; show 2 ^ (k + 1) * nrm zs = 2 ^ k * nrm zs + 2 ^ k * nrm zs; rw [Nat.pow_succ, Nat.mul_right_comm]; omega
  have HF3 : Hid (∀ k, k ≤ 10 → Fit ((N k : Nat) : Int)) := fun k hk => by rw [HN.out]; exact HF2.out k hk
  have HGO : Hid (2 ^ (zs.length - 1) * nrm zs = N (zs.length - 1)) := by rw [HN.out]; rfl
  rw [HGO.out]
  clear HN HF2 HGO
  go_enter Tryz.func70, Tryz.ntmps70
  go_wp2_with fail
  generalize hW : (w.alloc (Obj.cells #[Value.bool false, Value.slice none 0 0] 70)).alloc (Obj.cells #[Value.bool false, Value.slice none 0 0] 70) = W0
  obtain ⟨hz0, hb0, X0, X1⟩ := two_new hW
  clear hW
  have K1 : IsB W0 (w.heap.size + 1) ((nrm (zs.take 0) : Nat) : Int) := ⟨_, _, X1, by simpa [nrm] using zeroInt⟩
  clear X1
  go_loopw [4] (fun i wr => ∃ (k : Nat), k ≤ zs.length ∧ i = .int .i64 k ∧ IsB wr (w.heap.size + 1) ((nrm (zs.take k) : Nat) : Int) ∧ Bx wr w.heap.size (.bool false) (.slice none 0 0) ∧ Below w.heap.size w wr) (fun i _ => zs.length - (intOf i).toNat)
  case atStart => exact ⟨0, Nat.zero_le _, rfl, K1, X0, hb0⟩
  case round =>
    clear K1 X0 hb0
    obtain ⟨k, hk, rfl, hK, B0, hbel⟩ := hrel
    obtain ⟨gb, ga, gn, gc, G0, hG⟩ := hK.open
    have fK := HFT.out k hk
    have hszw := G0.lt
    by_cases hlt : k < zs.length
    · obtain ⟨g, b, xa, xn, xc, rfl, hc1, hc2, hg, _, hc0, hcx, hI⟩ := OwnL.at hu k hlt
      have hct := nrm_take hlt
      have f1 : Fit (zs.getD k 0) := fitW_of (fx k) (by omega)
      have f2 : Fit (((zs.getD k 0).natAbs : Nat) : Int) := fitW_of (e := e) (by have := fx k; rwa [Int.natAbs_natCast]) (by omega)
      generalize zs.getD k 0 = z at *
      have HCT : Hid (((nrm (zs.take (k + 1)) : Nat) : Int) = ((nrm (zs.take k) : Nat) : Int) + ((z.natAbs : Nat) : Int)) := by show _ = _; rw [hct]; omega
      clear hct
      generalize ((nrm (zs.take k) : Nat) : Int) = cg at *
      have hM := fun (W : World) (b2 : Bool) (a2 : Option Addr) (n2 c2 : Nat) (g1 : IsI W (.agg #[.bool gb, .slice ga gn gc]) cg) (g2 : IsI W (.agg #[.bool b2, .slice a2 n2 c2]) ((z.natAbs : Nat) : Int)) => add_any _ _ cg ((z.natAbs : Nat) : Int) W g1 g2 fK f2
      have HM : Hid _ := hM
      clear hM
      have hIr := hI.below hbel
      have hSV : ∀ W, Below w.heap.size w W → W.cell? ⟨g, k * 2, none⟩ = some (.bool b) ∧ W.cell? ⟨g, k * 2 + 1, none⟩ = some (.slice xa xn xc) := fun W h => ⟨(h.cell (p := ⟨g, k * 2, none⟩) hg).trans hc0, (h.cell (p := ⟨g, k * 2 + 1, none⟩) hg).trans hcx⟩
      have hbd : Below w.heap.size w wr.drew := ⟨hbel.os, hbel.tape, hbel.output, hbel.size, hbel.block⟩
      have hbdw : Below wr.heap.size wr wr.drew := ⟨rfl, rfl, rfl, Nat.le_refl _, fun _ _ => rfl⟩
      have hki : (k : Int) < (zs.length : Int) := by omega
      have hki0 : (0 : Int) ≤ (k : Int) := by omega
      go_wp2_with fail
      refine wp_region_held_drew (S := fun W => W.cell? ⟨g, k * 2, none⟩ = some (.bool b) ∧ W.cell? ⟨g, k * 2 + 1, none⟩ = some (.slice xa xn xc)) (by kernel_rfl) (hSV _ hbd) fun hS => ?_
      have G1 := G0.below hbdw
      have B1 := B0.below hbdw
      have hG1 := hG.below hbdw
      have hI1 := hIr.below hbdw
      have hs0 : wr.drew.heap.size = wr.heap.size := rfl
      rw [← hs0] at hszw
      clear hs0 hIr hG hbdw
      generalize wr.drew = W1 at *
      refine h_take 1 14 (.slice (some ⟨g, 0, none⟩) zs.length uc) rfl rfl (by kernel_rfl) (by kernel_rfl) (by kernel_rfl) (fun _ _ _ h => h) rfl (fun _ _ => by first | rfl | go_simp) hS ?_
      simp only [Act.put, tA, tB, tC]
      refine h_take 2 15 (.int .i64 (k : Int)) rfl rfl (by kernel_rfl) (by kernel_rfl) (by kernel_rfl) (fun _ _ _ h => h) rfl (fun _ _ => by first | rfl | go_simp) hS ?_
      simp only [Act.put, tA, tB, tC]
      refine h_take 3 16 (.pointer (some ⟨g, k * 2, none⟩)) rfl rfl (by kernel_rfl) (by kernel_rfl) (by kernel_rfl) (fun _ _ _ h => h) rfl (fun _ _ => by first | rfl | go_simp) hS ?_
      simp only [Act.put, tA, tB, tC]
      refine h_take 4 17 (.agg #[.bool b, .slice xa xn xc]) rfl rfl (by kernel_rfl) (by kernel_rfl) (by kernel_rfl) (fun _ _ _ h => h) rfl (fun w' hw' => by obtain ⟨y0, y1⟩ := hw'; go_simp) hS ?_
      simp only [Act.put, tA, tB, tC]
      have q0 := G1.c0; have q1 := G1.c1
      refine wpAnyH_ready (rs := [0, 5]) (by kernel_rfl) (by simp) (ar_val 0 13 (.agg #[.bool gb, .slice ga gn gc]) (w' := W1) rfl rfl rfl (by go_simp) hS ?_ (ar_call 5 18 60 #[.agg #[.bool b, .slice xa xn xc]] rfl rfl rfl (by go_simp) ?_ AllReadyH.nil))
      · simp only [Act.put, tA, tB, tC]
        clear q0 q1
        refine h_call 5 18 60 #[.agg #[.bool b, .slice xa xn xc]] rfl rfl (by kernel_rfl) rfl (by go_simp) ?_
        refine (abs_any _ z W1 hI1 f1).mono ?_
        rintro en w2 ⟨x2, rfl, hI2, hb2⟩
        obtain ⟨b2, a2, n2, c2, rfl⟩ := hI2.form
        have hbw2 := hbd.trans (hb2.mono hbd.size)
        have G2 := G1.below hb2; have B2 := B1.below hb2; have hG2 := hG1.below hb2
        refine ⟨_, rfl, hSV _ hbw2, ?_⟩
        simp only [Act.put, tA, tB, tC]
        refine h_call 6 19 80 #[.agg #[.bool gb, .slice ga gn gc], .agg #[.bool b2, .slice a2 n2 c2]] rfl rfl (by kernel_rfl) rfl (by go_simp) ?_
        refine (HM.out w2 b2 a2 n2 c2 hG2 hI2).mono ?_
        rintro en w3 ⟨x3, rfl, hI3, hb3⟩
        obtain ⟨b3, a3, n3, c3, rfl⟩ := hI3.form
        have G3 := G2.below hb3; have B3 := B2.below hb3
        have r0 := G3.c0; have r1 := G3.c1; have r2 := G3.f0; have r3 := G3.f1
        have hbw3 : Below w.heap.size w w3 := hbw2.trans (hb3.mono hbw2.size)
        have hK3 := IsB.stored G3 hI3
        rw [← HCT.out] at hK3
        have hB3 := B3.other (show w.heap.size ≠ w.heap.size + 1 by omega) (.bool b3) (.slice a3 n3 c3)
        have hb4 := below_set2 hbw3 (show w.heap.size ≤ w.heap.size + 1 by omega) (.bool b3) (.slice a3 n3 c3)
        refine ⟨_, rfl, hSV _ hbw3, ?_⟩
        simp only [Act.put, tA, tB, tC]
        refine h_store 7 (w' := (w3.setCell ⟨w.heap.size + 1, 0, none⟩ (.bool b3)).setCell ⟨w.heap.size + 1, 1, none⟩ (.slice a3 n3 c3)) rfl rfl (by kernel_rfl) rfl (by go_simp) (hSV _ hb4) ?_
        clear r0 r1 r2 r3 G3 B3 hI3 hbw3 hb3
        generalize (w3.setCell ⟨w.heap.size + 1, 0, none⟩ (.bool b3)).setCell ⟨w.heap.size + 1, 1, none⟩ (.slice a3 n3 c3) = W4 at *
        refine wpAnyH_done (by kernel_rfl) ?_ _
        go_wp2
        go_roundw
        case rel => exact ⟨k + 1, by omega, by go_num, hK3, hB3, hb4⟩
        case measure => simp [intOf]; omega
      · refine (abs_any _ z W1 hI1 f1).mono ?_
        rintro en w2 ⟨x2, rfl, hI2, hb2⟩
        obtain ⟨b2, a2, n2, c2, rfl⟩ := hI2.form
        have hbw2 := hbd.trans (hb2.mono hbd.size)
        have G2 := G1.below hb2; have B2 := B1.below hb2; have hG2 := hG1.below hb2
        refine ⟨_, rfl, hSV _ hbw2, ?_⟩
        simp only [Act.put, tA, tB, tC]
        clear q0 q1
        have q0 := G2.c0; have q1 := G2.c1
        refine h_val 0 13 (.agg #[.bool gb, .slice ga gn gc]) (w' := w2) rfl rfl (by kernel_rfl) rfl (by go_simp) (hSV _ hbw2) ?_
        simp only [Act.put, tA, tB, tC]
        clear q0 q1
        refine h_call 6 19 80 #[.agg #[.bool gb, .slice ga gn gc], .agg #[.bool b2, .slice a2 n2 c2]] rfl rfl (by kernel_rfl) rfl (by go_simp) ?_
        refine (HM.out w2 b2 a2 n2 c2 hG2 hI2).mono ?_
        rintro en w3 ⟨x3, rfl, hI3, hb3⟩
        obtain ⟨b3, a3, n3, c3, rfl⟩ := hI3.form
        have G3 := G2.below hb3; have B3 := B2.below hb3
        have r0 := G3.c0; have r1 := G3.c1; have r2 := G3.f0; have r3 := G3.f1
        have hbw3 : Below w.heap.size w w3 := hbw2.trans (hb3.mono hbw2.size)
        have hK3 := IsB.stored G3 hI3
        rw [← HCT.out] at hK3
        have hB3 := B3.other (show w.heap.size ≠ w.heap.size + 1 by omega) (.bool b3) (.slice a3 n3 c3)
        have hb4 := below_set2 hbw3 (show w.heap.size ≤ w.heap.size + 1 by omega) (.bool b3) (.slice a3 n3 c3)
        refine ⟨_, rfl, hSV _ hbw3, ?_⟩
        simp only [Act.put, tA, tB, tC]
        refine h_store 7 (w' := (w3.setCell ⟨w.heap.size + 1, 0, none⟩ (.bool b3)).setCell ⟨w.heap.size + 1, 1, none⟩ (.slice a3 n3 c3)) rfl rfl (by kernel_rfl) rfl (by go_simp) (hSV _ hb4) ?_
        clear r0 r1 r2 r3 G3 B3 hI3 hbw3 hb3
        generalize (w3.setCell ⟨w.heap.size + 1, 0, none⟩ (.bool b3)).setCell ⟨w.heap.size + 1, 1, none⟩ (.slice a3 n3 c3) = W4 at *
        refine wpAnyH_done (by kernel_rfl) ?_ _
        go_wp2
        go_roundw
        case rel => exact ⟨k + 1, by omega, by go_num, hK3, hB3, hb4⟩
        case measure => simp [intOf]; omega
    · obtain rfl : k = zs.length := by omega
      rw [← HN0.out] at hK fK
      go_wp2_with fail
      have hwo : ∃ wo : World, wo = wr := ⟨_, rfl⟩
      obtain ⟨wo, rfl⟩ := hwo
      go_loopw [5] (fun i wq => ∃ (j : Nat), j ≤ zs.length - 1 ∧ i = .int .i64 ((j : Int) + 1) ∧ IsB wq (w.heap.size + 1) ((N j : Nat) : Int) ∧ Bx wq w.heap.size (.bool false) (.slice none 0 0) ∧ Below w.heap.size w wq) (fun i _ => zs.length - (intOf i).toNat)
      case atStart => exact ⟨0, Nat.zero_le _, rfl, hK, B0, hbel⟩
      case round =>
        clear hK B0 hbel G0 hG hszw fK
        obtain ⟨j, hj, rfl, hK, B0, hbel⟩ := hrel
        obtain ⟨gb, ga, gn, gc, G0, hG⟩ := hK.open
        have fK := HF3.out j (by omega)
        have hszw := G0.lt
        by_cases hlt2 : j + 1 < zs.length
        · have HNN : Hid (((N (j + 1) : Nat) : Int) = ((N j : Nat) : Int) + ((N j : Nat) : Int)) := by show _ = _; rw [HN1.out j]; omega
          generalize ((N j : Nat) : Int) = cg at *
          have hji : (j : Int) + 1 < (zs.length : Int) := by omega
          have q0 := G0.c0; have q1 := G0.c1
          go_wp2_with fail
          refine (add_any _ _ cg cg wr hG hG fK fK).mono ?_
          rintro en w3 ⟨x3, rfl, hI3, hb3⟩
          obtain ⟨b3, a3, n3, c3, rfl⟩ := hI3.form
          have G3 := G0.below hb3; have B3 := B0.below hb3
          clear q0 q1
          have r0 := G3.c0; have r1 := G3.c1; have r2 := G3.f0; have r3 := G3.f1
          have hbw3 := hbel.trans (hb3.mono hbel.size)
          have hK3 := IsB.stored G3 hI3
          rw [← HNN.out] at hK3
          have hB3 := B3.other (show w.heap.size ≠ w.heap.size + 1 by omega) (.bool b3) (.slice a3 n3 c3)
          have hb4 := below_set2 hbw3 (show w.heap.size ≤ w.heap.size + 1 by omega) (.bool b3) (.slice a3 n3 c3)
          have HALL : Hid _ := (⟨hK3, hB3, hb4⟩ : _ ∧ _ ∧ _)
          clear hK3 hB3 hb4 hK hG
          go_wp2
          go_roundw
          case rel => exact ⟨j + 1, by omega, by go_num, HALL.out.1, HALL.out.2.1, HALL.out.2.2⟩
          case measure => simp [intOf]; omega
        · have hge : ¬ (j : Int) + 1 < (zs.length : Int) := by omega
          obtain rfl : j = zs.length - 1 := by omega
          have r0 := G0.c0; have r1 := G0.c1; have r2 := B0.c0; have r3 := B0.c1; have r4 := B0.f0; have r5 := B0.f1
          generalize ((zs.length - 1 : Nat) : Int) + 1 = kk at *
          go_wp2
          refine bodyPost_ret (v := .agg #[.bool gb, .slice ga gn gc]) (by simp [results, Tryz.results70, go_sem, r2, r3]) rfl ⟨_, rfl, hG.set2 B0 _ _, below_set2 hbel (Nat.le_refl _) _ _⟩

end Go.Proofs.YtldcjkhbiffdoabGreatDoor
