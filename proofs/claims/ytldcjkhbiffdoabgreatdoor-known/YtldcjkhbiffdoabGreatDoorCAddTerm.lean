import Derived.Test.YtldcjkhbiffdoabGreatDoorM21
import Derived.Deep.RegionLaw

namespace Go.Proofs.YtldcjkhbiffdoabGreatDoor
open Go.RowKit

theorem addT_skip {c : Int} {p : Nat} {ts : List (Int × Nat)} {i : Nat} (hi : i < ts.length) (hne : (ts.getD i (0, 0)).2 ≠ p) : addT c p (ts.drop i) = (ts.drop i).take 1 ++ addT c p (ts.drop (i + 1)) := by
  have hg : ts.getD i (0, 0) = ts[i] := by simp [List.getD, hi]
  rw [hg] at hne
  rw [List.drop_eq_getElem_cons hi]
  generalize ts[i] = q at *
  obtain ⟨d, r⟩ := q
  simp [addT, hne]

theorem addT_hit {c : Int} {p : Nat} {ts : List (Int × Nat)} {i : Nat} (hi : i < ts.length) (he : (ts.getD i (0, 0)).2 = p) : ts.take i ++ addT c p (ts.drop i) = ts.set i ((ts.getD i (0, 0)).1 + c, (ts.getD i (0, 0)).2) := by
  have hg : ts.getD i (0, 0) = ts[i] := by simp [List.getD, hi]
  rw [hg] at he ⊢
  rw [List.drop_eq_getElem_cons hi, List.set_eq_take_append_cons_drop, if_pos hi]
  generalize ts[i] = q at *
  obtain ⟨d, r⟩ := q
  simp at he
  simp [addT, he]

theorem Rd.two {w : World} {rb n j o1 o2 : Nat} {s : ByteArray} {tv : Value} (h : Rd w rb s n tv) (hne : rb ≠ j) (u v : Value) : Rd ((w.setCell ⟨j, o1, none⟩ u).setCell ⟨j, o2, none⟩ v) rb s n tv := by
  unfold Rd at h ⊢
  rw [Below.heap_setCell _ _ _ _ hne, Below.heap_setCell _ _ _ _ hne]
  exact h

set_option maxHeartbeats 4000000 in
theorem addTerm_any (s : ByteArray) (n rb : Nat) (tv : Value) (ts : List (Int × Nat)) (u v : Value) (c : Int) (p : Nat) (w : World) (B : Nat) (hR : Rd w rb s n tv) (hO : OwnT B w tv ts) (hu : IsI w u c) (hv : IsI w v (p : Int)) (fc : Fit c) (fp : Fit (p : Int)) (ft : ∀ i, i < ts.length → Fit (ts.getD i (0, 0)).1 ∧ Fit ((ts.getD i (0, 0)).2 : Int)) (hl : ts.length ≤ 1000) (hB : B ≤ rb) (hBw : B ≤ w.heap.size) :
    Calls Tryz.prog 83 #[.pointer (some ⟨rb, 0, none⟩), u, v] w fun e w' => e = .returned (.tuple #[]) ∧ (∃ tv', Rd w' rb s n tv' ∧ OwnT B w' tv' (addT c p ts)) ∧ Kp B w w' := by
  have hlt0 := hR.lt
  obtain ⟨ta, tcp, rfl⟩ := hO.val
  obtain ⟨ub, ua, un, uc, rfl⟩ := hu.form
  obtain ⟨vb, va, vn, vc, rfl⟩ := hv.form
  obtain ⟨R, HRes⟩ : ∃ R, Hid (addT c p ts = R) := ⟨_, rfl⟩
  rw [HRes.out]
  go_enter Tryz.func83, Tryz.ntmps83
  go_wp2_with fail
  generalize hW : (w.alloc (Obj.cells #[Value.bool ub, Value.slice ua un uc] 70)).alloc (Obj.cells #[Value.bool vb, Value.slice va vn vc] 70) = W0
  obtain ⟨hz0, hb0, X0, X1⟩ := two_new hW
  clear hW
  have hI0 : IsB W0 w.heap.size c := ⟨_, _, X0, hu.below hb0⟩
  have hI1 : IsB W0 (w.heap.size + 1) (p : Int) := ⟨_, _, X1, hv.below hb0⟩
  have hR0 := hR.below hb0
  have hO0 := hO.below hb0
  clear X0 X1 hu hv hR hO
  go_loopw [6] (fun i wr => ∃ (k : Nat), k ≤ ts.length ∧ i = .int .i64 k ∧ Rd wr rb s n (.slice ta ts.length tcp) ∧ OwnT B wr (.slice ta ts.length tcp) ts ∧ IsB wr w.heap.size c ∧ IsB wr (w.heap.size + 1) (p : Int) ∧ Hid (ts.take k ++ addT c p (ts.drop k) = R) ∧ Kp B w wr) (fun i _ => ts.length - (intOf i).toNat)
  case atStart => exact ⟨0, Nat.zero_le _, rfl, hR0, hO0, hI0, hI1, HRes, Kg.of hb0 hBw⟩
  case round =>
    clear hR0 hO0 hI0 hI1
    obtain ⟨k, hk, rfl, hRk, hOk, hI0, hI1, HE, hKp⟩ := hrel
    have c2 := hRk.c2
    have hsz := hKp.bel.size
    by_cases hlt : k < ts.length
    · obtain ⟨g, b, xa, xn, xc, d, ya, yn, yc, rfl, hc1, hc2, hg, hBg, e0, e1, e2, e3, ef, hIx, hIy⟩ := hOk.at k hlt
      obtain ⟨qb, qa, qn, qc, Q1, J1⟩ := hI1.open
      have q0 := Q1.c0; have q1 := Q1.c1
      obtain ⟨pw, HPW⟩ : ∃ pw, Hid ((ts.getD k (0, 0)).2 = pw) := ⟨_, rfl⟩
      have hft := ft k hlt
      rw [HPW.out] at hIy hft
      have hC := fun (W : World) (g1 : IsI W (.agg #[.bool d, .slice ya yn yc]) (pw : Int)) (g2 : IsI W (.agg #[.bool qb, .slice qa qn qc]) (p : Int)) => compare_any _ _ (pw : Int) (p : Int) W g1 g2 hft.2 fp
      have hrl := hRk.lt
      by_cases hpw : pw = p
      · have hz : cmp3 (pw : Int) (p : Int) = 0 := by rw [hpw]; exact cmp3_eq _
        simp only [hz] at hC
        have HC : Hid _ := hC
        have hHit : Hid (ts.set k ((ts.getD k (0, 0)).1 + c, (ts.getD k (0, 0)).2) = R) := by
          rw [← addT_hit (c := c) (p := p) hlt (HPW.out.trans hpw)]; exact HE
        clear hC hz HE
        go_wp2_with fail
        go_region_held3 (fun w' => w'.cell? ⟨rb, 2, none⟩ = some (.slice (some ⟨g, 0, none⟩) ts.length tcp) ∧ w'.cell? ⟨g, k * 4 + 2, none⟩ = some (.bool d) ∧ w'.cell? ⟨g, k * 4 + 3, none⟩ = some (.slice ya yn yc) ∧ w'.cell? ⟨w.heap.size + 1, 0, none⟩ = some (.bool qb) ∧ w'.cell? ⟨w.heap.size + 1, 1, none⟩ = some (.slice qa qn qc))
          (first | exact ⟨c2, e2, e3, q0, q1⟩ | exact ⟨s2, t2, t3, u0, u1⟩)
          (first | (go_at_call 57; refine (HC.out _ (by exact hIy) (by exact J1)).mono ?_; rintro e w1 ⟨rfl, hb1'⟩; have hb1 := of_drew hb1'; clear hb1'; have s2 := (hb1.cell (p := ⟨rb, 2, none⟩) hrl).trans c2; have t2 := (hb1.cell (p := ⟨g, k * 4 + 2, none⟩) hg).trans e2; have t3 := (hb1.cell (p := ⟨g, k * 4 + 3, none⟩) hg).trans e3; have u0 := (hb1.cell (p := ⟨w.heap.size + 1, 0, none⟩) Q1.lt).trans q0; have u1 := (hb1.cell (p := ⟨w.heap.size + 1, 1, none⟩) Q1.lt).trans q1))
        all_goals go_wp2_with fail
        have hR1 := hRk.below hb1
        have hO1 := hOk.below hb1
        have hIx1 := hIx.below hb1
        obtain ⟨nb, na, nn, nc, N0, J0⟩ := (hI0.below hb1).open
        have hK1 := hKp.step hb1 hBw
        have n0 := N0.c0; have n1 := N0.c1
        have t0 := (hb1.cell (p := ⟨g, k * 4, none⟩) hg).trans e0
        have t1 := (hb1.cell (p := ⟨g, k * 4 + 1, none⟩) hg).trans e1
        have f0 : w1.frozen? ⟨g, k * 4, none⟩ = false := (hb1.frozen (p := ⟨g, k * 4, none⟩) hg).trans (ef _)
        have f1 : w1.frozen? ⟨g, k * 4 + 1, none⟩ = false := (hb1.frozen (p := ⟨g, k * 4 + 1, none⟩) hg).trans (ef _)
        have hg1 : g < w1.heap.size := Nat.lt_of_lt_of_le hg hb1.size
        have hr1 := hR1.lt
        obtain ⟨cz, HCZ⟩ : ∃ cz, Hid ((ts.getD k (0, 0)).1 = cz) := ⟨_, rfl⟩
        have hfx := hft.1
        rw [HCZ.out] at hIx1 hfx
        have HA : Hid _ := fun (W : World) (g1 : IsI W (.agg #[.bool b, .slice xa xn xc]) cz) (g2 : IsI W (.agg #[.bool nb, .slice na nn nc]) c) => add_any _ _ cz c W g1 g2 hfx fc
        clear c2 e0 e1 e2 e3 ef q0 q1 t2 t3 u0 u1 Q1 J1 hRk hOk hIx hIy hI0 hI1 hKp HC hrl hg hb1
        have hgrb : rb ≠ g := by
          intro e
          obtain ⟨cur, hcur⟩ := hO1.typ g rfl
          unfold Rd at hR1
          rw [e, hcur] at hR1
          simp at hR1
        go_region_with (first | (go_at_call 80; refine (HA.out _ (by exact hIx1) (by exact J0)).mono ?_; rintro e w2 ⟨v2, rfl, hI2, hb2'⟩; have hb2 := of_drew hb2'; clear hb2'; obtain ⟨mb, ma, mn, mc, rfl⟩ := hI2.form; have s2' := (hb2.cell (p := ⟨rb, 2, none⟩) hr1).trans s2; have t0' := (hb2.cell (p := ⟨g, k * 4, none⟩) hg1).trans t0; have t1' := (hb2.cell (p := ⟨g, k * 4 + 1, none⟩) hg1).trans t1; have f0' := (hb2.frozen (p := ⟨g, k * 4, none⟩) hg1).trans f0; have f1' := (hb2.frozen (p := ⟨g, k * 4 + 1, none⟩) hg1).trans f1))
        all_goals go_wp2_with fail
        all_goals
          have hst := (hO1.below hb2).store k hlt hI2
          rw [HCZ.out] at hHit
          rw [hHit.out] at hst
          refine bodyPost_ret (v := .tuple #[]) (by simp [results, Tryz.results83, go_sem]) rfl ⟨rfl, ⟨_, (hR1.below hb2).two hgrb _ _, hst⟩, ?_⟩
          obtain ⟨cur, hcur⟩ := (hO1.below hb2).typ g rfl
          exact ((hK1.step hb2 hBw).set hBg ⟨_, _, _, hcur, .inr rfl⟩).set hBg ⟨_, _, _, heap_setCell_same w2 g (k * 4) cur _ _ hcur, .inr rfl⟩
      · have hz : (cmp3 (pw : Int) (p : Int) == 0) = false := by
          rcases (show (pw : Int) < p ∨ (p : Int) < pw by omega) with h | h
          · rw [cmp3_lt h]; rfl
          · rw [cmp3_gt h]; rfl
        generalize cmp3 (pw : Int) (p : Int) = cz at *
        have HC : Hid _ := hC
        have HE2 : Hid (ts.take (k + 1) ++ addT c p (ts.drop (k + 1)) = R) := by
          have h1 := HE.out
          rw [addT_skip hlt (by rw [HPW.out]; exact hpw), ← List.append_assoc] at h1
          have h3 : ts.take k ++ (ts.drop k).take 1 = ts.take (k + 1) := by rw [List.drop_eq_getElem_cons hlt, List.take_succ_eq_append_getElem hlt]; rfl
          rw [h3] at h1
          exact h1
        clear hC HE
        go_wp2_with fail
        go_region_held3 (fun w' => w'.cell? ⟨rb, 2, none⟩ = some (.slice (some ⟨g, 0, none⟩) ts.length tcp) ∧ w'.cell? ⟨g, k * 4 + 2, none⟩ = some (.bool d) ∧ w'.cell? ⟨g, k * 4 + 3, none⟩ = some (.slice ya yn yc) ∧ w'.cell? ⟨w.heap.size + 1, 0, none⟩ = some (.bool qb) ∧ w'.cell? ⟨w.heap.size + 1, 1, none⟩ = some (.slice qa qn qc))
          (first | exact ⟨c2, e2, e3, q0, q1⟩ | exact ⟨s2, t2, t3, u0, u1⟩)
          (first | (go_at_call 57; refine (HC.out _ (by exact hIy) (by exact J1)).mono ?_; rintro e w1 ⟨rfl, hb1'⟩; have hb1 := of_drew hb1'; clear hb1'; have s2 := (hb1.cell (p := ⟨rb, 2, none⟩) hrl).trans c2; have t2 := (hb1.cell (p := ⟨g, k * 4 + 2, none⟩) hg).trans e2; have t3 := (hb1.cell (p := ⟨g, k * 4 + 3, none⟩) hg).trans e3; have u0 := (hb1.cell (p := ⟨w.heap.size + 1, 0, none⟩) Q1.lt).trans q0; have u1 := (hb1.cell (p := ⟨w.heap.size + 1, 1, none⟩) Q1.lt).trans q1))
        all_goals go_wp2_with fail
        go_roundw
        case rel => exact ⟨k + 1, by omega, by go_num, hRk.below hb1, hOk.below hb1, hI0.below hb1, hI1.below hb1, HE2, hKp.step hb1 hBw⟩
        case measure => simp [intOf]; omega
    · obtain rfl : k = ts.length := by omega
      have hR2 : Hid (ts ++ [(c, p)] = R) := by
        have h1 := HE.out
        rw [List.take_length, List.drop_length] at h1
        exact h1
      obtain ⟨nb, na, nn, nc, N0, J0⟩ := hI0.open
      obtain ⟨qb, qa, qn, qc, Q1, J1⟩ := hI1.open
      have n0 := N0.c0; have n1 := N0.c1
      have q0 := Q1.c0; have q1 := Q1.c1
      have f2 := hRk.f1 2
      have hrl := hRk.lt
      have hn0 := N0.lt
      have hq1 := Q1.lt
      have hbA : Below wr.heap.size wr (wr.alloc (Obj.cells #[Value.bool nb, Value.slice na nn nc, Value.bool qb, Value.slice qa qn qc] 90)).drew := ((Below.refl _ _).alloc (Nat.le_refl _) _).drew
      have hOA := hOk.below hbA
      have hJ0A := J0.below hbA
      have hJ1A := J1.below hbA
      have hRA := hRk.below hbA
      have hBA : B ≤ (wr.alloc (Obj.cells #[Value.bool nb, Value.slice na nn nc, Value.bool qb, Value.slice qa qn qc] 90)).drew.heap.size := Nat.le_trans (Nat.le_trans hBw hsz) hbA.size
      have hcA : ∀ j q, [Value.bool nb, Value.slice na nn nc, Value.bool qb, Value.slice qa qn qc][j]? = some q → (wr.alloc (Obj.cells #[Value.bool nb, Value.slice na nn nc, Value.bool qb, Value.slice qa qn qc] 90)).drew.cell? ((⟨wr.heap.size, 0, none⟩ : Addr).add j) = some q := by
        intro j q hj
        match j, hj with
        | 0, hj => simp at hj; subst hj; simp [Addr.add]
        | 1, hj => simp at hj; subst hj; simp [Addr.add]
        | 2, hj => simp at hj; subst hj; simp [Addr.add]
        | 3, hj => simp at hj; subst hj; simp [Addr.add]
      have hKA : Kp B w (wr.alloc (Obj.cells #[Value.bool nb, Value.slice na nn nc, Value.bool qb, Value.slice qa qn qc] 90)).drew := hKp.step hbA hBw
      have hRd2 : Hid (∀ w2 : World, (wr.alloc (Obj.cells #[Value.bool nb, Value.slice na nn nc, Value.bool qb, Value.slice qa qn qc] 90)).drew.grownBy w2 (Value.slice ta ts.length tcp).ownBlock → Rd w2 rb s n (.slice ta ts.length tcp)) := by
        intro w2 hg2
        unfold Rd
        rw [hg2.block rb hRA.lt (fun e => ?_)]
        · exact hRA
        · obtain ⟨cur, hcur⟩ := hOA.typ rb e.symm
          unfold Rd at hRA
          rw [hRA] at hcur
          simp at hcur
      have HOA : Hid _ := hOA; have HJ0 : Hid _ := hJ0A; have HJ1 : Hid _ := hJ1A; have HCA : Hid _ := hcA; have HBA : Hid _ := hBA; have HKA : Hid _ := hKA
      have hl2 : ts.length ≤ 1000000 := by omega
      clear hOA hJ0A hJ1A hRA hBA hcA hKA hbA
      go_wp2_with fail
      go_region_law (refine step_pushT rfl (.tmp 48) (.tmp 52) rfl B (.slice ta ts.length tcp) ts nb qb (.slice na nn nc) (.slice qa qn qc) c p wr.heap.size rfl rfl HOA.out HJ0.out HJ1.out HCA.out hl2 HBA.out ?_; intro v' w2 hO2 hK2 hg2; obtain ⟨va', vc', rfl⟩ := hO2.val; have hR3 := hRd2.out w2 hg2; have d2 := hR3.c2; have g2' := hR3.f1 2)
      all_goals go_wp2_with fail
      all_goals
        have hO3 := hO2
        rw [show (ts ++ [(c, p)]).length = ts.length + 1 by simp, hR2.out] at hO3
        go_end0
        exact ⟨rfl, ⟨_, hR3.set2 _, hO3.set ⟨_, _, _, hR3, rfl⟩⟩, (HKA.out.trans hK2).set hB hR3.typ⟩

end Go.Proofs.YtldcjkhbiffdoabGreatDoor
