import Derived.Test.YtldcjkhbiffdoabGreatDoorM17
import Derived.Test.YtldcjkhbiffdoabGreatDoorM09

namespace Go.Proofs.YtldcjkhbiffdoabGreatDoor
open Go.RowKit

theorem wp_pushI {o : Oper} {a : Act} {K : Act → World → Prop} {Q : Exit → Act → World → Prop} {wr : World} (s x : Operand)
    (ho : o.op = .call { callee := .builtin .append, args := #[s, x], argTypes := #[65, 65] })
    (B : Nat) (v : Value) (zs : List Int) (b : Bool) (y : Value) (z : Int) (hs : a.eval s = v) (hown : OwnL B wr v zs) (hz : IsI wr (.agg #[.bool b, y]) z) (hx : a.eval x = .slice (some ⟨wr.heap.size, 0, none⟩) 1 1)
    (hlen : zs.length ≤ 1000000000) (hB : B ≤ wr.heap.size)
    (h : ∀ v' w', OwnL B w' v' (zs ++ [z]) → Below B wr w' → K (a.put o.dst v') w') :
    o.wp Tryz.prog a (wr.alloc (.cells #[.bool b, y] 70)) K Q := by
  obtain ⟨i, hi, hz0, hz1, hz2⟩ := info_parts Tryz.infoInt
  have htyp := hown.typ
  have hblk := hown.block
  obtain ⟨cs, h1, h2, h3⟩ := hown
  have hy1 : y.oneCell' = true := by
    obtain ⟨b', x', l, e, hr, _⟩ := hz
    simp at e
    obtain ⟨_, rfl⟩ := e
    obtain ⟨xa, xc, rfl⟩ := hr.val
    rfl
  refine wp_append_own _ s x 65 ho B 70 i (.agg #[.bool false, .slice none 0 0]) 2 32 Tryz.sliceInt hi hz0 hz1 hz2 rfl (by decide) v zs.length (flat cs) hs (World.ownsRow.alloc h2 _) ⟨wr.heap.size, 0, none⟩ 1 1 [.bool b, y] hx rfl ?_ ?_ ?_ ?_ ?_ ?_
  · exact cell_two_new wr (.bool b) y 70
  · intro u hu
    simp at hu
    rcases hu with rfl | rfl
    · rfl
    · exact hy1
  · unfold maxLen; omega
  · omega
  · simp; omega
  · intro v' w' g1 g2 _
    have hg : wr.grownBy w' v.ownBlock := by
      have h0 := World.grownBy_alloc wr (.cells #[.bool b, y] 70) v.ownBlock
      exact ⟨g2.os.trans h0.os, g2.tape.trans h0.tape, g2.output.trans h0.output, Nat.le_trans h0.size g2.size, fun k hk hne => (g2.block k (by simp; omega) hne).trans (h0.block k hk hne)⟩
    refine h v' w' ⟨cs ++ [(b, y)], by simp [h1], ?_, ?_⟩ ((Below.refl _ _).grown hg hB hblk)
    · rw [flat_append]
      simpa [flat] using g1
    · intro j p hj
      by_cases hjl : j < cs.length
      · rw [List.getElem?_append_left hjl] at hj
        have hj2 : (zs ++ [z]).getD j 0 = zs.getD j 0 := by simp [List.getD, List.getElem?_append_left (show j < zs.length by omega)]
        rw [hj2]
        exact (h3 j p hj).kept hg htyp
      · rw [List.getElem?_append_right (by omega)] at hj
        have hj0 : j - cs.length = 0 := by
          rcases Nat.eq_zero_or_pos (j - cs.length) with h0 | h0
          · exact h0
          · rw [List.getElem?_eq_none (by simp; omega)] at hj; simp at hj
        rw [hj0] at hj
        simp at hj
        subst hj
        have hj2 : (zs ++ [z]).getD j 0 = z := by
          rw [show j = zs.length by omega]; simp [List.getD]
        rw [hj2]
        exact hz.kept hg htyp

theorem h_op {P : Program} {ops : Array Oper} {Q : Exit → Act → World → Prop} {S : World → Prop} {fuel : Nat} {listed : Array Bool} {a : Act} {w : World} (i : Nat) (d : Tmp) {o : Oper} (Post : Value → World → Prop) (ho : ops[i]? = some o) (hd : o.dst = some d) (hr : Region.ready .any ops listed = [i]) (hb : Region.wanted o (yielded ops a.tmps) = true)
    (hw : ∀ K : Act → World → Prop, (∀ v' w', Post v' w' → K (a.put o.dst v') w') → Oper.wp P o a w K Q)
    (h : ∀ v' w', Post v' w' → S w' ∧ wpAnyH P .any ops Q S fuel (listed.setIfInBounds i true) (a.put (some d) v') w') : wpAnyH P .any ops Q S (fuel + 1) listed a w :=
  wpAnyH_ready hr (by simp) (AllReadyH.cons ho (fun K' hK => by
    rw [if_pos hb]
    refine hw K' fun v' w' hp => ?_
    obtain ⟨h1, h2⟩ := h v' w' hp
    rw [hd]
    exact hK.out _ _ h1 fun _ => h2) AllReadyH.nil)

set_option maxRecDepth 100000 in
set_option maxHeartbeats 4000000 in
theorem times_any (zs : List Int) (z : Int) (e f n : Nat) (u v : Value) (w : World) (hu : IsL w u zs) (hv : IsI w v z) (hl : zs.length ≤ 1000) (hn : n ≤ 1000) (fx : Bd zs e) (fz : z.natAbs < 10 ^ f) (he : e ≤ 80000000) (hf : f ≤ 80000000) :
    Calls Tryz.prog 49 #[u, v, .int .i64 n] w fun en w' => ∃ x, en = .returned x ∧ OwnL w.heap.size w' x (List.replicate n 0 ++ zs.map fun x => x * z) ∧ Below w.heap.size w w' := by
  obtain ⟨ua, uc, rfl⟩ := OwnL.val hu
  obtain ⟨vb, va, vn, vc, rfl⟩ := hv.form
  have fzi : Fit z := fitW_of fz hf
  go_enter Tryz.func49, Tryz.ntmps49
  go_wp2_with fail
  generalize hW : w.alloc (Obj.cells #[Value.bool vb, Value.slice va vn vc] 70) = W0
  obtain ⟨hb0, X0⟩ := one_new hW
  have hs0 : W0.heap.size = w.heap.size + 1 := by rw [← hW]; simp
  clear hW
  go_loopw [7, 8] (fun l i wr => ∃ (k : Nat), k ≤ n ∧ i = .int .i64 k ∧ OwnL (w.heap.size + 1) wr l (List.replicate k 0) ∧ Below (w.heap.size + 1) W0 wr) (fun _ i _ => n - (intOf i).toNat)
  case atStart =>
    refine ⟨0, Nat.zero_le _, rfl, ?_, (Below.refl _ _).alloc (by omega) _⟩
    have := OwnL.lit (w := W0) rfl
    rw [hs0] at this
    exact this
  case round =>
    obtain ⟨k, hk, rfl, hown, hbel⟩ := hrel
    obtain ⟨L, HL⟩ : ∃ L, Hid (List.replicate k (0 : Int) = L) := ⟨_, rfl⟩
    have hll : (List.replicate k (0 : Int)).length ≤ 1000 := by simp; omega
    have hsu : List.replicate (k + 1) (0 : Int) = List.replicate k 0 ++ [0] := List.replicate_succ'
    have HSU : Hid _ := hsu
    clear hsu
    by_cases hlt : k < n
    · rw [HL.out] at hown hll
      go_wp2_with (at_builtin; refine wpList_pushI rfl (.tmp 16) (.tmp 18) rfl (w.heap.size + 1) _ L _ _ 0 rfl hown zeroInt rfl (by omega) (by have := hbel.size; omega) ?_)
      intro v6 w6 hown6 hb6 _
      rw [← HL.out, ← HSU.out] at hown6
      go_wp2
      go_roundw
      case rel => exact ⟨k + 1, by omega, by go_num, hown6, hbel.trans hb6⟩
      case measure => simp [intOf]; omega
    · obtain rfl : k = n := by omega
      clear HSU HL
      go_wp2_with fail
      go_loopw [7, 9] (fun l i wq => ∃ (j : Nat), j ≤ zs.length ∧ i = .int .i64 j ∧ OwnL (w.heap.size + 1) wq l (List.replicate k 0 ++ (zs.take j).map fun x => x * z) ∧ Below (w.heap.size + 1) W0 wq) (fun _ i _ => zs.length - (intOf i).toNat)
      case atStart => exact ⟨0, Nat.zero_le _, rfl, by simpa using hown, hbel⟩
      case round =>
        clear hown hbel hll L
        obtain ⟨j, hj, rfl, hown, hbel⟩ := hrel
        have hbq : Below w.heap.size w wr := hb0.trans (hbel.mono (by omega))
        have hlen : (List.replicate k (0 : Int) ++ (zs.take j).map fun x => x * z).length ≤ 3000 := by simp; omega
        by_cases hlt2 : j < zs.length
        · have hsu : (List.replicate k (0 : Int) ++ (zs.take (j + 1)).map fun x => x * z) = (List.replicate k 0 ++ (zs.take j).map fun x => x * z) ++ [zs.getD j 0 * z] := by
            rw [List.take_succ_eq_append_getElem hlt2, ← getD_lt hlt2]
            simp
          have HSU : Hid _ := hsu
          clear hsu
          obtain ⟨L, HL⟩ : ∃ L, Hid ((List.replicate k (0 : Int) ++ (zs.take j).map fun x => x * z) = L) := ⟨_, rfl⟩
          rw [HL.out] at hown hlen
          obtain ⟨oa, oc, rfl⟩ := OwnL.val hown
          obtain ⟨g, b, xa, xn, xc, rfl, hc1, hc2, hg0, _, hc0, hcx, hI0⟩ := OwnL.at hu j hlt2
          have fxi : Fit (zs.getD j 0) := fitW_of (fx j) he
          have hI := hI0.below hbq
          generalize zs.getD j 0 = x at *
          have hvq := hv.below hbq
          have hM := fun (W : World) (g1 : IsI W (.agg #[.bool b, .slice xa xn xc]) x) (g2 : IsI W (.agg #[.bool vb, .slice va vn vc]) z) => mul_any _ _ x z W g1 g2 fxi fzi
          have HM : Hid _ := hM
          clear hM
          have hSV : ∀ W, Below (w.heap.size + 1) W0 W → W.cell? ⟨g, j * 2, none⟩ = some (.bool b) ∧ W.cell? ⟨g, j * 2 + 1, none⟩ = some (.slice xa xn xc) ∧ W.cell? ⟨w.heap.size, 0, none⟩ = some (.bool vb) ∧ W.cell? ⟨w.heap.size, 1, none⟩ = some (.slice va vn vc) := fun W h => by
            have hw : Below w.heap.size w W := hb0.trans (h.mono (by omega))
            have Y0 : Bx W w.heap.size (.bool vb) (.slice va vn vc) := by unfold Bx; rw [h.block _ (by omega)]; exact X0
            exact ⟨(hw.cell (p := ⟨g, j * 2, none⟩) hg0).trans hc0, (hw.cell (p := ⟨g, j * 2 + 1, none⟩) hg0).trans hcx, Y0.c0, Y0.c1⟩
          have hbd : Below (w.heap.size + 1) W0 wr.drew := ⟨hbel.os, hbel.tape, hbel.output, hbel.size, hbel.block⟩
          have hbdw : Below wr.heap.size wr wr.drew := ⟨rfl, rfl, rfl, Nat.le_refl _, fun _ _ => rfl⟩
          have hji : (j : Int) < (zs.length : Int) := by omega
          have hji0 : (0 : Int) ≤ (j : Int) := by omega
          go_wp2_with fail
          refine wp_region_held_drew (S := fun W => W.cell? ⟨g, j * 2, none⟩ = some (.bool b) ∧ W.cell? ⟨g, j * 2 + 1, none⟩ = some (.slice xa xn xc) ∧ W.cell? ⟨w.heap.size, 0, none⟩ = some (.bool vb) ∧ W.cell? ⟨w.heap.size, 1, none⟩ = some (.slice va vn vc)) (by kernel_rfl) (hSV _ hbd) fun hS => ?_
          refine h_take 0 26 (.slice oa L.length oc) rfl rfl (by kernel_rfl) (by kernel_rfl) (by kernel_rfl) (fun _ _ _ h => h) rfl (fun _ _ => rfl) hS ?_
          simp only [Act.put, tA, tB, tC]
          refine h_take 1 27 (.slice (some ⟨g, 0, none⟩) zs.length uc) rfl rfl (by kernel_rfl) (by kernel_rfl) (by kernel_rfl) (fun _ _ _ h => h) rfl (fun _ _ => rfl) hS ?_
          simp only [Act.put, tA, tB, tC]
          refine h_take 2 28 (.int .i64 (j : Int)) rfl rfl (by kernel_rfl) (by kernel_rfl) (by kernel_rfl) (fun _ _ _ h => h) rfl (fun _ _ => rfl) hS ?_
          simp only [Act.put, tA, tB, tC]
          refine h_take 3 29 (.pointer (some ⟨g, j * 2, none⟩)) rfl rfl (by kernel_rfl) (by kernel_rfl) (by kernel_rfl) (fun _ _ _ h => h) rfl (fun _ _ => by go_simp) hS ?_
          simp only [Act.put, tA, tB, tC]
          refine h_take 4 30 (.agg #[.bool b, .slice xa xn xc]) rfl rfl (by kernel_rfl) (by kernel_rfl) (by kernel_rfl) (fun _ _ _ h => h) rfl (fun w' hw' => by obtain ⟨y0, y1, y2, y3⟩ := hw'; go_simp) hS ?_
          simp only [Act.put, tA, tB, tC]
          refine h_take 5 31 (.agg #[.bool vb, .slice va vn vc]) rfl rfl (by kernel_rfl) (by kernel_rfl) (by kernel_rfl) (fun _ _ _ h => h) rfl (fun w' hw' => by obtain ⟨y0, y1, y2, y3⟩ := hw'; go_simp) hS ?_
          simp only [Act.put, tA, tB, tC]
          refine h_call 6 32 69 #[.agg #[.bool b, .slice xa xn xc], .agg #[.bool vb, .slice va vn vc]] rfl rfl (by kernel_rfl) rfl (by go_simp) ?_
          refine (HM.out wr.drew (hI.below hbdw) (hvq.below hbdw)).mono ?_
          rintro en w5 ⟨x5, rfl, hI5, hb5⟩
          obtain ⟨b5, a5, n5, c5, rfl⟩ := hI5.form
          have hs5 : w.heap.size + 1 ≤ wr.drew.heap.size := by have := hbd.size; omega
          have hb5w : Below (w.heap.size + 1) W0 w5 := hbd.trans (hb5.mono hs5)
          have hown5 := OwnL.below (OwnL.below hown hbdw) hb5
          have hsz5 : w.heap.size + 1 ≤ w5.heap.size := Nat.le_trans hs5 hb5.size
          refine ⟨_, rfl, hSV _ hb5w, ?_⟩
          simp only [Act.put, tA, tB, tC]
          refine h_val 7 33 (.slice (some ⟨w5.heap.size, 0, none⟩) 1 1) (w' := w5.alloc (.cells #[.bool b5, .slice a5 n5 c5] 70)) rfl rfl (by kernel_rfl) rfl (by go_simp) (hSV _ (hb5w.alloc (by omega) _)) ?_
          simp only [Act.put, tA, tB, tC]
          refine h_op 8 34 (fun v' w' => OwnL (w.heap.size + 1) w' v' (L ++ [x * z]) ∧ Below (w.heap.size + 1) w5 w') rfl rfl (by kernel_rfl) rfl (fun K hK => wp_pushI (.tmp 26) (.tmp 33) rfl (w.heap.size + 1) _ L _ _ (x * z) rfl hown5 hI5 rfl (by omega) hsz5 fun v' w' g1 g2 => hK v' w' ⟨g1, g2⟩) ?_
          rintro v6 w6 ⟨hown6, hb6⟩
          have hb6w : Below (w.heap.size + 1) W0 w6 := hb5w.trans hb6
          rw [← HL.out, ← HSU.out] at hown6
          refine ⟨hSV _ hb6w, ?_⟩
          simp only [Act.put, tA, tB, tC]
          refine h_val 9 7 v6 (w' := w6) rfl rfl (by kernel_rfl) rfl rfl (hSV _ hb6w) ?_
          simp only [Act.put, tA, tB, tC]
          refine wpAnyH_done (by kernel_rfl) ?_ _
          go_wp2
          go_roundw
          case rel => exact ⟨j + 1, by omega, by go_num, hown6, hb6w⟩
          case measure => simp [intOf]; omega
        · obtain rfl : j = zs.length := by omega
          rw [List.take_length] at hown
          obtain ⟨oa, oc, hoe⟩ := OwnL.val hown
          subst hoe
          go_wp2
          go_ret
          exact ⟨_, rfl, hown.lower (by omega), hbq⟩

end Go.Proofs.YtldcjkhbiffdoabGreatDoor

namespace Go.Proofs.YtldcjkhbiffdoabGreatDoor
open Go.RowKit

theorem Fit.neg' {z : Int} (h : Fit z) : Fit (-z) := by
  obtain ⟨n, hn, h1⟩ := h
  exact ⟨n, hn, by simpa using h1⟩

set_option maxHeartbeats 1000000 in
theorem wsub_any (u v : Value) (z1 z2 : Int) (w : World) (hu : IsI w u z1) (hv : IsI w v z2) (f1 : Fit z1) (f2 : Fit z2) :
    Calls Tryz.prog 103 #[u, v] w fun e w' => ∃ v, e = .returned v ∧ IsI w' v (z1 - z2) ∧ Below w.heap.size w w' := by
  obtain ⟨b1, ua, un, uc, rfl⟩ := hu.form
  obtain ⟨b2, va, vn, vc, rfl⟩ := hv.form
  go_enter Tryz.func103, Tryz.ntmps103
  go_wp2_with fail
  generalize hW : ((w.alloc (Obj.cells #[Value.bool b1, Value.slice ua un uc] 70)).alloc (Obj.cells #[Value.bool b2, Value.slice va vn vc] 70)).alloc (Obj.cells #[Value.bool false, Value.slice none 0 0] 70) = W0
  obtain ⟨hz0, hb0, X0, X1, X2⟩ := three_new hW
  clear hW
  refine (neg_any _ z2 W0 (hv.below hb0) f2).mono ?_
  rintro e w1 ⟨v1, rfl, hI1, hb1⟩
  obtain ⟨b3, xa, xn, xc, rfl⟩ := hI1.form
  have Y0 := X0.below hb1; have Y2 := X2.below hb1
  have p0 := Y0.c0; have p1 := Y0.c1; have hl0 := Y0.lt; have hl2 := Y2.lt
  go_wp2_with fail
  generalize hW4 : w1.alloc (Obj.cells #[Value.bool b3, Value.slice xa xn xc] 70) = W4
  obtain ⟨hb4, _⟩ := one_new hW4
  clear hW4
  have Z2 := Y2.below hb4
  refine (add_any _ _ z1 (-z2) W4 (((hu.below hb0).below hb1).below hb4) (hI1.below hb4) f1 f2.neg').mono ?_
  rintro e w5 ⟨v5, rfl, hI5, hb5⟩
  obtain ⟨b5, ya, yn, yc, rfl⟩ := hI5.form
  have V2 := Z2.below hb5
  have r0 := V2.c0; have r1 := V2.c1; have r2 := V2.f0; have r3 := V2.f1
  have hbw : Below w.heap.size w w5 := ((hb0.trans (hb1.mono hb0.size)).trans (hb4.mono (by have := hb0.size; have := hb1.size; omega))).trans (hb5.mono (by have := hb0.size; have := hb1.size; have := hb4.size; omega))
  rw [show z1 + -z2 = z1 - z2 by omega] at hI5
  go_wp2
  refine bodyPost_ret (v := .agg #[.bool b5, .slice ya yn yc]) (by simp [results, Tryz.results103, go_sem, r0, r1]) rfl ⟨_, rfl, hI5.set2 V2 _ _, below_set2 hbw (by omega) _ _⟩

set_option maxHeartbeats 1000000 in
theorem pdiff_any (xs ys : List Int) (u v : Value) (w : World) (hu : IsL w u xs) (hv : IsL w v ys) (hl : xs.length ≤ 1000000) (hm : ys.length ≤ 1000000) (fx : FitW xs) (fy : FitW ys) :
    Calls Tryz.prog 78 #[u, v] w fun e w' => ∃ x, e = .returned x ∧ OwnL w.heap.size w' x (tab (max xs.length ys.length) fun k => xs.getD k 0 - ys.getD k 0) ∧ Below w.heap.size w w' := by
  obtain ⟨ua, uc, rfl⟩ := OwnL.val hu
  obtain ⟨va, vc, rfl⟩ := OwnL.val hv
  obtain ⟨f, HF⟩ : ∃ f : Nat → Int, Hid (f = fun k => xs.getD k 0 - ys.getD k 0) := ⟨_, rfl⟩
  rw [← HF.out]
  go_enter Tryz.func78, Tryz.ntmps78
  go_wp2_with fail
  go_loopw [5, 6] (fun o i wr => ∃ (k : Nat), k ≤ max xs.length ys.length ∧ i = .int .i64 k ∧ OwnL w.heap.size wr o (tab k f) ∧ Below w.heap.size w wr) (fun _ i _ => max xs.length ys.length - (intOf i).toNat)
  case atStart => exact ⟨0, Nat.zero_le _, rfl, OwnL.lit rfl, (Below.refl _ _).alloc (Nat.le_refl _) _⟩
  case round =>
    obtain ⟨k, hk, rfl, hown, hbel⟩ := hrel
    have hlen := tab_len k f
    by_cases hlt : k < max xs.length ys.length
    · have hc1 := numberAt_any xs (.slice ua xs.length uc) k wr (OwnL.below hu hbel)
      have hc2 := fun (W : World) (g : IsL W (.slice va ys.length vc) ys) => numberAt_any ys (.slice va ys.length vc) k W g
      have hsu := tab_succ k f
      have hfk : f k = xs.getD k 0 - ys.getD k 0 := by rw [HF.out]
      rw [hfk] at hsu
      have f1 := fx k
      have f2 := fy k
      generalize xs.getD k 0 = x at *
      generalize ys.getD k 0 = y at *
      have HSU : Hid _ := hsu
      clear hsu hfk
      obtain ⟨L, HL⟩ : ∃ L, Hid (tab k f = L) := ⟨_, rfl⟩
      rw [HL.out] at hown hlen
      have hll : L.length ≤ 1000000 := by omega
      clear hlen
      have hA := fun (W : World) (u1 u2 : Value) (g1 : IsI W u1 x) (g2 : IsI W u2 y) => wsub_any u1 u2 x y W g1 g2 f1 f2
      have HA : Hid _ := hA
      have HC2 : Hid _ := hc2
      clear hA hc2
      have hcase : k < xs.length ∨ (¬ k < xs.length ∧ k < ys.length) := by omega
      rcases hcase with h5 | ⟨h5, h6⟩
      all_goals
        go_wp2_with fail
        refine hc1.mono ?_
        rintro e w1 ⟨x1, rfl, hI1, hb1⟩
        obtain ⟨b1, a1, n1, c1, rfl⟩ := hI1.form
        have hbw1 := hbel.trans (hb1.mono hbel.size)
        go_wp2_with fail
        generalize hW2 : w1.alloc (Obj.cells #[Value.bool b1, Value.slice a1 n1 c1] 70) = W2
        obtain ⟨hb2, X2⟩ := one_new hW2
        clear hW2
        have hbw2 := hbw1.trans (hb2.mono hbw1.size)
        refine (HC2.out W2 (OwnL.below hv hbw2)).mono ?_
        rintro e w3 ⟨x3, rfl, hI3, hb3⟩
        obtain ⟨b3, a3, n3, c3, rfl⟩ := hI3.form
        have hbw3 := hbw2.trans (hb3.mono hbw2.size)
        have X3 := X2.below hb3
        have q0 := X3.c0; have q1 := X3.c1; have q2 := X3.lt
        have hI13 := (hI1.below hb2).below hb3
        go_wp2_with fail
        generalize hW4 : w3.alloc (Obj.cells #[Value.bool b3, Value.slice a3 n3 c3] 70) = W4
        obtain ⟨hb4, X4⟩ := one_new hW4
        clear hW4
        have hbw4 := hbw3.trans (hb4.mono hbw3.size)
        refine (HA.out W4 _ _ (hI13.below hb4) (hI3.below hb4)).mono ?_
        rintro e w5 ⟨x5, rfl, hI5, hb5⟩
        obtain ⟨b5, a5, n5, c5, rfl⟩ := hI5.form
        have hbw5 := hbw4.trans (hb5.mono hbw4.size)
        have hown5 := OwnL.below (OwnL.below (OwnL.below (OwnL.below (OwnL.below hown hb1) hb2) hb3) hb4) hb5
        go_wp2_with (at_builtin; refine wpList_pushI rfl (.tmp 28) (.tmp 32) rfl w.heap.size _ L _ _ (x - y) rfl hown5 hI5 rfl (by omega) hbw5.size ?_)
        intro v6 w6 hown6 hb6 _
        rw [← HL.out, ← HSU.out] at hown6
        go_wp2
        go_roundw
        case rel => exact ⟨k + 1, by omega, by go_num, hown6, hbw5.trans hb6⟩
        case measure => simp [intOf]; omega
    · obtain rfl : k = max xs.length ys.length := by omega
      have h5 : ¬ max xs.length ys.length < xs.length := by omega
      have h6 : ¬ max xs.length ys.length < ys.length := by omega
      obtain ⟨oa, oc, rfl⟩ := OwnL.val hown
      go_wp2
      go_ret
      exact ⟨_, rfl, hown, hbel⟩

end Go.Proofs.YtldcjkhbiffdoabGreatDoor

namespace Go.Proofs.YtldcjkhbiffdoabGreatDoor
open Go.RowKit

theorem map_mul_getD (zs : List Int) (z : Int) (k : Nat) : (zs.map fun x => x * z).getD k 0 = zs.getD k 0 * z := by
  rcases Nat.lt_or_ge k zs.length with h | h
  · simp [List.getD, List.getElem?_map, List.getElem?_eq_getElem h]
  · rw [getD_out (by simpa using h), getD_out h]; simp

theorem rest1_same (R b : List Int) (n : Nat) :
    (tab (max (List.replicate 0 0 ++ R.map fun x => x * lead b).length (List.replicate n 0 ++ b.map fun x => x * R.getD (n + b.length - 1) 0).length) fun k => (List.replicate 0 0 ++ R.map fun x => x * lead b).getD k 0 - (List.replicate n 0 ++ b.map fun x => x * R.getD (n + b.length - 1) 0).getD k 0) = rest1 R b n := by
  have h1 : (List.replicate 0 0 ++ R.map fun x => x * lead b).length = R.length := by simp
  have h2 : (List.replicate n 0 ++ b.map fun x => x * R.getD (n + b.length - 1) 0).length = n + b.length := by simp
  unfold rest1
  rw [h1, h2]
  unfold tab
  refine List.map_congr_left fun k _ => ?_
  rw [getD_rep_app, getD_rep_app, map_mul_getD, map_mul_getD]
  simp only [Nat.not_lt_zero, if_false, Nat.sub_zero]
  by_cases h : k < n
  · rw [if_pos h, if_neg (by omega)]
  · rw [if_neg h, if_pos (by omega)]

theorem Bd.timesW {zs : List Int} {z : Int} {e f n : Nat} (h : Bd zs e) (hz : z.natAbs < 10 ^ f) : Bd (List.replicate n 0 ++ zs.map fun x => x * z) (e + f) := by
  intro k
  rw [getD_rep_app]
  split
  · exact Nat.pow_pos (by omega)
  · rw [map_mul_getD, Int.natAbs_mul, Nat.pow_add]
    exact Nat.mul_lt_mul'' (h _) hz

set_option maxRecDepth 100000 in
set_option maxHeartbeats 4000000 in
theorem restOf_any (A0 b : List Int) (e f : Nat) (u v : Value) (w : World) (hu : IsL w u A0) (hv : IsL w v b) (hl : A0.length ≤ 100) (hm : b.length ≤ 100) (fx : Bd A0 e) (fy : Bd b f) (he : e + (A0.length + 1 - b.length) * (f + 1) + f ≤ 70000000) (ta : Tr A0) (tb : Tr b) (hb0 : b ≠ []) (hp : prim A0 = A0) :
    Calls Tryz.prog 79 #[u, v] w fun en w' => ∃ x R, en = .returned x ∧ IsL w' x R ∧ R.length ≤ A0.length ∧ RO b A0 R 0 ∧ Bd R (e + (A0.length + 1 - b.length) * (f + 1)) ∧ Below w.heap.size w w' := by
  obtain ⟨ua, uc, rfl⟩ := OwnL.val hu
  obtain ⟨va, vc, rfl⟩ := OwnL.val hv
  have hbl := List.length_pos_iff.2 hb0
  obtain ⟨N, HN⟩ : ∃ N, Hid (A0.length + 1 - b.length = N) := ⟨_, rfl⟩
  have hstart := RO.start (b := b) ta hp
  rw [HN.out] at hstart he ⊢
  have hNl : N ≤ A0.length := by have := HN.out; omega
  have hNa : 0 < N → N + b.length = A0.length + 1 := by have := HN.out; omega
  have hNb : N = 0 → A0.length < b.length := by have := HN.out; omega
  have HST : Hid (RO b A0 A0 N ∧ Bd A0 (e + (N - N) * (f + 1))) := ⟨hstart, fx.mono (by omega)⟩
  obtain ⟨T, HT⟩ : ∃ T : World → Value → Prop, Hid (T = fun w' x => ∃ R, IsL w' x R ∧ R.length ≤ A0.length ∧ RO b A0 R 0 ∧ Bd R (e + N * (f + 1))) := ⟨_, rfl⟩
  have hgoal : (fun en w' => ∃ x R, en = Ending.returned x ∧ IsL w' x R ∧ R.length ≤ A0.length ∧ RO b A0 R 0 ∧ Bd R (e + N * (f + 1)) ∧ Below w.heap.size w w') = fun en w' => ∃ x, en = Ending.returned x ∧ T w' x ∧ Below w.heap.size w w' := by
    funext en w'
    rw [HT.out]
    apply propext
    constructor
    · rintro ⟨x, R, h1, h2, h3, h4, h5, h6⟩; exact ⟨x, h1, ⟨R, h2, h3, h4, h5⟩, h6⟩
    · rintro ⟨x, h1, ⟨R, h2, h3, h4, h5⟩, h6⟩; exact ⟨x, R, h1, h2, h3, h4, h5, h6⟩
  rw [hgoal]
  clear hgoal hstart
  have hN1 := numberAt_any b (.slice va b.length vc) (b.length - 1) w hv
  obtain ⟨m2, HM2⟩ : ∃ m, Hid (b.length - 1 = m) := ⟨_, rfl⟩
  have hm2 : (b.length : Int) - 1 = m2 := by have := HM2.out; omega
  have hlead : b.getD (b.length - 1) 0 = lead b := rfl
  rw [hlead, HM2.out] at hN1
  have flb : (lead b).natAbs < 10 ^ f := fy.lead
  clear hlead
  go_enter Tryz.func79, Tryz.ntmps79
  go_wp2_with fail
  refine hN1.mono ?_
  rintro en w1 ⟨x1, rfl, hI1, hb1⟩
  obtain ⟨b1, a1, n1, c1, rfl⟩ := hI1.form
  go_wp2_with fail
  generalize hW2 : w1.alloc (Obj.cells #[Value.bool b1, Value.slice a1 n1 c1] 70) = W2
  obtain ⟨hb2, X2⟩ := one_new hW2
  clear hW2
  have hbw2 := hb1.trans (hb2.mono hb1.size)
  have K2 : IsB W2 w1.heap.size (lead b) := ⟨_, _, X2, hI1.below hb2⟩
  have hkm := hb1.size
  clear X2 hI1 hb1 hb2 hN1
  generalize w1.heap.size = kb at *
  go_loopw [6, 7] (fun r i wr => ∃ (n : Nat) (R : List Int) (ii : Int), i = .int .i64 ii ∧ (0 < n → ii = (n : Int) - 1) ∧ (n = 0 → ii < 0) ∧ -1000 ≤ ii ∧ n ≤ N ∧ IsL wr r R ∧ R.length ≤ A0.length ∧ Hid (RO b A0 R n ∧ Bd R (e + (N - n) * (f + 1))) ∧ IsB wr kb (lead b) ∧ Below w.heap.size w wr) (fun _ i _ => (intOf i + 1).toNat)
  case atStart => exact ⟨N, A0, (A0.length : Int) - b.length, rfl, fun h => by have := hNa h; omega, fun h => by have := hNb h; omega, by omega, Nat.le_refl _, OwnL.below hu hbw2, Nat.le_refl _, HST, K2, hbw2⟩
  case round =>
    clear K2 hbw2 HST
    obtain ⟨n, R, ii, rfl, hi1, hi2, hi3, hn, hR, hRl, HRO, hK, hbel⟩ := hrel
    obtain ⟨ra, rc, rfl⟩ := OwnL.val hR
    cases n with
    | zero =>
      have hneg := hi2 rfl
      have hro := HRO.out
      rw [Nat.sub_zero] at hro
      have HRO2 : Hid _ := hro
      clear HRO hro hi1 hi2
      go_wp2
      go_ret
      refine ⟨_, rfl, ?_, hbel⟩
      rw [HT.out]
      exact ⟨R, hR, hRl, HRO2.out.1, HRO2.out.2⟩
    | succ n =>
      obtain rfl : ii = (n : Int) := by have := hi1 (by omega); omega
      obtain ⟨E, HE⟩ : ∃ E, Hid (e + (N - (n + 1)) * (f + 1) = E) := ⟨_, rfl⟩
      have hbR := HRO.out.2
      rw [HE.out] at hbR
      have hE1 : E + (f + 1) ≤ e + N * (f + 1) := by
        have h1 : (N - (n + 1) + 1) * (f + 1) ≤ N * (f + 1) := Nat.mul_le_mul (by omega) (Nat.le_refl _)
        rw [Nat.succ_mul] at h1
        have := HE.out
        omega
      have hE2 : E + f + 1 = e + (N - n) * (f + 1) := by
        have h1 : N - n = N - (n + 1) + 1 := by omega
        rw [h1, Nat.succ_mul]
        have := HE.out
        omega
      have hnb : n + b.length ≤ A0.length := by have := hNa (by omega); omega
      have hnx : RO b A0 (rest1 R b n) n ∧ Bd (rest1 R b n) (e + (N - n) * (f + 1)) := ⟨HRO.out.1.next tb hb0, by rw [← hE2]; exact hbR.rest1 fy n⟩
      have hsame := rest1_same R b n
      have hlen1 : (rest1 R b n).length ≤ A0.length := by unfold rest1; rw [tab_len]; omega
      obtain ⟨q, HQ⟩ : ∃ q, Hid (n + b.length - 1 = q) := ⟨_, rfl⟩
      have hq1 : (n : Int) + b.length - 1 = q := by have := HQ.out; omega
      rw [HQ.out] at hsame
      have htop := numberAt_any R (.slice ra R.length rc) q wr hR
      have ftop := hbR q
      generalize R.getD q 0 = top at *
      have ht1 := fun (W : World) (v1 : Value) (g1 : IsL W (.slice va b.length vc) b) (g2 : IsI W v1 top) => times_any b top f E n (.slice va b.length vc) v1 W g1 g2 (by omega) (by omega) fy ftop (by omega) (by omega)
      have ht2 := fun (W : World) (v1 : Value) (g1 : IsL W (.slice ra R.length rc) R) (g2 : IsI W v1 (lead b)) => times_any R (lead b) E f 0 (.slice ra R.length rc) v1 W g1 g2 (by omega) (by omega) hbR flb (by omega) (by omega)
      have hdf := fun (W : World) (u1 u2 : Value) (g1 : IsL W u1 (List.replicate 0 0 ++ R.map fun x => x * lead b)) (g2 : IsL W u2 (List.replicate n 0 ++ b.map fun x => x * top)) => pdiff_any _ _ u1 u2 W g1 g2 (by simp; omega) (by simp; omega) ((hbR.timesW flb).fitW (by omega)) ((fy.timesW ftop).fitW (by omega))
      rw [hsame] at hdf
      have HT1 : Hid _ := ht1
      have HT2 : Hid _ := ht2
      have HDF : Hid _ := hdf
      have HNX : Hid _ := hnx
      clear ht1 ht2 hdf hnx hsame HRO hbR hE1 hE2 ftop hi1 hi2 hi3
      generalize rest1 R b n = R2 at *
      generalize (List.replicate 0 0 ++ R.map fun x => x * lead b) = L1 at *
      generalize (List.replicate n 0 ++ b.map fun x => x * top) = L2 at *
      obtain ⟨lb, la, ln, lc, K0, hKI⟩ := hK.open
      go_wp2_with fail
      refine htop.mono ?_
      rintro en w3 ⟨x3, rfl, hI3, hb3⟩
      obtain ⟨b3, a3, n3, c3, rfl⟩ := hI3.form
      go_wp2_with fail
      generalize hW4 : w3.alloc (Obj.cells #[Value.bool b3, Value.slice a3 n3 c3] 70) = W4
      obtain ⟨hb4, _⟩ := one_new hW4
      clear hW4
      have hb4w := hb3.trans (hb4.mono hb3.size)
      have hbw4 := hbel.trans (hb4w.mono hbel.size)
      refine (HT1.out W4 _ (OwnL.below hv hbw4) (hI3.below hb4)).mono ?_
      rintro en w5 ⟨x5, rfl, hI5, hb5⟩
      obtain ⟨a5, c5, rfl⟩ := OwnL.val hI5
      have hb5w := hb4w.trans (hb5.mono hb4w.size)
      have K5 := K0.below hb5w
      have k0 := K5.c0; have k1 := K5.c1
      go_wp2_with fail
      refine (HT2.out w5 _ (OwnL.below hR hb5w) (hKI.below hb5w)).mono ?_
      rintro en w6 ⟨x6, rfl, hI6, hb6⟩
      obtain ⟨a6, c6, rfl⟩ := OwnL.val hI6
      have hb6w := hb5w.trans (hb6.mono hb5w.size)
      clear k0 k1
      go_wp2_with fail
      refine (HDF.out w6 _ _ hI6.isL (OwnL.below hI5 hb6).isL).mono ?_
      rintro en w7 ⟨x7, rfl, hI7, hb7⟩
      obtain ⟨a7, c7, rfl⟩ := OwnL.val hI7
      have hb7w := hb6w.trans (hb7.mono hb6w.size)
      have hK7 := hK.below hb7w
      go_wp2
      go_roundw
      case rel => exact ⟨n, R2, (n : Int) - 1, by go_num, fun _ => rfl, fun h => by omega, by omega, by omega, hI7.isL, hlen1, HNX, hK7, hbel.trans (hb7w.mono hbel.size)⟩
      case measure => simp [intOf]

end Go.Proofs.YtldcjkhbiffdoabGreatDoor
