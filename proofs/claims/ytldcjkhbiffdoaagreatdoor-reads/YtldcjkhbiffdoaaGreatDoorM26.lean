import Derived.Test.YtldcjkhbiffdoaaGreatDoorCWInts
import Derived.Test.YtldcjkhbiffdoaaGreatDoorM13
import Derived.Test.YtldcjkhbiffdoaaGreatDoorM18
import Derived.Test.YtldcjkhbiffdoaaGreatDoorM14
import Derived.Test.YtldcjkhbiffdoaaGreatDoorM22

/-
  whole.Gcd.
-/
namespace Go.Proofs.YtldcjkhbiffdoaaGreatDoor
open Go.RowKit

theorem Row.uniq {w : World} {a : Option Addr} {n c : Nat} {l l' : List Int} (h : Row w (.slice a n c) l) (h' : Row w (.slice a n c) l') : l = l' := by
  have e1 : n = l.length := by obtain ⟨_, _, e⟩ := h.val; simp at e; exact e.2.1
  have e2 : n = l'.length := by obtain ⟨_, _, e⟩ := h'.val; simp at e; exact e.2.1
  apply List.ext_getElem (by omega)
  intro i h1 h2
  have hn : Row w (.slice a l.length c) l := e1 ▸ h
  have hn' : Row w (.slice a l'.length c) l' := e2 ▸ h'
  obtain ⟨g, rfl, _, _, _, hc⟩ := hn.at i h1
  obtain ⟨g', hg, _, _, _, hc'⟩ := hn'.at i h2
  simp at hg
  subst hg
  rw [getD_lt h1] at hc
  rw [getD_lt h2, hc] at hc'
  simpa using hc'

theorem IsI.uniq {w : World} {v : Value} {z z' : Int} (h : IsI w v z) (h' : IsI w v z') : z = z' := by
  obtain ⟨b2, x2, l, e, hr, hl⟩ := h
  obtain ⟨b2', x2', l', e', hr', hl'⟩ := h'
  subst e
  simp at e'
  obtain ⟨rfl, rfl⟩ := e'
  obtain ⟨xa, xc, rfl⟩ := hr.val
  obtain rfl := hr.uniq hr'
  rw [hl.val, hl'.val]

theorem IsB.uniq {w : World} {k : Nat} {z z' : Int} (h : IsB w k z) (h' : IsB w k z') : z = z' := by
  obtain ⟨b, x, h1, h2⟩ := h
  obtain ⟨b', x', h1', h2'⟩ := h'
  unfold Bx at h1 h1'
  rw [h1] at h1'
  simp at h1'
  obtain ⟨rfl, rfl⟩ := h1'
  exact h2.uniq h2'

open Classical in
/-- The number in a box. -/
noncomputable def bAt (k : Nat) (w : World) : Nat := if h : ∃ z, IsB w k z then (Classical.choose h).natAbs else 0
theorem IsB.at {w : World} {k : Nat} {z : Int} (h : IsB w k z) : bAt k w = z.natAbs := by
  unfold bAt
  have hx : ∃ z, IsB w k z := ⟨z, h⟩
  rw [dif_pos hx, (Classical.choose_spec hx).uniq h]

theorem Fit.le {a b : Int} (h : Fit a) (hb : b.natAbs ≤ a.natAbs) : Fit b := by
  obtain ⟨n, h1, h2⟩ := h
  exact ⟨n, h1, Nat.lt_of_le_of_lt hb h2⟩

set_option maxHeartbeats 4000000 in
theorem gcd_any (u v : Value) (z1 z2 : Int) (w : World) (hu : IsI w u z1) (hv : IsI w v z2) (f1 : Fit z1) (f2 : Fit z2) :
    Calls Tryz.prog 67 #[u, v] w fun e w' => ∃ v, e = .returned v ∧ IsI w' v (Int.gcd z1 z2 : Int) ∧ Below w.heap.size w w' := by
  obtain ⟨b1, ua, un, uc, rfl⟩ := hu.form
  obtain ⟨b2, va, vn, vc, rfl⟩ := hv.form
  obtain ⟨g, HG⟩ : ∃ g, Hid (Int.gcd z1 z2 = g) := ⟨_, rfl⟩
  rw [HG.out]
  go_enter Tryz.func67, Tryz.ntmps67
  go_wp2_with fail
  generalize hW : ((w.alloc (Obj.cells #[Value.bool b1, Value.slice ua un uc] 105)).alloc (Obj.cells #[Value.bool b2, Value.slice va vn vc] 105)).alloc (Obj.cells #[Value.bool false, Value.slice none 0 0] 105) = W0
  obtain ⟨hz0, hb0, X0, X1, X2⟩ := three_new hW
  clear hW
  refine (abs_any _ z1 W0 (hu.below hb0) f1).mono ?_
  rintro e w1 ⟨v1, rfl, hI1, hb1⟩
  obtain ⟨b3, xa, xn, xc, rfl⟩ := hI1.form
  have Y1 := X1.below hb1; have Y2 := X2.below hb1
  have hv1 := (hv.below hb0).below hb1
  have p2 := Y1.c0; have p3 := Y1.c1
  have hs1 := Y2.lt
  have hs1a : w.heap.size + 1 < w1.heap.size := by omega
  have hbw1 := hb0.trans (hb1.mono hb0.size)
  go_wp2_with fail
  generalize hW2 : w1.alloc (Obj.cells #[Value.bool b3, Value.slice xa xn xc] 105) = W2
  have K0 : IsB W2 w1.heap.size (z1.natAbs : Int) := hW2 ▸ IsB.new hI1
  obtain ⟨hb2, _⟩ := one_new hW2
  have Z2 := Y2.below hb2
  have hbw2 := hbw1.trans (hb2.mono hbw1.size)
  have hsz2 : W2.heap.size = w1.heap.size + 1 := by rw [← hW2]; simp
  clear hW2
  refine (abs_any _ z2 W2 (hv1.below hb2) f2).mono ?_
  rintro e w3 ⟨v3, rfl, hI3, hb3⟩
  obtain ⟨b4, ya, yn, yc, rfl⟩ := hI3.form
  have K3 := K0.below hb3
  have V2 := Z2.below hb3
  have hs3 : w1.heap.size < w3.heap.size := by have := hb3.size; omega
  have hbw3 := hbw2.trans (hb3.mono hbw2.size)
  go_wp2_with fail
  generalize hW4 : w3.alloc (Obj.cells #[Value.bool b4, Value.slice ya yn yc] 105) = W4
  have L1 : IsB W4 w3.heap.size (z2.natAbs : Int) := hW4 ▸ IsB.new hI3
  obtain ⟨hb4, _⟩ := one_new hW4
  have L0 := K3.below hb4
  have L2 := V2.below hb4
  have hbw4 := hbw3.trans (hb4.mono hbw3.size)
  have hG : Hid (Int.gcd (z1.natAbs : Int) (z2.natAbs : Int) = g) := by
    have := HG.out
    unfold Int.gcd at this
    exact (by unfold Int.gcd; simpa using this : Int.gcd (z1.natAbs : Int) (z2.natAbs : Int) = g)
  have f1' : Fit (z1.natAbs : Int) := f1.le (by simp)
  have f2' : Fit (z2.natAbs : Int) := f2.le (by simp)
  have hn1 : 0 ≤ (z1.natAbs : Int) := by omega
  have hn2 : 0 ≤ (z2.natAbs : Int) := by omega
  clear hW4
  clear HG hI3 K0 K3 V2 Z2 hv1 hI1 Y1 Y2 X0 X1 X2 hu hv hb0 hb1 hb3 hbw2 p2 p3 hbw1 hbw3 hb2 hb4
  generalize (z1.natAbs : Int) = y1 at *
  generalize (z2.natAbs : Int) = y2 at *
  have hm1 : w.heap.size + 1 + 1 < w1.heap.size := by omega
  generalize w1.heap.size = m1 at *
  generalize w3.heap.size = m2 at *
  go_loopw [7] (fun _p wr => ∃ (a b : Int), IsB wr m1 a ∧ IsB wr m2 b ∧ Bx wr (w.heap.size + 1 + 1) (.bool false) (.slice none 0 0) ∧ 0 ≤ a ∧ 0 ≤ b ∧ Fit a ∧ Fit b ∧ Hid (Int.gcd a b = g) ∧ Below w.heap.size w wr) (fun _ wr => bAt m2 wr)
  case atStart => exact ⟨y1, y2, L0, L1, L2, hn1, hn2, f1', f2', hG, hbw4⟩
  case round =>
    clear L0 L1 L2 hn1 hn2 f1' f2' hG hbw4
    obtain ⟨a, b, hK0, hK1, B2, ha, hb, fa, fb, HG, hbel⟩ := hrel
    have hk1 := hK1.at
    obtain ⟨ba, aa, an, ac, A0, hA⟩ := hK0.open
    obtain ⟨bb, ca, cn, cc, A1, hBn⟩ := hK1.open
    have c0 := A0.c0; have c1 := A0.c1; have c2 := A1.c0; have c3 := A1.c1
    have hsz := A1.lt
    have hZ := sign_any _ b wr hBn fb
    by_cases hb0 : b = 0
    · rw [show sgn3 b = 0 by simp [sgn3, hb0]] at hZ
      go_wp2_with fail
      refine hZ.mono ?_
      rintro e w5 ⟨rfl, hb5⟩
      have D0 := A0.below hb5; have D2 := B2.below hb5
      have hA5 := hA.below hb5
      have r0 := D0.c0; have r1 := D0.c1; have r2 := D2.c0; have r3 := D2.c1; have g2 := D2.f0; have g3 := D2.f1
      have hga : a = (g : Int) := by
        have := HG.out
        rw [hb0, Int.gcd_zero_right] at this
        omega
      rw [hga] at hA5
      go_wp2
      refine bodyPost_ret (v := .agg #[.bool ba, .slice aa an ac]) (by simp [results, Tryz.results67, go_sem, r2, r3]) rfl ⟨_, rfl, hA5.set2 D2 _ _, below_set2 (hbel.trans (hb5.mono hbel.size)) (by omega) _ _⟩
    · rw [show sgn3 b = 1 by unfold sgn3; rw [if_neg (by omega), if_neg hb0]] at hZ
      have hQ := fun (W : World) (g1 : IsI W (.agg #[.bool ba, .slice aa an ac]) a) (g2 : IsI W (.agg #[.bool bb, .slice ca cn cc]) b) => divide_any _ _ a b W g1 g2 fa fb
      have hst := gcd_step ha (show 0 < b by omega)
      generalize a.tdiv b = qq at *
      generalize a.tmod b = rr at *
      go_wp2_with fail
      refine hZ.mono ?_
      rintro e w5 ⟨rfl, hb5⟩
      have D0 := A0.below hb5; have D1 := A1.below hb5; have D2 := B2.below hb5
      have hA5 := hA.below hb5
      have hB5 := hBn.below hb5
      have r0 := D0.c0; have r1 := D0.c1; have r2 := D1.c0; have r3 := D1.c1
      go_wp2_with fail
      refine (hQ w5 hA5 hB5).mono ?_
      rintro e w6 ⟨q6, r6, rfl, hq6, hr6, hb6⟩
      obtain ⟨b7, qa, qn, qc, rfl⟩ := hq6.form
      obtain ⟨b8, ra, rn, rc, rfl⟩ := hr6.form
      have E0 := D0.below hb6; have E1 := D1.below hb6; have E2 := D2.below hb6
      have hB6 := hB5.below hb6
      have s0 := E0.c0; have s1 := E0.c1; have s2 := E1.c0; have s3 := E1.c1; have t0 := E0.f0; have t1 := E0.f1; have t2 := E1.f0; have t3 := E1.f1
      have hs6 := E1.lt
      have hs7 : m2 < w6.heap.size + 1 := by omega
      have hs8 : m1 < w6.heap.size := by omega
      have hs9 : m1 < w6.heap.size + 1 := by omega
      have M0 := IsB.stored E0 hB6
      have E1a := E1.other (show m2 ≠ m1 by omega) (.bool bb) (.slice ca cn cc)
      have hr6a := hr6.set2 E0 (.bool bb) (.slice ca cn cc)
      have N0 := M0.other E1a (show m1 ≠ m2 by omega) (.bool b8) (.slice ra rn rc)
      have N1 := IsB.stored E1a hr6a
      have N2 := (E2.other (show w.heap.size + 1 + 1 ≠ m1 by omega) (.bool bb) (.slice ca cn cc)).other (show w.heap.size + 1 + 1 ≠ m2 by omega) (.bool b8) (.slice ra rn rc)
      have hbb := fun (W : World) (o o' : Obj) => (below_one W o).trans ((below_one (W.alloc o) o').mono (by simp))
      have P0 := N0.below (hbb _ (.cells #[.bool b7, .slice qa qn qc] 105) (.cells #[.bool b8, .slice ra rn rc] 105))
      have P1 := N1.below (hbb _ (.cells #[.bool b7, .slice qa qn qc] 105) (.cells #[.bool b8, .slice ra rn rc] 105))
      have P2 := N2.below (hbb _ (.cells #[.bool b7, .slice qa qn qc] 105) (.cells #[.bool b8, .slice ra rn rc] 105))
      have hb56 : Below w.heap.size w w6 := (hbel.trans (hb5.mono hbel.size)).trans (hb6.mono (by have := hbel.size; have := hb5.size; omega))
      have hbs := below_set2 (below_set2 hb56 (show w.heap.size ≤ m1 by omega) (.bool bb) (.slice ca cn cc)) (show w.heap.size ≤ m2 by omega) (.bool b8) (.slice ra rn rc)
      have hbf := hbs.trans ((hbb _ (.cells #[.bool b7, .slice qa qn qc] 105) (.cells #[.bool b8, .slice ra rn rc] 105)).mono hbs.size)
      have hP1 := P1.at
      have HALL : Hid _ := (⟨P0, P1, P2, hbf, hP1⟩ : _ ∧ _ ∧ _ ∧ _ ∧ _)
      clear M0 E1a hr6a N0 N1 N2 hbb P0 P1 P2 hbs hbf hP1 hb56
      have HG2 : Hid (Int.gcd b rr = g) := hst.2.2.trans HG.out
      go_wp2
      obtain ⟨P0, P1, P2, hbf, hP1⟩ := HALL.out
      refine ⟨⟨b, rr, P0, P1, P2, hb, hst.1, fb, fb.le (by omega), HG2, hbf⟩, ?_⟩
      rw [hP1, hk1]
      omega

end Go.Proofs.YtldcjkhbiffdoaaGreatDoor

/-
  poly.content.
-/
namespace Go.Proofs.YtldcjkhbiffdoaaGreatDoor
open Go.RowKit

set_option maxHeartbeats 1000000 in
theorem numberAt_neg (zs : List Int) (v : Value) (w : World) (hv : IsL w v zs) :
    Calls Tryz.prog 98 #[v, .int .i64 (-1)] w fun e w' => ∃ x, e = .returned x ∧ IsI w' x 0 ∧ Below w.heap.size w w' := by
  obtain ⟨va, vc, rfl⟩ := OwnL.val hv
  clear hv
  go_enter Tryz.func98, Tryz.ntmps98
  go_wp2
  refine bodyPost_ret (v := .agg #[.bool false, .slice none 0 0]) (by simp [results, Tryz.results98, go_sem]) rfl ⟨_, rfl, zeroInt, (Below.refl _ _).alloc (Nat.le_refl _) _⟩

/-- The last number, 0 of 0. -/
theorem numberAt_last (zs : List Int) (v : Value) (w : World) (hv : IsL w v zs) :
    Calls Tryz.prog 98 #[v, .int .i64 ((zs.length : Int) - 1)] w fun e w' => ∃ x, e = .returned x ∧ IsI w' x (lead zs) ∧ Below w.heap.size w w' := by
  by_cases h : zs.length = 0
  · have h1 : zs = [] := List.length_eq_zero_iff.1 h
    rw [h, show (((0 : Nat) : Int) - 1) = -1 by rfl, show lead zs = 0 by rw [h1]; rfl]
    exact numberAt_neg zs v w hv
  · rw [show (zs.length : Int) - 1 = ((zs.length - 1 : Nat) : Int) by omega]
    exact numberAt_any zs v (zs.length - 1) w hv

set_option maxRecDepth 100000 in
set_option maxHeartbeats 4000000 in
theorem contentP_any (zs : List Int) (e : Nat) (u : Value) (w : World) (hu : IsL w u zs) (hl : zs.length ≤ 1000) (fx : Bd zs e) (he : e ≤ 80000000) :
    Calls Tryz.prog 66 #[u] w fun en w' => ∃ x, en = .returned x ∧ IsI w' x (scont zs) ∧ Below w.heap.size w w' := by
  obtain ⟨ua, uc, rfl⟩ := OwnL.val hu
  have hlast := fun (W : World) (g : IsL W (.slice ua zs.length uc) zs) => numberAt_last zs _ W g
  have flead : Fit (lead zs) := fitW_of fx.lead he
  have hfin : Hid ((lead zs < 0 → scont zs = -(cont zs : Int)) ∧ (¬ lead zs < 0 → scont zs = (cont zs : Int))) := ⟨fun h => by unfold scont; rw [if_pos h], fun h => by unfold scont; rw [if_neg h]⟩
  generalize lead zs = ld at *
  obtain ⟨S, HS⟩ : ∃ S, Hid (scont zs = S) := ⟨_, rfl⟩
  rw [HS.out] at hfin ⊢
  clear HS
  have HLAST : Hid _ := hlast
  clear hlast
  go_enter Tryz.func66, Tryz.ntmps66
  go_wp2_with fail
  generalize hW : (w.alloc (Obj.cells #[Value.bool false, Value.slice none 0 0] 105)).alloc (Obj.cells #[Value.bool false, Value.slice none 0 0] 105) = W0
  obtain ⟨hz0, hb0, X0, X1⟩ := two_new hW
  clear hW
  have K1 : IsB W0 (w.heap.size + 1) ((cont (zs.take 0) : Nat) : Int) := ⟨_, _, X1, zeroInt⟩
  clear X1
  go_loopw [4] (fun i wr => ∃ (k : Nat), k ≤ zs.length ∧ i = .int .i64 k ∧ IsB wr (w.heap.size + 1) ((cont (zs.take k) : Nat) : Int) ∧ Bx wr w.heap.size (.bool false) (.slice none 0 0) ∧ Below w.heap.size w wr) (fun i _ => zs.length - (intOf i).toNat)
  case atStart => exact ⟨0, Nat.zero_le _, rfl, K1, X0, hb0⟩
  case round =>
    clear K1 X0 hb0
    obtain ⟨k, hk, rfl, hK, B0, hbel⟩ := hrel
    obtain ⟨gb, ga, gn, gc, G0, hG⟩ := hK.open
    have fK : Fit ((cont (zs.take k) : Nat) : Int) := fitW_of (by have := fx.cont k hk; simpa using this) he
    have hszw := G0.lt
    by_cases hlt : k < zs.length
    · obtain ⟨g, b, xa, xn, xc, rfl, hc1, hc2, hg, _, hc0, hcx, hI⟩ := OwnL.at hu k hlt
      have hct := cont_take hlt
      have f1 : Fit (zs.getD k 0) := fitW_of (fx k) he
      generalize zs.getD k 0 = z at *
      have HCT : Hid _ := hct
      clear hct
      generalize ((cont (zs.take k) : Nat) : Int) = cg at *
      have hM := fun (W : World) (g1 : IsI W (.agg #[.bool gb, .slice ga gn gc]) cg) (g2 : IsI W (.agg #[.bool b, .slice xa xn xc]) z) => gcd_any _ _ cg z W g1 g2 fK f1
      have HM : Hid _ := hM
      clear hM
      have hIr := hI.below hbel
      have hSV : ∀ W, Below w.heap.size w W → W.cell? ⟨g, k * 2, none⟩ = some (.bool b) ∧ W.cell? ⟨g, k * 2 + 1, none⟩ = some (.slice xa xn xc) := fun W h => ⟨(h.cell (p := ⟨g, k * 2, none⟩) hg).trans hc0, (h.cell (p := ⟨g, k * 2 + 1, none⟩) hg).trans hcx⟩
      have hbd : Below w.heap.size w wr.drew := ⟨hbel.os, hbel.tape, hbel.output, hbel.size, hbel.block⟩
      have hbdw : Below wr.heap.size wr wr.drew := ⟨rfl, rfl, rfl, Nat.le_refl _, fun _ _ => rfl⟩
      have hki : (k : Int) < (zs.length : Int) := by omega
      have hki0 : (0 : Int) ≤ (k : Int) := by omega
      go_wp2_with fail
      refine wp_region_held_drew (S := fun W => W.cell? ⟨g, k * 2, none⟩ = some (.bool b) ∧ W.cell? ⟨g, k * 2 + 1, none⟩ = some (.slice xa xn xc)) (by kernel_rfl) (hSV _ hbd) fun hS => ?_
      have G1 := G0.below hbdw
      have B1 := B0.below hbdw
      have hG1 := hG.below hbdw
      have hI1 := hIr.below hbdw
      have hs0 : wr.drew.heap.size = wr.heap.size := rfl
      rw [← hs0] at hszw
      clear hs0 hIr hG hbdw
      generalize wr.drew = W1 at *
      refine h_take 1 14 (.slice (some ⟨g, 0, none⟩) zs.length uc) rfl rfl (by kernel_rfl) (by kernel_rfl) (by kernel_rfl) (fun _ _ _ h => h) rfl (fun _ _ => by first | rfl | go_simp) hS ?_
      simp only [Act.put, List.setIfInBounds_toArray, List.set_cons_succ, List.set_cons_zero]
      refine h_take 2 15 (.int .i64 (k : Int)) rfl rfl (by kernel_rfl) (by kernel_rfl) (by kernel_rfl) (fun _ _ _ h => h) rfl (fun _ _ => by first | rfl | go_simp) hS ?_
      simp only [Act.put, List.setIfInBounds_toArray, List.set_cons_succ, List.set_cons_zero]
      refine h_take 3 16 (.pointer (some ⟨g, k * 2, none⟩)) rfl rfl (by kernel_rfl) (by kernel_rfl) (by kernel_rfl) (fun _ _ _ h => h) rfl (fun _ _ => by first | rfl | go_simp) hS ?_
      simp only [Act.put, List.setIfInBounds_toArray, List.set_cons_succ, List.set_cons_zero]
      refine h_take 4 17 (.agg #[.bool b, .slice xa xn xc]) rfl rfl (by kernel_rfl) (by kernel_rfl) (by kernel_rfl) (fun _ _ _ h => h) rfl (fun w' hw' => by obtain ⟨y0, y1⟩ := hw'; go_simp) hS ?_
      simp only [Act.put, List.setIfInBounds_toArray, List.set_cons_succ, List.set_cons_zero]
      have q0 := G1.c0; have q1 := G1.c1
      refine h_val 0 13 (.agg #[.bool gb, .slice ga gn gc]) (w' := W1) rfl rfl (by kernel_rfl) rfl (by go_simp) hS ?_
      simp only [Act.put, List.setIfInBounds_toArray, List.set_cons_succ, List.set_cons_zero]
      clear q0 q1
      refine h_call 5 18 67 #[.agg #[.bool gb, .slice ga gn gc], .agg #[.bool b, .slice xa xn xc]] rfl rfl (by kernel_rfl) rfl (by go_simp) ?_
      refine (HM.out W1 hG1 hI1).mono ?_
      rintro en w3 ⟨x3, rfl, hI3, hb3⟩
      obtain ⟨b3, a3, n3, c3, rfl⟩ := hI3.form
      have G3 := G1.below hb3; have B3 := B1.below hb3
      have r0 := G3.c0; have r1 := G3.c1; have r2 := G3.f0; have r3 := G3.f1
      have hbw3 : Below w.heap.size w w3 := hbd.trans (hb3.mono hbd.size)
      have hK3 := IsB.stored G3 hI3
      rw [← HCT.out] at hK3
      have hB3 := B3.other (show w.heap.size ≠ w.heap.size + 1 by omega) (.bool b3) (.slice a3 n3 c3)
      have hb4 := below_set2 hbw3 (show w.heap.size ≤ w.heap.size + 1 by omega) (.bool b3) (.slice a3 n3 c3)
      refine ⟨_, rfl, hSV _ hbw3, ?_⟩
      simp only [Act.put, List.setIfInBounds_toArray, List.set_cons_succ, List.set_cons_zero]
      refine h_store 6 (w' := (w3.setCell ⟨w.heap.size + 1, 0, none⟩ (.bool b3)).setCell ⟨w.heap.size + 1, 1, none⟩ (.slice a3 n3 c3)) rfl rfl (by kernel_rfl) rfl (by go_simp) (hSV _ hb4) ?_
      clear r0 r1 r2 r3 G3 B3 hI3 hbw3 hb3
      generalize (w3.setCell ⟨w.heap.size + 1, 0, none⟩ (.bool b3)).setCell ⟨w.heap.size + 1, 1, none⟩ (.slice a3 n3 c3) = W4 at *
      refine wpAnyH_done (by kernel_rfl) ?_ _
      go_wp2
      go_roundw
      case rel => exact ⟨k + 1, by omega, by go_num, hK3, hB3, hb4⟩
      case measure => simp [intOf]; omega
    · obtain rfl : k = zs.length := by omega
      rw [List.take_length] at hG fK
      go_wp2_with fail
      refine (HLAST.out wr (OwnL.below hu hbel)).mono ?_
      rintro en w3 ⟨x3, rfl, hI3, hb3⟩
      obtain ⟨b3, a3, n3, c3, rfl⟩ := hI3.form
      go_wp2_with fail
      generalize hW4 : w3.alloc (Obj.cells #[Value.bool b3, Value.slice a3 n3 c3] 105) = W4
      obtain ⟨hb4, X4⟩ := one_new hW4
      clear hW4
      have hb4w := hb3.trans (hb4.mono hb3.size)
      refine (sign_any _ ld W4 (hI3.below hb4) flead).mono ?_
      rintro en w5 ⟨rfl, hb5⟩
      have hb5w := hb4w.trans (hb5.mono hb4w.size)
      have G5 := G0.below hb5w; have B5 := B0.below hb5w
      have hG5 := hG.below hb5w
      have hbw5 := hbel.trans (hb5w.mono hbel.size)
      have r0 := G5.c0; have r1 := G5.c1; have r2 := B5.c0; have r3 := B5.c1; have r4 := B5.f0; have r5 := B5.f1
      by_cases hneg : ld < 0
      · have hs := hfin.out.1 (by omega)
        have hsg : sgn3 ld = -1 := by unfold sgn3; rw [if_pos hneg]
        rw [hsg]
        have HS2 : Hid _ := hs
        clear hs hfin
        go_wp2_with fail
        refine (neg_any _ _ w5 hG5 fK).mono ?_
        rintro en w6 ⟨x6, rfl, hI6, hb6⟩
        obtain ⟨b6, a6, n6, c6, rfl⟩ := hI6.form
        have B6 := B5.below hb6
        clear r0 r1 r2 r3 r4 r5
        have r2 := B6.c0; have r3 := B6.c1; have r4 := B6.f0; have r5 := B6.f1
        rw [← HS2.out] at hI6
        go_wp2
        refine bodyPost_ret (v := .agg #[.bool b6, .slice a6 n6 c6]) (by simp [results, Tryz.results66, go_sem, r2, r3]) rfl ⟨_, rfl, hI6.set2 B6 _ _, below_set2 (hbw5.trans (hb6.mono hbw5.size)) (Nat.le_refl _) _ _⟩
      · have hs := hfin.out.2 (by omega)
        have hsg : ¬ sgn3 ld < 0 := by unfold sgn3; rw [if_neg hneg]; split <;> omega
        rw [← hs] at hG5
        clear hs hfin
        generalize sgn3 ld = sg at *
        go_wp2
        refine bodyPost_ret (v := .agg #[.bool gb, .slice ga gn gc]) (by simp [results, Tryz.results66, go_sem, r2, r3]) rfl ⟨_, rfl, hG5.set2 B5 _ _, below_set2 hbw5 (Nat.le_refl _) _ _⟩

end Go.Proofs.YtldcjkhbiffdoaaGreatDoor
