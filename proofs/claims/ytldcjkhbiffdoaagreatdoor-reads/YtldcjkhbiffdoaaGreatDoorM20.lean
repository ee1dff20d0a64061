import Derived.Test.YtldcjkhbiffdoaaGreatDoorM19
import Derived.Test.YtldcjkhbiffdoaaGreatDoorM13
import Derived.Test.YtldcjkhbiffdoaaGreatDoorM05
import Derived.Test.YtldcjkhbiffdoaaGreatDoorM14
import Derived.Test.YtldcjkhbiffdoaaGreatDoorM18

/-
  factorref: Primitive.
-/
namespace Go.Proofs.YtldcjkhbiffdoaaGreatDoor
open Go.RowKit

/-- The sign that a number bears. -/
theorem isN_neg {w : World} {b : Bool} {x : Value} {z : Int} (h : IsN w (.agg #[.bool b, x]) z) : (b = true ∧ z < 0) ∨ (b = false ∧ ¬ z < 0) := by
  obtain ⟨b', x', l, e, _, hl⟩ := h
  simp at e
  obtain ⟨rfl, rfl⟩ := e
  have hn := hl.nonneg
  have hv := hl.val
  cases b
  · right
    simp [sv] at hv
    exact ⟨rfl, by omega⟩
  · left
    have hne := hl.neg rfl
    have := ev_neN hl.dig hl.trim hne
    simp [sv] at hv
    exact ⟨rfl, by omega⟩

theorem prim_take {zs : List Int} {k : Nat} (h : k < zs.length) : (prim zs).take (k + 1) = (prim zs).take k ++ [(zs.getD k 0).tdiv (scont zs)] := by
  have hl : k < (prim zs).length := by rw [prim_len]; exact h
  rw [List.take_succ_eq_append_getElem hl, ← getD_lt hl, prim_getD]

theorem contFit {zs : List Int} (fx : FitL zs) : ∀ k, k ≤ zs.length → FitN ((cont (zs.take k) : Nat) : Int)
  | 0, _ => ⟨1, by omega, by simp [cont]⟩
  | k + 1, h => by
    rw [cont_take (by omega)]
    exact (contFit fx k (by omega)).gcd (fx k)

set_option maxRecDepth 100000 in
set_option maxHeartbeats 4000000 in
theorem primR_any (zs : List Int) (u : Value) (w : World) (hu : IsLN w u zs) (hl : zs.length ≤ 1000000) (fx : FitL zs) (htr : Tr zs) :
    Calls Tryz.prog 73 #[u] w fun e w' => ∃ x, e = .returned x ∧ IsLN w' x (prim zs) ∧ Below w.heap.size w w' := by
  obtain ⟨ua, uc, rfl⟩ := OwnLN.val hu
  obtain ⟨S, HS⟩ : ∃ S, Hid (prim zs = S) := ⟨_, rfl⟩
  rw [HS.out]
  have hC := contentR_any zs _ w hu hl fx
  have fc : FitN ((cont zs : Nat) : Int) := by
    have := contFit fx zs.length (Nat.le_refl _)
    rwa [List.take_length] at this
  have hsc : scont zs = if lead zs < 0 then -(cont zs : Int) else (cont zs : Int) := rfl
  have hne : zs ≠ [] → scont zs ≠ 0 := fun h => scont_ne htr h
  have hpt := fun k (h : k < zs.length) => prim_take (zs := zs) h
  have HPT : Hid _ := hpt
  have HNE : Hid _ := hne
  clear hpt hne htr
  rw [HS.out] at HPT
  obtain ⟨sc, HSC⟩ : ∃ sc, Hid (scont zs = sc) := ⟨_, rfl⟩
  rw [HSC.out] at HPT HNE hsc
  have hlead : lead zs = zs.getD (zs.length - 1) 0 := rfl
  generalize ((cont zs : Nat) : Int) = cz at *
  have fs : FitN sc := by
    rw [hsc]; split
    · exact fc.neg
    · exact fc
  have hsign : ∀ (W : World) (b : Bool) (x : Value), IsN W (.agg #[.bool b, x]) (zs.getD (zs.length - 1) 0) → (b = true ∧ sc = -cz) ∨ (b = false ∧ sc = cz) := by
    intro W b x hI
    rw [← hlead] at hI
    rcases isN_neg hI with ⟨h1, h2⟩ | ⟨h1, h2⟩
    · left; rw [if_pos h2] at hsc; exact ⟨h1, hsc⟩
    · right; rw [if_neg h2] at hsc; exact ⟨h1, hsc⟩
  have HSG : Hid _ := hsign
  clear hsign hsc hlead
  go_enter Tryz.func73, Tryz.ntmps73
  go_wp2_with fail
  refine hC.mono ?_
  rintro e w1 ⟨x1, rfl, hI1, hb1⟩
  obtain ⟨b1, a1, n1, c1, _, rfl, _, _⟩ := id hI1.open
  have hu1 := OwnLN.below hu hb1
  by_cases h0 : zs.length = 0
  · have hS : S = [] := by
      rw [← HS.out]
      have : zs = [] := List.length_eq_zero_iff.1 h0
      rw [this]; rfl
    subst hS
    go_wp2_with fail
    refine wp_loop_rounds 1 ?_; rw [rounds_succ]
    go_wp2
    go_ret
    exact ⟨_, rfl, OwnLN.isL (OwnLN.nil0 0 _), hb1.trans ((below_one _ _).mono hb1.size)⟩
  · have hsc0 : sc ≠ 0 := HNE.out (by intro e; subst e; exact h0 rfl)
    have hpos : 0 < zs.length := by omega
    obtain ⟨g, b, xa, xn, xc, rfl, hc1, hc2, hg, _, hc0, hcx, hIl⟩ := OwnLN.at hu1 (zs.length - 1) (by omega)
    have hsg := HSG.out _ _ _ hIl
    have hidx : Value.int .i64 ((zs.length : Int) - 1) = Value.int .i64 ((zs.length - 1 : Nat) : Int) := by
      rw [show (((zs.length - 1 : Nat) : Int)) = (zs.length : Int) - 1 by omega]
    obtain ⟨m, HMm⟩ : ∃ m, Hid (zs.length - 1 = m) := ⟨_, rfl⟩
    rw [HMm.out] at hc0 hidx
    have hm1 : (zs.length : Int) - 1 = m := by have := HMm.out; omega
    have hm2 : m < zs.length := by have := HMm.out; omega
    have hmin := fun (W : World) (g1 : IsN W (.agg #[.bool b1, .slice a1 n1 c1]) cz) => minusN_any _ cz W g1 fc
    have HMIN : Hid _ := hmin
    clear hmin hIl hcx HSG HNE hidx
    rcases hsg with ⟨rfl, hs⟩ | ⟨rfl, hs⟩
    · go_wp2_with fail
      generalize hW : w1.alloc (Obj.cells #[Value.bool b1, Value.slice a1 n1 c1] 74) = W2
      obtain ⟨hb2, X2⟩ := one_newN hW
      clear hW
      refine (HMIN.out W2 (hI1.below hb2)).mono ?_
      rintro e w3 ⟨x3, rfl, hI3, hb3⟩
      obtain ⟨b3, a3, n3, c3, _, rfl, _, _⟩ := id hI3.open
      have X3 := X2.below hb3
      have r0 := X3.c0; have r1 := X3.c1; have r2 := X3.f0; have r3 := X3.f1
      rw [← hs] at hI3
      have hKl := IsK.stored X3 hI3
      have hbl := below_set2 ((hb1.trans (hb2.mono hb1.size)).trans (hb3.mono (by have := hb1.size; have := hb2.size; omega))) hb1.size (.bool b3) (.slice a3 n3 c3)
      have HALL : Hid _ := (⟨hKl, hbl⟩ : _ ∧ _)
      clear hKl hbl
      have hs1 := hb1.size
      clear hs hI1 hb1 hu1 hc0 hg HMIN
      go_wp2_with fail
      obtain ⟨hKl, hbl⟩ := HALL.out
      clear HALL r0 r1 r2 r3 hI3 X3 X2 hb2 hb3
      generalize (w3.setCell ⟨w1.heap.size, 0, none⟩ (.bool b3)).setCell ⟨w1.heap.size, 1, none⟩ (.slice a3 n3 c3) = Wl at *
      generalize w1.heap.size = kb at *
      have hs2 : w.heap.size ≤ kb + 1 := by omega
      go_loopw [3, 27] (fun o i wr => ∃ (k : Nat), k ≤ zs.length ∧ i = .int .i64 k ∧ OwnLN (kb + 1) wr o (S.take k) ∧ IsK wr kb sc ∧ Below w.heap.size w wr) (fun _ i _ => zs.length - (intOf i).toNat)
      case atStart => exact ⟨0, Nat.zero_le _, rfl, OwnLN.nil0 _ _, hKl, hbl⟩
      case round =>
        clear hKl hbl
        obtain ⟨k, hk, rfl, hown, hK, hbel⟩ := hrel
        obtain ⟨gb, ga, gn, gc, G0, hG⟩ := id hK
        have hszw := G0.lt
        by_cases hlt : k < zs.length
        · obtain ⟨g', b, xa, xn, xc, hgg, hd1, hd2, hg, _, hc0, hcx, hI⟩ := OwnLN.at (OwnLN.below hu hbel) k hlt
          simp at hgg
          subst hgg
          have f1 := fx k
          have hpt := HPT.out k hlt
          generalize zs.getD k 0 = z at *
          have HPK : Hid _ := hpt
          have hlen : (S.take k).length ≤ zs.length := by rw [List.length_take]; omega
          obtain ⟨L, HL⟩ : ∃ L, Hid (S.take k = L) := ⟨_, rfl⟩
          rw [HL.out] at hown hlen
          clear hpt
          have hM := fun (W : World) (g1 : IsN W (.agg #[.bool b, .slice xa xn xc]) z) (g2 : IsN W (.agg #[.bool gb, .slice ga gn gc]) sc) => quoN_any _ _ z sc W g1 g2 f1 fs hsc0
          have HM : Hid _ := hM
          clear hM
          have q0 := G0.c0; have q1 := G0.c1
          go_wp2_with fail
          generalize hW1 : wr.alloc (Obj.cells #[Value.bool b, Value.slice xa xn xc] 74) = W1
          obtain ⟨hb1, _⟩ := one_newN hW1
          clear hW1
          refine (HM.out W1 (hI.below hb1) (hG.below hb1)).mono ?_
          rintro e w5 ⟨x5, x6, rfl, hI5, hI6, hb5⟩
          obtain ⟨b5, a5, n5, c5, _, rfl, _, _⟩ := id hI5.open
          obtain ⟨b6, a6, n6, c6, _, rfl, _, _⟩ := id hI6.open
          have hbw5 : Below w.heap.size w w5 := (hbel.trans (hb1.mono hbel.size)).trans (hb5.mono (by have := hbel.size; have := hb1.size; omega))
          have hown5 := OwnLN.below (OwnLN.below hown hb1) hb5
          have hK5 := (hK.below hb1).below hb5
          have hbb := fun (W : World) (o o' : Obj) => (below_one W o).trans ((below_one (W.alloc o) o').mono (by simp))
          have hs5 := hb5.size
          have hs6 := hb1.size
          go_wp2_with (at_builtin; refine wpList_pushNumE rfl (.tmp 37) (.tmp 39) rfl (kb + 1) _ L _ _ (z.tdiv sc) _ (by simp) rfl (OwnLN.below hown5 (hbb _ (.cells #[.bool b5, .slice a5 n5 c5] 74) (.cells #[.bool b6, .slice a6 n6 c6] 74))) (hI5.below (hbb _ _ _)) rfl (by omega) (by simp; omega) ?_)
          intro v7 w7 hown7 hb7 hgrown
          rw [← HL.out, ← HPK.out] at hown7
          have hK7 : IsK w7 kb sc := (hK5.below (hbb _ _ _)).grown (OwnLN.below hown5 (hbb _ _ _)) (Nat.lt_succ_self _) hgrown
          have hbw7 : Below w.heap.size w w7 := (hbw5.trans ((hbb _ _ _).mono hbw5.size)).trans (hb7.mono (by omega))
          go_wp2
          go_roundw
          case rel => exact ⟨k + 1, by omega, by go_num, hown7, hK7, hbw7⟩
          case measure => simp [intOf]; omega
        · obtain rfl : k = zs.length := by omega
          have hSl : S.take zs.length = S := by rw [List.take_of_length_le]; rw [← HS.out, prim_len]; omega
          rw [hSl] at hown
          obtain ⟨oa, oc, rfl⟩ := OwnLN.val hown
          go_wp2
          go_ret
          exact ⟨_, rfl, hown.isL, hbel⟩
    · go_wp2_with fail
      generalize hW : w1.alloc (Obj.cells #[Value.bool b1, Value.slice a1 n1 c1] 74) = Wl
      obtain ⟨hb2, X2⟩ := one_newN hW
      clear hW
      rw [← hs] at hI1
      have hKl : IsK Wl w1.heap.size sc := ⟨_, _, _, _, X2, hI1.below hb2⟩
      have hbl := hb1.trans (hb2.mono hb1.size)
      have hs1 := hb1.size
      clear hs hI1 hb1 hu1 hc0 hg HMIN X2 hb2
      generalize w1.heap.size = kb at *
      have hs2 : w.heap.size ≤ kb + 1 := by omega
      go_loopw [3, 27] (fun o i wr => ∃ (k : Nat), k ≤ zs.length ∧ i = .int .i64 k ∧ OwnLN (kb + 1) wr o (S.take k) ∧ IsK wr kb sc ∧ Below w.heap.size w wr) (fun _ i _ => zs.length - (intOf i).toNat)
      case atStart => exact ⟨0, Nat.zero_le _, rfl, OwnLN.nil0 _ _, hKl, hbl⟩
      case round =>
        clear hKl hbl
        obtain ⟨k, hk, rfl, hown, hK, hbel⟩ := hrel
        obtain ⟨gb, ga, gn, gc, G0, hG⟩ := id hK
        have hszw := G0.lt
        by_cases hlt : k < zs.length
        · obtain ⟨g', b, xa, xn, xc, hgg, hd1, hd2, hg, _, hc0, hcx, hI⟩ := OwnLN.at (OwnLN.below hu hbel) k hlt
          simp at hgg
          subst hgg
          have f1 := fx k
          have hpt := HPT.out k hlt
          generalize zs.getD k 0 = z at *
          have HPK : Hid _ := hpt
          have hlen : (S.take k).length ≤ zs.length := by rw [List.length_take]; omega
          obtain ⟨L, HL⟩ : ∃ L, Hid (S.take k = L) := ⟨_, rfl⟩
          rw [HL.out] at hown hlen
          clear hpt
          have hM := fun (W : World) (g1 : IsN W (.agg #[.bool b, .slice xa xn xc]) z) (g2 : IsN W (.agg #[.bool gb, .slice ga gn gc]) sc) => quoN_any _ _ z sc W g1 g2 f1 fs hsc0
          have HM : Hid _ := hM
          clear hM
          have q0 := G0.c0; have q1 := G0.c1
          go_wp2_with fail
          generalize hW1 : wr.alloc (Obj.cells #[Value.bool b, Value.slice xa xn xc] 74) = W1
          obtain ⟨hb1, _⟩ := one_newN hW1
          clear hW1
          refine (HM.out W1 (hI.below hb1) (hG.below hb1)).mono ?_
          rintro e w5 ⟨x5, x6, rfl, hI5, hI6, hb5⟩
          obtain ⟨b5, a5, n5, c5, _, rfl, _, _⟩ := id hI5.open
          obtain ⟨b6, a6, n6, c6, _, rfl, _, _⟩ := id hI6.open
          have hbw5 : Below w.heap.size w w5 := (hbel.trans (hb1.mono hbel.size)).trans (hb5.mono (by have := hbel.size; have := hb1.size; omega))
          have hown5 := OwnLN.below (OwnLN.below hown hb1) hb5
          have hK5 := (hK.below hb1).below hb5
          have hbb := fun (W : World) (o o' : Obj) => (below_one W o).trans ((below_one (W.alloc o) o').mono (by simp))
          have hs5 := hb5.size
          have hs6 := hb1.size
          go_wp2_with (at_builtin; refine wpList_pushNumE rfl (.tmp 37) (.tmp 39) rfl (kb + 1) _ L _ _ (z.tdiv sc) _ (by simp) rfl (OwnLN.below hown5 (hbb _ (.cells #[.bool b5, .slice a5 n5 c5] 74) (.cells #[.bool b6, .slice a6 n6 c6] 74))) (hI5.below (hbb _ _ _)) rfl (by omega) (by simp; omega) ?_)
          intro v7 w7 hown7 hb7 hgrown
          rw [← HL.out, ← HPK.out] at hown7
          have hK7 : IsK w7 kb sc := (hK5.below (hbb _ _ _)).grown (OwnLN.below hown5 (hbb _ _ _)) (Nat.lt_succ_self _) hgrown
          have hbw7 : Below w.heap.size w w7 := (hbw5.trans ((hbb _ _ _).mono hbw5.size)).trans (hb7.mono (by omega))
          go_wp2
          go_roundw
          case rel => exact ⟨k + 1, by omega, by go_num, hown7, hK7, hbw7⟩
          case measure => simp [intOf]; omega
        · obtain rfl : k = zs.length := by omega
          have hSl : S.take zs.length = S := by rw [List.take_of_length_le]; rw [← HS.out, prim_len]; omega
          rw [hSl] at hown
          obtain ⟨oa, oc, rfl⟩ := OwnLN.val hown
          go_wp2
          go_ret
          exact ⟨_, rfl, hown.isL, hbel⟩

end Go.Proofs.YtldcjkhbiffdoaaGreatDoor

/-
  factorref: Text.
-/
namespace Go.Proofs.YtldcjkhbiffdoaaGreatDoor
open Go.RowKit

theorem itoa_nat (n : Nat) : Lib.itoa (n : Int) = Lib.decDigits n := by
  unfold Lib.itoa
  rw [if_neg (by omega)]
  simp

theorem fitN_digits {z : Int} (h : Lib.nDigits z.natAbs ≤ 12) : FitN z := by
  refine ⟨12, by omega, ?_⟩
  have h1 := Lib.lt_pow_nDigits z.natAbs
  have h2 : 10 ^ Lib.nDigits z.natAbs ≤ 10 ^ 12 := Nat.pow_le_pow_right (by omega) h
  omega

set_option maxRecDepth 100000 in
set_option maxHeartbeats 8000000 in
theorem textR_any (zs : List Int) (v : Value) (w : World) (hv : IsLN w v zs) (hB : inB zs = true) :
    Calls Tryz.prog 41 #[v] w fun e w' => e = .returned (.string ⟨(ptext zs).toArray⟩) ∧ Below w.heap.size w w' := by
  obtain ⟨va, vc, rfl⟩ := OwnLN.val hv
  have hl := inB_len hB
  have HB : Hid _ := hB
  clear hB
  obtain ⟨T, HTX⟩ : ∃ T, Hid (ptext zs = T) := ⟨_, rfl⟩
  rw [HTX.out]
  go_enter Tryz.func41, Tryz.ntmps41
  go_wp2_with fail
  go_loopw [3, 4] (fun t i wr => ∃ (k m : Nat) (d : List UInt8), k + m = zs.length ∧ i = .int .i64 ((k : Int) - 1) ∧ t = .string ⟨d.toArray⟩ ∧ d.length ≤ 20 * m ∧ Hid (ptm zs zs.length m = d) ∧ Below w.heap.size w wr) (fun _ i _ => (intOf i + 1).toNat)
  case atStart => exact ⟨zs.length, 0, [], by omega, rfl, rfl, by simp, rfl, Below.refl _ _⟩
  case round =>
    obtain ⟨k, m, d, hkm, rfl, rfl, hdl, HE, hbel⟩ := hrel
    cases k with
    | zero =>
      obtain rfl : m = zs.length := by omega
      have hT : T = if d = [] then [48] else d := by
        rw [← HTX.out]; unfold ptext; rw [HE.out]
      by_cases hd : d = []
      · subst hd
        rw [if_pos rfl] at hT
        subst hT
        clear HE HTX
        go_wp2
        go_ret
        exact ⟨rfl, hbel⟩
      · rw [if_neg hd] at hT
        subst hT
        have hdb : T.isEmpty = false := by cases T with | nil => exact absurd rfl hd | cons a b => rfl
        clear HE HTX
        go_wp2
        go_ret
        exact ⟨rfl, hbel⟩
    | succ j =>
      rw [show (((j + 1 : Nat) : Int) - 1) = (j : Int) by omega]
      have hjm : zs.length - 1 - m = j := by omega
      obtain ⟨g, b, xa, xn, xc, rfl, hc1, hc2, hg, _, hc0, hcx, hI⟩ := OwnLN.at (OwnLN.below hv hbel) j (by omega)
      obtain ⟨z, HZ⟩ : ∃ z, Hid (zs.getD j 0 = z) := ⟨_, rfl⟩
      have hnd := inB_at HB.out (show j < zs.length by omega)
      rw [HZ.out] at hI hnd
      have hfz := fitN_digits hnd
      have hstep : Hid (ptm zs zs.length (m + 1) = stepT d z j) := by
        show stepT (ptm zs zs.length m) (zs.getD (zs.length - 1 - m) 0) (zs.length - 1 - m) = _
        rw [hjm, HE.out, HZ.out]
      have hsl := stepT_len (t := d) (c := z) (k := j) (by omega) hnd
      have hS := fun (W : World) (g : IsN W (.agg #[.bool b, .slice xa xn xc]) z) => zeroN_any _ z W g
      by_cases hz : z = 0
      · rw [decide_eq_true hz] at hS
        have hs2 : stepT d z j = d := by simp [stepT, hz]
        rw [hs2] at hstep hsl
        have HS : Hid _ := hS
        clear HE HZ hs2 hjm hS
        go_wp2_with fail
        generalize hW : wr.alloc (Obj.cells #[Value.bool b, Value.slice xa xn xc] 74) = W1
        obtain ⟨hb0, X0⟩ := one_newN hW
        clear hW
        refine (HS.out W1 (hI.below hb0)).mono ?_
        rintro e w1 ⟨rfl, hb1⟩
        have hbw1 := hbel.trans ((hb0.trans (hb1.mono hb0.size)).mono hbel.size)
        go_wp2_with fail
        go_roundw
        case rel => exact ⟨j, m + 1, d, by omega, rfl, rfl, by omega, hstep, hbw1⟩
        case measure => simp [intOf]
      · rw [decide_eq_false hz] at hS
        have hst2 : stepT d z j = d ++ signT (decide (z < 0)) d.isEmpty ++ termT z.natAbs j := by unfold stepT; rw [if_neg hz]
        rw [hst2] at hstep hsl
        have hsg : (d = [] ∧ b = true ∧ signT (decide (z < 0)) d.isEmpty = [45]) ∨ (d = [] ∧ b = false ∧ signT (decide (z < 0)) d.isEmpty = []) ∨ (d.isEmpty = false ∧ b = true ∧ signT (decide (z < 0)) d.isEmpty = [32, 45, 32]) ∨ (d.isEmpty = false ∧ b = false ∧ signT (decide (z < 0)) d.isEmpty = [32, 43, 32]) := by
          cases d with
          | nil =>
            rcases isN_neg hI with ⟨h1, h2⟩ | ⟨h1, h2⟩
            · left; exact ⟨rfl, h1, by rw [decide_eq_true h2]; rfl⟩
            · right; left; exact ⟨rfl, h1, by rw [decide_eq_false h2]; rfl⟩
          | cons y l =>
            rcases isN_neg hI with ⟨h1, h2⟩ | ⟨h1, h2⟩
            · right; right; left; exact ⟨rfl, h1, by rw [decide_eq_true h2]; rfl⟩
            · right; right; right; exact ⟨rfl, h1, by rw [decide_eq_false h2]; rfl⟩
        have hA := fun (W : World) (g : IsN W (.agg #[.bool b, .slice xa xn xc]) z) => absN_any _ z W g
        have hfa : FitN (z.natAbs : Int) := hfz.le (by simp)
        have hT := fun (W : World) (u : Value) (g : IsN W u (z.natAbs : Int)) => textN_any u (z.natAbs : Int) W g hfa
        rw [itoa_nat] at hT
        have hO := fun (W : World) => ofN_any (j : Int) W (by omega)
        have hT2 := fun (W : World) (u : Value) (g : IsN W u (j : Int)) => textN_any u (j : Int) W g ⟨2, by omega, by simp; omega⟩
        rw [itoa_nat] at hT2
        have htt : termT z.natAbs j = if j = 0 then Lib.decDigits z.natAbs else if Lib.decDigits z.natAbs = [49] then varT j else Lib.decDigits z.natAbs ++ [42] ++ varT j := rfl
        have hvt : varT j = if 1 < j then [120, 94] ++ Lib.decDigits j else [120] := rfl
        have hdl1 : (Lib.decDigits z.natAbs).length ≤ 12 := by rw [Lib.decDigits_length]; omega
        have hdl2 : (Lib.decDigits j).length ≤ 2 := by rw [Lib.decDigits_length]; exact nDigits_le (by omega) (by omega)
        generalize termT z.natAbs j = tt at *
        generalize varT j = vt at *
        generalize Lib.decDigits z.natAbs = dz at *
        generalize Lib.decDigits j = dj at *
        generalize signT (decide (z < 0)) d.isEmpty = sg at *
        have HS : Hid _ := hS
        have HA : Hid _ := hA
        have HT : Hid _ := hT
        have HO : Hid _ := hO
        have HT2 : Hid _ := hT2
        clear hS hA hT hO hT2 hst2 HE HZ hjm hnd
        have hj : j = 0 ∨ j = 1 ∨ (1 < j ∧ ¬ j = 0) := by omega
        rcases hj with h0 | h1 | ⟨h2, h3⟩
        · rw [if_pos h0] at htt
          subst htt
          have hje : (j : Int) = 0 := by omega
          subst h0
          rcases hsg with ⟨rfl, rfl, rfl⟩ | ⟨rfl, rfl, rfl⟩ | ⟨hde, rfl, rfl⟩ | ⟨hde, rfl, rfl⟩
          all_goals
            go_wp2_with fail
            generalize hW : wr.alloc _ = W1
            obtain ⟨hb0, X0⟩ := one_newN hW
            clear hW
            refine (HS.out W1 (hI.below hb0)).mono ?_
            rintro e w1 ⟨rfl, hb1⟩
            have X1 := X0.below hb1
            have c0 := X1.c0; have c1 := X1.c1
            have hI1 := (hI.below hb0).below hb1
            have hbw1 := hbel.trans ((hb0.trans (hb1.mono hb0.size)).mono hbel.size)
            go_wp2_with fail
            refine (HA.out w1 hI1).mono ?_
            rintro e w4 ⟨v4, rfl, hI4, hb4⟩
            go_wp2_with fail
            refine (HT.out w4 v4 hI4).mono ?_
            rintro e w5 ⟨rfl, hb5⟩
            have hbw5 := (hbw1.trans (hb4.mono hbw1.size)).trans (hb5.mono (by have := hbw1.size; have := hb4.size; omega))
            go_wp2_with fail
            go_roundw
            case rel => exact ⟨0, m + 1, _, by omega, rfl, by simp only [str_app], by omega, hstep, hbw5⟩
            case measure => simp [intOf]
        · rw [if_neg (by omega)] at htt
          rw [if_neg (by omega)] at hvt
          subst hvt
          have hje : (j : Int) = 1 := by omega
          by_cases hd1 : dz = [49]
          · rw [if_pos hd1] at htt
            subst htt hd1
            subst h1
            rcases hsg with ⟨rfl, rfl, rfl⟩ | ⟨rfl, rfl, rfl⟩ | ⟨hde, rfl, rfl⟩ | ⟨hde, rfl, rfl⟩
            all_goals
              go_wp2_with fail
              generalize hW : wr.alloc _ = W1
              obtain ⟨hb0, X0⟩ := one_newN hW
              clear hW
              refine (HS.out W1 (hI.below hb0)).mono ?_
              rintro e w1 ⟨rfl, hb1⟩
              have X1 := X0.below hb1
              have c0 := X1.c0; have c1 := X1.c1
              have hI1 := (hI.below hb0).below hb1
              have hbw1 := hbel.trans ((hb0.trans (hb1.mono hb0.size)).mono hbel.size)
              go_wp2_with fail
              refine (HA.out w1 hI1).mono ?_
              rintro e w4 ⟨v4, rfl, hI4, hb4⟩
              go_wp2_with fail
              refine (HT.out w4 v4 hI4).mono ?_
              rintro e w5 ⟨rfl, hb5⟩
              have hbw5 := (hbw1.trans (hb4.mono hbw1.size)).trans (hb5.mono (by have := hbw1.size; have := hb4.size; omega))
              go_wp2_with fail
              go_roundw
              case rel => exact ⟨1, m + 1, _, by omega, rfl, by simp only [str_app], by omega, hstep, hbw5⟩
              case measure => simp [intOf]
          · rw [if_neg hd1] at htt
            have hdb : (dz == [49]) = false := by simp [hd1]
            subst htt
            subst h1
            rcases hsg with ⟨rfl, rfl, rfl⟩ | ⟨rfl, rfl, rfl⟩ | ⟨hde, rfl, rfl⟩ | ⟨hde, rfl, rfl⟩
            all_goals
              go_wp2_with fail
              generalize hW : wr.alloc _ = W1
              obtain ⟨hb0, X0⟩ := one_newN hW
              clear hW
              refine (HS.out W1 (hI.below hb0)).mono ?_
              rintro e w1 ⟨rfl, hb1⟩
              have X1 := X0.below hb1
              have c0 := X1.c0; have c1 := X1.c1
              have hI1 := (hI.below hb0).below hb1
              have hbw1 := hbel.trans ((hb0.trans (hb1.mono hb0.size)).mono hbel.size)
              go_wp2_with fail
              refine (HA.out w1 hI1).mono ?_
              rintro e w4 ⟨v4, rfl, hI4, hb4⟩
              go_wp2_with fail
              refine (HT.out w4 v4 hI4).mono ?_
              rintro e w5 ⟨rfl, hb5⟩
              have hbw5 := (hbw1.trans (hb4.mono hbw1.size)).trans (hb5.mono (by have := hbw1.size; have := hb4.size; omega))
              go_wp2_with fail
              go_roundw
              case rel => exact ⟨1, m + 1, _, by omega, rfl, by simp only [str_app], by omega, hstep, hbw5⟩
              case measure => simp [intOf]
        · rw [if_neg h3] at htt
          rw [if_pos h2] at hvt
          subst hvt
          have hxe : (({ data := #[120, 94] } : ByteArray) ++ { data := dj.toArray }).toList.isEmpty = false := by
            rw [show (({ data := #[120, 94] } : ByteArray) ++ { data := dj.toArray }) = ⟨([120, 94] ++ dj).toArray⟩ from str_app [120, 94] dj]
            simp
          by_cases hd1 : dz = [49]
          · rw [if_pos hd1] at htt
            subst htt hd1
            rcases hsg with ⟨rfl, rfl, rfl⟩ | ⟨rfl, rfl, rfl⟩ | ⟨hde, rfl, rfl⟩ | ⟨hde, rfl, rfl⟩
            all_goals
              go_wp2_with fail
              generalize hW : wr.alloc _ = W1
              obtain ⟨hb0, X0⟩ := one_newN hW
              clear hW
              refine (HS.out W1 (hI.below hb0)).mono ?_
              rintro e w1 ⟨rfl, hb1⟩
              have X1 := X0.below hb1
              have c0 := X1.c0; have c1 := X1.c1
              have hI1 := (hI.below hb0).below hb1
              have hbw1 := hbel.trans ((hb0.trans (hb1.mono hb0.size)).mono hbel.size)
              go_wp2_with fail
              refine (HO.out w1).mono ?_
              rintro e w2 ⟨v2, rfl, hI2, hb2⟩
              go_wp2_with fail
              refine (HT2.out w2 v2 hI2).mono ?_
              rintro e w3 ⟨rfl, hb3⟩
              have X3 := (X1.below hb2).below hb3
              have d0 := X3.c0; have d1 := X3.c1
              have hI3 := (hI1.below hb2).below hb3
              have hbw3 := (hbw1.trans (hb2.mono hbw1.size)).trans (hb3.mono (by have := hbw1.size; have := hb2.size; omega))
              go_wp2_with fail
              refine (HA.out w3 hI3).mono ?_
              rintro e w4 ⟨v4, rfl, hI4, hb4⟩
              go_wp2_with fail
              refine (HT.out w4 v4 hI4).mono ?_
              rintro e w5 ⟨rfl, hb5⟩
              have hbw5 := (hbw3.trans (hb4.mono hbw3.size)).trans (hb5.mono (by have := hbw3.size; have := hb4.size; omega))
              go_wp2_with fail
              go_roundw
              case rel => exact ⟨j, m + 1, _, by omega, rfl, by simp only [str_app], by omega, hstep, hbw5⟩
              case measure => simp [intOf]
          · rw [if_neg hd1] at htt
            have hdb : (dz == [49]) = false := by simp [hd1]
            subst htt
            rcases hsg with ⟨rfl, rfl, rfl⟩ | ⟨rfl, rfl, rfl⟩ | ⟨hde, rfl, rfl⟩ | ⟨hde, rfl, rfl⟩
            all_goals
              go_wp2_with fail
              generalize hW : wr.alloc _ = W1
              obtain ⟨hb0, X0⟩ := one_newN hW
              clear hW
              refine (HS.out W1 (hI.below hb0)).mono ?_
              rintro e w1 ⟨rfl, hb1⟩
              have X1 := X0.below hb1
              have c0 := X1.c0; have c1 := X1.c1
              have hI1 := (hI.below hb0).below hb1
              have hbw1 := hbel.trans ((hb0.trans (hb1.mono hb0.size)).mono hbel.size)
              go_wp2_with fail
              refine (HO.out w1).mono ?_
              rintro e w2 ⟨v2, rfl, hI2, hb2⟩
              go_wp2_with fail
              refine (HT2.out w2 v2 hI2).mono ?_
              rintro e w3 ⟨rfl, hb3⟩
              have X3 := (X1.below hb2).below hb3
              have d0 := X3.c0; have d1 := X3.c1
              have hI3 := (hI1.below hb2).below hb3
              have hbw3 := (hbw1.trans (hb2.mono hbw1.size)).trans (hb3.mono (by have := hbw1.size; have := hb2.size; omega))
              go_wp2_with fail
              refine (HA.out w3 hI3).mono ?_
              rintro e w4 ⟨v4, rfl, hI4, hb4⟩
              go_wp2_with fail
              refine (HT.out w4 v4 hI4).mono ?_
              rintro e w5 ⟨rfl, hb5⟩
              have hbw5 := (hbw3.trans (hb4.mono hbw3.size)).trans (hb5.mono (by have := hbw3.size; have := hb4.size; omega))
              go_wp2_with fail
              go_roundw
              case rel => exact ⟨j, m + 1, _, by omega, rfl, by simp only [str_app], by omega, hstep, hbw5⟩
              case measure => simp [intOf]

end Go.Proofs.YtldcjkhbiffdoaaGreatDoor

/-
  factorref: Minus.
-/
namespace Go.Proofs.YtldcjkhbiffdoaaGreatDoor
open Go.RowKit

theorem negs_succ (zs : List Int) (k : Nat) (h : k < zs.length) : (zs.take (k + 1)).map (fun z => -z) = (zs.take k).map (fun z => -z) ++ [-(zs.getD k 0)] := by
  rw [List.take_succ_eq_append_getElem h, List.map_append, ← getD_lt h]
  rfl

set_option maxHeartbeats 1000000 in
theorem minusR_any (zs : List Int) (u : Value) (w : World) (hu : IsLN w u zs) (hl : zs.length ≤ 1000000) (fx : FitL zs) :
    Calls Tryz.prog 30 #[u] w fun e w' => ∃ x, e = .returned x ∧ IsLN w' x (zs.map fun z => -z) ∧ Below w.heap.size w w' := by
  obtain ⟨ua, uc, rfl⟩ := OwnLN.val hu
  obtain ⟨S, HS⟩ : ∃ S, Hid (zs.map (fun z => -z) = S) := ⟨_, rfl⟩
  rw [HS.out]
  go_enter Tryz.func30, Tryz.ntmps30
  go_wp2_with fail
  go_loopw [3, 8] (fun o i wr => ∃ (k : Nat), k ≤ zs.length ∧ i = .int .i64 k ∧ OwnLN w.heap.size wr o ((zs.take k).map (fun z => -z)) ∧ Below w.heap.size w wr) (fun _ i _ => zs.length - (intOf i).toNat)
  case atStart => exact ⟨0, Nat.zero_le _, rfl, OwnLN.nil0 _ _, Below.refl _ _⟩
  case round =>
    obtain ⟨k, hk, rfl, hown, hbel⟩ := hrel
    have hlen : ((zs.take k).map (fun z => -z)).length = k := by simp; omega
    by_cases hlt : k < zs.length
    · obtain ⟨g, b, xa, xn, xc, rfl, hc1, hc2, hg, _, hc0, hcx, hI⟩ := OwnLN.at (OwnLN.below hu hbel) k hlt
      have hsu := negs_succ zs k hlt
      have f1 := fx k
      generalize zs.getD k 0 = z at *
      have HSU : Hid _ := hsu
      clear hsu
      obtain ⟨L, HL⟩ : ∃ L, Hid ((zs.take k).map (fun z => -z) = L) := ⟨_, rfl⟩
      rw [HL.out] at hown hlen
      have hM := fun (W : World) (g : IsN W (.agg #[.bool b, .slice xa xn xc]) z) => minusN_any _ z W g f1
      go_wp2_with fail
      generalize hW1 : wr.alloc (Obj.cells #[Value.bool b, Value.slice xa xn xc] 74) = W1
      obtain ⟨hb1, X1⟩ := one_newN hW1
      clear hW1
      refine (hM W1 (hI.below hb1)).mono ?_
      rintro e w3 ⟨x3, rfl, hI3, hb3⟩
      obtain ⟨b3, a3, n3, c3, _, rfl, _, _⟩ := id hI3.open
      have hbw3 : Below w.heap.size w w3 := (hbel.trans (hb1.mono hbel.size)).trans (hb3.mono (by have := hbel.size; have := hb1.size; omega))
      have hown3 := OwnLN.below (OwnLN.below hown hb1) hb3
      go_wp2_with (at_builtin; refine wpList_pushNum rfl (.tmp 12) (.tmp 15) rfl w.heap.size _ L _ _ (-z) rfl hown3 hI3 rfl (by omega) hbw3.size ?_)
      intro v4 w4 hown4 hb4 _
      rw [← HL.out, ← HSU.out] at hown4
      go_wp2
      go_roundw
      case rel => exact ⟨k + 1, by omega, by go_num, hown4, hbw3.trans hb4⟩
      case measure => simp [intOf]; omega
    · obtain rfl : k = zs.length := by omega
      rw [List.take_length, HS.out] at hown
      obtain ⟨a1, c1, rfl⟩ := OwnLN.val hown
      go_wp2
      go_ret
      exact ⟨_, rfl, hown.isL, hbel⟩

end Go.Proofs.YtldcjkhbiffdoaaGreatDoor

/-
  factorref: Bound.
-/
namespace Go.Proofs.YtldcjkhbiffdoaaGreatDoor
open Go.RowKit

theorem okD_len {b : Bool} {l : List Int} {z : Int} (h : LimN b l z) : okD z = decide (l.length ≤ 12) := by
  unfold okD
  have h4 := natAbs_sv b h.nonneg
  rw [← h.val] at h4
  by_cases hl : l = []
  · subst hl
    have h5 : z.natAbs = 0 := by simpa [ev] using h4
    rw [h5, decide_eq_true (show Lib.nDigits 0 ≤ 12 from nDigits_le (k := 12) (by decide) (by omega))]
    rfl
  · have hd := congrArg List.length (dec_ev h.dig h.trim hl)
    rw [Lib.decDigits_length, List.length_map, List.length_reverse] at hd
    have h6 : (ev 10 l).toNat = z.natAbs := by omega
    rw [h6] at hd
    rw [hd]

set_option maxHeartbeats 1000000 in
theorem boundR_any (zs : List Int) (u : Value) (w : World) (hu : IsLN w u zs) (hl : zs.length ≤ 1000000) :
    Calls Tryz.prog 42 #[u] w fun e w' => e = .returned (.bool (inB zs)) ∧ Below w.heap.size w w' := by
  obtain ⟨ua, uc, rfl⟩ := OwnLN.val hu
  obtain ⟨S, HS⟩ : ∃ S, Hid (inB zs = S) := ⟨_, rfl⟩
  rw [HS.out]
  go_enter Tryz.func42, Tryz.ntmps42
  go_wp2_with fail
  go_loopw [3, 12] (fun o i wr => ∃ (k : Nat) (r : Bool), k ≤ zs.length ∧ i = .int .i64 k ∧ o = .bool r ∧ Hid (r = (decide (zs.length ≤ 11) && (zs.take k).all okD)) ∧ Below w.heap.size w wr) (fun _ i _ => zs.length - (intOf i).toNat)
  case atStart => exact ⟨0, decide (zs.length ≤ 11), Nat.zero_le _, rfl, by congr 1; exact decide_eq_decide.2 (by omega), (by rw [List.take_zero]; exact (Bool.and_true _).symm), Below.refl _ _⟩
  case round =>
    obtain ⟨k, r, hk, rfl, rfl, HR, hbel⟩ := hrel
    by_cases hlt : k < zs.length
    · obtain ⟨g, b, xa, xn, xc, rfl, hc1, hc2, hg, _, hc0, hcx, hI⟩ := OwnLN.at (OwnLN.below hu hbel) k hlt
      have hok : ∃ q : Bool, okD (zs.getD k 0) = q ∧ decide (xn ≤ 12) = q := by
        obtain ⟨b2, x2, l, e, hr, hl2⟩ := hI
        simp at e
        obtain ⟨rfl, rfl⟩ := e
        obtain ⟨_, _, e2⟩ := hr.val
        simp at e2
        exact ⟨_, okD_len hl2, by rw [e2.2.1]⟩
      obtain ⟨q, hq1, hq2⟩ := hok
      have hnext : (decide (zs.length ≤ 11) && (zs.take (k + 1)).all okD) = (r && q) := by
        rw [HR.out, List.take_succ_eq_append_getElem hlt, List.all_append, ← getD_lt hlt, List.all_cons, hq1, List.all_nil, Bool.and_true, Bool.and_assoc]
      have HNX : Hid _ := hnext.symm
      clear hnext HR hq1
      have hq3 : decide ((xn : Int) ≤ 12) = q := by rw [← hq2]; exact decide_eq_decide.2 (by omega)
      clear hq2
      cases r
      all_goals
        go_wp2
        go_roundw
        case rel => exact ⟨k + 1, _, by omega, by go_num, rfl, HNX, hbel.alloc hbel.size _⟩
        case measure => simp [intOf]; omega
    · obtain rfl : k = zs.length := by omega
      have hr := HR.out
      rw [List.take_length] at hr
      have hS : S = r := by rw [← HS.out, hr]; rfl
      subst hS
      clear HR hr
      go_wp2
      go_ret
      exact ⟨rfl, hbel⟩

end Go.Proofs.YtldcjkhbiffdoaaGreatDoor
