import Derived.Test.YtldcjkhbiffdoabGreatDoorM25
import Derived.Deep.DeepCutAuto

namespace Go.Proofs.YtldcjkhbiffdoabGreatDoor
open Go.RowKit

theorem scont_lt {zs : List Int} {e : Nat} (h : Bd zs e) : (scont zs).natAbs < 10 ^ e := by
  rw [scont_abs]; exact h.cont'

theorem IsB.keptO {w w' : World} {k : Nat} {g : Option Nat} {z : Int} (h : IsB w k z) (hg : w.grownBy w' g) (hne : some k ≠ g) (ht : ∀ j, g = some j → ∃ cur, w.heap[j]? = some (.cells cur 70 (0, 0))) : IsB w' k z := by
  obtain ⟨b, x, h1, h2⟩ := h
  refine ⟨b, x, ?_, h2.kept hg ht⟩
  have hlt := h1.lt
  unfold Bx at h1 ⊢
  rw [hg.block k hlt hne]
  exact h1

set_option maxRecDepth 100000 in
set_option maxHeartbeats 4000000 in
theorem primP_any (zs : List Int) (e : Nat) (u : Value) (w : World) (hu : IsL w u zs) (hl : zs.length ≤ 1000) (fx : Bd zs e) (he : e ≤ 80000000) :
    Calls Tryz.prog 38 #[u] w fun en w' => ∃ x, en = .returned x ∧ IsL w' x (prim zs) ∧ Below w.heap.size w w' := by
  obtain ⟨ua, uc, rfl⟩ := OwnL.val hu
  obtain ⟨S, HS⟩ : ∃ S, Hid (prim zs = S) := ⟨_, rfl⟩
  rw [HS.out]
  have hC := contentP_any zs e _ w hu hl fx he
  have fs : Fit (scont zs) := fitW_of (scont_lt fx) he
  have hpt := fun k (h : k < zs.length) => prim_take (zs := zs) h
  have HPT : Hid _ := hpt
  clear hpt
  rw [HS.out] at HPT
  have hSl : S.length = zs.length := by rw [← HS.out, prim_len]
  have HSL : Hid _ := hSl
  clear hSl
  generalize scont zs = sc at *
  go_enter Tryz.func38, Tryz.ntmps38
  go_wp2_with fail
  refine hC.mono ?_
  rintro en w1 ⟨x1, rfl, hI1, hb1⟩
  obtain ⟨b1, a1, n1, c1, rfl⟩ := hI1.form
  clear hC
  go_wp2_with fail
  have hs1 : w.heap.size ≤ w1.heap.size := hb1.size
  have K1 : IsB (w1.alloc (Obj.cells #[Value.bool b1, Value.slice a1 n1 c1] 70)) w1.heap.size sc := IsB.new hI1
  have hb2 := below_one w1 (Obj.cells #[Value.bool b1, Value.slice a1 n1 c1] 70)
  have hz2 : (w1.alloc (Obj.cells #[Value.bool b1, Value.slice a1 n1 c1] 70)).heap.size = w1.heap.size + 1 := by simp
  generalize w1.alloc (Obj.cells #[Value.bool b1, Value.slice a1 n1 c1] 70) = W2 at *
  have K3 := K1.below (below_one W2 (Obj.cells #[] 70))
  have hO3 : OwnL (w1.heap.size + 1) (W2.alloc (Obj.cells #[] 70)) (.slice (some ⟨w1.heap.size + 1, 0, none⟩) 0 0) [] := OwnL.lit hz2
  have hb3 := hb2.trans ((below_one W2 (Obj.cells #[] 70)).mono hb2.size)
  have hbw3 := hb1.trans (hb3.mono hb1.size)
  generalize W2.alloc (Obj.cells #[] 70) = W3 at *
  clear K1 hb2 hz2 hb3 hI1 hb1
  generalize w1.heap.size = kb at *
  go_loopw [4, 5] (fun l i wr => ∃ (k : Nat), k ≤ zs.length ∧ i = .int .i64 k ∧ OwnL (kb + 1) wr l (S.take k) ∧ IsB wr kb sc ∧ Below w.heap.size w wr) (fun _ i _ => zs.length - (intOf i).toNat)
  case atStart => exact ⟨0, Nat.zero_le _, rfl, hO3, K3, hbw3⟩
  case round =>
    clear K3 hO3 hbw3
    obtain ⟨k, hk, rfl, hown, hK, hbel⟩ := hrel
    have hszw := hK.lt
    by_cases hlt : k < zs.length
    · obtain ⟨g, b1, xa, xn, xc, rfl, hc1, hc2, hg, _, hc0, hcx, hI⟩ := OwnL.at hu k hlt
      have f1 : Fit (zs.getD k 0) := fitW_of (fx k) he
      have hpt := HPT.out k hlt
      generalize zs.getD k 0 = z at *
      have HPK : Hid _ := hpt
      have hlen : (S.take k).length ≤ 1000 := by rw [List.length_take]; omega
      obtain ⟨L, HL⟩ : ∃ L, Hid (S.take k = L) := ⟨_, rfl⟩
      rw [HL.out] at hown hlen HPK
      clear hpt
      obtain ⟨gb, ga, gn, gc, G0, hI2⟩ := hK.open
      have hI1 := hI.below hbel
      have hq := fun (W : World) (g1 : IsI W (.agg #[.bool b1, .slice xa xn xc]) z) (g2 : IsI W (.agg #[.bool gb, .slice ga gn gc]) sc) => divide_any _ _ z sc W g1 g2 f1 fs
      have HQ : Hid _ := hq
      clear hq
      obtain ⟨oa, oc, rfl⟩ := OwnL.val hown
      have hki : (k : Int) < (zs.length : Int) := by omega
      have hki0 : (0 : Int) ≤ (k : Int) := by omega
      go_wp2_with fail
      go_cut [6] (fun p6 wc => ∃ k6, p6 = .pointer (some ⟨k6, 0, none⟩) ∧ IsB wc k6 (z.tdiv sc) ∧ Below wr.heap.size wr wc)
      case first =>
        have hb0 : Below wr.heap.size wr wr.drew := ⟨rfl, rfl, rfl, Nat.le_refl _, fun _ _ => rfl⟩
        have hgr : g < wr.heap.size := by have := hbel.size; omega
        have hc0r := (hbel.cell (p := ⟨g, k * 2, none⟩) hg).trans hc0
        have hcxr := (hbel.cell (p := ⟨g, k * 2 + 1, none⟩) hg).trans hcx
        have hSV : ∀ W, Below wr.heap.size wr W → W.cell? ⟨g, k * 2, none⟩ = some (.bool b1) ∧ W.cell? ⟨g, k * 2 + 1, none⟩ = some (.slice xa xn xc) ∧ W.cell? ⟨kb, 0, none⟩ = some (.bool gb) ∧ W.cell? ⟨kb, 1, none⟩ = some (.slice ga gn gc) := fun W h => ⟨(h.cell (p := ⟨g, k * 2, none⟩) hgr).trans hc0r, (h.cell (p := ⟨g, k * 2 + 1, none⟩) hgr).trans hcxr, (h.cell (p := ⟨kb, 0, none⟩) hszw).trans G0.c0, (h.cell (p := ⟨kb, 1, none⟩) hszw).trans G0.c1⟩
        refine wp_region_held_drew (S := fun W => W.cell? ⟨g, k * 2, none⟩ = some (.bool b1) ∧ W.cell? ⟨g, k * 2 + 1, none⟩ = some (.slice xa xn xc) ∧ W.cell? ⟨kb, 0, none⟩ = some (.bool gb) ∧ W.cell? ⟨kb, 1, none⟩ = some (.slice ga gn gc)) (by kernel_rfl) (hSV _ hb0) fun hS => ?_
        generalize wr.drew = W0 at *
        refine h_take 0 18 (.slice (some ⟨g, 0, none⟩) zs.length uc) rfl rfl (by kernel_rfl) (by kernel_rfl) (by kernel_rfl) (fun _ _ _ h => h) rfl (fun _ _ => by first | rfl | go_simp) hS ?_
        simp only [Act.put, tA, tB, tC]
        refine h_take 1 19 (.int .i64 (k : Int)) rfl rfl (by kernel_rfl) (by kernel_rfl) (by kernel_rfl) (fun _ _ _ h => h) rfl (fun _ _ => by first | rfl | go_simp) hS ?_
        simp only [Act.put, tA, tB, tC]
        refine h_take 2 20 (.pointer (some ⟨g, k * 2, none⟩)) rfl rfl (by kernel_rfl) (by kernel_rfl) (by kernel_rfl) (fun _ _ _ h => h) rfl (fun _ _ => by first | rfl | go_simp) hS ?_
        simp only [Act.put, tA, tB, tC]
        refine h_take 3 21 (.agg #[.bool b1, .slice xa xn xc]) rfl rfl (by kernel_rfl) (by kernel_rfl) (by kernel_rfl) (fun _ _ _ h => h) rfl (fun w' hw' => by obtain ⟨y0, y1, y2, y3⟩ := hw'; go_simp) hS ?_
        simp only [Act.put, tA, tB, tC]
        refine h_take 4 22 (.agg #[.bool gb, .slice ga gn gc]) rfl rfl (by kernel_rfl) (by kernel_rfl) (by kernel_rfl) (fun _ _ _ h => h) rfl (fun w' hw' => by obtain ⟨y0, y1, y2, y3⟩ := hw'; go_simp) hS ?_
        simp only [Act.put, tA, tB, tC]
        refine wpAnyH_ready (rs := [5, 9, 10]) (by kernel_rfl) (by simp) (ar_call 5 23 64 #[.agg #[.bool b1, .slice xa xn xc], .agg #[.bool gb, .slice ga gn gc]] rfl rfl rfl (by go_simp) ?_ (ar_val 9 6 (.pointer (some ⟨W0.heap.size, 0, none⟩)) (w' := W0.alloc (Obj.cells #[Value.bool false, Value.slice none 0 0] 70)) rfl rfl rfl (by go_simp) (hSV _ (hb0.trans ((below_one _ _).mono hb0.size))) ?_ (ar_val 10 7 (.pointer (some ⟨W0.heap.size, 0, none⟩)) (w' := W0.alloc (Obj.cells #[Value.bool false, Value.slice none 0 0] 70)) rfl rfl rfl (by go_simp) (hSV _ (hb0.trans ((below_one _ _).mono hb0.size))) ?_ AllReadyH.nil)))
        · refine (HQ.out _ (hI1.below hb0) (hI2.below hb0)).mono ?_
          rintro e V2 ⟨x5, x6, rfl, hI4, hI5, hx1⟩
          obtain ⟨b5, a5, n5, c5, rfl⟩ := hI4.form
          obtain ⟨b6, a6, n6, c6, rfl⟩ := hI5.form
          have hb3 : Below wr.heap.size wr V2 := hb0.trans (hx1.mono hb0.size)
          refine ⟨_, rfl, hSV _ hb3, ?_⟩
          simp only [Act.put, tA, tB, tC]
          refine h_take 6 17 (.tuple #[.agg #[.bool b5, .slice a5 n5 c5], .agg #[.bool b6, .slice a6 n6 c6]]) rfl rfl (by kernel_rfl) (by kernel_rfl) (by kernel_rfl) (fun _ _ _ h => h) rfl (fun _ _ => rfl) (hSV _ hb3) ?_
          simp only [Act.put, tA, tB, tC]
          refine h_take 7 24 (.agg #[.bool b5, .slice a5 n5 c5]) rfl rfl (by kernel_rfl) (by kernel_rfl) (by kernel_rfl) (fun _ _ _ h => h) rfl (fun _ _ => by go_simp) (hSV _ hb3) ?_
          simp only [Act.put, tA, tB, tC]
          refine h_take 8 25 (.agg #[.bool b6, .slice a6 n6 c6]) rfl rfl (by kernel_rfl) (by kernel_rfl) (by kernel_rfl) (fun _ _ _ h => h) rfl (fun _ _ => by go_simp) (hSV _ hb3) ?_
          simp only [Act.put, tA, tB, tC]
          refine wpAnyH_ready (rs := [9, 10]) (by kernel_rfl) (by simp) (ar_val 9 6 (.pointer (some ⟨V2.heap.size, 0, none⟩)) (w' := V2.alloc (Obj.cells #[Value.bool false, Value.slice none 0 0] 70)) rfl rfl rfl (by go_simp) (hSV _ (hb3.trans ((below_one _ _).mono hb3.size))) ?_ (ar_val 10 7 (.pointer (some ⟨V2.heap.size, 0, none⟩)) (w' := V2.alloc (Obj.cells #[Value.bool false, Value.slice none 0 0] 70)) rfl rfl rfl (by go_simp) (hSV _ (hb3.trans ((below_one _ _).mono hb3.size))) ?_ AllReadyH.nil))
          · obtain ⟨hx6, X9⟩ := one_new (w := V2) (a := .bool false) (b := .slice none 0 0) rfl
            generalize V2.alloc (Obj.cells #[Value.bool false, Value.slice none 0 0] 70) = V7 at *
            have gA : wr.heap.size ≤ V2.heap.size := hb3.size
            have hb8 : Below wr.heap.size wr V7 := hb3.trans (hx6.mono hb3.size)
            have hI10 := hI4.below hx6; have hI11 := hI5.below hx6
            simp only [Act.put, tA, tB, tC]
            refine wpAnyH_ready (rs := [10]) (by kernel_rfl) (by simp) (ar_val 10 7 (.pointer (some ⟨V7.heap.size, 0, none⟩)) (w' := V7.alloc (Obj.cells #[Value.bool false, Value.slice none 0 0] 70)) rfl rfl rfl (by go_simp) (hSV _ (hb8.trans ((below_one _ _).mono hb8.size))) ?_ AllReadyH.nil)
            · obtain ⟨hx12, X15⟩ := one_new (w := V7) (a := .bool false) (b := .slice none 0 0) rfl
              generalize V7.alloc (Obj.cells #[Value.bool false, Value.slice none 0 0] 70) = V13 at *
              have gB : wr.heap.size ≤ V7.heap.size := hb8.size
              have hltB := X9.lt
              have hb14 : Below wr.heap.size wr V13 := hb8.trans (hx12.mono hb8.size)
              have hI16 := hI10.below hx12; have hI17 := hI11.below hx12
              have X18 := X9.below hx12
              simp only [Act.put, tA, tB, tC]
              have c0 := X18.c0; have c1 := X18.c1; have f0 := X18.f0; have f1 := X18.f1
              have hne : (V7.heap.size : Nat) ≠ V2.heap.size := Nat.ne_of_gt hltB
              have Y8 := X15.other hne (.bool b5) (.slice a5 n5 c5)
              have hK7 := IsB.stored X18 hI16
              have hb18 := below_set2 hb14 (show wr.heap.size ≤ V2.heap.size from gA) (.bool b5) (.slice a5 n5 c5)
              refine h_store 11 (w' := (V13.setCell ⟨V2.heap.size, 0, none⟩ (.bool b5)).setCell ⟨V2.heap.size, 1, none⟩ (.slice a5 n5 c5)) rfl rfl (by kernel_rfl) rfl (by go_simp) (hSV _ hb18) ?_
              clear c0 c1 f0 f1
              generalize (V13.setCell ⟨V2.heap.size, 0, none⟩ (.bool b5)).setCell ⟨V2.heap.size, 1, none⟩ (.slice a5 n5 c5) = V at *
              have c0 := Y8.c0; have c1 := Y8.c1; have f0 := Y8.f0; have f1 := Y8.f1
              have hb19 := below_set2 hb18 (show wr.heap.size ≤ V7.heap.size from gB) (.bool b6) (.slice a6 n6 c6)
              refine h_store 12 (w' := (V.setCell ⟨V7.heap.size, 0, none⟩ (.bool b6)).setCell ⟨V7.heap.size, 1, none⟩ (.slice a6 n6 c6)) rfl rfl (by kernel_rfl) rfl (by go_simp) (hSV _ hb19) ?_
              refine wpAnyH_done (by kernel_rfl) ?_ _
              go_wp2_with fail
              go_meet
              case rel => exact ⟨V2.heap.size, rfl, hK7.other Y8 hne.symm _ _, hb19⟩
          · obtain ⟨hx19, X22⟩ := one_new (w := V2) (a := .bool false) (b := .slice none 0 0) rfl
            generalize V2.alloc (Obj.cells #[Value.bool false, Value.slice none 0 0] 70) = V20 at *
            have gB : wr.heap.size ≤ V2.heap.size := hb3.size
            have hb21 : Below wr.heap.size wr V20 := hb3.trans (hx19.mono hb3.size)
            have hI23 := hI4.below hx19; have hI24 := hI5.below hx19
            simp only [Act.put, tA, tB, tC]
            refine wpAnyH_ready (rs := [9]) (by kernel_rfl) (by simp) (ar_val 9 6 (.pointer (some ⟨V20.heap.size, 0, none⟩)) (w' := V20.alloc (Obj.cells #[Value.bool false, Value.slice none 0 0] 70)) rfl rfl rfl (by go_simp) (hSV _ (hb21.trans ((below_one _ _).mono hb21.size))) ?_ AllReadyH.nil)
            · obtain ⟨hx25, X28⟩ := one_new (w := V20) (a := .bool false) (b := .slice none 0 0) rfl
              generalize V20.alloc (Obj.cells #[Value.bool false, Value.slice none 0 0] 70) = V26 at *
              have gA : wr.heap.size ≤ V20.heap.size := hb21.size
              have hltA := X22.lt
              have hb27 : Below wr.heap.size wr V26 := hb21.trans (hx25.mono hb21.size)
              have hI29 := hI23.below hx25; have hI30 := hI24.below hx25
              have X31 := X22.below hx25
              simp only [Act.put, tA, tB, tC]
              have c0 := X28.c0; have c1 := X28.c1; have f0 := X28.f0; have f1 := X28.f1
              have hne : (V2.heap.size : Nat) ≠ V20.heap.size := Nat.ne_of_lt hltA
              have Y8 := X31.other hne (.bool b5) (.slice a5 n5 c5)
              have hK7 := IsB.stored X28 hI29
              have hb18 := below_set2 hb27 (show wr.heap.size ≤ V20.heap.size from gA) (.bool b5) (.slice a5 n5 c5)
              refine h_store 11 (w' := (V26.setCell ⟨V20.heap.size, 0, none⟩ (.bool b5)).setCell ⟨V20.heap.size, 1, none⟩ (.slice a5 n5 c5)) rfl rfl (by kernel_rfl) rfl (by go_simp) (hSV _ hb18) ?_
              clear c0 c1 f0 f1
              generalize (V26.setCell ⟨V20.heap.size, 0, none⟩ (.bool b5)).setCell ⟨V20.heap.size, 1, none⟩ (.slice a5 n5 c5) = V at *
              have c0 := Y8.c0; have c1 := Y8.c1; have f0 := Y8.f0; have f1 := Y8.f1
              have hb19 := below_set2 hb18 (show wr.heap.size ≤ V2.heap.size from gB) (.bool b6) (.slice a6 n6 c6)
              refine h_store 12 (w' := (V.setCell ⟨V2.heap.size, 0, none⟩ (.bool b6)).setCell ⟨V2.heap.size, 1, none⟩ (.slice a6 n6 c6)) rfl rfl (by kernel_rfl) rfl (by go_simp) (hSV _ hb19) ?_
              refine wpAnyH_done (by kernel_rfl) ?_ _
              go_wp2_with fail
              go_meet
              case rel => exact ⟨V20.heap.size, rfl, hK7.other Y8 hne.symm _ _, hb19⟩
        · obtain ⟨hx32, X35⟩ := one_new (w := W0) (a := .bool false) (b := .slice none 0 0) rfl
          generalize W0.alloc (Obj.cells #[Value.bool false, Value.slice none 0 0] 70) = V33 at *
          have gA : wr.heap.size ≤ W0.heap.size := hb0.size
          have hb34 : Below wr.heap.size wr V33 := hb0.trans (hx32.mono hb0.size)
          simp only [Act.put, tA, tB, tC]
          refine wpAnyH_ready (rs := [5, 10]) (by kernel_rfl) (by simp) (ar_call 5 23 64 #[.agg #[.bool b1, .slice xa xn xc], .agg #[.bool gb, .slice ga gn gc]] rfl rfl rfl (by go_simp) ?_ (ar_val 10 7 (.pointer (some ⟨V33.heap.size, 0, none⟩)) (w' := V33.alloc (Obj.cells #[Value.bool false, Value.slice none 0 0] 70)) rfl rfl rfl (by go_simp) (hSV _ (hb34.trans ((below_one _ _).mono hb34.size))) ?_ AllReadyH.nil))
          · refine (HQ.out _ (hI1.below hb34) (hI2.below hb34)).mono ?_
            rintro e V37 ⟨x5, x6, rfl, hI39, hI40, hx36⟩
            obtain ⟨b5, a5, n5, c5, rfl⟩ := hI39.form
            obtain ⟨b6, a6, n6, c6, rfl⟩ := hI40.form
            have hb38 : Below wr.heap.size wr V37 := hb34.trans (hx36.mono hb34.size)
            have X41 := X35.below hx36
            refine ⟨_, rfl, hSV _ hb38, ?_⟩
            simp only [Act.put, tA, tB, tC]
            refine h_take 6 17 (.tuple #[.agg #[.bool b5, .slice a5 n5 c5], .agg #[.bool b6, .slice a6 n6 c6]]) rfl rfl (by kernel_rfl) (by kernel_rfl) (by kernel_rfl) (fun _ _ _ h => h) rfl (fun _ _ => rfl) (hSV _ hb38) ?_
            simp only [Act.put, tA, tB, tC]
            refine h_take 7 24 (.agg #[.bool b5, .slice a5 n5 c5]) rfl rfl (by kernel_rfl) (by kernel_rfl) (by kernel_rfl) (fun _ _ _ h => h) rfl (fun _ _ => by go_simp) (hSV _ hb38) ?_
            simp only [Act.put, tA, tB, tC]
            refine h_take 8 25 (.agg #[.bool b6, .slice a6 n6 c6]) rfl rfl (by kernel_rfl) (by kernel_rfl) (by kernel_rfl) (fun _ _ _ h => h) rfl (fun _ _ => by go_simp) (hSV _ hb38) ?_
            simp only [Act.put, tA, tB, tC]
            refine wpAnyH_ready (rs := [10]) (by kernel_rfl) (by simp) (ar_val 10 7 (.pointer (some ⟨V37.heap.size, 0, none⟩)) (w' := V37.alloc (Obj.cells #[Value.bool false, Value.slice none 0 0] 70)) rfl rfl rfl (by go_simp) (hSV _ (hb38.trans ((below_one _ _).mono hb38.size))) ?_ AllReadyH.nil)
            · obtain ⟨hx42, X45⟩ := one_new (w := V37) (a := .bool false) (b := .slice none 0 0) rfl
              generalize V37.alloc (Obj.cells #[Value.bool false, Value.slice none 0 0] 70) = V43 at *
              have gB : wr.heap.size ≤ V37.heap.size := hb38.size
              have hltB := X41.lt
              have hb44 : Below wr.heap.size wr V43 := hb38.trans (hx42.mono hb38.size)
              have hI46 := hI39.below hx42; have hI47 := hI40.below hx42
              have X48 := X41.below hx42
              simp only [Act.put, tA, tB, tC]
              have c0 := X48.c0; have c1 := X48.c1; have f0 := X48.f0; have f1 := X48.f1
              have hne : (V37.heap.size : Nat) ≠ W0.heap.size := Nat.ne_of_gt hltB
              have Y8 := X45.other hne (.bool b5) (.slice a5 n5 c5)
              have hK7 := IsB.stored X48 hI46
              have hb18 := below_set2 hb44 (show wr.heap.size ≤ W0.heap.size from gA) (.bool b5) (.slice a5 n5 c5)
              refine h_store 11 (w' := (V43.setCell ⟨W0.heap.size, 0, none⟩ (.bool b5)).setCell ⟨W0.heap.size, 1, none⟩ (.slice a5 n5 c5)) rfl rfl (by kernel_rfl) rfl (by go_simp) (hSV _ hb18) ?_
              clear c0 c1 f0 f1
              generalize (V43.setCell ⟨W0.heap.size, 0, none⟩ (.bool b5)).setCell ⟨W0.heap.size, 1, none⟩ (.slice a5 n5 c5) = V at *
              have c0 := Y8.c0; have c1 := Y8.c1; have f0 := Y8.f0; have f1 := Y8.f1
              have hb19 := below_set2 hb18 (show wr.heap.size ≤ V37.heap.size from gB) (.bool b6) (.slice a6 n6 c6)
              refine h_store 12 (w' := (V.setCell ⟨V37.heap.size, 0, none⟩ (.bool b6)).setCell ⟨V37.heap.size, 1, none⟩ (.slice a6 n6 c6)) rfl rfl (by kernel_rfl) rfl (by go_simp) (hSV _ hb19) ?_
              refine wpAnyH_done (by kernel_rfl) ?_ _
              go_wp2_with fail
              go_meet
              case rel => exact ⟨W0.heap.size, rfl, hK7.other Y8 hne.symm _ _, hb19⟩
          · obtain ⟨hx49, X52⟩ := one_new (w := V33) (a := .bool false) (b := .slice none 0 0) rfl
            generalize V33.alloc (Obj.cells #[Value.bool false, Value.slice none 0 0] 70) = V50 at *
            have gB : wr.heap.size ≤ V33.heap.size := hb34.size
            have hltB := X35.lt
            have hb51 : Below wr.heap.size wr V50 := hb34.trans (hx49.mono hb34.size)
            have X53 := X35.below hx49
            simp only [Act.put, tA, tB, tC]
            refine wpAnyH_ready (rs := [5]) (by kernel_rfl) (by simp) (ar_call 5 23 64 #[.agg #[.bool b1, .slice xa xn xc], .agg #[.bool gb, .slice ga gn gc]] rfl rfl rfl (by go_simp) ?_ AllReadyH.nil)
            · refine (HQ.out _ (hI1.below hb51) (hI2.below hb51)).mono ?_
              rintro e V55 ⟨x5, x6, rfl, hI57, hI58, hx54⟩
              obtain ⟨b5, a5, n5, c5, rfl⟩ := hI57.form
              obtain ⟨b6, a6, n6, c6, rfl⟩ := hI58.form
              have hb56 : Below wr.heap.size wr V55 := hb51.trans (hx54.mono hb51.size)
              have X59 := X53.below hx54
              have X60 := X52.below hx54
              refine ⟨_, rfl, hSV _ hb56, ?_⟩
              simp only [Act.put, tA, tB, tC]
              refine h_take 6 17 (.tuple #[.agg #[.bool b5, .slice a5 n5 c5], .agg #[.bool b6, .slice a6 n6 c6]]) rfl rfl (by kernel_rfl) (by kernel_rfl) (by kernel_rfl) (fun _ _ _ h => h) rfl (fun _ _ => rfl) (hSV _ hb56) ?_
              simp only [Act.put, tA, tB, tC]
              refine h_take 7 24 (.agg #[.bool b5, .slice a5 n5 c5]) rfl rfl (by kernel_rfl) (by kernel_rfl) (by kernel_rfl) (fun _ _ _ h => h) rfl (fun _ _ => by go_simp) (hSV _ hb56) ?_
              simp only [Act.put, tA, tB, tC]
              refine h_take 8 25 (.agg #[.bool b6, .slice a6 n6 c6]) rfl rfl (by kernel_rfl) (by kernel_rfl) (by kernel_rfl) (fun _ _ _ h => h) rfl (fun _ _ => by go_simp) (hSV _ hb56) ?_
              simp only [Act.put, tA, tB, tC]
              have c0 := X59.c0; have c1 := X59.c1; have f0 := X59.f0; have f1 := X59.f1
              have hne : (V33.heap.size : Nat) ≠ W0.heap.size := Nat.ne_of_gt hltB
              have Y8 := X60.other hne (.bool b5) (.slice a5 n5 c5)
              have hK7 := IsB.stored X59 hI57
              have hb18 := below_set2 hb56 (show wr.heap.size ≤ W0.heap.size from gA) (.bool b5) (.slice a5 n5 c5)
              refine h_store 11 (w' := (V55.setCell ⟨W0.heap.size, 0, none⟩ (.bool b5)).setCell ⟨W0.heap.size, 1, none⟩ (.slice a5 n5 c5)) rfl rfl (by kernel_rfl) rfl (by go_simp) (hSV _ hb18) ?_
              clear c0 c1 f0 f1
              generalize (V55.setCell ⟨W0.heap.size, 0, none⟩ (.bool b5)).setCell ⟨W0.heap.size, 1, none⟩ (.slice a5 n5 c5) = V at *
              have c0 := Y8.c0; have c1 := Y8.c1; have f0 := Y8.f0; have f1 := Y8.f1
              have hb19 := below_set2 hb18 (show wr.heap.size ≤ V33.heap.size from gB) (.bool b6) (.slice a6 n6 c6)
              refine h_store 12 (w' := (V.setCell ⟨V33.heap.size, 0, none⟩ (.bool b6)).setCell ⟨V33.heap.size, 1, none⟩ (.slice a6 n6 c6)) rfl rfl (by kernel_rfl) rfl (by go_simp) (hSV _ hb19) ?_
              refine wpAnyH_done (by kernel_rfl) ?_ _
              go_wp2_with fail
              go_meet
              case rel => exact ⟨W0.heap.size, rfl, hK7.other Y8 hne.symm _ _, hb19⟩
        · obtain ⟨hx61, X64⟩ := one_new (w := W0) (a := .bool false) (b := .slice none 0 0) rfl
          generalize W0.alloc (Obj.cells #[Value.bool false, Value.slice none 0 0] 70) = V62 at *
          have gB : wr.heap.size ≤ W0.heap.size := hb0.size
          have hb63 : Below wr.heap.size wr V62 := hb0.trans (hx61.mono hb0.size)
          simp only [Act.put, tA, tB, tC]
          refine wpAnyH_ready (rs := [5, 9]) (by kernel_rfl) (by simp) (ar_call 5 23 64 #[.agg #[.bool b1, .slice xa xn xc], .agg #[.bool gb, .slice ga gn gc]] rfl rfl rfl (by go_simp) ?_ (ar_val 9 6 (.pointer (some ⟨V62.heap.size, 0, none⟩)) (w' := V62.alloc (Obj.cells #[Value.bool false, Value.slice none 0 0] 70)) rfl rfl rfl (by go_simp) (hSV _ (hb63.trans ((below_one _ _).mono hb63.size))) ?_ AllReadyH.nil))
          · refine (HQ.out _ (hI1.below hb63) (hI2.below hb63)).mono ?_
            rintro e V66 ⟨x5, x6, rfl, hI68, hI69, hx65⟩
            obtain ⟨b5, a5, n5, c5, rfl⟩ := hI68.form
            obtain ⟨b6, a6, n6, c6, rfl⟩ := hI69.form
            have hb67 : Below wr.heap.size wr V66 := hb63.trans (hx65.mono hb63.size)
            have X70 := X64.below hx65
            refine ⟨_, rfl, hSV _ hb67, ?_⟩
            simp only [Act.put, tA, tB, tC]
            refine h_take 6 17 (.tuple #[.agg #[.bool b5, .slice a5 n5 c5], .agg #[.bool b6, .slice a6 n6 c6]]) rfl rfl (by kernel_rfl) (by kernel_rfl) (by kernel_rfl) (fun _ _ _ h => h) rfl (fun _ _ => rfl) (hSV _ hb67) ?_
            simp only [Act.put, tA, tB, tC]
            refine h_take 7 24 (.agg #[.bool b5, .slice a5 n5 c5]) rfl rfl (by kernel_rfl) (by kernel_rfl) (by kernel_rfl) (fun _ _ _ h => h) rfl (fun _ _ => by go_simp) (hSV _ hb67) ?_
            simp only [Act.put, tA, tB, tC]
            refine h_take 8 25 (.agg #[.bool b6, .slice a6 n6 c6]) rfl rfl (by kernel_rfl) (by kernel_rfl) (by kernel_rfl) (fun _ _ _ h => h) rfl (fun _ _ => by go_simp) (hSV _ hb67) ?_
            simp only [Act.put, tA, tB, tC]
            refine wpAnyH_ready (rs := [9]) (by kernel_rfl) (by simp) (ar_val 9 6 (.pointer (some ⟨V66.heap.size, 0, none⟩)) (w' := V66.alloc (Obj.cells #[Value.bool false, Value.slice none 0 0] 70)) rfl rfl rfl (by go_simp) (hSV _ (hb67.trans ((below_one _ _).mono hb67.size))) ?_ AllReadyH.nil)
            · obtain ⟨hx71, X74⟩ := one_new (w := V66) (a := .bool false) (b := .slice none 0 0) rfl
              generalize V66.alloc (Obj.cells #[Value.bool false, Value.slice none 0 0] 70) = V72 at *
              have gA : wr.heap.size ≤ V66.heap.size := hb67.size
              have hltA := X70.lt
              have hb73 : Below wr.heap.size wr V72 := hb67.trans (hx71.mono hb67.size)
              have hI75 := hI68.below hx71; have hI76 := hI69.below hx71
              have X77 := X70.below hx71
              simp only [Act.put, tA, tB, tC]
              have c0 := X74.c0; have c1 := X74.c1; have f0 := X74.f0; have f1 := X74.f1
              have hne : (W0.heap.size : Nat) ≠ V66.heap.size := Nat.ne_of_lt hltA
              have Y8 := X77.other hne (.bool b5) (.slice a5 n5 c5)
              have hK7 := IsB.stored X74 hI75
              have hb18 := below_set2 hb73 (show wr.heap.size ≤ V66.heap.size from gA) (.bool b5) (.slice a5 n5 c5)
              refine h_store 11 (w' := (V72.setCell ⟨V66.heap.size, 0, none⟩ (.bool b5)).setCell ⟨V66.heap.size, 1, none⟩ (.slice a5 n5 c5)) rfl rfl (by kernel_rfl) rfl (by go_simp) (hSV _ hb18) ?_
              clear c0 c1 f0 f1
              generalize (V72.setCell ⟨V66.heap.size, 0, none⟩ (.bool b5)).setCell ⟨V66.heap.size, 1, none⟩ (.slice a5 n5 c5) = V at *
              have c0 := Y8.c0; have c1 := Y8.c1; have f0 := Y8.f0; have f1 := Y8.f1
              have hb19 := below_set2 hb18 (show wr.heap.size ≤ W0.heap.size from gB) (.bool b6) (.slice a6 n6 c6)
              refine h_store 12 (w' := (V.setCell ⟨W0.heap.size, 0, none⟩ (.bool b6)).setCell ⟨W0.heap.size, 1, none⟩ (.slice a6 n6 c6)) rfl rfl (by kernel_rfl) rfl (by go_simp) (hSV _ hb19) ?_
              refine wpAnyH_done (by kernel_rfl) ?_ _
              go_wp2_with fail
              go_meet
              case rel => exact ⟨V66.heap.size, rfl, hK7.other Y8 hne.symm _ _, hb19⟩
          · obtain ⟨hx78, X81⟩ := one_new (w := V62) (a := .bool false) (b := .slice none 0 0) rfl
            generalize V62.alloc (Obj.cells #[Value.bool false, Value.slice none 0 0] 70) = V79 at *
            have gA : wr.heap.size ≤ V62.heap.size := hb63.size
            have hltA := X64.lt
            have hb80 : Below wr.heap.size wr V79 := hb63.trans (hx78.mono hb63.size)
            have X82 := X64.below hx78
            simp only [Act.put, tA, tB, tC]
            refine wpAnyH_ready (rs := [5]) (by kernel_rfl) (by simp) (ar_call 5 23 64 #[.agg #[.bool b1, .slice xa xn xc], .agg #[.bool gb, .slice ga gn gc]] rfl rfl rfl (by go_simp) ?_ AllReadyH.nil)
            · refine (HQ.out _ (hI1.below hb80) (hI2.below hb80)).mono ?_
              rintro e V84 ⟨x5, x6, rfl, hI86, hI87, hx83⟩
              obtain ⟨b5, a5, n5, c5, rfl⟩ := hI86.form
              obtain ⟨b6, a6, n6, c6, rfl⟩ := hI87.form
              have hb85 : Below wr.heap.size wr V84 := hb80.trans (hx83.mono hb80.size)
              have X88 := X81.below hx83
              have X89 := X82.below hx83
              refine ⟨_, rfl, hSV _ hb85, ?_⟩
              simp only [Act.put, tA, tB, tC]
              refine h_take 6 17 (.tuple #[.agg #[.bool b5, .slice a5 n5 c5], .agg #[.bool b6, .slice a6 n6 c6]]) rfl rfl (by kernel_rfl) (by kernel_rfl) (by kernel_rfl) (fun _ _ _ h => h) rfl (fun _ _ => rfl) (hSV _ hb85) ?_
              simp only [Act.put, tA, tB, tC]
              refine h_take 7 24 (.agg #[.bool b5, .slice a5 n5 c5]) rfl rfl (by kernel_rfl) (by kernel_rfl) (by kernel_rfl) (fun _ _ _ h => h) rfl (fun _ _ => by go_simp) (hSV _ hb85) ?_
              simp only [Act.put, tA, tB, tC]
              refine h_take 8 25 (.agg #[.bool b6, .slice a6 n6 c6]) rfl rfl (by kernel_rfl) (by kernel_rfl) (by kernel_rfl) (fun _ _ _ h => h) rfl (fun _ _ => by go_simp) (hSV _ hb85) ?_
              simp only [Act.put, tA, tB, tC]
              have c0 := X88.c0; have c1 := X88.c1; have f0 := X88.f0; have f1 := X88.f1
              have hne : (W0.heap.size : Nat) ≠ V62.heap.size := Nat.ne_of_lt hltA
              have Y8 := X89.other hne (.bool b5) (.slice a5 n5 c5)
              have hK7 := IsB.stored X88 hI86
              have hb18 := below_set2 hb85 (show wr.heap.size ≤ V62.heap.size from gA) (.bool b5) (.slice a5 n5 c5)
              refine h_store 11 (w' := (V84.setCell ⟨V62.heap.size, 0, none⟩ (.bool b5)).setCell ⟨V62.heap.size, 1, none⟩ (.slice a5 n5 c5)) rfl rfl (by kernel_rfl) rfl (by go_simp) (hSV _ hb18) ?_
              clear c0 c1 f0 f1
              generalize (V84.setCell ⟨V62.heap.size, 0, none⟩ (.bool b5)).setCell ⟨V62.heap.size, 1, none⟩ (.slice a5 n5 c5) = V at *
              have c0 := Y8.c0; have c1 := Y8.c1; have f0 := Y8.f0; have f1 := Y8.f1
              have hb19 := below_set2 hb18 (show wr.heap.size ≤ W0.heap.size from gB) (.bool b6) (.slice a6 n6 c6)
              refine h_store 12 (w' := (V.setCell ⟨W0.heap.size, 0, none⟩ (.bool b6)).setCell ⟨W0.heap.size, 1, none⟩ (.slice a6 n6 c6)) rfl rfl (by kernel_rfl) rfl (by go_simp) (hSV _ hb19) ?_
              refine wpAnyH_done (by kernel_rfl) ?_ _
              go_wp2_with fail
              go_meet
              case rel => exact ⟨V62.heap.size, rfl, hK7.other Y8 hne.symm _ _, hb19⟩
      case rest =>
        obtain ⟨k6, rfl, hK6, hb6⟩ := hcut
        obtain ⟨b6, a6, n6, c6, G6, hI6⟩ := hK6.open
        have q0 := G6.c0; have q1 := G6.c1
        have hown6 := OwnL.below hown hb6
        have hK6b := hK.below hb6
        have hbw6 := hbel.trans (hb6.mono hbel.size)
        have hs6 : kb + 1 ≤ wc.heap.size := by have := hb6.size; omega
        clear HQ hI1 hI2 G0 hI
        go_wp2_with (at_builtin; refine wpList_pushI rfl (.tmp 26) (.tmp 28) rfl (kb + 1) _ L _ _ (z.tdiv sc) rfl hown6 hI6 rfl (by omega) hs6 ?_)
        intro v7 w7 hown7 hb7 hgr7
        rw [← HPK.out] at hown7
        have hK7 := hK6b.keptO hgr7 (fun e => by have := hown6.block kb e.symm; omega) hown6.typ
        go_wp2
        go_roundw
        case rel => exact ⟨k + 1, by omega, by go_num, hown7, hK7, hbw6.trans (hb7.mono (by omega))⟩
        case measure => simp [intOf]; omega
    · obtain rfl : k = zs.length := by omega
      rw [← HSL.out, List.take_length] at hown
      obtain ⟨oa, oc, hoe⟩ := OwnL.val hown
      subst hoe
      go_wp2
      go_ret
      exact ⟨_, rfl, hown.isL, hbel⟩

end Go.Proofs.YtldcjkhbiffdoabGreatDoor
