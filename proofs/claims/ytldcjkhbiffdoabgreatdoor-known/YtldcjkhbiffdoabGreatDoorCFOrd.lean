import Derived.Test.YtldcjkhbiffdoabGreatDoorM07
import Derived.Test.YtldcjkhbiffdoabGreatDoorM28
import Derived.Test.YtldcjkhbiffdoabGreatDoorM30
import Derived.Deep.DeepCutAuto

set_option linter.unusedSimpArgs false
namespace Go.Proofs.YtldcjkhbiffdoabGreatDoor
open Go.RowKit

set_option maxRecDepth 100000 in
set_option maxHeartbeats 4000000 in
theorem before_any (a b : List Int) (u v : Value) (w : World) (hu : IsL w u a) (hv : IsL w v b) (hl : a.length ≤ 900) (hm : b.length ≤ 900) (fa : FitW a) (fb : FitW b) :
    Calls Tryz.prog 65 #[u, v] w fun e w' => e = .returned (.bool (bfr a b)) ∧ Below w.heap.size w w' := by
  obtain ⟨ua, uc, rfl⟩ := OwnL.val hu
  obtain ⟨va, vc, rfl⟩ := OwnL.val hv
  by_cases hlen : a.length = b.length
  · have HB : Hid (bfr a b = lex a b a.length) := by show _ = _; unfold bfr; rw [if_pos hlen]
    obtain ⟨r, HR⟩ : ∃ r, Hid (bfr a b = r) := ⟨_, rfl⟩
    rw [HR.out] at HB ⊢
    have hl1 : a.length ≤ b.length := by omega
    have hl2 : b.length ≤ a.length := by omega
    have heq : (a.length : Int) = (b.length : Int) := by omega
    have hb' : (((a.length : Int)) != (b.length : Int)) = false := by simp [heq]
    have HB' : Hid _ := hb'
    clear hlen heq hb'
    obtain ⟨bn, HBN⟩ : ∃ bn, Hid (b.length = bn) := ⟨_, rfl⟩
    rw [HBN.out] at hl1 hl2 hv hm ⊢
    obtain rfl : bn = a.length := by omega
    have hv' : IsL w (.slice va b.length vc) b := by rw [HBN.out]; exact hv
    have HLB : Hid (a.length ≤ b.length) := by show _ ≤ _; rw [HBN.out]; exact Nat.le_refl _
    clear hl1 hl2
    go_enter Tryz.func65, Tryz.ntmps65
    go_wp2_with fail
    go_loopw [5] (fun i wr => ∃ (k : Nat), k ≤ a.length ∧ i = .int .i64 ((k : Int) - 1) ∧ Hid (r = lex a b k) ∧ Below w.heap.size w wr) (fun i _ => (intOf i + 1).toNat)
    case atStart => exact ⟨a.length, Nat.le_refl _, rfl, HB, Below.refl _ _⟩
    case round =>
      obtain ⟨k, hk, rfl, HK, hbel⟩ := hrel
      cases k with
      | zero =>
        have HK' : Hid (r = false) := HK.out
        clear HK
        go_wp2
        go_ret
        exact ⟨by rw [HK'.out]; rfl, hbel⟩
      | succ k =>
        rw [show (((k + 1 : Nat) : Int) - 1) = (k : Int) by omega]
        have hkb : k < b.length := by have := HLB.out; omega
        obtain ⟨g, b1, xa, xn, xc, rfl, hc1, hc2, hg, _, hc0, hcx, hI1⟩ := OwnL.at hu k (by omega)
        obtain ⟨g', b2, ya, yn, yc, hge, hd1, hd2, hg', _, hd0, hdx, hI2⟩ := OwnL.at hv' k hkb
        subst hge
        have f1 := fa k
        have f2 := fb k
        have HKE : Hid ((a.getD k 0 = b.getD k 0 → r = lex a b k) ∧ (¬ a.getD k 0 = b.getD k 0 → r = decide (a.getD k 0 < b.getD k 0))) := by
          have h1 := HK.out
          unfold lex at h1
          exact ⟨fun h => by rwa [if_pos h] at h1, fun h => by rwa [if_neg h] at h1⟩
        generalize a.getD k 0 = x at *
        generalize b.getD k 0 = y at *
        clear HK
        have hSV : ∀ W, Below w.heap.size w W → W.cell? ⟨g, k * 2, none⟩ = some (.bool b1) ∧ W.cell? ⟨g, k * 2 + 1, none⟩ = some (.slice xa xn xc) ∧ W.cell? ⟨g', k * 2, none⟩ = some (.bool b2) ∧ W.cell? ⟨g', k * 2 + 1, none⟩ = some (.slice ya yn yc) := fun W h => ⟨(h.cell (p := ⟨g, k * 2, none⟩) hg).trans hc0, (h.cell (p := ⟨g, k * 2 + 1, none⟩) hg).trans hcx, (h.cell (p := ⟨g', k * 2, none⟩) hg').trans hd0, (h.cell (p := ⟨g', k * 2 + 1, none⟩) hg').trans hdx⟩
        have hbd : Below w.heap.size w wr.drew := ⟨hbel.os, hbel.tape, hbel.output, hbel.size, hbel.block⟩
        have hJ1 := hI1.below hbd
        have hJ2 := hI2.below hbd
        have hki : (k : Int) < (a.length : Int) := by omega
        have hki0 : (0 : Int) ≤ (k : Int) := by omega
        go_wp2_with fail
        refine wp_region_held_drew (S := fun W => W.cell? ⟨g, k * 2, none⟩ = some (.bool b1) ∧ W.cell? ⟨g, k * 2 + 1, none⟩ = some (.slice xa xn xc) ∧ W.cell? ⟨g', k * 2, none⟩ = some (.bool b2) ∧ W.cell? ⟨g', k * 2 + 1, none⟩ = some (.slice ya yn yc)) (by kernel_rfl) (hSV _ hbd) fun hS => ?_
        generalize wr.drew = V0 at *
        refine h_take 0 24 (.slice (some ⟨g, 0, none⟩) a.length uc) rfl rfl (by kernel_rfl) (by kernel_rfl) (by kernel_rfl) (fun _ _ _ h => h) rfl (fun _ _ => by first | rfl | go_simp) hS ?_
        simp only [Act.put, tA, tB, tC]
        refine h_take 1 25 (.int .i64 (k : Int)) rfl rfl (by kernel_rfl) (by kernel_rfl) (by kernel_rfl) (fun _ _ _ h => h) rfl (fun _ _ => by first | rfl | go_simp) hS ?_
        simp only [Act.put, tA, tB, tC]
        refine h_take 2 26 (.pointer (some ⟨g, k * 2, none⟩)) rfl rfl (by kernel_rfl) (by kernel_rfl) (by kernel_rfl) (fun _ _ _ h => h) rfl (fun _ _ => by first | rfl | go_simp) hS ?_
        simp only [Act.put, tA, tB, tC]
        refine h_take 3 27 (.agg #[.bool b1, .slice xa xn xc]) rfl rfl (by kernel_rfl) (by kernel_rfl) (by kernel_rfl) (fun _ _ _ h => h) rfl (fun w' hw' => by obtain ⟨y0, y1, y2, y3⟩ := hw'; go_simp) hS ?_
        simp only [Act.put, tA, tB, tC]
        refine h_take 4 28 (.slice (some ⟨g', 0, none⟩) a.length vc) rfl rfl (by kernel_rfl) (by kernel_rfl) (by kernel_rfl) (fun _ _ _ h => h) rfl (fun _ _ => by first | rfl | go_simp) hS ?_
        simp only [Act.put, tA, tB, tC]
        refine h_take 5 29 (.int .i64 (k : Int)) rfl rfl (by kernel_rfl) (by kernel_rfl) (by kernel_rfl) (fun _ _ _ h => h) rfl (fun _ _ => by first | rfl | go_simp) hS ?_
        simp only [Act.put, tA, tB, tC]
        refine h_take 6 30 (.pointer (some ⟨g', k * 2, none⟩)) rfl rfl (by kernel_rfl) (by kernel_rfl) (by kernel_rfl) (fun _ _ _ h => h) rfl (fun _ _ => by first | rfl | go_simp) hS ?_
        simp only [Act.put, tA, tB, tC]
        refine h_take 7 31 (.agg #[.bool b2, .slice ya yn yc]) rfl rfl (by kernel_rfl) (by kernel_rfl) (by kernel_rfl) (fun _ _ _ h => h) rfl (fun w' hw' => by obtain ⟨y0, y1, y2, y3⟩ := hw'; go_simp) hS ?_
        simp only [Act.put, tA, tB, tC]
        refine h_call 8 32 57 #[.agg #[.bool b1, .slice xa xn xc], .agg #[.bool b2, .slice ya yn yc]] rfl rfl (by kernel_rfl) rfl (by go_simp) ?_
        refine (compare_any _ _ x y V0 hJ1 hJ2 f1 f2).mono ?_
        rintro en w3 ⟨rfl, hb3⟩
        have hb3w := hbd.trans (hb3.mono hbd.size)
        refine ⟨_, rfl, hSV _ hb3w, ?_⟩
        simp only [Act.put, tA, tB, tC]
        refine h_val 9 6 (.int .i64 (cmp3 x y)) (w' := w3) rfl rfl (by kernel_rfl) rfl rfl (hSV _ hb3w) ?_
        simp only [Act.put, tA, tB, tC]
        refine wpAnyH_done (by kernel_rfl) ?_ _
        clear hS hSV
        by_cases hxy : x = y
        · have HN : Hid _ := HKE.out.1 hxy
          subst hxy
          rw [cmp3_eq]
          clear HKE
          go_wp2
          go_roundw
          case rel => exact ⟨k, by omega, by go_num, HN, hb3w⟩
          case measure => simp [intOf]
        · have HN : Hid (r = decide (x < y)) := HKE.out.2 hxy
          clear HKE
          rcases (show x < y ∨ y < x by omega) with h | h
          · rw [cmp3_lt h]
            have hr : r = true := by rw [HN.out]; exact decide_eq_true h
            subst hr
            clear HN
            go_wp2
            go_ret
            exact ⟨rfl, hb3w⟩
          · rw [cmp3_gt h]
            have hr : r = false := by rw [HN.out]; exact decide_eq_false (by omega)
            subst hr
            clear HN
            go_wp2
            go_ret
            exact ⟨rfl, hb3w⟩
  · have HB : Hid (bfr a b = decide (a.length < b.length)) := by
      show _ = _
      unfold bfr
      rw [if_neg hlen]
    rw [HB.out]
    have hlen' : ¬ (a.length : Int) = (b.length : Int) := by omega
    clear hlen HB
    go_enter Tryz.func65, Tryz.ntmps65
    go_wp2
    go_ret
    exact ⟨rfl, Below.refl _ _⟩

theorem OwnV.frz {T : TypeId} {α : Type} {P : World → Value → α → Prop} {B : Nat} {w : World} {g n c : Nat} {L : List α} (h : OwnV T P B w (.slice (some ⟨g, 0, none⟩) n c) L) (i : Nat) : w.frozen? ⟨g, i, none⟩ = false := by
  obtain ⟨cs, h1, h2, h3⟩ := h
  obtain ⟨_, _, e⟩ := OwnV.val (T := T) (P := P) ⟨cs, h1, h2, h3⟩
  simp at e
  obtain ⟨_, rfl, rfl⟩ := e
  exact h2.frozenAt i

set_option maxRecDepth 100000 in
set_option maxHeartbeats 8000000 in
theorem ordered_any (P : List (List Int)) (u : Value) (w : World) (hu : OwnVL 0 w u P) (hl : P.length ≤ 5000) (hP : ∀ x, x ∈ P → x.length ≤ 900 ∧ FitW x) :
    Calls Tryz.prog 39 #[u] w fun e w' => ∃ x S, e = .returned x ∧ OwnVL w.heap.size w' x S ∧ Srt S ∧ S.Perm P ∧ Below w.heap.size w w' := by
  obtain ⟨ua, uc, rfl⟩ := hu.val
  have HP : Hid _ := hP
  clear hP
  go_enter Tryz.func39, Tryz.ntmps39
  go_wp2_with fail
  have hbA := below_one w (Obj.cells #[] 65)
  have hlitA : OwnVL w.heap.size (w.alloc (Obj.cells #[] 65)) (.slice (some ⟨w.heap.size, 0, none⟩) 0 0) [] := OwnV.lit rfl
  generalize w.alloc (Obj.cells #[] 65) = W0 at *
  go_loopw [3, 4] (fun o i wr => ∃ (j : Nat) (S : List (List Int)), j ≤ P.length ∧ i = .int .i64 j ∧ OwnVL w.heap.size wr o S ∧ S.length ≤ j ∧ Hid (S.length = j) ∧ Hid (Srt S ∧ S.Perm (P.take j)) ∧ Below w.heap.size w wr) (fun _ i _ => P.length - (intOf i).toNat)
  case atStart => exact ⟨0, [], Nat.zero_le _, rfl, hlitA, Nat.le_refl _, rfl, ⟨Srt.nil, List.Perm.refl _⟩, hbA⟩
  case round =>
    clear hlitA hbA
    obtain ⟨j, S, hj, rfl, hown, hSl, HSl, HS, hbel⟩ := hrel
    obtain ⟨oa, oc, rfl⟩ := hown.val
    by_cases hlt : j < P.length
    · obtain ⟨gp, xa, xn, xc, x, rfl, hc1, hc2, hg1, _, hcell, hx, hrow⟩ := OwnV.at vecL hu j hlt
      have hcell' : wr.cell? ⟨gp, j, none⟩ = some (.slice xa xn xc) := (hbel.cell (p := ⟨gp, j, none⟩) hg1).trans hcell
      have hrow' := OwnL.below hrow hbel
      obtain ⟨hxl, hxf⟩ := HP.out x (List.mem_of_getElem? hx)
      have HSU : Hid (P.take (j + 1) = P.take j ++ [x]) := by show _ = _; rw [List.take_add_one, hx]; rfl
      have hSm : ∀ y, y ∈ S → y.length ≤ 900 ∧ FitW y := fun y hy => HP.out y (List.mem_of_mem_take (HS.out.2.mem_iff.1 hy))
      have HSM : Hid _ := hSm
      clear hSm hx
      go_wp2_with (at_builtin; refine wpList_pushV vecL Tryz.infoVL Tryz.sliceVL rfl (.tmp 14) (.tmp 19) rfl w.heap.size _ S _ x rfl hown hrow' rfl (by omega) hbel.size ?_)
      intro v2 w2 hown2 hb2 _
      have hL1 : (S ++ [x]).length ≤ j + 1 := by simp; omega
      have hL2 : j + 1 ≤ (S ++ [x]).length := by have := HSl.out; simp; omega
      have HI0 : Hid (InsO S x j (S ++ [x])) := by have := InsO.start S x; rwa [HSl.out] at this
      have hbel2 := hbel.trans hb2
      obtain ⟨a2, c2, rfl⟩ := hown2.val
      obtain ⟨g, _, _, _, _, rfl, hgc1, hgc2, _, hgB, _, _, _⟩ := OwnV.at vecL hown2 j (by omega)
      have hnl : ∃ n, Hid ((S ++ [x]).length = n) := ⟨_, rfl⟩
      obtain ⟨n, HN⟩ := hnl
      rw [HN.out] at hown2 hL1 hL2 hgc1 ⊢
      obtain rfl : n = j + 1 := by omega
      clear hL1 hL2 hown hcell hcell' hrow hrow'
      go_wp2_with fail
      have hwo : ∃ wo : World, wo = wr := ⟨_, rfl⟩
      obtain ⟨wo, rfl⟩ := hwo
      go_loopw [5] (fun i wq => ∃ (k : Nat) (L : List (List Int)), k ≤ j ∧ i = .int .i64 k ∧ OwnVL w.heap.size wq (.slice (some ⟨g, 0, none⟩) (j + 1) c2) L ∧ Hid (L.length = j + 1) ∧ Hid (InsO S x k L) ∧ Below w.heap.size w wq) (fun i _ => (intOf i).toNat)
      case atStart => exact ⟨j, S ++ [x], Nat.le_refl _, rfl, hown2, HN, HI0, hbel2⟩
      case round =>
        clear hown2 HI0 hbel2 hbel
        obtain ⟨k, L, hk, rfl, hown, HLL, HI, hbel⟩ := hrel
        cases k with
        | zero =>
          have HE := HI.out.ends HS.out.1 (.inl rfl)
          have HEN : Hid (Srt L ∧ L.Perm (P.take (j + 1))) := ⟨HE.1, by rw [HSU.out]; exact HE.2.trans (HS.out.2.append_right [x])⟩
          clear HE HI
          simp only [Int.natCast_zero]
          go_wp2_with fail
          refine wp_region_below (by kernel_rfl) (by kernel_rfl) ?_
          refine q_run (v := .int .i64 0) rfl (fun _ _ => rfl) ?_
          refine q_run (v := .bool false) rfl (fun w' hw' => by go_simp) ?_
          refine q_run_skip (v := .bool false) 10 2 24 rfl (fun _ _ => rfl) rfl rfl ?_ ?_
          · intro o' ho'
            simp at ho'
            rcases ho' with rfl | rfl | rfl | rfl | rfl | rfl | rfl | rfl | rfl | rfl <;> exact ⟨rfl, by simp⟩
          simp only [List.drop_succ_cons, List.drop_zero, List.take_succ_cons, List.take_zero, List.foldl_cons, List.foldl_nil, Act.put, List.setIfInBounds_toArray, List.set_cons_succ, List.set_cons_zero]
          refine q_run (v := .bool false) rfl (fun w' hw' => by go_simp) ?_
          simp only [Act.put, tA, tB, tC]
          refine wpQuiet_nil ?_
          intro w3 hb3
          have hown3 := OwnV.below vecL hown hb3
          go_wp2
          go_roundw
          case rel => exact ⟨j + 1, L, by omega, by go_num, hown3, by have := HLL.out; omega, HLL, HEN, hbel.trans (hb3.mono hbel.size)⟩
          case measure => simp [intOf]; omega
        | succ m =>
          have hown' : OwnVL w.heap.size wr (.slice (some ⟨g, 0, none⟩) L.length c2) L := by rw [HLL.out]; exact hown
          obtain ⟨y, hy1, hy2, hy3⟩ := HI.out.at
          obtain ⟨g1, ya, yn, yc, y', hge, _, _, hgl, _, hcy, hym, hyrow⟩ := OwnV.at vecL hown' m (by have := HLL.out; omega)
          simp at hge
          subst hge
          obtain rfl : y = y' := Option.some.inj (hy1.symm.trans hym)
          obtain ⟨g2, xa, xn, xc, x', hge, _, _, _, _, hcx, hxm, hxrow⟩ := OwnV.at vecL hown' (m + 1) (by have := HLL.out; omega)
          simp at hge
          subst hge
          obtain rfl : x = x' := Option.some.inj (hy2.symm.trans hxm)
          have hyf := HSM.out y (List.mem_of_getElem? hy3)
          have HCB : Hid _ := fun (V : World) (h1 : IsL V (.slice xa xn xc) x) (h2 : IsL V (.slice ya yn yc) y) => before_any x y _ _ V h1 h2 hxl hyf.1 hxf hyf.2
          have HNX : Hid (bfr x y = true → InsO S x m ((L.set (m + 1) y).set m x)) := fun h => HI.out.next hy1 h
          have HEN : Hid (bfr x y = false → Srt L ∧ L.Perm (P.take (j + 1))) := fun h => by
            have := HI.out.ends HS.out.1 (.inr ⟨y, by simpa using hy3, by omega, h⟩)
            exact ⟨this.1, by rw [HSU.out]; exact this.2.trans (HS.out.2.append_right [x])⟩
          have hfz1 := hown.frz m
          have hfz2 := hown.frz (m + 1)
          clear HI hym hxm hy1 hy2 hy3 hyf
          have hbd : Below wr.heap.size wr wr.drew := ⟨rfl, rfl, rfl, Nat.le_refl _, fun _ _ => rfl⟩
          have hSV : ∀ V, Below wr.heap.size wr V → V.cell? ⟨g, m + 1, none⟩ = some (.slice xa xn xc) ∧ V.cell? ⟨g, m, none⟩ = some (.slice ya yn yc) := fun V h => ⟨(h.cell (p := ⟨g, m + 1, none⟩) hgl).trans hcx, (h.cell (p := ⟨g, m, none⟩) hgl).trans hcy⟩
          have hm1 : (m : Int) + 1 < (j : Int) + 1 := by omega
          have hm0 : (0 : Int) ≤ (m : Int) + 1 := by omega
          have hmm : (m : Int) < (j : Int) + 1 := by omega
          have htn : ((m : Int) + 1).toNat = m + 1 := by omega
          have hw1 : IntKind.i64.wrap ((m : Int) + 1 - 1) = m := by rw [IntKind.wrap_i64]; omega
          have hw0 : IntKind.i64.wrap (m : Int) = m := by rw [IntKind.wrap_i64]; omega
          rw [show ((m + 1 : Nat) : Int) = (m : Int) + 1 by omega]
          go_wp2_with fail
          have hxd := OwnL.below hxrow hbd
          have hyd := OwnL.below hyrow hbd
          refine wp_region_held_drew (S := fun V => V.cell? ⟨g, m + 1, none⟩ = some (.slice xa xn xc) ∧ V.cell? ⟨g, m, none⟩ = some (.slice ya yn yc)) (by kernel_rfl) (hSV _ hbd) fun hS => ?_
          generalize wr.drew = V0 at *
          refine h_take 0 22 (.int .i64 ((m : Int) + 1)) rfl rfl (by kernel_rfl) (by kernel_rfl) (by kernel_rfl) (fun _ _ _ h => h) rfl (fun _ _ => by first | rfl | go_simp) hS ?_
          simp only [Act.put, tA, tB, tC]
          refine h_take 1 23 (.bool true) rfl rfl (by kernel_rfl) (by kernel_rfl) (by kernel_rfl) (fun _ _ _ h => h) rfl (fun _ _ => by first | rfl | go_simp) hS ?_
          simp only [Act.put, tA, tB, tC]
          refine h_take 2 24 (.bool true) rfl rfl (by kernel_rfl) (by kernel_rfl) (by kernel_rfl) (fun _ _ _ h => h) rfl (fun _ _ => by first | rfl | go_simp) hS ?_
          simp only [Act.put, tA, tB, tC]
          refine h_take 3 25 (.slice (some ⟨g, 0, none⟩) (j + 1) c2) rfl rfl (by kernel_rfl) (by kernel_rfl) (by kernel_rfl) (fun _ _ _ h => h) rfl (fun _ _ => by first | rfl | go_simp) hS ?_
          simp only [Act.put, tA, tB, tC]
          refine h_take 4 26 (.int .i64 ((m : Int) + 1)) rfl rfl (by kernel_rfl) (by kernel_rfl) (by kernel_rfl) (fun _ _ _ h => h) rfl (fun _ _ => by first | rfl | go_simp) hS ?_
          simp only [Act.put, tA, tB, tC]
          refine h_take 5 27 (.pointer (some ⟨g, m + 1, none⟩)) rfl rfl (by kernel_rfl) (by kernel_rfl) (by kernel_rfl) (fun _ _ _ h => h) rfl (fun _ _ => by first | rfl | go_simp) hS ?_
          simp only [Act.put, tA, tB, tC]
          refine h_take 6 28 (.slice xa xn xc) rfl rfl (by kernel_rfl) (by kernel_rfl) (by kernel_rfl) (fun _ _ _ h => h) rfl (fun w' hw' => by obtain ⟨y0, y1⟩ := hw'; go_simp) hS ?_
          simp only [Act.put, tA, tB, tC]
          refine h_take 7 29 (.slice (some ⟨g, 0, none⟩) (j + 1) c2) rfl rfl (by kernel_rfl) (by kernel_rfl) (by kernel_rfl) (fun _ _ _ h => h) rfl (fun _ _ => by first | rfl | go_simp) hS ?_
          simp only [Act.put, tA, tB, tC]
          refine h_take 8 30 (.int .i64 ((m : Int) + 1)) rfl rfl (by kernel_rfl) (by kernel_rfl) (by kernel_rfl) (fun _ _ _ h => h) rfl (fun _ _ => by first | rfl | go_simp) hS ?_
          simp only [Act.put, tA, tB, tC]
          refine h_take 9 31 (.int .i64 (m : Int)) rfl rfl (by kernel_rfl) (by kernel_rfl) (by kernel_rfl) (fun _ _ _ h => h) rfl (fun _ _ => by go_simp) hS ?_
          simp only [Act.put, tA, tB, tC]
          refine h_take 10 32 (.pointer (some ⟨g, m, none⟩)) rfl rfl (by kernel_rfl) (by kernel_rfl) (by kernel_rfl) (fun _ _ _ h => h) rfl (fun _ _ => by first | rfl | go_simp) hS ?_
          simp only [Act.put, tA, tB, tC]
          refine h_take 11 33 (.slice ya yn yc) rfl rfl (by kernel_rfl) (by kernel_rfl) (by kernel_rfl) (fun _ _ _ h => h) rfl (fun w' hw' => by obtain ⟨y0, y1⟩ := hw'; go_simp) hS ?_
          simp only [Act.put, tA, tB, tC]
          refine h_call 12 34 65 #[.slice xa xn xc, .slice ya yn yc] rfl rfl (by kernel_rfl) rfl (by go_simp) ?_
          refine (HCB.out V0 hxd hyd).mono ?_
          rintro en w3 ⟨rfl, hb3⟩
          have hb3w := hbd.trans (hb3.mono hbd.size)
          refine ⟨_, rfl, hSV _ hb3w, ?_⟩
          simp only [Act.put, tA, tB, tC]
          have hown3 := OwnV.below vecL hown hb3w
          have hx3 := OwnL.below hxrow hb3w
          have hy3 := OwnL.below hyrow hb3w
          have hbel3 := hbel.trans (hb3w.mono hbel.size)
          have hz1 := hown3.frz m
          have hz2 := hown3.frz (m + 1)
          obtain ⟨k1, k2⟩ := hSV _ hb3w
          cases hbf : bfr x y with
          | false =>
            have HE : Hid _ := HEN.out hbf
            clear HNX HEN hbf
            refine h_take 13 35 (.bool false) rfl rfl (by kernel_rfl) (by kernel_rfl) (by kernel_rfl) (fun _ _ _ h => h) rfl (fun _ _ => by first | rfl | go_simp) ⟨k1, k2⟩ ?_
            simp only [Act.put, tA, tB, tC]
            refine wpAnyH_done (by kernel_rfl) ?_ _
            go_wp2
            go_roundw
            case rel => exact ⟨j + 1, L, by omega, by go_num, hown3, by have := HLL.out; omega, HLL, HE, hbel3⟩
            case measure => simp [intOf]; omega
          | true =>
            have HN : Hid _ := HNX.out hbf
            clear HNX HEN hbf
            refine h_take 13 35 (.bool true) rfl rfl (by kernel_rfl) (by kernel_rfl) (by kernel_rfl) (fun _ _ _ h => h) rfl (fun _ _ => by first | rfl | go_simp) ⟨k1, k2⟩ ?_
            simp only [Act.put, tA, tB, tC]
            refine wpAnyH_done (by kernel_rfl) ?_ _
            have hown3' : OwnVL w.heap.size w3 (.slice (some ⟨g, 0, none⟩) L.length c2) L := by rw [HLL.out]; exact hown3
            have hs4 := OwnV.set vecL hown3' (m + 1) hy3
            have hx4 : IsL (w3.setCell ⟨g, m + 1, none⟩ (.slice ya yn yc)) (.slice xa xn xc) x := by
              have htyp3 := hown3'.typ
              obtain ⟨cs, h1, h2, h3⟩ := id hown3'
              exact vecL.kept hx3 (World.ownsRow.stored h2 (m + 1) (.slice ya yn yc)).2 (fun k hk => htyp3 k (by rw [← hk]; rfl))
            rw [show L.length = (L.set (m + 1) y).length by simp] at hs4
            have hs5 := OwnV.set vecL hs4 m hx4
            rw [List.length_set, HLL.out] at hs5
            have hb5 := (hbel3.setCell (p := ⟨g, m + 1, none⟩) hgB (.slice ya yn yc)).setCell (p := ⟨g, m, none⟩) hgB (.slice xa xn xc)
            have HL5 : Hid (((L.set (m + 1) y).set m x).length = j + 1) := by show _ = _; rw [List.length_set, List.length_set]; exact HLL.out
            have HALL : Hid _ := (⟨hs5, hb5⟩ : _ ∧ _)
            obtain ⟨L5, HL5e⟩ : ∃ L5, Hid ((L.set (m + 1) y).set m x = L5) := ⟨_, rfl⟩
            rw [HL5e.out] at HALL HL5 HN
            clear hs4 hs5 hb5 hx4 hown3 hown3'
            go_wp2
            go_roundw
            case rel => exact ⟨m, L5, by omega, by go_num, HALL.out.1, HL5, HN, HALL.out.2⟩
            case measure => simp [intOf]
    · obtain rfl : j = P.length := by omega
      have HS' : Hid (Srt S ∧ S.Perm P) := by have := HS.out; rwa [List.take_length] at this
      clear HS
      go_wp2
      go_ret
      first | exact ⟨_, S, rfl, hown, HS'.out.1, HS'.out.2, hbel⟩ | exact ⟨_, rfl, S, hown, HS'.out.1, HS'.out.2, hbel⟩

end Go.Proofs.YtldcjkhbiffdoabGreatDoor
