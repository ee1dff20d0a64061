import Derived.Test.YtldcjkhbiffdoabGreatDoorM28
import Derived.Test.YtldcjkhbiffdoabGreatDoorM06
import Derived.Test.YtldcjkhbiffdoabGreatDoorM25
import Derived.Deep.DeepCutAuto

namespace Go.Proofs.YtldcjkhbiffdoabGreatDoor
open Go.RowKit

def prS (c : Int) (L : List (List Int)) : Nat → List Int
  | 0 => [c]
  | i + 1 => prodTo (prS c L i) (L.getD i []) ((prS c L i).length + (L.getD i []).length - 1)

theorem ev_prodTo (xs ys : List Int) (t : Int) : ev t (prodTo xs ys (xs.length + ys.length - 1)) = ev t xs * ev t ys := by
  rw [← ev_lmul]
  refine ev_of_getD (fun k => ?_) t
  rw [prodTo_getD, lmul_getD]
  exact pk_mS xs ys k

theorem prS_ev (c : Int) (L : List (List Int)) (t : Int) : ∀ i, i ≤ L.length → ev t (prS c L i) = c * pA (fs (L.take i)) t
  | 0, _ => by simp [prS, ev, fs, pA]
  | i + 1, h => by
    have hi : L[i]? = some L[i] := List.getElem?_eq_getElem (by omega)
    have hd : L.getD i [] = L[i] := by simp [List.getD, hi]
    rw [take_fs hi, pA_snoc, prS, ev_prodTo, prS_ev c L t i (by omega), hd, Int.mul_assoc]

theorem prS_len (c : Int) (L : List (List Int)) (hL : ∀ l, l ∈ L → l.length ≤ 11) : ∀ i, i ≤ L.length → (prS c L i).length ≤ 1 + 10 * i
  | 0, _ => by simp [prS]
  | i + 1, h => by
    have h1 := prS_len c L hL i (by omega)
    have hi : L[i]? = some L[i] := List.getElem?_eq_getElem (by omega)
    have hd : L.getD i [] = L[i] := by simp [List.getD, hi]
    have h2 := hL L[i] (List.getElem_mem _)
    unfold prS
    unfold prodTo
    rw [tab_len, hd]
    omega

theorem prS_bd {c : Int} {L : List (List Int)} {e f : Nat} (hc : c.natAbs < 10 ^ e) (hL : ∀ l, l ∈ L → Bd l f) : ∀ i, i ≤ L.length → i ≤ 12 → (∀ j, j ≤ i → (prS c L j).length + 11 ≤ 10000) → (∀ l, l ∈ L → l.length ≤ 11) → Bd (prS c L i) (e + i * (f + 4))
  | 0, _, _, _, _ => fun k => by
    rw [prS, single_getD]
    split
    · simpa using hc
    · simpa using Nat.pow_pos (n := e) (show 0 < 10 by omega)
  | i + 1, h, h12, hlen, hL11 => by
    have h1 := prS_bd hc hL i (by omega) (by omega) (fun j hj => hlen j (by omega)) hL11
    have hi : L[i]? = some L[i] := List.getElem?_eq_getElem (by omega)
    have hd : L.getD i [] = L[i] := by simp [List.getD, hi]
    have h2 := hL L[i] (List.getElem_mem _)
    have h3 := hlen i (by omega)
    have h5 := hL11 L[i] (List.getElem_mem _)
    intro k
    rw [prS, hd, prodTo_getD]
    rcases Nat.lt_or_ge k ((prS c L i).length + L[i].length - 1) with hk | hk
    · have := pAtW_lt h1 h2 k (n := k + 1) (by omega)
      refine Nat.lt_of_lt_of_le this (Nat.pow_le_pow_right (by omega) ?_)
      rw [Nat.add_mul, Nat.one_mul]
      omega
    · rw [pk_out _ _ _ hk]
      exact Nat.pow_pos (by omega)

set_option maxRecDepth 100000 in
set_option maxHeartbeats 4000000 in
theorem missingOf_any (F : List Int) (L : List (List Int)) (M : Int) (e f : Nat) (u v y : Value) (w : World) (hu : IsL w u F) (hv : OwnVL 0 w v L) (hy : IsI w y M) (hFl : F.length ≤ 11) (hLl : L.length ≤ 12) (hLe : ∀ l, l ∈ L → l.length ≤ 11 ∧ Bd l f) (fF : Bd F e) (fM : M.natAbs < 10 ^ f) (hef : e + 13 * (f + 4) ≤ 70000000) :
    Calls Tryz.prog 97 #[u, v, y] w fun en w' => ∃ x, en = .returned x ∧ IsL w' x ((tab (max F.length (prS (lead F) L L.length).length) fun k => F.getD k 0 - (prS (lead F) L L.length).getD k 0).map fun z => z.tdiv M) ∧ Below w.heap.size w w' := by
  obtain ⟨ua, uc, rfl⟩ := OwnL.val hu
  obtain ⟨va, vc, rfl⟩ := hv.val
  obtain ⟨yb, ya, yn, yc, rfl⟩ := hy.form
  have hc0 : (lead F).natAbs < 10 ^ e := fF.lead
  have hpl : ∀ i, i ≤ L.length → (prS (lead F) L i).length ≤ 200 := fun i hi => by
    have := prS_len (lead F) L (fun l hl => (hLe l hl).1) i hi
    omega
  have hpb : ∀ i, i ≤ L.length → Bd (prS (lead F) L i) (e + i * (f + 4)) := fun i hi => prS_bd hc0 (fun l hl => (hLe l hl).2) i hi (by omega) (fun j hj => by have := hpl j (by omega); omega) (fun l hl => (hLe l hl).1)
  have hbnd : ∀ i, i ≤ L.length → e + i * (f + 4) ≤ e + 12 * (f + 4) := fun i hi => by
    have := Nat.mul_le_mul_right (f + 4) (show i ≤ 12 by omega)
    omega
  have hlast := numberAt_last F
  obtain ⟨PS, HPS⟩ : ∃ PS : Nat → List Int, Hid (PS = prS (lead F) L) := ⟨_, rfl⟩
  have HPL : Hid (∀ i, i ≤ L.length → (PS i).length ≤ 200 ∧ Bd (PS i) (e + 12 * (f + 4))) := fun i hi => by
    rw [HPS.out]
    exact ⟨hpl i hi, (hpb i hi).mono (hbnd i hi)⟩
  have HP0 : Hid (PS 0 = [lead F]) := by show _ = _; rw [HPS.out]; rfl
  have HP1 : Hid (∀ i l, L[i]? = some l → PS (i + 1) = prodTo (PS i) l ((PS i).length + l.length - 1)) := fun i l hl => by
    rw [HPS.out]
    have hd : L.getD i [] = l := by simp [List.getD, hl]
    show prS (lead F) L (i + 1) = _
    rw [prS, hd]
  rw [← HPS.out]
  obtain ⟨zs, HZS⟩ : ∃ zs, Hid ((tab (max F.length (PS L.length).length) fun k => F.getD k 0 - (PS L.length).getD k 0) = zs) := ⟨_, rfl⟩
  rw [HZS.out]
  clear hpl hpb hbnd HPS hc0
  obtain ⟨c, HC⟩ : ∃ c, Hid (lead F = c) := ⟨_, rfl⟩
  rw [HC.out] at hlast HP0
  have HLA : Hid _ := hlast
  have HLE : Hid _ := hLe
  clear hlast hLe HC
  go_enter Tryz.func97, Tryz.ntmps97
  go_wp2_with fail
  generalize hW : w.alloc (Obj.cells #[Value.bool yb, Value.slice ya yn yc] 70) = W0
  obtain ⟨hb0, X0⟩ := one_new hW
  have hs0 : W0.heap.size = w.heap.size + 1 := by rw [← hW]; simp
  clear hW
  refine (HLA.out _ W0 (OwnL.below hu hb0)).mono ?_
  rintro en w1 ⟨x1, rfl, hI1, hb1⟩
  obtain ⟨b1, a1, n1, c1, rfl⟩ := hI1.form
  have hb01 := hb0.trans (hb1.mono hb0.size)
  go_wp2_with fail
  have hone := litI (w := w1) hI1
  have hbA := below_one w1 (Obj.cells #[Value.bool b1, Value.slice a1 n1 c1] 70)
  generalize w1.alloc (Obj.cells #[Value.bool b1, Value.slice a1 n1 c1] 70) = W1 at *
  have hbA1 := hb1.trans (hbA.mono hb1.size)
  go_loopw [7, 8] (fun o i wr => ∃ (j : Nat), j ≤ L.length ∧ i = .int .i64 j ∧ IsL wr o (PS j) ∧ Below W0.heap.size W0 wr) (fun _ i _ => L.length - (intOf i).toNat)
  case atStart => exact ⟨0, Nat.zero_le _, rfl, by rw [HP0.out]; exact hone.isL, hbA1⟩
  case round =>
    clear hone hbA hbA1 hb01 hI1 hb1
    obtain ⟨j, hj, rfl, hown, hbel⟩ := hrel
    obtain ⟨hpl, hpb⟩ := HPL.out j hj
    have hbw := hb0.trans (hbel.mono hb0.size)
    by_cases hlt : j < L.length
    · obtain ⟨g, xa, xn, xc, l, rfl, hc1, hc2, hg1, _, hcell, hl, hrow⟩ := OwnV.at vecL hv j hlt
      have hcell' : wr.cell? ⟨g, j, none⟩ = some (.slice xa xn xc) := (hbw.cell (p := ⟨g, j, none⟩) hg1).trans hcell
      obtain ⟨hl11, hlb⟩ := HLE.out l (List.mem_of_getElem? hl)
      have hP := product_any (PS j) l (e + 12 * (f + 4)) f _ _ wr hown (OwnL.below hrow hbw) (by omega) (by omega) hpb hlb (by omega)
      have HN : Hid _ := HP1.out j l hl
      obtain ⟨P, HPP⟩ : ∃ P, Hid (PS j = P) := ⟨_, rfl⟩
      rw [HPP.out] at hown hP hpl hpb HN
      obtain ⟨oa, oc, rfl⟩ := OwnL.val hown
      clear hl
      go_wp2_with fail
      refine hP.mono ?_
      rintro en w2 ⟨x2, rfl, hI2, hb2⟩
      rw [← HN.out] at hI2
      obtain ⟨za, zc, hze⟩ := OwnL.val hI2
      subst hze
      go_wp2
      go_roundw
      case rel => exact ⟨j + 1, by omega, by go_num, hI2.isL, hbel.trans (hb2.mono hbel.size)⟩
      case measure => simp [intOf]; omega
    · obtain rfl : j = L.length := by omega
      obtain ⟨P, HPP⟩ : ∃ P, Hid (PS L.length = P) := ⟨_, rfl⟩
      rw [HPP.out] at hown hpl hpb HZS
      obtain ⟨oa, oc, rfl⟩ := OwnL.val hown
      go_wp2_with fail
      have hbB := below_one wr (Obj.cells #[] 70)
      have hlitB : OwnL wr.heap.size (wr.alloc (Obj.cells #[] 70)) (.slice (some ⟨wr.heap.size, 0, none⟩) 0 0) [] := OwnL.lit rfl
      have hszB : (wr.alloc (Obj.cells #[] 70)).heap.size = wr.heap.size + 1 := by simp
      generalize wr.alloc (Obj.cells #[] 70) = W2 at *
      have hszo2 : wr.heap.size < W2.heap.size := by omega
      have hszo3 : w.heap.size < wr.heap.size := by have := hbel.size; omega
      have hbB1 := hbel.trans (hbB.mono hbel.size)
      have hbBw := hb0.trans (hbB1.mono hb0.size)
      refine (pdiff_any F P _ _ W2 (OwnL.below hu hbBw) (OwnL.below hown hbB) (by omega) (by omega) (fF.fitW (by omega)) (hpb.fitW (by omega))).mono ?_
      rintro en w3 ⟨x3, rfl, hI3, hb3⟩
      have hbd3 : Bd (tab (max F.length P.length) fun k => F.getD k 0 - P.getD k 0) (e + 13 * (f + 4)) := fun k => by
        rw [psub_getD]
        have h1 := fF k
        have h2 := hpb k
        have h3 : 10 ^ e ≤ 10 ^ (e + 12 * (f + 4)) := Nat.pow_le_pow_right (by omega) (by omega)
        have h4 : 10 ^ (e + 12 * (f + 4)) * 10 ≤ 10 ^ (e + 13 * (f + 4)) := by
          rw [← Nat.pow_succ]
          exact Nat.pow_le_pow_right (by omega) (by omega)
        omega
      have hxl : (tab (max F.length P.length) fun k => F.getD k 0 - P.getD k 0).length ≤ 200 := by rw [tab_len]; omega
      rw [HZS.out] at hI3 hbd3 hxl
      obtain ⟨ea, uc, hee⟩ := OwnL.val hI3
      subst hee
      have hlit3 := OwnL.below hlitB hb3
      have hbB3 := hb3
      have hb3W := hbB1.trans (hb3.mono hbB1.size)
      have hb3w := hb0.trans (hb3W.mono hb0.size)
      have hK3 : IsB w3 w.heap.size M := ⟨_, _, by unfold Bx; rw [hb3W.block _ (by omega)]; exact X0, hy.below hb3w⟩
      have fMi : Fit M := fitW_of fM (by omega)
      have hbo3 := hbB.trans (hb3.mono hbB.size)
      clear hown hbB hlitB hpl hpb hbB1 hbBw hbB3 hszB
      go_wp2_with fail
      have hwo : ∃ wo : World, wo = wr := ⟨_, rfl⟩
      obtain ⟨wo, rfl⟩ := hwo
      have hszo := hI3.block
      have hex : (Value.slice ea zs.length uc).ownBlock ≠ some wo.heap.size := fun e => by
        have := hszo _ e
        omega
      go_loopw [9, 11] (fun o i wq => ∃ (k : Nat), k ≤ zs.length ∧ i = .int .i64 k ∧ OwnL wo.heap.size wq o ((zs.take k).map fun z => z.tdiv M) ∧ (∀ q, o.ownBlock = some q → (Value.slice ea zs.length uc).ownBlock ≠ some q) ∧ IsL wq (.slice ea zs.length uc) zs ∧ IsB wq w.heap.size M ∧ Below wo.heap.size wo wq) (fun _ i _ => zs.length - (intOf i).toNat)
      case atStart => exact ⟨0, Nat.zero_le _, rfl, hlit3, fun q hq => by simp [Value.ownBlock] at hq; rw [← hq]; exact hex, hI3.isL, hK3, hbo3⟩
      case round =>
        clear hI3 hK3 hlit3 hbo3
        obtain ⟨k, hk, rfl, hown, hdis, hls, hKm, hbel2⟩ := hrel
        have hbw2 := hb0.trans ((hbel.trans (hbel2.mono hbel.size)).mono hb0.size)
        by_cases hlt2 : k < zs.length
        · obtain ⟨g, b1, xa, xn, xc, rfl, hc1, hc2, hgr, _, hc0r, hcxr, hI1⟩ := OwnL.at hls k hlt2
          have f1 : Fit (zs.getD k 0) := fitW_of (hbd3 k) (by omega)
          have hpt : (zs.take (k + 1)).map (fun z => z.tdiv M) = (zs.take k).map (fun z => z.tdiv M) ++ [(zs.getD k 0).tdiv M] := by
            rw [List.take_succ_eq_append_getElem hlt2, ← getD_lt hlt2]; simp
          generalize zs.getD k 0 = z at *
          have HPK : Hid _ := hpt
          have hlen : ((zs.take k).map fun z => z.tdiv M).length ≤ 200 := by rw [List.length_map, List.length_take]; omega
          obtain ⟨LL, HL⟩ : ∃ LL, Hid ((zs.take k).map (fun z => z.tdiv M) = LL) := ⟨_, rfl⟩
          rw [HL.out] at hown hlen HPK
          clear hpt
          obtain ⟨gb, ga, gn, gc, G0, hI2⟩ := hKm.open
          have hszw := G0.lt
          have hq := fun (W : World) (g1 : IsI W (.agg #[.bool b1, .slice xa xn xc]) z) (g2 : IsI W (.agg #[.bool gb, .slice ga gn gc]) M) => divide_any _ _ z M W g1 g2 f1 fMi
          have HQ : Hid _ := hq
          clear hq
          obtain ⟨oa, oc, rfl⟩ := OwnL.val hown
          have hki : (k : Int) < (zs.length : Int) := by omega
          have hki0 : (0 : Int) ≤ (k : Int) := by omega
          go_wp2_with fail
          go_cut [12] (fun p6 wc => ∃ k6, p6 = .pointer (some ⟨k6, 0, none⟩) ∧ IsB wc k6 (z.tdiv M) ∧ Below wr.heap.size wr wc)
          case first =>
            have hb0 : Below wr.heap.size wr wr.drew := ⟨rfl, rfl, rfl, Nat.le_refl _, fun _ _ => rfl⟩
            have hSV : ∀ W, Below wr.heap.size wr W → W.cell? ⟨g, k * 2, none⟩ = some (.bool b1) ∧ W.cell? ⟨g, k * 2 + 1, none⟩ = some (.slice xa xn xc) ∧ W.cell? ⟨w.heap.size, 0, none⟩ = some (.bool gb) ∧ W.cell? ⟨w.heap.size, 1, none⟩ = some (.slice ga gn gc) := fun W h => ⟨(h.cell (p := ⟨g, k * 2, none⟩) hgr).trans hc0r, (h.cell (p := ⟨g, k * 2 + 1, none⟩) hgr).trans hcxr, (h.cell (p := ⟨w.heap.size, 0, none⟩) hszw).trans G0.c0, (h.cell (p := ⟨w.heap.size, 1, none⟩) hszw).trans G0.c1⟩
            refine wp_region_held_drew (S := fun W => W.cell? ⟨g, k * 2, none⟩ = some (.bool b1) ∧ W.cell? ⟨g, k * 2 + 1, none⟩ = some (.slice xa xn xc) ∧ W.cell? ⟨w.heap.size, 0, none⟩ = some (.bool gb) ∧ W.cell? ⟨w.heap.size, 1, none⟩ = some (.slice ga gn gc)) (by kernel_rfl) (hSV _ hb0) fun hS => ?_
            generalize wr.drew = W0 at *
            refine h_take 0 43 (.slice (some ⟨g, 0, none⟩) zs.length uc) rfl rfl (by kernel_rfl) (by kernel_rfl) (by kernel_rfl) (fun _ _ _ h => h) rfl (fun _ _ => by first | rfl | go_simp) hS ?_
            simp only [Act.put, tA, tB, tC]
            refine h_take 1 44 (.int .i64 (k : Int)) rfl rfl (by kernel_rfl) (by kernel_rfl) (by kernel_rfl) (fun _ _ _ h => h) rfl (fun _ _ => by first | rfl | go_simp) hS ?_
            simp only [Act.put, tA, tB, tC]
            refine h_take 2 45 (.pointer (some ⟨g, k * 2, none⟩)) rfl rfl (by kernel_rfl) (by kernel_rfl) (by kernel_rfl) (fun _ _ _ h => h) rfl (fun _ _ => by first | rfl | go_simp) hS ?_
            simp only [Act.put, tA, tB, tC]
            refine h_take 3 46 (.agg #[.bool b1, .slice xa xn xc]) rfl rfl (by kernel_rfl) (by kernel_rfl) (by kernel_rfl) (fun _ _ _ h => h) rfl (fun w' hw' => by obtain ⟨y0, y1, y2, y3⟩ := hw'; go_simp) hS ?_
            simp only [Act.put, tA, tB, tC]
            refine h_take 4 47 (.agg #[.bool gb, .slice ga gn gc]) rfl rfl (by kernel_rfl) (by kernel_rfl) (by kernel_rfl) (fun _ _ _ h => h) rfl (fun w' hw' => by obtain ⟨y0, y1, y2, y3⟩ := hw'; go_simp) hS ?_
            simp only [Act.put, tA, tB, tC]
            refine wpAnyH_ready (rs := [5, 9, 10]) (by kernel_rfl) (by simp) (ar_call 5 48 64 #[.agg #[.bool b1, .slice xa xn xc], .agg #[.bool gb, .slice ga gn gc]] rfl rfl rfl (by go_simp) ?_ (ar_val 9 12 (.pointer (some ⟨W0.heap.size, 0, none⟩)) (w' := W0.alloc (Obj.cells #[Value.bool false, Value.slice none 0 0] 70)) rfl rfl rfl (by go_simp) (hSV _ (hb0.trans ((below_one _ _).mono hb0.size))) ?_ (ar_val 10 13 (.pointer (some ⟨W0.heap.size, 0, none⟩)) (w' := W0.alloc (Obj.cells #[Value.bool false, Value.slice none 0 0] 70)) rfl rfl rfl (by go_simp) (hSV _ (hb0.trans ((below_one _ _).mono hb0.size))) ?_ AllReadyH.nil)))
            · refine (HQ.out _ (hI1.below hb0) (hI2.below hb0)).mono ?_
              rintro e V2 ⟨x5, x6, rfl, hI4, hI5, hx1⟩
              obtain ⟨b5, a5, n5, c5, rfl⟩ := hI4.form
              obtain ⟨b6, a6, n6, c6, rfl⟩ := hI5.form
              have hb3 : Below wr.heap.size wr V2 := hb0.trans (hx1.mono hb0.size)
              refine ⟨_, rfl, hSV _ hb3, ?_⟩
              simp only [Act.put, tA, tB, tC]
              refine h_take 6 42 (.tuple #[.agg #[.bool b5, .slice a5 n5 c5], .agg #[.bool b6, .slice a6 n6 c6]]) rfl rfl (by kernel_rfl) (by kernel_rfl) (by kernel_rfl) (fun _ _ _ h => h) rfl (fun _ _ => rfl) (hSV _ hb3) ?_
              simp only [Act.put, tA, tB, tC]
              refine h_take 7 49 (.agg #[.bool b5, .slice a5 n5 c5]) rfl rfl (by kernel_rfl) (by kernel_rfl) (by kernel_rfl) (fun _ _ _ h => h) rfl (fun _ _ => by go_simp) (hSV _ hb3) ?_
              simp only [Act.put, tA, tB, tC]
              refine h_take 8 50 (.agg #[.bool b6, .slice a6 n6 c6]) rfl rfl (by kernel_rfl) (by kernel_rfl) (by kernel_rfl) (fun _ _ _ h => h) rfl (fun _ _ => by go_simp) (hSV _ hb3) ?_
              simp only [Act.put, tA, tB, tC]
              refine wpAnyH_ready (rs := [9, 10]) (by kernel_rfl) (by simp) (ar_val 9 12 (.pointer (some ⟨V2.heap.size, 0, none⟩)) (w' := V2.alloc (Obj.cells #[Value.bool false, Value.slice none 0 0] 70)) rfl rfl rfl (by go_simp) (hSV _ (hb3.trans ((below_one _ _).mono hb3.size))) ?_ (ar_val 10 13 (.pointer (some ⟨V2.heap.size, 0, none⟩)) (w' := V2.alloc (Obj.cells #[Value.bool false, Value.slice none 0 0] 70)) rfl rfl rfl (by go_simp) (hSV _ (hb3.trans ((below_one _ _).mono hb3.size))) ?_ AllReadyH.nil))
              · obtain ⟨hx6, X9⟩ := one_new (w := V2) (a := .bool false) (b := .slice none 0 0) rfl
                generalize V2.alloc (Obj.cells #[Value.bool false, Value.slice none 0 0] 70) = V7 at *
                have gA : wr.heap.size ≤ V2.heap.size := hb3.size
                have hb8 : Below wr.heap.size wr V7 := hb3.trans (hx6.mono hb3.size)
                have hI10 := hI4.below hx6; have hI11 := hI5.below hx6
                simp only [Act.put, tA, tB, tC]
                refine wpAnyH_ready (rs := [10]) (by kernel_rfl) (by simp) (ar_val 10 13 (.pointer (some ⟨V7.heap.size, 0, none⟩)) (w' := V7.alloc (Obj.cells #[Value.bool false, Value.slice none 0 0] 70)) rfl rfl rfl (by go_simp) (hSV _ (hb8.trans ((below_one _ _).mono hb8.size))) ?_ AllReadyH.nil)
                · obtain ⟨hx12, X15⟩ := one_new (w := V7) (a := .bool false) (b := .slice none 0 0) rfl
                  generalize V7.alloc (Obj.cells #[Value.bool false, Value.slice none 0 0] 70) = V13 at *
                  have gB : wr.heap.size ≤ V7.heap.size := hb8.size
                  have hltB := X9.lt
                  have hb14 : Below wr.heap.size wr V13 := hb8.trans (hx12.mono hb8.size)
                  have hI16 := hI10.below hx12; have hI17 := hI11.below hx12
                  have X18 := X9.below hx12
                  simp only [Act.put, tA, tB, tC]
                  have c0 := X18.c0; have c1 := X18.c1; have f0 := X18.f0; have f1 := X18.f1
                  have hne : (V7.heap.size : Nat) ≠ V2.heap.size := Nat.ne_of_gt hltB
                  have Y8 := X15.other hne (.bool b5) (.slice a5 n5 c5)
                  have hK7 := IsB.stored X18 hI16
                  have hb18 := below_set2 hb14 (show wr.heap.size ≤ V2.heap.size from gA) (.bool b5) (.slice a5 n5 c5)
                  refine h_store 11 (w' := (V13.setCell ⟨V2.heap.size, 0, none⟩ (.bool b5)).setCell ⟨V2.heap.size, 1, none⟩ (.slice a5 n5 c5)) rfl rfl (by kernel_rfl) rfl (by go_simp) (hSV _ hb18) ?_
                  clear c0 c1 f0 f1
                  generalize (V13.setCell ⟨V2.heap.size, 0, none⟩ (.bool b5)).setCell ⟨V2.heap.size, 1, none⟩ (.slice a5 n5 c5) = V at *
                  have c0 := Y8.c0; have c1 := Y8.c1; have f0 := Y8.f0; have f1 := Y8.f1
                  have hb19 := below_set2 hb18 (show wr.heap.size ≤ V7.heap.size from gB) (.bool b6) (.slice a6 n6 c6)
                  refine h_store 12 (w' := (V.setCell ⟨V7.heap.size, 0, none⟩ (.bool b6)).setCell ⟨V7.heap.size, 1, none⟩ (.slice a6 n6 c6)) rfl rfl (by kernel_rfl) rfl (by go_simp) (hSV _ hb19) ?_
                  refine wpAnyH_done (by kernel_rfl) ?_ _
                  go_wp2_with fail
                  go_meet
                  case rel => exact ⟨V2.heap.size, rfl, hK7.other Y8 hne.symm _ _, hb19⟩
              · obtain ⟨hx19, X22⟩ := one_new (w := V2) (a := .bool false) (b := .slice none 0 0) rfl
                generalize V2.alloc (Obj.cells #[Value.bool false, Value.slice none 0 0] 70) = V20 at *
                have gB : wr.heap.size ≤ V2.heap.size := hb3.size
                have hb21 : Below wr.heap.size wr V20 := hb3.trans (hx19.mono hb3.size)
                have hI23 := hI4.below hx19; have hI24 := hI5.below hx19
                simp only [Act.put, tA, tB, tC]
                refine wpAnyH_ready (rs := [9]) (by kernel_rfl) (by simp) (ar_val 9 12 (.pointer (some ⟨V20.heap.size, 0, none⟩)) (w' := V20.alloc (Obj.cells #[Value.bool false, Value.slice none 0 0] 70)) rfl rfl rfl (by go_simp) (hSV _ (hb21.trans ((below_one _ _).mono hb21.size))) ?_ AllReadyH.nil)
                · obtain ⟨hx25, X28⟩ := one_new (w := V20) (a := .bool false) (b := .slice none 0 0) rfl
                  generalize V20.alloc (Obj.cells #[Value.bool false, Value.slice none 0 0] 70) = V26 at *
                  have gA : wr.heap.size ≤ V20.heap.size := hb21.size
                  have hltA := X22.lt
                  have hb27 : Below wr.heap.size wr V26 := hb21.trans (hx25.mono hb21.size)
                  have hI29 := hI23.below hx25; have hI30 := hI24.below hx25
                  have X31 := X22.below hx25
                  simp only [Act.put, tA, tB, tC]
                  have c0 := X28.c0; have c1 := X28.c1; have f0 := X28.f0; have f1 := X28.f1
                  have hne : (V2.heap.size : Nat) ≠ V20.heap.size := Nat.ne_of_lt hltA
                  have Y8 := X31.other hne (.bool b5) (.slice a5 n5 c5)
                  have hK7 := IsB.stored X28 hI29
                  have hb18 := below_set2 hb27 (show wr.heap.size ≤ V20.heap.size from gA) (.bool b5) (.slice a5 n5 c5)
                  refine h_store 11 (w' := (V26.setCell ⟨V20.heap.size, 0, none⟩ (.bool b5)).setCell ⟨V20.heap.size, 1, none⟩ (.slice a5 n5 c5)) rfl rfl (by kernel_rfl) rfl (by go_simp) (hSV _ hb18) ?_
                  clear c0 c1 f0 f1
                  generalize (V26.setCell ⟨V20.heap.size, 0, none⟩ (.bool b5)).setCell ⟨V20.heap.size, 1, none⟩ (.slice a5 n5 c5) = V at *
                  have c0 := Y8.c0; have c1 := Y8.c1; have f0 := Y8.f0; have f1 := Y8.f1
                  have hb19 := below_set2 hb18 (show wr.heap.size ≤ V2.heap.size from gB) (.bool b6) (.slice a6 n6 c6)
                  refine h_store 12 (w' := (V.setCell ⟨V2.heap.size, 0, none⟩ (.bool b6)).setCell ⟨V2.heap.size, 1, none⟩ (.slice a6 n6 c6)) rfl rfl (by kernel_rfl) rfl (by go_simp) (hSV _ hb19) ?_
                  refine wpAnyH_done (by kernel_rfl) ?_ _
                  go_wp2_with fail
                  go_meet
                  case rel => exact ⟨V20.heap.size, rfl, hK7.other Y8 hne.symm _ _, hb19⟩
            · obtain ⟨hx32, X35⟩ := one_new (w := W0) (a := .bool false) (b := .slice none 0 0) rfl
              generalize W0.alloc (Obj.cells #[Value.bool false, Value.slice none 0 0] 70) = V33 at *
              have gA : wr.heap.size ≤ W0.heap.size := hb0.size
              have hb34 : Below wr.heap.size wr V33 := hb0.trans (hx32.mono hb0.size)
              simp only [Act.put, tA, tB, tC]
              refine wpAnyH_ready (rs := [5, 10]) (by kernel_rfl) (by simp) (ar_call 5 48 64 #[.agg #[.bool b1, .slice xa xn xc], .agg #[.bool gb, .slice ga gn gc]] rfl rfl rfl (by go_simp) ?_ (ar_val 10 13 (.pointer (some ⟨V33.heap.size, 0, none⟩)) (w' := V33.alloc (Obj.cells #[Value.bool false, Value.slice none 0 0] 70)) rfl rfl rfl (by go_simp) (hSV _ (hb34.trans ((below_one _ _).mono hb34.size))) ?_ AllReadyH.nil))
              · refine (HQ.out _ (hI1.below hb34) (hI2.below hb34)).mono ?_
                rintro e V37 ⟨x5, x6, rfl, hI39, hI40, hx36⟩
                obtain ⟨b5, a5, n5, c5, rfl⟩ := hI39.form
                obtain ⟨b6, a6, n6, c6, rfl⟩ := hI40.form
                have hb38 : Below wr.heap.size wr V37 := hb34.trans (hx36.mono hb34.size)
                have X41 := X35.below hx36
                refine ⟨_, rfl, hSV _ hb38, ?_⟩
                simp only [Act.put, tA, tB, tC]
                refine h_take 6 42 (.tuple #[.agg #[.bool b5, .slice a5 n5 c5], .agg #[.bool b6, .slice a6 n6 c6]]) rfl rfl (by kernel_rfl) (by kernel_rfl) (by kernel_rfl) (fun _ _ _ h => h) rfl (fun _ _ => rfl) (hSV _ hb38) ?_
                simp only [Act.put, tA, tB, tC]
                refine h_take 7 49 (.agg #[.bool b5, .slice a5 n5 c5]) rfl rfl (by kernel_rfl) (by kernel_rfl) (by kernel_rfl) (fun _ _ _ h => h) rfl (fun _ _ => by go_simp) (hSV _ hb38) ?_
                simp only [Act.put, tA, tB, tC]
                refine h_take 8 50 (.agg #[.bool b6, .slice a6 n6 c6]) rfl rfl (by kernel_rfl) (by kernel_rfl) (by kernel_rfl) (fun _ _ _ h => h) rfl (fun _ _ => by go_simp) (hSV _ hb38) ?_
                simp only [Act.put, tA, tB, tC]
                refine wpAnyH_ready (rs := [10]) (by kernel_rfl) (by simp) (ar_val 10 13 (.pointer (some ⟨V37.heap.size, 0, none⟩)) (w' := V37.alloc (Obj.cells #[Value.bool false, Value.slice none 0 0] 70)) rfl rfl rfl (by go_simp) (hSV _ (hb38.trans ((below_one _ _).mono hb38.size))) ?_ AllReadyH.nil)
                · obtain ⟨hx42, X45⟩ := one_new (w := V37) (a := .bool false) (b := .slice none 0 0) rfl
                  generalize V37.alloc (Obj.cells #[Value.bool false, Value.slice none 0 0] 70) = V43 at *
                  have gB : wr.heap.size ≤ V37.heap.size := hb38.size
                  have hltB := X41.lt
                  have hb44 : Below wr.heap.size wr V43 := hb38.trans (hx42.mono hb38.size)
                  have hI46 := hI39.below hx42; have hI47 := hI40.below hx42
                  have X48 := X41.below hx42
                  simp only [Act.put, tA, tB, tC]
                  have c0 := X48.c0; have c1 := X48.c1; have f0 := X48.f0; have f1 := X48.f1
                  have hne : (V37.heap.size : Nat) ≠ W0.heap.size := Nat.ne_of_gt hltB
                  have Y8 := X45.other hne (.bool b5) (.slice a5 n5 c5)
                  have hK7 := IsB.stored X48 hI46
                  have hb18 := below_set2 hb44 (show wr.heap.size ≤ W0.heap.size from gA) (.bool b5) (.slice a5 n5 c5)
                  refine h_store 11 (w' := (V43.setCell ⟨W0.heap.size, 0, none⟩ (.bool b5)).setCell ⟨W0.heap.size, 1, none⟩ (.slice a5 n5 c5)) rfl rfl (by kernel_rfl) rfl (by go_simp) (hSV _ hb18) ?_
                  clear c0 c1 f0 f1
                  generalize (V43.setCell ⟨W0.heap.size, 0, none⟩ (.bool b5)).setCell ⟨W0.heap.size, 1, none⟩ (.slice a5 n5 c5) = V at *
                  have c0 := Y8.c0; have c1 := Y8.c1; have f0 := Y8.f0; have f1 := Y8.f1
                  have hb19 := below_set2 hb18 (show wr.heap.size ≤ V37.heap.size from gB) (.bool b6) (.slice a6 n6 c6)
                  refine h_store 12 (w' := (V.setCell ⟨V37.heap.size, 0, none⟩ (.bool b6)).setCell ⟨V37.heap.size, 1, none⟩ (.slice a6 n6 c6)) rfl rfl (by kernel_rfl) rfl (by go_simp) (hSV _ hb19) ?_
                  refine wpAnyH_done (by kernel_rfl) ?_ _
                  go_wp2_with fail
                  go_meet
                  case rel => exact ⟨W0.heap.size, rfl, hK7.other Y8 hne.symm _ _, hb19⟩
              · obtain ⟨hx49, X52⟩ := one_new (w := V33) (a := .bool false) (b := .slice none 0 0) rfl
                generalize V33.alloc (Obj.cells #[Value.bool false, Value.slice none 0 0] 70) = V50 at *
                have gB : wr.heap.size ≤ V33.heap.size := hb34.size
                have hltB := X35.lt
                have hb51 : Below wr.heap.size wr V50 := hb34.trans (hx49.mono hb34.size)
                have X53 := X35.below hx49
                simp only [Act.put, tA, tB, tC]
                refine wpAnyH_ready (rs := [5]) (by kernel_rfl) (by simp) (ar_call 5 48 64 #[.agg #[.bool b1, .slice xa xn xc], .agg #[.bool gb, .slice ga gn gc]] rfl rfl rfl (by go_simp) ?_ AllReadyH.nil)
                · refine (HQ.out _ (hI1.below hb51) (hI2.below hb51)).mono ?_
                  rintro e V55 ⟨x5, x6, rfl, hI57, hI58, hx54⟩
                  obtain ⟨b5, a5, n5, c5, rfl⟩ := hI57.form
                  obtain ⟨b6, a6, n6, c6, rfl⟩ := hI58.form
                  have hb56 : Below wr.heap.size wr V55 := hb51.trans (hx54.mono hb51.size)
                  have X59 := X53.below hx54
                  have X60 := X52.below hx54
                  refine ⟨_, rfl, hSV _ hb56, ?_⟩
                  simp only [Act.put, tA, tB, tC]
                  refine h_take 6 42 (.tuple #[.agg #[.bool b5, .slice a5 n5 c5], .agg #[.bool b6, .slice a6 n6 c6]]) rfl rfl (by kernel_rfl) (by kernel_rfl) (by kernel_rfl) (fun _ _ _ h => h) rfl (fun _ _ => rfl) (hSV _ hb56) ?_
                  simp only [Act.put, tA, tB, tC]
                  refine h_take 7 49 (.agg #[.bool b5, .slice a5 n5 c5]) rfl rfl (by kernel_rfl) (by kernel_rfl) (by kernel_rfl) (fun _ _ _ h => h) rfl (fun _ _ => by go_simp) (hSV _ hb56) ?_
                  simp only [Act.put, tA, tB, tC]
                  refine h_take 8 50 (.agg #[.bool b6, .slice a6 n6 c6]) rfl rfl (by kernel_rfl) (by kernel_rfl) (by kernel_rfl) (fun _ _ _ h => h) rfl (fun _ _ => by go_simp) (hSV _ hb56) ?_
                  simp only [Act.put, tA, tB, tC]
                  have c0 := X59.c0; have c1 := X59.c1; have f0 := X59.f0; have f1 := X59.f1
                  have hne : (V33.heap.size : Nat) ≠ W0.heap.size := Nat.ne_of_gt hltB
                  have Y8 := X60.other hne (.bool b5) (.slice a5 n5 c5)
                  have hK7 := IsB.stored X59 hI57
                  have hb18 := below_set2 hb56 (show wr.heap.size ≤ W0.heap.size from gA) (.bool b5) (.slice a5 n5 c5)
                  refine h_store 11 (w' := (V55.setCell ⟨W0.heap.size, 0, none⟩ (.bool b5)).setCell ⟨W0.heap.size, 1, none⟩ (.slice a5 n5 c5)) rfl rfl (by kernel_rfl) rfl (by go_simp) (hSV _ hb18) ?_
                  clear c0 c1 f0 f1
                  generalize (V55.setCell ⟨W0.heap.size, 0, none⟩ (.bool b5)).setCell ⟨W0.heap.size, 1, none⟩ (.slice a5 n5 c5) = V at *
                  have c0 := Y8.c0; have c1 := Y8.c1; have f0 := Y8.f0; have f1 := Y8.f1
                  have hb19 := below_set2 hb18 (show wr.heap.size ≤ V33.heap.size from gB) (.bool b6) (.slice a6 n6 c6)
                  refine h_store 12 (w' := (V.setCell ⟨V33.heap.size, 0, none⟩ (.bool b6)).setCell ⟨V33.heap.size, 1, none⟩ (.slice a6 n6 c6)) rfl rfl (by kernel_rfl) rfl (by go_simp) (hSV _ hb19) ?_
                  refine wpAnyH_done (by kernel_rfl) ?_ _
                  go_wp2_with fail
                  go_meet
                  case rel => exact ⟨W0.heap.size, rfl, hK7.other Y8 hne.symm _ _, hb19⟩
            · obtain ⟨hx61, X64⟩ := one_new (w := W0) (a := .bool false) (b := .slice none 0 0) rfl
              generalize W0.alloc (Obj.cells #[Value.bool false, Value.slice none 0 0] 70) = V62 at *
              have gB : wr.heap.size ≤ W0.heap.size := hb0.size
              have hb63 : Below wr.heap.size wr V62 := hb0.trans (hx61.mono hb0.size)
              simp only [Act.put, tA, tB, tC]
              refine wpAnyH_ready (rs := [5, 9]) (by kernel_rfl) (by simp) (ar_call 5 48 64 #[.agg #[.bool b1, .slice xa xn xc], .agg #[.bool gb, .slice ga gn gc]] rfl rfl rfl (by go_simp) ?_ (ar_val 9 12 (.pointer (some ⟨V62.heap.size, 0, none⟩)) (w' := V62.alloc (Obj.cells #[Value.bool false, Value.slice none 0 0] 70)) rfl rfl rfl (by go_simp) (hSV _ (hb63.trans ((below_one _ _).mono hb63.size))) ?_ AllReadyH.nil))
              · refine (HQ.out _ (hI1.below hb63) (hI2.below hb63)).mono ?_
                rintro e V66 ⟨x5, x6, rfl, hI68, hI69, hx65⟩
                obtain ⟨b5, a5, n5, c5, rfl⟩ := hI68.form
                obtain ⟨b6, a6, n6, c6, rfl⟩ := hI69.form
                have hb67 : Below wr.heap.size wr V66 := hb63.trans (hx65.mono hb63.size)
                have X70 := X64.below hx65
                refine ⟨_, rfl, hSV _ hb67, ?_⟩
                simp only [Act.put, tA, tB, tC]
                refine h_take 6 42 (.tuple #[.agg #[.bool b5, .slice a5 n5 c5], .agg #[.bool b6, .slice a6 n6 c6]]) rfl rfl (by kernel_rfl) (by kernel_rfl) (by kernel_rfl) (fun _ _ _ h => h) rfl (fun _ _ => rfl) (hSV _ hb67) ?_
                simp only [Act.put, tA, tB, tC]
                refine h_take 7 49 (.agg #[.bool b5, .slice a5 n5 c5]) rfl rfl (by kernel_rfl) (by kernel_rfl) (by kernel_rfl) (fun _ _ _ h => h) rfl (fun _ _ => by go_simp) (hSV _ hb67) ?_
                simp only [Act.put, tA, tB, tC]
                refine h_take 8 50 (.agg #[.bool b6, .slice a6 n6 c6]) rfl rfl (by kernel_rfl) (by kernel_rfl) (by kernel_rfl) (fun _ _ _ h => h) rfl (fun _ _ => by go_simp) (hSV _ hb67) ?_
                simp only [Act.put, tA, tB, tC]
                refine wpAnyH_ready (rs := [9]) (by kernel_rfl) (by simp) (ar_val 9 12 (.pointer (some ⟨V66.heap.size, 0, none⟩)) (w' := V66.alloc (Obj.cells #[Value.bool false, Value.slice none 0 0] 70)) rfl rfl rfl (by go_simp) (hSV _ (hb67.trans ((below_one _ _).mono hb67.size))) ?_ AllReadyH.nil)
                · obtain ⟨hx71, X74⟩ := one_new (w := V66) (a := .bool false) (b := .slice none 0 0) rfl
                  generalize V66.alloc (Obj.cells #[Value.bool false, Value.slice none 0 0] 70) = V72 at *
                  have gA : wr.heap.size ≤ V66.heap.size := hb67.size
                  have hltA := X70.lt
                  have hb73 : Below wr.heap.size wr V72 := hb67.trans (hx71.mono hb67.size)
                  have hI75 := hI68.below hx71; have hI76 := hI69.below hx71
                  have X77 := X70.below hx71
                  simp only [Act.put, tA, tB, tC]
                  have c0 := X74.c0; have c1 := X74.c1; have f0 := X74.f0; have f1 := X74.f1
                  have hne : (W0.heap.size : Nat) ≠ V66.heap.size := Nat.ne_of_lt hltA
                  have Y8 := X77.other hne (.bool b5) (.slice a5 n5 c5)
                  have hK7 := IsB.stored X74 hI75
                  have hb18 := below_set2 hb73 (show wr.heap.size ≤ V66.heap.size from gA) (.bool b5) (.slice a5 n5 c5)
                  refine h_store 11 (w' := (V72.setCell ⟨V66.heap.size, 0, none⟩ (.bool b5)).setCell ⟨V66.heap.size, 1, none⟩ (.slice a5 n5 c5)) rfl rfl (by kernel_rfl) rfl (by go_simp) (hSV _ hb18) ?_
                  clear c0 c1 f0 f1
                  generalize (V72.setCell ⟨V66.heap.size, 0, none⟩ (.bool b5)).setCell ⟨V66.heap.size, 1, none⟩ (.slice a5 n5 c5) = V at *
                  have c0 := Y8.c0; have c1 := Y8.c1; have f0 := Y8.f0; have f1 := Y8.f1
                  have hb19 := below_set2 hb18 (show wr.heap.size ≤ W0.heap.size from gB) (.bool b6) (.slice a6 n6 c6)
                  refine h_store 12 (w' := (V.setCell ⟨W0.heap.size, 0, none⟩ (.bool b6)).setCell ⟨W0.heap.size, 1, none⟩ (.slice a6 n6 c6)) rfl rfl (by kernel_rfl) rfl (by go_simp) (hSV _ hb19) ?_
                  refine wpAnyH_done (by kernel_rfl) ?_ _
                  go_wp2_with fail
                  go_meet
                  case rel => exact ⟨V66.heap.size, rfl, hK7.other Y8 hne.symm _ _, hb19⟩
              · obtain ⟨hx78, X81⟩ := one_new (w := V62) (a := .bool false) (b := .slice none 0 0) rfl
                generalize V62.alloc (Obj.cells #[Value.bool false, Value.slice none 0 0] 70) = V79 at *
                have gA : wr.heap.size ≤ V62.heap.size := hb63.size
                have hltA := X64.lt
                have hb80 : Below wr.heap.size wr V79 := hb63.trans (hx78.mono hb63.size)
                have X82 := X64.below hx78
                simp only [Act.put, tA, tB, tC]
                refine wpAnyH_ready (rs := [5]) (by kernel_rfl) (by simp) (ar_call 5 48 64 #[.agg #[.bool b1, .slice xa xn xc], .agg #[.bool gb, .slice ga gn gc]] rfl rfl rfl (by go_simp) ?_ AllReadyH.nil)
                · refine (HQ.out _ (hI1.below hb80) (hI2.below hb80)).mono ?_
                  rintro e V84 ⟨x5, x6, rfl, hI86, hI87, hx83⟩
                  obtain ⟨b5, a5, n5, c5, rfl⟩ := hI86.form
                  obtain ⟨b6, a6, n6, c6, rfl⟩ := hI87.form
                  have hb85 : Below wr.heap.size wr V84 := hb80.trans (hx83.mono hb80.size)
                  have X88 := X81.below hx83
                  have X89 := X82.below hx83
                  refine ⟨_, rfl, hSV _ hb85, ?_⟩
                  simp only [Act.put, tA, tB, tC]
                  refine h_take 6 42 (.tuple #[.agg #[.bool b5, .slice a5 n5 c5], .agg #[.bool b6, .slice a6 n6 c6]]) rfl rfl (by kernel_rfl) (by kernel_rfl) (by kernel_rfl) (fun _ _ _ h => h) rfl (fun _ _ => rfl) (hSV _ hb85) ?_
                  simp only [Act.put, tA, tB, tC]
                  refine h_take 7 49 (.agg #[.bool b5, .slice a5 n5 c5]) rfl rfl (by kernel_rfl) (by kernel_rfl) (by kernel_rfl) (fun _ _ _ h => h) rfl (fun _ _ => by go_simp) (hSV _ hb85) ?_
                  simp only [Act.put, tA, tB, tC]
                  refine h_take 8 50 (.agg #[.bool b6, .slice a6 n6 c6]) rfl rfl (by kernel_rfl) (by kernel_rfl) (by kernel_rfl) (fun _ _ _ h => h) rfl (fun _ _ => by go_simp) (hSV _ hb85) ?_
                  simp only [Act.put, tA, tB, tC]
                  have c0 := X88.c0; have c1 := X88.c1; have f0 := X88.f0; have f1 := X88.f1
                  have hne : (W0.heap.size : Nat) ≠ V62.heap.size := Nat.ne_of_lt hltA
                  have Y8 := X89.other hne (.bool b5) (.slice a5 n5 c5)
                  have hK7 := IsB.stored X88 hI86
                  have hb18 := below_set2 hb85 (show wr.heap.size ≤ V62.heap.size from gA) (.bool b5) (.slice a5 n5 c5)
                  refine h_store 11 (w' := (V84.setCell ⟨V62.heap.size, 0, none⟩ (.bool b5)).setCell ⟨V62.heap.size, 1, none⟩ (.slice a5 n5 c5)) rfl rfl (by kernel_rfl) rfl (by go_simp) (hSV _ hb18) ?_
                  clear c0 c1 f0 f1
                  generalize (V84.setCell ⟨V62.heap.size, 0, none⟩ (.bool b5)).setCell ⟨V62.heap.size, 1, none⟩ (.slice a5 n5 c5) = V at *
                  have c0 := Y8.c0; have c1 := Y8.c1; have f0 := Y8.f0; have f1 := Y8.f1
                  have hb19 := below_set2 hb18 (show wr.heap.size ≤ W0.heap.size from gB) (.bool b6) (.slice a6 n6 c6)
                  refine h_store 12 (w' := (V.setCell ⟨W0.heap.size, 0, none⟩ (.bool b6)).setCell ⟨W0.heap.size, 1, none⟩ (.slice a6 n6 c6)) rfl rfl (by kernel_rfl) rfl (by go_simp) (hSV _ hb19) ?_
                  refine wpAnyH_done (by kernel_rfl) ?_ _
                  go_wp2_with fail
                  go_meet
                  case rel => exact ⟨V62.heap.size, rfl, hK7.other Y8 hne.symm _ _, hb19⟩
          case rest =>
            obtain ⟨k6, rfl, hK6, hb6⟩ := hcut
            obtain ⟨b6, a6, n6, c6, G6, hI6⟩ := hK6.open
            have q0 := G6.c0; have q1 := G6.c1
            have hown6 := OwnL.below hown hb6
            have hKm6 := hKm.below hb6
            have hls6 := OwnL.below hls hb6
            have hbel6 := hbel2.trans (hb6.mono hbel2.size)
            clear HQ hI1 hI2 G0
            go_wp2_with (at_builtin; refine wpList_pushI2 rfl (.tmp 51) (.tmp 53) rfl wo.heap.size _ LL _ _ (z.tdiv M) rfl hown6 hI6 rfl (by omega) hbel6.size ?_)
            intro v7 w7 hown7 hb7 hgr7 hat7
            rw [← HPK.out] at hown7
            have hls7 : IsL w7 _ zs := IsL.keptO hls6 hgr7 hdis hown6.typ
            have hKm7 := hKm6.keptO hgr7 (fun e => by have := hown6.block _ e.symm; omega) hown6.typ
            have hdis7 : ∀ q, v7.ownBlock = some q → (Value.slice (some ⟨g, 0, none⟩) zs.length uc).ownBlock ≠ some q := fun q hq => by
              rcases hat7 q hq with h | h
              · exact hdis q h
              · intro e
                simp [Value.ownBlock] at e
                have := hb6.size
                omega
            obtain ⟨o7, c7, rfl⟩ := OwnL.val hown7
            go_wp2
            go_roundw
            case rel => exact ⟨k + 1, by omega, by go_num, hown7, hdis7, hls7, hKm7, hbel6.trans hb7⟩
            case measure => simp [intOf]; omega
        · obtain rfl : k = zs.length := by omega
          rw [List.take_length] at hown
          obtain ⟨oa2, oc2, hoe⟩ := OwnL.val hown
          subst hoe
          go_wp2
          go_ret
          exact ⟨_, rfl, hown.isL, hbw2⟩

theorem OwnL.lt {B : Nat} {w : World} {v : Value} {zs : List Int} (h : OwnL B w v zs) : ∀ q, v.ownBlock = some q → q < w.heap.size := by
  obtain ⟨cs, h1, h2, h3⟩ := h
  exact fun k hk => (World.ownsRow.lt h2 k hk).2

theorem OwnL.boxed {B : Nat} {w : World} {v : Value} {zs : List Int} (h : OwnL B w v zs) {k : Nat} {a b : Value} (hk : Bx w k a b) (hne : ∀ q, v.ownBlock = some q → q ≠ k) (u x : Value) : OwnL B ((w.setCell ⟨k, 0, none⟩ u).setCell ⟨k, 1, none⟩ x) v zs := by
  obtain ⟨cs, h1, h2, h3⟩ := h
  refine ⟨cs, h1, ownsRow_setCell_other (ownsRow_setCell_other h2 (fun e => hne k e rfl) u) (fun e => hne k e rfl) x, fun i p hp => ?_⟩
  exact (h3 i p hp).set2 hk u x

set_option maxRecDepth 100000 in
set_option maxHeartbeats 4000000 in
theorem nearest_any (zs : List Int) (M : Int) (e : Nat) (u y : Value) (w : World) (hu : IsL w u zs) (hy : IsI w y M) (hl : zs.length ≤ 1000) (fx : Bd zs e) (fM : M.natAbs < 10 ^ e) (hM0 : 0 < M) (he : e ≤ 70000000) :
    Calls Tryz.prog 122 #[u, y] w fun en w' => ∃ x, en = .returned x ∧ IsL w' x (zs.map (near M)) ∧ Below w.heap.size w w' := by
  obtain ⟨ua, uc, rfl⟩ := OwnL.val hu
  obtain ⟨yb, ya, yn, yc, rfl⟩ := hy.form
  have fMi : Fit M := fitW_of fM (by omega)
  have hrb : ∀ z : Int, (z.tmod M).natAbs < 10 ^ e := fun z => by
    have h1 := Int.natAbs_tmod z M
    have h2 := Nat.mod_lt z.natAbs (show 0 < M.natAbs by omega)
    omega
  have hfr : ∀ z : Int, Fit (z.tmod M) := fun z => fitW_of (hrb z) (by omega)
  have hpow : 10 ^ (e + 1) = 10 * 10 ^ e := by rw [Nat.pow_succ]; omega
  have hfr2 : ∀ z : Int, Fit (z.tmod M + z.tmod M) := fun z => fitW_of (e := e + 1) (by have := hrb z; omega) (by omega)
  have HFR : Hid _ := hfr
  have HFR2 : Hid _ := hfr2
  clear hfr hfr2 hrb hpow
  go_enter Tryz.func122, Tryz.ntmps122
  go_wp2_with fail
  generalize hW : w.alloc (Obj.cells #[Value.bool yb, Value.slice ya yn yc] 70) = W0
  obtain ⟨hb0, X0⟩ := one_new hW
  have hs0 : W0.heap.size = w.heap.size + 1 := by rw [← hW]; simp
  clear hW
  have hbA := below_one W0 (Obj.cells #[] 70)
  have hlitA : OwnL (w.heap.size + 1) (W0.alloc (Obj.cells #[] 70)) (.slice (some ⟨w.heap.size + 1, 0, none⟩) 0 0) [] := OwnL.lit hs0
  have hKA : IsB (W0.alloc (Obj.cells #[] 70)) w.heap.size M := ⟨_, _, X0.below hbA, (hy.below hb0).below hbA⟩
  generalize W0.alloc (Obj.cells #[] 70) = W1 at *
  have hbAw := hb0.trans (hbA.mono hb0.size)
  go_loopw [5, 6] (fun o i wr => ∃ (k : Nat), k ≤ zs.length ∧ i = .int .i64 k ∧ OwnL (w.heap.size + 1) wr o ((zs.take k).map (near M)) ∧ IsB wr w.heap.size M ∧ Below w.heap.size w wr) (fun _ i _ => zs.length - (intOf i).toNat)
  case atStart => exact ⟨0, Nat.zero_le _, rfl, hlitA, hKA, hbAw⟩
  case round =>
    clear hlitA hKA hbA hbAw X0
    obtain ⟨k, hk, rfl, hown, hKm, hbel⟩ := hrel
    have hszw := hKm.lt
    by_cases hlt : k < zs.length
    · obtain ⟨g, b1, xa, xn, xc, rfl, hc1, hc2, hg, _, hc0, hcx, hI⟩ := OwnL.at hu k hlt
      have f1 : Fit (zs.getD k 0) := fitW_of (fx k) (by omega)
      have hpt : (zs.take (k + 1)).map (near M) = (zs.take k).map (near M) ++ [near M (zs.getD k 0)] := by
        rw [List.take_succ_eq_append_getElem hlt, ← getD_lt hlt]; simp
      have hfrz := HFR.out (zs.getD k 0)
      have hfrz2 := HFR2.out (zs.getD k 0)
      have hnear : near M (zs.getD k 0) = if M < (((zs.getD k 0).tmod M + (zs.getD k 0).tmod M).natAbs : Int) then (if 0 < (zs.getD k 0).tmod M then (zs.getD k 0).tmod M - M else (zs.getD k 0).tmod M + M) else (zs.getD k 0).tmod M := rfl
      generalize zs.getD k 0 = z at *
      have HPK : Hid _ := hpt
      have HNR : Hid _ := hnear
      have hlen : ((zs.take k).map (near M)).length ≤ 1000 := by rw [List.length_map, List.length_take]; omega
      obtain ⟨LL, HL⟩ : ∃ LL, Hid ((zs.take k).map (near M) = LL) := ⟨_, rfl⟩
      rw [HL.out] at hown hlen HPK
      clear hpt hnear
      obtain ⟨gb, ga, gn, gc, G0, hI2⟩ := hKm.open
      have hI1 := hI.below hbel
      have hq := fun (W : World) (g1 : IsI W (.agg #[.bool b1, .slice xa xn xc]) z) (g2 : IsI W (.agg #[.bool gb, .slice ga gn gc]) M) => divide_any _ _ z M W g1 g2 f1 fMi
      have HQ : Hid _ := hq
      clear hq
      obtain ⟨oa, oc, rfl⟩ := OwnL.val hown
      have hki : (k : Int) < (zs.length : Int) := by omega
      have hki0 : (0 : Int) ≤ (k : Int) := by omega
      have hgr : g < wr.heap.size := by have := hbel.size; omega
      have hc0r := (hbel.cell (p := ⟨g, k * 2, none⟩) hg).trans hc0
      have hcxr := (hbel.cell (p := ⟨g, k * 2 + 1, none⟩) hg).trans hcx
      go_wp2_with fail
      go_cut [8] (fun p6 wc => ∃ k6, p6 = .pointer (some ⟨k6, 0, none⟩) ∧ IsB wc k6 (z.tmod M) ∧ wr.heap.size ≤ k6 ∧ Below wr.heap.size wr wc)
      case first =>
        have hb0 : Below wr.heap.size wr wr.drew := ⟨rfl, rfl, rfl, Nat.le_refl _, fun _ _ => rfl⟩
        have hSV : ∀ W, Below wr.heap.size wr W → W.cell? ⟨g, k * 2, none⟩ = some (.bool b1) ∧ W.cell? ⟨g, k * 2 + 1, none⟩ = some (.slice xa xn xc) ∧ W.cell? ⟨w.heap.size, 0, none⟩ = some (.bool gb) ∧ W.cell? ⟨w.heap.size, 1, none⟩ = some (.slice ga gn gc) := fun W h => ⟨(h.cell (p := ⟨g, k * 2, none⟩) hgr).trans hc0r, (h.cell (p := ⟨g, k * 2 + 1, none⟩) hgr).trans hcxr, (h.cell (p := ⟨w.heap.size, 0, none⟩) hszw).trans G0.c0, (h.cell (p := ⟨w.heap.size, 1, none⟩) hszw).trans G0.c1⟩
        refine wp_region_held_drew (S := fun W => W.cell? ⟨g, k * 2, none⟩ = some (.bool b1) ∧ W.cell? ⟨g, k * 2 + 1, none⟩ = some (.slice xa xn xc) ∧ W.cell? ⟨w.heap.size, 0, none⟩ = some (.bool gb) ∧ W.cell? ⟨w.heap.size, 1, none⟩ = some (.slice ga gn gc)) (by kernel_rfl) (hSV _ hb0) fun hS => ?_
        generalize wr.drew = W0 at *
        refine h_take 0 18 (.slice (some ⟨g, 0, none⟩) zs.length uc) rfl rfl (by kernel_rfl) (by kernel_rfl) (by kernel_rfl) (fun _ _ _ h => h) rfl (fun _ _ => by first | rfl | go_simp) hS ?_
        simp only [Act.put, tA, tB, tC]
        refine h_take 1 19 (.int .i64 (k : Int)) rfl rfl (by kernel_rfl) (by kernel_rfl) (by kernel_rfl) (fun _ _ _ h => h) rfl (fun _ _ => by first | rfl | go_simp) hS ?_
        simp only [Act.put, tA, tB, tC]
        refine h_take 2 20 (.pointer (some ⟨g, k * 2, none⟩)) rfl rfl (by kernel_rfl) (by kernel_rfl) (by kernel_rfl) (fun _ _ _ h => h) rfl (fun _ _ => by first | rfl | go_simp) hS ?_
        simp only [Act.put, tA, tB, tC]
        refine h_take 3 21 (.agg #[.bool b1, .slice xa xn xc]) rfl rfl (by kernel_rfl) (by kernel_rfl) (by kernel_rfl) (fun _ _ _ h => h) rfl (fun w' hw' => by obtain ⟨y0, y1, y2, y3⟩ := hw'; go_simp) hS ?_
        simp only [Act.put, tA, tB, tC]
        refine h_take 4 22 (.agg #[.bool gb, .slice ga gn gc]) rfl rfl (by kernel_rfl) (by kernel_rfl) (by kernel_rfl) (fun _ _ _ h => h) rfl (fun w' hw' => by obtain ⟨y0, y1, y2, y3⟩ := hw'; go_simp) hS ?_
        simp only [Act.put, tA, tB, tC]
        refine wpAnyH_ready (rs := [5, 9, 10]) (by kernel_rfl) (by simp) (ar_call 5 23 64 #[.agg #[.bool b1, .slice xa xn xc], .agg #[.bool gb, .slice ga gn gc]] rfl rfl rfl (by go_simp) ?_ (ar_val 9 7 (.pointer (some ⟨W0.heap.size, 0, none⟩)) (w' := W0.alloc (Obj.cells #[Value.bool false, Value.slice none 0 0] 70)) rfl rfl rfl (by go_simp) (hSV _ (hb0.trans ((below_one _ _).mono hb0.size))) ?_ (ar_val 10 8 (.pointer (some ⟨W0.heap.size, 0, none⟩)) (w' := W0.alloc (Obj.cells #[Value.bool false, Value.slice none 0 0] 70)) rfl rfl rfl (by go_simp) (hSV _ (hb0.trans ((below_one _ _).mono hb0.size))) ?_ AllReadyH.nil)))
        · refine (HQ.out _ (hI1.below hb0) (hI2.below hb0)).mono ?_
          rintro e V2 ⟨x5, x6, rfl, hI4, hI5, hx1⟩
          obtain ⟨b5, a5, n5, c5, rfl⟩ := hI4.form
          obtain ⟨b6, a6, n6, c6, rfl⟩ := hI5.form
          have hb3 : Below wr.heap.size wr V2 := hb0.trans (hx1.mono hb0.size)
          refine ⟨_, rfl, hSV _ hb3, ?_⟩
          simp only [Act.put, tA, tB, tC]
          refine h_take 6 17 (.tuple #[.agg #[.bool b5, .slice a5 n5 c5], .agg #[.bool b6, .slice a6 n6 c6]]) rfl rfl (by kernel_rfl) (by kernel_rfl) (by kernel_rfl) (fun _ _ _ h => h) rfl (fun _ _ => rfl) (hSV _ hb3) ?_
          simp only [Act.put, tA, tB, tC]
          refine h_take 7 24 (.agg #[.bool b5, .slice a5 n5 c5]) rfl rfl (by kernel_rfl) (by kernel_rfl) (by kernel_rfl) (fun _ _ _ h => h) rfl (fun _ _ => by go_simp) (hSV _ hb3) ?_
          simp only [Act.put, tA, tB, tC]
          refine h_take 8 25 (.agg #[.bool b6, .slice a6 n6 c6]) rfl rfl (by kernel_rfl) (by kernel_rfl) (by kernel_rfl) (fun _ _ _ h => h) rfl (fun _ _ => by go_simp) (hSV _ hb3) ?_
          simp only [Act.put, tA, tB, tC]
          refine wpAnyH_ready (rs := [9, 10]) (by kernel_rfl) (by simp) (ar_val 9 7 (.pointer (some ⟨V2.heap.size, 0, none⟩)) (w' := V2.alloc (Obj.cells #[Value.bool false, Value.slice none 0 0] 70)) rfl rfl rfl (by go_simp) (hSV _ (hb3.trans ((below_one _ _).mono hb3.size))) ?_ (ar_val 10 8 (.pointer (some ⟨V2.heap.size, 0, none⟩)) (w' := V2.alloc (Obj.cells #[Value.bool false, Value.slice none 0 0] 70)) rfl rfl rfl (by go_simp) (hSV _ (hb3.trans ((below_one _ _).mono hb3.size))) ?_ AllReadyH.nil))
          · obtain ⟨hx6, X9⟩ := one_new (w := V2) (a := .bool false) (b := .slice none 0 0) rfl
            generalize V2.alloc (Obj.cells #[Value.bool false, Value.slice none 0 0] 70) = V7 at *
            have gA : wr.heap.size ≤ V2.heap.size := hb3.size
            have hb8 : Below wr.heap.size wr V7 := hb3.trans (hx6.mono hb3.size)
            have hI10 := hI4.below hx6; have hI11 := hI5.below hx6
            simp only [Act.put, tA, tB, tC]
            refine wpAnyH_ready (rs := [10]) (by kernel_rfl) (by simp) (ar_val 10 8 (.pointer (some ⟨V7.heap.size, 0, none⟩)) (w' := V7.alloc (Obj.cells #[Value.bool false, Value.slice none 0 0] 70)) rfl rfl rfl (by go_simp) (hSV _ (hb8.trans ((below_one _ _).mono hb8.size))) ?_ AllReadyH.nil)
            · obtain ⟨hx12, X15⟩ := one_new (w := V7) (a := .bool false) (b := .slice none 0 0) rfl
              generalize V7.alloc (Obj.cells #[Value.bool false, Value.slice none 0 0] 70) = V13 at *
              have gB : wr.heap.size ≤ V7.heap.size := hb8.size
              have hltB := X9.lt
              have hb14 : Below wr.heap.size wr V13 := hb8.trans (hx12.mono hb8.size)
              have hI16 := hI10.below hx12; have hI17 := hI11.below hx12
              have X18 := X9.below hx12
              simp only [Act.put, tA, tB, tC]
              have c0 := X18.c0; have c1 := X18.c1; have f0 := X18.f0; have f1 := X18.f1
              have hne : (V7.heap.size : Nat) ≠ V2.heap.size := Nat.ne_of_gt hltB
              have Y8 := X15.other hne (.bool b5) (.slice a5 n5 c5)
              have hI6s := hI17.set2 X18 (.bool b5) (.slice a5 n5 c5)
              have hb18 := below_set2 hb14 (show wr.heap.size ≤ V2.heap.size from gA) (.bool b5) (.slice a5 n5 c5)
              refine h_store 11 (w' := (V13.setCell ⟨V2.heap.size, 0, none⟩ (.bool b5)).setCell ⟨V2.heap.size, 1, none⟩ (.slice a5 n5 c5)) rfl rfl (by kernel_rfl) rfl (by go_simp) (hSV _ hb18) ?_
              clear c0 c1 f0 f1
              generalize (V13.setCell ⟨V2.heap.size, 0, none⟩ (.bool b5)).setCell ⟨V2.heap.size, 1, none⟩ (.slice a5 n5 c5) = V at *
              have c0 := Y8.c0; have c1 := Y8.c1; have f0 := Y8.f0; have f1 := Y8.f1
              have hb19 := below_set2 hb18 (show wr.heap.size ≤ V7.heap.size from gB) (.bool b6) (.slice a6 n6 c6)
              have hK8 := IsB.stored Y8 hI6s
              refine h_store 12 (w' := (V.setCell ⟨V7.heap.size, 0, none⟩ (.bool b6)).setCell ⟨V7.heap.size, 1, none⟩ (.slice a6 n6 c6)) rfl rfl (by kernel_rfl) rfl (by go_simp) (hSV _ hb19) ?_
              refine wpAnyH_done (by kernel_rfl) ?_ _
              go_wp2_with fail
              go_meet
              case rel => exact ⟨V7.heap.size, rfl, hK8, gB, hb19⟩
          · obtain ⟨hx19, X22⟩ := one_new (w := V2) (a := .bool false) (b := .slice none 0 0) rfl
            generalize V2.alloc (Obj.cells #[Value.bool false, Value.slice none 0 0] 70) = V20 at *
            have gB : wr.heap.size ≤ V2.heap.size := hb3.size
            have hb21 : Below wr.heap.size wr V20 := hb3.trans (hx19.mono hb3.size)
            have hI23 := hI4.below hx19; have hI24 := hI5.below hx19
            simp only [Act.put, tA, tB, tC]
            refine wpAnyH_ready (rs := [9]) (by kernel_rfl) (by simp) (ar_val 9 7 (.pointer (some ⟨V20.heap.size, 0, none⟩)) (w' := V20.alloc (Obj.cells #[Value.bool false, Value.slice none 0 0] 70)) rfl rfl rfl (by go_simp) (hSV _ (hb21.trans ((below_one _ _).mono hb21.size))) ?_ AllReadyH.nil)
            · obtain ⟨hx25, X28⟩ := one_new (w := V20) (a := .bool false) (b := .slice none 0 0) rfl
              generalize V20.alloc (Obj.cells #[Value.bool false, Value.slice none 0 0] 70) = V26 at *
              have gA : wr.heap.size ≤ V20.heap.size := hb21.size
              have hltA := X22.lt
              have hb27 : Below wr.heap.size wr V26 := hb21.trans (hx25.mono hb21.size)
              have hI29 := hI23.below hx25; have hI30 := hI24.below hx25
              have X31 := X22.below hx25
              simp only [Act.put, tA, tB, tC]
              have c0 := X28.c0; have c1 := X28.c1; have f0 := X28.f0; have f1 := X28.f1
              have hne : (V2.heap.size : Nat) ≠ V20.heap.size := Nat.ne_of_lt hltA
              have Y8 := X31.other hne (.bool b5) (.slice a5 n5 c5)
              have hI6s := hI30.set2 X28 (.bool b5) (.slice a5 n5 c5)
              have hb18 := below_set2 hb27 (show wr.heap.size ≤ V20.heap.size from gA) (.bool b5) (.slice a5 n5 c5)
              refine h_store 11 (w' := (V26.setCell ⟨V20.heap.size, 0, none⟩ (.bool b5)).setCell ⟨V20.heap.size, 1, none⟩ (.slice a5 n5 c5)) rfl rfl (by kernel_rfl) rfl (by go_simp) (hSV _ hb18) ?_
              clear c0 c1 f0 f1
              generalize (V26.setCell ⟨V20.heap.size, 0, none⟩ (.bool b5)).setCell ⟨V20.heap.size, 1, none⟩ (.slice a5 n5 c5) = V at *
              have c0 := Y8.c0; have c1 := Y8.c1; have f0 := Y8.f0; have f1 := Y8.f1
              have hb19 := below_set2 hb18 (show wr.heap.size ≤ V2.heap.size from gB) (.bool b6) (.slice a6 n6 c6)
              have hK8 := IsB.stored Y8 hI6s
              refine h_store 12 (w' := (V.setCell ⟨V2.heap.size, 0, none⟩ (.bool b6)).setCell ⟨V2.heap.size, 1, none⟩ (.slice a6 n6 c6)) rfl rfl (by kernel_rfl) rfl (by go_simp) (hSV _ hb19) ?_
              refine wpAnyH_done (by kernel_rfl) ?_ _
              go_wp2_with fail
              go_meet
              case rel => exact ⟨V2.heap.size, rfl, hK8, gB, hb19⟩
        · obtain ⟨hx32, X35⟩ := one_new (w := W0) (a := .bool false) (b := .slice none 0 0) rfl
          generalize W0.alloc (Obj.cells #[Value.bool false, Value.slice none 0 0] 70) = V33 at *
          have gA : wr.heap.size ≤ W0.heap.size := hb0.size
          have hb34 : Below wr.heap.size wr V33 := hb0.trans (hx32.mono hb0.size)
          simp only [Act.put, tA, tB, tC]
          refine wpAnyH_ready (rs := [5, 10]) (by kernel_rfl) (by simp) (ar_call 5 23 64 #[.agg #[.bool b1, .slice xa xn xc], .agg #[.bool gb, .slice ga gn gc]] rfl rfl rfl (by go_simp) ?_ (ar_val 10 8 (.pointer (some ⟨V33.heap.size, 0, none⟩)) (w' := V33.alloc (Obj.cells #[Value.bool false, Value.slice none 0 0] 70)) rfl rfl rfl (by go_simp) (hSV _ (hb34.trans ((below_one _ _).mono hb34.size))) ?_ AllReadyH.nil))
          · refine (HQ.out _ (hI1.below hb34) (hI2.below hb34)).mono ?_
            rintro e V37 ⟨x5, x6, rfl, hI39, hI40, hx36⟩
            obtain ⟨b5, a5, n5, c5, rfl⟩ := hI39.form
            obtain ⟨b6, a6, n6, c6, rfl⟩ := hI40.form
            have hb38 : Below wr.heap.size wr V37 := hb34.trans (hx36.mono hb34.size)
            have X41 := X35.below hx36
            refine ⟨_, rfl, hSV _ hb38, ?_⟩
            simp only [Act.put, tA, tB, tC]
            refine h_take 6 17 (.tuple #[.agg #[.bool b5, .slice a5 n5 c5], .agg #[.bool b6, .slice a6 n6 c6]]) rfl rfl (by kernel_rfl) (by kernel_rfl) (by kernel_rfl) (fun _ _ _ h => h) rfl (fun _ _ => rfl) (hSV _ hb38) ?_
            simp only [Act.put, tA, tB, tC]
            refine h_take 7 24 (.agg #[.bool b5, .slice a5 n5 c5]) rfl rfl (by kernel_rfl) (by kernel_rfl) (by kernel_rfl) (fun _ _ _ h => h) rfl (fun _ _ => by go_simp) (hSV _ hb38) ?_
            simp only [Act.put, tA, tB, tC]
            refine h_take 8 25 (.agg #[.bool b6, .slice a6 n6 c6]) rfl rfl (by kernel_rfl) (by kernel_rfl) (by kernel_rfl) (fun _ _ _ h => h) rfl (fun _ _ => by go_simp) (hSV _ hb38) ?_
            simp only [Act.put, tA, tB, tC]
            refine wpAnyH_ready (rs := [10]) (by kernel_rfl) (by simp) (ar_val 10 8 (.pointer (some ⟨V37.heap.size, 0, none⟩)) (w' := V37.alloc (Obj.cells #[Value.bool false, Value.slice none 0 0] 70)) rfl rfl rfl (by go_simp) (hSV _ (hb38.trans ((below_one _ _).mono hb38.size))) ?_ AllReadyH.nil)
            · obtain ⟨hx42, X45⟩ := one_new (w := V37) (a := .bool false) (b := .slice none 0 0) rfl
              generalize V37.alloc (Obj.cells #[Value.bool false, Value.slice none 0 0] 70) = V43 at *
              have gB : wr.heap.size ≤ V37.heap.size := hb38.size
              have hltB := X41.lt
              have hb44 : Below wr.heap.size wr V43 := hb38.trans (hx42.mono hb38.size)
              have hI46 := hI39.below hx42; have hI47 := hI40.below hx42
              have X48 := X41.below hx42
              simp only [Act.put, tA, tB, tC]
              have c0 := X48.c0; have c1 := X48.c1; have f0 := X48.f0; have f1 := X48.f1
              have hne : (V37.heap.size : Nat) ≠ W0.heap.size := Nat.ne_of_gt hltB
              have Y8 := X45.other hne (.bool b5) (.slice a5 n5 c5)
              have hI6s := hI47.set2 X48 (.bool b5) (.slice a5 n5 c5)
              have hb18 := below_set2 hb44 (show wr.heap.size ≤ W0.heap.size from gA) (.bool b5) (.slice a5 n5 c5)
              refine h_store 11 (w' := (V43.setCell ⟨W0.heap.size, 0, none⟩ (.bool b5)).setCell ⟨W0.heap.size, 1, none⟩ (.slice a5 n5 c5)) rfl rfl (by kernel_rfl) rfl (by go_simp) (hSV _ hb18) ?_
              clear c0 c1 f0 f1
              generalize (V43.setCell ⟨W0.heap.size, 0, none⟩ (.bool b5)).setCell ⟨W0.heap.size, 1, none⟩ (.slice a5 n5 c5) = V at *
              have c0 := Y8.c0; have c1 := Y8.c1; have f0 := Y8.f0; have f1 := Y8.f1
              have hb19 := below_set2 hb18 (show wr.heap.size ≤ V37.heap.size from gB) (.bool b6) (.slice a6 n6 c6)
              have hK8 := IsB.stored Y8 hI6s
              refine h_store 12 (w' := (V.setCell ⟨V37.heap.size, 0, none⟩ (.bool b6)).setCell ⟨V37.heap.size, 1, none⟩ (.slice a6 n6 c6)) rfl rfl (by kernel_rfl) rfl (by go_simp) (hSV _ hb19) ?_
              refine wpAnyH_done (by kernel_rfl) ?_ _
              go_wp2_with fail
              go_meet
              case rel => exact ⟨V37.heap.size, rfl, hK8, gB, hb19⟩
          · obtain ⟨hx49, X52⟩ := one_new (w := V33) (a := .bool false) (b := .slice none 0 0) rfl
            generalize V33.alloc (Obj.cells #[Value.bool false, Value.slice none 0 0] 70) = V50 at *
            have gB : wr.heap.size ≤ V33.heap.size := hb34.size
            have hltB := X35.lt
            have hb51 : Below wr.heap.size wr V50 := hb34.trans (hx49.mono hb34.size)
            have X53 := X35.below hx49
            simp only [Act.put, tA, tB, tC]
            refine wpAnyH_ready (rs := [5]) (by kernel_rfl) (by simp) (ar_call 5 23 64 #[.agg #[.bool b1, .slice xa xn xc], .agg #[.bool gb, .slice ga gn gc]] rfl rfl rfl (by go_simp) ?_ AllReadyH.nil)
            · refine (HQ.out _ (hI1.below hb51) (hI2.below hb51)).mono ?_
              rintro e V55 ⟨x5, x6, rfl, hI57, hI58, hx54⟩
              obtain ⟨b5, a5, n5, c5, rfl⟩ := hI57.form
              obtain ⟨b6, a6, n6, c6, rfl⟩ := hI58.form
              have hb56 : Below wr.heap.size wr V55 := hb51.trans (hx54.mono hb51.size)
              have X59 := X53.below hx54
              have X60 := X52.below hx54
              refine ⟨_, rfl, hSV _ hb56, ?_⟩
              simp only [Act.put, tA, tB, tC]
              refine h_take 6 17 (.tuple #[.agg #[.bool b5, .slice a5 n5 c5], .agg #[.bool b6, .slice a6 n6 c6]]) rfl rfl (by kernel_rfl) (by kernel_rfl) (by kernel_rfl) (fun _ _ _ h => h) rfl (fun _ _ => rfl) (hSV _ hb56) ?_
              simp only [Act.put, tA, tB, tC]
              refine h_take 7 24 (.agg #[.bool b5, .slice a5 n5 c5]) rfl rfl (by kernel_rfl) (by kernel_rfl) (by kernel_rfl) (fun _ _ _ h => h) rfl (fun _ _ => by go_simp) (hSV _ hb56) ?_
              simp only [Act.put, tA, tB, tC]
              refine h_take 8 25 (.agg #[.bool b6, .slice a6 n6 c6]) rfl rfl (by kernel_rfl) (by kernel_rfl) (by kernel_rfl) (fun _ _ _ h => h) rfl (fun _ _ => by go_simp) (hSV _ hb56) ?_
              simp only [Act.put, tA, tB, tC]
              have c0 := X59.c0; have c1 := X59.c1; have f0 := X59.f0; have f1 := X59.f1
              have hne : (V33.heap.size : Nat) ≠ W0.heap.size := Nat.ne_of_gt hltB
              have Y8 := X60.other hne (.bool b5) (.slice a5 n5 c5)
              have hI6s := hI58.set2 X59 (.bool b5) (.slice a5 n5 c5)
              have hb18 := below_set2 hb56 (show wr.heap.size ≤ W0.heap.size from gA) (.bool b5) (.slice a5 n5 c5)
              refine h_store 11 (w' := (V55.setCell ⟨W0.heap.size, 0, none⟩ (.bool b5)).setCell ⟨W0.heap.size, 1, none⟩ (.slice a5 n5 c5)) rfl rfl (by kernel_rfl) rfl (by go_simp) (hSV _ hb18) ?_
              clear c0 c1 f0 f1
              generalize (V55.setCell ⟨W0.heap.size, 0, none⟩ (.bool b5)).setCell ⟨W0.heap.size, 1, none⟩ (.slice a5 n5 c5) = V at *
              have c0 := Y8.c0; have c1 := Y8.c1; have f0 := Y8.f0; have f1 := Y8.f1
              have hb19 := below_set2 hb18 (show wr.heap.size ≤ V33.heap.size from gB) (.bool b6) (.slice a6 n6 c6)
              have hK8 := IsB.stored Y8 hI6s
              refine h_store 12 (w' := (V.setCell ⟨V33.heap.size, 0, none⟩ (.bool b6)).setCell ⟨V33.heap.size, 1, none⟩ (.slice a6 n6 c6)) rfl rfl (by kernel_rfl) rfl (by go_simp) (hSV _ hb19) ?_
              refine wpAnyH_done (by kernel_rfl) ?_ _
              go_wp2_with fail
              go_meet
              case rel => exact ⟨V33.heap.size, rfl, hK8, gB, hb19⟩
        · obtain ⟨hx61, X64⟩ := one_new (w := W0) (a := .bool false) (b := .slice none 0 0) rfl
          generalize W0.alloc (Obj.cells #[Value.bool false, Value.slice none 0 0] 70) = V62 at *
          have gB : wr.heap.size ≤ W0.heap.size := hb0.size
          have hb63 : Below wr.heap.size wr V62 := hb0.trans (hx61.mono hb0.size)
          simp only [Act.put, tA, tB, tC]
          refine wpAnyH_ready (rs := [5, 9]) (by kernel_rfl) (by simp) (ar_call 5 23 64 #[.agg #[.bool b1, .slice xa xn xc], .agg #[.bool gb, .slice ga gn gc]] rfl rfl rfl (by go_simp) ?_ (ar_val 9 7 (.pointer (some ⟨V62.heap.size, 0, none⟩)) (w' := V62.alloc (Obj.cells #[Value.bool false, Value.slice none 0 0] 70)) rfl rfl rfl (by go_simp) (hSV _ (hb63.trans ((below_one _ _).mono hb63.size))) ?_ AllReadyH.nil))
          · refine (HQ.out _ (hI1.below hb63) (hI2.below hb63)).mono ?_
            rintro e V66 ⟨x5, x6, rfl, hI68, hI69, hx65⟩
            obtain ⟨b5, a5, n5, c5, rfl⟩ := hI68.form
            obtain ⟨b6, a6, n6, c6, rfl⟩ := hI69.form
            have hb67 : Below wr.heap.size wr V66 := hb63.trans (hx65.mono hb63.size)
            have X70 := X64.below hx65
            refine ⟨_, rfl, hSV _ hb67, ?_⟩
            simp only [Act.put, tA, tB, tC]
            refine h_take 6 17 (.tuple #[.agg #[.bool b5, .slice a5 n5 c5], .agg #[.bool b6, .slice a6 n6 c6]]) rfl rfl (by kernel_rfl) (by kernel_rfl) (by kernel_rfl) (fun _ _ _ h => h) rfl (fun _ _ => rfl) (hSV _ hb67) ?_
            simp only [Act.put, tA, tB, tC]
            refine h_take 7 24 (.agg #[.bool b5, .slice a5 n5 c5]) rfl rfl (by kernel_rfl) (by kernel_rfl) (by kernel_rfl) (fun _ _ _ h => h) rfl (fun _ _ => by go_simp) (hSV _ hb67) ?_
            simp only [Act.put, tA, tB, tC]
            refine h_take 8 25 (.agg #[.bool b6, .slice a6 n6 c6]) rfl rfl (by kernel_rfl) (by kernel_rfl) (by kernel_rfl) (fun _ _ _ h => h) rfl (fun _ _ => by go_simp) (hSV _ hb67) ?_
            simp only [Act.put, tA, tB, tC]
            refine wpAnyH_ready (rs := [9]) (by kernel_rfl) (by simp) (ar_val 9 7 (.pointer (some ⟨V66.heap.size, 0, none⟩)) (w' := V66.alloc (Obj.cells #[Value.bool false, Value.slice none 0 0] 70)) rfl rfl rfl (by go_simp) (hSV _ (hb67.trans ((below_one _ _).mono hb67.size))) ?_ AllReadyH.nil)
            · obtain ⟨hx71, X74⟩ := one_new (w := V66) (a := .bool false) (b := .slice none 0 0) rfl
              generalize V66.alloc (Obj.cells #[Value.bool false, Value.slice none 0 0] 70) = V72 at *
              have gA : wr.heap.size ≤ V66.heap.size := hb67.size
              have hltA := X70.lt
              have hb73 : Below wr.heap.size wr V72 := hb67.trans (hx71.mono hb67.size)
              have hI75 := hI68.below hx71; have hI76 := hI69.below hx71
              have X77 := X70.below hx71
              simp only [Act.put, tA, tB, tC]
              have c0 := X74.c0; have c1 := X74.c1; have f0 := X74.f0; have f1 := X74.f1
              have hne : (W0.heap.size : Nat) ≠ V66.heap.size := Nat.ne_of_lt hltA
              have Y8 := X77.other hne (.bool b5) (.slice a5 n5 c5)
              have hI6s := hI76.set2 X74 (.bool b5) (.slice a5 n5 c5)
              have hb18 := below_set2 hb73 (show wr.heap.size ≤ V66.heap.size from gA) (.bool b5) (.slice a5 n5 c5)
              refine h_store 11 (w' := (V72.setCell ⟨V66.heap.size, 0, none⟩ (.bool b5)).setCell ⟨V66.heap.size, 1, none⟩ (.slice a5 n5 c5)) rfl rfl (by kernel_rfl) rfl (by go_simp) (hSV _ hb18) ?_
              clear c0 c1 f0 f1
              generalize (V72.setCell ⟨V66.heap.size, 0, none⟩ (.bool b5)).setCell ⟨V66.heap.size, 1, none⟩ (.slice a5 n5 c5) = V at *
              have c0 := Y8.c0; have c1 := Y8.c1; have f0 := Y8.f0; have f1 := Y8.f1
              have hb19 := below_set2 hb18 (show wr.heap.size ≤ W0.heap.size from gB) (.bool b6) (.slice a6 n6 c6)
              have hK8 := IsB.stored Y8 hI6s
              refine h_store 12 (w' := (V.setCell ⟨W0.heap.size, 0, none⟩ (.bool b6)).setCell ⟨W0.heap.size, 1, none⟩ (.slice a6 n6 c6)) rfl rfl (by kernel_rfl) rfl (by go_simp) (hSV _ hb19) ?_
              refine wpAnyH_done (by kernel_rfl) ?_ _
              go_wp2_with fail
              go_meet
              case rel => exact ⟨W0.heap.size, rfl, hK8, gB, hb19⟩
          · obtain ⟨hx78, X81⟩ := one_new (w := V62) (a := .bool false) (b := .slice none 0 0) rfl
            generalize V62.alloc (Obj.cells #[Value.bool false, Value.slice none 0 0] 70) = V79 at *
            have gA : wr.heap.size ≤ V62.heap.size := hb63.size
            have hltA := X64.lt
            have hb80 : Below wr.heap.size wr V79 := hb63.trans (hx78.mono hb63.size)
            have X82 := X64.below hx78
            simp only [Act.put, tA, tB, tC]
            refine wpAnyH_ready (rs := [5]) (by kernel_rfl) (by simp) (ar_call 5 23 64 #[.agg #[.bool b1, .slice xa xn xc], .agg #[.bool gb, .slice ga gn gc]] rfl rfl rfl (by go_simp) ?_ AllReadyH.nil)
            · refine (HQ.out _ (hI1.below hb80) (hI2.below hb80)).mono ?_
              rintro e V84 ⟨x5, x6, rfl, hI86, hI87, hx83⟩
              obtain ⟨b5, a5, n5, c5, rfl⟩ := hI86.form
              obtain ⟨b6, a6, n6, c6, rfl⟩ := hI87.form
              have hb85 : Below wr.heap.size wr V84 := hb80.trans (hx83.mono hb80.size)
              have X88 := X81.below hx83
              have X89 := X82.below hx83
              refine ⟨_, rfl, hSV _ hb85, ?_⟩
              simp only [Act.put, tA, tB, tC]
              refine h_take 6 17 (.tuple #[.agg #[.bool b5, .slice a5 n5 c5], .agg #[.bool b6, .slice a6 n6 c6]]) rfl rfl (by kernel_rfl) (by kernel_rfl) (by kernel_rfl) (fun _ _ _ h => h) rfl (fun _ _ => rfl) (hSV _ hb85) ?_
              simp only [Act.put, tA, tB, tC]
              refine h_take 7 24 (.agg #[.bool b5, .slice a5 n5 c5]) rfl rfl (by kernel_rfl) (by kernel_rfl) (by kernel_rfl) (fun _ _ _ h => h) rfl (fun _ _ => by go_simp) (hSV _ hb85) ?_
              simp only [Act.put, tA, tB, tC]
              refine h_take 8 25 (.agg #[.bool b6, .slice a6 n6 c6]) rfl rfl (by kernel_rfl) (by kernel_rfl) (by kernel_rfl) (fun _ _ _ h => h) rfl (fun _ _ => by go_simp) (hSV _ hb85) ?_
              simp only [Act.put, tA, tB, tC]
              have c0 := X88.c0; have c1 := X88.c1; have f0 := X88.f0; have f1 := X88.f1
              have hne : (W0.heap.size : Nat) ≠ V62.heap.size := Nat.ne_of_lt hltA
              have Y8 := X89.other hne (.bool b5) (.slice a5 n5 c5)
              have hI6s := hI87.set2 X88 (.bool b5) (.slice a5 n5 c5)
              have hb18 := below_set2 hb85 (show wr.heap.size ≤ V62.heap.size from gA) (.bool b5) (.slice a5 n5 c5)
              refine h_store 11 (w' := (V84.setCell ⟨V62.heap.size, 0, none⟩ (.bool b5)).setCell ⟨V62.heap.size, 1, none⟩ (.slice a5 n5 c5)) rfl rfl (by kernel_rfl) rfl (by go_simp) (hSV _ hb18) ?_
              clear c0 c1 f0 f1
              generalize (V84.setCell ⟨V62.heap.size, 0, none⟩ (.bool b5)).setCell ⟨V62.heap.size, 1, none⟩ (.slice a5 n5 c5) = V at *
              have c0 := Y8.c0; have c1 := Y8.c1; have f0 := Y8.f0; have f1 := Y8.f1
              have hb19 := below_set2 hb18 (show wr.heap.size ≤ W0.heap.size from gB) (.bool b6) (.slice a6 n6 c6)
              have hK8 := IsB.stored Y8 hI6s
              refine h_store 12 (w' := (V.setCell ⟨W0.heap.size, 0, none⟩ (.bool b6)).setCell ⟨W0.heap.size, 1, none⟩ (.slice a6 n6 c6)) rfl rfl (by kernel_rfl) rfl (by go_simp) (hSV _ hb19) ?_
              refine wpAnyH_done (by kernel_rfl) ?_ _
              go_wp2_with fail
              go_meet
              case rel => exact ⟨W0.heap.size, rfl, hK8, gB, hb19⟩
      case rest =>
        obtain ⟨k6, rfl, hK6, hk6, hb6⟩ := hcut
        obtain ⟨b6, a6, n6, c6, G6, hI6⟩ := hK6.open
        have hown6 := OwnL.below hown hb6
        have hKm6 := hKm.below hb6
        have hbw6 := hbel.trans (hb6.mono hbel.size)
        have hlk6 : ∀ q, (Value.slice oa LL.length oc).ownBlock = some q → q ≠ k6 := fun q hq => by have := hown.lt q hq; omega
        clear HQ hI1 hI2 G0 hI
        generalize z.tmod M = r at *
        have q0 := G6.c0; have q1 := G6.c1
        have hszk := G6.lt
        go_wp2_with fail
        refine (add_any _ _ r r wc hI6 hI6 hfrz hfrz).mono ?_
        rintro en w7 ⟨x7, rfl, hI7, hb7⟩
        obtain ⟨b7, a7, n7, c7, rfl⟩ := hI7.form
        go_wp2_with fail
        refine (abs_any _ (r + r) w7 hI7 hfrz2).mono ?_
        rintro en w8 ⟨x8, rfl, hI8, hb8⟩
        obtain ⟨b8, a8, n8, c8, rfl⟩ := hI8.form
        have hb78 := hb7.trans (hb8.mono hb7.size)
        have hKm8 := hKm6.below hb78
        have hK68 := hK6.below hb78
        have hown8 := OwnL.below hown6 hb78
        have hbw8 := hbw6.trans (hb78.mono hbw6.size)
        obtain ⟨mb, ma, mn, mc, M8, hI9⟩ := hKm8.open
        obtain ⟨sb, sa, sn, sc, S8, hI10⟩ := hK68.open
        have r0 := M8.c0; have r1 := M8.c1; have r2 := S8.c0; have r3 := S8.c1
        have hz1 := M8.lt; have hz2 := S8.lt
        clear q0 q1 hKm6 hK6 hown6 hI6 hI7 G6
        go_wp2_with fail
        generalize hW9 : w8.alloc (Obj.cells #[Value.bool b8, Value.slice a8 n8 c8] 70) = W9
        obtain ⟨hb9, X9⟩ := one_new hW9
        clear hW9
        have hI8' := hI8.below hb9
        have hKm9 := hKm8.below hb9
        have hK69 := hK68.below hb9
        have hown9 := OwnL.below hown8 hb9
        have hbw9 := hbw8.trans (hb9.mono hbw8.size)
        have hfa : Fit (((r + r).natAbs : Nat) : Int) := by
          obtain ⟨n, h1, h2⟩ := hfrz2
          exact ⟨n, h1, by simpa using h2⟩
        have hcmp := fun (W : World) (g1 : IsI W (.agg #[.bool b8, .slice a8 n8 c8]) (((r + r).natAbs : Nat) : Int)) (g2 : IsI W (.agg #[.bool mb, .slice ma mn mc]) M) => compare_any _ _ _ _ W g1 g2 hfa fMi
        have HCM : Hid _ := hcmp
        have hM9 := hI9.below hb9
        have hR9 := hI10.below hb9
        have M9 := M8.below hb9
        have S9 := S8.below hb9
        clear hcmp r0 r1 r2 r3 hz1 hz2 hI9 hI10 M8 S8 hKm8 hK68 hown8 hbw8 hI8
        refine (HCM.out W9 hI8' hM9).mono ?_
        rintro en w10 ⟨rfl, hb10⟩
        have M10 := M9.below hb10; have S10 := S9.below hb10; have T10 := X9.below hb10
        have hM10 := hM9.below hb10; have hR10 := hR9.below hb10; have hT10 := hI8'.below hb10
        have hown10 := OwnL.below hown9 hb10
        have hKm10 := hKm9.below hb10
        have hK610 := hK69.below hb10
        have hbw10 := hbw9.trans (hb10.mono hbw9.size)
        have r0 := M10.c0; have r1 := M10.c1; have r2 := S10.c0; have r3 := S10.c1; have r4 := T10.c0; have r5 := T10.c1
        clear hM9 hR9 M9 S9 X9 hI8' hKm9 hK69 hown9 hbw9
        by_cases hgt : M < (((r + r).natAbs : Nat) : Int)
        · have hc1 : cmp3 (((r + r).natAbs : Nat) : Int) M = 1 := cmp3_gt hgt
          rw [if_pos hgt] at HNR
          have HC2 : Hid (∀ (W : World), IsI W (.agg #[.bool b8, .slice a8 n8 c8]) (((r + r).natAbs : Nat) : Int) → IsI W (.agg #[.bool mb, .slice ma mn mc]) M → Calls Tryz.prog 57 #[.agg #[.bool b8, .slice a8 n8 c8], .agg #[.bool mb, .slice ma mn mc]] W fun e w' => e = .returned (.int .i64 1) ∧ Below W.heap.size W w') := fun W g1 g2 => by
            have := HCM.out W g1 g2
            rwa [hc1] at this
          rw [hc1]
          clear hc1 HCM hgt
          go_wp2_with fail
          refine (sign_any _ r w10 hR10 hfrz).mono ?_
          rintro en w11 ⟨rfl, hb11⟩
          have M11 := M10.below hb11; have S11 := S10.below hb11; have T11 := T10.below hb11
          have hM11 := hM10.below hb11; have hR11 := hR10.below hb11; have hT11 := hT10.below hb11
          have hown11 := OwnL.below hown10 hb11
          have hKm11 := hKm10.below hb11
          have hbw11 := hbw10.trans (hb11.mono hbw10.size)
          clear r0 r1 r2 r3 r4 r5 M10 S10 T10 hM10 hR10 hT10 hown10 hKm10 hK610 hbw10
          have r0 := M11.c0; have r1 := M11.c1; have r2 := S11.c0; have r3 := S11.c1; have r4 := T11.c0; have r5 := T11.c1
          by_cases hpos : 0 < r
          · have hsg : sgn3 r = 1 := by unfold sgn3; rw [if_neg (by omega), if_neg (by omega)]
            rw [if_pos hpos] at HNR
            rw [hsg]
            clear hsg
            go_wp2_with fail
            refine (wsub_any _ _ r M w11 hR11 hM11 hfrz fMi).mono ?_
            rintro en w12 ⟨x12, rfl, hI12, hb12⟩
            obtain ⟨b12, a12, n12, c12, rfl⟩ := hI12.form
            have S12 := S11.below hb12
            have hown12 := OwnL.below hown11 hb12
            have hKm12 := hKm11.below hb12
            have hbw12 := hbw11.trans (hb12.mono hbw11.size)
            clear r0 r1 r2 r3 r4 r5
            have r0 := S12.c0; have r1 := S12.c1; have r2 := S12.f0; have r3 := S12.f1
            have hK15 := IsB.stored S12 hI12
            have hKm15 := hKm12.other S12 (show w.heap.size ≠ k6 by omega) (.bool b12) (.slice a12 n12 c12)
            have hbw15 := below_set2 hbw12 (show w.heap.size ≤ k6 by omega) (.bool b12) (.slice a12 n12 c12)
            have hown15 : OwnL (w.heap.size + 1) ((w12.setCell ⟨k6, 0, none⟩ (.bool b12)).setCell ⟨k6, 1, none⟩ (.slice a12 n12 c12)) (.slice oa LL.length oc) LL := hown12.boxed S12 hlk6 _ _
            have HALL : Hid _ := (⟨hK15, hKm15, hbw15, hown15⟩ : _ ∧ _ ∧ _ ∧ _)
            have hI15 := hI12.set2 S12 (.bool b12) (.slice a12 n12 c12)
            have hs15 : ((w12.setCell ⟨k6, 0, none⟩ (.bool b12)).setCell ⟨k6, 1, none⟩ (.slice a12 n12 c12)).heap.size = w12.heap.size := by simp [World.setCell]
            have hsw : w.heap.size + 1 ≤ w12.heap.size := by have := hKm12.lt; omega
            have HI15 : Hid _ := (⟨hI15, hs15⟩ : _ ∧ _)
            clear hK15 hKm15 hbw15 hown15 hI15 hs15
            go_wp2_with (at_builtin; refine wpList_pushI rfl (.tmp 49) (.tmp 51) rfl (w.heap.size + 1) _ LL _ _ _ rfl HALL.out.2.2.2 HI15.out.1 (by rw [HI15.out.2]; rfl) (by omega) (by rw [HI15.out.2]; exact hsw) ?_)
            intro v20 w20 hown20 hb20 hgr20
            rw [← HNR.out, ← HPK.out] at hown20
            have hKm20 := HALL.out.2.1.keptO hgr20 (fun e => by have := HALL.out.2.2.2.block _ e.symm; omega) HALL.out.2.2.2.typ
            have hbw20 := HALL.out.2.2.1.trans (hb20.mono (by omega))
            clear HALL HI15 r0 r1 r2 r3
            go_wp2
            go_roundw
            case rel => exact ⟨k + 1, by omega, by go_num, hown20, hKm20, hbw20⟩
            case measure => simp [intOf]; omega
          · have hsg : ¬ 0 < sgn3 r := by
              unfold sgn3
              split
              · omega
              · split <;> omega
            rw [if_neg hpos] at HNR
            generalize sgn3 r = sg at *
            go_wp2_with fail
            refine (HC2.out w11 hT11 hM11).mono ?_
            rintro en w13 ⟨rfl, hb13⟩
            have M13 := M11.below hb13; have S13 := S11.below hb13
            have hM13 := hM11.below hb13; have hR13 := hR11.below hb13
            have hown13 := OwnL.below hown11 hb13
            have hKm13 := hKm11.below hb13
            have hbw13 := hbw11.trans (hb13.mono hbw11.size)
            clear r0 r1 r2 r3 r4 r5
            have r0 := M13.c0; have r1 := M13.c1; have r2 := S13.c0; have r3 := S13.c1
            go_wp2_with fail
            refine (add_any _ _ r M w13 hR13 hM13 hfrz fMi).mono ?_
            rintro en w12 ⟨x12, rfl, hI12, hb12⟩
            obtain ⟨b12, a12, n12, c12, rfl⟩ := hI12.form
            have S12 := S13.below hb12
            have hown12 := OwnL.below hown13 hb12
            have hKm12 := hKm13.below hb12
            have hbw12 := hbw13.trans (hb12.mono hbw13.size)
            clear r0 r1 r2 r3
            have r0 := S12.c0; have r1 := S12.c1; have r2 := S12.f0; have r3 := S12.f1
            have hK15 := IsB.stored S12 hI12
            have hKm15 := hKm12.other S12 (show w.heap.size ≠ k6 by omega) (.bool b12) (.slice a12 n12 c12)
            have hbw15 := below_set2 hbw12 (show w.heap.size ≤ k6 by omega) (.bool b12) (.slice a12 n12 c12)
            have hown15 : OwnL (w.heap.size + 1) ((w12.setCell ⟨k6, 0, none⟩ (.bool b12)).setCell ⟨k6, 1, none⟩ (.slice a12 n12 c12)) (.slice oa LL.length oc) LL := hown12.boxed S12 hlk6 _ _
            have HALL : Hid _ := (⟨hK15, hKm15, hbw15, hown15⟩ : _ ∧ _ ∧ _ ∧ _)
            have hI15 := hI12.set2 S12 (.bool b12) (.slice a12 n12 c12)
            have hs15 : ((w12.setCell ⟨k6, 0, none⟩ (.bool b12)).setCell ⟨k6, 1, none⟩ (.slice a12 n12 c12)).heap.size = w12.heap.size := by simp [World.setCell]
            have hsw : w.heap.size + 1 ≤ w12.heap.size := by have := hKm12.lt; omega
            have HI15 : Hid _ := (⟨hI15, hs15⟩ : _ ∧ _)
            clear hK15 hKm15 hbw15 hown15 hI15 hs15
            go_wp2_with (at_builtin; refine wpList_pushI rfl (.tmp 49) (.tmp 51) rfl (w.heap.size + 1) _ LL _ _ _ rfl HALL.out.2.2.2 HI15.out.1 (by rw [HI15.out.2]; rfl) (by omega) (by rw [HI15.out.2]; exact hsw) ?_)
            intro v20 w20 hown20 hb20 hgr20
            rw [← HNR.out, ← HPK.out] at hown20
            have hKm20 := HALL.out.2.1.keptO hgr20 (fun e => by have := HALL.out.2.2.2.block _ e.symm; omega) HALL.out.2.2.2.typ
            have hbw20 := HALL.out.2.2.1.trans (hb20.mono (by omega))
            clear HALL HI15 r0 r1 r2 r3
            go_wp2
            go_roundw
            case rel => exact ⟨k + 1, by omega, by go_num, hown20, hKm20, hbw20⟩
            case measure => simp [intOf]; omega
        · have hc1 : ¬ 0 < cmp3 (((r + r).natAbs : Nat) : Int) M := by
            unfold cmp3
            by_cases h : (((r + r).natAbs : Nat) : Int) < M
            · rw [if_pos h]; omega
            · rw [if_neg h, if_neg hgt]; omega
          rw [if_neg hgt] at HNR
          generalize cmp3 (((r + r).natAbs : Nat) : Int) M = cc at *
          go_wp2_with fail
          refine (HCM.out w10 hT10 hM10).mono ?_
          rintro en w14 ⟨rfl, hb14⟩
          have S14 := S10.below hb14
          have hR14 := hR10.below hb14
          have hown14 := OwnL.below hown10 hb14
          have hKm14 := hKm10.below hb14
          have hbw14 := hbw10.trans (hb14.mono hbw10.size)
          clear r0 r1 r2 r3 r4 r5
          have r2 := S14.c0; have r3 := S14.c1
          go_wp2_with (at_builtin; refine wpList_pushI rfl (.tmp 49) (.tmp 51) rfl (w.heap.size + 1) _ LL _ _ r rfl hown14 hR14 rfl (by omega) (by have := hKm14.lt; omega) ?_)
          intro v20 w20 hown20 hb20 hgr20
          rw [← HNR.out, ← HPK.out] at hown20
          have hKm20 := hKm14.keptO hgr20 (fun e => by have := hown14.block _ e.symm; omega) hown14.typ
          go_wp2
          go_roundw
          case rel => exact ⟨k + 1, by omega, by go_num, hown20, hKm20, hbw14.trans (hb20.mono (by omega))⟩
          case measure => simp [intOf]; omega
    · obtain rfl : k = zs.length := by omega
      rw [List.take_length] at hown
      obtain ⟨oa, oc, hoe⟩ := OwnL.val hown
      subst hoe
      go_wp2
      go_ret
      exact ⟨_, rfl, hown.isL, hbel⟩

end Go.Proofs.YtldcjkhbiffdoabGreatDoor
