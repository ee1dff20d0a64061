import Derived.Test.YtldcjkhbiffdoabGreatDoorCFMis
import Derived.Test.YtldcjkhbiffdoabGreatDoorM26
import Derived.Test.YtldcjkhbiffdoabGreatDoorM07

set_option linter.unusedSimpArgs false
namespace Go.Proofs.YtldcjkhbiffdoabGreatDoor
open Go.RowKit

theorem bd_of_half {M : Int} {W : List Int} {f : Nat} (hM : M.natAbs < 10 ^ f) (h : ∀ k, 2 * ((W.getD k 0).natAbs : Int) ≤ M) : Bd W f := fun k => by
  have := h k
  omega

set_option maxRecDepth 100000 in
set_option maxHeartbeats 4000000 in
theorem chosen_any (F : List Int) (L : List (List Int)) (s : Nat) (M : Int) (f : Nat) (u v y : Value) (w : World) (hu : IsL w u F) (hv : OwnVL 0 w v L) (hy : IsI w y M) (hFl : F.length ≤ 11) (hLl : L.length ≤ 12) (hD : dsum L ≤ 100) (hLe : ∀ l, l ∈ L → l.length ≤ 11 ∧ Bd l f) (fM : M.natAbs < 10 ^ f) (hM0 : 0 < M) (hc : 2 * ((lead F).natAbs : Int) ≤ M) (hf : f ≤ 1000) (hs : s ≤ 1000000) :
    Calls Tryz.prog 100 #[u, v, .int .i64 s, y] w fun en w' => ∃ x W bits, en = .returned x ∧ IsL w' x (prim (tz W)) ∧ ChO M (lead F) L s L.length bits W ∧ Below w.heap.size w w' := by
  obtain ⟨ua, uc, rfl⟩ := OwnL.val hu
  obtain ⟨va, vc, rfl⟩ := hv.val
  obtain ⟨yb, ya, yn, yc, rfl⟩ := hy.form
  have HLA : Hid _ := fun (W : World) (h : IsL W (.slice ua F.length uc) F) => numberAt_last F _ W h
  have HC0 : Hid _ := ChO.start L s hc
  have HZ : Hid _ := fun (i bits : Nat) (W l : List Int) (h : ChO M (lead F) L s i bits W) (hl : L[i]? = some l) (hb : bits % 2 = 0) => ChO.zero h hl hb
  have HO : Hid _ := fun (i bits : Nat) (W l : List Int) (h : ChO M (lead F) L s i bits W) (hl : L[i]? = some l) (hb : bits % 2 = 1) => ChO.one hM0 (P := prodTo W l (W.length + l.length - 1)) h hl hb (fun t => ev_prodTo W l t) (by unfold prodTo; rw [tab_len]; omega)
  obtain ⟨CH, HCH⟩ : ∃ CH : Nat → Nat → List Int → Prop, Hid (CH = ChO M (lead F) L s) := ⟨_, rfl⟩
  rw [← HCH.out] at HC0 HZ HO ⊢
  have HBD : Hid (∀ i bits W, CH i bits W → Bd W f ∧ W.length ≤ 101 ∧ bits ≤ s) := fun i bits W h => by
    rw [HCH.out] at h
    have h1 := dsum_app (L.take i) (L.drop i)
    rw [List.take_append_drop] at h1
    have h2 := h.len
    exact ⟨bd_of_half fM h.bd, by omega, h.bl⟩
  generalize lead F = c at *
  have HLE : Hid _ := hLe
  have fM2 : M.natAbs < 10 ^ (f + f + 4) := Nat.lt_of_lt_of_le fM (Nat.pow_le_pow_right (by omega) (by omega))
  clear hLe HCH
  go_enter Tryz.func100, Tryz.ntmps100
  go_wp2_with fail
  generalize hW : w.alloc (Obj.cells #[Value.bool yb, Value.slice ya yn yc] 70) = W0
  obtain ⟨hb0, X0⟩ := one_new hW
  have hs0 : W0.heap.size = w.heap.size + 1 := by rw [← hW]; simp
  clear hW
  refine (HLA.out W0 (OwnL.below hu hb0)).mono ?_
  rintro en w1 ⟨x1, rfl, hI1, hb1⟩
  obtain ⟨b1, a1, n1, c1, rfl⟩ := hI1.form
  go_wp2_with fail
  have hone := litI (w := w1) hI1
  have hbA := below_one w1 (Obj.cells #[Value.bool b1, Value.slice a1 n1 c1] 70)
  generalize w1.alloc (Obj.cells #[Value.bool b1, Value.slice a1 n1 c1] 70) = W1 at *
  have hbA1 := hb1.trans (hbA.mono hb1.size)
  go_loopw [9, 10, 11] (fun o b i wr => ∃ (j bits : Nat) (W : List Int), j ≤ L.length ∧ i = .int .i64 j ∧ b = .int .i64 bits ∧ IsL wr o W ∧ Hid (CH j bits W) ∧ Below W0.heap.size W0 wr) (fun _ _ i _ => L.length - (intOf i).toNat)
  case atStart => exact ⟨0, s, [c], Nat.zero_le _, rfl, rfl, hone.isL, HC0, hbA1⟩
  case round =>
    clear hone hbA hbA1 hI1 hb1 HC0
    obtain ⟨j, bits, W, hj, rfl, rfl, hown, HCW, hbel⟩ := hrel
    obtain ⟨oa, oc, rfl⟩ := OwnL.val hown
    obtain ⟨hWb, hWl, hbl⟩ := HBD.out j bits W HCW.out
    have hbw := hb0.trans (hbel.mono hb0.size)
    have X1 : Bx wr w.heap.size (.bool yb) (.slice ya yn yc) := X0.below hbel
    have hy1 := hy.below hbw
    by_cases hlt : j < L.length
    · obtain ⟨g, xa, xn, xc, l, rfl, hc1, hc2, hg1, _, hcell, hl, hrow⟩ := OwnV.at vecL hv j hlt
      obtain ⟨hl11, hlb⟩ := HLE.out l (List.mem_of_getElem? hl)
      by_cases hodd : bits % 2 = 1
      · have HN : Hid _ := HO.out j bits W l HCW.out hl hodd
        have hodd' : (bits : Int) % 2 = 1 := by omega
        have hP := fun (W' : World) (g1 : IsL W' (.slice oa W.length oc) W) (g2 : IsL W' (.slice xa xn xc) l) => product_any W l f f _ _ W' g1 g2 (by omega) (by omega) hWb hlb (by omega)
        have hpb : Bd (prodTo W l (W.length + l.length - 1)) (f + f + 4) := fun k => by
          rw [prodTo_getD]
          rcases Nat.lt_or_ge k (W.length + l.length - 1) with hk | hk
          · exact pAtW_lt hWb hlb k (by omega)
          · rw [pk_out _ _ _ hk]; exact Nat.pow_pos (by omega)
        have hpl : (prodTo W l (W.length + l.length - 1)).length ≤ 1000 := by unfold prodTo; rw [tab_len]; omega
        obtain ⟨P, HPP⟩ : ∃ P, Hid (prodTo W l (W.length + l.length - 1) = P) := ⟨_, rfl⟩
        rw [HPP.out] at HN hP hpb hpl
        have HPR : Hid _ := hP
        have HNE : Hid _ := fun (W' : World) (x : Value) (g1 : IsL W' x P) (g2 : IsI W' (.agg #[.bool yb, .slice ya yn yc]) M) => nearest_any P M (f + f + 4) x _ W' g1 g2 hpl hpb fM2 hM0 (by omega)
        have hbd : Below W0.heap.size W0 wr.drew := ⟨hbel.os, hbel.tape, hbel.output, hbel.size, hbel.block⟩
        have hbdw : Below wr.heap.size wr wr.drew := ⟨rfl, rfl, rfl, Nat.le_refl _, fun _ _ => rfl⟩
        have hSV : ∀ V, Below W0.heap.size W0 V → V.cell? ⟨g, j, none⟩ = some (.slice xa xn xc) ∧ V.cell? ⟨w.heap.size, 0, none⟩ = some (.bool yb) ∧ V.cell? ⟨w.heap.size, 1, none⟩ = some (.slice ya yn yc) := fun V h => ⟨((hb0.trans (h.mono hb0.size)).cell (p := ⟨g, j, none⟩) hg1).trans hcell, (X0.below h).c0, (X0.below h).c1⟩
        have hownd := OwnL.below hown hbdw
        have hrowd := OwnL.below (OwnL.below hrow hbw) hbdw
        have hyd := hy1.below hbdw
        have hji : (j : Int) < (L.length : Int) := by omega
        have hji0 : (0 : Int) ≤ (j : Int) := by omega
        clear hP hl HCW hpb hWb hlb HZ HO
        go_wp2_with fail
        refine wp_region_held_drew (S := fun V => V.cell? ⟨g, j, none⟩ = some (.slice xa xn xc) ∧ V.cell? ⟨w.heap.size, 0, none⟩ = some (.bool yb) ∧ V.cell? ⟨w.heap.size, 1, none⟩ = some (.slice ya yn yc)) (by kernel_rfl) (hSV _ hbd) fun hS => ?_
        generalize wr.drew = V0 at *
        refine h_take 0 28 (.slice oa W.length oc) rfl rfl (by kernel_rfl) (by kernel_rfl) (by kernel_rfl) (fun _ _ _ h => h) rfl (fun _ _ => by first | rfl | go_simp) hS ?_
        simp only [Act.put, tA, tB, tC]
        refine h_take 1 29 (.slice (some ⟨g, 0, none⟩) L.length vc) rfl rfl (by kernel_rfl) (by kernel_rfl) (by kernel_rfl) (fun _ _ _ h => h) rfl (fun _ _ => by first | rfl | go_simp) hS ?_
        simp only [Act.put, tA, tB, tC]
        refine h_take 2 30 (.int .i64 (j : Int)) rfl rfl (by kernel_rfl) (by kernel_rfl) (by kernel_rfl) (fun _ _ _ h => h) rfl (fun _ _ => by first | rfl | go_simp) hS ?_
        simp only [Act.put, tA, tB, tC]
        refine h_take 3 31 (.pointer (some ⟨g, j, none⟩)) rfl rfl (by kernel_rfl) (by kernel_rfl) (by kernel_rfl) (fun _ _ _ h => h) rfl (fun _ _ => by first | rfl | go_simp) hS ?_
        simp only [Act.put, tA, tB, tC]
        refine h_take 4 32 (.slice xa xn xc) rfl rfl (by kernel_rfl) (by kernel_rfl) (by kernel_rfl) (fun _ _ _ h => h) rfl (fun w' hw' => by obtain ⟨y0, y1, y2⟩ := hw'; go_simp) hS ?_
        simp only [Act.put, tA, tB, tC]
        refine h_take 6 34 (.agg #[.bool yb, .slice ya yn yc]) rfl rfl (by kernel_rfl) (by kernel_rfl) (by kernel_rfl) (fun _ _ _ h => h) rfl (fun w' hw' => by obtain ⟨y0, y1, y2⟩ := hw'; go_simp) hS ?_
        simp only [Act.put, tA, tB, tC]
        refine h_call 5 33 45 #[.slice oa W.length oc, .slice xa xn xc] rfl rfl (by kernel_rfl) rfl (by go_simp) ?_
        refine (HPR.out V0 hownd hrowd).mono ?_
        rintro en w2 ⟨x2, rfl, hI2, hb2⟩
        have hb2W := hbd.trans (hb2.mono hbd.size)
        obtain ⟨pa, pc, rfl⟩ := OwnL.val hI2
        refine ⟨_, rfl, hSV _ hb2W, ?_⟩
        simp only [Act.put, tA, tB, tC]
        refine h_call 7 35 122 #[.slice pa P.length pc, .agg #[.bool yb, .slice ya yn yc]] rfl rfl (by kernel_rfl) rfl (by go_simp) ?_
        refine (HNE.out w2 _ hI2.isL (hyd.below hb2)).mono ?_
        rintro en w3 ⟨x3, rfl, hI3, hb3⟩
        have hb3W := hb2W.trans (hb3.mono hb2W.size)
        refine ⟨_, rfl, hSV _ hb3W, ?_⟩
        simp only [Act.put, tA, tB, tC]
        refine h_val 8 9 x3 (w' := w3) rfl rfl (by kernel_rfl) rfl rfl (hSV _ hb3W) ?_
        simp only [Act.put, tA, tB, tC]
        refine wpAnyH_done (by kernel_rfl) ?_ _
        go_wp2
        go_roundw
        case rel => exact ⟨j + 1, bits / 2, _, by omega, by go_num, by go_num, hI3, HN, hb3W⟩
        case measure => simp [intOf]; omega
      · have HN : Hid _ := HZ.out j bits W l HCW.out hl (by omega)
        have hodd' : (bits : Int) % 2 = 0 := by omega
        clear hl HCW HZ HO
        go_wp2
        go_roundw
        case rel => exact ⟨j + 1, bits / 2, W, by omega, by go_num, by go_num, hown, HN, hbel⟩
        case measure => simp [intOf]; omega
    · obtain rfl : j = L.length := by omega
      have hT := ptrimmed_any W _ wr hown (by omega) (fun i _ => fitW_of (hWb i) (by omega))
      have htl : (tz W).length ≤ 1000 := by have := tz_le0 W; omega
      have htb : Bd (tz W) f := fun k => by rw [tz_getD]; exact hWb k
      have HPR : Hid _ := fun (V : World) (x : Value) (h : IsL V x (tz W)) => primP_any (tz W) f x V h htl htb (by omega)
      obtain ⟨T, HT⟩ : ∃ T, Hid (tz W = T) := ⟨_, rfl⟩
      rw [HT.out] at hT HPR
      clear htb htl
      go_wp2_with fail
      refine hT.mono ?_
      rintro en w2 ⟨x2, rfl, hI2, hb2⟩
      obtain ⟨ta, tc, rfl⟩ := OwnL.val hI2
      go_wp2_with fail
      refine (HPR.out w2 _ hI2.isL).mono ?_
      rintro en w3 ⟨x3, rfl, hI3, hb3⟩
      rw [← HT.out] at hI3
      obtain ⟨za, zc, hze⟩ := OwnL.val hI3
      subst hze
      have hb23 := hb2.trans (hb3.mono hb2.size)
      go_wp2
      go_ret
      first | exact ⟨_, W, bits, rfl, hI3, HCW.out, hbw.trans (hb23.mono hbw.size)⟩ | exact ⟨_, rfl, W, bits, hI3, HCW.out, hbw.trans (hb23.mono hbw.size)⟩ | exact ⟨_, rfl, W, hI3, bits, HCW.out, hbw.trans (hb23.mono hbw.size)⟩

end Go.Proofs.YtldcjkhbiffdoabGreatDoor

set_option linter.unusedSimpArgs false
namespace Go.Proofs.YtldcjkhbiffdoabGreatDoor
open Go.RowKit

theorem and_i64 (a b : Nat) (ha : a < 4294967296) (hb : b < 4294967296) : bits .and .i64 (a : Int) (b : Int) = ((a &&& b : Nat) : Int) := by
  have hx : a &&& b < 2 ^ 32 := Nat.and_lt_two_pow _ (by omega)
  have h1 : (BitVec.ofInt 64 (a : Int)).toNat = a := by
    rw [BitVec.ofInt_natCast, BitVec.toNat_ofNat]; exact Nat.mod_eq_of_lt (by omega)
  have h2 : (BitVec.ofInt 64 (b : Int)).toNat = b := by
    rw [BitVec.ofInt_natCast, BitVec.toNat_ofNat]; exact Nat.mod_eq_of_lt (by omega)
  show IntKind.i64.wrap ((BitVec.ofInt 64 (a : Int) &&& BitVec.ofInt 64 (b : Int)).toNat : Int) = _
  rw [BitVec.toNat_and, h1, h2, IntKind.wrap_i64]
  omega

theorem or_i64 (a b : Nat) (ha : a < 4294967296) (hb : b < 4294967296) : bits .or .i64 (a : Int) (b : Int) = ((a ||| b : Nat) : Int) := by
  have hx : a ||| b < 2 ^ 32 := Nat.or_lt_two_pow (by omega) (by omega)
  have h1 : (BitVec.ofInt 64 (a : Int)).toNat = a := by
    rw [BitVec.ofInt_natCast, BitVec.toNat_ofNat]; exact Nat.mod_eq_of_lt (by omega)
  have h2 : (BitVec.ofInt 64 (b : Int)).toNat = b := by
    rw [BitVec.ofInt_natCast, BitVec.toNat_ofNat]; exact Nat.mod_eq_of_lt (by omega)
  show IntKind.i64.wrap ((BitVec.ofInt 64 (a : Int) ||| BitVec.ofInt 64 (b : Int)).toNat : Int) = _
  rw [BitVec.toNat_or, h1, h2, IntKind.wrap_i64]
  omega

theorem nrm_ge (l : List Int) (k : Nat) : (l.getD k 0).natAbs ≤ nrm l := by
  induction l generalizing k with
  | nil => simp [nrm]
  | cons a l ih =>
    cases k with
    | zero => simp [nrm]
    | succ k => have := ih k; simp only [List.getD_cons_succ, nrm]; omega

theorem CO.bd {p : Nat} {F : List Int} {Λ found : List (List Int)} {left : List Int} {taken choice : Nat} (h : CO p F Λ found left taken choice) (hF : Pp F) (hl : F.length ≤ 11) {f : Nat} (hN : 1024 * nrm F < 10 ^ f) : Bd left f ∧ left.length ≤ 11 := by
  obtain ⟨S, hS, e⟩ := (pA_po _ (fs_po found)).list
  have he : ∀ t, ev t F = ev t left * ev t S := fun t => by rw [h.eq t, e]
  have hb := fun j => (div_bd hl hF.tr h.lp.tr hS hF.ne he j).1
  refine ⟨fun k => ?_, Nat.le_trans (div_bd hl hF.tr h.lp.tr hS hF.ne he 0).2 hl⟩
  have := hb k
  omega

set_option maxRecDepth 100000 in
set_option maxHeartbeats 8000000 in
theorem combine_any (p kk n : Nat) (F : List Int) (L : List (List Int)) (f : Nat) (u v y : Value) (w : World) (hu : IsL w u F) (hv : OwnVL 0 w v L) (hy : IsI w y ((p : Int) ^ kk)) (Z : Zas p kk (fs L) (fun t => ev t F) (lead F) n) (hn : n ≤ 10) (hF : Pp F) (hFl : F.length ≤ 11) (hLl : L.length ≤ 12) (hL0 : 0 < L.length) (hD : dsum L ≤ 10) (hLe : ∀ l, l ∈ L → l.length ≤ 11 ∧ Bd l f) (hM : 2 * (2 ^ n * (nrm F : Int)) < (p : Int) ^ kk) (fM : ((p : Int) ^ kk).natAbs < 10 ^ f) (hN : 1024 * nrm F < 10 ^ f) (hf : f ≤ 1000) :
    Calls Tryz.prog 72 #[u, v, y] w fun en w' => ∃ x P, en = .returned x ∧ OwnVL w.heap.size w' x P ∧ PfR F P ∧ P.length ≤ 5000 ∧ Below w.heap.size w w' := by
  obtain ⟨ua, uc, rfl⟩ := OwnL.val hu
  obtain ⟨va, vc, rfl⟩ := hv.val
  obtain ⟨yb, ya, yn, yc, rfl⟩ := hy.form
  have hFb : Bd F f := fun k => by have := nrm_ge F k; omega
  obtain ⟨M, HMM⟩ : ∃ M, Hid ((p : Int) ^ kk = M) := ⟨_, rfl⟩
  have hM0 : 0 < (p : Int) ^ kk := Int.pow_pos (by have := Z.two; omega)
  have h2n : (1 : Int) ≤ 2 ^ n := by
    have : (0 : Int) < 2 ^ n := Int.pow_pos (by omega)
    omega
  have hlead : ∀ (found : List (List Int)) (left : List Int) (t c : Nat), CO p F L found left t c → 2 * ((lead left).natAbs : Int) ≤ (p : Int) ^ kk := fun found left t c h => by
    have h1 := (h.nd Z).2
    have h2 := nrm_ge F (F.length - 1)
    have h3 : lead F = F.getD (F.length - 1) 0 := rfl
    rw [← h3] at h2
    have h4 := Int.mul_le_mul_of_nonneg_right h2n (show 0 ≤ (nrm F : Int) by omega)
    omega
  obtain ⟨CC, HCC⟩ : ∃ CC : List (List Int) → List Int → Nat → Nat → Prop, Hid (CC = fun found left t c => CO p F L found left t c) := ⟨_, rfl⟩
  have HC0 : Hid (CC [] F 0 1) := by show CC [] F 0 1; rw [HCC.out]; exact CO.start Z hF
  have HBD : Hid (∀ found left t c, CC found left t c → Bd left f ∧ left.length ≤ 11 ∧ Tr left ∧ left ≠ [] ∧ t < 2 ^ (L.length - 1)) := fun found left t c h => by
    rw [HCC.out] at h
    have := h.bd hF hFl hN
    exact ⟨this.1, this.2, h.lp.tr, h.lp.ne, by have := h.cb.top; rwa [fs_len] at this⟩
  have HSK : Hid (∀ found left t c, CC found left t c → c &&& t ≠ 0 → CC found left t (c + 1)) := fun found left t c h hs => by
    rw [HCC.out] at h ⊢
    exact CO.skip h hs
  have HCH : Hid (∀ (W : World) (found : List (List Int)) (left : List Int) (t c : Nat) (x x' : Value), CC found left t c → c < 4096 → IsL W x left → Below w.heap.size w W → IsI W x' M → Calls Tryz.prog 100 #[x, .slice va L.length vc, .int .i64 c, x'] W fun en w' => ∃ x W' bits, en = .returned x ∧ IsL w' x (prim (tz W')) ∧ ChO M (lead left) L c L.length bits W' ∧ Below W.heap.size W w') := fun W found left t c x x' h hc hx hW hx' => by
    rw [HCC.out] at h
    have hl := hlead found left t c h
    rw [HMM.out] at hl fM hM0
    exact chosen_any left L c M f x _ x' W hx (OwnV.below vecL hv hW) hx' (h.bd hF hFl hN).2 hLl (by omega) hLe fM hM0 hl hf (by omega)
  have HCA : Hid (∀ found left t c bits W', CC found left t c → ChO M (lead left) L c L.length bits W' → prim (tz W') ≠ [] ∧ Bd (prim (tz W')) f ∧ (prim (tz W')).length ≤ 11) := fun found left t c bits W' h hc => by
    rw [HCC.out] at h
    have h1 := hc.ends
    rw [← HMM.out] at h1
    have h2 := cand_ne Z (h.nd Z).1 h1
    have h3 := hc.bd
    rw [← HMM.out] at h3
    refine ⟨(Pp.prim (tr_tz W') h2).ne, Bd.prim (fun k => by rw [tz_getD]; exact bd_of_half fM h3 k), ?_⟩
    rw [prim_len]
    have h5 := tz_le0 W'
    have h6 := hc.len
    rw [List.take_length] at h6
    omega
  have HHI : Hid (∀ found left t c bits W' m Q, CC found left t c → 0 < c → c < 2 ^ (L.length - 1) → ChO M (lead left) L c L.length bits W' → dvs (prim (tz W')) m left = some Q → CC (found ++ [prim (tz W')]) (tz Q) (t ||| c) (c + 1)) := fun found left t c bits W' m Q h h0 hl hc hQ => by
    rw [HCC.out] at h ⊢
    have h1 := hc.ends
    rw [← HMM.out] at h1
    exact CO.hit Z h h0 hl h1 hQ
  have HMI : Hid (∀ found left t c bits W', CC found left t c → ChO M (lead left) L c L.length bits W' → dvs (prim (tz W')) (left.length + 1 - (prim (tz W')).length) left = none → CC found left t (c + 1)) := fun found left t c bits W' h hc hQ => by
    rw [HCC.out] at h ⊢
    have h1 := hc.ends
    have h2 := hc.bd
    rw [← HMM.out] at h1 h2
    exact CO.miss Z hn h hM h2 h1 hQ
  have HEN : Hid (∀ found left t c, CC found left t c → 2 ^ (L.length - 1) ≤ c → PfR F (found ++ [left])) := fun found left t c h hc => by
    rw [HCC.out] at h
    exact CO.ends Z h hc hL0
  have hFt := hF.tr
  rw [HMM.out] at hy
  have hT2 : 2 ^ (L.length - 1) ≤ 2048 := by
    have : 2 ^ (L.length - 1) ≤ 2 ^ 11 := Nat.pow_le_pow_right (by omega) (by omega)
    omega
  obtain ⟨T, HT⟩ : ∃ T : Nat, Hid (2 ^ (L.length - 1) = T) := ⟨2 ^ (L.length - 1), by show _ = _; rfl⟩
  rw [HT.out] at hT2 HBD HHI HEN
  clear hlead Z hM hM0 fM h2n HCC HMM hLe hN hF
  go_enter Tryz.func72, Tryz.ntmps72
  go_wp2_with fail
  generalize hW : w.alloc (Obj.cells #[Value.bool yb, Value.slice ya yn yc] 70) = W0
  obtain ⟨hb0, X0⟩ := one_new hW
  have hs0 : W0.heap.size = w.heap.size + 1 := by rw [← hW]; simp
  clear hW
  have hbA := below_one W0 (Obj.cells #[] 65)
  have hlitA : OwnVL W0.heap.size (W0.alloc (Obj.cells #[] 65)) (.slice (some ⟨W0.heap.size, 0, none⟩) 0 0) [] := OwnV.lit rfl
  rw [hs0] at hlitA
  generalize W0.alloc (Obj.cells #[] 65) = W1 at *
  have hbAw := hb0.trans (hbA.mono hb0.size)
  refine (ptrimmed_any F _ W1 (OwnL.below hu hbAw) (by omega) (fun i _ => fitW_of (hFb i) (by omega))).mono ?_
  rintro en w2 ⟨x2, rfl, hI2, hb2⟩
  rw [tz_of_tr hFt] at hI2
  obtain ⟨fa, fc, rfl⟩ := OwnL.val hI2
  have hbA2 := hbA.trans (hb2.mono hbA.size)
  have hlit2 := OwnV.below vecL hlitA hb2
  go_wp2_with fail
  go_loopw [10, 11] (fun l i wr => ∃ (j t : Nat), j ≤ L.length - 1 ∧ i = .int .i64 ((j : Int) + 1) ∧ l = .int .i64 t ∧ t ≤ 2048 ∧ Hid (t = 2 ^ j) ∧ wr = w2) (fun _ i _ => L.length - (intOf i).toNat)
  case atStart => exact ⟨0, 1, Nat.zero_le _, rfl, rfl, by omega, by show 1 = _; rfl, rfl⟩
  case round =>
    obtain ⟨j, t, hj, rfl, rfl, ht, HTJ, rfl⟩ := hrel
    by_cases hlt : j + 1 < L.length
    · have hji : (j : Int) + 1 < (L.length : Int) := by omega
      have HTN : Hid (t * 2 = 2 ^ (j + 1)) := by show _ = _; rw [HTJ.out, Nat.pow_succ]
      have ht2 : t * 2 ≤ 2048 := by
        rw [HTN.out]
        have : 2 ^ (j + 1) ≤ 2 ^ 11 := Nat.pow_le_pow_right (by omega) (by omega)
        omega
      clear HTJ
      go_wp2
      go_roundw
      case rel => exact ⟨j + 1, t * 2, by omega, by go_num, by go_num, ht2, HTN, trivial⟩
      case measure => simp [intOf]; omega
    · have hge : ¬ (j : Int) + 1 < (L.length : Int) := by omega
      obtain rfl : T = t := by rw [← HT.out, HTJ.out]; congr 1; omega
      clear HTJ HT
      generalize (j : Int) + 1 = jj at *
      go_wp2_with fail
      have hwo : ∃ wo : World, wo = wr := ⟨_, rfl⟩
      obtain ⟨wo, rfl⟩ := hwo
      go_loopw [7, 8, 9, 12] (fun o l tk i wq => ∃ (c t : Nat) (found : List (List Int)) (left : List Int), i = .int .i64 c ∧ tk = .int .i64 t ∧ 1 ≤ c ∧ (c ≤ T ∨ c = 1) ∧ found.length ≤ c ∧ OwnVL (w.heap.size + 1) wq o found ∧ IsL wq l left ∧ Hid (CC found left t c) ∧ Below (w.heap.size + 1) W0 wq) (fun _ _ _ i _ => T - (intOf i).toNat)
      case atStart => exact ⟨1, 0, [], F, rfl, rfl, Nat.le_refl _, .inr rfl, by simp, hlit2, hI2.isL, HC0, by rw [← hs0]; exact hbA2⟩
      case round =>
        clear hlit2 hI2 HC0 hbA2 hlitA hbA hbAw hb2
        obtain ⟨c, t, found, left, rfl, rfl, hc1, hcT, hfl, hown, hlf, HC, hbel⟩ := hrel
        obtain ⟨oa, oc, rfl⟩ := hown.val
        obtain ⟨la, lc, rfl⟩ := OwnL.val hlf
        obtain ⟨hlb, hll, hlt2, hlne, htT⟩ := HBD.out found left t c HC.out
        have hbw : Below w.heap.size w wr := hb0.trans (hbel.mono (by omega))
        have X1 : Bx wr w.heap.size (.bool yb) (.slice ya yn yc) := by unfold Bx; rw [hbel.block _ (by omega)]; exact X0
        have q0 := X1.c0; have q1 := X1.c1
        have hy1 := hy.below hbw
        have hswr : w.heap.size + 1 ≤ wr.heap.size := by have := hbel.size; omega
        by_cases hlt3 : c < T
        · have hand := and_i64 c t (by omega) (by omega)
          by_cases hov : c &&& t = 0
          · have hCH := HCH.out wr found left t c _ _ HC.out (by omega) hlf hbw hy1
            have HCA2 : Hid _ := fun (bits : Nat) (W' : List Int) (h : ChO M (lead left) L c L.length bits W') => HCA.out found left t c bits W' HC.out h
            have HHI2 : Hid _ := fun (bits : Nat) (W' : List Int) (m : Nat) (Q : List Int) (h : ChO M (lead left) L c L.length bits W') (hQ : dvs (prim (tz W')) m left = some Q) => HHI.out found left t c bits W' m Q HC.out (by omega) hlt3 h hQ
            have HMI2 : Hid _ := fun (bits : Nat) (W' : List Int) (h : ChO M (lead left) L c L.length bits W') (hQ : dvs (prim (tz W')) (left.length + 1 - (prim (tz W')).length) left = none) => HMI.out found left t c bits W' HC.out h hQ
            rw [hov] at hand
            simp only [Int.natCast_zero] at hand
            have HLT : Hid _ := hlt2
            have HLB : Hid _ := hlb
            clear hov HC hlt2 hlb
            go_wp2_with fail
            refine hCH.mono ?_
            rintro en w3 ⟨x3, W', bits, rfl, hI3, hch, hb3⟩
            obtain ⟨hcn, hcb, hcl⟩ := HCA2.out bits W' hch
            have HHI3 : Hid _ := fun (m : Nat) (Q : List Int) => HHI2.out bits W' m Q hch
            have HMI3 : Hid _ := HMI2.out bits W' hch
            obtain ⟨cd, HCD⟩ : ∃ cd, Hid (prim (tz W') = cd) := ⟨_, rfl⟩
            rw [HCD.out] at hI3 hcn hcb hcl HHI3 HMI3
            clear hch HCA2 HHI2 HMI2 HCD
            obtain ⟨ca, cc, rfl⟩ := OwnL.val hI3
            have hlf3 := OwnL.below hlf hb3
            have hQ := quotientOf_any left cd f f _ _ w3 hlf3 hI3 (by omega) (by omega) HLB.out hcb (by
              have h1 : (left.length + 1 - cd.length) * (f + 1) ≤ 12 * 1001 := Nat.mul_le_mul (by omega) (by omega)
              omega) HLT.out hcn
            clear hcb
            go_wp2_with fail
            refine hQ.mono ?_
            rintro en w4 ⟨x4, fl, rfl, hQV, hb4⟩
            have hb34 := hb3.trans (hb4.mono hb3.size)
            have hown4 := OwnV.below vecL hown hb34
            have hlf4 := OwnL.below hlf hb34
            have hbel4 := hbel.trans (hb34.mono hswr)
            have hI34 := OwnL.below hI3 hb4
            have hswr4 : w.heap.size + 1 ≤ w4.heap.size := Nat.le_trans hswr hb34.size
            rcases hQV with ⟨rfl, Q, hdv, hIQ, hQb⟩ | ⟨rfl, hdv⟩
            · have HN : Hid _ := HHI3.out _ Q hdv
              have hQl := dvs_len hdv
              have hQl1 : Q.length ≤ 12 := by omega
              have hE : f + (left.length + 1 - cd.length) * (f + 1) ≤ 13100 := by
                have h1 : (left.length + 1 - cd.length) * (f + 1) ≤ 12 * 1001 := Nat.mul_le_mul (by omega) (by omega)
                omega
              have hTr := fun (V : World) (h : IsL V x4 Q) => ptrimmed_any Q x4 V h (by omega) (fun i _ => fitW_of (hQb i) (by omega))
              have HTR : Hid _ := hTr
              clear hdv hQl HHI3 HMI3 hTr hQb
              obtain ⟨qa, qc, rfl⟩ := OwnL.val hIQ
              have hor := or_i64 t c (by omega) (by omega)
              go_wp2_with (at_builtin; refine wpList_pushV vecL Tryz.infoVL Tryz.sliceVL rfl (.tmp 48) (.tmp 50) rfl (w.heap.size + 1) _ found _ cd rfl hown4 hI34 rfl (by omega) hswr4 ?_)
              intro v5 w5 hown5 hb5 hg5
              have hIQ5 : IsL w5 _ Q := vecL.kept hIQ hg5 hown4.typ
              have hbel5 := hbel4.trans hb5
              have hfl5 : (found ++ [cd]).length ≤ c + 1 := by simp; omega
              obtain ⟨fd, HFD⟩ : ∃ fd, Hid (found ++ [cd] = fd) := ⟨_, rfl⟩
              rw [HFD.out] at hown5 hfl5 HN
              obtain ⟨o5, c5, rfl⟩ := hown5.val
              go_wp2_with fail
              refine (HTR.out w5 hIQ5).mono ?_
              rintro en w6 ⟨x6, rfl, hI6, hb6⟩
              obtain ⟨ta, tc, hte⟩ := OwnL.val hI6
              subst hte
              have hown6 := OwnV.below vecL hown5 hb6
              have hbel6 := hbel5.trans (hb6.mono (Nat.le_trans hswr4 hb5.size))
              have hIL6 := hI6.isL
              generalize tz Q = Q6 at *
              generalize (t ||| c) = tc6 at *
              go_wp2
              go_roundw
              case rel => exact ⟨c + 1, tc6, fd, Q6, by go_num, rfl, by omega, .inl (by omega), hfl5, hown6, hIL6, HN, hbel6⟩
              case measure => simp [intOf]; omega
            · have HN : Hid _ := HMI3.out hdv
              clear hdv HHI3 HMI3
              obtain ⟨x4a, hx4⟩ : ∃ z, z = x4 := ⟨_, rfl⟩
              go_wp2
              go_roundw
              case rel => exact ⟨c + 1, t, found, left, by go_num, rfl, by omega, .inl (by omega), by omega, hown4, hlf4, HN, hbel4⟩
              case measure => simp [intOf]; omega
          · have HN : Hid _ := HSK.out found left t c HC.out hov
            have hov' : ¬ ((c &&& t : Nat) : Int) = 0 := by omega
            generalize ((c &&& t : Nat) : Int) = ct at *
            go_wp2
            go_roundw
            case rel => exact ⟨c + 1, t, found, left, by go_num, rfl, by omega, .inl (by omega), by omega, hown, hlf, HN, hbel⟩
            case measure => simp [intOf]; omega
        · have HE : Hid _ := HEN.out found left t c HC.out (by omega)
          have hge2 : ¬ (c : Int) < (T : Int) := by omega
          clear HC
          go_wp2_with (at_builtin; refine wpList_pushV vecL Tryz.infoVL Tryz.sliceVL rfl (.tmp 57) (.tmp 59) rfl (w.heap.size + 1) _ found _ left rfl hown hlf rfl (by omega) hswr ?_)
          intro v5 w5 hown5 hb5 hg5
          have hlen5 : (found ++ [left]).length ≤ 5000 := by simp; omega
          obtain ⟨fd, HFD⟩ : ∃ fd, Hid (found ++ [left] = fd) := ⟨_, rfl⟩
          rw [HFD.out] at hown5 hlen5 HE
          obtain ⟨o5, c5, rfl⟩ := hown5.val
          have hbw5 := hb0.trans ((hbel.trans hb5).mono (by omega))
          have hown5' := hown5.lower (show w.heap.size ≤ w.heap.size + 1 by omega)
          go_wp2
          go_ret
          first | exact ⟨_, fd, rfl, hown5', HE.out, hlen5, hbw5⟩ | exact ⟨_, rfl, fd, hown5', HE.out, hlen5, hbw5⟩

end Go.Proofs.YtldcjkhbiffdoabGreatDoor
