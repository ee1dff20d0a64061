import Derived.Test.YtldcjkhbiffdoabGreatDoorM22
import Derived.Test.YtldcjkhbiffdoabGreatDoorCKCmn
import Derived.Test.YtldcjkhbiffdoabGreatDoorM23
import Derived.Test.YtldcjkhbiffdoabGreatDoorM27
import Derived.Test.YtldcjkhbiffdoabGreatDoorCFOrd
import Derived.Test.YtldcjkhbiffdoabGreatDoorM07

set_option linter.unusedSimpArgs false
namespace Go.Proofs.YtldcjkhbiffdoabGreatDoor
open Go.RowKit

theorem mulmod_step (a b m : Int) : (a % m) * (b % m) % m = (a * b) % m := (Int.mul_emod a b m).symm

set_option maxRecDepth 100000 in
set_option maxHeartbeats 8000000 in
theorem productK_any (zs : List Int) (c : Int) (ps : List (List Int × Nat)) (u : Value) (m : Int) (w : World) (hf : Fac zs c ps) (hO : PtOK ps) (hB : ∀ x, x ∈ ps → x.1.length ≤ 11 ∧ Bd x.1 17) (hl : OwnPt 0 w u ps) (lz : zs.length ≤ 11) (bz : Bd zs 12) (bc : c.natAbs < 10 ^ 12) (hm1 : 1000 < m) (hm2 : m ≤ 2147483647) :
    Calls Tryz.prog 22 #[.string ⟨(ptext zs).toArray⟩, .string ⟨(Lib.itoa c).toArray⟩, u, .int .i64 m] w fun e w' => e = .returned (.bool true) ∧ Below w.heap.size w w' := by
  have HC1 : Hid _ := fun (W : World) => coefsP_any zs 12 m W lz bz (by omega) hm1 hm2
  have HC2 : Hid _ := fun (W : World) => coefsI_any c 12 m W bc (by omega) hm1 hm2
  have HC3 : Hid (∀ x, x ∈ ps → ∀ W : World, Calls Tryz.prog 24 #[.string ⟨(ptext x.1).toArray⟩, .int .i64 m] W fun en w' => ∃ y cs, en = .returned (.tuple #[y, .bool true]) ∧ OwnN W.heap.size w' y cs ∧ Cm m cs x.1 ∧ Below W.heap.size W w') := fun x hx W => coefsP_any x.1 17 m W (hB x hx).1 (hB x hx).2 (by omega) hm1 hm2
  have HO : Hid (PtOK ps) := hO
  have lp := hO.1
  have HEQ : Hid _ := hf.eq
  obtain ⟨ua, uc, rfl⟩ := hl.val
  clear bz bc hf hB hO
  generalize (ByteArray.mk (ptext zs).toArray) = TZ at *
  generalize (ByteArray.mk (Lib.itoa c).toArray) = TC at *
  have hm0 : ¬ m = 0 := by omega
  have hmn : ¬ m = -1 := by omega
  go_enter Tryz.func22, Tryz.ntmps22
  go_wp2_with fail
  refine (HC1.out w).mono ?_
  rintro e w1 ⟨x1, c1, rfl, hO1, hC1, hb1⟩
  go_wp2_with fail
  refine (HC2.out w1).mono ?_
  rintro e w2 ⟨x2, c2, rfl, hO2, hC2, hb2⟩
  have hb12 := hb1.trans (hb2.mono hb1.size)
  have k2 : c2.getD 0 0 = c % m := hC2.2 0 (by omega)
  have l2 := hC2.1
  obtain ⟨a2, cc2, rfl⟩ := hO2.row.val
  have HR2 : Hid _ := fun (V : World) (h : Below w2.heap.size w2 V) => hO2.row.below h
  have HV1 : Hid _ := fun (x : Int) (V : World) (h : Below w2.heap.size w2 V) => valueC_any x x1 V ((hO1.row.below hb2).below h) hC1 lz hm1 hm2
  have HLP : Hid _ := fun (V : World) (h : Below w2.heap.size w2 V) => (hl.below hb12).below h
  rw [l2]
  clear hO1 hC1 hO2 hC2 hb1 hb2 HC1 HC2
  go_wp2_with fail
  go_loopw [13] (fun k wr => ∃ j : Nat, k = .int .i64 ((j : Int) - 7) ∧ j ≤ 15 ∧ Below w2.heap.size w2 wr) (fun k _ => (8 - intOf k).toNat)
  case atStart => exact ⟨0, rfl, by omega, Below.refl _ _⟩
  case round =>
    obtain ⟨j, rfl, hj, hbj⟩ := hrel
    by_cases hjl : j < 15
    · obtain ⟨x, HX⟩ : ∃ x : Int, Hid ((j : Int) - 7 = x) := ⟨_, rfl⟩
      have hxl : x < 8 := by rw [← HX.out]; omega
      have hxg : -7 ≤ x := by rw [← HX.out]; omega
      rw [HX.out]
      obtain ⟨g2, rfl, hq1, hq2, hg2, e2⟩ := (HR2.out wr hbj).at 0 (by omega)
      rw [k2] at e2
      rw [l2] at hq1
      obtain ⟨G, HG⟩ : ∃ G : Nat → Int, Hid (G = fun i => c * pE (ps.take i) x) := ⟨_, rfl⟩
      have HG0 : Hid (c % m = G 0 % m) := by show _ = _; rw [HG.out]; show _ = (c * pE [] x) % m; simp [pE]
      have HGN : Hid (∀ i y, ps[i]? = some y → G (i + 1) = G i * ev x y.1 ^ y.2) := fun i y hy => by
        rw [HG.out]
        show c * pE (ps.take (i + 1)) x = c * pE (ps.take i) x * ev x y.1 ^ y.2
        rw [show ps.take (i + 1) = ps.take i ++ [y] by rw [List.take_add_one, hy]; rfl, pE_snoc, Int.mul_assoc]
      have HGE : Hid (G ps.length = ev x zs) := by show _ = _; rw [HG.out, HEQ.out]; show c * pE (ps.take ps.length) x = _; rw [List.take_length]
      clear HG
      rw [HG0.out] at e2
      have hkl : (0 : Int) < 11 := by omega
      go_wp2_with fail
      go_loopw [48, 14] (fun k v wr => ∃ i : Nat, k = .int .i64 (i : Nat) ∧ i ≤ ps.length ∧ v = .int .i64 (G i % m) ∧ Below w2.heap.size w2 wr) (fun k _ _ => ps.length - (intOf k).toNat)
      case atStart => exact ⟨0, rfl, by omega, rfl, hbj⟩
      case round =>
        clear hbj e2
        obtain ⟨i, rfl, hi, rfl, hbi⟩ := hrel
        by_cases hlt : i < ps.length
        · obtain ⟨gg, y, hga, hc1, hc2, hgg, _, q1, q2, hym⟩ := (HLP.out wr hbi).at i hlt
          subst hga
          have hymem := List.mem_of_getElem? hym
          obtain ⟨hyt, hyl, hye⟩ := HO.out.2 y hymem
          have HN : Hid _ := HGN.out i y hym
          have HC3y : Hid _ := HC3.out y hymem
          have hii : (i : Int) < (ps.length : Int) := by omega
          generalize (ByteArray.mk (ptext y.1).toArray) = TY at *
          clear hym hymem
          go_wp2_with fail
          obtain ⟨W7, HW7⟩ : ∃ W7, Hid (wr.alloc (Obj.cells #[Value.string TY, Value.int IntKind.i64 (y.2 : Nat)] 40) = W7) := ⟨_, rfl⟩
          have hb7 : Below wr.heap.size wr W7 := by rw [← HW7.out]; exact (Below.refl _ _).alloc (Nat.le_refl _) _
          have hcS : W7.cell? ⟨wr.heap.size, 1, none⟩ = some (.int .i64 (y.2 : Nat)) := by
            have hh : W7.heap[wr.heap.size]? = some (.cells #[Value.string TY, Value.int IntKind.i64 (y.2 : Nat)] 40 (0, 0)) := by rw [← HW7.out]; exact heap_alloc_new wr _
            simp [World.cell?, hh]
          have hk7 : wr.heap.size < W7.heap.size := by rw [← HW7.out]; simp
          rw [HW7.out]
          have hbi7 := hbi.trans (hb7.mono hbi.size)
          clear HW7 hb7
          generalize wr.heap.size = kx at *
          refine (HC3y.out W7).mono ?_
          rintro e w8 ⟨x8, c8, rfl, hO8, hC8, hb8⟩
          have hbi8 := hbi7.trans (hb8.mono hbi7.size)
          have hcS8 := (hb8.cell (p := ⟨kx, 1, none⟩) hk7).trans hcS
          have hV := valueC_any x x8 w8 hO8.row hC8 hyl hm1 hm2
          go_wp2_with fail
          refine hV.mono ?_
          rintro e w9 ⟨rfl, hb9⟩
          have hbi9 := hbi8.trans (hb9.mono hbi8.size)
          have hcS9 := (hb9.cell (p := ⟨kx, 1, none⟩) (Nat.lt_of_lt_of_le hk7 hb8.size)).trans hcS8
          obtain ⟨U, HU⟩ : ∃ U, Hid (U = ev x y.1) := ⟨_, rfl⟩
          rw [← HU.out] at HN ⊢
          clear hcS hcS8 hO8 hC8 hb8 hb9 HC3y hbi7 hbi8
          generalize y.2 = E at *
          go_wp2_with fail
          have hwo : ∃ wo : World, wo = w9 := ⟨_, rfl⟩
          obtain ⟨wo, rfl⟩ := hwo
          go_loopw [20, 14] (fun k v wr => ∃ n : Nat, k = .int .i64 (n : Nat) ∧ n ≤ E ∧ v = .int .i64 ((G i * U ^ n) % m) ∧ wr = wo) (fun k _ _ => E - (intOf k).toNat)
          case atStart => exact ⟨0, rfl, by omega, by simp, rfl⟩
          case round =>
            obtain ⟨n, rfl, hn, rfl, rfl⟩ := hrel
            by_cases hnl : n < E
            · have hnn : (n : Int) < (E : Int) := by omega
              have HST : Hid ((G i * U ^ (n + 1)) % m = (G i * U ^ n % m) * (U % m) % m) := by
                show _ = _
                rw [mulmod_step, Int.pow_succ, Int.mul_assoc]
              have z1 : 0 ≤ G i * U ^ n % m := Int.emod_nonneg _ (by omega)
              have z2 : G i * U ^ n % m < m := Int.emod_lt_of_pos _ (by omega)
              have z3 : 0 ≤ U % m := Int.emod_nonneg _ (by omega)
              have z4 : U % m < m := Int.emod_lt_of_pos _ (by omega)
              generalize G i * U ^ n % m = A at *
              generalize U % m = V at *
              obtain ⟨z5, z6⟩ := mul_rng z1 z2 z3 z4 hm2
              have t1 : (A * V).tmod m = (A * V) % m := Int.tmod_eq_emod_of_nonneg z5
              have t2 : IntKind.i64.wrap (A * V) = A * V := by rw [IntKind.wrap_i64]; omega
              have z7 : 0 ≤ (A * V) % m := Int.emod_nonneg _ (by omega)
              have z8 : (A * V) % m < m := Int.emod_lt_of_pos _ (by omega)
              have t3 : IntKind.i64.wrap ((A * V) % m) = (A * V) % m := by rw [IntKind.wrap_i64]; omega
              generalize hQ : (A * V) % m = Q at *
              generalize hP : A * V = AV at *
              go_wp2
              go_roundw
              case rel => exact ⟨n + 1, by go_num, by omega, by rw [HST.out], by first | rfl | trivial⟩
              case measure => simp [intOf]; omega
            · obtain rfl : n = E := by omega
              rw [← HN.out]
              go_wp2
              go_roundw
              case rel => exact ⟨i + 1, by go_num, by omega, rfl, hbi9⟩
              case measure => simp [intOf]; omega
        · obtain rfl : i = ps.length := by omega
          rw [HGE.out]
          have hV := HV1.out x wr hbi
          go_wp2_with fail
          refine hV.mono ?_
          rintro e w9 ⟨rfl, hb9⟩
          have hbi9 := hbi.trans (hb9.mono hbi.size)
          go_wp2
          go_roundw
          case rel => exact ⟨j + 1, by rw [← HX.out]; go_num, by omega, hbi9⟩
          case measure => simp [intOf]; omega
    · obtain rfl : j = 15 := by omega
      go_wp2
      go_ret
      exact ⟨rfl, hb12.trans (hbj.mono hb12.size)⟩

end Go.Proofs.YtldcjkhbiffdoabGreatDoor

set_option linter.unusedSimpArgs false
namespace Go.Proofs.YtldcjkhbiffdoabGreatDoor
open Go.RowKit

def dsm : List (List Int × Nat) → Nat
  | [] => 0
  | x :: l => (x.1.length - 1) * x.2 + dsm l

theorem dsm_snoc (x : List Int × Nat) : ∀ l, dsm (l ++ [x]) = dsm l + (x.1.length - 1) * x.2
  | [] => by simp [dsm]
  | y :: l => by
    show (y.1.length - 1) * y.2 + dsm (l ++ [x]) = (y.1.length - 1) * y.2 + dsm l + _
    rw [dsm_snoc x l]; omega

theorem dsm_le (l : List (List Int × Nat)) : ∀ i, dsm (l.take i) ≤ dsm l := by
  induction l with
  | nil => intro i; simp [dsm]
  | cons x l ih =>
    intro i
    cases i with
    | zero => simp [dsm]
    | succ i =>
      show (x.1.length - 1) * x.2 + dsm (l.take i) ≤ (x.1.length - 1) * x.2 + dsm l
      have := ih i
      omega

theorem Pp.powL {a : List Int} (ha : Pp a) : ∀ n : Nat, ∃ q, Pp q ∧ (∀ t, ev t q = ev t a ^ n) ∧ q.length = (a.length - 1) * n + 1
  | 0 => ⟨[1], pp_one, fun t => by simp [ev], by simp⟩
  | n + 1 => by
    obtain ⟨q, hq, e, hl⟩ := Pp.powL ha n
    obtain ⟨r, hr, e'⟩ := hq.mul ha
    have h1 := (mul_len hr.tr hq.tr ha.tr hq.ne ha.ne e').2.1
    have h2 := List.length_pos_iff.2 ha.ne
    refine ⟨r, hr, fun t => by rw [e', e, Int.pow_succ], ?_⟩
    rw [Nat.mul_add]
    omega

theorem pE_len : ∀ {ps : List (List Int × Nat)}, (∀ x, x ∈ ps → Pp x.1) → ∃ q, Pp q ∧ (∀ t, ev t q = pE ps t) ∧ q.length = dsm ps + 1
  | [], _ => ⟨[1], pp_one, fun t => by simp [ev, pE], rfl⟩
  | x :: ps, h => by
    obtain ⟨q, hq, e, hl⟩ := (h x (List.mem_cons_self ..)).powL x.2
    obtain ⟨r, hr, e', hl'⟩ := pE_len (ps := ps) fun y hy => h y (List.mem_cons_of_mem _ hy)
    obtain ⟨s, hs, e''⟩ := hq.mul hr
    have h1 := (mul_len hs.tr hq.tr hr.tr hq.ne hr.ne e'').2.1
    refine ⟨s, hs, fun t => by rw [e'', e, e']; rfl, ?_⟩
    show s.length = (x.1.length - 1) * x.2 + dsm ps + 1
    omega

theorem Fac.deg {zs : List Int} {c : Int} {ps : List (List Int × Nat)} (h : Fac zs c ps) (hz : Tr zs) (hne : zs ≠ []) : zs.length = dsm ps + 1 := by
  obtain ⟨q, hq, e, hl⟩ := pE_len fun x hx => (h.each x hx).1
  have hc : c ≠ 0 := fun h0 => hne (hz.zero fun t => by rw [h.eq, h0]; simp)
  have h1 : zs = q.map fun x => c * x := Pp.ext hz (hq.tr.scal hc) fun t => by rw [h.eq, ev_scal, e]
  rw [h1, List.length_map, hl]

theorem bfr_len {a b : List Int} (h : bfr a b = true) : a.length ≤ b.length := by
  rcases (bfr_iff a b).1 h with h | ⟨h, _⟩ <;> omega

set_option maxRecDepth 100000 in
set_option maxHeartbeats 8000000 in
theorem factored_any (zs : List Int) (p : Value) (w : World) (hp : IsP w p zs) (hx : inB zs = true) (tx : Tr zs) (ht : Tab w) :
    Calls Tryz.prog 10 #[p] w fun e w' => e = .returned (.bool true) ∧ Below w.heap.size w w' := by
  have lx := inB_len hx
  have bx := inB_bd hx
  have hT := polyText_any zs p w hp hx ht
  have HF : Hid _ := fun (W : World) (h : Below w.heap.size w W) => factorP_any zs p W (hp.below h) hx tx (ht.below h)
  obtain ⟨kp, vp, rfl, _⟩ := id hp
  by_cases h0 : zs = []
  · have e0 : ptext zs = [48] := (ptext_zero tx lx).2 h0
    rw [e0] at hT
    go_enter Tryz.func10, Tryz.ntmps10
    go_wp2_with fail
    refine hT.mono ?_
    rintro e w1 ⟨rfl, hb1⟩
    go_wp2_with fail
    refine (HF.out w1 hb1).mono ?_
    rintro e w2 ⟨hE, hb2⟩
    rcases hE with ⟨_, rfl⟩ | ⟨h, _⟩
    · go_wp2
      go_ret
      exact ⟨rfl, hb1.trans (hb2.mono hb1.size)⟩
    · exact absurd h0 h
  have hn1 : ¬ (ByteArray.mk (ptext zs).toArray).toList = [48] := str_ne fun e => h0 ((ptext_zero tx lx).1 e)
  have hn2 := str_nq (a := ptext zs) fun e => h0 ((ptext_zero tx lx).1 e)
  have HDG : Hid _ := fun (W : World) => degreeP_any zs W tx h0 lx bx (by omega)
  have HPR : Hid (∀ (ps : List (List Int × Nat)) (u : Value) (m : Int) (W : World), Fac zs (scont zs) ps → PtOK ps → (∀ x, x ∈ ps → x.1.length ≤ 11 ∧ Bd x.1 17) → OwnPt 0 W u ps → 1000 < m → m ≤ 2147483647 → Calls Tryz.prog 22 #[.string ⟨(ptext zs).toArray⟩, .string ⟨(Lib.itoa (scont zs)).toArray⟩, u, .int .i64 m] W fun e w' => e = .returned (.bool true) ∧ Below W.heap.size W w') := fun ps u m W hf ho hb hl h1 h2 => productK_any zs (scont zs) ps u m W hf ho hb hl lx bx (scont_lt bx) h1 h2
  generalize hTZ : (ByteArray.mk (ptext zs).toArray) = TZ at *
  clear hTZ
  go_enter Tryz.func10, Tryz.ntmps10
  go_wp2_with fail
  refine hT.mono ?_
  rintro e w1 ⟨rfl, hb1⟩
  go_wp2_with fail
  refine (HF.out w1 hb1).mono ?_
  rintro e w2 ⟨hE, hb2⟩
  rcases hE with ⟨h, _⟩ | ⟨_, v, ps, hFa, rfl⟩
  · exact absurd h h0
  have hOK := hFa.ok tx h0 lx
  have hbw2 := hb1.trans (hb2.mono hb1.size)
  have hdeg := hFa.fac.deg tx h0
  have HDS : Hid (∀ i, dsm (ps.take i) ≤ 10) := fun i => by have := dsm_le ps i; omega
  have HDE : Hid (((zs.length - 1 : Nat) : Int) = ((dsm ps : Nat) : Int)) := by show _ = _; omega
  have hla := hFa.own.lower (Nat.zero_le _)
  have HPR2 : Hid _ := fun (m : Int) (V : World) (h : Below w2.heap.size w2 V) (h1 : 1000 < m) (h2 : m ≤ 2147483647) => HPR.out ps v m V hFa.fac hOK hFa.bd (hla.below h) h1 h2
  have HE : Hid (∀ x, x ∈ ps → Pp x.1 ∧ Iz (fun t => ev t x.1) ∧ 1 ≤ x.2 ∧ x.2 ≤ 10 ∧ 2 ≤ x.1.length ∧ x.1.length ≤ 11 ∧ Bd x.1 17) := fun x hx => by
    obtain ⟨a1, a2, a3⟩ := hFa.fac.each x hx
    have a4 := hFa.fac.exp tx h0 hx
    exact ⟨a1, a2, a3, by omega, a2.len a1, (hFa.bd x hx).1, (hFa.bd x hx).2⟩
  have HASC : Hid _ := List.pairwise_iff_getElem.1 hFa.fac.asc
  have lp := hOK.1
  obtain ⟨va, vc, rfl⟩ := hla.val
  generalize hSC : (ByteArray.mk (Lib.itoa (scont zs)).toArray) = SC at *
  have HNE : Hid (∀ (i j : Nat) (x y : List Int × Nat), ps[i]? = some x → ps[j]? = some y → i ≠ j → ptext x.1 ≠ ptext y.1) := fun i j x y hi hj hij he => by
    have hx' := HE.out x (List.mem_of_getElem? hi)
    have hy' := HE.out y (List.mem_of_getElem? hj)
    have heq : x.1 = y.1 := ptext_inj hx'.1.tr hy'.1.tr hx'.2.2.2.2.2.1 hy'.2.2.2.2.2.1 he
    have h1 := (List.getElem?_eq_some_iff.1 hi)
    have h2 := (List.getElem?_eq_some_iff.1 hj)
    rcases Nat.lt_or_gt_of_ne hij with h | h
    · have := HASC.out i j h1.1 h2.1 h
      rw [h1.2, h2.2, heq, bfr_irrefl] at this; cases this
    · have := HASC.out j i h2.1 h1.1 h
      rw [h1.2, h2.2, heq, bfr_irrefl] at this; cases this
  have HLE : Hid (∀ (i : Nat) (x y : List Int × Nat), ps[i]? = some x → ps[i + 1]? = some y → x.1.length ≤ y.1.length) := fun i x y hi hj => by
    have h1 := (List.getElem?_eq_some_iff.1 hi)
    have h2 := (List.getElem?_eq_some_iff.1 hj)
    have := HASC.out i (i + 1) h1.1 h2.1 (by omega)
    rw [h1.2, h2.2] at this
    exact bfr_len this
  clear hSC hFa hOK hdeg HPR HF hT HASC bx hx tx h0 hp hb1 hb2
  go_wp2_with fail
  go_loopw [37, 7] (fun k n wr => ∃ i : Nat, k = .int .i64 (i : Nat) ∧ i ≤ ps.length ∧ n = .int .i64 (dsm (ps.take i) : Nat) ∧ Below w2.heap.size w2 wr) (fun k _ _ => ps.length - (intOf k).toNat)
  case atStart => exact ⟨0, rfl, by omega, rfl, Below.refl _ _⟩
  case round =>
    obtain ⟨i, rfl, hi, rfl, hbi⟩ := hrel
    by_cases hlt : i < ps.length
    · obtain ⟨gg, x, hga, hc1, hc2, hgg, _, q1, q2, hxm⟩ := (hla.below hbi).at i hlt
      subst hga
      obtain ⟨px, ix, e1, e10, l2, l11, bd⟩ := HE.out x (List.mem_of_getElem? hxm)
      obtain ⟨fb, ft, hft, hf45⟩ := ptext_first px.tr px.lead
      have hii : (i : Int) < (ps.length : Int) := by omega
      have HSN : Hid (dsm (ps.take (i + 1)) = dsm (ps.take i) + (x.1.length - 1) * x.2) := by
        show _ = _
        rw [show ps.take (i + 1) = ps.take i ++ [x] by rw [List.take_add_one, hxm]; rfl, dsm_snoc]
      have HD1 : Hid _ := fun (W : World) => degreeP_any x.1 W px.tr px.ne l11 bd (by omega)
      have HRT : Hid (3 ≤ x.1.length → ∀ W : World, Calls Tryz.prog 20 #[.string ⟨(ptext x.1).toArray⟩] W fun e w' => e = .returned (.bool false) ∧ Below W.heap.size W w') := fun h W => rooted_any x.1 W px ix l11 h bd
      have hsz : 0 < (ByteArray.mk (ptext x.1).toArray).size := by show 0 < (ptext x.1).toArray.size; rw [hft]; simp
      have hb0 : ¬ (((ByteArray.mk (ptext x.1).toArray)[0]).toNat : Int) = 45 := by
        have : (ByteArray.mk (ptext x.1).toArray)[0] = fb := (at_drop (s := ⟨(ptext x.1).toArray⟩) (i := 0) (A := []) (c := fb) (R := ft) (by show (ptext x.1).drop 0 = _; rw [hft]; rfl)).2
        rw [this]
        intro h
        exact hf45 (UInt8.toNat_inj.1 (by have : (45 : UInt8).toNat = 45 := rfl; omega))
      have HNX : Hid (∀ (j : Nat) (y : List Int × Nat), ps[j]? = some y → j ≠ i → ¬ (ByteArray.mk (ptext y.1).toArray).toList = (ByteArray.mk (ptext x.1).toArray).toList) := fun j y hy hij he => by
        rw [ByteArray.toList_eq, ByteArray.toList_eq] at he
        exact HNE.out j i y x hy hxm hij he
      have HPV : Hid (∀ (j : Nat) (y : List Int × Nat), i = j + 1 → ps[j]? = some y → y.1.length ≤ x.1.length) := fun j y hj hy => HLE.out j y x hy (by rw [← hj]; exact hxm)
      have hds1 := HDS.out i
      have hds2 := HDS.out (i + 1)
      rw [HSN.out] at hds2
      clear px ix hft hf45 hxm bd
      generalize (ByteArray.mk (ptext x.1).toArray) = TX at *
      obtain ⟨b0, hbb⟩ : ∃ b0 : Int, ((TX[0].toNat : Nat) : Int) = b0 := ⟨_, rfl⟩
      have hb1' : ¬ b0 = 45 := by rw [← hbb]; exact hb0
      have hb2' : (b0 == 45) = false := by rw [beq_eq_false_iff_ne]; exact hb1'
      have hszI : (0 : Int) < (TX.size : Int) := by omega
      clear hb0
      obtain ⟨dx, HDX⟩ : ∃ dx, Hid (x.1.length - 1 = dx) := ⟨_, rfl⟩
      have hdx1 : 1 ≤ dx := by rw [← HDX.out]; omega
      have hdx2 : dx ≤ 10 := by rw [← HDX.out]; omega
      rw [HDX.out] at HSN HD1 hds2
      have HRT2 : Hid (2 ≤ dx → ∀ W : World, Calls Tryz.prog 20 #[.string TX] W fun e w' => e = .returned (.bool false) ∧ Below W.heap.size W w') := fun h W => HRT.out (by have := HDX.out; omega) W
      have HPV2 : Hid (∀ (j : Nat) (y : List Int × Nat), i = j + 1 → ps[j]? = some y → y.1.length - 1 ≤ dx) := fun j y hj hy => by have := HPV.out j y hj hy; have := HDX.out; omega
      clear HRT HPV HDX l2 l11
      generalize x.2 = E at *
      generalize dsm (ps.take i) = ds at *
      go_wp2_with fail
      obtain ⟨W7, HW7⟩ : ∃ W7, Hid (wr.alloc (Obj.cells #[Value.string TX, Value.int IntKind.i64 (E : Nat)] 40) = W7) := ⟨_, rfl⟩
      have hb7 : Below wr.heap.size wr W7 := by rw [← HW7.out]; exact (Below.refl _ _).alloc (Nat.le_refl _) _
      have hcS : W7.cell? ⟨wr.heap.size, 0, none⟩ = some (.string TX) ∧ W7.cell? ⟨wr.heap.size, 1, none⟩ = some (.int .i64 (E : Nat)) := by
        have hh : W7.heap[wr.heap.size]? = some (.cells #[Value.string TX, Value.int IntKind.i64 (E : Nat)] 40 (0, 0)) := by rw [← HW7.out]; exact heap_alloc_new wr _
        constructor <;> simp [World.cell?, hh]
      have hk7 : wr.heap.size < W7.heap.size := by rw [← HW7.out]; simp
      rw [HW7.out]
      have hbi7 := hbi.trans (hb7.mono hbi.size)
      clear HW7 hb7
      generalize wr.heap.size = kx at *
      refine (HD1.out W7).mono ?_
      rintro e w8 ⟨rfl, hb8⟩
      have hbi8 := hbi7.trans (hb8.mono hbi7.size)
      have hSV : ∀ V, Below w8.heap.size w8 V → V.cell? ⟨kx, 0, none⟩ = some (.string TX) ∧ V.cell? ⟨kx, 1, none⟩ = some (.int .i64 (E : Nat)) := fun V h => by
        have hbV := hb8.trans (h.mono hb8.size)
        exact ⟨(hbV.cell (p := ⟨kx, 0, none⟩) hk7).trans hcS.1, (hbV.cell (p := ⟨kx, 1, none⟩) hk7).trans hcS.2⟩
      obtain ⟨s0, s1⟩ := hSV w8 (Below.refl _ _)
      have HSV : Hid _ := hSV
      clear hcS hb8 q1 q2 hSV
      have hE1 : ¬ (E : Int) < 1 := by omega
      have hE2 : ¬ (10 : Int) < (E : Int) := by omega
      have hd1 : ¬ (dx : Int) < 1 := by omega
      go_upto_region 10 with fail
      go_cut [77] (fun s77 wc => s77 = .bool false ∧ Below w8.heap.size w8 wc)
      case first =>
        cases i with
        | zero =>
          rw [show (((0 : Nat)) : Int) = (0 : Int) from rfl]
          go_wp2
          go_meet
          case rel => exact ⟨by simp [hd1, hE1, hE2], Below.refl _ _⟩
        | succ j =>
          obtain ⟨gj, y, hgj, _, _, hgj', _, y1, y2, hym⟩ := (hla.below hbi8).at j (by omega)
          have hge : gg = gj := by simpa using hgj
          subst hge
          obtain ⟨py, _, _, _, _, l11, bd⟩ := HE.out y (List.mem_of_getElem? hym)
          have hdy := degreeP_any y.1 w8 py.tr py.ne l11 bd (by omega)
          have hle := HPV2.out j y rfl hym
          have hjl : (j : Int) < (ps.length : Int) := by omega
          have hj0 : (0 : Int) < (j : Int) + 1 := by omega
          have hng : ¬ (dx : Int) < ((y.1.length - 1 : Nat) : Int) := by omega
          generalize y.1.length - 1 = dy at *
          generalize (ByteArray.mk (ptext y.1).toArray) = TY at *
          rw [show (((j + 1 : Nat)) : Int) = (j : Int) + 1 by omega]
          have hj1 : (j : Int) + 1 - 1 = (j : Int) := by omega
          clear hgj hym
          go_wp2_with fail
          refine hdy.mono ?_
          rintro e w9 ⟨rfl, hb9⟩
          go_wp2
          go_meet
          case rel => exact ⟨by simp [hd1, hE1, hE2]; omega, hb9⟩
      case rest =>
        obtain ⟨rfl, hbc⟩ := hcut
        have hbi9 := hbi8.trans (hbc.mono hbi8.size)
        have HSV9 : Hid (∀ V, Below wc.heap.size wc V → V.cell? ⟨kx, 0, none⟩ = some (.string TX) ∧ V.cell? ⟨kx, 1, none⟩ = some (.int .i64 (E : Nat))) := fun V h => HSV.out V (hbc.trans (h.mono hbc.size))
        clear s0 s1 HSV hbc hbi8
        go_wp2_with fail
        go_loopw [80] (fun k wr => ∃ j : Nat, k = .int .i64 (j : Nat) ∧ j ≤ ps.length ∧ Below wc.heap.size wc wr) (fun k _ => ps.length - (intOf k).toNat)
        case atStart => exact ⟨0, rfl, by omega, Below.refl _ _⟩
        case round =>
          obtain ⟨j, rfl, hj, hbj⟩ := hrel
          have hbwj := hbi9.trans (hbj.mono hbi9.size)
          by_cases hjl : j < ps.length
          · obtain ⟨gj, y, hgj, _, _, hgj', _, y1, y2, hym⟩ := (hla.below hbwj).at j hjl
            have hge : gg = gj := by simpa using hgj
            subst hge
            have hjj : (j : Int) < (ps.length : Int) := by omega
            have HNY : Hid _ := HNX.out j y hym
            generalize (ByteArray.mk (ptext y.1).toArray) = TY at *
            clear hgj hym
            by_cases hij : j = i
            · subst hij
              have hf1 : ((j : Int) != (j : Int)) = false := by simp
              go_wp2_with fail
              refine wp_region_below (by kernel_rfl) (by kernel_rfl) ?_
              refine q_run (v := .int .i64 (j : Nat)) rfl (fun _ _ => rfl) ?_
              refine q_run (v := .int .i64 (j : Nat)) rfl (fun _ _ => rfl) ?_
              refine q_run (v := .bool false) rfl (fun w' hw' => by go_simp) ?_
              refine q_run_skip (v := .bool false) 8 3 86 rfl (fun _ _ => rfl) rfl rfl ?_ ?_
              · intro o' ho'
                simp at ho'
                rcases ho' with rfl | rfl | rfl | rfl | rfl | rfl | rfl | rfl <;> exact ⟨rfl, by simp⟩
              simp only [List.drop_succ_cons, List.drop_zero, List.take_succ_cons, List.take_zero, List.foldl_cons, List.foldl_nil, Act.put, List.setIfInBounds_toArray, List.set_cons_succ, List.set_cons_zero]
              refine q_run (v := .bool false) rfl (fun w' hw' => by go_simp) ?_
              simp only [Act.put, tA, tB, tC]
              refine wpQuiet_nil ?_
              intro w10 hb10
              have hbj10 := hbj.trans (hb10.mono hbj.size)
              go_wp2
              go_roundw
              case rel => exact ⟨j + 1, by go_num, by omega, hbj10⟩
              case measure => simp [intOf]; omega
            · have hts := HNY.out hij
              have htb : (TY.toList == TX.toList) = false := by rw [beq_eq_false_iff_ne]; exact hts
              have hf1 : ¬ (j : Int) = (i : Int) := by omega
              have hf2 : ((j : Int) == (i : Int)) = false := by rw [beq_eq_false_iff_ne]; exact hf1
              have hf3 : ((j : Int) != (i : Int)) = true := by rw [bne_iff_ne]; exact hf1
              obtain ⟨s0, s1⟩ := HSV9.out wr hbj
              have hbd : Below wr.heap.size wr wr.drew := ⟨rfl, rfl, rfl, Nat.le_refl _, fun _ _ => rfl⟩
              have hbjd := hbj.trans (hbd.mono hbj.size)
              go_wp2_with fail
              refine wp_region_held_drew (S := fun V => V.cell? ⟨gg, j * 2, none⟩ = some (.string TY) ∧ V.cell? ⟨kx, 0, none⟩ = some (.string TX)) (by kernel_rfl) ⟨y1, s0⟩ fun hS => ?_
              clear s0 s1 y1 y2 hbd
              generalize wr.drew = V0 at *
              refine h_take 0 83 (.int .i64 (j : Nat)) rfl rfl (by kernel_rfl) (by kernel_rfl) (by kernel_rfl) (fun _ _ _ h => h) rfl (fun _ _ => by first | rfl | go_simp) hS ?_
              simp only [Act.put, tA, tB, tC]
              refine h_take 1 84 (.int .i64 (i : Nat)) rfl rfl (by kernel_rfl) (by kernel_rfl) (by kernel_rfl) (fun _ _ _ h => h) rfl (fun _ _ => by first | rfl | go_simp) hS ?_
              simp only [Act.put, tA, tB, tC]
              refine h_take 2 85 (.bool true) rfl rfl (by kernel_rfl) (by kernel_rfl) (by kernel_rfl) (fun _ _ _ h => h) rfl (fun _ _ => by first | rfl | go_simp) hS ?_
              simp only [Act.put, tA, tB, tC]
              refine h_take 3 86 (.bool true) rfl rfl (by kernel_rfl) (by kernel_rfl) (by kernel_rfl) (fun _ _ _ h => h) rfl (fun _ _ => by first | rfl | go_simp) hS ?_
              simp only [Act.put, tA, tB, tC]
              refine h_take 4 87 (.slice (some ⟨gg, 0, none⟩) ps.length vc) rfl rfl (by kernel_rfl) (by kernel_rfl) (by kernel_rfl) (fun _ _ _ h => h) rfl (fun _ _ => by first | rfl | go_simp) hS ?_
              simp only [Act.put, tA, tB, tC]
              refine h_take 5 88 (.int .i64 (j : Nat)) rfl rfl (by kernel_rfl) (by kernel_rfl) (by kernel_rfl) (fun _ _ _ h => h) rfl (fun _ _ => by first | rfl | go_simp) hS ?_
              simp only [Act.put, tA, tB, tC]
              refine h_take 6 89 (.pointer (some ⟨gg, j * 2, none⟩)) rfl rfl (by kernel_rfl) (by kernel_rfl) (by kernel_rfl) (fun _ _ _ h => h) rfl (fun _ _ => by first | rfl | go_simp) hS ?_
              simp only [Act.put, tA, tB, tC]
              refine h_take 7 90 (.pointer (some ⟨gg, j * 2, none⟩)) rfl rfl (by kernel_rfl) (by kernel_rfl) (by kernel_rfl) (fun _ _ _ h => h) rfl (fun _ _ => by first | rfl | go_simp) hS ?_
              simp only [Act.put, tA, tB, tC]
              refine h_take 8 91 (.string TY) rfl rfl (by kernel_rfl) (by kernel_rfl) (by kernel_rfl) (fun _ _ _ h => h) rfl (fun w' hw' => by obtain ⟨y0, y1⟩ := hw'; go_simp) hS ?_
              simp only [Act.put, tA, tB, tC]
              refine h_take 9 92 (.pointer (some ⟨kx, 0, none⟩)) rfl rfl (by kernel_rfl) (by kernel_rfl) (by kernel_rfl) (fun _ _ _ h => h) rfl (fun _ _ => by first | rfl | go_simp) hS ?_
              simp only [Act.put, tA, tB, tC]
              refine h_take 10 93 (.string TX) rfl rfl (by kernel_rfl) (by kernel_rfl) (by kernel_rfl) (fun _ _ _ h => h) rfl (fun w' hw' => by obtain ⟨y0, y1⟩ := hw'; go_simp) hS ?_
              simp only [Act.put, tA, tB, tC]
              refine h_take 11 94 (.bool false) rfl rfl (by kernel_rfl) (by kernel_rfl) (by kernel_rfl) (fun _ _ _ h => h) rfl (fun _ _ => by go_simp) hS ?_
              simp only [Act.put, tA, tB, tC]
              refine h_take 12 95 (.bool false) rfl rfl (by kernel_rfl) (by kernel_rfl) (by kernel_rfl) (fun _ _ _ h => h) rfl (fun _ _ => by go_simp) hS ?_
              simp only [Act.put, tA, tB, tC]
              refine wpAnyH_done (by kernel_rfl) ?_ _
              go_wp2
              go_roundw
              case rel => exact ⟨j + 1, by go_num, by omega, hbjd⟩
              case measure => simp [intOf]; omega
          · obtain rfl : j = ps.length := by omega
            obtain ⟨s0, s1⟩ := HSV9.out wr hbj
            have hmul : (dx : Int) * (E : Int) = ((dx * E : Nat) : Int) := by simp
            have hw1 : IntKind.i64.wrap ((dx : Int) * (E : Int)) = (dx : Int) * (E : Int) := by rw [hmul, IntKind.wrap_i64]; omega
            have hw2 : IntKind.i64.wrap ((ds : Int) + (dx : Int) * (E : Int)) = (ds : Int) + (dx : Int) * (E : Int) := by rw [hmul, IntKind.wrap_i64]; omega
            have HSUM : Hid ((ds : Int) + (dx : Int) * (E : Int) = ((dsm (ps.take (i + 1)) : Nat) : Int)) := by show _ = _; rw [hmul, HSN.out]; omega
            clear hmul
            generalize hPR : (dx : Int) * (E : Int) = PR at *
            by_cases hd2 : 2 ≤ dx
            · have hdd : (1 : Int) < (dx : Int) := by omega
              have hR := HRT2.out hd2 wr
              go_wp2_with fail
              refine hR.mono ?_
              rintro e w11 ⟨rfl, hb11⟩
              go_wp2
              go_roundw
              case rel => exact ⟨i + 1, by go_num, by omega, by rw [HSUM.out], hbwj.trans (hb11.mono hbwj.size)⟩
              case measure => simp [intOf]; omega
            · have hdd : ¬ (1 : Int) < (dx : Int) := by omega
              go_wp2
              go_roundw
              case rel => exact ⟨i + 1, by go_num, by omega, by rw [HSUM.out], hbwj⟩
              case measure => simp [intOf]; omega
    · have hi1 : ps.length ≤ i := by omega
      rw [show ps.take i = ps by rw [List.take_of_length_le hi1], ← HDE.out]
      have hil : ¬ (i : Int) < (ps.length : Int) := by omega
      go_wp2_with fail
      refine (HDG.out wr).mono ?_
      rintro e w3 ⟨rfl, hb3⟩
      have hbi3 := hbi.trans (hb3.mono hbi.size)
      go_wp2_with fail
      refine (primes_any w3).mono ?_
      rintro e w4 ⟨ap, cp, rfl, hpr, hb4⟩
      have hbi4 := hbi3.trans (hb4.mono hbi3.size)
      have hpl : prs.length = 4 := rfl
      have HPRR : Hid _ := fun (V : World) (h : Below w4.heap.size w4 V) => hpr.below h
      rw [hpl]
      clear hpr
      go_wp2_with fail
      go_loopw [121] (fun k wr => ∃ n : Nat, k = .int .i64 (n : Nat) ∧ n ≤ 4 ∧ Below w4.heap.size w4 wr) (fun k _ => 4 - (intOf k).toNat)
      case atStart => exact ⟨0, rfl, by omega, Below.refl _ _⟩
      case round =>
        obtain ⟨n, rfl, hn, hbn⟩ := hrel
        have hbn2 := hbi4.trans (hbn.mono hbi4.size)
        by_cases hnl : n < 4
        · obtain ⟨m, hm0, hmm, hm1, hm2⟩ := prs_at hnl
          obtain ⟨g, hga, hc1, hc2, hg, hcell⟩ := (HPRR.out wr hbn).at n (by rw [hpl]; exact hnl)
          rw [hm0] at hcell
          subst hga
          rw [hpl] at hc1
          have hnn : (n : Int) < 4 := by omega
          clear hm0 hmm
          go_wp2_with fail
          refine (HPR2.out m wr hbn2 hm1 hm2).mono ?_
          rintro e w5 ⟨rfl, hb5⟩
          have hbn5 := hbn.trans (hb5.mono hbn.size)
          go_wp2
          go_roundw
          case rel => exact ⟨n + 1, by go_num, by omega, hbn5⟩
          case measure => simp [intOf]; omega
        · obtain rfl : n = 4 := by omega
          go_wp2
          go_ret
          exact ⟨rfl, hbw2.trans (hbn2.mono hbw2.size)⟩

end Go.Proofs.YtldcjkhbiffdoabGreatDoor

set_option linter.unusedSimpArgs false
namespace Go.Proofs.YtldcjkhbiffdoabGreatDoor
open Go.RowKit

set_option maxRecDepth 100000 in
set_option maxHeartbeats 4000000 in
theorem Factored_any (s : ByteArray) (w : World) (ht : Tab w) (hs0 : s.size ≤ 9223372036854775807) :
    Calls Tryz.prog 3 #[.string s] w fun e w' => e = .returned (.bool true) ∧ Below w.heap.size w w' := by
  have hO := of_any s w ht hs0
  go_enter Tryz.func3, Tryz.ntmps3
  go_wp2_with fail
  refine hO.mono ?_
  rintro e w1 ⟨p, rfl, hp, hb1⟩
  rcases hp with rfl | ⟨xs, hx, tx, hpx⟩
  · go_wp2
    go_ret
    exact ⟨rfl, hb1⟩
  · have hC := factored_any xs p w1 hpx hx tx (ht.below hb1)
    obtain ⟨kp, vp, rfl, _⟩ := id hpx
    go_wp2_with fail
    refine hC.mono ?_
    rintro e w3 ⟨rfl, hb3⟩
    go_wp2
    go_ret
    exact ⟨rfl, hb1.trans (hb3.mono hb1.size)⟩

end Go.Proofs.YtldcjkhbiffdoabGreatDoor
