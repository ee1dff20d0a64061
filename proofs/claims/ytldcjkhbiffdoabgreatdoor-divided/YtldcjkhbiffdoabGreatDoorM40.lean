import Derived.Test.YtldcjkhbiffdoabGreatDoorM22
import Derived.Test.YtldcjkhbiffdoabGreatDoorM38
import Derived.Test.YtldcjkhbiffdoabGreatDoorCKCmn
import Derived.Test.YtldcjkhbiffdoabGreatDoorM09
import Derived.Test.YtldcjkhbiffdoabGreatDoorCFOrd

set_option linter.unusedSimpArgs false
namespace Go.Proofs.YtldcjkhbiffdoabGreatDoor
open Go.RowKit

def FaC (f : Nat) (p : Value) (zs : List Int) (W : World) : Prop := Calls Tryz.prog f #[p] W fun e w' => (∃ v ps, FacV w' W.heap.size zs ps v ∧ PtOK ps ∧ e = .returned (.tuple #[.string ⟨(Lib.itoa (scont zs)).toArray⟩, v, .int .i64 0])) ∧ Below W.heap.size W w'

theorem factor_ne {zs : List Int} {p : Value} {W : World} (hp : IsP W p zs) (hB : inB zs = true) (tx : Tr zs) (hne : zs ≠ []) (ht : Tab W) : FaC 18 p zs W :=
  (factorP_any zs p W hp hB tx ht).mono fun e w' hE => by
    obtain ⟨h1 | ⟨_, v, ps, h2, h3⟩, h4⟩ := hE
    · exact absurd h1.1 hne
    · exact ⟨⟨v, ps, h2, h2.ok tx hne (inB_len hB), h3⟩, h4⟩

end Go.Proofs.YtldcjkhbiffdoabGreatDoor

set_option linter.unusedSimpArgs false
namespace Go.Proofs.YtldcjkhbiffdoabGreatDoor
open Go.RowKit

def allT (pa : List (List Int × Nat)) (b : Bool) : List (List Int × Nat) → Bool
  | [] => b
  | x :: l => allT pa (b && decide (x.2 ≤ oftT pa (ptext x.1))) l

theorem allT_snoc (pa : List (List Int × Nat)) (x : List Int × Nat) : ∀ (l : List (List Int × Nat)) (b : Bool), allT pa b (l ++ [x]) = (allT pa b l && decide (x.2 ≤ oftT pa (ptext x.1)))
  | [], _ => rfl
  | _ :: l, _ => allT_snoc pa x l _

theorem allT_true (pa : List (List Int × Nat)) : ∀ (l : List (List Int × Nat)) (b : Bool), allT pa b l = true → b = true ∧ ∀ x, x ∈ l → x.2 ≤ oftT pa (ptext x.1)
  | [], b, h => ⟨h, fun x hx => by cases hx⟩
  | y :: l, b, h => by
    obtain ⟨h1, h2⟩ := allT_true pa l _ h
    rw [Bool.and_eq_true, decide_eq_true_iff] at h1
    refine ⟨h1.1, fun x hx => ?_⟩
    rcases List.mem_cons.1 hx with rfl | hx
    · exact h1.2
    · exact h2 x hx

set_option maxRecDepth 100000 in
set_option maxHeartbeats 8000000 in
theorem divided_any (xs ys : List Int) (p q : Value) (w : World) (hp : IsP w p xs) (hq : IsP w q ys) (hx : inB xs = true) (hy : inB ys = true) (tx : Tr xs) (ty : Tr ys) (ht : Tab w) :
    Calls Tryz.prog 13 #[p, q] w fun e w' => e = .returned (.bool true) ∧ Below w.heap.size w w' := by
  have lx := inB_len hx
  have ly := inB_len hy
  have hDiv := divideP_any xs ys p q w hp hq hx hy tx ht
  have HTX : Hid _ := fun (W : World) (h : Below w.heap.size w W) => polyText_any xs p W (hp.below h) hx (ht.below h)
  have HTY : Hid _ := fun (W : World) (h : Below w.heap.size w W) => polyText_any ys q W (hq.below h) hy (ht.below h)
  have bx := inB_bd hx
  have by' := inB_bd hy
  have HFX : Hid (xs ≠ [] → ∀ (W : World), Below w.heap.size w W → FaC 18 p xs W) := fun h0 W h => factor_ne (hp.below h) hx tx h0 (ht.below h)
  have HFY : Hid (ys ≠ [] → ∀ (W : World), Below w.heap.size w W → FaC 18 q ys W) := fun h0 W h => factor_ne (hq.below h) hy ty h0 (ht.below h)
  have hxn : xs ≠ [] → ¬ (ByteArray.mk (ptext xs).toArray).toList = [48] := fun h => str_ne fun e => h ((ptext_zero tx lx).1 e)
  have hxq : xs ≠ [] → ((ByteArray.mk (ptext xs).toArray).toList == [48]) = false := fun h => str_nq (a := ptext xs) fun e => h ((ptext_zero tx lx).1 e)
  have hyn : ys ≠ [] → ¬ (ByteArray.mk (ptext ys).toArray).toList = [48] := fun h => str_ne fun e => h ((ptext_zero ty ly).1 e)
  have hyq : ys ≠ [] → ((ByteArray.mk (ptext ys).toArray).toList == [48]) = false := fun h => str_nq (a := ptext ys) fun e => h ((ptext_zero ty ly).1 e)
  obtain ⟨kp, vp, rfl, _⟩ := id hp
  obtain ⟨kq, vq, rfl, _⟩ := id hq
  go_enter Tryz.func13, Tryz.ntmps13
  go_wp2_with fail
  refine hDiv.mono ?_
  rintro e w1 ⟨r, er, rfl, hDV, hb1⟩
  rcases hDV with ⟨hy0, rfl, rfl⟩ | ⟨hy0, hdv, rfl, rfl⟩ | ⟨hy0, Q, hdv, hBV⟩
  · have e0 : ptext ys = [48] := (ptext_zero ty ly).2 hy0
    rw [e0] at HTY
    go_wp2_with fail
    refine (HTY.out w1 hb1).mono ?_
    rintro e w2 ⟨rfl, hb2⟩
    go_wp2
    go_ret
    exact ⟨rfl, hb1.trans (hb2.mono hb1.size)⟩
  · have hx0 : xs ≠ [] := fun h0 => by
      subst h0
      obtain ⟨Q, hQ⟩ := dvs_of tx ty hy0 Po.zero fun t => by show (0 : Int) = _ * 0; simp
      rw [hQ] at hdv; cases hdv
    have HALL : Hid (∀ pa pb : List (List Int × Nat), (∃ c, Fac xs c pa) → (∃ c, Fac ys c pb) → PtOK pa → PtOK pb → allT pa (decide ((scont xs).natAbs % (scont ys).natAbs = 0)) pb = false) := fun pa pb ⟨c1, fa⟩ ⟨c2, fb⟩ oa ob => by
      cases hA : allT pa (decide ((scont xs).natAbs % (scont ys).natAbs = 0)) pb with
      | false => rfl
      | true =>
        obtain ⟨h1, h2⟩ := allT_true pa pb _ hA
        rw [decide_eq_true_iff] at h1
        obtain rfl := fa.cont
        obtain rfl := fb.cont
        obtain ⟨s, hs, e⟩ := fa.dvd fb (Int.natAbs_dvd_natAbs.1 (Nat.dvd_of_mod_eq_zero h1)) fun x hx => by
          have h4 := ob.2 x hx
          rw [← oftT_eq h4.1 h4.2.1 oa.2]
          exact h2 x hx
        obtain ⟨Q, hQ⟩ := dvs_of tx ty hy0 hs e
        rw [hQ] at hdv; cases hdv
    have hcy : ¬ (scont ys).natAbs = 0 := by have := scont_ne ty hy0; omega
    have hcx1 := scont_lt bx
    have hcy1 := scont_lt by'
    have HSX : Hid _ := fun (W : World) => sizeI_any (scont xs) W hcx1
    have HSY : Hid _ := fun (W : World) => sizeI_any (scont ys) W hcy1
    have hx1 := hxn hx0
    have hx2 := hxq hx0
    have hy1 := hyn hy0
    have hy2 := hyq hy0
    have HFX' : Hid _ := HFX.out hx0
    have HFY' : Hid _ := HFY.out hy0
    clear hxn hxq hyn hyq HFX HFY hdv hy0 hx0
    unfold FaC at HFX' HFY'
    generalize (ByteArray.mk (ptext xs).toArray) = TX at *
    generalize (ByteArray.mk (ptext ys).toArray) = TY at *
    generalize scont xs = cx at *
    generalize (ByteArray.mk (Lib.itoa cx).toArray) = SX at *
    generalize scont ys = cy at *
    generalize (ByteArray.mk (Lib.itoa cy).toArray) = SY at *
    have hcx2 : cx.natAbs < 1000000000000 := by have : (10 : Nat) ^ 12 = 1000000000000 := by decide
                                                omega
    have hcy2 : cy.natAbs < 1000000000000 := by have : (10 : Nat) ^ 12 = 1000000000000 := by decide
                                                omega
    generalize cx.natAbs = nx at *
    generalize cy.natAbs = ny at *
    clear hcx1 hcy1 bx by' lx ly tx ty
    go_wp2_with fail
    refine (HTY.out w1 hb1).mono ?_
    rintro e w2 ⟨rfl, hb2⟩
    have hbw2 := hb1.trans (hb2.mono hb1.size)
    go_wp2_with fail
    refine (HTX.out w2 hbw2).mono ?_
    rintro e w3 ⟨rfl, hb3⟩
    have hbw3 := hbw2.trans (hb3.mono hbw2.size)
    go_wp2_with fail
    refine (HFX'.out w3 hbw3).mono ?_
    rintro e w4 ⟨⟨va, pa, hFa, hOa, rfl⟩, hb4⟩
    have hbw4 := hbw3.trans (hb4.mono hbw3.size)
    go_wp2_with fail
    refine (HFY'.out w4 hbw4).mono ?_
    rintro e w5 ⟨⟨vb, pb, hFb, hOb, rfl⟩, hb5⟩
    have hbw5 := hbw4.trans (hb5.mono hbw4.size)
    have HA : Hid _ := HALL.out pa pb ⟨_, hFa.fac⟩ ⟨_, hFb.fac⟩ hOa hOb
    have hla := hFa.own.lower (Nat.zero_le _) |>.below hb5
    have hlb := hFb.own.lower (Nat.zero_le _)
    have HOa : Hid (PtOK pa) := hOa
    have lb := hOb.1
    clear hFa hFb hOa hOb HALL HFX' HFY' hb2 hb3 hb4 hb5
    obtain ⟨aa, ca', rfl⟩ := hla.val
    obtain ⟨ab, cb', rfl⟩ := hlb.val
    have hny : ¬ (ny : Int) = 0 := by omega
    have hny2 : ((ny : Int) == 0) = false := by rw [beq_eq_false_iff_ne]; exact hny
    go_wp2_with fail
    refine (HSY.out w5).mono ?_
    rintro e w6 ⟨rfl, hb6⟩
    go_wp2_with fail
    refine (HSX.out w6).mono ?_
    rintro e w7 ⟨rfl, hb7⟩
    go_wp2_with fail
    refine (HSY.out w7).mono ?_
    rintro e w8 ⟨rfl, hb8⟩
    have hb58 := (hb6.trans (hb7.mono hb6.size)).trans (hb8.mono (by have := hb6.size; have := hb7.size; omega))
    have hla8 := hla.below hb58
    have hlb8 := hlb.below hb58
    have hbw8 := hbw5.trans (hb58.mono hbw5.size)
    obtain ⟨b0, HB0⟩ : ∃ b0, Hid (b0 = decide (nx % ny = 0)) := ⟨_, rfl⟩
    rw [← HB0.out] at HA
    have hrem : (nx : Int).tmod (ny : Int) = ((nx % ny : Nat) : Int) := by rw [Int.tmod_eq_emod_of_nonneg (by omega)]; rfl
    have hrw : IntKind.i64.wrap (((nx % ny : Nat) : Int)) = ((nx % ny : Nat) : Int) := by
      have := Nat.mod_lt nx (show ny > 0 by omega)
      rw [IntKind.wrap_i64]; omega
    have hb0 : (((nx % ny : Nat) : Int) == 0) = b0 := by
      rw [HB0.out]
      by_cases h : nx % ny = 0
      · rw [h]; rfl
      · rw [decide_eq_false h, beq_eq_false_iff_ne]; omega
    have hnm : ¬ (ny : Int) = -1 := by omega
    generalize ((nx % ny : Nat) : Int) = RR at *
    clear hb6 hb7 hb8 hla hlb
    go_wp2_with fail
    go_loopw [88, 14] (fun k b wr => ∃ i : Nat, k = .int .i64 (i : Nat) ∧ i ≤ pb.length ∧ b = .bool (allT pa b0 (pb.take i)) ∧ Below w8.heap.size w8 wr) (fun k _ _ => pb.length - (intOf k).toNat)
    case atStart => exact ⟨0, rfl, by omega, rfl, Below.refl _ _⟩
    case round =>
      obtain ⟨i, rfl, hi, rfl, hbel⟩ := hrel
      by_cases hlt : i < pb.length
      · obtain ⟨gg, x, rfl, hc1, hc2, hgg, _, q1, q2, hxm⟩ := (hlb8.below hbel).at i hlt
        have hii : (i : Int) < (pb.length : Int) := by omega
        have HNX : Hid (allT pa b0 (pb.take (i + 1)) = (allT pa b0 (pb.take i) && decide (x.2 ≤ oftT pa (ptext x.1)))) := by
          show _ = _
          rw [show pb.take (i + 1) = pb.take i ++ [x] by rw [List.take_add_one, hxm]; rfl, allT_snoc]
        have la1 := oftT_le (ptext x.1) HOa.out.2
        have HAo : Hid _ := fun (V : World) (h : Below w8.heap.size w8 V) => often_any pa ⟨(ptext x.1).toArray⟩ _ V (hla8.below h) HOa.out
        have e1 : (ByteArray.mk (ptext x.1).toArray).data.toList = ptext x.1 := rfl
        rw [e1] at HAo
        clear e1
        generalize oftT pa (ptext x.1) = na at *
        generalize (ByteArray.mk (ptext x.1).toArray) = TB at *
        generalize x.2 = E at *
        generalize allT pa b0 (pb.take i) = bb at *
        clear hxm
        cases bb
        · go_wp2_with fail
          obtain ⟨W7, HW7⟩ : ∃ W7, Hid (wr.alloc (Obj.cells #[Value.string TB, Value.int IntKind.i64 (E : Nat)] 40) = W7) := ⟨_, rfl⟩
          have hb7 : Below wr.heap.size wr W7 := by rw [← HW7.out]; exact (Below.refl _ _).alloc (Nat.le_refl _) _
          rw [HW7.out]
          have hbel7 := hbel.trans (hb7.mono hbel.size)
          clear HW7 hb7
          refine wp_region_below (by kernel_rfl) (by kernel_rfl) ?_
          refine q_run (v := .bool false) rfl (fun _ _ => rfl) ?_
          refine q_run_skip (v := .bool false) 7 1 93 rfl (fun _ _ => rfl) rfl rfl ?_ ?_
          · intro o' ho'
            simp at ho'
            rcases ho' with rfl | rfl | rfl | rfl | rfl | rfl | rfl <;> exact ⟨rfl, by simp⟩
          simp only [List.drop_succ_cons, List.drop_zero, List.take_succ_cons, List.take_zero, List.foldl_cons, List.foldl_nil, Act.put, List.setIfInBounds_toArray, List.set_cons_succ, List.set_cons_zero]
          refine q_run (v := .bool false) rfl (fun w' hw' => by go_simp) ?_
          simp only [Act.put, tA, tB, tC]
          refine q_run (v := .bool false) rfl (fun w' hw' => by go_simp) ?_
          simp only [Act.put, tA, tB, tC]
          refine wpQuiet_nil ?_
          intro w3' hb3'
          have hbel8 := hbel7.trans (hb3'.mono hbel7.size)
          go_wp2
          go_roundw
          case rel => exact ⟨i + 1, by go_num, by omega, by rw [HNX.out]; rfl, hbel8⟩
          case measure => simp [intOf]; omega
        · go_wp2_with fail
          obtain ⟨W7, HW7⟩ : ∃ W7, Hid (wr.alloc (Obj.cells #[Value.string TB, Value.int IntKind.i64 (E : Nat)] 40) = W7) := ⟨_, rfl⟩
          have hb7 : Below wr.heap.size wr W7 := by rw [← HW7.out]; exact (Below.refl _ _).alloc (Nat.le_refl _) _
          have hcS : W7.cell? ⟨wr.heap.size, 0, none⟩ = some (.string TB) ∧ W7.cell? ⟨wr.heap.size, 1, none⟩ = some (.int .i64 (E : Nat)) := by
            have hh : W7.heap[wr.heap.size]? = some (.cells #[Value.string TB, Value.int IntKind.i64 (E : Nat)] 40 (0, 0)) := by rw [← HW7.out]; exact heap_alloc_new wr _
            constructor <;> simp [World.cell?, hh]
          have hk7 : wr.heap.size < W7.heap.size := by rw [← HW7.out]; simp
          rw [HW7.out]
          have hbd : Below W7.heap.size W7 W7.drew := ⟨rfl, rfl, rfl, Nat.le_refl _, fun _ _ => rfl⟩
          have hSV : ∀ V, Below W7.heap.size W7 V → V.cell? ⟨wr.heap.size, 0, none⟩ = some (.string TB) ∧ V.cell? ⟨wr.heap.size, 1, none⟩ = some (.int .i64 (E : Nat)) := fun V h => ⟨(h.cell (p := ⟨wr.heap.size, 0, none⟩) hk7).trans hcS.1, (h.cell (p := ⟨wr.heap.size, 1, none⟩) hk7).trans hcS.2⟩
          have hbel7 := hbel.trans (hb7.mono hbel.size)
          clear HW7 hb7 hcS
          generalize wr.heap.size = kx at *
          refine wp_region_held_drew (S := fun V => V.cell? ⟨kx, 0, none⟩ = some (.string TB) ∧ V.cell? ⟨kx, 1, none⟩ = some (.int .i64 (E : Nat))) (by kernel_rfl) (hSV _ hbd) fun hS => ?_
          have hbelV := hbel7.trans (hbd.mono hbel7.size)
          generalize W7.drew = V0 at *
          refine h_take 0 92 (.bool true) rfl rfl (by kernel_rfl) (by kernel_rfl) (by kernel_rfl) (fun _ _ _ h => h) rfl (fun _ _ => by first | rfl | go_simp) hS ?_
          simp only [Act.put, tA, tB, tC]
          refine h_take 1 93 (.bool true) rfl rfl (by kernel_rfl) (by kernel_rfl) (by kernel_rfl) (fun _ _ _ h => h) rfl (fun _ _ => by first | rfl | go_simp) hS ?_
          simp only [Act.put, tA, tB, tC]
          refine h_take 2 94 (.slice aa pa.length ca') rfl rfl (by kernel_rfl) (by kernel_rfl) (by kernel_rfl) (fun _ _ _ h => h) rfl (fun _ _ => by first | rfl | go_simp) hS ?_
          simp only [Act.put, tA, tB, tC]
          refine h_take 3 95 (.pointer (some ⟨kx, 0, none⟩)) rfl rfl (by kernel_rfl) (by kernel_rfl) (by kernel_rfl) (fun _ _ _ h => h) rfl (fun _ _ => by first | rfl | go_simp) hS ?_
          simp only [Act.put, tA, tB, tC]
          refine h_take 4 96 (.string TB) rfl rfl (by kernel_rfl) (by kernel_rfl) (by kernel_rfl) (fun _ _ _ h => h) rfl (fun w' hw' => by obtain ⟨y0, y1⟩ := hw'; go_simp) hS ?_
          simp only [Act.put, tA, tB, tC]
          refine h_take 6 98 (.pointer (some ⟨kx, 1, none⟩)) rfl rfl (by kernel_rfl) (by kernel_rfl) (by kernel_rfl) (fun _ _ _ h => h) rfl (fun _ _ => by first | rfl | go_simp) hS ?_
          simp only [Act.put, tA, tB, tC]
          refine h_take 7 99 (.int .i64 (E : Nat)) rfl rfl (by kernel_rfl) (by kernel_rfl) (by kernel_rfl) (fun _ _ _ h => h) rfl (fun w' hw' => by obtain ⟨y0, y1⟩ := hw'; go_simp) hS ?_
          simp only [Act.put, tA, tB, tC]
          refine h_call 5 97 28 #[.slice aa pa.length ca', .string TB] rfl rfl (by kernel_rfl) rfl (by go_simp) ?_
          refine (HAo.out V0 hbelV).mono ?_
          rintro en w8' ⟨rfl, hb8⟩
          have hbd8 := hbd.trans (hb8.mono hbd.size)
          have hbel8 := hbelV.trans (hb8.mono hbelV.size)
          have hS := hSV _ hbd8
          refine ⟨_, rfl, hS, ?_⟩
          simp only [Act.put, tA, tB, tC]
          have hge : decide ((E : Int) ≤ (na : Int)) = decide (E ≤ na) := decide_eq_decide.2 (by omega)
          refine h_val 8 100 (w' := w8') (.bool (decide (E ≤ na))) rfl rfl (by kernel_rfl) rfl (by
            rw [← hge]
            go_simp) hS ?_
          simp only [Act.put, tA, tB, tC]
          refine h_val 9 101 (w' := w8') (.bool (decide (E ≤ na))) rfl rfl (by kernel_rfl) rfl (by go_simp) hS ?_
          simp only [Act.put, tA, tB, tC]
          refine h_val 10 14 (w' := w8') (.bool (decide (E ≤ na))) rfl rfl (by kernel_rfl) rfl (by go_simp) hS ?_
          simp only [Act.put, tA, tB, tC]
          refine wpAnyH_done (by kernel_rfl) ?_ _
          clear hge
          generalize decide (E ≤ na) = dd at *
          go_wp2
          go_roundw
          case rel => exact ⟨i + 1, by go_num, by omega, by rw [HNX.out]; rfl, hbel8⟩
          case measure => simp [intOf]; omega
      · obtain rfl : i = pb.length := by omega
        rw [List.take_length, HA.out]
        go_wp2
        go_ret
        exact ⟨rfl, hbw8.trans (hbel.mono hbw8.size)⟩
  · have tQ : Tr (tz Q) := tr_tz Q
    have HEV : Hid (∀ t, ev t xs = ev t ys * ev t (tz Q)) := fun t => by rw [ev_tz]; exact dvs_some hdv t
    have hy1 := hyn hy0
    have hy2 := hyq hy0
    generalize tz Q = Z at *
    have HY0 : Hid _ := hy0
    clear hdv hyn hyq HFX HFY hy0
    rcases hBV with ⟨hi, rfl, hr⟩ | ⟨_, rfl, rfl⟩
    · have lz := inB_len hi
      have bz := inB_bd hi
      obtain ⟨kr, vr, rfl, _⟩ := id hr
      have HTZ : Hid _ := fun (W : World) (h : Below w1.heap.size w1 W) => polyText_any Z _ W (hr.below h) hi ((ht.below hb1).below h)
      generalize (ByteArray.mk (ptext ys).toArray) = TY at *
      by_cases hx0 : xs = []
      · have hz0 : Z = [] := tQ.zero fun t => by
          have h1 := Pp.cancel (x := Z) (y := []) ty HY0.out (fun t => by rw [← HEV.out, hx0]; show (0 : Int) = _ * 0; simp) t
          exact h1
        have e0 : ptext xs = [48] := (ptext_zero tx lx).2 hx0
        have e1 : ptext Z = [48] := (ptext_zero tQ lz).2 hz0
        rw [e0] at HTX
        rw [e1] at HTZ
        clear hx0 hz0 e0 e1 hxn hxq
        go_wp2_with fail
        refine (HTY.out w1 hb1).mono ?_
        rintro e w2 ⟨rfl, hb2⟩
        have hbw2 := hb1.trans (hb2.mono hb1.size)
        go_wp2_with fail
        refine (HTX.out w2 hbw2).mono ?_
        rintro e w3 ⟨rfl, hb3⟩
        have hb23 := hb2.trans (hb3.mono hb2.size)
        go_wp2_with fail
        refine (HTZ.out w3 hb23).mono ?_
        rintro e w4 ⟨rfl, hb4⟩
        go_wp2
        go_ret
        exact ⟨rfl, (hb1.trans (hb23.mono hb1.size)).trans (hb4.mono (by have := hb1.size; have := hb23.size; omega))⟩
      · have hx1 := hxn hx0
        have hx2 := hxq hx0
        have HCX : Hid _ := fun (m : Int) (W : World) (h1 : 1000 < m) (h2 : m ≤ 2147483647) => coefsP_any xs 12 m W lx bx (by omega) h1 h2
        have HCY : Hid _ := fun (m : Int) (W : World) (h1 : 1000 < m) (h2 : m ≤ 2147483647) => coefsP_any ys 12 m W ly by' (by omega) h1 h2
        have HCZ : Hid _ := fun (m : Int) (W : World) (h1 : 1000 < m) (h2 : m ≤ 2147483647) => coefsP_any Z 12 m W lz bz (by omega) h1 h2
        have HTY2 : Hid (∀ (W : World), Below w.heap.size w W → Calls Tryz.prog 17 #[.pointer (some ⟨kq, 0, none⟩)] W fun e w' => e = .returned (.string ⟨(ptext ys).toArray⟩) ∧ Below W.heap.size W w') := fun W h => polyText_any ys _ W (hq.below h) hy (ht.below h)
        generalize (ByteArray.mk (ptext xs).toArray) = TX at *
        generalize (ByteArray.mk (ptext ys).toArray) = TYY at *
        generalize (ByteArray.mk (ptext Z).toArray) = TZ at *
        clear hxn hxq hx0 HY0 hr hi bz bx by' tQ tx ty
        go_wp2_with fail
        refine (HTY.out w1 hb1).mono ?_
        rintro e w2 ⟨rfl, hb2⟩
        have hbw2 := hb1.trans (hb2.mono hb1.size)
        go_wp2_with fail
        refine (HTX.out w2 hbw2).mono ?_
        rintro e w3 ⟨rfl, hb3⟩
        have hb23 := hb2.trans (hb3.mono hb2.size)
        go_wp2_with fail
        refine (primes_any w3).mono ?_
        rintro e w6 ⟨ap, cp, rfl, hpr, hb6⟩
        have hb16 := hb23.trans (hb6.mono hb23.size)
        have hpl : prs.length = 4 := rfl
        have HPR : Hid _ := fun (V : World) (h : Below w6.heap.size w6 V) => hpr.below h
        rw [hpl]
        clear hpr hb2 hb3 hb23 hb6 hbw2 HTY
        go_wp2_with fail
        go_loopw [111] (fun k wr => ∃ i : Nat, k = .int .i64 (i : Nat) ∧ i ≤ 4 ∧ Below w6.heap.size w6 wr) (fun k _ => 4 - (intOf k).toNat)
        case atStart => exact ⟨0, rfl, by omega, Below.refl _ _⟩
        case round =>
          obtain ⟨i, rfl, hi4, hbel⟩ := hrel
          by_cases hlt : i < 4
          · obtain ⟨m, hm0, hmm, hm1, hm2⟩ := prs_at hlt
            obtain ⟨g, hga, hc1, hc2, hg, hcell⟩ := (HPR.out wr hbel).at i (by rw [hpl]; exact hlt)
            rw [hm0] at hcell
            subst hga
            rw [hpl] at hc1
            have hii : (i : Int) < 4 := by omega
            clear hm0 hmm
            have hb1r := hb16.trans (hbel.mono hb16.size)
            go_wp2_with fail
            refine (HTX.out wr (hb1.trans (hb1r.mono hb1.size))).mono ?_
            rintro e v1 ⟨rfl, hv1⟩
            go_wp2_with fail
            refine (HCX.out m v1 hm1 hm2).mono ?_
            rintro e v2 ⟨x7, u7, rfl, hO7, hC7, hv2⟩
            have hr2 := hv1.trans (hv2.mono hv1.size)
            have hb12 := hb1r.trans (hr2.mono hb1r.size)
            go_wp2_with fail
            refine (HTY2.out v2 (hb1.trans (hb12.mono hb1.size))).mono ?_
            rintro e v3 ⟨rfl, hv3⟩
            go_wp2_with fail
            refine (HCY.out m v3 hm1 hm2).mono ?_
            rintro e v4 ⟨x8, u8, rfl, hO8, hC8, hv4⟩
            have hr24 := hv3.trans (hv4.mono hv3.size)
            have hr4 := hr2.trans (hr24.mono hr2.size)
            have hb14 := hb1r.trans (hr4.mono hb1r.size)
            go_wp2_with fail
            refine (HTZ.out v4 hb14).mono ?_
            rintro e v5 ⟨rfl, hv5⟩
            go_wp2_with fail
            refine (HCZ.out m v5 hm1 hm2).mono ?_
            rintro e v6 ⟨x9, u9, rfl, hO9, hC9, hv6⟩
            have hr46 := hv5.trans (hv6.mono hv5.size)
            have hr6 := hr4.trans (hr46.mono hr4.size)
            have HV7 : Hid _ := fun (x : Int) (V : World) (h : Below v6.heap.size v6 V) => valueC_any x x7 V (((hO7.row.below hr24).below hr46).below h) hC7 lx hm1 hm2
            have HV8 : Hid _ := fun (x : Int) (V : World) (h : Below v6.heap.size v6 V) => valueC_any x x8 V ((hO8.row.below hr46).below h) hC8 ly hm1 hm2
            have HV9 : Hid _ := fun (x : Int) (V : World) (h : Below v6.heap.size v6 V) => valueC_any x x9 V (hO9.row.below h) hC9 lz hm1 hm2
            have hbel6 := hbel.trans (hr6.mono hbel.size)
            clear hv1 hv2 hv3 hv4 hv5 hv6 hr2 hr24 hr4 hr46 hr6 hO7 hO8 hO9 hC7 hC8 hC9 hb12 hb14 hb1r hcell hc1 hc2 hg
            go_wp2_with fail
            go_loopw [25] (fun k wr => ∃ j : Nat, k = .int .i64 ((j : Int) - 6) ∧ j ≤ 13 ∧ Below v6.heap.size v6 wr) (fun k _ => (7 - intOf k).toNat)
            case atStart => exact ⟨0, rfl, by omega, Below.refl _ _⟩
            case round =>
              obtain ⟨j, rfl, hj, hbj⟩ := hrel
              by_cases hjl : j < 13
              · have hjj : (j : Int) - 6 < 7 := by omega
                obtain ⟨x, HX⟩ : ∃ x : Int, Hid ((j : Int) - 6 = x) := ⟨_, rfl⟩
                have hxl : x < 7 := by rw [← HX.out]; exact hjj
                have hxg : -6 ≤ x := by rw [← HX.out]; omega
                rw [HX.out]
                have HZ2 : Hid (ev x xs % m = (ev x ys % m) * (ev x Z % m) % m) := by show _ = _; rw [HEV.out x, Int.mul_emod]
                have z1 : 0 ≤ ev x ys % m := Int.emod_nonneg _ (by omega)
                have z2 : ev x ys % m < m := Int.emod_lt_of_pos _ (by omega)
                have z3 : 0 ≤ ev x Z % m := Int.emod_nonneg _ (by omega)
                have z4 : ev x Z % m < m := Int.emod_lt_of_pos _ (by omega)
                have z7 : 0 ≤ ev x xs % m := Int.emod_nonneg _ (by omega)
                have z8 : ev x xs % m < m := Int.emod_lt_of_pos _ (by omega)
                have c7 := HV7.out x wr hbj
                have C8 : Hid _ := fun (V : World) (h : Below v6.heap.size v6 V) => HV8.out x V h
                have C9 : Hid _ := fun (V : World) (h : Below v6.heap.size v6 V) => HV9.out x V h
                generalize ev x xs % m = X7 at *
                generalize ev x ys % m = X8 at *
                generalize ev x Z % m = X9 at *
                obtain ⟨z5, z6⟩ := mul_rng z1 z2 z3 z4 hm2
                have t1 : (X8 * X9).tmod m = X7 := by rw [HZ2.out]; exact Int.tmod_eq_emod_of_nonneg z5
                have t2 : IntKind.i64.wrap (X8 * X9) = X8 * X9 := by rw [IntKind.wrap_i64]; omega
                have t3 : IntKind.i64.wrap X7 = X7 := by rw [IntKind.wrap_i64]; omega
                have hm0 : ¬ m = 0 := by omega
                have hmn' : ¬ m = -1 := by omega
                generalize hX : X8 * X9 = XX at *
                go_wp2_with fail
                refine c7.mono ?_
                rintro e y1 ⟨rfl, hy1'⟩
                have hbj1 := hbj.trans (hy1'.mono hbj.size)
                go_wp2_with fail
                refine (C8.out y1 hbj1).mono ?_
                rintro e y2 ⟨rfl, hy2'⟩
                have hbj2 := hbj1.trans (hy2'.mono hbj1.size)
                go_wp2_with fail
                refine (C9.out y2 hbj2).mono ?_
                rintro e y3 ⟨rfl, hy3'⟩
                have hbj3 := hbj2.trans (hy3'.mono hbj2.size)
                go_wp2
                go_roundw
                case rel => exact ⟨j + 1, by rw [← HX.out]; go_num, by omega, hbj3⟩
                case measure => simp [intOf]; omega
              · obtain rfl : j = 13 := by omega
                go_wp2
                go_roundw
                case rel => exact ⟨i + 1, by go_num, by omega, hbel6.trans (hbj.mono hbel6.size)⟩
                case measure => simp [intOf]; omega
          · obtain rfl : i = 4 := by omega
            have hb1r := hb16.trans (hbel.mono hb16.size)
            go_wp2
            go_ret
            exact ⟨rfl, hb1.trans (hb1r.mono hb1.size)⟩
    · generalize (ByteArray.mk (ptext ys).toArray) = TY at *
      go_wp2_with fail
      refine (HTY.out w1 hb1).mono ?_
      rintro e w2 ⟨rfl, hb2⟩
      go_wp2
      go_ret
      exact ⟨rfl, hb1.trans (hb2.mono hb1.size)⟩

end Go.Proofs.YtldcjkhbiffdoabGreatDoor

set_option linter.unusedSimpArgs false
namespace Go.Proofs.YtldcjkhbiffdoabGreatDoor
open Go.RowKit

set_option maxRecDepth 100000 in
set_option maxHeartbeats 4000000 in
theorem Divided_any (s t : ByteArray) (w : World) (ht : Tab w) (hs0 : s.size ≤ 9223372036854775807) (ht0 : t.size ≤ 9223372036854775807) :
    Calls Tryz.prog 6 #[.string s, .string t] w fun e w' => e = .returned (.bool true) ∧ Below w.heap.size w w' := by
  have h1 := of_any s w ht hs0
  have H2 : Hid _ := fun (V : World) (h : Below w.heap.size w V) => of_any t V (ht.below h) ht0
  go_enter Tryz.func6, Tryz.ntmps6
  go_wp2_with fail
  refine h1.mono ?_
  rintro e w1 ⟨p, rfl, hp, hb1⟩
  go_wp2_with fail
  refine (H2.out w1 hb1).mono ?_
  rintro e w2 ⟨q, rfl, hq, hb2⟩
  have hb2w := hb1.trans (hb2.mono hb1.size)
  have hp2 := hp.below hb2
  rcases hp2 with rfl | ⟨xs, hx, tx, hpx⟩
  · go_wp2
    go_ret
    exact ⟨rfl, hb2w⟩
  · rcases hq with rfl | ⟨ys, hy, ty, hqy⟩
    · obtain ⟨kp, vp, rfl, _⟩ := id hpx
      go_wp2
      go_ret
      exact ⟨rfl, hb2w⟩
    · have hC := divided_any xs ys p q w2 hpx hqy hx hy tx ty (ht.below hb2w)
      obtain ⟨kp, vp, rfl, _⟩ := id hpx
      obtain ⟨kq, vq, rfl, _⟩ := id hqy
      go_wp2_with fail
      refine hC.mono ?_
      rintro e w3 ⟨rfl, hb3⟩
      go_wp2
      go_ret
      exact ⟨rfl, hb2w.trans (hb3.mono hb2w.size)⟩

end Go.Proofs.YtldcjkhbiffdoabGreatDoor
