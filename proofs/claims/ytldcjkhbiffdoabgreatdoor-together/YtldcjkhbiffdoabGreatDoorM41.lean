import Derived.Test.YtldcjkhbiffdoabGreatDoorM22
import Derived.Test.YtldcjkhbiffdoabGreatDoorM39
import Derived.Test.YtldcjkhbiffdoabGreatDoorCKCmn
import Derived.Test.YtldcjkhbiffdoabGreatDoorM09

set_option linter.unusedSimpArgs false
namespace Go.Proofs.YtldcjkhbiffdoabGreatDoor
open Go.RowKit

theorem ev_pmul (xs ys : List Int) (t : Int) : ev t (pmul xs ys) = ev t xs * ev t ys := by
  unfold pmul
  rw [ev_tz, ev_prodTo]

theorem pmul_ne {xs ys : List Int} (tx : Tr xs) (ty : Tr ys) (hx : xs ≠ []) (hy : ys ≠ []) : pmul xs ys ≠ [] := (mul_len (tr_tz _) tx ty hx hy fun t => ev_pmul xs ys t).1

theorem pmul_nil {xs ys : List Int} (h : xs = [] ∨ ys = []) : pmul xs ys = [] := (tr_tz _ : Tr (pmul xs ys)).zero fun t => by
  show ev t (pmul xs ys) = 0
  rw [ev_pmul]
  rcases h with rfl | rfl
  · show 0 * _ = (0 : Int); simp
  · show _ * 0 = (0 : Int); simp

theorem mul_mod2 (a b m : Int) : (a * b) % m = (a % m) * (b % m) % m := by rw [Int.mul_emod]

def FaC (f : Nat) (p : Value) (zs : List Int) (W : World) : Prop := Calls Tryz.prog f #[p] W fun e w' => (∃ v ps, FacV w' W.heap.size zs ps v ∧ PtOK ps ∧ e = .returned (.tuple #[.string ⟨(Lib.itoa (scont zs)).toArray⟩, v, .int .i64 0])) ∧ Below W.heap.size W w'

theorem factor_ne {zs : List Int} {p : Value} {W : World} (hp : IsP W p zs) (hB : inB zs = true) (tx : Tr zs) (hne : zs ≠ []) (ht : Tab W) : FaC 18 p zs W :=
  (factorP_any zs p W hp hB tx ht).mono fun e w' hE => by
    obtain ⟨h1 | ⟨_, v, ps, h2, h3⟩, h4⟩ := hE
    · exact absurd h1.1 hne
    · exact ⟨⟨v, ps, h2, h2.ok tx hne (inB_len hB), h3⟩, h4⟩

set_option maxRecDepth 100000 in
set_option maxHeartbeats 8000000 in
theorem together_any (xs ys : List Int) (p q : Value) (w : World) (hp : IsP w p xs) (hq : IsP w q ys) (hx : inB xs = true) (hy : inB ys = true) (tx : Tr xs) (ty : Tr ys) (ht : Tab w) :
    Calls Tryz.prog 11 #[p, q] w fun e w' => e = .returned (.bool true) ∧ Below w.heap.size w w' := by
  have lx := inB_len hx
  have ly := inB_len hy
  obtain ⟨M, HM⟩ : ∃ M, Hid (pmul xs ys = M) := ⟨_, rfl⟩
  have tM : Tr M := by rw [← HM.out]; exact tr_tz _
  have HEV : Hid (∀ t, ev t M = ev t xs * ev t ys) := fun t => by rw [← HM.out]; exact ev_pmul xs ys t
  have hMul := mulP_any xs ys p q w hp hq hx hy ht
  rw [HM.out] at hMul
  have HTM : Hid _ := fun (W : World) (u : Value) (h : Below w.heap.size w W) (hu : IsP W u M) (hi : inB M = true) => polyText_any M u W hu hi (ht.below h)
  have HTX : Hid _ := fun (W : World) (h : Below w.heap.size w W) => polyText_any xs p W (hp.below h) hx (ht.below h)
  have HTY : Hid _ := fun (W : World) (h : Below w.heap.size w W) => polyText_any ys q W (hq.below h) hy (ht.below h)
  by_cases hM0 : M = []
  · have hxy : xs = [] ∨ ys = [] := by
      refine Classical.byContradiction fun hn => ?_
      have h1 : xs ≠ [] := fun e => hn (.inl e)
      have h2 : ys ≠ [] := fun e => hn (.inr e)
      exact pmul_ne tx ty h1 h2 (HM.out.trans hM0)
    have eM : ptext M = [48] := (ptext_zero tM (by rw [hM0]; simp)).2 hM0
    have hiM : inB M = true := by rw [hM0]; rfl
    rw [eM] at HTM
    obtain ⟨kp, vp, rfl, _⟩ := id hp
    obtain ⟨kq, vq, rfl, _⟩ := id hq
    have HIM : Hid _ := hiM
    clear hM0 HEV HM hiM eM
    by_cases hx0 : xs = []
    · have e0 : ptext xs = [48] := (ptext_zero tx lx).2 hx0
      rw [e0] at HTX
      clear hxy hx0 e0
      go_enter Tryz.func11, Tryz.ntmps11
      go_wp2_with fail
      refine hMul.mono ?_
      rintro e w1 ⟨r, er, rfl, hBV, hb1⟩
      rcases hBV with ⟨hi, rfl, hr⟩ | ⟨hi, _⟩
      · obtain ⟨kr, vr, rfl, _⟩ := id hr
        go_wp2_with fail
        refine (HTM.out w1 _ hb1 hr HIM.out).mono ?_
        rintro e w2 ⟨rfl, hb2⟩
        have hbw2 := hb1.trans (hb2.mono hb1.size)
        go_wp2_with fail
        refine (HTX.out w2 hbw2).mono ?_
        rintro e w3 ⟨rfl, hb3⟩
        have hbw3 := hbw2.trans (hb3.mono hbw2.size)
        go_wp2
        go_ret
        exact ⟨rfl, hbw3⟩
      · rw [HIM.out] at hi; cases hi
    · have hy0 : ys = [] := hxy.resolve_left hx0
      have e0 : ptext ys = [48] := (ptext_zero ty ly).2 hy0
      rw [e0] at HTY
      have hxn : ¬ (ByteArray.mk (ptext xs).toArray).toList = [48] := str_ne fun e => hx0 ((ptext_zero tx lx).1 e)
      have hxq := str_nq (a := ptext xs) fun e => hx0 ((ptext_zero tx lx).1 e)
      clear hxy hx0 e0 hy0
      generalize (ByteArray.mk (ptext xs).toArray) = TX at *
      go_enter Tryz.func11, Tryz.ntmps11
      go_wp2_with fail
      refine hMul.mono ?_
      rintro e w1 ⟨r, er, rfl, hBV, hb1⟩
      rcases hBV with ⟨hi, rfl, hr⟩ | ⟨hi, _⟩
      · obtain ⟨kr, vr, rfl, _⟩ := id hr
        go_wp2_with fail
        refine (HTM.out w1 _ hb1 hr HIM.out).mono ?_
        rintro e w2 ⟨rfl, hb2⟩
        have hbw2 := hb1.trans (hb2.mono hb1.size)
        go_wp2_with fail
        refine (HTX.out w2 hbw2).mono ?_
        rintro e w3 ⟨rfl, hb3⟩
        have hbw3 := hbw2.trans (hb3.mono hbw2.size)
        go_wp2_with fail
        refine (HTY.out w3 hbw3).mono ?_
        rintro e w4 ⟨rfl, hb4⟩
        have hbw4 := hbw3.trans (hb4.mono hbw3.size)
        go_wp2
        go_ret
        exact ⟨rfl, hbw4⟩
      · rw [HIM.out] at hi; cases hi
  · have hx0 : xs ≠ [] := fun e => hM0 (HM.out.symm.trans (pmul_nil (.inl e)))
    have hy0 : ys ≠ [] := fun e => hM0 (HM.out.symm.trans (pmul_nil (.inr e)))
    have HFM : Hid _ := fun (W : World) (u : Value) (h : Below w.heap.size w W) (hu : IsP W u M) (hi : inB M = true) => factor_ne hu hi tM hM0 (ht.below h)
    have HFX : Hid _ := fun (W : World) (h : Below w.heap.size w W) => factor_ne (hp.below h) hx tx hx0 (ht.below h)
    have HFY : Hid _ := fun (W : World) (h : Below w.heap.size w W) => factor_ne (hq.below h) hy ty hy0 (ht.below h)
    have HUN : Hid (∀ (pm pa pb : List (List Int × Nat)), (∃ c, Fac M c pm) → (∃ c, Fac xs c pa) → (∃ c, Fac ys c pb) → PtOK pm → PtOK pa → PtOK pb → (∀ x, x ∈ pm → x.2 = oftT pa (ptext x.1) + oftT pb (ptext x.1)) ∧ (∀ x, x ∈ pa ++ pb → 0 < oftT pm (ptext x.1)) ∧ scont M = scont xs * scont ys) := fun pm pa pb ⟨c1, fm⟩ ⟨c2, fa⟩ ⟨c3, fb⟩ om oa ob => by
      obtain rfl := fm.cont
      obtain rfl := fa.cont
      obtain rfl := fb.cont
      refine ⟨fun x hx => ?_, fun x hx => ?_, cont_prod tM hM0 fa fb fm HEV.out⟩
      · obtain ⟨h1, h2, h3⟩ := fm.each x hx
        have h4 := om.2 x hx
        rw [oftT_eq h4.1 h4.2.1 oa.2, oftT_eq h4.1 h4.2.1 ob.2, ← oft_mul tM hM0 fa fb fm HEV.out h1 h2, oft_asc fm.asc hx]
      · rcases List.mem_append.1 hx with hx | hx
        · obtain ⟨h1, h2, h3⟩ := fa.each x hx
          have h4 := oa.2 x hx
          rw [oftT_eq h4.1 h4.2.1 om.2, oft_mul tM hM0 fa fb fm HEV.out h1 h2]
          have := oft_mem hx
          omega
        · obtain ⟨h1, h2, h3⟩ := fb.each x hx
          have h4 := ob.2 x hx
          rw [oftT_eq h4.1 h4.2.1 om.2, oft_mul tM hM0 fa fb fm HEV.out h1 h2]
          have := oft_mem hx
          omega
    have HDV : Hid (∀ (W : World) (u : Value), Below w.heap.size w W → IsP W u M → inB M = true → Calls Tryz.prog 25 #[u, q] W fun e w' => ∃ r, e = .returned (.tuple #[r, .int .i64 0]) ∧ IsP w' r xs ∧ Below W.heap.size W w') := fun W u h hu hi => (divideP_any M ys u q W hu (hq.below h) hi hy tM (ht.below h)).mono fun e w' hE => by
      obtain ⟨r, er, h1, h2, h3⟩ := hE
      rcases h2 with ⟨h4, _⟩ | ⟨_, h4, _⟩ | ⟨_, Q, h4, h5⟩
      · exact absurd h4 hy0
      · obtain ⟨Q, hQ⟩ := dvs_of tM ty hy0 (Po.ev xs) fun t => by rw [HEV.out, Int.mul_comm]
        rw [hQ] at h4; cases h4
      · have hQ : tz Q = xs := Pp.ext (tr_tz Q) tx fun t => by
          rw [ev_tz]
          have e1 := dvs_some h4 t
          rw [HEV.out, Int.mul_comm] at e1
          exact (Pp.cancel ty hy0 (fun t => by have e2 := dvs_some h4 t; rw [HEV.out, Int.mul_comm] at e2; exact e2) t).symm
        rw [hQ] at h5
        rcases h5 with ⟨_, h6, h7⟩ | ⟨h6, _⟩
        · exact ⟨r, by rw [h1, h6], h7, h3⟩
        · rw [hx] at h6; cases h6
    have HCM : Hid (inB M = true → (scont M).natAbs < 10 ^ 12) := fun hi => scont_lt (inB_bd hi)
    have hcx : (scont xs).natAbs < 10 ^ 12 := scont_lt (inB_bd hx)
    have hcy : (scont ys).natAbs < 10 ^ 12 := scont_lt (inB_bd hy)
    have HCX : Hid _ := fun (m : Int) (W : World) (h1 : 1000 < m) (h2 : m ≤ 2147483647) => coefsI_any (scont xs) 12 m W hcx (by omega) h1 h2
    have HCY : Hid _ := fun (m : Int) (W : World) (h1 : 1000 < m) (h2 : m ≤ 2147483647) => coefsI_any (scont ys) 12 m W hcy (by omega) h1 h2
    have HCMm : Hid _ := fun (hi : inB M = true) (m : Int) (W : World) (h1 : 1000 < m) (h2 : m ≤ 2147483647) => coefsI_any (scont M) 12 m W (HCM.out hi) (by omega) h1 h2
    have hMn : ∀ (_ : inB M = true), ¬ (ByteArray.mk (ptext M).toArray).toList = [48] := fun hi => str_ne fun e => hM0 ((ptext_zero tM (inB_len hi)).1 e)
    have hMq : ∀ (_ : inB M = true), ((ByteArray.mk (ptext M).toArray).toList == [48]) = false := fun hi => str_nq (a := ptext M) fun e => hM0 ((ptext_zero tM (inB_len hi)).1 e)
    have HMN : Hid _ := hMn
    have HMQ : Hid _ := hMq
    obtain ⟨kp, vp, rfl, _⟩ := id hp
    obtain ⟨kq, vq, rfl, _⟩ := id hq
    clear hMn hMq hcx hcy hM0 hx0 hy0 HEV HM tM tx ty lx ly
    unfold FaC at HFM HFX HFY
    generalize (ByteArray.mk (ptext M).toArray) = TM at *
    generalize scont M = cM at *
    generalize hsx : (ByteArray.mk (Lib.itoa cM).toArray) = SM at *
    generalize scont xs = cx at *
    generalize (ByteArray.mk (Lib.itoa cx).toArray) = SX at *
    generalize scont ys = cy at *
    generalize (ByteArray.mk (Lib.itoa cy).toArray) = SY at *
    have HTX2 : Hid (∀ (V : World) (u : Value), Below w.heap.size w V → IsP V u xs → Calls Tryz.prog 17 #[u] V fun e w' => e = .returned (.string ⟨(ptext xs).toArray⟩) ∧ Below V.heap.size V w') := fun V u h hu => polyText_any xs u V hu hx (ht.below h)
    generalize (ByteArray.mk (ptext xs).toArray) = TX at *
    clear hsx hp hq hx hy
    go_enter Tryz.func11, Tryz.ntmps11
    go_wp2_with fail
    refine hMul.mono ?_
    rintro e w1 ⟨r, er, rfl, hBV, hb1⟩
    rcases hBV with ⟨hi, rfl, hr⟩ | ⟨_, rfl, rfl⟩
    · have HI : Hid _ := hi
      have hmn := HMN.out hi
      have hmq := HMQ.out hi
      obtain ⟨kr, vr, rfl, _⟩ := id hr
      go_wp2_with fail
      refine (HTM.out w1 _ hb1 hr hi).mono ?_
      rintro e w2 ⟨rfl, hb2⟩
      have hbw2 := hb1.trans (hb2.mono hb1.size)
      have hr2 := hr.below hb2
      go_wp2_with fail
      refine (HFM.out w2 _ hbw2 hr2 hi).mono ?_
      rintro e w3 ⟨⟨vm, pm, hFm, hOm, rfl⟩, hb3⟩
      have hbw3 := hbw2.trans (hb3.mono hbw2.size)
      have hr3 := hr2.below hb3
      go_wp2_with fail
      refine (HFX.out w3 hbw3).mono ?_
      rintro e w4 ⟨⟨va, pa, hFa, hOa, rfl⟩, hb4⟩
      have hbw4 := hbw3.trans (hb4.mono hbw3.size)
      have hr4 := hr3.below hb4
      go_wp2_with fail
      refine (HFY.out w4 hbw4).mono ?_
      rintro e w5 ⟨⟨vb, pb, hFb, hOb, rfl⟩, hb5⟩
      have hbw5 := hbw4.trans (hb5.mono hbw4.size)
      have hr5 := hr4.below hb5
      obtain ⟨hu1, hu2, hu3⟩ := HUN.out pm pa pb ⟨_, hFm.fac⟩ ⟨_, hFa.fac⟩ ⟨_, hFb.fac⟩ hOm hOa hOb
      have HU : Hid _ := (⟨hu1, hu2⟩ : _ ∧ _)
      have HU3 : Hid _ := hu3
      have hlm := hFm.own.lower (Nat.zero_le _) |>.below hb4 |>.below hb5
      have hla := hFa.own.lower (Nat.zero_le _) |>.below hb5
      have hlb := hFb.own.lower (Nat.zero_le _)
      have HOm : Hid _ := hOm
      have HOa : Hid _ := hOa
      have HOb : Hid _ := hOb
      clear hu1 hu2 hu3 hFm hFa hFb hOm hOa hOb HUN HFM HFX HFY hMul HTM hb2 hb3 hb4 hb5 hr hr2 hr3 hr4 hbw2 hbw3 hbw4
      obtain ⟨am, cm', rfl⟩ := hlm.val
      obtain ⟨aa, ca', rfl⟩ := hla.val
      obtain ⟨ab, cb', rfl⟩ := hlb.val
      go_wp2_with fail
      refine (primes_any w5).mono ?_
      rintro e w6 ⟨ap, cp, rfl, hpr, hb6⟩
      have hpl : prs.length = 4 := rfl
      have hbw6 := hbw5.trans (hb6.mono hbw5.size)
      have HPR : Hid _ := fun (V : World) (h : Below w6.heap.size w6 V) => hpr.below h
      rw [hpl]
      clear hpr
      go_wp2_with fail
      go_loopw [70] (fun k wr => ∃ i : Nat, k = .int .i64 (i : Nat) ∧ i ≤ 4 ∧ Below w6.heap.size w6 wr) (fun k _ => 4 - (intOf k).toNat)
      case atStart => exact ⟨0, rfl, by omega, Below.refl _ _⟩
      case round =>
        obtain ⟨i, rfl, hi4, hbel⟩ := hrel
        by_cases hlt : i < 4
        · obtain ⟨m, hm0, hmm, hm1, hm2⟩ := prs_at hlt
          obtain ⟨g, hga, hc1, hc2, hg, hcell⟩ := (HPR.out wr hbel).at i (by rw [hpl]; exact hlt)
          rw [hm0] at hcell
          subst hga
          rw [hpl] at hc1
          have hii : (i : Int) < 4 := by omega
          have hH : Hid _ := hm0
          clear hm0
          go_wp2_with fail
          refine (HCMm.out HI.out m wr hm1 hm2).mono ?_
          rintro e w7 ⟨x7, u7, rfl, hO7, hC7, hb7⟩
          go_wp2_with fail
          refine (HCX.out m w7 hm1 hm2).mono ?_
          rintro e w8 ⟨x8, u8, rfl, hO8, hC8, hb8⟩
          go_wp2_with fail
          refine (HCY.out m w8 hm1 hm2).mono ?_
          rintro e w9 ⟨x9, u9, rfl, hO9, hC9, hb9⟩
          have hbw9 := ((hbel.trans (hb7.mono hbel.size)).trans (hb8.mono (by have := hbel.size; have := hb7.size; omega))).trans (hb9.mono (by have := hbel.size; have := hb7.size; have := hb8.size; omega))
          have r7 := (hO7.row.below hb8).below hb9
          have r8 := hO8.row.below hb9
          have r9 := hO9.row
          have k7 : u7.getD 0 0 = cM % m := hC7.2 0 (by omega)
          have k8 : u8.getD 0 0 = cx % m := hC8.2 0 (by omega)
          have k9 : u9.getD 0 0 = cy % m := hC9.2 0 (by omega)
          have l7 := hC7.1
          have l8 := hC8.1
          have l9 := hC9.1
          obtain ⟨a7, c7, rfl⟩ := r7.val
          obtain ⟨a8, c8, rfl⟩ := r8.val
          obtain ⟨a9, c9, rfl⟩ := r9.val
          obtain ⟨g7, rfl, _, _, _, e7⟩ := r7.at 0 (by omega)
          obtain ⟨g8, rfl, _, _, _, e8⟩ := r8.at 0 (by omega)
          obtain ⟨g9, rfl, _, _, _, e9⟩ := r9.at 0 (by omega)
          rw [k7] at e7
          rw [k8] at e8
          rw [k9] at e9
          rw [l7, l8, l9]
          have hz : cM % m = (cx % m) * (cy % m) % m := by rw [HU3.out, mul_mod2]
          have z1 : 0 ≤ cx % m := Int.emod_nonneg _ (by omega)
          have z2 : cx % m < m := Int.emod_lt_of_pos _ (by omega)
          have z3 : 0 ≤ cy % m := Int.emod_nonneg _ (by omega)
          have z4 : cy % m < m := Int.emod_lt_of_pos _ (by omega)
          obtain ⟨z5, z6⟩ := mul_rng z1 z2 z3 z4 hm2
          generalize cM % m = X7 at *
          generalize cx % m = X8 at *
          generalize cy % m = X9 at *
          have t1 : (X8 * X9).tmod m = X7 := by rw [hz]; exact Int.tmod_eq_emod_of_nonneg z5
          have t2 : IntKind.i64.wrap (X8 * X9) = X8 * X9 := by rw [IntKind.wrap_i64]; omega
          have t3 : IntKind.i64.wrap X7 = X7 := by
            have : X7 < m := by rw [hz]; exact Int.emod_lt_of_pos _ (by omega)
            have : 0 ≤ X7 := by rw [hz]; exact Int.emod_nonneg _ (by omega)
            rw [IntKind.wrap_i64]; omega
          have hm0 : ¬ m = 0 := by omega
          have hmn' : ¬ m = -1 := by omega
          generalize hX : X8 * X9 = XX at *
          have HZ : Hid _ := hz
          clear hz k7 k8 k9 hC7 hC8 hC9 hO7 hO8 hO9 r7 r8 r9
          have hbd : Below w9.heap.size w9 w9.drew := ⟨rfl, rfl, rfl, Nat.le_refl _, fun _ _ => rfl⟩
          have hbwd := hbw9.trans (hbd.mono hbw9.size)
          go_wp2_with fail
          refine wp_region_held_drew (S := fun V => V.cell? ⟨g7, 0, none⟩ = some (.int .i64 X7) ∧ V.cell? ⟨g8, 0, none⟩ = some (.int .i64 X8) ∧ V.cell? ⟨g9, 0, none⟩ = some (.int .i64 X9)) (by kernel_rfl) ⟨e7, e8, e9⟩ fun hS => ?_
          clear e7 e8 e9 hbd
          generalize w9.drew = V0 at *
          refine h_take 0 92 (.slice (some ⟨g7, 0, none⟩) 11 c7) rfl rfl (by kernel_rfl) (by kernel_rfl) (by kernel_rfl) (fun _ _ _ h => h) rfl (fun _ _ => by first | rfl | go_simp) hS ?_
          simp only [Act.put, tA, tB, tC]
          refine h_take 1 93 (.pointer (some ⟨g7, 0, none⟩)) rfl rfl (by kernel_rfl) (by kernel_rfl) (by kernel_rfl) (fun _ _ _ h => h) rfl (fun _ _ => by first | rfl | go_simp) hS ?_
          simp only [Act.put, tA, tB, tC]
          refine h_take 2 94 (.int .i64 X7) rfl rfl (by kernel_rfl) (by kernel_rfl) (by kernel_rfl) (fun _ _ _ h => h) rfl (fun w' hw' => by obtain ⟨y0, y1, y2⟩ := hw'; go_simp) hS ?_
          simp only [Act.put, tA, tB, tC]
          refine h_take 3 95 (.slice (some ⟨g8, 0, none⟩) 11 c8) rfl rfl (by kernel_rfl) (by kernel_rfl) (by kernel_rfl) (fun _ _ _ h => h) rfl (fun _ _ => by first | rfl | go_simp) hS ?_
          simp only [Act.put, tA, tB, tC]
          refine h_take 4 96 (.pointer (some ⟨g8, 0, none⟩)) rfl rfl (by kernel_rfl) (by kernel_rfl) (by kernel_rfl) (fun _ _ _ h => h) rfl (fun _ _ => by first | rfl | go_simp) hS ?_
          simp only [Act.put, tA, tB, tC]
          refine h_take 5 97 (.int .i64 X8) rfl rfl (by kernel_rfl) (by kernel_rfl) (by kernel_rfl) (fun _ _ _ h => h) rfl (fun w' hw' => by obtain ⟨y0, y1, y2⟩ := hw'; go_simp) hS ?_
          simp only [Act.put, tA, tB, tC]
          refine h_take 6 98 (.slice (some ⟨g9, 0, none⟩) 11 c9) rfl rfl (by kernel_rfl) (by kernel_rfl) (by kernel_rfl) (fun _ _ _ h => h) rfl (fun _ _ => by first | rfl | go_simp) hS ?_
          simp only [Act.put, tA, tB, tC]
          refine h_take 7 99 (.pointer (some ⟨g9, 0, none⟩)) rfl rfl (by kernel_rfl) (by kernel_rfl) (by kernel_rfl) (fun _ _ _ h => h) rfl (fun _ _ => by first | rfl | go_simp) hS ?_
          simp only [Act.put, tA, tB, tC]
          refine h_take 8 100 (.int .i64 X9) rfl rfl (by kernel_rfl) (by kernel_rfl) (by kernel_rfl) (fun _ _ _ h => h) rfl (fun w' hw' => by obtain ⟨y0, y1, y2⟩ := hw'; go_simp) hS ?_
          simp only [Act.put, tA, tB, tC]
          refine h_take 9 101 (.int .i64 XX) rfl rfl (by kernel_rfl) (by kernel_rfl) (by kernel_rfl) (fun _ _ _ h => h) rfl (fun _ _ => by go_simp) hS ?_
          simp only [Act.put, tA, tB, tC]
          refine h_take 10 102 (.int .i64 m) rfl rfl (by kernel_rfl) (by kernel_rfl) (by kernel_rfl) (fun _ _ _ h => h) rfl (fun _ _ => by first | rfl | go_simp) hS ?_
          simp only [Act.put, tA, tB, tC]
          refine h_take 11 103 (.int .i64 X7) rfl rfl (by kernel_rfl) (by kernel_rfl) (by kernel_rfl) (fun _ _ _ h => h) rfl (fun _ _ => by go_simp) hS ?_
          simp only [Act.put, tA, tB, tC]
          refine h_take 12 104 (.bool false) rfl rfl (by kernel_rfl) (by kernel_rfl) (by kernel_rfl) (fun _ _ _ h => h) rfl (fun _ _ => by go_simp) hS ?_
          simp only [Act.put, tA, tB, tC]
          refine wpAnyH_done (by kernel_rfl) ?_ _
          go_wp2
          go_roundw
          case rel => exact ⟨i + 1, by go_num, by omega, hbwd⟩
          case measure => simp [intOf]; omega
        · obtain rfl : i = 4 := by omega
          have hbwr := hbw6.trans (hbel.mono hbw6.size)
          have hb6r := hb6.trans (hbel.mono hb6.size)
          have hr6 := hr5.below hb6r
          have hlm6 := hlm.below hb6r
          have hla6 := hla.below hb6r
          have hlb6 := hlb.below hb6r
          go_wp2_with fail
          refine (HDV.out wr _ hbwr hr6 HI.out).mono ?_
          rintro e w7 ⟨r7, rfl, hr7, hb7⟩
          have hbw7 := hbwr.trans (hb7.mono hbwr.size)
          obtain ⟨k7, v7, rfl, _⟩ := id hr7
          go_wp2_with fail
          refine (HTX2.out w7 _ hbw7 hr7).mono ?_
          rintro e w8 ⟨rfl, hb8⟩
          have hbw8 := hbw7.trans (hb8.mono hbw7.size)
          go_wp2_with fail
          refine (HTX.out w8 hbw8).mono ?_
          rintro e w9 ⟨rfl, hb9⟩
          have hbw9 := hbw8.trans (hb9.mono hbw8.size)
          have hb79 := (hb7.trans (hb8.mono hb7.size)).trans (hb9.mono (by have := hb7.size; have := hb8.size; omega))
          have hU := union_any pm pa pb _ _ _ w9 (hlm6.below hb79) (hla6.below hb79) (hlb6.below hb79) HOm.out HOa.out HOb.out HU.out.1 HU.out.2
          go_wp2_with fail
          refine hU.mono ?_
          rintro e w10 ⟨rfl, hb10⟩
          have hbw10 := hbw9.trans (hb10.mono hbw9.size)
          go_wp2
          go_ret
          exact ⟨rfl, hbw10⟩
    · go_wp2
      go_ret
      exact ⟨rfl, hb1⟩

end Go.Proofs.YtldcjkhbiffdoabGreatDoor

set_option linter.unusedSimpArgs false
namespace Go.Proofs.YtldcjkhbiffdoabGreatDoor
open Go.RowKit

set_option maxRecDepth 100000 in
set_option maxHeartbeats 4000000 in
theorem Together_any (s t : ByteArray) (w : World) (ht : Tab w) (hs0 : s.size ≤ 9223372036854775807) (ht0 : t.size ≤ 9223372036854775807) :
    Calls Tryz.prog 4 #[.string s, .string t] w fun e w' => e = .returned (.bool true) ∧ Below w.heap.size w w' := by
  have h1 := of_any s w ht hs0
  have H2 : Hid _ := fun (V : World) (h : Below w.heap.size w V) => of_any t V (ht.below h) ht0
  go_enter Tryz.func4, Tryz.ntmps4
  go_wp2_with fail
  refine h1.mono ?_
  rintro e w1 ⟨p, rfl, hp, hb1⟩
  go_wp2_with fail
  refine (H2.out w1 hb1).mono ?_
  rintro e w2 ⟨q, rfl, hq, hb2⟩
  have hb2w := hb1.trans (hb2.mono hb1.size)
  have hp2 := hp.below hb2
  rcases hp2 with rfl | ⟨xs, hx, tx, hpx⟩
  · go_wp2
    go_ret
    exact ⟨rfl, hb2w⟩
  · rcases hq with rfl | ⟨ys, hy, ty, hqy⟩
    · obtain ⟨kp, vp, rfl, _⟩ := id hpx
      go_wp2
      go_ret
      exact ⟨rfl, hb2w⟩
    · have hC := together_any xs ys p q w2 hpx hqy hx hy tx ty (ht.below hb2w)
      obtain ⟨kp, vp, rfl, _⟩ := id hpx
      obtain ⟨kq, vq, rfl, _⟩ := id hqy
      go_wp2_with fail
      refine hC.mono ?_
      rintro e w3 ⟨rfl, hb3⟩
      go_wp2
      go_ret
      exact ⟨rfl, hb2w.trans (hb3.mono hb2w.size)⟩

end Go.Proofs.YtldcjkhbiffdoabGreatDoor
