import Derived.Test.YtldcjkhbiffdoabGreatDoorM23
import Derived.Test.YtldcjkhbiffdoabGreatDoorM39
import Derived.Test.YtldcjkhbiffdoabGreatDoorCKCmn
import Derived.Test.YtldcjkhbiffdoabGreatDoorM09
import Derived.Test.YtldcjkhbiffdoabGreatDoorCFOrd
import Derived.Test.YtldcjkhbiffdoabGreatDoorM31
import Derived.Test.YtldcjkhbiffdoabGreatDoorM12

set_option linter.unusedSimpArgs false
namespace Go.Proofs.YtldcjkhbiffdoabGreatDoor
open Go.RowKit

end Go.Proofs.YtldcjkhbiffdoabGreatDoor

set_option linter.unusedSimpArgs false
namespace Go.Proofs.YtldcjkhbiffdoabGreatDoor
open Go.RowKit

end Go.Proofs.YtldcjkhbiffdoabGreatDoor

set_option linter.unusedSimpArgs false
namespace Go.Proofs.YtldcjkhbiffdoabGreatDoor
open Go.RowKit

theorem ev_oS (s t : Int) (zs : List Int) : ev t (oS s zs zs.length) = ev (t + s) zs := by
  have h := ev_shH s t zs zs.length 0 (by omega)
  rw [List.drop_zero] at h
  rw [← h]
  refine ev_of_getD (fun k => ?_) t
  rw [oS_getD, tab_getD]
  by_cases hk : k < zs.length
  · rw [if_pos hk, shS_H]
  · rw [if_neg hk]
    have := getD_out (l := oS s zs zs.length) (k := k) (by have := oS_len s zs zs.length; omega)
    rwa [oS_getD] at this

theorem oS_back (s : Int) {zs : List Int} (tz : Tr zs) : oS (-s) (oS s zs zs.length) (oS s zs zs.length).length = zs :=
  Pp.ext (oS_tr _ _ _) tz fun t => by rw [ev_oS, ev_oS, Int.neg_add_cancel_right]

theorem pread_text {zs : List Int} (tz' : Tr zs) (hl : zs.length ≤ 11) (h : (pread (ptext zs)).1 = 0) : (pread (ptext zs)).2.2 = zs := by
  obtain ⟨ts, e1, e2, _⟩ := rsum_text zs hl
  have hc : tz (coefsT ts 11) = zs := (tr_tz _).ext tz' fun k => by
    rw [tz_getD]
    by_cases hk : k < 11
    · rw [coefs_at ts 11 k hk, e2]
    · rw [getD_out (by unfold coefsT; simp; omega), getD_out (by omega)]
  unfold pread at h ⊢
  rw [e1] at h ⊢
  split at h
  · cases h
  · next h1 =>
    rw [if_neg h1]
    simp only [if_true] at h ⊢
    split at h
    · cases h
    · next h2 =>
      rw [if_neg h2]
      rw [hc] at h ⊢
      split at h
      · next h3 => rw [if_pos h3]
      · cases h

set_option maxRecDepth 100000 in
set_option maxHeartbeats 8000000 in
theorem shifted_any (xs : List Int) (s : Int) (p : Value) (w : World) (hp : IsP w p xs) (hx : inB xs = true) (tx : Tr xs) (hs0 : -9223372036854775808 ≤ s) (hs1 : s ≤ 9223372036854775807) (ht : Tab w) :
    Calls Tryz.prog 14 #[p, .int .i64 s] w fun e w' => e = .returned (.bool true) ∧ Below w.heap.size w w' := by
  by_cases hs : s < -99 ∨ 99 < s
  · have hE := shiftP_err s p w hs
    obtain ⟨kp, vp, rfl, _⟩ := id hp
    have hs' : s < -99 ∨ (¬ s < -99 ∧ 99 < s) := by omega
    clear hs
    rcases hs' with h | ⟨h, h'⟩
    all_goals
      go_enter Tryz.func14, Tryz.ntmps14
      go_wp2_with fail
      refine hE.mono ?_
      rintro e w1 ⟨rfl, hb1⟩
      go_wp2
      go_ret
      exact ⟨rfl, hb1⟩
  have hs2 : -99 ≤ s := by omega
  have hs3 : s ≤ 99 := by omega
  have hn1 : ¬ s < -99 := by omega
  have hn2 : ¬ 99 < s := by omega
  have lx := inB_len hx
  have bx := inB_bd hx
  obtain ⟨B, HB⟩ : ∃ B, Hid (oS s xs xs.length = B) := ⟨_, rfl⟩
  have tB : Tr B := by rw [← HB.out]; exact oS_tr _ _ _
  have HEV : Hid (∀ t, ev t B = ev (t + s) xs) := fun t => by rw [← HB.out]; exact ev_oS s t xs
  have HBK : Hid (oS (-s) B B.length = xs) := by show _ = _; rw [← HB.out]; exact oS_back s tx
  have hSh := shiftP_any xs s p w hp hx hs2 hs3 ht
  rw [HB.out] at hSh
  have HTX : Hid _ := fun (W : World) (h : Below w.heap.size w W) => polyText_any xs p W (hp.below h) hx (ht.below h)
  have HTA : Hid (∀ (W : World) (u : Value), Below w.heap.size w W → IsP W u xs → Calls Tryz.prog 17 #[u] W fun e w' => e = .returned (.string ⟨(ptext xs).toArray⟩) ∧ Below W.heap.size W w') := fun W u h hu => polyText_any xs u W hu hx (ht.below h)
  have HFA : Hid _ := fun (W : World) (h : Below w.heap.size w W) => factorP_any xs p W (hp.below h) hx tx (ht.below h)
  have HCX : Hid _ := fun (m : Int) (W : World) (h1 : 1000 < m) (h2 : m ≤ 2147483647) => coefsP_any xs 12 m W lx bx (by omega) h1 h2
  have HNIL : Hid (xs = [] ↔ B = []) := by
    show _ ↔ _
    constructor
    · intro h; exact tB.zero fun t => by rw [HEV.out, h]; rfl
    · intro h; rw [← HBK.out, h]; rfl
  obtain ⟨kp, vp, rfl, _⟩ := id hp
  go_enter Tryz.func14, Tryz.ntmps14
  go_wp2_with fail
  refine hSh.mono ?_
  rintro e w1 ⟨b, er, rfl, hBV, hb1⟩
  rcases hBV with ⟨hiB, rfl, hb⟩ | ⟨_, rfl, rfl⟩
  · have lB := inB_len hiB
    have bB := inB_bd hiB
    have ht1 := ht.below hb1
    have hBk := shiftP_any B (-s) b w1 hb hiB (by omega) (by omega) ht1
    rw [HBK.out] at hBk
    have HTB : Hid _ := fun (W : World) (h : Below w1.heap.size w1 W) => polyText_any B b W (hb.below h) hiB (ht1.below h)
    have HFB : Hid _ := fun (W : World) (h : Below w1.heap.size w1 W) => factorP_any B b W (hb.below h) hiB tB (ht1.below h)
    have HCB : Hid _ := fun (m : Int) (W : World) (h1 : 1000 < m) (h2 : m ≤ 2147483647) => coefsP_any B 12 m W lB bB (by omega) h1 h2
    obtain ⟨kb, vb, rfl, _⟩ := id hb
    have hng : IntKind.i64.wrap (-s) = -s := by rw [IntKind.wrap_i64]; omega
    have HT1 : Hid (Tab w1) := ht1
    generalize (ByteArray.mk (ptext xs).toArray) = TX at *
    generalize (ByteArray.mk (ptext B).toArray) = TB at *
    go_wp2_with fail
    refine hBk.mono ?_
    rintro e w2 ⟨bk, er, rfl, hBV, hb2⟩
    rcases hBV with ⟨_, rfl, hbk⟩ | ⟨hi, _⟩
    · obtain ⟨kk, vk, rfl, _⟩ := id hbk
      have hbw2 := hb1.trans (hb2.mono hb1.size)
      go_wp2_with fail
      refine (HTA.out w2 _ hbw2 hbk).mono ?_
      rintro e w3 ⟨rfl, hb3⟩
      have hb13 := hb2.trans (hb3.mono hb2.size)
      go_wp2_with fail
      refine (HTX.out w3 (hb1.trans (hb13.mono hb1.size))).mono ?_
      rintro e w4 ⟨rfl, hb4⟩
      have hb14 := hb13.trans (hb4.mono hb13.size)
      go_wp2_with fail
      refine (primes_any w4).mono ?_
      rintro e w6 ⟨ap, cp, rfl, hpr, hb6⟩
      have hb16 := hb14.trans (hb6.mono hb14.size)
      have hpl : prs.length = 4 := rfl
      have HPR : Hid _ := fun (V : World) (h : Below w6.heap.size w6 V) => hpr.below h
      rw [hpl]
      clear hpr hb2 hb3 hb4 hb13 hb14 hb6 hbw2 hbk hBk hSh hb hp
      go_wp2_with fail
      go_loopw [66] (fun k wr => ∃ i : Nat, k = .int .i64 (i : Nat) ∧ i ≤ 4 ∧ Below w6.heap.size w6 wr) (fun k _ => 4 - (intOf k).toNat)
      case atStart => exact ⟨0, rfl, by omega, Below.refl _ _⟩
      case round =>
        obtain ⟨i, rfl, hi4, hbel⟩ := hrel
        have hb1r := hb16.trans (hbel.mono hb16.size)
        by_cases hlt : i < 4
        · obtain ⟨m, hm0, hmm, hm1, hm2⟩ := prs_at hlt
          obtain ⟨g, hga, hc1, hc2, hg, hcell⟩ := (HPR.out wr hbel).at i (by rw [hpl]; exact hlt)
          rw [hm0] at hcell
          subst hga
          rw [hpl] at hc1
          have hii : (i : Int) < 4 := by omega
          clear hm0 hmm
          go_wp2_with fail
          refine (HTX.out wr (hb1.trans (hb1r.mono hb1.size))).mono ?_
          rintro e v1 ⟨rfl, hv1⟩
          go_wp2_with fail
          refine (HCX.out m v1 hm1 hm2).mono ?_
          rintro e v2 ⟨x7, u7, rfl, hO7, hC7, hv2⟩
          have hr2 := hv1.trans (hv2.mono hv1.size)
          go_wp2_with fail
          refine (HTB.out v2 (hb1r.trans (hr2.mono hb1r.size))).mono ?_
          rintro e v3 ⟨rfl, hv3⟩
          go_wp2_with fail
          refine (HCB.out m v3 hm1 hm2).mono ?_
          rintro e v4 ⟨x8, u8, rfl, hO8, hC8, hv4⟩
          have hr24 := hv3.trans (hv4.mono hv3.size)
          have hr4 := hr2.trans (hr24.mono hr2.size)
          have HV7 : Hid _ := fun (x : Int) (V : World) (h : Below v4.heap.size v4 V) => valueC_any x x7 V ((hO7.row.below hr24).below h) hC7 lx hm1 hm2
          have HV8 : Hid _ := fun (x : Int) (V : World) (h : Below v4.heap.size v4 V) => valueC_any x x8 V (hO8.row.below h) hC8 lB hm1 hm2
          have hbel4 := hbel.trans (hr4.mono hbel.size)
          clear hv1 hv2 hv3 hv4 hr2 hr24 hr4 hO7 hO8 hC7 hC8 hb1r hcell hc1 hc2 hg
          go_wp2_with fail
          go_loopw [14] (fun k wr => ∃ j : Nat, k = .int .i64 ((j : Int) - 3) ∧ j ≤ 7 ∧ Below v4.heap.size v4 wr) (fun k _ => (4 - intOf k).toNat)
          case atStart => exact ⟨0, rfl, by omega, Below.refl _ _⟩
          case round =>
            obtain ⟨j, rfl, hj, hbj⟩ := hrel
            by_cases hjl : j < 7
            · obtain ⟨x, HX⟩ : ∃ x : Int, Hid ((j : Int) - 3 = x) := ⟨_, rfl⟩
              have hxl : x < 4 := by rw [← HX.out]; omega
              have hxg : -3 ≤ x := by rw [← HX.out]; omega
              rw [HX.out]
              have HZ2 : Hid (ev x B % m = ev (x + s) xs % m) := by show _ = _; rw [HEV.out x]
              have c8 := HV8.out x wr hbj
              have C7 : Hid _ := fun (V : World) (h : Below v4.heap.size v4 V) => HV7.out (x + s) V h
              rw [← HZ2.out] at C7
              generalize ev x B % m = X8 at *
              have t1 : IntKind.i64.wrap (x + s) = x + s := by rw [IntKind.wrap_i64]; omega
              clear HZ2
              go_wp2_with fail
              refine c8.mono ?_
              rintro e y1 ⟨rfl, hy1'⟩
              have hbj1 := hbj.trans (hy1'.mono hbj.size)
              go_wp2_with fail
              refine (C7.out y1 hbj1).mono ?_
              rintro e y2 ⟨rfl, hy2'⟩
              have hbj2 := hbj1.trans (hy2'.mono hbj1.size)
              go_wp2
              go_roundw
              case rel => exact ⟨j + 1, by rw [← HX.out]; go_num, by omega, hbj2⟩
              case measure => simp [intOf]; omega
            · obtain rfl : j = 7 := by omega
              go_wp2
              go_roundw
              case rel => exact ⟨i + 1, by go_num, by omega, hbel4.trans (hbj.mono hbel4.size)⟩
              case measure => simp [intOf]; omega
        · obtain rfl : i = 4 := by omega
          have hbwr := hb1.trans (hb1r.mono hb1.size)
          by_cases hx0 : xs = []
          · have hB0 := HNIL.out.1 hx0
            go_wp2_with fail
            refine (HFA.out wr hbwr).mono ?_
            rintro e v1 ⟨hE, hv1⟩
            rcases hE with ⟨_, rfl⟩ | ⟨h, _⟩
            · go_wp2_with fail
              refine (HFB.out v1 (hb1r.trans (hv1.mono hb1r.size))).mono ?_
              rintro e v2 ⟨hE, hv2⟩
              rcases hE with ⟨_, rfl⟩ | ⟨h, _⟩
              · have hbw2 := (hbwr.trans (hv1.mono hbwr.size)).trans (hv2.mono (by have := hbwr.size; have := hv1.size; omega))
                go_wp2_with fail
                go_loopw [124] (fun k wr => k = .int .i64 0 ∧ wr = v2) (fun _ _ => 0)
                case atStart => exact ⟨rfl, rfl⟩
                case round =>
                  obtain ⟨rfl, rfl⟩ := hrel
                  go_wp2
                  go_ret
                  exact ⟨rfl, hbw2⟩
              · exact absurd hB0 h
            · exact absurd hx0 h
          · have hB0 : B ≠ [] := fun h => hx0 (HNIL.out.2 h)
            have HFS : Hid (∀ pa pb : List (List Int × Nat), (∃ c, Fac xs c pa) → (∃ c, Fac B c pb) → PtOK pa → PtOK pb → scont B = scont xs ∧ pb.length = pa.length ∧ ∀ x, x ∈ pa → oftT pb (ptext (oS s x.1 x.1.length)) = x.2) := fun pa pb ⟨c1, fa⟩ ⟨c2, fb⟩ oa ob => by
              obtain ⟨h1, h2, h3⟩ := fac_shf (s := s) tB hB0 fa fb HEV.out
              obtain rfl := fa.cont
              obtain rfl := fb.cont
              refine ⟨h1, h2, fun x hx => ?_⟩
              have ho := oa.2 x hx
              have hol := oS_len s x.1 x.1.length
              rw [oftT_eq (oS_tr _ _ _) (by omega) ob.2]
              exact h3 x hx _ (oS_tr _ _ _) fun t => ev_oS s t x.1
            go_wp2_with fail
            refine (HFA.out wr hbwr).mono ?_
            rintro e v1 ⟨hE, hv1⟩
            rcases hE with ⟨h, _⟩ | ⟨_, va, pa, hFa, rfl⟩
            · exact absurd h hx0
            have hOa := hFa.ok tx hx0 lx
            have hb11 := hb1r.trans (hv1.mono hb1r.size)
            go_wp2_with fail
            refine (HFB.out v1 hb11).mono ?_
            rintro e v2 ⟨hE, hv2⟩
            rcases hE with ⟨h, _⟩ | ⟨_, vb', pb, hFb, rfl⟩
            · exact absurd h hB0
            have hOb := hFb.ok tB hB0 lB
            have hb12 := hb11.trans (hv2.mono hb11.size)
            obtain ⟨hsc, hlen, hof⟩ := HFS.out pa pb ⟨_, hFa.fac⟩ ⟨_, hFb.fac⟩ hOa hOb
            rw [hsc]
            have hla := hFa.own.lower (Nat.zero_le _) |>.below hv2
            have hlb := hFb.own.lower (Nat.zero_le _)
            have HOF : Hid _ := hof
            have HOb : Hid (PtOK pb) := hOb
            have HOa : Hid (PtOK pa) := hOa
            have HBD : Hid _ := hFa.bd
            have la := hOa.1
            have lb := hOb.1
            obtain ⟨aa, ca', rfl⟩ := hla.val
            obtain ⟨ab, cb', rfl⟩ := hlb.val
            have HOF2 : Hid _ := fun (t : ByteArray) (V : World) (h : Below v2.heap.size v2 V) => often_any pb t _ V (hlb.below h) HOb.out
            rw [hlen] at HOF2 ⊢
            have HT2 : Hid _ := fun (V : World) (h : Below v2.heap.size v2 V) => HT1.out.below (hb12.trans (h.mono hb12.size))
            clear hof hOa hOb hFa hFb hsc hlen HFS hlb lb hv1 hv2 hb11 HFA HFB HTB HTX HTA HCX HCB HPR hB0 hx0 tB tx HNIL HBK HEV HT1
            generalize (ByteArray.mk (Lib.itoa (scont xs)).toArray) = SX
            have hbw2 := hb1.trans (hb12.mono hb1.size)
            go_wp2_with fail
            go_loopw [124] (fun k wr => ∃ i : Nat, k = .int .i64 (i : Nat) ∧ i ≤ pa.length ∧ Below v2.heap.size v2 wr) (fun k _ => pa.length - (intOf k).toNat)
            case atStart => exact ⟨0, rfl, by omega, Below.refl _ _⟩
            case round =>
              clear hbel
              obtain ⟨i, rfl, hi, hbel⟩ := hrel
              by_cases hlt2 : i < pa.length
              · obtain ⟨gg, x, rfl, hc1, hc2, hgg, _, q1, q2, hxm⟩ := (hla.below hbel).at i hlt2
                have hxmem := List.mem_of_getElem? hxm
                have HXO := HOF.out x hxmem
                obtain ⟨hxt, hxl, hxe⟩ := HOa.out.2 x hxmem
                have hxb := (HBD.out x hxmem).2
                have htl := ptext_lenW hxl hxb (by omega)
                have hii : (i : Int) < (pa.length : Int) := by omega
                have HRD : Hid _ := fun (V : World) (h : Below v2.heap.size v2 V) => read_any ⟨(ptext x.1).toArray⟩ V (HT2.out V h) (by show (ptext x.1).toArray.size ≤ _; simp; omega)
                rw [show (ByteArray.mk (ptext x.1).toArray).data.toList = ptext x.1 from rfl] at HRD
                have HPT : Hid _ := pread_text hxt hxl
                have hp3 := (pread_bd (ptext x.1) (rsum_le _)).1
                have hp4 := (pread_bd (ptext x.1) (rsum_le _)).2.1
                generalize pread (ptext x.1) = rr at *
                obtain ⟨r1, r2, zs⟩ := rr
                dsimp only at hp3 hp4
                have HPT2 : Hid (r1 = 0 → zs = x.1) := HPT.out
                generalize hTB : (ByteArray.mk (ptext x.1).toArray) = TB2 at *
                have hEb : x.2 ≤ 11 := hxe
                clear hTB HPT hxm hxmem hxb htl
                go_wp2_with fail
                obtain ⟨W7, HW7⟩ : ∃ W7, Hid (wr.alloc (Obj.cells #[Value.string TB2, Value.int IntKind.i64 (x.2 : Nat)] 40) = W7) := ⟨_, rfl⟩
                have hb7 : Below wr.heap.size wr W7 := by rw [← HW7.out]; exact (Below.refl _ _).alloc (Nat.le_refl _) _
                have hcS : W7.cell? ⟨wr.heap.size, 0, none⟩ = some (.string TB2) ∧ W7.cell? ⟨wr.heap.size, 1, none⟩ = some (.int .i64 (x.2 : Nat)) := by
                  have hh : W7.heap[wr.heap.size]? = some (.cells #[Value.string TB2, Value.int IntKind.i64 (x.2 : Nat)] 40 (0, 0)) := by rw [← HW7.out]; exact heap_alloc_new wr _
                  constructor <;> simp [World.cell?, hh]
                have hk7 : wr.heap.size < W7.heap.size := by rw [← HW7.out]; simp
                rw [HW7.out]
                have hbel7 := hbel.trans (hb7.mono hbel.size)
                clear HW7 hb7
                generalize wr.heap.size = kx at *
                refine (HRD.out W7 hbel7).mono ?_
                rintro en w8 ⟨hA, hb8⟩
                have hbel8 := hbel7.trans (hb8.mono hbel7.size)
                rcases hA with ⟨h0, hin, q, rfl, hq⟩ | ⟨h0, rfl⟩
                · have hz := HPT2.out h0
                  dsimp only at hin hq
                  subst hz
                  have hShq := shiftP_any x.1 s q w8 hq hin hs2 hs3 (HT2.out w8 hbel8)
                  obtain ⟨kq, vq, rfl, _⟩ := id hq
                  have hol := oS_len s x.1 x.1.length
                  have HTQ : Hid _ := fun (V : World) (u : Value) (h : Below v2.heap.size v2 V) (hu : IsP V u (oS s x.1 x.1.length)) (hi' : inB (oS s x.1 x.1.length) = true) => polyText_any (oS s x.1 x.1.length) u V hu hi' (HT2.out V h)
                  have hlz : x.1.length ≤ 11 := hxl
                  generalize oS s x.1 x.1.length = Z at *
                  have HOFZ : Hid _ := fun (V : World) (h : Below v2.heap.size v2 V) => HOF2.out ⟨(ptext Z).toArray⟩ V h
                  rw [show (ByteArray.mk (ptext Z).toArray).data.toList = ptext Z from rfl, HXO] at HOFZ
                  generalize (ByteArray.mk (ptext Z).toArray) = TZ at *
                  clear HOF2 HXO
                  generalize x.2 = E at *
                  go_wp2_with fail
                  refine hShq.mono ?_
                  rintro en w9 ⟨r, er, rfl, hBV, hb9⟩
                  have hbel9 := hbel8.trans (hb9.mono hbel8.size)
                  have hb79 := hb8.trans (hb9.mono hb8.size)
                  rcases hBV with ⟨hiZ, rfl, hr⟩ | ⟨_, rfl, rfl⟩
                  · obtain ⟨kr, vr, rfl, _⟩ := id hr
                    have hSV : ∀ V, Below w9.heap.size w9 V → V.cell? ⟨kx, 0, none⟩ = some (.string TB2) ∧ V.cell? ⟨kx, 1, none⟩ = some (.int .i64 (E : Nat)) := fun V h => by
                      have hbV := hb79.trans (h.mono hb79.size)
                      exact ⟨(hbV.cell (p := ⟨kx, 0, none⟩) hk7).trans hcS.1, (hbV.cell (p := ⟨kx, 1, none⟩) hk7).trans hcS.2⟩
                    have hbd : Below w9.heap.size w9 w9.drew := ⟨rfl, rfl, rfl, Nat.le_refl _, fun _ _ => rfl⟩
                    go_wp2_with fail
                    refine wp_region_held_drew (S := fun V => V.cell? ⟨kx, 0, none⟩ = some (.string TB2) ∧ V.cell? ⟨kx, 1, none⟩ = some (.int .i64 (E : Nat))) (by kernel_rfl) (hSV _ hbd) fun hS => ?_
                    have hbelV := hbel9.trans (hbd.mono hbel9.size)
                    have hrV := hr.below hbd
                    generalize w9.drew = V0 at *
                    refine h_take 0 143 (.int .i64 0) rfl rfl (by kernel_rfl) (by kernel_rfl) (by kernel_rfl) (fun _ _ _ h => h) rfl (fun _ _ => by first | rfl | go_simp) hS ?_
                    simp only [Act.put, tA, tB, tC]
                    refine h_take 1 144 (.bool true) rfl rfl (by kernel_rfl) (by kernel_rfl) (by kernel_rfl) (fun _ _ _ h => h) rfl (fun _ _ => by first | rfl | go_simp) hS ?_
                    simp only [Act.put, tA, tB, tC]
                    refine h_take 2 145 (.bool true) rfl rfl (by kernel_rfl) (by kernel_rfl) (by kernel_rfl) (fun _ _ _ h => h) rfl (fun _ _ => by first | rfl | go_simp) hS ?_
                    simp only [Act.put, tA, tB, tC]
                    refine h_take 3 146 (.slice ab pa.length cb') rfl rfl (by kernel_rfl) (by kernel_rfl) (by kernel_rfl) (fun _ _ _ h => h) rfl (fun _ _ => by first | rfl | go_simp) hS ?_
                    simp only [Act.put, tA, tB, tC]
                    refine h_take 4 147 (.pointer (some ⟨kr, 0, none⟩)) rfl rfl (by kernel_rfl) (by kernel_rfl) (by kernel_rfl) (fun _ _ _ h => h) rfl (fun _ _ => by first | rfl | go_simp) hS ?_
                    simp only [Act.put, tA, tB, tC]
                    refine h_take 7 150 (.pointer (some ⟨kx, 1, none⟩)) rfl rfl (by kernel_rfl) (by kernel_rfl) (by kernel_rfl) (fun _ _ _ h => h) rfl (fun _ _ => by first | rfl | go_simp) hS ?_
                    simp only [Act.put, tA, tB, tC]
                    refine h_take 8 151 (.int .i64 (E : Nat)) rfl rfl (by kernel_rfl) (by kernel_rfl) (by kernel_rfl) (fun _ _ _ h => h) rfl (fun w' hw' => by obtain ⟨y0, y1⟩ := hw'; go_simp) hS ?_
                    simp only [Act.put, tA, tB, tC]
                    refine h_call 5 148 17 #[.pointer (some ⟨kr, 0, none⟩)] rfl rfl (by kernel_rfl) rfl (by go_simp) ?_
                    refine (HTQ.out V0 _ hbelV hrV hiZ).mono ?_
                    rintro en w10 ⟨rfl, hb10⟩
                    have hbd10 := hbd.trans (hb10.mono hbd.size)
                    have hbel10 := hbelV.trans (hb10.mono hbelV.size)
                    have hS := hSV _ hbd10
                    refine ⟨_, rfl, hS, ?_⟩
                    simp only [Act.put, tA, tB, tC]
                    refine h_call 6 149 28 #[.slice ab pa.length cb', .string TZ] rfl rfl (by kernel_rfl) rfl (by go_simp) ?_
                    refine (HOFZ.out w10 hbel10).mono ?_
                    rintro en w11 ⟨rfl, hb11⟩
                    have hbd11 := hbd10.trans (hb11.mono hbd10.size)
                    have hbel11 := hbel10.trans (hb11.mono hbel10.size)
                    have hS := hSV _ hbd11
                    refine ⟨_, rfl, hS, ?_⟩
                    simp only [Act.put, tA, tB, tC]
                    refine h_val 9 152 (w' := w11) (.bool false) rfl rfl (by kernel_rfl) rfl (by go_simp) hS ?_
                    simp only [Act.put, tA, tB, tC]
                    refine h_val 10 153 (w' := w11) (.bool false) rfl rfl (by kernel_rfl) rfl (by go_simp) hS ?_
                    simp only [Act.put, tA, tB, tC]
                    refine wpAnyH_done (by kernel_rfl) ?_ _
                    go_wp2
                    go_roundw
                    case rel => exact ⟨i + 1, by go_num, by omega, hbel11⟩
                    case measure => simp [intOf]; omega
                  · go_wp2_with fail
                    refine wp_region_below (by kernel_rfl) (by kernel_rfl) ?_
                    refine q_run (v := .int .i64 3) rfl (fun _ _ => rfl) ?_
                    refine q_run (v := .bool false) rfl (fun w' hw' => by go_simp) ?_
                    refine q_run_skip (v := .bool false) 7 2 145 rfl (fun _ _ => rfl) rfl rfl ?_ ?_
                    · intro o' ho'
                      simp at ho'
                      rcases ho' with rfl | rfl | rfl | rfl | rfl | rfl | rfl <;> exact ⟨rfl, by simp⟩
                    simp only [List.drop_succ_cons, List.drop_zero, List.take_succ_cons, List.take_zero, List.foldl_cons, List.foldl_nil, Act.put, List.setIfInBounds_toArray, List.set_cons_succ, List.set_cons_zero]
                    refine q_run (v := .bool false) rfl (fun w' hw' => by go_simp) ?_
                    simp only [Act.put, tA, tB, tC]
                    refine wpQuiet_nil ?_
                    intro w10 hb10
                    have hbel10 := hbel9.trans (hb10.mono hbel9.size)
                    go_wp2
                    go_roundw
                    case rel => exact ⟨i + 1, by go_num, by omega, hbel10⟩
                    case measure => simp [intOf]; omega
                · have hr1 : ¬ (r1 : Int) = 0 := by intro h; exact h0 (by omega)
                  have hr2 : ((r1 : Int) != 0) = true := by simpa using h0
                  dsimp only
                  go_wp2
                  go_roundw
                  case rel => exact ⟨i + 1, by go_num, by omega, hbel8⟩
                  case measure => simp [intOf]; omega
              · obtain rfl : i = pa.length := by omega
                go_wp2
                go_ret
                exact ⟨rfl, hbw2.trans (hbel.mono hbw2.size)⟩
    · rw [hx] at hi; cases hi
  · go_wp2
    go_ret
    exact ⟨by
      show Ending.returned (.bool (!decide (s < -99) && !decide (99 < s))) = _
      simp [hn1, hn2], hb1⟩

end Go.Proofs.YtldcjkhbiffdoabGreatDoor

set_option linter.unusedSimpArgs false
namespace Go.Proofs.YtldcjkhbiffdoabGreatDoor
open Go.RowKit

set_option maxRecDepth 100000 in
set_option maxHeartbeats 4000000 in
theorem Shifted_any (s : ByteArray) (by' : Int) (w : World) (ht : Tab w) (hs0 : s.size ≤ 9223372036854775807) (h1 : -9223372036854775808 ≤ by') (h2 : by' ≤ 9223372036854775807) :
    Calls Tryz.prog 7 #[.string s, .int .i64 by'] w fun e w' => e = .returned (.bool true) ∧ Below w.heap.size w w' := by
  have hO := of_any s w ht hs0
  go_enter Tryz.func7, Tryz.ntmps7
  go_wp2_with fail
  refine hO.mono ?_
  rintro e w1 ⟨p, rfl, hp, hb1⟩
  rcases hp with rfl | ⟨xs, hx, tx, hpx⟩
  · go_wp2
    go_ret
    exact ⟨rfl, hb1⟩
  · have hC := shifted_any xs by' p w1 hpx hx tx h1 h2 (ht.below hb1)
    obtain ⟨kp, vp, rfl, _⟩ := id hpx
    go_wp2_with fail
    refine hC.mono ?_
    rintro e w3 ⟨rfl, hb3⟩
    go_wp2
    go_ret
    exact ⟨rfl, hb1.trans (hb3.mono hb1.size)⟩

end Go.Proofs.YtldcjkhbiffdoabGreatDoor
