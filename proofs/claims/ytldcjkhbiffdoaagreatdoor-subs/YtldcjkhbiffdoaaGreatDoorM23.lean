import Derived.Test.YtldcjkhbiffdoaaGreatDoorM19
import Derived.Test.YtldcjkhbiffdoaaGreatDoorM22
import Derived.Test.YtldcjkhbiffdoaaGreatDoorM05

/-
  poly.Shift.
-/
namespace Go.Proofs.YtldcjkhbiffdoaaGreatDoor
open Go.RowKit

/-- '[]whole.Int{a}' and '[]whole.Int{a, b}'. -/
theorem one_listI {w W : World} {b : Bool} {y : Value} {z : Int} (h : w.alloc (.cells #[.bool b, y] 105) = W) (hz : IsI w (.agg #[.bool b, y]) z) :
    Below w.heap.size w W ∧ IsL W (.slice (some ⟨w.heap.size, 0, none⟩) 1 1) [z] := by
  subst h
  have hb : Below w.heap.size w (w.alloc (.cells #[.bool b, y] 105)) := (Below.refl _ _).alloc (Nat.le_refl _) _
  refine ⟨hb, [(b, y)], rfl, ⟨rfl, .inr ⟨w.heap.size, 1, #[.bool b, y], rfl, Nat.zero_le _, heap_alloc_new w _, Nat.le_refl _, by simp [maxLen], rfl, rfl⟩⟩, fun i p hp => ?_⟩
  cases i with
  | zero => simp at hp; subst hp; exact hz.below hb
  | succ i => simp at hp
theorem two_listI {w W : World} {b b2 : Bool} {y y2 : Value} {z z2 : Int} (h : w.alloc (.cells #[.bool b, y, .bool b2, y2] 105) = W) (hz : IsI w (.agg #[.bool b, y]) z) (hz2 : IsI w (.agg #[.bool b2, y2]) z2) :
    Below w.heap.size w W ∧ IsL W (.slice (some ⟨w.heap.size, 0, none⟩) 2 2) [z, z2] := by
  subst h
  have hb : Below w.heap.size w (w.alloc (.cells #[.bool b, y, .bool b2, y2] 105)) := (Below.refl _ _).alloc (Nat.le_refl _) _
  refine ⟨hb, [(b, y), (b2, y2)], rfl, ⟨rfl, .inr ⟨w.heap.size, 2, #[.bool b, y, .bool b2, y2], rfl, Nat.zero_le _, heap_alloc_new w _, Nat.le_refl _, by simp [maxLen], rfl, rfl⟩⟩, fun i p hp => ?_⟩
  match i, hp with
  | 0, hp => simp at hp; subst hp; exact hz.below hb
  | 1, hp => simp at hp; subst hp; exact hz2.below hb
  | i + 2, hp => simp at hp

/-- Where Horner's way stands: the list's numbers are those of the powers from the n-th on. -/
def HS (s : Int) (zs : List Int) (d : Nat) (L : List Int) : Prop := L.length ≤ 2 * d ∧ ∀ j, L.getD j 0 = shH s zs (zs.length - d) d j

theorem HS.bd {s : Int} (hs : s.natAbs ≤ 99) {zs : List Int} (hz : Bd zs 12) {d : Nat} (hd : d ≤ 11) {L : List Int} (h : HS s zs d L) : Bd L 36 := by
  intro j
  rw [h.2]
  have h1 := shH_bd hs (M := 10 ^ 12) (fun i => Nat.le_of_lt (hz i)) d (zs.length - d) j
  have h2 : 101 ^ d ≤ 101 ^ 11 := Nat.pow_le_pow_right (by omega) hd
  have h3 : 101 ^ d * 10 ^ 12 ≤ 101 ^ 11 * 10 ^ 12 := Nat.mul_le_mul h2 (Nat.le_refl _)
  have h4 : 101 ^ 11 * 10 ^ 12 < 10 ^ 36 := by decide
  exact Nat.lt_of_le_of_lt h1 (Nat.lt_of_le_of_lt h3 h4)

theorem HS.next {s : Int} {zs : List Int} {d : Nat} {L : List Int} (h : HS s zs d L) (hd : d < zs.length) :
    HS s zs (d + 1) (tab (max (prodTo L [s, 1] (L.length + 2 - 1)).length 1) fun j => (prodTo L [s, 1] (L.length + 2 - 1)).getD j 0 + [zs.getD (zs.length - (d + 1)) 0].getD j 0) := by
  obtain ⟨hl, hg⟩ := h
  have hpl : (prodTo L [s, 1] (L.length + 2 - 1)).length = L.length + 1 := by unfold prodTo; rw [tab_len]; omega
  refine ⟨by rw [tab_len, hpl]; omega, fun j => ?_⟩
  have e1 : (prodTo L [s, 1] (L.length + 2 - 1)).getD j 0 = pk L [s, 1] j := prodTo_getD L [s, 1] j
  have e2 : (tab (max (prodTo L [s, 1] (L.length + 2 - 1)).length 1) fun j => (prodTo L [s, 1] (L.length + 2 - 1)).getD j 0 + [zs.getD (zs.length - (d + 1)) 0].getD j 0).getD j 0 = pk L [s, 1] j + [zs.getD (zs.length - (d + 1)) 0].getD j 0 := by
    rw [tab_getD]
    split
    · rw [e1]
    · rename_i hj
      rw [pk_out _ _ _ (by simp; omega), single_getD, if_neg (by omega)]; rfl
  rw [e2, pk_lin, single_getD, hg, hg]
  show _ = shT s (shH s zs (zs.length - (d + 1) + 1) d) j + (if j = 0 then zs.getD (zs.length - (d + 1)) 0 else 0)
  rw [show zs.length - (d + 1) + 1 = zs.length - d by omega]
  rfl

theorem HS.ends {s : Int} {zs L : List Int} (h : HS s zs zs.length L) : tz L = oS s zs zs.length :=
  tz_eq (oS_tr _ _ _) fun j => by rw [h.2, Nat.sub_self, oS_getD, shS_H]

set_option maxHeartbeats 1000000 in
theorem shiftP_err (s : Int) (p : Value) (w : World) (hs : s < -99 ∨ 99 < s) : Calls Tryz.prog 37 #[p, .int .i64 s] w fun e w' => e = .returned (.tuple #[.pointer none, .int .i64 6]) ∧ Below w.heap.size w w' := by
  have hcase : s < -99 ∨ (¬ s < -99 ∧ 99 < s) := by omega
  clear hs
  rcases hcase with h | ⟨h, h2⟩
  all_goals
    go_enter Tryz.func37, Tryz.ntmps37
    go_wp2
    go_ret2
    exact ⟨rfl, Below.refl _ _⟩

set_option maxRecDepth 100000 in
set_option maxHeartbeats 4000000 in
theorem shiftP_any (zs : List Int) (s : Int) (u : Value) (w : World) (hu : IsP w u zs) (hx : inB zs = true) (hs0 : -99 ≤ s) (hs1 : s ≤ 99) (ht : Tab w) :
    Calls Tryz.prog 37 #[u, .int .i64 s] w fun e w' => ∃ p er, e = .returned (.tuple #[p, .int .i64 er]) ∧ BoundedV w' (oS s zs zs.length) p er ∧ Below w.heap.size w w' := by
  obtain ⟨k1, a1, c1, rfl, hk1, q1, hL1⟩ := hu.open
  have lx := inB_len hx
  have bx := inB_bd hx
  have hsn : s.natAbs ≤ 99 := by omega
  have hO1 := fun (W : World) => small_any 1 (by omega) (by omega) W
  have hO2 := fun (W : World) => small_any s (by omega) (by omega) W
  have HO1 : Hid _ := hO1
  have HO2 : Hid _ := hO2
  clear hO1 hO2 hx
  obtain ⟨P, HP⟩ : ∃ P, Hid (oS s zs zs.length = P) := ⟨_, rfl⟩
  rw [HP.out]
  go_enter Tryz.func37, Tryz.ntmps37
  go_wp2_with fail
  refine (HO2.out w).mono ?_
  rintro e w1 ⟨x1, rfl, hI1, hb1⟩
  obtain ⟨b1, xa, xn, xc, rfl⟩ := hI1.form
  go_wp2_with fail
  refine (HO1.out w1).mono ?_
  rintro e w2 ⟨x2, rfl, hI2, hb2⟩
  obtain ⟨b2, ya, yn, yc, rfl⟩ := hI2.form
  have hbw2 := hb1.trans (hb2.mono hb1.size)
  have q2 := (hbw2.cell (p := ⟨k1, 0, none⟩) hk1).trans q1
  have hk2 : k1 < w2.heap.size := Nat.lt_of_lt_of_le hk1 hbw2.size
  have hk3 : k1 < w2.heap.size + 1 := by omega
  go_wp2_with fail
  generalize hW3 : w2.alloc (Obj.cells #[Value.bool b1, Value.slice xa xn xc, Value.bool b2, Value.slice ya yn yc] 105) = W3
  obtain ⟨hb3, hL3⟩ := two_listI hW3 (hI1.below hb2) hI2
  have hs3 : W3.heap.size = w2.heap.size + 1 := by rw [← hW3]; simp
  clear hW3
  generalize hW4 : W3.alloc (Obj.cells #[] 105) = W4
  have hO4 : OwnL W3.heap.size W4 (.slice (some ⟨W3.heap.size, 0, none⟩) 0 0) [] := by rw [← hW4]; exact OwnL.lit rfl
  have hb4 : Below W3.heap.size W3 W4 := by rw [← hW4]; exact (Below.refl _ _).alloc (Nat.le_refl _) _
  rw [hs3] at hO4
  clear hW4
  have hL4 := OwnL.below hL3 hb4
  have hbw4 : Below w.heap.size w W4 := (hbw2.trans (hb3.mono hbw2.size)).trans (hb4.mono (by have := hbw2.size; omega))
  have hst : HS s zs 0 [] := ⟨by simp, fun j => rfl⟩
  have HST : Hid _ := hst
  clear hst q2 hk2 hk3 hb3 hb4 hL3 hI1 hI2 hb1 hb2 hbw2 hs3
  go_loopw [7, 8] (fun o i wr => ∃ (d : Nat) (L : List Int), d ≤ zs.length ∧ i = .int .i64 ((zs.length : Int) - d - 1) ∧ IsL wr o L ∧ Hid (HS s zs d L) ∧ L.length ≤ 2 * d ∧ IsL wr (.slice (some ⟨w2.heap.size, 0, none⟩) 2 2) [s, 1] ∧ Below w.heap.size w wr) (fun _ i _ => (intOf i + 1).toNat)
  case atStart => exact ⟨0, [], Nat.zero_le _, by simp, hO4.isL, HST, by simp, hL4, hbw4⟩
  case round =>
    clear hO4 hL4 hbw4 HST
    obtain ⟨d, L, hd, rfl, hL, HSd, hLl, hM, hbel⟩ := hrel
    obtain ⟨la, lc, rfl⟩ := OwnL.val hL
    by_cases hlt : d < zs.length
    · have bL := HSd.out.bd hsn bx (by omega)
      have hnx := HSd.out.next hlt
      have hpr := fun (W : World) (g1 : IsL W (.slice la L.length lc) L) (g2 : IsL W (.slice (some ⟨w2.heap.size, 0, none⟩) 2 2) [s, 1]) => product_any L [s, 1] 36 2 _ _ W g1 g2 (by omega) (by simp) bL (pair_bd hsn) (by omega)
      have hpl : (prodTo L [s, 1] (L.length + 2 - 1)).length = L.length + 1 := by unfold prodTo; rw [tab_len]; omega
      have hpb : FitW (prodTo L [s, 1] (L.length + 2 - 1)) := fun j => by
        have e1 : (prodTo L [s, 1] (L.length + 2 - 1)).getD j 0 = pk L [s, 1] j := prodTo_getD L [s, 1] j
        rw [e1]
        rcases Nat.lt_or_ge j 1000 with h | h
        · exact fitW_of (pk_lt bL (pair_bd hsn) (by omega)) (by omega)
        · rw [pk_out _ _ _ (by simp; omega)]; exact fitW_of (e := 1) (by decide) (by omega)
      have hidx : zs.length - (d + 1) < zs.length := by omega
      obtain ⟨m, HM⟩ : ∃ m, Hid (zs.length - (d + 1) = m) := ⟨_, rfl⟩
      have hm1 : (zs.length : Int) - d - 1 = m := by have := HM.out; omega
      have hm2 : m < zs.length := by have := HM.out; omega
      rw [HM.out] at hnx
      obtain ⟨g, b, za, zn, zc, rfl, hc1', hc2', hg, _, hc0, hcx, hI⟩ := OwnL.at (OwnL.below hL1 hbel) m hm2
      have fz := bx m
      have hsm := fun (W : World) (u1 u2 : Value) (g1 : IsL W u1 (prodTo L [s, 1] (L.length + 2 - 1))) (g2 : IsL W u2 [zs.getD m 0]) => psum_any _ _ u1 u2 W g1 g2 (by omega) (by simp) hpb (fun j => by
        rw [single_getD]
        split
        · exact fitW_of fz (by omega)
        · exact fitW_of (e := 1) (by decide) (by omega))
      have hnl : (tab (max (prodTo L [s, 1] (L.length + 2 - 1)).length [zs.getD m 0].length) fun j => (prodTo L [s, 1] (L.length + 2 - 1)).getD j 0 + [zs.getD m 0].getD j 0).length ≤ 2 * (d + 1) := by rw [tab_len, hpl]; simp; omega
      have HNX : Hid (HS s zs (d + 1) (tab (max (prodTo L [s, 1] (L.length + 2 - 1)).length [zs.getD m 0].length) fun j => (prodTo L [s, 1] (L.length + 2 - 1)).getD j 0 + [zs.getD m 0].getD j 0)) := hnx
      have HPR : Hid _ := hpr
      have HSM : Hid _ := hsm
      clear hpr hsm hnx hpl hpb HSd
      generalize (tab (max (prodTo L [s, 1] (L.length + 2 - 1)).length [zs.getD m 0].length) fun j => (prodTo L [s, 1] (L.length + 2 - 1)).getD j 0 + [zs.getD m 0].getD j 0) = L2 at *
      generalize zs.getD m 0 = z at *
      have hbq := fun (W : World) (h : Below wr.heap.size wr W) => hbel.trans (h.mono hbel.size)
      rw [hm1]
      go_wp2_with fail
      refine (HPR.out wr hL hM).mono ?_
      rintro e w5 ⟨x5, rfl, hI5, hb5⟩
      obtain ⟨a5, c5, rfl⟩ := OwnL.val hI5
      have r1 := ((hbq w5 hb5).cell (p := ⟨k1, 0, none⟩) hk1).trans q1
      have r2 := (hb5.cell (p := ⟨g, m * 2, none⟩) hg).trans hc0
      have r3 := (hb5.cell (p := ⟨g, m * 2 + 1, none⟩) hg).trans hcx
      go_wp2_with fail
      generalize hW6 : w5.alloc (Obj.cells #[Value.bool b, Value.slice za zn zc] 105) = W6
      obtain ⟨hb6, hL6⟩ := one_listI hW6 (hI.below hb5)
      clear hW6
      have hb6w := hb5.trans (hb6.mono hb5.size)
      refine (HSM.out W6 _ _ (OwnL.below hI5 hb6).isL hL6).mono ?_
      rintro e w7 ⟨x7, rfl, hI7, hb7⟩
      obtain ⟨a7, c7, rfl⟩ := OwnL.val hI7
      have hb7w := hb6w.trans (hb7.mono hb6w.size)
      have hM7 := OwnL.below hM hb7w
      go_wp2
      go_roundw
      case rel => exact ⟨d + 1, L2, by omega, by go_num, hI7.isL, HNX, hnl, hM7, hbq w7 hb7w⟩
      case measure => simp [intOf]
    · obtain rfl : d = zs.length := by omega
      have hend := HSd.out.ends
      have bL := HSd.out.bd hsn bx (by omega)
      rw [HP.out] at hend
      have hBd := bounded2_any L _ wr hL (by omega) (bL.fitW (by omega)) (ht.below hbel)
      rw [hend] at hBd
      clear hend HSd
      rw [show (zs.length : Int) - zs.length - 1 = -1 by omega]
      go_wp2_with fail
      refine hBd.mono ?_
      rintro e w5 ⟨p, er, rfl, hBV, hb5⟩
      go_wp2
      go_ret2
      exact ⟨_, _, rfl, hBV, hbel.trans (hb5.mono hbel.size)⟩

end Go.Proofs.YtldcjkhbiffdoaaGreatDoor

/-
  factorref: Gcd, walked.
-/
namespace Go.Proofs.YtldcjkhbiffdoaaGreatDoor
open Go.RowKit

set_option maxRecDepth 100000 in
set_option maxHeartbeats 2000000 in
theorem gcdR_any (a b : List Int) (u v : Value) (w : World) (hu : IsLN w u a) (hv : IsLN w v b) (hl : a.length ≤ 11) (hm : b.length ≤ 11) (fx : Bd a 12) (fy : Bd b 12) (ta : Tr a) (tb : Tr b) :
    Calls Tryz.prog 36 #[u, v] w fun en w' => ∃ x, en = .returned x ∧ IsLN w' x (fgcd a b) ∧ Below w.heap.size w w' := by
  obtain ⟨ua, uc, rfl⟩ := OwnLN.val hu
  obtain ⟨va, vc, rfl⟩ := OwnLN.val hv
  obtain ⟨S, HS⟩ : ∃ S, Hid (fgcd a b = S) := ⟨_, rfl⟩
  rw [HS.out]
  have fxl := fx.fitL (by omega)
  have fyl := fy.fitL (by omega)
  obtain ⟨F, HF⟩ : ∃ F, Hid (a.length + b.length = F) := ⟨_, rfl⟩
  have hF : F ≤ 22 := by have := HF.out; omega
  have hstart : GS (pgcd a b) (prim a) (prim b) F := by
    refine ⟨ta.prim, tb.prim, by rw [← HF.out]; rfl, by rw [prim_len, prim_len]; have := HF.out; omega, 12, ?_, fx.prim, fy.prim⟩
    rw [prim_len, prim_len]
    have : 1 ≤ 2 ^ (22 - (a.length + b.length)) := Nat.pow_pos (by omega)
    omega
  have HST : Hid _ := hstart
  have hgl : Nat.gcd (cont a) (cont b) < 10 ^ 12 := gcd_lt fx.cont' fy.cont'
  have hS : S = pmul (pgcd a b) [(Nat.gcd (cont a) (cont b) : Int)] := HS.out.symm
  have HSE : Hid _ := hS
  have hC1 := contentR_any a _ w hu (by omega) fxl
  have hC2 := fun (W : World) (g : IsLN W (.slice va b.length vc) b) => contentR_any b _ W g (by omega) fyl
  have fc1 : FitN ((cont a : Nat) : Int) := fitN_of (e := 12) (by simpa using fx.cont') (by omega)
  have fc2 : FitN ((cont b : Nat) : Int) := fitN_of (e := 12) (by simpa using fy.cont') (by omega)
  have hG := fun (W : World) (u1 u2 : Value) (g1 : IsN W u1 ((cont a : Nat) : Int)) (g2 : IsN W u2 ((cont b : Nat) : Int)) => gcdN_any u1 u2 _ _ W g1 g2 fc1 fc2
  rw [show Int.gcd ((cont a : Nat) : Int) ((cont b : Nat) : Int) = Nat.gcd (cont a) (cont b) from by unfold Int.gcd; simp] at hG
  generalize Nat.gcd (cont a) (cont b) = gg at *
  have hP1 := fun (W : World) (g : IsLN W (.slice ua a.length uc) a) => primR_any a _ W g (by omega) fxl ta
  have hP2 := fun (W : World) (g : IsLN W (.slice va b.length vc) b) => primR_any b _ W g (by omega) fyl tb
  have HC2 : Hid _ := hC2
  have HG : Hid _ := hG
  have HP1 : Hid _ := hP1
  have HP2 : Hid _ := hP2
  clear hstart hS hC2 hG hP1 hP2 HS
  generalize pgcd a b = G at *
  go_enter Tryz.func36, Tryz.ntmps36
  go_wp2_with fail
  refine hC1.mono ?_
  rintro en w1 ⟨x1, rfl, hI1, hb1⟩
  obtain ⟨b1, a1, n1, c1, _, rfl, _, _⟩ := id hI1.open
  go_wp2_with fail
  refine (HC2.out w1 (OwnLN.below hv hb1)).mono ?_
  rintro en w2 ⟨x2, rfl, hI2, hb2⟩
  obtain ⟨b2, a2, n2, c2, _, rfl, _, _⟩ := id hI2.open
  go_wp2_with fail
  refine (HG.out w2 _ _ (hI1.below hb2) hI2).mono ?_
  rintro en w3 ⟨x3, rfl, hI3, hb3⟩
  obtain ⟨b3, a3, n3, c3, _, rfl, _, _⟩ := id hI3.open
  have hbw3 : Below w.heap.size w w3 := (hb1.trans (hb2.mono hb1.size)).trans (hb3.mono (by have := hb1.size; have := hb2.size; omega))
  go_wp2_with fail
  generalize hW : w3.alloc (Obj.cells #[Value.bool b3, Value.slice a3 n3 c3] 74) = W4
  obtain ⟨hb4, X4⟩ := one_newN hW
  clear hW
  have hbw4 := hbw3.trans (hb4.mono hbw3.size)
  have K4 : IsK W4 w3.heap.size (gg : Int) := ⟨_, _, _, _, X4, hI3.below hb4⟩
  have hk3 := hbw3.size
  clear X4 hI1 hI2 hI3 hb1 hb2 hb3 hC1 HC2 HG hbw3 hb4
  generalize w3.heap.size = kg at *
  refine (HP1.out W4 (OwnLN.below hu hbw4)).mono ?_
  rintro en w5 ⟨x5, rfl, hI5, hb5⟩
  obtain ⟨a5, c5, rfl⟩ := OwnLN.val hI5
  have hbw5 := hbw4.trans (hb5.mono hbw4.size)
  go_wp2_with fail
  refine (HP2.out w5 (OwnLN.below hv hbw5)).mono ?_
  rintro en w6 ⟨x6, rfl, hI6, hb6⟩
  obtain ⟨a6, c6, rfl⟩ := OwnLN.val hI6
  have hbw6 := hbw5.trans (hb6.mono hbw5.size)
  have hA6 := OwnLN.below hI5 hb6
  have K6 := (K4.below hb5).below hb6
  clear K4 hI5 hb5 hb6 hbw4 hbw5 HP1 HP2 hu hv fxl fyl fx fy fc1 fc2 ta tb
  have hla : (prim a).length ≤ 11 := by rw [prim_len]; exact hl
  have hlb : (prim b).length ≤ 11 := by rw [prim_len]; exact hm
  generalize prim a = A0 at *
  generalize prim b = B0 at *
  go_wp2_with fail
  go_loopw [0, 1] (fun p q wr => ∃ (A B : List Int), IsLN wr p A ∧ IsLN wr q B ∧ A.length ≤ 11 ∧ B.length ≤ 11 ∧ Hid (GS G A B F) ∧ IsK wr kg (gg : Int) ∧ Below w.heap.size w wr) (fun p q _ => lenV p + lenV q)
  case atStart => exact ⟨A0, B0, hA6, hI6, by omega, by omega, HST, K6, hbw6⟩
  case round =>
    clear hA6 hI6 K6 hbw6 HST hla hlb
    obtain ⟨A, B, hA, hB, hAl, hBl, HGS, hK, hbel⟩ := hrel
    obtain ⟨aa, ac, rfl⟩ := OwnLN.val hA
    obtain ⟨ba, bc, rfl⟩ := OwnLN.val hB
    obtain ⟨kb, ka, kn, kc, K0, hKI⟩ := id hK
    have k0 := K0.c0; have k1 := K0.c1
    have hkl := K0.lt
    by_cases hz : A.length = 0 ∨ B.length = 0
    · have hend : padd A B = G := HGS.out.ends (hz.imp List.length_eq_zero_iff.1 List.length_eq_zero_iff.1)
      obtain ⟨e, he, hx, hy⟩ := HGS.out.bd
      have het := grow_top he
      have hadd := fun (W : World) (g1 : IsLN W (.slice aa A.length ac) A) (g2 : IsLN W (.slice ba B.length bc) B) => addR_any A B _ _ W g1 g2 (by omega) (by omega) (hx.fitL (by omega)) (hy.fitL (by omega))
      have hGb : Bd G (e + 1) ∧ G.length ≤ 11 := by
        rw [← hend]
        refine ⟨fun k => ?_, Nat.le_trans (padd_len _ _) (by omega)⟩
        rw [padd_getD, Nat.pow_succ]
        have := hx k
        have := hy k
        omega
      rw [show tz (sumTo A B (max A.length B.length)) = padd A B from rfl, hend] at hadd
      have hmul := fun (W : World) (u1 u2 : Value) (g1 : IsLN W u1 G) (g2 : IsLN W u2 [(gg : Int)]) => mulR_any G [(gg : Int)] (e + 1) 12 u1 u2 W g1 g2 (by omega) (by simp) hGb.1 (Bd.one (by simpa using hgl)) (by omega)
      rw [← HSE.out] at hmul
      have HADD : Hid _ := hadd
      have HMUL : Hid _ := hmul
      clear hadd hmul hend HGS he hx hy het hGb
      have hbb := fun (W : World) (o : Obj) => below_one W o
      have hcase : A.length = 0 ∨ (0 < A.length ∧ B.length = 0) := by omega
      clear hz
      rcases hcase with h5 | ⟨h5, h6⟩
      all_goals
        go_wp2_with fail
        have hbd : Below wr.heap.size wr wr.drew := ⟨rfl, rfl, rfl, Nat.le_refl _, fun _ _ => rfl⟩
        have hkd : kg < wr.drew.heap.size := hkl
        refine wp_region_held_drew (S := fun w' => w'.cell? ⟨kg, 0, none⟩ = some (.bool kb) ∧ w'.cell? ⟨kg, 1, none⟩ = some (.slice ka kn kc)) (by kernel_rfl) ⟨k0, k1⟩ fun hS => ?_
        refine h_take 0 68 (.slice aa A.length ac) rfl rfl (by kernel_rfl) (by kernel_rfl) (by kernel_rfl) (fun _ _ _ h => h) rfl (fun _ _ => rfl) hS ?_
        simp only [Act.put, List.setIfInBounds_toArray, List.set_cons_succ, List.set_cons_zero]
        refine h_take 1 69 (.slice ba B.length bc) rfl rfl (by kernel_rfl) (by kernel_rfl) (by kernel_rfl) (fun _ _ _ h => h) rfl (fun _ _ => rfl) hS ?_
        simp only [Act.put, List.setIfInBounds_toArray, List.set_cons_succ, List.set_cons_zero]
        refine h_take 3 71 (.agg #[.bool kb, .slice ka kn kc]) rfl rfl (by kernel_rfl) (by kernel_rfl) (by kernel_rfl) (fun _ _ _ h => h) rfl (fun w' hw' => by obtain ⟨y0, y1⟩ := hw'; go_simp) hS ?_
        simp only [Act.put, List.setIfInBounds_toArray, List.set_cons_succ, List.set_cons_zero]
        refine h_two 2 4 70 72 28 #[.slice aa A.length ac, .slice ba B.length bc] (.slice (some ⟨wr.drew.heap.size, 0, none⟩) 1 1) (w2 := wr.drew.alloc (.cells #[.bool kb, .slice ka kn kc] 74)) rfl rfl rfl rfl (by kernel_rfl) rfl rfl (by go_simp) (by go_simp) ?_ ?_ ?_
        · exact ⟨(World.cell?_alloc_past _ _ _ hkd).trans k0, (World.cell?_alloc_past _ _ _ hkd).trans k1⟩
        · refine (HADD.out wr.drew (OwnLN.below hA hbd) (OwnLN.below hB hbd)).mono ?_
          rintro e w7 ⟨x7, rfl, hI7, hb7⟩
          obtain ⟨a7, c7, rfl⟩ := OwnLN.val hI7
          have hb7w : Below wr.heap.size wr w7 := hbd.trans hb7
          have r0 := (K0.below hb7w).c0; have r1 := (K0.below hb7w).c1
          have hk7 := (K0.below hb7w).lt
          refine ⟨_, rfl, ⟨r0, r1⟩, ?_⟩
          simp only [Act.put, List.setIfInBounds_toArray, List.set_cons_succ, List.set_cons_zero]
          refine h_val 4 72 (.slice (some ⟨w7.heap.size, 0, none⟩) 1 1) (w' := w7.alloc (.cells #[.bool kb, .slice ka kn kc] 74)) rfl rfl (by kernel_rfl) rfl (by go_simp) ⟨(World.cell?_alloc_past _ _ _ hk7).trans r0, (World.cell?_alloc_past _ _ _ hk7).trans r1⟩ ?_
          simp only [Act.put, List.setIfInBounds_toArray, List.set_cons_succ, List.set_cons_zero]
          obtain ⟨hb8, hL8⟩ := one_listN (w := w7) rfl (hKI.below hb7w)
          refine h_call 5 73 32 #[.slice a7 G.length c7, .slice (some ⟨w7.heap.size, 0, none⟩) 1 1] rfl rfl (by kernel_rfl) rfl (by go_simp) ?_
          refine (HMUL.out _ _ _ (OwnLN.below hI7 hb8) hL8).mono ?_
          rintro e w9 ⟨x9, rfl, hI9, hb9⟩
          obtain ⟨a9, c9, rfl⟩ := OwnLN.val hI9
          have hb8w := hb7w.trans (hb8.mono hb7w.size)
          have hb9w := hb8w.trans (hb9.mono hb8w.size)
          refine ⟨_, rfl, ⟨(K0.below hb9w).c0, (K0.below hb9w).c1⟩, ?_⟩
          simp only [Act.put, List.setIfInBounds_toArray, List.set_cons_succ, List.set_cons_zero]
          refine h_val 6 4 (.slice a9 S.length c9) (w' := w9) rfl rfl (by kernel_rfl) rfl rfl ⟨(K0.below hb9w).c0, (K0.below hb9w).c1⟩ ?_
          simp only [Act.put, List.setIfInBounds_toArray, List.set_cons_succ, List.set_cons_zero]
          refine wpAnyH_done (by kernel_rfl) ?_ _
          go_wp2
          go_ret
          exact ⟨_, rfl, hI9, hbel.trans (hb9w.mono hbel.size)⟩
        · obtain ⟨hb7, hL7⟩ := one_listN (w := wr.drew) rfl (show IsN wr.drew (.agg #[.bool kb, .slice ka kn kc]) (gg : Int) from hKI)
          generalize wr.drew.alloc (.cells #[.bool kb, .slice ka kn kc] 74) = W7 at *
          have hb7w : Below wr.heap.size wr W7 := hbd.trans hb7
          simp only [Act.put, List.setIfInBounds_toArray, List.set_cons_succ, List.set_cons_zero]
          refine h_call 2 70 28 #[.slice aa A.length ac, .slice ba B.length bc] rfl rfl (by kernel_rfl) rfl (by go_simp) ?_
          refine (HADD.out W7 (OwnLN.below hA hb7w) (OwnLN.below hB hb7w)).mono ?_
          rintro e w8 ⟨x8, rfl, hI8, hb8⟩
          obtain ⟨a8, c8, rfl⟩ := OwnLN.val hI8
          have hb8w := hb7w.trans (hb8.mono hb7w.size)
          refine ⟨_, rfl, ⟨(K0.below hb8w).c0, (K0.below hb8w).c1⟩, ?_⟩
          simp only [Act.put, List.setIfInBounds_toArray, List.set_cons_succ, List.set_cons_zero]
          refine h_call 5 73 32 #[.slice a8 G.length c8, .slice (some ⟨wr.drew.heap.size, 0, none⟩) 1 1] rfl rfl (by kernel_rfl) rfl (by go_simp) ?_
          refine (HMUL.out _ _ _ hI8 (OwnLN.below hL7 hb8)).mono ?_
          rintro e w9 ⟨x9, rfl, hI9, hb9⟩
          obtain ⟨a9, c9, rfl⟩ := OwnLN.val hI9
          have hb9w := hb8w.trans (hb9.mono hb8w.size)
          refine ⟨_, rfl, ⟨(K0.below hb9w).c0, (K0.below hb9w).c1⟩, ?_⟩
          simp only [Act.put, List.setIfInBounds_toArray, List.set_cons_succ, List.set_cons_zero]
          refine h_val 6 4 (.slice a9 S.length c9) (w' := w9) rfl rfl (by kernel_rfl) rfl rfl ⟨(K0.below hb9w).c0, (K0.below hb9w).c1⟩ ?_
          simp only [Act.put, List.setIfInBounds_toArray, List.set_cons_succ, List.set_cons_zero]
          refine wpAnyH_done (by kernel_rfl) ?_ _
          go_wp2
          go_ret
          exact ⟨_, rfl, hI9, hbel.trans (hb9w.mono hbel.size)⟩
    · have hposA : 0 < A.length := by omega
      have hposB : 0 < B.length := by omega
      rcases Nat.lt_or_ge A.length B.length with hlt | hge
      · have hgs := HGS.out.swap (by omega)
        obtain ⟨Y, rfl⟩ : ∃ Y, Y = A := ⟨_, rfl⟩
        obtain ⟨X, rfl⟩ : ∃ X, X = B := ⟨_, rfl⟩
        obtain ⟨xa, rfl⟩ : ∃ q, q = ba := ⟨_, rfl⟩
        obtain ⟨xc, rfl⟩ : ∃ q, q = bc := ⟨_, rfl⟩
        obtain ⟨ya, rfl⟩ : ∃ q, q = aa := ⟨_, rfl⟩
        obtain ⟨yc, rfl⟩ : ∃ q, q = ac := ⟨_, rfl⟩
        have hX := hB
        have hY := hA
        have hle : Y.length ≤ X.length := by omega
        clear hA hB
        have hstep := hgs.elim hF (List.length_pos_iff.1 (by omega)) hle
        obtain ⟨e, he, hx, hy⟩ := hgs.bd
        have het := grow_top he
        obtain ⟨d, HDd⟩ : ∃ d, Hid (X.length - Y.length = d) := ⟨_, rfl⟩
        have hd1 : (X.length : Int) - Y.length + 1 = ((d + 1 : Nat) : Int) := by have := HDd.out; omega
        have hd2 : (X.length : Int) - Y.length = (d : Int) := by have := HDd.out; omega
        have hd3 : d ≤ 11 := by have := HDd.out; omega
        obtain ⟨g1, b1', x1a, x1n, x1c, rfl, hc1, hc2, hg1, _, p0, p1, hI1⟩ := OwnLN.at hX (X.length - 1) (by omega)
        obtain ⟨g2, b2', y1a, y1n, y1c, rfl, hd4, hd5, hg2, _, p2, p3, hI2⟩ := OwnLN.at hY (Y.length - 1) (by omega)
        rw [show X.getD (X.length - 1) 0 = lead X from rfl] at hI1
        rw [show Y.getD (Y.length - 1) 0 = lead Y from rfl] at hI2
        obtain ⟨m1, HM1⟩ : ∃ m, Hid (X.length - 1 = m) := ⟨_, rfl⟩
        obtain ⟨m2, HM2⟩ : ∃ m, Hid (Y.length - 1 = m) := ⟨_, rfl⟩
        rw [HM1.out] at p0 p1
        rw [HM2.out] at p2 p3
        have hm1 : (X.length : Int) - 1 = m1 := by have := HM1.out; omega
        have hm2 : (Y.length : Int) - 1 = m2 := by have := HM2.out; omega
        have hm3 : m1 < X.length := by have := HM1.out; omega
        have hm4 : m2 < Y.length := by have := HM2.out; omega
        have hsame := elim_same X Y
        rw [HDd.out] at hsame
        have hmul1 := fun (W : World) (u1 u2 : Value) (g1 : IsLN W u1 X) (g2 : IsLN W u2 [lead Y]) => mulR_any X [lead Y] e e u1 u2 W g1 g2 (by omega) (by simp) hx (Bd.one hy.lead) (by omega)
        have hmul2 := fun (W : World) (u1 u2 : Value) (g1 : IsLN W u1 (mono d (lead X))) (g2 : IsLN W u2 Y) => mulR_any (mono d (lead X)) Y e e u1 u2 W g1 g2 (by rw [mono_len]; omega) (by omega) (Bd.monoN hx.lead) hy (by omega)
        have bS : Bd (pmul X [lead Y]) (e + e) := hx.oneMul hy.lead
        have bT : Bd (pmul (mono d (lead X)) Y) (e + e) := Bd.monoMul hx.lead hy
        have lS : (pmul X [lead Y]).length ≤ 11 := Nat.le_trans (pmul_len _ _) (by simp; omega)
        have lT : (pmul (mono d (lead X)) Y).length ≤ 30 := Nat.le_trans (pmul_len _ _) (by rw [mono_len]; omega)
        have hmin := fun (W : World) (u1 : Value) (g1 : IsLN W u1 (pmul (mono d (lead X)) Y)) => minusR_any _ u1 W g1 (by omega) (bT.fitL (by omega))
        have hadd := fun (W : World) (u1 u2 : Value) (g1 : IsLN W u1 (pmul X [lead Y])) (g2 : IsLN W u2 ((pmul (mono d (lead X)) Y).map fun z => -z)) => addR_any _ _ u1 u2 W g1 g2 (by omega) (by rw [List.length_map]; omega) (bS.fitL (by omega)) (bT.negsN.fitL (by omega))
        rw [show tz (sumTo (pmul X [lead Y]) ((pmul (mono d (lead X)) Y).map fun z => -z) (max (pmul X [lead Y]).length ((pmul (mono d (lead X)) Y).map fun z => -z).length)) = elim X Y from hsame] at hadd
        have bE : Bd (elim X Y) (e + e + 1) := hx.elim hy
        have lE := elim_len (show 0 < Y.length by omega) hle
        have hprm := fun (W : World) (u1 : Value) (g1 : IsLN W u1 (elim X Y)) => primR_any (elim X Y) u1 W g1 (by omega) (bE.fitL (by omega)) (elim_tr _ _)
        have HM1' : Hid _ := hmul1
        have HM2' : Hid _ := hmul2
        have HMIN : Hid _ := hmin
        have HADD : Hid _ := hadd
        have HPRM : Hid _ := hprm
        have HSTEP : Hid _ := hstep
        clear hmul1 hmul2 hmin hadd hprm hstep hsame bS bT lS lT bE lE hgs he hx hy HGS
        generalize pmul X [lead Y] = PS at *
        generalize pmul (mono d (lead X)) Y = PT at *
        generalize PT.map (fun z => -z) = PM at *
        generalize elim X Y = PE at *
        go_wp2_with (at_make; refine wpList_makeP rfl (.tmp 39) (.tmp 39) rfl _ _ (d + 1) rfl rfl (by omega) (by omega) (by omega) ?_)
        intro w7 xs7 HX7 hown7 hb7
        have q0 := (hb7.cell (p := ⟨g1, m1 * 2, none⟩) hg1).trans p0
        have q1 := (hb7.cell (p := ⟨g1, m1 * 2 + 1, none⟩) hg1).trans p1
        have q2 := (hb7.cell (p := ⟨g2, m2 * 2, none⟩) hg2).trans p2
        have q3 := (hb7.cell (p := ⟨g2, m2 * 2 + 1, none⟩) hg2).trans p3
        obtain ⟨t0, t1⟩ := made_cells HX7 hown7 (i := d) (by omega)
        have t2 := hown7.frozenAt (d * 2)
        have t3 := hown7.frozenAt (d * 2 + 1)
        have hne2 : wr.heap.size ≠ g2 := by omega
        have hne3 : g2 ≠ wr.heap.size := by omega
        have hmm := made_mono HX7 hown7 (hI1.below hb7)
        have HMM : Hid _ := hmm
        clear hmm
        go_wp2_with fail
        have hmm := HMM.out
        have hVs : ((w7.setCell ⟨wr.heap.size, d * 2, none⟩ (Value.bool b1')).setCell ⟨wr.heap.size, d * 2 + 1, none⟩ (Value.slice x1a x1n x1c)).heap.size = w7.heap.size := by simp
        generalize (w7.setCell ⟨wr.heap.size, d * 2, none⟩ (Value.bool b1')).setCell ⟨wr.heap.size, d * 2 + 1, none⟩ (Value.slice x1a x1n x1c) = V at *
        obtain ⟨hT, hbV⟩ := hmm
        have hbv : Below wr.heap.size wr V := hb7.trans hbV
        clear HMM q0 q1 q2 q3 t0 t1 t2 t3 hown7 HX7 hbV p0 p1 p2 p3
        generalize hW8 : V.alloc (Obj.cells #[Value.bool b2', Value.slice y1a y1n y1c] 74) = W8
        obtain ⟨hb8, hL8⟩ := one_listN hW8 (hI2.below hbv)
        rw [hVs] at hL8
        clear hW8
        have hb8w : Below wr.heap.size wr W8 := hbv.trans (hb8.mono (by have := hbv.size; omega))
        refine (HM1'.out W8 _ _ (OwnLN.below hX hb8w) hL8).mono ?_
        rintro en w9 ⟨x9, rfl, hI9, hb9⟩
        obtain ⟨a9, c9, rfl⟩ := OwnLN.val hI9
        have hb9w : Below wr.heap.size wr w9 := hb8w.trans (hb9.mono hb8w.size)
        have hT9 := OwnLN.below (OwnLN.below hT hb8) hb9
        go_wp2_with fail
        refine (HM2'.out w9 _ _ hT9 (OwnLN.below hY hb9w)).mono ?_
        rintro en w10 ⟨x10, rfl, hI10, hb10⟩
        obtain ⟨a10, c10, rfl⟩ := OwnLN.val hI10
        have hb10w : Below wr.heap.size wr w10 := hb9w.trans (hb10.mono hb9w.size)
        go_wp2_with fail
        refine (HMIN.out w10 _ hI10).mono ?_
        rintro en w11 ⟨x11, rfl, hI11, hb11⟩
        obtain ⟨a11, c11, rfl⟩ := OwnLN.val hI11
        have hb11w : Below wr.heap.size wr w11 := hb10w.trans (hb11.mono hb10w.size)
        go_wp2_with fail
        refine (HADD.out w11 _ _ (OwnLN.below (OwnLN.below hI9 hb10) hb11) hI11).mono ?_
        rintro en w12 ⟨x12, rfl, hI12, hb12⟩
        obtain ⟨a12, c12, rfl⟩ := OwnLN.val hI12
        have hb12w : Below wr.heap.size wr w12 := hb11w.trans (hb12.mono hb11w.size)
        go_wp2_with fail
        refine (HPRM.out w12 _ hI12).mono ?_
        rintro en w13 ⟨x13, rfl, hI13, hb13⟩
        obtain ⟨a13, c13, rfl⟩ := OwnLN.val hI13
        have hb13w : Below wr.heap.size wr w13 := hb12w.trans (hb13.mono hb12w.size)
        have hs13 := HSTEP.out
        have hlen13 := hs13.2
        have HS13 : Hid _ := hs13.1
        have hY13 := OwnLN.below hY hb13w
        have hK13 := hK.below hb13w
        clear HSTEP hs13
        go_wp2
        go_roundw
        case rel => exact ⟨prim PE, Y, hI13, hY13, by omega, by omega, HS13, hK13, hbel.trans (hb13w.mono hbel.size)⟩
        case measure => simp [lenV]; omega
      · have hgs := HGS.out
        obtain ⟨X, rfl⟩ : ∃ X, X = A := ⟨_, rfl⟩
        obtain ⟨Y, rfl⟩ : ∃ Y, Y = B := ⟨_, rfl⟩
        obtain ⟨ya, rfl⟩ : ∃ q, q = ba := ⟨_, rfl⟩
        obtain ⟨yc, rfl⟩ : ∃ q, q = bc := ⟨_, rfl⟩
        obtain ⟨xa, rfl⟩ : ∃ q, q = aa := ⟨_, rfl⟩
        obtain ⟨xc, rfl⟩ : ∃ q, q = ac := ⟨_, rfl⟩
        have hX := hA
        have hY := hB
        have hle : Y.length ≤ X.length := by omega
        clear hA hB
        have hstep := hgs.elim hF (List.length_pos_iff.1 (by omega)) hle
        obtain ⟨e, he, hx, hy⟩ := hgs.bd
        have het := grow_top he
        obtain ⟨d, HDd⟩ : ∃ d, Hid (X.length - Y.length = d) := ⟨_, rfl⟩
        have hd1 : (X.length : Int) - Y.length + 1 = ((d + 1 : Nat) : Int) := by have := HDd.out; omega
        have hd2 : (X.length : Int) - Y.length = (d : Int) := by have := HDd.out; omega
        have hd3 : d ≤ 11 := by have := HDd.out; omega
        obtain ⟨g1, b1', x1a, x1n, x1c, rfl, hc1, hc2, hg1, _, p0, p1, hI1⟩ := OwnLN.at hX (X.length - 1) (by omega)
        obtain ⟨g2, b2', y1a, y1n, y1c, rfl, hd4, hd5, hg2, _, p2, p3, hI2⟩ := OwnLN.at hY (Y.length - 1) (by omega)
        rw [show X.getD (X.length - 1) 0 = lead X from rfl] at hI1
        rw [show Y.getD (Y.length - 1) 0 = lead Y from rfl] at hI2
        obtain ⟨m1, HM1⟩ : ∃ m, Hid (X.length - 1 = m) := ⟨_, rfl⟩
        obtain ⟨m2, HM2⟩ : ∃ m, Hid (Y.length - 1 = m) := ⟨_, rfl⟩
        rw [HM1.out] at p0 p1
        rw [HM2.out] at p2 p3
        have hm1 : (X.length : Int) - 1 = m1 := by have := HM1.out; omega
        have hm2 : (Y.length : Int) - 1 = m2 := by have := HM2.out; omega
        have hm3 : m1 < X.length := by have := HM1.out; omega
        have hm4 : m2 < Y.length := by have := HM2.out; omega
        have hsame := elim_same X Y
        rw [HDd.out] at hsame
        have hmul1 := fun (W : World) (u1 u2 : Value) (g1 : IsLN W u1 X) (g2 : IsLN W u2 [lead Y]) => mulR_any X [lead Y] e e u1 u2 W g1 g2 (by omega) (by simp) hx (Bd.one hy.lead) (by omega)
        have hmul2 := fun (W : World) (u1 u2 : Value) (g1 : IsLN W u1 (mono d (lead X))) (g2 : IsLN W u2 Y) => mulR_any (mono d (lead X)) Y e e u1 u2 W g1 g2 (by rw [mono_len]; omega) (by omega) (Bd.monoN hx.lead) hy (by omega)
        have bS : Bd (pmul X [lead Y]) (e + e) := hx.oneMul hy.lead
        have bT : Bd (pmul (mono d (lead X)) Y) (e + e) := Bd.monoMul hx.lead hy
        have lS : (pmul X [lead Y]).length ≤ 11 := Nat.le_trans (pmul_len _ _) (by simp; omega)
        have lT : (pmul (mono d (lead X)) Y).length ≤ 30 := Nat.le_trans (pmul_len _ _) (by rw [mono_len]; omega)
        have hmin := fun (W : World) (u1 : Value) (g1 : IsLN W u1 (pmul (mono d (lead X)) Y)) => minusR_any _ u1 W g1 (by omega) (bT.fitL (by omega))
        have hadd := fun (W : World) (u1 u2 : Value) (g1 : IsLN W u1 (pmul X [lead Y])) (g2 : IsLN W u2 ((pmul (mono d (lead X)) Y).map fun z => -z)) => addR_any _ _ u1 u2 W g1 g2 (by omega) (by rw [List.length_map]; omega) (bS.fitL (by omega)) (bT.negsN.fitL (by omega))
        rw [show tz (sumTo (pmul X [lead Y]) ((pmul (mono d (lead X)) Y).map fun z => -z) (max (pmul X [lead Y]).length ((pmul (mono d (lead X)) Y).map fun z => -z).length)) = elim X Y from hsame] at hadd
        have bE : Bd (elim X Y) (e + e + 1) := hx.elim hy
        have lE := elim_len (show 0 < Y.length by omega) hle
        have hprm := fun (W : World) (u1 : Value) (g1 : IsLN W u1 (elim X Y)) => primR_any (elim X Y) u1 W g1 (by omega) (bE.fitL (by omega)) (elim_tr _ _)
        have HM1' : Hid _ := hmul1
        have HM2' : Hid _ := hmul2
        have HMIN : Hid _ := hmin
        have HADD : Hid _ := hadd
        have HPRM : Hid _ := hprm
        have HSTEP : Hid _ := hstep
        clear hmul1 hmul2 hmin hadd hprm hstep hsame bS bT lS lT bE lE hgs he hx hy HGS
        generalize pmul X [lead Y] = PS at *
        generalize pmul (mono d (lead X)) Y = PT at *
        generalize PT.map (fun z => -z) = PM at *
        generalize elim X Y = PE at *
        go_wp2_with (at_make; refine wpList_makeP rfl (.tmp 39) (.tmp 39) rfl _ _ (d + 1) rfl rfl (by omega) (by omega) (by omega) ?_)
        intro w7 xs7 HX7 hown7 hb7
        have q0 := (hb7.cell (p := ⟨g1, m1 * 2, none⟩) hg1).trans p0
        have q1 := (hb7.cell (p := ⟨g1, m1 * 2 + 1, none⟩) hg1).trans p1
        have q2 := (hb7.cell (p := ⟨g2, m2 * 2, none⟩) hg2).trans p2
        have q3 := (hb7.cell (p := ⟨g2, m2 * 2 + 1, none⟩) hg2).trans p3
        obtain ⟨t0, t1⟩ := made_cells HX7 hown7 (i := d) (by omega)
        have t2 := hown7.frozenAt (d * 2)
        have t3 := hown7.frozenAt (d * 2 + 1)
        have hne2 : wr.heap.size ≠ g2 := by omega
        have hne3 : g2 ≠ wr.heap.size := by omega
        have hmm := made_mono HX7 hown7 (hI1.below hb7)
        have HMM : Hid _ := hmm
        clear hmm
        go_wp2_with fail
        have hmm := HMM.out
        have hVs : ((w7.setCell ⟨wr.heap.size, d * 2, none⟩ (Value.bool b1')).setCell ⟨wr.heap.size, d * 2 + 1, none⟩ (Value.slice x1a x1n x1c)).heap.size = w7.heap.size := by simp
        generalize (w7.setCell ⟨wr.heap.size, d * 2, none⟩ (Value.bool b1')).setCell ⟨wr.heap.size, d * 2 + 1, none⟩ (Value.slice x1a x1n x1c) = V at *
        obtain ⟨hT, hbV⟩ := hmm
        have hbv : Below wr.heap.size wr V := hb7.trans hbV
        clear HMM q0 q1 q2 q3 t0 t1 t2 t3 hown7 HX7 hbV p0 p1 p2 p3
        generalize hW8 : V.alloc (Obj.cells #[Value.bool b2', Value.slice y1a y1n y1c] 74) = W8
        obtain ⟨hb8, hL8⟩ := one_listN hW8 (hI2.below hbv)
        rw [hVs] at hL8
        clear hW8
        have hb8w : Below wr.heap.size wr W8 := hbv.trans (hb8.mono (by have := hbv.size; omega))
        refine (HM1'.out W8 _ _ (OwnLN.below hX hb8w) hL8).mono ?_
        rintro en w9 ⟨x9, rfl, hI9, hb9⟩
        obtain ⟨a9, c9, rfl⟩ := OwnLN.val hI9
        have hb9w : Below wr.heap.size wr w9 := hb8w.trans (hb9.mono hb8w.size)
        have hT9 := OwnLN.below (OwnLN.below hT hb8) hb9
        go_wp2_with fail
        refine (HM2'.out w9 _ _ hT9 (OwnLN.below hY hb9w)).mono ?_
        rintro en w10 ⟨x10, rfl, hI10, hb10⟩
        obtain ⟨a10, c10, rfl⟩ := OwnLN.val hI10
        have hb10w : Below wr.heap.size wr w10 := hb9w.trans (hb10.mono hb9w.size)
        go_wp2_with fail
        refine (HMIN.out w10 _ hI10).mono ?_
        rintro en w11 ⟨x11, rfl, hI11, hb11⟩
        obtain ⟨a11, c11, rfl⟩ := OwnLN.val hI11
        have hb11w : Below wr.heap.size wr w11 := hb10w.trans (hb11.mono hb10w.size)
        go_wp2_with fail
        refine (HADD.out w11 _ _ (OwnLN.below (OwnLN.below hI9 hb10) hb11) hI11).mono ?_
        rintro en w12 ⟨x12, rfl, hI12, hb12⟩
        obtain ⟨a12, c12, rfl⟩ := OwnLN.val hI12
        have hb12w : Below wr.heap.size wr w12 := hb11w.trans (hb12.mono hb11w.size)
        go_wp2_with fail
        refine (HPRM.out w12 _ hI12).mono ?_
        rintro en w13 ⟨x13, rfl, hI13, hb13⟩
        obtain ⟨a13, c13, rfl⟩ := OwnLN.val hI13
        have hb13w : Below wr.heap.size wr w13 := hb12w.trans (hb13.mono hb12w.size)
        have hs13 := HSTEP.out
        have hlen13 := hs13.2
        have HS13 : Hid _ := hs13.1
        have hY13 := OwnLN.below hY hb13w
        have hK13 := hK.below hb13w
        clear HSTEP hs13
        go_wp2
        go_roundw
        case rel => exact ⟨prim PE, Y, hI13, hY13, by omega, by omega, HS13, hK13, hbel.trans (hb13w.mono hbel.size)⟩
        case measure => simp [lenV]; omega

end Go.Proofs.YtldcjkhbiffdoaaGreatDoor
