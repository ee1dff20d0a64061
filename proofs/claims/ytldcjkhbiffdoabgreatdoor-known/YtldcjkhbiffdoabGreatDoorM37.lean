import Derived.Test.YtldcjkhbiffdoabGreatDoorCFLif
import Derived.Test.YtldcjkhbiffdoabGreatDoorM34
import Derived.Test.YtldcjkhbiffdoabGreatDoorCFBnd
import Derived.Test.YtldcjkhbiffdoabGreatDoorCFOrd
import Derived.Test.YtldcjkhbiffdoabGreatDoorM28
import Derived.Test.YtldcjkhbiffdoabGreatDoorM26
import Derived.Test.YtldcjkhbiffdoabGreatDoorM07
import Derived.Test.YtldcjkhbiffdoabGreatDoorM19
import Derived.Test.YtldcjkhbiffdoabGreatDoorM31
import Derived.Laws.Strings

set_option linter.unusedSimpArgs false
namespace Go.Proofs.YtldcjkhbiffdoabGreatDoor
open Go.RowKit

theorem slp_nrm {q : List Int} (hl : q.length ≤ 11) : nrm (slp q) ≤ 10 * nrm q := by
  have h1 : ∀ (g : Nat → Int) (n : Nat), nrm (tab n g) = (sm (fun k => ((g k).natAbs : Int)) n).toNat := by
    intro g n
    induction n with
    | zero => rfl
    | succ n ih =>
      rw [tab_succ]
      have hs : ∀ (l : List Int) (x : Int), nrm (l ++ [x]) = nrm l + x.natAbs := by
        intro l x
        induction l with
        | nil => simp [nrm]
        | cons a l ih => simp only [List.cons_append, nrm, ih]; omega
      rw [hs, ih]
      have h0 : 0 ≤ sm (fun k => ((g k).natAbs : Int)) n := sm_nonneg n fun k _ => by omega
      simp only [sm]
      omega
  have h2 : sm (fun k => ((q.getD (k + 1) 0 * ((k + 1 : Nat) : Int)).natAbs : Int)) (q.length - 1) ≤ sm (fun k => 10 * ((q.getD (k + 1) 0).natAbs : Int)) (q.length - 1) := sm_le _ fun k hk => by
    rw [Int.natAbs_mul, Int.natAbs_natCast, Int.natCast_mul, Int.mul_comm]
    exact Int.mul_le_mul_of_nonneg_right (by omega) (by omega)
  rw [sm_scal] at h2
  have h3 : sm (fun k => ((q.getD (k + 1) 0).natAbs : Int)) (q.length - 1) ≤ nrm q := by
    have h4 := sm_nrm q (q.length - 1 + 1)
    rw [sm_first] at h4
    omega
  unfold slp
  rw [h1]
  omega

theorem fit_ex {f q : List Int} (hs : SqF f q) (hl : q.length ≤ 11) (hl2 : 2 ≤ q.length) (hN : nrm q ≤ 124 * 10 ^ 15) : ∃ p, p < 1000 ∧ FitP q p := by
  have h1 := slp_nrm hl
  have hlead := lead_ne hs.pp.tr hs.pp.ne
  have hF' : Ld (q.length - 1 - 1) (((q.length - 1 : Nat) : Int) * lead q) (fun t => ev t (slp q)) := by
    have h2 := Ld.of_list (l := slp q) (n := q.length - 1 - 1) (by rw [slp_len]; omega)
    rw [slp_getD, show q.length - 1 - 1 + 1 = q.length - 1 by omega, show ((q.length - 1 - 1 : Nat) : Int) + 1 = ((q.length - 1 : Nat) : Int) by omega] at h2
    exact h2
  obtain ⟨p, g1, g2, g3, g4, g5⟩ := fits (F := q) (F' := slp q) (n := q.length - 1) (c := lead q) (by omega) (by omega) (Ld.of_list (by omega)) hlead hF' hs.pp.prm hs.cop (by
    have : (124 * 10 ^ 15 : Nat) = 124000000000000000 := by decide
    have : (10 ^ 19 : Nat) = 10000000000000000000 := by decide
    omega)
  exact ⟨p, g2, ⟨g1, g3⟩, g4, g5⟩

theorem SpR.lens {p n : Nat} (hp : Dom (p : Int)) {F : List Int} {c : Int} {U : List (List Int)} (h : SpR p (fun t => ev t F) c n U) (hF : Nrm p F) (hne : F ≠ []) : ∀ x, x ∈ U → x.length ≤ F.length := fun x hx => by
  have hx' := (h.mem x hx).1
  obtain ⟨_, _, j, _, _, e, _⟩ := ((h.di hx).dv hp).deg hp (hx'.nrm.dm hx'.ne) (hF.dm hne)
  have := hx'.len
  have := List.length_pos_iff.2 hne
  omega

set_option maxRecDepth 100000 in
set_option maxHeartbeats 8000000 in
theorem primeFactors_any (f q : List Int) (u : Value) (w : World) (hu : IsL w u q) (hs : SqF f q) (hl : q.length ≤ 11) (hN : nrm q ≤ 124 * 10 ^ 15) :
    Calls Tryz.prog 40 #[u] w fun en w' => ∃ x P, en = .returned x ∧ OwnVL w.heap.size w' x P ∧ PfR q P ∧ P.length ≤ 5000 ∧ Below w.heap.size w w' := by
  obtain ⟨ua, uc, rfl⟩ := OwnL.val hu
  obtain ⟨PF, HPF⟩ : ∃ PF : List (List Int) → Prop, Hid (PF = PfR q) := ⟨_, rfl⟩
  have hN1 : nrm q ≤ 124000000000000000 := by
    have : (124 * 10 ^ 15 : Nat) = 124000000000000000 := by decide
    omega
  by_cases hl2 : 2 ≤ q.length
  · have hex := fit_ex hs hl hl2 hN
    have hqn := hs.pp.ne
    have e24 : (10 ^ 24 : Nat) = 1000000000000000000000000 := by decide
    have hq0 : 0 < nrm q := by
      have h1 := nrm_ge q (q.length - 1)
      have h2 : q.getD (q.length - 1) 0 ≠ 0 := lead_ne hs.pp.tr hqn
      omega
    have hqb : Bd q 24 := fun k => by have := nrm_ge q k; omega
    have h2n : 2 ^ (q.length - 1) ≤ 1024 := by
      have : 2 ^ (q.length - 1) ≤ 2 ^ 10 := Nat.pow_le_pow_right (by omega) (by omega)
      omega
    have h2p : 0 < 2 ^ (q.length - 1) := Nat.pow_pos (by omega)
    have hBn : 2 ^ (q.length - 1) * nrm q ≤ 1024 * nrm q := Nat.mul_le_mul_right _ h2n
    have hBp : 0 < 2 ^ (q.length - 1) * nrm q := Nat.mul_pos h2p hq0
    have hFP := fittingPrime_any q _ w hu (hqb.fitW (by omega)) hqn (by omega) hex
    have hBO := fun (W : World) (hW : IsL W (.slice ua q.length uc) q) => bound_any q 24 _ W hW hl hqb (by omega) (by omega)
    have HSP : Hid (∀ (W : World) (p : Nat) (x : Value), 2 ≤ p → p < 1000 → FitP q p → RowN W x (redL p q) → Calls Tryz.prog 67 #[x, .int .i64 p] W fun e w' => ∃ x U, e = .returned x ∧ OwnVN W.heap.size w' x U ∧ SpR p (fun t => ev t q) (lead q) 10 U ∧ U ≠ [] ∧ (∀ y, y ∈ U → y.length ≤ 11) ∧ Below W.heap.size W w') := fun W p x hp2 hp1 hfp hx => by
      have hlen := (redL_eq (p := p) (by omega) hqn).2 hfp.2.1
      have hnr := redL_nrm (p := p) (by omega) q
      have hrn : redL p q ≠ [] := by intro e; rw [e] at hlen; simp at hlen; omega
      have hsq := Cop.sq ((cop_redL q).2 hfp.2.2)
      refine (split_any p (redL p q) x W hx (by omega) (by omega) hp2 hp1 hfp.1.2 hnr hsq).mono ?_
      rintro e w' ⟨x', U, rfl, h1, h2, h3, h4⟩
      refine ⟨x', U, rfl, h1, ?_, h3, fun y hy => by have := h2.lens hfp.1.2 hnr hrn y hy; omega, h4⟩
      have h5 : SpR p (fun t => ev t q) (lead q) ((redL p q).length - 1) U := h2.alike ((redL_zm p q).neg.congr fun t => by omega) (by
        unfold lead
        rw [hlen, redL_getD (by omega)]
        have := emod_alike (q.getD (q.length - 1) 0) p
        have := Int.dvd_neg.2 this
        rwa [Int.neg_sub] at this)
      exact ⟨h5.mem, h5.eq, by have := h5.len; omega⟩
    have HLF : Hid (∀ (W : World) (p : Nat) (U : List (List Int)) (x z : Value), 2 ≤ p → p < 1000 → FitP q p → SpR p (fun t => ev t q) (lead q) 10 U → (∀ y, y ∈ U → y.length ≤ 11) → Below w.heap.size w W → OwnVN 0 W x U → IsI W z (2 * ((2 ^ (q.length - 1) * nrm q : Nat) : Int)) → Calls Tryz.prog 71 #[.slice ua q.length uc, x, .int .i64 p, z] W fun en w' => ∃ x z Λ k, en = .returned (.tuple #[x, z]) ∧ OwnVL W.heap.size w' x Λ ∧ IsI w' z ((p : Int) ^ k) ∧ LiO p q U k Λ ∧ 2 * ((2 ^ (q.length - 1) * nrm q : Nat) : Int) < (p : Int) ^ k ∧ ((p : Int) ^ k).natAbs < 10 ^ 24 ∧ Below W.heap.size W w') := fun W p U x z hp2 hp1 hfp hsp hUe hW hx hz =>
      lift_any p 10 q U _ 24 _ x z W (OwnL.below hu hW) hx hz hqn hl hsp.len hUe hqb (by omega) (by omega) (by omega) (by omega) hsp (Cop.sq hfp.2.2) hfp.2.1 hp2 hp1 hfp.1.2
    have HCB : Hid (∀ (W : World) (p k : Nat) (U Λ : List (List Int)) (x z : Value), 2 ≤ p → p < 1000 → FitP q p → SpR p (fun t => ev t q) (lead q) 10 U → U ≠ [] → (∀ y, y ∈ U → y.length ≤ 11) → LiO p q U k Λ → 2 * ((2 ^ (q.length - 1) * nrm q : Nat) : Int) < (p : Int) ^ k → ((p : Int) ^ k).natAbs < 10 ^ 24 → Below w.heap.size w W → OwnVL 0 W x Λ → IsI W z ((p : Int) ^ k) → Calls Tryz.prog 72 #[.slice ua q.length uc, x, z] W fun en w' => ∃ x P, en = .returned x ∧ OwnVL W.heap.size w' x P ∧ PF P ∧ P.length ≤ 5000 ∧ Below W.heap.size W w') := fun W p k U Λ x z hp2 hp1 hfp hsp hUn hUe hli hby hM hW hx hz => by
      rw [HPF.out]
      have hlen := hli.len
      have hu0 := List.length_pos_iff.2 hUn
      have hd := LiO.dsum hfp.1.2 hli hsp hqn hfp.2.1
      exact combine_any p k (q.length - 1) q Λ 24 _ x z W (OwnL.below hu hW) hx hz (hli.zas hp2 hfp.1.2 hsp (Cop.sq hfp.2.2) hqn hfp.2.1) (by omega) hs.pp hl (by have := hsp.len; omega) (by omega) (by omega) (hli.lbd hUe hM) (by
        have h9 : ((2 ^ (q.length - 1) * nrm q : Nat) : Int) = 2 ^ (q.length - 1) * (nrm q : Int) := by rw [Int.natCast_mul, Int.natCast_pow]; rfl
        rw [← h9]; exact hby) hM (by omega) (by omega)
    have hRE := fun (W : World) (p : Nat) (hp2 : 2 ≤ p) (hp1 : p < 1000) (hW : Below w.heap.size w W) => reduced_any q p _ W (OwnL.below hu hW) (hqb.fitW (by omega)) (by omega) (by omega) hp1
    have HRE : Hid _ := hRE
    obtain ⟨BN, HBN⟩ : ∃ BN : Nat, Hid (2 ^ (q.length - 1) * nrm q = BN) := ⟨2 ^ (q.length - 1) * nrm q, by show _ = _; rfl⟩
    rw [HBN.out] at hBO HLF HCB hBn hBp
    have HBO : Hid _ := hBO
    have fBN : Fit ((BN : Nat) : Int) := fitW_of (e := 24) (by rw [Int.natAbs_natCast]; omega) (by omega)
    have f2 : Fit 2 := fitW_of (e := 4) (by decide) (by omega)
    rw [← HPF.out]
    clear hex hRE hBO hqb e24 h2n h2p hN HPF hs
    go_enter Tryz.func40, Tryz.ntmps40
    go_wp2_with fail
    refine hFP.mono ?_
    rintro en w1 ⟨p, rfl, hp2, hp1, hfp, hb1⟩
    have HFP : Hid _ := hfp
    clear hfp hFP
    go_wp2_with fail
    refine (HRE.out w1 p hp2 hp1 hb1).mono ?_
    rintro en w2 ⟨x2, rfl, hI2, hb2⟩
    have hb2w := hb1.trans (hb2.mono hb1.size)
    have hSP := HSP.out w2 p x2 hp2 hp1 HFP.out hI2.row
    obtain ⟨RL, HRL⟩ : ∃ RL, Hid (redL p q = RL) := ⟨_, rfl⟩
    rw [HRL.out] at hI2
    obtain ⟨ra, rc, rfl⟩ := hI2.row.val
    clear HSP HRE
    go_wp2_with fail
    refine hSP.mono ?_
    rintro en w3 ⟨x3, U, rfl, hU3, hsp, hun, hue, hb3⟩
    have HSPR : Hid _ := hsp
    have HUN : Hid _ := hun
    have HUE : Hid _ := hue
    clear hsp hun hue hSP
    obtain ⟨ua3, uc3, rfl⟩ := hU3.val
    have hb3w := hb2w.trans (hb3.mono hb2w.size)
    go_wp2_with fail
    refine (small_any 2 (by omega) (by omega) w3).mono ?_
    rintro en w4 ⟨x4, rfl, hI4, hb4⟩
    obtain ⟨b4, a4, n4, c4, rfl⟩ := hI4.form
    have hb4w := hb3w.trans (hb4.mono hb3w.size)
    go_wp2_with fail
    refine (HBO.out w4 (OwnL.below hu hb4w)).mono ?_
    rintro en w5 ⟨x5, rfl, hI5, hb5⟩
    obtain ⟨b5, a5, n5, c5, rfl⟩ := hI5.form
    have hb5w := hb4w.trans (hb5.mono hb4w.size)
    go_wp2_with fail
    refine (mul_any _ _ 2 ((BN : Nat) : Int) w5 (hI4.below hb5) hI5 f2 fBN).mono ?_
    rintro en w6 ⟨x6, rfl, hI6, hb6⟩
    obtain ⟨b6, a6, n6, c6, rfl⟩ := hI6.form
    have hb6w := hb5w.trans (hb6.mono hb5w.size)
    have hb456 := (hb4.trans (hb5.mono hb4.size)).trans (hb6.mono (hb4.trans (hb5.mono hb4.size)).size)
    have hU6 := OwnV.below vecN hU3 hb456
    go_wp2_with fail
    generalize hW7 : w6.alloc (Obj.cells #[Value.bool b6, Value.slice a6 n6 c6] 70) = W7
    obtain ⟨hb7, X7⟩ := one_new hW7
    clear hW7
    have hb7w := hb6w.trans (hb7.mono hb6w.size)
    have hU7 := OwnV.below vecN hU6 hb7
    refine (HLF.out W7 p U _ _ hp2 hp1 HFP.out HSPR.out HUE.out hb7w (OwnV.lower hU7 (Nat.zero_le _)) (hI6.below hb7)).mono ?_
    rintro en w8 ⟨x8, z8, Λ, k, rfl, hL8, hM8, hli, hby, hMf, hb8⟩
    have HLI : Hid _ := hli
    have HBY : Hid _ := (⟨hby, hMf⟩ : _ ∧ _)
    clear hli hby hMf HLF
    obtain ⟨la, lc, rfl⟩ := hL8.val
    obtain ⟨b8, a8, n8, c8, rfl⟩ := hM8.form
    have hb8w := hb7w.trans (hb8.mono hb7w.size)
    go_wp2_with fail
    generalize hW9 : w8.alloc (Obj.cells #[Value.bool b8, Value.slice a8 n8 c8] 70) = W9
    obtain ⟨hb9, X9⟩ := one_new hW9
    clear hW9
    have hb9w := hb8w.trans (hb9.mono hb8w.size)
    refine (HCB.out W9 p k U Λ _ _ hp2 hp1 HFP.out HSPR.out HUN.out HUE.out HLI.out HBY.out.1 HBY.out.2 hb9w (OwnV.lower (OwnV.below vecL hL8 hb9) (Nat.zero_le _)) (hM8.below hb9)).mono ?_
    rintro en w10 ⟨x10, P, rfl, hP10, hpf, hpl, hb10⟩
    have HPFR : Hid _ := hpf
    clear hpf
    obtain ⟨pa, pc, rfl⟩ := hP10.val
    go_wp2
    go_ret
    first | exact ⟨_, P, rfl, hP10.lower hb9w.size, HPFR.out, hpl, hb9w.trans (hb10.mono hb9w.size)⟩ | exact ⟨_, rfl, P, hP10.lower hb9w.size, HPFR.out, hpl, hb9w.trans (hb10.mono hb9w.size)⟩
  · have HP : Hid (PF []) := by
      show PF []
      rw [HPF.out]
      have h0 := List.length_pos_iff.2 hs.pp.ne
      have hone : q = [1] := by
        have hc := (cont_one hs.pp.tr hs.pp.ne hs.pp.pr).1
        have hlead := hs.pp.lead
        match q, show q.length = 1 by omega, hc, hlead with
        | [x], _, hc, hlead =>
          have hx : 0 < x := hlead
          have : cont [x] = x.natAbs := by simp [cont]
          rw [this] at hc
          have : x = 1 := by omega
          rw [this]
      exact ⟨fun g hg => (by cases hg), fun t => (by rw [hone]; simp [ev, fs, pA])⟩
    rw [← HPF.out]
    have hlt : (q.length : Int) < 2 := by omega
    clear hs HPF
    go_enter Tryz.func40, Tryz.ntmps40
    go_wp2
    go_ret
    have hfin : OwnVL w.heap.size (w.alloc (Obj.cells #[] 65)) (.slice (some ⟨w.heap.size, 0, none⟩) 0 0) [] := OwnV.lit rfl
    first | exact ⟨_, [], rfl, hfin, HP.out, by simp, below_one w _⟩ | exact ⟨_, rfl, [], hfin, HP.out, by simp, below_one w _⟩

end Go.Proofs.YtldcjkhbiffdoabGreatDoor

set_option linter.unusedSimpArgs false
namespace Go.Proofs.YtldcjkhbiffdoabGreatDoor
open Go.RowKit

theorem Bd.slp {f : List Int} {e : Nat} (h : Bd f e) (hl : f.length ≤ 100) : Bd (slp f) (e + 2) := fun k => by
  rw [slp_getD]
  have h1 := h (k + 1)
  by_cases hk : k + 1 < f.length
  · rw [Int.natAbs_mul]
    have h2 : ((k : Int) + 1).natAbs ≤ 100 := by omega
    have h3 := Nat.mul_le_mul h2 (Nat.le_refl (f.getD (k + 1) 0).natAbs)
    have h4 : 10 ^ (e + 2) = 100 * 10 ^ e := by rw [Nat.pow_add]; omega
    omega
  · rw [getD_out (by omega)]; simp; exact Nat.pow_pos (by omega)

theorem prim_len' (l : List Int) : (prim l).length ≤ l.length := by
  unfold prim; simp

theorem PS.sq {f : List Int} (hf : Pp f) (hl : f.length ≤ 11) (fx : Bd f 12) : PS (gfun (f.length + (prim (slp f)).length) f (prim (slp f))) f (prim (slp f)) 14 := by
  have ts := slp_tr hf.tr
  have h0 := List.length_pos_iff.2 hf.ne
  have h1 := prim_len' (slp f)
  rw [slp_len] at h1
  refine ⟨hf.tr, ts.prim, hf.pr, prim_prim ts, rfl, hl, by omega, fx.mono (by omega), (fx.slp (by omega)).prim, .inr ⟨by omega, ?_⟩⟩
  have : 1 ≤ 3 ^ (12 - f.length) := Nat.pow_pos (by omega)
  omega

set_option maxRecDepth 100000 in
set_option maxHeartbeats 4000000 in
theorem squareFree_any (f : List Int) (u : Value) (w : World) (hu : IsL w u f) (hf : Pp f) (hl : f.length ≤ 11) (fx : Bd f 12) :
    Calls Tryz.prog 41 #[u] w fun en w' => ∃ x q, en = .returned x ∧ IsL w' x q ∧ SqF f q ∧ Below w.heap.size w w' := by
  obtain ⟨ua, uc, rfl⟩ := OwnL.val hu
  obtain ⟨G, HG⟩ : ∃ G, Hid (G = gfun (f.length + (prim (slp f)).length) f (prim (slp f))) := ⟨_, rfl⟩
  have hps := PS.sq hf hl fx
  rw [← HG.out] at hps
  obtain ⟨hGp, Q, hQ, hSq⟩ := SqF.of hf HG.out
  have hS := slope_any f 12 _ w hu (by omega) fx (by omega)
  have hP := fun (V : World) (x : Value) (h : IsL V x (slp f)) => primP_any (slp f) 14 x V h (by rw [slp_len]; omega) (fx.slp (by omega)) (by omega)
  have hPG := fun (V : World) (u v : Value) (g1 : IsL V u f) (g2 : IsL V v (prim (slp f))) => primitiveGcd_any G f (prim (slp f)) u v V g1 g2 hps
  have hQU := fun (V : World) (u v : Value) (g1 : IsL V u f) (g2 : IsL V v G) (l : G.length ≤ 11) (b : Bd G 5000000) => quotientOf_any f G 12 5000000 u v V g1 g2 (by omega) (by omega) fx b (by
    have h1 : (f.length + 1 - G.length) * (5000000 + 1) ≤ 11 * (5000000 + 1) := Nat.mul_le_mul (by have := List.length_pos_iff.2 hGp.ne; omega) (Nat.le_refl _)
    omega) hf.tr hGp.ne
  have hE : 12 + (f.length + 1 - G.length) * (5000000 + 1) ≤ 70000000 := by
    have h1 : (f.length + 1 - G.length) * (5000000 + 1) ≤ 11 * (5000000 + 1) := Nat.mul_le_mul (by have := List.length_pos_iff.2 hGp.ne; omega) (Nat.le_refl _)
    omega
  generalize 12 + (f.length + 1 - G.length) * (5000000 + 1) = E at *
  have hQl : Q.length ≤ 12 := by rw [dvs_len hQ]; omega
  have HSq : Hid _ := hSq
  have HP : Hid _ := hP
  have HPG : Hid _ := hPG
  have HQU : Hid _ := hQU
  have HQ : Hid _ := hQ
  clear hSq hP hPG hQU hQ HG hps hf hGp
  generalize prim (slp f) = PS1 at *
  generalize slp f = SL at *
  go_enter Tryz.func41, Tryz.ntmps41
  go_wp2_with fail
  refine hS.mono ?_
  rintro en w1 ⟨x1, rfl, hI1, hb1⟩
  obtain ⟨a1, c1, rfl⟩ := OwnL.val hI1
  go_wp2_with fail
  refine (HP.out w1 _ hI1.isL).mono ?_
  rintro en w2 ⟨x2, rfl, hI2, hb2⟩
  obtain ⟨a2, c2, rfl⟩ := OwnL.val hI2
  have hb2w := hb1.trans (hb2.mono hb1.size)
  go_wp2_with fail
  refine (HPG.out w2 _ _ (OwnL.below hu hb2w) hI2).mono ?_
  rintro en w3 ⟨x3, rfl, hI3, hGl, hGb, hb3⟩
  obtain ⟨a3, c3, rfl⟩ := OwnL.val hI3
  have hb3w := hb2w.trans (hb3.mono hb2w.size)
  have hq := HQU.out w3 _ _ (OwnL.below hu hb3w) hI3 hGl hGb
  clear hGb hGl
  go_wp2_with fail
  refine hq.mono ?_
  rintro en w4 ⟨x4, fl, rfl, hQV, hb4⟩
  have hb4w := hb3w.trans (hb4.mono hb3w.size)
  rcases hQV with ⟨rfl, Q', hdv, hIQ, hQb⟩ | ⟨rfl, hdv⟩
  · obtain rfl : Q = Q' := Option.some.inj (HQ.out.symm.trans hdv)
    have hT := ptrimmed_any Q _ w4 hIQ (by omega) (fun i _ => fitW_of (hQb i) (by omega))
    obtain ⟨a4, c4, rfl⟩ := OwnL.val hIQ
    clear hdv HQ hQb
    generalize tz Q = q at *
    go_wp2_with fail
    refine hT.mono ?_
    rintro en w5 ⟨x5, rfl, hI5, hb5⟩
    obtain ⟨a5, c5, rfl⟩ := OwnL.val hI5
    have hb5w := hb4w.trans (hb5.mono hb4w.size)
    go_wp2
    go_ret
    first | exact ⟨_, q, rfl, hI5.isL, HSq.out, hb5w⟩ | exact ⟨_, rfl, q, hI5.isL, HSq.out, hb5w⟩
  · have := HQ.out.symm.trans hdv
    cases this

set_option maxRecDepth 100000 in
set_option maxHeartbeats 4000000 in
theorem dividedOut_any (f g : List Int) (u v : Value) (w : World) (hu : IsL w u f) (hv : IsL w v g) (hf : Pp f) (hg : Pp g) (h2 : 2 ≤ g.length) (hl : f.length ≤ 11) (hm : g.length ≤ 11) (gx : Bd g 20) (hB : ∀ l c, DoO f g l c → Bd l 20) :
    Calls Tryz.prog 42 #[u, v] w fun en w' => ∃ x l c, en = .returned (.tuple #[x, .int .i64 (c : Nat)]) ∧ IsL w' x l ∧ DoO f g l c ∧ ¬ Dv 0 (fun t => ev t g) (fun t => ev t l) ∧ Below w.heap.size w w' := by
  obtain ⟨ua, uc, rfl⟩ := OwnL.val hu
  obtain ⟨va, vc, rfl⟩ := OwnL.val hv
  have hT := ptrimmed_any f _ w hu (by omega) (fun i _ => fitW_of ((hB f 0 (DoO.start hf)) i) (by omega))
  rw [tz_of_tr hf.tr] at hT
  have HD0 : Hid (DoO f g f 0) := DoO.start hf
  have HND : Hid (∀ l c, DoO f g l c → dvs g (l.length + 1 - g.length) l = none → ¬ Dv 0 (fun t => ev t g) (fun t => ev t l)) := fun l c h1 h3 => h1.ends hg h3
  have HNX : Hid (∀ l c m Q, DoO f g l c → dvs g m l = some Q → DoO f g (tz Q) (c + 1)) := fun l c m Q h1 h3 => h1.next hg h2 h3
  have HQU : Hid (∀ l c (V : World) (u v : Value), DoO f g l c → IsL V u l → IsL V v g → Calls Tryz.prog 46 #[u, v] V fun en w' => ∃ x fl, en = .returned (.tuple #[x, .bool fl]) ∧ QV g l 300 w' x fl ∧ Below V.heap.size V w') := fun l c V u v hd g1 g2 => by
    have hll := hd.lt
    have h1 : (l.length + 1 - g.length) * (20 + 1) ≤ 12 * 21 := Nat.mul_le_mul (by omega) (Nat.le_refl _)
    refine (quotientOf_any l g 20 20 u v V g1 g2 (by omega) (by omega) (hB l c hd) gx (by omega) hd.pp.tr hg.ne).mono ?_
    rintro en w' ⟨x, fl, rfl, hQ, hb⟩
    refine ⟨x, fl, rfl, ?_, hb⟩
    rcases hQ with ⟨k1, Q, k2, k3, k4⟩ | k
    · exact .inl ⟨k1, Q, k2, k3, k4.mono (by omega)⟩
    · exact .inr k
  have HLT : Hid (∀ l c, DoO f g l c → l.length + c ≤ f.length ∧ 0 < l.length) := fun l c h => ⟨h.lt, List.length_pos_iff.2 h.pp.ne⟩
  obtain ⟨D, HD⟩ : ∃ D : List Int → Nat → Prop, Hid (D = DoO f g) := ⟨_, rfl⟩
  obtain ⟨N, HN⟩ : ∃ N : List Int → Prop, Hid (N = fun l => ¬ Dv 0 (fun t => ev t g) (fun t => ev t l)) := ⟨_, rfl⟩
  have hgoal : (fun (en : Ending) (w' : World) => ∃ x l c, en = .returned (.tuple #[x, .int .i64 (c : Nat)]) ∧ IsL w' x l ∧ DoO f g l c ∧ ¬ Dv 0 (fun t => ev t g) (fun t => ev t l) ∧ Below w.heap.size w w') = fun en w' => ∃ x l c, en = .returned (.tuple #[x, .int .i64 (c : Nat)]) ∧ IsL w' x l ∧ D l c ∧ N l ∧ Below w.heap.size w w' := by rw [HD.out, HN.out]
  rw [hgoal]
  have HND' : Hid (∀ l c, D l c → dvs g (l.length + 1 - g.length) l = none → N l) := by rw [HD.out, HN.out]; exact HND.out
  rw [← HD.out] at HD0 HNX HQU HLT
  clear hgoal HND HD HN hf hg gx hB
  go_enter Tryz.func42, Tryz.ntmps42
  go_wp2_with fail
  refine hT.mono ?_
  rintro en w1 ⟨x1, rfl, hI1, hb1⟩
  obtain ⟨a1, c1, rfl⟩ := OwnL.val hI1
  go_wp2_with fail
  go_loopw [6, 7] (fun l k wr => ∃ (L : List Int) (c : Nat), k = .int .i64 (c : Nat) ∧ IsL wr l L ∧ Hid (D L c) ∧ c < f.length ∧ Below w.heap.size w wr) (fun _ k _ => f.length - (intOf k).toNat)
  case atStart => exact ⟨f, 0, rfl, hI1.isL, HD0, by have := HLT.out f 0 HD0.out; omega, hb1⟩
  case round =>
    clear HD0 hI1
    obtain ⟨L, c, rfl, hL, HDO, hcl, hbel⟩ := hrel
    obtain ⟨la, lc, rfl⟩ := OwnL.val hL
    have hq := HQU.out L c wr _ _ HDO.out hL (OwnL.below hv hbel)
    have hlt := HLT.out L c HDO.out
    have hci : (c : Int) < (f.length : Int) := by omega
    go_wp2_with fail
    refine hq.mono ?_
    rintro en w3 ⟨x3, fl, rfl, hQV, hb3⟩
    have hbel3 := hbel.trans (hb3.mono hbel.size)
    rcases hQV with ⟨rfl, Q, hdv, hIQ, hQb⟩ | ⟨rfl, hdv⟩
    · have HN1 : Hid _ := HNX.out L c _ Q HDO.out hdv
      have hlt1 := HLT.out _ _ HN1.out
      have hQl : Q.length ≤ 12 := by rw [dvs_len hdv]; omega
      have hTr := ptrimmed_any Q _ w3 hIQ (by omega) (fun i _ => fitW_of (hQb i) (by omega))
      obtain ⟨a4, c4, rfl⟩ := OwnL.val hIQ
      clear hdv hQb hq
      generalize tz Q = q at *
      go_wp2_with fail
      refine hTr.mono ?_
      rintro en w4 ⟨x4, rfl, hI4, hb4⟩
      obtain ⟨a5, c5, rfl⟩ := OwnL.val hI4
      have hbel4 := hbel3.trans (hb4.mono hbel3.size)
      have hI4' := hI4.isL
      go_wp2
      go_roundw
      case rel => exact ⟨q, c + 1, by go_num, hI4', HN1, by omega, hbel4⟩
      case measure => simp [intOf]; omega
    · have HNV : Hid _ := HND'.out L c HDO.out hdv
      have hL3 := OwnL.below hL hb3
      clear hdv hq
      go_wp2
      go_ret2
      first | exact ⟨_, L, c, rfl, hL3, HDO.out, HNV.out, hbel3⟩ | exact ⟨L, c, rfl, hL3, HDO.out, HNV.out, hbel3⟩

end Go.Proofs.YtldcjkhbiffdoabGreatDoor

set_option linter.unusedSimpArgs false
namespace Go.Proofs.YtldcjkhbiffdoabGreatDoor
open Go.RowKit

def ptCells : List (List Int × Nat) → List Value
  | [] => []
  | x :: l => .string ⟨(ptext x.1).toArray⟩ :: .int .i64 (x.2 : Nat) :: ptCells l

theorem ptCells_app : ∀ l m : List (List Int × Nat), ptCells (l ++ m) = ptCells l ++ ptCells m
  | [], m => rfl
  | x :: l, m => by simp [ptCells, ptCells_app l m]
def OwnPt (B : Nat) (w : World) (v : Value) (ps : List (List Int × Nat)) : Prop := w.ownsRow B 40 2 v ps.length (ptCells ps)

theorem OwnPt.block {B : Nat} {w : World} {v : Value} {ps : List (List Int × Nat)} (h : OwnPt B w v ps) : ∀ k, v.ownBlock = some k → B ≤ k := fun k hk => (World.ownsRow.lt h k hk).1

theorem OwnPt.typ {B : Nat} {w : World} {v : Value} {ps : List (List Int × Nat)} (h : OwnPt B w v ps) : ∀ k, v.ownBlock = some k → ∃ cur, w.heap[k]? = some (.cells cur 40 (0, 0)) := by
  intro k hk
  rcases h.2 with ⟨hn, _⟩ | ⟨g, cap, cur, hv, _, hg, _⟩
  · rw [hn] at hk; simp [Value.ownBlock] at hk
  · rw [hv] at hk; simp [Value.ownBlock] at hk; subst hk; exact ⟨cur, hg⟩

theorem OwnPt.val {B : Nat} {w : World} {v : Value} {ps : List (List Int × Nat)} (h : OwnPt B w v ps) : ∃ a c, v = .slice a ps.length c := by
  rcases h.2 with ⟨h, h'⟩ | ⟨g, cap, cur, hv, _⟩
  · exact ⟨none, 0, by rw [h']; exact h⟩
  · exact ⟨_, _, hv⟩

theorem OwnPt.below {B : Nat} {w w' : World} {v : Value} {ps : List (List Int × Nat)} (h : OwnPt B w v ps) (hb : Below w.heap.size w w') : OwnPt B w' v ps := owns_belowN h hb

theorem OwnPt.lit {w : World} {n : Nat} (h : w.heap.size = n) : OwnPt n (w.alloc (.cells #[] 40)) (.slice (some ⟨n, 0, none⟩) 0 0) [] := by
  subst h
  exact World.ownsRow_made w #[] 0 (Nat.le_refl _) (by simp [maxLen]) rfl

theorem OwnPt.lower {B C : Nat} {w : World} {v : Value} {ps : List (List Int × Nat)} (h : OwnPt B w v ps) (hC : C ≤ B) : OwnPt C w v ps := by
  refine ⟨h.1, ?_⟩
  rcases h.2 with h | ⟨g, cap, cur, hv, hb, r⟩
  · exact .inl h
  · exact .inr ⟨g, cap, cur, hv, Nat.le_trans hC hb, r⟩

theorem IsL.keptP {w w' : World} {c : Value} {a : List Int} {g : Option Nat} (h : IsL w c a) (hg : w.grownBy w' g) (ht : ∀ k, g = some k → ∃ cur, w.heap[k]? = some (.cells cur 40 (0, 0))) : IsL w' c a := by
  obtain ⟨cs, h1, h2, h3⟩ := h
  have hne : ∀ (k : Nat) (cur : Array Value) (e : TypeId) (f : Nat × Nat), w.heap[k]? = some (Obj.cells cur e f) → e ≠ 40 → w'.heap[k]? = some (Obj.cells cur e f) := fun k cur e f hk he => by
    rw [hg.block k (Array.getElem?_eq_some_iff.1 hk).1 (fun e' => ?_)]
    · exact hk
    · obtain ⟨cur', hc⟩ := ht k e'.symm
      rw [hk] at hc
      simp at hc
      exact he hc.2.1
  refine ⟨cs, h1, ⟨h2.1, ?_⟩, fun i p hp => ?_⟩
  · rcases h2.2 with h1 | ⟨k, cap, cur, hv, hb0, hk, r⟩
    · exact .inl h1
    · exact .inr ⟨k, cap, cur, hv, hb0, hne k _ _ _ hk (by decide), r⟩
  · obtain ⟨b, x, l, e, hr, hl⟩ := h3 i p hp
    refine ⟨b, x, l, e, ⟨hr.1, ?_⟩, hl⟩
    rcases hr.2 with h1 | ⟨k, cap, cur, hv, hb0, hk, r⟩
    · exact .inl h1
    · exact .inr ⟨k, cap, cur, hv, hb0, hne k _ _ _ hk (by decide), r⟩

theorem Tryz.infoPt : (Tryz.prog.info? 40).map (fun i => (i.zero, i.size, i.bytes)) = some (some (.agg #[.string ⟨#[]⟩, .int .i64 0]), 2, 24) := by kernel_rfl
theorem Tryz.slicePt : Tryz.prog.underlying 36 = some (.slice 40) := by kernel_rfl

theorem wpList_pushPt {ops : Array Oper} {rest : List Oper} {o : Oper} {a : Act} {Q : Exit → Act → World → Prop} {wr : World} (hgd : o.guard = none) (s x : Operand)
    (ho : o.op = .call { callee := .builtin .append, args := #[s, x], argTypes := #[36, 36] })
    (B : Nat) (v : Value) (ps : List (List Int × Nat)) (g : List Int) (n : Nat) (hs : a.eval s = v) (hown : OwnPt B wr v ps) (hx : a.eval x = .slice (some ⟨wr.heap.size, 0, none⟩) 1 1)
    (hlen : ps.length ≤ 1000000000) (hB : B ≤ wr.heap.size)
    (h : ∀ v' w', OwnPt B w' v' (ps ++ [(g, n)]) → Below B wr w' → wr.grownBy w' v.ownBlock → wpList Tryz.prog ops Q rest (a.put o.dst v') w') :
    wpList Tryz.prog ops Q (o :: rest) a (wr.alloc (.cells #[.string ⟨(ptext g).toArray⟩, .int .i64 (n : Nat)] 40)) := by
  obtain ⟨i, hi, hz0, hz1, hz2⟩ := info_parts Tryz.infoPt
  have htyp := hown.typ
  have hblk := hown.block
  refine wpList_append_own _ hgd s x 36 ho B 40 i (.agg #[.string ⟨#[]⟩, .int .i64 0]) 2 24 Tryz.slicePt hi hz0 hz1 hz2 rfl (by decide) v ps.length (ptCells ps) hs (World.ownsRow.alloc hown _) ⟨wr.heap.size, 0, none⟩ 1 1 [.string ⟨(ptext g).toArray⟩, .int .i64 (n : Nat)] hx rfl ?_ ?_ ?_ ?_ ?_ ?_
  · exact cell_two_new wr _ _ 40
  · intro u hu
    simp at hu
    rcases hu with rfl | rfl <;> rfl
  · unfold maxLen; omega
  · omega
  · simp; omega
  · intro v' w' g1 g2 _
    have hg : wr.grownBy w' v.ownBlock := by
      have h0 := World.grownBy_alloc wr (.cells #[.string ⟨(ptext g).toArray⟩, .int .i64 (n : Nat)] 40) v.ownBlock
      exact ⟨g2.os.trans h0.os, g2.tape.trans h0.tape, g2.output.trans h0.output, Nat.le_trans h0.size g2.size, fun k hk hne => (g2.block k (by simp; omega) hne).trans (h0.block k hk hne)⟩
    refine h v' w' ?_ ((Below.refl _ _).grown hg hB hblk) hg
    show World.ownsRow _ _ _ _ _ _ _
    rw [ptCells_app]
    simpa [ptCells] using g1

theorem bd_div {F G S : List Int} (hF : F.length ≤ 11) (tF : Tr F) (tG : Tr G) (tS : Tr S) (hne : F ≠ []) (fx : Bd F 12) (e : ∀ t, ev t F = ev t G * ev t S) : Bd G 17 ∧ G.length ≤ 11 ∧ (∀ j, (G.getD j 0).natAbs ≤ 11264000000000000) := by
  have h1 : nrm F ≤ 11 * 10 ^ 12 := Nat.le_trans (nrm_le (B := 10 ^ 12) fun j => Nat.le_of_lt (fx j)) (Nat.mul_le_mul hF (Nat.le_refl _))
  have h2 : ∀ j, (G.getD j 0).natAbs ≤ 11264000000000000 := fun j => by
    have h3 := (div_bd hF tF tG tS hne e j).1
    have h4 : (10 : Nat) ^ 12 = 1000000000000 := by decide
    rw [h4] at h1
    omega
  refine ⟨fun j => Nat.lt_of_le_of_lt (h2 j) (by decide), ?_, h2⟩
  exact Nat.le_trans (div_bd hF tF tG tS hne e 0).2 hF

theorem bd_dv {F G : List Int} (hF : F.length ≤ 11) (pF : Pp F) (pG : Pp G) (fx : Bd F 12) {s : Int → Int} (hs : Po s) (e : ∀ t, ev t F = ev t G * s t) : Bd G 17 ∧ G.length ≤ 11 ∧ (∀ j, (G.getD j 0).natAbs ≤ 11264000000000000) := by
  obtain ⟨S, tS, hS⟩ := hs.list
  exact bd_div hF pF.tr pG.tr tS pF.ne fx (fun t => by rw [e, hS])

theorem SqF.bd {f q : List Int} (h : SqF f q) (pf : Pp f) (hl : f.length ≤ 11) (fx : Bd f 12) : q.length ≤ 11 ∧ nrm q ≤ 124 * 10 ^ 15 := by
  obtain ⟨G, pG, e⟩ := h.div
  obtain ⟨h1, h2, h3⟩ := bd_dv hl pf h.pp fx (Po.ev G) (fun t => by rw [e, Int.mul_comm])
  refine ⟨h2, Nat.le_trans (nrm_le h3) (Nat.le_trans (Nat.mul_le_mul h2 (Nat.le_refl _)) (by decide))⟩

theorem PfR.bd {f q : List Int} {P : List (List Int)} (hs : SqF f q) (hP : PfR q P) (pf : Pp f) (hl : f.length ≤ 11) (fx : Bd f 12) : ∀ g, g ∈ P → Pp g ∧ 2 ≤ g.length ∧ g.length ≤ 11 ∧ Bd g 17 := fun g hg => by
  obtain ⟨h1, h2⟩ := hP.mem g hg
  have h3 : Dv 0 (fun t => ev t g) (fun t => ev t q) := by
    have := pA_dv hg
    rwa [show pA (fs P) = fun t => ev t q from funext fun t => (hP.eq t).symm] at this
  obtain ⟨s, h4, h5⟩ := h1.prm.of_dv (Po.ev q) h3
  obtain ⟨G, pG, e⟩ := hs.div
  have := bd_dv hl pf h1 fx (h4.mul (Po.ev G)) (fun t => by rw [e, h5, Int.mul_comm, Int.mul_assoc])
  exact ⟨h1, h2.len h1, this.2.1, this.1⟩

theorem FaO.bd {f : List Int} {P : List (List Int)} {i : Nat} {ps : List (List Int × Nat)} {left : List Int} (h : FaO f P i ps left) (pf : Pp f) (hl : f.length ≤ 11) (fx : Bd f 12) : left.length ≤ 11 ∧ ∀ g l c, DoO left g l c → Bd l 20 := by
  refine ⟨(bd_dv hl pf h.pp fx (pE_po ps) (fun t => by rw [h.eq, Int.mul_comm])).2.1, fun g l c hd => ?_⟩
  exact (bd_dv hl pf hd.pp fx ((pE_po ps).mul ((Po.ev g).pow c)) (fun t => by rw [h.eq, hd.eq, ← Int.mul_assoc, Int.mul_comm])).1.mono (by omega)

structure FacV (w' : World) (B : Nat) (zs : List Int) (ps : List (List Int × Nat)) (v : Value) : Prop where
  fac : Fac zs (scont zs) ps
  own : OwnPt B w' v ps
  len : ps.length ≤ 10000
  bd : ∀ x, x ∈ ps → x.1.length ≤ 11 ∧ Bd x.1 17

theorem nd_of {z : Int} (h : z.natAbs < 10 ^ 17) : Lib.nDigits z.natAbs ≤ 30 := nDigits_le (Nat.lt_of_lt_of_le h (by decide)) (by omega)

set_option maxRecDepth 100000 in
set_option maxHeartbeats 8000000 in
theorem factorP_any (zs : List Int) (p : Value) (w : World) (hp : IsP w p zs) (hB : inB zs = true) (tx : Tr zs) (ht : Tab w) :
    Calls Tryz.prog 18 #[p] w fun e w' => ((zs = [] ∧ e = .returned (.tuple #[.string ⟨#[]⟩, .slice none 0 0, .int .i64 4])) ∨ (zs ≠ [] ∧ ∃ v ps, FacV w' w.heap.size zs ps v ∧ e = .returned (.tuple #[.string ⟨(Lib.itoa (scont zs)).toArray⟩, v, .int .i64 0]))) ∧ Below w.heap.size w w' := by
  obtain ⟨k1, a1, c1, rfl, hk1, q1, hL1⟩ := hp.open
  have lx := inB_len hB
  have bx := inB_bd hB
  by_cases h0 : zs = []
  · subst h0
    have hl0 : ([] : List Int).length = 0 := rfl
    rw [hl0] at q1
    clear hp hL1 bx
    go_enter Tryz.func18, Tryz.ntmps18
    go_wp2
    go_ret3
    exact ⟨.inl ⟨by simp, rfl⟩, Below.refl _ _⟩
  have hpos := List.length_pos_iff.2 h0
  have hne : ¬ zs.length = 0 := by omega
  have hne2 : ¬ (zs.length : Int) = 0 := by omega
  obtain ⟨f, HF⟩ : ∃ f, Hid (prim zs = f) := ⟨_, rfl⟩
  have pf : Pp f := by rw [← HF.out]; exact Pp.prim tx h0
  have fx : Bd f 12 := by rw [← HF.out]; exact bx.prim
  have fl : f.length ≤ 11 := by rw [← HF.out]; exact Nat.le_trans (prim_len' _) lx
  have HC : Hid _ := fun (W : World) (h : Below w.heap.size w W) => contentP_any zs 12 _ W (OwnL.below hL1 h) (by omega) bx (by omega)
  have hPR := fun (W : World) (h : Below w.heap.size w W) => primP_any zs 12 _ W (OwnL.below hL1 h) (by omega) bx (by omega)
  rw [HF.out] at hPR
  have HPR : Hid _ := hPR
  have HSQ : Hid _ := fun (W : World) (u : Value) (g : IsL W u f) => squareFree_any f u W g pf fl fx
  have HPF : Hid _ := fun (W : World) (u : Value) (q : List Int) (hs : SqF f q) (g : IsL W u q) => primeFactors_any f q u W g hs (hs.bd pf fl fx).1 (hs.bd pf fl fx).2
  have HOR : Hid (∀ (W : World) (u : Value) (q : List Int) (P : List (List Int)), SqF f q → PfR q P → OwnVL 0 W u P → P.length ≤ 5000 → Calls Tryz.prog 39 #[u] W fun e w' => ∃ x S, e = .returned x ∧ OwnVL W.heap.size w' x S ∧ Srt S ∧ S.Perm P ∧ Below W.heap.size W w') := fun (W : World) (u : Value) (q : List Int) (P : List (List Int)) (hs : SqF f q) (hP : PfR q P) (g : OwnVL 0 W u P) (l : P.length ≤ 5000) => ordered_any P u W g l (fun x hx => ⟨by have := (hP.bd hs pf fl fx x hx).2.2.1; omega, (hP.bd hs pf fl fx x hx).2.2.2.fitW (by omega)⟩)
  have HTX : Hid (∀ (W : World) (u : Value) (i : Int), IsI W u (scont zs) → Tab W → Calls Tryz.prog 43 #[u] W fun e w' => e = .returned (.string ⟨(Lib.itoa (scont zs)).toArray⟩) ∧ Below W.heap.size W w') := fun (W : World) (u : Value) _ (g : IsI W u (scont zs)) (t : Tab W) => intText_any u (scont zs) W g (fitW_of (scont_lt bx) (by omega)) t
  obtain ⟨T, HT⟩ : ∃ T : World → List (List Int × Nat) → Value → Prop, Hid (T = fun w' ps v => FacV w' w.heap.size zs ps v) := ⟨_, rfl⟩
  have HEND : Hid (∀ (w' : World) (q : List Int) (S : List (List Int)) (ps : List (List Int × Nat)) (left v : _), SqF f q → PfR q S → Srt S → FaO f S S.length ps left → ps.length ≤ 10000 → OwnPt w.heap.size w' v ps → T w' ps v) := by
    rw [HT.out]
    intro w' q S ps left v hs hP hS hO hl hown
    have hs' := hs
    rw [← HF.out] at hs' hO
    refine ⟨Fac.of tx h0 hs' hP hS hO, hown, hl, fun x hx => ?_⟩
    have hm := hO.map
    rw [List.take_length] at hm
    have h1 : x.1 ∈ S := by rw [← hm]; exact List.mem_map.2 ⟨x, hx, rfl⟩
    exact ⟨(hP.bd hs pf fl fx _ h1).2.2.1, (hP.bd hs pf fl fx _ h1).2.2.2⟩
  have hgoal : (fun (e : Ending) (w' : World) => ((zs = [] ∧ e = .returned (.tuple #[.string ⟨#[]⟩, .slice none 0 0, .int .i64 4])) ∨ (zs ≠ [] ∧ ∃ v ps, FacV w' w.heap.size zs ps v ∧ e = .returned (.tuple #[.string ⟨(Lib.itoa (scont zs)).toArray⟩, v, .int .i64 0]))) ∧ Below w.heap.size w w') = fun e w' => ((zs = [] ∧ e = .returned (.tuple #[.string ⟨#[]⟩, .slice none 0 0, .int .i64 4])) ∨ (zs ≠ [] ∧ ∃ v ps, T w' ps v ∧ e = .returned (.tuple #[.string ⟨(Lib.itoa (scont zs)).toArray⟩, v, .int .i64 0]))) ∧ Below w.heap.size w w' := by rw [HT.out]
  rw [hgoal]
  have HPF0 : Hid _ := pf
  have HFX : Hid _ := fx
  have HFL : Hid _ := fl
  have HNE : Hid _ := h0
  clear hgoal hPR pf fx fl bx tx h0 HF HT
  generalize scont zs = sc at *
  generalize Lib.itoa sc = IT at *
  clear hp
  go_enter Tryz.func18, Tryz.ntmps18
  go_wp2_with fail
  refine (HC.out w (Below.refl _ _)).mono ?_
  rintro en w1 ⟨x1, rfl, hI1, hb1⟩
  obtain ⟨b3, a3, n3, c3, rfl⟩ := hI1.form
  have r1 := (hb1.cell (p := ⟨k1, 0, none⟩) hk1).trans q1
  have hk1' : k1 < w1.heap.size := by have := hb1.size; omega
  go_wp2_with fail
  generalize hW2 : w1.alloc (Obj.cells #[Value.bool b3, Value.slice a3 n3 c3] 70) = W2
  have K2 : IsB W2 w1.heap.size sc := hW2 ▸ IsB.new hI1
  obtain ⟨hb2, _⟩ := one_new hW2
  clear hW2
  have hk2 : w.heap.size ≤ w1.heap.size := hb1.size
  generalize w1.heap.size = kb at *
  have hb2w : Below w.heap.size w W2 := hb1.trans (hb2.mono hk2)
  clear r1 hk1' hI1 hb1 hb2
  refine (HPR.out W2 hb2w).mono ?_
  rintro en w3 ⟨x3, rfl, hI3, hb3⟩
  obtain ⟨a4, c4, rfl⟩ := OwnL.val hI3
  have hb3w := hb2w.trans (hb3.mono hb2w.size)
  have K3 := K2.below hb3
  clear K2 hb3 hb2w
  go_wp2_with fail
  refine (HSQ.out w3 _ hI3).mono ?_
  rintro en w4 ⟨x4, q, rfl, hI4, hSq, hb4⟩
  obtain ⟨a5, c5, rfl⟩ := OwnL.val hI4
  have hb4w := hb3w.trans (hb4.mono hb3w.size)
  have K4 := K3.below hb4
  have hf4 := OwnL.below hI3 hb4
  clear K3 hb3w hI3 hb4
  have HSq : Hid _ := hSq
  clear hSq
  go_wp2_with fail
  refine (HPF.out w4 _ q HSq.out hI4).mono ?_
  rintro en w5 ⟨x5, P, rfl, hI5, hPf, hPl, hb5⟩
  have hb5w := hb4w.trans (hb5.mono hb4w.size)
  have K5 := K4.below hb5
  have hf5 := OwnL.below hf4 hb5
  have HPf : Hid _ := hPf
  clear hPf K4 hb4w hf4 hb5 hI4
  have hO := HOR.out w5 x5 q P HSq.out HPf.out (hI5.lower (Nat.zero_le _)) hPl
  obtain ⟨a6, c6, rfl⟩ := hI5.val
  clear hI5
  go_wp2_with fail
  refine hO.mono ?_
  rintro en w6 ⟨x6, S, rfl, hI6, hSr, hSp, hb6⟩
  have hb6w := hb5w.trans (hb6.mono hb5w.size)
  have K6 := K5.below hb6
  have hf6 := OwnL.below hf5 hb6
  have HPf' : Hid _ := HPf.out.perm hSp
  have HSr : Hid _ := hSr
  have HAP : Hid _ := PfR.apart HSq.out HPf'.out
  have hSl : S.length ≤ 5000 := by rw [hSp.length_eq]; exact hPl
  have hI6' : OwnVL 0 w6 x6 S := hI6.lower (Nat.zero_le _)
  clear hO HPf hSr hSp hI6 K5 hb5w hf5 hb6 hPl
  obtain ⟨a7, c7, rfl⟩ := hI6'.val
  have HFA0 : Hid (FaO f S 0 [] f) := FaO.start S HPF0.out
  go_wp2_with fail
  have hL0 : OwnPt w6.heap.size (w6.alloc (.cells #[] 40)) (.slice (some ⟨w6.heap.size, 0, none⟩) 0 0) [] := OwnPt.lit rfl
  have hba : Below w6.heap.size w6 (w6.alloc (.cells #[] 40)) := (Below.refl _ _).alloc (Nat.le_refl _) _
  have ht6 := ht.below hb6w
  have hs6 := hb6w.size
  go_loopw [6, 8, 9] (fun l v k wr => ∃ (L : List Int) (ps : List (List Int × Nat)) (i : Nat), k = .int .i64 (i : Nat) ∧ i ≤ S.length ∧ ps.length ≤ i ∧ IsL wr l L ∧ OwnPt w6.heap.size wr v ps ∧ Hid (FaO f S i ps L) ∧ Below w6.heap.size w6 wr) (fun _ _ k _ => S.length - (intOf k).toNat)
  case atStart => exact ⟨f, [], 0, rfl, by omega, by simp, OwnL.below hf6 hba, hL0, HFA0, hba⟩
  case round =>
    clear HFA0 hL0 hba
    obtain ⟨L, ps, i, rfl, hi, hpl, hL, hown, HFA, hbel⟩ := hrel
    obtain ⟨la, lc, rfl⟩ := OwnL.val hL
    obtain ⟨oa, oc, rfl⟩ := hown.val
    by_cases hlt : i < S.length
    · have hSw := OwnV.below vecL hI6' hbel
      obtain ⟨gp, xa, xn, xc, g, rfl, hc1, hc2, hg1, _, hcx, hgm, hrow⟩ := OwnV.at vecL hSw i hlt
      have hgS : g ∈ S := List.mem_of_getElem? hgm
      obtain ⟨pg, pg2, pgl, pgb⟩ := HPf'.out.bd HSq.out HPF0.out HFL.out HFX.out g hgS
      obtain ⟨hLl, hLB⟩ := HFA.out.bd HPF0.out HFL.out HFX.out
      have hDO := dividedOut_any L g _ _ wr hL hrow HFA.out.pp pg pg2 hLl pgl (pgb.mono (by omega)) (hLB g)
      have HND : Hid (∀ i, i < g.length → Lib.nDigits (g.getD i 0).natAbs ≤ 30) := fun j _ => nd_of (pgb j)
      have HNX : Hid (∀ l c, DoO L g l c → ¬ Dv 0 (fun t => ev t g) (fun t => ev t l) → FaO f S (i + 1) (ps ++ [(g, c)]) l) := fun l c h1 h2 => HFA.out.next HSq.out HPf'.out HAP.out hgm h1 h2
      have hii : (i : Int) < (S.length : Int) := by omega
      clear hLB pg pgb pg2 hgm hgS HFA
      go_wp2_with fail
      refine hDO.mono ?_
      rintro en w7 ⟨x7, l', c, rfl, hI7, hdo, hnd, hb7⟩
      have HN : Hid _ := HNX.out l' c hdo hnd
      obtain ⟨a8, c8, rfl⟩ := OwnL.val hI7
      have hbel7 := hbel.trans (hb7.mono hbel.size)
      have hrow7 := OwnL.below hrow hb7
      have hown7 := hown.below hb7
      have hTT := fun (V : World) (h : Below w6.heap.size w6 V) (h2 : IsL V (.slice xa xn xc) g) => textOf_all g _ V h2 pgl HND.out (ht6.below h)
      have HTT : Hid _ := hTT
      clear hdo hnd HNX hDO hTT
      have hcx7 := (hb7.cell (p := ⟨gp, i, none⟩) hg1).trans hcx
      have hg17 : gp < w7.heap.size := Nat.lt_of_lt_of_le hg1 hb7.size
      clear hcx
      go_wp2_with fail
      refine (HTT.out w7 hbel7 hrow7).mono ?_
      rintro en w8 ⟨rfl, hb8⟩
      have hbel8 := hbel7.trans (hb8.mono hbel7.size)
      have hown8 := hown7.below hb8
      have hI8 := OwnL.below hI7 hb8
      clear hown7 hI7 hrow7 hcx7 hg17 hown hrow hL
      go_wp2_with (at_builtin; refine wpList_pushPt rfl (.tmp 49) (.tmp 57) rfl w6.heap.size _ ps g c rfl hown8 rfl (by omega) hbel8.size ?_)
      intro v9 w9 hown9 hb9 hg9
      have hI9 : IsL w9 _ l' := IsL.keptP hI8 hg9 hown8.typ
      have hbel9 := hbel8.trans hb9
      have hpl9 : (ps ++ [(g, c)]).length ≤ i + 1 := by simp; omega
      obtain ⟨pn, HPN⟩ : ∃ pn, Hid (ps ++ [(g, c)] = pn) := ⟨_, rfl⟩
      rw [HPN.out] at hown9 hpl9 HN
      obtain ⟨o9, c9, rfl⟩ := hown9.val
      clear hown8 hI8
      go_wp2
      go_roundw
      case rel => exact ⟨l', pn, i + 1, by go_num, by omega, hpl9, hI9, hown9, HN, hbel9⟩
      case measure => simp [intOf]; omega
    · obtain rfl : i = S.length := by omega
      have HE : Hid _ := fun (V : World) (h : OwnPt w.heap.size V (.slice oa ps.length oc) ps) => HEND.out V q S ps L _ HSq.out HPf'.out HSr.out HFA.out (by omega) h
      have Kr := K6.below hbel
      obtain ⟨bk, ka, kn, kc, Xr, hKr⟩ := Kr.open
      have s0 := Xr.c0; have s1 := Xr.c1
      have hltk := Xr.lt
      have hbw : Below w.heap.size w wr := hb6w.trans (hbel.mono hs6)
      have hX := HTX.out wr _ 0 hKr (ht.below hbw)
      clear HFA hL
      go_wp2_with fail
      refine hX.mono ?_
      rintro en w8 ⟨rfl, hb8⟩
      have hown8 := hown.below hb8
      have HTT : Hid _ := HE.out w8 (hown8.lower hs6)
      clear HE
      go_wp2
      go_ret3
      refine ⟨.inr ⟨HNE.out, _, ps, HTT.out, rfl⟩, hbw.trans (hb8.mono hbw.size)⟩

end Go.Proofs.YtldcjkhbiffdoabGreatDoor

set_option linter.unusedSimpArgs false
namespace Go.Proofs.YtldcjkhbiffdoabGreatDoor
open Go.RowKit

theorem ptCells_at : ∀ (ps : List (List Int × Nat)) (i : Nat) (x : List Int × Nat), ps[i]? = some x → (ptCells ps)[i * 2]? = some (.string ⟨(ptext x.1).toArray⟩) ∧ (ptCells ps)[i * 2 + 1]? = some (.int .i64 (x.2 : Nat))
  | [], i, x, h => by simp at h
  | y :: ps, 0, x, h => by
    simp at h
    subst h
    simp [ptCells]
  | y :: ps, i + 1, x, h => by
    have := ptCells_at ps i x (by simpa using h)
    rw [show (i + 1) * 2 = i * 2 + 2 by omega]
    exact this

theorem OwnPt.at {B : Nat} {w : World} {a : Option Addr} {c : Nat} {ps : List (List Int × Nat)} (h : OwnPt B w (.slice a ps.length c) ps) (i : Nat) (hi : i < ps.length) :
    ∃ g x, a = some ⟨g, 0, none⟩ ∧ ps.length ≤ c ∧ c ≤ maxLen ∧ g < w.heap.size ∧ B ≤ g ∧ w.cell? ⟨g, i * 2, none⟩ = some (.string ⟨(ptext x.1).toArray⟩) ∧ w.cell? ⟨g, i * 2 + 1, none⟩ = some (.int .i64 (x.2 : Nat)) ∧ ps[i]? = some x := by
  have h2 : w.ownsRow B 40 2 (.slice a ps.length c) ps.length (ptCells ps) := h
  rcases h2.2 with ⟨_, h'⟩ | ⟨g, cap, cur, hv, hB, hg, hnc, hcm, _⟩
  · omega
  · simp only [Value.slice.injEq, true_and] at hv
    obtain ⟨rfl, rfl⟩ := hv
    have hp : ps[i]? = some ps[i] := List.getElem?_eq_getElem (by omega)
    obtain ⟨e1, e2⟩ := ptCells_at ps i _ hp
    refine ⟨g, ps[i], rfl, hnc, hcm, (Array.getElem?_eq_some_iff.1 hg).1, hB, ?_, ?_, hp⟩
    · rw [h2.cellAt (i * 2) (by omega)]; exact e1
    · rw [h2.cellAt (i * 2 + 1) (by omega)]; exact e2

def PtOK (ps : List (List Int × Nat)) : Prop := ps.length ≤ 10000 ∧ ∀ x, x ∈ ps → Tr x.1 ∧ x.1.length ≤ 11 ∧ x.2 ≤ 11

end Go.Proofs.YtldcjkhbiffdoabGreatDoor
