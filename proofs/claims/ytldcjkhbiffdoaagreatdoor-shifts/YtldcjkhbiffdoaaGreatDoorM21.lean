import Derived.Test.YtldcjkhbiffdoaaGreatDoorM18
import Derived.Test.YtldcjkhbiffdoaaGreatDoorM20
import Derived.Test.YtldcjkhbiffdoaaGreatDoorM05
import Derived.Deep.DeepCutAuto

/-
  factorref: Divide.
-/
namespace Go.Proofs.YtldcjkhbiffdoaaGreatDoor
open Go.RowKit

theorem div_rest (A b : List Int) (c : Int) (d : Nat) : padd A ((pmul (mono d c) b).map fun z => -z) = take1 A b c d :=
  (padd_tr _ _).ext (take1_tr _ _ _ _) fun k => by
    rw [padd_getD, negs_getD, pmul_getD, pk_mono, take1_getD]
    omega

theorem div_quot (q : List Int) (c : Int) (d : Nat) : padd q (mono d c) = tz (tab (max q.length (d + 1)) fun k => q.getD k 0 + (mono d c).getD k 0) := by
  unfold padd
  rw [mono_len]
  rfl

theorem Bd.mono' {d : Nat} {c : Int} {e : Nat} (h : c.natAbs < 10 ^ e) : Bd (Go.Proofs.YtldcjkhbiffdoaaGreatDoor.mono d c) e := by
  intro k
  rw [mono_getD]
  split
  · exact h
  · exact Nat.pow_pos (by omega)

theorem Bd.padd {xs ys : List Int} {e : Nat} (hx : Bd xs e) (hy : Bd ys e) : Bd (padd xs ys) (e + 1) := by
  intro k
  rw [padd_getD, Nat.pow_succ]
  have := hx k
  have := hy k
  omega

theorem Bd.negs {xs : List Int} {e : Nat} (hx : Bd xs e) : Bd (xs.map fun z => -z) e := by
  intro k
  rw [negs_getD]
  simpa using hx k

theorem Bd.pmono {d : Nat} {c : Int} {ys : List Int} {e f : Nat} (hc : c.natAbs < 10 ^ e) (hy : Bd ys f) : Bd (pmul (Go.Proofs.YtldcjkhbiffdoaaGreatDoor.mono d c) ys) (e + f) := by
  intro k
  rw [pmul_getD, pk_mono]
  split
  · rw [Int.natAbs_mul, Nat.pow_add]
    exact Nat.mul_lt_mul'' hc (hy _)
  · exact Nat.pow_pos (by omega)

/-- What 'Divide' answers. -/
def Divs (w' : World) (b a0 : List Int) (e : Ending) : Prop :=
  (∃ Q x, dvs b (a0.length + 1 - b.length) a0 = some Q ∧ e = .returned (.tuple #[x, .bool true]) ∧ IsLN w' x (tz Q)) ∨ (∃ q x, dvs b (a0.length + 1 - b.length) a0 = none ∧ e = .returned (.tuple #[x, .bool false]) ∧ IsLN w' x q)

set_option maxRecDepth 100000 in
set_option maxHeartbeats 4000000 in
theorem divR_any (a0 b : List Int) (e f : Nat) (u v : Value) (w : World) (hu : IsLN w u a0) (hv : IsLN w v b) (hl : a0.length ≤ 500) (hm : b.length ≤ 500) (fx : Bd a0 e) (fy : Bd b f) (he : e ≤ 1000) (hf : f ≤ 1000) (ta : Tr a0) (tb : Tr b) (hb0 : b ≠ []) :
    Calls Tryz.prog 65 #[u, v] w fun en w' => Divs w' b a0 en ∧ Below w.heap.size w w' := by
  obtain ⟨ua, uc, rfl⟩ := OwnLN.val hu
  obtain ⟨va, vc, rfl⟩ := OwnLN.val hv
  have hbl := List.length_pos_iff.2 hb0
  have hlb : lead b ≠ 0 := tb hb0
  obtain ⟨N, HN⟩ : ∃ N, Hid (a0.length + 1 - b.length = N) := ⟨_, rfl⟩
  have hN : N ≤ 501 := by have := HN.out; omega
  have hstart := DR.start (b := b) ta
  rw [HN.out] at hstart
  have HST : Hid _ := hstart
  clear hstart
  obtain ⟨R, HR⟩ : ∃ R : World → Ending → Prop, Hid (R = fun w' en => Divs w' b a0 en) := ⟨_, rfl⟩
  have hgoal : (fun en w' => Divs w' b a0 en ∧ Below w.heap.size w w') = fun en w' => R w' en ∧ Below w.heap.size w w' := by rw [HR.out]
  rw [hgoal]
  clear hgoal
  go_enter Tryz.func65, Tryz.ntmps65
  go_wp2_with fail
  go_loopw [0, 6] (fun a q wr => ∃ (A Q : List Int) (n : Nat), IsLN wr a A ∧ IsLN wr q Q ∧ Hid (DR b a0 A Q n) ∧ n ≤ N ∧ A.length ≤ 500 ∧ Q.length ≤ 502 ∧ Hid (Bd A (e + (N - n) * (f + 1)) ∧ Bd Q (e + (N - n) * (f + 1))) ∧ Below w.heap.size w wr) (fun a _ _ => lenV a)
  case atStart => exact ⟨a0, [], N, hu, OwnLN.isL (OwnLN.nil0 0 _), HST, Nat.le_refl _, hl, by simp, ⟨fx.mono (by omega), fun k => by simp; exact Nat.pow_pos (by omega)⟩, Below.refl _ _⟩
  case round =>
    obtain ⟨A, Q, n, hA, hQ, HD, hn, hAl, hQl, HB, hbel⟩ := hrel
    obtain ⟨aa, ac, rfl⟩ := OwnLN.val hA
    obtain ⟨qa, qc, rfl⟩ := OwnLN.val hQ
    by_cases hge : b.length ≤ A.length
    · have hvr := OwnLN.below hv hbel
      obtain ⟨g1, b1, xa, xn, xc, rfl, hc1, hc2, hg1, _, p0, p1, hI1⟩ := OwnLN.at hA (A.length - 1) (by omega)
      obtain ⟨g2, b2, ya, yn, yc, rfl, hd1, hd2, hg2, _, p2, p3, hI2⟩ := OwnLN.at hvr (b.length - 1) (by omega)
      rw [show A.getD (A.length - 1) 0 = lead A from rfl] at hI1
      rw [show b.getD (b.length - 1) 0 = lead b from rfl] at hI2
      obtain ⟨m1, HM1⟩ : ∃ m, Hid (A.length - 1 = m) := ⟨_, rfl⟩
      obtain ⟨m2, HM2⟩ : ∃ m, Hid (b.length - 1 = m) := ⟨_, rfl⟩
      rw [HM1.out] at p0 p1
      rw [HM2.out] at p2 p3
      have hm1 : (A.length : Int) - 1 = m1 := by have := HM1.out; omega
      have hm2 : (b.length : Int) - 1 = m2 := by have := HM2.out; omega
      have hm3 : m1 < A.length := by have := HM1.out; omega
      have hm4 : m2 < b.length := by have := HM2.out; omega
      have hw1 : IntKind.i64.wrap ((A.length : Int) - 1) = (m1 : Int) := by rw [IntKind.wrap_i64]; omega
      have hw2 : IntKind.i64.wrap ((b.length : Int) - 1) = (m2 : Int) := by rw [IntKind.wrap_i64]; omega
      have hw3 : IntKind.i64.wrap (m1 : Int) = (m1 : Int) := by rw [IntKind.wrap_i64]; omega
      have hw4 : IntKind.i64.wrap (m2 : Int) = (m2 : Int) := by rw [IntKind.wrap_i64]; omega
      have hi1 : (m1 : Int) < (A.length : Int) := by omega
      have hi2 : (m2 : Int) < (b.length : Int) := by omega
      have hj1 : (0 : Int) ≤ (m1 : Int) := by omega
      have hj2 : (0 : Int) ≤ (m2 : Int) := by omega
      have flA : FitN (lead A) := fitN_of HB.out.1.lead (by
        have : (N - n) * (f + 1) ≤ 501 * 1001 := Nat.mul_le_mul (by omega) (by omega)
        omega)
      have flB : FitN (lead b) := fitN_of fy.lead (by omega)
      have hq := fun (W : World) (g1 : IsN W (.agg #[.bool b1, .slice xa xn xc]) (lead A)) (g2 : IsN W (.agg #[.bool b2, .slice ya yn yc]) (lead b)) => quoN_any _ _ _ _ W g1 g2 flA flB hlb
      have HQ : Hid _ := hq
      clear hq
      go_wp2_with fail
      go_cut [7, 8] (fun p7 p8 wc => ∃ k7 k8, p7 = .pointer (some ⟨k7, 0, none⟩) ∧ p8 = .pointer (some ⟨k8, 0, none⟩) ∧ IsK wc k7 ((lead A).tdiv (lead b)) ∧ IsK wc k8 ((lead A).tmod (lead b)) ∧ Below wr.heap.size wr wc)
      case first =>
        have hb0 : Below wr.heap.size wr wr.drew := ⟨rfl, rfl, rfl, Nat.le_refl _, fun _ _ => rfl⟩
        have hSV : ∀ W, Below wr.heap.size wr W → W.cell? ⟨g1, m1 * 2, none⟩ = some (.bool b1) ∧ W.cell? ⟨g1, m1 * 2 + 1, none⟩ = some (.slice xa xn xc) ∧ W.cell? ⟨g2, m2 * 2, none⟩ = some (.bool b2) ∧ W.cell? ⟨g2, m2 * 2 + 1, none⟩ = some (.slice ya yn yc) := fun W h => ⟨(h.cell (p := ⟨g1, m1 * 2, none⟩) hg1).trans p0, (h.cell (p := ⟨g1, m1 * 2 + 1, none⟩) hg1).trans p1, (h.cell (p := ⟨g2, m2 * 2, none⟩) hg2).trans p2, (h.cell (p := ⟨g2, m2 * 2 + 1, none⟩) hg2).trans p3⟩
        refine wp_region_held_drew (S := fun W => W.cell? ⟨g1, m1 * 2, none⟩ = some (.bool b1) ∧ W.cell? ⟨g1, m1 * 2 + 1, none⟩ = some (.slice xa xn xc) ∧ W.cell? ⟨g2, m2 * 2, none⟩ = some (.bool b2) ∧ W.cell? ⟨g2, m2 * 2 + 1, none⟩ = some (.slice ya yn yc)) (by kernel_rfl) (hSV _ hb0) fun hS => ?_
        generalize wr.drew = W0 at *
        refine h_take 0 16 (.slice (some ⟨g1, 0, none⟩) A.length ac) rfl rfl (by kernel_rfl) (by kernel_rfl) (by kernel_rfl) (fun _ _ _ h => h) rfl (fun _ _ => rfl) hS ?_
        simp only [Act.put, List.setIfInBounds_toArray, List.set_cons_succ, List.set_cons_zero]
        refine h_take 1 17 (.slice (some ⟨g1, 0, none⟩) A.length ac) rfl rfl (by kernel_rfl) (by kernel_rfl) (by kernel_rfl) (fun _ _ _ h => h) rfl (fun _ _ => rfl) hS ?_
        simp only [Act.put, List.setIfInBounds_toArray, List.set_cons_succ, List.set_cons_zero]
        refine h_take 2 18 (.int .i64 (A.length : Int)) rfl rfl (by kernel_rfl) (by kernel_rfl) (by kernel_rfl) (fun _ _ _ h => h) rfl (fun _ _ => by go_simp) hS ?_
        simp only [Act.put, List.setIfInBounds_toArray, List.set_cons_succ, List.set_cons_zero]
        refine h_take 3 19 (.int .i64 (m1 : Int)) rfl rfl (by kernel_rfl) (by kernel_rfl) (by kernel_rfl) (fun _ _ _ h => h) rfl (fun _ _ => by go_simp) hS ?_
        simp only [Act.put, List.setIfInBounds_toArray, List.set_cons_succ, List.set_cons_zero]
        refine h_take 4 20 (.pointer (some ⟨g1, m1 * 2, none⟩)) rfl rfl (by kernel_rfl) (by kernel_rfl) (by kernel_rfl) (fun _ _ _ h => h) rfl (fun _ _ => by go_simp) hS ?_
        simp only [Act.put, List.setIfInBounds_toArray, List.set_cons_succ, List.set_cons_zero]
        refine h_take 5 21 (.agg #[.bool b1, .slice xa xn xc]) rfl rfl (by kernel_rfl) (by kernel_rfl) (by kernel_rfl) (fun _ _ _ h => h) rfl (fun w' hw' => by obtain ⟨y0, y1, y2, y3⟩ := hw'; go_simp) hS ?_
        simp only [Act.put, List.setIfInBounds_toArray, List.set_cons_succ, List.set_cons_zero]
        refine h_take 6 22 (.slice (some ⟨g2, 0, none⟩) b.length vc) rfl rfl (by kernel_rfl) (by kernel_rfl) (by kernel_rfl) (fun _ _ _ h => h) rfl (fun _ _ => rfl) hS ?_
        simp only [Act.put, List.setIfInBounds_toArray, List.set_cons_succ, List.set_cons_zero]
        refine h_take 7 23 (.slice (some ⟨g2, 0, none⟩) b.length vc) rfl rfl (by kernel_rfl) (by kernel_rfl) (by kernel_rfl) (fun _ _ _ h => h) rfl (fun _ _ => rfl) hS ?_
        simp only [Act.put, List.setIfInBounds_toArray, List.set_cons_succ, List.set_cons_zero]
        refine h_take 8 24 (.int .i64 (b.length : Int)) rfl rfl (by kernel_rfl) (by kernel_rfl) (by kernel_rfl) (fun _ _ _ h => h) rfl (fun _ _ => by go_simp) hS ?_
        simp only [Act.put, List.setIfInBounds_toArray, List.set_cons_succ, List.set_cons_zero]
        refine h_take 9 25 (.int .i64 (m2 : Int)) rfl rfl (by kernel_rfl) (by kernel_rfl) (by kernel_rfl) (fun _ _ _ h => h) rfl (fun _ _ => by go_simp) hS ?_
        simp only [Act.put, List.setIfInBounds_toArray, List.set_cons_succ, List.set_cons_zero]
        refine h_take 10 26 (.pointer (some ⟨g2, m2 * 2, none⟩)) rfl rfl (by kernel_rfl) (by kernel_rfl) (by kernel_rfl) (fun _ _ _ h => h) rfl (fun _ _ => by go_simp) hS ?_
        simp only [Act.put, List.setIfInBounds_toArray, List.set_cons_succ, List.set_cons_zero]
        refine h_take 11 27 (.agg #[.bool b2, .slice ya yn yc]) rfl rfl (by kernel_rfl) (by kernel_rfl) (by kernel_rfl) (fun _ _ _ h => h) rfl (fun w' hw' => by obtain ⟨y0, y1, y2, y3⟩ := hw'; go_simp) hS ?_
        simp only [Act.put, List.setIfInBounds_toArray, List.set_cons_succ, List.set_cons_zero]
        refine wpAnyH_ready (rs := [12, 16, 17]) (by kernel_rfl) (by simp) (ar_call 12 28 107 #[.agg #[.bool b1, .slice xa xn xc], .agg #[.bool b2, .slice ya yn yc]] rfl rfl rfl (by go_simp) ?_ (ar_val 16 7 (.pointer (some ⟨W0.heap.size, 0, none⟩)) (w' := W0.alloc (Obj.cells #[Value.bool false, Value.slice none 0 0] 74)) rfl rfl rfl (by go_simp) (hSV _ (hb0.trans ((below_one _ _).mono hb0.size))) ?_ (ar_val 17 8 (.pointer (some ⟨W0.heap.size, 0, none⟩)) (w' := W0.alloc (Obj.cells #[Value.bool false, Value.slice none 0 0] 74)) rfl rfl rfl (by go_simp) (hSV _ (hb0.trans ((below_one _ _).mono hb0.size))) ?_ AllReadyH.nil)))
        · refine (HQ.out _ (hI1.below hb0) (hI2.below hb0)).mono ?_
          rintro e V2 ⟨x5, x6, rfl, hI4, hI5, hx1⟩
          obtain ⟨b5, a5, n5, c5, _, rfl, _, _⟩ := id hI4.open
          obtain ⟨b6, a6, n6, c6, _, rfl, _, _⟩ := id hI5.open
          have hb3 : Below wr.heap.size wr V2 := hb0.trans (hx1.mono hb0.size)
          refine ⟨_, rfl, hSV _ hb3, ?_⟩
          simp only [Act.put, List.setIfInBounds_toArray, List.set_cons_succ, List.set_cons_zero]
          refine h_take 13 15 (.tuple #[.agg #[.bool b5, .slice a5 n5 c5], .agg #[.bool b6, .slice a6 n6 c6]]) rfl rfl (by kernel_rfl) (by kernel_rfl) (by kernel_rfl) (fun _ _ _ h => h) rfl (fun _ _ => rfl) (hSV _ hb3) ?_
          simp only [Act.put, List.setIfInBounds_toArray, List.set_cons_succ, List.set_cons_zero]
          refine h_take 14 29 (.agg #[.bool b5, .slice a5 n5 c5]) rfl rfl (by kernel_rfl) (by kernel_rfl) (by kernel_rfl) (fun _ _ _ h => h) rfl (fun _ _ => by go_simp) (hSV _ hb3) ?_
          simp only [Act.put, List.setIfInBounds_toArray, List.set_cons_succ, List.set_cons_zero]
          refine h_take 15 30 (.agg #[.bool b6, .slice a6 n6 c6]) rfl rfl (by kernel_rfl) (by kernel_rfl) (by kernel_rfl) (fun _ _ _ h => h) rfl (fun _ _ => by go_simp) (hSV _ hb3) ?_
          simp only [Act.put, List.setIfInBounds_toArray, List.set_cons_succ, List.set_cons_zero]
          refine wpAnyH_ready (rs := [16, 17]) (by kernel_rfl) (by simp) (ar_val 16 7 (.pointer (some ⟨V2.heap.size, 0, none⟩)) (w' := V2.alloc (Obj.cells #[Value.bool false, Value.slice none 0 0] 74)) rfl rfl rfl (by go_simp) (hSV _ (hb3.trans ((below_one _ _).mono hb3.size))) ?_ (ar_val 17 8 (.pointer (some ⟨V2.heap.size, 0, none⟩)) (w' := V2.alloc (Obj.cells #[Value.bool false, Value.slice none 0 0] 74)) rfl rfl rfl (by go_simp) (hSV _ (hb3.trans ((below_one _ _).mono hb3.size))) ?_ AllReadyH.nil))
          · obtain ⟨hx6, X9⟩ := one_newN (w := V2) (a := .bool false) (b := .slice none 0 0) rfl
            generalize V2.alloc (Obj.cells #[Value.bool false, Value.slice none 0 0] 74) = V7 at *
            have gA : wr.heap.size ≤ V2.heap.size := hb3.size
            have hb8 : Below wr.heap.size wr V7 := hb3.trans (hx6.mono hb3.size)
            have hI10 := hI4.below hx6; have hI11 := hI5.below hx6
            simp only [Act.put, List.setIfInBounds_toArray, List.set_cons_succ, List.set_cons_zero]
            refine wpAnyH_ready (rs := [17]) (by kernel_rfl) (by simp) (ar_val 17 8 (.pointer (some ⟨V7.heap.size, 0, none⟩)) (w' := V7.alloc (Obj.cells #[Value.bool false, Value.slice none 0 0] 74)) rfl rfl rfl (by go_simp) (hSV _ (hb8.trans ((below_one _ _).mono hb8.size))) ?_ AllReadyH.nil)
            · obtain ⟨hx12, X15⟩ := one_newN (w := V7) (a := .bool false) (b := .slice none 0 0) rfl
              generalize V7.alloc (Obj.cells #[Value.bool false, Value.slice none 0 0] 74) = V13 at *
              have gB : wr.heap.size ≤ V7.heap.size := hb8.size
              have hltB := X9.lt
              have hb14 : Below wr.heap.size wr V13 := hb8.trans (hx12.mono hb8.size)
              have hI16 := hI10.below hx12; have hI17 := hI11.below hx12
              have X18 := X9.below hx12
              simp only [Act.put, List.setIfInBounds_toArray, List.set_cons_succ, List.set_cons_zero]
              have c0 := X18.c0; have c1 := X18.c1; have f0 := X18.f0; have f1 := X18.f1
              have hne : (V7.heap.size : Nat) ≠ V2.heap.size := Nat.ne_of_gt hltB
              have Y8 := X15.other hne (.bool b5) (.slice a5 n5 c5)
              have hK7 := IsK.stored X18 hI16
              have hI6' := hI17.set2 X18 (.bool b5) (.slice a5 n5 c5)
              have hb18 := below_set2 hb14 (show wr.heap.size ≤ V2.heap.size from gA) (.bool b5) (.slice a5 n5 c5)
              refine h_store 18 (w' := (V13.setCell ⟨V2.heap.size, 0, none⟩ (.bool b5)).setCell ⟨V2.heap.size, 1, none⟩ (.slice a5 n5 c5)) rfl rfl (by kernel_rfl) rfl (by go_simp) (hSV _ hb18) ?_
              clear c0 c1 f0 f1
              generalize (V13.setCell ⟨V2.heap.size, 0, none⟩ (.bool b5)).setCell ⟨V2.heap.size, 1, none⟩ (.slice a5 n5 c5) = V at *
              have c0 := Y8.c0; have c1 := Y8.c1; have f0 := Y8.f0; have f1 := Y8.f1
              have hb19 := below_set2 hb18 (show wr.heap.size ≤ V7.heap.size from gB) (.bool b6) (.slice a6 n6 c6)
              refine h_store 19 (w' := (V.setCell ⟨V7.heap.size, 0, none⟩ (.bool b6)).setCell ⟨V7.heap.size, 1, none⟩ (.slice a6 n6 c6)) rfl rfl (by kernel_rfl) rfl (by go_simp) (hSV _ hb19) ?_
              refine wpAnyH_done (by kernel_rfl) ?_ _
              go_wp2_with fail
              go_meet
              case rel => exact ⟨V2.heap.size, V7.heap.size, rfl, rfl, hK7.other Y8 hne.symm _ _, IsK.stored Y8 hI6', hb19⟩
          · obtain ⟨hx19, X22⟩ := one_newN (w := V2) (a := .bool false) (b := .slice none 0 0) rfl
            generalize V2.alloc (Obj.cells #[Value.bool false, Value.slice none 0 0] 74) = V20 at *
            have gB : wr.heap.size ≤ V2.heap.size := hb3.size
            have hb21 : Below wr.heap.size wr V20 := hb3.trans (hx19.mono hb3.size)
            have hI23 := hI4.below hx19; have hI24 := hI5.below hx19
            simp only [Act.put, List.setIfInBounds_toArray, List.set_cons_succ, List.set_cons_zero]
            refine wpAnyH_ready (rs := [16]) (by kernel_rfl) (by simp) (ar_val 16 7 (.pointer (some ⟨V20.heap.size, 0, none⟩)) (w' := V20.alloc (Obj.cells #[Value.bool false, Value.slice none 0 0] 74)) rfl rfl rfl (by go_simp) (hSV _ (hb21.trans ((below_one _ _).mono hb21.size))) ?_ AllReadyH.nil)
            · obtain ⟨hx25, X28⟩ := one_newN (w := V20) (a := .bool false) (b := .slice none 0 0) rfl
              generalize V20.alloc (Obj.cells #[Value.bool false, Value.slice none 0 0] 74) = V26 at *
              have gA : wr.heap.size ≤ V20.heap.size := hb21.size
              have hltA := X22.lt
              have hb27 : Below wr.heap.size wr V26 := hb21.trans (hx25.mono hb21.size)
              have hI29 := hI23.below hx25; have hI30 := hI24.below hx25
              have X31 := X22.below hx25
              simp only [Act.put, List.setIfInBounds_toArray, List.set_cons_succ, List.set_cons_zero]
              have c0 := X28.c0; have c1 := X28.c1; have f0 := X28.f0; have f1 := X28.f1
              have hne : (V2.heap.size : Nat) ≠ V20.heap.size := Nat.ne_of_lt hltA
              have Y8 := X31.other hne (.bool b5) (.slice a5 n5 c5)
              have hK7 := IsK.stored X28 hI29
              have hI6' := hI30.set2 X28 (.bool b5) (.slice a5 n5 c5)
              have hb18 := below_set2 hb27 (show wr.heap.size ≤ V20.heap.size from gA) (.bool b5) (.slice a5 n5 c5)
              refine h_store 18 (w' := (V26.setCell ⟨V20.heap.size, 0, none⟩ (.bool b5)).setCell ⟨V20.heap.size, 1, none⟩ (.slice a5 n5 c5)) rfl rfl (by kernel_rfl) rfl (by go_simp) (hSV _ hb18) ?_
              clear c0 c1 f0 f1
              generalize (V26.setCell ⟨V20.heap.size, 0, none⟩ (.bool b5)).setCell ⟨V20.heap.size, 1, none⟩ (.slice a5 n5 c5) = V at *
              have c0 := Y8.c0; have c1 := Y8.c1; have f0 := Y8.f0; have f1 := Y8.f1
              have hb19 := below_set2 hb18 (show wr.heap.size ≤ V2.heap.size from gB) (.bool b6) (.slice a6 n6 c6)
              refine h_store 19 (w' := (V.setCell ⟨V2.heap.size, 0, none⟩ (.bool b6)).setCell ⟨V2.heap.size, 1, none⟩ (.slice a6 n6 c6)) rfl rfl (by kernel_rfl) rfl (by go_simp) (hSV _ hb19) ?_
              refine wpAnyH_done (by kernel_rfl) ?_ _
              go_wp2_with fail
              go_meet
              case rel => exact ⟨V20.heap.size, V2.heap.size, rfl, rfl, hK7.other Y8 hne.symm _ _, IsK.stored Y8 hI6', hb19⟩
        · obtain ⟨hx32, X35⟩ := one_newN (w := W0) (a := .bool false) (b := .slice none 0 0) rfl
          generalize W0.alloc (Obj.cells #[Value.bool false, Value.slice none 0 0] 74) = V33 at *
          have gA : wr.heap.size ≤ W0.heap.size := hb0.size
          have hb34 : Below wr.heap.size wr V33 := hb0.trans (hx32.mono hb0.size)
          simp only [Act.put, List.setIfInBounds_toArray, List.set_cons_succ, List.set_cons_zero]
          refine wpAnyH_ready (rs := [12, 17]) (by kernel_rfl) (by simp) (ar_call 12 28 107 #[.agg #[.bool b1, .slice xa xn xc], .agg #[.bool b2, .slice ya yn yc]] rfl rfl rfl (by go_simp) ?_ (ar_val 17 8 (.pointer (some ⟨V33.heap.size, 0, none⟩)) (w' := V33.alloc (Obj.cells #[Value.bool false, Value.slice none 0 0] 74)) rfl rfl rfl (by go_simp) (hSV _ (hb34.trans ((below_one _ _).mono hb34.size))) ?_ AllReadyH.nil))
          · refine (HQ.out _ (hI1.below hb34) (hI2.below hb34)).mono ?_
            rintro e V37 ⟨x5, x6, rfl, hI39, hI40, hx36⟩
            obtain ⟨b5, a5, n5, c5, _, rfl, _, _⟩ := id hI39.open
            obtain ⟨b6, a6, n6, c6, _, rfl, _, _⟩ := id hI40.open
            have hb38 : Below wr.heap.size wr V37 := hb34.trans (hx36.mono hb34.size)
            have X41 := X35.below hx36
            refine ⟨_, rfl, hSV _ hb38, ?_⟩
            simp only [Act.put, List.setIfInBounds_toArray, List.set_cons_succ, List.set_cons_zero]
            refine h_take 13 15 (.tuple #[.agg #[.bool b5, .slice a5 n5 c5], .agg #[.bool b6, .slice a6 n6 c6]]) rfl rfl (by kernel_rfl) (by kernel_rfl) (by kernel_rfl) (fun _ _ _ h => h) rfl (fun _ _ => rfl) (hSV _ hb38) ?_
            simp only [Act.put, List.setIfInBounds_toArray, List.set_cons_succ, List.set_cons_zero]
            refine h_take 14 29 (.agg #[.bool b5, .slice a5 n5 c5]) rfl rfl (by kernel_rfl) (by kernel_rfl) (by kernel_rfl) (fun _ _ _ h => h) rfl (fun _ _ => by go_simp) (hSV _ hb38) ?_
            simp only [Act.put, List.setIfInBounds_toArray, List.set_cons_succ, List.set_cons_zero]
            refine h_take 15 30 (.agg #[.bool b6, .slice a6 n6 c6]) rfl rfl (by kernel_rfl) (by kernel_rfl) (by kernel_rfl) (fun _ _ _ h => h) rfl (fun _ _ => by go_simp) (hSV _ hb38) ?_
            simp only [Act.put, List.setIfInBounds_toArray, List.set_cons_succ, List.set_cons_zero]
            refine wpAnyH_ready (rs := [17]) (by kernel_rfl) (by simp) (ar_val 17 8 (.pointer (some ⟨V37.heap.size, 0, none⟩)) (w' := V37.alloc (Obj.cells #[Value.bool false, Value.slice none 0 0] 74)) rfl rfl rfl (by go_simp) (hSV _ (hb38.trans ((below_one _ _).mono hb38.size))) ?_ AllReadyH.nil)
            · obtain ⟨hx42, X45⟩ := one_newN (w := V37) (a := .bool false) (b := .slice none 0 0) rfl
              generalize V37.alloc (Obj.cells #[Value.bool false, Value.slice none 0 0] 74) = V43 at *
              have gB : wr.heap.size ≤ V37.heap.size := hb38.size
              have hltB := X41.lt
              have hb44 : Below wr.heap.size wr V43 := hb38.trans (hx42.mono hb38.size)
              have hI46 := hI39.below hx42; have hI47 := hI40.below hx42
              have X48 := X41.below hx42
              simp only [Act.put, List.setIfInBounds_toArray, List.set_cons_succ, List.set_cons_zero]
              have c0 := X48.c0; have c1 := X48.c1; have f0 := X48.f0; have f1 := X48.f1
              have hne : (V37.heap.size : Nat) ≠ W0.heap.size := Nat.ne_of_gt hltB
              have Y8 := X45.other hne (.bool b5) (.slice a5 n5 c5)
              have hK7 := IsK.stored X48 hI46
              have hI6' := hI47.set2 X48 (.bool b5) (.slice a5 n5 c5)
              have hb18 := below_set2 hb44 (show wr.heap.size ≤ W0.heap.size from gA) (.bool b5) (.slice a5 n5 c5)
              refine h_store 18 (w' := (V43.setCell ⟨W0.heap.size, 0, none⟩ (.bool b5)).setCell ⟨W0.heap.size, 1, none⟩ (.slice a5 n5 c5)) rfl rfl (by kernel_rfl) rfl (by go_simp) (hSV _ hb18) ?_
              clear c0 c1 f0 f1
              generalize (V43.setCell ⟨W0.heap.size, 0, none⟩ (.bool b5)).setCell ⟨W0.heap.size, 1, none⟩ (.slice a5 n5 c5) = V at *
              have c0 := Y8.c0; have c1 := Y8.c1; have f0 := Y8.f0; have f1 := Y8.f1
              have hb19 := below_set2 hb18 (show wr.heap.size ≤ V37.heap.size from gB) (.bool b6) (.slice a6 n6 c6)
              refine h_store 19 (w' := (V.setCell ⟨V37.heap.size, 0, none⟩ (.bool b6)).setCell ⟨V37.heap.size, 1, none⟩ (.slice a6 n6 c6)) rfl rfl (by kernel_rfl) rfl (by go_simp) (hSV _ hb19) ?_
              refine wpAnyH_done (by kernel_rfl) ?_ _
              go_wp2_with fail
              go_meet
              case rel => exact ⟨W0.heap.size, V37.heap.size, rfl, rfl, hK7.other Y8 hne.symm _ _, IsK.stored Y8 hI6', hb19⟩
          · obtain ⟨hx49, X52⟩ := one_newN (w := V33) (a := .bool false) (b := .slice none 0 0) rfl
            generalize V33.alloc (Obj.cells #[Value.bool false, Value.slice none 0 0] 74) = V50 at *
            have gB : wr.heap.size ≤ V33.heap.size := hb34.size
            have hltB := X35.lt
            have hb51 : Below wr.heap.size wr V50 := hb34.trans (hx49.mono hb34.size)
            have X53 := X35.below hx49
            simp only [Act.put, List.setIfInBounds_toArray, List.set_cons_succ, List.set_cons_zero]
            refine wpAnyH_ready (rs := [12]) (by kernel_rfl) (by simp) (ar_call 12 28 107 #[.agg #[.bool b1, .slice xa xn xc], .agg #[.bool b2, .slice ya yn yc]] rfl rfl rfl (by go_simp) ?_ AllReadyH.nil)
            · refine (HQ.out _ (hI1.below hb51) (hI2.below hb51)).mono ?_
              rintro e V55 ⟨x5, x6, rfl, hI57, hI58, hx54⟩
              obtain ⟨b5, a5, n5, c5, _, rfl, _, _⟩ := id hI57.open
              obtain ⟨b6, a6, n6, c6, _, rfl, _, _⟩ := id hI58.open
              have hb56 : Below wr.heap.size wr V55 := hb51.trans (hx54.mono hb51.size)
              have X59 := X53.below hx54
              have X60 := X52.below hx54
              refine ⟨_, rfl, hSV _ hb56, ?_⟩
              simp only [Act.put, List.setIfInBounds_toArray, List.set_cons_succ, List.set_cons_zero]
              refine h_take 13 15 (.tuple #[.agg #[.bool b5, .slice a5 n5 c5], .agg #[.bool b6, .slice a6 n6 c6]]) rfl rfl (by kernel_rfl) (by kernel_rfl) (by kernel_rfl) (fun _ _ _ h => h) rfl (fun _ _ => rfl) (hSV _ hb56) ?_
              simp only [Act.put, List.setIfInBounds_toArray, List.set_cons_succ, List.set_cons_zero]
              refine h_take 14 29 (.agg #[.bool b5, .slice a5 n5 c5]) rfl rfl (by kernel_rfl) (by kernel_rfl) (by kernel_rfl) (fun _ _ _ h => h) rfl (fun _ _ => by go_simp) (hSV _ hb56) ?_
              simp only [Act.put, List.setIfInBounds_toArray, List.set_cons_succ, List.set_cons_zero]
              refine h_take 15 30 (.agg #[.bool b6, .slice a6 n6 c6]) rfl rfl (by kernel_rfl) (by kernel_rfl) (by kernel_rfl) (fun _ _ _ h => h) rfl (fun _ _ => by go_simp) (hSV _ hb56) ?_
              simp only [Act.put, List.setIfInBounds_toArray, List.set_cons_succ, List.set_cons_zero]
              have c0 := X59.c0; have c1 := X59.c1; have f0 := X59.f0; have f1 := X59.f1
              have hne : (V33.heap.size : Nat) ≠ W0.heap.size := Nat.ne_of_gt hltB
              have Y8 := X60.other hne (.bool b5) (.slice a5 n5 c5)
              have hK7 := IsK.stored X59 hI57
              have hI6' := hI58.set2 X59 (.bool b5) (.slice a5 n5 c5)
              have hb18 := below_set2 hb56 (show wr.heap.size ≤ W0.heap.size from gA) (.bool b5) (.slice a5 n5 c5)
              refine h_store 18 (w' := (V55.setCell ⟨W0.heap.size, 0, none⟩ (.bool b5)).setCell ⟨W0.heap.size, 1, none⟩ (.slice a5 n5 c5)) rfl rfl (by kernel_rfl) rfl (by go_simp) (hSV _ hb18) ?_
              clear c0 c1 f0 f1
              generalize (V55.setCell ⟨W0.heap.size, 0, none⟩ (.bool b5)).setCell ⟨W0.heap.size, 1, none⟩ (.slice a5 n5 c5) = V at *
              have c0 := Y8.c0; have c1 := Y8.c1; have f0 := Y8.f0; have f1 := Y8.f1
              have hb19 := below_set2 hb18 (show wr.heap.size ≤ V33.heap.size from gB) (.bool b6) (.slice a6 n6 c6)
              refine h_store 19 (w' := (V.setCell ⟨V33.heap.size, 0, none⟩ (.bool b6)).setCell ⟨V33.heap.size, 1, none⟩ (.slice a6 n6 c6)) rfl rfl (by kernel_rfl) rfl (by go_simp) (hSV _ hb19) ?_
              refine wpAnyH_done (by kernel_rfl) ?_ _
              go_wp2_with fail
              go_meet
              case rel => exact ⟨W0.heap.size, V33.heap.size, rfl, rfl, hK7.other Y8 hne.symm _ _, IsK.stored Y8 hI6', hb19⟩
        · obtain ⟨hx61, X64⟩ := one_newN (w := W0) (a := .bool false) (b := .slice none 0 0) rfl
          generalize W0.alloc (Obj.cells #[Value.bool false, Value.slice none 0 0] 74) = V62 at *
          have gB : wr.heap.size ≤ W0.heap.size := hb0.size
          have hb63 : Below wr.heap.size wr V62 := hb0.trans (hx61.mono hb0.size)
          simp only [Act.put, List.setIfInBounds_toArray, List.set_cons_succ, List.set_cons_zero]
          refine wpAnyH_ready (rs := [12, 16]) (by kernel_rfl) (by simp) (ar_call 12 28 107 #[.agg #[.bool b1, .slice xa xn xc], .agg #[.bool b2, .slice ya yn yc]] rfl rfl rfl (by go_simp) ?_ (ar_val 16 7 (.pointer (some ⟨V62.heap.size, 0, none⟩)) (w' := V62.alloc (Obj.cells #[Value.bool false, Value.slice none 0 0] 74)) rfl rfl rfl (by go_simp) (hSV _ (hb63.trans ((below_one _ _).mono hb63.size))) ?_ AllReadyH.nil))
          · refine (HQ.out _ (hI1.below hb63) (hI2.below hb63)).mono ?_
            rintro e V66 ⟨x5, x6, rfl, hI68, hI69, hx65⟩
            obtain ⟨b5, a5, n5, c5, _, rfl, _, _⟩ := id hI68.open
            obtain ⟨b6, a6, n6, c6, _, rfl, _, _⟩ := id hI69.open
            have hb67 : Below wr.heap.size wr V66 := hb63.trans (hx65.mono hb63.size)
            have X70 := X64.below hx65
            refine ⟨_, rfl, hSV _ hb67, ?_⟩
            simp only [Act.put, List.setIfInBounds_toArray, List.set_cons_succ, List.set_cons_zero]
            refine h_take 13 15 (.tuple #[.agg #[.bool b5, .slice a5 n5 c5], .agg #[.bool b6, .slice a6 n6 c6]]) rfl rfl (by kernel_rfl) (by kernel_rfl) (by kernel_rfl) (fun _ _ _ h => h) rfl (fun _ _ => rfl) (hSV _ hb67) ?_
            simp only [Act.put, List.setIfInBounds_toArray, List.set_cons_succ, List.set_cons_zero]
            refine h_take 14 29 (.agg #[.bool b5, .slice a5 n5 c5]) rfl rfl (by kernel_rfl) (by kernel_rfl) (by kernel_rfl) (fun _ _ _ h => h) rfl (fun _ _ => by go_simp) (hSV _ hb67) ?_
            simp only [Act.put, List.setIfInBounds_toArray, List.set_cons_succ, List.set_cons_zero]
            refine h_take 15 30 (.agg #[.bool b6, .slice a6 n6 c6]) rfl rfl (by kernel_rfl) (by kernel_rfl) (by kernel_rfl) (fun _ _ _ h => h) rfl (fun _ _ => by go_simp) (hSV _ hb67) ?_
            simp only [Act.put, List.setIfInBounds_toArray, List.set_cons_succ, List.set_cons_zero]
            refine wpAnyH_ready (rs := [16]) (by kernel_rfl) (by simp) (ar_val 16 7 (.pointer (some ⟨V66.heap.size, 0, none⟩)) (w' := V66.alloc (Obj.cells #[Value.bool false, Value.slice none 0 0] 74)) rfl rfl rfl (by go_simp) (hSV _ (hb67.trans ((below_one _ _).mono hb67.size))) ?_ AllReadyH.nil)
            · obtain ⟨hx71, X74⟩ := one_newN (w := V66) (a := .bool false) (b := .slice none 0 0) rfl
              generalize V66.alloc (Obj.cells #[Value.bool false, Value.slice none 0 0] 74) = V72 at *
              have gA : wr.heap.size ≤ V66.heap.size := hb67.size
              have hltA := X70.lt
              have hb73 : Below wr.heap.size wr V72 := hb67.trans (hx71.mono hb67.size)
              have hI75 := hI68.below hx71; have hI76 := hI69.below hx71
              have X77 := X70.below hx71
              simp only [Act.put, List.setIfInBounds_toArray, List.set_cons_succ, List.set_cons_zero]
              have c0 := X74.c0; have c1 := X74.c1; have f0 := X74.f0; have f1 := X74.f1
              have hne : (W0.heap.size : Nat) ≠ V66.heap.size := Nat.ne_of_lt hltA
              have Y8 := X77.other hne (.bool b5) (.slice a5 n5 c5)
              have hK7 := IsK.stored X74 hI75
              have hI6' := hI76.set2 X74 (.bool b5) (.slice a5 n5 c5)
              have hb18 := below_set2 hb73 (show wr.heap.size ≤ V66.heap.size from gA) (.bool b5) (.slice a5 n5 c5)
              refine h_store 18 (w' := (V72.setCell ⟨V66.heap.size, 0, none⟩ (.bool b5)).setCell ⟨V66.heap.size, 1, none⟩ (.slice a5 n5 c5)) rfl rfl (by kernel_rfl) rfl (by go_simp) (hSV _ hb18) ?_
              clear c0 c1 f0 f1
              generalize (V72.setCell ⟨V66.heap.size, 0, none⟩ (.bool b5)).setCell ⟨V66.heap.size, 1, none⟩ (.slice a5 n5 c5) = V at *
              have c0 := Y8.c0; have c1 := Y8.c1; have f0 := Y8.f0; have f1 := Y8.f1
              have hb19 := below_set2 hb18 (show wr.heap.size ≤ W0.heap.size from gB) (.bool b6) (.slice a6 n6 c6)
              refine h_store 19 (w' := (V.setCell ⟨W0.heap.size, 0, none⟩ (.bool b6)).setCell ⟨W0.heap.size, 1, none⟩ (.slice a6 n6 c6)) rfl rfl (by kernel_rfl) rfl (by go_simp) (hSV _ hb19) ?_
              refine wpAnyH_done (by kernel_rfl) ?_ _
              go_wp2_with fail
              go_meet
              case rel => exact ⟨V66.heap.size, W0.heap.size, rfl, rfl, hK7.other Y8 hne.symm _ _, IsK.stored Y8 hI6', hb19⟩
          · obtain ⟨hx78, X81⟩ := one_newN (w := V62) (a := .bool false) (b := .slice none 0 0) rfl
            generalize V62.alloc (Obj.cells #[Value.bool false, Value.slice none 0 0] 74) = V79 at *
            have gA : wr.heap.size ≤ V62.heap.size := hb63.size
            have hltA := X64.lt
            have hb80 : Below wr.heap.size wr V79 := hb63.trans (hx78.mono hb63.size)
            have X82 := X64.below hx78
            simp only [Act.put, List.setIfInBounds_toArray, List.set_cons_succ, List.set_cons_zero]
            refine wpAnyH_ready (rs := [12]) (by kernel_rfl) (by simp) (ar_call 12 28 107 #[.agg #[.bool b1, .slice xa xn xc], .agg #[.bool b2, .slice ya yn yc]] rfl rfl rfl (by go_simp) ?_ AllReadyH.nil)
            · refine (HQ.out _ (hI1.below hb80) (hI2.below hb80)).mono ?_
              rintro e V84 ⟨x5, x6, rfl, hI86, hI87, hx83⟩
              obtain ⟨b5, a5, n5, c5, _, rfl, _, _⟩ := id hI86.open
              obtain ⟨b6, a6, n6, c6, _, rfl, _, _⟩ := id hI87.open
              have hb85 : Below wr.heap.size wr V84 := hb80.trans (hx83.mono hb80.size)
              have X88 := X81.below hx83
              have X89 := X82.below hx83
              refine ⟨_, rfl, hSV _ hb85, ?_⟩
              simp only [Act.put, List.setIfInBounds_toArray, List.set_cons_succ, List.set_cons_zero]
              refine h_take 13 15 (.tuple #[.agg #[.bool b5, .slice a5 n5 c5], .agg #[.bool b6, .slice a6 n6 c6]]) rfl rfl (by kernel_rfl) (by kernel_rfl) (by kernel_rfl) (fun _ _ _ h => h) rfl (fun _ _ => rfl) (hSV _ hb85) ?_
              simp only [Act.put, List.setIfInBounds_toArray, List.set_cons_succ, List.set_cons_zero]
              refine h_take 14 29 (.agg #[.bool b5, .slice a5 n5 c5]) rfl rfl (by kernel_rfl) (by kernel_rfl) (by kernel_rfl) (fun _ _ _ h => h) rfl (fun _ _ => by go_simp) (hSV _ hb85) ?_
              simp only [Act.put, List.setIfInBounds_toArray, List.set_cons_succ, List.set_cons_zero]
              refine h_take 15 30 (.agg #[.bool b6, .slice a6 n6 c6]) rfl rfl (by kernel_rfl) (by kernel_rfl) (by kernel_rfl) (fun _ _ _ h => h) rfl (fun _ _ => by go_simp) (hSV _ hb85) ?_
              simp only [Act.put, List.setIfInBounds_toArray, List.set_cons_succ, List.set_cons_zero]
              have c0 := X88.c0; have c1 := X88.c1; have f0 := X88.f0; have f1 := X88.f1
              have hne : (W0.heap.size : Nat) ≠ V62.heap.size := Nat.ne_of_lt hltA
              have Y8 := X89.other hne (.bool b5) (.slice a5 n5 c5)
              have hK7 := IsK.stored X88 hI86
              have hI6' := hI87.set2 X88 (.bool b5) (.slice a5 n5 c5)
              have hb18 := below_set2 hb85 (show wr.heap.size ≤ V62.heap.size from gA) (.bool b5) (.slice a5 n5 c5)
              refine h_store 18 (w' := (V84.setCell ⟨V62.heap.size, 0, none⟩ (.bool b5)).setCell ⟨V62.heap.size, 1, none⟩ (.slice a5 n5 c5)) rfl rfl (by kernel_rfl) rfl (by go_simp) (hSV _ hb18) ?_
              clear c0 c1 f0 f1
              generalize (V84.setCell ⟨V62.heap.size, 0, none⟩ (.bool b5)).setCell ⟨V62.heap.size, 1, none⟩ (.slice a5 n5 c5) = V at *
              have c0 := Y8.c0; have c1 := Y8.c1; have f0 := Y8.f0; have f1 := Y8.f1
              have hb19 := below_set2 hb18 (show wr.heap.size ≤ W0.heap.size from gB) (.bool b6) (.slice a6 n6 c6)
              refine h_store 19 (w' := (V.setCell ⟨W0.heap.size, 0, none⟩ (.bool b6)).setCell ⟨W0.heap.size, 1, none⟩ (.slice a6 n6 c6)) rfl rfl (by kernel_rfl) rfl (by go_simp) (hSV _ hb19) ?_
              refine wpAnyH_done (by kernel_rfl) ?_ _
              go_wp2_with fail
              go_meet
              case rel => exact ⟨V62.heap.size, W0.heap.size, rfl, rfl, hK7.other Y8 hne.symm _ _, IsK.stored Y8 hI6', hb19⟩
      case rest =>
        obtain ⟨k7, k8, rfl, rfl, hK7, hK8, hbc⟩ := hcut
        obtain ⟨b8, a8, n8, c8, B8, hI8⟩ := id hK8
        obtain ⟨b7, a7, n7, c7, B7, hI7⟩ := id hK7
        have q0 := B8.c0; have q1 := B8.c1
        have hZ := zeroN_any _ _ wc hI8
        have hbw : Below w.heap.size w wc := hbel.trans (hbc.mono hbel.size)
        by_cases hz : (lead A).tmod (lead b) = 0
        · rw [decide_eq_true hz] at hZ
          have hnx := HD.out.next hbl hge hz
          obtain ⟨d, HDd⟩ : ∃ d, Hid (A.length - b.length = d) := ⟨_, rfl⟩
          rw [HDd.out] at hnx
          have hd1 : (A.length : Int) - b.length + 1 = ((d + 1 : Nat) : Int) := by have := HDd.out; omega
          have hd2 : (A.length : Int) - b.length = (d : Int) := by have := HDd.out; omega
          have hd3 : d ≤ 500 := by have := HDd.out; omega
          have hd4 : d + b.length = A.length := by have := HDd.out; omega
          obtain ⟨c, HC⟩ : ∃ c, Hid ((lead A).tdiv (lead b) = c) := ⟨_, rfl⟩
          rw [HC.out] at hnx hI7
          obtain ⟨E, HE⟩ : ∃ E, Hid (e + (N - n) * (f + 1) = E) := ⟨_, rfl⟩
          have hB := HB.out
          rw [HE.out] at hB
          have hE : E ≤ 600000 := by
            have h1 : (N - n) * (f + 1) ≤ 501 * 1001 := Nat.mul_le_mul (by omega) (by omega)
            have := HE.out
            omega
          have hcb : c.natAbs < 10 ^ E := by rw [← HC.out]; exact Nat.lt_of_le_of_lt (natAbs_tdiv_le _ _) hB.1.lead
          have hE2 : E + f + 1 ≤ e + (N - d) * (f + 1) := by
            have h1 : (N - n + 1) * (f + 1) ≤ (N - d) * (f + 1) := Nat.mul_le_mul (by have := hnx.2; omega) (Nat.le_refl _)
            rw [Nat.succ_mul] at h1
            have := HE.out
            omega
          have hq2 := div_quot Q c d
          have hr2 := div_rest A b c d
          rw [← hq2] at hnx
          have bA2 : Bd (take1 A b c d) (e + (N - d) * (f + 1)) := (Bd.take1 hB.1 fy hcb d).mono hE2
          have bQ2 : Bd (padd Q (mono d c)) (e + (N - d) * (f + 1)) := (Bd.padd hB.2 (Bd.mono' hcb)).mono (by omega)
          have lQ2 : (padd Q (mono d c)).length ≤ 502 := Nat.le_trans (padd_len _ _) (by rw [mono_len]; omega)
          have lA2 : (take1 A b c d).length < A.length := by have := hnx.1.len; omega
          have bT : Bd (pmul (mono d c) b) (E + f) := Bd.pmono hcb fy
          have lT : (pmul (mono d c) b).length ≤ 1000 := Nat.le_trans (pmul_len _ _) (by rw [mono_len]; omega)
          have haddq := fun (W : World) (u1 u2 : Value) (g1 : IsLN W u1 Q) (g2 : IsLN W u2 (mono d c)) => addR_any Q (mono d c) u1 u2 W g1 g2 (by omega) (by rw [mono_len]; omega) (hB.2.fitL (by omega)) ((Bd.mono' hcb).fitL (by omega))
          rw [show tz (sumTo Q (mono d c) (max Q.length (mono d c).length)) = padd Q (mono d c) from rfl] at haddq
          have hmul := fun (W : World) (u1 u2 : Value) (g1 : IsLN W u1 (mono d c)) (g2 : IsLN W u2 b) => mulR_any (mono d c) b E f u1 u2 W g1 g2 (by rw [mono_len]; omega) (by omega) (Bd.mono' hcb) fy (by omega)
          have hmin := fun (W : World) (u1 : Value) (g1 : IsLN W u1 (pmul (mono d c) b)) => minusR_any _ u1 W g1 (by omega) (bT.fitL (by omega))
          have hadd := fun (W : World) (u1 u2 : Value) (g1 : IsLN W u1 A) (g2 : IsLN W u2 ((pmul (mono d c) b).map fun z => -z)) => addR_any A _ u1 u2 W g1 g2 (by omega) (by rw [List.length_map]; omega) (hB.1.fitL (by omega)) (bT.negs.fitL (by omega))
          rw [show tz (sumTo A ((pmul (mono d c) b).map fun z => -z) (max A.length ((pmul (mono d c) b).map fun z => -z).length)) = take1 A b c d from hr2] at hadd
          have HAQ : Hid _ := haddq
          have HMUL : Hid _ := hmul
          have HMIN : Hid _ := hmin
          have HADD : Hid _ := hadd
          have HNX : Hid _ := hnx.1
          have hdn := hnx.2
          have HBN : Hid _ := (⟨bA2, bQ2⟩ : _ ∧ _)
          clear haddq hmul hmin hadd hnx bA2 bQ2 bT lT hq2 hr2 hB hcb HC HE hE2 HB HD HDd hz
          generalize take1 A b c d = A2 at *
          generalize padd Q (mono d c) = Q2 at *
          generalize pmul (mono d c) b = PT at *
          generalize PT.map (fun z => -z) = PM at *
          go_wp2_with fail
          refine hZ.mono ?_
          rintro en w6 ⟨rfl, hb6⟩
          have hb6w : Below wr.heap.size wr w6 := hbc.trans (hb6.mono hbc.size)
          clear hZ q0 q1 p0 p1 p2 p3
          go_wp2_with (at_make; refine wpList_makeP rfl (.tmp 39) (.tmp 39) rfl _ _ (d + 1) rfl rfl (by omega) (by omega) (by omega) ?_)
          intro w7 xs7 HX7 hown7 hb7
          have hb7w : Below wr.heap.size wr w7 := hb6w.trans (hb7.mono hb6w.size)
          have B7' := (B7.below hb6).below hb7
          have q0 := B7'.c0; have q1 := B7'.c1
          obtain ⟨t0, t1⟩ := made_cells HX7 hown7 (i := d) (by omega)
          have t2 := hown7.frozenAt (d * 2)
          have t3 := hown7.frozenAt (d * 2 + 1)
          have hmm := made_mono HX7 hown7 ((hI7.below hb6).below hb7)
          have HMM : Hid _ := hmm
          clear hmm
          go_wp2_with fail
          have hmm := HMM.out
          generalize (w7.setCell ⟨w6.heap.size, d * 2, none⟩ (Value.bool b7)).setCell ⟨w6.heap.size, d * 2 + 1, none⟩ (Value.slice a7 n7 c7) = V at *
          obtain ⟨hT, hbV⟩ := hmm
          have hbv : Below wr.heap.size wr V := hb7w.trans (hbV.mono hb6w.size)
          clear HMM q0 q1 t0 t1 t2 t3 hown7 HX7 hbV
          refine (HAQ.out V _ _ (OwnLN.below hQ hbv) hT).mono ?_
          rintro en w9 ⟨x9, rfl, hI9, hb9⟩
          obtain ⟨a9, c9, rfl⟩ := OwnLN.val hI9
          have hb9w : Below wr.heap.size wr w9 := hbv.trans (hb9.mono hbv.size)
          go_wp2_with fail
          refine (HMUL.out w9 _ _ (OwnLN.below hT hb9) (OwnLN.below hvr hb9w)).mono ?_
          rintro en w10 ⟨x10, rfl, hI10, hb10⟩
          obtain ⟨a10, c10, rfl⟩ := OwnLN.val hI10
          have hb10w : Below wr.heap.size wr w10 := hb9w.trans (hb10.mono hb9w.size)
          go_wp2_with fail
          refine (HMIN.out w10 _ hI10).mono ?_
          rintro en w11 ⟨x11, rfl, hI11, hb11⟩
          obtain ⟨a11, c11, rfl⟩ := OwnLN.val hI11
          have hb11w : Below wr.heap.size wr w11 := hb10w.trans (hb11.mono hb10w.size)
          go_wp2_with fail
          refine (HADD.out w11 _ _ (OwnLN.below hA hb11w) hI11).mono ?_
          rintro en w12 ⟨x12, rfl, hI12, hb12⟩
          obtain ⟨a12, c12, rfl⟩ := OwnLN.val hI12
          have hb12w : Below wr.heap.size wr w12 := hb11w.trans (hb12.mono hb11w.size)
          have hQ12 := OwnLN.below (OwnLN.below (OwnLN.below hI9 hb10) hb11) hb12
          go_wp2
          go_roundw
          case rel => exact ⟨A2, Q2, d, hI12, hQ12, HNX, by omega, by omega, by omega, HBN, hbel.trans (hb12w.mono hbel.size)⟩
          case measure => simp [lenV]; omega
        · rw [decide_eq_false hz] at hZ
          have hno := HD.out.fails hbl hge hz
          have HNO : Hid _ := hno
          clear hno
          go_wp2_with fail
          refine hZ.mono ?_
          rintro en w6 ⟨rfl, hb6⟩
          go_wp2
          go_ret2
          refine ⟨?_, hbw.trans (hb6.mono hbw.size)⟩
          rw [HR.out]
          exact .inr ⟨[], _, HNO.out, rfl, OwnLN.isL (OwnLN.nil0 0 _)⟩
    · have hend := HD.out.ends hbl (by omega)
      have HEND : Hid _ := hend
      clear hend
      by_cases hA0 : A.length = 0
      · go_wp2
        go_ret2
        refine ⟨?_, hbel⟩
        rw [HR.out]
        rcases HEND.out with ⟨_, Q', h1, h2⟩ | ⟨h1, h2⟩
        · subst h2
          exact .inl ⟨Q', _, h1, rfl, hQ⟩
        · exact absurd (List.length_eq_zero_iff.1 hA0) h1
      · have hbz : ((A.length : Int) == 0) = false := by rw [beq_eq_false_iff_ne]; omega
        go_wp2
        go_ret2
        refine ⟨?_, hbel⟩
        rw [HR.out]
        rcases HEND.out with ⟨h0, _⟩ | ⟨h1, h2⟩
        · exact absurd (by rw [h0]; rfl) hA0
        · exact .inr ⟨Q, _, h2, rfl, hQ⟩

end Go.Proofs.YtldcjkhbiffdoaaGreatDoor
