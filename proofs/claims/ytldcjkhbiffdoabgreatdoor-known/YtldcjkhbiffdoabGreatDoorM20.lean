import Derived.Test.YtldcjkhbiffdoabGreatDoorM19
import Derived.Test.YtldcjkhbiffdoabGreatDoorM09
import Derived.Test.YtldcjkhbiffdoabGreatDoorM08
import Derived.Test.YtldcjkhbiffdoabGreatDoorM17
import Derived.Test.YtldcjkhbiffdoabGreatDoorM07
import Derived.Test.YtldcjkhbiffdoabGreatDoorCMDiv

namespace Go.Proofs.YtldcjkhbiffdoabGreatDoor
open Go.RowKit

theorem zeroInt {w : World} : IsI w (.agg #[.bool false, .slice none 0 0]) 0 :=
  ⟨_, _, [], rfl, ⟨rfl, .inl ⟨rfl, rfl⟩⟩, ⟨Dig.nil _, (fun x h => by simp at h), (fun h => by cases h), by simp [sv, ev]⟩⟩

def FitW (zs : List Int) : Prop := ∀ k, Fit (zs.getD k 0)

theorem fitW_of {z : Int} {e : Nat} (h : z.natAbs < 10 ^ e) (he : e ≤ 80000000) : Fit z := by
  refine ⟨e / 9 + 1, by omega, Nat.lt_of_lt_of_le h ?_⟩
  have h1 : (1000000000 : Nat) = 10 ^ 9 := by decide
  rw [h1, ← Nat.pow_mul]
  exact Nat.pow_le_pow_right (by omega) (by omega)
theorem Bd.fitW {l : List Int} {e : Nat} (h : Bd l e) (he : e ≤ 80000000) : FitW l := fun k => fitW_of (h k) he

set_option maxHeartbeats 1000000 in
theorem numberAt_any (zs : List Int) (v : Value) (k : Nat) (w : World) (hv : IsL w v zs) :
    Calls Tryz.prog 62 #[v, .int .i64 k] w fun e w' => ∃ x, e = .returned x ∧ IsI w' x (zs.getD k 0) ∧ Below w.heap.size w w' := by
  obtain ⟨va, vc, rfl⟩ := OwnL.val hv
  by_cases hlt : k < zs.length
  · obtain ⟨g, b, xa, xn, xc, rfl, hc1, hc2, hg, _, hc0, hcx, hI⟩ := OwnL.at hv k hlt
    generalize zs.getD k 0 = z at *
    go_enter Tryz.func62, Tryz.ntmps62
    go_wp2
    refine bodyPost_ret (v := .agg #[.bool b, .slice xa xn xc]) (by simp [results, Tryz.results62, go_sem]) rfl ⟨_, rfl, hI.below ((Below.refl _ _).alloc (Nat.le_refl _) _), (Below.refl _ _).alloc (Nat.le_refl _) _⟩
  · have hz : zs.getD k 0 = 0 := getD_out (by omega)
    rw [hz]
    clear hz
    go_enter Tryz.func62, Tryz.ntmps62
    go_wp2
    refine bodyPost_ret (v := .agg #[.bool false, .slice none 0 0]) (by simp [results, Tryz.results62, go_sem]) rfl ⟨_, rfl, zeroInt, (Below.refl _ _).alloc (Nat.le_refl _) _⟩

set_option maxHeartbeats 1000000 in
theorem psum_any (xs ys : List Int) (u v : Value) (w : World) (hu : IsL w u xs) (hv : IsL w v ys) (hl : xs.length ≤ 1000000) (hm : ys.length ≤ 1000000) (fx : FitW xs) (fy : FitW ys) :
    Calls Tryz.prog 51 #[u, v] w fun e w' => ∃ x, e = .returned x ∧ OwnL w.heap.size w' x (tab (max xs.length ys.length) fun k => xs.getD k 0 + ys.getD k 0) ∧ Below w.heap.size w w' := by
  obtain ⟨ua, uc, rfl⟩ := OwnL.val hu
  obtain ⟨va, vc, rfl⟩ := OwnL.val hv
  obtain ⟨f, HF⟩ : ∃ f : Nat → Int, Hid (f = fun k => xs.getD k 0 + ys.getD k 0) := ⟨_, rfl⟩
  rw [← HF.out]
  go_enter Tryz.func51, Tryz.ntmps51
  go_wp2_with fail
  go_loopw [5, 6] (fun o i wr => ∃ (k : Nat), k ≤ max xs.length ys.length ∧ i = .int .i64 k ∧ OwnL w.heap.size wr o (tab k f) ∧ Below w.heap.size w wr) (fun _ i _ => max xs.length ys.length - (intOf i).toNat)
  case atStart => exact ⟨0, Nat.zero_le _, rfl, OwnL.lit rfl, (Below.refl _ _).alloc (Nat.le_refl _) _⟩
  case round =>
    obtain ⟨k, hk, rfl, hown, hbel⟩ := hrel
    have hlen := tab_len k f
    by_cases hlt : k < max xs.length ys.length
    · have hc1 := numberAt_any xs (.slice ua xs.length uc) k wr (OwnL.below hu hbel)
      have hc2 := fun (W : World) (g : IsL W (.slice va ys.length vc) ys) => numberAt_any ys (.slice va ys.length vc) k W g
      have hsu := tab_succ k f
      have hfk : f k = xs.getD k 0 + ys.getD k 0 := by rw [HF.out]
      rw [hfk] at hsu
      have f1 := fx k
      have f2 := fy k
      generalize xs.getD k 0 = x at *
      generalize ys.getD k 0 = y at *
      have HSU : Hid _ := hsu
      clear hsu hfk
      obtain ⟨L, HL⟩ : ∃ L, Hid (tab k f = L) := ⟨_, rfl⟩
      rw [HL.out] at hown hlen
      have hll : L.length ≤ 1000000 := by omega
      clear hlen
      have hA := fun (W : World) (u1 u2 : Value) (g1 : IsI W u1 x) (g2 : IsI W u2 y) => add_any u1 u2 x y W g1 g2 f1 f2
      have HA : Hid _ := hA
      have HC2 : Hid _ := hc2
      clear hA hc2
      have hcase : k < xs.length ∨ (¬ k < xs.length ∧ k < ys.length) := by omega
      rcases hcase with h5 | ⟨h5, h6⟩
      all_goals
        go_wp2_with fail
        refine hc1.mono ?_
        rintro e w1 ⟨x1, rfl, hI1, hb1⟩
        obtain ⟨b1, a1, n1, c1, rfl⟩ := hI1.form
        have hbw1 := hbel.trans (hb1.mono hbel.size)
        go_wp2_with fail
        generalize hW2 : w1.alloc (Obj.cells #[Value.bool b1, Value.slice a1 n1 c1] 70) = W2
        obtain ⟨hb2, X2⟩ := one_new hW2
        clear hW2
        have hbw2 := hbw1.trans (hb2.mono hbw1.size)
        refine (HC2.out W2 (OwnL.below hv hbw2)).mono ?_
        rintro e w3 ⟨x3, rfl, hI3, hb3⟩
        obtain ⟨b3, a3, n3, c3, rfl⟩ := hI3.form
        have hbw3 := hbw2.trans (hb3.mono hbw2.size)
        have X3 := X2.below hb3
        have q0 := X3.c0; have q1 := X3.c1; have q2 := X3.lt
        have hI13 := (hI1.below hb2).below hb3
        go_wp2_with fail
        generalize hW4 : w3.alloc (Obj.cells #[Value.bool b3, Value.slice a3 n3 c3] 70) = W4
        obtain ⟨hb4, X4⟩ := one_new hW4
        clear hW4
        have hbw4 := hbw3.trans (hb4.mono hbw3.size)
        refine (HA.out W4 _ _ (hI13.below hb4) (hI3.below hb4)).mono ?_
        rintro e w5 ⟨x5, rfl, hI5, hb5⟩
        obtain ⟨b5, a5, n5, c5, rfl⟩ := hI5.form
        have hbw5 := hbw4.trans (hb5.mono hbw4.size)
        have hown5 := OwnL.below (OwnL.below (OwnL.below (OwnL.below (OwnL.below hown hb1) hb2) hb3) hb4) hb5
        go_wp2_with (at_builtin; refine wpList_pushI rfl (.tmp 28) (.tmp 32) rfl w.heap.size _ L _ _ (x + y) rfl hown5 hI5 rfl (by omega) hbw5.size ?_)
        intro v6 w6 hown6 hb6 _
        rw [← HL.out, ← HSU.out] at hown6
        go_wp2
        go_roundw
        case rel => exact ⟨k + 1, by omega, by go_num, hown6, hbw5.trans hb6⟩
        case measure => simp [intOf]; omega
    · obtain rfl : k = max xs.length ys.length := by omega
      have h5 : ¬ max xs.length ys.length < xs.length := by omega
      have h6 : ¬ max xs.length ys.length < ys.length := by omega
      obtain ⟨oa, oc, rfl⟩ := OwnL.val hown
      go_wp2
      go_ret
      exact ⟨_, rfl, hown, hbel⟩

end Go.Proofs.YtldcjkhbiffdoabGreatDoor

namespace Go.Proofs.YtldcjkhbiffdoabGreatDoor
open Go.RowKit

theorem pAtW_bd {xs ys : List Int} {e f : Nat} (hx : Bd xs e) (hy : Bd ys f) (k : Nat) : ∀ n, (pAt xs ys k n).natAbs ≤ n * 10 ^ (e + f)
  | 0 => by simp [pAt]
  | n + 1 => by
    have h1 := pAtW_bd hx hy k n
    have h2 : (xs.getD n 0 * ys.getD (k - n) 0).natAbs ≤ 10 ^ (e + f) := by
      rw [Int.natAbs_mul, Nat.pow_add]
      exact Nat.mul_le_mul (Nat.le_of_lt (hx n)) (Nat.le_of_lt (hy (k - n)))
    have h3 := Int.natAbs_add_le (pAt xs ys k n) (xs.getD n 0 * ys.getD (k - n) 0)
    show (pAt xs ys k n + xs.getD n 0 * ys.getD (k - n) 0).natAbs ≤ _
    rw [Nat.succ_mul]
    omega
theorem pAtW_lt {xs ys : List Int} {e f : Nat} (hx : Bd xs e) (hy : Bd ys f) (k : Nat) {n : Nat} (hn : n < 10000) : (pAt xs ys k n).natAbs < 10 ^ (e + f + 4) := by
  have h1 := pAtW_bd hx hy k n
  have h2 : 0 < 10 ^ (e + f) := Nat.pow_pos (by omega)
  have h3 : n * 10 ^ (e + f) < 10000 * 10 ^ (e + f) := Nat.mul_lt_mul_of_pos_right hn h2
  rw [Nat.pow_add, Nat.mul_comm]
  exact Nat.lt_of_le_of_lt h1 h3

set_option maxRecDepth 100000 in
set_option maxHeartbeats 4000000 in
theorem productAt_any (xs ys : List Int) (e f : Nat) (u v : Value) (k : Nat) (w : World) (hu : IsL w u xs) (hv : IsL w v ys) (hk : k ≤ 2000) (fx : Bd xs e) (fy : Bd ys f) (hef : e + f ≤ 70000000) :
    Calls Tryz.prog 77 #[u, v, .int .i64 k] w fun en w' => ∃ x, en = .returned x ∧ IsI w' x (pk xs ys k) ∧ Below w.heap.size w w' := by
  obtain ⟨ua, uc, rfl⟩ := OwnL.val hu
  obtain ⟨va, vc, rfl⟩ := OwnL.val hv
  obtain ⟨S, HS⟩ : ∃ S, Hid (pk xs ys k = S) := ⟨_, rfl⟩
  rw [HS.out]
  go_enter Tryz.func77, Tryz.ntmps77
  go_wp2_with fail
  generalize hW : (w.alloc (Obj.cells #[Value.bool false, Value.slice none 0 0] 70)).alloc (Obj.cells #[Value.bool false, Value.slice none 0 0] 70) = W0
  obtain ⟨hz0, hb0, X0, X1⟩ := two_new hW
  clear hW
  have K1 : IsB W0 (w.heap.size + 1) (pAt xs ys k 0) := ⟨_, _, X1, zeroInt⟩
  clear X1
  go_loopw [8] (fun i wr => ∃ (n : Nat), n ≤ k + 1 ∧ i = .int .i64 n ∧ IsB wr (w.heap.size + 1) (pAt xs ys k n) ∧ Bx wr w.heap.size (.bool false) (.slice none 0 0) ∧ Below w.heap.size w wr) (fun i _ => k + 1 - (intOf i).toNat)
  case atStart => exact ⟨0, Nat.zero_le _, rfl, K1, X0, hb0⟩
  case round =>
    clear K1 X0 hb0
    obtain ⟨n, hn, rfl, hK, B0, hbel⟩ := hrel
    obtain ⟨kb, ka, kn, kc, G0, hG⟩ := hK.open
    have hszw := G0.lt
    by_cases hlt : n < k + 1
    · have hc1 := numberAt_any xs (.slice ua xs.length uc) n wr (OwnL.below hu hbel)
      have hc2 := fun (W : World) (g : IsL W (.slice va ys.length vc) ys) => numberAt_any ys (.slice va ys.length vc) (k - n) W g
      rw [show (((k - n : Nat) : Int)) = (k : Int) - n by omega] at hc2
      have f1 : Fit (xs.getD n 0) := fitW_of (fx n) (by omega)
      have f2 : Fit (ys.getD (k - n) 0) := fitW_of (fy (k - n)) (by omega)
      have f3 : Fit (pAt xs ys k n) := fitW_of (pAtW_lt fx fy k (by omega)) (by omega)
      have f4 : Fit (xs.getD n 0 * ys.getD (k - n) 0) := by
        refine fitW_of (e := e + f) ?_ (by omega)
        rw [Int.natAbs_mul, Nat.pow_add]
        exact Nat.mul_lt_mul'' (fx n) (fy (k - n))
      have hstep : pAt xs ys k (n + 1) = pAt xs ys k n + xs.getD n 0 * ys.getD (k - n) 0 := rfl
      have HSTEP : Hid _ := hstep
      clear hstep
      generalize xs.getD n 0 = x at *
      generalize ys.getD (k - n) 0 = y at *
      generalize pAt xs ys k n = p at *
      have hM := fun (W : World) (u1 u2 : Value) (g1 : IsI W u1 x) (g2 : IsI W u2 y) => mul_any u1 u2 x y W g1 g2 f1 f2
      have hA := fun (W : World) (u1 u2 : Value) (g1 : IsI W u1 p) (g2 : IsI W u2 (x * y)) => add_any u1 u2 p (x * y) W g1 g2 f3 f4
      have HM : Hid _ := hM
      have HA : Hid _ := hA
      have HC2 : Hid _ := hc2
      clear hM hA hc2
      go_wp2_with fail
      refine hc1.mono ?_
      rintro en w1 ⟨x1, rfl, hI1, hb1⟩
      obtain ⟨b1, a1, n1, c1, rfl⟩ := hI1.form
      have hbw1 := hbel.trans (hb1.mono hbel.size)
      have G1 := G0.below hb1
      go_wp2_with fail
      generalize hW2 : w1.alloc (Obj.cells #[Value.bool b1, Value.slice a1 n1 c1] 70) = W2
      obtain ⟨hb2, X2⟩ := one_new hW2
      clear hW2
      have hbw2 := hbw1.trans (hb2.mono hbw1.size)
      refine (HC2.out W2 (OwnL.below hv hbw2)).mono ?_
      rintro en w3 ⟨x3, rfl, hI3, hb3⟩
      obtain ⟨b3, a3, n3, c3, rfl⟩ := hI3.form
      have hbw3 := hbw2.trans (hb3.mono hbw2.size)
      have X3 := X2.below hb3
      have q0 := X3.c0; have q1 := X3.c1; have q2 := X3.lt
      have G3 := (G1.below hb2).below hb3
      have hI13 := (hI1.below hb2).below hb3
      go_wp2_with fail
      generalize hW4 : w3.alloc (Obj.cells #[Value.bool b3, Value.slice a3 n3 c3] 70) = W4
      obtain ⟨hb4, _⟩ := one_new hW4
      clear hW4
      have hbw4 := hbw3.trans (hb4.mono hbw3.size)
      refine (HM.out W4 _ _ (hI13.below hb4) (hI3.below hb4)).mono ?_
      rintro en w5 ⟨x5, rfl, hI5, hb5⟩
      obtain ⟨b5, a5, n5, c5, rfl⟩ := hI5.form
      have hbw5 := hbw4.trans (hb5.mono hbw4.size)
      have G5 := (G3.below hb4).below hb5
      have r0 := G5.c0; have r1 := G5.c1; have r2 := G5.lt
      have hG5 := ((((hG.below hb1).below hb2).below hb3).below hb4).below hb5
      go_wp2_with fail
      generalize hW6 : w5.alloc (Obj.cells #[Value.bool b5, Value.slice a5 n5 c5] 70) = W6
      obtain ⟨hb6, _⟩ := one_new hW6
      clear hW6
      have hbw6 := hbw5.trans (hb6.mono hbw5.size)
      refine (HA.out W6 _ _ (hG5.below hb6) (hI5.below hb6)).mono ?_
      rintro en w7 ⟨x7, rfl, hI7, hb7⟩
      obtain ⟨b7, a7, n7, c7, rfl⟩ := hI7.form
      have hbw7 := hbw6.trans (hb7.mono hbw6.size)
      have G7 := (G5.below hb6).below hb7
      have s0 := G7.c0; have s1 := G7.c1; have s2 := G7.f0; have s3 := G7.f1
      have B7 := ((((((B0.below hb1).below hb2).below hb3).below hb4).below hb5).below hb6).below hb7
      have hK7 := IsB.stored G7 hI7
      rw [← HSTEP.out] at hK7
      have hB7 := B7.other (show w.heap.size ≠ w.heap.size + 1 by omega) (.bool b7) (.slice a7 n7 c7)
      have HALL : Hid _ := (⟨hK7, hB7⟩ : _ ∧ _)
      clear hK7 hB7
      go_wp2
      go_roundw
      case rel => exact ⟨n + 1, by omega, by go_num, HALL.out.1, HALL.out.2, below_set2 hbw7 (by omega) _ _⟩
      case measure => simp [intOf]; omega
    · obtain rfl : n = k + 1 := by omega
      have hG' : IsI wr (.agg #[.bool kb, .slice ka kn kc]) S := by rw [← HS.out]; exact hG
      have c0 := G0.c0; have c1 := G0.c1; have d0 := B0.c0; have d1 := B0.c1; have d2 := B0.f0; have d3 := B0.f1
      go_wp2
      refine bodyPost_ret (v := .agg #[.bool kb, .slice ka kn kc]) (by simp [results, Tryz.results77, go_sem, d0, d1]) rfl ⟨_, rfl, hG'.set2 B0 _ _, below_set2 hbel (Nat.le_refl _) _ _⟩

set_option maxHeartbeats 1000000 in
theorem product_any (xs ys : List Int) (e f : Nat) (u v : Value) (w : World) (hu : IsL w u xs) (hv : IsL w v ys) (hl : xs.length ≤ 1000) (hm : ys.length ≤ 1000) (fx : Bd xs e) (fy : Bd ys f) (hef : e + f ≤ 70000000) :
    Calls Tryz.prog 45 #[u, v] w fun en w' => ∃ x, en = .returned x ∧ OwnL w.heap.size w' x (prodTo xs ys (xs.length + ys.length - 1)) ∧ Below w.heap.size w w' := by
  obtain ⟨ua, uc, rfl⟩ := OwnL.val hu
  obtain ⟨va, vc, rfl⟩ := OwnL.val hv
  obtain ⟨N, HN⟩ : ∃ N, Hid (xs.length + ys.length - 1 = N) := ⟨_, rfl⟩
  rw [HN.out]
  have hN1 : N ≤ 2000 := by have := HN.out; omega
  have hN2 : ((xs.length : Int) + ys.length - 1 = N) ∨ (N = 0 ∧ (xs.length : Int) + ys.length - 1 = -1) := by have := HN.out; omega
  go_enter Tryz.func45, Tryz.ntmps45
  go_wp2_with fail
  go_loopw [5, 6] (fun o i wr => ∃ (k : Nat), k ≤ N ∧ i = .int .i64 k ∧ OwnL w.heap.size wr o (prodTo xs ys k) ∧ Below w.heap.size w wr) (fun _ i _ => N - (intOf i).toNat)
  case atStart => exact ⟨0, Nat.zero_le _, rfl, OwnL.lit rfl, (Below.refl _ _).alloc (Nat.le_refl _) _⟩
  case round =>
    obtain ⟨k, hk, rfl, hown, hbel⟩ := hrel
    by_cases hlt : k < N
    · have hN3 : (xs.length : Int) + ys.length - 1 = N := by omega
      have hP := productAt_any xs ys e f _ _ k wr (OwnL.below hu hbel) (OwnL.below hv hbel) (by omega) fx fy hef
      have hsu : prodTo xs ys (k + 1) = prodTo xs ys k ++ [pk xs ys k] := tab_succ k _
      have HSU : Hid _ := hsu
      have hlen : (prodTo xs ys k).length = k := tab_len _ _
      obtain ⟨L, HL⟩ : ∃ L, Hid (prodTo xs ys k = L) := ⟨_, rfl⟩
      rw [HL.out] at hown hlen
      have hll : L.length ≤ 2000 := by omega
      clear hsu hlen
      generalize pk xs ys k = z at *
      go_wp2_with fail
      refine hP.mono ?_
      rintro en w1 ⟨x1, rfl, hI1, hb1⟩
      obtain ⟨b1, a1, n1, c1, rfl⟩ := hI1.form
      have hbw1 := hbel.trans (hb1.mono hbel.size)
      have hown1 := OwnL.below hown hb1
      go_wp2_with (at_builtin; refine wpList_pushI rfl (.tmp 18) (.tmp 23) rfl w.heap.size _ L _ _ z rfl hown1 hI1 rfl (by omega) hbw1.size ?_)
      intro v6 w6 hown6 hb6 _
      rw [← HL.out, ← HSU.out] at hown6
      go_wp2
      go_roundw
      case rel => exact ⟨k + 1, by omega, by go_num, hown6, hbw1.trans hb6⟩
      case measure => simp [intOf]; omega
    · obtain rfl : k = N := by omega
      have h5 : ¬ ((k : Int) < (xs.length : Int) + ys.length - 1) := by omega
      obtain ⟨oa, oc, rfl⟩ := OwnL.val hown
      go_wp2
      go_ret
      exact ⟨_, rfl, hown, hbel⟩

end Go.Proofs.YtldcjkhbiffdoabGreatDoor

namespace Go.Proofs.YtldcjkhbiffdoabGreatDoor
open Go.RowKit

theorem wp_pushI {o : Oper} {a : Act} {K : Act → World → Prop} {Q : Exit → Act → World → Prop} {wr : World} (s x : Operand)
    (ho : o.op = .call { callee := .builtin .append, args := #[s, x], argTypes := #[65, 65] })
    (B : Nat) (v : Value) (zs : List Int) (b : Bool) (y : Value) (z : Int) (hs : a.eval s = v) (hown : OwnL B wr v zs) (hz : IsI wr (.agg #[.bool b, y]) z) (hx : a.eval x = .slice (some ⟨wr.heap.size, 0, none⟩) 1 1)
    (hlen : zs.length ≤ 1000000000) (hB : B ≤ wr.heap.size)
    (h : ∀ v' w', OwnL B w' v' (zs ++ [z]) → Below B wr w' → K (a.put o.dst v') w') :
    o.wp Tryz.prog a (wr.alloc (.cells #[.bool b, y] 70)) K Q := by
  obtain ⟨i, hi, hz0, hz1, hz2⟩ := info_parts Tryz.infoInt
  have htyp := hown.typ
  have hblk := hown.block
  obtain ⟨cs, h1, h2, h3⟩ := hown
  have hy1 : y.oneCell' = true := by
    obtain ⟨b', x', l, e, hr, _⟩ := hz
    simp at e
    obtain ⟨_, rfl⟩ := e
    obtain ⟨xa, xc, rfl⟩ := hr.val
    rfl
  refine wp_append_own _ s x 65 ho B 70 i (.agg #[.bool false, .slice none 0 0]) 2 32 Tryz.sliceInt hi hz0 hz1 hz2 rfl (by decide) v zs.length (flat cs) hs (World.ownsRow.alloc h2 _) ⟨wr.heap.size, 0, none⟩ 1 1 [.bool b, y] hx rfl ?_ ?_ ?_ ?_ ?_ ?_
  · exact cell_two_new wr (.bool b) y 70
  · intro u hu
    simp at hu
    rcases hu with rfl | rfl
    · rfl
    · exact hy1
  · unfold maxLen; omega
  · omega
  · simp; omega
  · intro v' w' g1 g2 _
    have hg : wr.grownBy w' v.ownBlock := by
      have h0 := World.grownBy_alloc wr (.cells #[.bool b, y] 70) v.ownBlock
      exact ⟨g2.os.trans h0.os, g2.tape.trans h0.tape, g2.output.trans h0.output, Nat.le_trans h0.size g2.size, fun k hk hne => (g2.block k (by simp; omega) hne).trans (h0.block k hk hne)⟩
    refine h v' w' ⟨cs ++ [(b, y)], by simp [h1], ?_, ?_⟩ ((Below.refl _ _).grown hg hB hblk)
    · rw [flat_append]
      simpa [flat] using g1
    · intro j p hj
      by_cases hjl : j < cs.length
      · rw [List.getElem?_append_left hjl] at hj
        have hj2 : (zs ++ [z]).getD j 0 = zs.getD j 0 := by simp [List.getD, List.getElem?_append_left (show j < zs.length by omega)]
        rw [hj2]
        exact (h3 j p hj).kept hg htyp
      · rw [List.getElem?_append_right (by omega)] at hj
        have hj0 : j - cs.length = 0 := by
          rcases Nat.eq_zero_or_pos (j - cs.length) with h0 | h0
          · exact h0
          · rw [List.getElem?_eq_none (by simp; omega)] at hj; simp at hj
        rw [hj0] at hj
        simp at hj
        subst hj
        have hj2 : (zs ++ [z]).getD j 0 = z := by
          rw [show j = zs.length by omega]; simp [List.getD]
        rw [hj2]
        exact hz.kept hg htyp

theorem h_op {P : Program} {ops : Array Oper} {Q : Exit → Act → World → Prop} {S : World → Prop} {fuel : Nat} {listed : Array Bool} {a : Act} {w : World} (i : Nat) (d : Tmp) {o : Oper} (Post : Value → World → Prop) (ho : ops[i]? = some o) (hd : o.dst = some d) (hr : Region.ready .any ops listed = [i]) (hb : Region.wanted o (yielded ops a.tmps) = true)
    (hw : ∀ K : Act → World → Prop, (∀ v' w', Post v' w' → K (a.put o.dst v') w') → Oper.wp P o a w K Q)
    (h : ∀ v' w', Post v' w' → S w' ∧ wpAnyH P .any ops Q S fuel (listed.setIfInBounds i true) (a.put (some d) v') w') : wpAnyH P .any ops Q S (fuel + 1) listed a w :=
  wpAnyH_ready hr (by simp) (AllReadyH.cons ho (fun K' hK => by
    rw [if_pos hb]
    refine hw K' fun v' w' hp => ?_
    obtain ⟨h1, h2⟩ := h v' w' hp
    rw [hd]
    exact hK.out _ _ h1 fun _ => h2) AllReadyH.nil)

set_option maxRecDepth 100000 in
set_option maxHeartbeats 4000000 in
theorem times_any (zs : List Int) (z : Int) (e f n : Nat) (u v : Value) (w : World) (hu : IsL w u zs) (hv : IsI w v z) (hl : zs.length ≤ 1000) (hn : n ≤ 1000) (fx : Bd zs e) (fz : z.natAbs < 10 ^ f) (he : e ≤ 80000000) (hf : f ≤ 80000000) :
    Calls Tryz.prog 49 #[u, v, .int .i64 n] w fun en w' => ∃ x, en = .returned x ∧ OwnL w.heap.size w' x (List.replicate n 0 ++ zs.map fun x => x * z) ∧ Below w.heap.size w w' := by
  obtain ⟨ua, uc, rfl⟩ := OwnL.val hu
  obtain ⟨vb, va, vn, vc, rfl⟩ := hv.form
  have fzi : Fit z := fitW_of fz hf
  go_enter Tryz.func49, Tryz.ntmps49
  go_wp2_with fail
  generalize hW : w.alloc (Obj.cells #[Value.bool vb, Value.slice va vn vc] 70) = W0
  obtain ⟨hb0, X0⟩ := one_new hW
  have hs0 : W0.heap.size = w.heap.size + 1 := by rw [← hW]; simp
  clear hW
  go_loopw [7, 8] (fun l i wr => ∃ (k : Nat), k ≤ n ∧ i = .int .i64 k ∧ OwnL (w.heap.size + 1) wr l (List.replicate k 0) ∧ Below (w.heap.size + 1) W0 wr) (fun _ i _ => n - (intOf i).toNat)
  case atStart =>
    refine ⟨0, Nat.zero_le _, rfl, ?_, (Below.refl _ _).alloc (by omega) _⟩
    have := OwnL.lit (w := W0) rfl
    rw [hs0] at this
    exact this
  case round =>
    obtain ⟨k, hk, rfl, hown, hbel⟩ := hrel
    obtain ⟨L, HL⟩ : ∃ L, Hid (List.replicate k (0 : Int) = L) := ⟨_, rfl⟩
    have hll : (List.replicate k (0 : Int)).length ≤ 1000 := by simp; omega
    have hsu : List.replicate (k + 1) (0 : Int) = List.replicate k 0 ++ [0] := List.replicate_succ'
    have HSU : Hid _ := hsu
    clear hsu
    by_cases hlt : k < n
    · rw [HL.out] at hown hll
      go_wp2_with (at_builtin; refine wpList_pushI rfl (.tmp 16) (.tmp 18) rfl (w.heap.size + 1) _ L _ _ 0 rfl hown zeroInt rfl (by omega) (by have := hbel.size; omega) ?_)
      intro v6 w6 hown6 hb6 _
      rw [← HL.out, ← HSU.out] at hown6
      go_wp2
      go_roundw
      case rel => exact ⟨k + 1, by omega, by go_num, hown6, hbel.trans hb6⟩
      case measure => simp [intOf]; omega
    · obtain rfl : k = n := by omega
      clear HSU HL
      go_wp2_with fail
      go_loopw [7, 9] (fun l i wq => ∃ (j : Nat), j ≤ zs.length ∧ i = .int .i64 j ∧ OwnL (w.heap.size + 1) wq l (List.replicate k 0 ++ (zs.take j).map fun x => x * z) ∧ Below (w.heap.size + 1) W0 wq) (fun _ i _ => zs.length - (intOf i).toNat)
      case atStart => exact ⟨0, Nat.zero_le _, rfl, by simpa using hown, hbel⟩
      case round =>
        clear hown hbel hll L
        obtain ⟨j, hj, rfl, hown, hbel⟩ := hrel
        have hbq : Below w.heap.size w wr := hb0.trans (hbel.mono (by omega))
        have hlen : (List.replicate k (0 : Int) ++ (zs.take j).map fun x => x * z).length ≤ 3000 := by simp; omega
        by_cases hlt2 : j < zs.length
        · have hsu : (List.replicate k (0 : Int) ++ (zs.take (j + 1)).map fun x => x * z) = (List.replicate k 0 ++ (zs.take j).map fun x => x * z) ++ [zs.getD j 0 * z] := by
            rw [List.take_succ_eq_append_getElem hlt2, ← getD_lt hlt2]
            simp
          have HSU : Hid _ := hsu
          clear hsu
          obtain ⟨L, HL⟩ : ∃ L, Hid ((List.replicate k (0 : Int) ++ (zs.take j).map fun x => x * z) = L) := ⟨_, rfl⟩
          rw [HL.out] at hown hlen
          obtain ⟨oa, oc, rfl⟩ := OwnL.val hown
          obtain ⟨g, b, xa, xn, xc, rfl, hc1, hc2, hg0, _, hc0, hcx, hI0⟩ := OwnL.at hu j hlt2
          have fxi : Fit (zs.getD j 0) := fitW_of (fx j) he
          have hI := hI0.below hbq
          generalize zs.getD j 0 = x at *
          have hvq := hv.below hbq
          have hM := fun (W : World) (g1 : IsI W (.agg #[.bool b, .slice xa xn xc]) x) (g2 : IsI W (.agg #[.bool vb, .slice va vn vc]) z) => mul_any _ _ x z W g1 g2 fxi fzi
          have HM : Hid _ := hM
          clear hM
          have hSV : ∀ W, Below (w.heap.size + 1) W0 W → W.cell? ⟨g, j * 2, none⟩ = some (.bool b) ∧ W.cell? ⟨g, j * 2 + 1, none⟩ = some (.slice xa xn xc) ∧ W.cell? ⟨w.heap.size, 0, none⟩ = some (.bool vb) ∧ W.cell? ⟨w.heap.size, 1, none⟩ = some (.slice va vn vc) := fun W h => by
            have hw : Below w.heap.size w W := hb0.trans (h.mono (by omega))
            have Y0 : Bx W w.heap.size (.bool vb) (.slice va vn vc) := by unfold Bx; rw [h.block _ (by omega)]; exact X0
            exact ⟨(hw.cell (p := ⟨g, j * 2, none⟩) hg0).trans hc0, (hw.cell (p := ⟨g, j * 2 + 1, none⟩) hg0).trans hcx, Y0.c0, Y0.c1⟩
          have hbd : Below (w.heap.size + 1) W0 wr.drew := ⟨hbel.os, hbel.tape, hbel.output, hbel.size, hbel.block⟩
          have hbdw : Below wr.heap.size wr wr.drew := ⟨rfl, rfl, rfl, Nat.le_refl _, fun _ _ => rfl⟩
          have hji : (j : Int) < (zs.length : Int) := by omega
          have hji0 : (0 : Int) ≤ (j : Int) := by omega
          go_wp2_with fail
          refine wp_region_held_drew (S := fun W => W.cell? ⟨g, j * 2, none⟩ = some (.bool b) ∧ W.cell? ⟨g, j * 2 + 1, none⟩ = some (.slice xa xn xc) ∧ W.cell? ⟨w.heap.size, 0, none⟩ = some (.bool vb) ∧ W.cell? ⟨w.heap.size, 1, none⟩ = some (.slice va vn vc)) (by kernel_rfl) (hSV _ hbd) fun hS => ?_
          refine h_take 0 26 (.slice oa L.length oc) rfl rfl (by kernel_rfl) (by kernel_rfl) (by kernel_rfl) (fun _ _ _ h => h) rfl (fun _ _ => rfl) hS ?_
          simp only [Act.put, tA, tB, tC]
          refine h_take 1 27 (.slice (some ⟨g, 0, none⟩) zs.length uc) rfl rfl (by kernel_rfl) (by kernel_rfl) (by kernel_rfl) (fun _ _ _ h => h) rfl (fun _ _ => rfl) hS ?_
          simp only [Act.put, tA, tB, tC]
          refine h_take 2 28 (.int .i64 (j : Int)) rfl rfl (by kernel_rfl) (by kernel_rfl) (by kernel_rfl) (fun _ _ _ h => h) rfl (fun _ _ => rfl) hS ?_
          simp only [Act.put, tA, tB, tC]
          refine h_take 3 29 (.pointer (some ⟨g, j * 2, none⟩)) rfl rfl (by kernel_rfl) (by kernel_rfl) (by kernel_rfl) (fun _ _ _ h => h) rfl (fun _ _ => by go_simp) hS ?_
          simp only [Act.put, tA, tB, tC]
          refine h_take 4 30 (.agg #[.bool b, .slice xa xn xc]) rfl rfl (by kernel_rfl) (by kernel_rfl) (by kernel_rfl) (fun _ _ _ h => h) rfl (fun w' hw' => by obtain ⟨y0, y1, y2, y3⟩ := hw'; go_simp) hS ?_
          simp only [Act.put, tA, tB, tC]
          refine h_take 5 31 (.agg #[.bool vb, .slice va vn vc]) rfl rfl (by kernel_rfl) (by kernel_rfl) (by kernel_rfl) (fun _ _ _ h => h) rfl (fun w' hw' => by obtain ⟨y0, y1, y2, y3⟩ := hw'; go_simp) hS ?_
          simp only [Act.put, tA, tB, tC]
          refine h_call 6 32 69 #[.agg #[.bool b, .slice xa xn xc], .agg #[.bool vb, .slice va vn vc]] rfl rfl (by kernel_rfl) rfl (by go_simp) ?_
          refine (HM.out wr.drew (hI.below hbdw) (hvq.below hbdw)).mono ?_
          rintro en w5 ⟨x5, rfl, hI5, hb5⟩
          obtain ⟨b5, a5, n5, c5, rfl⟩ := hI5.form
          have hs5 : w.heap.size + 1 ≤ wr.drew.heap.size := by have := hbd.size; omega
          have hb5w : Below (w.heap.size + 1) W0 w5 := hbd.trans (hb5.mono hs5)
          have hown5 := OwnL.below (OwnL.below hown hbdw) hb5
          have hsz5 : w.heap.size + 1 ≤ w5.heap.size := Nat.le_trans hs5 hb5.size
          refine ⟨_, rfl, hSV _ hb5w, ?_⟩
          simp only [Act.put, tA, tB, tC]
          refine h_val 7 33 (.slice (some ⟨w5.heap.size, 0, none⟩) 1 1) (w' := w5.alloc (.cells #[.bool b5, .slice a5 n5 c5] 70)) rfl rfl (by kernel_rfl) rfl (by go_simp) (hSV _ (hb5w.alloc (by omega) _)) ?_
          simp only [Act.put, tA, tB, tC]
          refine h_op 8 34 (fun v' w' => OwnL (w.heap.size + 1) w' v' (L ++ [x * z]) ∧ Below (w.heap.size + 1) w5 w') rfl rfl (by kernel_rfl) rfl (fun K hK => wp_pushI (.tmp 26) (.tmp 33) rfl (w.heap.size + 1) _ L _ _ (x * z) rfl hown5 hI5 rfl (by omega) hsz5 fun v' w' g1 g2 => hK v' w' ⟨g1, g2⟩) ?_
          rintro v6 w6 ⟨hown6, hb6⟩
          have hb6w : Below (w.heap.size + 1) W0 w6 := hb5w.trans hb6
          rw [← HL.out, ← HSU.out] at hown6
          refine ⟨hSV _ hb6w, ?_⟩
          simp only [Act.put, tA, tB, tC]
          refine h_val 9 7 v6 (w' := w6) rfl rfl (by kernel_rfl) rfl rfl (hSV _ hb6w) ?_
          simp only [Act.put, tA, tB, tC]
          refine wpAnyH_done (by kernel_rfl) ?_ _
          go_wp2
          go_roundw
          case rel => exact ⟨j + 1, by omega, by go_num, hown6, hb6w⟩
          case measure => simp [intOf]; omega
        · obtain rfl : j = zs.length := by omega
          rw [List.take_length] at hown
          obtain ⟨oa, oc, hoe⟩ := OwnL.val hown
          subst hoe
          go_wp2
          go_ret
          exact ⟨_, rfl, hown.lower (by omega), hbq⟩

end Go.Proofs.YtldcjkhbiffdoabGreatDoor

namespace Go.Proofs.YtldcjkhbiffdoabGreatDoor
open Go.RowKit

theorem wp_pushN {o : Oper} {a : Act} {K : Act → World → Prop} {Q : Exit → Act → World → Prop} {wr : World} (s x : Operand)
    (ho : o.op = .call { callee := .builtin .append, args := #[s, x], argTypes := #[42, 42] })
    (B : Nat) (v : Value) (l : List Int) (y : Int) (hs : a.eval s = v) (hown : OwnN B wr v l) (hx : a.eval x = .slice (some ⟨wr.heap.size, 0, none⟩) 1 1)
    (hlen : l.length ≤ 1000000000000) (hB : B ≤ wr.heap.size)
    (h : ∀ v' w', OwnN B w' v' (l ++ [y]) → Below B wr w' → K (a.put o.dst v') w') :
    o.wp Tryz.prog a (wr.alloc (.cells #[.int .i64 y] 3)) K Q := by
  obtain ⟨i, hi, hz0, hz1, hz2⟩ := info_parts Tryz.infoIntN
  refine wp_append_own _ s x 42 ho B 3 i (.int .i64 0) 1 8 Tryz.sliceIntN hi hz0 hz1 hz2 rfl (by decide) v l.length (l.map (Value.int .i64)) hs (World.ownsRow.alloc hown _) ⟨wr.heap.size, 0, none⟩ 1 1 [.int .i64 y] hx rfl ?_ ?_ ?_ ?_ ?_ ?_
  · intro j u hj
    match j, hj with
    | 0, hj => simp at hj; subst hj; simp [Addr.add]
  · intro u hu; simp at hu; subst hu; rfl
  · unfold maxLen; omega
  · omega
  · simp; omega
  · intro v' w' h1 h2 _
    have hg : wr.grownBy w' v.ownBlock := by
      have h0 := World.grownBy_alloc wr (.cells #[.int .i64 y] 3) v.ownBlock
      exact ⟨h2.os.trans h0.os, h2.tape.trans h0.tape, h2.output.trans h0.output, Nat.le_trans h0.size h2.size, fun k hk hne => (h2.block k (by simp; omega) hne).trans (h0.block k hk hne)⟩
    refine h v' w' ?_ ((Below.refl _ _).grown hg hB hown.block)
    unfold OwnN
    simpa using h1

def slM (p : Nat) (a : List Int) (k : Nat) : Int := ((k + 1 : Nat) : Int) % p * a.getD (k + 1) 0 % p

theorem slM_zm {p : Nat} (a : List Int) : Zm p (fun t => ev t (tz (tab (a.length - 1) (slM p a))) - ev t (slp a)) := by
  have : Zm p (fun t => ev t (tab (a.length - 1) (slM p a)) - ev t (slp a)) := Zm.of_getD fun k => by
    rw [tab_getD, slp_getD]
    split
    · unfold slM
      have h1 := emod_alike (((k + 1 : Nat) : Int) % p * a.getD (k + 1) 0) p
      have h2 := Int.dvd_trans (emod_alike ((k + 1 : Nat) : Int) p) (Int.dvd_mul_right _ (a.getD (k + 1) 0))
      have h3 := Int.dvd_add h1 h2
      rw [Int.sub_mul] at h3
      rw [show ((k + 1 : Nat) : Int) = (k : Int) + 1 by omega] at *
      rwa [show ((k : Int) + 1) % p * a.getD (k + 1) 0 % p - ((k : Int) + 1) % p * a.getD (k + 1) 0 + (((k : Int) + 1) % p * a.getD (k + 1) 0 - ((k : Int) + 1) * a.getD (k + 1) 0) = ((k : Int) + 1) % p * a.getD (k + 1) 0 % p - ((k : Int) + 1) * a.getD (k + 1) 0 by omega] at h3
    · rw [getD_out (show a.length ≤ k + 1 by omega)]; simp
  exact this.congr fun t => by rw [ev_tz]

theorem Cop.alike {m : Int} {a b b' : Int → Int} (h : Cop m a b) (hz : Zm m (fun t => b t - b' t)) : Cop m a b' := by
  obtain ⟨u, v, c, h1, h2, h3, h4⟩ := h
  exact ⟨u, v, c, h1, h2, h3, (h4.sub (hz.mul h2)).congr fun t => by rw [Int.mul_sub]; omega⟩

set_option maxRecDepth 100000 in
set_option maxHeartbeats 4000000 in
theorem squareFreeM_any (p : Nat) (a : List Int) (u : Value) (w : World) (hu : RowN w u a) (hl : a.length ≤ 900) (hp2 : 2 ≤ p) (hp1 : p < 1000) (hp : Dom (p : Int)) (na : Nrm p a) (hne : a ≠ []) (b : Bool) (HB : Hid (b = true ↔ Cop p (fun t => ev t a) (fun t => ev t (slp a)))) :
    Calls Tryz.prog 112 #[u, .int .i64 p] w fun e w' => e = .returned (.bool b) ∧ Below w.heap.size w w' := by
  obtain ⟨ua, uc, rfl⟩ := hu.val
  have h0 := List.length_pos_iff.2 hne
  have hM := fun (n : Int) (W : World) (h0 : 0 ≤ n) (h1 : n < 10000000) => modulo_any n p W h0 (by omega) (by omega) (by omega)
  have HM : Hid _ := hM
  clear hM
  obtain ⟨f, HF⟩ : ∃ f : Nat → Int, Hid (f = slM p a) := ⟨_, rfl⟩
  have hred : Nrm p (tz (tab (a.length - 1) f)) := by rw [HF.out]; exact (Red.tab (by omega) _ _).tz
  have HZ : Hid (∀ g, GM p a (tz (tab (a.length - 1) f)) g → (b = true ↔ g.length = 1)) := fun g hg => by
    rw [HB.out, hg.cop hp, HF.out]
    exact ⟨fun h => h.alike ((slM_zm a).neg.congr fun t => by omega), fun h => h.alike (slM_zm a)⟩
  have HGC : Hid (∀ (W : World) (v : Value), Below w.heap.size w W → RowN W v (tz (tab (a.length - 1) f)) → _) := fun W v hb hv => gcdM_any p a (tz (tab (a.length - 1) f)) _ v W (hu.below hb) hv hl (by have := tz_le0 (tab (a.length - 1) f); rw [tab_len] at this; omega) hp2 hp1 hp na hred (.inl hne)
  have HNA : Hid _ := na
  clear na hne hp hred HB
  go_enter Tryz.func112, Tryz.ntmps112
  go_wp2_with fail
  go_loopw [5, 6] (fun o i wr => ∃ (k : Nat), k ≤ a.length - 1 ∧ i = .int .i64 ((k : Int) + 1) ∧ OwnN w.heap.size wr o (tab k f) ∧ Below w.heap.size w wr) (fun _ i _ => a.length - (intOf i).toNat)
  case atStart => exact ⟨0, Nat.zero_le _, rfl, OwnN.lit rfl, (Below.refl _ _).alloc (Nat.le_refl _) _⟩
  case round =>
    obtain ⟨k, hk, rfl, hown, hbel⟩ := hrel
    have hlen : (tab k f).length ≤ 900 := by rw [tab_len]; omega
    by_cases hlt : k < a.length - 1
    · have hsu := tab_succ k f
      obtain ⟨ga, rfl, hu1, hu2, hu3, hcx⟩ := hu.at (k + 1) (by omega)
      have hfk : f k = ((k : Int) + 1) % p * a.getD (k + 1) 0 % p := by rw [HF.out]; unfold slM; rw [show ((k + 1 : Nat) : Int) = (k : Int) + 1 by omega]
      rw [hfk] at hsu
      obtain ⟨hx0, hx1⟩ := HNA.out.1 (k + 1)
      generalize a.getD (k + 1) 0 = x at *
      have HSU : Hid _ := hsu
      clear hsu hfk
      obtain ⟨L, HL⟩ : ∃ L, Hid (tab k f = L) := ⟨_, rfl⟩
      rw [HL.out] at hown hlen
      obtain ⟨oa, oc, rfl⟩ := hown.row.val
      have hr0 : 0 ≤ ((k : Int) + 1) % p := Int.emod_nonneg _ (by omega)
      have hr1 : ((k : Int) + 1) % p < p := Int.emod_lt_of_pos _ (by omega)
      obtain ⟨m, HMm⟩ : ∃ m, Hid (((k : Int) + 1) % p = m) := ⟨_, rfl⟩
      have hmod1 := fun W => HM.out ((k : Int) + 1) W (by omega) (by omega)
      rw [HMm.out] at hr0 hr1 hmod1 HSU
      have hm0 : 0 ≤ m * x := Int.mul_nonneg hr0 hx0
      have hm1 : m * x ≤ 1000 * 1000 := Int.mul_le_mul (by omega) (by omega) hx0 (by omega)
      have hmod2 := fun W => HM.out (m * x) W (by omega) (by omega)
      have HM1 : Hid _ := hmod1
      have HM2 : Hid _ := hmod2
      clear hmod1 hmod2
      have hki : ((k : Int) + 1) < (a.length : Int) := by omega
      have hki0 : (0 : Int) ≤ (k : Int) + 1 := by omega
      have htn : ((k : Int) + 1).toNat = k + 1 := by omega
      have hww : IntKind.i64.wrap (m * x) = m * x := by rw [IntKind.wrap_i64]; omega
      have hbd : Below w.heap.size w wr.drew := ⟨hbel.os, hbel.tape, hbel.output, hbel.size, hbel.block⟩
      have hbdw : Below wr.heap.size wr wr.drew := ⟨rfl, rfl, rfl, Nat.le_refl _, fun _ _ => rfl⟩
      have hownd := hown.below hbdw
      have hSV : ∀ W, Below w.heap.size w W → W.cell? ⟨ga, k + 1, none⟩ = some (.int .i64 x) := fun W h => (h.cell (p := ⟨ga, k + 1, none⟩) hu3).trans hcx
      go_wp2_with fail
      refine wp_region_held_drew (S := fun W => W.cell? ⟨ga, k + 1, none⟩ = some (.int .i64 x)) (by kernel_rfl) (hSV _ hbd) fun hS => ?_
      generalize wr.drew = W0 at *
      refine h_take 0 15 (.slice oa L.length oc) rfl rfl (by kernel_rfl) (by kernel_rfl) (by kernel_rfl) (fun _ _ _ h => h) rfl (fun _ _ => by first | rfl | go_simp) hS ?_
      simp only [Act.put, tA, tB, tC]
      refine h_take 1 16 (.int .i64 ((k : Int) + 1)) rfl rfl (by kernel_rfl) (by kernel_rfl) (by kernel_rfl) (fun _ _ _ h => h) rfl (fun _ _ => by first | rfl | go_simp) hS ?_
      simp only [Act.put, tA, tB, tC]
      refine h_take 2 17 (.int .i64 (p : Int)) rfl rfl (by kernel_rfl) (by kernel_rfl) (by kernel_rfl) (fun _ _ _ h => h) rfl (fun _ _ => by first | rfl | go_simp) hS ?_
      simp only [Act.put, tA, tB, tC]
      refine h_take 4 19 (.slice (some ⟨ga, 0, none⟩) a.length uc) rfl rfl (by kernel_rfl) (by kernel_rfl) (by kernel_rfl) (fun _ _ _ h => h) rfl (fun _ _ => by first | rfl | go_simp) hS ?_
      simp only [Act.put, tA, tB, tC]
      refine h_take 5 20 (.int .i64 ((k : Int) + 1)) rfl rfl (by kernel_rfl) (by kernel_rfl) (by kernel_rfl) (fun _ _ _ h => h) rfl (fun _ _ => by first | rfl | go_simp) hS ?_
      simp only [Act.put, tA, tB, tC]
      refine h_take 6 21 (.pointer (some ⟨ga, k + 1, none⟩)) rfl rfl (by kernel_rfl) (by kernel_rfl) (by kernel_rfl) (fun _ _ _ h => h) rfl (fun _ _ => by first | rfl | go_simp) hS ?_
      simp only [Act.put, tA, tB, tC]
      refine h_take 7 22 (.int .i64 x) rfl rfl (by kernel_rfl) (by kernel_rfl) (by kernel_rfl) (fun _ _ _ h => h) rfl (fun w' hw' => by have y0 := hw'; go_simp) hS ?_
      simp only [Act.put, tA, tB, tC]
      refine h_take 9 24 (.int .i64 (p : Int)) rfl rfl (by kernel_rfl) (by kernel_rfl) (by kernel_rfl) (fun _ _ _ h => h) rfl (fun _ _ => by first | rfl | go_simp) hS ?_
      simp only [Act.put, tA, tB, tC]
      refine h_call 3 18 121 #[.int .i64 ((k : Int) + 1), .int .i64 (p : Int)] rfl rfl (by kernel_rfl) rfl (by go_simp) ?_
      refine (HM1.out W0).mono ?_
      rintro e w5 ⟨rfl, rfl⟩
      refine ⟨_, rfl, hS, ?_⟩
      simp only [Act.put, tA, tB, tC]
      refine h_take 8 23 (.int .i64 (m * x)) rfl rfl (by kernel_rfl) (by kernel_rfl) (by kernel_rfl) (fun _ _ _ h => h) rfl (fun _ _ => by first | rfl | go_simp) hS ?_
      simp only [Act.put, tA, tB, tC]
      refine h_call 10 25 121 #[.int .i64 (m * x), .int .i64 (p : Int)] rfl rfl (by kernel_rfl) rfl (by go_simp) ?_
      refine (HM2.out w5).mono ?_
      rintro e w6 ⟨rfl, rfl⟩
      refine ⟨_, rfl, hS, ?_⟩
      simp only [Act.put, tA, tB, tC]
      refine h_val 11 26 (.slice (some ⟨w6.heap.size, 0, none⟩) 1 1) (w' := w6.alloc (.cells #[.int .i64 (m * x % p)] 3)) rfl rfl (by kernel_rfl) rfl (by go_simp) (hSV _ (hbd.alloc hbd.size _)) ?_
      simp only [Act.put, tA, tB, tC]
      refine h_op 12 27 (fun v' w' => OwnN w.heap.size w' v' (L ++ [m * x % p]) ∧ Below w.heap.size w6 w') rfl rfl (by kernel_rfl) rfl (fun K hK => wp_pushN (.tmp 15) (.tmp 26) rfl w.heap.size _ L _ rfl hownd rfl (by omega) hbd.size fun v' w' g1 g2 => hK v' w' ⟨g1, g2⟩) ?_
      rintro v7 w7 ⟨hown7, hb7⟩
      have hb7w := hbd.trans hb7
      rw [← HL.out, ← HSU.out] at hown7
      refine ⟨hSV _ hb7w, ?_⟩
      simp only [Act.put, tA, tB, tC]
      refine h_val 13 5 v7 (w' := w7) rfl rfl (by kernel_rfl) rfl rfl (hSV _ hb7w) ?_
      simp only [Act.put, tA, tB, tC]
      refine wpAnyH_done (by kernel_rfl) ?_ _
      go_wp2
      go_roundw
      case rel => exact ⟨k + 1, by omega, by go_num, hown7, hb7w⟩
      case measure => simp [intOf]; omega
    · obtain rfl : k = a.length - 1 := by omega
      have hT := trimN_any _ _ wr hown.row (by omega)
      obtain ⟨oa, oc, rfl⟩ := hown.row.val
      have hge : ¬ ((a.length - 1 : Nat) : Int) + 1 < (a.length : Int) := by omega
      rw [show ((a.length - 1 : Nat) : Int) + 1 = (a.length : Int) by omega] at *
      obtain ⟨T, HT⟩ : ∃ T, Hid (tz (tab (a.length - 1) f) = T) := ⟨_, rfl⟩
      rw [HT.out] at hT HZ HGC
      clear hown HT hlen
      generalize (tab (a.length - 1) f).length = tn at *
      go_wp2_with fail
      refine hT.mono ?_
      rintro e w2 ⟨x2, rfl, hI2, hb2⟩
      obtain ⟨xa, xc, rfl⟩ := hI2.row.val
      have hb2w := hbel.trans (hb2.mono hbel.size)
      go_wp2_with fail
      refine (HGC.out w2 _ hb2w hI2.row).mono ?_
      rintro e w3 ⟨g, x3, rfl, hI3, hgm, hgl, hb3⟩
      have HE : Hid _ := HZ.out g hgm
      clear hgm
      obtain ⟨ya, yc, rfl⟩ := hI3.row.val
      obtain ⟨n3, HN3⟩ : ∃ n3, Hid (g.length = n3) := ⟨_, rfl⟩
      rw [HN3.out] at HE ⊢
      by_cases h1 : n3 = 1
      · have hb : b = true := HE.out.2 h1
        subst h1
        subst hb
        clear HE
        go_wp2
        go_ret
        exact ⟨rfl, hb2w.trans (hb3.mono hb2w.size)⟩
      · have h1' : ¬ (n3 : Int) = 1 := by omega
        have hb : b = false := by
          cases b with
          | false => rfl
          | true => exact absurd (HE.out.1 rfl) h1
        subst hb
        go_wp2
        go_ret
        exact ⟨by simp [h1'], hb2w.trans (hb3.mono hb2w.size)⟩

end Go.Proofs.YtldcjkhbiffdoabGreatDoor

namespace Go.Proofs.YtldcjkhbiffdoabGreatDoor
open Go.RowKit

structure VecP (T : TypeId) {α : Type} (P : World → Value → α → Prop) : Prop where
  val : ∀ {w : World} {c : Value} {a : α}, P w c a → ∃ ad n k, c = .slice ad n k
  below : ∀ {w w' : World} {c : Value} {a : α}, P w c a → Below w.heap.size w w' → P w' c a
  kept : ∀ {w w' : World} {c : Value} {a : α} {g : Option Nat}, P w c a → w.grownBy w' g → (∀ k, g = some k → ∃ cur, w.heap[k]? = some (.cells cur T (0, 0))) → P w' c a

def OwnV (T : TypeId) {α : Type} (P : World → Value → α → Prop) (B : Nat) (w : World) (v : Value) (L : List α) : Prop :=
  ∃ cs : List Value, cs.length = L.length ∧ w.ownsRow B T 1 v L.length cs ∧ ∀ (i : Nat) (c : Value) (a : α), cs[i]? = some c → L[i]? = some a → P w c a

section
variable {T : TypeId} {α : Type} {P : World → Value → α → Prop}

theorem OwnV.block {B : Nat} {w : World} {v : Value} {L : List α} (h : OwnV T P B w v L) : ∀ k, v.ownBlock = some k → B ≤ k := by
  obtain ⟨cs, h1, h2, h3⟩ := h
  exact fun k hk => (World.ownsRow.lt h2 k hk).1

theorem OwnV.typ {B : Nat} {w : World} {v : Value} {L : List α} (h : OwnV T P B w v L) : ∀ k, v.ownBlock = some k → ∃ cur, w.heap[k]? = some (.cells cur T (0, 0)) := by
  obtain ⟨cs, h1, h2, h3⟩ := h
  intro k hk
  rcases h2.2 with ⟨hn, _⟩ | ⟨g, cap, cur, hv, _, hg, _⟩
  · rw [hn] at hk; simp [Value.ownBlock] at hk
  · rw [hv] at hk; simp [Value.ownBlock] at hk; subst hk; exact ⟨cur, hg⟩

theorem OwnV.val {B : Nat} {w : World} {v : Value} {L : List α} (h : OwnV T P B w v L) : ∃ a c, v = .slice a L.length c := by
  obtain ⟨cs, h1, h2, h3⟩ := h
  rcases h2.2 with ⟨h, h'⟩ | ⟨g, cap, cur, hv, _⟩
  · exact ⟨none, 0, by rw [h']; exact h⟩
  · exact ⟨_, _, hv⟩

theorem OwnV.lower {B C : Nat} {w : World} {v : Value} {L : List α} (h : OwnV T P B w v L) (hC : C ≤ B) : OwnV T P C w v L := by
  obtain ⟨cs, h1, h2, h3⟩ := h
  refine ⟨cs, h1, ⟨h2.1, ?_⟩, h3⟩
  rcases h2.2 with h | ⟨g, cap, cur, hv, hb, r⟩
  · exact .inl h
  · exact .inr ⟨g, cap, cur, hv, Nat.le_trans hC hb, r⟩

theorem OwnV.below (hP : VecP T P) {B : Nat} {w w' : World} {v : Value} {L : List α} (h : OwnV T P B w v L) (hb : Below w.heap.size w w') : OwnV T P B w' v L := by
  obtain ⟨cs, h1, h2, h3⟩ := h
  exact ⟨cs, h1, owns_belowN h2 hb, fun i c a hc ha => hP.below (h3 i c a hc ha) hb⟩

theorem OwnV.lit {w : World} {n : Nat} (h : w.heap.size = n) : OwnV T P n (w.alloc (.cells #[] T)) (.slice (some ⟨n, 0, none⟩) 0 0) [] := by
  subst h
  exact ⟨[], rfl, World.ownsRow_made w #[] 0 (Nat.le_refl _) (by simp [maxLen]) rfl, fun i c a hc _ => by simp at hc⟩

theorem OwnV.one (hP : VecP T P) {w : World} {n : Nat} (h : w.heap.size = n) {c : Value} {a : α} (hc : P w c a) : OwnV T P n (w.alloc (.cells #[c] T)) (.slice (some ⟨n, 0, none⟩) 1 1) [a] := by
  subst h
  refine ⟨[c], rfl, World.ownsRow_lit w #[c] 1 (Nat.le_refl _) (by simp [maxLen]) rfl, fun i c' a' hc' ha' => ?_⟩
  match i, hc', ha' with
  | 0, hc', ha' =>
    simp at hc' ha'
    subst hc'
    subst ha'
    exact hP.below hc ((Below.refl _ _).alloc (Nat.le_refl _) _)

theorem OwnV.at (hP : VecP T P) {B : Nat} {w : World} {ad : Option Addr} {c : Nat} {L : List α} (h : OwnV T P B w (.slice ad L.length c) L) (i : Nat) (hi : i < L.length) :
    ∃ g xa xn xc a, ad = some ⟨g, 0, none⟩ ∧ L.length ≤ c ∧ c ≤ maxLen ∧ g < w.heap.size ∧ B ≤ g ∧ w.cell? ⟨g, i, none⟩ = some (.slice xa xn xc) ∧ L[i]? = some a ∧ P w (.slice xa xn xc) a := by
  obtain ⟨cs, h1, h2, h3⟩ := h
  rcases h2.2 with ⟨_, h'⟩ | ⟨g, cap, cur, hv, hB, hg, hnc, hcm, _⟩
  · omega
  · simp only [Value.slice.injEq, true_and] at hv
    obtain ⟨rfl, rfl⟩ := hv
    have hp : cs[i]? = some cs[i] := List.getElem?_eq_getElem (by omega)
    have ha : L[i]? = some L[i] := List.getElem?_eq_getElem hi
    have hpi := h3 i _ _ hp ha
    obtain ⟨xa, xn, xc, e⟩ := hP.val hpi
    refine ⟨g, xa, xn, xc, L[i], rfl, hnc, hcm, (Array.getElem?_eq_some_iff.1 hg).1, hB, ?_, ha, by rw [← e]; exact hpi⟩
    rw [h2.cellAt i (by omega), hp, e]

theorem wpList_pushV (hP : VecP T P) {SL : TypeId} (hinfo : (Tryz.prog.info? T).map (fun i => (i.zero, i.size, i.bytes)) = some (some (.slice none 0 0), 1, 24)) (hsl : Tryz.prog.underlying SL = some (.slice T))
    {ops : Array Oper} {rest : List Oper} {o : Oper} {a : Act} {Q : Exit → Act → World → Prop} {wr : World} (hgd : o.guard = none) (s x : Operand)
    (ho : o.op = .call { callee := .builtin .append, args := #[s, x], argTypes := #[SL, SL] })
    (B : Nat) (v : Value) (L : List α) (c : Value) (y : α) (hs : a.eval s = v) (hown : OwnV T P B wr v L) (hc : P wr c y) (hx : a.eval x = .slice (some ⟨wr.heap.size, 0, none⟩) 1 1)
    (hlen : L.length ≤ 1000000000) (hB : B ≤ wr.heap.size)
    (h : ∀ v' w', OwnV T P B w' v' (L ++ [y]) → Below B wr w' → wr.grownBy w' v.ownBlock → wpList Tryz.prog ops Q rest (a.put o.dst v') w') :
    wpList Tryz.prog ops Q (o :: rest) a (wr.alloc (.cells #[c] T)) := by
  obtain ⟨i, hi, hz0, hz1, hz2⟩ := info_parts hinfo
  have htyp := hown.typ
  have hblk := hown.block
  obtain ⟨ca, cn, ck, rfl⟩ := hP.val hc
  obtain ⟨cs, h1, h2, h3⟩ := hown
  refine wpList_append_own _ hgd s x SL ho B T i (.slice none 0 0) 1 24 hsl hi hz0 hz1 hz2 rfl (by decide) v L.length cs hs (World.ownsRow.alloc h2 _) ⟨wr.heap.size, 0, none⟩ 1 1 [.slice ca cn ck] hx rfl ?_ ?_ ?_ ?_ ?_ ?_
  · intro j u hj
    match j, hj with
    | 0, hj => simp at hj; subst hj; simp [Addr.add]
  · intro u hu; simp at hu; subst hu; rfl
  · unfold maxLen; omega
  · omega
  · simp; omega
  · intro v' w' g1 g2 _
    have h0 := World.grownBy_alloc wr (.cells #[.slice ca cn ck] T) v.ownBlock
    have hg : wr.grownBy w' v.ownBlock := ⟨g2.os.trans h0.os, g2.tape.trans h0.tape, g2.output.trans h0.output, Nat.le_trans h0.size g2.size, fun k hk hne => (g2.block k (by simp; omega) hne).trans (h0.block k hk hne)⟩
    refine h v' w' ⟨cs ++ [.slice ca cn ck], by simp [h1], by simpa using g1, fun j c' a' hc' ha' => ?_⟩ ((Below.refl _ _).grown hg hB hblk) hg
    by_cases hjl : j < cs.length
    · rw [List.getElem?_append_left hjl] at hc'
      rw [List.getElem?_append_left (by omega)] at ha'
      exact hP.kept (h3 j c' a' hc' ha') hg htyp
    · rw [List.getElem?_append_right (by omega)] at hc' ha'
      have hj0 : j - cs.length = 0 := by
        rcases Nat.eq_zero_or_pos (j - cs.length) with h0 | h0
        · exact h0
        · rw [List.getElem?_eq_none (by simp; omega)] at hc'; simp at hc'
      rw [hj0] at hc'
      rw [show j - L.length = 0 by omega] at ha'
      simp at hc' ha'
      subst hc'
      subst ha'
      exact hP.kept hc hg htyp

theorem OwnV.set (hP : VecP T P) {B : Nat} {w : World} {g cap : Nat} {L : List α} (h : OwnV T P B w (.slice (some ⟨g, 0, none⟩) L.length cap) L) (i : Nat) {c : Value} {a : α} (hc : P w c a) :
    OwnV T P B (w.setCell ⟨g, i, none⟩ c) (.slice (some ⟨g, 0, none⟩) L.length cap) (L.set i a) := by
  have htyp := h.typ
  obtain ⟨cs, h1, h2, h3⟩ := h
  obtain ⟨g1, g2⟩ := World.ownsRow.stored h2 i c
  refine ⟨cs.set i c, by simp [h1], by rw [List.length_set]; exact g1, fun j c' a' hc' ha' => ?_⟩
  have hk := fun (c : Value) (a : α) (h : P w c a) => hP.kept h g2 (fun k hk => htyp k (by rw [← hk]; rfl))
  by_cases hij : i = j
  · subst hij
    have hil : i < cs.length := by
      have := (List.getElem?_eq_some_iff.1 hc').1
      simpa using this
    rw [List.getElem?_set_self hil] at hc'
    rw [List.getElem?_set_self (by omega)] at ha'
    simp at hc' ha'
    subst hc'
    subst ha'
    exact hk _ _ hc
  · rw [List.getElem?_set_ne hij] at hc' ha'
    exact hk _ _ (h3 j c' a' hc' ha')

end

theorem vecN : VecP 42 RowN where
  val := fun h => by obtain ⟨a, c, rfl⟩ := h.val; exact ⟨_, _, _, rfl⟩
  below := fun h hb => h.below hb
  kept := fun {w w' c a g} h hg ht => by
    refine ⟨h.1, ?_⟩
    rcases h.2 with h1 | ⟨k, cap, cur, hv, hb0, hk, r⟩
    · exact .inl h1
    · refine .inr ⟨k, cap, cur, hv, hb0, ?_, r⟩
      rw [hg.block k (Array.getElem?_eq_some_iff.1 hk).1 (fun e => ?_)]
      · exact hk
      · obtain ⟨cur', hc⟩ := ht k e.symm
        rw [hk] at hc
        simp at hc

theorem vecL : VecP 65 IsL where
  val := fun h => by obtain ⟨a, c, rfl⟩ := OwnL.val h; exact ⟨_, _, _, rfl⟩
  below := fun h hb => OwnL.below h hb
  kept := fun {w w' c a g} h hg ht => by
    obtain ⟨cs, h1, h2, h3⟩ := h
    have hne : ∀ (k : Nat) (cur : Array Value) (e : TypeId) (f : Nat × Nat), w.heap[k]? = some (Obj.cells cur e f) → e ≠ 65 → w'.heap[k]? = some (Obj.cells cur e f) := fun k cur e f hk he => by
      rw [hg.block k (Array.getElem?_eq_some_iff.1 hk).1 (fun e' => ?_)]
      · exact hk
      · obtain ⟨cur', hc⟩ := ht k e'.symm
        rw [hk] at hc
        simp at hc
        exact he hc.2.1
    refine ⟨cs, h1, ⟨h2.1, ?_⟩, fun i p hp => ?_⟩
    · rcases h2.2 with h1 | ⟨k, cap, cur, hv, hb0, hk, r⟩
      · exact .inl h1
      · exact .inr ⟨k, cap, cur, hv, hb0, hne k _ _ _ hk (by decide), r⟩
    · obtain ⟨b, x, l, e, hr, hl⟩ := h3 i p hp
      refine ⟨b, x, l, e, ⟨hr.1, ?_⟩, hl⟩
      rcases hr.2 with h1 | ⟨k, cap, cur, hv, hb0, hk, r⟩
      · exact .inl h1
      · exact .inr ⟨k, cap, cur, hv, hb0, hne k _ _ _ hk (by decide), r⟩

theorem Tryz.infoVN : (Tryz.prog.info? 42).map (fun i => (i.zero, i.size, i.bytes)) = some (some (.slice none 0 0), 1, 24) := by kernel_rfl
theorem Tryz.sliceVN : Tryz.prog.underlying 78 = some (.slice 42) := by kernel_rfl
theorem Tryz.infoVL : (Tryz.prog.info? 65).map (fun i => (i.zero, i.size, i.bytes)) = some (some (.slice none 0 0), 1, 24) := by kernel_rfl
theorem Tryz.sliceVL : Tryz.prog.underlying 73 = some (.slice 65) := by kernel_rfl

abbrev OwnVN := OwnV 42 RowN
abbrev OwnVL := OwnV 65 IsL

end Go.Proofs.YtldcjkhbiffdoabGreatDoor
