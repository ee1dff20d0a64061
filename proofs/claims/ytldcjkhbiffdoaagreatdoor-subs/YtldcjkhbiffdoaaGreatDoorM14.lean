import Derived.Test.YtldcjkhbiffdoaaGreatDoorM13
import Derived.Test.YtldcjkhbiffdoaaGreatDoorM04
import Derived.Test.YtldcjkhbiffdoaaGreatDoorM05

/-
  poly.productAt, poly.product.
-/
namespace Go.Proofs.YtldcjkhbiffdoaaGreatDoor
open Go.RowKit

theorem pAtW_bd {xs ys : List Int} {e f : Nat} (hx : Bd xs e) (hy : Bd ys f) (k : Nat) : ∀ n, (pAt xs ys k n).natAbs ≤ n * 10 ^ (e + f)
  | 0 => by simp [pAt]
  | n + 1 => by
    have h1 := pAtW_bd hx hy k n
    have h2 : (xs.getD n 0 * ys.getD (k - n) 0).natAbs ≤ 10 ^ (e + f) := by
      rw [Int.natAbs_mul, Nat.pow_add]
      exact Nat.mul_le_mul (Nat.le_of_lt (hx n)) (Nat.le_of_lt (hy (k - n)))
    have h3 := Int.natAbs_add_le (pAt xs ys k n) (xs.getD n 0 * ys.getD (k - n) 0)
    show (pAt xs ys k n + xs.getD n 0 * ys.getD (k - n) 0).natAbs ≤ _
    rw [Nat.succ_mul]
    omega
theorem pAtW_lt {xs ys : List Int} {e f : Nat} (hx : Bd xs e) (hy : Bd ys f) (k : Nat) {n : Nat} (hn : n < 10000) : (pAt xs ys k n).natAbs < 10 ^ (e + f + 4) := by
  have h1 := pAtW_bd hx hy k n
  have h2 : 0 < 10 ^ (e + f) := Nat.pow_pos (by omega)
  have h3 : n * 10 ^ (e + f) < 10000 * 10 ^ (e + f) := Nat.mul_lt_mul_of_pos_right hn h2
  rw [Nat.pow_add, Nat.mul_comm]
  exact Nat.lt_of_le_of_lt h1 h3

set_option maxRecDepth 100000 in
set_option maxHeartbeats 4000000 in
theorem productAt_any (xs ys : List Int) (e f : Nat) (u v : Value) (k : Nat) (w : World) (hu : IsL w u xs) (hv : IsL w v ys) (hk : k ≤ 2000) (fx : Bd xs e) (fy : Bd ys f) (hef : e + f ≤ 70000000) :
    Calls Tryz.prog 104 #[u, v, .int .i64 k] w fun en w' => ∃ x, en = .returned x ∧ IsI w' x (pk xs ys k) ∧ Below w.heap.size w w' := by
  obtain ⟨ua, uc, rfl⟩ := OwnL.val hu
  obtain ⟨va, vc, rfl⟩ := OwnL.val hv
  obtain ⟨S, HS⟩ : ∃ S, Hid (pk xs ys k = S) := ⟨_, rfl⟩
  rw [HS.out]
  go_enter Tryz.func104, Tryz.ntmps104
  go_wp2_with fail
  generalize hW : (w.alloc (Obj.cells #[Value.bool false, Value.slice none 0 0] 105)).alloc (Obj.cells #[Value.bool false, Value.slice none 0 0] 105) = W0
  obtain ⟨hz0, hb0, X0, X1⟩ := two_new hW
  clear hW
  have K1 : IsB W0 (w.heap.size + 1) (pAt xs ys k 0) := ⟨_, _, X1, zeroInt⟩
  clear X1
  go_loopw [8] (fun i wr => ∃ (n : Nat), n ≤ k + 1 ∧ i = .int .i64 n ∧ IsB wr (w.heap.size + 1) (pAt xs ys k n) ∧ Bx wr w.heap.size (.bool false) (.slice none 0 0) ∧ Below w.heap.size w wr) (fun i _ => k + 1 - (intOf i).toNat)
  case atStart => exact ⟨0, Nat.zero_le _, rfl, K1, X0, hb0⟩
  case round =>
    clear K1 X0 hb0
    obtain ⟨n, hn, rfl, hK, B0, hbel⟩ := hrel
    obtain ⟨kb, ka, kn, kc, G0, hG⟩ := hK.open
    have hszw := G0.lt
    by_cases hlt : n < k + 1
    · have hc1 := numberAt_any xs (.slice ua xs.length uc) n wr (OwnL.below hu hbel)
      have hc2 := fun (W : World) (g : IsL W (.slice va ys.length vc) ys) => numberAt_any ys (.slice va ys.length vc) (k - n) W g
      rw [show (((k - n : Nat) : Int)) = (k : Int) - n by omega] at hc2
      have f1 : Fit (xs.getD n 0) := fitW_of (fx n) (by omega)
      have f2 : Fit (ys.getD (k - n) 0) := fitW_of (fy (k - n)) (by omega)
      have f3 : Fit (pAt xs ys k n) := fitW_of (pAtW_lt fx fy k (by omega)) (by omega)
      have f4 : Fit (xs.getD n 0 * ys.getD (k - n) 0) := by
        refine fitW_of (e := e + f) ?_ (by omega)
        rw [Int.natAbs_mul, Nat.pow_add]
        exact Nat.mul_lt_mul'' (fx n) (fy (k - n))
      have hstep : pAt xs ys k (n + 1) = pAt xs ys k n + xs.getD n 0 * ys.getD (k - n) 0 := rfl
      have HSTEP : Hid _ := hstep
      clear hstep
      generalize xs.getD n 0 = x at *
      generalize ys.getD (k - n) 0 = y at *
      generalize pAt xs ys k n = p at *
      have hM := fun (W : World) (u1 u2 : Value) (g1 : IsI W u1 x) (g2 : IsI W u2 y) => mul_any u1 u2 x y W g1 g2 f1 f2
      have hA := fun (W : World) (u1 u2 : Value) (g1 : IsI W u1 p) (g2 : IsI W u2 (x * y)) => add_any u1 u2 p (x * y) W g1 g2 f3 f4
      have HM : Hid _ := hM
      have HA : Hid _ := hA
      have HC2 : Hid _ := hc2
      clear hM hA hc2
      go_wp2_with fail
      refine hc1.mono ?_
      rintro en w1 ⟨x1, rfl, hI1, hb1⟩
      obtain ⟨b1, a1, n1, c1, rfl⟩ := hI1.form
      have hbw1 := hbel.trans (hb1.mono hbel.size)
      have G1 := G0.below hb1
      go_wp2_with fail
      generalize hW2 : w1.alloc (Obj.cells #[Value.bool b1, Value.slice a1 n1 c1] 105) = W2
      obtain ⟨hb2, X2⟩ := one_new hW2
      clear hW2
      have hbw2 := hbw1.trans (hb2.mono hbw1.size)
      refine (HC2.out W2 (OwnL.below hv hbw2)).mono ?_
      rintro en w3 ⟨x3, rfl, hI3, hb3⟩
      obtain ⟨b3, a3, n3, c3, rfl⟩ := hI3.form
      have hbw3 := hbw2.trans (hb3.mono hbw2.size)
      have X3 := X2.below hb3
      have q0 := X3.c0; have q1 := X3.c1; have q2 := X3.lt
      have G3 := (G1.below hb2).below hb3
      have hI13 := (hI1.below hb2).below hb3
      go_wp2_with fail
      generalize hW4 : w3.alloc (Obj.cells #[Value.bool b3, Value.slice a3 n3 c3] 105) = W4
      obtain ⟨hb4, _⟩ := one_new hW4
      clear hW4
      have hbw4 := hbw3.trans (hb4.mono hbw3.size)
      refine (HM.out W4 _ _ (hI13.below hb4) (hI3.below hb4)).mono ?_
      rintro en w5 ⟨x5, rfl, hI5, hb5⟩
      obtain ⟨b5, a5, n5, c5, rfl⟩ := hI5.form
      have hbw5 := hbw4.trans (hb5.mono hbw4.size)
      have G5 := (G3.below hb4).below hb5
      have r0 := G5.c0; have r1 := G5.c1; have r2 := G5.lt
      have hG5 := ((((hG.below hb1).below hb2).below hb3).below hb4).below hb5
      go_wp2_with fail
      generalize hW6 : w5.alloc (Obj.cells #[Value.bool b5, Value.slice a5 n5 c5] 105) = W6
      obtain ⟨hb6, _⟩ := one_new hW6
      clear hW6
      have hbw6 := hbw5.trans (hb6.mono hbw5.size)
      refine (HA.out W6 _ _ (hG5.below hb6) (hI5.below hb6)).mono ?_
      rintro en w7 ⟨x7, rfl, hI7, hb7⟩
      obtain ⟨b7, a7, n7, c7, rfl⟩ := hI7.form
      have hbw7 := hbw6.trans (hb7.mono hbw6.size)
      have G7 := (G5.below hb6).below hb7
      have s0 := G7.c0; have s1 := G7.c1; have s2 := G7.f0; have s3 := G7.f1
      have B7 := ((((((B0.below hb1).below hb2).below hb3).below hb4).below hb5).below hb6).below hb7
      have hK7 := IsB.stored G7 hI7
      rw [← HSTEP.out] at hK7
      have hB7 := B7.other (show w.heap.size ≠ w.heap.size + 1 by omega) (.bool b7) (.slice a7 n7 c7)
      have HALL : Hid _ := (⟨hK7, hB7⟩ : _ ∧ _)
      clear hK7 hB7
      go_wp2
      go_roundw
      case rel => exact ⟨n + 1, by omega, by go_num, HALL.out.1, HALL.out.2, below_set2 hbw7 (by omega) _ _⟩
      case measure => simp [intOf]; omega
    · obtain rfl : n = k + 1 := by omega
      have hG' : IsI wr (.agg #[.bool kb, .slice ka kn kc]) S := by rw [← HS.out]; exact hG
      have c0 := G0.c0; have c1 := G0.c1; have d0 := B0.c0; have d1 := B0.c1; have d2 := B0.f0; have d3 := B0.f1
      go_wp2
      refine bodyPost_ret (v := .agg #[.bool kb, .slice ka kn kc]) (by simp [results, Tryz.results104, go_sem, d0, d1]) rfl ⟨_, rfl, hG'.set2 B0 _ _, below_set2 hbel (Nat.le_refl _) _ _⟩

set_option maxHeartbeats 1000000 in
theorem product_any (xs ys : List Int) (e f : Nat) (u v : Value) (w : World) (hu : IsL w u xs) (hv : IsL w v ys) (hl : xs.length ≤ 1000) (hm : ys.length ≤ 1000) (fx : Bd xs e) (fy : Bd ys f) (hef : e + f ≤ 70000000) :
    Calls Tryz.prog 62 #[u, v] w fun en w' => ∃ x, en = .returned x ∧ OwnL w.heap.size w' x (prodTo xs ys (xs.length + ys.length - 1)) ∧ Below w.heap.size w w' := by
  obtain ⟨ua, uc, rfl⟩ := OwnL.val hu
  obtain ⟨va, vc, rfl⟩ := OwnL.val hv
  obtain ⟨N, HN⟩ : ∃ N, Hid (xs.length + ys.length - 1 = N) := ⟨_, rfl⟩
  rw [HN.out]
  have hN1 : N ≤ 2000 := by have := HN.out; omega
  have hN2 : ((xs.length : Int) + ys.length - 1 = N) ∨ (N = 0 ∧ (xs.length : Int) + ys.length - 1 = -1) := by have := HN.out; omega
  go_enter Tryz.func62, Tryz.ntmps62
  go_wp2_with fail
  go_loopw [5, 6] (fun o i wr => ∃ (k : Nat), k ≤ N ∧ i = .int .i64 k ∧ OwnL w.heap.size wr o (prodTo xs ys k) ∧ Below w.heap.size w wr) (fun _ i _ => N - (intOf i).toNat)
  case atStart => exact ⟨0, Nat.zero_le _, rfl, OwnL.lit rfl, (Below.refl _ _).alloc (Nat.le_refl _) _⟩
  case round =>
    obtain ⟨k, hk, rfl, hown, hbel⟩ := hrel
    by_cases hlt : k < N
    · have hN3 : (xs.length : Int) + ys.length - 1 = N := by omega
      have hP := productAt_any xs ys e f _ _ k wr (OwnL.below hu hbel) (OwnL.below hv hbel) (by omega) fx fy hef
      have hsu : prodTo xs ys (k + 1) = prodTo xs ys k ++ [pk xs ys k] := tab_succ k _
      have HSU : Hid _ := hsu
      have hlen : (prodTo xs ys k).length = k := tab_len _ _
      obtain ⟨L, HL⟩ : ∃ L, Hid (prodTo xs ys k = L) := ⟨_, rfl⟩
      rw [HL.out] at hown hlen
      have hll : L.length ≤ 2000 := by omega
      clear hsu hlen
      generalize pk xs ys k = z at *
      go_wp2_with fail
      refine hP.mono ?_
      rintro en w1 ⟨x1, rfl, hI1, hb1⟩
      obtain ⟨b1, a1, n1, c1, rfl⟩ := hI1.form
      have hbw1 := hbel.trans (hb1.mono hbel.size)
      have hown1 := OwnL.below hown hb1
      go_wp2_with (at_builtin; refine wpList_pushI rfl (.tmp 18) (.tmp 23) rfl w.heap.size _ L _ _ z rfl hown1 hI1 rfl (by omega) hbw1.size ?_)
      intro v6 w6 hown6 hb6 _
      rw [← HL.out, ← HSU.out] at hown6
      go_wp2
      go_roundw
      case rel => exact ⟨k + 1, by omega, by go_num, hown6, hbw1.trans hb6⟩
      case measure => simp [intOf]; omega
    · obtain rfl : k = N := by omega
      have h5 : ¬ ((k : Int) < (xs.length : Int) + ys.length - 1) := by omega
      obtain ⟨oa, oc, rfl⟩ := OwnL.val hown
      go_wp2
      go_ret
      exact ⟨_, rfl, hown, hbel⟩

end Go.Proofs.YtldcjkhbiffdoaaGreatDoor

/-
  factornum.Of, Read.
-/
namespace Go.Proofs.YtldcjkhbiffdoaaGreatDoor
open Go.RowKit

theorem of_step {sl : List Int} {q N : Nat} (h : Dig 10 sl ∧ ev 10 sl + (q : Int) * 10 ^ sl.length = (N : Int) ∧ (q = 0 → Trim sl)) (hq : 0 < q) :
    Dig 10 (sl ++ [(q : Int) % 10]) ∧ ev 10 (sl ++ [(q : Int) % 10]) + ((q / 10 : Nat) : Int) * 10 ^ (sl ++ [(q : Int) % 10]).length = (N : Int) ∧ (q / 10 = 0 → Trim (sl ++ [(q : Int) % 10])) := by
  obtain ⟨h1, h2, _⟩ := h
  refine ⟨h1.snoc (by omega) (by omega), ?_, fun h0 x hx => ?_⟩
  · rw [ev_snoc, ← h2, List.length_append, List.length_cons, List.length_nil, Int.pow_succ]
    have e : (q : Int) = (q : Int) % 10 + 10 * ((q / 10 : Nat) : Int) := by omega
    have e2 : (q : Int) * 10 ^ sl.length = (q : Int) % 10 * 10 ^ sl.length + 10 * ((q / 10 : Nat) : Int) * 10 ^ sl.length := by rw [← Int.add_mul, ← e]
    generalize ((q / 10 : Nat) : Int) = d at *
    rw [e2, Int.mul_comm (10 ^ sl.length) 10, ← Int.mul_assoc, Int.mul_comm d 10]
    omega
  · rw [List.getLast?_append] at hx
    simp at hx
    omega

theorem of_end {sl : List Int} {N : Nat} {n : Int} (hN : n.natAbs = N) (h : Dig 10 sl ∧ ev 10 sl + ((0 : Nat) : Int) * 10 ^ sl.length = (N : Int) ∧ ((0 : Nat) = 0 → Trim sl)) : LimN (decide (n < 0)) sl n := by
  obtain ⟨h1, h2, h3⟩ := h
  simp at h2
  refine ⟨h1, h3 rfl, fun h e => ?_, ?_⟩
  · subst e
    simp [ev] at h2
    simp at h
    omega
  · unfold sv
    rw [h2]
    by_cases hn : n < 0
    · simp [hn]; omega
    · simp [hn]; omega

set_option maxHeartbeats 1000000 in
theorem ofN_any (n : Int) (w : World) (hn : n.natAbs ≤ 100000000000) :
    Calls Tryz.prog 51 #[.int .i64 n] w fun e w' => ∃ v, e = .returned v ∧ IsN w' v n ∧ Below w.heap.size w w' := by
  obtain ⟨N, hN⟩ : ∃ N, n.natAbs = N := ⟨_, rfl⟩
  rw [hN] at hn
  by_cases hneg : n < 0
  · obtain rfl : n = -(N : Int) := by omega
    have hN0 : 0 < N := by omega
    clear hN
    go_enter Tryz.func51, Tryz.ntmps51
    go_wp2_with fail
    generalize hW : w.alloc (Obj.cells #[Value.bool false, Value.slice none 0 0] 74) = W0
    obtain ⟨hb0, X0⟩ := one_newN hW
    clear hW
    go_loopw [3, 4] (fun m d wr => ∃ (q : Nat) (sl : List Int), m = .int .i64 q ∧ OwnN W0.heap.size wr d sl ∧ sl.length + q ≤ N ∧ Hid (Dig 10 sl ∧ ev 10 sl + (q : Int) * 10 ^ sl.length = (N : Int) ∧ (q = 0 → Trim sl)) ∧ Below W0.heap.size W0 wr) (fun m _ _ => (intOf m).toNat)
    case atStart => exact ⟨N, [], rfl, OwnN.nil0 _ _, by simp, ⟨Dig.nil _, by simp [ev], fun _ x h => by simp at h⟩, Below.refl _ _⟩
    case round =>
      obtain ⟨q, sl, rfl, hown, hlen, HI, hbel⟩ := hrel
      by_cases hq : 0 < q
      · have hs := of_step HI.out hq
        have hd : q / 10 < q := by omega
        have HS : Hid _ := hs
        clear hs HI
        go_wp2_with (at_builtin; refine wpList_pushN rfl (.tmp 12) (.tmp 15) rfl W0.heap.size _ sl _ rfl hown rfl (by omega) hbel.size ?_)
        intro v' w1 hown1 hb1 _
        go_wp2
        go_roundw
        case rel => exact ⟨q / 10, _, by go_num, hown1, by simp; omega, HS, hbel.trans hb1⟩
        case measure => simp [intOf]; omega
      · obtain rfl : q = 0 := by omega
        have X0' := X0.below hbel
        have r3 := X0'.c0; have r4 := X0'.c1; have g3 := X0'.f0; have g4 := X0'.f1
        have hL := of_end (n := -(N : Int)) (N := N) (by omega) HI.out
        rw [decide_eq_true (show -(N : Int) < 0 by omega)] at hL
        have HL : Hid _ := hL
        clear hL HI
        obtain ⟨sa, sc, rfl⟩ := hown.row.val
        go_wp2
        refine bodyPost_ret (v := .agg #[.bool true, .slice sa sl.length sc]) (by simp [results, Tryz.results51, go_sem, r3, r4]) rfl ⟨_, rfl, ⟨_, _, sl, rfl, hown.row.set2 X0' _ _, HL.out⟩, below_set2 (hb0.trans (hbel.mono hb0.size)) (by omega) _ _⟩
  · obtain rfl : n = (N : Int) := by omega
    clear hN
    go_enter Tryz.func51, Tryz.ntmps51
    go_wp2_with fail
    generalize hW : w.alloc (Obj.cells #[Value.bool false, Value.slice none 0 0] 74) = W0
    obtain ⟨hb0, X0⟩ := one_newN hW
    clear hW
    go_loopw [3, 4] (fun m d wr => ∃ (q : Nat) (sl : List Int), m = .int .i64 q ∧ OwnN W0.heap.size wr d sl ∧ sl.length + q ≤ N ∧ Hid (Dig 10 sl ∧ ev 10 sl + (q : Int) * 10 ^ sl.length = (N : Int) ∧ (q = 0 → Trim sl)) ∧ Below W0.heap.size W0 wr) (fun m _ _ => (intOf m).toNat)
    case atStart => exact ⟨N, [], rfl, OwnN.nil0 _ _, by simp, ⟨Dig.nil _, by simp [ev], fun _ x h => by simp at h⟩, Below.refl _ _⟩
    case round =>
      obtain ⟨q, sl, rfl, hown, hlen, HI, hbel⟩ := hrel
      by_cases hq : 0 < q
      · have hs := of_step HI.out hq
        have hd : q / 10 < q := by omega
        have HS : Hid _ := hs
        clear hs HI
        go_wp2_with (at_builtin; refine wpList_pushN rfl (.tmp 12) (.tmp 15) rfl W0.heap.size _ sl _ rfl hown rfl (by omega) hbel.size ?_)
        intro v' w1 hown1 hb1 _
        go_wp2
        go_roundw
        case rel => exact ⟨q / 10, _, by go_num, hown1, by simp; omega, HS, hbel.trans hb1⟩
        case measure => simp [intOf]; omega
      · obtain rfl : q = 0 := by omega
        have X0' := X0.below hbel
        have r3 := X0'.c0; have r4 := X0'.c1; have g3 := X0'.f0; have g4 := X0'.f1
        have hL := of_end (n := (N : Int)) (N := N) (by omega) HI.out
        rw [decide_eq_false (show ¬ ((N : Int) < 0) by omega)] at hL
        have HL : Hid _ := hL
        clear hL HI
        obtain ⟨sa, sc, rfl⟩ := hown.row.val
        go_wp2
        refine bodyPost_ret (v := .agg #[.bool false, .slice sa sl.length sc]) (by simp [results, Tryz.results51, go_sem, r3, r4]) rfl ⟨_, rfl, ⟨_, _, sl, rfl, hown.row.set2 X0' _ _, HL.out⟩, below_set2 (hb0.trans (hbel.mono hb0.size)) (by omega) _ _⟩

/-- The number of a digit. -/
def dv (c : UInt8) : Int := (c.toNat : Int) - 48

theorem numOf_cons (n : Nat) (c : UInt8) (L : List UInt8) {q : Nat} (h : 10 * n + (c.toNat - 48) = q) : numOf n (c :: L) = numOf q L := by
  subst h
  rfl

theorem isDig_ge {c : UInt8} (hc : isDig c = true) : 48 ≤ c.toNat := by
  unfold isDig at hc
  rw [Bool.and_eq_true, decide_eq_true_iff, decide_eq_true_iff, UInt8.le_iff_toNat_le, UInt8.le_iff_toNat_le] at hc
  exact hc.1

theorem ev_more (n q x e : Int) (k : Nat) (h : q = 10 * n + x) : q * 10 ^ k + e = n * 10 ^ (k + 1) + (e + x * 10 ^ k) := by
  rw [h, Int.add_mul, Int.pow_succ, Int.mul_comm (10 ^ k) 10, ← Int.mul_assoc, Int.mul_comm n 10]
  omega

theorem numOf_ev (L : List UInt8) : (∀ c, c ∈ L → isDig c = true) → ∀ n : Nat, ((numOf n L : Nat) : Int) = (n : Int) * 10 ^ L.length + ev 10 (L.reverse.map dv) := by
  induction L with
  | nil => intro _ n; unfold numOf; simp [ev]
  | cons c L ih =>
    intro h n
    have h48 := isDig_ge (h c (List.mem_cons_self ..))
    obtain ⟨q, hm⟩ : ∃ q, 10 * n + (c.toNat - 48) = q := ⟨_, rfl⟩
    have e : (q : Int) = 10 * (n : Int) + dv c := by unfold dv; omega
    have ihn := ih (fun x hx => h x (List.mem_cons_of_mem _ hx)) q
    have hr : ev 10 ((c :: L).reverse.map dv) = ev 10 (L.reverse.map dv) + dv c * 10 ^ L.length := by
      rw [List.reverse_cons, List.map_append, List.map_cons, List.map_nil, ev_snoc, List.length_map, List.length_reverse]
    rw [numOf_cons n c L hm, ihn, hr, List.length_cons]
    exact ev_more (n : Int) (q : Int) (dv c) _ L.length e

theorem dv_dig {c : UInt8} (h : isDig c = true) : 0 ≤ dv c ∧ dv c < 10 := by
  unfold isDig at h
  rw [Bool.and_eq_true, decide_eq_true_iff, decide_eq_true_iff, UInt8.le_iff_toNat_le, UInt8.le_iff_toNat_le] at h
  have h1 : 48 ≤ c.toNat := h.1
  have h2 : c.toNat ≤ 57 := h.2
  unfold dv
  omega

theorem dv_all {L : List UInt8} (h : ∀ c, c ∈ L → isDig c = true) : Dig 10 (L.map dv) := by
  intro x hx
  obtain ⟨c, hc, rfl⟩ := List.mem_map.1 hx
  exact dv_dig (h c hc)

set_option maxHeartbeats 1000000 in
theorem readN_any (s : ByteArray) (w : World) (hs : s.size ≤ 1000) (hd : ∀ c, c ∈ s.data.toList → isDig c = true) :
    Calls Tryz.prog 53 #[.string s] w fun e w' => ∃ v, e = .returned v ∧ IsN w' v (numOf 0 s.data.toList : Int) ∧ Below w.heap.size w w' := by
  have hne := numOf_ev s.data.toList hd 0
  have hll : s.data.toList.length = s.size := by rw [Array.length_toList]; rfl
  simp only [Int.natCast_zero, Int.zero_mul, Int.zero_add] at hne
  have HNE : Hid _ := hne
  clear hne
  go_enter Tryz.func53, Tryz.ntmps53
  go_wp2_with fail
  generalize hW : w.alloc (Obj.cells #[Value.bool false, Value.slice none 0 0] 74) = W0
  obtain ⟨hb0, X0⟩ := one_newN hW
  clear hW
  go_loopw [3, 4] (fun d i wr => ∃ (k : Nat), k ≤ s.size ∧ i = .int .i64 ((k : Int) - 1) ∧ OwnN W0.heap.size wr d ((s.data.toList.drop k).reverse.map dv) ∧ Below W0.heap.size W0 wr) (fun _ i _ => (intOf i + 1).toNat)
  case atStart => exact ⟨s.size, Nat.le_refl _, rfl, by rw [List.drop_of_length_le (by omega)]; exact OwnN.nil0 _ _, Below.refl _ _⟩
  case round =>
    obtain ⟨k, hk, rfl, hown, hbel⟩ := hrel
    cases k with
    | zero =>
      have X0' := X0.below hbel
      rw [List.drop_zero] at hown
      have hD : Dig 10 (s.data.toList.reverse.map dv) := dv_all (fun c hc => hd c (List.mem_reverse.1 hc))
      have hlen : (s.data.toList.reverse.map dv).length ≤ 1000 := by simp; omega
      have HNE2 := HNE.out
      obtain ⟨L, HL⟩ : ∃ L, Hid (s.data.toList.reverse.map dv = L) := ⟨_, rfl⟩
      rw [HL.out] at hD hlen hown HNE2
      have HNE3 : Hid _ := HNE2
      clear HNE HNE2 HL
      obtain ⟨sa, sc, rfl⟩ := hown.row.val
      go_wp2_with fail
      refine (tidyN_any false L _ wr hown.row (by omega) hD).mono ?_
      rintro e w2 ⟨t, x2, rfl, hr2, hd2, ht2, hv2, hlen2, hb2⟩
      have HV2 : Hid _ := hv2
      clear hv2
      obtain ⟨xa, xc, rfl⟩ := hr2.val
      have X1' := X0'.below hb2
      have r3 := X1'.c0; have r4 := X1'.c1; have g3 := X1'.f0; have g4 := X1'.f1
      go_wp2
      refine bodyPost_ret (v := .agg #[.bool (false && !t.isEmpty), .slice xa t.length xc]) (by simp [results, Tryz.results53, go_sem, r3, r4]) rfl ⟨_, rfl, ⟨_, _, t, rfl, hr2.set2 X1' _ _, ?_⟩, below_set2 ((hb0.trans (hbel.mono hb0.size)).trans (hb2.mono (by have := hbel.size; have := hb0.size; omega))) (by omega) _ _⟩
      have := LimN.signed (b := false) hd2 ht2
      rw [HV2.out, ← HNE3.out] at this
      exact this
    | succ j =>
      rw [show (((j + 1 : Nat) : Int) - 1) = (j : Int) by omega]
      have hjs : j < s.size := by omega
      have hdr : (s.data.toList.drop j).reverse.map dv = (s.data.toList.drop (j + 1)).reverse.map dv ++ [(s[j].toNat : Int) - 48] := by
        rw [drop_at (byte_at hjs), List.reverse_cons, List.map_append]
        rfl
      have hdg := dv_dig (hd s[j] (List.mem_of_getElem? (byte_at hjs)))
      unfold dv at hdg
      have hlen : ((s.data.toList.drop (j + 1)).reverse.map dv).length ≤ 1000 := by simp; omega
      have HDR : Hid _ := hdr
      clear hdr
      obtain ⟨L, HL⟩ : ∃ L, Hid ((s.data.toList.drop (j + 1)).reverse.map dv = L) := ⟨_, rfl⟩
      rw [HL.out] at hown hlen
      go_wp2_with (at_builtin; refine wpList_pushN rfl (.tmp 12) (.tmp 18) rfl W0.heap.size _ L _ rfl hown rfl (by omega) hbel.size ?_)
      intro v' w1 hown1 hb1 _
      rw [← HL.out, ← HDR.out] at hown1
      go_wp2
      go_roundw
      case rel => exact ⟨j, by omega, by go_num, hown1, hbel.trans hb1⟩
      case measure => simp [intOf]

end Go.Proofs.YtldcjkhbiffdoaaGreatDoor

/-
  poly.times.
-/
namespace Go.Proofs.YtldcjkhbiffdoaaGreatDoor
open Go.RowKit

/-- 'l = append(l, y)' as an operation. -/
theorem wp_pushI {o : Oper} {a : Act} {K : Act → World → Prop} {Q : Exit → Act → World → Prop} {wr : World} (s x : Operand)
    (ho : o.op = .call { callee := .builtin .append, args := #[s, x], argTypes := #[95, 95] })
    (B : Nat) (v : Value) (zs : List Int) (b : Bool) (y : Value) (z : Int) (hs : a.eval s = v) (hown : OwnL B wr v zs) (hz : IsI wr (.agg #[.bool b, y]) z) (hx : a.eval x = .slice (some ⟨wr.heap.size, 0, none⟩) 1 1)
    (hlen : zs.length ≤ 1000000000) (hB : B ≤ wr.heap.size)
    (h : ∀ v' w', OwnL B w' v' (zs ++ [z]) → Below B wr w' → K (a.put o.dst v') w') :
    o.wp Tryz.prog a (wr.alloc (.cells #[.bool b, y] 105)) K Q := by
  obtain ⟨i, hi, hz0, hz1, hz2⟩ := info_parts Tryz.infoInt
  have htyp := hown.typ
  have hblk := hown.block
  obtain ⟨cs, h1, h2, h3⟩ := hown
  have hy1 : y.oneCell' = true := by
    obtain ⟨b', x', l, e, hr, _⟩ := hz
    simp at e
    obtain ⟨_, rfl⟩ := e
    obtain ⟨xa, xc, rfl⟩ := hr.val
    rfl
  refine wp_append_own _ s x 95 ho B 105 i (.agg #[.bool false, .slice none 0 0]) 2 32 Tryz.sliceInt hi hz0 hz1 hz2 rfl (by decide) v zs.length (flat cs) hs (World.ownsRow.alloc h2 _) ⟨wr.heap.size, 0, none⟩ 1 1 [.bool b, y] hx rfl ?_ ?_ ?_ ?_ ?_ ?_
  · exact cell_two_new wr (.bool b) y 105
  · intro u hu
    simp at hu
    rcases hu with rfl | rfl
    · rfl
    · exact hy1
  · unfold maxLen; omega
  · omega
  · simp; omega
  · intro v' w' g1 g2 _
    have hg : wr.grownBy w' v.ownBlock := by
      have h0 := World.grownBy_alloc wr (.cells #[.bool b, y] 105) v.ownBlock
      exact ⟨g2.os.trans h0.os, g2.tape.trans h0.tape, g2.output.trans h0.output, Nat.le_trans h0.size g2.size, fun k hk hne => (g2.block k (by simp; omega) hne).trans (h0.block k hk hne)⟩
    refine h v' w' ⟨cs ++ [(b, y)], by simp [h1], ?_, ?_⟩ ((Below.refl _ _).grown hg hB hblk)
    · rw [flat_append]
      simpa [flat] using g1
    · intro j p hj
      by_cases hjl : j < cs.length
      · rw [List.getElem?_append_left hjl] at hj
        have hj2 : (zs ++ [z]).getD j 0 = zs.getD j 0 := by simp [List.getD, List.getElem?_append_left (show j < zs.length by omega)]
        rw [hj2]
        exact (h3 j p hj).kept hg htyp
      · rw [List.getElem?_append_right (by omega)] at hj
        have hj0 : j - cs.length = 0 := by
          rcases Nat.eq_zero_or_pos (j - cs.length) with h0 | h0
          · exact h0
          · rw [List.getElem?_eq_none (by simp; omega)] at hj; simp at hj
        rw [hj0] at hj
        simp at hj
        subst hj
        have hj2 : (zs ++ [z]).getD j 0 = z := by
          rw [show j = zs.length by omega]; simp [List.getD]
        rw [hj2]
        exact hz.kept hg htyp

/-- One operation alone may come next, by a law of its own. -/
theorem h_op {P : Program} {ops : Array Oper} {Q : Exit → Act → World → Prop} {S : World → Prop} {fuel : Nat} {listed : Array Bool} {a : Act} {w : World} (i : Nat) (d : Tmp) {o : Oper} (Post : Value → World → Prop) (ho : ops[i]? = some o) (hd : o.dst = some d) (hr : Region.ready .any ops listed = [i]) (hb : Region.wanted o (yielded ops a.tmps) = true)
    (hw : ∀ K : Act → World → Prop, (∀ v' w', Post v' w' → K (a.put o.dst v') w') → Oper.wp P o a w K Q)
    (h : ∀ v' w', Post v' w' → S w' ∧ wpAnyH P .any ops Q S fuel (listed.setIfInBounds i true) (a.put (some d) v') w') : wpAnyH P .any ops Q S (fuel + 1) listed a w :=
  wpAnyH_ready hr (by simp) (AllReadyH.cons ho (fun K' hK => by
    rw [if_pos hb]
    refine hw K' fun v' w' hp => ?_
    obtain ⟨h1, h2⟩ := h v' w' hp
    rw [hd]
    exact hK.out _ _ h1 fun _ => h2) AllReadyH.nil)

set_option maxRecDepth 100000 in
set_option maxHeartbeats 4000000 in
theorem times_any (zs : List Int) (z : Int) (e f n : Nat) (u v : Value) (w : World) (hu : IsL w u zs) (hv : IsI w v z) (hl : zs.length ≤ 1000) (hn : n ≤ 1000) (fx : Bd zs e) (fz : z.natAbs < 10 ^ f) (he : e ≤ 80000000) (hf : f ≤ 80000000) :
    Calls Tryz.prog 70 #[u, v, .int .i64 n] w fun en w' => ∃ x, en = .returned x ∧ OwnL w.heap.size w' x (List.replicate n 0 ++ zs.map fun x => x * z) ∧ Below w.heap.size w w' := by
  obtain ⟨ua, uc, rfl⟩ := OwnL.val hu
  obtain ⟨vb, va, vn, vc, rfl⟩ := hv.form
  have fzi : Fit z := fitW_of fz hf
  go_enter Tryz.func70, Tryz.ntmps70
  go_wp2_with fail
  generalize hW : w.alloc (Obj.cells #[Value.bool vb, Value.slice va vn vc] 105) = W0
  obtain ⟨hb0, X0⟩ := one_new hW
  have hs0 : W0.heap.size = w.heap.size + 1 := by rw [← hW]; simp
  clear hW
  go_loopw [7, 8] (fun l i wr => ∃ (k : Nat), k ≤ n ∧ i = .int .i64 k ∧ OwnL (w.heap.size + 1) wr l (List.replicate k 0) ∧ Below (w.heap.size + 1) W0 wr) (fun _ i _ => n - (intOf i).toNat)
  case atStart =>
    refine ⟨0, Nat.zero_le _, rfl, ?_, (Below.refl _ _).alloc (by omega) _⟩
    have := OwnL.lit (w := W0) rfl
    rw [hs0] at this
    exact this
  case round =>
    obtain ⟨k, hk, rfl, hown, hbel⟩ := hrel
    obtain ⟨L, HL⟩ : ∃ L, Hid (List.replicate k (0 : Int) = L) := ⟨_, rfl⟩
    have hll : (List.replicate k (0 : Int)).length ≤ 1000 := by simp; omega
    have hsu : List.replicate (k + 1) (0 : Int) = List.replicate k 0 ++ [0] := List.replicate_succ'
    have HSU : Hid _ := hsu
    clear hsu
    by_cases hlt : k < n
    · rw [HL.out] at hown hll
      go_wp2_with (at_builtin; refine wpList_pushI rfl (.tmp 16) (.tmp 18) rfl (w.heap.size + 1) _ L _ _ 0 rfl hown zeroInt rfl (by omega) (by have := hbel.size; omega) ?_)
      intro v6 w6 hown6 hb6 _
      rw [← HL.out, ← HSU.out] at hown6
      go_wp2
      go_roundw
      case rel => exact ⟨k + 1, by omega, by go_num, hown6, hbel.trans hb6⟩
      case measure => simp [intOf]; omega
    · obtain rfl : k = n := by omega
      clear HSU HL
      go_wp2_with fail
      go_loopw [7, 9] (fun l i wq => ∃ (j : Nat), j ≤ zs.length ∧ i = .int .i64 j ∧ OwnL (w.heap.size + 1) wq l (List.replicate k 0 ++ (zs.take j).map fun x => x * z) ∧ Below (w.heap.size + 1) W0 wq) (fun _ i _ => zs.length - (intOf i).toNat)
      case atStart => exact ⟨0, Nat.zero_le _, rfl, by simpa using hown, hbel⟩
      case round =>
        clear hown hbel hll L
        obtain ⟨j, hj, rfl, hown, hbel⟩ := hrel
        have hbq : Below w.heap.size w wr := hb0.trans (hbel.mono (by omega))
        have hlen : (List.replicate k (0 : Int) ++ (zs.take j).map fun x => x * z).length ≤ 3000 := by simp; omega
        by_cases hlt2 : j < zs.length
        · have hsu : (List.replicate k (0 : Int) ++ (zs.take (j + 1)).map fun x => x * z) = (List.replicate k 0 ++ (zs.take j).map fun x => x * z) ++ [zs.getD j 0 * z] := by
            rw [List.take_succ_eq_append_getElem hlt2, ← getD_lt hlt2]
            simp
          have HSU : Hid _ := hsu
          clear hsu
          obtain ⟨L, HL⟩ : ∃ L, Hid ((List.replicate k (0 : Int) ++ (zs.take j).map fun x => x * z) = L) := ⟨_, rfl⟩
          rw [HL.out] at hown hlen
          obtain ⟨oa, oc, rfl⟩ := OwnL.val hown
          obtain ⟨g, b, xa, xn, xc, rfl, hc1, hc2, hg0, _, hc0, hcx, hI0⟩ := OwnL.at hu j hlt2
          have fxi : Fit (zs.getD j 0) := fitW_of (fx j) he
          have hI := hI0.below hbq
          generalize zs.getD j 0 = x at *
          have hvq := hv.below hbq
          have hM := fun (W : World) (g1 : IsI W (.agg #[.bool b, .slice xa xn xc]) x) (g2 : IsI W (.agg #[.bool vb, .slice va vn vc]) z) => mul_any _ _ x z W g1 g2 fxi fzi
          have HM : Hid _ := hM
          clear hM
          have hSV : ∀ W, Below (w.heap.size + 1) W0 W → W.cell? ⟨g, j * 2, none⟩ = some (.bool b) ∧ W.cell? ⟨g, j * 2 + 1, none⟩ = some (.slice xa xn xc) ∧ W.cell? ⟨w.heap.size, 0, none⟩ = some (.bool vb) ∧ W.cell? ⟨w.heap.size, 1, none⟩ = some (.slice va vn vc) := fun W h => by
            have hw : Below w.heap.size w W := hb0.trans (h.mono (by omega))
            have Y0 : Bx W w.heap.size (.bool vb) (.slice va vn vc) := by unfold Bx; rw [h.block _ (by omega)]; exact X0
            exact ⟨(hw.cell (p := ⟨g, j * 2, none⟩) hg0).trans hc0, (hw.cell (p := ⟨g, j * 2 + 1, none⟩) hg0).trans hcx, Y0.c0, Y0.c1⟩
          have hbd : Below (w.heap.size + 1) W0 wr.drew := ⟨hbel.os, hbel.tape, hbel.output, hbel.size, hbel.block⟩
          have hbdw : Below wr.heap.size wr wr.drew := ⟨rfl, rfl, rfl, Nat.le_refl _, fun _ _ => rfl⟩
          have hji : (j : Int) < (zs.length : Int) := by omega
          have hji0 : (0 : Int) ≤ (j : Int) := by omega
          go_wp2_with fail
          refine wp_region_held_drew (S := fun W => W.cell? ⟨g, j * 2, none⟩ = some (.bool b) ∧ W.cell? ⟨g, j * 2 + 1, none⟩ = some (.slice xa xn xc) ∧ W.cell? ⟨w.heap.size, 0, none⟩ = some (.bool vb) ∧ W.cell? ⟨w.heap.size, 1, none⟩ = some (.slice va vn vc)) (by kernel_rfl) (hSV _ hbd) fun hS => ?_
          refine h_take 0 26 (.slice oa L.length oc) rfl rfl (by kernel_rfl) (by kernel_rfl) (by kernel_rfl) (fun _ _ _ h => h) rfl (fun _ _ => rfl) hS ?_
          simp only [Act.put, List.setIfInBounds_toArray, List.set_cons_succ, List.set_cons_zero]
          refine h_take 1 27 (.slice (some ⟨g, 0, none⟩) zs.length uc) rfl rfl (by kernel_rfl) (by kernel_rfl) (by kernel_rfl) (fun _ _ _ h => h) rfl (fun _ _ => rfl) hS ?_
          simp only [Act.put, List.setIfInBounds_toArray, List.set_cons_succ, List.set_cons_zero]
          refine h_take 2 28 (.int .i64 (j : Int)) rfl rfl (by kernel_rfl) (by kernel_rfl) (by kernel_rfl) (fun _ _ _ h => h) rfl (fun _ _ => rfl) hS ?_
          simp only [Act.put, List.setIfInBounds_toArray, List.set_cons_succ, List.set_cons_zero]
          refine h_take 3 29 (.pointer (some ⟨g, j * 2, none⟩)) rfl rfl (by kernel_rfl) (by kernel_rfl) (by kernel_rfl) (fun _ _ _ h => h) rfl (fun _ _ => by go_simp) hS ?_
          simp only [Act.put, List.setIfInBounds_toArray, List.set_cons_succ, List.set_cons_zero]
          refine h_take 4 30 (.agg #[.bool b, .slice xa xn xc]) rfl rfl (by kernel_rfl) (by kernel_rfl) (by kernel_rfl) (fun _ _ _ h => h) rfl (fun w' hw' => by obtain ⟨y0, y1, y2, y3⟩ := hw'; go_simp) hS ?_
          simp only [Act.put, List.setIfInBounds_toArray, List.set_cons_succ, List.set_cons_zero]
          refine h_take 5 31 (.agg #[.bool vb, .slice va vn vc]) rfl rfl (by kernel_rfl) (by kernel_rfl) (by kernel_rfl) (fun _ _ _ h => h) rfl (fun w' hw' => by obtain ⟨y0, y1, y2, y3⟩ := hw'; go_simp) hS ?_
          simp only [Act.put, List.setIfInBounds_toArray, List.set_cons_succ, List.set_cons_zero]
          refine h_call 6 32 111 #[.agg #[.bool b, .slice xa xn xc], .agg #[.bool vb, .slice va vn vc]] rfl rfl (by kernel_rfl) rfl (by go_simp) ?_
          refine (HM.out wr.drew (hI.below hbdw) (hvq.below hbdw)).mono ?_
          rintro en w5 ⟨x5, rfl, hI5, hb5⟩
          obtain ⟨b5, a5, n5, c5, rfl⟩ := hI5.form
          have hs5 : w.heap.size + 1 ≤ wr.drew.heap.size := by have := hbd.size; omega
          have hb5w : Below (w.heap.size + 1) W0 w5 := hbd.trans (hb5.mono hs5)
          have hown5 := OwnL.below (OwnL.below hown hbdw) hb5
          have hsz5 : w.heap.size + 1 ≤ w5.heap.size := Nat.le_trans hs5 hb5.size
          refine ⟨_, rfl, hSV _ hb5w, ?_⟩
          simp only [Act.put, List.setIfInBounds_toArray, List.set_cons_succ, List.set_cons_zero]
          refine h_val 7 33 (.slice (some ⟨w5.heap.size, 0, none⟩) 1 1) (w' := w5.alloc (.cells #[.bool b5, .slice a5 n5 c5] 105)) rfl rfl (by kernel_rfl) rfl (by go_simp) (hSV _ (hb5w.alloc (by omega) _)) ?_
          simp only [Act.put, List.setIfInBounds_toArray, List.set_cons_succ, List.set_cons_zero]
          refine h_op 8 34 (fun v' w' => OwnL (w.heap.size + 1) w' v' (L ++ [x * z]) ∧ Below (w.heap.size + 1) w5 w') rfl rfl (by kernel_rfl) rfl (fun K hK => wp_pushI (.tmp 26) (.tmp 33) rfl (w.heap.size + 1) _ L _ _ (x * z) rfl hown5 hI5 rfl (by omega) hsz5 fun v' w' g1 g2 => hK v' w' ⟨g1, g2⟩) ?_
          rintro v6 w6 ⟨hown6, hb6⟩
          have hb6w : Below (w.heap.size + 1) W0 w6 := hb5w.trans hb6
          rw [← HL.out, ← HSU.out] at hown6
          refine ⟨hSV _ hb6w, ?_⟩
          simp only [Act.put, List.setIfInBounds_toArray, List.set_cons_succ, List.set_cons_zero]
          refine h_val 9 7 v6 (w' := w6) rfl rfl (by kernel_rfl) rfl rfl (hSV _ hb6w) ?_
          simp only [Act.put, List.setIfInBounds_toArray, List.set_cons_succ, List.set_cons_zero]
          refine wpAnyH_done (by kernel_rfl) ?_ _
          go_wp2
          go_roundw
          case rel => exact ⟨j + 1, by omega, by go_num, hown6, hb6w⟩
          case measure => simp [intOf]; omega
        · obtain rfl : j = zs.length := by omega
          rw [List.take_length] at hown
          obtain ⟨oa, oc, hoe⟩ := OwnL.val hown
          subst hoe
          go_wp2
          go_ret
          exact ⟨_, rfl, hown.lower (by omega), hbq⟩

end Go.Proofs.YtldcjkhbiffdoaaGreatDoor
