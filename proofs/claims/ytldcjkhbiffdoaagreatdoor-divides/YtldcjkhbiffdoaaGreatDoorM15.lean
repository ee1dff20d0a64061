import Derived.Test.YtldcjkhbiffdoaaGreatDoorM14
import Derived.Test.YtldcjkhbiffdoaaGreatDoorM13

/-
  poly.restOf.
-/
namespace Go.Proofs.YtldcjkhbiffdoaaGreatDoor
open Go.RowKit

theorem map_mul_getD (zs : List Int) (z : Int) (k : Nat) : (zs.map fun x => x * z).getD k 0 = zs.getD k 0 * z := by
  rcases Nat.lt_or_ge k zs.length with h | h
  · simp [List.getD, List.getElem?_map, List.getElem?_eq_getElem h]
  · rw [getD_out (by simpa using h), getD_out h]; simp

/-- One level of the taking away, as the program makes it. -/
theorem rest1_same (R b : List Int) (n : Nat) :
    (tab (max (List.replicate 0 0 ++ R.map fun x => x * lead b).length (List.replicate n 0 ++ b.map fun x => x * R.getD (n + b.length - 1) 0).length) fun k => (List.replicate 0 0 ++ R.map fun x => x * lead b).getD k 0 - (List.replicate n 0 ++ b.map fun x => x * R.getD (n + b.length - 1) 0).getD k 0) = rest1 R b n := by
  have h1 : (List.replicate 0 0 ++ R.map fun x => x * lead b).length = R.length := by simp
  have h2 : (List.replicate n 0 ++ b.map fun x => x * R.getD (n + b.length - 1) 0).length = n + b.length := by simp
  unfold rest1
  rw [h1, h2]
  unfold tab
  refine List.map_congr_left fun k _ => ?_
  rw [getD_rep_app, getD_rep_app, map_mul_getD, map_mul_getD]
  simp only [Nat.not_lt_zero, if_false, Nat.sub_zero]
  by_cases h : k < n
  · rw [if_pos h, if_neg (by omega)]
  · rw [if_neg h, if_pos (by omega)]

theorem Bd.timesW {zs : List Int} {z : Int} {e f n : Nat} (h : Bd zs e) (hz : z.natAbs < 10 ^ f) : Bd (List.replicate n 0 ++ zs.map fun x => x * z) (e + f) := by
  intro k
  rw [getD_rep_app]
  split
  · exact Nat.pow_pos (by omega)
  · rw [map_mul_getD, Int.natAbs_mul, Nat.pow_add]
    exact Nat.mul_lt_mul'' (h _) hz

set_option maxRecDepth 100000 in
set_option maxHeartbeats 4000000 in
theorem restOf_any (A0 b : List Int) (e f : Nat) (u v : Value) (w : World) (hu : IsL w u A0) (hv : IsL w v b) (hl : A0.length ≤ 100) (hm : b.length ≤ 100) (fx : Bd A0 e) (fy : Bd b f) (he : e + (A0.length + 1 - b.length) * (f + 1) + f ≤ 70000000) (ta : Tr A0) (tb : Tr b) (hb0 : b ≠ []) (hp : prim A0 = A0) :
    Calls Tryz.prog 110 #[u, v] w fun en w' => ∃ x R, en = .returned x ∧ IsL w' x R ∧ R.length ≤ A0.length ∧ RO b A0 R 0 ∧ Bd R (e + (A0.length + 1 - b.length) * (f + 1)) ∧ Below w.heap.size w w' := by
  obtain ⟨ua, uc, rfl⟩ := OwnL.val hu
  obtain ⟨va, vc, rfl⟩ := OwnL.val hv
  have hbl := List.length_pos_iff.2 hb0
  obtain ⟨N, HN⟩ : ∃ N, Hid (A0.length + 1 - b.length = N) := ⟨_, rfl⟩
  have hstart := RO.start (b := b) ta hp
  rw [HN.out] at hstart he ⊢
  have hNl : N ≤ A0.length := by have := HN.out; omega
  have hNa : 0 < N → N + b.length = A0.length + 1 := by have := HN.out; omega
  have hNb : N = 0 → A0.length < b.length := by have := HN.out; omega
  have HST : Hid (RO b A0 A0 N ∧ Bd A0 (e + (N - N) * (f + 1))) := ⟨hstart, fx.mono (by omega)⟩
  obtain ⟨T, HT⟩ : ∃ T : World → Value → Prop, Hid (T = fun w' x => ∃ R, IsL w' x R ∧ R.length ≤ A0.length ∧ RO b A0 R 0 ∧ Bd R (e + N * (f + 1))) := ⟨_, rfl⟩
  have hgoal : (fun en w' => ∃ x R, en = Ending.returned x ∧ IsL w' x R ∧ R.length ≤ A0.length ∧ RO b A0 R 0 ∧ Bd R (e + N * (f + 1)) ∧ Below w.heap.size w w') = fun en w' => ∃ x, en = Ending.returned x ∧ T w' x ∧ Below w.heap.size w w' := by
    funext en w'
    rw [HT.out]
    apply propext
    constructor
    · rintro ⟨x, R, h1, h2, h3, h4, h5, h6⟩; exact ⟨x, h1, ⟨R, h2, h3, h4, h5⟩, h6⟩
    · rintro ⟨x, h1, ⟨R, h2, h3, h4, h5⟩, h6⟩; exact ⟨x, R, h1, h2, h3, h4, h5, h6⟩
  rw [hgoal]
  clear hgoal hstart
  have hN1 := numberAt_any b (.slice va b.length vc) (b.length - 1) w hv
  obtain ⟨m2, HM2⟩ : ∃ m, Hid (b.length - 1 = m) := ⟨_, rfl⟩
  have hm2 : (b.length : Int) - 1 = m2 := by have := HM2.out; omega
  have hlead : b.getD (b.length - 1) 0 = lead b := rfl
  rw [hlead, HM2.out] at hN1
  have flb : (lead b).natAbs < 10 ^ f := fy.lead
  clear hlead
  go_enter Tryz.func110, Tryz.ntmps110
  go_wp2_with fail
  refine hN1.mono ?_
  rintro en w1 ⟨x1, rfl, hI1, hb1⟩
  obtain ⟨b1, a1, n1, c1, rfl⟩ := hI1.form
  go_wp2_with fail
  generalize hW2 : w1.alloc (Obj.cells #[Value.bool b1, Value.slice a1 n1 c1] 105) = W2
  obtain ⟨hb2, X2⟩ := one_new hW2
  clear hW2
  have hbw2 := hb1.trans (hb2.mono hb1.size)
  have K2 : IsB W2 w1.heap.size (lead b) := ⟨_, _, X2, hI1.below hb2⟩
  have hkm := hb1.size
  clear X2 hI1 hb1 hb2 hN1
  generalize w1.heap.size = kb at *
  go_loopw [6, 7] (fun r i wr => ∃ (n : Nat) (R : List Int) (ii : Int), i = .int .i64 ii ∧ (0 < n → ii = (n : Int) - 1) ∧ (n = 0 → ii < 0) ∧ -1000 ≤ ii ∧ n ≤ N ∧ IsL wr r R ∧ R.length ≤ A0.length ∧ Hid (RO b A0 R n ∧ Bd R (e + (N - n) * (f + 1))) ∧ IsB wr kb (lead b) ∧ Below w.heap.size w wr) (fun _ i _ => (intOf i + 1).toNat)
  case atStart => exact ⟨N, A0, (A0.length : Int) - b.length, rfl, fun h => by have := hNa h; omega, fun h => by have := hNb h; omega, by omega, Nat.le_refl _, OwnL.below hu hbw2, Nat.le_refl _, HST, K2, hbw2⟩
  case round =>
    clear K2 hbw2 HST
    obtain ⟨n, R, ii, rfl, hi1, hi2, hi3, hn, hR, hRl, HRO, hK, hbel⟩ := hrel
    obtain ⟨ra, rc, rfl⟩ := OwnL.val hR
    cases n with
    | zero =>
      have hneg := hi2 rfl
      have hro := HRO.out
      rw [Nat.sub_zero] at hro
      have HRO2 : Hid _ := hro
      clear HRO hro hi1 hi2
      go_wp2
      go_ret
      refine ⟨_, rfl, ?_, hbel⟩
      rw [HT.out]
      exact ⟨R, hR, hRl, HRO2.out.1, HRO2.out.2⟩
    | succ n =>
      obtain rfl : ii = (n : Int) := by have := hi1 (by omega); omega
      obtain ⟨E, HE⟩ : ∃ E, Hid (e + (N - (n + 1)) * (f + 1) = E) := ⟨_, rfl⟩
      have hbR := HRO.out.2
      rw [HE.out] at hbR
      have hE1 : E + (f + 1) ≤ e + N * (f + 1) := by
        have h1 : (N - (n + 1) + 1) * (f + 1) ≤ N * (f + 1) := Nat.mul_le_mul (by omega) (Nat.le_refl _)
        rw [Nat.succ_mul] at h1
        have := HE.out
        omega
      have hE2 : E + f + 1 = e + (N - n) * (f + 1) := by
        have h1 : N - n = N - (n + 1) + 1 := by omega
        rw [h1, Nat.succ_mul]
        have := HE.out
        omega
      have hnb : n + b.length ≤ A0.length := by have := hNa (by omega); omega
      have hnx : RO b A0 (rest1 R b n) n ∧ Bd (rest1 R b n) (e + (N - n) * (f + 1)) := ⟨HRO.out.1.next tb hb0, by rw [← hE2]; exact hbR.rest1 fy n⟩
      have hsame := rest1_same R b n
      have hlen1 : (rest1 R b n).length ≤ A0.length := by unfold rest1; rw [tab_len]; omega
      obtain ⟨q, HQ⟩ : ∃ q, Hid (n + b.length - 1 = q) := ⟨_, rfl⟩
      have hq1 : (n : Int) + b.length - 1 = q := by have := HQ.out; omega
      rw [HQ.out] at hsame
      have htop := numberAt_any R (.slice ra R.length rc) q wr hR
      have ftop := hbR q
      generalize R.getD q 0 = top at *
      have ht1 := fun (W : World) (v1 : Value) (g1 : IsL W (.slice va b.length vc) b) (g2 : IsI W v1 top) => times_any b top f E n (.slice va b.length vc) v1 W g1 g2 (by omega) (by omega) fy ftop (by omega) (by omega)
      have ht2 := fun (W : World) (v1 : Value) (g1 : IsL W (.slice ra R.length rc) R) (g2 : IsI W v1 (lead b)) => times_any R (lead b) E f 0 (.slice ra R.length rc) v1 W g1 g2 (by omega) (by omega) hbR flb (by omega) (by omega)
      have hdf := fun (W : World) (u1 u2 : Value) (g1 : IsL W u1 (List.replicate 0 0 ++ R.map fun x => x * lead b)) (g2 : IsL W u2 (List.replicate n 0 ++ b.map fun x => x * top)) => pdiff_any _ _ u1 u2 W g1 g2 (by simp; omega) (by simp; omega) ((hbR.timesW flb).fitW (by omega)) ((fy.timesW ftop).fitW (by omega))
      rw [hsame] at hdf
      have HT1 : Hid _ := ht1
      have HT2 : Hid _ := ht2
      have HDF : Hid _ := hdf
      have HNX : Hid _ := hnx
      clear ht1 ht2 hdf hnx hsame HRO hbR hE1 hE2 ftop hi1 hi2 hi3
      generalize rest1 R b n = R2 at *
      generalize (List.replicate 0 0 ++ R.map fun x => x * lead b) = L1 at *
      generalize (List.replicate n 0 ++ b.map fun x => x * top) = L2 at *
      obtain ⟨lb, la, ln, lc, K0, hKI⟩ := hK.open
      go_wp2_with fail
      refine htop.mono ?_
      rintro en w3 ⟨x3, rfl, hI3, hb3⟩
      obtain ⟨b3, a3, n3, c3, rfl⟩ := hI3.form
      go_wp2_with fail
      generalize hW4 : w3.alloc (Obj.cells #[Value.bool b3, Value.slice a3 n3 c3] 105) = W4
      obtain ⟨hb4, _⟩ := one_new hW4
      clear hW4
      have hb4w := hb3.trans (hb4.mono hb3.size)
      have hbw4 := hbel.trans (hb4w.mono hbel.size)
      refine (HT1.out W4 _ (OwnL.below hv hbw4) (hI3.below hb4)).mono ?_
      rintro en w5 ⟨x5, rfl, hI5, hb5⟩
      obtain ⟨a5, c5, rfl⟩ := OwnL.val hI5
      have hb5w := hb4w.trans (hb5.mono hb4w.size)
      have K5 := K0.below hb5w
      have k0 := K5.c0; have k1 := K5.c1
      go_wp2_with fail
      refine (HT2.out w5 _ (OwnL.below hR hb5w) (hKI.below hb5w)).mono ?_
      rintro en w6 ⟨x6, rfl, hI6, hb6⟩
      obtain ⟨a6, c6, rfl⟩ := OwnL.val hI6
      have hb6w := hb5w.trans (hb6.mono hb5w.size)
      clear k0 k1
      go_wp2_with fail
      refine (HDF.out w6 _ _ hI6.isL (OwnL.below hI5 hb6).isL).mono ?_
      rintro en w7 ⟨x7, rfl, hI7, hb7⟩
      obtain ⟨a7, c7, rfl⟩ := OwnL.val hI7
      have hb7w := hb6w.trans (hb7.mono hb6w.size)
      have hK7 := hK.below hb7w
      go_wp2
      go_roundw
      case rel => exact ⟨n, R2, (n : Int) - 1, by go_num, fun _ => rfl, fun h => by omega, by omega, by omega, hI7.isL, hlen1, HNX, hK7, hbel.trans (hb7w.mono hbel.size)⟩
      case measure => simp [intOf]

end Go.Proofs.YtldcjkhbiffdoaaGreatDoor

/-
  readNumber.
-/
namespace Go.Proofs.YtldcjkhbiffdoaaGreatDoor
open Go.RowKit

/-- A number in a new box, whichever is made first. -/
theorem box_a {W w5 : World} {db : Bool} {x : Value} {z : Int} {n : Nat} (hb : Below W.drew.heap.size W.drew w5) (hI : IsI w5 (.agg #[.bool db, x]) z) (hn : n < W.heap.size) :
    ∃ b7, Value.pointer (some ⟨w5.heap.size, 0, none⟩) = .pointer (some ⟨b7, 0, none⟩) ∧ n < b7 ∧ IsB (w5.alloc (.cells #[.bool db, x] 105)) b7 z ∧ Below W.heap.size W (w5.alloc (.cells #[.bool db, x] 105)) := by
  have h := of_drew hb
  exact ⟨_, rfl, Nat.lt_of_lt_of_le hn h.size, IsB.new hI, h.alloc h.size _⟩
theorem box_b {W w5 : World} {db : Bool} {x a b : Value} {z : Int} {n : Nat} (hb : Below (W.alloc (.cells #[a, b] 105)).drew.heap.size (W.alloc (.cells #[a, b] 105)).drew w5) (hI : IsI w5 (.agg #[.bool db, x]) z) (hn : n < W.heap.size) :
    ∃ b7, Value.pointer (some ⟨W.heap.size, 0, none⟩) = .pointer (some ⟨b7, 0, none⟩) ∧ n < b7 ∧ IsB ((w5.setCell ⟨W.heap.size, 0, none⟩ (.bool db)).setCell ⟨W.heap.size, 1, none⟩ x) b7 z ∧ Below W.heap.size W ((w5.setCell ⟨W.heap.size, 0, none⟩ (.bool db)).setCell ⟨W.heap.size, 1, none⟩ x) := by
  have h := of_drew hb
  have hX := (Bx.alloc W a b).below h
  have h0 : Below W.heap.size W (W.alloc (.cells #[a, b] 105)) := (Below.refl _ _).alloc (Nat.le_refl _) _
  exact ⟨_, rfl, hn, IsB.stored hX hI, below_set2 (h0.trans (h.mono (by simp))) (Nat.le_refl _) _ _⟩

set_option maxHeartbeats 2000000 in
theorem readNumber_any (s : ByteArray) (n rb : Nat) (tv : Value) (w : World) (B : Nat) (hR : Rd w rb s n tv) (hn : n ≤ s.size) (hs : s.size ≤ 200) (hB : B ≤ rb) (hBw : B ≤ w.heap.size) :
    Calls Tryz.prog 126 #[.pointer (some ⟨rb, 0, none⟩)] w fun e w' => ∃ v, e = .returned (.tuple #[v, .bool (rdNum s.data.toList n).1]) ∧ IsI w' v ((rdNum s.data.toList n).2.1 : Int) ∧ Rd w' rb s (rdNum s.data.toList n).2.2 tv ∧ Kr B w w' := by
  have hlt0 := hR.lt
  go_enter Tryz.func126, Tryz.ntmps126
  go_wp2_with fail
  generalize hW : w.alloc (Obj.cells #[Value.bool false, Value.slice none 0 0] 105) = W0
  obtain ⟨hb0, X0⟩ := one_new hW
  have hz0 : w.heap.size < W0.heap.size := by rw [← hW]; simp
  clear hW
  have hK0 : Kr B w W0 := Kg.of hb0 hBw
  refine (skip_any s n rb tv W0 B (hR.below hb0) hn hs hB).mono ?_
  rintro e w1 ⟨rfl, hR1, hK1'⟩
  have hK1 := hK0.trans hK1'
  have X1 := X0.kp hK1'
  have hz1 := hK1'.bel.size
  obtain ⟨k0, HK0⟩ : ∃ k0, Hid (skp s.data.toList n = k0) := ⟨_, rfl⟩
  have hk0 : k0 ≤ s.size := by rw [← HK0.out, ← toList_len]; exact skp_le (by rw [toList_len]; exact hn)
  rw [HK0.out] at hR1
  have c1 := hR1.c1
  go_wp2_with fail
  refine (small_any 10 (by omega) (by omega) w1).mono ?_
  rintro e w2 ⟨v2, rfl, hI2, hb2⟩
  obtain ⟨tb, ta, tn, tc, rfl⟩ := hI2.form
  go_wp2_with fail
  generalize hW : (w2.alloc (Obj.cells #[Value.bool tb, Value.slice ta tn tc] 105)).alloc (Obj.cells #[Value.bool false, Value.slice none 0 0] 105) = W3
  have hI5 : IsB W3 w2.heap.size 10 := by rw [← hW]; exact (IsB.new hI2).below ((Below.refl _ _).alloc (Nat.le_refl _) _)
  have hI6 : IsB W3 (w2.heap.size + 1) 0 := by
    rw [← hW]
    have := IsB.new (IsI.zero (w2.alloc (Obj.cells #[Value.bool tb, Value.slice ta tn tc] 105)))
    simpa using this
  have hb3 : Below w2.heap.size w2 W3 := by rw [← hW]; exact ((Below.refl _ _).alloc (Nat.le_refl _) _).alloc (by simp) _
  clear hW
  have hz2 := hb2.size
  have hK3 : Kr B w W3 := (hK1.step hb2 hBw).step hb3 hBw
  have X3 := (X1.below hb2).below hb3
  have hR3 := (hR1.below hb2).below hb3
  have hw5 : w.heap.size < w2.heap.size := by omega
  clear hI2 hb2 hb3 hR1 hK1 hK1' X1 hz1 hz2 hK0 X0 hb0 hz0 c1
  generalize w2.heap.size = b5 at *
  go_loopw [] (fun wr => ∃ (k num : Nat), k0 ≤ k ∧ k ≤ s.size ∧ Rd wr rb s k tv ∧ IsB wr b5 10 ∧ IsB wr (b5 + 1) (num : Int) ∧ Bx wr w.heap.size (.bool false) (.slice none 0 0) ∧ Hid (NumAt s.data.toList k0 k num) ∧ Kr B w wr) (fun wr => s.size - rdAt rb wr)
  case atStart => exact ⟨k0, 0, Nat.le_refl _, hk0, hR3, hI5, hI6, X3, NumAt.start _ _, hK3⟩
  case round =>
    clear hR3 hI5 hI6 X3 hK3
    obtain ⟨k, num, hkk, hk, hRk, hI5, hI6, X3, HN, hKp⟩ := hrel
    have c0 := hRk.c0; have c1 := hRk.c1
    by_cases hdg : ∃ h : k < s.size, isDig s[k] = true
    · obtain ⟨hlt, hdig⟩ := hdg
      have hD := fun W => isDigit_any s[k] (s[k].toNat : Int) rfl W
      simp only [hdig] at hD
      have hki : (k : Int) < (s.size : Int) := by omega
      go_wp2_with fail
      go_quiet ((go_at_call 152; exact Calls.quiet_of_same (hD _)))
      go_wp2_with fail
      have hRq : Rd (wr.drewN nq) rb s k tv := hRk
      have hI5q : IsB (wr.drewN nq) b5 10 := hI5
      have hI6q : IsB (wr.drewN nq) (b5 + 1) (num : Int) := hI6
      have X3q : Bx (wr.drewN nq) w.heap.size (.bool false) (.slice none 0 0) := X3
      have hKq := hKp.drewN nq
      have hmeas : rdAt rb wr = k := hRk.at
      have HM : Hid _ := hmeas
      clear hRk hI5 hI6 X3 hKp c0 c1 hmeas hD
      generalize wr.drewN nq = wq at *
      have c0 := hRq.c0; have c1 := hRq.c1
      have hrq := hRq.lt
      have h6q := hI6q.lt
      have hnq : rb ≠ wq.heap.size := by omega
      have hc48 : 48 ≤ (s[k].toNat : Int) ∧ (s[k].toNat : Int) ≤ 57 := by
        have h2 := isDig_le hdig
        unfold isDig at hdig
        simp [UInt8.le_iff_toNat_le] at hdig
        omega
      obtain ⟨h48, h57⟩ := hc48
      go_cut [7] from 16 to 62 (fun s7 wc => ∃ b7, s7 = .pointer (some ⟨b7, 0, none⟩) ∧ b5 + 1 < b7 ∧ IsB wc b7 ((s[k].toNat : Int) - 48) ∧ Below wq.heap.size wq wc)
      case first =>
        go_region_held3 (fun w' => w'.cell? ⟨rb, 0, none⟩ = some (.string s) ∧ w'.cell? ⟨rb, 1, none⟩ = some (.int .i64 (k : Int)))
          (first | exact ⟨c0, c1⟩ | exact ⟨q0, q1⟩ | exact ⟨cell_set2 q0 hnq _ _, cell_set2 q1 hnq _ _⟩ | go_keep)
          (first | (go_at_call 74; rw [digit_wrap _ h48 h57]; refine (small_any _ ?_ ?_ _).mono ?_; (omega); (omega); rintro e w5 ⟨v5, rfl, hI5', hb5⟩; obtain ⟨db, da, dn, dc, rfl⟩ := hI5'.form; have q0 : w5.cell? ⟨rb, 0, none⟩ = some (.string s) := by { rw [hb5.cell (by simp; omega)]; simp [go_sem, World.cell?_alloc_past, c0, hrq] }; have q1 : w5.cell? ⟨rb, 1, none⟩ = some (.int .i64 (k : Int)) := by { rw [hb5.cell (by simp; omega)]; simp [go_sem, World.cell?_alloc_past, c1, hrq] }; obtain ⟨hcc, hff⟩ := bcell hb5))
        all_goals go_wp2
        all_goals go_meet
        all_goals first | exact box_a hb5 hI5' h6q | exact box_b hb5 hI5' h6q
      case rest =>
        obtain ⟨b7, rfl, hb7, hI7, hbc⟩ := hcut
        have hRc := hRq.below hbc
        have hI5c := hI5q.below hbc
        have hI6c := hI6q.below hbc
        have X3c := X3q.below hbc
        have hKc := hKq.step hbc hBw
        clear hRq hI5q hI6q X3q hKq c0 c1 hrq hnq
        obtain ⟨nb, na, nn, nc, Y6, J6⟩ := hI6c.open
        obtain ⟨tb', ta', tn', tc', Y5, J5⟩ := hI5c.open
        have y0 := Y6.c0; have y1 := Y6.c1; have y2 := Y5.c0; have y3 := Y5.c1
        have hnum : num < 10 ^ 200 := by
          have := HN.out.2.2
          exact Nat.lt_of_lt_of_le this (Nat.pow_le_pow_right (by omega) (by omega))
        have hf6 := fit_nat hnum (by omega)
        have HNM : Hid _ := hnum
        clear hnum
        go_wp2_with fail
        refine (mul_any _ _ (num : Int) 10 _ J6 J5 hf6 (fit_nat (n := 10) (k := 2) (by omega) (by omega))).mono ?_
        rintro e w6 ⟨v6, rfl, hI6', hb6⟩
        obtain ⟨mb, ma, mn, mc, rfl⟩ := hI6'.form
        have Y6' := Y6.below hb6
        obtain ⟨db, da, dn, dc, Y7, J7⟩ := (hI7.below hb6).open
        have z0 := Y6'.c0; have z1 := Y6'.c1; have z2 := Y6'.f0; have z3 := Y6'.f1
        have z4 := Y7.c0; have z5 := Y7.c1
        have hne7 : ¬ b7 = b5 + 1 := by omega
        have hR6 := hRc.below hb6
        have hI56 := hI5c.below hb6
        have X36 := X3c.below hb6
        have hK6 := hKc.step hb6 hBw
        have hf6' : Fit ((num : Int) * 10) := by
          have h1 := HNM.out
          have : (num * 10 : Nat) < 10 ^ 201 := by rw [Nat.pow_succ]; omega
          have := fit_nat this (by omega)
          rwa [Int.natCast_mul] at this
        clear hRc hI5c hI6c X3c hKc Y6 Y5 J5 J6 y0 y1 y2 y3 hI7
        go_wp2_with fail
        have J6' := hI6'.set2 Y6' (.bool mb) (.slice ma mn mc)
        have J7' := J7.set2 Y6' (.bool mb) (.slice ma mn mc)
        have Z6 := Y6'.set (.bool mb) (.slice ma mn mc)
        have hR7 := hR6.other (j := b5 + 1) (by omega) (.bool mb) (.slice ma mn mc)
        have hI57 := hI56.other Y6' (by omega) (.bool mb) (.slice ma mn mc)
        have X37 := X36.other (j := b5 + 1) (by omega) (.bool mb) (.slice ma mn mc)
        have hK7 : Kr B w ((w6.setCell ⟨b5 + 1, 0, none⟩ (.bool mb)).setCell ⟨b5 + 1, 1, none⟩ (.slice ma mn mc)) := (hK6.setNew hBw (by omega)).setNew hBw (by omega)
        clear hI6' Y6' Y7 J7 z0 z1 z2 z3 z4 z5 hR6 hI56 X36 hK6
        generalize (w6.setCell ⟨b5 + 1, 0, none⟩ (.bool mb)).setCell ⟨b5 + 1, 1, none⟩ (.slice ma mn mc) = W7 at *
        refine (add_any _ _ ((num : Int) * 10) ((s[k].toNat : Int) - 48) _ J6' J7' hf6' ?_).mono ?_
        · have h1 := fit_nat (n := s[k].toNat - 48) (k := 2) (by omega) (by omega)
          rwa [show ((s[k].toNat - 48 : Nat) : Int) = (s[k].toNat : Int) - 48 by omega] at h1
        rintro e w8 ⟨v8, rfl, hI8, hb8⟩
        obtain ⟨eb, ea, en, ec, rfl⟩ := hI8.form
        have Z8 := Z6.below hb8
        have z0 := Z8.c0; have z1 := Z8.c1; have z2 := Z8.f0; have z3 := Z8.f1
        have hR8 := hR7.below hb8
        have hI58 := hI57.below hb8
        have X38 := X37.below hb8
        have hK8 := hK7.step hb8 hBw
        have c1 := hR8.c1; have f1 := hR8.f1 1
        have hrn : ¬ rb = b5 + 1 := by omega
        clear Z6 hR7 hI57 X37 hK7 J6' J7'
        have HST : Hid _ := NumAt.step HN.out hkk (byte_at hlt) hdig
        go_wp2_with fail
        have J8 := hI8.set2 Z8 (.bool eb) (.slice ea en ec)
        have hI9 := IsB.stored Z8 hI8
        have hR9 := hR8.other (j := b5 + 1) (by omega) (.bool eb) (.slice ea en ec)
        have hI59 := hI58.other Z8 (by omega) (.bool eb) (.slice ea en ec)
        have X39 := X38.other (j := b5 + 1) (by omega) (.bool eb) (.slice ea en ec)
        have hK9 : Kr B w ((w8.setCell ⟨b5 + 1, 0, none⟩ (.bool eb)).setCell ⟨b5 + 1, 1, none⟩ (.slice ea en ec)) := (hK8.setNew hBw (by omega)).setNew hBw (by omega)
        have hcast : (num : Int) * 10 + ((s[k].toNat : Int) - 48) = ((10 * num + (s[k].toNat - 48) : Nat) : Int) := by omega
        rw [hcast] at hI9
        clear J8 Z8 hI8 hR8 hI58 X38 hK8 z0 z1 z2 z3 c1 f1 hcast hb8
        generalize (w8.setCell ⟨b5 + 1, 0, none⟩ (.bool eb)).setCell ⟨b5 + 1, 1, none⟩ (.slice ea en ec) = W9 at *
        have hR10 : Rd (W9.setCell ⟨rb, 1, none⟩ (.int .i64 ((k : Int) + 1))) rb s (k + 1) tv := hR9.set1 (by omega)
        have hKs : Kr 0 W9 (W9.setCell ⟨rb, 1, none⟩ (.int .i64 ((k : Int) + 1))) := (Kg.refl 0 W9).set (Nat.zero_le _) hR9.typ
        refine ⟨⟨k + 1, _, by omega, by omega, hR10, hI59.kp hKs, hI9.kp hKs, X39.kp hKs, HST, hK9.set hB hR9.typ⟩, ?_⟩
        rw [hR10.at, HM.out]; omega
    · by_cases hlt : k < s.size
      · have hdig : isDig s[k] = false := by
          cases h : isDig s[k] with
          | true => exact absurd ⟨hlt, h⟩ hdg
          | false => rfl
        have hD := fun W => isDigit_any s[k] (s[k].toNat : Int) rfl W
        simp only [hdig] at hD
        have hki : (k : Int) < (s.size : Int) := by omega
        have hst := NumAt.stop HN.out (fun c hc => by rw [byte_at hlt] at hc; rw [← Option.some.inj hc]; exact hdig)
        have hok : (rdNum s.data.toList n).1 = decide (k0 < k) := by
          show (!(digs (s.data.toList.drop (skp s.data.toList n))).isEmpty) = _
          rw [HK0.out, Bool.eq_iff_iff]
          have h2 := hst.2
          cases hdd : digs (s.data.toList.drop k0) with
          | nil => rw [hdd] at h2; simp at h2 ⊢; omega
          | cons a b => rw [hdd] at h2; simp at h2 ⊢; omega
        have hnm : (rdNum s.data.toList n).2.1 = num := by
          show numOf 0 (digs (s.data.toList.drop (skp s.data.toList n))) = _
          rw [HK0.out]; exact hst.1.symm
        have hpos : (rdNum s.data.toList n).2.2 = k := by
          show skp s.data.toList n + (digs (s.data.toList.drop (skp s.data.toList n))).length = _
          rw [HK0.out]; exact hst.2.symm
        have HOK : Hid _ := hok; have HNM : Hid _ := hnm; have HPS : Hid _ := hpos
        clear hok hnm hpos hst
        obtain ⟨nb, na, nn, nc, Y6, J6⟩ := hI6.open
        have y0 := Y6.c0; have y1 := Y6.c1
        have x0 := X3.c0; have x1 := X3.c1; have x2 := X3.f0; have x3 := X3.f1
        have hne : ¬ w.heap.size = b5 + 1 := by omega
        have hner : ¬ w.heap.size = rb := by omega
        go_wp2_with fail
        go_quiet ((go_at_call 152; exact Calls.quiet_of_same (hD _)))
        go_wp2_with fail
        go_region
        all_goals go_wp2
        have hRn : Rd (wr.drewN (nq + 1)) rb s k tv := hRk
        have Xn : Bx (wr.drewN (nq + 1)) w.heap.size (.bool false) (.slice none 0 0) := X3
        have Jn : IsI (wr.drewN (nq + 1)) (.agg #[.bool nb, .slice na nn nc]) (num : Int) := J6
        refine bodyPost_ret (v := .tuple #[.agg #[.bool nb, .slice na nn nc], .bool (decide (k0 < k))]) (by simp [results, Tryz.results126, go_sem, x0, x1]) rfl ⟨_, by rw [HOK.out], ?_, ?_, ?_⟩
        · rw [HNM.out]; exact Jn.set2 Xn _ _
        · rw [HPS.out]; exact hRn.other (by omega) _ _
        · exact ((hKp.drewN (nq + 1)).setNew hBw (Nat.le_refl _)).setNew hBw (Nat.le_refl _)
      · have hd : decide ((k : Int) < (s.size : Int)) = false := by simp; omega
        have hst := NumAt.stop HN.out (fun c hc => by rw [byte_none hlt] at hc; simp at hc)
        have hok : (rdNum s.data.toList n).1 = decide (k0 < k) := by
          show (!(digs (s.data.toList.drop (skp s.data.toList n))).isEmpty) = _
          rw [HK0.out, Bool.eq_iff_iff]
          have h2 := hst.2
          cases hdd : digs (s.data.toList.drop k0) with
          | nil => rw [hdd] at h2; simp at h2 ⊢; omega
          | cons a b => rw [hdd] at h2; simp at h2 ⊢; omega
        have hnm : (rdNum s.data.toList n).2.1 = num := by
          show numOf 0 (digs (s.data.toList.drop (skp s.data.toList n))) = _
          rw [HK0.out]; exact hst.1.symm
        have hpos : (rdNum s.data.toList n).2.2 = k := by
          show skp s.data.toList n + (digs (s.data.toList.drop (skp s.data.toList n))).length = _
          rw [HK0.out]; exact hst.2.symm
        have HOK : Hid _ := hok; have HNM : Hid _ := hnm; have HPS : Hid _ := hpos
        clear hok hnm hpos hst
        obtain ⟨nb, na, nn, nc, Y6, J6⟩ := hI6.open
        have y0 := Y6.c0; have y1 := Y6.c1
        have x0 := X3.c0; have x1 := X3.c1; have x2 := X3.f0; have x3 := X3.f1
        have hne : ¬ w.heap.size = b5 + 1 := by omega
        have hner : ¬ w.heap.size = rb := by omega
        go_wp2_with fail
        go_quiet (fail)
        go_wp2_with fail
        go_region
        all_goals go_wp2
        have hRn : Rd (wr.drewN (nq + 1)) rb s k tv := hRk
        have Xn : Bx (wr.drewN (nq + 1)) w.heap.size (.bool false) (.slice none 0 0) := X3
        have Jn : IsI (wr.drewN (nq + 1)) (.agg #[.bool nb, .slice na nn nc]) (num : Int) := J6
        refine bodyPost_ret (v := .tuple #[.agg #[.bool nb, .slice na nn nc], .bool (decide (k0 < k))]) (by simp [results, Tryz.results126, go_sem, x0, x1]) rfl ⟨_, by rw [HOK.out], ?_, ?_, ?_⟩
        · rw [HNM.out]; exact Jn.set2 Xn _ _
        · rw [HPS.out]; exact hRn.other (by omega) _ _
        · exact ((hKp.drewN (nq + 1)).setNew hBw (Nat.le_refl _)).setNew hBw (Nat.le_refl _)

end Go.Proofs.YtldcjkhbiffdoaaGreatDoor

/-
  readPower.
-/
namespace Go.Proofs.YtldcjkhbiffdoaaGreatDoor
open Go.RowKit

theorem tak_le {l : List UInt8} {c : UInt8} {n : Nat} (h : n ≤ l.length) : (tak l c n).2 ≤ l.length := by
  have h1 := skp_le h
  unfold tak
  split
  · rename_i hc
    have := (List.getElem?_eq_some_iff.1 hc).1
    show skp l n + 1 ≤ _; omega
  · exact h1
theorem rdNum_le {l : List UInt8} {n : Nat} (h : n ≤ l.length) : (rdNum l n).2.2 ≤ l.length := by
  have h1 := skp_le h
  have h2 := digs_le (l.drop (skp l n))
  rw [List.length_drop] at h2
  show skp l n + (digs (l.drop (skp l n))).length ≤ _
  omega
theorem rdPow_le {l : List UInt8} {n : Nat} (h : n ≤ l.length) : (rdPow l n).2.2 ≤ l.length := by
  have h1 := tak_le (c := 120) h
  have h2 := tak_le (c := 94) h1
  unfold rdPow
  split
  · split
    · exact rdNum_le h2
    · exact h2
  · exact h1

set_option maxHeartbeats 1000000 in
theorem readPower_any (s : ByteArray) (n rb : Nat) (tv : Value) (w : World) (B : Nat) (hR : Rd w rb s n tv) (hn : n ≤ s.size) (hs : s.size ≤ 200) (hB : B ≤ rb) (hBw : B ≤ w.heap.size) :
    Calls Tryz.prog 127 #[.pointer (some ⟨rb, 0, none⟩)] w fun e w' => ∃ v, e = .returned (.tuple #[v, .bool (rdPow s.data.toList n).1]) ∧ IsI w' v ((rdPow s.data.toList n).2.1 : Int) ∧ Rd w' rb s (rdPow s.data.toList n).2.2 tv ∧ Kr B w w' := by
  have hlt0 := hR.lt
  have hl := toList_len s
  have h1 := tak_le (l := s.data.toList) (c := 120) (n := n) (by omega)
  have h2 := tak_le (l := s.data.toList) (c := 94) h1
  have hT1 := fun (W : World) (g : Rd W rb s n tv) => take_any s n rb tv 120 120 rfl W B g hn hs hB
  have hT2 := fun (W : World) (g : Rd W rb s (tak s.data.toList 120 n).2 tv) => take_any s _ rb tv 94 94 rfl W B g (by omega) hs hB
  have hN := fun (W : World) (g : Rd W rb s (tak s.data.toList 94 (tak s.data.toList 120 n).2).2 tv) (g2 : B ≤ W.heap.size) => readNumber_any s _ rb tv W B g (by omega) hs hB g2
  unfold rdPow
  generalize (tak s.data.toList 120 n).2 = n1 at *
  generalize (tak s.data.toList 94 n1).2 = n2 at *
  generalize rdNum s.data.toList n2 = rn at *
  generalize (tak s.data.toList 120 n).1 = t1 at *
  generalize (tak s.data.toList 94 n1).1 = t2 at *
  have HT1 : Hid _ := hT1; have HT2 : Hid _ := hT2; have HN : Hid _ := hN
  clear hT1 hT2 hN hl
  cases t1
  · rw [if_neg (by simp)]
    go_enter Tryz.func127, Tryz.ntmps127
    go_wp2_with fail
    generalize hW : w.alloc (Obj.cells #[Value.bool false, Value.slice none 0 0] 105) = W0
    obtain ⟨hb0, X0⟩ := one_new hW
    clear hW
    refine (HT1.out W0 (hR.below hb0)).mono ?_
    rintro e w1 ⟨rfl, hR1, hK1⟩
    have X1 := X0.kp hK1
    have x0 := X1.c0; have x1 := X1.c1; have x2 := X1.f0; have x3 := X1.f1
    have hK := (Kg.of hb0 hBw).trans hK1
    go_wp2
    refine bodyPost_ret (v := .tuple #[.agg #[.bool false, .slice none 0 0], .bool false]) (by simp [results, Tryz.results127, go_sem, x0, x1]) rfl ⟨_, rfl, IsI.zero _, hR1.other (by omega) _ _, (hK.setNew hBw (Nat.le_refl _)).setNew hBw (Nat.le_refl _)⟩
  · rw [if_pos rfl]
    cases t2
    · rw [if_neg (by simp)]
      go_enter Tryz.func127, Tryz.ntmps127
      go_wp2_with fail
      generalize hW : w.alloc (Obj.cells #[Value.bool false, Value.slice none 0 0] 105) = W0
      obtain ⟨hb0, X0⟩ := one_new hW
      clear hW
      refine (HT1.out W0 (hR.below hb0)).mono ?_
      rintro e w1 ⟨rfl, hR1, hK1⟩
      go_wp2_with fail
      refine (HT2.out w1 hR1).mono ?_
      rintro e w2 ⟨rfl, hR2, hK2⟩
      have hK := ((Kg.of hb0 hBw).trans hK1).trans hK2
      have X2 := (X0.kp hK1).kp hK2
      go_wp2_with fail
      refine (small_any 1 (by omega) (by omega) w2).mono ?_
      rintro e w3 ⟨v3, rfl, hI3, hb3⟩
      obtain ⟨vb, va, vn, vc, rfl⟩ := hI3.form
      have X3 := X2.below hb3
      have x0 := X3.c0; have x1 := X3.c1; have x2 := X3.f0; have x3 := X3.f1
      have hR3 := hR2.below hb3
      have hK3 := hK.step hb3 hBw
      go_wp2
      refine bodyPost_ret (v := .tuple #[.agg #[.bool vb, .slice va vn vc], .bool true]) (by simp [results, Tryz.results127, go_sem, x0, x1]) rfl ⟨_, rfl, hI3.set2 X3 _ _, hR3.other (by omega) _ _, (hK3.setNew hBw (Nat.le_refl _)).setNew hBw (Nat.le_refl _)⟩
    · rw [if_pos rfl]
      go_enter Tryz.func127, Tryz.ntmps127
      go_wp2_with fail
      generalize hW : w.alloc (Obj.cells #[Value.bool false, Value.slice none 0 0] 105) = W0
      obtain ⟨hb0, X0⟩ := one_new hW
      clear hW
      refine (HT1.out W0 (hR.below hb0)).mono ?_
      rintro e w1 ⟨rfl, hR1, hK1⟩
      go_wp2_with fail
      refine (HT2.out w1 hR1).mono ?_
      rintro e w2 ⟨rfl, hR2, hK2⟩
      have hK := ((Kg.of hb0 hBw).trans hK1).trans hK2
      have X2 := (X0.kp hK1).kp hK2
      go_wp2_with fail
      refine (HN.out w2 hR2 (Nat.le_trans hBw hK.bel.size)).mono ?_
      rintro e w3 ⟨v3, rfl, hI3, hR3, hK3'⟩
      obtain ⟨vb, va, vn, vc, rfl⟩ := hI3.form
      have X3 := X2.kp hK3'
      have x0 := X3.c0; have x1 := X3.c1; have x2 := X3.f0; have x3 := X3.f1
      have hK3 := hK.trans hK3'
      go_wp2
      refine bodyPost_ret (v := .tuple #[.agg #[.bool vb, .slice va vn vc], .bool rn.1]) (by simp [results, Tryz.results127, go_sem, x0, x1]) rfl ⟨_, rfl, hI3.set2 X3 _ _, hR3.other (by omega) _ _, (hK3.setNew hBw (Nat.le_refl _)).setNew hBw (Nat.le_refl _)⟩

end Go.Proofs.YtldcjkhbiffdoaaGreatDoor
