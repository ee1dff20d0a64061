import Derived.Test.YtldcjkhbiffdoaaGreatDoorM06
import Derived.Test.YtldcjkhbiffdoaaGreatDoorM02
import Derived.Test.YtldcjkhbiffdoaaGreatDoorM01
import Derived.Test.YtldcjkhbiffdoaaGreatDoorM05

/-
  whole: divideLimbs, Divide.
-/
namespace Go.Proofs.YtldcjkhbiffdoaaGreatDoor
open Go.RowKit

theorem pow_le_pow9 {m n : Nat} (h : m ≤ n) : (1000000000 : Int) ^ m ≤ 1000000000 ^ n := by
  obtain ⟨k, rfl⟩ : ∃ k, n = m + k := ⟨n - m, by omega⟩
  rw [Int.pow_add]
  have h5 : (0 : Int) < 1000000000 ^ k := Int.pow_pos (by omega)
  have := Int.mul_le_mul_of_nonneg_left (show (1 : Int) ≤ 1000000000 ^ k by omega) (Int.le_of_lt (pow_pos (show (0 : Int) < 1000000000 by omega) m))
  omega

theorem len_le_of {s : List Int} {n : Nat} (d : Dig 1000000000 s) (t : Trim s) (h : ev 1000000000 s < 1000000000 ^ n) : s.length ≤ n := by
  rcases Nat.lt_or_ge n s.length with hlt | hge
  · have hne : s ≠ [] := by intro e; subst e; simp at hlt
    have h1 := ev_ge (by omega) d t hne
    have h2 := pow_le_pow9 (show n ≤ s.length - 1 by omega)
    omega
  · exact hge

theorem len_gt_of {s : List Int} {n : Nat} (d : Dig 1000000000 s) (h : 1000000000 ^ n ≤ ev 1000000000 s) : n < s.length := by
  rcases Nat.lt_or_ge n s.length with hlt | hge
  · exact hlt
  · have h1 := ev_lt (by omega) d
    have h2 := pow_le_pow9 hge
    omega

theorem top_pos {b : List Int} (db : Dig 1000000000 b) (ht : Trim b) (hb : 0 < b.length) : 0 < b.getD (b.length - 1) 0 ∧ b.getD (b.length - 1) 0 < 1000000000 := by
  have h0 := Dig.getD (by omega) db (b.length - 1)
  have h1 : b.getD (b.length - 1) 0 ≠ 0 := by
    refine ht _ ?_
    rw [List.getLast?_eq_getElem?, getD_lt (show b.length - 1 < b.length by omega)]
    exact List.getElem?_eq_getElem (by omega)
  omega

theorem scale_lt {b : List Int} {c : Int} (db : Dig 1000000000 b) (hb : 0 < b.length) (hc : 0 < c) (h : c * (b.getD (b.length - 1) 0 + 1) ≤ 1000000000) : ev 1000000000 b * c < 1000000000 ^ b.length := by
  have h1 := ev_take 1000000000 b (b.length - 1)
  rw [show b.length - 1 + 1 = b.length by omega, List.take_of_length_le (Nat.le_refl _)] at h1
  have h2 := ev_lt (by omega) (db.take (b.length - 1))
  rw [List.length_take, Nat.min_eq_left (by omega)] at h2
  have h3 : (1000000000 : Int) ^ b.length = 1000000000 * 1000000000 ^ (b.length - 1) := by
    rw [← Int.pow_succ', show b.length - 1 + 1 = b.length by omega]
  rw [h1, h3]
  generalize ev 1000000000 (b.take (b.length - 1)) = e at *
  generalize b.getD (b.length - 1) 0 = d at *
  have hp := pow_pos (show (0 : Int) < 1000000000 by omega) (b.length - 1)
  generalize (1000000000 : Int) ^ (b.length - 1) = p at *
  have h4 : (e + d * p) * c < (p + d * p) * c := Int.mul_lt_mul_of_pos_right (by omega) hc
  have h5 : (p + d * p) * c = c * (d + 1) * p := by
    rw [show p + d * p = (d + 1) * p by rw [Int.add_mul, Int.one_mul, Int.add_comm], Int.mul_comm, ← Int.mul_assoc]
  have h6 := Int.mul_le_mul_of_nonneg_right h (Int.le_of_lt hp)
  omega

theorem unscale {A D Q S Q2 r c : Int} (hc : 0 < c) (h1 : A * c = Q * (D * c) + S) (h2 : S < D * c) (h3 : S = Q2 * c + r) (hr0 : 0 ≤ r) (hr : r < c) : A = Q * D + Q2 ∧ Q2 < D := by
  have h4 : (A - Q * D - Q2) * c = r := by
    rw [Int.sub_mul, Int.sub_mul, Int.mul_assoc]; omega
  have h5 : A - Q * D - Q2 = 0 := by
    generalize A - Q * D - Q2 = k at h4
    rcases Int.lt_or_le 0 k with h | h
    · have := Int.mul_le_mul_of_nonneg_right (show 1 ≤ k by omega) (Int.le_of_lt hc)
      omega
    · rcases Int.lt_or_le k 0 with h' | h'
      · have := Int.mul_le_mul_of_nonneg_right (show k ≤ -1 by omega) (Int.le_of_lt hc)
        omega
      · omega
  refine ⟨by omega, ?_⟩
  refine Int.lt_of_mul_lt_mul_right (a := c) ?_ (Int.le_of_lt hc)
  omega

theorem row_one {w W : World} {c : Int} (h : w.alloc (.cells #[.int .i64 c] 2) = W) : Row W (.slice (some ⟨w.heap.size, 0, none⟩) 1 1) [c] ∧ Below w.heap.size w W := by
  subst h
  exact ⟨World.ownsRow_lit w #[.int .i64 c] 1 (Nat.zero_le _) (by simp [maxLen]) rfl, (Below.refl _ _).alloc (Nat.le_refl _) _⟩

/-- What a division of limbs gives. -/
def QR (a b : List Int) (w' : World) (x y : Value) : Prop := ∃ Q s, Row w' x Q ∧ Row w' y s ∧ Dig 1000000000 Q ∧ Dig 1000000000 s ∧ Q.length ≤ 1000000000 ∧ s.length ≤ 1000000000 ∧ ev 1000000000 a = ev 1000000000 Q * ev 1000000000 b + ev 1000000000 s ∧ ev 1000000000 s < ev 1000000000 b

set_option maxRecDepth 100000 in
set_option maxHeartbeats 4000000 in
theorem divideLimbs_any (a b : List Int) (u v : Value) (w : World) (hu : Row w u a) (hv : Row w v b) (ha : a.length ≤ 10000000) (hb : b.length ≤ 10000000) (hb0 : 0 < b.length) (da : Dig 1000000000 a) (db : Dig 1000000000 b) (ta : Trim a) (tb : Trim b) :
    Calls Tryz.prog 134 #[u, v] w fun e w' => ∃ x y, e = .returned (.tuple #[x, y]) ∧ QR a b w' x y ∧ Below w.heap.size w w' := by
  obtain ⟨ua, uc, rfl⟩ := hu.val
  obtain ⟨va, vc, rfl⟩ := hv.val
  rcases Nat.lt_or_ge a.length b.length with hlt | hge
  · have hval := ev_lt_of_length (by omega) da db tb hlt
    go_enter Tryz.func134, Tryz.ntmps134
    go_wp2
    go_ret2
    have hb1 : Below w.heap.size w (w.alloc (.cells #[] 2)) := (Below.refl _ _).alloc (Nat.le_refl _) _
    refine ⟨_, _, rfl, ⟨[], a, (Own.lit rfl).row, hu.below hb1, Dig.nil _, da, by simp, by omega, ?_, hval⟩, hb1⟩
    show _ = 0 * _ + _
    omega
  · rcases Nat.lt_or_ge b.length 2 with hb2 | hb2
    · have hL := longDivision_any a b _ _ w hu hv (by omega) hge hb0 da db tb
      go_enter Tryz.func134, Tryz.ntmps134
      go_wp2_with fail
      refine hL.mono ?_
      rintro e w' ⟨x, y, Q, s, rfl, h1, h2, h3, h4, h5, h6, h7, h8, h9⟩
      go_wp2
      go_ret2
      exact ⟨_, _, rfl, ⟨Q, s, h1, h2, h3, h4, by omega, by omega, h7, h8⟩, h9⟩
    · have htop := top_pos db tb hb0
      have hsc := fun c => scale_lt (c := c) db hb0
      have hLA := limbAt_any b _ (b.length - 1) w hv (by omega) (by omega)
      have hn1 : (b.length : Int) - 1 = ((b.length - 1 : Nat) : Int) := by omega
      obtain ⟨n, HN⟩ : ∃ n, Hid (b.length - 1 = n) := ⟨_, rfl⟩
      rw [HN.out] at htop hsc hLA hn1
      obtain ⟨t, HT⟩ : ∃ t, Hid (b.getD n 0 = t) := ⟨_, rfl⟩
      rw [HT.out] at htop hsc hLA
      have hc1 : 0 < 1000000000 / (t + 1) := Int.le_ediv_of_mul_le (by omega) (by omega)
      have hc2 : 1000000000 / (t + 1) < 1000000000 := Int.ediv_lt_of_lt_mul (by omega) (by omega)
      have hc3 : 1000000000 / (t + 1) * (t + 1) ≤ 1000000000 := Int.ediv_mul_le _ (by omega)
      have hc4 := hsc _ hc1 hc3
      have HC4 : Hid _ := hc4
      clear hsc hc4 hc3
      have hbne : b ≠ [] := List.length_pos_iff.1 hb0
      have hane : a ≠ [] := List.length_pos_iff.1 (by omega)
      have hbp := ev_ne db tb hbne
      have hage := ev_ge (by omega) da ta hane
      have ht1 : (t + 1 == 0) = false := by rw [beq_eq_false_iff_ne]; omega
      have hq : Int.tdiv 1000000000 (t + 1) = 1000000000 / (t + 1) := Int.tdiv_eq_ediv_of_nonneg (by omega)
      have htz : ¬ t + 1 = 0 := by omega
      go_enter Tryz.func134, Tryz.ntmps134
      go_wp2_with fail
      refine hLA.mono ?_
      rintro e w0 ⟨rfl, rfl⟩
      go_wp2_with fail
      clear hq hLA
      generalize 1000000000 / (t + 1) = c at *
      generalize hW : w0.alloc (Obj.cells #[Value.int IntKind.i64 c] 2) = W
      obtain ⟨hc, hbW⟩ := row_one hW
      clear hW
      have dc : Dig 1000000000 [c] := fun y hy => by simp at hy; subst hy; omega
      have tc : Trim [c] := fun y hy => by simp at hy; subst hy; omega
      have hec : ev 1000000000 [c] = c := by show c + 1000000000 * 0 = c; omega
      have HEC : Hid _ := hec
      clear hec
      refine (mulLimbs_any a [c] _ _ W (hu.below hbW) hc (by omega) (by simp) da dc).mono ?_
      rintro e w1 ⟨s1, x1, rfl, hr1, hd1, hv1, hl1, hb1⟩
      rw [HEC.out] at hv1
      have HV1 : Hid _ := hv1
      have hbw1 := hbW.trans (hb1.mono hbW.size)
      have hs1 : b.length ≤ s1.length := by
        have h1 := len_gt_of (n := a.length - 1) hd1 (by
          rw [hv1]
          have := Int.mul_le_mul_of_nonneg_left (show 1 ≤ c by omega) (show 0 ≤ ev 1000000000 a from ev_nonneg (by omega) da)
          omega)
        omega
      clear hv1 hage
      obtain ⟨xa, xc, rfl⟩ := hr1.val
      go_wp2_with fail
      refine (mulLimbs_any b [c] _ _ w1 (hv.below hbw1) (hc.below hb1) (by omega) (by simp) db dc).mono ?_
      rintro e w2 ⟨s2, x2, rfl, hr2, hd2, hv2, hl2, hb2'⟩
      rw [HEC.out] at hv2
      have HV2 : Hid _ := hv2
      clear hv2
      go_wp2_with fail
      simp only [List.length_singleton] at hl1 hl2
      refine (trimmed_any s2 _ w2 hr2 (by omega) hd2).mono ?_
      rintro e w3 ⟨s3, x3, rfl, ho3, ht3, hb3⟩
      have hv3 := ht3.val
      rw [HV2.out] at hv3
      have hl3 : s3.length ≤ b.length := len_le_of ht3.dig ht3.trim (by rw [hv3]; exact HC4.out)
      have hp3 : 0 < ev 1000000000 s3 := by rw [hv3]; exact Int.mul_pos hbp hc1
      have hl30 : 0 < s3.length := by
        refine List.length_pos_iff.2 ?_
        intro e
        subst e
        exact absurd hp3 (by show ¬ (0 : Int) < 0; omega)
      have HV3 : Hid _ := hv3
      have hr3 := ho3.row
      have hd3 := ht3.dig
      have htr3 := ht3.trim
      clear hv3 hp3 ht3 ho3
      obtain ⟨ya, yc, rfl⟩ := hr3.val
      have hb13 := hb2'.trans (hb3.mono hb2'.size)
      go_wp2_with fail
      refine (longDivision_any s1 s3 _ _ w3 (hr1.below hb13) hr3 (by omega) (by omega) hl30 hd1 hd3 htr3).mono ?_
      rintro e w4 ⟨x4, y4, Q, s, rfl, hr4, hs4, hdQ, hds, hlQ, hls, hval4, hlt4, hb4⟩
      have HV4 : Hid _ := hval4
      have HL4 : Hid _ := hlt4
      have hsp : 1 ≤ s.length ∧ s.length ≤ 500000000 := by omega
      clear hval4 hlt4 hls
      obtain ⟨qa, qc, rfl⟩ := hr4.val
      obtain ⟨sa, sc, rfl⟩ := hs4.val
      have hb34 := hb13.trans (hb4.mono hb13.size)
      go_wp2_with fail
      refine (longDivision_any s [c] _ _ w4 hs4 ((hc.below hb1).below hb34) hsp.2 hsp.1 (Nat.le_refl 1) hds dc tc).mono ?_
      rintro e w5 ⟨x5, y5, Q2, r, rfl, hr5, hs5, hdQ2, hdr, hlQ2, hlr, hval5, hlt5, hb5⟩
      have HV5 : Hid _ := hval5
      have HL5 : Hid _ := hlt5
      clear hval5 hlt5
      go_wp2
      go_ret2
      have hfin := unscale (A := ev 1000000000 a) (D := ev 1000000000 b) (Q := ev 1000000000 Q) (S := ev 1000000000 s) (Q2 := ev 1000000000 Q2) (r := ev 1000000000 r) hc1 (by rw [← HV1.out, ← HV3.out]; exact HV4.out) (by rw [← HV3.out]; exact HL4.out) (by have := HV5.out; rw [HEC.out] at this; exact this) (ev_nonneg (by omega) hdr) (by have := HL5.out; rw [HEC.out] at this; exact this)
      exact ⟨_, _, rfl, ⟨Q, Q2, hr4.below hb5, hr5, hdQ, hdQ2, by omega, by omega, hfin.1, hfin.2⟩, hbw1.trans ((hb34.trans (hb5.mono hb34.size)).mono hbw1.size)⟩

end Go.Proofs.YtldcjkhbiffdoaaGreatDoor

/-
  factornum.Num.Int.
-/
namespace Go.Proofs.YtldcjkhbiffdoaaGreatDoor
open Go.RowKit

theorem drop_bd {l : List Int} (d : Dig 10 l) (h : l.length ≤ 17) (k : Nat) : 0 ≤ ev 10 (l.drop k) ∧ ev 10 (l.drop k) < 100000000000000000 := by
  refine ⟨ev_nonneg (by omega) (d.drop k), ?_⟩
  have h1 := ev_lt (by omega) (d.drop k)
  have h2 : (10 : Int) ^ (l.drop k).length ≤ 10 ^ 17 := by
    obtain ⟨j, hj⟩ : ∃ j, 17 = (l.drop k).length + j := ⟨17 - (l.drop k).length, by rw [List.length_drop]; omega⟩
    rw [hj, Int.pow_add]
    have h5 : (0 : Int) < 10 ^ j := Int.pow_pos (by omega)
    have := Int.mul_le_mul_of_nonneg_left (show (1 : Int) ≤ 10 ^ j by omega) (Int.le_of_lt (pow_pos (show (0 : Int) < 10 by omega) (l.drop k).length))
    omega
  have h3 : (10 : Int) ^ 17 = 100000000000000000 := by decide
  omega

theorem drop_ev {l : List Int} {j : Nat} {x : Int} (hj : j < l.length) (hx : l.getD j 0 = x) : ev 10 (l.drop j) = 10 * ev 10 (l.drop (j + 1)) + x := by
  rw [List.drop_eq_getElem_cons hj, ← getD_lt hj, hx]
  show x + 10 * _ = _
  omega

theorem long_ge {b : Bool} {l : List Int} {z : Int} (h : LimN b l z) (hl : 17 < l.length) : 100000000000000000 ≤ z.natAbs := by
  have hne : l ≠ [] := by intro e; subst e; simp at hl
  have h1 := ev_ge (by omega) h.dig h.trim hne
  have h2 : (10 : Int) ^ 17 ≤ 10 ^ (l.length - 1) := by
    obtain ⟨k, hk⟩ : ∃ k, l.length - 1 = 17 + k := ⟨l.length - 1 - 17, by omega⟩
    rw [hk, Int.pow_add]
    have h5 : (0 : Int) < 10 ^ k := Int.pow_pos (by omega)
    have := Int.mul_le_mul_of_nonneg_left (show (1 : Int) ≤ 10 ^ k by omega) (Int.le_of_lt (pow_pos (show (0 : Int) < 10 by omega) 17))
    omega
  have h3 : (10 : Int) ^ 17 = 100000000000000000 := by decide
  have h4 := natAbs_sv b h.nonneg
  rw [← h.val] at h4
  omega

set_option maxHeartbeats 2000000 in
theorem intN_any (u : Value) (z : Int) (w : World) (hu : IsN w u z) (f : FitN z) :
    Calls Tryz.prog 95 #[u] w fun e w' => ((z.natAbs < 100000000000000000 ∧ e = .returned (.tuple #[.int .i64 z, .bool true])) ∨ (100000000000000000 ≤ z.natAbs ∧ e = .returned (.tuple #[.int .i64 0, .bool false]))) ∧ Below w.heap.size w w' := by
  obtain ⟨b, x, l, rfl, hx, h1⟩ := hu
  have hl := h1.fit f
  obtain ⟨ua, uc, rfl⟩ := hx.val
  by_cases hlong : 17 < l.length
  · have hge := long_ge h1 hlong
    go_enter Tryz.func95, Tryz.ntmps95
    go_wp2
    go_ret2
    exact ⟨.inr ⟨hge, rfl⟩, below_one _ _⟩
  · have dl := h1.dig
    have hbd := drop_bd dl (by omega)
    have hval := h1.val
    have hz : z.natAbs < 100000000000000000 := by
      have h4 := natAbs_sv b h1.nonneg
      rw [← hval] at h4
      have := hbd 0
      rw [List.drop_zero] at this
      omega
    have HV : Hid _ := hval
    clear hval h1
    go_enter Tryz.func95, Tryz.ntmps95
    go_wp2_with fail
    generalize hW : w.alloc (Obj.cells #[Value.bool b, Value.slice ua l.length uc] 74) = W0
    obtain ⟨hb0, X0⟩ := one_newN hW
    clear hW
    have hx0 := hx.below hb0
    have c0 := X0.c0; have c1 := X0.c1
    go_loop [4, 5] (fun n i => ∃ (k : Nat), k ≤ l.length ∧ i = .int .i64 ((k : Int) - 1) ∧ n = .int .i64 (ev 10 (l.drop k))) (fun _ i => (intOf i + 1).toNat)
    case atStart => exact ⟨l.length, Nat.le_refl _, rfl, by rw [List.drop_of_length_le (Nat.le_refl _)]; rfl⟩
    case round =>
      obtain ⟨k, hk, rfl, rfl⟩ := hrel
      cases k with
      | zero =>
        rw [List.drop_zero]
        have hb1 := hbd 0
        rw [List.drop_zero] at hb1
        have hv := HV.out
        obtain ⟨e, HE⟩ : ∃ e, Hid (ev 10 l = e) := ⟨_, rfl⟩
        rw [HE.out] at hv hb1 ⊢
        clear hbd HV HE
        obtain ⟨hb2, hb3⟩ := hb1
        cases b
        · have hv2 : z = e := hv
          clear hv
          subst hv2
          go_wp2
          go_ret2
          exact ⟨.inl rfl, hb0⟩
        · have hv2 : z = -e := hv
          clear hv
          subst hv2
          go_wp2
          go_ret2
          exact ⟨.inl ⟨by omega, rfl⟩, hb0⟩
      | succ j =>
        rw [show (((j + 1 : Nat) : Int) - 1) = (j : Int) by omega]
        obtain ⟨g, rfl, hc1, hc2, hg, hcell⟩ := hx0.at j (by omega)
        obtain ⟨y, HY⟩ : ∃ y, Hid (l.getD j 0 = y) := ⟨_, rfl⟩
        have hd := Dig.getD (by omega) dl j
        rw [HY.out] at hcell hd
        have hde := drop_ev (by omega) HY.out
        have hb1 := hbd (j + 1)
        obtain ⟨e, HE⟩ : ∃ e, Hid (ev 10 (l.drop (j + 1)) = e) := ⟨_, rfl⟩
        rw [HE.out] at hde hb1 ⊢
        have HDE : Hid _ := hde
        obtain ⟨hb2, hb3⟩ := hb1
        obtain ⟨hd0, hd1⟩ := hd
        clear hde HE HY hbd
        go_wp2_with fail
        go_round
        case rel => exact ⟨j, by omega, by go_num, by rw [HDE.out]⟩
        case measure => simp [intOf]

end Go.Proofs.YtldcjkhbiffdoaaGreatDoor

/-
  A region that draws its order and whose last call (number z) may change what the loads before it have read: what is held, is held until that call alone.
-/
namespace Go.Proofs.YtldcjkhbiffdoaaGreatDoor
open Go.RowKit

section
variable {P : Program} {ops : Array Oper} {Q : Exit → Act → World → Prop} {md : Region.Mode} {S : World → Prop} {z : Nat}

/-- Whatever order is drawn; S holds behind each operation, as long as z has not come up. -/
def wpAnyZ (P : Program) (md : Region.Mode) (ops : Array Oper) (Q : Exit → Act → World → Prop) (S : World → Prop) (z : Nat) : Nat → Array Bool → Act → World → Prop
  | 0, listed, a, w => Region.ready md ops listed = [] ∧ Q .normal a w
  | n + 1, listed, a, w => (Region.ready md ops listed = [] → Q .normal a w) ∧
      ∀ i ∈ Region.ready md ops listed, wpOp P ops Q i (fun a' w' => ((listed.setIfInBounds i true).getD z true = false → S w') ∧ wpAnyZ P md ops Q S z n (listed.setIfInBounds i true) a' w') a w

theorem wpAnyZ.any : ∀ (n : Nat) (listed : Array Bool) (a : Act) (w : World), wpAnyZ P md ops Q S z n listed a w → wpAny P md ops Q n listed a w
  | 0, _, _, _, h => h
  | n + 1, _, _, _, h => ⟨h.1, fun i hi => wpOp_mono (fun a' w' g => wpAnyZ.any n _ a' w' g.2) (h.2 i hi)⟩

/-- What has come up has come up behind all that it waits for. -/
def Closed (md : Region.Mode) (ops : Array Oper) (l : Array Bool) : Prop :=
  ∀ j o, ops[j]? = some o → l.getD j false = true → ∀ e ∈ o.after, Region.binds md e = true → l.getD e.on false = true

def closedB (md : Region.Mode) (ops : Array Oper) (l : Array Bool) : Bool :=
  (List.range ops.size).all fun j => match ops[j]? with
    | some o => !(l.getD j false) || o.after.all fun e => !(Region.binds md e) || l.getD e.on false
    | none => true

theorem Closed.of {l : Array Bool} (h : closedB md ops l = true) : Closed md ops l := by
  intro j o ho hl e he hb
  unfold closedB at h
  rw [List.all_eq_true] at h
  have h1 := h j (List.mem_range.2 (Array.getElem?_eq_some_iff.1 ho).1)
  simp only [ho, hl, Bool.not_true, Bool.false_or] at h1
  have h2 := Array.all_eq_true_iff_forall_mem.1 h1 e he
  simpa [hb] using h2

theorem Closed.set {l : Array Bool} (h : Closed md ops l) {j : Nat} (hj : j ∈ Region.ready md ops l) : Closed md ops (l.setIfInBounds j true) := by
  obtain ⟨_, oj, hoj, hall⟩ := mem_ready.1 hj
  intro k o ho hl e he hb
  by_cases hjk : j = k
  · subst hjk
    rw [hoj] at ho
    cases ho
    exact getD_set_true (hall e he hb)
  · rw [Go.getD_set_ne false hjk] at hl
    exact getD_set_true (h k o ho hl e he hb)

/-- x waits for y. -/
def edgeB (md : Region.Mode) (ops : Array Oper) (x y : Nat) : Bool := match ops[x]? with
  | some o => o.after.any fun e => Region.binds md e && e.on == y
  | none => false

theorem edge_out {x y : Nat} (h : edgeB md ops x y = true) : ∃ o, ops[x]? = some o ∧ ∃ e, e ∈ o.after ∧ Region.binds md e = true ∧ e.on = y := by
  unfold edgeB at h
  split at h
  · rename_i o ho
    obtain ⟨i, hi, h1⟩ := Array.any_eq_true.1 h
    simp at h1
    exact ⟨o, ho, o.after[i], Array.getElem_mem hi, h1.1, h1.2⟩
  · cases h

def pathB (md : Region.Mode) (ops : Array Oper) : Nat → List Nat → Nat → Bool
  | x, [], i => edgeB md ops x i
  | x, y :: l, i => edgeB md ops x y && pathB md ops y l i

theorem path_listed {l : Array Bool} (hC : Closed md ops l) : ∀ (path : List Nat) (x i : Nat), l.getD x false = true → pathB md ops x path i = true → l.getD i false = true
  | [], x, i, hx, h => by
    obtain ⟨o, ho, e, he, hb, rfl⟩ := edge_out h
    exact hC x o ho hx e he hb
  | y :: r, x, i, hx, h => by
    unfold pathB at h
    rw [Bool.and_eq_true] at h
    obtain ⟨o, ho, e, he, hb, rfl⟩ := edge_out h.1
    exact path_listed hC r e.on i (hC x o ho hx e he hb) h.2

/-- z waits for i. -/
theorem path_ready {l : Array Bool} (hC : Closed md ops l) {path : List Nat} {i : Nat} (h : pathB md ops z path i = true) (hz : z ∈ Region.ready md ops l) : l.getD i false = true := by
  obtain ⟨_, oz, hoz, hall⟩ := mem_ready.1 hz
  cases path with
  | nil =>
    obtain ⟨o, ho, e, he, hb, rfl⟩ := edge_out h
    rw [hoz] at ho
    cases ho
    exact hall e he hb
  | cons y r =>
    unfold pathB at h
    rw [Bool.and_eq_true] at h
    obtain ⟨o, ho, e, he, hb, rfl⟩ := edge_out h.1
    rw [hoz] at ho
    cases ho
    exact path_listed hC r e.on i (hall e he hb) h.2

theorem not_both {l : Array Bool} {i : Nat} (h : l.getD i true = false) (h' : l.getD i false = true) : False := by
  rcases Nat.lt_or_ge i l.size with h1 | h1
  · simp [h1] at h h'
    rw [h] at h'
    cases h'
  · simp [Array.getElem?_eq_none h1] at h'

theorem wpAnyZ_first {i : Nat} {oi : Oper} {v : Value} {path : List Nat} (hi : ops[i]? = some oi) (hsel : ∀ (j : Nat) (o : Oper) cs b, ops[j]? = some o → o.op ≠ .select cs b)
    (hQ : ∀ c a w, Q (.panic c) (a.put oi.dst v) w → Q (.panic c) a w) (hzi : i ≠ z) (hp : pathB md ops z path i = true) :
    ∀ (n : Nat) (listed : Array Bool) (a : Act) (w : World),
      (∀ j oj, ops[j]? = some oj → j ≠ i → listed.getD j true = false → (∀ e ∈ oj.after, Region.binds md e = true → e.on ≠ i) → oi.apart ops oj = true) →
      i ∈ Region.ready md ops listed → Closed md ops listed → listed.getD z true = false → YieldsIf P ops S oi v a → S w →
      wpAnyZ P md ops Q S z n (listed.setIfInBounds i true) (a.put oi.dst v) w → wpAnyZ P md ops Q S z (n + 1) listed a w
  | 0, listed, a, w, _, hr, _, _, hy, hS, H => by
    refine ⟨fun h => absurd hr (by rw [h]; simp), fun j hj => ?_⟩
    rcases Nat.decEq j i with hji | hji
    · have := ready_mono hj hji
      rw [H.1] at this
      cases this
    · subst hji; exact hy.wpOp hi hS ⟨fun _ => hS, H⟩
  | n + 1, listed, a, w, hfree, hr, hC, hzl, hy, hS, H => by
    refine ⟨fun h => absurd hr (by rw [h]; simp), fun j hj => ?_⟩
    rcases Nat.decEq j i with hji | hji
    · have hun := (mem_ready.1 hr).1
      have hjz : j ≠ z := fun e => not_both hun (path_ready hC hp (e ▸ hj))
      obtain ⟨hjun, oj, hoj, hall⟩ := mem_ready.1 hj
      have hnot : ∀ e ∈ oj.after, Region.binds md e = true → e.on ≠ i := fun e he hb heq => not_both hun (heq ▸ hall e he hb)
      have h2 := wpOp_putIf hoj (hfree j oj hoj hji hjun hnot) (fun cs b => hsel i oi cs b hi) (fun cs b => hsel j oj cs b hoj) hQ hy (H.2 j (ready_mono hj hji))
      have hzl' : (listed.setIfInBounds j true).getD z true = false := by rw [Go.getD_set_ne true hjz]; exact hzl
      refine wpOp_mono (fun a' w' h3 => ?_) h2
      have hS' : S w' := h3.2.1 (by rw [Go.getD_set_ne true hjz, Go.getD_set_ne true hzi]; exact hzl)
      refine ⟨fun _ => hS', wpAnyZ_first hi hsel hQ hzi hp n (listed.setIfInBounds j true) a' w' ?_ (ready_mono hr (Ne.symm hji)) (hC.set hj) hzl' h3.1 hS' ?_⟩
      · intro k ok hk hki hun' hno
        refine hfree k ok hk hki ?_ hno
        rcases Nat.decEq j k with hjk | hjk
        · rw [Go.getD_set_ne true hjk] at hun'; exact hun'
        · subst hjk; exact hjun
      · rw [Array.setIfInBounds_comm _ _ hji]
        exact h3.2.2
    · subst hji; exact hy.wpOp hi hS ⟨fun _ => hS, H⟩

end

section
variable {P : Program} {ops : Array Oper} {Q : Exit → Act → World → Prop} {S : World → Prop} {z fuel : Nat} {listed : Array Bool} {a : Act} {w : World}

theorem z_begin {id : Nat} (z : Nat) (hm : P.follows .mixedOrders = true) (hS : S w.drew) (h : S w.drew → wpAnyZ P .any ops Q S z ops.size (Array.replicate ops.size false) a w.drew) : (Code.region id ops true).wp P Q a w :=
  wp_region_any hm (wpAnyZ.any _ _ _ _ (h hS))

theorem z_take (i : Nat) (d : Tmp) (v : Value) (path : List Nat) {o : Oper} (ho : ops[i]? = some o) (hd : o.dst = some d) (hs : Region.noSelect ops = true) (hf : Region.free .any ops listed i = true) (hr : (Region.ready .any ops listed).contains i = true)
    (hC : closedB .any ops listed = true) (hp : pathB .any ops z path i = true) (hzi : (i == z) = false) (hzl : listed.getD z true = false)
    (hQ : ∀ c a w, Q (.panic c) (a.put (some d) v) w → Q (.panic c) a w) (hb : Region.wanted o (yielded ops a.tmps) = true) (hv : ∀ w, S w → (execOp a.eval o).run P w = .ok (.value v) w) (hS : S w)
    (h : wpAnyZ P .any ops Q S z fuel (listed.setIfInBounds i true) (a.put (some d) v) w) : wpAnyZ P .any ops Q S z (fuel + 1) listed a w := by
  refine wpAnyZ_first ho (Region.noSelect_spec hs) (by rw [hd]; exact hQ) (by simpa using hzi) hp fuel listed a w (Region.free_spec ho hf) (by simpa using hr) (Closed.of hC) hzl (.inl ⟨hb, hv⟩) hS ?_
  rw [hd]; exact h

/-- One operation alone may come next: a call. -/
theorem z_call (i : Nat) (d : Tmp) {o : Oper} (f : Nat) (args : Array Value) (ho : ops[i]? = some o) (hd : o.dst = some d) (hr : Region.ready .any ops listed = [i]) (hb : Region.wanted o (yielded ops a.tmps) = true) (hv : (execOp a.eval o).run P w = .ok (.enter f args) w)
    (hc : Calls P f args w fun e w' => ∃ v, e = .returned v ∧ ((listed.setIfInBounds i true).getD z true = false → S w') ∧ wpAnyZ P .any ops Q S z fuel (listed.setIfInBounds i true) (a.put (some d) v) w') : wpAnyZ P .any ops Q S z (fuel + 1) listed a w := by
  refine ⟨fun h => (by rw [hr] at h; cases h), fun j hj => ?_⟩
  rw [hr] at hj
  obtain rfl : j = i := by simpa using hj
  refine wpOp_step ho (fun K' hK => op_call f args hb hv (hc.mono ?_))
  rintro e w' ⟨v, rfl, hS, h⟩
  rw [hd]
  exact ⟨v, rfl, hK _ _ ⟨hS, h⟩⟩

/-- One operation alone may come next, behind z: it yields a value. -/
theorem z_val (i : Nat) (d : Tmp) {o : Oper} (v : Value) (ho : ops[i]? = some o) (hd : o.dst = some d) (hr : Region.ready .any ops listed = [i]) (hb : Region.wanted o (yielded ops a.tmps) = true) (hv : (execOp a.eval o).run P w = .ok (.value v) w) (hz : (listed.setIfInBounds i true).getD z true = true)
    (h : wpAnyZ P .any ops Q S z fuel (listed.setIfInBounds i true) (a.put (some d) v) w) : wpAnyZ P .any ops Q S z (fuel + 1) listed a w := by
  refine ⟨fun h => (by rw [hr] at h; cases h), fun j hj => ?_⟩
  rw [hr] at hj
  obtain rfl : j = i := by simpa using hj
  refine wpOp_step ho (fun K' hK => op_val v hb hv ?_)
  rw [hd]
  exact hK _ _ ⟨fun h0 => (by rw [hz] at h0; cases h0), h⟩

theorem z_done (hr : Region.ready .any ops listed = []) (h : Q .normal a w) : ∀ fuel, wpAnyZ P .any ops Q S z fuel listed a w
  | 0 => ⟨hr, h⟩
  | _ + 1 => ⟨fun _ => h, by rw [hr]; simp⟩

end

end Go.Proofs.YtldcjkhbiffdoaaGreatDoor
