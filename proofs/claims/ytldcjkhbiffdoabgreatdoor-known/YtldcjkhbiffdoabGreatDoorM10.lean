import Derived.Test.YtldcjkhbiffdoabGreatDoorM09
import Derived.Test.YtldcjkhbiffdoabGreatDoorM07
import Derived.Test.YtldcjkhbiffdoabGreatDoorM08
import Derived.OwnWalk

namespace Go.Proofs.YtldcjkhbiffdoabGreatDoor
open Go.RowKit

theorem less_set {q bo x y t bo' : Int} {a b P : List Int} {k : Nat} (hk : k < P.length) (h : Dig 1000000000 P ∧ ev 1000000000 (P.take k) - bo * 1000000000 ^ k = ev 1000000000 (a.take k) - q * ev 1000000000 (b.take k)) (hx : a.getD k 0 = x) (hy : b.getD k 0 = y) (ht : t - bo' * 1000000000 = x - q * y - bo) (h0 : 0 ≤ t) (h1 : t < 1000000000) :
    Dig 1000000000 (P.set k t) ∧ ev 1000000000 ((P.set k t).take (k + 1)) - bo' * 1000000000 ^ (k + 1) = ev 1000000000 (a.take (k + 1)) - q * ev 1000000000 (b.take (k + 1)) := by
  refine ⟨h.1.set k h0 h1, ?_⟩
  rw [take_set hk]
  exact less_step (by rw [List.length_take]; omega) h.2 hx hy ht

def Less (a b : List Int) (q : Int) (s : List Int) (en : Bool) : Prop :=
  s.length = b.length ∧ Dig 1000000000 s ∧ ∃ bo, ev 1000000000 a - q * ev 1000000000 b = ev 1000000000 s + (a.getD b.length 0 - bo) * 1000000000 ^ b.length ∧ en = decide (bo ≤ a.getD b.length 0)

theorem mul_lt_sq {y q : Int} (hy0 : 0 ≤ y) (hy1 : y < 1000000000) (hq0 : 0 ≤ q) (hq1 : q < 1000000000) : 0 ≤ y * q ∧ y * q ≤ 999999999 * q ∧ y * q ≤ 999999998000000001 := by
  have h1 := Int.mul_nonneg hy0 hq0
  have h2 := Int.mul_le_mul_of_nonneg_right (show y ≤ 999999999 by omega) hq0
  omega

set_option maxRecDepth 100000 in
set_option maxHeartbeats 2000000 in
theorem lessTimes_any (a b : List Int) (q : Int) (u v : Value) (w : World) (hu : Row w u a) (hv : Row w v b) (ha : a.length ≤ b.length + 1) (hb : b.length ≤ 1000000000) (da : Dig 1000000000 a) (db : Dig 1000000000 b) (hq0 : 0 ≤ q) (hq1 : q < 1000000000) :
    Calls Tryz.prog 126 #[u, v, .int .i64 q] w fun e w' => ∃ x s en, e = .returned (.tuple #[x, .bool en]) ∧ Own w.heap.size w' x s ∧ Less a b q s en ∧ Below w.heap.size w w' := by
  obtain ⟨ua, uc, rfl⟩ := hu.val
  obtain ⟨va, vc, rfl⟩ := hv.val
  go_enter Tryz.func126, Tryz.ntmps126
  go_wp2_with (at_make; refine wpList_make64 rfl (.tmp 14) (.tmp 14) rfl _ _ b.length rfl rfl rfl rfl (by omega) ?_)
  intro w1 P0 HP0 hown1 hb1
  go_wp2_with fail
  go_loopw [9, 10] (fun c i wr => ∃ (k : Nat) (P : List Int) (bo : Int), k ≤ b.length ∧ i = .int .i64 k ∧ c = .int .i64 bo ∧ 0 ≤ bo ∧ bo ≤ q + 1 ∧ P.length = b.length ∧ wr.ownsRow w.heap.size 2 1 (.slice (some ⟨w.heap.size, 0, none⟩) b.length b.length) b.length (P.map (Value.int .i64)) ∧ Hid (Dig 1000000000 P ∧ ev 1000000000 (P.take k) - bo * 1000000000 ^ k = ev 1000000000 (a.take k) - q * ev 1000000000 (b.take k)) ∧ Below w.heap.size w wr)
    (fun _ i _ => b.length - (intOf i).toNat)
  case atStart => exact ⟨0, P0, 0, Nat.zero_le _, rfl, rfl, by omega, by omega, by rw [HP0.out]; simp, hown1, ⟨by rw [HP0.out]; exact Dig.zeros (by omega) _, by simp [ev]⟩, hb1⟩
  case round =>
    clear hown1 hb1 HP0
    obtain ⟨k, P, bo, hk, rfl, rfl, hc0, hc1, hP, hown, HE, hbel⟩ := hrel
    by_cases hlt : k < b.length
    · have hx := Dig.getD (by omega) da k
      have hy := Dig.getD (by omega) db k
      have hru := hu.below hbel
      obtain ⟨gb, rfl, hv1, hv2, hv3, hcv⟩ := hv.at k hlt
      have hcv' : wr.cell? ⟨gb, k, none⟩ = _ := (hbel.cell (p := ⟨gb, k, none⟩) hv3).trans hcv
      have hcx := limbAt_any a (.slice ua a.length uc) k wr hru (by omega) (by omega)
      obtain ⟨x, HX⟩ : ∃ x, Hid (a.getD k 0 = x) := ⟨_, rfl⟩
      obtain ⟨y, HY⟩ : ∃ y, Hid (b.getD k 0 = y) := ⟨_, rfl⟩
      rw [HX.out] at hx hcx
      rw [HY.out] at hy hcv'
      obtain ⟨hx0, hx1⟩ := hx
      obtain ⟨hy0, hy1⟩ := hy
      obtain ⟨hm0, hm1, hm2⟩ := mul_lt_sq hy0 hy1 hq0 hq1
      have hqy : q * y = y * q := Int.mul_comm _ _
      have hfp := hown.frozenAt k
      have hcp : wr.cell? ⟨w.heap.size, k, none⟩ = some (.int .i64 (P.getD k 0)) := by
        rw [hown.cellAt k (by omega)]
        simp [List.getD, show k < P.length by omega]
      generalize P.getD k 0 = p at hcp
      have hbq : (y * q + bo) / 1000000000 ≤ q := by omega
      have hbq0 : 0 ≤ (y * q + bo) / 1000000000 := by omega
      by_cases hneg : x - (y * q + bo) % 1000000000 < 0
      · have hs := less_set (t := x - (y * q + bo) % 1000000000 + 1000000000) (bo' := (y * q + bo) / 1000000000 + 1) (by omega) HE.out HX.out HY.out (by rw [hqy]; omega) (by omega) (by omega)
        have HS : Hid _ := hs
        have hst := (World.ownsRow.stored (w := wr) hown k (.int .i64 (x - (y * q + bo) % 1000000000 + 1000000000))).1
        rw [map_set] at hst
        have HST : Hid _ := hst
        clear hs hst HE HX HY hru hcv hqy
        go_wp2_with fail
        refine hcx.mono ?_
        rintro e w' ⟨rfl, rfl⟩
        clear hcx
        go_wp2
        go_roundw
        case rel => exact ⟨k + 1, _, _, by omega, by go_num, rfl, by omega, by omega, by simpa using hP, HST.out, HS, hbel.setCell (Nat.le_refl _) _⟩
        case measure => simp [intOf]; omega
      · have hs := less_set (t := x - (y * q + bo) % 1000000000) (bo' := (y * q + bo) / 1000000000) (by omega) HE.out HX.out HY.out (by rw [hqy]; omega) (by omega) (by omega)
        have HS : Hid _ := hs
        have hst := (World.ownsRow.stored (w := wr) hown k (.int .i64 (x - (y * q + bo) % 1000000000))).1
        rw [map_set] at hst
        have HST : Hid _ := hst
        clear hs hst HE HX HY hru hcv hqy
        go_wp2_with fail
        refine hcx.mono ?_
        rintro e w' ⟨rfl, rfl⟩
        clear hcx
        go_wp2
        go_roundw
        case rel => exact ⟨k + 1, _, _, by omega, by go_num, rfl, by omega, by omega, by simpa using hP, HST.out, HS, hbel.setCell (Nat.le_refl _) _⟩
        case measure => simp [intOf]; omega
    · obtain rfl : k = b.length := by omega
      have hall := less_all ha HE.out.2
      rw [List.take_of_length_le (by omega)] at hall
      have hru := hu.below hbel
      have hcx := limbAt_any a (.slice ua a.length uc) b.length wr hru (by omega) (by omega)
      have hxd := Dig.getD (by omega) da b.length
      have hdP := HE.out.1
      have HAL : Hid _ := hall
      clear hall HE
      obtain ⟨x, HX⟩ : ∃ x, Hid (a.getD b.length 0 = x) := ⟨_, rfl⟩
      rw [HX.out] at hcx HAL hxd
      go_wp2_with fail
      refine hcx.mono ?_
      rintro e w' ⟨rfl, rfl⟩
      go_wp2
      go_ret2
      exact ⟨_, P, _, rfl, made_own hown hP, ⟨hP, hdP, bo, by rw [HX.out]; exact HAL.out, by rw [HX.out]⟩, hbel⟩

end Go.Proofs.YtldcjkhbiffdoabGreatDoor

namespace Go.Proofs.YtldcjkhbiffdoabGreatDoor
open Go.RowKit

theorem ev_dropB {l : List Int} {j : Nat} (hj : j < l.length) : ev 1000000000 (l.drop j) = l.getD j 0 + 1000000000 * ev 1000000000 (l.drop (j + 1)) := by
  rw [List.drop_eq_getElem_cons hj, ← getD_lt hj]
  rfl

def LInv (a b P rl : List Int) (k : Nat) : Prop :=
  Dig 1000000000 P ∧ Dig 1000000000 rl ∧ ev 1000000000 (a.drop k) = ev 1000000000 (P.drop k) * ev 1000000000 b + ev 1000000000 rl ∧ ev 1000000000 rl < ev 1000000000 b

def qd (b rl : List Int) (x : Int) : Int := ev 1000000000 (x :: rl) / ev 1000000000 b

theorem qd_spec {b rl : List Int} {x : Int} (hb : 0 < ev 1000000000 b) (hr0 : 0 ≤ ev 1000000000 rl) (hr : ev 1000000000 rl < ev 1000000000 b) (hx0 : 0 ≤ x) (hx1 : x < 1000000000) :
    0 ≤ qd b rl x ∧ qd b rl x < 1000000000 ∧ qd b rl x * ev 1000000000 b ≤ ev 1000000000 (x :: rl) ∧ ev 1000000000 (x :: rl) < qd b rl x * ev 1000000000 b + ev 1000000000 b := by
  have hA : ev 1000000000 (x :: rl) = x + 1000000000 * ev 1000000000 rl := rfl
  unfold qd
  generalize ev 1000000000 (x :: rl) = A at *
  generalize ev 1000000000 b = D at *
  generalize ev 1000000000 rl = r at *
  have h0 : 0 ≤ A := by omega
  have h1 := Int.mul_ediv_add_emod A D
  have h2 := Int.emod_nonneg A (show D ≠ 0 by omega)
  have h3 := Int.emod_lt_of_pos A hb
  have h4 : 0 ≤ A / D := Int.ediv_nonneg h0 (by omega)
  rw [Int.mul_comm] at h1
  refine ⟨h4, ?_, by omega, by omega⟩
  rcases Int.lt_or_le (A / D) 1000000000 with h | h
  · exact h
  · have := Int.mul_le_mul_of_nonneg_right h (Int.le_of_lt hb)
    omega

theorem LInv.next {a b P rl s : List Int} {j : Nat} {x q : Int} (h : LInv a b P rl (j + 1)) (hj : j < a.length) (hjP : j < P.length) (hx : a.getD j 0 = x) (hq0 : 0 ≤ q) (hq1 : q < 1000000000) (ds : Dig 1000000000 s)
    (hs : ev 1000000000 s = ev 1000000000 (x :: rl) - q * ev 1000000000 b) (hlt : ev 1000000000 (x :: rl) < q * ev 1000000000 b + ev 1000000000 b) : LInv a b (P.set j q) s j := by
  obtain ⟨h1, h2, h3, h4⟩ := h
  refine ⟨h1.set j hq0 hq1, ds, ?_, by omega⟩
  have hd : (P.set j q).drop (j + 1) = P.drop (j + 1) := List.drop_set_of_lt (by omega)
  have hg : (P.set j q).getD j 0 = q := by simp [List.getD, hjP]
  rw [ev_dropB hj, hx, h3, ev_dropB (show j < (P.set j q).length by simpa using hjP), hg, hd, hs]
  have hA : ev 1000000000 (x :: rl) = x + 1000000000 * ev 1000000000 rl := rfl
  rw [hA, Int.add_mul, Int.mul_add, Int.mul_assoc]
  omega

theorem gs_spec {a b : List Int} {q : Int} (da : Dig 1000000000 a) (db : Dig 1000000000 b) (hb : 0 < b.length) (ht : Trim b) (ha : a.length ≤ b.length + 1) (hq0 : 0 ≤ q) (hq1 : q < 1000000000) (hle : q * ev 1000000000 b ≤ ev 1000000000 a) :
    q ≤ gs a b ∧ gs a b < 1000000000 := by
  have hd : 0 < b.getD (b.length - 1) 0 := by
    have h0 := (Dig.getD (by omega) db (b.length - 1)).1
    have h1 : b.getD (b.length - 1) 0 ≠ 0 := by
      refine ht _ ?_
      rw [List.getLast?_eq_getElem?, getD_lt (show b.length - 1 < b.length by omega)]
      exact List.getElem?_eq_getElem (by omega)
    omega
  have h1 := guess_ge (n := b.length - 1) (by omega) da db (by omega) (by omega) hd hq0 hle
  unfold gs
  rw [if_neg (by omega)]
  split
  · omega
  · exact ⟨h1, by omega⟩

theorem gs_nonneg {a b : List Int} (da : Dig 1000000000 a) : 0 ≤ gs a b := by
  unfold gs
  split
  · omega
  · split
    · omega
    · have h1 := Dig.getD (by omega) da (b.length - 1 + 1)
      have h2 := Dig.getD (by omega) da (b.length - 1)
      exact Int.ediv_nonneg (by omega) (by omega)

theorem rowO_cut {w : World} {ga N uc : Nat} {a : List Int} (hu : Row w (.slice (some ⟨ga, 0, none⟩) a.length uc) a) : RowO w (.slice (some ⟨ga, N, none⟩) (a.length - N) (uc - N)) (a.drop N) := by
  refine ⟨_, _, by rw [List.length_drop], fun i hi => ?_⟩
  rw [List.length_drop] at hi
  obtain ⟨g, e, h1, h2, h3, h4⟩ := hu.at (N + i) (by omega)
  simp at e
  subst e
  refine ⟨ga, N, rfl, by rw [List.length_drop]; omega, by omega, h3, ?_⟩
  rw [h4]
  simp [List.getD, List.getElem?_drop]
theorem rowO_cut0 {w : World} {N : Nat} {x : Option Addr} {c : Nat} {a : List Int} (h : a.length ≤ N) : RowO w (.slice x (a.length - N) c) (a.drop N) := by
  refine ⟨_, _, by rw [List.length_drop], fun i hi => ?_⟩
  rw [List.length_drop] at hi
  omega
theorem Own.mono {B B' : Nat} {w : World} {v : Value} {l : List Int} (h : Own B w v l) (hb : B' ≤ B) : Own B' w v l := by
  refine ⟨h.1, ?_⟩
  rcases h.2 with h1 | ⟨g, cap, cur, hv, hb0, r⟩
  · exact .inl h1
  · exact .inr ⟨g, cap, cur, hv, Nat.le_trans hb hb0, r⟩
theorem owns_later {w w' : World} {B n : Nat} {v : Value} {xs : List Value} (h : w.ownsRow B 2 1 v n xs) (hb : Below w.heap.size w w') : w'.ownsRow B 2 1 v n xs := by
  refine ⟨h.1, ?_⟩
  rcases h.2 with h1 | ⟨g, cap, cur, hv, hb0, hg, r⟩
  · exact .inl h1
  · exact .inr ⟨g, cap, cur, hv, hb0, by rw [hb.block g (Array.getElem?_eq_some_iff.1 hg).1]; exact hg, r⟩

set_option maxRecDepth 100000 in
set_option maxHeartbeats 4000000 in
theorem longDivision_any (a b : List Int) (u v : Value) (w : World) (hu : Row w u a) (hv : Row w v b) (ha : a.length ≤ 500000000) (hba : b.length ≤ a.length) (hb0 : 0 < b.length) (da : Dig 1000000000 a) (db : Dig 1000000000 b) (tb : Trim b) :
    Calls Tryz.prog 110 #[u, v] w fun e w' => ∃ x y Q s, e = .returned (.tuple #[x, y]) ∧ Row w' x Q ∧ Row w' y s ∧ Dig 1000000000 Q ∧ Dig 1000000000 s ∧ Q.length ≤ a.length ∧ s.length = b.length ∧ ev 1000000000 a = ev 1000000000 Q * ev 1000000000 b + ev 1000000000 s ∧ ev 1000000000 s < ev 1000000000 b ∧ Below w.heap.size w w' := by
  obtain ⟨ua, uc, rfl⟩ := hu.val
  obtain ⟨va, vc, rfl⟩ := hv.val
  have hbne : b ≠ [] := List.length_pos_iff.1 hb0
  have hbp := ev_ne db tb hbne
  obtain ⟨N, HN⟩ : ∃ N, Hid (a.length - b.length + 1 = N) := ⟨_, rfl⟩
  have hN1 : (a.length : Int) - b.length + 1 = N := by have := HN.out; omega
  have hN2 : N ≤ a.length := by have := HN.out; omega
  have hN3 : 1 ≤ N := by have := HN.out; omega
  have hN4 : N + b.length = a.length + 1 := by have := HN.out; omega
  have hN5 : (a.length : Int) - b.length = (N : Int) - 1 := by omega
  obtain ⟨ga, rfl, hc1, hc2, hga, _⟩ := hu.at 0 (by omega)
  have hstart : LInv a b (List.replicate N 0) (a.drop N) N := by
    refine ⟨Dig.zeros (by omega) _, da.drop N, ?_, ?_⟩
    · rw [List.drop_of_length_le (show (List.replicate N (0 : Int)).length ≤ N by simp)]
      show _ = 0 * _ + _
      omega
    · have h1 := ev_lt (by omega) (da.drop N)
      have h2 := ev_ge (by omega) db tb hbne
      rw [List.length_drop, show a.length - N = b.length - 1 by omega] at h1
      omega
  have HST : Hid _ := hstart
  clear hstart
  obtain ⟨T, HT⟩ : ∃ T : World → Value → Value → Prop, Hid (T = fun w' x y => ∃ Q s, Row w' x Q ∧ Row w' y s ∧ Dig 1000000000 Q ∧ Dig 1000000000 s ∧ Q.length ≤ a.length ∧ s.length = b.length ∧ ev 1000000000 a = ev 1000000000 Q * ev 1000000000 b + ev 1000000000 s ∧ ev 1000000000 s < ev 1000000000 b) := ⟨_, rfl⟩
  have hgoal : (fun e w' => ∃ x y Q s, e = Ending.returned (.tuple #[x, y]) ∧ Row w' x Q ∧ Row w' y s ∧ Dig 1000000000 Q ∧ Dig 1000000000 s ∧ Q.length ≤ a.length ∧ s.length = b.length ∧ ev 1000000000 a = ev 1000000000 Q * ev 1000000000 b + ev 1000000000 s ∧ ev 1000000000 s < ev 1000000000 b ∧ Below w.heap.size w w') = fun e w' => ∃ x y, e = Ending.returned (.tuple #[x, y]) ∧ T w' x y ∧ Below w.heap.size w w' := by
    funext e w'
    rw [HT.out]
    apply propext
    constructor
    · rintro ⟨x, y, Q, s, h1, h2, h3, h4, h5, h6, h7, h8, h9, h10⟩; exact ⟨x, y, h1, ⟨Q, s, h2, h3, h4, h5, h6, h7, h8, h9⟩, h10⟩
    · rintro ⟨x, y, h1, ⟨Q, s, h2, h3, h4, h5, h6, h7, h8, h9⟩, h10⟩; exact ⟨x, y, Q, s, h1, h2, h3, h4, h5, h6, h7, h8, h9, h10⟩
  rw [hgoal]
  clear hgoal
  have hbz : ((b.length : Int) == 0) = false := by rw [beq_eq_false_iff_ne]; omega
  go_enter Tryz.func110, Tryz.ntmps110
  go_wp2_with (at_make; refine wpList_make64 rfl (.tmp 29) (.tmp 29) rfl _ _ N rfl rfl (by omega) (by omega) (by omega) ?_)
  intro w1 P0 HP0 hown1 hb1
  go_wp2_with fail
  · have hr0 : RowO w1 (.slice (some ⟨ga, 0, none⟩) (a.length - N) 0) (a.drop N) := rowO_cut0 (by omega)
    have hP0 : P0.length = N := by rw [HP0.out]; simp
    rw [← HP0.out] at HST
    go_loopw [8, 9] (fun r i wr => ∃ (k : Nat) (rl P : List Int), i = .int .i64 ((k : Int) - 1) ∧ k ≤ N ∧ RowO wr r rl ∧ rl.length ≤ b.length ∧ (k < N → Row wr r rl ∧ rl.length = b.length) ∧ P.length = N ∧ wr.ownsRow w.heap.size 2 1 (.slice (some ⟨w.heap.size, 0, none⟩) N N) N (P.map (Value.int .i64)) ∧ Hid (LInv a b P rl k) ∧ Below w.heap.size w wr) (fun _ i _ => (intOf i + 1).toNat)
    case atStart => exact ⟨N, a.drop N, P0, rfl, Nat.le_refl _, hr0, by rw [List.length_drop]; omega, fun h => absurd h (Nat.lt_irrefl _), hP0, hown1, HST, hb1⟩
    case round =>
      clear hr0 hown1 hb1 HP0 HST hP0
      obtain ⟨k, rl, P, rfl, hk, hr, hrl, hrR, hP, hown, HI, hbel⟩ := hrel
      cases k with
      | zero =>
        have hI := HI.out
        unfold LInv at hI
        rw [List.drop_zero, List.drop_zero] at hI
        have HI2 : Hid _ := hI
        have hrow := (made_own hown hP).row
        have hrR := hrR (by omega)
        clear hI HI
        go_wp2
        go_ret2
        refine ⟨_, _, rfl, ?_, hbel⟩
        rw [HT.out]
        exact ⟨P, rl, hrow, hrR.1, HI2.out.1, HI2.out.2.1, by omega, hrR.2, HI2.out.2.2.1, HI2.out.2.2.2⟩
      | succ j =>
        clear hrR
        rw [show (((j + 1 : Nat) : Int) - 1) = (j : Int) by omega]
        obtain ⟨g', hge, _, _, _, hcell⟩ := hu.at j (by omega)
        simp at hge
        subst hge
        have hcell2 : wr.cell? ⟨ga, j, none⟩ = some (.int .i64 (a.getD j 0)) := (hbel.cell (p := ⟨ga, j, none⟩) hga).trans hcell
        have hxd := Dig.getD (by omega) da j
        obtain ⟨x, HX⟩ : ∃ x, Hid (a.getD j 0 = x) := ⟨_, rfl⟩
        rw [HX.out] at hcell2 hxd
        have drl := HI.out.2.1
        have hq := qd_spec hbp (ev_nonneg (by omega) drl) HI.out.2.2.2 hxd.1 hxd.2
        have dlo : Dig 1000000000 (x :: rl) := fun y hy => by
          rcases List.mem_cons.1 hy with h | h
          · rw [h]; exact hxd
          · exact drl y h
        have hgs := gs_spec (a := x :: rl) dlo db hb0 tb (by simp; omega) hq.1 hq.2.1 hq.2.2.1
        have hgn := gs_nonneg (a := x :: rl) (b := b) dlo
        have hnext := fun (q : Int) (s : List Int) (h0 : 0 ≤ q) (h1 : q < 1000000000) (ds : Dig 1000000000 s) (hs : ev 1000000000 s = ev 1000000000 (x :: rl) - q * ev 1000000000 b) (hlt : ev 1000000000 (x :: rl) < q * ev 1000000000 b + ev 1000000000 b) => LInv.next HI.out (show j < a.length by omega) (show j < P.length by omega) HX.out h0 h1 ds hs hlt
        have HNX : Hid _ := hnext
        obtain ⟨d, HDd⟩ : ∃ d, Hid (qd b rl x = d) := ⟨_, rfl⟩
        rw [HDd.out] at hq hgs
        have HQ : Hid _ := hq.2.2
        have hd0 := hq.1
        have hd1 := hq.2.1
        have hWL := withLowest_any rl x _ wr hr (by omega)
        obtain ⟨ra, rc, rfl, _⟩ := id hr
        clear hnext hq hcell HX HDd HI
        go_wp2_with fail
        refine hWL.mono ?_
        rintro e w2 ⟨v2, rfl, hown2, hb2⟩
        have hrow2 := hown2.row
        obtain ⟨ya, yc, rfl⟩ := hrow2.val
        have hbw2 := hbel.trans (hb2.mono hbel.size)
        go_wp2_with fail
        refine (guess_any (x :: rl) b _ _ w2 hrow2 (hv.below hbw2) (by simp; omega) (by omega) hb0 dlo db).mono ?_
        rintro e w3 ⟨rfl, rfl⟩
        generalize gs (x :: rl) b = gg at *
        go_wp2_with fail
        refine (lessTimes_any (x :: rl) b gg _ _ w3 hrow2 (hv.below hbw2) (by simp; omega) (by omega) dlo db hgn hgs.2).mono ?_
        rintro e w4 ⟨v4, s4, en4, rfl, hown4, hL4, hb4⟩
        have hrow4 := hown4.row
        have hgs1 := hgs.1
        have hgs2 := hgs.2
        go_wp2_with fail
        have hwo : ∃ wo : World, wo = wr := ⟨_, rfl⟩
        obtain ⟨wo, rfl⟩ := hwo
        go_loopw [11, 12, 13] (fun l lf en wq => ∃ (q : Int) (s : List Int) (e' : Bool), l = .int .i64 q ∧ en = .bool e' ∧ d ≤ q ∧ 0 ≤ q ∧ q < 1000000000 ∧ Own w3.heap.size wq lf s ∧ Hid (Less (x :: rl) b q s e') ∧ Below w3.heap.size w3 wq) (fun l _ _ _ => (intOf l).toNat)
        case atStart => exact ⟨gg, s4, en4, rfl, rfl, hgs1, hgn, hgs2, hown4, hL4, hb4⟩
        case round =>
          clear hrow4 hL4 hb4 hown4 hgs hgs1 hgs2 hgn hWL
          obtain ⟨q, s, e', rfl, rfl, hdq, hq0, hq1, hos, HL, hbq⟩ := hrel
          have hrs := hos.row
          obtain ⟨sa, sc, rfl⟩ := hrs.val
          have hbow : Below wo.heap.size wo wr := hb2.trans (hbq.mono hb2.size)
          have hbwr := hbel.trans (hbow.mono hbel.size)
          obtain ⟨hsl, dss, bo, hle, hen⟩ := HL.out
          have hless := less_enough (by omega) hsl dss hle
          have hkey : (e' = true ↔ q * ev 1000000000 b ≤ ev 1000000000 (x :: rl)) := by rw [hen, decide_eq_true_iff]; exact hless.1
          have hup : q * ev 1000000000 b ≤ ev 1000000000 (x :: rl) → q = d := by
            intro h
            have h1 := HQ.out.2
            rcases Int.lt_or_le d q with h2 | h2
            · have := Int.mul_le_mul_of_nonneg_right (show d + 1 ≤ q by omega) (Int.le_of_lt hbp)
              rw [Int.add_mul, Int.one_mul] at this
              omega
            · omega
          have hdone : q = d → LInv a b (P.set j q) s j := by
            intro h
            subst h
            exact HNX.out q s hq0 hq1 dss (hless.2 HQ.out.1 HQ.out.2 db) HQ.out.2
          have hdown : e' = false → d ≤ q - 1 := by
            intro h
            rcases Int.lt_or_le d q with h2 | h2
            · omega
            · obtain rfl : q = d := by omega
              rw [hkey.2 HQ.out.1] at h
              cases h
          have hownr := owns_later hown hbow
          have hfp := hownr.frozenAt j
          have hcp : wr.cell? ⟨w.heap.size, j, none⟩ = some (.int .i64 (P.getD j 0)) := by
            rw [hownr.cellAt j (by omega)]
            simp [List.getD, show j < P.length by omega]
          generalize P.getD j 0 = p at hcp
          have hst := (World.ownsRow.stored (w := wr) hownr j (.int .i64 q)).1
          rw [map_set] at hst
          have HST : Hid _ := hst
          have hrowO : Row (wr.setCell ⟨w.heap.size, j, none⟩ (.int .i64 q)) (.slice sa s.length sc) s := Own.row (ownsRow_setCell_below (a := ⟨w.heap.size, j, none⟩) hos (Nat.lt_of_lt_of_le (World.ownsRow.lt hown _ rfl).2 hb2.size) _)
          have HRO : Hid _ := hrowO
          have hexit : (e' = true ∨ q = 0) → q = d := by
            rintro (h | h)
            · exact hup (hkey.1 h)
            · omega
          have HEX : Hid _ := fun h => hdone (hexit h)
          have HDW : Hid _ := hdown
          clear hst hrowO hos hdone hup hkey hless hle hen hexit hdown HL
          have hcase : (e' = false ∧ 0 < q) ∨ (e' = true ∨ (e' = false ∧ q = 0)) := by
            cases e'
            · rcases (show 0 < q ∨ q = 0 by omega) with h | h
              · exact .inl ⟨rfl, h⟩
              · exact .inr (.inr ⟨rfl, h⟩)
            · exact .inr (.inl rfl)
          rcases hcase with ⟨rfl, hqp⟩ | (rfl | ⟨rfl, rfl⟩)
          · have hd2 := HDW.out rfl
            have hLT := lessTimes_any (x :: rl) b (q - 1) (.slice ya (x :: rl).length yc) (.slice va b.length vc) wr (hrow2.below hbq) (hv.below hbwr) (by simp; omega) (by omega) dlo db (by omega) (by omega)
            clear HST HRO HEX HDW hfp hcp hownr
            go_wp2_with fail
            refine hLT.mono ?_
            rintro e w6 ⟨v6, s6, en6, rfl, hown6, hL6, hb6⟩
            have hrow6 := hown6.row
            go_wp2
            go_roundw
            case rel => exact ⟨q - 1, s6, en6, rfl, rfl, hd2, by omega, by omega, Own.mono hown6 hbq.size, hL6, hbq.trans (hb6.mono hbq.size)⟩
            case measure => simp [intOf]; omega
          · have HI2 : Hid _ := HEX.out (.inl rfl)
            clear HEX HDW
            by_cases hqp : 0 < q
            all_goals
              go_wp2
              go_roundw
              case rel => exact ⟨j, s, P.set j q, by go_num, by omega, Row.rowO HRO.out, by omega, fun _ => ⟨HRO.out, hsl⟩, by simpa using hP, HST.out, HI2, hbwr.setCell (Nat.le_refl _) _⟩
              case measure => simp [intOf]
          · have HI2 : Hid _ := HEX.out (.inr rfl)
            clear HEX HDW
            go_wp2
            go_roundw
            case rel => exact ⟨j, s, P.set j 0, by go_num, by omega, Row.rowO HRO.out, by omega, fun _ => ⟨HRO.out, hsl⟩, by simpa using hP, HST.out, HI2, hbwr.setCell (Nat.le_refl _) _⟩
            case measure => simp [intOf]
  · have hr0 : RowO w1 (.slice (some ⟨ga, N, none⟩) (a.length - N) (uc - N)) (a.drop N) := rowO_cut (hu.below hb1)
    have hP0 : P0.length = N := by rw [HP0.out]; simp
    rw [← HP0.out] at HST
    go_loopw [8, 9] (fun r i wr => ∃ (k : Nat) (rl P : List Int), i = .int .i64 ((k : Int) - 1) ∧ k ≤ N ∧ RowO wr r rl ∧ rl.length ≤ b.length ∧ (k < N → Row wr r rl ∧ rl.length = b.length) ∧ P.length = N ∧ wr.ownsRow w.heap.size 2 1 (.slice (some ⟨w.heap.size, 0, none⟩) N N) N (P.map (Value.int .i64)) ∧ Hid (LInv a b P rl k) ∧ Below w.heap.size w wr) (fun _ i _ => (intOf i + 1).toNat)
    case atStart => exact ⟨N, a.drop N, P0, rfl, Nat.le_refl _, hr0, by rw [List.length_drop]; omega, fun h => absurd h (Nat.lt_irrefl _), hP0, hown1, HST, hb1⟩
    case round =>
      clear hr0 hown1 hb1 HP0 HST hP0
      obtain ⟨k, rl, P, rfl, hk, hr, hrl, hrR, hP, hown, HI, hbel⟩ := hrel
      cases k with
      | zero =>
        have hI := HI.out
        unfold LInv at hI
        rw [List.drop_zero, List.drop_zero] at hI
        have HI2 : Hid _ := hI
        have hrow := (made_own hown hP).row
        have hrR := hrR (by omega)
        clear hI HI
        go_wp2
        go_ret2
        refine ⟨_, _, rfl, ?_, hbel⟩
        rw [HT.out]
        exact ⟨P, rl, hrow, hrR.1, HI2.out.1, HI2.out.2.1, by omega, hrR.2, HI2.out.2.2.1, HI2.out.2.2.2⟩
      | succ j =>
        clear hrR
        rw [show (((j + 1 : Nat) : Int) - 1) = (j : Int) by omega]
        obtain ⟨g', hge, _, _, _, hcell⟩ := hu.at j (by omega)
        simp at hge
        subst hge
        have hcell2 : wr.cell? ⟨ga, j, none⟩ = some (.int .i64 (a.getD j 0)) := (hbel.cell (p := ⟨ga, j, none⟩) hga).trans hcell
        have hxd := Dig.getD (by omega) da j
        obtain ⟨x, HX⟩ : ∃ x, Hid (a.getD j 0 = x) := ⟨_, rfl⟩
        rw [HX.out] at hcell2 hxd
        have drl := HI.out.2.1
        have hq := qd_spec hbp (ev_nonneg (by omega) drl) HI.out.2.2.2 hxd.1 hxd.2
        have dlo : Dig 1000000000 (x :: rl) := fun y hy => by
          rcases List.mem_cons.1 hy with h | h
          · rw [h]; exact hxd
          · exact drl y h
        have hgs := gs_spec (a := x :: rl) dlo db hb0 tb (by simp; omega) hq.1 hq.2.1 hq.2.2.1
        have hgn := gs_nonneg (a := x :: rl) (b := b) dlo
        have hnext := fun (q : Int) (s : List Int) (h0 : 0 ≤ q) (h1 : q < 1000000000) (ds : Dig 1000000000 s) (hs : ev 1000000000 s = ev 1000000000 (x :: rl) - q * ev 1000000000 b) (hlt : ev 1000000000 (x :: rl) < q * ev 1000000000 b + ev 1000000000 b) => LInv.next HI.out (show j < a.length by omega) (show j < P.length by omega) HX.out h0 h1 ds hs hlt
        have HNX : Hid _ := hnext
        obtain ⟨d, HDd⟩ : ∃ d, Hid (qd b rl x = d) := ⟨_, rfl⟩
        rw [HDd.out] at hq hgs
        have HQ : Hid _ := hq.2.2
        have hd0 := hq.1
        have hd1 := hq.2.1
        have hWL := withLowest_any rl x _ wr hr (by omega)
        obtain ⟨ra, rc, rfl, _⟩ := id hr
        clear hnext hq hcell HX HDd HI
        go_wp2_with fail
        refine hWL.mono ?_
        rintro e w2 ⟨v2, rfl, hown2, hb2⟩
        have hrow2 := hown2.row
        obtain ⟨ya, yc, rfl⟩ := hrow2.val
        have hbw2 := hbel.trans (hb2.mono hbel.size)
        go_wp2_with fail
        refine (guess_any (x :: rl) b _ _ w2 hrow2 (hv.below hbw2) (by simp; omega) (by omega) hb0 dlo db).mono ?_
        rintro e w3 ⟨rfl, rfl⟩
        generalize gs (x :: rl) b = gg at *
        go_wp2_with fail
        refine (lessTimes_any (x :: rl) b gg _ _ w3 hrow2 (hv.below hbw2) (by simp; omega) (by omega) dlo db hgn hgs.2).mono ?_
        rintro e w4 ⟨v4, s4, en4, rfl, hown4, hL4, hb4⟩
        have hrow4 := hown4.row
        have hgs1 := hgs.1
        have hgs2 := hgs.2
        go_wp2_with fail
        have hwo : ∃ wo : World, wo = wr := ⟨_, rfl⟩
        obtain ⟨wo, rfl⟩ := hwo
        go_loopw [11, 12, 13] (fun l lf en wq => ∃ (q : Int) (s : List Int) (e' : Bool), l = .int .i64 q ∧ en = .bool e' ∧ d ≤ q ∧ 0 ≤ q ∧ q < 1000000000 ∧ Own w3.heap.size wq lf s ∧ Hid (Less (x :: rl) b q s e') ∧ Below w3.heap.size w3 wq) (fun l _ _ _ => (intOf l).toNat)
        case atStart => exact ⟨gg, s4, en4, rfl, rfl, hgs1, hgn, hgs2, hown4, hL4, hb4⟩
        case round =>
          clear hrow4 hL4 hb4 hown4 hgs hgs1 hgs2 hgn hWL
          obtain ⟨q, s, e', rfl, rfl, hdq, hq0, hq1, hos, HL, hbq⟩ := hrel
          have hrs := hos.row
          obtain ⟨sa, sc, rfl⟩ := hrs.val
          have hbow : Below wo.heap.size wo wr := hb2.trans (hbq.mono hb2.size)
          have hbwr := hbel.trans (hbow.mono hbel.size)
          obtain ⟨hsl, dss, bo, hle, hen⟩ := HL.out
          have hless := less_enough (by omega) hsl dss hle
          have hkey : (e' = true ↔ q * ev 1000000000 b ≤ ev 1000000000 (x :: rl)) := by rw [hen, decide_eq_true_iff]; exact hless.1
          have hup : q * ev 1000000000 b ≤ ev 1000000000 (x :: rl) → q = d := by
            intro h
            have h1 := HQ.out.2
            rcases Int.lt_or_le d q with h2 | h2
            · have := Int.mul_le_mul_of_nonneg_right (show d + 1 ≤ q by omega) (Int.le_of_lt hbp)
              rw [Int.add_mul, Int.one_mul] at this
              omega
            · omega
          have hdone : q = d → LInv a b (P.set j q) s j := by
            intro h
            subst h
            exact HNX.out q s hq0 hq1 dss (hless.2 HQ.out.1 HQ.out.2 db) HQ.out.2
          have hdown : e' = false → d ≤ q - 1 := by
            intro h
            rcases Int.lt_or_le d q with h2 | h2
            · omega
            · obtain rfl : q = d := by omega
              rw [hkey.2 HQ.out.1] at h
              cases h
          have hownr := owns_later hown hbow
          have hfp := hownr.frozenAt j
          have hcp : wr.cell? ⟨w.heap.size, j, none⟩ = some (.int .i64 (P.getD j 0)) := by
            rw [hownr.cellAt j (by omega)]
            simp [List.getD, show j < P.length by omega]
          generalize P.getD j 0 = p at hcp
          have hst := (World.ownsRow.stored (w := wr) hownr j (.int .i64 q)).1
          rw [map_set] at hst
          have HST : Hid _ := hst
          have hrowO : Row (wr.setCell ⟨w.heap.size, j, none⟩ (.int .i64 q)) (.slice sa s.length sc) s := Own.row (ownsRow_setCell_below (a := ⟨w.heap.size, j, none⟩) hos (Nat.lt_of_lt_of_le (World.ownsRow.lt hown _ rfl).2 hb2.size) _)
          have HRO : Hid _ := hrowO
          have hexit : (e' = true ∨ q = 0) → q = d := by
            rintro (h | h)
            · exact hup (hkey.1 h)
            · omega
          have HEX : Hid _ := fun h => hdone (hexit h)
          have HDW : Hid _ := hdown
          clear hst hrowO hos hdone hup hkey hless hle hen hexit hdown HL
          have hcase : (e' = false ∧ 0 < q) ∨ (e' = true ∨ (e' = false ∧ q = 0)) := by
            cases e'
            · rcases (show 0 < q ∨ q = 0 by omega) with h | h
              · exact .inl ⟨rfl, h⟩
              · exact .inr (.inr ⟨rfl, h⟩)
            · exact .inr (.inl rfl)
          rcases hcase with ⟨rfl, hqp⟩ | (rfl | ⟨rfl, rfl⟩)
          · have hd2 := HDW.out rfl
            have hLT := lessTimes_any (x :: rl) b (q - 1) (.slice ya (x :: rl).length yc) (.slice va b.length vc) wr (hrow2.below hbq) (hv.below hbwr) (by simp; omega) (by omega) dlo db (by omega) (by omega)
            clear HST HRO HEX HDW hfp hcp hownr
            go_wp2_with fail
            refine hLT.mono ?_
            rintro e w6 ⟨v6, s6, en6, rfl, hown6, hL6, hb6⟩
            have hrow6 := hown6.row
            go_wp2
            go_roundw
            case rel => exact ⟨q - 1, s6, en6, rfl, rfl, hd2, by omega, by omega, Own.mono hown6 hbq.size, hL6, hbq.trans (hb6.mono hbq.size)⟩
            case measure => simp [intOf]; omega
          · have HI2 : Hid _ := HEX.out (.inl rfl)
            clear HEX HDW
            by_cases hqp : 0 < q
            all_goals
              go_wp2
              go_roundw
              case rel => exact ⟨j, s, P.set j q, by go_num, by omega, Row.rowO HRO.out, by omega, fun _ => ⟨HRO.out, hsl⟩, by simpa using hP, HST.out, HI2, hbwr.setCell (Nat.le_refl _) _⟩
              case measure => simp [intOf]
          · have HI2 : Hid _ := HEX.out (.inr rfl)
            clear HEX HDW
            go_wp2
            go_roundw
            case rel => exact ⟨j, s, P.set j 0, by go_num, by omega, Row.rowO HRO.out, by omega, fun _ => ⟨HRO.out, hsl⟩, by simpa using hP, HST.out, HI2, hbwr.setCell (Nat.le_refl _) _⟩
            case measure => simp [intOf]

end Go.Proofs.YtldcjkhbiffdoabGreatDoor

namespace Go.Proofs.YtldcjkhbiffdoabGreatDoor
open Go.RowKit

theorem pow_le_pow9 {m n : Nat} (h : m ≤ n) : (1000000000 : Int) ^ m ≤ 1000000000 ^ n := by
  obtain ⟨k, rfl⟩ : ∃ k, n = m + k := ⟨n - m, by omega⟩
  rw [Int.pow_add]
  have h5 : (0 : Int) < 1000000000 ^ k := Int.pow_pos (by omega)
  have := Int.mul_le_mul_of_nonneg_left (show (1 : Int) ≤ 1000000000 ^ k by omega) (Int.le_of_lt (pow_pos (show (0 : Int) < 1000000000 by omega) m))
  omega

theorem len_le_of {s : List Int} {n : Nat} (d : Dig 1000000000 s) (t : Trim s) (h : ev 1000000000 s < 1000000000 ^ n) : s.length ≤ n := by
  rcases Nat.lt_or_ge n s.length with hlt | hge
  · have hne : s ≠ [] := by intro e; subst e; simp at hlt
    have h1 := ev_ge (by omega) d t hne
    have h2 := pow_le_pow9 (show n ≤ s.length - 1 by omega)
    omega
  · exact hge

theorem len_gt_of {s : List Int} {n : Nat} (d : Dig 1000000000 s) (h : 1000000000 ^ n ≤ ev 1000000000 s) : n < s.length := by
  rcases Nat.lt_or_ge n s.length with hlt | hge
  · exact hlt
  · have h1 := ev_lt (by omega) d
    have h2 := pow_le_pow9 hge
    omega

theorem top_pos {b : List Int} (db : Dig 1000000000 b) (ht : Trim b) (hb : 0 < b.length) : 0 < b.getD (b.length - 1) 0 ∧ b.getD (b.length - 1) 0 < 1000000000 := by
  have h0 := Dig.getD (by omega) db (b.length - 1)
  have h1 : b.getD (b.length - 1) 0 ≠ 0 := by
    refine ht _ ?_
    rw [List.getLast?_eq_getElem?, getD_lt (show b.length - 1 < b.length by omega)]
    exact List.getElem?_eq_getElem (by omega)
  omega

theorem scale_lt {b : List Int} {c : Int} (db : Dig 1000000000 b) (hb : 0 < b.length) (hc : 0 < c) (h : c * (b.getD (b.length - 1) 0 + 1) ≤ 1000000000) : ev 1000000000 b * c < 1000000000 ^ b.length := by
  have h1 := ev_take 1000000000 b (b.length - 1)
  rw [show b.length - 1 + 1 = b.length by omega, List.take_of_length_le (Nat.le_refl _)] at h1
  have h2 := ev_lt (by omega) (db.take (b.length - 1))
  rw [List.length_take, Nat.min_eq_left (by omega)] at h2
  have h3 : (1000000000 : Int) ^ b.length = 1000000000 * 1000000000 ^ (b.length - 1) := by
    rw [← Int.pow_succ', show b.length - 1 + 1 = b.length by omega]
  rw [h1, h3]
  generalize ev 1000000000 (b.take (b.length - 1)) = e at *
  generalize b.getD (b.length - 1) 0 = d at *
  have hp := pow_pos (show (0 : Int) < 1000000000 by omega) (b.length - 1)
  generalize (1000000000 : Int) ^ (b.length - 1) = p at *
  have h4 : (e + d * p) * c < (p + d * p) * c := Int.mul_lt_mul_of_pos_right (by omega) hc
  have h5 : (p + d * p) * c = c * (d + 1) * p := by
    rw [show p + d * p = (d + 1) * p by rw [Int.add_mul, Int.one_mul, Int.add_comm], Int.mul_comm, ← Int.mul_assoc]
  have h6 := Int.mul_le_mul_of_nonneg_right h (Int.le_of_lt hp)
  omega

theorem unscale {A D Q S Q2 r c : Int} (hc : 0 < c) (h1 : A * c = Q * (D * c) + S) (h2 : S < D * c) (h3 : S = Q2 * c + r) (hr0 : 0 ≤ r) (hr : r < c) : A = Q * D + Q2 ∧ Q2 < D := by
  have h4 : (A - Q * D - Q2) * c = r := by
    rw [Int.sub_mul, Int.sub_mul, Int.mul_assoc]; omega
  have h5 : A - Q * D - Q2 = 0 := by
    generalize A - Q * D - Q2 = k at h4
    rcases Int.lt_or_le 0 k with h | h
    · have := Int.mul_le_mul_of_nonneg_right (show 1 ≤ k by omega) (Int.le_of_lt hc)
      omega
    · rcases Int.lt_or_le k 0 with h' | h'
      · have := Int.mul_le_mul_of_nonneg_right (show k ≤ -1 by omega) (Int.le_of_lt hc)
        omega
      · omega
  refine ⟨by omega, ?_⟩
  refine Int.lt_of_mul_lt_mul_right (a := c) ?_ (Int.le_of_lt hc)
  omega

theorem row_one {w W : World} {c : Int} (h : w.alloc (.cells #[.int .i64 c] 2) = W) : Row W (.slice (some ⟨w.heap.size, 0, none⟩) 1 1) [c] ∧ Below w.heap.size w W := by
  subst h
  exact ⟨World.ownsRow_lit w #[.int .i64 c] 1 (Nat.zero_le _) (by simp [maxLen]) rfl, (Below.refl _ _).alloc (Nat.le_refl _) _⟩

def QR (a b : List Int) (w' : World) (x y : Value) : Prop := ∃ Q s, Row w' x Q ∧ Row w' y s ∧ Dig 1000000000 Q ∧ Dig 1000000000 s ∧ Q.length ≤ 1000000000 ∧ s.length ≤ 1000000000 ∧ ev 1000000000 a = ev 1000000000 Q * ev 1000000000 b + ev 1000000000 s ∧ ev 1000000000 s < ev 1000000000 b

set_option maxRecDepth 100000 in
set_option maxHeartbeats 4000000 in
theorem divideLimbs_any (a b : List Int) (u v : Value) (w : World) (hu : Row w u a) (hv : Row w v b) (ha : a.length ≤ 10000000) (hb : b.length ≤ 10000000) (hb0 : 0 < b.length) (da : Dig 1000000000 a) (db : Dig 1000000000 b) (ta : Trim a) (tb : Trim b) :
    Calls Tryz.prog 87 #[u, v] w fun e w' => ∃ x y, e = .returned (.tuple #[x, y]) ∧ QR a b w' x y ∧ Below w.heap.size w w' := by
  obtain ⟨ua, uc, rfl⟩ := hu.val
  obtain ⟨va, vc, rfl⟩ := hv.val
  rcases Nat.lt_or_ge a.length b.length with hlt | hge
  · have hval := ev_lt_of_length (by omega) da db tb hlt
    go_enter Tryz.func87, Tryz.ntmps87
    go_wp2
    go_ret2
    have hb1 : Below w.heap.size w (w.alloc (.cells #[] 2)) := (Below.refl _ _).alloc (Nat.le_refl _) _
    refine ⟨_, _, rfl, ⟨[], a, (Own.lit rfl).row, hu.below hb1, Dig.nil _, da, by simp, by omega, ?_, hval⟩, hb1⟩
    show _ = 0 * _ + _
    omega
  · rcases Nat.lt_or_ge b.length 2 with hb2 | hb2
    · have hL := longDivision_any a b _ _ w hu hv (by omega) hge hb0 da db tb
      go_enter Tryz.func87, Tryz.ntmps87
      go_wp2_with fail
      refine hL.mono ?_
      rintro e w' ⟨x, y, Q, s, rfl, h1, h2, h3, h4, h5, h6, h7, h8, h9⟩
      go_wp2
      go_ret2
      exact ⟨_, _, rfl, ⟨Q, s, h1, h2, h3, h4, by omega, by omega, h7, h8⟩, h9⟩
    · have htop := top_pos db tb hb0
      have hsc := fun c => scale_lt (c := c) db hb0
      have hLA := limbAt_any b _ (b.length - 1) w hv (by omega) (by omega)
      have hn1 : (b.length : Int) - 1 = ((b.length - 1 : Nat) : Int) := by omega
      obtain ⟨n, HN⟩ : ∃ n, Hid (b.length - 1 = n) := ⟨_, rfl⟩
      rw [HN.out] at htop hsc hLA hn1
      obtain ⟨t, HT⟩ : ∃ t, Hid (b.getD n 0 = t) := ⟨_, rfl⟩
      rw [HT.out] at htop hsc hLA
      have hc1 : 0 < 1000000000 / (t + 1) := Int.le_ediv_of_mul_le (by omega) (by omega)
      have hc2 : 1000000000 / (t + 1) < 1000000000 := Int.ediv_lt_of_lt_mul (by omega) (by omega)
      have hc3 : 1000000000 / (t + 1) * (t + 1) ≤ 1000000000 := Int.ediv_mul_le _ (by omega)
      have hc4 := hsc _ hc1 hc3
      have HC4 : Hid _ := hc4
      clear hsc hc4 hc3
      have hbne : b ≠ [] := List.length_pos_iff.1 hb0
      have hane : a ≠ [] := List.length_pos_iff.1 (by omega)
      have hbp := ev_ne db tb hbne
      have hage := ev_ge (by omega) da ta hane
      have ht1 : (t + 1 == 0) = false := by rw [beq_eq_false_iff_ne]; omega
      have hq : Int.tdiv 1000000000 (t + 1) = 1000000000 / (t + 1) := Int.tdiv_eq_ediv_of_nonneg (by omega)
      have htz : ¬ t + 1 = 0 := by omega
      go_enter Tryz.func87, Tryz.ntmps87
      go_wp2_with fail
      refine hLA.mono ?_
      rintro e w0 ⟨rfl, rfl⟩
      go_wp2_with fail
      clear hq hLA
      generalize 1000000000 / (t + 1) = c at *
      generalize hW : w0.alloc (Obj.cells #[Value.int IntKind.i64 c] 2) = W
      obtain ⟨hc, hbW⟩ := row_one hW
      clear hW
      have dc : Dig 1000000000 [c] := fun y hy => by simp at hy; subst hy; omega
      have tc : Trim [c] := fun y hy => by simp at hy; subst hy; omega
      have hec : ev 1000000000 [c] = c := by show c + 1000000000 * 0 = c; omega
      have HEC : Hid _ := hec
      clear hec
      refine (mulLimbs_any a [c] _ _ W (hu.below hbW) hc (by omega) (by simp) da dc).mono ?_
      rintro e w1 ⟨s1, x1, rfl, hr1, hd1, hv1, hl1, hb1⟩
      rw [HEC.out] at hv1
      have HV1 : Hid _ := hv1
      have hbw1 := hbW.trans (hb1.mono hbW.size)
      have hs1 : b.length ≤ s1.length := by
        have h1 := len_gt_of (n := a.length - 1) hd1 (by
          rw [hv1]
          have := Int.mul_le_mul_of_nonneg_left (show 1 ≤ c by omega) (show 0 ≤ ev 1000000000 a from ev_nonneg (by omega) da)
          omega)
        omega
      clear hv1 hage
      obtain ⟨xa, xc, rfl⟩ := hr1.val
      go_wp2_with fail
      refine (mulLimbs_any b [c] _ _ w1 (hv.below hbw1) (hc.below hb1) (by omega) (by simp) db dc).mono ?_
      rintro e w2 ⟨s2, x2, rfl, hr2, hd2, hv2, hl2, hb2'⟩
      rw [HEC.out] at hv2
      have HV2 : Hid _ := hv2
      clear hv2
      go_wp2_with fail
      simp only [List.length_singleton] at hl1 hl2
      refine (trimmed_any s2 _ w2 hr2 (by omega) hd2).mono ?_
      rintro e w3 ⟨s3, x3, rfl, ho3, ht3, hb3⟩
      have hv3 := ht3.val
      rw [HV2.out] at hv3
      have hl3 : s3.length ≤ b.length := len_le_of ht3.dig ht3.trim (by rw [hv3]; exact HC4.out)
      have hp3 : 0 < ev 1000000000 s3 := by rw [hv3]; exact Int.mul_pos hbp hc1
      have hl30 : 0 < s3.length := by
        refine List.length_pos_iff.2 ?_
        intro e
        subst e
        exact absurd hp3 (by show ¬ (0 : Int) < 0; omega)
      have HV3 : Hid _ := hv3
      have hr3 := ho3.row
      have hd3 := ht3.dig
      have htr3 := ht3.trim
      clear hv3 hp3 ht3 ho3
      obtain ⟨ya, yc, rfl⟩ := hr3.val
      have hb13 := hb2'.trans (hb3.mono hb2'.size)
      go_wp2_with fail
      refine (longDivision_any s1 s3 _ _ w3 (hr1.below hb13) hr3 (by omega) (by omega) hl30 hd1 hd3 htr3).mono ?_
      rintro e w4 ⟨x4, y4, Q, s, rfl, hr4, hs4, hdQ, hds, hlQ, hls, hval4, hlt4, hb4⟩
      have HV4 : Hid _ := hval4
      have HL4 : Hid _ := hlt4
      have hsp : 1 ≤ s.length ∧ s.length ≤ 500000000 := by omega
      clear hval4 hlt4 hls
      obtain ⟨qa, qc, rfl⟩ := hr4.val
      obtain ⟨sa, sc, rfl⟩ := hs4.val
      have hb34 := hb13.trans (hb4.mono hb13.size)
      go_wp2_with fail
      refine (longDivision_any s [c] _ _ w4 hs4 ((hc.below hb1).below hb34) hsp.2 hsp.1 (Nat.le_refl 1) hds dc tc).mono ?_
      rintro e w5 ⟨x5, y5, Q2, r, rfl, hr5, hs5, hdQ2, hdr, hlQ2, hlr, hval5, hlt5, hb5⟩
      have HV5 : Hid _ := hval5
      have HL5 : Hid _ := hlt5
      clear hval5 hlt5
      go_wp2
      go_ret2
      have hfin := unscale (A := ev 1000000000 a) (D := ev 1000000000 b) (Q := ev 1000000000 Q) (S := ev 1000000000 s) (Q2 := ev 1000000000 Q2) (r := ev 1000000000 r) hc1 (by rw [← HV1.out, ← HV3.out]; exact HV4.out) (by rw [← HV3.out]; exact HL4.out) (by have := HV5.out; rw [HEC.out] at this; exact this) (ev_nonneg (by omega) hdr) (by have := HL5.out; rw [HEC.out] at this; exact this)
      exact ⟨_, _, rfl, ⟨Q, Q2, hr4.below hb5, hr5, hdQ, hdQ2, by omega, by omega, hfin.1, hfin.2⟩, hbw1.trans ((hb34.trans (hb5.mono hb34.size)).mono hbw1.size)⟩

end Go.Proofs.YtldcjkhbiffdoabGreatDoor

namespace Go.Proofs.YtldcjkhbiffdoabGreatDoor
open Go.RowKit

structure LimN (b : Bool) (l : List Int) (z : Int) : Prop where
  dig : Dig 10 l
  trim : Trim l
  neg : b = true → l ≠ []
  val : z = sv b (ev 10 l)

def IsN (w : World) (v : Value) (z : Int) : Prop := ∃ b x l, v = .agg #[.bool b, x] ∧ RowN w x l ∧ LimN b l z

theorem IsN.below {w w' : World} {v : Value} {z : Int} (h : IsN w v z) (hb : Below w.heap.size w w') : IsN w' v z := by
  obtain ⟨b, x, l, h1, h2, h3⟩ := h
  exact ⟨b, x, l, h1, h2.below hb, h3⟩

theorem LimN.len {b : Bool} {l : List Int} {z : Int} (h : LimN b l z) {n : Nat} (hz : z.natAbs < 10 ^ n) : l.length ≤ n := by
  rcases Nat.lt_or_ge n l.length with hlt | hge
  · have hne : l ≠ [] := by intro e; subst e; simp at hlt
    have h1 := ev_ge (by omega) h.dig h.trim hne
    have h2 : (10 : Int) ^ n ≤ 10 ^ (l.length - 1) := by
      obtain ⟨k, hk⟩ : ∃ k, l.length - 1 = n + k := ⟨l.length - 1 - n, by omega⟩
      rw [hk, Int.pow_add]
      have h5 : (0 : Int) < 10 ^ k := Int.pow_pos (by omega)
      have := Int.mul_le_mul_of_nonneg_left (show (1 : Int) ≤ 10 ^ k by omega) (Int.le_of_lt (pow_pos (show (0 : Int) < 10 by omega) n))
      omega
    have h3 := natAbs_sv b (ev_nonneg (by omega) h.dig)
    rw [← h.val] at h3
    have h4 : (z.natAbs : Int) < 10 ^ n := by
      have h6 := Int.ofNat_lt.2 hz
      rw [Int.natCast_pow] at h6
      exact h6
    omega
  · omega

theorem LimN.nonneg {b : Bool} {l : List Int} {z : Int} (h : LimN b l z) : 0 ≤ ev 10 l := ev_nonneg (by omega) h.dig

theorem LimN.signed {b : Bool} {s : List Int} (d : Dig 10 s) (t : Trim s) : LimN (b && !s.isEmpty) s (sv b (ev 10 s)) := by
  refine ⟨d, t, ?_, ?_⟩
  · intro h e; subst e; simp at h
  · cases s with
    | nil => cases b <;> simp [sv, ev]
    | cons a s => cases b <;> rfl

theorem RowN.later {B : Nat} {w w' : World} {v : Value} {l : List Int} (h : RowN w v l) (hb : Below B w w') (hB : w.heap.size ≤ B) : RowN w' v l := h.below (hb.mono hB)

end Go.Proofs.YtldcjkhbiffdoabGreatDoor

namespace Go.Proofs.YtldcjkhbiffdoabGreatDoor
open Go.RowKit

theorem below_one (w : World) (o : Obj) : Below w.heap.size w (w.alloc o) := (Below.refl _ _).alloc (Nat.le_refl _) _

end Go.Proofs.YtldcjkhbiffdoabGreatDoor

namespace Go.Proofs.YtldcjkhbiffdoabGreatDoor
open Go.RowKit

end Go.Proofs.YtldcjkhbiffdoabGreatDoor

namespace Go.Proofs.YtldcjkhbiffdoabGreatDoor
open Go.RowKit

end Go.Proofs.YtldcjkhbiffdoabGreatDoor

namespace Go.Proofs.YtldcjkhbiffdoabGreatDoor
open Go.RowKit

def FitN (z : Int) : Prop := ∃ n, n ≤ 10000000000 ∧ z.natAbs < 10 ^ n
theorem LimN.fit {b : Bool} {l : List Int} {z : Int} (h : LimN b l z) (hf : FitN z) : l.length ≤ 10000000000 := by
  obtain ⟨n, hn, hz⟩ := hf
  exact Nat.le_trans (h.len hz) hn

end Go.Proofs.YtldcjkhbiffdoabGreatDoor

namespace Go.Proofs.YtldcjkhbiffdoabGreatDoor
open Go.RowKit

end Go.Proofs.YtldcjkhbiffdoabGreatDoor

namespace Go.Proofs.YtldcjkhbiffdoabGreatDoor
open Go.RowKit

def MInN (l m P : List Int) (i j : Nat) (c : Int) : Prop :=
  Dig 10 P ∧ ev 10 P + c * 10 ^ (i + j) = ev 10 (l.take i) * ev 10 m + l.getD i 0 * ev 10 (m.take j) * 10 ^ i ∧ ∀ k, i + m.length ≤ k → i + j ≤ k → P.getD k 0 = 0
def MOutN (l m P : List Int) (i : Nat) : Prop := Dig 10 P ∧ ev 10 P = ev 10 (l.take i) * ev 10 m ∧ ∀ k, i + m.length ≤ k → P.getD k 0 = 0

theorem MInN.step {l m P : List Int} {i j : Nat} {c p x y t : Int} (h : MInN l m P i j c) (hk : i + j < P.length) (hp : P.getD (i + j) 0 = p) (hx : l.getD i 0 = x) (hy : m.getD j 0 = y)
    (ht : t = p + x * y + c) (_h0 : 0 ≤ t) (_h9 : t < 100) : MInN l m (P.set (i + j) (t % 10)) i (j + 1) (t / 10) := by
  obtain ⟨h1, h2, h3⟩ := h
  refine ⟨h1.set _ (by omega) (by omega), ?_, fun k hk' hk2 => ?_⟩
  · rw [ev_take, hy, hx]
    rw [hx] at h2
    exact mul_round P i j hk x y c t _ _ h2 (by rw [hp]; exact ht)
  · rw [getD_set_ne _ (by omega)]; exact h3 k hk' (by omega)

theorem MOutN.into {l m P : List Int} {i : Nat} (h : MOutN l m P i) : MInN l m P i 0 0 := by
  refine ⟨h.1, ?_, fun k hk _ => h.2.2 k hk⟩
  rw [h.2.1]; simp [ev]

theorem MInN.out {l m P : List Int} {i j : Nat} (h : MInN l m P i j 0) (hj : m.length ≤ j) (hj2 : j ≤ m.length + 1) : MOutN l m P (i + 1) := by
  obtain ⟨h1, h2, h3⟩ := h
  refine ⟨h1, ?_, fun k hk' => h3 k (by omega) (by omega)⟩
  rw [List.take_of_length_le hj] at h2
  rw [ev_take, Int.add_mul]
  simp only [Int.zero_mul, Int.add_zero] at h2
  rw [h2]
  congr 1
  rw [Int.mul_assoc, Int.mul_comm (ev 10 m), ← Int.mul_assoc]

end Go.Proofs.YtldcjkhbiffdoabGreatDoor

namespace Go.Proofs.YtldcjkhbiffdoabGreatDoor
open Go.RowKit

theorem FitN.neg {z : Int} (h : FitN z) : FitN (-z) := by
  obtain ⟨n, h1, h2⟩ := h
  exact ⟨n, h1, by rw [Int.natAbs_neg]; exact h2⟩

theorem IsN.open {w : World} {v : Value} {z : Int} (h : IsN w v z) : ∃ b a n c l, v = .agg #[.bool b, .slice a n c] ∧ RowN w (.slice a n c) l ∧ LimN b l z := by
  obtain ⟨b, x, l, rfl, hr, hl⟩ := h
  obtain ⟨a, c, rfl⟩ := hr.val
  exact ⟨b, a, _, c, l, rfl, hr, hl⟩

theorem LimN.sign {b : Bool} {l : List Int} {z : Int} (h : LimN b l z) (hz : z ≠ 0) : b = decide (z < 0) := by
  have h0 := h.nonneg
  have hv := h.val
  cases b
  · rw [decide_eq_false]; simp [sv] at hv; omega
  · rw [decide_eq_true]; simp [sv] at hv; omega

end Go.Proofs.YtldcjkhbiffdoabGreatDoor

set_option linter.unusedSimpArgs false
namespace Go.Proofs.YtldcjkhbiffdoabGreatDoor

theorem Pp.one {l : List Int} (h : Pp l) (h1 : l.length = 1) : l = [1] := by
  have hc := (cont_one h.tr h.ne h.pr).1
  have hlead := h.lead
  match l, h1, hc, hlead with
  | [x], _, hc, hlead =>
    have hx : 0 < x := hlead
    have : cont [x] = x.natAbs := by simp [cont]
    rw [this] at hc
    have : x = 1 := by omega
    rw [this]

theorem Pp.same {p g : List Int} (hp : Pp p) (hg : Pp g) (ip : Iz (fun t => ev t p)) (ig : Iz (fun t => ev t g)) (h : Dv 0 (fun t => ev t p) (fun t => ev t g)) : p = g := by
  have h' := ip.irr.back ig.irr h
  obtain ⟨s, h1, h2⟩ := hp.prm.of_dv (Po.ev g) h
  obtain ⟨s', h3, h4⟩ := hg.prm.of_dv (Po.ev p) h'
  obtain ⟨S, tS, hS⟩ := h1.list
  obtain ⟨S', tS', hS'⟩ := h3.list
  have e1 : ∀ t, ev t g = ev t p * ev t S := fun t => by rw [h2, hS]
  have e2 : ∀ t, ev t p = ev t g * ev t S' := fun t => by rw [h4, hS']
  have q1 := hg.quot hp tS e1
  have q2 := hp.quot hg tS' e2
  have l1 := (mul_len hg.tr hp.tr q1.tr hp.ne q1.ne e1).2.1
  have l2 := (mul_len hp.tr hg.tr q2.tr hg.ne q2.ne e2).2.1
  have s1 := List.length_pos_iff.2 q1.ne
  have s2 := List.length_pos_iff.2 q2.ne
  have hone := q1.one (by omega)
  exact Pp.ext hp.tr hg.tr fun t => by rw [e1, hone]; simp [ev]

def oft : List (List Int × Nat) → List Int → Nat
  | [], _ => 0
  | x :: l, p => (if x.1 = p then x.2 else 0) + oft l p

theorem oft_none {p : List Int} : ∀ {l : List (List Int × Nat)}, (∀ x, x ∈ l → x.1 ≠ p) → oft l p = 0
  | [], _ => rfl
  | x :: l, h => by
    unfold oft
    rw [if_neg (h x (List.mem_cons_self ..)), oft_none fun y hy => h y (List.mem_cons_of_mem _ hy)]

theorem oft_pos {p : List Int} {l : List (List Int × Nat)} (h : 0 < oft l p) : ∃ x, x ∈ l ∧ x.1 = p := by
  refine Classical.byContradiction fun hn => ?_
  rw [oft_none (fun x hx e => hn ⟨x, hx, e⟩)] at h
  omega

theorem oft_mem : ∀ {l : List (List Int × Nat)} {x : List Int × Nat}, x ∈ l → x.2 ≤ oft l x.1
  | y :: l, x, h => by
    unfold oft
    rcases List.mem_cons.1 h with rfl | h
    · rw [if_pos rfl]; omega
    · have := oft_mem h; omega

theorem oft_asc : ∀ {l : List (List Int × Nat)}, (l.Pairwise fun a b => bfr a.1 b.1 = true) → ∀ {x : List Int × Nat}, x ∈ l → oft l x.1 = x.2
  | y :: l, h, x, hx => by
    obtain ⟨h1, h2⟩ := List.pairwise_cons.1 h
    have hne : ∀ z, z ∈ l → y.1 ≠ z.1 := fun z hz e => by
      have := h1 z hz
      rw [e, bfr_irrefl] at this
      cases this
    unfold oft
    rcases List.mem_cons.1 hx with rfl | hx
    · rw [if_pos rfl, oft_none fun z hz e => hne z hz e.symm]; omega
    · rw [if_neg (hne x hx), oft_asc h2 hx]; omega

def rst (l : List (List Int × Nat)) (p : List Int) : List (List Int × Nat) := l.filter fun x => decide (x.1 ≠ p)

theorem pE_oft (p : List Int) (t : Int) : ∀ l : List (List Int × Nat), pE l t = ev t p ^ oft l p * pE (rst l p) t
  | [] => by simp [pE, oft, rst]
  | x :: l => by
    have ih := pE_oft p t l
    by_cases h : x.1 = p
    · have e1 : rst (x :: l) p = rst l p := by simp [rst, h]
      have e2 : oft (x :: l) p = x.2 + oft l p := by simp [oft, h]
      rw [e1, e2, Int.pow_add, Int.mul_assoc, ← ih, ← h]
      rfl
    · have e1 : rst (x :: l) p = x :: rst l p := by simp [rst, h]
      have e2 : oft (x :: l) p = oft l p := by simp [oft, h]
      rw [e1, e2]
      show ev t x.1 ^ x.2 * pE l t = _ * (ev t x.1 ^ x.2 * pE (rst l p) t)
      rw [ih, Int.mul_left_comm]

theorem dv_oft {zs : List Int} {c : Int} {ps : List (List Int × Nat)} (heach : ∀ x, x ∈ ps → Pp x.1 ∧ Iz (fun t => ev t x.1)) (heq0 : ∀ t, ev t zs = c * pE ps t) (tz : Tr zs) (hne : zs ≠ []) {p : List Int} (hp : Pp p) (ip : Iz (fun t => ev t p)) (n : Nat) : Dv 0 (fun t => ev t p ^ n) (fun t => ev t zs) ↔ n ≤ oft ps p := by
  have hc : c ≠ 0 := fun e => hne (tz.zero fun t => by rw [heq0, e]; simp)
  have hnd : ¬ Dv 0 (fun t => ev t p) (pE (rst ps p)) := fun hd => by
    obtain ⟨x, hx, hxd⟩ := dv_pE ip.irr _ hd
    have hxp := (List.mem_filter.1 hx)
    have hxe := heach x hxp.1
    have := hp.same hxe.1 ip hxe.2 hxd
    simp at hxp
    exact hxp.2 this.symm
  have heq : ∀ t, ev t zs = c * (ev t p ^ oft ps p * pE (rst ps p) t) := fun t => by rw [heq0, pE_oft p t ps]
  constructor
  · intro ⟨k, s, h1, h2, h3⟩
    refine Classical.byContradiction fun hlt => ?_
    have hk : k ≠ 0 := not_dvd_zero.1 h1
    obtain ⟨d, rfl⟩ : ∃ d, n = oft ps p + (d + 1) := ⟨n - oft ps p - 1, by omega⟩
    have h4 : Zm 0 (fun t => ev t p ^ oft ps p * (k * c * pE (rst ps p) t - ev t p * (ev t p ^ d * s t))) := h3.congr fun t => by
      dsimp only
      rw [heq, Int.pow_add, Int.pow_succ]
      simp only [rA, rB, rC, rD, rE, rF, rG, rH, rI, rJ, rK]
    rcases Zm.or Dom.zero ((Po.ev p).pow _) (((pE_po _).scal (k * c)).sub ((Po.ev p).mul (((Po.ev p).pow d).mul h2))) h4 with h5 | h5
    · have : ∀ m, ¬ Zm 0 (fun t => ev t p ^ m) := by
        intro m
        induction m with
        | zero => intro hz; have := Zm.const (m := 0) (c := 1) (hz.congr fun t => by simp); exact absurd this (by decide)
        | succ m ih =>
          intro hz
          rcases Zm.or Dom.zero ((Po.ev p).pow m) (Po.ev p) (hz.congr fun t => by rw [Int.pow_succ]) with h6 | h6
          · exact ih h6
          · exact (hp.tr.dm hp.ne).not h6
      exact this _ h5
    · refine hnd ⟨k * c, fun t => ev t p ^ d * s t, not_dvd_zero.2 (Int.mul_ne_zero hk hc), ((Po.ev p).pow d).mul h2, h5⟩
  · intro hle
    obtain ⟨d, hd⟩ : ∃ d, oft ps p = n + d := ⟨oft ps p - n, by omega⟩
    refine Dv.of_eq 0 Dom.zero (s := fun t => c * (ev t p ^ d * pE (rst ps p) t)) ((((Po.ev p).pow d).mul (pE_po _)).scal c) fun t => ?_
    rw [heq, hd, Int.pow_add]
    simp only [rA, rB, rC, rD, rE, rF, rG, rH, rI, rJ, rK]

theorem Fac.dv {zs : List Int} {c : Int} {ps : List (List Int × Nat)} (h : Fac zs c ps) (tz : Tr zs) (hne : zs ≠ []) {p : List Int} (hp : Pp p) (ip : Iz (fun t => ev t p)) (n : Nat) : Dv 0 (fun t => ev t p ^ n) (fun t => ev t zs) ↔ n ≤ oft ps p :=
  dv_oft (fun x hx => ⟨(h.each x hx).1, (h.each x hx).2.1⟩) h.eq tz hne hp ip n

end Go.Proofs.YtldcjkhbiffdoabGreatDoor
