import Derived.Test.YtldcjkhbiffdoabGreatDoorM00
import Derived.Test.YtldcjkhbiffdoabGreatDoorM07
import Derived.Lib.ItoaNum
import Derived.Deep.RegionHeld3
import Derived.Deep.QuietTactic
import Derived.BigQuiet
import Derived.BigRegion

set_option linter.unusedSimpArgs false
namespace Go.Proofs.YtldcjkhbiffdoabGreatDoor
open Go.RowKit

set_option maxRecDepth 100000 in
set_option maxHeartbeats 4000000 in
theorem value_any (cs : List Int) (p q m : Int) (u : Value) (w : World) (hu : RowN w u cs) (hl1 : 11 ≤ cs.length) (hl2 : cs.length ≤ 11) (hm : 1 < m) (hm' : m ≤ 2147483647) (hc : ∀ k, 0 ≤ cs.getD k 0 ∧ cs.getD k 0 < m)
    (hq1 : 0 ≤ q) (hq2 : q < m) :
    Calls Tryz.prog 30 #[u, .int .i64 p, .int .i64 q, .int .i64 m] w fun e w' => e = .returned (.int .i64 (vst cs (p % m) q m 11).1) ∧ Below w.heap.size w w' := by
  obtain ⟨ua, uc, rfl⟩ := hu.val
  have HV : Hid (∀ n, vst cs (p % m) q m (n + 1) = (((vst cs (p % m) q m n).1 * (p % m) + cs.getD (10 - n) 0 * (vst cs (p % m) q m n).2) % m, (vst cs (p % m) q m n).2 * q % m)) := fun n => rfl
  have HR : Hid (∀ n, 0 ≤ (vst cs (p % m) q m n).1 ∧ (vst cs (p % m) q m n).1 < m ∧ 0 ≤ (vst cs (p % m) q m n).2 ∧ (vst cs (p % m) q m n).2 < m) := vst_rng cs (p % m) q hm
  have H0 : Hid (vst cs (p % m) q m 0 = (0, 1)) := rfl
  have hpm : (p.tmod m + m).tmod m = p % m := by
    rw [Int.tmod_eq_emod_of_nonneg (by have := Int.tmod_lt_of_pos p (show 0 < m by omega); have h2 : -m < p.tmod m := by have := Int.lt_tmod_of_pos p (show 0 < m by omega); omega
                                       omega)]
    rw [Int.add_emod_right]
    rcases Int.le_total 0 p with h | h
    · rw [Int.tmod_eq_emod_of_nonneg h, Int.emod_emod]
    · have h1 := Int.tmod_add_mul_tdiv p m
      rw [show p.tmod m = p + m * (-(p.tdiv m)) by rw [Int.mul_neg]; omega, Int.add_mul_emod_self_left]
  have hr1 : 0 ≤ p % m := Int.emod_nonneg _ (by omega)
  have hr2 : p % m < m := Int.emod_lt_of_pos _ (by omega)
  have ht1 : p.tmod m < m := Int.tmod_lt_of_pos p (by omega)
  have ht2 : -m < p.tmod m := by have := Int.lt_tmod_of_pos p (show 0 < m by omega); omega
  generalize hPM : p % m = pm at *
  generalize vst cs pm q m = F at *
  generalize hPT : p.tmod m = pt at *
  have HC : Hid _ := hc
  clear hc
  have hm0 : ¬ m = 0 := by omega
  have hmn : ¬ m = -1 := by omega
  have hw1 : IntKind.i64.wrap pt = pt := by rw [IntKind.wrap_i64]; omega
  have hw2 : IntKind.i64.wrap (pt + m) = pt + m := by rw [IntKind.wrap_i64]; omega
  have hw3 : IntKind.i64.wrap pm = pm := by rw [IntKind.wrap_i64]; omega
  go_enter Tryz.func30, Tryz.ntmps30
  go_wp2_with fail
  go_loopw [9, 10, 11] (fun v s k wr => ∃ (n : Nat) (a b : Int), n ≤ 11 ∧ k = .int .i64 (10 - (n : Int)) ∧ v = .int .i64 a ∧ s = .int .i64 b ∧ 0 ≤ a ∧ a < m ∧ 0 ≤ b ∧ b < m ∧ Hid (F n = (a, b)) ∧ Below w.heap.size w wr) (fun _ _ k _ => (intOf k + 1).toNat)
  case atStart => exact ⟨0, 0, 1, by omega, rfl, rfl, rfl, by omega, by omega, by omega, by omega, H0, Below.refl _ _⟩
  case round =>
    obtain ⟨n, a, b, hn, rfl, rfl, rfl, ha, ha', hb, hb', HF, hbel⟩ := hrel
    by_cases hlt : n < 11
    · obtain ⟨j, hj⟩ : ∃ j : Nat, j + n = 10 := ⟨10 - n, by omega⟩
      rw [show (10 : Int) - (n : Int) = (j : Int) by omega]
      obtain ⟨g, rfl, hc1, hc2, hg, hcell⟩ := (hu.below hbel).at j (by omega)
      obtain ⟨c0, c1⟩ := HC.out j
      have HN : Hid (F (n + 1) = ((a * pm + cs.getD j 0 * b) % m, b * q % m)) := by
        show _ = _
        rw [HV.out n, HF.out, show 10 - n = j by omega]
      have HRN := HR.out (n + 1)
      rw [HN.out] at HRN
      generalize cs.getD j 0 = c at *
      obtain ⟨m1, m2⟩ := mul_rng ha ha' hr1 hr2 hm'
      obtain ⟨m3, m4⟩ := mul_rng c0 c1 hb hb' hm'
      obtain ⟨m5, m6⟩ := mul_rng hb hb' hq1 hq2 hm'
      obtain ⟨r1, r2, r3, r4⟩ := HRN
      have e1 : (a * pm + c * b).tmod m = (a * pm + c * b) % m := Int.tmod_eq_emod_of_nonneg (by omega)
      have e2 : (b * q).tmod m = (b * q) % m := Int.tmod_eq_emod_of_nonneg m5
      have v1 : IntKind.i64.wrap (a * pm) = a * pm := by rw [IntKind.wrap_i64]; omega
      have v2 : IntKind.i64.wrap (c * b) = c * b := by rw [IntKind.wrap_i64]; omega
      have v3 : IntKind.i64.wrap (a * pm + c * b) = a * pm + c * b := by rw [IntKind.wrap_i64]; omega
      have v4 : IntKind.i64.wrap (b * q) = b * q := by rw [IntKind.wrap_i64]; omega
      dsimp only at r1 r2 r3 r4
      generalize hA : (a * pm + c * b) % m = a2 at *
      generalize hB : b * q % m = b2 at *
      have v5 : IntKind.i64.wrap a2 = a2 := by rw [IntKind.wrap_i64]; omega
      have v6 : IntKind.i64.wrap b2 = b2 := by rw [IntKind.wrap_i64]; omega
      have hjl : (j : Int) < (cs.length : Int) := by omega
      generalize hX1 : a * pm = X1 at *
      generalize hX2 : c * b = X2 at *
      generalize hX3 : b * q = X3 at *
      clear hA hB HF
      go_wp2
      go_roundw
      case rel => exact ⟨n + 1, a2, b2, by omega, by go_num, rfl, rfl, r1, r2, r3, r4, HN, hbel⟩
      case measure => simp [intOf]
    · obtain rfl : n = 11 := by omega
      have hF : (F 11).1 = a := by rw [HF.out]
      clear HF
      go_wp2
      go_ret
      exact ⟨by rw [hF]; rfl, hbel⟩

end Go.Proofs.YtldcjkhbiffdoabGreatDoor

namespace Go.Proofs.YtldcjkhbiffdoabGreatDoor
open Go

def padk : Nat → Nat → List UInt8
  | 0, _ => []
  | k + 1, n => padk k (n / 10) ++ [UInt8.ofNat (48 + n % 10)]

theorem dec_big {n : Nat} (h : ¬ n < 10) : Lib.decDigits n = Lib.decDigits (n / 10) ++ [UInt8.ofNat (48 + n % 10)] := by rw [Lib.decDigits, dif_neg h]

theorem dec_pad (q : Nat) (hq : 0 < q) : ∀ (k x : Nat), x < 10 ^ k → Lib.decDigits (q * 10 ^ k + x) = Lib.decDigits q ++ padk k x
  | 0, x, h => by
    have : x = 0 := by simp at h; exact h
    subst this; simp [padk]
  | k + 1, x, h => by
    rw [Nat.pow_succ] at h
    have h1 : 0 < 10 ^ k := Nat.pow_pos (by omega)
    have h2 : q * 10 ^ (k + 1) = q * 10 ^ k * 10 := by rw [Nat.pow_succ, Nat.mul_assoc]
    have h3 : 1 * 1 ≤ q * 10 ^ k := Nat.mul_le_mul hq h1
    rw [h2]
    generalize hp : q * 10 ^ k = p at *
    rw [dec_big (by omega), show (p * 10 + x) / 10 = p + x / 10 by omega, show (p * 10 + x) % 10 = x % 10 by omega, ← hp, dec_pad q hq k (x / 10) (by omega)]
    simp [padk]

theorem pad_eq : ∀ (k n : Nat), n < 10 ^ (k + 1) → padk (k + 1) n = List.replicate (k + 1 - Lib.nDigits n) 48 ++ Lib.decDigits n
  | 0, n, h => by
    have h : n < 10 := by simpa using h
    rw [Lib.nDigits_small h, Lib.decDigits_one h]
    simp [padk, Nat.mod_eq_of_lt h]
  | k + 1, n, h => by
    rw [Nat.pow_succ] at h
    show padk (k + 1) (n / 10) ++ [UInt8.ofNat (48 + n % 10)] = _
    rw [pad_eq k (n / 10) (by omega)]
    by_cases hn : n < 10
    · have h0 : n / 10 = 0 := by omega
      rw [h0, Lib.nDigits_small hn, Lib.nDigits_small (by omega), Lib.decDigits_one hn, Lib.decDigits_one (by omega), Nat.mod_eq_of_lt hn]
      rw [show k + 1 + 1 - 1 = (k + 1 - 1) + 1 by omega, List.replicate_succ']
      rfl
    · rw [Lib.nDigits_big hn, dec_big hn, show k + 1 + 1 - (Lib.nDigits (n / 10) + 1) = k + 1 - Lib.nDigits (n / 10) by omega, List.append_assoc]

theorem dec_limb (q x : Int) (hq : 0 < q) (h0 : 0 ≤ x) (h1 : x < 1000000000) : Lib.decDigits (x + 1000000000 * q).toNat = Lib.decDigits q.toNat ++ padk 9 x.toNat := by
  rw [show (x + 1000000000 * q).toNat = q.toNat * 10 ^ 9 + x.toNat by omega]
  exact dec_pad q.toNat (by omega) 9 x.toNat (by omega)

theorem pad9 (x : Int) (h0 : 0 ≤ x) (h1 : x < 1000000000) : List.replicate (9 - Lib.nDigits x.toNat) 48 ++ Lib.decDigits x.toNat = padk 9 x.toNat := (pad_eq 8 x.toNat (by omega)).symm

theorem pow_nDigits (u : Nat) : 10 ^ (Lib.nDigits u - 1) ≤ u ∨ u = 0 := by
  induction u using Nat.strongRecOn with
  | _ u ih =>
    by_cases hu : u < 10
    · rw [Lib.nDigits_small hu]; simp; omega
    · left
      rw [Lib.nDigits_big hu]
      rcases ih (u / 10) (by omega) with h3 | h3
      · have := Lib.nDigits_pos (u / 10)
        rw [show Lib.nDigits (u / 10) + 1 - 1 = (Lib.nDigits (u / 10) - 1) + 1 by omega, Nat.pow_succ]
        omega
      · omega

theorem nDigits_le {u k : Nat} (h : u < 10 ^ k) (hk : 1 ≤ k) : Lib.nDigits u ≤ k := by
  rcases Nat.lt_or_ge k (Lib.nDigits u) with h1 | h1
  · exfalso
    rcases pow_nDigits u with h3 | h3
    · have h4 : 10 ^ k ≤ 10 ^ (Lib.nDigits u - 1) := Nat.pow_le_pow_right (by omega) (by omega)
      omega
    · rw [h3, Lib.nDigits_small (by omega)] at h1; omega
  · exact h1

theorem nDigits_le9 (x : Int) (h1 : x < 1000000000) : Lib.nDigits x.toNat ≤ 9 := nDigits_le (by omega) (by omega)

theorem ev_toNat_lt {l : List Int} (d : Dig 1000000000 l) : (ev 1000000000 l).toNat < 10 ^ (9 * l.length) := by
  have h := ev_lt (by omega) d
  have h0 := ev_nonneg (by omega) d
  have h1 : ((10 ^ (9 * l.length) : Nat) : Int) = 1000000000 ^ l.length := by rw [Nat.pow_mul, Int.natCast_pow]; rfl
  omega

theorem dec_len {l : List Int} (d : Dig 1000000000 l) : (Lib.decDigits (ev 1000000000 l).toNat).length ≤ 9 * l.length + 1 := by
  rw [Lib.decDigits_length]
  refine nDigits_le (Nat.lt_of_lt_of_le (ev_toNat_lt d) (Nat.pow_le_pow_right (by omega) (by omega))) (by omega)

theorem str_app (a b : List UInt8) : ((⟨a.toArray⟩ : ByteArray) ++ ⟨b.toArray⟩) = ⟨(a ++ b).toArray⟩ := by
  apply ByteArray.ext
  simp
theorem itoa_nonneg {x : Int} (h : 0 ≤ x) : Lib.itoa x = Lib.decDigits x.toNat := by unfold Lib.itoa; rw [if_neg (by omega)]

end Go.Proofs.YtldcjkhbiffdoabGreatDoor

namespace Go.Proofs.YtldcjkhbiffdoabGreatDoor
open Go.RowKit

theorem add_step {l m sl : List Int} {k : Nat} {cy x y : Int} (hsl : sl.length = k) (h : Dig 1000000000 sl ∧ ev 1000000000 sl + cy * 1000000000 ^ k = ev 1000000000 (l.take k) + ev 1000000000 (m.take k)) (hx : l.getD k 0 = x) (hy : m.getD k 0 = y)
    : Dig 1000000000 (sl ++ [(x + y + cy) % 1000000000]) ∧ ev 1000000000 (sl ++ [(x + y + cy) % 1000000000]) + (x + y + cy) / 1000000000 * 1000000000 ^ (k + 1) = ev 1000000000 (l.take (k + 1)) + ev 1000000000 (m.take (k + 1)) := by
  refine ⟨h.1.snoc (by omega) (by omega), ?_⟩
  rw [ev_take, ev_take, hx, hy]
  exact add_round sl k hsl cy x y _ _ h.2

theorem add_last {l m P : List Int} {n : Nat} (hP : P.length = n) (h : Dig 1000000000 P ∧ ev 1000000000 (P.take n) + 0 * 1000000000 ^ n = ev 1000000000 (l.take n) + ev 1000000000 (m.take n)) (hl : l.length ≤ n) (hm : m.length ≤ n) :
    Dig 1000000000 P ∧ ev 1000000000 P = ev 1000000000 l + ev 1000000000 m := by
  refine ⟨h.1, ?_⟩
  have := h.2
  rw [List.take_of_length_le hl, List.take_of_length_le hm, List.take_of_length_le (by omega), Int.zero_mul, Int.add_zero] at this
  exact this

theorem add_set {l m P : List Int} {k : Nat} {cy x y : Int} (hk : k < P.length) (h : Dig 1000000000 P ∧ ev 1000000000 (P.take k) + cy * 1000000000 ^ k = ev 1000000000 (l.take k) + ev 1000000000 (m.take k)) (hx : l.getD k 0 = x) (hy : m.getD k 0 = y) :
    Dig 1000000000 (P.set k ((x + y + cy) % 1000000000)) ∧ ev 1000000000 ((P.set k ((x + y + cy) % 1000000000)).take (k + 1)) + (x + y + cy) / 1000000000 * 1000000000 ^ (k + 1) = ev 1000000000 (l.take (k + 1)) + ev 1000000000 (m.take (k + 1)) := by
  refine ⟨h.1.set k (by omega) (by omega), ?_⟩
  rw [take_set hk]
  exact (add_step (by rw [List.length_take]; omega) ⟨h.1.take k, h.2⟩ hx hy).2

set_option maxHeartbeats 1000000 in
theorem addLimbs_any (l m : List Int) (u v : Value) (w : World) (hu : Row w u l) (hv : Row w v m) (hl : l.length ≤ 1000000000) (hm : m.length ≤ 1000000000) (dl : Dig 1000000000 l) (dm : Dig 1000000000 m) :
    Calls Tryz.prog 104 #[u, v] w fun e w' => ∃ s x, e = .returned x ∧ Row w' x s ∧ Dig 1000000000 s ∧ ev 1000000000 s = ev 1000000000 l + ev 1000000000 m ∧ s.length ≤ max l.length m.length + 1 ∧ Below w.heap.size w w' := by
  obtain ⟨ua, uc, rfl⟩ := hu.val
  obtain ⟨va, vc, rfl⟩ := hv.val
  obtain ⟨n, HN⟩ : ∃ n, Hid (n = max l.length m.length + 1) := ⟨_, rfl⟩
  have hnl : l.length < n := by have := HN.out; omega
  have hnm : m.length < n := by have := HN.out; omega
  have hnx : n ≤ l.length + 1 ∨ n ≤ m.length + 1 := by have := HN.out; omega
  rw [← HN.out]
  go_enter Tryz.func104, Tryz.ntmps104
  by_cases hc : l.length < m.length
  all_goals
    go_wp2_with (at_make; refine wpList_make64 rfl (.tmp 21) (.tmp 21) rfl _ _ n rfl rfl (by omega) (by omega) (by omega) ?_)
    intro w1 P0 HP0 hown1 hb1
    go_wp2_with fail
    go_loopw [7, 8] (fun c i wr => ∃ (k : Nat) (P : List Int) (cy : Int), k ≤ n ∧ i = .int .i64 k ∧ c = .int .i64 cy ∧ 0 ≤ cy ∧ cy ≤ 1 ∧ (k = n → cy = 0) ∧ P.length = n ∧ wr.ownsRow w.heap.size 2 1 (.slice (some ⟨w.heap.size, 0, none⟩) n n) n (P.map (Value.int .i64)) ∧ Hid (Dig 1000000000 P ∧ ev 1000000000 (P.take k) + cy * 1000000000 ^ k = ev 1000000000 (l.take k) + ev 1000000000 (m.take k)) ∧ Below w.heap.size w wr)
      (fun _ i _ => n - (intOf i).toNat)
    case atStart => exact ⟨0, P0, 0, Nat.zero_le _, rfl, rfl, by omega, by omega, fun _ => rfl, by rw [HP0.out]; simp, hown1, ⟨by rw [HP0.out]; exact Dig.zeros (by omega) _, by simp [ev]⟩, hb1⟩
    case round =>
      clear hown1 hb1 HP0
      obtain ⟨k, P, cy, hk, rfl, rfl, hc0, hc1, hce, hP, hown, HE, hbel⟩ := hrel
      by_cases hlt : k < n
      · have hx := Dig.getD (by omega) dl k
        have hy := Dig.getD (by omega) dm k
        have hru := hu.below hbel
        have hrv := hv.below hbel
        have hcx := limbAt_any l (.slice ua l.length uc) k wr hru (by omega) (by omega)
        have hcy := limbAt_any m (.slice va m.length vc) k wr hrv (by omega) (by omega)
        have hout : k + 1 = n → l.getD k 0 = 0 ∧ m.getD k 0 = 0 := by
          intro h
          have h1 : l.length ≤ k := by have := HN.out; omega
          have h2 : m.length ≤ k := by have := HN.out; omega
          simp [List.getD, List.getElem?_eq_none h1, List.getElem?_eq_none h2]
        obtain ⟨x, HX⟩ : ∃ x, Hid (l.getD k 0 = x) := ⟨_, rfl⟩
        obtain ⟨y, HY⟩ : ∃ y, Hid (m.getD k 0 = y) := ⟨_, rfl⟩
        rw [HX.out] at hx hcx hout
        rw [HY.out] at hy hcy hout
        have hlast : k + 1 = n → (x + y + cy) / 1000000000 = 0 := by
          intro h
          obtain ⟨rfl, rfl⟩ := hout h
          omega
        obtain ⟨hx0, hx1⟩ := hx
        obtain ⟨hy0, hy1⟩ := hy
        have hfp := hown.frozenAt k
        have hcp : wr.cell? ⟨w.heap.size, k, none⟩ = some (.int .i64 (P.getD k 0)) := by
          rw [hown.cellAt k (by omega)]
          simp [List.getD, show k < P.length by omega]
        have hs := add_set (by omega) HE.out HX.out HY.out
        have HS : Hid _ := hs
        generalize P.getD k 0 = p at hcp
        clear hs HE HX HY hru hrv hout hce
        go_wp2_with fail
        refine hcx.mono ?_
        rintro e w' ⟨rfl, rfl⟩
        go_wp2_with fail
        refine hcy.mono ?_
        rintro e w' ⟨rfl, rfl⟩
        clear hcx hcy
        go_wp2
        go_roundw
        case rel =>
          refine ⟨k + 1, P.set k ((x + y + cy) % 1000000000), _, by omega, by go_num, rfl, by omega, by omega, hlast, by simpa using hP, ?_, HS, hbel.setCell (Nat.le_refl _) _⟩
          rw [← map_set]
          exact (World.ownsRow.stored (w := w') hown _ _).1
        case measure => simp [intOf]; omega
      · obtain rfl : k = n := by omega
        obtain rfl := hce rfl
        have hs := add_last hP HE.out (by omega) (by omega)
        have HS : Hid _ := hs
        clear hs HE
        go_wp2
        go_ret
        exact ⟨P, _, rfl, (made_own hown hP).row, HS.out.1, HS.out.2, by omega, hbel⟩

end Go.Proofs.YtldcjkhbiffdoabGreatDoor

namespace Go.Proofs.YtldcjkhbiffdoabGreatDoor
open Go.RowKit

theorem sub_step {l m sl : List Int} {k : Nat} {cy x y t c' : Int} (hsl : sl.length = k) (h : Dig 1000000000 sl ∧ ev 1000000000 sl - cy * 1000000000 ^ k = ev 1000000000 (l.take k) - ev 1000000000 (m.take k)) (hx : l.getD k 0 = x) (hy : m.getD k 0 = y)
    (ht : t - c' * 1000000000 = x - y - cy) (h0 : 0 ≤ t) (h1 : t < 1000000000) : Dig 1000000000 (sl ++ [t]) ∧ ev 1000000000 (sl ++ [t]) - c' * 1000000000 ^ (k + 1) = ev 1000000000 (l.take (k + 1)) - ev 1000000000 (m.take (k + 1)) := by
  refine ⟨h.1.snoc h0 h1, ?_⟩
  rw [ev_take, ev_take, hx, hy]
  exact sub_round sl k hsl cy x y _ _ t c' h.2 ht

theorem sub_last {l m P : List Int} {cy : Int} (hP : P.length = l.length) (h : Dig 1000000000 P ∧ ev 1000000000 (P.take l.length) - cy * 1000000000 ^ l.length = ev 1000000000 (l.take l.length) - ev 1000000000 (m.take l.length)) (hm : m.length ≤ l.length)
    (hc : cy = 0 ∨ cy = 1) (hle : ev 1000000000 m ≤ ev 1000000000 l) : Dig 1000000000 P ∧ ev 1000000000 P = ev 1000000000 l - ev 1000000000 m := by
  refine ⟨h.1, ?_⟩
  have h2 := h.2
  rw [List.take_length, List.take_of_length_le hm, List.take_of_length_le (by omega), ← hP] at h2
  exact sub_end (by omega) P h.1 cy hc _ _ h2 hle

theorem sub_set {l m P : List Int} {k : Nat} {cy x y t c' : Int} (hk : k < P.length) (h : Dig 1000000000 P ∧ ev 1000000000 (P.take k) - cy * 1000000000 ^ k = ev 1000000000 (l.take k) - ev 1000000000 (m.take k)) (hx : l.getD k 0 = x) (hy : m.getD k 0 = y)
    (ht : t - c' * 1000000000 = x - y - cy) (h0 : 0 ≤ t) (h1 : t < 1000000000) : Dig 1000000000 (P.set k t) ∧ ev 1000000000 ((P.set k t).take (k + 1)) - c' * 1000000000 ^ (k + 1) = ev 1000000000 (l.take (k + 1)) - ev 1000000000 (m.take (k + 1)) := by
  refine ⟨h.1.set k h0 h1, ?_⟩
  rw [take_set hk]
  exact (sub_step (by rw [List.length_take]; omega) ⟨h.1.take k, h.2⟩ hx hy ht h0 h1).2

set_option maxHeartbeats 1000000 in
theorem subLimbs_any (l m : List Int) (u v : Value) (w : World) (hu : Row w u l) (hv : Row w v m) (hl : l.length ≤ 1000000000) (hm : m.length ≤ l.length) (dl : Dig 1000000000 l) (dm : Dig 1000000000 m) (hle : ev 1000000000 m ≤ ev 1000000000 l) :
    Calls Tryz.prog 105 #[u, v] w fun e w' => ∃ s x, e = .returned x ∧ Row w' x s ∧ Dig 1000000000 s ∧ ev 1000000000 s = ev 1000000000 l - ev 1000000000 m ∧ s.length ≤ l.length ∧ Below w.heap.size w w' := by
  have HLE : Hid _ := hle
  clear hle
  obtain ⟨ua, uc, rfl⟩ := hu.val
  obtain ⟨va, vc, rfl⟩ := hv.val
  go_enter Tryz.func105, Tryz.ntmps105
  go_wp2_with (at_make; refine wpList_make64 rfl (.tmp 12) (.tmp 12) rfl _ _ l.length rfl rfl rfl rfl (by omega) ?_)
  intro w1 P0 HP0 hown1 hb1
  go_wp2_with fail
  go_loopw [6, 7] (fun c i wr => ∃ (k : Nat) (P : List Int) (cy : Int), k ≤ l.length ∧ i = .int .i64 k ∧ c = .int .i64 cy ∧ 0 ≤ cy ∧ cy ≤ 1 ∧ P.length = l.length ∧ wr.ownsRow w.heap.size 2 1 (.slice (some ⟨w.heap.size, 0, none⟩) l.length l.length) l.length (P.map (Value.int .i64)) ∧ Hid (Dig 1000000000 P ∧ ev 1000000000 (P.take k) - cy * 1000000000 ^ k = ev 1000000000 (l.take k) - ev 1000000000 (m.take k)) ∧ Below w.heap.size w wr)
    (fun _ i _ => l.length - (intOf i).toNat)
  case atStart => exact ⟨0, P0, 0, Nat.zero_le _, rfl, rfl, by omega, by omega, by rw [HP0.out]; simp, hown1, ⟨by rw [HP0.out]; exact Dig.zeros (by omega) _, by simp [ev]⟩, hb1⟩
  case round =>
    clear hown1 hb1 HP0
    obtain ⟨k, P, cy, hk, rfl, rfl, hc0, hc1, hP, hown, HE, hbel⟩ := hrel
    by_cases hlt : k < l.length
    · have hx := Dig.getD (by omega) dl k
      have hy := Dig.getD (by omega) dm k
      have hru := hu.below hbel
      have hrv := hv.below hbel
      have hcx := limbAt_any l (.slice ua l.length uc) k wr hru (by omega) (by omega)
      have hcy := limbAt_any m (.slice va m.length vc) k wr hrv (by omega) (by omega)
      obtain ⟨x, HX⟩ : ∃ x, Hid (l.getD k 0 = x) := ⟨_, rfl⟩
      obtain ⟨y, HY⟩ : ∃ y, Hid (m.getD k 0 = y) := ⟨_, rfl⟩
      rw [HX.out] at hx hcx
      rw [HY.out] at hy hcy
      obtain ⟨hx0, hx1⟩ := hx
      obtain ⟨hy0, hy1⟩ := hy
      have hfp := hown.frozenAt k
      have hcp : wr.cell? ⟨w.heap.size, k, none⟩ = some (.int .i64 (P.getD k 0)) := by
        rw [hown.cellAt k (by omega)]
        simp [List.getD, show k < P.length by omega]
      generalize P.getD k 0 = p at hcp
      by_cases hneg : x - y - cy < 0
      · have hs := sub_set (t := x - y - cy + 1000000000) (c' := 1) (by omega) HE.out HX.out HY.out (by omega) (by omega) (by omega)
        have HS : Hid _ := hs
        clear hs HE HX HY hru hrv
        go_wp2_with fail
        refine hcx.mono ?_
        rintro e w' ⟨rfl, rfl⟩
        go_wp2_with fail
        refine hcy.mono ?_
        rintro e w' ⟨rfl, rfl⟩
        clear hcx hcy
        go_wp2
        go_roundw
        case rel =>
          refine ⟨k + 1, P.set k (x - y - cy + 1000000000), 1, by omega, by go_num, rfl, by omega, by omega, by simpa using hP, ?_, HS, hbel.setCell (Nat.le_refl _) _⟩
          rw [← map_set]
          exact (World.ownsRow.stored (w := w') hown _ _).1
        case measure => simp [intOf]; omega
      · have hs := sub_set (t := x - y - cy) (c' := 0) (by omega) HE.out HX.out HY.out (by omega) (by omega) (by omega)
        have HS : Hid _ := hs
        clear hs HE HX HY hru hrv
        go_wp2_with fail
        refine hcx.mono ?_
        rintro e w' ⟨rfl, rfl⟩
        go_wp2_with fail
        refine hcy.mono ?_
        rintro e w' ⟨rfl, rfl⟩
        clear hcx hcy
        go_wp2
        go_roundw
        case rel =>
          refine ⟨k + 1, P.set k (x - y - cy), 0, by omega, by go_num, rfl, by omega, by omega, by simpa using hP, ?_, HS, hbel.setCell (Nat.le_refl _) _⟩
          rw [← map_set]
          exact (World.ownsRow.stored (w := w') hown _ _).1
        case measure => simp [intOf]; omega
    · obtain rfl : k = l.length := by omega
      have hs := sub_last hP HE.out (by omega) (by omega) HLE.out
      have HS : Hid _ := hs
      clear hs HE
      go_wp2
      go_ret
      exact ⟨P, _, rfl, (made_own hown hP).row, HS.out.1, HS.out.2, by omega, hbel⟩

end Go.Proofs.YtldcjkhbiffdoabGreatDoor

namespace Go.Proofs.YtldcjkhbiffdoabGreatDoor
open Go.RowKit

def cmp3 (a b : Int) : Int := if a < b then -1 else if b < a then 1 else 0
theorem cmp3_lt {a b : Int} (h : a < b) : cmp3 a b = -1 := if_pos h
theorem cmp3_gt {a b : Int} (h : b < a) : cmp3 a b = 1 := by unfold cmp3; rw [if_neg (by omega), if_pos h]
theorem cmp3_eq (a : Int) : cmp3 a a = 0 := by unfold cmp3; rw [if_neg (by omega), if_neg (by omega)]
theorem cmp3_bd (a b : Int) : -1 ≤ cmp3 a b ∧ cmp3 a b ≤ 1 := by
  unfold cmp3
  split
  · omega
  · split <;> omega

set_option maxHeartbeats 1000000 in
theorem compareLimbs_any (l m : List Int) (u v : Value) (w : World) (hu : Row w u l) (hv : Row w v m) (hl : l.length ≤ 1000000000) (dl : Dig 1000000000 l) (dm : Dig 1000000000 m) (tl : Trim l) (tm : Trim m) :
    Calls Tryz.prog 84 #[u, v] w fun e w' => e = .returned (.int .i64 (cmp3 (ev 1000000000 l) (ev 1000000000 m))) ∧ w' = w := by
  obtain ⟨ua, uc, rfl⟩ := hu.val
  obtain ⟨va, vc, rfl⟩ := hv.val
  by_cases h1 : l.length < m.length
  · rw [cmp3_lt (ev_lt_of_length (by omega) dl dm tm h1)]
    go_enter Tryz.func84, Tryz.ntmps84
    go_wp2
    go_ret
    exact ⟨rfl, rfl⟩
  by_cases h2 : m.length < l.length
  · rw [cmp3_gt (ev_lt_of_length (by omega) dm dl tl h2)]
    go_enter Tryz.func84, Tryz.ntmps84
    go_wp2
    go_ret
    exact ⟨rfl, rfl⟩
  obtain ⟨z, HZ⟩ : ∃ z, Hid (cmp3 (ev 1000000000 l) (ev 1000000000 m) = z) := ⟨_, rfl⟩
  rw [HZ.out]
  go_enter Tryz.func84, Tryz.ntmps84
  go_wp2_with fail
  go_loop [5] (fun i => ∃ (k : Nat), k ≤ l.length ∧ i = .int .i64 ((k : Int) - 1) ∧ Hid (l.drop k = m.drop k)) (fun i => (intOf i + 1).toNat)
  case atStart => exact ⟨l.length, Nat.le_refl _, rfl, by rw [List.drop_of_length_le (Nat.le_refl _), List.drop_of_length_le (by omega)]; rfl⟩
  case round =>
    obtain ⟨k, hk, rfl, HD⟩ := hrel
    cases k with
    | zero =>
      have hz : z = 0 := by
        have : l = m := by simpa using HD.out
        rw [← HZ.out, this, cmp3_eq]
      subst hz
      clear HD HZ
      go_wp2
      go_ret
      exact ⟨rfl, rfl⟩
    | succ j =>
      rw [show (((j + 1 : Nat) : Int) - 1) = (j : Int) by omega]
      have hcx := limbAt_any l (.slice ua l.length uc) j w hu (by omega) (by omega)
      have hcy := limbAt_any m (.slice va m.length vc) j w hv (by omega) (by omega)
      obtain ⟨x, HX⟩ : ∃ x, Hid (l.getD j 0 = x) := ⟨_, rfl⟩
      obtain ⟨y, HY⟩ : ∃ y, Hid (m.getD j 0 = y) := ⟨_, rfl⟩
      rw [HX.out] at hcx
      rw [HY.out] at hcy
      rcases (show x < y ∨ y < x ∨ x = y by omega) with hxy | hxy | hxy
      · have hz : z = -1 := by
          rw [← HZ.out]
          exact cmp3_lt (ev_lt_of_limb (by omega) dl dm (by omega) j (by omega) HD.out (by rw [HX.out, HY.out]; exact hxy))
        subst hz
        clear HD HZ HX HY
        go_wp2_with fail
        refine hcx.mono ?_
        rintro e w' ⟨rfl, rfl⟩
        go_wp2_with fail
        refine hcy.mono ?_
        rintro e w' ⟨rfl, rfl⟩
        go_wp2_with fail
        go_ret
        exact ⟨rfl, rfl⟩
      · have hz : z = 1 := by
          rw [← HZ.out]
          exact cmp3_gt (ev_lt_of_limb (by omega) dm dl (by omega) j (by omega) HD.out.symm (by rw [HX.out, HY.out]; exact hxy))
        subst hz
        clear HD HZ HX HY
        go_wp2_with fail
        refine hcx.mono ?_
        rintro e w' ⟨rfl, rfl⟩
        go_wp2_with fail
        refine hcy.mono ?_
        rintro e w' ⟨rfl, rfl⟩
        go_wp2_with fail
        go_ret
        exact ⟨rfl, rfl⟩
      · have hd : Hid (l.drop j = m.drop j) := drop_eq_step j (by omega) (by omega) HD.out (by rw [HX.out, HY.out]; exact hxy)
        subst hxy
        clear HD HX HY
        go_wp2_with fail
        refine hcx.mono ?_
        rintro e w' ⟨rfl, rfl⟩
        go_wp2_with fail
        refine hcy.mono ?_
        rintro e w' ⟨rfl, rfl⟩
        go_wp2_with fail
        go_round
        case rel => exact ⟨j, by omega, by go_num, hd⟩
        case measure => simp [intOf]

end Go.Proofs.YtldcjkhbiffdoabGreatDoor

namespace Go.Proofs.YtldcjkhbiffdoabGreatDoor
open Go.RowKit

set_option maxHeartbeats 1000000 in
theorem signed_any (b : Bool) (l : List Int) (u : Value) (w : World) (hu : Row w u l) (hl : l.length ≤ 1000000000) (dl : Dig 1000000000 l) :
    Calls Tryz.prog 86 #[.bool b, u] w fun e w' => ∃ s x, e = .returned (.agg #[.bool (b && !s.isEmpty), x]) ∧ Row w' x s ∧ Dig 1000000000 s ∧ Trim s ∧ ev 1000000000 s = ev 1000000000 l ∧ s.length ≤ l.length ∧ Below w.heap.size w w' := by
  obtain ⟨ua, uc, rfl⟩ := hu.val
  have hT := fun (W : World) (h : Row W (.slice ua l.length uc) l) => trimmed_any l (.slice ua l.length uc) W h hl dl
  go_enter Tryz.func86, Tryz.ntmps86
  go_wp2_with fail
  generalize hW : w.alloc (Obj.cells #[Value.bool false, Value.slice none 0 0] 70) = W0
  have hsz0 : W0.heap.size = w.heap.size + 1 := by rw [← hW]; simp
  have hb0 : Below w.heap.size w W0 := by rw [← hW]; exact (Below.refl _ _).alloc (Nat.le_refl _) _
  have hx0 : W0.heap[w.heap.size]? = some (.cells #[Value.bool false, Value.slice none 0 0] 70 (0, 0)) := by rw [← hW]; exact heap_alloc_new w _
  clear hW
  refine (hT W0 (hu.below hb0)).mono ?_
  rintro e w1 ⟨s, x, rfl, hown, hTs, hb1⟩
  rw [hsz0] at hown hb1
  obtain ⟨xa, xc, rfl⟩ := hown.row.val
  have hx1 : w1.heap[w.heap.size]? = some (.cells #[Value.bool false, Value.slice none 0 0] 70 (0, 0)) := by rw [hb1.block _ (by omega)]; exact hx0
  have hc0 : w1.cell? ⟨w.heap.size, 0, none⟩ = some (.bool false) := by simp [World.cell?, hx1]
  have hc1 : w1.cell? ⟨w.heap.size, 1, none⟩ = some (.slice none 0 0) := by simp [World.cell?, hx1]
  have hf0 : w1.frozen? ⟨w.heap.size, 0, none⟩ = false := by simp [World.frozen?, hx1]
  have hf1 : w1.frozen? ⟨w.heap.size, 1, none⟩ = false := by simp [World.frozen?, hx1]
  have hbw : Below w.heap.size w w1 := hb0.trans (hb1.mono (by omega))
  have hemp : s.isEmpty = decide (s.length = 0) := by cases s <;> simp
  clear hx0 hx1
  cases b
  all_goals
    have hcase : s.length = 0 ∨ (0 < s.length ∧ ¬ s.length = 0) := by omega
    rcases hcase with h0 | ⟨h0, h1⟩
    all_goals
      go_wp2
      refine bodyPost_ret (by simp [results, Tryz.results86, go_sem, hc0, hc1]; rfl) rfl ⟨s, .slice xa s.length xc, ?_, Own.row (B := w.heap.size + 1) (ownsRow_setCell_below (ownsRow_setCell_below hown (by simp) _) (by simp) _), hTs.dig, hTs.trim, hTs.val, hTs.len, (hbw.setCell (by simp) _).setCell (by simp) _⟩
      simp [*]

end Go.Proofs.YtldcjkhbiffdoabGreatDoor

namespace Go.Proofs.YtldcjkhbiffdoabGreatDoor
open Go.RowKit

def sv (b : Bool) (n : Int) : Int := if b then -n else n

structure Lim (b : Bool) (l : List Int) (z : Int) : Prop where
  dig : Dig 1000000000 l
  trim : Trim l
  neg : b = true → l ≠ []
  val : z = sv b (ev 1000000000 l)

def IsI (w : World) (v : Value) (z : Int) : Prop := ∃ b x l, v = .agg #[.bool b, x] ∧ Row w x l ∧ Lim b l z

theorem IsI.below {w w' : World} {v : Value} {z : Int} (h : IsI w v z) (hb : Below w.heap.size w w') : IsI w' v z := by
  obtain ⟨b, x, l, h1, h2, h3⟩ := h
  exact ⟨b, x, l, h1, h2.below hb, h3⟩

def Fit (z : Int) : Prop := ∃ n, n ≤ 10000000 ∧ z.natAbs < 1000000000 ^ n

theorem natAbs_sv (b : Bool) {n : Int} (h : 0 ≤ n) : ((sv b n).natAbs : Int) = n := by
  unfold sv; split <;> omega

theorem ev_ne {l : List Int} (d : Dig 1000000000 l) (t : Trim l) (h : l ≠ []) : 0 < ev 1000000000 l := by
  have := ev_ge (by omega) d t h
  have := pow_pos (show (0 : Int) < 1000000000 by omega) (l.length - 1)
  omega

theorem Lim.len {b : Bool} {l : List Int} {z : Int} (h : Lim b l z) (hf : Fit z) : l.length ≤ 10000000 := by
  obtain ⟨n, hn, hz⟩ := hf
  rcases Nat.lt_or_ge n l.length with hlt | hge
  · have hne : l ≠ [] := by intro e; subst e; simp at hlt
    have h1 := ev_ge (by omega) h.dig h.trim hne
    have h2 : (1000000000 : Int) ^ n ≤ 1000000000 ^ (l.length - 1) := by
      obtain ⟨k, hk⟩ : ∃ k, l.length - 1 = n + k := ⟨l.length - 1 - n, by omega⟩
      rw [hk, Int.pow_add]
      have h5 : (0 : Int) < 1000000000 ^ k := Int.pow_pos (by omega)
      have := Int.mul_le_mul_of_nonneg_left (show (1 : Int) ≤ 1000000000 ^ k by omega) (Int.le_of_lt (pow_pos (show (0 : Int) < 1000000000 by omega) n))
      omega
    have h3 := natAbs_sv b (ev_nonneg (by omega) h.dig)
    rw [← h.val] at h3
    have h4 : (z.natAbs : Int) < 1000000000 ^ n := by
      have h6 := Int.ofNat_lt.2 hz
      rw [Int.natCast_pow] at h6
      exact h6
    omega
  · omega

theorem Lim.nonneg {b : Bool} {l : List Int} {z : Int} (h : Lim b l z) : 0 ≤ ev 1000000000 l := ev_nonneg (by omega) h.dig

theorem Lim.signed {b : Bool} {s : List Int} (d : Dig 1000000000 s) (t : Trim s) : Lim (b && !s.isEmpty) s (sv b (ev 1000000000 s)) := by
  refine ⟨d, t, ?_, ?_⟩
  · intro h e; subst e; simp at h
  · cases s with
    | nil => cases b <;> simp [sv, ev]
    | cons a s => cases b <;> rfl

theorem bcell {W w1 : World} (hb : Below W.heap.size W w1) : (∀ b o, b < W.heap.size → w1.cell? ⟨b, o, none⟩ = W.cell? ⟨b, o, none⟩) ∧ (∀ b o, b < W.heap.size → w1.frozen? ⟨b, o, none⟩ = W.frozen? ⟨b, o, none⟩) :=
  ⟨fun b o h => hb.cell (p := ⟨b, o, none⟩) h, fun b o h => hb.frozen (p := ⟨b, o, none⟩) h⟩

theorem of_drew {w w' : World} (h : Below w.drew.heap.size w.drew w') : Below w.heap.size w w' := ⟨h.os, h.tape, h.output, h.size, h.block⟩
def Bx (w : World) (k : Nat) (a b : Value) : Prop := w.heap[k]? = some (.cells #[a, b] 70 (0, 0))

theorem Bx.c0 {w : World} {k : Nat} {a b : Value} (h : Bx w k a b) : w.cell? ⟨k, 0, none⟩ = some a := by unfold Bx at h; simp [World.cell?, h]
theorem Bx.c1 {w : World} {k : Nat} {a b : Value} (h : Bx w k a b) : w.cell? ⟨k, 1, none⟩ = some b := by unfold Bx at h; simp [World.cell?, h]
theorem Bx.f0 {w : World} {k : Nat} {a b : Value} (h : Bx w k a b) : w.frozen? ⟨k, 0, none⟩ = false := by unfold Bx at h; simp [World.frozen?, h]
theorem Bx.f1 {w : World} {k : Nat} {a b : Value} (h : Bx w k a b) : w.frozen? ⟨k, 1, none⟩ = false := by unfold Bx at h; simp [World.frozen?, h]
theorem Bx.lt {w : World} {k : Nat} {a b : Value} (h : Bx w k a b) : k < w.heap.size := lt_of_block h
theorem Bx.below {w w' : World} {k : Nat} {a b : Value} (h : Bx w k a b) (hb : Below w.heap.size w w') : Bx w' k a b := by unfold Bx; rw [hb.block k h.lt]; exact h
theorem Bx.set {w : World} {k : Nat} {a b : Value} (h : Bx w k a b) (a' b' : Value) : Bx ((w.setCell ⟨k, 0, none⟩ a').setCell ⟨k, 1, none⟩ b') k a' b' := by
  unfold Bx at h ⊢
  rw [heap_setCell_same _ k 1 #[a', b] _ b' (by rw [heap_setCell_same w k 0 #[a, b] _ a' h]; rfl)]
  rfl
theorem Bx.alloc (w : World) (a b : Value) : Bx (w.alloc (.cells #[a, b] 70)) w.heap.size a b := heap_alloc_new w _
theorem Bx.alloc_old {w : World} {k : Nat} {a b : Value} (h : Bx w k a b) (o : Obj) : Bx (w.alloc o) k a b := h.below ((Below.refl _ _).alloc (Nat.le_refl _) _)

theorem one_new {w W0 : World} {a b : Value} (h : w.alloc (.cells #[a, b] 70) = W0) : Below w.heap.size w W0 ∧ Bx W0 w.heap.size a b := by
  subst h
  exact ⟨(Below.refl _ _).alloc (Nat.le_refl _) _, Bx.alloc w a b⟩

theorem Row.set {w : World} {v : Value} {l : List Int} (h : Row w v l) {k : Nat} {a b : Value} (hk : Bx w k a b) (o : Nat) (u : Value) : Row (w.setCell ⟨k, o, none⟩ u) v l := by
  refine ownsRow_setCell_other h (fun e => ?_) u
  rcases h.2 with ⟨h1, _⟩ | ⟨g, cap, cur, hv, hb0, hg, r⟩
  · rw [h1] at e; simp [Value.ownBlock] at e
  · rw [hv] at e
    simp [Value.ownBlock] at e
    subst e
    unfold Bx at hk
    rw [hk] at hg
    simp at hg
theorem Row.set2 {w : World} {v : Value} {l : List Int} (h : Row w v l) {k : Nat} {a b : Value} (hk : Bx w k a b) (a' b' : Value) : Row ((w.setCell ⟨k, 0, none⟩ a').setCell ⟨k, 1, none⟩ b') v l := by
  have hk' : Bx (w.setCell ⟨k, 0, none⟩ a') k a' b := by
    unfold Bx at hk ⊢
    rw [heap_setCell_same w k 0 #[a, b] _ a' hk]; rfl
  exact (h.set hk 0 a').set hk' 1 b'
theorem below_set2 {B : Nat} {a w : World} (h : Below B a w) {k : Nat} (hk : B ≤ k) (u v : Value) : Below B a ((w.setCell ⟨k, 0, none⟩ u).setCell ⟨k, 1, none⟩ v) := (h.setCell hk u).setCell hk v

theorem Row.later {B : Nat} {w w' : World} {v : Value} {l : List Int} (h : Row w v l) (hb : Below B w w') (hB : w.heap.size ≤ B) : Row w' v l := h.below (hb.mono hB)

end Go.Proofs.YtldcjkhbiffdoabGreatDoor

namespace Go.Proofs.YtldcjkhbiffdoabGreatDoor
open Go.RowKit

theorem two_new {w W0 : World} {a b c d : Value} (h : (w.alloc (.cells #[a, b] 70)).alloc (.cells #[c, d] 70) = W0) :
    w.heap.size + 1 < W0.heap.size ∧ Below w.heap.size w W0 ∧ Bx W0 w.heap.size a b ∧ Bx W0 (w.heap.size + 1) c d := by
  subst h
  refine ⟨by simp, ((Below.refl _ _).alloc (Nat.le_refl _) _).alloc (by simp) _, (Bx.alloc w a b).alloc_old _, ?_⟩
  have := Bx.alloc (w.alloc (.cells #[a, b] 70)) c d
  simpa using this

set_option maxHeartbeats 1000000 in
theorem neg_any (u : Value) (z : Int) (w : World) (hu : IsI w u z) (f : Fit z) :
    Calls Tryz.prog 63 #[u] w fun e w' => ∃ v, e = .returned v ∧ IsI w' v (-z) ∧ Below w.heap.size w w' := by
  obtain ⟨b, x, l, rfl, hx, h1⟩ := hu
  have hl := h1.len f
  obtain ⟨ua, uc, rfl⟩ := hx.val
  go_enter Tryz.func63, Tryz.ntmps63
  go_wp2_with fail
  generalize hW : (w.alloc (Obj.cells #[Value.bool b, Value.slice ua l.length uc] 70)).alloc (Obj.cells #[Value.bool false, Value.slice none 0 0] 70) = W0
  obtain ⟨hz0, hb0, X0, X1⟩ := two_new hW
  clear hW
  refine (signed_any (!b) l _ W0 (hx.below hb0) (by omega) h1.dig).mono ?_
  rintro e w1 ⟨t, x2, rfl, hr2, hd2, ht2, hv2, hlen2, hb2⟩
  have HV2 : Hid _ := hv2
  clear hv2
  obtain ⟨xa, xc, rfl⟩ := hr2.val
  have X1' := X1.below hb2
  have r3 := X1'.c0; have r4 := X1'.c1; have g3 := X1'.f0; have g4 := X1'.f1
  go_wp2
  refine bodyPost_ret (v := .agg #[.bool (!b && !t.isEmpty), .slice xa t.length xc]) (by simp [results, Tryz.results63, go_sem, r3, r4]) rfl ⟨_, rfl, ⟨_, _, t, rfl, hr2.set2 X1' _ _, ?_⟩, below_set2 (hb0.trans (hb2.mono hb0.size)) (by omega) _ _⟩
  have := Lim.signed (b := !b) hd2 ht2
  rw [HV2.out] at this
  rw [h1.val]
  have e : -sv b (ev 1000000000 l) = sv (!b) (ev 1000000000 l) := by cases b <;> simp [sv]
  rw [e]
  exact this

set_option maxHeartbeats 1000000 in
theorem abs_any (u : Value) (z : Int) (w : World) (hu : IsI w u z) (f : Fit z) :
    Calls Tryz.prog 60 #[u] w fun e w' => ∃ v, e = .returned v ∧ IsI w' v (z.natAbs : Int) ∧ Below w.heap.size w w' := by
  obtain ⟨b, x, l, rfl, hx, h1⟩ := hu
  have hl := h1.len f
  obtain ⟨ua, uc, rfl⟩ := hx.val
  go_enter Tryz.func60, Tryz.ntmps60
  go_wp2_with fail
  generalize hW : (w.alloc (Obj.cells #[Value.bool b, Value.slice ua l.length uc] 70)).alloc (Obj.cells #[Value.bool false, Value.slice none 0 0] 70) = W0
  obtain ⟨hz0, hb0, X0, X1⟩ := two_new hW
  clear hW
  refine (signed_any false l _ W0 (hx.below hb0) (by omega) h1.dig).mono ?_
  rintro e w1 ⟨t, x2, rfl, hr2, hd2, ht2, hv2, hlen2, hb2⟩
  have HV2 : Hid _ := hv2
  clear hv2
  obtain ⟨xa, xc, rfl⟩ := hr2.val
  have X1' := X1.below hb2
  have r3 := X1'.c0; have r4 := X1'.c1; have g3 := X1'.f0; have g4 := X1'.f1
  go_wp2
  refine bodyPost_ret (v := .agg #[.bool (false && !t.isEmpty), .slice xa t.length xc]) (by simp [results, Tryz.results60, go_sem, r3, r4]) rfl ⟨_, rfl, ⟨_, _, t, rfl, hr2.set2 X1' _ _, ?_⟩, below_set2 (hb0.trans (hb2.mono hb0.size)) (by omega) _ _⟩
  have := Lim.signed (b := false) hd2 ht2
  rw [HV2.out] at this
  rw [h1.val, natAbs_sv b h1.nonneg]
  exact this

def sgn3 (z : Int) : Int := if z < 0 then -1 else if z = 0 then 0 else 1

set_option maxHeartbeats 1000000 in
theorem sign_any (u : Value) (z : Int) (w : World) (hu : IsI w u z) (f : Fit z) :
    Calls Tryz.prog 56 #[u] w fun e w' => e = .returned (.int .i64 (sgn3 z)) ∧ Below w.heap.size w w' := by
  obtain ⟨b, x, l, rfl, hx, h1⟩ := hu
  have hl := h1.len f
  obtain ⟨ua, uc, rfl⟩ := hx.val
  have hs : (l.length = 0 ∧ sgn3 z = 0) ∨ (0 < l.length ∧ b = true ∧ sgn3 z = -1) ∨ (0 < l.length ∧ b = false ∧ sgn3 z = 1) := by
    cases l with
    | nil =>
      refine .inl ⟨rfl, ?_⟩
      rw [h1.val]
      cases b <;> simp [sv, ev, sgn3]
    | cons a l =>
      have := ev_ne h1.dig h1.trim (by simp)
      cases b with
      | true => exact .inr (.inl ⟨by simp, rfl, by rw [h1.val]; unfold sgn3 sv; rw [if_pos rfl, if_pos (by omega)]⟩)
      | false => exact .inr (.inr ⟨by simp, rfl, by rw [h1.val]; show sgn3 (ev 1000000000 (a :: l)) = 1; unfold sgn3; rw [if_neg (by omega), if_neg (by omega)]⟩)
  generalize sgn3 z = g at *
  rcases hs with ⟨h0, rfl⟩ | ⟨h0, rfl, rfl⟩ | ⟨h0, rfl, rfl⟩
  all_goals
    go_enter Tryz.func56, Tryz.ntmps56
    go_wp2
    go_ret
    exact ⟨rfl, (Below.refl _ _).alloc (Nat.le_refl _) _⟩

set_option maxHeartbeats 1000000 in
theorem compare_any (u v : Value) (z1 z2 : Int) (w : World) (hu : IsI w u z1) (hv : IsI w v z2) (f1 : Fit z1) (f2 : Fit z2) :
    Calls Tryz.prog 57 #[u, v] w fun e w' => e = .returned (.int .i64 (cmp3 z1 z2)) ∧ Below w.heap.size w w' := by
  obtain ⟨b1, x, l, rfl, hx, h1⟩ := hu
  obtain ⟨b2, y, m, rfl, hy, h2⟩ := hv
  have hl := h1.len f1
  have hm := h2.len f2
  obtain ⟨ua, uc, rfl⟩ := hx.val
  obtain ⟨va, vc, rfl⟩ := hy.val
  have n1 := h1.nonneg
  have n2 := h2.nonneg
  have p1 : b1 = true → 0 < ev 1000000000 l := fun h => ev_ne h1.dig h1.trim (h1.neg h)
  have p2 : b2 = true → 0 < ev 1000000000 m := fun h => ev_ne h2.dig h2.trim (h2.neg h)
  have e1 := h1.val
  have e2 := h2.val
  have hcmp := cmp3_bd (ev 1000000000 l) (ev 1000000000 m)
  cases b1 <;> cases b2
  · have he : cmp3 z1 z2 = cmp3 (ev 1000000000 l) (ev 1000000000 m) := by rw [e1, e2]; rfl
    rw [he]
    clear he e1 e2 p1 p2 n1 n2
    have hC := fun (W0 : World) (g1 : Row W0 (.slice ua l.length uc) l) (g2 : Row W0 (.slice va m.length vc) m) => compareLimbs_any l m _ _ W0 g1 g2 (by omega) h1.dig h2.dig h1.trim h2.trim
    generalize cmp3 (ev 1000000000 l) (ev 1000000000 m) = c at *
    obtain ⟨hcl, hcu⟩ := hcmp
    have HC : Hid _ := hC
    clear hC
    go_enter Tryz.func57, Tryz.ntmps57
    go_wp2_with fail
    generalize hW : (w.alloc (Obj.cells #[Value.bool false, Value.slice ua l.length uc] 70)).alloc (Obj.cells #[Value.bool false, Value.slice va m.length vc] 70) = W0
    obtain ⟨hz0, hb0, X0, X1⟩ := two_new hW
    clear hW
    refine (HC.out W0 (hx.below hb0) (hy.below hb0)).mono ?_
    rintro e w' ⟨rfl, rfl⟩
    have r3 := X0.c0
    go_wp2
    go_ret
    exact ⟨rfl, hb0⟩
  · have he : cmp3 z1 z2 = 1 := by
      have := p2 rfl
      apply cmp3_gt
      rw [e1, e2]; unfold sv; rw [if_pos rfl, if_neg (by simp)]; omega
    rw [he]
    clear he e1 e2 p1 p2 n1 n2 hcmp
    go_enter Tryz.func57, Tryz.ntmps57
    go_wp2
    go_ret
    exact ⟨rfl, ((Below.refl _ _).alloc (Nat.le_refl _) _).alloc (by simp) _⟩
  · have he : cmp3 z1 z2 = -1 := by
      have := p1 rfl
      apply cmp3_lt
      rw [e1, e2]; unfold sv; rw [if_pos rfl, if_neg (by simp)]; omega
    rw [he]
    clear he e1 e2 p1 p2 n1 n2 hcmp
    go_enter Tryz.func57, Tryz.ntmps57
    go_wp2
    go_ret
    exact ⟨rfl, ((Below.refl _ _).alloc (Nat.le_refl _) _).alloc (by simp) _⟩
  · have he : cmp3 z1 z2 = -cmp3 (ev 1000000000 l) (ev 1000000000 m) := by
      rw [e1, e2]; unfold sv cmp3; rw [if_pos rfl, if_pos rfl]
      split
      · rw [if_neg (by omega), if_pos (by omega)]
      · split
        · rw [if_pos (by omega)]
          omega
        · rw [if_neg (by omega), if_neg (by omega)]; rfl
    rw [he]
    clear he e1 e2 p1 p2 n1 n2
    have hC := fun (W0 : World) (g1 : Row W0 (.slice ua l.length uc) l) (g2 : Row W0 (.slice va m.length vc) m) => compareLimbs_any l m _ _ W0 g1 g2 (by omega) h1.dig h2.dig h1.trim h2.trim
    generalize cmp3 (ev 1000000000 l) (ev 1000000000 m) = c at *
    obtain ⟨hcl, hcu⟩ := hcmp
    have HC : Hid _ := hC
    clear hC
    go_enter Tryz.func57, Tryz.ntmps57
    go_wp2_with fail
    generalize hW : (w.alloc (Obj.cells #[Value.bool true, Value.slice ua l.length uc] 70)).alloc (Obj.cells #[Value.bool true, Value.slice va m.length vc] 70) = W0
    obtain ⟨hz0, hb0, X0, X1⟩ := two_new hW
    clear hW
    refine (HC.out W0 (hx.below hb0) (hy.below hb0)).mono ?_
    rintro e w' ⟨rfl, rfl⟩
    have r3 := X0.c0
    go_wp2
    go_ret
    exact ⟨rfl, hb0⟩

end Go.Proofs.YtldcjkhbiffdoabGreatDoor

namespace Go.Proofs.YtldcjkhbiffdoabGreatDoor


def blanks : List UInt8 → Nat
  | [] => 0
  | c :: l => if c == 32 then blanks l + 1 else 0

def isDig (c : UInt8) : Bool := 48 ≤ c && c ≤ 57

def digs : List UInt8 → List UInt8
  | [] => []
  | c :: l => if isDig c then c :: digs l else []

def numOf (n : Nat) : List UInt8 → Nat
  | [] => n
  | c :: l => numOf (10 * n + (c.toNat - 48)) l

def skp (s : List UInt8) (n : Nat) : Nat := n + blanks (s.drop n)

def tak (s : List UInt8) (c : UInt8) (n : Nat) : Bool × Nat :=
  if s[skp s n]? = some c then (true, skp s n + 1) else (false, skp s n)

def rdNum (s : List UInt8) (n : Nat) : Bool × Nat × Nat :=
  (!(digs (s.drop (skp s n))).isEmpty, numOf 0 (digs (s.drop (skp s n))), skp s n + (digs (s.drop (skp s n))).length)

def rdPow (s : List UInt8) (n : Nat) : Bool × Nat × Nat :=
  if (tak s 120 n).1 then
    if (tak s 94 (tak s 120 n).2).1 then rdNum s (tak s 94 (tak s 120 n).2).2
    else (true, 1, (tak s 94 (tak s 120 n).2).2)
  else (false, 0, (tak s 120 n).2)

def rdTerm (s : List UInt8) (n : Nat) : Bool × Nat × Nat × Nat :=
  if (rdNum s n).1 then
    if (tak s 42 (rdNum s n).2.2).1 then
      ((rdPow s (tak s 42 (rdNum s n).2.2).2).1, (rdNum s n).2.1, (rdPow s (tak s 42 (rdNum s n).2.2).2).2.1, (rdPow s (tak s 42 (rdNum s n).2.2).2).2.2)
    else (true, (rdNum s n).2.1, 0, (tak s 42 (rdNum s n).2.2).2)
  else ((rdPow s (rdNum s n).2.2).1, 1, (rdPow s (rdNum s n).2.2).2.1, (rdPow s (rdNum s n).2.2).2.2)

def addT (c : Int) (p : Nat) : List (Int × Nat) → List (Int × Nat)
  | [] => [(c, p)]
  | (d, q) :: l => if q = p then (d + c, q) :: l else (d, q) :: addT c p l

def sgn (m : Bool) (c : Nat) : Int := if m then -(c : Int) else c


theorem drop_at {l : List UInt8} {k : Nat} {c : UInt8} (h : l[k]? = some c) : l.drop k = c :: l.drop (k + 1) := by
  obtain ⟨hk, rfl⟩ := List.getElem?_eq_some_iff.1 h
  exact List.drop_eq_getElem_cons hk

theorem skp_step {l : List UInt8} {k : Nat} (h : l[k]? = some 32) : skp l k = skp l (k + 1) := by
  unfold skp
  rw [drop_at h]
  simp [blanks]; omega

theorem skp_stop {l : List UInt8} {k : Nat} (h : l[k]? ≠ some 32) : skp l k = k := by
  unfold skp
  cases hd : l.drop k with
  | nil => rfl
  | cons c r =>
    have hc : l[k]? = some c := by
      have := List.getElem?_drop (xs := l) (i := k) (j := 0)
      rw [hd] at this
      simpa using this.symm
    have : ¬ c = 32 := by intro e; subst e; exact h hc
    simp [blanks, this]

theorem blanks_le : ∀ l : List UInt8, blanks l ≤ l.length
  | [] => Nat.le_refl _
  | c :: l => by
    unfold blanks
    split
    · have := blanks_le l; simp; omega
    · simp

theorem skp_le {l : List UInt8} {n : Nat} (h : n ≤ l.length) : skp l n ≤ l.length := by
  have := blanks_le (l.drop n)
  rw [List.length_drop] at this
  unfold skp; omega

theorem skp_ge (l : List UInt8) (n : Nat) : n ≤ skp l n := by unfold skp; omega

theorem digs_le : ∀ l : List UInt8, (digs l).length ≤ l.length
  | [] => Nat.le_refl _
  | c :: l => by
    unfold digs
    split
    · have := digs_le l; simp; omega
    · simp

theorem digs_step {l : List UInt8} {k : Nat} {c : UInt8} (h : l[k]? = some c) (hc : isDig c = true) : digs (l.drop k) = c :: digs (l.drop (k + 1)) := by
  rw [drop_at h]; simp [digs, hc]

theorem digs_stop {l : List UInt8} {k : Nat} (h : ∀ c, l[k]? = some c → isDig c = false) : digs (l.drop k) = [] := by
  cases hd : l.drop k with
  | nil => rfl
  | cons c r =>
    have hc : l[k]? = some c := by
      have := List.getElem?_drop (xs := l) (i := k) (j := 0)
      rw [hd] at this
      simpa using this.symm
    simp [digs, h c hc]

theorem isDig_le {c : UInt8} (h : isDig c = true) : c.toNat ≤ 57 := by
  unfold isDig at h
  simp [UInt8.le_iff_toNat_le] at h
  exact h.2

theorem numOf_lt (l : List UInt8) : ∀ (n k : Nat), n < 10 ^ k → (∀ c, c ∈ l → isDig c = true) → numOf n l < 10 ^ (k + l.length) := by
  induction l with
  | nil =>
    intro n k h _
    unfold numOf
    exact h
  | cons c l ih =>
    intro n k h hc
    have h2 := isDig_le (hc c (List.mem_cons_self ..))
    generalize hm : 10 * n + (c.toNat - 48) = m
    have h3 : m < 10 ^ (k + 1) := by rw [Nat.pow_succ]; omega
    have h4 := ih m (k + 1) h3 (fun d hd => hc d (List.mem_cons_of_mem _ hd))
    unfold numOf
    have h5 : k + (c :: l).length = k + 1 + l.length := by simp; omega
    rw [h5, hm]
    exact h4

theorem digs_all : ∀ (l : List UInt8) (c : UInt8), c ∈ digs l → isDig c = true
  | [], c, h => by simp [digs] at h
  | d :: l, c, h => by
    unfold digs at h
    split at h
    · rename_i hd
      rcases List.mem_cons.1 h with h | h
      · rw [h]; exact hd
      · exact digs_all l c h
    · simp at h

end Go.Proofs.YtldcjkhbiffdoabGreatDoor
