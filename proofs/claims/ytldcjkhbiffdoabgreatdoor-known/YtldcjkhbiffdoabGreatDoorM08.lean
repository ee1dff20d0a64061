import Derived.Test.YtldcjkhbiffdoabGreatDoorM07
import Derived.Test.YtldcjkhbiffdoabGreatDoorM04
import Derived.Deep.RegionHeld3
import Derived.Deep.QuietTactic
import Derived.BigQuiet
import Derived.BigRegion

namespace Go.Proofs.YtldcjkhbiffdoabGreatDoor
open Go.RowKit

theorem wpList_makeZ {ops : Array Oper} {rest : List Oper} {o : Oper} {a : Act} {Q : Exit → Act → World → Prop} {w : World} (hg : o.guard = none) (l c : Operand) (hop : o.op = Op.makeSlice 42 l c)
    (L C : Int) (n : Nat) (hl : a.eval l = .int .i64 L) (hc : a.eval c = .int .i64 C) (hL : L = (n : Int)) (hC : C = (n : Int)) (hn : n ≤ 1000000000000)
    (hK : ∀ w' P, Hid (P = List.replicate n 0) → w'.ownsRow w.heap.size 3 1 (.slice (some ⟨w.heap.size, 0, none⟩) n n) n (P.map (Value.int .i64)) → Below w.heap.size w w' → wpList Tryz.prog ops Q rest (a.put o.dst (.slice (some ⟨w.heap.size, 0, none⟩) n n)) w') :
    wpList Tryz.prog ops Q (o :: rest) a w := by
  obtain ⟨i, hi, hz0, hz1, hz2⟩ := info_parts Tryz.infoIntN
  refine wpList_make_full w hg l c 42 hop w.heap.size 3 i (.int .i64 0) 1 Tryz.sliceIntN hi hz0 hz1 .i64 .i64 L C n hl hc hL hC (by rw [hz2]; omega) (by unfold maxLen; omega) (Nat.le_refl _) ?_
  intro w' h1 h2
  rw [made_zeros] at h1
  exact hK w' _ rfl h1 ((Below.refl _ _).grown h2 (Nat.le_refl _) (fun k hk => by cases hk))

theorem made_ownN {B n g : Nat} {w : World} {P : List Int} (h : w.ownsRow B 3 1 (.slice (some ⟨g, 0, none⟩) n n) n (P.map (Value.int .i64))) (hP : P.length = n) : OwnN B w (.slice (some ⟨g, 0, none⟩) n n) P := by
  unfold OwnN; rw [hP]; exact h

theorem owned_blockN {w : World} {B n g c : Nat} {xs : List Value} (h : w.ownsRow B 3 1 (.slice (some ⟨g, 0, none⟩) n c) n xs) : ∃ cur, w.heap[g]? = some (.cells cur 3 (0, 0)) ∧ cur.size = c ∧ B ≤ g ∧ n ≤ c ∧ c ≤ maxLen ∧ cur.toList.take n = xs := by
  rcases h.2 with ⟨h1, _⟩ | ⟨g', cap, cur, hv, hb, hg, hnc, hcm, hcs, ht⟩
  · cases h1
  · simp only [Value.slice.injEq, true_and, Option.some.injEq, Addr.mk.injEq, and_true] at hv
    obtain ⟨rfl, rfl⟩ := hv
    exact ⟨cur, hg, by simpa using hcs, hb, hnc, hcm, by simpa using ht⟩

theorem copyN_run {w : World} (B g n : Nat) (P l : List Int) (ua : Option Addr) (uc : Nat) (hr : RowN w (.slice ua l.length uc) l) (hn : n ≤ l.length)
    (hown : w.ownsRow B 3 1 (.slice (some ⟨g, 0, none⟩) n n) n (P.map (Value.int .i64))) :
    ∃ w2, (Builtin.copy_ #[42, 42] 3 #[.slice (some ⟨g, 0, none⟩) n n, .slice ua l.length uc]).run Tryz.prog w = .ok (goInt n) w2 ∧ OwnN B w2 (.slice (some ⟨g, 0, none⟩) n n) (l.take n) ∧ Below B w w2 := by
  obtain ⟨i, hi, hz0, hz1, hz2⟩ := info_parts Tryz.infoIntN
  obtain ⟨cur, hg, hcs, hB, _, hcm, _⟩ := owned_blockN hown
  have hlt : (l.take n).length = n := by rw [List.length_take]; omega
  have hlen : ((l.take n).map (Value.int .i64)).length = n := by rw [List.length_map, hlt]
  by_cases h0 : n = 0
  · subst h0
    refine ⟨w, run_copy_none (P := Tryz.prog) w 42 42 3 3 (some ⟨g, 0, none⟩) ua 0 0 l.length uc Tryz.sliceIntN (by rw [hi]; simp [hz1]) (by simp), ?_, Below.refl _ _⟩
    refine ⟨by simp, .inr ⟨g, 0, cur, by simp, hB, hg, by simp, by simp [maxLen], by simpa using hcs, by simp⟩⟩
  · obtain ⟨ga, rfl, _⟩ := hr.at 0 (by omega)
    have hrun := run_copy_row (P := Tryz.prog) w 42 42 3 3 g 0 n n ⟨ga, 0, none⟩ l.length uc cur 3 ((l.take n).map (Value.int .i64)) Tryz.sliceIntN (by rw [hi]; simp [hz1]) hg (by rw [hlen]; exact (Nat.min_eq_right hn).symm) ?_ (by rw [hlen]; omega) ?_
    · rw [hlen] at hrun
      refine ⟨_, hrun, ?_, below_setRow (Below.refl _ _) hB _⟩
      have hg2 := setRow_heap w g cur (cur.toList.take 0 ++ (l.take n).map (Value.int .i64) ++ cur.toList.drop (0 + n)).toArray 3 (0, 0) hg
      have hsp : cur.toList.take 0 ++ (l.take n).map (Value.int .i64) ++ cur.toList.drop (0 + n) = (l.take n).map (Value.int .i64) := by
        rw [List.drop_eq_nil_of_le (by rw [Array.length_toList, hcs]; omega)]
        simp
      rw [hsp] at hg2 ⊢
      unfold OwnN
      rw [hlt]
      refine ⟨by rw [hlen]; omega, .inr ⟨g, n, _, rfl, hB, hg2, Nat.le_refl _, hcm, ?_, ?_⟩⟩
      · simp; omega
      · rw [List.take_of_length_le]
        simp; omega
    · intro j v hj
      have hj' : j < n := by
        have := (List.getElem?_eq_some_iff.1 hj).1
        omega
      obtain ⟨ga', e, _, _, _, hc⟩ := hr.at j (by omega)
      simp at e
      subst e
      have hv : v = .int .i64 (l.getD j 0) := by
        rw [getD_lt (show j < l.length by omega)]
        simp [List.getElem?_take_of_lt hj', List.getElem?_eq_getElem (show j < l.length by omega)] at hj
        exact hj.symm
      have ha : (⟨ga, 0, none⟩ : Addr).add j = ⟨ga, j, none⟩ := by cases j <;> simp [Addr.add]
      rw [hv, ha]
      exact hc
    · intro v hv
      obtain ⟨z, _, rfl⟩ := List.mem_map.1 hv
      rfl


end Go.Proofs.YtldcjkhbiffdoabGreatDoor

namespace Go.Proofs.YtldcjkhbiffdoabGreatDoor
open Go.RowKit

set_option maxHeartbeats 400000 in
theorem modulo_any (n p : Int) (w : World) (hn : 0 ≤ n) (hn1 : n < 1000000000000000) (hp : 0 < p) (hp1 : p < 1000000000000000) :
    Calls Tryz.prog 121 #[.int .i64 n, .int .i64 p] w fun e w' => e = .returned (.int .i64 (n % p)) ∧ w' = w := by
  have h2 : 0 ≤ n % p := Int.emod_nonneg _ (by omega)
  have h3 : n % p < p := Int.emod_lt_of_pos _ hp
  have hlt : ¬ p < 1 := by omega
  have hp0 : ¬ p = 0 := by omega
  go_enter Tryz.func121, Tryz.ntmps121
  go_wp2
  go_ret
  exact ⟨rfl, rfl⟩

set_option maxHeartbeats 400000 in
theorem atN_any (l : List Int) (v : Value) (i : Nat) (w : World) (h : RowN w v l) (hi : i ≤ 1000000000000) (hl : l.length ≤ 1000000000000) :
    Calls Tryz.prog 113 #[v, .int .i64 i] w fun e w' => e = .returned (.int .i64 (l.getD i 0)) ∧ w' = w := by
  rcases h.form with ⟨rfl, rfl⟩ | ⟨g, cap, rfl, hc, hm, _, hcell⟩
  · go_enter Tryz.func113, Tryz.ntmps113
    go_wp2
    go_ret
    exact ⟨rfl, rfl⟩
  · by_cases hlt : i < l.length
    · have hg := hcell i hlt
      clear hcell
      generalize l.getD i 0 = x at *
      go_enter Tryz.func113, Tryz.ntmps113
      go_wp2
      go_ret
      exact ⟨rfl, rfl⟩
    · have hz : l.getD i 0 = 0 := by simp [List.getD, List.getElem?_eq_none (Nat.le_of_not_lt hlt)]
      clear hcell
      rw [hz]
      clear hz
      go_enter Tryz.func113, Tryz.ntmps113
      go_wp2
      go_ret
      exact ⟨rfl, rfl⟩

def InvO (p : Nat) (n : Int) (pw sq : Int) (lf : Nat) : Prop := (p : Int) ∣ pw * sq ^ lf - n ^ (p - 2)

theorem InvO.even {p : Nat} {n pw sq : Int} {lf : Nat} (h : InvO p n pw sq lf) (he : lf % 2 = 0) : InvO p n pw (sq * sq % p) (lf / 2) := by
  unfold InvO at *
  have h1 : sq ^ lf = (sq * sq) ^ (lf / 2) := by
    rw [Int.mul_pow, ← Int.pow_add]; congr 1; omega
  rw [h1] at h
  have h2 : ∀ (a : Int) (k : Nat), (p : Int) ∣ (a % p) ^ k - a ^ k := by
    intro a k
    induction k with
    | zero => simp
    | succ k ih =>
      rw [Int.pow_succ, Int.pow_succ]
      have h3 : (p : Int) ∣ a % p - a := ⟨-(a / p), by rw [Int.mul_neg]; have := Int.mul_ediv_add_emod a p; omega⟩
      have h4 : (a % p) ^ k * (a % p) - a ^ k * a = ((a % p) ^ k - a ^ k) * (a % p) + a ^ k * (a % p - a) := by rw [Int.sub_mul, Int.mul_sub]; omega
      rw [h4]
      exact Int.dvd_add (Int.dvd_trans ih (Int.dvd_mul_right ..)) (Int.dvd_trans h3 (Int.dvd_mul_left ..))
  have h5 := Int.dvd_add (Int.dvd_trans (h2 (sq * sq) (lf / 2)) (Int.dvd_mul_left pw _)) h
  rwa [Int.mul_sub, show pw * (sq * sq % ↑p) ^ (lf / 2) - pw * (sq * sq) ^ (lf / 2) + (pw * (sq * sq) ^ (lf / 2) - n ^ (p - 2)) = pw * (sq * sq % ↑p) ^ (lf / 2) - n ^ (p - 2) by omega] at h5
theorem InvO.odd {p : Nat} {n pw sq : Int} {lf : Nat} (h : InvO p n pw sq lf) (he : lf % 2 = 1) : InvO p n (pw * sq % p) sq (lf - 1) := by
  unfold InvO at *
  obtain ⟨k, rfl⟩ : ∃ k, lf = k + 1 := ⟨lf - 1, by omega⟩
  rw [Nat.add_sub_cancel]
  rw [Int.pow_succ] at h
  have h3 : (p : Int) ∣ pw * sq % p - pw * sq := ⟨-(pw * sq / p), by rw [Int.mul_neg]; have := Int.mul_ediv_add_emod (pw * sq) p; omega⟩
  have h4 := Int.dvd_add (Int.dvd_trans h3 (Int.dvd_mul_right _ (sq ^ k))) h
  rwa [Int.sub_mul, show pw * sq * sq ^ k = pw * (sq ^ k * sq) by rw [Int.mul_assoc, Int.mul_comm sq], show pw * sq % ↑p * sq ^ k - pw * (sq ^ k * sq) + (pw * (sq ^ k * sq) - n ^ (p - 2)) = pw * sq % ↑p * sq ^ k - n ^ (p - 2) by omega] at h4
theorem InvO.ends {p : Nat} (hp2 : 2 ≤ p) (hp : Dom (p : Int)) {n : Nat} (hn : ¬ (p : Int) ∣ n) {pw sq : Int} (h : InvO p n pw sq 0) : (p : Int) ∣ n * (pw % p) - 1 := by
  unfold InvO at h
  rw [Int.pow_zero, Int.mul_one] at h
  have h1 := fermat hp2 hp n
  obtain ⟨q, hq⟩ : ∃ q, p = q + 2 := ⟨p - 2, by omega⟩
  rw [show p - 2 = q by omega] at h
  have h2 : (p : Int) ∣ n * (n * (n : Int) ^ q - 1) := by
    have : (n : Int) ^ p - n = n * (n * (n : Int) ^ q - 1) := by
      rw [hq, show q + 2 = (q + 1) + 1 from rfl, Int.pow_succ, Int.pow_succ, Int.mul_sub, Int.mul_one, Int.mul_comm ((n : Int) ^ q), Int.mul_comm _ (n : Int)]
    rwa [this] at h1
  have h3 := (hp.1 _ _ h2).resolve_left hn
  have h4 : (p : Int) ∣ pw % p - pw := ⟨-(pw / p), by rw [Int.mul_neg]; have := Int.mul_ediv_add_emod pw p; omega⟩
  have h5 := Int.dvd_add (Int.dvd_trans (Int.dvd_add h4 h) (Int.dvd_mul_left (n : Int) _)) h3
  rwa [show pw % ↑p - pw + (pw - ↑n ^ q) = pw % ↑p - ↑n ^ q by omega, Int.mul_sub, show (n : Int) * (pw % ↑p) - ↑n * ↑n ^ q + (↑n * ↑n ^ q - 1) = ↑n * (pw % ↑p) - 1 by omega] at h5

set_option maxHeartbeats 1000000 in
theorem inverse_any (p n : Nat) (w : World) (hp2 : 2 ≤ p) (hp1 : p < 1000) (hp : Dom (p : Int)) (hn : n < p) (hn0 : ¬ (p : Int) ∣ n) :
    Calls Tryz.prog 114 #[.int .i64 n, .int .i64 p] w fun e w' => ∃ k : Nat, e = .returned (.int .i64 k) ∧ k < p ∧ (p : Int) ∣ n * k - 1 ∧ w' = w := by
  have hM := fun (a : Int) (W : World) (h0 : 0 ≤ a) (h1 : a < 1000000) => modulo_any a p W h0 (by omega) (by omega) (by omega)
  have HM : Hid _ := hM
  clear hM
  go_enter Tryz.func114, Tryz.ntmps114
  go_wp2_with fail
  go_loopw [5, 6, 7] (fun a b c wr => ∃ (pw sq lf : Nat), a = .int .i64 pw ∧ b = .int .i64 sq ∧ c = .int .i64 lf ∧ pw < p ∧ sq < p ∧ lf < p ∧ Hid (InvO p n pw sq lf) ∧ wr = w) (fun _ _ c _ => (intOf c).toNat)
  case atStart => exact ⟨1, n, p - 2, rfl, rfl, by go_num, by omega, hn, by omega, by unfold InvO; show Hid _; exact ⟨0, by rw [Int.natCast_one, Int.one_mul]; omega⟩, rfl⟩
  case round =>
    obtain ⟨pw, sq, lf, rfl, rfl, rfl, h1, h2, h3, HI, rfl⟩ := hrel
    have hmul : ∀ a b : Nat, a < p → b < p → 0 ≤ (a : Int) * b ∧ (a : Int) * b < 1000000 := by
      intro a b ha hb
      have h5 : a * b ≤ 999 * 999 := Nat.mul_le_mul (by omega) (by omega)
      have h6 : (a : Int) * b = ((a * b : Nat) : Int) := (Int.natCast_mul a b).symm
      omega
    obtain ⟨m1, m2⟩ := hmul pw sq h1 h2
    obtain ⟨m3, m4⟩ := hmul sq sq h2 h2
    have hmod : ∀ a : Int, 0 ≤ a % p ∧ a % p < p := fun a => ⟨Int.emod_nonneg _ (by omega), Int.emod_lt_of_pos _ (by omega)⟩
    rcases Nat.eq_zero_or_pos lf with rfl | hl
    · have HE : Hid _ := InvO.ends hp2 hp hn0 HI.out
      clear HI hmul
      go_wp2_with fail
      refine (HM.out _ _ (by omega) (by omega)).mono ?_
      rintro e w' ⟨rfl, rfl⟩
      go_wp2
      go_ret
      obtain ⟨q1, q2⟩ := hmod pw
      refine ⟨((pw : Int) % p).toNat, by rw [show ((((pw : Int) % p).toNat : Nat) : Int) = (pw : Int) % p by omega]; rfl, by omega, ?_, rfl⟩
      rw [show ((((pw : Int) % p).toNat : Nat) : Int) = (pw : Int) % p by omega]
      exact HE.out
    · have hlf : 0 < (lf : Int) := by omega
      by_cases hodd : lf % 2 = 1
      · have hodd' : (lf : Int) % 2 = 1 := by omega
        have HE : Hid _ := (HI.out.odd hodd).even (by omega)
        clear HI hmul
        go_wp2_with fail
        refine (HM.out _ _ m1 (by omega)).mono ?_
        rintro e w' ⟨rfl, rfl⟩
        go_wp2_with fail
        refine (HM.out _ _ m3 (by omega)).mono ?_
        rintro e w' ⟨rfl, rfl⟩
        go_wp2
        go_roundw
        case rel =>
          obtain ⟨q1, q2⟩ := hmod (pw * sq)
          obtain ⟨q3, q4⟩ := hmod (sq * sq)
          refine ⟨((pw : Int) * sq % p).toNat, ((sq : Int) * sq % p).toNat, lf / 2, by congr 1 <;> omega, by congr 1 <;> omega, by go_num, by omega, by omega, by omega, ?_, trivial⟩
          rw [show ((((pw : Int) * sq % p).toNat : Nat) : Int) = (pw : Int) * sq % p by omega, show ((((sq : Int) * sq % p).toNat : Nat) : Int) = (sq : Int) * sq % p by omega, show lf / 2 = (lf - 1) / 2 by omega]
          exact HE
        case measure => simp [intOf]; omega
      · have hodd' : (lf : Int) % 2 = 0 := by omega
        have HE : Hid _ := HI.out.even (by omega)
        clear HI hmul
        go_wp2_with fail
        refine (HM.out _ _ m3 (by omega)).mono ?_
        rintro e w' ⟨rfl, rfl⟩
        go_wp2
        go_roundw
        case rel =>
          obtain ⟨q3, q4⟩ := hmod (sq * sq)
          refine ⟨pw, ((sq : Int) * sq % p).toNat, lf / 2, rfl, by congr 1 <;> omega, by go_num, by omega, by omega, by omega, ?_, trivial⟩
          rw [show ((((sq : Int) * sq % p).toNat : Nat) : Int) = (sq : Int) * sq % p by omega]
          exact HE
        case measure => simp [intOf]; omega

def isP (n : Nat) : Prop := 2 ≤ n ∧ Dom (n : Int)

set_option maxHeartbeats 1000000 in
theorem isPrime_any (n : Nat) (w : World) (hn : 2 ≤ n) (hn1 : n < 1001) (b : Bool) (HB : Hid (b = true ↔ isP n)) :
    Calls Tryz.prog 111 #[.int .i64 n] w fun e w' => e = .returned (.bool b) ∧ w' = w := by
  go_enter Tryz.func111, Tryz.ntmps111
  go_wp2_with fail
  go_loopw [3] (fun a wr => ∃ d : Nat, a = .int .i64 d ∧ 2 ≤ d ∧ d ≤ n + 2 ∧ Hid (∀ e, 2 ≤ e → e < d → ¬ e ∣ n) ∧ wr = w) (fun a _ => n + 2 - (intOf a).toNat)
  case atStart => exact ⟨2, rfl, by omega, by omega, fun e h1 h2 => by omega, rfl⟩
  case round =>
    obtain ⟨d, rfl, h1, h2, HD, rfl⟩ := hrel
    have hd0 : ¬ (d : Int) = 0 := by omega
    have hdiv : (n : Int) / d = ((n / d : Nat) : Int) := by rw [Int.natCast_ediv]
    have hmod : (n : Int) % d = ((n % d : Nat) : Int) := by rw [Int.natCast_emod]
    have hle : n / d ≤ n := Nat.div_le_self _ _
    have hmle : n % d ≤ n := Nat.mod_le _ _
    by_cases hc : d ≤ n / d
    · have hc' : (d : Int) ≤ (n : Int) / d := by omega
      have hq0 : 0 ≤ (n : Int) / d := Int.ediv_nonneg (by omega) (by omega)
      have hq1 : (n : Int) / d ≤ 1001 := by omega
      have hr0 : 0 ≤ (n : Int) % d := Int.emod_nonneg _ (by omega)
      have hr1 : (n : Int) % d ≤ 1001 := by omega
      have hdn : d ≤ n := by omega
      by_cases hz : n % d = 0
      · have hz' : (n : Int) % d = 0 := by omega
        have hdd : d * d ≤ n := by
          have := Nat.div_mul_le_self n d
          have h5 := Nat.mul_le_mul_right d hc
          omega
        have hnp : ¬ isP n := by
          intro h
          rcases h.2.only hn (Nat.dvd_of_mod_eq_zero hz) with h5 | h5
          · omega
          · have : 2 * d ≤ d * d := Nat.mul_le_mul_right d h1
            omega
        have HN : Hid _ := hnp
        clear hnp HD hdd hdiv hmod hle hmle hc hz
        go_wp2
        go_ret
        refine ⟨?_, rfl⟩
        cases b with
        | false => rfl
        | true => exact absurd (HB.out.1 rfl) HN.out
      · have hz' : ¬ (n : Int) % d = 0 := by omega
        have HN : Hid (∀ e, 2 ≤ e → e < d + 1 → ¬ e ∣ n) := by
          intro e h5 h6 h7
          rcases (show e < d ∨ e = d by omega) with h8 | rfl
          · exact HD.out e h5 h8 h7
          · exact hz (Nat.mod_eq_zero_of_dvd h7)
        clear HD hdiv hmod hle hmle hc hz
        go_wp2
        go_roundw
        case rel => exact ⟨d + 1, by go_num, by omega, by omega, HN, trivial⟩
        case measure => simp [intOf]; omega
    · have hc' : ¬ (d : Int) ≤ (n : Int) / d := by omega
      have hq0 : 0 ≤ (n : Int) / d := Int.ediv_nonneg (by omega) (by omega)
      have hq1 : (n : Int) / d ≤ 1001 := by omega
      have HN : Hid (isP n) := by
        refine ⟨hn, Dom.of_trial hn fun e h5 h6 h7 => ?_⟩
        rcases Nat.lt_or_ge e d with h8 | h8
        · exact HD.out e h5 h8 h7
        · have h9 : d * d ≤ n := Nat.le_trans (Nat.mul_le_mul h8 h8) h6
          have h10 : d ≤ n / d := (Nat.le_div_iff_mul_le (by omega)).2 h9
          omega
      clear HD hdiv hmod hle hmle hc
      go_wp2
      go_ret
      refine ⟨?_, rfl⟩
      rw [HB.out.2 HN.out]
      show Ending.returned (Value.bool (decide (1 < (n : Int)))) = _
      rw [decide_eq_true (by omega)]

set_option maxRecDepth 100000 in
set_option maxHeartbeats 1000000 in
theorem trimN_any (l : List Int) (u : Value) (w : World) (hu : RowN w u l) (hl : l.length ≤ 1000000000) :
    Calls Tryz.prog 93 #[u] w fun e w' => ∃ x, e = .returned x ∧ OwnN w.heap.size w' x (tz l) ∧ Below w.heap.size w w' := by
  obtain ⟨ua, uc, rfl⟩ := hu.val
  go_enter Tryz.func93, Tryz.ntmps93
  go_wp2_with fail
  go_loop [3] (fun n => ∃ (k : Nat), k ≤ l.length ∧ n = .int .i64 k ∧ Hid (tzn l l.length = tzn l k)) (fun n => (intOf n).toNat)
  case atStart => exact ⟨l.length, Nat.le_refl _, rfl, rfl⟩
  case round =>
    obtain ⟨k, hk, rfl, HE⟩ := hrel
    cases k with
    | zero =>
      have HT : Hid (tz l = l.take 0) := by unfold tz; rw [HE.out]; rfl
      clear HE
      go_wp2_with (at_make; refine wpList_makeZ rfl (.tmp 19) (.tmp 19) rfl _ _ 0 rfl rfl (by omega) (by omega) (by omega) ?_)
      intro w1 P0 _ hown hb1
      obtain ⟨w2, hrun, hown2, hb2⟩ := copyN_run w.heap.size w.heap.size 0 P0 l ua uc (hu.below hb1) (by omega) hown
      go_wp2
      go_ret
      rw [HT.out]
      exact ⟨_, rfl, hown2, hb1.trans hb2⟩
    | succ j =>
      obtain ⟨g, rfl, hc1, hc2, hg, hcell⟩ := hu.at j (by omega)
      obtain ⟨x, HX⟩ : ∃ x, Hid (l.getD j 0 = x) := ⟨_, rfl⟩
      rw [HX.out] at hcell
      by_cases hx : x = 0
      · subst hx
        have he : Hid (tzn l l.length = tzn l j) := by
          rw [HE.out]
          show (if l.getD j 0 = 0 then tzn l j else j + 1) = tzn l j
          rw [if_pos HX.out]
        clear HE HX
        go_wp2_with fail
        go_round
        case rel => exact ⟨j, by omega, by go_num, he⟩
        case measure => simp [intOf]
      · have HT : Hid (tz l = l.take (j + 1)) := by
          unfold tz
          rw [HE.out]
          show l.take (if l.getD j 0 = 0 then tzn l j else j + 1) = l.take (j + 1)
          rw [if_neg (by rw [HX.out]; exact hx)]
        have hxb : (x == 0) = false := by simp [hx]
        clear HE HX
        go_wp2_with (at_make; refine wpList_makeZ rfl (.tmp 19) (.tmp 19) rfl _ _ (j + 1) rfl rfl (by omega) (by omega) (by omega) ?_)
        intro w1 P0 _ hown hb1
        obtain ⟨w2, hrun, hown2, hb2⟩ := copyN_run w.heap.size w.heap.size (j + 1) P0 l _ uc (hu.below hb1) (by omega) hown
        go_wp2
        go_ret
        rw [HT.out]
        exact ⟨_, rfl, hown2, hb1.trans hb2⟩

end Go.Proofs.YtldcjkhbiffdoabGreatDoor

namespace Go.Proofs.YtldcjkhbiffdoabGreatDoor
open Go.RowKit

theorem add_step {l m sl : List Int} {k : Nat} {cy x y : Int} (hsl : sl.length = k) (h : Dig 1000000000 sl ∧ ev 1000000000 sl + cy * 1000000000 ^ k = ev 1000000000 (l.take k) + ev 1000000000 (m.take k)) (hx : l.getD k 0 = x) (hy : m.getD k 0 = y)
    : Dig 1000000000 (sl ++ [(x + y + cy) % 1000000000]) ∧ ev 1000000000 (sl ++ [(x + y + cy) % 1000000000]) + (x + y + cy) / 1000000000 * 1000000000 ^ (k + 1) = ev 1000000000 (l.take (k + 1)) + ev 1000000000 (m.take (k + 1)) := by
  refine ⟨h.1.snoc (by omega) (by omega), ?_⟩
  rw [ev_take, ev_take, hx, hy]
  exact add_round sl k hsl cy x y _ _ h.2

theorem add_last {l m P : List Int} {n : Nat} (hP : P.length = n) (h : Dig 1000000000 P ∧ ev 1000000000 (P.take n) + 0 * 1000000000 ^ n = ev 1000000000 (l.take n) + ev 1000000000 (m.take n)) (hl : l.length ≤ n) (hm : m.length ≤ n) :
    Dig 1000000000 P ∧ ev 1000000000 P = ev 1000000000 l + ev 1000000000 m := by
  refine ⟨h.1, ?_⟩
  have := h.2
  rw [List.take_of_length_le hl, List.take_of_length_le hm, List.take_of_length_le (by omega), Int.zero_mul, Int.add_zero] at this
  exact this

theorem add_set {l m P : List Int} {k : Nat} {cy x y : Int} (hk : k < P.length) (h : Dig 1000000000 P ∧ ev 1000000000 (P.take k) + cy * 1000000000 ^ k = ev 1000000000 (l.take k) + ev 1000000000 (m.take k)) (hx : l.getD k 0 = x) (hy : m.getD k 0 = y) :
    Dig 1000000000 (P.set k ((x + y + cy) % 1000000000)) ∧ ev 1000000000 ((P.set k ((x + y + cy) % 1000000000)).take (k + 1)) + (x + y + cy) / 1000000000 * 1000000000 ^ (k + 1) = ev 1000000000 (l.take (k + 1)) + ev 1000000000 (m.take (k + 1)) := by
  refine ⟨h.1.set k (by omega) (by omega), ?_⟩
  rw [take_set hk]
  exact (add_step (by rw [List.length_take]; omega) ⟨h.1.take k, h.2⟩ hx hy).2

set_option maxHeartbeats 1000000 in
theorem addLimbs_any (l m : List Int) (u v : Value) (w : World) (hu : Row w u l) (hv : Row w v m) (hl : l.length ≤ 1000000000) (hm : m.length ≤ 1000000000) (dl : Dig 1000000000 l) (dm : Dig 1000000000 m) :
    Calls Tryz.prog 104 #[u, v] w fun e w' => ∃ s x, e = .returned x ∧ Row w' x s ∧ Dig 1000000000 s ∧ ev 1000000000 s = ev 1000000000 l + ev 1000000000 m ∧ s.length ≤ max l.length m.length + 1 ∧ Below w.heap.size w w' := by
  obtain ⟨ua, uc, rfl⟩ := hu.val
  obtain ⟨va, vc, rfl⟩ := hv.val
  obtain ⟨n, HN⟩ : ∃ n, Hid (n = max l.length m.length + 1) := ⟨_, rfl⟩
  have hnl : l.length < n := by have := HN.out; omega
  have hnm : m.length < n := by have := HN.out; omega
  have hnx : n ≤ l.length + 1 ∨ n ≤ m.length + 1 := by have := HN.out; omega
  rw [← HN.out]
  go_enter Tryz.func104, Tryz.ntmps104
  by_cases hc : l.length < m.length
  all_goals
    go_wp2_with (at_make; refine wpList_make64 rfl (.tmp 21) (.tmp 21) rfl _ _ n rfl rfl (by omega) (by omega) (by omega) ?_)
    intro w1 P0 HP0 hown1 hb1
    go_wp2_with fail
    go_loopw [7, 8] (fun c i wr => ∃ (k : Nat) (P : List Int) (cy : Int), k ≤ n ∧ i = .int .i64 k ∧ c = .int .i64 cy ∧ 0 ≤ cy ∧ cy ≤ 1 ∧ (k = n → cy = 0) ∧ P.length = n ∧ wr.ownsRow w.heap.size 2 1 (.slice (some ⟨w.heap.size, 0, none⟩) n n) n (P.map (Value.int .i64)) ∧ Hid (Dig 1000000000 P ∧ ev 1000000000 (P.take k) + cy * 1000000000 ^ k = ev 1000000000 (l.take k) + ev 1000000000 (m.take k)) ∧ Below w.heap.size w wr)
      (fun _ i _ => n - (intOf i).toNat)
    case atStart => exact ⟨0, P0, 0, Nat.zero_le _, rfl, rfl, by omega, by omega, fun _ => rfl, by rw [HP0.out]; simp, hown1, ⟨by rw [HP0.out]; exact Dig.zeros (by omega) _, by simp [ev]⟩, hb1⟩
    case round =>
      clear hown1 hb1 HP0
      obtain ⟨k, P, cy, hk, rfl, rfl, hc0, hc1, hce, hP, hown, HE, hbel⟩ := hrel
      by_cases hlt : k < n
      · have hx := Dig.getD (by omega) dl k
        have hy := Dig.getD (by omega) dm k
        have hru := hu.below hbel
        have hrv := hv.below hbel
        have hcx := limbAt_any l (.slice ua l.length uc) k wr hru (by omega) (by omega)
        have hcy := limbAt_any m (.slice va m.length vc) k wr hrv (by omega) (by omega)
        have hout : k + 1 = n → l.getD k 0 = 0 ∧ m.getD k 0 = 0 := by
          intro h
          have h1 : l.length ≤ k := by have := HN.out; omega
          have h2 : m.length ≤ k := by have := HN.out; omega
          simp [List.getD, List.getElem?_eq_none h1, List.getElem?_eq_none h2]
        obtain ⟨x, HX⟩ : ∃ x, Hid (l.getD k 0 = x) := ⟨_, rfl⟩
        obtain ⟨y, HY⟩ : ∃ y, Hid (m.getD k 0 = y) := ⟨_, rfl⟩
        rw [HX.out] at hx hcx hout
        rw [HY.out] at hy hcy hout
        have hlast : k + 1 = n → (x + y + cy) / 1000000000 = 0 := by
          intro h
          obtain ⟨rfl, rfl⟩ := hout h
          omega
        obtain ⟨hx0, hx1⟩ := hx
        obtain ⟨hy0, hy1⟩ := hy
        have hfp := hown.frozenAt k
        have hcp : wr.cell? ⟨w.heap.size, k, none⟩ = some (.int .i64 (P.getD k 0)) := by
          rw [hown.cellAt k (by omega)]
          simp [List.getD, show k < P.length by omega]
        have hs := add_set (by omega) HE.out HX.out HY.out
        have HS : Hid _ := hs
        generalize P.getD k 0 = p at hcp
        clear hs HE HX HY hru hrv hout hce
        go_wp2_with fail
        refine hcx.mono ?_
        rintro e w' ⟨rfl, rfl⟩
        go_wp2_with fail
        refine hcy.mono ?_
        rintro e w' ⟨rfl, rfl⟩
        clear hcx hcy
        go_wp2
        go_roundw
        case rel =>
          refine ⟨k + 1, P.set k ((x + y + cy) % 1000000000), _, by omega, by go_num, rfl, by omega, by omega, hlast, by simpa using hP, ?_, HS, hbel.setCell (Nat.le_refl _) _⟩
          rw [← map_set]
          exact (World.ownsRow.stored (w := w') hown _ _).1
        case measure => simp [intOf]; omega
      · obtain rfl : k = n := by omega
        obtain rfl := hce rfl
        have hs := add_last hP HE.out (by omega) (by omega)
        have HS : Hid _ := hs
        clear hs HE
        go_wp2
        go_ret
        exact ⟨P, _, rfl, (made_own hown hP).row, HS.out.1, HS.out.2, by omega, hbel⟩

end Go.Proofs.YtldcjkhbiffdoabGreatDoor

namespace Go.Proofs.YtldcjkhbiffdoabGreatDoor
open Go.RowKit

theorem sub_step {l m sl : List Int} {k : Nat} {cy x y t c' : Int} (hsl : sl.length = k) (h : Dig 1000000000 sl ∧ ev 1000000000 sl - cy * 1000000000 ^ k = ev 1000000000 (l.take k) - ev 1000000000 (m.take k)) (hx : l.getD k 0 = x) (hy : m.getD k 0 = y)
    (ht : t - c' * 1000000000 = x - y - cy) (h0 : 0 ≤ t) (h1 : t < 1000000000) : Dig 1000000000 (sl ++ [t]) ∧ ev 1000000000 (sl ++ [t]) - c' * 1000000000 ^ (k + 1) = ev 1000000000 (l.take (k + 1)) - ev 1000000000 (m.take (k + 1)) := by
  refine ⟨h.1.snoc h0 h1, ?_⟩
  rw [ev_take, ev_take, hx, hy]
  exact sub_round sl k hsl cy x y _ _ t c' h.2 ht

theorem sub_last {l m P : List Int} {cy : Int} (hP : P.length = l.length) (h : Dig 1000000000 P ∧ ev 1000000000 (P.take l.length) - cy * 1000000000 ^ l.length = ev 1000000000 (l.take l.length) - ev 1000000000 (m.take l.length)) (hm : m.length ≤ l.length)
    (hc : cy = 0 ∨ cy = 1) (hle : ev 1000000000 m ≤ ev 1000000000 l) : Dig 1000000000 P ∧ ev 1000000000 P = ev 1000000000 l - ev 1000000000 m := by
  refine ⟨h.1, ?_⟩
  have h2 := h.2
  rw [List.take_length, List.take_of_length_le hm, List.take_of_length_le (by omega), ← hP] at h2
  exact sub_end (by omega) P h.1 cy hc _ _ h2 hle

theorem sub_set {l m P : List Int} {k : Nat} {cy x y t c' : Int} (hk : k < P.length) (h : Dig 1000000000 P ∧ ev 1000000000 (P.take k) - cy * 1000000000 ^ k = ev 1000000000 (l.take k) - ev 1000000000 (m.take k)) (hx : l.getD k 0 = x) (hy : m.getD k 0 = y)
    (ht : t - c' * 1000000000 = x - y - cy) (h0 : 0 ≤ t) (h1 : t < 1000000000) : Dig 1000000000 (P.set k t) ∧ ev 1000000000 ((P.set k t).take (k + 1)) - c' * 1000000000 ^ (k + 1) = ev 1000000000 (l.take (k + 1)) - ev 1000000000 (m.take (k + 1)) := by
  refine ⟨h.1.set k h0 h1, ?_⟩
  rw [take_set hk]
  exact (sub_step (by rw [List.length_take]; omega) ⟨h.1.take k, h.2⟩ hx hy ht h0 h1).2

set_option maxHeartbeats 1000000 in
theorem subLimbs_any (l m : List Int) (u v : Value) (w : World) (hu : Row w u l) (hv : Row w v m) (hl : l.length ≤ 1000000000) (hm : m.length ≤ l.length) (dl : Dig 1000000000 l) (dm : Dig 1000000000 m) (hle : ev 1000000000 m ≤ ev 1000000000 l) :
    Calls Tryz.prog 105 #[u, v] w fun e w' => ∃ s x, e = .returned x ∧ Row w' x s ∧ Dig 1000000000 s ∧ ev 1000000000 s = ev 1000000000 l - ev 1000000000 m ∧ s.length ≤ l.length ∧ Below w.heap.size w w' := by
  have HLE : Hid _ := hle
  clear hle
  obtain ⟨ua, uc, rfl⟩ := hu.val
  obtain ⟨va, vc, rfl⟩ := hv.val
  go_enter Tryz.func105, Tryz.ntmps105
  go_wp2_with (at_make; refine wpList_make64 rfl (.tmp 12) (.tmp 12) rfl _ _ l.length rfl rfl rfl rfl (by omega) ?_)
  intro w1 P0 HP0 hown1 hb1
  go_wp2_with fail
  go_loopw [6, 7] (fun c i wr => ∃ (k : Nat) (P : List Int) (cy : Int), k ≤ l.length ∧ i = .int .i64 k ∧ c = .int .i64 cy ∧ 0 ≤ cy ∧ cy ≤ 1 ∧ P.length = l.length ∧ wr.ownsRow w.heap.size 2 1 (.slice (some ⟨w.heap.size, 0, none⟩) l.length l.length) l.length (P.map (Value.int .i64)) ∧ Hid (Dig 1000000000 P ∧ ev 1000000000 (P.take k) - cy * 1000000000 ^ k = ev 1000000000 (l.take k) - ev 1000000000 (m.take k)) ∧ Below w.heap.size w wr)
    (fun _ i _ => l.length - (intOf i).toNat)
  case atStart => exact ⟨0, P0, 0, Nat.zero_le _, rfl, rfl, by omega, by omega, by rw [HP0.out]; simp, hown1, ⟨by rw [HP0.out]; exact Dig.zeros (by omega) _, by simp [ev]⟩, hb1⟩
  case round =>
    clear hown1 hb1 HP0
    obtain ⟨k, P, cy, hk, rfl, rfl, hc0, hc1, hP, hown, HE, hbel⟩ := hrel
    by_cases hlt : k < l.length
    · have hx := Dig.getD (by omega) dl k
      have hy := Dig.getD (by omega) dm k
      have hru := hu.below hbel
      have hrv := hv.below hbel
      have hcx := limbAt_any l (.slice ua l.length uc) k wr hru (by omega) (by omega)
      have hcy := limbAt_any m (.slice va m.length vc) k wr hrv (by omega) (by omega)
      obtain ⟨x, HX⟩ : ∃ x, Hid (l.getD k 0 = x) := ⟨_, rfl⟩
      obtain ⟨y, HY⟩ : ∃ y, Hid (m.getD k 0 = y) := ⟨_, rfl⟩
      rw [HX.out] at hx hcx
      rw [HY.out] at hy hcy
      obtain ⟨hx0, hx1⟩ := hx
      obtain ⟨hy0, hy1⟩ := hy
      have hfp := hown.frozenAt k
      have hcp : wr.cell? ⟨w.heap.size, k, none⟩ = some (.int .i64 (P.getD k 0)) := by
        rw [hown.cellAt k (by omega)]
        simp [List.getD, show k < P.length by omega]
      generalize P.getD k 0 = p at hcp
      by_cases hneg : x - y - cy < 0
      · have hs := sub_set (t := x - y - cy + 1000000000) (c' := 1) (by omega) HE.out HX.out HY.out (by omega) (by omega) (by omega)
        have HS : Hid _ := hs
        clear hs HE HX HY hru hrv
        go_wp2_with fail
        refine hcx.mono ?_
        rintro e w' ⟨rfl, rfl⟩
        go_wp2_with fail
        refine hcy.mono ?_
        rintro e w' ⟨rfl, rfl⟩
        clear hcx hcy
        go_wp2
        go_roundw
        case rel =>
          refine ⟨k + 1, P.set k (x - y - cy + 1000000000), 1, by omega, by go_num, rfl, by omega, by omega, by simpa using hP, ?_, HS, hbel.setCell (Nat.le_refl _) _⟩
          rw [← map_set]
          exact (World.ownsRow.stored (w := w') hown _ _).1
        case measure => simp [intOf]; omega
      · have hs := sub_set (t := x - y - cy) (c' := 0) (by omega) HE.out HX.out HY.out (by omega) (by omega) (by omega)
        have HS : Hid _ := hs
        clear hs HE HX HY hru hrv
        go_wp2_with fail
        refine hcx.mono ?_
        rintro e w' ⟨rfl, rfl⟩
        go_wp2_with fail
        refine hcy.mono ?_
        rintro e w' ⟨rfl, rfl⟩
        clear hcx hcy
        go_wp2
        go_roundw
        case rel =>
          refine ⟨k + 1, P.set k (x - y - cy), 0, by omega, by go_num, rfl, by omega, by omega, by simpa using hP, ?_, HS, hbel.setCell (Nat.le_refl _) _⟩
          rw [← map_set]
          exact (World.ownsRow.stored (w := w') hown _ _).1
        case measure => simp [intOf]; omega
    · obtain rfl : k = l.length := by omega
      have hs := sub_last hP HE.out (by omega) (by omega) HLE.out
      have HS : Hid _ := hs
      clear hs HE
      go_wp2
      go_ret
      exact ⟨P, _, rfl, (made_own hown hP).row, HS.out.1, HS.out.2, by omega, hbel⟩

end Go.Proofs.YtldcjkhbiffdoabGreatDoor

namespace Go.Proofs.YtldcjkhbiffdoabGreatDoor
open Go.RowKit

def cmp3 (a b : Int) : Int := if a < b then -1 else if b < a then 1 else 0
theorem cmp3_lt {a b : Int} (h : a < b) : cmp3 a b = -1 := if_pos h
theorem cmp3_gt {a b : Int} (h : b < a) : cmp3 a b = 1 := by unfold cmp3; rw [if_neg (by omega), if_pos h]
theorem cmp3_eq (a : Int) : cmp3 a a = 0 := by unfold cmp3; rw [if_neg (by omega), if_neg (by omega)]
theorem cmp3_bd (a b : Int) : -1 ≤ cmp3 a b ∧ cmp3 a b ≤ 1 := by
  unfold cmp3
  split
  · omega
  · split <;> omega

set_option maxHeartbeats 1000000 in
theorem compareLimbs_any (l m : List Int) (u v : Value) (w : World) (hu : Row w u l) (hv : Row w v m) (hl : l.length ≤ 1000000000) (dl : Dig 1000000000 l) (dm : Dig 1000000000 m) (tl : Trim l) (tm : Trim m) :
    Calls Tryz.prog 84 #[u, v] w fun e w' => e = .returned (.int .i64 (cmp3 (ev 1000000000 l) (ev 1000000000 m))) ∧ w' = w := by
  obtain ⟨ua, uc, rfl⟩ := hu.val
  obtain ⟨va, vc, rfl⟩ := hv.val
  by_cases h1 : l.length < m.length
  · rw [cmp3_lt (ev_lt_of_length (by omega) dl dm tm h1)]
    go_enter Tryz.func84, Tryz.ntmps84
    go_wp2
    go_ret
    exact ⟨rfl, rfl⟩
  by_cases h2 : m.length < l.length
  · rw [cmp3_gt (ev_lt_of_length (by omega) dm dl tl h2)]
    go_enter Tryz.func84, Tryz.ntmps84
    go_wp2
    go_ret
    exact ⟨rfl, rfl⟩
  obtain ⟨z, HZ⟩ : ∃ z, Hid (cmp3 (ev 1000000000 l) (ev 1000000000 m) = z) := ⟨_, rfl⟩
  rw [HZ.out]
  go_enter Tryz.func84, Tryz.ntmps84
  go_wp2_with fail
  go_loop [5] (fun i => ∃ (k : Nat), k ≤ l.length ∧ i = .int .i64 ((k : Int) - 1) ∧ Hid (l.drop k = m.drop k)) (fun i => (intOf i + 1).toNat)
  case atStart => exact ⟨l.length, Nat.le_refl _, rfl, by rw [List.drop_of_length_le (Nat.le_refl _), List.drop_of_length_le (by omega)]; rfl⟩
  case round =>
    obtain ⟨k, hk, rfl, HD⟩ := hrel
    cases k with
    | zero =>
      have hz : z = 0 := by
        have : l = m := by simpa using HD.out
        rw [← HZ.out, this, cmp3_eq]
      subst hz
      clear HD HZ
      go_wp2
      go_ret
      exact ⟨rfl, rfl⟩
    | succ j =>
      rw [show (((j + 1 : Nat) : Int) - 1) = (j : Int) by omega]
      have hcx := limbAt_any l (.slice ua l.length uc) j w hu (by omega) (by omega)
      have hcy := limbAt_any m (.slice va m.length vc) j w hv (by omega) (by omega)
      obtain ⟨x, HX⟩ : ∃ x, Hid (l.getD j 0 = x) := ⟨_, rfl⟩
      obtain ⟨y, HY⟩ : ∃ y, Hid (m.getD j 0 = y) := ⟨_, rfl⟩
      rw [HX.out] at hcx
      rw [HY.out] at hcy
      rcases (show x < y ∨ y < x ∨ x = y by omega) with hxy | hxy | hxy
      · have hz : z = -1 := by
          rw [← HZ.out]
          exact cmp3_lt (ev_lt_of_limb (by omega) dl dm (by omega) j (by omega) HD.out (by rw [HX.out, HY.out]; exact hxy))
        subst hz
        clear HD HZ HX HY
        go_wp2_with fail
        refine hcx.mono ?_
        rintro e w' ⟨rfl, rfl⟩
        go_wp2_with fail
        refine hcy.mono ?_
        rintro e w' ⟨rfl, rfl⟩
        go_wp2_with fail
        go_ret
        exact ⟨rfl, rfl⟩
      · have hz : z = 1 := by
          rw [← HZ.out]
          exact cmp3_gt (ev_lt_of_limb (by omega) dm dl (by omega) j (by omega) HD.out.symm (by rw [HX.out, HY.out]; exact hxy))
        subst hz
        clear HD HZ HX HY
        go_wp2_with fail
        refine hcx.mono ?_
        rintro e w' ⟨rfl, rfl⟩
        go_wp2_with fail
        refine hcy.mono ?_
        rintro e w' ⟨rfl, rfl⟩
        go_wp2_with fail
        go_ret
        exact ⟨rfl, rfl⟩
      · have hd : Hid (l.drop j = m.drop j) := drop_eq_step j (by omega) (by omega) HD.out (by rw [HX.out, HY.out]; exact hxy)
        subst hxy
        clear HD HX HY
        go_wp2_with fail
        refine hcx.mono ?_
        rintro e w' ⟨rfl, rfl⟩
        go_wp2_with fail
        refine hcy.mono ?_
        rintro e w' ⟨rfl, rfl⟩
        go_wp2_with fail
        go_round
        case rel => exact ⟨j, by omega, by go_num, hd⟩
        case measure => simp [intOf]

end Go.Proofs.YtldcjkhbiffdoabGreatDoor

namespace Go.Proofs.YtldcjkhbiffdoabGreatDoor
open Go.RowKit

set_option maxHeartbeats 1000000 in
theorem signed_any (b : Bool) (l : List Int) (u : Value) (w : World) (hu : Row w u l) (hl : l.length ≤ 1000000000) (dl : Dig 1000000000 l) :
    Calls Tryz.prog 86 #[.bool b, u] w fun e w' => ∃ s x, e = .returned (.agg #[.bool (b && !s.isEmpty), x]) ∧ Row w' x s ∧ Dig 1000000000 s ∧ Trim s ∧ ev 1000000000 s = ev 1000000000 l ∧ s.length ≤ l.length ∧ Below w.heap.size w w' := by
  obtain ⟨ua, uc, rfl⟩ := hu.val
  have hT := fun (W : World) (h : Row W (.slice ua l.length uc) l) => trimmed_any l (.slice ua l.length uc) W h hl dl
  go_enter Tryz.func86, Tryz.ntmps86
  go_wp2_with fail
  generalize hW : w.alloc (Obj.cells #[Value.bool false, Value.slice none 0 0] 70) = W0
  have hsz0 : W0.heap.size = w.heap.size + 1 := by rw [← hW]; simp
  have hb0 : Below w.heap.size w W0 := by rw [← hW]; exact (Below.refl _ _).alloc (Nat.le_refl _) _
  have hx0 : W0.heap[w.heap.size]? = some (.cells #[Value.bool false, Value.slice none 0 0] 70 (0, 0)) := by rw [← hW]; exact heap_alloc_new w _
  clear hW
  refine (hT W0 (hu.below hb0)).mono ?_
  rintro e w1 ⟨s, x, rfl, hown, hTs, hb1⟩
  rw [hsz0] at hown hb1
  obtain ⟨xa, xc, rfl⟩ := hown.row.val
  have hx1 : w1.heap[w.heap.size]? = some (.cells #[Value.bool false, Value.slice none 0 0] 70 (0, 0)) := by rw [hb1.block _ (by omega)]; exact hx0
  have hc0 : w1.cell? ⟨w.heap.size, 0, none⟩ = some (.bool false) := by simp [World.cell?, hx1]
  have hc1 : w1.cell? ⟨w.heap.size, 1, none⟩ = some (.slice none 0 0) := by simp [World.cell?, hx1]
  have hf0 : w1.frozen? ⟨w.heap.size, 0, none⟩ = false := by simp [World.frozen?, hx1]
  have hf1 : w1.frozen? ⟨w.heap.size, 1, none⟩ = false := by simp [World.frozen?, hx1]
  have hbw : Below w.heap.size w w1 := hb0.trans (hb1.mono (by omega))
  have hemp : s.isEmpty = decide (s.length = 0) := by cases s <;> simp
  clear hx0 hx1
  cases b
  all_goals
    have hcase : s.length = 0 ∨ (0 < s.length ∧ ¬ s.length = 0) := by omega
    rcases hcase with h0 | ⟨h0, h1⟩
    all_goals
      go_wp2
      refine bodyPost_ret (by simp [results, Tryz.results86, go_sem, hc0, hc1]; rfl) rfl ⟨s, .slice xa s.length xc, ?_, Own.row (B := w.heap.size + 1) (ownsRow_setCell_below (ownsRow_setCell_below hown (by simp) _) (by simp) _), hTs.dig, hTs.trim, hTs.val, hTs.len, (hbw.setCell (by simp) _).setCell (by simp) _⟩
      simp [*]

end Go.Proofs.YtldcjkhbiffdoabGreatDoor

namespace Go.Proofs.YtldcjkhbiffdoabGreatDoor
open Go.RowKit

def sv (b : Bool) (n : Int) : Int := if b then -n else n

structure Lim (b : Bool) (l : List Int) (z : Int) : Prop where
  dig : Dig 1000000000 l
  trim : Trim l
  neg : b = true → l ≠ []
  val : z = sv b (ev 1000000000 l)

def IsI (w : World) (v : Value) (z : Int) : Prop := ∃ b x l, v = .agg #[.bool b, x] ∧ Row w x l ∧ Lim b l z

theorem IsI.below {w w' : World} {v : Value} {z : Int} (h : IsI w v z) (hb : Below w.heap.size w w') : IsI w' v z := by
  obtain ⟨b, x, l, h1, h2, h3⟩ := h
  exact ⟨b, x, l, h1, h2.below hb, h3⟩

def Fit (z : Int) : Prop := ∃ n, n ≤ 10000000 ∧ z.natAbs < 1000000000 ^ n

theorem natAbs_sv (b : Bool) {n : Int} (h : 0 ≤ n) : ((sv b n).natAbs : Int) = n := by
  unfold sv; split <;> omega

theorem ev_ne {l : List Int} (d : Dig 1000000000 l) (t : Trim l) (h : l ≠ []) : 0 < ev 1000000000 l := by
  have := ev_ge (by omega) d t h
  have := pow_pos (show (0 : Int) < 1000000000 by omega) (l.length - 1)
  omega

theorem Lim.len {b : Bool} {l : List Int} {z : Int} (h : Lim b l z) (hf : Fit z) : l.length ≤ 10000000 := by
  obtain ⟨n, hn, hz⟩ := hf
  rcases Nat.lt_or_ge n l.length with hlt | hge
  · have hne : l ≠ [] := by intro e; subst e; simp at hlt
    have h1 := ev_ge (by omega) h.dig h.trim hne
    have h2 : (1000000000 : Int) ^ n ≤ 1000000000 ^ (l.length - 1) := by
      obtain ⟨k, hk⟩ : ∃ k, l.length - 1 = n + k := ⟨l.length - 1 - n, by omega⟩
      rw [hk, Int.pow_add]
      have h5 : (0 : Int) < 1000000000 ^ k := Int.pow_pos (by omega)
      have := Int.mul_le_mul_of_nonneg_left (show (1 : Int) ≤ 1000000000 ^ k by omega) (Int.le_of_lt (pow_pos (show (0 : Int) < 1000000000 by omega) n))
      omega
    have h3 := natAbs_sv b (ev_nonneg (by omega) h.dig)
    rw [← h.val] at h3
    have h4 : (z.natAbs : Int) < 1000000000 ^ n := by
      have h6 := Int.ofNat_lt.2 hz
      rw [Int.natCast_pow] at h6
      exact h6
    omega
  · omega

theorem Lim.nonneg {b : Bool} {l : List Int} {z : Int} (h : Lim b l z) : 0 ≤ ev 1000000000 l := ev_nonneg (by omega) h.dig

theorem Lim.signed {b : Bool} {s : List Int} (d : Dig 1000000000 s) (t : Trim s) : Lim (b && !s.isEmpty) s (sv b (ev 1000000000 s)) := by
  refine ⟨d, t, ?_, ?_⟩
  · intro h e; subst e; simp at h
  · cases s with
    | nil => cases b <;> simp [sv, ev]
    | cons a s => cases b <;> rfl

theorem bcell {W w1 : World} (hb : Below W.heap.size W w1) : (∀ b o, b < W.heap.size → w1.cell? ⟨b, o, none⟩ = W.cell? ⟨b, o, none⟩) ∧ (∀ b o, b < W.heap.size → w1.frozen? ⟨b, o, none⟩ = W.frozen? ⟨b, o, none⟩) :=
  ⟨fun b o h => hb.cell (p := ⟨b, o, none⟩) h, fun b o h => hb.frozen (p := ⟨b, o, none⟩) h⟩

theorem of_drew {w w' : World} (h : Below w.drew.heap.size w.drew w') : Below w.heap.size w w' := ⟨h.os, h.tape, h.output, h.size, h.block⟩
def Bx (w : World) (k : Nat) (a b : Value) : Prop := w.heap[k]? = some (.cells #[a, b] 70 (0, 0))

theorem Bx.c0 {w : World} {k : Nat} {a b : Value} (h : Bx w k a b) : w.cell? ⟨k, 0, none⟩ = some a := by unfold Bx at h; simp [World.cell?, h]
theorem Bx.c1 {w : World} {k : Nat} {a b : Value} (h : Bx w k a b) : w.cell? ⟨k, 1, none⟩ = some b := by unfold Bx at h; simp [World.cell?, h]
theorem Bx.f0 {w : World} {k : Nat} {a b : Value} (h : Bx w k a b) : w.frozen? ⟨k, 0, none⟩ = false := by unfold Bx at h; simp [World.frozen?, h]
theorem Bx.f1 {w : World} {k : Nat} {a b : Value} (h : Bx w k a b) : w.frozen? ⟨k, 1, none⟩ = false := by unfold Bx at h; simp [World.frozen?, h]
theorem Bx.lt {w : World} {k : Nat} {a b : Value} (h : Bx w k a b) : k < w.heap.size := lt_of_block h
theorem Bx.below {w w' : World} {k : Nat} {a b : Value} (h : Bx w k a b) (hb : Below w.heap.size w w') : Bx w' k a b := by unfold Bx; rw [hb.block k h.lt]; exact h
theorem Bx.set {w : World} {k : Nat} {a b : Value} (h : Bx w k a b) (a' b' : Value) : Bx ((w.setCell ⟨k, 0, none⟩ a').setCell ⟨k, 1, none⟩ b') k a' b' := by
  unfold Bx at h ⊢
  rw [heap_setCell_same _ k 1 #[a', b] _ b' (by rw [heap_setCell_same w k 0 #[a, b] _ a' h]; rfl)]
  rfl
theorem Bx.alloc (w : World) (a b : Value) : Bx (w.alloc (.cells #[a, b] 70)) w.heap.size a b := heap_alloc_new w _
theorem Bx.alloc_old {w : World} {k : Nat} {a b : Value} (h : Bx w k a b) (o : Obj) : Bx (w.alloc o) k a b := h.below ((Below.refl _ _).alloc (Nat.le_refl _) _)

theorem one_new {w W0 : World} {a b : Value} (h : w.alloc (.cells #[a, b] 70) = W0) : Below w.heap.size w W0 ∧ Bx W0 w.heap.size a b := by
  subst h
  exact ⟨(Below.refl _ _).alloc (Nat.le_refl _) _, Bx.alloc w a b⟩

theorem Row.set {w : World} {v : Value} {l : List Int} (h : Row w v l) {k : Nat} {a b : Value} (hk : Bx w k a b) (o : Nat) (u : Value) : Row (w.setCell ⟨k, o, none⟩ u) v l := by
  refine ownsRow_setCell_other h (fun e => ?_) u
  rcases h.2 with ⟨h1, _⟩ | ⟨g, cap, cur, hv, hb0, hg, r⟩
  · rw [h1] at e; simp [Value.ownBlock] at e
  · rw [hv] at e
    simp [Value.ownBlock] at e
    subst e
    unfold Bx at hk
    rw [hk] at hg
    simp at hg
theorem Row.set2 {w : World} {v : Value} {l : List Int} (h : Row w v l) {k : Nat} {a b : Value} (hk : Bx w k a b) (a' b' : Value) : Row ((w.setCell ⟨k, 0, none⟩ a').setCell ⟨k, 1, none⟩ b') v l := by
  have hk' : Bx (w.setCell ⟨k, 0, none⟩ a') k a' b := by
    unfold Bx at hk ⊢
    rw [heap_setCell_same w k 0 #[a, b] _ a' hk]; rfl
  exact (h.set hk 0 a').set hk' 1 b'
theorem below_set2 {B : Nat} {a w : World} (h : Below B a w) {k : Nat} (hk : B ≤ k) (u v : Value) : Below B a ((w.setCell ⟨k, 0, none⟩ u).setCell ⟨k, 1, none⟩ v) := (h.setCell hk u).setCell hk v

theorem Row.later {B : Nat} {w w' : World} {v : Value} {l : List Int} (h : Row w v l) (hb : Below B w w') (hB : w.heap.size ≤ B) : Row w' v l := h.below (hb.mono hB)

end Go.Proofs.YtldcjkhbiffdoabGreatDoor

namespace Go.Proofs.YtldcjkhbiffdoabGreatDoor
open Go.RowKit

theorem dig_sq {t : Int} (h : 0 ≤ t ∧ t < 1000000000 * 1000000000) : (0 ≤ t % 1000000000 ∧ t % 1000000000 < 1000000000) ∧ 0 ≤ t / 1000000000 ∧ t / 1000000000 < 1000000000 := by omega

def MIn (l m P : List Int) (i j : Nat) (c : Int) : Prop :=
  Dig 1000000000 P ∧ ev 1000000000 P + c * 1000000000 ^ (i + j) = ev 1000000000 (l.take i) * ev 1000000000 m + l.getD i 0 * ev 1000000000 (m.take j) * 1000000000 ^ i ∧ ∀ k, i + m.length ≤ k → P.getD k 0 = 0

def MOut (l m P : List Int) (i : Nat) : Prop := Dig 1000000000 P ∧ ev 1000000000 P = ev 1000000000 (l.take i) * ev 1000000000 m ∧ ∀ k, i + m.length ≤ k → P.getD k 0 = 0

theorem getD_set_ne {P : List Int} {i k : Nat} (y : Int) (h : i ≠ k) : (P.set i y).getD k 0 = P.getD k 0 := by
  simp [List.getD, List.getElem?_set_ne h]

theorem MIn.step {l m P : List Int} {i j : Nat} {c p x y : Int} (h : MIn l m P i j c) (hk : i + j < P.length) (hj : j < m.length) (hp : P.getD (i + j) 0 = p) (hx : l.getD i 0 = x) (hy : m.getD j 0 = y)
    (hb : 0 ≤ p + x * y + c ∧ p + x * y + c < 1000000000 * 1000000000) : MIn l m (P.set (i + j) ((p + x * y + c) % 1000000000)) i (j + 1) ((p + x * y + c) / 1000000000) := by
  obtain ⟨h1, h2, h3⟩ := h
  have hd := dig_sq hb
  refine ⟨h1.set _ hd.1.1 hd.1.2, ?_, fun k hk' => ?_⟩
  · rw [ev_take, hy, hx]
    rw [hx] at h2
    exact mul_round P i j hk x y c (p + x * y + c) _ _ h2 (by rw [hp])
  · rw [getD_set_ne _ (by omega)]; exact h3 k hk'

theorem MOut.into {l m P : List Int} {i : Nat} (h : MOut l m P i) : MIn l m P i 0 0 := by
  refine ⟨h.1, ?_, h.2.2⟩
  rw [h.2.1]; simp [ev]

theorem MIn.out {l m P : List Int} {i : Nat} {c : Int} (h : MIn l m P i m.length c) (hc : 0 ≤ c ∧ c < 1000000000) (hk : i + m.length < P.length) : MOut l m (P.set (i + m.length) c) (i + 1) := by
  obtain ⟨h1, h2, h3⟩ := h
  refine ⟨h1.set _ hc.1 hc.2, ?_, fun k hk' => ?_⟩
  · rw [ev_set _ _ _ _ hk, h3 _ (Nat.le_refl _), ev_take]
    rw [List.take_length] at h2
    simp only [Int.sub_zero]
    rw [h2, Int.add_mul]
    congr 1
    rw [Int.mul_assoc, Int.mul_comm (ev 1000000000 m), ← Int.mul_assoc]
  · rw [getD_set_ne _ (by omega)]; exact h3 k (by omega)

theorem getD_zeros (n k : Nat) : (List.replicate n (0 : Int)).getD k 0 = 0 := by
  simp only [List.getD, List.getElem?_replicate]; split <;> rfl

set_option maxHeartbeats 2000000 in
theorem mulLimbs_any (l m : List Int) (u v : Value) (w : World) (hu : Row w u l) (hv : Row w v m) (hl : l.length ≤ 10000000) (hm : m.length ≤ 10000000) (dl : Dig 1000000000 l) (dm : Dig 1000000000 m) :
    Calls Tryz.prog 94 #[u, v] w fun e w' => ∃ s x, e = .returned x ∧ Row w' x s ∧ Dig 1000000000 s ∧ ev 1000000000 s = ev 1000000000 l * ev 1000000000 m ∧ s.length ≤ l.length + m.length ∧ Below w.heap.size w w' := by
  obtain ⟨ua, uc, rfl⟩ := hu.val
  obtain ⟨va, vc, rfl⟩ := hv.val
  obtain ⟨n, HN⟩ : ∃ n, Hid (n = l.length + m.length) := ⟨_, rfl⟩
  have hna : n ≤ l.length + m.length := by have := HN.out; omega
  have hnb : l.length + m.length ≤ n := by have := HN.out; omega
  go_enter Tryz.func94, Tryz.ntmps94
  go_wp2_with (at_make; refine wpList_make64 rfl (.tmp 14) (.tmp 14) rfl _ _ n rfl rfl (by omega) (by omega) (by omega) ?_)
  intro w1 P0 HP0 hown1 hb1
  go_wp2_with fail
  go_loopw [6] (fun i wq => ∃ (k : Nat) (P : List Int), k ≤ l.length ∧ i = .int .i64 k ∧ P.length = n ∧ wq.ownsRow w.heap.size 2 1 (.slice (some ⟨w.heap.size, 0, none⟩) n n) n (P.map (Value.int .i64)) ∧ Hid (MOut l m P k) ∧ Below w.heap.size w wq) (fun i _ => l.length - (intOf i).toNat)
  case atStart => exact ⟨0, P0, Nat.zero_le _, rfl, by rw [HP0.out]; simp, hown1, by rw [HP0.out]; exact ⟨Dig.zeros (by omega) _, by simp [ev, ev_zeros], fun k _ => getD_zeros n k⟩, hb1⟩
  case round =>
    clear hown1 hb1 HP0
    obtain ⟨i, P, hi, rfl, hPl, hown, HM, hbel⟩ := hrel
    by_cases hlt2 : i < l.length
    · have hn : n = l.length + m.length := HN.out
      have hn1 : l.length + m.length ≤ n := by omega
      have hn2 : n ≤ l.length + m.length := by omega
      clear hn
      have hBg := Nat.le_refl w.heap.size
      obtain ⟨ga, rfl, hu1, hu2, hu3, hcu⟩ := hu.at i hlt2
      obtain ⟨x, HX⟩ : ∃ x, Hid (l.getD i 0 = x) := ⟨_, rfl⟩
      have hx := Dig.getD (by omega) dl i
      rw [HX.out] at hcu hx
      obtain ⟨hx0, hx1⟩ := hx
      go_wp2_with fail
      go_loopw [7, 8] (fun c j wp => ∃ (q : Nat) (cy : Int) (P : List Int), q ≤ m.length ∧ j = .int .i64 q ∧ c = .int .i64 cy ∧ 0 ≤ cy ∧ cy < 1000000000 ∧ P.length = n ∧ wp.ownsRow w.heap.size 2 1 (.slice (some ⟨w.heap.size, 0, none⟩) n n) n (P.map (Value.int .i64)) ∧ Hid (MIn l m P i q cy) ∧ Below w.heap.size w wp) (fun _ j _ => m.length - (intOf j).toNat)
      case atStart => exact ⟨0, 0, P, Nat.zero_le _, rfl, rfl, by omega, by omega, hPl, hown, MOut.into HM.out, hbel⟩
      case round =>
        clear hown hbel HM hPl P
        obtain ⟨j, cy, P, hj, rfl, rfl, hc0, hcB, hPl, hown, HM, hbel⟩ := hrel
        have hcu' : wr.cell? ⟨ga, i, none⟩ = some (.int .i64 x) := (hbel.cell (by exact hu3)).trans hcu
        by_cases hlt3 : j < m.length
        · obtain ⟨gb, rfl, hv1, hv2, hv3, hcv⟩ := hv.at j hlt3
          obtain ⟨y, HY⟩ : ∃ y, Hid (m.getD j 0 = y) := ⟨_, rfl⟩
          have hy := Dig.getD (by omega) dm j
          rw [HY.out] at hcv hy
          obtain ⟨hy0, hy1⟩ := hy
          have hcv' : wr.cell? ⟨gb, j, none⟩ = some (.int .i64 y) := (hbel.cell (by exact hv3)).trans hcv
          obtain ⟨p, HP⟩ : ∃ p, Hid (P.getD (i + j) 0 = p) := ⟨_, rfl⟩
          have hp := Dig.getD (by omega) HM.out.1 (i + j)
          rw [HP.out] at hp
          have hcp : wr.cell? ⟨w.heap.size, i + j, none⟩ = some (.int .i64 p) := by
            rw [hown.cellAt (i + j) (by omega), ← HP.out]
            simp [List.getD, show i + j < P.length by omega]
          have hfp := hown.frozenAt (i + j)
          have hb := mul_bound (B := 1000000000) (by omega) p x y cy hp ⟨hx0, hx1⟩ ⟨hy0, hy1⟩ ⟨hc0, hcB⟩
          have hst := MIn.step HM.out (by omega) hlt3 HP.out HX.out HY.out hb
          have HST : Hid _ := hst
          have hd := dig_sq hb
          have hxy : 0 ≤ x * y := Int.mul_nonneg hx0 hy0
          obtain ⟨hp0, hp1⟩ := hp
          obtain ⟨hb1, hb2⟩ := hb
          clear hst HM HP HY hcv hcu hd
          go_wp2_with fail
          go_quiet (fail)
          go_wp2
          go_roundw
          case rel =>
            refine ⟨j + 1, _, P.set (i + j) ((p + x * y + cy) % 1000000000), by omega, by go_num, rfl, by omega, by omega, by simpa using hPl, ?_, HST, (below_drewN hbel nq).setCell hBg _⟩
            rw [← map_set]
            exact (World.ownsRow.stored (w := wr.drewN nq) hown _ _).1
          case measure => simp [intOf]; omega
        · obtain rfl : j = m.length := by omega
          obtain ⟨p, HP⟩ : ∃ p, Hid (P.getD (i + m.length) 0 = p) := ⟨_, rfl⟩
          have hcp : wr.cell? ⟨w.heap.size, i + m.length, none⟩ = some (.int .i64 p) := by
            rw [hown.cellAt (i + m.length) (by omega), ← HP.out]
            simp [List.getD, show i + m.length < P.length by omega]
          have hfp := hown.frozenAt (i + m.length)
          have hst := MIn.out HM.out ⟨hc0, hcB⟩ (by omega)
          have HST : Hid _ := hst
          clear hst HM HP hcu
          go_wp2
          go_roundw
          case rel =>
            refine ⟨i + 1, P.set (i + m.length) cy, by omega, by go_num, by simpa using hPl, ?_, HST, hbel.setCell hBg _⟩
            rw [← map_set]
            exact (World.ownsRow.stored hown _ _).1
          case measure => simp [intOf]; omega
    · obtain rfl : i = l.length := by omega
      have hM := HM.out
      unfold MOut at hM
      rw [List.take_length] at hM
      have HM2 : Hid _ := hM
      have hn : n = l.length + m.length := HN.out
      have hPn : P.length ≤ l.length + m.length := by omega
      clear hM HM hn
      go_wp2
      go_ret
      refine ⟨P, _, rfl, Own.row (B := w.heap.size) (by unfold Own; rw [hPl]; exact hown), HM2.out.1, HM2.out.2.1, hPn, hbel⟩

end Go.Proofs.YtldcjkhbiffdoabGreatDoor

namespace Go.Proofs.YtldcjkhbiffdoabGreatDoor
open Go.RowKit

theorem op_call {P : Program} {o : Oper} {a : Act} {w : World} {K : Act → World → Prop} {Q : Exit → Act → World → Prop} {b : Bool} {E : Prop} (f : Nat) (args : Array Value) (hb : b = true) (hv : (execOp a.eval o).run P w = .ok (.enter f args) w)
    (hc : Calls P f args w fun e w' => ∃ v, e = .returned v ∧ K (a.put o.dst v) w') : if b = true then Oper.wp P o a w K Q else E := by
  rw [if_pos hb]
  unfold Oper.wp
  rw [hv]
  simp only [Oper.upon]
  refine hc.mono ?_
  rintro e w' ⟨v, rfl, h⟩
  exact h

theorem op_val {P : Program} {o : Oper} {a : Act} {w w' : World} {K : Act → World → Prop} {Q : Exit → Act → World → Prop} {b : Bool} {E : Prop} (v : Value) (hb : b = true) (hv : (execOp a.eval o).run P w = .ok (.value v) w')
    (h : K (a.put o.dst v) w') : if b = true then Oper.wp P o a w K Q else E := by
  rw [if_pos hb]
  unfold Oper.wp
  rw [hv]
  simp only [Oper.upon]
  exact h

section
variable {P : Program} {ops : Array Oper} {Q : Exit → Act → World → Prop} {S : World → Prop} {fuel : Nat} {listed : Array Bool} {a : Act} {w : World}

theorem h_take (i : Nat) (d : Tmp) (v : Value) {o : Oper} (ho : ops[i]? = some o) (hd : o.dst = some d) (hs : Region.noSelect ops = true) (hf : Region.free .any ops listed i = true) (hr : (Region.ready .any ops listed).contains i = true)
    (hQ : ∀ c a w, Q (.panic c) (a.put (some d) v) w → Q (.panic c) a w) (hb : Region.wanted o (yielded ops a.tmps) = true) (hv : ∀ w, S w → (execOp a.eval o).run P w = .ok (.value v) w) (hS : S w)
    (h : wpAnyH P .any ops Q S fuel (listed.setIfInBounds i true) (a.put (some d) v) w) : wpAnyH P .any ops Q S (fuel + 1) listed a w := by
  refine wpAnyH_take ho hs hf hr (v := v) (by rw [hd]; exact hQ) (.inl ⟨hb, hv⟩) hS ?_
  rw [hd]; exact h

theorem h_call (i : Nat) (d : Tmp) {o : Oper} (f : Nat) (args : Array Value) (ho : ops[i]? = some o) (hd : o.dst = some d) (hr : Region.ready .any ops listed = [i]) (hb : Region.wanted o (yielded ops a.tmps) = true) (hv : (execOp a.eval o).run P w = .ok (.enter f args) w)
    (hc : Calls P f args w fun e w' => ∃ v, e = .returned v ∧ S w' ∧ wpAnyH P .any ops Q S fuel (listed.setIfInBounds i true) (a.put (some d) v) w') : wpAnyH P .any ops Q S (fuel + 1) listed a w :=
  wpAnyH_ready hr (by simp) (AllReadyH.cons ho (fun K' hK => op_call f args hb hv (hc.mono (by
    rintro e w' ⟨v, rfl, hS, h⟩
    rw [hd]
    exact ⟨v, rfl, hK.out _ _ hS fun _ => h⟩))) AllReadyH.nil)

theorem h_val (i : Nat) (d : Tmp) {o : Oper} {w' : World} (v : Value) (ho : ops[i]? = some o) (hd : o.dst = some d) (hr : Region.ready .any ops listed = [i]) (hb : Region.wanted o (yielded ops a.tmps) = true) (hv : (execOp a.eval o).run P w = .ok (.value v) w') (hS : S w')
    (h : wpAnyH P .any ops Q S fuel (listed.setIfInBounds i true) (a.put (some d) v) w') : wpAnyH P .any ops Q S (fuel + 1) listed a w :=
  wpAnyH_ready hr (by simp) (AllReadyH.cons ho (fun _ hK => op_val v hb hv (by rw [hd]; exact hK.out _ _ hS fun _ => h)) AllReadyH.nil)

theorem ar_call (i : Nat) (d : Tmp) {o : Oper} {rs : List Nat} (f : Nat) (args : Array Value) (ho : ops[i]? = some o) (hd : o.dst = some d) (hb : Region.wanted o (yielded ops a.tmps) = true) (hv : (execOp a.eval o).run P w = .ok (.enter f args) w)
    (hc : Calls P f args w fun e w' => ∃ v, e = .returned v ∧ S w' ∧ wpAnyH P .any ops Q S fuel (listed.setIfInBounds i true) (a.put (some d) v) w')
    (hs : AllReadyH P .any ops Q S fuel listed a w rs) : AllReadyH P .any ops Q S fuel listed a w (i :: rs) :=
  AllReadyH.cons ho (fun K' hK => op_call f args hb hv (hc.mono (by
    rintro e w' ⟨v, rfl, hS, h⟩
    rw [hd]
    exact ⟨v, rfl, hK.out _ _ hS fun _ => h⟩))) hs

theorem ar_val (i : Nat) (d : Tmp) {o : Oper} {rs : List Nat} {w' : World} (v : Value) (ho : ops[i]? = some o) (hd : o.dst = some d) (hb : Region.wanted o (yielded ops a.tmps) = true) (hv : (execOp a.eval o).run P w = .ok (.value v) w') (hS : S w')
    (h : wpAnyH P .any ops Q S fuel (listed.setIfInBounds i true) (a.put (some d) v) w')
    (hs : AllReadyH P .any ops Q S fuel listed a w rs) : AllReadyH P .any ops Q S fuel listed a w (i :: rs) :=
  AllReadyH.cons ho (fun _ hK => op_val v hb hv (by rw [hd]; exact hK.out _ _ hS fun _ => h)) hs

theorem op_skip {P : Program} {o : Oper} {a : Act} {w w' : World} {K : Act → World → Prop} {Q : Exit → Act → World → Prop} {b : Bool} {E : Prop} (hb : b = true) (hv : (execOp a.eval o).run P w = .ok .skip w')
    (h : K (a.put o.dst undef) w') : if b = true then Oper.wp P o a w K Q else E := by
  rw [if_pos hb]
  unfold Oper.wp
  rw [hv]
  simp only [Oper.upon]
  exact h

theorem h_store (i : Nat) {o : Oper} {w' : World} (ho : ops[i]? = some o) (hd : o.dst = none) (hr : Region.ready .any ops listed = [i]) (hb : Region.wanted o (yielded ops a.tmps) = true) (hv : (execOp a.eval o).run P w = .ok .skip w') (hS : S w')
    (h : wpAnyH P .any ops Q S fuel (listed.setIfInBounds i true) a w') : wpAnyH P .any ops Q S (fuel + 1) listed a w :=
  wpAnyH_ready hr (by simp) (AllReadyH.cons ho (fun _ hK => op_skip hb hv (by rw [hd]; exact hK.out _ _ hS fun _ => h)) AllReadyH.nil)

end

end Go.Proofs.YtldcjkhbiffdoabGreatDoor
