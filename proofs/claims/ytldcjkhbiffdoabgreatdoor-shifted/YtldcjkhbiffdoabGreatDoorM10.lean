import Derived.Test.YtldcjkhbiffdoabGreatDoorM02
import Derived.Test.YtldcjkhbiffdoabGreatDoorM06
import Derived.Test.YtldcjkhbiffdoabGreatDoorM00
import Derived.Deep.RegionHeld3

namespace Go.Proofs.YtldcjkhbiffdoabGreatDoor
open Go.RowKit

set_option maxHeartbeats 400000 in
theorem modulo_any (n p : Int) (w : World) (hn : 0 ≤ n) (hn1 : n < 1000000000000000) (hp : 0 < p) (hp1 : p < 1000000000000000) :
    Calls Tryz.prog 121 #[.int .i64 n, .int .i64 p] w fun e w' => e = .returned (.int .i64 (n % p)) ∧ w' = w := by
  have h2 : 0 ≤ n % p := Int.emod_nonneg _ (by omega)
  have h3 : n % p < p := Int.emod_lt_of_pos _ hp
  have hlt : ¬ p < 1 := by omega
  have hp0 : ¬ p = 0 := by omega
  go_enter Tryz.func121, Tryz.ntmps121
  go_wp2
  go_ret
  exact ⟨rfl, rfl⟩

set_option maxHeartbeats 400000 in
theorem atN_any (l : List Int) (v : Value) (i : Nat) (w : World) (h : RowN w v l) (hi : i ≤ 1000000000000) (hl : l.length ≤ 1000000000000) :
    Calls Tryz.prog 113 #[v, .int .i64 i] w fun e w' => e = .returned (.int .i64 (l.getD i 0)) ∧ w' = w := by
  rcases h.form with ⟨rfl, rfl⟩ | ⟨g, cap, rfl, hc, hm, _, hcell⟩
  · go_enter Tryz.func113, Tryz.ntmps113
    go_wp2
    go_ret
    exact ⟨rfl, rfl⟩
  · by_cases hlt : i < l.length
    · have hg := hcell i hlt
      clear hcell
      generalize l.getD i 0 = x at *
      go_enter Tryz.func113, Tryz.ntmps113
      go_wp2
      go_ret
      exact ⟨rfl, rfl⟩
    · have hz : l.getD i 0 = 0 := by simp [List.getD, List.getElem?_eq_none (Nat.le_of_not_lt hlt)]
      clear hcell
      rw [hz]
      clear hz
      go_enter Tryz.func113, Tryz.ntmps113
      go_wp2
      go_ret
      exact ⟨rfl, rfl⟩

def InvO (p : Nat) (n : Int) (pw sq : Int) (lf : Nat) : Prop := (p : Int) ∣ pw * sq ^ lf - n ^ (p - 2)

theorem InvO.even {p : Nat} {n pw sq : Int} {lf : Nat} (h : InvO p n pw sq lf) (he : lf % 2 = 0) : InvO p n pw (sq * sq % p) (lf / 2) := by
  unfold InvO at *
  have h1 : sq ^ lf = (sq * sq) ^ (lf / 2) := by
    rw [Int.mul_pow, ← Int.pow_add]; congr 1; omega
  rw [h1] at h
  have h2 : ∀ (a : Int) (k : Nat), (p : Int) ∣ (a % p) ^ k - a ^ k := by
    intro a k
    induction k with
    | zero => simp
    | succ k ih =>
      rw [Int.pow_succ, Int.pow_succ]
      have h3 : (p : Int) ∣ a % p - a := ⟨-(a / p), by rw [Int.mul_neg]; have := Int.mul_ediv_add_emod a p; omega⟩
      have h4 : (a % p) ^ k * (a % p) - a ^ k * a = ((a % p) ^ k - a ^ k) * (a % p) + a ^ k * (a % p - a) := by rw [Int.sub_mul, Int.mul_sub]; omega
      rw [h4]
      exact Int.dvd_add (Int.dvd_trans ih (Int.dvd_mul_right ..)) (Int.dvd_trans h3 (Int.dvd_mul_left ..))
  have h5 := Int.dvd_add (Int.dvd_trans (h2 (sq * sq) (lf / 2)) (Int.dvd_mul_left pw _)) h
  rwa [Int.mul_sub, show pw * (sq * sq % ↑p) ^ (lf / 2) - pw * (sq * sq) ^ (lf / 2) + (pw * (sq * sq) ^ (lf / 2) - n ^ (p - 2)) = pw * (sq * sq % ↑p) ^ (lf / 2) - n ^ (p - 2) by omega] at h5
theorem InvO.odd {p : Nat} {n pw sq : Int} {lf : Nat} (h : InvO p n pw sq lf) (he : lf % 2 = 1) : InvO p n (pw * sq % p) sq (lf - 1) := by
  unfold InvO at *
  obtain ⟨k, rfl⟩ : ∃ k, lf = k + 1 := ⟨lf - 1, by omega⟩
  rw [Nat.add_sub_cancel]
  rw [Int.pow_succ] at h
  have h3 : (p : Int) ∣ pw * sq % p - pw * sq := ⟨-(pw * sq / p), by rw [Int.mul_neg]; have := Int.mul_ediv_add_emod (pw * sq) p; omega⟩
  have h4 := Int.dvd_add (Int.dvd_trans h3 (Int.dvd_mul_right _ (sq ^ k))) h
  rwa [Int.sub_mul, show pw * sq * sq ^ k = pw * (sq ^ k * sq) by rw [Int.mul_assoc, Int.mul_comm sq], show pw * sq % ↑p * sq ^ k - pw * (sq ^ k * sq) + (pw * (sq ^ k * sq) - n ^ (p - 2)) = pw * sq % ↑p * sq ^ k - n ^ (p - 2) by omega] at h4
theorem InvO.ends {p : Nat} (hp2 : 2 ≤ p) (hp : Dom (p : Int)) {n : Nat} (hn : ¬ (p : Int) ∣ n) {pw sq : Int} (h : InvO p n pw sq 0) : (p : Int) ∣ n * (pw % p) - 1 := by
  unfold InvO at h
  rw [Int.pow_zero, Int.mul_one] at h
  have h1 := fermat hp2 hp n
  obtain ⟨q, hq⟩ : ∃ q, p = q + 2 := ⟨p - 2, by omega⟩
  rw [show p - 2 = q by omega] at h
  have h2 : (p : Int) ∣ n * (n * (n : Int) ^ q - 1) := by
    have : (n : Int) ^ p - n = n * (n * (n : Int) ^ q - 1) := by
      rw [hq, show q + 2 = (q + 1) + 1 from rfl, Int.pow_succ, Int.pow_succ, Int.mul_sub, Int.mul_one, Int.mul_comm ((n : Int) ^ q), Int.mul_comm _ (n : Int)]
    rwa [this] at h1
  have h3 := (hp.1 _ _ h2).resolve_left hn
  have h4 : (p : Int) ∣ pw % p - pw := ⟨-(pw / p), by rw [Int.mul_neg]; have := Int.mul_ediv_add_emod pw p; omega⟩
  have h5 := Int.dvd_add (Int.dvd_trans (Int.dvd_add h4 h) (Int.dvd_mul_left (n : Int) _)) h3
  rwa [show pw % ↑p - pw + (pw - ↑n ^ q) = pw % ↑p - ↑n ^ q by omega, Int.mul_sub, show (n : Int) * (pw % ↑p) - ↑n * ↑n ^ q + (↑n * ↑n ^ q - 1) = ↑n * (pw % ↑p) - 1 by omega] at h5

set_option maxHeartbeats 1000000 in
theorem inverse_any (p n : Nat) (w : World) (hp2 : 2 ≤ p) (hp1 : p < 1000) (hp : Dom (p : Int)) (hn : n < p) (hn0 : ¬ (p : Int) ∣ n) :
    Calls Tryz.prog 114 #[.int .i64 n, .int .i64 p] w fun e w' => ∃ k : Nat, e = .returned (.int .i64 k) ∧ k < p ∧ (p : Int) ∣ n * k - 1 ∧ w' = w := by
  have hM := fun (a : Int) (W : World) (h0 : 0 ≤ a) (h1 : a < 1000000) => modulo_any a p W h0 (by omega) (by omega) (by omega)
  have HM : Hid _ := hM
  clear hM
  go_enter Tryz.func114, Tryz.ntmps114
  go_wp2_with fail
  go_loopw [5, 6, 7] (fun a b c wr => ∃ (pw sq lf : Nat), a = .int .i64 pw ∧ b = .int .i64 sq ∧ c = .int .i64 lf ∧ pw < p ∧ sq < p ∧ lf < p ∧ Hid (InvO p n pw sq lf) ∧ wr = w) (fun _ _ c _ => (intOf c).toNat)
  case atStart => exact ⟨1, n, p - 2, rfl, rfl, by go_num, by omega, hn, by omega, by unfold InvO; show Hid _; exact ⟨0, by rw [Int.natCast_one, Int.one_mul]; omega⟩, rfl⟩
  case round =>
    obtain ⟨pw, sq, lf, rfl, rfl, rfl, h1, h2, h3, HI, rfl⟩ := hrel
    have hmul : ∀ a b : Nat, a < p → b < p → 0 ≤ (a : Int) * b ∧ (a : Int) * b < 1000000 := by
      intro a b ha hb
      have h5 : a * b ≤ 999 * 999 := Nat.mul_le_mul (by omega) (by omega)
      have h6 : (a : Int) * b = ((a * b : Nat) : Int) := (Int.natCast_mul a b).symm
      omega
    obtain ⟨m1, m2⟩ := hmul pw sq h1 h2
    obtain ⟨m3, m4⟩ := hmul sq sq h2 h2
    have hmod : ∀ a : Int, 0 ≤ a % p ∧ a % p < p := fun a => ⟨Int.emod_nonneg _ (by omega), Int.emod_lt_of_pos _ (by omega)⟩
    rcases Nat.eq_zero_or_pos lf with rfl | hl
    · have HE : Hid _ := InvO.ends hp2 hp hn0 HI.out
      clear HI hmul
      go_wp2_with fail
      refine (HM.out _ _ (by omega) (by omega)).mono ?_
      rintro e w' ⟨rfl, rfl⟩
      go_wp2
      go_ret
      obtain ⟨q1, q2⟩ := hmod pw
      refine ⟨((pw : Int) % p).toNat, by rw [show ((((pw : Int) % p).toNat : Nat) : Int) = (pw : Int) % p by omega]; rfl, by omega, ?_, rfl⟩
      rw [show ((((pw : Int) % p).toNat : Nat) : Int) = (pw : Int) % p by omega]
      exact HE.out
    · have hlf : 0 < (lf : Int) := by omega
      by_cases hodd : lf % 2 = 1
      · have hodd' : (lf : Int) % 2 = 1 := by omega
        have HE : Hid _ := (HI.out.odd hodd).even (by omega)
        clear HI hmul
        go_wp2_with fail
        refine (HM.out _ _ m1 (by omega)).mono ?_
        rintro e w' ⟨rfl, rfl⟩
        go_wp2_with fail
        refine (HM.out _ _ m3 (by omega)).mono ?_
        rintro e w' ⟨rfl, rfl⟩
        go_wp2
        go_roundw
        case rel =>
          obtain ⟨q1, q2⟩ := hmod (pw * sq)
          obtain ⟨q3, q4⟩ := hmod (sq * sq)
          refine ⟨((pw : Int) * sq % p).toNat, ((sq : Int) * sq % p).toNat, lf / 2, by congr 1 <;> omega, by congr 1 <;> omega, by go_num, by omega, by omega, by omega, ?_, trivial⟩
          rw [show ((((pw : Int) * sq % p).toNat : Nat) : Int) = (pw : Int) * sq % p by omega, show ((((sq : Int) * sq % p).toNat : Nat) : Int) = (sq : Int) * sq % p by omega, show lf / 2 = (lf - 1) / 2 by omega]
          exact HE
        case measure => simp [intOf]; omega
      · have hodd' : (lf : Int) % 2 = 0 := by omega
        have HE : Hid _ := HI.out.even (by omega)
        clear HI hmul
        go_wp2_with fail
        refine (HM.out _ _ m3 (by omega)).mono ?_
        rintro e w' ⟨rfl, rfl⟩
        go_wp2
        go_roundw
        case rel =>
          obtain ⟨q3, q4⟩ := hmod (sq * sq)
          refine ⟨pw, ((sq : Int) * sq % p).toNat, lf / 2, rfl, by congr 1 <;> omega, by go_num, by omega, by omega, by omega, ?_, trivial⟩
          rw [show ((((sq : Int) * sq % p).toNat : Nat) : Int) = (sq : Int) * sq % p by omega]
          exact HE
        case measure => simp [intOf]; omega

def isP (n : Nat) : Prop := 2 ≤ n ∧ Dom (n : Int)

set_option maxHeartbeats 1000000 in
theorem isPrime_any (n : Nat) (w : World) (hn : 2 ≤ n) (hn1 : n < 1001) (b : Bool) (HB : Hid (b = true ↔ isP n)) :
    Calls Tryz.prog 111 #[.int .i64 n] w fun e w' => e = .returned (.bool b) ∧ w' = w := by
  go_enter Tryz.func111, Tryz.ntmps111
  go_wp2_with fail
  go_loopw [3] (fun a wr => ∃ d : Nat, a = .int .i64 d ∧ 2 ≤ d ∧ d ≤ n + 2 ∧ Hid (∀ e, 2 ≤ e → e < d → ¬ e ∣ n) ∧ wr = w) (fun a _ => n + 2 - (intOf a).toNat)
  case atStart => exact ⟨2, rfl, by omega, by omega, fun e h1 h2 => by omega, rfl⟩
  case round =>
    obtain ⟨d, rfl, h1, h2, HD, rfl⟩ := hrel
    have hd0 : ¬ (d : Int) = 0 := by omega
    have hdiv : (n : Int) / d = ((n / d : Nat) : Int) := by rw [Int.natCast_ediv]
    have hmod : (n : Int) % d = ((n % d : Nat) : Int) := by rw [Int.natCast_emod]
    have hle : n / d ≤ n := Nat.div_le_self _ _
    have hmle : n % d ≤ n := Nat.mod_le _ _
    by_cases hc : d ≤ n / d
    · have hc' : (d : Int) ≤ (n : Int) / d := by omega
      have hq0 : 0 ≤ (n : Int) / d := Int.ediv_nonneg (by omega) (by omega)
      have hq1 : (n : Int) / d ≤ 1001 := by omega
      have hr0 : 0 ≤ (n : Int) % d := Int.emod_nonneg _ (by omega)
      have hr1 : (n : Int) % d ≤ 1001 := by omega
      have hdn : d ≤ n := by omega
      by_cases hz : n % d = 0
      · have hz' : (n : Int) % d = 0 := by omega
        have hdd : d * d ≤ n := by
          have := Nat.div_mul_le_self n d
          have h5 := Nat.mul_le_mul_right d hc
          omega
        have hnp : ¬ isP n := by
          intro h
          rcases h.2.only hn (Nat.dvd_of_mod_eq_zero hz) with h5 | h5
          · omega
          · have : 2 * d ≤ d * d := Nat.mul_le_mul_right d h1
            omega
        have HN : Hid _ := hnp
        clear hnp HD hdd hdiv hmod hle hmle hc hz
        go_wp2
        go_ret
        refine ⟨?_, rfl⟩
        cases b with
        | false => rfl
        | true => exact absurd (HB.out.1 rfl) HN.out
      · have hz' : ¬ (n : Int) % d = 0 := by omega
        have HN : Hid (∀ e, 2 ≤ e → e < d + 1 → ¬ e ∣ n) := by
          intro e h5 h6 h7
          rcases (show e < d ∨ e = d by omega) with h8 | rfl
          · exact HD.out e h5 h8 h7
          · exact hz (Nat.mod_eq_zero_of_dvd h7)
        clear HD hdiv hmod hle hmle hc hz
        go_wp2
        go_roundw
        case rel => exact ⟨d + 1, by go_num, by omega, by omega, HN, trivial⟩
        case measure => simp [intOf]; omega
    · have hc' : ¬ (d : Int) ≤ (n : Int) / d := by omega
      have hq0 : 0 ≤ (n : Int) / d := Int.ediv_nonneg (by omega) (by omega)
      have hq1 : (n : Int) / d ≤ 1001 := by omega
      have HN : Hid (isP n) := by
        refine ⟨hn, Dom.of_trial hn fun e h5 h6 h7 => ?_⟩
        rcases Nat.lt_or_ge e d with h8 | h8
        · exact HD.out e h5 h8 h7
        · have h9 : d * d ≤ n := Nat.le_trans (Nat.mul_le_mul h8 h8) h6
          have h10 : d ≤ n / d := (Nat.le_div_iff_mul_le (by omega)).2 h9
          omega
      clear HD hdiv hmod hle hmle hc
      go_wp2
      go_ret
      refine ⟨?_, rfl⟩
      rw [HB.out.2 HN.out]
      show Ending.returned (Value.bool (decide (1 < (n : Int)))) = _
      rw [decide_eq_true (by omega)]

set_option maxRecDepth 100000 in
set_option maxHeartbeats 1000000 in
theorem trimN_any (l : List Int) (u : Value) (w : World) (hu : RowN w u l) (hl : l.length ≤ 1000000000) :
    Calls Tryz.prog 93 #[u] w fun e w' => ∃ x, e = .returned x ∧ OwnN w.heap.size w' x (tz l) ∧ Below w.heap.size w w' := by
  obtain ⟨ua, uc, rfl⟩ := hu.val
  go_enter Tryz.func93, Tryz.ntmps93
  go_wp2_with fail
  go_loop [3] (fun n => ∃ (k : Nat), k ≤ l.length ∧ n = .int .i64 k ∧ Hid (tzn l l.length = tzn l k)) (fun n => (intOf n).toNat)
  case atStart => exact ⟨l.length, Nat.le_refl _, rfl, rfl⟩
  case round =>
    obtain ⟨k, hk, rfl, HE⟩ := hrel
    cases k with
    | zero =>
      have HT : Hid (tz l = l.take 0) := by unfold tz; rw [HE.out]; rfl
      clear HE
      go_wp2_with (at_make; refine wpList_makeZ rfl (.tmp 19) (.tmp 19) rfl _ _ 0 rfl rfl (by omega) (by omega) (by omega) ?_)
      intro w1 P0 _ hown hb1
      obtain ⟨w2, hrun, hown2, hb2⟩ := copyN_run w.heap.size w.heap.size 0 P0 l ua uc (hu.below hb1) (by omega) hown
      go_wp2
      go_ret
      rw [HT.out]
      exact ⟨_, rfl, hown2, hb1.trans hb2⟩
    | succ j =>
      obtain ⟨g, rfl, hc1, hc2, hg, hcell⟩ := hu.at j (by omega)
      obtain ⟨x, HX⟩ : ∃ x, Hid (l.getD j 0 = x) := ⟨_, rfl⟩
      rw [HX.out] at hcell
      by_cases hx : x = 0
      · subst hx
        have he : Hid (tzn l l.length = tzn l j) := by
          rw [HE.out]
          show (if l.getD j 0 = 0 then tzn l j else j + 1) = tzn l j
          rw [if_pos HX.out]
        clear HE HX
        go_wp2_with fail
        go_round
        case rel => exact ⟨j, by omega, by go_num, he⟩
        case measure => simp [intOf]
      · have HT : Hid (tz l = l.take (j + 1)) := by
          unfold tz
          rw [HE.out]
          show l.take (if l.getD j 0 = 0 then tzn l j else j + 1) = l.take (j + 1)
          rw [if_neg (by rw [HX.out]; exact hx)]
        have hxb : (x == 0) = false := by simp [hx]
        clear HE HX
        go_wp2_with (at_make; refine wpList_makeZ rfl (.tmp 19) (.tmp 19) rfl _ _ (j + 1) rfl rfl (by omega) (by omega) (by omega) ?_)
        intro w1 P0 _ hown hb1
        obtain ⟨w2, hrun, hown2, hb2⟩ := copyN_run w.heap.size w.heap.size (j + 1) P0 l _ uc (hu.below hb1) (by omega) hown
        go_wp2
        go_ret
        rw [HT.out]
        exact ⟨_, rfl, hown2, hb1.trans hb2⟩

end Go.Proofs.YtldcjkhbiffdoabGreatDoor

namespace Go.Proofs.YtldcjkhbiffdoabGreatDoor
open Go.RowKit

theorem op_call {P : Program} {o : Oper} {a : Act} {w : World} {K : Act → World → Prop} {Q : Exit → Act → World → Prop} {b : Bool} {E : Prop} (f : Nat) (args : Array Value) (hb : b = true) (hv : (execOp a.eval o).run P w = .ok (.enter f args) w)
    (hc : Calls P f args w fun e w' => ∃ v, e = .returned v ∧ K (a.put o.dst v) w') : if b = true then Oper.wp P o a w K Q else E := by
  rw [if_pos hb]
  unfold Oper.wp
  rw [hv]
  simp only [Oper.upon]
  refine hc.mono ?_
  rintro e w' ⟨v, rfl, h⟩
  exact h

theorem op_val {P : Program} {o : Oper} {a : Act} {w w' : World} {K : Act → World → Prop} {Q : Exit → Act → World → Prop} {b : Bool} {E : Prop} (v : Value) (hb : b = true) (hv : (execOp a.eval o).run P w = .ok (.value v) w')
    (h : K (a.put o.dst v) w') : if b = true then Oper.wp P o a w K Q else E := by
  rw [if_pos hb]
  unfold Oper.wp
  rw [hv]
  simp only [Oper.upon]
  exact h

section
variable {P : Program} {ops : Array Oper} {Q : Exit → Act → World → Prop} {S : World → Prop} {fuel : Nat} {listed : Array Bool} {a : Act} {w : World}

theorem h_take (i : Nat) (d : Tmp) (v : Value) {o : Oper} (ho : ops[i]? = some o) (hd : o.dst = some d) (hs : Region.noSelect ops = true) (hf : Region.free .any ops listed i = true) (hr : (Region.ready .any ops listed).contains i = true)
    (hQ : ∀ c a w, Q (.panic c) (a.put (some d) v) w → Q (.panic c) a w) (hb : Region.wanted o (yielded ops a.tmps) = true) (hv : ∀ w, S w → (execOp a.eval o).run P w = .ok (.value v) w) (hS : S w)
    (h : wpAnyH P .any ops Q S fuel (listed.setIfInBounds i true) (a.put (some d) v) w) : wpAnyH P .any ops Q S (fuel + 1) listed a w := by
  refine wpAnyH_take ho hs hf hr (v := v) (by rw [hd]; exact hQ) (.inl ⟨hb, hv⟩) hS ?_
  rw [hd]; exact h

theorem h_call (i : Nat) (d : Tmp) {o : Oper} (f : Nat) (args : Array Value) (ho : ops[i]? = some o) (hd : o.dst = some d) (hr : Region.ready .any ops listed = [i]) (hb : Region.wanted o (yielded ops a.tmps) = true) (hv : (execOp a.eval o).run P w = .ok (.enter f args) w)
    (hc : Calls P f args w fun e w' => ∃ v, e = .returned v ∧ S w' ∧ wpAnyH P .any ops Q S fuel (listed.setIfInBounds i true) (a.put (some d) v) w') : wpAnyH P .any ops Q S (fuel + 1) listed a w :=
  wpAnyH_ready hr (by simp) (AllReadyH.cons ho (fun K' hK => op_call f args hb hv (hc.mono (by
    rintro e w' ⟨v, rfl, hS, h⟩
    rw [hd]
    exact ⟨v, rfl, hK.out _ _ hS fun _ => h⟩))) AllReadyH.nil)

theorem h_val (i : Nat) (d : Tmp) {o : Oper} {w' : World} (v : Value) (ho : ops[i]? = some o) (hd : o.dst = some d) (hr : Region.ready .any ops listed = [i]) (hb : Region.wanted o (yielded ops a.tmps) = true) (hv : (execOp a.eval o).run P w = .ok (.value v) w') (hS : S w')
    (h : wpAnyH P .any ops Q S fuel (listed.setIfInBounds i true) (a.put (some d) v) w') : wpAnyH P .any ops Q S (fuel + 1) listed a w :=
  wpAnyH_ready hr (by simp) (AllReadyH.cons ho (fun _ hK => op_val v hb hv (by rw [hd]; exact hK.out _ _ hS fun _ => h)) AllReadyH.nil)

theorem ar_call (i : Nat) (d : Tmp) {o : Oper} {rs : List Nat} (f : Nat) (args : Array Value) (ho : ops[i]? = some o) (hd : o.dst = some d) (hb : Region.wanted o (yielded ops a.tmps) = true) (hv : (execOp a.eval o).run P w = .ok (.enter f args) w)
    (hc : Calls P f args w fun e w' => ∃ v, e = .returned v ∧ S w' ∧ wpAnyH P .any ops Q S fuel (listed.setIfInBounds i true) (a.put (some d) v) w')
    (hs : AllReadyH P .any ops Q S fuel listed a w rs) : AllReadyH P .any ops Q S fuel listed a w (i :: rs) :=
  AllReadyH.cons ho (fun K' hK => op_call f args hb hv (hc.mono (by
    rintro e w' ⟨v, rfl, hS, h⟩
    rw [hd]
    exact ⟨v, rfl, hK.out _ _ hS fun _ => h⟩))) hs

theorem ar_val (i : Nat) (d : Tmp) {o : Oper} {rs : List Nat} {w' : World} (v : Value) (ho : ops[i]? = some o) (hd : o.dst = some d) (hb : Region.wanted o (yielded ops a.tmps) = true) (hv : (execOp a.eval o).run P w = .ok (.value v) w') (hS : S w')
    (h : wpAnyH P .any ops Q S fuel (listed.setIfInBounds i true) (a.put (some d) v) w')
    (hs : AllReadyH P .any ops Q S fuel listed a w rs) : AllReadyH P .any ops Q S fuel listed a w (i :: rs) :=
  AllReadyH.cons ho (fun _ hK => op_val v hb hv (by rw [hd]; exact hK.out _ _ hS fun _ => h)) hs

theorem op_skip {P : Program} {o : Oper} {a : Act} {w w' : World} {K : Act → World → Prop} {Q : Exit → Act → World → Prop} {b : Bool} {E : Prop} (hb : b = true) (hv : (execOp a.eval o).run P w = .ok .skip w')
    (h : K (a.put o.dst undef) w') : if b = true then Oper.wp P o a w K Q else E := by
  rw [if_pos hb]
  unfold Oper.wp
  rw [hv]
  simp only [Oper.upon]
  exact h

theorem h_store (i : Nat) {o : Oper} {w' : World} (ho : ops[i]? = some o) (hd : o.dst = none) (hr : Region.ready .any ops listed = [i]) (hb : Region.wanted o (yielded ops a.tmps) = true) (hv : (execOp a.eval o).run P w = .ok .skip w') (hS : S w')
    (h : wpAnyH P .any ops Q S fuel (listed.setIfInBounds i true) a w') : wpAnyH P .any ops Q S (fuel + 1) listed a w :=
  wpAnyH_ready hr (by simp) (AllReadyH.cons ho (fun _ hK => op_skip hb hv (by rw [hd]; exact hK.out _ _ hS fun _ => h)) AllReadyH.nil)

end

end Go.Proofs.YtldcjkhbiffdoabGreatDoor

namespace Go.Proofs.YtldcjkhbiffdoabGreatDoor

def rest1 (R b : List Int) (n : Nat) : List Int :=
  tab (max R.length (n + b.length)) fun k => R.getD k 0 * lead b - (if n ≤ k then b.getD (k - n) 0 * R.getD (n + b.length - 1) 0 else 0)

theorem rest1_getD (R b : List Int) (n k : Nat) : (rest1 R b n).getD k 0 = R.getD k 0 * lead b - (if n ≤ k then b.getD (k - n) 0 * R.getD (n + b.length - 1) 0 else 0) := by
  unfold rest1
  rw [tab_getD]
  split
  · rfl
  · rw [getD_out (show R.length ≤ k by omega), if_pos (show n ≤ k by omega), getD_out (show b.length ≤ k - n by omega)]
    simp

def RO (b A0 R : List Int) (n : Nat) : Prop :=
  ∃ A c, c ≠ 0 ∧ (∀ k, R.getD k 0 = c * A.getD k 0) ∧ Tr A ∧ prim A = A ∧ A.length ≤ n + b.length - 1 ∧ A.length ≤ A0.length ∧ gfun (A0.length + b.length) A0 b = gfun (A0.length + b.length) A b

theorem RO.start {b A0 : List Int} (h : Tr A0) (hp : prim A0 = A0) : RO b A0 A0 (A0.length + 1 - b.length) :=
  ⟨A0, 1, by omega, fun k => by rw [Int.one_mul], h, hp, by omega, Nat.le_refl _, rfl⟩

theorem RO.next {b A0 R : List Int} {n : Nat} (h : RO b A0 R (n + 1)) (hb : Tr b) (hb0 : b ≠ []) : RO b A0 (rest1 R b n) n := by
  obtain ⟨A, c, hc, hR, hA, hpA, hlen, hle, hg⟩ := h
  have hb1 := List.length_pos_iff.2 hb0
  have hlb : lead b ≠ 0 := hb hb0
  by_cases h0 : A.getD (n + b.length - 1) 0 = 0
  · refine ⟨A, c * lead b, Int.mul_ne_zero hc hlb, fun k => ?_, hA, hpA, ?_, hle, hg⟩
    · rw [rest1_getD, hR (n + b.length - 1), h0, Int.mul_zero]
      simp only [Int.mul_zero, ite_self, Int.sub_zero]
      rw [hR k, Int.mul_assoc, Int.mul_assoc, Int.mul_comm (lead b)]
    · refine hA.lenN fun k hk => ?_
      rcases (show k = n + b.length - 1 ∨ n + b.length ≤ k by omega) with rfl | h1
      · exact h0
      · exact getD_out (by omega)
  · have hAl : A.length = n + b.length := by
      rcases Nat.lt_or_ge (n + b.length - 1) A.length with h1 | h1
      · omega
      · exact absurd (getD_out h1) h0
    have hlA : A.getD (n + b.length - 1) 0 = lead A := by unfold lead; rw [hAl]
    have hR2 : ∀ k, (rest1 R b n).getD k 0 = c * (elim A b).getD k 0 := by
      intro k
      rw [rest1_getD, elim_getD, hR k, hR (n + b.length - 1), hlA, show A.length - b.length = n by omega]
      split
      · rw [Int.mul_sub, Int.mul_assoc]
        congr 1
        rw [Int.mul_left_comm, Int.mul_comm (b.getD (k - n) 0)]
      · rw [Int.sub_zero, Int.sub_zero, Int.mul_assoc]
    have hel := elim_len hb1 (show b.length ≤ A.length by omega)
    have hg2 : gfun (A0.length + b.length) A0 b = gfun (A0.length + b.length) (prim (elim A b)) b := by
      rw [hg]
      obtain ⟨f, hf⟩ : ∃ f, A0.length + b.length = f + 1 := ⟨A0.length + b.length - 1, by omega⟩
      rw [hf, gfun_ge f hb0 (by omega)]
      exact (gfun_more f (by rw [prim_len]; omega)).symm
    by_cases he : elim A b = []
    · refine ⟨[], 1, by omega, fun k => ?_, Tr.nil, rfl, by simp, by simp, ?_⟩
      · rw [hR2, he]; simp
      · rw [hg2, he]; rfl
    · refine ⟨prim (elim A b), c * scont (elim A b), Int.mul_ne_zero hc (scont_ne (elim_tr _ _) he), fun k => ?_, (elim_tr _ _).prim, prim_prim (elim_tr _ _), ?_, ?_, hg2⟩
      · rw [hR2, Int.mul_assoc, ← prim_mul]
      · rw [prim_len]; omega
      · rw [prim_len]; omega

theorem RO.ends {b A0 R : List Int} (h : RO b A0 R 0) (hb0 : b ≠ []) :
    (prim (tz R)).length < b.length ∧ Tr (prim (tz R)) ∧ prim (prim (tz R)) = prim (tz R) ∧ gfun (A0.length + b.length) A0 b = gfun (A0.length + b.length) b (prim (tz R)) := by
  obtain ⟨A, c, hc, hR, hA, hpA, hlen, hle, hg⟩ := h
  have hb1 := List.length_pos_iff.2 hb0
  have h1 : prim (tz R) = A := by
    rw [prim_of_mul hc hA (tr_tz R) fun k => by rw [tz_getD, hR], hpA]
  rw [h1]
  refine ⟨by omega, hA, hpA, ?_⟩
  rw [hg]
  exact gfun_swap _ (by omega) (by omega)

theorem Bd.rest1 {R b : List Int} {e f : Nat} (hR : Bd R e) (hb : Bd b f) (n : Nat) : Bd (rest1 R b n) (e + f + 1) := by
  intro k
  rw [rest1_getD]
  split
  · rw [Int.mul_comm (b.getD (k - n) 0)]
    exact lt_two_mul (hR k) (hb _) (hR _) hb.lead
  · have := lt_two_mul (y := 0) (hR k) (by have := hb 0; omega) (hR 0) hb.lead
    rwa [Int.mul_zero] at this

theorem gfun_eq {m n : Nat} {A B : List Int} (hm : A.length + B.length ≤ m) (hn : A.length + B.length ≤ n) : gfun m A B = gfun n A B := by
  have : ∀ d, gfun (A.length + B.length + d) A B = gfun (A.length + B.length) A B := by
    intro d
    induction d with
    | zero => rfl
    | succ d ih => rw [← Nat.add_assoc, gfun_more _ (by omega), ih]
  obtain ⟨d, rfl⟩ : ∃ d, m = A.length + B.length + d := ⟨m - (A.length + B.length), by omega⟩
  obtain ⟨d', rfl⟩ : ∃ d', n = A.length + B.length + d' := ⟨n - (A.length + B.length), by omega⟩
  rw [this, this]


def shT (s : Int) (f : Nat → Int) : Nat → Int := fun k => f k * s + (if k = 0 then 0 else f (k - 1))
def shP (s : Int) : Nat → Nat → Int
  | 0 => fun k => if k = 0 then 1 else 0
  | n + 1 => shT s (shP s n)
def shS (s : Int) (zs : List Int) : Nat → Nat → Int
  | 0 => fun _ => 0
  | n + 1 => fun k => shS s zs n k + shP s n k * zs.getD n 0

def shH (s : Int) (zs : List Int) (n : Nat) : Nat → Nat → Int
  | 0 => fun _ => 0
  | d + 1 => fun k => shT s (shH s zs (n + 1) d) k + (if k = 0 then zs.getD n 0 else 0)

theorem shT_add (s : Int) (f g : Nat → Int) (k : Nat) : shT s (fun j => f j + g j) k = shT s f k + shT s g k := by
  show (f k + g k) * s + (if k = 0 then 0 else f (k - 1) + g (k - 1)) = (f k * s + (if k = 0 then 0 else f (k - 1))) + (g k * s + (if k = 0 then 0 else g (k - 1)))
  split
  · rw [Int.add_mul]; omega
  · rw [Int.add_mul]; omega

theorem shT_mul (s : Int) (f : Nat → Int) (c : Int) (k : Nat) : shT s (fun j => f j * c) k = shT s f k * c := by
  unfold shT
  split
  · rw [Int.add_mul, Int.zero_mul, Int.mul_assoc, Int.mul_assoc, Int.mul_comm c]
  · rw [Int.add_mul, Int.mul_assoc, Int.mul_assoc, Int.mul_comm c]

def shG (s : Int) (zs : List Int) (n m : Nat) : Nat → Nat → Int
  | 0 => fun _ => 0
  | d + 1 => fun k => shP s m k * zs.getD n 0 + shG s zs (n + 1) (m + 1) d k

theorem shG_T (s : Int) (zs : List Int) : ∀ d n m k, shG s zs n (m + 1) d k = shT s (shG s zs n m d) k
  | 0, n, m, k => by unfold shG shT; simp
  | d + 1, n, m, k => by
    show shP s (m + 1) k * zs.getD n 0 + shG s zs (n + 1) (m + 1 + 1) d k = shT s (fun j => shP s m j * zs.getD n 0 + shG s zs (n + 1) (m + 1) d j) k
    rw [shT_add, shT_mul, shG_T s zs d]
    rfl

theorem shH_G (s : Int) (zs : List Int) : ∀ d n k, shH s zs n d k = shG s zs n 0 d k
  | 0, n, k => rfl
  | d + 1, n, k => by
    show shT s (shH s zs (n + 1) d) k + (if k = 0 then zs.getD n 0 else 0) = shP s 0 k * zs.getD n 0 + shG s zs (n + 1) (0 + 1) d k
    rw [shG_T, show shH s zs (n + 1) d = shG s zs (n + 1) 0 d from funext fun k => shH_G s zs d (n + 1) k]
    have : (if k = 0 then zs.getD n 0 else 0) = shP s 0 k * zs.getD n 0 := by
      show _ = (if k = 0 then 1 else 0) * zs.getD n 0
      split <;> simp
    rw [this]; omega

theorem shG_snoc (s : Int) (zs : List Int) : ∀ d n m k, shG s zs n m (d + 1) k = shG s zs n m d k + shP s (m + d) k * zs.getD (n + d) 0
  | 0, n, m, k => by show shP s m k * zs.getD n 0 + 0 = 0 + _; rw [Nat.add_zero, Nat.add_zero]; omega
  | d + 1, n, m, k => by
    show shP s m k * zs.getD n 0 + shG s zs (n + 1) (m + 1) (d + 1) k = shP s m k * zs.getD n 0 + shG s zs (n + 1) (m + 1) d k + _
    rw [shG_snoc s zs d (n + 1) (m + 1) k, show m + 1 + d = m + (d + 1) by omega, show n + 1 + d = n + (d + 1) by omega]
    omega

theorem shS_G (s : Int) (zs : List Int) : ∀ d k, shS s zs d k = shG s zs 0 0 d k
  | 0, k => rfl
  | d + 1, k => by
    rw [shG_snoc]
    show shS s zs d k + shP s d k * zs.getD d 0 = _
    rw [shS_G s zs d k, Nat.zero_add]

theorem shS_H (s : Int) (zs : List Int) (d k : Nat) : shS s zs d k = shH s zs 0 d k := by rw [shS_G, shH_G]

theorem shP_out (s : Int) : ∀ n k, n < k → shP s n k = 0
  | 0, k, h => by show (if k = 0 then (1 : Int) else 0) = 0; rw [if_neg (by omega)]
  | n + 1, k, h => by
    show shP s n k * s + (if k = 0 then 0 else shP s n (k - 1)) = 0
    rw [shP_out s n k (by omega), if_neg (by omega), shP_out s n (k - 1) (by omega)]; simp

theorem shS_out (s : Int) (zs : List Int) : ∀ n k, n ≤ k → shS s zs n k = 0
  | 0, _, _ => rfl
  | n + 1, k, h => by
    show shS s zs n k + shP s n k * zs.getD n 0 = 0
    rw [shS_out s zs n k (by omega), shP_out s n k (by omega)]; simp

theorem shH_out (s : Int) (zs : List Int) : ∀ d n k, d ≤ k → shH s zs n d k = 0
  | 0, n, k, _ => rfl
  | d + 1, n, k, h => by
    show shH s zs (n + 1) d k * s + (if k = 0 then 0 else shH s zs (n + 1) d (k - 1)) + (if k = 0 then zs.getD n 0 else 0) = 0
    rw [shH_out s zs d (n + 1) k (by omega), if_neg (by omega), if_neg (by omega), shH_out s zs d (n + 1) (k - 1) (by omega)]; simp

theorem shH_bd {s : Int} (hs : s.natAbs ≤ 99) {zs : List Int} {M : Nat} (hz : ∀ k, (zs.getD k 0).natAbs ≤ M) : ∀ d n k, (shH s zs n d k).natAbs ≤ 101 ^ d * M
  | 0, n, k => by simp [shH]
  | d + 1, n, k => by
    show (shH s zs (n + 1) d k * s + (if k = 0 then 0 else shH s zs (n + 1) d (k - 1)) + (if k = 0 then zs.getD n 0 else 0)).natAbs ≤ _
    have h1 := shH_bd hs hz d (n + 1) k
    have h1b : (shH s zs (n + 1) d k).natAbs * s.natAbs ≤ 101 ^ d * M * 99 := Nat.mul_le_mul h1 hs
    have h2 := hz n
    have h6 : M ≤ 101 ^ d * M := Nat.le_mul_of_pos_left _ (Nat.pow_pos (by omega))
    have h7 : 101 ^ (d + 1) * M = 101 ^ d * M * 101 := by rw [Nat.pow_succ, Nat.mul_right_comm]
    rw [← Int.natAbs_mul] at h1b
    rw [h7]
    split
    · omega
    · have h3 := shH_bd hs hz d (n + 1) (k - 1)
      omega

end Go.Proofs.YtldcjkhbiffdoabGreatDoor

namespace Go.Proofs.YtldcjkhbiffdoabGreatDoor

theorem ev_cut {B : Int} (a : List Int) (n : Nat) : ev B a = ev B (a.take n) + ev B (a.drop n) * B ^ n := by
  induction n generalizing a with
  | zero => simp [ev]
  | succ n ih =>
    cases a with
    | nil => simp [ev]
    | cons x a =>
      simp only [List.take_succ_cons, List.drop_succ_cons, ev]
      rw [ih a, Int.pow_succ, Int.mul_add]
      have : B * (ev B (a.drop n) * B ^ n) = ev B (a.drop n) * (B ^ n * B) := by
        rw [Int.mul_comm B, Int.mul_assoc]
      omega

theorem ev_two {B : Int} {a : List Int} {n : Nat} (h : a.length ≤ n + 2) : ev B (a.drop n) = a.getD n 0 + B * a.getD (n + 1) 0 := by
  have h1 : a.getD n 0 = (a.drop n).getD 0 0 := by simp [List.getD, List.getElem?_drop]
  have h2 : a.getD (n + 1) 0 = (a.drop n).getD 1 0 := by simp [List.getD, List.getElem?_drop]
  have h3 : (a.drop n).length ≤ 2 := by rw [List.length_drop]; omega
  rw [h1, h2]
  match a.drop n, h3 with
  | [], _ => simp [ev]
  | [x], _ => simp [ev]
  | [x, y], _ => simp [ev]
  | x :: y :: z :: t, h => simp at h

theorem guess_ge {B q : Int} {a b : List Int} (hB : 0 < B) (da : Dig B a) (db : Dig B b) {n : Nat} (hb : b.length = n + 1) (ha : a.length ≤ n + 2) (hd : 0 < b.getD n 0) (hq : 0 ≤ q) (hle : q * ev B b ≤ ev B a) :
    q ≤ (a.getD (n + 1) 0 * B + a.getD n 0) / b.getD n 0 := by
  have hp : 0 < B ^ n := pow_pos hB n
  have h1 := ev_cut (B := B) a n
  rw [ev_two ha] at h1
  have h2 := ev_cut (B := B) b n
  rw [ev_two (show b.length ≤ n + 2 by omega), show b.getD (n + 1) 0 = 0 by simp [List.getD, List.getElem?_eq_none (show b.length ≤ n + 1 by omega)], Int.mul_zero, Int.add_zero] at h2
  have h3 := ev_lt (by omega) (da.take n)
  have h4 := ev_nonneg (by omega) (db.take n)
  have h5 : B ^ (a.take n).length ≤ B ^ n := by
    obtain ⟨k, hk⟩ : ∃ k, n = (a.take n).length + k := ⟨n - (a.take n).length, by rw [List.length_take]; omega⟩
    rw [hk, Int.pow_add, ← hk]
    have h6 : 0 < B ^ k := pow_pos hB k
    have h7 : 0 < B ^ (a.take n).length := pow_pos hB _
    have := Int.mul_le_mul_of_nonneg_left (show 1 ≤ B ^ k by omega) (Int.le_of_lt h7)
    omega
  generalize hA : a.getD n 0 + B * a.getD (n + 1) 0 = X at h1
  have hX : a.getD (n + 1) 0 * B + a.getD n 0 = X := by rw [← hA, Int.mul_comm]; omega
  rw [hX]
  generalize b.getD n 0 = d at *
  rw [Int.le_ediv_iff_mul_le hd]
  rcases Int.lt_or_le X (q * d) with h8 | h8
  · exfalso
    have e1 : (X + 1) * B ^ n ≤ q * d * B ^ n := Int.mul_le_mul_of_nonneg_right (by omega) (Int.le_of_lt hp)
    have e2 : q * ev B b = q * ev B (b.take n) + q * d * B ^ n := by rw [h2, Int.mul_add, Int.mul_assoc]
    have e3 : 0 ≤ q * ev B (b.take n) := Int.mul_nonneg hq h4
    rw [Int.add_mul, Int.one_mul] at e1
    omega
  · exact h8

theorem less_step {B q bo x y t bo' : Int} {a b s : List Int} {k : Nat} (hs : s.length = k) (h : ev B s - bo * B ^ k = ev B (a.take k) - q * ev B (b.take k)) (hx : a.getD k 0 = x) (hy : b.getD k 0 = y) (ht : t - bo' * B = x - q * y - bo) :
    ev B (s ++ [t]) - bo' * B ^ (k + 1) = ev B (a.take (k + 1)) - q * ev B (b.take (k + 1)) := by
  rw [ev_take, ev_take, hx, hy, Int.mul_add, ← Int.mul_assoc]
  exact sub_round s k hs bo x (q * y) _ _ t bo' h ht

theorem less_all {B q bo : Int} {a b s : List Int} (ha : a.length ≤ b.length + 1) (h : ev B s - bo * B ^ b.length = ev B (a.take b.length) - q * ev B (b.take b.length)) :
    ev B a - q * ev B b = ev B s + (a.getD b.length 0 - bo) * B ^ b.length := by
  rw [List.take_length] at h
  have h1 := ev_take B a b.length
  rw [List.take_of_length_le ha] at h1
  rw [Int.sub_mul, h1]
  omega

theorem less_enough {B q bo : Int} (hB : 0 < B) {a b s : List Int} (hs : s.length = b.length) (ds : Dig B s) (h : ev B a - q * ev B b = ev B s + (a.getD b.length 0 - bo) * B ^ b.length) :
    (bo ≤ a.getD b.length 0 ↔ q * ev B b ≤ ev B a) ∧ (q * ev B b ≤ ev B a → ev B a < q * ev B b + ev B b → Dig B b → ev B s = ev B a - q * ev B b) := by
  have h1 := ev_nonneg hB ds
  have h2 := ev_lt hB ds
  rw [hs] at h2
  have hp : 0 < B ^ b.length := pow_pos hB _
  have key : (bo ≤ a.getD b.length 0 ↔ q * ev B b ≤ ev B a) := by
    constructor
    · intro h3
      have := Int.mul_nonneg (show 0 ≤ a.getD b.length 0 - bo by omega) (Int.le_of_lt hp)
      omega
    · intro h3
      rcases Int.lt_or_le (a.getD b.length 0) bo with h4 | h4
      · have := Int.mul_le_mul_of_nonneg_right (show a.getD b.length 0 - bo ≤ -1 by omega) (Int.le_of_lt hp)
        omega
      · exact h4
  refine ⟨key, fun h3 h4 db => ?_⟩
  have h5 := key.2 h3
  have h6 := ev_lt hB db
  have h7 : a.getD b.length 0 - bo = 0 := by
    rcases Int.lt_or_le 0 (a.getD b.length 0 - bo) with h8 | h8
    · have := Int.mul_le_mul_of_nonneg_right (show 1 ≤ a.getD b.length 0 - bo by omega) (Int.le_of_lt hp)
      omega
    · omega
  rw [h7, Int.zero_mul] at h
  omega

end Go.Proofs.YtldcjkhbiffdoabGreatDoor

namespace Go.Proofs.YtldcjkhbiffdoabGreatDoor
open Go.RowKit

def RowO (w : World) (v : Value) (l : List Int) : Prop :=
  ∃ a c, v = .slice a l.length c ∧ ∀ i, i < l.length → ∃ g o, a = some ⟨g, o, none⟩ ∧ l.length ≤ c ∧ c ≤ maxLen ∧ g < w.heap.size ∧ w.cell? ⟨g, o + i, none⟩ = some (.int .i64 (l.getD i 0))

theorem Row.rowO {w : World} {v : Value} {l : List Int} (h : Row w v l) : RowO w v l := by
  obtain ⟨a, c, rfl⟩ := h.val
  refine ⟨a, c, rfl, fun i hi => ?_⟩
  obtain ⟨g, rfl, h1, h2, h3, h4⟩ := h.at i hi
  exact ⟨g, 0, rfl, h1, h2, h3, by rw [Nat.zero_add]; exact h4⟩

theorem RowO.below {w w' : World} {v : Value} {l : List Int} (h : RowO w v l) (hb : Below w.heap.size w w') : RowO w' v l := by
  obtain ⟨a, c, rfl, h⟩ := h
  refine ⟨a, c, rfl, fun i hi => ?_⟩
  obtain ⟨g, o, e, h1, h2, h3, h4⟩ := h i hi
  exact ⟨g, o, e, h1, h2, Nat.lt_of_lt_of_le h3 hb.size, (hb.cell (p := ⟨g, o + i, none⟩) h3).trans h4⟩

theorem low_next {P l : List Int} {x : Int} {k : Nat} (h : P.take (k + 1) = x :: l.take k) (hk : k < l.length) (hP : k + 1 < P.length) : (P.set (k + 1) (l.getD k 0)).take (k + 1 + 1) = x :: l.take (k + 1) := by
  rw [take_set hP, h, List.take_succ_eq_append_getElem hk, ← getD_lt hk]
  simp

set_option maxHeartbeats 1000000 in
theorem withLowest_any (l : List Int) (x : Int) (u : Value) (w : World) (hu : RowO w u l) (hl : l.length ≤ 1000000000) :
    Calls Tryz.prog 124 #[u, .int .i64 x] w fun e w' => ∃ v, e = .returned v ∧ Own w.heap.size w' v (x :: l) ∧ Below w.heap.size w w' := by
  obtain ⟨ua, uc, rfl, hcells⟩ := hu
  obtain ⟨n, HN⟩ : ∃ n, Hid (n = l.length + 1) := ⟨_, rfl⟩
  have hn1 : l.length < n := by have := HN.out; omega
  have hn2 : n ≤ l.length + 1 := by have := HN.out; omega
  have HCE : Hid _ := hcells
  clear hcells
  go_enter Tryz.func124, Tryz.ntmps124
  go_wp2_with (at_make; refine wpList_make64 rfl (.tmp 9) (.tmp 9) rfl _ _ n rfl rfl (by omega) (by omega) (by omega) ?_)
  intro w1 P0 HP0 hown1 hb1
  have hP0l : P0.length = n := by rw [HP0.out]; simp
  have f0 := hown1.frozenAt 0
  have hc0 : w1.cell? ⟨w.heap.size, 0, none⟩ = some (.int .i64 (P0.getD 0 0)) := by
    rw [hown1.cellAt 0 (by omega)]
    simp [List.getD, show 0 < P0.length by omega]
  generalize P0.getD 0 0 = y0 at hc0
  have hn0 : (0 : Int) < (n : Int) := by omega
  go_wp2_with fail
  have hown2 : (w1.setCell ⟨w.heap.size, 0, none⟩ (.int .i64 x)).ownsRow w.heap.size 2 1 (.slice (some ⟨w.heap.size, 0, none⟩) n n) n ((P0.set 0 x).map (Value.int .i64)) := by
    rw [← map_set]
    exact (World.ownsRow.stored (w := w1) hown1 _ _).1
  go_loopw [6] (fun i wr => ∃ (k : Nat) (P : List Int), k ≤ l.length ∧ i = .int .i64 k ∧ P.length = n ∧ wr.ownsRow w.heap.size 2 1 (.slice (some ⟨w.heap.size, 0, none⟩) n n) n (P.map (Value.int .i64)) ∧ Hid (P.take (k + 1) = x :: l.take k) ∧ Below w.heap.size w wr) (fun i _ => l.length - (intOf i).toNat)
  case atStart => exact ⟨0, P0.set 0 x, Nat.zero_le _, rfl, by simpa using hP0l, hown2, by show _ = _; rw [take_set (by omega)]; simp, hb1.setCell (Nat.le_refl _) _⟩
  case round =>
    clear hown1 hown2 hb1 HP0 f0 hc0
    obtain ⟨k, P, hk, rfl, hP, hown, HE, hbel⟩ := hrel
    by_cases hlt : k < l.length
    · obtain ⟨g, o, rfl, hc1, hc2, hg, hcell⟩ := HCE.out k hlt
      have HE2 : Hid _ := low_next HE.out hlt (by omega)
      have hcell2 : wr.cell? ⟨g, o + k, none⟩ = some (.int .i64 (l.getD k 0)) := (hbel.cell (p := ⟨g, o + k, none⟩) hg).trans hcell
      have hfp := hown.frozenAt (k + 1)
      have hcp : wr.cell? ⟨w.heap.size, k + 1, none⟩ = some (.int .i64 (P.getD (k + 1) 0)) := by
        rw [hown.cellAt (k + 1) (by omega)]
        simp [List.getD, show k + 1 < P.length by omega]
      generalize P.getD (k + 1) 0 = p at hcp
      have hst := (World.ownsRow.stored (w := wr) hown (k + 1) (.int .i64 (l.getD k 0))).1
      rw [map_set] at hst
      have HST : Hid _ := hst
      clear hst HE hcell
      generalize l.getD k 0 = y at *
      go_wp2
      go_roundw
      case rel => exact ⟨k + 1, P.set (k + 1) y, by omega, by go_num, by simpa using hP, HST.out, HE2, hbel.setCell (Nat.le_refl _) _⟩
      case measure => simp [intOf]; omega
    · obtain rfl : k = l.length := by omega
      have hfin : P = x :: l := by
        have := HE.out
        rw [List.take_length, List.take_of_length_le (by omega)] at this
        exact this
      have hown' := made_own hown hP
      rw [hfin] at hown'
      clear HE hfin
      go_wp2
      go_ret
      exact ⟨_, rfl, hown', hbel⟩

def gs (a b : List Int) : Int :=
  if b.getD (b.length - 1) 0 ≤ 0 then 0
  else if 1000000000 ≤ (a.getD (b.length - 1 + 1) 0 * 1000000000 + a.getD (b.length - 1) 0) / b.getD (b.length - 1) 0 then 999999999
  else (a.getD (b.length - 1 + 1) 0 * 1000000000 + a.getD (b.length - 1) 0) / b.getD (b.length - 1) 0

set_option maxHeartbeats 1000000 in
theorem guess_any (a b : List Int) (u v : Value) (w : World) (hu : Row w u a) (hv : Row w v b) (ha : a.length ≤ 1000000000) (hb : b.length ≤ 1000000000) (hb0 : 0 < b.length) (da : Dig 1000000000 a) (db : Dig 1000000000 b) :
    Calls Tryz.prog 125 #[u, v] w fun e w' => e = .returned (.int .i64 (gs a b)) ∧ w' = w := by
  obtain ⟨ua, uc, rfl⟩ := hu.val
  obtain ⟨va, vc, rfl⟩ := hv.val
  obtain ⟨n, HN⟩ : ∃ n, Hid (b.length - 1 = n) := ⟨_, rfl⟩
  have hn1 : (b.length : Int) - 1 = n := by have := HN.out; omega
  have hn2 : n ≤ 1000000000 := by have := HN.out; omega
  unfold gs
  rw [HN.out]
  have h1 := limbAt_any b (.slice va b.length vc) n w hv (by omega) (by omega)
  have h2 := limbAt_any a (.slice ua a.length uc) (n + 1) w hu (by omega) (by omega)
  have h3 := limbAt_any a (.slice ua a.length uc) n w hu (by omega) (by omega)
  have d1 := Dig.getD (by omega) db n
  have d2 := Dig.getD (by omega) da (n + 1)
  have d3 := Dig.getD (by omega) da n
  rw [show (((n + 1 : Nat) : Int)) = (n : Int) + 1 by omega] at h2
  generalize b.getD n 0 = d at *
  generalize a.getD (n + 1) 0 = hi at *
  generalize a.getD n 0 = lo at *
  obtain ⟨d1a, d1b⟩ := d1
  obtain ⟨d2a, d2b⟩ := d2
  obtain ⟨d3a, d3b⟩ := d3
  by_cases hd : d ≤ 0
  · rw [if_pos hd]
    go_enter Tryz.func125, Tryz.ntmps125
    go_wp2_with fail
    refine h1.mono ?_
    rintro e w' ⟨rfl, rfl⟩
    go_wp2
    go_ret
    exact ⟨rfl, rfl⟩
  · rw [if_neg hd]
    have hq0 : 0 ≤ (hi * 1000000000 + lo) / d := Int.ediv_nonneg (by omega) (by omega)
    have hq1 : (hi * 1000000000 + lo) / d ≤ hi * 1000000000 + lo := Int.ediv_le_self _ (by omega)
    have hdd : 1 ≤ d := by omega
    obtain ⟨q, HQ⟩ : ∃ q, Hid ((hi * 1000000000 + lo) / d = q) := ⟨_, rfl⟩
    rw [HQ.out] at hq0 hq1 ⊢
    have hne : ¬ d = 0 := by omega
    have hqq : IntKind.i64.wrap ((hi * 1000000000 + lo).tdiv d) = q := by
      rw [Int.tdiv_eq_ediv_of_nonneg (by omega), HQ.out, IntKind.wrap_i64]
      omega
    by_cases hbig : 1000000000 ≤ q
    · rw [if_pos hbig]
      go_enter Tryz.func125, Tryz.ntmps125
      go_wp2_with fail
      refine h1.mono ?_
      rintro e w' ⟨rfl, rfl⟩
      go_wp2_with fail
      refine h2.mono ?_
      rintro e w' ⟨rfl, rfl⟩
      go_wp2_with fail
      refine h3.mono ?_
      rintro e w' ⟨rfl, rfl⟩
      go_wp2
      go_ret
      exact ⟨rfl, rfl⟩
    · rw [if_neg hbig]
      go_enter Tryz.func125, Tryz.ntmps125
      go_wp2_with fail
      refine h1.mono ?_
      rintro e w' ⟨rfl, rfl⟩
      go_wp2_with fail
      refine h2.mono ?_
      rintro e w' ⟨rfl, rfl⟩
      go_wp2_with fail
      refine h3.mono ?_
      rintro e w' ⟨rfl, rfl⟩
      go_wp2
      go_ret
      exact ⟨rfl, rfl⟩

end Go.Proofs.YtldcjkhbiffdoabGreatDoor

namespace Go.Proofs.YtldcjkhbiffdoabGreatDoor
open Go.RowKit

theorem less_set {q bo x y t bo' : Int} {a b P : List Int} {k : Nat} (hk : k < P.length) (h : Dig 1000000000 P ∧ ev 1000000000 (P.take k) - bo * 1000000000 ^ k = ev 1000000000 (a.take k) - q * ev 1000000000 (b.take k)) (hx : a.getD k 0 = x) (hy : b.getD k 0 = y) (ht : t - bo' * 1000000000 = x - q * y - bo) (h0 : 0 ≤ t) (h1 : t < 1000000000) :
    Dig 1000000000 (P.set k t) ∧ ev 1000000000 ((P.set k t).take (k + 1)) - bo' * 1000000000 ^ (k + 1) = ev 1000000000 (a.take (k + 1)) - q * ev 1000000000 (b.take (k + 1)) := by
  refine ⟨h.1.set k h0 h1, ?_⟩
  rw [take_set hk]
  exact less_step (by rw [List.length_take]; omega) h.2 hx hy ht

def Less (a b : List Int) (q : Int) (s : List Int) (en : Bool) : Prop :=
  s.length = b.length ∧ Dig 1000000000 s ∧ ∃ bo, ev 1000000000 a - q * ev 1000000000 b = ev 1000000000 s + (a.getD b.length 0 - bo) * 1000000000 ^ b.length ∧ en = decide (bo ≤ a.getD b.length 0)

theorem mul_lt_sq {y q : Int} (hy0 : 0 ≤ y) (hy1 : y < 1000000000) (hq0 : 0 ≤ q) (hq1 : q < 1000000000) : 0 ≤ y * q ∧ y * q ≤ 999999999 * q ∧ y * q ≤ 999999998000000001 := by
  have h1 := Int.mul_nonneg hy0 hq0
  have h2 := Int.mul_le_mul_of_nonneg_right (show y ≤ 999999999 by omega) hq0
  omega

set_option maxRecDepth 100000 in
set_option maxHeartbeats 2000000 in
theorem lessTimes_any (a b : List Int) (q : Int) (u v : Value) (w : World) (hu : Row w u a) (hv : Row w v b) (ha : a.length ≤ b.length + 1) (hb : b.length ≤ 1000000000) (da : Dig 1000000000 a) (db : Dig 1000000000 b) (hq0 : 0 ≤ q) (hq1 : q < 1000000000) :
    Calls Tryz.prog 126 #[u, v, .int .i64 q] w fun e w' => ∃ x s en, e = .returned (.tuple #[x, .bool en]) ∧ Own w.heap.size w' x s ∧ Less a b q s en ∧ Below w.heap.size w w' := by
  obtain ⟨ua, uc, rfl⟩ := hu.val
  obtain ⟨va, vc, rfl⟩ := hv.val
  go_enter Tryz.func126, Tryz.ntmps126
  go_wp2_with (at_make; refine wpList_make64 rfl (.tmp 14) (.tmp 14) rfl _ _ b.length rfl rfl rfl rfl (by omega) ?_)
  intro w1 P0 HP0 hown1 hb1
  go_wp2_with fail
  go_loopw [9, 10] (fun c i wr => ∃ (k : Nat) (P : List Int) (bo : Int), k ≤ b.length ∧ i = .int .i64 k ∧ c = .int .i64 bo ∧ 0 ≤ bo ∧ bo ≤ q + 1 ∧ P.length = b.length ∧ wr.ownsRow w.heap.size 2 1 (.slice (some ⟨w.heap.size, 0, none⟩) b.length b.length) b.length (P.map (Value.int .i64)) ∧ Hid (Dig 1000000000 P ∧ ev 1000000000 (P.take k) - bo * 1000000000 ^ k = ev 1000000000 (a.take k) - q * ev 1000000000 (b.take k)) ∧ Below w.heap.size w wr)
    (fun _ i _ => b.length - (intOf i).toNat)
  case atStart => exact ⟨0, P0, 0, Nat.zero_le _, rfl, rfl, by omega, by omega, by rw [HP0.out]; simp, hown1, ⟨by rw [HP0.out]; exact Dig.zeros (by omega) _, by simp [ev]⟩, hb1⟩
  case round =>
    clear hown1 hb1 HP0
    obtain ⟨k, P, bo, hk, rfl, rfl, hc0, hc1, hP, hown, HE, hbel⟩ := hrel
    by_cases hlt : k < b.length
    · have hx := Dig.getD (by omega) da k
      have hy := Dig.getD (by omega) db k
      have hru := hu.below hbel
      obtain ⟨gb, rfl, hv1, hv2, hv3, hcv⟩ := hv.at k hlt
      have hcv' : wr.cell? ⟨gb, k, none⟩ = _ := (hbel.cell (p := ⟨gb, k, none⟩) hv3).trans hcv
      have hcx := limbAt_any a (.slice ua a.length uc) k wr hru (by omega) (by omega)
      obtain ⟨x, HX⟩ : ∃ x, Hid (a.getD k 0 = x) := ⟨_, rfl⟩
      obtain ⟨y, HY⟩ : ∃ y, Hid (b.getD k 0 = y) := ⟨_, rfl⟩
      rw [HX.out] at hx hcx
      rw [HY.out] at hy hcv'
      obtain ⟨hx0, hx1⟩ := hx
      obtain ⟨hy0, hy1⟩ := hy
      obtain ⟨hm0, hm1, hm2⟩ := mul_lt_sq hy0 hy1 hq0 hq1
      have hqy : q * y = y * q := Int.mul_comm _ _
      have hfp := hown.frozenAt k
      have hcp : wr.cell? ⟨w.heap.size, k, none⟩ = some (.int .i64 (P.getD k 0)) := by
        rw [hown.cellAt k (by omega)]
        simp [List.getD, show k < P.length by omega]
      generalize P.getD k 0 = p at hcp
      have hbq : (y * q + bo) / 1000000000 ≤ q := by omega
      have hbq0 : 0 ≤ (y * q + bo) / 1000000000 := by omega
      by_cases hneg : x - (y * q + bo) % 1000000000 < 0
      · have hs := less_set (t := x - (y * q + bo) % 1000000000 + 1000000000) (bo' := (y * q + bo) / 1000000000 + 1) (by omega) HE.out HX.out HY.out (by rw [hqy]; omega) (by omega) (by omega)
        have HS : Hid _ := hs
        have hst := (World.ownsRow.stored (w := wr) hown k (.int .i64 (x - (y * q + bo) % 1000000000 + 1000000000))).1
        rw [map_set] at hst
        have HST : Hid _ := hst
        clear hs hst HE HX HY hru hcv hqy
        go_wp2_with fail
        refine hcx.mono ?_
        rintro e w' ⟨rfl, rfl⟩
        clear hcx
        go_wp2
        go_roundw
        case rel => exact ⟨k + 1, _, _, by omega, by go_num, rfl, by omega, by omega, by simpa using hP, HST.out, HS, hbel.setCell (Nat.le_refl _) _⟩
        case measure => simp [intOf]; omega
      · have hs := less_set (t := x - (y * q + bo) % 1000000000) (bo' := (y * q + bo) / 1000000000) (by omega) HE.out HX.out HY.out (by rw [hqy]; omega) (by omega) (by omega)
        have HS : Hid _ := hs
        have hst := (World.ownsRow.stored (w := wr) hown k (.int .i64 (x - (y * q + bo) % 1000000000))).1
        rw [map_set] at hst
        have HST : Hid _ := hst
        clear hs hst HE HX HY hru hcv hqy
        go_wp2_with fail
        refine hcx.mono ?_
        rintro e w' ⟨rfl, rfl⟩
        clear hcx
        go_wp2
        go_roundw
        case rel => exact ⟨k + 1, _, _, by omega, by go_num, rfl, by omega, by omega, by simpa using hP, HST.out, HS, hbel.setCell (Nat.le_refl _) _⟩
        case measure => simp [intOf]; omega
    · obtain rfl : k = b.length := by omega
      have hall := less_all ha HE.out.2
      rw [List.take_of_length_le (by omega)] at hall
      have hru := hu.below hbel
      have hcx := limbAt_any a (.slice ua a.length uc) b.length wr hru (by omega) (by omega)
      have hxd := Dig.getD (by omega) da b.length
      have hdP := HE.out.1
      have HAL : Hid _ := hall
      clear hall HE
      obtain ⟨x, HX⟩ : ∃ x, Hid (a.getD b.length 0 = x) := ⟨_, rfl⟩
      rw [HX.out] at hcx HAL hxd
      go_wp2_with fail
      refine hcx.mono ?_
      rintro e w' ⟨rfl, rfl⟩
      go_wp2
      go_ret2
      exact ⟨_, P, _, rfl, made_own hown hP, ⟨hP, hdP, bo, by rw [HX.out]; exact HAL.out, by rw [HX.out]⟩, hbel⟩

end Go.Proofs.YtldcjkhbiffdoabGreatDoor
