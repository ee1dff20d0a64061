import Derived.Test.YtkomofjdbcjdnabGreatDoorM10
import Derived.Test.YtkomofjdbcjdnabGreatDoorM08
import Derived.OwnWalk
import Derived.Test.YtkomofjdbcjdnabGreatDoorM07

/-
  factornum.plus.
-/
namespace Go.Proofs.YtkomofjdbcjdnabGreatDoor
open Go.RowKit

theorem add_stepN {l m sl : List Int} {k : Nat} {cy x y : Int} (hsl : sl.length = k) (h : Dig 10 sl ∧ ev 10 sl + cy * 10 ^ k = ev 10 (l.take k) + ev 10 (m.take k)) (hx : l.getD k 0 = x) (hy : m.getD k 0 = y)
    : Dig 10 (sl ++ [(x + y + cy) % 10]) ∧ ev 10 (sl ++ [(x + y + cy) % 10]) + (x + y + cy) / 10 * 10 ^ (k + 1) = ev 10 (l.take (k + 1)) + ev 10 (m.take (k + 1)) := by
  refine ⟨h.1.snoc (by omega) (by omega), ?_⟩
  rw [ev_take, ev_take, hx, hy]
  exact add_round sl k hsl cy x y _ _ h.2

theorem add_lastN {l m sl : List Int} {k : Nat} {cy : Int} (h : Dig 10 sl ∧ ev 10 sl + cy * 10 ^ k = ev 10 (l.take k) + ev 10 (m.take k)) (hl : l.length ≤ k) (hm : m.length ≤ k)
    (h0 : cy = 0) : Dig 10 sl ∧ ev 10 sl = ev 10 l + ev 10 m := by
  refine ⟨h.1, ?_⟩
  have := h.2
  rw [List.take_of_length_le hl, List.take_of_length_le hm, h0] at this
  simpa using this


/-- Behind the last digits no carry is left. -/
theorem carry_end {l m : List Int} {k : Nat} (hl : l.length ≤ k) (hm : m.length ≤ k) : l.getD k 0 = 0 ∧ m.getD k 0 = 0 := by
  simp [List.getD, List.getElem?_eq_none hl, List.getElem?_eq_none hm]

end Go.Proofs.YtkomofjdbcjdnabGreatDoor

/-
  factornum.less, size.
-/
namespace Go.Proofs.YtkomofjdbcjdnabGreatDoor
open Go.RowKit

theorem sub_stepN {l m sl : List Int} {k : Nat} {cy x y t c' : Int} (hsl : sl.length = k) (h : Dig 10 sl ∧ ev 10 sl - cy * 10 ^ k = ev 10 (l.take k) - ev 10 (m.take k)) (hx : l.getD k 0 = x) (hy : m.getD k 0 = y)
    (ht : t - c' * 10 = x - y - cy) (h0 : 0 ≤ t) (h1 : t < 10) : Dig 10 (sl ++ [t]) ∧ ev 10 (sl ++ [t]) - c' * 10 ^ (k + 1) = ev 10 (l.take (k + 1)) - ev 10 (m.take (k + 1)) := by
  refine ⟨h.1.snoc h0 h1, ?_⟩
  rw [ev_take, ev_take, hx, hy]
  exact sub_round sl k hsl cy x y _ _ t c' h.2 ht

theorem sub_lastN {l m sl : List Int} {k : Nat} {cy : Int} (hsl : sl.length = k) (h : Dig 10 sl ∧ ev 10 sl - cy * 10 ^ k = ev 10 (l.take k) - ev 10 (m.take k)) (hl : l.length ≤ k) (hm : m.length ≤ k)
    (hc : cy = 0 ∨ cy = 1) (hle : ev 10 m ≤ ev 10 l) : Dig 10 sl ∧ ev 10 sl = ev 10 l - ev 10 m := by
  refine ⟨h.1, ?_⟩
  have h2 := h.2
  rw [List.take_of_length_le hl, List.take_of_length_le hm, ← hsl] at h2
  exact sub_end (by omega) sl h.1 cy hc _ _ h2 hle


theorem drewN_add2 (w : World) (n m : Nat) : (w.drewN n).drewN m = w.drewN (n + m) := by simp
theorem drewN_add3 (w : World) (n m k : Nat) : ((w.drewN n).drewN m).drewN k = w.drewN (n + m + k) := by simp

end Go.Proofs.YtkomofjdbcjdnabGreatDoor

/-
  factornum.Add.
-/
namespace Go.Proofs.YtkomofjdbcjdnabGreatDoor
open Go.RowKit

/-- Not too great: at most so many digits. -/
def FitN (z : Int) : Prop := ∃ n, n ≤ 10000000000 ∧ z.natAbs < 10 ^ n
theorem LimN.fit {b : Bool} {l : List Int} {z : Int} (h : LimN b l z) (hf : FitN z) : l.length ≤ 10000000000 := by
  obtain ⟨n, hn, hz⟩ := hf
  exact Nat.le_trans (h.len hz) hn

end Go.Proofs.YtkomofjdbcjdnabGreatDoor

/-
  factornum: Minus, Abs, Zero.
-/
namespace Go.Proofs.YtkomofjdbcjdnabGreatDoor
open Go.RowKit

end Go.Proofs.YtkomofjdbcjdnabGreatDoor

/-
  factornum.Mul.
-/
namespace Go.Proofs.YtkomofjdbcjdnabGreatDoor
open Go.RowKit

/-- 'make([]int, n)'. -/
theorem wpList_makeN {ops : Array Oper} {rest : List Oper} {o : Oper} {a : Act} {Q : Exit → Act → World → Prop} {w : World} (hg : o.guard = none) (l c : Operand) (hop : o.op = Op.makeSlice 42 l c)
    (L C : Int) (n : Nat) (hl : a.eval l = .int .i64 L) (hc : a.eval c = .int .i64 C) (hL : L = (n : Int)) (hC : C = (n : Int)) (hn : n ≤ 1000000000000)
    (hK : ∀ w', w'.ownsRow w.heap.size 3 1 (.slice (some ⟨w.heap.size, 0, none⟩) n n) n ((List.replicate n 0).map (Value.int .i64)) → Below w.heap.size w w' → wpList Tryz.prog ops Q rest (a.put o.dst (.slice (some ⟨w.heap.size, 0, none⟩) n n)) w') :
    wpList Tryz.prog ops Q (o :: rest) a w := by
  obtain ⟨i, hi, hz0, hz1, hz2⟩ := info_parts Tryz.infoIntN
  refine wpList_make_full w hg l c 42 hop w.heap.size 3 i (.int .i64 0) 1 Tryz.sliceIntN hi hz0 hz1 .i64 .i64 L C n hl hc hL hC (by rw [hz2]; omega) (by unfold maxLen; omega) (Nat.le_refl _) ?_
  intro w' h1 h2
  rw [made_zeros] at h1
  exact hK w' h1 ((Below.refl _ _).grown h2 (Nat.le_refl _) (fun k hk => by cases hk))

def MInN (l m P : List Int) (i j : Nat) (c : Int) : Prop :=
  Dig 10 P ∧ ev 10 P + c * 10 ^ (i + j) = ev 10 (l.take i) * ev 10 m + l.getD i 0 * ev 10 (m.take j) * 10 ^ i ∧ ∀ k, i + m.length ≤ k → i + j ≤ k → P.getD k 0 = 0
def MOutN (l m P : List Int) (i : Nat) : Prop := Dig 10 P ∧ ev 10 P = ev 10 (l.take i) * ev 10 m ∧ ∀ k, i + m.length ≤ k → P.getD k 0 = 0

theorem MInN.step {l m P : List Int} {i j : Nat} {c p x y t : Int} (h : MInN l m P i j c) (hk : i + j < P.length) (hp : P.getD (i + j) 0 = p) (hx : l.getD i 0 = x) (hy : m.getD j 0 = y)
    (ht : t = p + x * y + c) (_h0 : 0 ≤ t) (_h9 : t < 100) : MInN l m (P.set (i + j) (t % 10)) i (j + 1) (t / 10) := by
  obtain ⟨h1, h2, h3⟩ := h
  refine ⟨h1.set _ (by omega) (by omega), ?_, fun k hk' hk2 => ?_⟩
  · rw [ev_take, hy, hx]
    rw [hx] at h2
    exact mul_round P i j hk x y c t _ _ h2 (by rw [hp]; exact ht)
  · rw [getD_set_ne _ (by omega)]; exact h3 k hk' (by omega)

theorem MOutN.into {l m P : List Int} {i : Nat} (h : MOutN l m P i) : MInN l m P i 0 0 := by
  refine ⟨h.1, ?_, fun k hk _ => h.2.2 k hk⟩
  rw [h.2.1]; simp [ev]

theorem MInN.out {l m P : List Int} {i j : Nat} (h : MInN l m P i j 0) (hj : m.length ≤ j) (hj2 : j ≤ m.length + 1) : MOutN l m P (i + 1) := by
  obtain ⟨h1, h2, h3⟩ := h
  refine ⟨h1, ?_, fun k hk' => h3 k (by omega) (by omega)⟩
  rw [List.take_of_length_le hj] at h2
  rw [ev_take, Int.add_mul]
  simp only [Int.zero_mul, Int.add_zero] at h2
  rw [h2]
  congr 1
  rw [Int.mul_assoc, Int.mul_comm (ev 10 m), ← Int.mul_assoc]

theorem mul_bd {p x y c : Int} (hp : 0 ≤ p ∧ p < 10) (hx : 0 ≤ x ∧ x < 10) (hy : 0 ≤ y ∧ y < 10) (hc : 0 ≤ c ∧ c < 10) : 0 ≤ c + p + x * y ∧ c + p + x * y < 100 ∧ 0 ≤ x * y ∧ x * y < 82 := by
  have h1 : x * y ≤ 9 * 9 := Int.mul_le_mul (by omega) (by omega) hy.1 (by omega)
  have h3 := Int.mul_nonneg hx.1 hy.1
  omega

theorem own_addrN {w : World} {B n sc : Nat} {sa : Option Addr} {xs : List Value} (h : w.ownsRow B 3 1 (.slice sa n sc) n xs) (hn : 0 < n) : ∃ g, sa = some ⟨g, 0, none⟩ ∧ n ≤ sc ∧ sc ≤ maxLen ∧ B ≤ g := by
  rcases h.2 with ⟨_, h1⟩ | ⟨g, cap, cur, hv, hb, hg, hnc, hcm, _⟩
  · omega
  · simp only [Value.slice.injEq, true_and] at hv
    obtain ⟨rfl, rfl⟩ := hv
    exact ⟨g, rfl, hnc, hcm, hb⟩

end Go.Proofs.YtkomofjdbcjdnabGreatDoor

/-
  factornum.Sub, Cmp.
-/
namespace Go.Proofs.YtkomofjdbcjdnabGreatDoor
open Go.RowKit

theorem FitN.neg {z : Int} (h : FitN z) : FitN (-z) := by
  obtain ⟨n, h1, h2⟩ := h
  exact ⟨n, h1, by rw [Int.natAbs_neg]; exact h2⟩

/-- A number, opened. -/
theorem IsN.open {w : World} {v : Value} {z : Int} (h : IsN w v z) : ∃ b a n c l, v = .agg #[.bool b, .slice a n c] ∧ RowN w (.slice a n c) l ∧ LimN b l z := by
  obtain ⟨b, x, l, rfl, hr, hl⟩ := h
  obtain ⟨a, c, rfl⟩ := hr.val
  exact ⟨b, a, _, c, l, rfl, hr, hl⟩

theorem cmp3_sub (a b : Int) : (a - b = 0 → cmp3 a b = 0) ∧ (a - b < 0 → cmp3 a b = -1) ∧ (0 < a - b → cmp3 a b = 1) := by
  refine ⟨fun h => ?_, fun h => cmp3_lt (by omega), fun h => cmp3_gt (by omega)⟩
  rw [show a = b by omega]
  exact cmp3_eq b

theorem LimN.sign {b : Bool} {l : List Int} {z : Int} (h : LimN b l z) (hz : z ≠ 0) : b = decide (z < 0) := by
  have h0 := h.nonneg
  have hv := h.val
  cases b
  · rw [decide_eq_false]; simp [sv] at hv; omega
  · rw [decide_eq_true]; simp [sv] at hv; omega

end Go.Proofs.YtkomofjdbcjdnabGreatDoor

/-
  The factors are the polynomial's own: how often each stands is told by what divides.
-/
set_option linter.unusedSimpArgs false
namespace Go.Proofs.YtkomofjdbcjdnabGreatDoor

theorem Pp.one {l : List Int} (h : Pp l) (h1 : l.length = 1) : l = [1] := by
  have hc := (cont_one h.tr h.ne h.pr).1
  have hlead := h.lead
  match l, h1, hc, hlead with
  | [x], _, hc, hlead =>
    have hx : 0 < x := hlead
    have : cont [x] = x.natAbs := by simp [cont]
    rw [this] at hc
    have : x = 1 := by omega
    rw [this]

/-- Prime ones that divide each other are the same. -/
theorem Pp.same {p g : List Int} (hp : Pp p) (hg : Pp g) (ip : Iz (fun t => ev t p)) (ig : Iz (fun t => ev t g)) (h : Dv 0 (fun t => ev t p) (fun t => ev t g)) : p = g := by
  have h' := ip.irr.back ig.irr h
  obtain ⟨s, h1, h2⟩ := hp.prm.of_dv (Po.ev g) h
  obtain ⟨s', h3, h4⟩ := hg.prm.of_dv (Po.ev p) h'
  obtain ⟨S, tS, hS⟩ := h1.list
  obtain ⟨S', tS', hS'⟩ := h3.list
  have e1 : ∀ t, ev t g = ev t p * ev t S := fun t => by rw [h2, hS]
  have e2 : ∀ t, ev t p = ev t g * ev t S' := fun t => by rw [h4, hS']
  have q1 := hg.quot hp tS e1
  have q2 := hp.quot hg tS' e2
  have l1 := (mul_len hg.tr hp.tr q1.tr hp.ne q1.ne e1).2.1
  have l2 := (mul_len hp.tr hg.tr q2.tr hg.ne q2.ne e2).2.1
  have s1 := List.length_pos_iff.2 q1.ne
  have s2 := List.length_pos_iff.2 q2.ne
  have hone := q1.one (by omega)
  exact Pp.ext hp.tr hg.tr fun t => by rw [e1, hone]; simp [ev]

/-- How often a factor stands in a list. -/
def oft : List (List Int × Nat) → List Int → Nat
  | [], _ => 0
  | x :: l, p => (if x.1 = p then x.2 else 0) + oft l p

theorem oft_app (p : List Int) : ∀ a b, oft (a ++ b) p = oft a p + oft b p
  | [], b => by simp [oft]
  | x :: a, b => by simp only [List.cons_append, oft, oft_app p a b]; omega

theorem oft_none {p : List Int} : ∀ {l : List (List Int × Nat)}, (∀ x, x ∈ l → x.1 ≠ p) → oft l p = 0
  | [], _ => rfl
  | x :: l, h => by
    unfold oft
    rw [if_neg (h x (List.mem_cons_self ..)), oft_none fun y hy => h y (List.mem_cons_of_mem _ hy)]

theorem oft_pos {p : List Int} {l : List (List Int × Nat)} (h : 0 < oft l p) : ∃ x, x ∈ l ∧ x.1 = p := by
  refine Classical.byContradiction fun hn => ?_
  rw [oft_none (fun x hx e => hn ⟨x, hx, e⟩)] at h
  omega

theorem oft_mem : ∀ {l : List (List Int × Nat)} {x : List Int × Nat}, x ∈ l → x.2 ≤ oft l x.1
  | y :: l, x, h => by
    unfold oft
    rcases List.mem_cons.1 h with rfl | h
    · rw [if_pos rfl]; omega
    · have := oft_mem h; omega

/-- In a rising list each stands once. -/
theorem oft_asc : ∀ {l : List (List Int × Nat)}, (l.Pairwise fun a b => bfr a.1 b.1 = true) → ∀ {x : List Int × Nat}, x ∈ l → oft l x.1 = x.2
  | y :: l, h, x, hx => by
    obtain ⟨h1, h2⟩ := List.pairwise_cons.1 h
    have hne : ∀ z, z ∈ l → y.1 ≠ z.1 := fun z hz e => by
      have := h1 z hz
      rw [e, bfr_irrefl] at this
      cases this
    unfold oft
    rcases List.mem_cons.1 hx with rfl | hx
    · rw [if_pos rfl, oft_none fun z hz e => hne z hz e.symm]; omega
    · rw [if_neg (hne x hx), oft_asc h2 hx]; omega

/-- The rest. -/
def rst (l : List (List Int × Nat)) (p : List Int) : List (List Int × Nat) := l.filter fun x => decide (x.1 ≠ p)

theorem pE_oft (p : List Int) (t : Int) : ∀ l : List (List Int × Nat), pE l t = ev t p ^ oft l p * pE (rst l p) t
  | [] => by simp [pE, oft, rst]
  | x :: l => by
    have ih := pE_oft p t l
    by_cases h : x.1 = p
    · have e1 : rst (x :: l) p = rst l p := by simp [rst, h]
      have e2 : oft (x :: l) p = x.2 + oft l p := by simp [oft, h]
      rw [e1, e2, Int.pow_add, Int.mul_assoc, ← ih, ← h]
      rfl
    · have e1 : rst (x :: l) p = x :: rst l p := by simp [rst, h]
      have e2 : oft (x :: l) p = oft l p := by simp [oft, h]
      rw [e1, e2]
      show ev t x.1 ^ x.2 * pE l t = _ * (ev t x.1 ^ x.2 * pE (rst l p) t)
      rw [ih, Int.mul_left_comm]

/-- What divides tells how often. -/
theorem Fac.dv {zs : List Int} {c : Int} {ps : List (List Int × Nat)} (h : Fac zs c ps) (tz : Tr zs) (hne : zs ≠ []) {p : List Int} (hp : Pp p) (ip : Iz (fun t => ev t p)) (n : Nat) : Dv 0 (fun t => ev t p ^ n) (fun t => ev t zs) ↔ n ≤ oft ps p := by
  have hc : c ≠ 0 := fun e => hne (tz.zero fun t => by rw [h.eq, e]; simp)
  have hnd : ¬ Dv 0 (fun t => ev t p) (pE (rst ps p)) := fun hd => by
    obtain ⟨x, hx, hxd⟩ := dv_pE ip.irr _ hd
    have hxp := (List.mem_filter.1 hx)
    have hxe := h.each x hxp.1
    have := hp.same hxe.1 ip hxe.2.1 hxd
    simp at hxp
    exact hxp.2 this.symm
  have heq : ∀ t, ev t zs = c * (ev t p ^ oft ps p * pE (rst ps p) t) := fun t => by rw [h.eq, pE_oft p t ps]
  constructor
  · intro ⟨k, s, h1, h2, h3⟩
    refine Classical.byContradiction fun hlt => ?_
    have hk : k ≠ 0 := not_dvd_zero.1 h1
    obtain ⟨d, rfl⟩ : ∃ d, n = oft ps p + (d + 1) := ⟨n - oft ps p - 1, by omega⟩
    have h4 : Zm 0 (fun t => ev t p ^ oft ps p * (k * c * pE (rst ps p) t - ev t p * (ev t p ^ d * s t))) := h3.congr fun t => by
      dsimp only
      rw [heq, Int.pow_add, Int.pow_succ]
      simp only [Int.mul_add, Int.add_mul, Int.mul_sub, Int.sub_mul, Int.neg_mul, Int.mul_neg, Int.mul_assoc, Int.mul_comm, Int.mul_left_comm, Int.mul_one, Int.one_mul]
    rcases Zm.or Dom.zero ((Po.ev p).pow _) (((pE_po _).scal (k * c)).sub ((Po.ev p).mul (((Po.ev p).pow d).mul h2))) h4 with h5 | h5
    · have : ∀ m, ¬ Zm 0 (fun t => ev t p ^ m) := by
        intro m
        induction m with
        | zero => intro hz; have := Zm.const (m := 0) (c := 1) (hz.congr fun t => by simp); exact absurd this (by decide)
        | succ m ih =>
          intro hz
          rcases Zm.or Dom.zero ((Po.ev p).pow m) (Po.ev p) (hz.congr fun t => by rw [Int.pow_succ]) with h6 | h6
          · exact ih h6
          · exact (hp.tr.dm hp.ne).not h6
      exact this _ h5
    · refine hnd ⟨k * c, fun t => ev t p ^ d * s t, not_dvd_zero.2 (Int.mul_ne_zero hk hc), ((Po.ev p).pow d).mul h2, h5⟩
  · intro hle
    obtain ⟨d, hd⟩ : ∃ d, oft ps p = n + d := ⟨oft ps p - n, by omega⟩
    refine Dv.of_eq 0 Dom.zero (s := fun t => c * (ev t p ^ d * pE (rst ps p) t)) ((((Po.ev p).pow d).mul (pE_po _)).scal c) fun t => ?_
    rw [heq, hd, Int.pow_add]
    simp only [Int.mul_add, Int.add_mul, Int.mul_sub, Int.sub_mul, Int.neg_mul, Int.mul_neg, Int.mul_assoc, Int.mul_comm, Int.mul_left_comm, Int.mul_one, Int.one_mul]

end Go.Proofs.YtkomofjdbcjdnabGreatDoor
