import Derived.Test.YtldcjkhbiffdoabGreatDoorM04

set_option linter.unusedSimpArgs false
namespace Go.Proofs.YtldcjkhbiffdoabGreatDoor

def Red (p : Nat) (l : List Int) : Prop := ∀ k, 0 ≤ l.getD k 0 ∧ l.getD k 0 < p

def Nrm (p : Nat) (l : List Int) : Prop := Red p l ∧ Tr l

theorem Red.nil {p : Nat} (hp : 0 < p) : Red p [] := fun k => by simp; omega
theorem Red.tz {p : Nat} {l : List Int} (h : Red p l) : Nrm p (tz l) := ⟨fun k => by rw [tz_getD]; exact h k, tr_tz l⟩
theorem Red.mem {p : Nat} {l : List Int} (h : Red p l) : ∀ a, a ∈ l → 0 ≤ a ∧ a < p := by
  intro a ha
  obtain ⟨i, hi⟩ := List.getElem?_of_mem ha
  have := h i
  rwa [List.getD, hi] at this
theorem Red.of_mem {p : Nat} (hp : 0 < p) {l : List Int} (h : ∀ a, a ∈ l → 0 ≤ a ∧ a < p) : Red p l := by
  intro k
  rcases Nat.lt_or_ge k l.length with h1 | h1
  · have := h _ (List.getElem_mem h1)
    rwa [List.getD, List.getElem?_eq_getElem h1]
  · rw [getD_out h1]; omega
theorem Red.set {p : Nat} {l : List Int} (h : Red p l) (k : Nat) {y : Int} (h0 : 0 ≤ y) (h1 : y < p) : Red p (l.set k y) := by
  intro j
  by_cases hj : k = j
  · subst hj
    rcases Nat.lt_or_ge k l.length with h2 | h2
    · simp [List.getD, List.getElem?_set_self h2]; omega
    · rw [getD_out (by simpa using h2)]; omega
  · have : (l.set k y).getD j 0 = l.getD j 0 := by simp [List.getD, List.getElem?_set_ne hj]
    rw [this]; exact h j
theorem Red.zeros {p : Nat} (hp : 0 < p) (n : Nat) : Red p (List.replicate n 0) := by
  intro k
  have : (List.replicate n (0 : Int)).getD k 0 = 0 := by simp only [List.getD, List.getElem?_replicate]; split <;> rfl
  rw [this]; omega
theorem Red.take {p : Nat} (hp : 0 < p) {l : List Int} (h : Red p l) (n : Nat) : Red p (l.take n) :=
  Red.of_mem hp fun a ha => h.mem a (List.mem_of_mem_take ha)
theorem Red.tab {p : Nat} (hp : 0 < p) (n : Nat) (f : Nat → Int) : Red p (tab n fun k => f k % p) := by
  intro k
  rw [tab_getD]
  split
  · exact ⟨Int.emod_nonneg _ (by omega), Int.emod_lt_of_pos _ (by omega)⟩
  · omega

theorem Zm.of_getD {p : Nat} {l m : List Int} (h : ∀ k, (p : Int) ∣ l.getD k 0 - m.getD k 0) : Zm p (fun t => ev t l - ev t m) := by
  have : ∀ l : List Int, (∀ k, (p : Int) ∣ l.getD k 0) → Zm p (fun t => ev t l) := by
    intro l
    induction l with
    | nil => intro _; exact Zm.of_zero _ fun _ => rfl
    | cons a l ih =>
      intro hl
      have g1 : (p : Int) ∣ a := by simpa using hl 0
      have g2 := ih fun k => by simpa using hl (k + 1)
      refine ((Zm.of_dvd (Po.const 1) g1).add (g2.mul (Po.xpow 1))).congr fun t => ?_
      show a + t * ev t l = a * 1 + t ^ 1 * ev t l
      rw [Int.pow_one]; omega
  refine (this (ladd l (m.map fun x => -1 * x)) fun k => ?_).congr fun t => by rw [ev_ladd, ev_scal]; omega
  rw [ladd_getD, scal_getD, show l.getD k 0 + -1 * m.getD k 0 = l.getD k 0 - m.getD k 0 by omega]
  exact h k

theorem emod_alike (a : Int) (p : Nat) : (p : Int) ∣ a % p - a := ⟨-(a / p), by rw [Int.mul_neg]; have := Int.mul_ediv_add_emod a p; omega⟩

theorem Nrm.eq {p : Nat} {l m : List Int} (hl : Nrm p l) (hm : Nrm p m) (h : Zm p (fun t => ev t l - ev t m)) : l = m := by
  refine hl.2.ext hm.2 fun k => ?_
  have h1 := coef_alike h k
  have h2 := hl.1 k
  have h3 := hm.1 k
  have := Int.eq_zero_of_dvd_of_natAbs_lt_natAbs h1 (by rw [Int.natAbs_natCast]; omega)
  omega

theorem Nrm.ld {p : Nat} {l : List Int} (h : Nrm p l) (hne : l ≠ []) : Ld (l.length - 1) (lead l) (fun t => ev t l) ∧ 0 < lead l ∧ lead l < p ∧ ¬ (p : Int) ∣ lead l := by
  have h0 := List.length_pos_iff.2 hne
  have h1 := h.1 (l.length - 1)
  have h2 := h.2 hne
  refine ⟨Ld.of_list (by omega), by unfold lead; omega, h1.2, fun hd => ?_⟩
  have := Int.eq_zero_of_dvd_of_natAbs_lt_natAbs hd (by rw [Int.natAbs_natCast]; unfold lead; omega)
  exact h2 this
theorem Nrm.dm {p : Nat} {l : List Int} (h : Nrm p l) (hne : l ≠ []) : Dm p (l.length - 1) (fun t => ev t l) := Dm.of_ld (h.ld hne).1 (h.ld hne).2.2.2
theorem Nrm.zm {p : Nat} {l : List Int} (h : Nrm p l) : Zm p (fun t => ev t l) ↔ l = [] := by
  refine ⟨fun hz => Classical.byContradiction fun hne => (h.dm hne).not hz, fun e => by subst e; exact Zm.of_zero _ fun _ => rfl⟩

def ltm (p : Nat) (a b : List Int) (c : Int) : List Int := tz (tab (max a.length b.length) fun k => (a.getD k 0 + ((p : Int) - c) * b.getD k 0) % p)

theorem ltm_nrm {p : Nat} (hp : 0 < p) (a b : List Int) (c : Int) : Nrm p (ltm p a b c) := (Red.tab hp _ _).tz
theorem ltm_len (p : Nat) (a b : List Int) (c : Int) : (ltm p a b c).length ≤ max a.length b.length := by
  refine tz_len_le fun k hk => ?_
  rw [tab_getD, if_neg (by omega)]
theorem ltm_zm {p : Nat} (a b : List Int) (c : Int) : Zm p (fun t => ev t (ltm p a b c) - (ev t a - c * ev t b)) := by
  have h1 : Zm p (fun t => ev t (ltm p a b c) - ev t (ladd a (b.map fun x => ((p : Int) - c) * x))) := by
    refine Zm.of_getD fun k => ?_
    unfold ltm
    rw [tz_getD, tab_getD, ladd_getD, scal_getD]
    split
    · exact emod_alike _ p
    · rw [getD_out (show a.length ≤ k by omega), getD_out (show b.length ≤ k by omega)]; simp
  refine (h1.add (Zm.of_dvd (Po.ev b) (Int.dvd_refl _))).congr fun t => ?_
  rw [ev_ladd, ev_scal, Int.sub_mul]; omega

def PrO (p : Nat) (a b P : List Int) (i j : Nat) : Prop := Red p P ∧ Zm p (fun t => ev t P - (ev t (a.take i) * ev t b + a.getD i 0 * t ^ i * ev t (b.take j)))

theorem PrO.start {p : Nat} (hp : 0 < p) (a b : List Int) (n : Nat) : PrO p a b (List.replicate n 0) 0 0 :=
  ⟨Red.zeros hp n, Zm.of_zero _ fun t => by rw [ev_zeros]; simp [ev]⟩
theorem PrO.step {p : Nat} (hp : 0 < p) {a b P : List Int} {i j : Nat} {x y z : Int} (h : PrO p a b P i j) (hk : i + j < P.length) (hz : P.getD (i + j) 0 = z) (hx : a.getD i 0 = x) (hy : b.getD j 0 = y) : PrO p a b (P.set (i + j) ((z + x * y) % p)) i (j + 1) := by
  obtain ⟨h1, h2⟩ := h
  refine ⟨h1.set _ (Int.emod_nonneg _ (by omega)) (Int.emod_lt_of_pos _ (by omega)), ?_⟩
  refine (h2.add (Zm.of_dvd (Po.xpow (i + j)) (emod_alike (z + x * y) p))).congr fun t => ?_
  rw [ev_set _ _ _ _ hk, ev_take t b j, hz, hx, hy, Int.pow_add]
  generalize t ^ i = u
  generalize t ^ j = v
  generalize (z + x * y) % (p : Int) = q
  simp only [rA, rB, rC, rD, rE, rF, rG, rH, rI, rJ, rK]
  omega
theorem PrO.out {p : Nat} {a b P : List Int} {i : Nat} (h : PrO p a b P i b.length) : PrO p a b P (i + 1) 0 := by
  obtain ⟨h1, h2⟩ := h
  refine ⟨h1, h2.congr fun t => ?_⟩
  rw [List.take_length, ev_take, List.take_zero]
  simp only [ev, Int.mul_zero, Int.add_zero, Int.add_mul]
theorem PrO.ends {p : Nat} {a b P : List Int} (h : PrO p a b P a.length 0) : Nrm p (tz P) ∧ Zm p (fun t => ev t (tz P) - ev t a * ev t b) := by
  obtain ⟨h1, h2⟩ := h
  refine ⟨h1.tz, h2.congr fun t => ?_⟩
  rw [ev_tz, List.take_length, List.take_zero]
  simp [ev]

structure DvL (p : Nat) (a b R Q : List Int) (K : Nat) : Prop where
  rr : Red p R
  rq : Red p Q
  qz : ∀ j, j < K → Q.getD j 0 = 0
  hi : ∀ j, K + b.length - 1 ≤ j → R.getD j 0 = 0
  eq : Zm p (fun t => ev t R - (ev t a - ev t Q * ev t b))

structure DvO (p : Nat) (a b R Q : List Int) (k i : Nat) (c x : Int) : Prop where
  rr : Red p R
  rq : Red p Q
  qz : ∀ j, j < k → Q.getD j 0 = 0
  hi : ∀ j, k + b.length ≤ j → R.getD j 0 = 0
  top : R.getD (k + b.length - 1) 0 = if i < b.length then x else 0
  c0 : 0 ≤ c
  c1 : c < p
  eq : Zm p (fun t => ev t R - (ev t a - ev t Q * ev t b + c * t ^ k * (ev t b - ev t (b.take i))))

theorem DvL.start {p : Nat} (hp : 0 < p) {a b : List Int} (ra : Red p a) (hb : b ≠ []) (h : b.length ≤ a.length) : DvL p a b a (List.replicate (a.length + 1 - b.length) 0) (a.length + 1 - b.length) := by
  have h0 := List.length_pos_iff.2 hb
  refine ⟨ra, Red.zeros hp _, fun j _ => ?_, fun j hj => getD_out (by omega), Zm.of_zero _ fun t => by rw [ev_zeros]; omega⟩
  simp only [List.getD, List.getElem?_replicate]; split <;> rfl

theorem DvL.level {p : Nat} (hp : 0 < p) {a b R Q : List Int} {k : Nat} (h : DvL p a b R Q (k + 1)) (hb : b ≠ []) (hQ : k < Q.length) (s x : Int) (hx : R.getD (k + b.length - 1) 0 = x) : DvO p a b R (Q.set k (x * s % p)) k 0 (x * s % p) x := by
  have h0 := List.length_pos_iff.2 hb
  have h1 : 0 ≤ x * s % p := Int.emod_nonneg _ (by omega)
  have h2 : x * s % p < p := Int.emod_lt_of_pos _ (by omega)
  refine ⟨h.rr, h.rq.set k h1 h2, fun j hj => ?_, fun j hj => h.hi j (by omega), by rw [if_pos h0]; exact hx, h1, h2, h.eq.congr fun t => ?_⟩
  · have : (Q.set k (x * s % p)).getD j 0 = Q.getD j 0 := by simp [List.getD, List.getElem?_set_ne (show k ≠ j by omega)]
    rw [this]; exact h.qz j (by omega)
  · rw [ev_set _ _ _ _ hQ, h.qz k (by omega), List.take_zero]
    generalize x * s % (p : Int) = c
    generalize t ^ k = u
    simp only [ev]
    simp only [rA, rB, rC, rD, rE, rF, rG, rH, rI, rJ, rK]
    omega

theorem getD_set (R : List Int) (i : Nat) (y : Int) (j : Nat) : (R.set i y).getD j 0 = if i = j ∧ i < R.length then y else R.getD j 0 := by
  by_cases h : i = j
  · subst h
    rcases Nat.lt_or_ge i R.length with h1 | h1
    · rw [if_pos ⟨rfl, h1⟩]; simp [List.getD, List.getElem?_set_self h1]
    · rw [if_neg (by omega), getD_out (by simpa using h1), getD_out h1]
  · rw [if_neg (fun hh => h hh.1)]; simp [List.getD, List.getElem?_set_ne h]

theorem DvO.step {p : Nat} (hp : 0 < p) {a b R Q : List Int} {k i : Nat} {c x z y s : Int} (h : DvO p a b R Q k i c x) (hi : i < b.length) (hk : k + i < R.length) (hz : R.getD (k + i) 0 = z) (hy : b.getD i 0 = y) (hc : c = x * s % p) (hs : (p : Int) ∣ lead b * s - 1) :
    DvO p a b (R.set (k + i) ((z + ((p : Int) - c) * y) % p)) Q k (i + 1) c x := by
  have h1 : 0 ≤ (z + ((p : Int) - c) * y) % p := Int.emod_nonneg _ (by omega)
  have h2 : (z + ((p : Int) - c) * y) % p < p := Int.emod_lt_of_pos _ (by omega)
  refine ⟨h.rr.set _ h1 h2, h.rq, h.qz, fun j hj => ?_, ?_, h.c0, h.c1, ?_⟩
  · rw [getD_set, if_neg (by omega)]; exact h.hi j hj
  · rw [getD_set]
    by_cases hl : i + 1 < b.length
    · rw [if_neg (by omega), if_pos hl, h.top, if_pos hi]
    · rw [if_pos (by omega), if_neg hl]
      have e1 : k + i = k + b.length - 1 := by omega
      have e2 : z = x := by rw [← hz, e1, h.top, if_pos hi]
      have e3 : y = lead b := by rw [← hy]; unfold lead; congr 1; omega
      subst e2
      refine Int.emod_eq_zero_of_dvd ?_
      obtain ⟨q, hq⟩ := hs
      have e4 := Int.mul_ediv_add_emod (z * s) p
      refine ⟨y - z * q + (z * s / p) * y, ?_⟩
      have e5 : c = z * s - p * (z * s / p) := by omega
      rw [e5, e3]
      have e6 : z * (lead b * s) = z * (p * q + 1) := by congr 1; omega
      revert e6
      generalize z * s / (p : Int) = d
      simp only [rA, rB, rC, rD, rE, rF, rG, rH, rI, rJ, rK]
      omega
  · refine (h.eq.add (Zm.of_dvd (Po.xpow (k + i)) (emod_alike (z + ((p : Int) - c) * y) p))).add (Zm.of_dvd (c := (p : Int) * y) (Po.xpow (k + i)) (Int.dvd_mul_right ..)) |>.congr fun t => ?_
    rw [ev_set _ _ _ _ hk, ev_take t b i, hz, hy, Int.pow_add]
    generalize t ^ k = u
    generalize t ^ i = v
    generalize (z + ((p : Int) - c) * y) % (p : Int) = q
    simp only [rA, rB, rC, rD, rE, rF, rG, rH, rI, rJ, rK]
    omega

theorem DvO.out {p : Nat} {a b R Q : List Int} {k : Nat} {c x : Int} (h : DvO p a b R Q k b.length c x) (hb : b ≠ []) : DvL p a b R Q k := by
  have h0 := List.length_pos_iff.2 hb
  refine ⟨h.rr, h.rq, h.qz, fun j hj => ?_, h.eq.congr fun t => ?_⟩
  · rcases (show j = k + b.length - 1 ∨ k + b.length ≤ j by omega) with rfl | h1
    · rw [h.top, if_neg (by omega)]
    · exact h.hi j h1
  · rw [List.take_length]; simp

theorem tz_le0 (l : List Int) : (tz l).length ≤ l.length := by
  rw [tz_length]; exact tzn_le l l.length

structure DM (p : Nat) (a b q r : List Int) : Prop where
  nq : Nrm p q
  nr : Nrm p r
  lt : r.length < b.length
  ql : q.length ≤ a.length + 1 - b.length
  eq : Zm p (fun t => ev t a - (ev t q * ev t b + ev t r))

theorem DvL.ends {p : Nat} (hp : 0 < p) {a b R Q : List Int} (h : DvL p a b R Q 0) (hb : b ≠ []) (hQ : Q.length ≤ a.length + 1 - b.length) : DM p a b (tz Q) (tz (R.take (b.length - 1))) := by
  have h0 := List.length_pos_iff.2 hb
  refine ⟨h.rq.tz, (h.rr.take hp _).tz, ?_, ?_, ?_⟩
  · have h1 := tz_le0 (R.take (b.length - 1))
    have h2 := List.length_take_le (b.length - 1) R
    omega
  · have := tz_length Q
    have := tzn_le Q Q.length
    omega
  · have h1 : ∀ t, ev t (R.take (b.length - 1)) = ev t R := fun t => ev_of_getD (fun k => by
      rcases Nat.lt_or_ge k (b.length - 1) with hk | hk
      · simp [List.getD, List.getElem?_take_of_lt hk]
      · rw [getD_out (by rw [List.length_take]; omega), h.hi k (by omega)]) t
    exact h.eq.neg.congr fun t => by rw [ev_tz, ev_tz, h1]; omega

theorem DM.short {p : Nat} (hp : 0 < p) {a b : List Int} (ha : Red p a) (h : a.length < b.length) : DM p a b [] (tz a) :=
  ⟨⟨Red.nil hp, Tr.nil⟩, ha.tz, by have := tz_length a; have := tzn_le a a.length; omega, Nat.zero_le _, Zm.of_zero _ fun t => by rw [ev_tz]; simp [ev]⟩

def Cmb (p : Nat) (a b A : Int → Int) : Prop := ∃ α β, Po α ∧ Po β ∧ Zm p (fun t => α t * a t + β t * b t - A t)

theorem Cmb.left {p : Nat} (a b : Int → Int) : Cmb p a b a := ⟨fun _ => 1, fun _ => 0, Po.const 1, Po.zero, Zm.of_zero _ fun t => by simp⟩
theorem Cmb.right {p : Nat} (a b : Int → Int) : Cmb p a b b := ⟨fun _ => 0, fun _ => 1, Po.zero, Po.const 1, Zm.of_zero _ fun t => by simp⟩
theorem Cmb.trans {p : Nat} {a b A B C : Int → Int} (h1 : Cmb p a b A) (h2 : Cmb p a b B) (h : Cmb p A B C) : Cmb p a b C := by
  obtain ⟨α, β, g1, g2, g3⟩ := h
  obtain ⟨u, v, k1, k2, k3⟩ := h1
  obtain ⟨u', v', k1', k2', k3'⟩ := h2
  refine ⟨fun t => α t * u t + β t * u' t, fun t => α t * v t + β t * v' t, (g1.mul k1).add (g2.mul k1'), (g1.mul k2).add (g2.mul k2'), ((g3.add (k3.mul g1)).add (k3'.mul g2)).congr fun t => ?_⟩
  show (α t * u t + β t * u' t) * a t + (α t * v t + β t * v' t) * b t - C t = α t * A t + β t * B t - C t + α t * (u t * a t + v t * b t - A t) + β t * (u' t * a t + v' t * b t - B t)
  simp only [rA, rB, rC, rD, rE, rF, rG, rH, rI, rJ, rK]
  omega
theorem Cmb.di {p : Nat} {a b A d : Int → Int} (h : Cmb p a b A) (h1 : Di p d a) (h2 : Di p d b) : Di p d A := by
  obtain ⟨α, β, g1, g2, g3⟩ := h
  exact ((h1.mul g1).add (h2.mul g2)).alike (g3.neg.congr fun t => by omega)

structure GcO (p : Nat) (a b A B : List Int) : Prop where
  nA : Nrm p A
  nB : Nrm p B
  ne : A ≠ [] ∨ B ≠ []
  f1 : Cmb p (fun t => ev t a) (fun t => ev t b) (fun t => ev t A)
  f2 : Cmb p (fun t => ev t a) (fun t => ev t b) (fun t => ev t B)
  g1 : Cmb p (fun t => ev t A) (fun t => ev t B) (fun t => ev t a)
  g2 : Cmb p (fun t => ev t A) (fun t => ev t B) (fun t => ev t b)

theorem GcO.start {p : Nat} {a b : List Int} (ha : Nrm p a) (hb : Nrm p b) (h : a ≠ [] ∨ b ≠ []) : GcO p a b a b := ⟨ha, hb, h, Cmb.left _ _, Cmb.right _ _, Cmb.left _ _, Cmb.right _ _⟩
theorem DM.cmb {p : Nat} {A B q r : List Int} (h : DM p A B q r) : Cmb p (fun t => ev t A) (fun t => ev t B) (fun t => ev t r) :=
  ⟨fun _ => 1, fun t => - ev t q, Po.const 1, (Po.ev q).neg, h.eq.congr fun t => by dsimp only; rw [Int.neg_mul]; omega⟩
theorem DM.cmb' {p : Nat} {A B q r : List Int} (h : DM p A B q r) : Cmb p (fun t => ev t B) (fun t => ev t r) (fun t => ev t A) :=
  ⟨fun t => ev t q, fun _ => 1, Po.ev q, Po.const 1, h.eq.neg.congr fun t => by dsimp only; omega⟩
theorem GcO.next {p : Nat} {a b A B q r : List Int} (h : GcO p a b A B) (hB : B ≠ []) (hd : DM p A B q r) : GcO p a b B r :=
  ⟨h.nB, hd.nr, .inl hB, h.f2, h.f1.trans h.f2 hd.cmb, hd.cmb'.trans (Cmb.left _ _) h.g1, hd.cmb'.trans (Cmb.left _ _) h.g2⟩

structure GM (p : Nat) (a b g : List Int) : Prop where
  ng : Nrm p g
  ne : g ≠ []
  l1 : lead g = 1
  d1 : Di p (fun t => ev t g) (fun t => ev t a)
  d2 : Di p (fun t => ev t g) (fun t => ev t b)
  cmb : Cmb p (fun t => ev t a) (fun t => ev t b) (fun t => ev t g)

structure MonO (p : Nat) (A g : List Int) : Prop where
  ng : Nrm p g
  len : g.length = A.length
  l1 : lead g = 1
  eq : ∃ k : Int, ¬ (p : Int) ∣ k ∧ Zm p (fun t => ev t g - k * ev t A) ∧ ∃ k', Zm p (fun t => ev t A - k' * ev t g)

theorem MonO.of {p : Nat} (hp : Dom (p : Int)) {A g : List Int} {k : Int} (hA : Nrm p A) (hne : A ≠ []) (hg : Nrm p g) (hk : (p : Int) ∣ lead A * k - 1) (hz : Zm p (fun t => ev t g - ev t A * ev t [k])) : MonO p A g := by
  obtain ⟨h1, h2, h3, h4⟩ := hA.ld hne
  have hk0 : ¬ (p : Int) ∣ k := fun h => hp.2 (by
    have := Int.dvd_sub (Int.dvd_trans h (Int.dvd_mul_left (lead A) k)) hk
    rwa [show lead A * k - (lead A * k - 1) = 1 by omega] at this)
  have hz' : Zm p (fun t => ev t g - k * ev t A) := hz.congr fun t => by simp [ev]; rw [Int.mul_comm]
  have hdm : Dm p (A.length - 1) (fun t => ev t g) := ((hA.dm hne).scal hp hk0).alike hz'
  have hgne : g ≠ [] := fun e => hdm.not (hg.zm.2 e)
  have hl := (hg.dm hgne).uniq hdm
  have g0 := List.length_pos_iff.2 hgne
  have a0 := List.length_pos_iff.2 hne
  have hlen : g.length = A.length := by omega
  have hlead : lead g = 1 := by
    have h5 := coef_alike (l := g) (m := A.map fun x => k * x) (hz'.congr fun t => by rw [ev_scal]) (A.length - 1)
    rw [scal_getD] at h5
    have h6 : (p : Int) ∣ lead g - 1 := by
      have h7 := Int.dvd_add h5 hk
      have e1 : g.getD (A.length - 1) 0 = lead g := by unfold lead; rw [hlen]
      have e2 : A.getD (A.length - 1) 0 = lead A := rfl
      rw [e1, e2] at h7
      rwa [show lead g - k * lead A + (lead A * k - 1) = lead g - 1 by rw [Int.mul_comm k]; omega] at h7
    obtain ⟨_, q1, q2, _⟩ := hg.ld hgne
    have := Int.eq_zero_of_dvd_of_natAbs_lt_natAbs h6 (by rw [Int.natAbs_natCast]; omega)
    omega
  refine ⟨hg, hlen, hlead, k, hk0, hz', lead A, ?_⟩
  obtain ⟨e, he⟩ := hk
  refine ((hz'.scal (lead A)).neg.sub (Zm.of_dvd (Po.ev A) (c := lead A * k - 1) ⟨e, he⟩)).congr fun t => ?_
  rw [Int.mul_sub, Int.sub_mul, Int.mul_assoc]; omega

theorem MonO.ne {p : Nat} {A g : List Int} (h : MonO p A g) (hne : A ≠ []) : g ≠ [] := by
  intro e
  have := h.len
  subst e
  exact hne (List.length_eq_zero_iff.1 (by simpa using this.symm))

theorem GcO.ends {p : Nat} {a b A g : List Int} (h : GcO p a b A []) (hm : MonO p A g) : GM p a b g := by
  have hA : A ≠ [] := h.ne.elim id fun h => absurd rfl h
  obtain ⟨k, h1, h2, k', h3⟩ := hm.eq
  have hd : Di p (fun t => ev t g) (fun t => ev t A) := ⟨fun _ => k', Po.const _, h3.congr fun t => by rw [Int.mul_comm]⟩
  have h0 : Di p (fun t => ev t g) (fun t => ev t ([] : List Int)) := Di.of_zm (Zm.of_zero _ fun _ => rfl)
  refine ⟨hm.ng, hm.ne hA, hm.l1, h.g1.di hd h0, h.g2.di hd h0, h.f1.trans h.f1 ⟨fun _ => k, fun _ => 0, Po.const k, Po.zero, h2.neg.congr fun t => by dsimp only; omega⟩⟩

theorem GM.ld {p : Nat} {a b g : List Int} (h : GM p a b g) : Ld (g.length - 1) 1 (fun t => ev t g) := by
  have := (h.ng.ld h.ne).1
  rwa [h.l1] at this

theorem GM.cop {p : Nat} (hp : Dom (p : Int)) {a b g : List Int} (h : GM p a b g) : g.length = 1 ↔ Cop p (fun t => ev t a) (fun t => ev t b) := by
  have g0 := List.length_pos_iff.2 h.ne
  constructor
  · intro hl
    obtain ⟨α, β, h1, h2, h3⟩ := h.cmb
    refine ⟨α, β, 1, h1, h2, hp.2, h3.congr fun t => ?_⟩
    have : g = [1] := by
      match g, hl, h.l1 with
      | [x], _, h1 => have : x = 1 := h1; rw [this]
    subst this; simp [ev]
  · intro ⟨u, v, c, h1, h2, h3, h4⟩
    refine Classical.byContradiction fun hl => ?_
    have hd : Di p (fun t => ev t g) (fun _ => c) := ((h.d1.mul h1).add (h.d2.mul h2)).alike (h4.neg.congr fun t => by dsimp only; omega)
    refine h3 (not_di_const hp (Po.ev g) (fun hd0 => ?_) hd)
    have := (h.ng.dm h.ne).uniq hd0
    omega

end Go.Proofs.YtldcjkhbiffdoabGreatDoor

set_option linter.unusedSimpArgs false
namespace Go.Proofs.YtldcjkhbiffdoabGreatDoor

def fs (L : List (List Int)) : List (Int → Int) := L.map fun l t => ev t l

theorem fs_len (L : List (List Int)) : (fs L).length = L.length := by simp [fs]
theorem fs_app (L M : List (List Int)) : fs (L ++ M) = fs L ++ fs M := by simp [fs]
theorem fs_mem {L : List (List Int)} {g : Int → Int} (h : g ∈ fs L) : ∃ l, l ∈ L ∧ g = fun t => ev t l := by
  obtain ⟨l, h1, h2⟩ := List.mem_map.1 h
  exact ⟨l, h1, h2.symm⟩
theorem fs_po (L : List (List Int)) : ∀ g, g ∈ fs L → Po g := fun g h => by
  obtain ⟨l, _, rfl⟩ := fs_mem h
  exact Po.ev l

theorem ev_tl (t : Int) : ∀ (cs : List Int) (K : List (List Int)), ev t (tl cs K) = lin cs (fs K) t
  | [], K => by simp [tl, lin, ev]
  | c :: cs, [] => by simp [tl, lin, ev, fs]
  | c :: cs, r :: K => by
    simp only [tl, ev_ladd, ev_scal, ev_tl t cs K]
    rfl

theorem dot_sm : ∀ (l m : List Int) (n : Nat), l.length ≤ n → dot l m = sm (fun i => l.getD i 0 * m.getD i 0) n
  | [], m, n, _ => by
    rw [sm_congr n (G := fun _ => 0) fun k _ => by simp, sm_zero]; simp [dot]
  | a :: l, m, 0, h => by simp at h
  | a :: l, [], n + 1, _ => by
    rw [sm_congr (n + 1) (G := fun _ => 0) fun k _ => by simp, sm_zero]; simp [dot]
  | a :: l, b :: m, n + 1, h => by
    rw [sm_first]
    simp only [dot, List.getD_cons_zero, List.getD_cons_succ]
    rw [dot_sm l m n (by simpa using h)]

theorem dot_ladd (l l' m : List Int) : dot (ladd l l') m = dot l m + dot l' m := by
  have h := ladd_len l l' (l.length + l'.length) (by omega) (by omega)
  rw [dot_sm _ m (l.length + l'.length) h, dot_sm l m (l.length + l'.length) (by omega), dot_sm l' m (l.length + l'.length) (by omega), ← sm_add]
  exact sm_congr _ fun k _ => by rw [ladd_getD, Int.add_mul]
theorem dot_scal (c : Int) (l m : List Int) : dot (l.map fun x => c * x) m = c * dot l m := by
  rw [dot_sm _ m l.length (by simp), dot_sm l m l.length (Nat.le_refl _), ← sm_scal]
  exact sm_congr _ fun k _ => by rw [scal_getD, Int.mul_assoc]

theorem dot_ltm (p : Nat) (a b : List Int) (c : Int) (m : List Int) : (p : Int) ∣ dot (ltm p a b c) m - (dot a m - c * dot b m) := by
  have h := dot_alike (p := p) (ltm p a b c) (ladd a (b.map fun x => -c * x)) m (coef_alike ((ltm_zm a b c).congr fun t => by rw [ev_ladd, ev_scal, Int.neg_mul]; omega))
  rwa [dot_ladd, dot_scal, Int.neg_mul, show dot a m + -(c * dot b m) = dot a m - c * dot b m by omega] at h

theorem dot_lin : ∀ (cs : List Int) (K : List (List Int)) (m : List Int), dot (tl cs K) m = dot cs (K.map fun b => dot b m)
  | [], K, m => by simp [tl, dot]
  | c :: cs, [], m => by simp [tl, dot]
  | c :: cs, r :: K, m => by
    simp only [tl, dot_ladd, dot_scal, List.map_cons]
    rw [dot_lin cs K m]; rfl

theorem dot_dvd {p : Nat} : ∀ (cs ds : List Int), (∀ d, d ∈ ds → (p : Int) ∣ d) → (p : Int) ∣ dot cs ds
  | [], ds, _ => by simp [dot]
  | c :: cs, [], _ => by simp [dot]
  | c :: cs, d :: ds, h => Int.dvd_add (Int.dvd_trans (h d (List.mem_cons_self ..)) (Int.dvd_mul_left ..)) (dot_dvd cs ds fun x hx => h x (List.mem_cons_of_mem _ hx))

theorem dot_take (l m : List Int) (k : Nat) : dot (l.take (k + 1)) m = dot (l.take k) m + l.getD k 0 * m.getD k 0 := by
  rw [dot_sm (l.take (k + 1)) m (k + 1) (by rw [List.length_take]; omega), dot_sm (l.take k) m (k + 1) (by rw [List.length_take]; omega)]
  simp only [sm]
  have h1 : (l.take (k + 1)).getD k 0 = l.getD k 0 := by simp [List.getD, List.getElem?_take_of_lt (show k < k + 1 by omega)]
  have h2 : (l.take k).getD k 0 = 0 := getD_out (by rw [List.length_take]; omega)
  rw [h1, h2, Int.zero_mul, Int.add_zero]
  congr 1
  refine sm_congr k fun i hi => ?_
  simp [List.getD, List.getElem?_take_of_lt (show i < k + 1 by omega), List.getElem?_take_of_lt hi]

theorem val_step (p : Nat) (l m : List Int) (k : Nat) : (dot (l.take k) m % p + l.getD k 0 * m.getD k 0) % p = dot (l.take (k + 1)) m % p := by
  rw [dot_take]
  exact Int.emod_add_emod ..

def Ck (p : Nat) (E : Nat → List Int) (k : Nat) (l : List Int) : Prop := ∀ j, j < k → (p : Int) ∣ dot l (E j)

theorem Ck.ltm {p : Nat} {E : Nat → List Int} {k : Nat} {a b : List Int} (ha : Ck p E k a) (hb : Ck p E k b) (c : Int) : Ck p E k (ltm p a b c) := by
  intro j hj
  have h1 := dot_ltm p a b c (E j)
  have h2 := Int.dvd_sub (ha j hj) (Int.dvd_trans (hb j hj) (Int.dvd_mul_left c _))
  have := Int.dvd_add h1 h2
  rwa [show dot (Go.Proofs.YtldcjkhbiffdoabGreatDoor.ltm p a b c) (E j) - (dot a (E j) - c * dot b (E j)) + (dot a (E j) - c * dot b (E j)) = dot (Go.Proofs.YtldcjkhbiffdoabGreatDoor.ltm p a b c) (E j) by omega] at this

structure Bas (p n : Nat) (E : Nat → List Int) (k : Nat) (B : List (List Int)) : Prop where
  mem : ∀ b, b ∈ B → Nrm p b ∧ b.length ≤ n ∧ Ck p E k b
  span : ∀ l : List Int, l.length ≤ n → Red p l → Ck p E k l → InSpan p (fs B) (fun t => ev t l)
  len : B.length ≤ n

structure NrO (p n : Nat) (E : Nat → List Int) (k : Nat) (B : List (List Int)) (i : Nat) (K : List (List Int)) (sp : List Int) (sc : Int) : Prop where
  span : ∀ v, InSpan p (fs (B.take i)) v → ∃ c : Int, InSpan p (fs K) (fun t => v t - c * ev t sp)
  kn : ∀ b, b ∈ K → Nrm p b ∧ b.length ≤ n ∧ Ck p E (k + 1) b
  sp : (sp = [] ∧ sc = 0) ∨ (Nrm p sp ∧ sp.length ≤ n ∧ Ck p E k sp ∧ (p : Int) ∣ dot sp (E k) * sc - 1)
  kl : K.length ≤ i

theorem NrO.start (p n : Nat) (E : Nat → List Int) (k : Nat) (B : List (List Int)) : NrO p n E k B 0 [] [] 0 where
  span := fun v hv => ⟨0, hv.alike (Zm.of_zero _ fun t => by simp)⟩
  kn := fun b h => by cases h
  sp := .inl ⟨rfl, rfl⟩
  kl := Nat.le_refl _

theorem take_fs {B : List (List Int)} {i : Nat} {b : List Int} (hb : B[i]? = some b) : fs (B.take (i + 1)) = fs (B.take i) ++ [fun t => ev t b] := by
  rw [List.take_add_one, hb]
  simp [fs]

theorem NrO.spr {p n : Nat} (hp0 : 0 < p) {E : Nat → List Int} {k : Nat} {B K : List (List Int)} {i : Nat} {sp : List Int} {sc : Int} (h : NrO p n E k B i K sp sc) : Nrm p sp ∧ sp.length ≤ n ∧ Ck p E k sp := by
  rcases h.sp with ⟨rfl, _⟩ | h
  · exact ⟨⟨Red.nil hp0, Tr.nil⟩, Nat.zero_le _, fun j _ => by simp [dot]⟩
  · exact ⟨h.1, h.2.1, h.2.2.1⟩

theorem NrO.spend {p n : Nat} (hp : Dom (p : Int)) {E : Nat → List Int} {k : Nat} {B K : List (List Int)} {i : Nat} {sp b : List Int} {s : Int} (h : NrO p n E k B i K sp 0) (hb : B[i]? = some b) (hn : Nrm p b ∧ b.length ≤ n ∧ Ck p E k b) (hs : (p : Int) ∣ dot b (E k) * s - 1) : NrO p n E k B (i + 1) K b s := by
  have hsp : sp = [] := by
    rcases h.sp with ⟨rfl, _⟩ | h
    · rfl
    · exfalso
      apply hp.2
      have := h.2.2.2
      rw [Int.mul_zero] at this
      exact Int.dvd_neg.1 (by simpa using this)
  subst hsp
  refine ⟨fun v hv => ?_, h.kn, .inr ⟨hn.1, hn.2.1, hn.2.2, hs⟩, by have := h.kl; omega⟩
  rw [take_fs hb] at hv
  obtain ⟨c, h1⟩ := hv.unsnoc
  obtain ⟨c', h2⟩ := h.span _ h1
  exact ⟨c, h2.alike (Zm.of_zero _ fun t => by simp [ev])⟩

theorem NrO.keep {p n : Nat} (hp0 : 0 < p) {E : Nat → List Int} {k : Nat} {B K : List (List Int)} {i : Nat} {sp b : List Int} {s : Int} (h : NrO p n E k B i K sp s) (hb : B[i]? = some b) (hn : Nrm p b ∧ b.length ≤ n ∧ Ck p E k b) (hv : dot b (E k) % p = 0 ∨ s ≠ 0) : NrO p n E k B (i + 1) (K ++ [ltm p b sp (dot b (E k) % p * s % p)]) sp s := by
  generalize hc : dot b (E k) % p * s % p = c
  have hs0 := h.spr hp0
  refine ⟨fun v hv => ?_, fun x hx => ?_, h.sp, by have := h.kl; simp; omega⟩
  · rw [take_fs hb] at hv
    obtain ⟨d, h1⟩ := hv.unsnoc
    obtain ⟨d', h2⟩ := h.span _ h1
    refine ⟨d' + d * c, ?_⟩
    rw [fs_app]
    refine InSpan.snoc (c := d) (h2.alike (((ltm_zm b sp c).scal d).neg.congr fun t => ?_))
    dsimp only
    generalize ev t (ltm p b sp c) = x
    simp only [rA, rB, rC, rD, rE, rF, rG, rH, rI, rJ, rK]
    omega
  · rcases List.mem_append.1 hx with h1 | h1
    · exact h.kn x h1
    · obtain rfl : x = ltm p b sp c := by simpa using h1
      refine ⟨ltm_nrm hp0 _ _ _, Nat.le_trans (ltm_len ..) (by omega), fun j hj => ?_⟩
      rcases (show j < k ∨ j = k by omega) with hj | rfl
      · exact hn.2.2.ltm hs0.2.2 c j hj
      · have h2 := dot_ltm p b sp c (E j)
        have h3 : (p : Int) ∣ dot b (E j) - c * dot sp (E j) := by
          have e1 := emod_alike (dot b (E j)) p
          rcases h.sp with ⟨rfl, rfl⟩ | ⟨_, _, _, hs⟩
          · have e2 : dot b (E j) % p = 0 := hv.resolve_right fun h => h rfl
            rw [e2] at e1
            simp only [dot, Int.mul_zero, Int.sub_zero]
            exact Int.dvd_neg.1 (by simpa using e1)
          · have e2 : (p : Int) ∣ c - dot b (E j) % p * s := by rw [← hc]; exact emod_alike _ p
            have e3 := Int.dvd_add (Int.dvd_add (Int.dvd_trans e2 (Int.dvd_mul_right _ (dot sp (E j)))) (Int.dvd_trans hs (Int.dvd_mul_left (dot b (E j) % p) _))) e1
            have e4 : (c - dot b (E j) % p * s) * dot sp (E j) + dot b (E j) % p * (dot sp (E j) * s - 1) + (dot b (E j) % p - dot b (E j)) = -(dot b (E j) - c * dot sp (E j)) := by
              generalize dot b (E j) % (p : Int) = x
              simp only [rA, rB, rC, rD, rE, rF, rG, rH, rI, rJ, rK]
              omega
            rw [e4] at e3
            exact Int.dvd_neg.1 e3
        have := Int.dvd_add h2 h3
        rwa [show dot (ltm p b sp c) (E j) - (dot b (E j) - c * dot sp (E j)) + (dot b (E j) - c * dot sp (E j)) = dot (ltm p b sp c) (E j) by omega] at this

theorem NrO.ends {p n : Nat} (hp : Dom (p : Int)) {E : Nat → List Int} {k : Nat} {B K : List (List Int)} {sp : List Int} {s : Int} (hB : Bas p n E k B) (h : NrO p n E k B B.length K sp s) : Bas p n E (k + 1) K := by
  refine ⟨h.kn, fun l h1 h2 h3 => ?_, Nat.le_trans h.kl hB.len⟩
  have h4 := hB.span l h1 h2 fun j hj => h3 j (by omega)
  obtain ⟨c, h5⟩ := h.span _ (by rw [List.take_length]; exact h4)
  rcases h.sp with ⟨rfl, _⟩ | ⟨g1, g2, g3, g4⟩
  · exact h5.alike (Zm.of_zero _ fun t => by simp [ev])
  · have h6 := h5
    obtain ⟨cs, q1, q2⟩ := h6
    have q3 : Zm p (fun t => ev t l - ev t (ladd (sp.map fun x => c * x) (tl cs K))) := q2.congr fun t => by
      rw [ev_ladd, ev_scal, ev_tl]; dsimp only; omega
    have q4 := dot_alike l _ (E k) (coef_alike q3)
    rw [dot_ladd, dot_scal, dot_lin] at q4
    have q5 : (p : Int) ∣ dot cs (K.map fun b => dot b (E k)) := dot_dvd _ _ fun d hd => by
      obtain ⟨b, hb1, rfl⟩ := List.mem_map.1 hd
      exact (h.kn b hb1).2.2 k (by omega)
    have q6 : (p : Int) ∣ c * dot sp (E k) := by
      have := Int.dvd_sub (Int.dvd_sub (h3 k (by omega)) q4) q5
      rwa [show dot l (E k) - (dot l (E k) - (c * dot sp (E k) + dot cs (K.map fun b => dot b (E k)))) - dot cs (K.map fun b => dot b (E k)) = c * dot sp (E k) by omega] at this
    have q7 : (p : Int) ∣ c := by
      rcases hp.1 _ _ q6 with q | q
      · exact q
      · exfalso
        apply hp.2
        have := Int.dvd_sub (Int.dvd_trans q (Int.dvd_mul_right _ s)) g4
        rwa [show dot sp (E k) * s - (dot sp (E k) * s - 1) = 1 by omega] at this
    exact h5.alike ((Zm.of_dvd (Po.ev sp) q7).congr fun t => by omega)

def unitL (k : Nat) : List Int := (List.replicate (k + 1) 0).set k 1
theorem unitL_ev (k : Nat) (t : Int) : ev t (unitL k) = t ^ k := by
  unfold unitL
  rw [ev_set _ _ _ _ (by simp), ev_zeros]
  have : (List.replicate (k + 1) (0 : Int)).getD k 0 = 0 := by simp only [List.getD, List.getElem?_replicate]; split <;> rfl
  rw [this]; simp
theorem unitL_len (k : Nat) : (unitL k).length = k + 1 := by simp [unitL]
theorem unitL_nrm {p : Nat} (hp2 : 2 ≤ p) (k : Nat) : Nrm p (unitL k) := by
  refine ⟨(Red.zeros (by omega) _).set k (by omega) (by omega), fun _ => ?_⟩
  rw [unitL_len, Nat.add_sub_cancel]
  unfold unitL
  rw [getD_set, if_pos ⟨rfl, by simp⟩]
  decide
def units (n : Nat) : List (List Int) := (List.range n).map unitL
theorem units_succ (n : Nat) : units (n + 1) = units n ++ [unitL n] := by simp [units, List.range_succ]
theorem units_len (n : Nat) : (units n).length = n := by simp [units]

theorem units_span {p : Nat} : ∀ (n : Nat) (l : List Int), l.length ≤ n → InSpan p (fs (units n)) (fun t => ev t l)
  | 0, l, h => by
    obtain rfl : l = [] := List.length_eq_zero_iff.1 (by omega)
    exact ⟨[], rfl, Zm.of_zero _ fun t => by simp [ev, units, fs, lin]⟩
  | n + 1, l, h => by
    have ih := units_span (p := p) n (l.take n) (by rw [List.length_take]; omega)
    rw [units_succ, fs_app]
    refine InSpan.snoc (c := l.getD n 0) (ih.alike (Zm.of_zero _ fun t => ?_))
    dsimp only
    rw [unitL_ev]
    have h1 := ev_take t l n
    rw [List.take_of_length_le h] at h1
    omega

theorem Bas.start {p : Nat} (hp2 : 2 ≤ p) (n : Nat) (E : Nat → List Int) : Bas p n E 0 (units n) where
  mem := fun b hb => by
    obtain ⟨k, hk, rfl⟩ := List.mem_map.1 hb
    have := List.mem_range.1 hk
    exact ⟨unitL_nrm hp2 k, by rw [unitL_len]; omega, fun j hj => by omega⟩
  span := fun l h _ _ => units_span n l h
  len := by rw [units_len]; exact Nat.le_refl _

def eqn (p : Nat) (R : List (List Int)) (k : Nat) : List Int := tab R.length fun i => ((R.getD i []).getD k 0 + if i = k then (p : Int) - 1 else 0) % p

theorem sm_pick (v : List Int) (k : Nat) (c : Int) : ∀ n, sm (fun i => v.getD i 0 * if i = k then c else 0) n = if k < n then c * v.getD k 0 else 0
  | 0 => by simp [sm]
  | n + 1 => by
    simp only [sm, sm_pick v k c n]
    by_cases h : n = k
    · subst h; simp [Int.mul_comm]
    · rw [if_neg h, Int.mul_zero, Int.add_zero]
      by_cases h1 : k < n
      · rw [if_pos h1, if_pos (by omega)]
      · rw [if_neg h1, if_neg (by omega)]

theorem sm_dvd {p : Nat} {F G : Nat → Int} : ∀ n, (∀ i, i < n → (p : Int) ∣ F i - G i) → (p : Int) ∣ sm F n - sm G n
  | 0, _ => by simp [sm]
  | n + 1, h => by
    have h1 := sm_dvd n fun i hi => h i (by omega)
    have h2 := Int.dvd_add h1 (h n (by omega))
    simp only [sm]
    rwa [show sm F n + F n - (sm G n + G n) = sm F n - sm G n + (F n - G n) by omega]

theorem map_getD (R : List (List Int)) (k i : Nat) : (R.map fun r => r.getD k 0).getD i 0 = (R.getD i []).getD k 0 := by
  rcases Nat.lt_or_ge i R.length with h | h
  · simp [List.getD, List.getElem?_eq_getElem h]
  · rw [getD_out (by simpa using h)]
    have : R.getD i [] = [] := by simp [List.getD, List.getElem?_eq_none h]
    rw [this]; rfl

theorem eqn_dot {p : Nat} (R : List (List Int)) (k : Nat) {v : List Int} (hv : v.length ≤ R.length) : (p : Int) ∣ dot v (eqn p R k) - ((tl v R).getD k 0 - v.getD k 0) := by
  rw [dot_tl v R k hv, dot_sm v _ R.length hv, dot_sm v _ R.length hv]
  have h1 : v.getD k 0 = sm (fun i => v.getD i 0 * if i = k then 1 else 0) R.length := by
    rw [sm_pick]
    split
    · omega
    · rw [getD_out (by omega)]
  have h2 : sm (fun i => v.getD i 0 * (R.map fun r => r.getD k 0).getD i 0) R.length - v.getD k 0 = sm (fun i => v.getD i 0 * (R.map fun r => r.getD k 0).getD i 0 + -1 * (v.getD i 0 * if i = k then 1 else 0)) R.length := by
    rw [sm_add, sm_scal, ← h1]; omega
  rw [h2]
  refine sm_dvd _ fun i hi => ?_
  have h4 : (eqn p R k).getD i 0 = ((R.getD i []).getD k 0 + if i = k then (p : Int) - 1 else 0) % p := by
    unfold eqn; rw [tab_getD, if_pos hi]
  rw [h4, map_getD]
  have h5 := emod_alike ((R.getD i []).getD k 0 + if i = k then (p : Int) - 1 else 0) p
  generalize ((R.getD i []).getD k 0 + if i = k then (p : Int) - 1 else 0) % (p : Int) = x at *
  obtain ⟨q, hq⟩ := h5
  by_cases h : i = k
  · rw [if_pos h] at hq ⊢
    refine ⟨v.getD i 0 * (q + 1), ?_⟩
    rw [show x = (R.getD i []).getD k 0 + ((p : Int) - 1) + p * q by omega]
    simp only [rA, rB, rC, rD, rE, rF, rG, rH, rI, rJ, rK]
    omega
  · rw [if_neg h] at hq ⊢
    refine ⟨v.getD i 0 * q, ?_⟩
    rw [show x = (R.getD i []).getD k 0 + p * q by omega]
    simp only [rA, rB, rC, rD, rE, rF, rG, rH, rI, rJ, rK]
    omega

structure RowsOK (p n : Nat) (f : Int → Int) (R : List (List Int)) : Prop where
  len : R.length = n
  mem : ∀ r, r ∈ R → Nrm p r ∧ r.length ≤ n
  row : ∀ i r, R[i]? = some r → Di p f (fun t => t ^ (p * i) - ev t r)

theorem ck_fix {p n : Nat} (hp : Dom (p : Int)) {f : Int → Int} (hfd : Dm p n f) {R : List (List Int)} (hR : RowsOK p n f R) {v : List Int} (hv : v.length ≤ n) : Ck p (eqn p R) n v ↔ Fix p f v := by
  rw [fix_iff hp hfd hR.len (fun r hr => (hR.mem r hr).2) hR.row hv]
  have hlen := hR.len
  constructor
  · intro h k
    rcases Nat.lt_or_ge k n with hk | hk
    · have h1 := Int.dvd_sub (h k hk) (eqn_dot (p := p) R k (v := v) (by omega))
      rwa [show dot v (eqn p R k) - (dot v (eqn p R k) - ((tl v R).getD k 0 - v.getD k 0)) = (tl v R).getD k 0 - v.getD k 0 by omega] at h1
    · have h1 := tl_len v R n fun r hr => (hR.mem r hr).2
      rw [getD_out (by omega), getD_out (by omega)]; simp
  · intro h j hj
    have h1 := Int.dvd_add (eqn_dot (p := p) R j (v := v) (by omega)) (h j)
    rwa [show dot v (eqn p R j) - ((tl v R).getD j 0 - v.getD j 0) + ((tl v R).getD j 0 - v.getD j 0) = dot v (eqn p R j) by omega] at h1

structure FixB (p n : Nat) (f : Int → Int) (B : List (List Int)) : Prop where
  mem : ∀ b, b ∈ B → Nrm p b ∧ b.length ≤ n ∧ Fix p f b
  span : Spans p n f (fs B)
  len : B.length ≤ n

theorem Bas.fix {p n : Nat} (hp0 : 0 < p) (hp : Dom (p : Int)) {f : Int → Int} (hfd : Dm p n f) {R B : List (List Int)} (hR : RowsOK p n f R) (h : Bas p n (eqn p R) n B) : FixB p n f B where
  mem := fun b hb => ⟨(h.mem b hb).1, (h.mem b hb).2.1, (ck_fix hp hfd hR (h.mem b hb).2.1).1 (h.mem b hb).2.2⟩
  span := fun l h1 h2 h3 => h.span l h1 (Red.of_mem hp0 h2) ((ck_fix hp hfd hR h1).2 h3)
  len := h.len

theorem Di.rest {p : Nat} {a b q r : List Int} (h : DM p a b q r) : Di p (fun t => ev t b) (fun t => ev t a - ev t r) :=
  ⟨fun t => ev t q, Po.ev q, h.eq.congr fun t => by dsimp only; rw [Int.mul_comm (ev t b)]; omega⟩

theorem step_pow {p k : Nat} {f s m q r : List Int} (h : Di p (fun t => ev t f) (fun t => t ^ k - ev t s)) (hm : Zm p (fun t => ev t m - ev t s * ev t [0, 1])) (hd : DM p m f q r) : Di p (fun t => ev t f) (fun t => t ^ (k + 1) - ev t r) := by
  refine ((h.mul (Po.xpow 1)).add (Di.rest hd)).alike (hm.neg.congr fun t => ?_)
  rw [Int.pow_succ, Int.pow_one, show ev t [0, 1] = t by simp [ev], Int.mul_sub, Int.mul_comm (t ^ k), Int.mul_comm t (ev t s)]
  omega
theorem row_pow {p i : Nat} {f s u m q r : List Int} (h : Di p (fun t => ev t f) (fun t => t ^ (p * i) - ev t u)) (hs : Di p (fun t => ev t f) (fun t => t ^ p - ev t s)) (hm : Zm p (fun t => ev t m - ev t u * ev t s)) (hd : DM p m f q r) : Di p (fun t => ev t f) (fun t => t ^ (p * (i + 1)) - ev t r) := by
  refine (((h.mul (Po.xpow p)).add (hs.mul (Po.ev u))).add (Di.rest hd)).alike (hm.neg.congr fun t => ?_)
  rw [Nat.mul_add, Nat.mul_one, Int.pow_add, Int.mul_sub, Int.mul_sub, Int.mul_comm (t ^ p) (t ^ (p * i)), Int.mul_comm (t ^ p) (ev t u)]
  omega

end Go.Proofs.YtldcjkhbiffdoabGreatDoor

set_option linter.unusedSimpArgs false
namespace Go.Proofs.YtldcjkhbiffdoabGreatDoor

theorem prn_congr {d d' : Nat → Int → Int} {t : Int} : ∀ n, (∀ k, k < n → d k t = d' k t) → prn d n t = prn d' n t
  | 0, _ => rfl
  | n + 1, h => by
    show prn d n t * d n t = prn d' n t * d' n t
    rw [prn_congr n fun k hk => h k (by omega), h n (by omega)]

structure Prt (p : Nat) (u : List Int) : Prop where
  nrm : Nrm p u
  l1 : lead u = 1
  len : 1 < u.length

theorem Prt.ne {p : Nat} {u : List Int} (h : Prt p u) : u ≠ [] := by
  intro e; have := h.len; subst e; simp at this
theorem Prt.ld {p : Nat} {u : List Int} (h : Prt p u) : Ld (u.length - 1) 1 (fun t => ev t u) := by
  have := (h.nrm.ld h.ne).1
  rwa [h.l1] at this
theorem Prt.not {p : Nat} {u : List Int} (h : Prt p u) : ¬ Dm p 0 (fun t => ev t u) := fun hd => by
  have := (h.nrm.dm h.ne).uniq hd
  have := h.len
  omega

structure SbI (p : Nat) (u b : List Int) (F : List (List Int)) (n : Nat) : Prop where
  ex : ∃ d : Nat → Int → Int, (∀ k, k < n → Po (d k) ∧ Di p (d k) (fun t => ev t u) ∧ Di p (d k) (fun t => ev t b - k) ∧ ∃ α β, Po α ∧ Po β ∧ Zm p (fun t => α t * ev t u + β t * (ev t b - k) - d k t)) ∧ Zm p (fun t => prn d n t - pA (fs F) t) ∧ ∃ e, Ld e 1 (prn d n)
  mem : ∀ x, x ∈ F → Prt p x ∧ Di p (fun t => ev t x) (fun t => ev t u) ∧ ∃ k : Int, Di p (fun t => ev t x) (fun t => ev t b - k)
  len : F.length ≤ n

theorem SbI.start (p : Nat) (u b : List Int) : SbI p u b [] 0 where
  ex := ⟨fun _ _ => 1, fun k hk => by omega, Zm.of_zero _ fun t => by simp [prn, pA, fs], 0, Ld.const 1⟩
  mem := fun x hx => by cases hx
  len := Nat.le_refl _

theorem SbI.step {p : Nat} {u b m g : List Int} {F : List (List Int)} {n : Nat} (h : SbI p u b F n) (hm : Zm p (fun t => ev t m - (ev t b - n * ev t [1]))) (hg : GM p u m g) : SbI p u b (if 1 < g.length then F ++ [g] else F) (n + 1) := by
  have hm' : Zm p (fun t => ev t m - (ev t b - n)) := hm.congr fun t => by simp [ev]
  have hd2 : Di p (fun t => ev t g) (fun t => ev t b - n) := hg.d2.alike (hm'.neg.congr fun t => by omega)
  obtain ⟨d, h1, h2, e, h3⟩ := h.ex
  have g0 := List.length_pos_iff.2 hg.ne
  refine ⟨⟨fun k t => if k = n then ev t g else d k t, fun k hk => ?_, ?_, ?_⟩, fun x hx => ?_, ?_⟩
  · by_cases hkn : k = n
    · subst hkn
      obtain ⟨α, β, q1, q2, q3⟩ := hg.cmb
      simp only [if_true]
      refine ⟨Po.ev g, hg.d1, hd2, α, β, q1, q2, (q3.sub (hm'.mul q2)).congr fun t => ?_⟩
      dsimp only
      simp only [rA, rB, rC, rD, rE, rF, rG, rH, rI, rJ, rK]
      omega
    · simp only [if_neg hkn]
      exact h1 k (by omega)
  · have hpr : ∀ t, prn (fun k t => if k = n then ev t g else d k t) (n + 1) t = prn d n t * ev t g := fun t => by
      show prn _ n t * (if n = n then ev t g else d n t) = _
      rw [if_pos rfl, prn_congr (d' := d) n fun k hk => if_neg (by omega)]
    have h4 : Zm p (fun t => prn d n t * ev t g - pA (fs F) t * ev t g) := (h2.mul (Po.ev g)).congr fun t => by rw [Int.mul_sub, Int.mul_comm (prn d n t), Int.mul_comm (pA (fs F) t)]
    by_cases hl : 1 < g.length
    · rw [if_pos hl]
      refine h4.congr fun t => ?_
      rw [hpr, fs_app]
      have : fs [g] = [fun t => ev t g] := rfl
      rw [this, pA_snoc]
    · rw [if_neg hl]
      have : g = [1] := by
        match g, show g.length = 1 by omega, hg.l1 with
        | [x], _, h1 => have : x = 1 := h1; rw [this]
      refine h4.congr fun t => ?_
      rw [hpr, this]; simp [ev]
  · have := h3.mul hg.ld
    rw [Int.one_mul] at this
    refine ⟨_, this.congr fun t => ?_⟩
    show prn _ n t * (if n = n then ev t g else d n t) = _
    rw [if_pos rfl, prn_congr (d' := d) n fun k hk => if_neg (by omega)]
  · by_cases hl : 1 < g.length
    · rw [if_pos hl] at hx
      rcases List.mem_append.1 hx with hx | hx
      · exact h.mem x hx
      · obtain rfl : x = g := by simpa using hx
        exact ⟨⟨hg.ng, hg.l1, hl⟩, hg.d1, n, hd2⟩
    · rw [if_neg hl] at hx
      exact h.mem x hx
  · have := h.len
    split <;> simp <;> omega

theorem SbI.ends {p : Nat} (hp2 : 2 ≤ p) (hp : Dom (p : Int)) {u b : List Int} {F : List (List Int)} (h : SbI p u b F p) (hu : Prt p u) (hb : Nrm p b) (hfix : Di p (fun t => ev t u) (fun t => ev (t ^ p) b - ev t b)) : Zm p (fun t => ev t u - pA (fs F) t) := by
  obtain ⟨d, h1, h2, e, h3⟩ := h.ex
  obtain ⟨h4, h5⟩ := split_prod hp2 hp (Po.ev u) (fun a ha => (hb.1.mem a ha).1) hfix h1
  have h6 := monic_eq hp h3 hu.ld h4 h5
  exact (h2.sub h6).congr fun t => by omega

structure SbO (p : Nat) (U : List (List Int)) (b : List Int) (i : Nat) (V : List (List Int)) : Prop where
  mem : ∀ x, x ∈ V → Prt p x ∧ (∃ u, u ∈ U ∧ Di p (fun t => ev t x) (fun t => ev t u)) ∧ ∃ k : Int, Di p (fun t => ev t x) (fun t => ev t b - k)
  eq : Zm p (fun t => pA (fs (U.take i)) t - pA (fs V) t)
  len : V.length ≤ p * i

theorem SbO.start (p : Nat) (U : List (List Int)) (b : List Int) : SbO p U b 0 [] where
  mem := fun x hx => by cases hx
  eq := Zm.of_zero _ fun t => by simp [fs, pA]
  len := Nat.zero_le _

theorem SbO.step {p : Nat} {U V F : List (List Int)} {b u : List Int} {i : Nat} (h : SbO p U b i V) (hu : U[i]? = some u) (hF : SbI p u b F p) (he : Zm p (fun t => ev t u - pA (fs F) t)) : SbO p U b (i + 1) (V ++ F) where
  mem := fun x hx => by
    rcases List.mem_append.1 hx with hx | hx
    · exact h.mem x hx
    · obtain ⟨h1, h2, h3⟩ := hF.mem x hx
      exact ⟨h1, ⟨u, List.mem_of_getElem? hu, h2⟩, h3⟩
  eq := by
    have h1 : Po (pA (fs V)) := pA_po _ (fs_po V)
    have h2 : Po (fun t => ev t u) := Po.ev u
    refine ((h.eq.mul h2).add (he.mul h1)).congr fun t => ?_
    rw [take_fs hu, pA_snoc, fs_app, pA_app, Int.mul_sub, Int.mul_sub, Int.mul_comm (ev t u), Int.mul_comm (ev t u)]
    omega
  len := by
    have h1 := h.len
    have h2 := hF.len
    rw [List.length_append, Nat.mul_add, Nat.mul_one]; omega

structure SplO (p : Nat) (f : Int → Int) (c : Int) (B : List (List Int)) (i : Nat) (U : List (List Int)) : Prop where
  mem : ∀ u, u ∈ U → Prt p u ∧ ∀ b, b ∈ B.take i → ∃ k : Int, Di p (fun t => ev t u) (fun t => ev t b - k)
  eq : Zm p (fun t => f t - c * pA (fs U) t)

theorem SplO.di {p : Nat} {f : Int → Int} {c : Int} {B U : List (List Int)} {i : Nat} (h : SplO p f c B i U) {u : List Int} (hu : u ∈ U) : Di p (fun t => ev t u) f := by
  have h1 : Di p (fun t => ev t u) (pA (fs U)) := di_pA (fs U) _ (fs_po U) (List.mem_map.2 ⟨u, hu, rfl⟩)
  exact (h1.mul (Po.const c)).alike h.eq

theorem SplO.fix {p n : Nat} {f : Int → Int} {c : Int} {B U : List (List Int)} {i : Nat} (h : SplO p f c B i U) (hB : FixB p n f B) {u b : List Int} (hu : u ∈ U) (hb : b ∈ B) : Di p (fun t => ev t u) (fun t => ev (t ^ p) b - ev t b) :=
  (h.di hu).trans (hB.mem b hb).2.2

theorem SplO.start {p : Nat} {A g : List Int} (B : List (List Int)) (hA : Nrm p A) (hl : 1 < A.length) (hm : MonO p A g) : SplO p (fun t => ev t A) (lead A) B 0 [g] := by
  have hne : A ≠ [] := by intro e; subst e; simp at hl
  refine ⟨fun u hu => ?_, ?_⟩
  · obtain rfl : u = g := by simpa using hu
    exact ⟨⟨hm.ng, hm.l1, by rw [hm.len]; exact hl⟩, fun b hb => by simp at hb⟩
  · obtain ⟨k, h1, h2, k', h3⟩ := hm.eq
    have h4 : (p : Int) ∣ lead A - k' := by
      have h5 := coef_alike (l := A) (m := g.map fun x => k' * x) (h3.congr fun t => by rw [ev_scal]) (A.length - 1)
      rw [scal_getD] at h5
      have e1 : g.getD (A.length - 1) 0 = 1 := by rw [← hm.len]; exact hm.l1
      rw [e1, Int.mul_one] at h5
      exact h5
    refine (h3.sub (Zm.of_dvd (Po.ev g) h4)).congr fun t => ?_
    show ev t A - lead A * (ev t g * 1) = ev t A - k' * ev t g - (lead A - k') * ev t g
    rw [Int.sub_mul, Int.mul_one]; omega

theorem SplO.next {p : Nat} {f : Int → Int} {c : Int} {B U V : List (List Int)} {i : Nat} {b : List Int} (h : SplO p f c B i U) (hb : B[i]? = some b) (hV : SbO p U b U.length V) : SplO p f c B (i + 1) V := by
  refine ⟨fun u hu => ?_, ?_⟩
  · obtain ⟨h1, ⟨u', h2, h3⟩, h4⟩ := hV.mem u hu
    refine ⟨h1, fun b' hb' => ?_⟩
    rw [List.take_add_one, hb] at hb'
    rcases List.mem_append.1 hb' with hb' | hb'
    · obtain ⟨k, h5⟩ := (h.mem u' h2).2 b' hb'
      exact ⟨k, h3.trans h5⟩
    · obtain rfl : b' = b := by simpa using hb'
      exact h4
  · have h1 := hV.eq
    rw [List.take_length] at h1
    exact (h.eq.add (h1.scal c)).congr fun t => by rw [Int.mul_sub]; omega

theorem SplO.count {p n : Nat} (hp2 : 2 ≤ p) (hp : Dom (p : Int)) {f : Int → Int} {c : Int} {B U : List (List Int)} {i : Nat} (h : SplO p f c B i U) (hfd : Dm p n f) (hsq : Sq p f) (hB : FixB p n f B) (hc : ¬ (p : Int) ∣ c) : U.length ≤ B.length := by
  have := Go.Proofs.YtldcjkhbiffdoabGreatDoor.count hp2 hp hfd hsq (fs_po B) hB.span (U := fs U) (c := c) (fs_po U) (fun u hu => by obtain ⟨l, h1, rfl⟩ := fs_mem hu; exact (h.mem l h1).1.not) hc h.eq
  rwa [fs_len, fs_len] at this

structure SpR (p : Nat) (f : Int → Int) (c : Int) (n : Nat) (U : List (List Int)) : Prop where
  mem : ∀ u, u ∈ U → Prt p u ∧ Irr p (fun t => ev t u)
  eq : Zm p (fun t => f t - c * pA (fs U) t)
  len : U.length ≤ n

theorem SplO.ends {p n : Nat} (hp2 : 2 ≤ p) (hp : Dom (p : Int)) {f : Int → Int} {c : Int} {B U : List (List Int)} {i : Nat} (h : SplO p f c B i U) (hfd : Dm p n f) (hsq : Sq p f) (hB : FixB p n f B) (hc : ¬ (p : Int) ∣ c) (he : B.length ≤ i ∨ B.length ≤ U.length) : SpR p f c n U := by
  have hnot : ∀ u, u ∈ fs U → ¬ Dm p 0 u := fun u hu => by obtain ⟨l, h1, rfl⟩ := fs_mem hu; exact (h.mem l h1).1.not
  refine ⟨fun u hu => ⟨(h.mem u hu).1, ?_⟩, h.eq, Nat.le_trans (h.count hp2 hp hfd hsq hB hc) hB.len⟩
  rcases he with he | he
  · have hbt : B.take i = B := List.take_of_length_le he
    obtain ⟨U1, U2, rfl⟩ := List.append_of_mem hu
    have hz : Zm p (fun t => f t - c * (ev t u * pA (fs (U1 ++ U2)) t)) := h.eq.congr fun t => by
      rw [fs_app, fs_app, pA_app, pA_app]
      show f t - c * (ev t u * (pA (fs U1) t * pA (fs U2) t)) = f t - c * (pA (fs U1) t * (ev t u * pA (fs U2) t))
      rw [Int.mul_left_comm (ev t u)]
    refine berl_full hp2 hp hfd hsq hB.span (Po.ev u) (pA_po _ (fs_po (U1 ++ U2))) hc hz (h.mem u hu).1.not fun b hb => ?_
    obtain ⟨l, h1, rfl⟩ := fs_mem hb
    exact (h.mem u hu).2 l (by rw [hbt]; exact h1)
  · exact berl_count hp2 hp hfd hsq (fs_po B) hB.span (U := fs U) (c := c) (fs_po U) hnot hc h.eq (by rw [fs_len, fs_len]; exact he) _ (List.mem_map.2 ⟨u, hu, rfl⟩)

structure IvO (p : Nat) (a b G L gs ls : List Int) : Prop where
  gc : GcO p b a G L
  ng : Nrm p gs
  nl : Nrm p ls
  sg : Di p (fun t => ev t b) (fun t => ev t G - ev t gs * ev t a)
  sl : Di p (fun t => ev t b) (fun t => ev t L - ev t ls * ev t a)
  gl : G.length ≤ 20
  ll : L.length ≤ a.length
  lg : gs.length ≤ 1 + 20 * (a.length - L.length)
  l2 : ls.length ≤ 1 + 20 * (a.length - L.length)

theorem IvO.start {p : Nat} (hp2 : 2 ≤ p) {a b : List Int} (ha : Nrm p a) (hb : Nrm p b) (hne : b ≠ []) (hl : b.length ≤ 20) : IvO p a b b a [] [1] where
  gc := GcO.start hb ha (.inl hne)
  ng := ⟨Red.nil (by omega), Tr.nil⟩
  nl := ⟨Red.of_mem (by omega) (fun a ha => by simp at ha; omega), fun _ => by simp⟩
  sg := Di.of_eq (s := fun _ => 1) (Po.const 1) fun t => by simp [ev]
  sl := Di.of_zm (Zm.of_zero _ fun t => by simp [ev])
  gl := hl
  ll := Nat.le_refl _
  lg := by simp
  l2 := by simp

theorem IvO.next {p : Nat} {a b G L gs ls q r tk sh : List Int} (h : IvO p a b G L gs ls) (hL : L ≠ []) (ha : a.length ≤ 20) (hd : DM p G L q r) (ht : Zm p (fun t => ev t tk - ev t q * ev t ls)) (htl : tk.length ≤ q.length + ls.length) (hs : sh = ltm p gs tk 1) (hp0 : 0 < p) : IvO p a b L r ls sh := by
  have h1 := ltm_zm (p := p) gs tk 1
  have h0 := List.length_pos_iff.2 hL
  have hq := hd.ql
  have hr := hd.lt
  have hgl := h.gl
  have hll := h.ll
  have hlg := h.lg
  have hl2 := h.l2
  have hln := ltm_len p gs tk 1
  subst hs
  refine ⟨h.gc.next hL hd, h.nl, ltm_nrm hp0 _ _ _, h.sl, ?_, by omega, by omega, by omega, by omega⟩
  refine ((h.sg.sub (h.sl.mul (Po.ev q)))).alike (((hd.eq.neg).sub (h1.mul (Po.ev a))).add (ht.mul (Po.ev a)) |>.congr fun t => ?_)
  generalize ev t (ltm p gs tk 1) = x
  simp only [rA, rB, rC, rD, rE, rF, rG, rH, rI, rJ, rK]
  omega

theorem IvO.ends {p : Nat} (hp : Dom (p : Int)) {a b G gs ls m q r : List Int} {s : Int} (h : IvO p a b G [] gs ls) (hc : Cop p (fun t => ev t a) (fun t => ev t b)) (hs : (p : Int) ∣ G.getD 0 0 * s - 1) (hm : Zm p (fun t => ev t m - ev t gs * ev t [s])) (hd : DM p m b q r) : Nrm p r ∧ r.length < b.length ∧ Di p (fun t => ev t b) (fun t => ev t r * ev t a - 1) := by
  refine ⟨hd.nr, hd.lt, ?_⟩
  have hG : G.length = 1 := by
    have hne : G ≠ [] := h.gc.ne.elim id fun h => absurd rfl h
    have g0 := List.length_pos_iff.2 hne
    refine Classical.byContradiction fun hl => ?_
    obtain ⟨u, v, c, h1, h2, h3, h4⟩ := hc
    have h0 : Di p (fun t => ev t G) (fun t => ev t ([] : List Int)) := Di.of_zm (Zm.of_zero _ fun _ => rfl)
    have hr : Di p (fun t => ev t G) (fun t => ev t G) := Di.of_eq (s := fun _ => 1) (Po.const 1) fun t => by simp
    have d1 := h.gc.g2.di hr h0
    have d2 := h.gc.g1.di hr h0
    have hdc : Di p (fun t => ev t G) (fun _ => c) := ((d1.mul h1).add (d2.mul h2)).alike (h4.neg.congr fun t => by dsimp only; omega)
    refine h3 (not_di_const hp (Po.ev G) (fun hd0 => ?_) hdc)
    have := (h.gc.nA.dm hne).uniq hd0
    omega
  obtain ⟨x, rfl⟩ : ∃ x, G = [x] := by
    match G, hG with
    | [x], _ => exact ⟨x, rfl⟩
  have hs' : (p : Int) ∣ x * s - 1 := by simpa using hs
  have h1 := h.sg
  refine ((((Di.rest hd).mul (Po.ev a)).add ((h1.mul (Po.const s)))).mul (Po.const (-1))).alike (((hm.mul (Po.ev a)).add ((Zm.of_dvd (Po.const 1) hs'))).congr fun t => ?_)
  have e1 : ev t [x] = x := by simp [ev]
  have e2 : ev t [s] = s := by simp [ev]
  rw [e1, e2]
  simp only [rA, rB, rC, rD, rE, rF, rG, rH, rI, rJ, rK]
  omega

def CofR (p : Nat) (f : Int → Int) (u c : List Int) : Prop := Nrm p c ∧ c.length < u.length ∧ ∃ O, Po O ∧ Zm p (fun t => f t - O t * ev t u) ∧ Di p (fun t => ev t u) (fun t => ev t c * O t - 1)

theorem DM.exact {p : Nat} (hp : Dom (p : Int)) {a b q r : List Int} (h : DM p a b q r) (hb : Nrm p b) (hd : Di p (fun t => ev t b) (fun t => ev t a)) : r = [] := by
  refine Classical.byContradiction fun hr => ?_
  have hlt := h.lt
  have hbn : b ≠ [] := by intro e; subst e; simp at hlt
  have h1 : Di p (fun t => ev t b) (fun t => ev t r) := (hd.sub (Di.rest h)).alike (Zm.of_zero _ fun t => by omega)
  obtain ⟨_, _, j, _, _, h2, _⟩ := (h1.dv hp).deg hp (hb.dm hbn) (h.nr.dm hr)
  have := List.length_pos_iff.2 hr
  omega

theorem SpR.di {p n : Nat} {f : Int → Int} {c : Int} {U : List (List Int)} (h : SpR p f c n U) {u : List Int} (hu : u ∈ U) : Di p (fun t => ev t u) f := by
  have h1 : Di p (fun t => ev t u) (pA (fs U)) := di_pA (fs U) _ (fs_po U) (List.mem_map.2 ⟨u, hu, rfl⟩)
  exact (h1.mul (Po.const c)).alike h.eq

theorem SpR.others {p n : Nat} (hp : Dom (p : Int)) {F : List Int} {c : Int} {U : List (List Int)} (h : SpR p (fun t => ev t F) c n U) (hsq : Sq p (fun t => ev t F)) {u q r : List Int} (hu : u ∈ U) (hd : DM p F u q r) : Zm p (fun t => ev t F - ev t q * ev t u) ∧ Cop p (fun t => ev t q) (fun t => ev t u) := by
  have hr := hd.exact hp (h.mem u hu).1.nrm (h.di hu)
  have h1 : Zm p (fun t => ev t F - ev t q * ev t u) := hd.eq.congr fun t => by rw [hr]; simp [ev]
  exact ⟨h1, hsq.cop (c := 1) (Po.ev q) (Po.ev u) (h1.congr fun t => by rw [Int.one_mul])⟩

theorem CofR.of {p : Nat} {F u q r : List Int} (h1 : Zm p (fun t => ev t F - ev t q * ev t u)) (h2 : Nrm p r ∧ r.length < u.length ∧ Di p (fun t => ev t u) (fun t => ev t r * ev t q - 1)) : CofR p (fun t => ev t F) u r := ⟨h2.1, h2.2.1, fun t => ev t q, Po.ev q, h1, h2.2.2⟩

end Go.Proofs.YtldcjkhbiffdoabGreatDoor
