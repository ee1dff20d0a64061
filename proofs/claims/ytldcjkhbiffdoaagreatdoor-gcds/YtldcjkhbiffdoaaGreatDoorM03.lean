import Derived.Test.YtldcjkhbiffdoaaGreatDoorM01
import Derived.Test.YtldcjkhbiffdoaaGreatDoorM00

/-
  Division of polynomials as lists of numbers: level by level, and with levels passed over.
-/
namespace Go.Proofs.YtldcjkhbiffdoaaGreatDoor

/-- R less c x^n b. -/
def take1 (R b : List Int) (c : Int) (n : Nat) : List Int :=
  tz (tab (max R.length (n + b.length)) fun k => R.getD k 0 - (if n ≤ k then c * b.getD (k - n) 0 else 0))

theorem take1_getD (R b : List Int) (c : Int) (n k : Nat) : (take1 R b c n).getD k 0 = R.getD k 0 - (if n ≤ k then c * b.getD (k - n) 0 else 0) := by
  unfold take1
  rw [tz_getD, tab_getD]
  split
  · rfl
  · rw [getD_out (show R.length ≤ k by omega), if_pos (show n ≤ k by omega), getD_out (show b.length ≤ k - n by omega)]
    simp

theorem take1_tr (R b : List Int) (c : Int) (n : Nat) : Tr (take1 R b c n) := tr_tz _

theorem take1_zero {R : List Int} (b : List Int) (n : Nat) (h : Tr R) : take1 R b 0 n = R :=
  (take1_tr _ _ _ _).ext h fun k => by rw [take1_getD]; simp

def lead (b : List Int) : Int := b.getD (b.length - 1) 0

/-- The quotient's coefficients of the n lowest powers, if b divides what is left. -/
def dvs (b : List Int) : Nat → List Int → Option (List Int)
  | 0, R => if R = [] then some [] else none
  | n + 1, R =>
    if (R.getD (n + b.length - 1) 0).tmod (lead b) = 0 then
      (dvs b n (take1 R b ((R.getD (n + b.length - 1) 0).tdiv (lead b)) n)).map (fun q => q ++ [(R.getD (n + b.length - 1) 0).tdiv (lead b)])
    else none

theorem dvs_fail {b R : List Int} {n : Nat} (h : (R.getD (n + b.length - 1) 0).tmod (lead b) ≠ 0) : dvs b (n + 1) R = none := by
  unfold dvs; rw [if_neg h]

theorem dvs_step {b R : List Int} {n : Nat} (h : (R.getD (n + b.length - 1) 0).tmod (lead b) = 0) :
    dvs b (n + 1) R = (dvs b n (take1 R b ((R.getD (n + b.length - 1) 0).tdiv (lead b)) n)).map (fun q => q ++ [(R.getD (n + b.length - 1) 0).tdiv (lead b)]) := by
  rw [dvs]; rw [if_pos h]

theorem dvs_len {b : List Int} : ∀ {n : Nat} {R q : List Int}, dvs b n R = some q → q.length = n
  | 0, R, q, h => by
    unfold dvs at h
    split at h
    · cases h; rfl
    · cases h
  | n + 1, R, q, h => by
    by_cases h1 : (R.getD (n + b.length - 1) 0).tmod (lead b) = 0
    · rw [dvs_step h1] at h
      cases h2 : dvs b n (take1 R b ((R.getD (n + b.length - 1) 0).tdiv (lead b)) n) with
      | none => rw [h2] at h; cases h
      | some q' =>
        rw [h2] at h
        cases h
        simp [dvs_len h2]
    · rw [dvs_fail h1] at h; cases h

theorem dvs_skip {b R : List Int} (hR : Tr R) {n : Nat} (h : R.getD (n + b.length - 1) 0 = 0) : dvs b (n + 1) R = (dvs b n R).map (fun q => q ++ [0]) := by
  rw [dvs_step (by rw [h]; simp), h]
  simp only [Int.zero_tdiv]
  rw [take1_zero b n hR]

theorem map_map_app (o : Option (List Int)) (p q : List Int) : (o.map (fun x => x ++ p)).map (fun x => x ++ q) = o.map (fun x => x ++ (p ++ q)) := by
  cases o with
  | none => rfl
  | some x => simp

theorem dvs_skips {b R : List Int} (hR : Tr R) (n : Nat) (hb : 0 < b.length) : ∀ d, R.length ≤ n + b.length - 1 → dvs b (n + d) R = (dvs b n R).map (fun q => q ++ List.replicate d 0)
  | 0, _ => by
    cases h : dvs b n R with
    | none => simp
    | some q => simp
  | d + 1, h => by
    rw [show n + (d + 1) = n + d + 1 by omega, dvs_skip hR (getD_out (by omega)), dvs_skips hR n hb d h, map_map_app]
    rw [List.replicate_succ']

/-- Where the loop that passes levels over stands. -/
structure DR (b a0 : List Int) (A q : List Int) (n : Nat) : Prop where
  tr : Tr A
  len : A.length ≤ n + b.length - 1
  res : ∃ Q, dvs b (a0.length + 1 - b.length) a0 = (dvs b n A).map (fun x => x ++ Q) ∧ q = tz (List.replicate n 0 ++ Q)
  le : n ≤ a0.length + 1 - b.length

theorem DR.start {b a0 : List Int} (h : Tr a0) : DR b a0 a0 [] (a0.length + 1 - b.length) := by
  refine ⟨h, by omega, ⟨[], ?_, ?_⟩, ?_⟩
  · simp
  · rw [tz_eq Tr.nil]
    intro k
    rw [List.append_nil]
    rcases Nat.lt_or_ge k (a0.length + 1 - b.length) with h | h
    · simp [List.getD, h]
    · rw [getD_out (by simpa using h), getD_out (by simp)]
  · exact Nat.le_refl _

theorem getD_rep_app (n : Nat) (Q : List Int) (k : Nat) : (List.replicate n 0 ++ Q).getD k 0 = if k < n then 0 else Q.getD (k - n) 0 := by
  split
  · rename_i h
    simp [List.getD, List.getElem?_append_left (show k < (List.replicate n (0 : Int)).length by simpa using h), h]
  · rename_i h
    simp [List.getD, List.getElem?_append_right (show (List.replicate n (0 : Int)).length ≤ k by simp; omega)]

/-- A level that is passed with a number. -/
theorem DR.next {b a0 A q : List Int} {n : Nat} (h : DR b a0 A q n) (hb : 0 < b.length) (hA : b.length ≤ A.length) (hm : (lead A).tmod (lead b) = 0) :
    DR b a0 (take1 A b ((lead A).tdiv (lead b)) (A.length - b.length)) (tz (tab (max q.length (A.length - b.length + 1)) fun k => q.getD k 0 + (mono (A.length - b.length) ((lead A).tdiv (lead b))).getD k 0)) (A.length - b.length) ∧ A.length - b.length < n := by
  obtain ⟨htr, hlen, ⟨Q, h1, h2⟩, hle⟩ := h
  obtain ⟨d, hd⟩ : ∃ d, A.length - b.length = d := ⟨_, rfl⟩
  rw [hd]
  have hdn : d < n := by omega
  have hAd : A.length = d + b.length := by omega
  have hlA : lead A = A.getD (d + b.length - 1) 0 := by unfold lead; rw [hAd]
  obtain ⟨e, he⟩ : ∃ e, n = d + 1 + e := ⟨n - (d + 1), by omega⟩
  have h3 : dvs b n A = (dvs b (d + 1) A).map (fun x => x ++ List.replicate e 0) := by
    rw [he]; exact dvs_skips htr (d + 1) hb e (by omega)
  rw [hlA] at hm
  refine ⟨⟨take1_tr _ _ _ _, ?_, ?_, by omega⟩, hdn⟩
  · refine (take1_tr _ _ _ _).lenN fun k hk => ?_
    rw [take1_getD]
    rcases Nat.lt_or_ge k (d + b.length) with h5 | h5
    · have hk1 : k = d + b.length - 1 := by omega
      rw [if_pos (by omega), hlA]
      have hk2 : b.getD (k - d) 0 = lead b := by unfold lead; rw [show k - d = b.length - 1 by omega]
      rw [hk2, hk1]
      have := Int.mul_tdiv_add_tmod (A.getD (d + b.length - 1) 0) (lead b)
      rw [hm, Int.mul_comm] at this
      omega
    · rw [getD_out (show A.length ≤ k by omega), if_pos (by omega), getD_out (show b.length ≤ k - d by omega)]
      simp
  · refine ⟨[(lead A).tdiv (lead b)] ++ (List.replicate e 0 ++ Q), ?_, ?_⟩
    · rw [h1, h3, dvs_step hm, map_map_app, map_map_app, hlA]
    · refine tz_ext fun k => ?_
      have hq : q.getD k 0 = if k < n then 0 else Q.getD (k - n) 0 := by rw [h2, tz_getD, getD_rep_app]
      rw [tab_getD, mono_getD, getD_rep_app]
      split
      · rw [hq]
        rcases Nat.lt_trichotomy k d with h5 | h5 | h5
        · rw [if_pos (by omega), if_neg (by omega), if_pos h5]; simp
        · subst h5
          rw [if_pos hdn, if_pos rfl, if_neg (by omega)]
          simp
        · rw [if_neg (show ¬ k = d by omega), if_neg (show ¬ k < d by omega)]
          rw [show k - d = (k - d - 1) + 1 by omega]
          simp only [List.singleton_append, List.getD_cons_succ, Int.add_zero]
          rw [getD_rep_app]
          by_cases h6 : k < n
          · rw [if_pos h6, if_pos (by omega)]
          · rw [if_neg h6, if_neg (by omega)]
            congr 1; omega
      · rename_i h5
        have h6 : q.getD k 0 = 0 := getD_out (by omega)
        rw [hq] at h6
        rw [if_neg (show ¬ k < d by omega)]
        rw [show k - d = (k - d - 1) + 1 by omega]
        simp only [List.singleton_append, List.getD_cons_succ]
        rw [getD_rep_app]
        by_cases h7 : k < n
        · rw [if_pos (by omega)]
        · rw [if_neg (by omega)]
          rw [if_neg h7] at h6
          rw [show k - d - 1 - e = k - n by omega]
          exact h6.symm

theorem DR.fails {b a0 A q : List Int} {n : Nat} (h : DR b a0 A q n) (hb : 0 < b.length) (hA : b.length ≤ A.length) (hm : (lead A).tmod (lead b) ≠ 0) :
    dvs b (a0.length + 1 - b.length) a0 = none := by
  obtain ⟨htr, hlen, ⟨Q, h1, h2⟩, hle⟩ := h
  obtain ⟨d, hd⟩ : ∃ d, A.length = d + b.length := ⟨A.length - b.length, by omega⟩
  have hlA : lead A = A.getD (d + b.length - 1) 0 := by unfold lead; rw [hd]
  obtain ⟨e, he⟩ : ∃ e, n = d + 1 + e := ⟨n - (d + 1), by omega⟩
  rw [h1, he, dvs_skips htr (d + 1) hb e (by omega)]
  rw [hlA] at hm
  rw [dvs_fail hm]
  rfl

theorem DR.ends {b a0 A q : List Int} {n : Nat} (h : DR b a0 A q n) (hb : 0 < b.length) (hA : A.length < b.length) :
    (A = [] ∧ ∃ Q, dvs b (a0.length + 1 - b.length) a0 = some Q ∧ q = tz Q) ∨ (A ≠ [] ∧ dvs b (a0.length + 1 - b.length) a0 = none) := by
  obtain ⟨htr, hlen, ⟨Q, h1, h2⟩, hle⟩ := h
  have h3 := dvs_skips htr 0 hb n (by omega)
  rw [Nat.zero_add] at h3
  rw [h3] at h1
  by_cases hA0 : A = []
  · left
    refine ⟨hA0, List.replicate n 0 ++ Q, ?_, h2⟩
    rw [h1]
    subst hA0
    simp [dvs]
  · right
    refine ⟨hA0, ?_⟩
    rw [h1]
    simp [dvs, hA0]

/-- All less than a power of ten. -/
def Bd (l : List Int) (e : Nat) : Prop := ∀ k, (l.getD k 0).natAbs < 10 ^ e

theorem Bd.mono {l : List Int} {e f : Nat} (h : Bd l e) (hf : e ≤ f) : Bd l f :=
  fun k => Nat.lt_of_lt_of_le (h k) (Nat.pow_le_pow_right (by omega) hf)

theorem lt_two_pow {e f : Nat} {x y c : Int} (hx : x.natAbs < 10 ^ e) (hy : y.natAbs < 10 ^ f) (hc : c.natAbs < 10 ^ e) : (x - c * y).natAbs < 10 ^ (e + f + 1) := by
  have h1 : (x - c * y).natAbs ≤ x.natAbs + (c * y).natAbs := by omega
  rw [Int.natAbs_mul] at h1
  have h2 : c.natAbs * y.natAbs ≤ 10 ^ e * 10 ^ f := Nat.mul_le_mul (Nat.le_of_lt hc) (Nat.le_of_lt hy)
  have h3 : 10 ^ e ≤ 10 ^ e * 10 ^ f := Nat.le_mul_of_pos_right _ (Nat.pow_pos (by omega))
  rw [Nat.pow_succ, Nat.pow_add]
  have h4 : 0 < 10 ^ e * 10 ^ f := Nat.mul_pos (Nat.pow_pos (by omega)) (Nat.pow_pos (by omega))
  omega

theorem Bd.take1 {A b : List Int} {e f : Nat} (hA : Bd A e) (hb : Bd b f) {c : Int} (hc : c.natAbs < 10 ^ e) (n : Nat) : Bd (take1 A b c n) (e + f + 1) := by
  intro k
  rw [take1_getD]
  split
  · exact lt_two_pow (hA k) (hb _) hc
  · rw [Int.sub_zero]
    exact Nat.lt_of_lt_of_le (hA k) (Nat.pow_le_pow_right (by omega) (by omega))

theorem natAbs_tdiv_le (a b : Int) : (a.tdiv b).natAbs ≤ a.natAbs := by
  rw [Int.natAbs_tdiv]; exact Nat.div_le_self _ _

end Go.Proofs.YtldcjkhbiffdoaaGreatDoor

/-
  Contents, primitive parts and greatest common divisors of polynomials as lists of numbers.
-/
namespace Go.Proofs.YtldcjkhbiffdoaaGreatDoor

/-- The greatest number that divides all. -/
def cont (l : List Int) : Nat := l.foldl (fun g c => Int.gcd g c) 0

theorem foldl_gcd_dvd : ∀ (l : List Int) (g : Nat), (l.foldl (fun g c => Int.gcd g c) g) ∣ g ∧ ∀ c, c ∈ l → ((l.foldl (fun g c => Int.gcd (g : Int) c) g : Nat) : Int) ∣ c
  | [], g => ⟨Nat.dvd_refl _, fun c h => by simp at h⟩
  | x :: l, g => by
    obtain ⟨h1, h2⟩ := foldl_gcd_dvd l (Int.gcd g x)
    refine ⟨Nat.dvd_trans h1 ?_, fun c hc => ?_⟩
    · have := Int.gcd_dvd_left (a := (g : Int)) (b := x)
      exact Int.natCast_dvd_natCast.1 this
    · rcases List.mem_cons.1 hc with rfl | hc
      · exact Int.dvd_trans (Int.natCast_dvd_natCast.2 h1) (Int.gcd_dvd_right (a := (g : Int)) (b := c))
      · exact h2 c hc

theorem cont_dvd {l : List Int} {c : Int} (h : c ∈ l) : ((cont l : Nat) : Int) ∣ c := (foldl_gcd_dvd l 0).2 c h

theorem mem_of_getD {l : List Int} {k : Nat} (h : l.getD k 0 ≠ 0) : l.getD k 0 ∈ l := by
  rcases Nat.lt_or_ge k l.length with h1 | h1
  · rw [show l.getD k 0 = l[k] by simp [List.getD, List.getElem?_eq_getElem h1]]
    exact List.getElem_mem h1
  · exact absurd (getD_out h1) h

theorem cont_dvd_getD (l : List Int) (k : Nat) : ((cont l : Nat) : Int) ∣ l.getD k 0 := by
  by_cases h : l.getD k 0 = 0
  · rw [h]; exact Int.dvd_zero _
  · exact cont_dvd (mem_of_getD h)

theorem cont_pos {l : List Int} {k : Nat} (h : l.getD k 0 ≠ 0) : 0 < cont l := by
  rcases Nat.eq_zero_or_pos (cont l) with h0 | h0
  · have := cont_dvd_getD l k
    rw [h0] at this
    exact absurd (Int.zero_dvd.1 this) h
  · exact h0

theorem foldl_gcd_mul (c : Int) : ∀ (l : List Int) (g : Nat), (l.map (fun x => c * x)).foldl (fun g x => Int.gcd (g : Int) x) (c.natAbs * g) = c.natAbs * l.foldl (fun g x => Int.gcd (g : Int) x) g
  | [], g => rfl
  | x :: l, g => by
    show (l.map (fun x => c * x)).foldl (fun g x => Int.gcd (g : Int) x) (Int.gcd ((c.natAbs * g : Nat) : Int) (c * x)) = _
    have h : Int.gcd ((c.natAbs * g : Nat) : Int) (c * x) = c.natAbs * Int.gcd (g : Int) x := by
      unfold Int.gcd
      rw [Int.natAbs_mul, Int.natAbs_natCast, Int.natAbs_natCast, Nat.gcd_mul_left]
    rw [h, foldl_gcd_mul c l]
    rfl

theorem cont_mul (c : Int) (l : List Int) : cont (l.map fun x => c * x) = c.natAbs * cont l := by
  have := foldl_gcd_mul c l 0
  rw [Nat.mul_zero] at this
  exact this

/-- The content with the sign of the last number. -/
def scont (l : List Int) : Int := if lead l < 0 then -(cont l : Int) else (cont l : Int)

def prim (l : List Int) : List Int := l.map fun x => x.tdiv (scont l)

theorem prim_len (l : List Int) : (prim l).length = l.length := by simp [prim]

theorem prim_getD (l : List Int) (k : Nat) : (prim l).getD k 0 = (l.getD k 0).tdiv (scont l) := by
  unfold prim
  rcases Nat.lt_or_ge k l.length with h | h
  · simp [List.getD, List.getElem?_map, List.getElem?_eq_getElem h]
  · rw [getD_out (by simpa using h), getD_out h]; simp

theorem scont_dvd (l : List Int) (k : Nat) : scont l ∣ l.getD k 0 := by
  unfold scont
  split
  · exact Int.neg_dvd.2 (cont_dvd_getD l k)
  · exact cont_dvd_getD l k

theorem prim_mul (l : List Int) (k : Nat) : l.getD k 0 = scont l * (prim l).getD k 0 := by
  rw [prim_getD]
  exact (Int.mul_tdiv_cancel' (scont_dvd l k)).symm

theorem scont_ne {l : List Int} (h : Tr l) (hne : l ≠ []) : scont l ≠ 0 := by
  have := cont_pos (h hne)
  unfold scont
  split <;> omega

theorem Tr.prim {l : List Int} (h : Tr l) : Tr (prim l) := by
  intro hne
  have hl : l ≠ [] := by intro e; subst e; exact hne rfl
  intro h0
  have := prim_mul l ((Go.Proofs.YtldcjkhbiffdoaaGreatDoor.prim l).length - 1)
  rw [h0, Int.mul_zero, prim_len] at this
  exact h hl this

theorem scal_getD (c : Int) (l : List Int) (k : Nat) : (l.map fun x => c * x).getD k 0 = c * l.getD k 0 := by
  rcases Nat.lt_or_ge k l.length with h | h
  · simp [List.getD, List.getElem?_map, List.getElem?_eq_getElem h]
  · rw [getD_out (by simpa using h), getD_out h]; simp

theorem Tr.scal {c : Int} (hc : c ≠ 0) {l : List Int} (h : Tr l) : Tr (l.map fun x => c * x) := by
  intro hne
  have hl : l ≠ [] := by intro e; subst e; exact hne rfl
  rw [scal_getD, List.length_map]
  exact Int.mul_ne_zero hc (h hl)

theorem lead_scal (c : Int) (l : List Int) : lead (l.map fun x => c * x) = c * lead l := by
  unfold lead
  rw [scal_getD, List.length_map]

theorem scont_scal {c : Int} (hc : c ≠ 0) {l : List Int} (hl : Tr l) (hne : l ≠ []) : scont (l.map fun x => c * x) = c * scont l := by
  have h1 : lead l ≠ 0 := hl hne
  unfold scont
  rw [lead_scal, cont_mul, Int.natCast_mul]
  rcases Int.lt_or_lt_of_ne hc with h2 | h2
  · have h3 : ((c.natAbs : Nat) : Int) = -c := by omega
    rcases Int.lt_or_lt_of_ne h1 with h4 | h4
    · have : 0 < c * lead l := Int.mul_pos_of_neg_of_neg h2 h4
      rw [if_neg (by omega), if_pos h4, h3]
      simp [Int.neg_mul, Int.mul_neg]
    · have : c * lead l < 0 := Int.mul_neg_of_neg_of_pos h2 h4
      rw [if_pos this, if_neg (by omega), h3]
      simp [Int.neg_mul]
  · have h3 : ((c.natAbs : Nat) : Int) = c := by omega
    rcases Int.lt_or_lt_of_ne h1 with h4 | h4
    · have : c * lead l < 0 := Int.mul_neg_of_pos_of_neg h2 h4
      rw [if_pos this, if_pos h4, h3]
      simp [Int.mul_neg]
    · have : 0 < c * lead l := Int.mul_pos h2 h4
      rw [if_neg (by omega), if_neg (by omega), h3]

/-- A multiple's primitive part. -/
theorem prim_scal {c : Int} (hc : c ≠ 0) {l : List Int} (hl : Tr l) : prim (l.map fun x => c * x) = prim l := by
  by_cases hne : l = []
  · subst hne; rfl
  · refine ext_getD (by simp [prim_len]) fun k => ?_
    have h0 := scont_ne hl hne
    have h1 := prim_mul l k
    have h2 := prim_mul (l.map fun x => c * x) k
    rw [scal_getD, scont_scal hc hl hne, h1, ← Int.mul_assoc] at h2
    exact (Int.eq_of_mul_eq_mul_left (Int.mul_ne_zero hc h0) h2).symm

theorem prim_of_mul {c : Int} (hc : c ≠ 0) {l m : List Int} (hl : Tr l) (hm : Tr m) (h : ∀ k, m.getD k 0 = c * l.getD k 0) : prim m = prim l := by
  have : m = l.map fun x => c * x := hm.ext (Tr.scal hc hl) fun k => by rw [h, scal_getD]
  rw [this, prim_scal hc hl]

theorem prim_prim {l : List Int} (h : Tr l) : prim (prim l) = prim l := by
  by_cases hne : l = []
  · subst hne; rfl
  · exact (prim_of_mul (scont_ne h hne) h.prim h fun k => prim_mul l k).symm

theorem Bd.prim {l : List Int} {e : Nat} (h : Bd l e) : Bd (prim l) e := by
  intro k
  rw [prim_getD]
  exact Nat.lt_of_le_of_lt (natAbs_tdiv_le _ _) (h k)

/-- The one of less degree taken from the other, times what makes it possible. -/
def elim (A B : List Int) : List Int :=
  tz (tab (max A.length (A.length - B.length + B.length)) fun k => A.getD k 0 * lead B - (if A.length - B.length ≤ k then lead A * B.getD (k - (A.length - B.length)) 0 else 0))

theorem elim_getD (A B : List Int) (k : Nat) : (elim A B).getD k 0 = A.getD k 0 * lead B - (if A.length - B.length ≤ k then lead A * B.getD (k - (A.length - B.length)) 0 else 0) := by
  unfold elim
  rw [tz_getD, tab_getD]
  split
  · rfl
  · rw [getD_out (show A.length ≤ k by omega), if_pos (show A.length - B.length ≤ k by omega), getD_out (show B.length ≤ k - (A.length - B.length) by omega)]
    simp

theorem elim_tr (A B : List Int) : Tr (elim A B) := tr_tz _

theorem elim_len {A B : List Int} (hB : 0 < B.length) (h : B.length ≤ A.length) : (elim A B).length < A.length := by
  have : (elim A B).length ≤ A.length - 1 := by
    refine (elim_tr A B).lenN fun k hk => ?_
    rw [elim_getD]
    rcases Nat.lt_or_ge k A.length with h1 | h1
    · have hk1 : k = A.length - 1 := by omega
      rw [if_pos (by omega)]
      have h2 : B.getD (k - (A.length - B.length)) 0 = lead B := by unfold lead; rw [show k - (A.length - B.length) = B.length - 1 by omega]
      have h3 : A.getD k 0 = lead A := by unfold lead; rw [hk1]
      rw [h2, h3]; omega
    · rw [getD_out h1, if_pos (by omega), getD_out (show B.length ≤ k - (A.length - B.length) by omega)]; simp
  omega

theorem lt_two_mul {e f : Nat} {x y c d : Int} (hx : x.natAbs < 10 ^ e) (hy : y.natAbs < 10 ^ f) (hc : c.natAbs < 10 ^ e) (hd : d.natAbs < 10 ^ f) : (x * d - c * y).natAbs < 10 ^ (e + f + 1) := by
  have h1 : (x * d - c * y).natAbs ≤ (x * d).natAbs + (c * y).natAbs := by omega
  rw [Int.natAbs_mul, Int.natAbs_mul] at h1
  have h2 : c.natAbs * y.natAbs ≤ 10 ^ e * 10 ^ f := Nat.mul_le_mul (Nat.le_of_lt hc) (Nat.le_of_lt hy)
  have h3 : x.natAbs * d.natAbs ≤ 10 ^ e * 10 ^ f := Nat.mul_le_mul (Nat.le_of_lt hx) (Nat.le_of_lt hd)
  rw [Nat.pow_succ, Nat.pow_add]
  have h4 : 0 < 10 ^ e * 10 ^ f := Nat.mul_pos (Nat.pow_pos (by omega)) (Nat.pow_pos (by omega))
  omega

theorem Bd.lead {l : List Int} {e : Nat} (h : Bd l e) : (lead l).natAbs < 10 ^ e := h _

theorem Bd.elim {A B : List Int} {e f : Nat} (hA : Bd A e) (hB : Bd B f) : Bd (elim A B) (e + f + 1) := by
  intro k
  rw [elim_getD]
  split
  · exact lt_two_mul (hA k) (hB _) hA.lead hB.lead
  · have := lt_two_mul (y := 0) (hA k) (by have := hB 0; omega) hA.lead hB.lead
    rwa [Int.mul_zero] at this

/-- The greatest common divisor of two primitive ones, as the document's answer goes. -/
def gfun : Nat → List Int → List Int → List Int
  | 0, A, B => if A = [] then B else A
  | n + 1, A, B =>
    if A = [] then B else if B = [] then A
    else if A.length < B.length then gfun n (prim (elim B A)) A else gfun n (prim (elim A B)) B

theorem gfun_left (n : Nat) (B : List Int) : gfun n [] B = B := by
  cases n <;> simp [gfun]
theorem gfun_right (n : Nat) (A : List Int) : gfun n A [] = A := by
  cases n with
  | zero => by_cases h : A = [] <;> simp [gfun, h]
  | succ n => by_cases h : A = [] <;> simp [gfun, h]
theorem gfun_ge (n : Nat) {A B : List Int} (hB : B ≠ []) (h : B.length ≤ A.length) : gfun (n + 1) A B = gfun n (prim (elim A B)) B := by
  have hA : A ≠ [] := by intro e; subst e; exact hB (List.length_eq_zero_iff.1 (by simpa using h))
  conv => lhs; unfold gfun
  rw [if_neg hA, if_neg hB, if_neg (by omega)]
theorem gfun_lt (n : Nat) {A B : List Int} (hA : A ≠ []) (h : A.length < B.length) : gfun (n + 1) A B = gfun n (prim (elim B A)) A := by
  have hB : B ≠ [] := by intro e; subst e; simp at h
  conv => lhs; unfold gfun
  rw [if_neg hA, if_neg hB, if_pos h]
theorem gfun_swap (n : Nat) {A B : List Int} (h : A.length ≠ B.length) (hn : 0 < n) : gfun n A B = gfun n B A := by
  obtain ⟨m, rfl⟩ : ∃ m, n = m + 1 := ⟨n - 1, by omega⟩
  by_cases hA : A = []
  · subst hA; rw [gfun_left, gfun_right]
  · by_cases hB : B = []
    · subst hB; rw [gfun_left, gfun_right]
    · rcases Nat.lt_or_gt_of_ne h with h1 | h1
      · rw [gfun_lt m hA h1, gfun_ge m hA (by omega)]
      · rw [gfun_lt m hB h1, gfun_ge m hB (by omega)]

/-- More rounds than needed change nothing. -/
theorem gfun_more : ∀ (n : Nat) {A B : List Int}, A.length + B.length ≤ n → gfun (n + 1) A B = gfun n A B
  | 0, A, B, h => by
    obtain rfl : A = [] := List.length_eq_zero_iff.1 (by omega)
    rw [gfun_left, gfun_left]
  | n + 1, A, B, h => by
    by_cases hA : A = []
    · subst hA; rw [gfun_left, gfun_left]
    · by_cases hB : B = []
      · subst hB; rw [gfun_right, gfun_right]
      · have hA1 := List.length_pos_iff.2 hA
        have hB1 := List.length_pos_iff.2 hB
        rcases Nat.lt_or_ge A.length B.length with h1 | h1
        · rw [gfun_lt _ hA h1, gfun_lt _ hA h1]
          have := elim_len hA1 (Nat.le_of_lt h1)
          exact gfun_more n (by rw [prim_len]; omega)
        · rw [gfun_ge _ hB h1, gfun_ge _ hB h1]
          have := elim_len hB1 h1
          exact gfun_more n (by rw [prim_len]; omega)

/-- The greatest common divisor of any two. -/
def pgcd (a b : List Int) : List Int := gfun (a.length + b.length) (prim a) (prim b)

end Go.Proofs.YtldcjkhbiffdoaaGreatDoor

/-
  What is left of a multiple of one polynomial when another has been taken away, level by level; and Horner's way against powers.
-/
namespace Go.Proofs.YtldcjkhbiffdoaaGreatDoor

/-- R times b's lead, less R's number at the level n times b. -/
def rest1 (R b : List Int) (n : Nat) : List Int :=
  tab (max R.length (n + b.length)) fun k => R.getD k 0 * lead b - (if n ≤ k then b.getD (k - n) 0 * R.getD (n + b.length - 1) 0 else 0)

theorem rest1_getD (R b : List Int) (n k : Nat) : (rest1 R b n).getD k 0 = R.getD k 0 * lead b - (if n ≤ k then b.getD (k - n) 0 * R.getD (n + b.length - 1) 0 else 0) := by
  unfold rest1
  rw [tab_getD]
  split
  · rfl
  · rw [getD_out (show R.length ≤ k by omega), if_pos (show n ≤ k by omega), getD_out (show b.length ≤ k - n by omega)]
    simp

/-- Where the taking away stands: R is a number times A, which is primitive. -/
def RO (b A0 R : List Int) (n : Nat) : Prop :=
  ∃ A c, c ≠ 0 ∧ (∀ k, R.getD k 0 = c * A.getD k 0) ∧ Tr A ∧ prim A = A ∧ A.length ≤ n + b.length - 1 ∧ A.length ≤ A0.length ∧ gfun (A0.length + b.length) A0 b = gfun (A0.length + b.length) A b

theorem RO.start {b A0 : List Int} (h : Tr A0) (hp : prim A0 = A0) : RO b A0 A0 (A0.length + 1 - b.length) :=
  ⟨A0, 1, by omega, fun k => by rw [Int.one_mul], h, hp, by omega, Nat.le_refl _, rfl⟩

theorem RO.next {b A0 R : List Int} {n : Nat} (h : RO b A0 R (n + 1)) (hb : Tr b) (hb0 : b ≠ []) : RO b A0 (rest1 R b n) n := by
  obtain ⟨A, c, hc, hR, hA, hpA, hlen, hle, hg⟩ := h
  have hb1 := List.length_pos_iff.2 hb0
  have hlb : lead b ≠ 0 := hb hb0
  by_cases h0 : A.getD (n + b.length - 1) 0 = 0
  · refine ⟨A, c * lead b, Int.mul_ne_zero hc hlb, fun k => ?_, hA, hpA, ?_, hle, hg⟩
    · rw [rest1_getD, hR (n + b.length - 1), h0, Int.mul_zero]
      simp only [Int.mul_zero, ite_self, Int.sub_zero]
      rw [hR k, Int.mul_assoc, Int.mul_assoc, Int.mul_comm (lead b)]
    · refine hA.lenN fun k hk => ?_
      rcases (show k = n + b.length - 1 ∨ n + b.length ≤ k by omega) with rfl | h1
      · exact h0
      · exact getD_out (by omega)
  · have hAl : A.length = n + b.length := by
      rcases Nat.lt_or_ge (n + b.length - 1) A.length with h1 | h1
      · omega
      · exact absurd (getD_out h1) h0
    have hlA : A.getD (n + b.length - 1) 0 = lead A := by unfold lead; rw [hAl]
    have hR2 : ∀ k, (rest1 R b n).getD k 0 = c * (elim A b).getD k 0 := by
      intro k
      rw [rest1_getD, elim_getD, hR k, hR (n + b.length - 1), hlA, show A.length - b.length = n by omega]
      split
      · rw [Int.mul_sub, Int.mul_assoc]
        congr 1
        rw [Int.mul_left_comm, Int.mul_comm (b.getD (k - n) 0)]
      · rw [Int.sub_zero, Int.sub_zero, Int.mul_assoc]
    have hel := elim_len hb1 (show b.length ≤ A.length by omega)
    have hg2 : gfun (A0.length + b.length) A0 b = gfun (A0.length + b.length) (prim (elim A b)) b := by
      rw [hg]
      obtain ⟨f, hf⟩ : ∃ f, A0.length + b.length = f + 1 := ⟨A0.length + b.length - 1, by omega⟩
      rw [hf, gfun_ge f hb0 (by omega)]
      exact (gfun_more f (by rw [prim_len]; omega)).symm
    by_cases he : elim A b = []
    · refine ⟨[], 1, by omega, fun k => ?_, Tr.nil, rfl, by simp, by simp, ?_⟩
      · rw [hR2, he]; simp
      · rw [hg2, he]; rfl
    · refine ⟨prim (elim A b), c * scont (elim A b), Int.mul_ne_zero hc (scont_ne (elim_tr _ _) he), fun k => ?_, (elim_tr _ _).prim, prim_prim (elim_tr _ _), ?_, ?_, hg2⟩
      · rw [hR2, Int.mul_assoc, ← prim_mul]
      · rw [prim_len]; omega
      · rw [prim_len]; omega

theorem RO.ends {b A0 R : List Int} (h : RO b A0 R 0) (hb0 : b ≠ []) :
    (prim (tz R)).length < b.length ∧ Tr (prim (tz R)) ∧ prim (prim (tz R)) = prim (tz R) ∧ gfun (A0.length + b.length) A0 b = gfun (A0.length + b.length) b (prim (tz R)) := by
  obtain ⟨A, c, hc, hR, hA, hpA, hlen, hle, hg⟩ := h
  have hb1 := List.length_pos_iff.2 hb0
  have h1 : prim (tz R) = A := by
    rw [prim_of_mul hc hA (tr_tz R) fun k => by rw [tz_getD, hR], hpA]
  rw [h1]
  refine ⟨by omega, hA, hpA, ?_⟩
  rw [hg]
  exact gfun_swap _ (by omega) (by omega)

theorem Bd.rest1 {R b : List Int} {e f : Nat} (hR : Bd R e) (hb : Bd b f) (n : Nat) : Bd (rest1 R b n) (e + f + 1) := by
  intro k
  rw [rest1_getD]
  split
  · rw [Int.mul_comm (b.getD (k - n) 0)]
    exact lt_two_mul (hR k) (hb _) (hR _) hb.lead
  · have := lt_two_mul (y := 0) (hR k) (by have := hb 0; omega) (hR 0) hb.lead
    rwa [Int.mul_zero] at this

/-- Fewer rounds are as good, where they are enough. -/
theorem gfun_eq {m n : Nat} {A B : List Int} (hm : A.length + B.length ≤ m) (hn : A.length + B.length ≤ n) : gfun m A B = gfun n A B := by
  have : ∀ d, gfun (A.length + B.length + d) A B = gfun (A.length + B.length) A B := by
    intro d
    induction d with
    | zero => rfl
    | succ d ih => rw [← Nat.add_assoc, gfun_more _ (by omega), ih]
  obtain ⟨d, rfl⟩ : ∃ d, m = A.length + B.length + d := ⟨m - (A.length + B.length), by omega⟩
  obtain ⟨d', rfl⟩ : ∃ d', n = A.length + B.length + d' := ⟨n - (A.length + B.length), by omega⟩
  rw [this, this]

/-! Horner's way: T multiplies by x + s. -/

def shT (s : Int) (f : Nat → Int) : Nat → Int := fun k => f k * s + (if k = 0 then 0 else f (k - 1))
def shP (s : Int) : Nat → Nat → Int
  | 0 => fun k => if k = 0 then 1 else 0
  | n + 1 => shT s (shP s n)
/-- The sum of the first n numbers times the powers of x + s. -/
def shS (s : Int) (zs : List Int) : Nat → Nat → Int
  | 0 => fun _ => 0
  | n + 1 => fun k => shS s zs n k + shP s n k * zs.getD n 0

/-- Horner's way, from the n-th number on, d more. -/
def shH (s : Int) (zs : List Int) (n : Nat) : Nat → Nat → Int
  | 0 => fun _ => 0
  | d + 1 => fun k => shT s (shH s zs (n + 1) d) k + (if k = 0 then zs.getD n 0 else 0)

theorem shT_add (s : Int) (f g : Nat → Int) (k : Nat) : shT s (fun j => f j + g j) k = shT s f k + shT s g k := by
  show (f k + g k) * s + (if k = 0 then 0 else f (k - 1) + g (k - 1)) = (f k * s + (if k = 0 then 0 else f (k - 1))) + (g k * s + (if k = 0 then 0 else g (k - 1)))
  split
  · rw [Int.add_mul]; omega
  · rw [Int.add_mul]; omega

theorem shT_mul (s : Int) (f : Nat → Int) (c : Int) (k : Nat) : shT s (fun j => f j * c) k = shT s f k * c := by
  unfold shT
  split
  · rw [Int.add_mul, Int.zero_mul, Int.mul_assoc, Int.mul_assoc, Int.mul_comm c]
  · rw [Int.add_mul, Int.mul_assoc, Int.mul_assoc, Int.mul_comm c]

/-- The sum of the numbers from n on times the powers from m on, d of them. -/
def shG (s : Int) (zs : List Int) (n m : Nat) : Nat → Nat → Int
  | 0 => fun _ => 0
  | d + 1 => fun k => shP s m k * zs.getD n 0 + shG s zs (n + 1) (m + 1) d k

theorem shG_T (s : Int) (zs : List Int) : ∀ d n m k, shG s zs n (m + 1) d k = shT s (shG s zs n m d) k
  | 0, n, m, k => by unfold shG shT; simp
  | d + 1, n, m, k => by
    show shP s (m + 1) k * zs.getD n 0 + shG s zs (n + 1) (m + 1 + 1) d k = shT s (fun j => shP s m j * zs.getD n 0 + shG s zs (n + 1) (m + 1) d j) k
    rw [shT_add, shT_mul, shG_T s zs d]
    rfl

theorem shH_G (s : Int) (zs : List Int) : ∀ d n k, shH s zs n d k = shG s zs n 0 d k
  | 0, n, k => rfl
  | d + 1, n, k => by
    show shT s (shH s zs (n + 1) d) k + (if k = 0 then zs.getD n 0 else 0) = shP s 0 k * zs.getD n 0 + shG s zs (n + 1) (0 + 1) d k
    rw [shG_T, show shH s zs (n + 1) d = shG s zs (n + 1) 0 d from funext fun k => shH_G s zs d (n + 1) k]
    have : (if k = 0 then zs.getD n 0 else 0) = shP s 0 k * zs.getD n 0 := by
      show _ = (if k = 0 then 1 else 0) * zs.getD n 0
      split <;> simp
    rw [this]; omega

theorem shG_snoc (s : Int) (zs : List Int) : ∀ d n m k, shG s zs n m (d + 1) k = shG s zs n m d k + shP s (m + d) k * zs.getD (n + d) 0
  | 0, n, m, k => by show shP s m k * zs.getD n 0 + 0 = 0 + _; rw [Nat.add_zero, Nat.add_zero]; omega
  | d + 1, n, m, k => by
    show shP s m k * zs.getD n 0 + shG s zs (n + 1) (m + 1) (d + 1) k = shP s m k * zs.getD n 0 + shG s zs (n + 1) (m + 1) d k + _
    rw [shG_snoc s zs d (n + 1) (m + 1) k, show m + 1 + d = m + (d + 1) by omega, show n + 1 + d = n + (d + 1) by omega]
    omega

theorem shS_G (s : Int) (zs : List Int) : ∀ d k, shS s zs d k = shG s zs 0 0 d k
  | 0, k => rfl
  | d + 1, k => by
    rw [shG_snoc]
    show shS s zs d k + shP s d k * zs.getD d 0 = _
    rw [shS_G s zs d k, Nat.zero_add]

/-- Both ways come to one. -/
theorem shS_H (s : Int) (zs : List Int) (d k : Nat) : shS s zs d k = shH s zs 0 d k := by rw [shS_G, shH_G]

theorem shP_out (s : Int) : ∀ n k, n < k → shP s n k = 0
  | 0, k, h => by show (if k = 0 then (1 : Int) else 0) = 0; rw [if_neg (by omega)]
  | n + 1, k, h => by
    show shP s n k * s + (if k = 0 then 0 else shP s n (k - 1)) = 0
    rw [shP_out s n k (by omega), if_neg (by omega), shP_out s n (k - 1) (by omega)]; simp

theorem shS_out (s : Int) (zs : List Int) : ∀ n k, n ≤ k → shS s zs n k = 0
  | 0, _, _ => rfl
  | n + 1, k, h => by
    show shS s zs n k + shP s n k * zs.getD n 0 = 0
    rw [shS_out s zs n k (by omega), shP_out s n k (by omega)]; simp

theorem shH_out (s : Int) (zs : List Int) : ∀ d n k, d ≤ k → shH s zs n d k = 0
  | 0, n, k, _ => rfl
  | d + 1, n, k, h => by
    show shH s zs (n + 1) d k * s + (if k = 0 then 0 else shH s zs (n + 1) d (k - 1)) + (if k = 0 then zs.getD n 0 else 0) = 0
    rw [shH_out s zs d (n + 1) k (by omega), if_neg (by omega), if_neg (by omega), shH_out s zs d (n + 1) (k - 1) (by omega)]; simp

/-- The numbers stay small. -/
theorem shP_bd {s : Int} (hs : s.natAbs ≤ 99) : ∀ n k, (shP s n k).natAbs ≤ 100 ^ n
  | 0, k => by show (if k = 0 then (1 : Int) else 0).natAbs ≤ 1; split <;> simp
  | n + 1, k => by
    show (shP s n k * s + (if k = 0 then 0 else shP s n (k - 1))).natAbs ≤ 100 ^ (n + 1)
    have h1 := shP_bd hs n k
    have h2 : (if k = 0 then 0 else shP s n (k - 1)).natAbs ≤ 100 ^ n := by
      split
      · exact Nat.zero_le _
      · exact shP_bd hs n (k - 1)
    have h3 : (shP s n k * s + (if k = 0 then 0 else shP s n (k - 1))).natAbs ≤ (shP s n k * s).natAbs + (if k = 0 then 0 else shP s n (k - 1)).natAbs := Int.natAbs_add_le _ _
    rw [Int.natAbs_mul] at h3
    have h4 : (shP s n k).natAbs * s.natAbs ≤ 100 ^ n * 99 := Nat.mul_le_mul h1 hs
    rw [Nat.pow_succ]
    omega

theorem shS_bd {s : Int} (hs : s.natAbs ≤ 99) {zs : List Int} {M : Nat} (hz : ∀ k, (zs.getD k 0).natAbs ≤ M) : ∀ n k, (shS s zs n k).natAbs ≤ n * (100 ^ n * M)
  | 0, k => by simp [shS]
  | n + 1, k => by
    show (shS s zs n k + shP s n k * zs.getD n 0).natAbs ≤ _
    have h1 := shS_bd hs hz n k
    have h2 := Int.natAbs_add_le (shS s zs n k) (shP s n k * zs.getD n 0)
    rw [Int.natAbs_mul] at h2
    have h3 : (shP s n k).natAbs * (zs.getD n 0).natAbs ≤ 100 ^ n * M := Nat.mul_le_mul (shP_bd hs n k) (hz n)
    have h4 : 100 ^ n * M ≤ 100 ^ (n + 1) * M := Nat.mul_le_mul_right _ (Nat.pow_le_pow_right (by omega) (by omega))
    have h5 : n * (100 ^ n * M) ≤ n * (100 ^ (n + 1) * M) := Nat.mul_le_mul_left _ h4
    rw [Nat.succ_mul]
    omega

theorem shH_bd {s : Int} (hs : s.natAbs ≤ 99) {zs : List Int} {M : Nat} (hz : ∀ k, (zs.getD k 0).natAbs ≤ M) : ∀ d n k, (shH s zs n d k).natAbs ≤ 101 ^ d * M
  | 0, n, k => by simp [shH]
  | d + 1, n, k => by
    show (shH s zs (n + 1) d k * s + (if k = 0 then 0 else shH s zs (n + 1) d (k - 1)) + (if k = 0 then zs.getD n 0 else 0)).natAbs ≤ _
    have h1 := shH_bd hs hz d (n + 1) k
    have h1b : (shH s zs (n + 1) d k).natAbs * s.natAbs ≤ 101 ^ d * M * 99 := Nat.mul_le_mul h1 hs
    have h2 := hz n
    have h6 : M ≤ 101 ^ d * M := Nat.le_mul_of_pos_left _ (Nat.pow_pos (by omega))
    have h7 : 101 ^ (d + 1) * M = 101 ^ d * M * 101 := by rw [Nat.pow_succ, Nat.mul_right_comm]
    rw [← Int.natAbs_mul] at h1b
    rw [h7]
    split
    · omega
    · have h3 := shH_bd hs hz d (n + 1) (k - 1)
      omega

end Go.Proofs.YtldcjkhbiffdoaaGreatDoor

/-
  Slices of int, as those of int64.
-/
namespace Go.Proofs.YtldcjkhbiffdoaaGreatDoor
open Go.RowKit

/-- The slice v holds the numbers l. -/
def RowN (w : World) (v : Value) (l : List Int) : Prop := w.ownsRow 0 3 1 v l.length (l.map (Value.int .i64))

/-- The slice v, as values: nil, or a block. -/
theorem RowN.form {w : World} {v : Value} {l : List Int} (h : RowN w v l) :
    (v = .slice none 0 0 ∧ l = []) ∨ ∃ g cap, v = .slice (some ⟨g, 0, none⟩) l.length cap ∧ l.length ≤ cap ∧ cap ≤ maxLen ∧ g < w.heap.size ∧ (∀ i, i < l.length → w.cell? ⟨g, i, none⟩ = some (.int .i64 (l.getD i 0))) := by
  rcases h.2 with ⟨h1, h2⟩ | ⟨g, cap, cur, hv, hb, hg, hnc, hcm, hcs, ht⟩
  · exact .inl ⟨h1, List.eq_nil_of_length_eq_zero h2⟩
  · refine .inr ⟨g, cap, hv, hnc, hcm, (Array.getElem?_eq_some_iff.1 hg).1, fun i hi => ?_⟩
    have h' : w.ownsRow 0 3 1 (.slice (some ⟨g, 0, none⟩) l.length cap) l.length (l.map (Value.int .i64)) := hv ▸ h
    rw [h'.cellAt i (by omega)]
    simp [hi, List.getD]

theorem RowN.val {w : World} {v : Value} {l : List Int} (h : RowN w v l) : ∃ a c, v = .slice a l.length c := by
  rcases h.form with ⟨rfl, rfl⟩ | ⟨g, cap, rfl, _⟩
  · exact ⟨_, _, rfl⟩
  · exact ⟨_, _, rfl⟩

/-- A number of it, where there is one. -/
theorem RowN.at {w : World} {a : Option Addr} {c : Nat} {l : List Int} (h : RowN w (.slice a l.length c) l) (i : Nat) (hi : i < l.length) : ∃ g, a = some ⟨g, 0, none⟩ ∧ l.length ≤ c ∧ c ≤ maxLen ∧ g < w.heap.size ∧ w.cell? ⟨g, i, none⟩ = some (.int .i64 (l.getD i 0)) := by
  rcases h.form with ⟨h1, rfl⟩ | ⟨g, cap, h1, h2, h3, h5, h4⟩
  · simp at hi
  · simp only [Value.slice.injEq] at h1
    obtain ⟨rfl, _, rfl⟩ := h1
    exact ⟨g, rfl, h2, h3, h5, h4 i hi⟩

theorem RowN.below {w w' : World} {v : Value} {l : List Int} (h : RowN w v l) (hb : Below w.heap.size w w') : RowN w' v l := by
  refine ⟨h.1, ?_⟩
  rcases h.2 with h1 | ⟨g, cap, cur, hv, hb0, hg, r⟩
  · exact .inl h1
  · exact .inr ⟨g, cap, cur, hv, hb0, by rw [hb.block g (Array.getElem?_eq_some_iff.1 hg).1]; exact hg, r⟩

theorem RowN.alloc {w : World} {v : Value} {l : List Int} (h : RowN w v l) (o : Obj) : RowN (w.alloc o) v l := h.below ((Below.refl _ _).alloc (Nat.le_refl _) _)

/-- The slice v, which the call itself has made (its blocks: from B on), holds the numbers l. -/
def OwnN (B : Nat) (w : World) (v : Value) (l : List Int) : Prop := w.ownsRow B 3 1 v l.length (l.map (Value.int .i64))

theorem OwnN.row {B : Nat} {w : World} {v : Value} {l : List Int} (h : OwnN B w v l) : RowN w v l := by
  refine ⟨h.1, ?_⟩
  rcases h.2 with h1 | ⟨g, cap, cur, hv, hb0, r⟩
  · exact .inl h1
  · exact .inr ⟨g, cap, cur, hv, Nat.zero_le _, r⟩

theorem OwnN.block {B : Nat} {w : World} {v : Value} {l : List Int} (h : OwnN B w v l) : ∀ k, v.ownBlock = some k → B ≤ k := fun k hk => (World.ownsRow.lt h k hk).1

/-- A nil slice. -/
theorem OwnN.nil0 (B : Nat) (w : World) : OwnN B w (.slice none 0 0) [] := ⟨rfl, .inl ⟨rfl, rfl⟩⟩

/-- '[]int{}'. -/
theorem OwnN.lit {w : World} {n : Nat} (h : w.heap.size = n) : OwnN n (w.alloc (.cells #[] 3)) (.slice (some ⟨n, 0, none⟩) 0 0) [] := by
  subst h
  exact World.ownsRow_made w #[] 0 (Nat.le_refl _) (by simp [maxLen]) rfl

theorem Tryz.infoIntN : (Tryz.prog.info? 3).map (fun i => (i.zero, i.size, i.bytes)) = some (some (.int .i64 0), 1, 8) := by kernel_rfl
theorem Tryz.sliceIntN : Tryz.prog.underlying 72 = some (.slice 3) := by kernel_rfl

/-- 'l = append(l, y)' on a slice of int that the call itself has made. -/
theorem wpList_pushN {ops : Array Oper} {rest : List Oper} {o : Oper} {a : Act} {Q : Exit → Act → World → Prop} {wr : World} (hgd : o.guard = none) (s x : Operand)
    (ho : o.op = .call { callee := .builtin .append, args := #[s, x], argTypes := #[72, 72] })
    (B : Nat) (v : Value) (l : List Int) (y : Int) (hs : a.eval s = v) (hown : OwnN B wr v l) (hx : a.eval x = .slice (some ⟨wr.heap.size, 0, none⟩) 1 1)
    (hlen : l.length ≤ 1000000000000) (hB : B ≤ wr.heap.size)
    (h : ∀ v' w', OwnN B w' v' (l ++ [y]) → Below B wr w' → wr.grownBy w' v.ownBlock → wpList Tryz.prog ops Q rest (a.put o.dst v') w') :
    wpList Tryz.prog ops Q (o :: rest) a (wr.alloc (.cells #[.int .i64 y] 3)) := by
  obtain ⟨i, hi, hz0, hz1, hz2⟩ := info_parts Tryz.infoIntN
  refine wpList_append_own _ hgd s x 72 ho B 3 i (.int .i64 0) 1 8 Tryz.sliceIntN hi hz0 hz1 hz2 rfl (by decide) v l.length (l.map (Value.int .i64)) hs (World.ownsRow.alloc hown _) ⟨wr.heap.size, 0, none⟩ 1 1 [.int .i64 y] hx rfl ?_ ?_ ?_ ?_ ?_ ?_
  · intro j u hj
    match j, hj with
    | 0, hj => simp at hj; subst hj; simp [Addr.add]
  · intro u hu; simp at hu; subst hu; rfl
  · unfold maxLen; omega
  · omega
  · simp; omega
  · intro v' w' h1 h2 _
    have hg : wr.grownBy w' v.ownBlock := by
      have h0 := World.grownBy_alloc wr (.cells #[.int .i64 y] 3) v.ownBlock
      exact ⟨h2.os.trans h0.os, h2.tape.trans h0.tape, h2.output.trans h0.output, Nat.le_trans h0.size h2.size, fun k hk hne => (h2.block k (by simp; omega) hne).trans (h0.block k hk hne)⟩
    refine h v' w' ?_ ((Below.refl _ _).grown hg hB hown.block) hg
    unfold OwnN
    simpa using h1


/-- A slice's length. -/
def lenV : Value → Nat
  | .slice _ n _ => n
  | _ => 0

/-- The first n of it. -/
theorem OwnN.take {B : Nat} {w : World} {a : Option Addr} {c : Nat} {l : List Int} (h : OwnN B w (.slice a l.length c) l) {n : Nat} (hn : n ≤ l.length) : OwnN B w (.slice a n c) (l.take n) := by
  have hlen : (l.take n).length = n := by rw [List.length_take]; omega
  unfold OwnN
  rw [hlen]
  refine ⟨by simp; omega, ?_⟩
  rcases h.2 with ⟨h1, h2⟩ | ⟨g, cap, cur, hv, hb, hg, hnc, hcm, hcs, ht⟩
  · simp only [Value.slice.injEq] at h1
    obtain ⟨rfl, _, rfl⟩ := h1
    obtain rfl : n = 0 := by omega
    exact .inl ⟨rfl, rfl⟩
  · simp only [Value.slice.injEq, true_and] at hv
    obtain ⟨rfl, rfl⟩ := hv
    refine .inr ⟨g, c, cur, rfl, hb, hg, by omega, hcm, hcs, ?_⟩
    have : cur.toList.take (n * 1) = (cur.toList.take (l.length * 1)).take (n * 1) := by rw [List.take_take]; congr 1; omega
    rw [this, ht, Nat.mul_one, List.map_take]

theorem OwnN.below {B : Nat} {w w' : World} {v : Value} {l : List Int} (h : OwnN B w v l) (hb : Below w.heap.size w w') : OwnN B w' v l := by
  refine ⟨h.1, ?_⟩
  rcases h.2 with h1 | ⟨g, cap, cur, hv, hb0, hg, r⟩
  · exact .inl h1
  · exact .inr ⟨g, cap, cur, hv, hb0, by rw [hb.block g (Array.getElem?_eq_some_iff.1 hg).1]; exact hg, r⟩

theorem OwnN.mono {B B' : Nat} {w : World} {v : Value} {l : List Int} (h : OwnN B w v l) (hB : B' ≤ B) : OwnN B' w v l :=
  ⟨h.1, h.2.elim Or.inl (fun ⟨g, cap, cur, hv, hg, r⟩ => Or.inr ⟨g, cap, cur, hv, Nat.le_trans hB hg, r⟩)⟩

end Go.Proofs.YtldcjkhbiffdoaaGreatDoor
