/-
  Polynomials as lists of numbers, the lowest first: noughts at the end, sums, products.
-/
import Derived.Test.YtldcjkhbiffdoabDoorMath
namespace Go.Proofs.YtldcjkhbiffdoabDoor

/-- How many are left without the noughts at the end, of the first k. -/
def tzn (l : List Int) : Nat → Nat
  | 0 => 0
  | k + 1 => if l.getD k 0 = 0 then tzn l k else k + 1

theorem tzn_le (l : List Int) : ∀ k, tzn l k ≤ k
  | 0 => Nat.le_refl _
  | k + 1 => by
    unfold tzn
    split
    · exact Nat.le_succ_of_le (tzn_le l k)
    · exact Nat.le_refl _

def tz (l : List Int) : List Int := l.take (tzn l l.length)

theorem tzn_zero (l : List Int) : ∀ k i, tzn l k ≤ i → i < k → l.getD i 0 = 0
  | 0, i, _, h => by omega
  | k + 1, i, h1, h2 => by
    unfold tzn at h1
    split at h1
    · rcases (show i = k ∨ i < k by omega) with rfl | h3
      · assumption
      · exact tzn_zero l k i h1 h3
    · omega

theorem getD_out {l : List Int} {k : Nat} (h : l.length ≤ k) : l.getD k 0 = 0 := by
  simp [List.getD, List.getElem?_eq_none h]

theorem tz_getD (L : List Int) (k : Nat) : (tz L).getD k 0 = L.getD k 0 := by
  have hle := tzn_le L L.length
  rcases Nat.lt_or_ge k (tzn L L.length) with h | h
  · unfold tz
    simp [List.getD, List.getElem?_take_of_lt h]
  · rw [getD_out (by unfold tz; rw [List.length_take]; omega)]
    rcases Nat.lt_or_ge k L.length with h2 | h2
    · rw [tzn_zero L _ k h h2]
    · rw [getD_out h2]

theorem tz_length (l : List Int) : (tz l).length = tzn l l.length := by
  have := tzn_le l l.length
  unfold tz; rw [List.length_take]; omega

theorem tzn_last (l : List Int) : ∀ k, 0 < tzn l k → l.getD (tzn l k - 1) 0 ≠ 0
  | 0, h => by simp [tzn] at h
  | k + 1, h => by
    unfold tzn at h ⊢
    split
    · rename_i h0
      rw [if_pos h0] at h
      exact tzn_last l k h
    · assumption

/-- No nought at the end. -/
def Tr (l : List Int) : Prop := l ≠ [] → l.getD (l.length - 1) 0 ≠ 0

theorem tr_tz (l : List Int) : Tr (tz l) := by
  intro h
  rw [tz_getD, tz_length]
  refine tzn_last l _ ?_
  rw [← tz_length]
  exact List.length_pos_iff.2 h

theorem Tr.nil : Tr [] := fun h => absurd rfl h

theorem Tr.len {l m : List Int} (hl : Tr l) (h : ∀ k, m.length ≤ k → l.getD k 0 = 0) : l.length ≤ m.length := by
  rcases Nat.lt_or_ge m.length l.length with h1 | h1
  · have hne : l ≠ [] := by intro e; subst e; simp at h1
    exact absurd (h (l.length - 1) (by omega)) (hl hne)
  · exact h1

theorem Tr.lenN {l : List Int} {n : Nat} (hl : Tr l) (h : ∀ k, n ≤ k → l.getD k 0 = 0) : l.length ≤ n := by
  rcases Nat.lt_or_ge n l.length with h1 | h1
  · have hne : l ≠ [] := by intro e; subst e; simp at h1
    exact absurd (h (l.length - 1) (by omega)) (hl hne)
  · exact h1

theorem ext_getD {l m : List Int} (hlen : l.length = m.length) (h : ∀ k, l.getD k 0 = m.getD k 0) : l = m := by
  refine List.ext_getElem hlen fun i h1 h2 => ?_
  have := h i
  simpa [List.getD, List.getElem?_eq_getElem h1, List.getElem?_eq_getElem h2] using this

theorem Tr.ext {l m : List Int} (hl : Tr l) (hm : Tr m) (h : ∀ k, l.getD k 0 = m.getD k 0) : l = m := by
  refine ext_getD ?_ h
  have h1 := hl.len (m := m) fun k hk => by rw [h, getD_out hk]
  have h2 := hm.len (m := l) fun k hk => by rw [← h, getD_out hk]
  omega

theorem tz_ext {l m : List Int} (h : ∀ k, l.getD k 0 = m.getD k 0) : tz l = tz m :=
  (tr_tz l).ext (tr_tz m) fun k => by rw [tz_getD, tz_getD, h]

theorem tz_of_tr {l : List Int} (h : Tr l) : tz l = l := (tr_tz l).ext h fun k => tz_getD l k

theorem tz_eq {l m : List Int} (hm : Tr m) (h : ∀ k, l.getD k 0 = m.getD k 0) : tz l = m :=
  (tr_tz l).ext hm fun k => by rw [tz_getD, h]

theorem tz_len_le {l : List Int} {n : Nat} (h : ∀ k, n ≤ k → l.getD k 0 = 0) : (tz l).length ≤ n :=
  (tr_tz l).lenN fun k hk => by rw [tz_getD]; exact h k hk

/-- The list of the first n numbers of a rule. -/
def tab (n : Nat) (f : Nat → Int) : List Int := (List.range n).map f
theorem tab_succ (n : Nat) (f : Nat → Int) : tab (n + 1) f = tab n f ++ [f n] := by
  unfold tab; rw [List.range_succ, List.map_append]; rfl
theorem tab_len (n : Nat) (f : Nat → Int) : (tab n f).length = n := by simp [tab]
theorem tab_getD (n : Nat) (f : Nat → Int) (k : Nat) : (tab n f).getD k 0 = if k < n then f k else 0 := by
  split
  · rename_i h; simp [tab, List.getD, List.getElem?_map, List.getElem?_range h]
  · rename_i h; rw [getD_out (by rw [tab_len]; omega)]
theorem tab_zero (f : Nat → Int) : tab 0 f = [] := rfl

/-- Sums of products: the coefficient of x^k, of the first n pairs. -/
def pAt (xs ys : List Int) (k : Nat) : Nat → Int
  | 0 => 0
  | n + 1 => pAt xs ys k n + xs.getD n 0 * ys.getD (k - n) 0

def pk (xs ys : List Int) (k : Nat) : Int := pAt xs ys k (k + 1)
def prodTo (xs ys : List Int) (n : Nat) : List Int := tab n (pk xs ys)

theorem pAt_one (xs ys : List Int) (k d : Nat) : ∀ n, (∀ i, i < n → i ≠ d → xs.getD i 0 * ys.getD (k - i) 0 = 0) → pAt xs ys k n = if d < n then xs.getD d 0 * ys.getD (k - d) 0 else 0
  | 0, _ => by simp [pAt]
  | n + 1, h => by
    unfold pAt
    rw [pAt_one xs ys k d n fun i h1 h2 => h i (by omega) h2]
    by_cases hd : d = n
    · subst hd; simp
    · rw [h n (by omega) (fun e => hd e.symm)]
      by_cases h1 : d < n
      · rw [if_pos h1, if_pos (by omega)]; omega
      · rw [if_neg h1, if_neg (by omega)]; omega

theorem pk_out (xs ys : List Int) (k : Nat) (h : xs.length + ys.length - 1 ≤ k) : pk xs ys k = 0 := by
  unfold pk
  have hz : ∀ i, i < k + 1 → xs.getD i 0 * ys.getD (k - i) 0 = 0 := by
    intro i hi
    rcases Nat.lt_or_ge i xs.length with h1 | h1
    · rw [getD_out (show ys.length ≤ k - i by omega)]; simp
    · rw [getD_out h1]; simp
  rw [pAt_one xs ys k (k + 1) (k + 1) fun i h1 _ => hz i h1]
  simp

theorem prodTo_getD (xs ys : List Int) (k : Nat) : (prodTo xs ys (xs.length + ys.length - 1)).getD k 0 = pk xs ys k := by
  unfold prodTo
  rw [tab_getD]
  split
  · rfl
  · rw [pk_out]; omega

/-- A number times a power of x. -/
def mono (d : Nat) (c : Int) : List Int := List.replicate d 0 ++ [c]
theorem mono_getD (d : Nat) (c : Int) (k : Nat) : (mono d c).getD k 0 = if k = d then c else 0 := by
  unfold mono
  rcases Nat.lt_trichotomy k d with h | h | h
  · rw [if_neg (by omega)]
    simp [List.getD, List.getElem?_append_left (show k < (List.replicate d (0 : Int)).length by simpa using h), h]
  · subst h
    simp [List.getD]
  · rw [if_neg (by omega), getD_out]
    simp; omega
theorem mono_len (d : Nat) (c : Int) : (mono d c).length = d + 1 := by simp [mono]

theorem pk_mono (d : Nat) (c : Int) (ys : List Int) (k : Nat) : pk (mono d c) ys k = if d ≤ k then c * ys.getD (k - d) 0 else 0 := by
  unfold pk
  rw [pAt_one _ _ k d (k + 1)]
  · rw [mono_getD, if_pos rfl]
    by_cases h : d ≤ k
    · rw [if_pos h, if_pos (by omega)]
    · rw [if_neg h, if_neg (by omega)]
  · intro i _ h
    rw [mono_getD, if_neg h]; simp

theorem single_getD (c : Int) (k : Nat) : [c].getD k 0 = if k = 0 then c else 0 := by
  cases k with
  | zero => rfl
  | succ k => simp [List.getD]

theorem pk_num (xs : List Int) (c : Int) (k : Nat) : pk xs [c] k = xs.getD k 0 * c := by
  unfold pk
  rw [pAt_one _ _ k k (k + 1)]
  · rw [if_pos (by omega), single_getD, if_pos (by omega)]
  · intro i h1 h2
    rw [single_getD, if_neg (by omega)]; simp

theorem pair_getD (s t : Int) (k : Nat) : [s, t].getD k 0 = if k = 0 then s else if k = 1 then t else 0 := by
  rcases k with _ | _ | k
  · rfl
  · rfl
  · simp [List.getD]

/-- Times x + s. -/
theorem pk_lin (xs : List Int) (s : Int) (k : Nat) : pk xs [s, 1] k = xs.getD k 0 * s + (if k = 0 then 0 else xs.getD (k - 1) 0) := by
  unfold pk
  cases k with
  | zero => simp [pAt]
  | succ j =>
    show pAt xs [s, 1] (j + 1) (j + 1) + xs.getD (j + 1) 0 * [s, 1].getD (j + 1 - (j + 1)) 0 = _
    rw [pAt_one _ _ (j + 1) j (j + 1)]
    · rw [if_pos (by omega), pair_getD, pair_getD, if_neg (by omega), if_pos (by omega), if_pos (by omega), if_neg (by omega)]
      simp
      omega
    · intro i h1 h2
      rw [pair_getD, if_neg (by omega), if_neg (by omega)]; simp

end Go.Proofs.YtldcjkhbiffdoabDoor
