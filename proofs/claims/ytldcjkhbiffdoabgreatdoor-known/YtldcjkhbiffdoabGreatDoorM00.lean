

namespace Go.Proofs.YtldcjkhbiffdoabGreatDoor

def ev (B : Int) : List Int → Int
  | [] => 0
  | x :: l => x + B * ev B l

theorem ev_snoc (B : Int) (l : List Int) (x : Int) : ev B (l ++ [x]) = ev B l + x * B ^ l.length := by
  induction l with
  | nil => simp [ev]
  | cons a l ih =>
    simp only [List.cons_append, ev, ih, List.length_cons, Int.pow_succ]
    rw [Int.mul_add, Int.add_assoc, ← Int.mul_assoc, Int.mul_comm B x, Int.mul_assoc, Int.mul_comm (B ^ l.length) B]

def Dig (B : Int) (l : List Int) : Prop := ∀ x, x ∈ l → 0 ≤ x ∧ x < B

theorem Dig.nil (B : Int) : Dig B [] := fun x h => by simp at h
theorem Dig.snoc {B : Int} {l : List Int} {x : Int} (h : Dig B l) (h0 : 0 ≤ x) (h1 : x < B) : Dig B (l ++ [x]) := by
  intro y hy
  rcases List.mem_append.1 hy with hy | hy
  · exact h y hy
  · simp at hy; subst hy; exact ⟨h0, h1⟩
theorem Dig.tail {B a : Int} {l : List Int} (h : Dig B (a :: l)) : Dig B l := fun x hx => h x (List.mem_cons_of_mem _ hx)
theorem Dig.head {B a : Int} {l : List Int} (h : Dig B (a :: l)) : 0 ≤ a ∧ a < B := h a (List.mem_cons_self ..)

theorem ev_nonneg {B : Int} (hB : 0 < B) {l : List Int} (h : Dig B l) : 0 ≤ ev B l := by
  induction l with
  | nil => simp [ev]
  | cons a l ih =>
    have h1 := ih h.tail
    have h2 := h.head
    have h3 := Int.mul_nonneg (Int.le_of_lt hB) h1
    simp only [ev]; omega

theorem ev_lt {B : Int} (hB : 0 < B) {l : List Int} (h : Dig B l) : ev B l < B ^ l.length := by
  induction l with
  | nil => simp [ev]
  | cons a l ih =>
    have h1 := ih h.tail
    have h2 := h.head
    have h3 : B * (ev B l + 1) ≤ B * B ^ l.length := Int.mul_le_mul_of_nonneg_left (by omega) (Int.le_of_lt hB)
    rw [Int.mul_add, Int.mul_one] at h3
    simp only [ev, List.length_cons, Int.pow_succ]
    rw [Int.mul_comm (B ^ l.length) B]; omega

def Trim (l : List Int) : Prop := ∀ x, l.getLast? = some x → x ≠ 0

theorem pow_pos {B : Int} (hB : 0 < B) (n : Nat) : 0 < B ^ n := Int.pow_pos hB

theorem ev_ge {B : Int} (hB : 0 < B) {l : List Int} (h : Dig B l) (ht : Trim l) (hne : l ≠ []) : B ^ (l.length - 1) ≤ ev B l := by
  obtain ⟨m, x, rfl⟩ : ∃ m x, l = m ++ [x] := ⟨l.dropLast, l.getLast hne, (List.dropLast_concat_getLast hne).symm⟩
  rw [ev_snoc]
  have h0 : 0 ≤ ev B m := ev_nonneg hB (fun y hy => h y (List.mem_append_left _ hy))
  have hx := h x (by simp)
  have hx0 : x ≠ 0 := ht x (by simp)
  have : 1 * B ^ m.length ≤ x * B ^ m.length := Int.mul_le_mul_of_nonneg_right (by omega) (Int.le_of_lt (pow_pos hB _))
  simp only [List.length_append, List.length_cons, List.length_nil, Nat.zero_add, Nat.add_sub_cancel]
  omega

theorem getD_lt {l : List Int} {i : Nat} (h : i < l.length) : l.getD i 0 = l[i] := by simp [List.getD, h]

theorem ev_take (B : Int) (l : List Int) (i : Nat) : ev B (l.take (i + 1)) = ev B (l.take i) + l.getD i 0 * B ^ i := by
  by_cases h : i < l.length
  · rw [List.take_succ_eq_append_getElem h, ev_snoc]
    simp [h, List.length_take, Nat.min_eq_left (Nat.le_of_lt h)]
  · rw [List.take_of_length_le (by omega), List.take_of_length_le (by omega)]
    simp [List.getD, List.getElem?_eq_none (Nat.le_of_not_lt h)]

theorem Dig.getD {B : Int} (hB : 0 < B) {l : List Int} (h : Dig B l) (i : Nat) : 0 ≤ l.getD i 0 ∧ l.getD i 0 < B := by
  by_cases hi : i < l.length
  · rw [getD_lt hi]; exact h _ (List.getElem_mem hi)
  · simp [List.getD, List.getElem?_eq_none (Nat.le_of_not_lt hi)]; exact hB

theorem Dig.take {B : Int} {l : List Int} (h : Dig B l) (n : Nat) : Dig B (l.take n) := fun x hx => h x (List.mem_of_mem_take hx)
theorem Dig.drop {B : Int} {l : List Int} (h : Dig B l) (n : Nat) : Dig B (l.drop n) := fun x hx => h x (List.mem_of_mem_drop hx)

theorem add_round {B : Int} (s : List Int) (i : Nat) (hs : s.length = i) (c x y ea eb : Int) (he : ev B s + c * B ^ i = ea + eb) :
    ev B (s ++ [(x + y + c) % B]) + (x + y + c) / B * B ^ (i + 1) = (ea + x * B ^ i) + (eb + y * B ^ i) := by
  rw [ev_snoc, hs, Int.pow_succ]
  have h := Int.emod_add_mul_ediv (x + y + c) B
  have e1 : (x + y + c) / B * (B ^ i * B) = B * ((x + y + c) / B) * B ^ i := by
    rw [Int.mul_comm (B ^ i) B, ← Int.mul_assoc, Int.mul_comm ((x + y + c) / B) B]
  have e2 : (x + y + c) % B * B ^ i + B * ((x + y + c) / B) * B ^ i = x * B ^ i + y * B ^ i + c * B ^ i := by
    rw [← Int.add_mul, h, Int.add_mul, Int.add_mul]
  rw [e1]; omega

theorem sub_round {B : Int} (s : List Int) (i : Nat) (hs : s.length = i) (c x y ea eb t c' : Int) (he : ev B s - c * B ^ i = ea - eb) (ht : t - c' * B = x - y - c) :
    ev B (s ++ [t]) - c' * B ^ (i + 1) = (ea + x * B ^ i) - (eb + y * B ^ i) := by
  rw [ev_snoc, hs, Int.pow_succ]
  have e1 : c' * (B ^ i * B) = c' * B * B ^ i := by rw [Int.mul_comm (B ^ i) B, Int.mul_assoc]
  have e2 : t * B ^ i - c' * B * B ^ i = x * B ^ i - y * B ^ i - c * B ^ i := by
    rw [← Int.sub_mul, ht, Int.sub_mul, Int.sub_mul]
  rw [e1]; omega

theorem sub_end {B : Int} (hB : 0 < B) (s : List Int) (hd : Dig B s) (c : Int) (hc : c = 0 ∨ c = 1) (ea eb : Int) (he : ev B s - c * B ^ s.length = ea - eb) (hle : eb ≤ ea) : ev B s = ea - eb := by
  rcases hc with rfl | rfl
  · simpa using he
  · have := ev_lt hB hd
    omega

theorem ev_append (B : Int) (l m : List Int) : ev B (l ++ m) = ev B l + B ^ l.length * ev B m := by
  induction l with
  | nil => simp [ev]
  | cons a l ih =>
    simp only [List.cons_append, ev, ih, List.length_cons, Int.pow_succ, Int.mul_add]
    rw [Int.mul_comm (B ^ l.length) B, Int.mul_assoc]; omega

theorem ev_split (B : Int) (l : List Int) (i : Nat) (h : i ≤ l.length) : ev B l = ev B (l.take i) + B ^ i * ev B (l.drop i) := by
  have := ev_append B (l.take i) (l.drop i)
  rw [List.take_append_drop, List.length_take, Nat.min_eq_left h] at this
  exact this

theorem ev_lt_of_length {B : Int} (hB : 1 < B) {l m : List Int} (hl : Dig B l) (hm : Dig B m) (ht : Trim m) (h : l.length < m.length) : ev B l < ev B m := by
  have h1 := ev_lt (by omega) hl
  have h2 := ev_ge (by omega) hm ht (by intro e; subst e; simp at h)
  have h3 : B ^ l.length ≤ B ^ (m.length - 1) := by
    obtain ⟨k, hk⟩ : ∃ k, m.length - 1 = l.length + k := ⟨m.length - 1 - l.length, by omega⟩
    rw [hk, Int.pow_add]
    have h5 : (0:Int) < B ^ k := Int.pow_pos (by omega)
    have := Int.mul_le_mul_of_nonneg_left (show (1:Int) ≤ B ^ k by omega) (Int.le_of_lt (pow_pos (show 0 < B by omega) l.length))
    omega
  omega

theorem ev_lt_of_limb {B : Int} (hB : 0 < B) {l m : List Int} (hl : Dig B l) (hm : Dig B m) (hlen : l.length = m.length) (i : Nat) (hi : i < l.length) (heq : l.drop (i + 1) = m.drop (i + 1)) (hx : l.getD i 0 < m.getD i 0) : ev B l < ev B m := by
  rw [ev_split B l (i + 1) (by omega), ev_split B m (i + 1) (by omega), heq, ev_take, ev_take]
  have h1 := ev_lt hB (hl.take i)
  have h2 := ev_nonneg hB (hm.take i)
  rw [List.length_take, Nat.min_eq_left (by omega)] at h1
  have h3 : (l.getD i 0 + 1) * B ^ i ≤ m.getD i 0 * B ^ i := Int.mul_le_mul_of_nonneg_right (by omega) (Int.le_of_lt (pow_pos hB _))
  rw [Int.add_mul] at h3
  omega

theorem drop_eq_step {l m : List Int} (i : Nat) (hl : i < l.length) (hm : i < m.length) (heq : l.drop (i + 1) = m.drop (i + 1)) (hx : l.getD i 0 = m.getD i 0) : l.drop i = m.drop i := by
  rw [List.drop_eq_getElem_cons hl, List.drop_eq_getElem_cons hm, heq]
  rw [getD_lt hl, getD_lt hm] at hx
  rw [hx]

theorem ev_set (B : Int) (l : List Int) (k : Nat) (y : Int) (h : k < l.length) : ev B (l.set k y) = ev B l + (y - l.getD k 0) * B ^ k := by
  induction l generalizing k with
  | nil => simp at h
  | cons a l ih =>
    cases k with
    | zero => simp [ev]; omega
    | succ k =>
      simp only [List.set_cons_succ, ev, List.getD_cons_succ, Int.pow_succ]
      rw [ih k (by simpa using h), Int.mul_add, ← Int.mul_assoc, ← Int.mul_assoc, Int.mul_comm B (y - l.getD k 0), Int.mul_assoc, Int.mul_assoc, Int.mul_comm B (B ^ k)]
      omega

theorem Dig.set {B : Int} {l : List Int} (h : Dig B l) (k : Nat) {y : Int} (h0 : 0 ≤ y) (h1 : y < B) : Dig B (l.set k y) := by
  intro x hx
  rcases List.mem_or_eq_of_mem_set hx with hx | hx
  · exact h x hx
  · subst hx; exact ⟨h0, h1⟩

theorem Dig.zeros {B : Int} (hB : 0 < B) (n : Nat) : Dig B (List.replicate n 0) := by
  intro x hx; rw [List.mem_replicate] at hx; omega

theorem ev_zeros (B : Int) (n : Nat) : ev B (List.replicate n 0) = 0 := by
  induction n with
  | zero => rfl
  | succ n ih => simp [List.replicate_succ, ev, ih]

theorem mul_round {B : Int} (P : List Int) (i j : Nat) (hk : i + j < P.length) (x y c t e0 eb : Int) (he : ev B P + c * B ^ (i + j) = e0 + x * eb * B ^ i) (ht : t = P.getD (i + j) 0 + x * y + c) :
    ev B (P.set (i + j) (t % B)) + t / B * B ^ (i + (j + 1)) = e0 + x * (eb + y * B ^ j) * B ^ i := by
  rw [ev_set B P _ _ hk]
  have h := Int.emod_add_mul_ediv t B
  have e1 : t / B * B ^ (i + (j + 1)) = B * (t / B) * B ^ (i + j) := by
    rw [← Nat.add_assoc, Int.pow_succ, Int.mul_comm (B ^ (i + j)) B, ← Int.mul_assoc, Int.mul_comm (t / B) B]
  have e2 : (t % B - P.getD (i + j) 0) * B ^ (i + j) + B * (t / B) * B ^ (i + j) = x * y * B ^ (i + j) + c * B ^ (i + j) := by
    rw [← Int.add_mul, ← Int.add_mul]; congr 1; omega
  have e3 : x * (eb + y * B ^ j) * B ^ i = x * eb * B ^ i + x * y * B ^ (i + j) := by
    rw [Int.mul_add, Int.add_mul, Int.pow_add, ← Int.mul_assoc, Int.mul_assoc (x * y) (B ^ j), Int.mul_comm (B ^ j)]
  rw [e1, e3]; omega

theorem mul_bound {B : Int} (hB : 0 < B) (p x y c : Int) (hp : 0 ≤ p ∧ p < B) (hx : 0 ≤ x ∧ x < B) (hy : 0 ≤ y ∧ y < B) (hc : 0 ≤ c ∧ c < B) : 0 ≤ p + x * y + c ∧ p + x * y + c < B * B := by
  have h1 : x * y ≤ (B - 1) * (B - 1) := Int.mul_le_mul (by omega) (by omega) hy.1 (by omega)
  have h2 : (B - 1) * (B - 1) = B * B - 2 * B + 1 := by
    rw [Int.sub_mul, Int.mul_sub, Int.mul_one, Int.one_mul]; omega
  have h3 := Int.mul_nonneg hx.1 hy.1
  omega
theorem tA {α : Type} (l : List α) (i : Nat) (a : α) : l.toArray.setIfInBounds i a = (l.set i a).toArray := List.setIfInBounds_toArray ..
theorem tB {α : Type} (a : α) (l : List α) (n : Nat) (b : α) : (a :: l).set (n + 1) b = a :: l.set n b := rfl
theorem tC {α : Type} (a : α) (l : List α) (b : α) : (a :: l).set 0 b = b :: l := rfl
theorem rA (a b c : Int) : a * (b + c) = a * b + a * c := Int.mul_add ..
theorem rB (a b c : Int) : (a + b) * c = a * c + b * c := Int.add_mul ..
theorem rC (a b c : Int) : a * (b - c) = a * b - a * c := Int.mul_sub ..
theorem rD (a b c : Int) : (a - b) * c = a * c - b * c := Int.sub_mul ..
theorem rE (a b : Int) : -a * b = -(a * b) := Int.neg_mul ..
theorem rF (a b : Int) : a * -b = -(a * b) := Int.mul_neg ..
theorem rG (a b c : Int) : a * b * c = a * (b * c) := Int.mul_assoc ..
theorem rH (a b : Int) : a * b = b * a := Int.mul_comm ..
theorem rI (a b c : Int) : a * (b * c) = b * (a * c) := Int.mul_left_comm ..
theorem rJ (a : Int) : a * 1 = a := Int.mul_one _
theorem rK (a : Int) : 1 * a = a := Int.one_mul _

end Go.Proofs.YtldcjkhbiffdoabGreatDoor

namespace Go.Proofs.YtldcjkhbiffdoabGreatDoor

def tzn (l : List Int) : Nat → Nat
  | 0 => 0
  | k + 1 => if l.getD k 0 = 0 then tzn l k else k + 1

theorem tzn_le (l : List Int) : ∀ k, tzn l k ≤ k
  | 0 => Nat.le_refl _
  | k + 1 => by
    unfold tzn
    split
    · exact Nat.le_succ_of_le (tzn_le l k)
    · exact Nat.le_refl _

def tz (l : List Int) : List Int := l.take (tzn l l.length)

theorem tzn_zero (l : List Int) : ∀ k i, tzn l k ≤ i → i < k → l.getD i 0 = 0
  | 0, i, _, h => by omega
  | k + 1, i, h1, h2 => by
    unfold tzn at h1
    split at h1
    · rcases (show i = k ∨ i < k by omega) with rfl | h3
      · assumption
      · exact tzn_zero l k i h1 h3
    · omega

theorem getD_out {l : List Int} {k : Nat} (h : l.length ≤ k) : l.getD k 0 = 0 := by
  simp [List.getD, List.getElem?_eq_none h]

theorem tz_getD (L : List Int) (k : Nat) : (tz L).getD k 0 = L.getD k 0 := by
  have hle := tzn_le L L.length
  rcases Nat.lt_or_ge k (tzn L L.length) with h | h
  · unfold tz
    simp [List.getD, List.getElem?_take_of_lt h]
  · rw [getD_out (by unfold tz; rw [List.length_take]; omega)]
    rcases Nat.lt_or_ge k L.length with h2 | h2
    · rw [tzn_zero L _ k h h2]
    · rw [getD_out h2]

theorem tz_length (l : List Int) : (tz l).length = tzn l l.length := by
  have := tzn_le l l.length
  unfold tz; rw [List.length_take]; omega

theorem tzn_last (l : List Int) : ∀ k, 0 < tzn l k → l.getD (tzn l k - 1) 0 ≠ 0
  | 0, h => by simp [tzn] at h
  | k + 1, h => by
    unfold tzn at h ⊢
    split
    · rename_i h0
      rw [if_pos h0] at h
      exact tzn_last l k h
    · assumption

def Tr (l : List Int) : Prop := l ≠ [] → l.getD (l.length - 1) 0 ≠ 0

theorem tr_tz (l : List Int) : Tr (tz l) := by
  intro h
  rw [tz_getD, tz_length]
  refine tzn_last l _ ?_
  rw [← tz_length]
  exact List.length_pos_iff.2 h

theorem Tr.nil : Tr [] := fun h => absurd rfl h

theorem Tr.len {l m : List Int} (hl : Tr l) (h : ∀ k, m.length ≤ k → l.getD k 0 = 0) : l.length ≤ m.length := by
  rcases Nat.lt_or_ge m.length l.length with h1 | h1
  · have hne : l ≠ [] := by intro e; subst e; simp at h1
    exact absurd (h (l.length - 1) (by omega)) (hl hne)
  · exact h1

theorem Tr.lenN {l : List Int} {n : Nat} (hl : Tr l) (h : ∀ k, n ≤ k → l.getD k 0 = 0) : l.length ≤ n := by
  rcases Nat.lt_or_ge n l.length with h1 | h1
  · have hne : l ≠ [] := by intro e; subst e; simp at h1
    exact absurd (h (l.length - 1) (by omega)) (hl hne)
  · exact h1

theorem ext_getD {l m : List Int} (hlen : l.length = m.length) (h : ∀ k, l.getD k 0 = m.getD k 0) : l = m := by
  refine List.ext_getElem hlen fun i h1 h2 => ?_
  have := h i
  simpa [List.getD, List.getElem?_eq_getElem h1, List.getElem?_eq_getElem h2] using this

theorem Tr.ext {l m : List Int} (hl : Tr l) (hm : Tr m) (h : ∀ k, l.getD k 0 = m.getD k 0) : l = m := by
  refine ext_getD ?_ h
  have h1 := hl.len (m := m) fun k hk => by rw [h, getD_out hk]
  have h2 := hm.len (m := l) fun k hk => by rw [← h, getD_out hk]
  omega

theorem tz_ext {l m : List Int} (h : ∀ k, l.getD k 0 = m.getD k 0) : tz l = tz m :=
  (tr_tz l).ext (tr_tz m) fun k => by rw [tz_getD, tz_getD, h]

theorem tz_of_tr {l : List Int} (h : Tr l) : tz l = l := (tr_tz l).ext h fun k => tz_getD l k

theorem tz_eq {l m : List Int} (hm : Tr m) (h : ∀ k, l.getD k 0 = m.getD k 0) : tz l = m :=
  (tr_tz l).ext hm fun k => by rw [tz_getD, h]

theorem tz_len_le {l : List Int} {n : Nat} (h : ∀ k, n ≤ k → l.getD k 0 = 0) : (tz l).length ≤ n :=
  (tr_tz l).lenN fun k hk => by rw [tz_getD]; exact h k hk

def tab (n : Nat) (f : Nat → Int) : List Int := (List.range n).map f
theorem tab_succ (n : Nat) (f : Nat → Int) : tab (n + 1) f = tab n f ++ [f n] := by
  unfold tab; rw [List.range_succ, List.map_append]; rfl
theorem tab_len (n : Nat) (f : Nat → Int) : (tab n f).length = n := by simp [tab]
theorem tab_getD (n : Nat) (f : Nat → Int) (k : Nat) : (tab n f).getD k 0 = if k < n then f k else 0 := by
  split
  · rename_i h; simp [tab, List.getD, List.getElem?_map, List.getElem?_range h]
  · rename_i h; rw [getD_out (by rw [tab_len]; omega)]
def pAt (xs ys : List Int) (k : Nat) : Nat → Int
  | 0 => 0
  | n + 1 => pAt xs ys k n + xs.getD n 0 * ys.getD (k - n) 0

def pk (xs ys : List Int) (k : Nat) : Int := pAt xs ys k (k + 1)
def prodTo (xs ys : List Int) (n : Nat) : List Int := tab n (pk xs ys)

theorem pAt_one (xs ys : List Int) (k d : Nat) : ∀ n, (∀ i, i < n → i ≠ d → xs.getD i 0 * ys.getD (k - i) 0 = 0) → pAt xs ys k n = if d < n then xs.getD d 0 * ys.getD (k - d) 0 else 0
  | 0, _ => by simp [pAt]
  | n + 1, h => by
    unfold pAt
    rw [pAt_one xs ys k d n fun i h1 h2 => h i (by omega) h2]
    by_cases hd : d = n
    · subst hd; simp
    · rw [h n (by omega) (fun e => hd e.symm)]
      by_cases h1 : d < n
      · rw [if_pos h1, if_pos (by omega)]; omega
      · rw [if_neg h1, if_neg (by omega)]; omega

theorem pk_out (xs ys : List Int) (k : Nat) (h : xs.length + ys.length - 1 ≤ k) : pk xs ys k = 0 := by
  unfold pk
  have hz : ∀ i, i < k + 1 → xs.getD i 0 * ys.getD (k - i) 0 = 0 := by
    intro i hi
    rcases Nat.lt_or_ge i xs.length with h1 | h1
    · rw [getD_out (show ys.length ≤ k - i by omega)]; simp
    · rw [getD_out h1]; simp
  rw [pAt_one xs ys k (k + 1) (k + 1) fun i h1 _ => hz i h1]
  simp

theorem prodTo_getD (xs ys : List Int) (k : Nat) : (prodTo xs ys (xs.length + ys.length - 1)).getD k 0 = pk xs ys k := by
  unfold prodTo
  rw [tab_getD]
  split
  · rfl
  · rw [pk_out]; omega

def mono (d : Nat) (c : Int) : List Int := List.replicate d 0 ++ [c]
theorem mono_getD (d : Nat) (c : Int) (k : Nat) : (mono d c).getD k 0 = if k = d then c else 0 := by
  unfold mono
  rcases Nat.lt_trichotomy k d with h | h | h
  · rw [if_neg (by omega)]
    simp [List.getD, List.getElem?_append_left (show k < (List.replicate d (0 : Int)).length by simpa using h), h]
  · subst h
    simp [List.getD]
  · rw [if_neg (by omega), getD_out]
    simp; omega
theorem single_getD (c : Int) (k : Nat) : [c].getD k 0 = if k = 0 then c else 0 := by
  cases k with
  | zero => rfl
  | succ k => simp [List.getD]

end Go.Proofs.YtldcjkhbiffdoabGreatDoor

namespace Go.Proofs.YtldcjkhbiffdoabGreatDoor

def take1 (R b : List Int) (c : Int) (n : Nat) : List Int :=
  tz (tab (max R.length (n + b.length)) fun k => R.getD k 0 - (if n ≤ k then c * b.getD (k - n) 0 else 0))

theorem take1_getD (R b : List Int) (c : Int) (n k : Nat) : (take1 R b c n).getD k 0 = R.getD k 0 - (if n ≤ k then c * b.getD (k - n) 0 else 0) := by
  unfold take1
  rw [tz_getD, tab_getD]
  split
  · rfl
  · rw [getD_out (show R.length ≤ k by omega), if_pos (show n ≤ k by omega), getD_out (show b.length ≤ k - n by omega)]
    simp

theorem take1_tr (R b : List Int) (c : Int) (n : Nat) : Tr (take1 R b c n) := tr_tz _

theorem take1_zero {R : List Int} (b : List Int) (n : Nat) (h : Tr R) : take1 R b 0 n = R :=
  (take1_tr _ _ _ _).ext h fun k => by rw [take1_getD]; simp

def lead (b : List Int) : Int := b.getD (b.length - 1) 0

def dvs (b : List Int) : Nat → List Int → Option (List Int)
  | 0, R => if R = [] then some [] else none
  | n + 1, R =>
    if (R.getD (n + b.length - 1) 0).tmod (lead b) = 0 then
      (dvs b n (take1 R b ((R.getD (n + b.length - 1) 0).tdiv (lead b)) n)).map (fun q => q ++ [(R.getD (n + b.length - 1) 0).tdiv (lead b)])
    else none

theorem dvs_fail {b R : List Int} {n : Nat} (h : (R.getD (n + b.length - 1) 0).tmod (lead b) ≠ 0) : dvs b (n + 1) R = none := by
  unfold dvs; rw [if_neg h]

theorem dvs_step {b R : List Int} {n : Nat} (h : (R.getD (n + b.length - 1) 0).tmod (lead b) = 0) :
    dvs b (n + 1) R = (dvs b n (take1 R b ((R.getD (n + b.length - 1) 0).tdiv (lead b)) n)).map (fun q => q ++ [(R.getD (n + b.length - 1) 0).tdiv (lead b)]) := by
  rw [dvs]; rw [if_pos h]

theorem dvs_len {b : List Int} : ∀ {n : Nat} {R q : List Int}, dvs b n R = some q → q.length = n
  | 0, R, q, h => by
    unfold dvs at h
    split at h
    · cases h; rfl
    · cases h
  | n + 1, R, q, h => by
    by_cases h1 : (R.getD (n + b.length - 1) 0).tmod (lead b) = 0
    · rw [dvs_step h1] at h
      cases h2 : dvs b n (take1 R b ((R.getD (n + b.length - 1) 0).tdiv (lead b)) n) with
      | none => rw [h2] at h; cases h
      | some q' =>
        rw [h2] at h
        cases h
        simp [dvs_len h2]
    · rw [dvs_fail h1] at h; cases h

theorem dvs_skip {b R : List Int} (hR : Tr R) {n : Nat} (h : R.getD (n + b.length - 1) 0 = 0) : dvs b (n + 1) R = (dvs b n R).map (fun q => q ++ [0]) := by
  rw [dvs_step (by rw [h]; simp), h]
  simp only [Int.zero_tdiv]
  rw [take1_zero b n hR]

theorem map_map_app (o : Option (List Int)) (p q : List Int) : (o.map (fun x => x ++ p)).map (fun x => x ++ q) = o.map (fun x => x ++ (p ++ q)) := by
  cases o with
  | none => rfl
  | some x => simp

theorem dvs_skips {b R : List Int} (hR : Tr R) (n : Nat) (hb : 0 < b.length) : ∀ d, R.length ≤ n + b.length - 1 → dvs b (n + d) R = (dvs b n R).map (fun q => q ++ List.replicate d 0)
  | 0, _ => by
    cases h : dvs b n R with
    | none => simp
    | some q => simp
  | d + 1, h => by
    rw [show n + (d + 1) = n + d + 1 by omega, dvs_skip hR (getD_out (by omega)), dvs_skips hR n hb d h, map_map_app]
    rw [List.replicate_succ']

structure DR (b a0 : List Int) (A q : List Int) (n : Nat) : Prop where
  tr : Tr A
  len : A.length ≤ n + b.length - 1
  res : ∃ Q, dvs b (a0.length + 1 - b.length) a0 = (dvs b n A).map (fun x => x ++ Q) ∧ q = tz (List.replicate n 0 ++ Q)
  le : n ≤ a0.length + 1 - b.length

theorem DR.start {b a0 : List Int} (h : Tr a0) : DR b a0 a0 [] (a0.length + 1 - b.length) := by
  refine ⟨h, by omega, ⟨[], ?_, ?_⟩, ?_⟩
  · simp
  · rw [tz_eq Tr.nil]
    intro k
    rw [List.append_nil]
    rcases Nat.lt_or_ge k (a0.length + 1 - b.length) with h | h
    · simp [List.getD, h]
    · rw [getD_out (by simpa using h), getD_out (by simp)]
  · exact Nat.le_refl _

theorem getD_rep_app (n : Nat) (Q : List Int) (k : Nat) : (List.replicate n 0 ++ Q).getD k 0 = if k < n then 0 else Q.getD (k - n) 0 := by
  split
  · rename_i h
    simp [List.getD, List.getElem?_append_left (show k < (List.replicate n (0 : Int)).length by simpa using h), h]
  · rename_i h
    simp [List.getD, List.getElem?_append_right (show (List.replicate n (0 : Int)).length ≤ k by simp; omega)]

theorem DR.next {b a0 A q : List Int} {n : Nat} (h : DR b a0 A q n) (hb : 0 < b.length) (hA : b.length ≤ A.length) (hm : (lead A).tmod (lead b) = 0) :
    DR b a0 (take1 A b ((lead A).tdiv (lead b)) (A.length - b.length)) (tz (tab (max q.length (A.length - b.length + 1)) fun k => q.getD k 0 + (mono (A.length - b.length) ((lead A).tdiv (lead b))).getD k 0)) (A.length - b.length) ∧ A.length - b.length < n := by
  obtain ⟨htr, hlen, ⟨Q, h1, h2⟩, hle⟩ := h
  obtain ⟨d, hd⟩ : ∃ d, A.length - b.length = d := ⟨_, rfl⟩
  rw [hd]
  have hdn : d < n := by omega
  have hAd : A.length = d + b.length := by omega
  have hlA : lead A = A.getD (d + b.length - 1) 0 := by unfold lead; rw [hAd]
  obtain ⟨e, he⟩ : ∃ e, n = d + 1 + e := ⟨n - (d + 1), by omega⟩
  have h3 : dvs b n A = (dvs b (d + 1) A).map (fun x => x ++ List.replicate e 0) := by
    rw [he]; exact dvs_skips htr (d + 1) hb e (by omega)
  rw [hlA] at hm
  refine ⟨⟨take1_tr _ _ _ _, ?_, ?_, by omega⟩, hdn⟩
  · refine (take1_tr _ _ _ _).lenN fun k hk => ?_
    rw [take1_getD]
    rcases Nat.lt_or_ge k (d + b.length) with h5 | h5
    · have hk1 : k = d + b.length - 1 := by omega
      rw [if_pos (by omega), hlA]
      have hk2 : b.getD (k - d) 0 = lead b := by unfold lead; rw [show k - d = b.length - 1 by omega]
      rw [hk2, hk1]
      have := Int.mul_tdiv_add_tmod (A.getD (d + b.length - 1) 0) (lead b)
      rw [hm, Int.mul_comm] at this
      omega
    · rw [getD_out (show A.length ≤ k by omega), if_pos (by omega), getD_out (show b.length ≤ k - d by omega)]
      simp
  · refine ⟨[(lead A).tdiv (lead b)] ++ (List.replicate e 0 ++ Q), ?_, ?_⟩
    · rw [h1, h3, dvs_step hm, map_map_app, map_map_app, hlA]
    · refine tz_ext fun k => ?_
      have hq : q.getD k 0 = if k < n then 0 else Q.getD (k - n) 0 := by rw [h2, tz_getD, getD_rep_app]
      rw [tab_getD, mono_getD, getD_rep_app]
      split
      · rw [hq]
        rcases Nat.lt_trichotomy k d with h5 | h5 | h5
        · rw [if_pos (by omega), if_neg (by omega), if_pos h5]; simp
        · subst h5
          rw [if_pos hdn, if_pos rfl, if_neg (by omega)]
          simp
        · rw [if_neg (show ¬ k = d by omega), if_neg (show ¬ k < d by omega)]
          rw [show k - d = (k - d - 1) + 1 by omega]
          simp only [List.singleton_append, List.getD_cons_succ, Int.add_zero]
          rw [getD_rep_app]
          by_cases h6 : k < n
          · rw [if_pos h6, if_pos (by omega)]
          · rw [if_neg h6, if_neg (by omega)]
            congr 1; omega
      · rename_i h5
        have h6 : q.getD k 0 = 0 := getD_out (by omega)
        rw [hq] at h6
        rw [if_neg (show ¬ k < d by omega)]
        rw [show k - d = (k - d - 1) + 1 by omega]
        simp only [List.singleton_append, List.getD_cons_succ]
        rw [getD_rep_app]
        by_cases h7 : k < n
        · rw [if_pos (by omega)]
        · rw [if_neg (by omega)]
          rw [if_neg h7] at h6
          rw [show k - d - 1 - e = k - n by omega]
          exact h6.symm

theorem DR.fails {b a0 A q : List Int} {n : Nat} (h : DR b a0 A q n) (hb : 0 < b.length) (hA : b.length ≤ A.length) (hm : (lead A).tmod (lead b) ≠ 0) :
    dvs b (a0.length + 1 - b.length) a0 = none := by
  obtain ⟨htr, hlen, ⟨Q, h1, h2⟩, hle⟩ := h
  obtain ⟨d, hd⟩ : ∃ d, A.length = d + b.length := ⟨A.length - b.length, by omega⟩
  have hlA : lead A = A.getD (d + b.length - 1) 0 := by unfold lead; rw [hd]
  obtain ⟨e, he⟩ : ∃ e, n = d + 1 + e := ⟨n - (d + 1), by omega⟩
  rw [h1, he, dvs_skips htr (d + 1) hb e (by omega)]
  rw [hlA] at hm
  rw [dvs_fail hm]
  rfl

theorem DR.ends {b a0 A q : List Int} {n : Nat} (h : DR b a0 A q n) (hb : 0 < b.length) (hA : A.length < b.length) :
    (A = [] ∧ ∃ Q, dvs b (a0.length + 1 - b.length) a0 = some Q ∧ q = tz Q) ∨ (A ≠ [] ∧ dvs b (a0.length + 1 - b.length) a0 = none) := by
  obtain ⟨htr, hlen, ⟨Q, h1, h2⟩, hle⟩ := h
  have h3 := dvs_skips htr 0 hb n (by omega)
  rw [Nat.zero_add] at h3
  rw [h3] at h1
  by_cases hA0 : A = []
  · left
    refine ⟨hA0, List.replicate n 0 ++ Q, ?_, h2⟩
    rw [h1]
    subst hA0
    simp [dvs]
  · right
    refine ⟨hA0, ?_⟩
    rw [h1]
    simp [dvs, hA0]

def Bd (l : List Int) (e : Nat) : Prop := ∀ k, (l.getD k 0).natAbs < 10 ^ e

theorem Bd.mono {l : List Int} {e f : Nat} (h : Bd l e) (hf : e ≤ f) : Bd l f :=
  fun k => Nat.lt_of_lt_of_le (h k) (Nat.pow_le_pow_right (by omega) hf)

theorem lt_two_pow {e f : Nat} {x y c : Int} (hx : x.natAbs < 10 ^ e) (hy : y.natAbs < 10 ^ f) (hc : c.natAbs < 10 ^ e) : (x - c * y).natAbs < 10 ^ (e + f + 1) := by
  have h1 : (x - c * y).natAbs ≤ x.natAbs + (c * y).natAbs := by omega
  rw [Int.natAbs_mul] at h1
  have h2 : c.natAbs * y.natAbs ≤ 10 ^ e * 10 ^ f := Nat.mul_le_mul (Nat.le_of_lt hc) (Nat.le_of_lt hy)
  have h3 : 10 ^ e ≤ 10 ^ e * 10 ^ f := Nat.le_mul_of_pos_right _ (Nat.pow_pos (by omega))
  rw [Nat.pow_succ, Nat.pow_add]
  have h4 : 0 < 10 ^ e * 10 ^ f := Nat.mul_pos (Nat.pow_pos (by omega)) (Nat.pow_pos (by omega))
  omega

theorem Bd.take1 {A b : List Int} {e f : Nat} (hA : Bd A e) (hb : Bd b f) {c : Int} (hc : c.natAbs < 10 ^ e) (n : Nat) : Bd (take1 A b c n) (e + f + 1) := by
  intro k
  rw [take1_getD]
  split
  · exact lt_two_pow (hA k) (hb _) hc
  · rw [Int.sub_zero]
    exact Nat.lt_of_lt_of_le (hA k) (Nat.pow_le_pow_right (by omega) (by omega))

theorem natAbs_tdiv_le (a b : Int) : (a.tdiv b).natAbs ≤ a.natAbs := by
  rw [Int.natAbs_tdiv]; exact Nat.div_le_self _ _

end Go.Proofs.YtldcjkhbiffdoabGreatDoor

namespace Go.Proofs.YtldcjkhbiffdoabGreatDoor

def cont (l : List Int) : Nat := l.foldl (fun g c => Int.gcd g c) 0

theorem foldl_gcd_dvd : ∀ (l : List Int) (g : Nat), (l.foldl (fun g c => Int.gcd g c) g) ∣ g ∧ ∀ c, c ∈ l → ((l.foldl (fun g c => Int.gcd (g : Int) c) g : Nat) : Int) ∣ c
  | [], g => ⟨Nat.dvd_refl _, fun c h => by simp at h⟩
  | x :: l, g => by
    obtain ⟨h1, h2⟩ := foldl_gcd_dvd l (Int.gcd g x)
    refine ⟨Nat.dvd_trans h1 ?_, fun c hc => ?_⟩
    · have := Int.gcd_dvd_left (a := (g : Int)) (b := x)
      exact Int.natCast_dvd_natCast.1 this
    · rcases List.mem_cons.1 hc with rfl | hc
      · exact Int.dvd_trans (Int.natCast_dvd_natCast.2 h1) (Int.gcd_dvd_right (a := (g : Int)) (b := c))
      · exact h2 c hc

theorem cont_dvd {l : List Int} {c : Int} (h : c ∈ l) : ((cont l : Nat) : Int) ∣ c := (foldl_gcd_dvd l 0).2 c h

theorem mem_of_getD {l : List Int} {k : Nat} (h : l.getD k 0 ≠ 0) : l.getD k 0 ∈ l := by
  rcases Nat.lt_or_ge k l.length with h1 | h1
  · rw [show l.getD k 0 = l[k] by simp [List.getD, List.getElem?_eq_getElem h1]]
    exact List.getElem_mem h1
  · exact absurd (getD_out h1) h

theorem cont_dvd_getD (l : List Int) (k : Nat) : ((cont l : Nat) : Int) ∣ l.getD k 0 := by
  by_cases h : l.getD k 0 = 0
  · rw [h]; exact Int.dvd_zero _
  · exact cont_dvd (mem_of_getD h)

theorem cont_pos {l : List Int} {k : Nat} (h : l.getD k 0 ≠ 0) : 0 < cont l := by
  rcases Nat.eq_zero_or_pos (cont l) with h0 | h0
  · have := cont_dvd_getD l k
    rw [h0] at this
    exact absurd (Int.zero_dvd.1 this) h
  · exact h0

theorem foldl_gcd_mul (c : Int) : ∀ (l : List Int) (g : Nat), (l.map (fun x => c * x)).foldl (fun g x => Int.gcd (g : Int) x) (c.natAbs * g) = c.natAbs * l.foldl (fun g x => Int.gcd (g : Int) x) g
  | [], g => rfl
  | x :: l, g => by
    show (l.map (fun x => c * x)).foldl (fun g x => Int.gcd (g : Int) x) (Int.gcd ((c.natAbs * g : Nat) : Int) (c * x)) = _
    have h : Int.gcd ((c.natAbs * g : Nat) : Int) (c * x) = c.natAbs * Int.gcd (g : Int) x := by
      unfold Int.gcd
      rw [Int.natAbs_mul, Int.natAbs_natCast, Int.natAbs_natCast, Nat.gcd_mul_left]
    rw [h, foldl_gcd_mul c l]
    rfl

theorem cont_mul (c : Int) (l : List Int) : cont (l.map fun x => c * x) = c.natAbs * cont l := by
  have := foldl_gcd_mul c l 0
  rw [Nat.mul_zero] at this
  exact this

def scont (l : List Int) : Int := if lead l < 0 then -(cont l : Int) else (cont l : Int)

def prim (l : List Int) : List Int := l.map fun x => x.tdiv (scont l)

theorem prim_len (l : List Int) : (prim l).length = l.length := by simp [prim]

theorem prim_getD (l : List Int) (k : Nat) : (prim l).getD k 0 = (l.getD k 0).tdiv (scont l) := by
  unfold prim
  rcases Nat.lt_or_ge k l.length with h | h
  · simp [List.getD, List.getElem?_map, List.getElem?_eq_getElem h]
  · rw [getD_out (by simpa using h), getD_out h]; simp

theorem scont_dvd (l : List Int) (k : Nat) : scont l ∣ l.getD k 0 := by
  unfold scont
  split
  · exact Int.neg_dvd.2 (cont_dvd_getD l k)
  · exact cont_dvd_getD l k

theorem prim_mul (l : List Int) (k : Nat) : l.getD k 0 = scont l * (prim l).getD k 0 := by
  rw [prim_getD]
  exact (Int.mul_tdiv_cancel' (scont_dvd l k)).symm

theorem scont_ne {l : List Int} (h : Tr l) (hne : l ≠ []) : scont l ≠ 0 := by
  have := cont_pos (h hne)
  unfold scont
  split <;> omega

theorem Tr.prim {l : List Int} (h : Tr l) : Tr (prim l) := by
  intro hne
  have hl : l ≠ [] := by intro e; subst e; exact hne rfl
  intro h0
  have := prim_mul l ((Go.Proofs.YtldcjkhbiffdoabGreatDoor.prim l).length - 1)
  rw [h0, Int.mul_zero, prim_len] at this
  exact h hl this

theorem scal_getD (c : Int) (l : List Int) (k : Nat) : (l.map fun x => c * x).getD k 0 = c * l.getD k 0 := by
  rcases Nat.lt_or_ge k l.length with h | h
  · simp [List.getD, List.getElem?_map, List.getElem?_eq_getElem h]
  · rw [getD_out (by simpa using h), getD_out h]; simp

theorem Tr.scal {c : Int} (hc : c ≠ 0) {l : List Int} (h : Tr l) : Tr (l.map fun x => c * x) := by
  intro hne
  have hl : l ≠ [] := by intro e; subst e; exact hne rfl
  rw [scal_getD, List.length_map]
  exact Int.mul_ne_zero hc (h hl)

theorem lead_scal (c : Int) (l : List Int) : lead (l.map fun x => c * x) = c * lead l := by
  unfold lead
  rw [scal_getD, List.length_map]

theorem scont_scal {c : Int} (hc : c ≠ 0) {l : List Int} (hl : Tr l) (hne : l ≠ []) : scont (l.map fun x => c * x) = c * scont l := by
  have h1 : lead l ≠ 0 := hl hne
  unfold scont
  rw [lead_scal, cont_mul, Int.natCast_mul]
  rcases Int.lt_or_lt_of_ne hc with h2 | h2
  · have h3 : ((c.natAbs : Nat) : Int) = -c := by omega
    rcases Int.lt_or_lt_of_ne h1 with h4 | h4
    · have : 0 < c * lead l := Int.mul_pos_of_neg_of_neg h2 h4
      rw [if_neg (by omega), if_pos h4, h3]
      simp [Int.neg_mul, Int.mul_neg]
    · have : c * lead l < 0 := Int.mul_neg_of_neg_of_pos h2 h4
      rw [if_pos this, if_neg (by omega), h3]
      simp [Int.neg_mul]
  · have h3 : ((c.natAbs : Nat) : Int) = c := by omega
    rcases Int.lt_or_lt_of_ne h1 with h4 | h4
    · have : c * lead l < 0 := Int.mul_neg_of_pos_of_neg h2 h4
      rw [if_pos this, if_pos h4, h3]
      simp [Int.mul_neg]
    · have : 0 < c * lead l := Int.mul_pos h2 h4
      rw [if_neg (by omega), if_neg (by omega), h3]

theorem prim_scal {c : Int} (hc : c ≠ 0) {l : List Int} (hl : Tr l) : prim (l.map fun x => c * x) = prim l := by
  by_cases hne : l = []
  · subst hne; rfl
  · refine ext_getD (by simp [prim_len]) fun k => ?_
    have h0 := scont_ne hl hne
    have h1 := prim_mul l k
    have h2 := prim_mul (l.map fun x => c * x) k
    rw [scal_getD, scont_scal hc hl hne, h1, ← Int.mul_assoc] at h2
    exact (Int.eq_of_mul_eq_mul_left (Int.mul_ne_zero hc h0) h2).symm

theorem prim_of_mul {c : Int} (hc : c ≠ 0) {l m : List Int} (hl : Tr l) (hm : Tr m) (h : ∀ k, m.getD k 0 = c * l.getD k 0) : prim m = prim l := by
  have : m = l.map fun x => c * x := hm.ext (Tr.scal hc hl) fun k => by rw [h, scal_getD]
  rw [this, prim_scal hc hl]

theorem prim_prim {l : List Int} (h : Tr l) : prim (prim l) = prim l := by
  by_cases hne : l = []
  · subst hne; rfl
  · exact (prim_of_mul (scont_ne h hne) h.prim h fun k => prim_mul l k).symm

theorem Bd.prim {l : List Int} {e : Nat} (h : Bd l e) : Bd (prim l) e := by
  intro k
  rw [prim_getD]
  exact Nat.lt_of_le_of_lt (natAbs_tdiv_le _ _) (h k)

def elim (A B : List Int) : List Int :=
  tz (tab (max A.length (A.length - B.length + B.length)) fun k => A.getD k 0 * lead B - (if A.length - B.length ≤ k then lead A * B.getD (k - (A.length - B.length)) 0 else 0))

theorem elim_getD (A B : List Int) (k : Nat) : (elim A B).getD k 0 = A.getD k 0 * lead B - (if A.length - B.length ≤ k then lead A * B.getD (k - (A.length - B.length)) 0 else 0) := by
  unfold elim
  rw [tz_getD, tab_getD]
  split
  · rfl
  · rw [getD_out (show A.length ≤ k by omega), if_pos (show A.length - B.length ≤ k by omega), getD_out (show B.length ≤ k - (A.length - B.length) by omega)]
    simp

theorem elim_tr (A B : List Int) : Tr (elim A B) := tr_tz _

theorem elim_len {A B : List Int} (hB : 0 < B.length) (h : B.length ≤ A.length) : (elim A B).length < A.length := by
  have : (elim A B).length ≤ A.length - 1 := by
    refine (elim_tr A B).lenN fun k hk => ?_
    rw [elim_getD]
    rcases Nat.lt_or_ge k A.length with h1 | h1
    · have hk1 : k = A.length - 1 := by omega
      rw [if_pos (by omega)]
      have h2 : B.getD (k - (A.length - B.length)) 0 = lead B := by unfold lead; rw [show k - (A.length - B.length) = B.length - 1 by omega]
      have h3 : A.getD k 0 = lead A := by unfold lead; rw [hk1]
      rw [h2, h3]; omega
    · rw [getD_out h1, if_pos (by omega), getD_out (show B.length ≤ k - (A.length - B.length) by omega)]; simp
  omega

theorem lt_two_mul {e f : Nat} {x y c d : Int} (hx : x.natAbs < 10 ^ e) (hy : y.natAbs < 10 ^ f) (hc : c.natAbs < 10 ^ e) (hd : d.natAbs < 10 ^ f) : (x * d - c * y).natAbs < 10 ^ (e + f + 1) := by
  have h1 : (x * d - c * y).natAbs ≤ (x * d).natAbs + (c * y).natAbs := by omega
  rw [Int.natAbs_mul, Int.natAbs_mul] at h1
  have h2 : c.natAbs * y.natAbs ≤ 10 ^ e * 10 ^ f := Nat.mul_le_mul (Nat.le_of_lt hc) (Nat.le_of_lt hy)
  have h3 : x.natAbs * d.natAbs ≤ 10 ^ e * 10 ^ f := Nat.mul_le_mul (Nat.le_of_lt hx) (Nat.le_of_lt hd)
  rw [Nat.pow_succ, Nat.pow_add]
  have h4 : 0 < 10 ^ e * 10 ^ f := Nat.mul_pos (Nat.pow_pos (by omega)) (Nat.pow_pos (by omega))
  omega

theorem Bd.lead {l : List Int} {e : Nat} (h : Bd l e) : (lead l).natAbs < 10 ^ e := h _

theorem Bd.elim {A B : List Int} {e f : Nat} (hA : Bd A e) (hB : Bd B f) : Bd (elim A B) (e + f + 1) := by
  intro k
  rw [elim_getD]
  split
  · exact lt_two_mul (hA k) (hB _) hA.lead hB.lead
  · have := lt_two_mul (y := 0) (hA k) (by have := hB 0; omega) hA.lead hB.lead
    rwa [Int.mul_zero] at this

def gfun : Nat → List Int → List Int → List Int
  | 0, A, B => if A = [] then B else A
  | n + 1, A, B =>
    if A = [] then B else if B = [] then A
    else if A.length < B.length then gfun n (prim (elim B A)) A else gfun n (prim (elim A B)) B

theorem gfun_left (n : Nat) (B : List Int) : gfun n [] B = B := by
  cases n <;> simp [gfun]
theorem gfun_right (n : Nat) (A : List Int) : gfun n A [] = A := by
  cases n with
  | zero => by_cases h : A = [] <;> simp [gfun, h]
  | succ n => by_cases h : A = [] <;> simp [gfun, h]
theorem gfun_ge (n : Nat) {A B : List Int} (hB : B ≠ []) (h : B.length ≤ A.length) : gfun (n + 1) A B = gfun n (prim (elim A B)) B := by
  have hA : A ≠ [] := by intro e; subst e; exact hB (List.length_eq_zero_iff.1 (by simpa using h))
  conv => lhs; unfold gfun
  rw [if_neg hA, if_neg hB, if_neg (by omega)]
theorem gfun_lt (n : Nat) {A B : List Int} (hA : A ≠ []) (h : A.length < B.length) : gfun (n + 1) A B = gfun n (prim (elim B A)) A := by
  have hB : B ≠ [] := by intro e; subst e; simp at h
  conv => lhs; unfold gfun
  rw [if_neg hA, if_neg hB, if_pos h]
theorem gfun_swap (n : Nat) {A B : List Int} (h : A.length ≠ B.length) (hn : 0 < n) : gfun n A B = gfun n B A := by
  obtain ⟨m, rfl⟩ : ∃ m, n = m + 1 := ⟨n - 1, by omega⟩
  by_cases hA : A = []
  · subst hA; rw [gfun_left, gfun_right]
  · by_cases hB : B = []
    · subst hB; rw [gfun_left, gfun_right]
    · rcases Nat.lt_or_gt_of_ne h with h1 | h1
      · rw [gfun_lt m hA h1, gfun_ge m hA (by omega)]
      · rw [gfun_lt m hB h1, gfun_ge m hB (by omega)]

theorem gfun_more : ∀ (n : Nat) {A B : List Int}, A.length + B.length ≤ n → gfun (n + 1) A B = gfun n A B
  | 0, A, B, h => by
    obtain rfl : A = [] := List.length_eq_zero_iff.1 (by omega)
    rw [gfun_left, gfun_left]
  | n + 1, A, B, h => by
    by_cases hA : A = []
    · subst hA; rw [gfun_left, gfun_left]
    · by_cases hB : B = []
      · subst hB; rw [gfun_right, gfun_right]
      · have hA1 := List.length_pos_iff.2 hA
        have hB1 := List.length_pos_iff.2 hB
        rcases Nat.lt_or_ge A.length B.length with h1 | h1
        · rw [gfun_lt _ hA h1, gfun_lt _ hA h1]
          have := elim_len hA1 (Nat.le_of_lt h1)
          exact gfun_more n (by rw [prim_len]; omega)
        · rw [gfun_ge _ hB h1, gfun_ge _ hB h1]
          have := elim_len hB1 h1
          exact gfun_more n (by rw [prim_len]; omega)

def pgcd (a b : List Int) : List Int := gfun (a.length + b.length) (prim a) (prim b)

end Go.Proofs.YtldcjkhbiffdoabGreatDoor

namespace Go.Proofs.YtldcjkhbiffdoabGreatDoor

def ladd : List Int → List Int → List Int
  | [], m => m
  | a :: l, [] => a :: l
  | a :: l, b :: m => (a + b) :: ladd l m

theorem ev_ladd (t : Int) : ∀ l m, ev t (ladd l m) = ev t l + ev t m
  | [], m => by simp [ladd, ev]
  | a :: l, [] => by simp [ladd, ev]
  | a :: l, b :: m => by
    simp only [ladd, ev, ev_ladd t l m, Int.mul_add]; omega

theorem ladd_len : ∀ (l m : List Int) (n : Nat), l.length ≤ n → m.length ≤ n → (ladd l m).length ≤ n
  | [], m, n, _, h => by simpa [ladd] using h
  | a :: l, [], n, h, _ => by simpa [ladd] using h
  | a :: l, b :: m, n, h1, h2 => by
    cases n with
    | zero => simp at h1
    | succ n =>
      simp only [ladd, List.length_cons] at *
      have := ladd_len l m n (by omega) (by omega)
      omega

theorem ev_scal (t c : Int) : ∀ l : List Int, ev t (l.map fun x => c * x) = c * ev t l
  | [] => by simp [ev]
  | a :: l => by
    simp only [List.map_cons, ev, ev_scal t c l, Int.mul_add]
    rw [Int.mul_left_comm]

theorem ev_rep (t : Int) (n : Nat) (l : List Int) : ev t (List.replicate n 0 ++ l) = t ^ n * ev t l := by
  rw [ev_append, ev_zeros, List.length_replicate]; omega

def Pl (n : Nat) (f : Int → Int) : Prop := ∃ l : List Int, l.length ≤ n ∧ ∀ t, f t = ev t l
def Po (f : Int → Int) : Prop := ∃ n, Pl n f

theorem Pl.po {n : Nat} {f : Int → Int} (h : Pl n f) : Po f := ⟨n, h⟩
theorem Pl.mono {n m : Nat} {f : Int → Int} (h : Pl n f) (hm : n ≤ m) : Pl m f := by
  obtain ⟨l, h1, h2⟩ := h
  exact ⟨l, by omega, h2⟩
theorem Pl.congr {n : Nat} {f g : Int → Int} (h : Pl n f) (e : ∀ t, g t = f t) : Pl n g := by
  obtain ⟨l, h1, h2⟩ := h
  exact ⟨l, h1, fun t => by rw [e, h2]⟩
theorem Po.congr {f g : Int → Int} (h : Po f) (e : ∀ t, g t = f t) : Po g := by
  obtain ⟨n, h⟩ := h
  exact ⟨n, h.congr e⟩
theorem Pl.ev (l : List Int) : Pl l.length (fun t => ev t l) := ⟨l, Nat.le_refl _, fun _ => rfl⟩
theorem Pl.zero (n : Nat) : Pl n (fun _ => 0) := ⟨[], by simp, fun t => rfl⟩
theorem Pl.const (c : Int) : Pl 1 (fun _ => c) := ⟨[c], by simp, fun t => by simp [Go.Proofs.YtldcjkhbiffdoabGreatDoor.ev]⟩
theorem Pl.add {n : Nat} {f g : Int → Int} (hf : Pl n f) (hg : Pl n g) : Pl n (fun t => f t + g t) := by
  obtain ⟨l, h1, h2⟩ := hf
  obtain ⟨m, h3, h4⟩ := hg
  exact ⟨ladd l m, ladd_len l m n h1 h3, fun t => by simp only [ev_ladd, h2, h4]⟩
theorem Pl.scal {n : Nat} {f : Int → Int} (c : Int) (hf : Pl n f) : Pl n (fun t => c * f t) := by
  obtain ⟨l, h1, h2⟩ := hf
  exact ⟨l.map fun x => c * x, by simpa using h1, fun t => by simp only [ev_scal, h2]⟩
theorem Pl.neg {n : Nat} {f : Int → Int} (hf : Pl n f) : Pl n (fun t => - f t) :=
  (hf.scal (-1)).congr fun t => by omega
theorem Pl.sub {n : Nat} {f g : Int → Int} (hf : Pl n f) (hg : Pl n g) : Pl n (fun t => f t - g t) :=
  (hf.add hg.neg).congr fun t => by omega
theorem Pl.shift {n : Nat} {f : Int → Int} (k : Nat) (hf : Pl n f) : Pl (k + n) (fun t => t ^ k * f t) := by
  obtain ⟨l, h1, h2⟩ := hf
  exact ⟨List.replicate k 0 ++ l, by simp; omega, fun t => by simp only [ev_rep, h2]⟩
theorem Pl.xpow (k : Nat) : Pl (k + 1) (fun t => t ^ k) := ((Pl.const 1).shift k).congr fun t => by simp
theorem Pl.mul {n m : Nat} {f g : Int → Int} (hf : Pl n f) (hg : Pl (m + 1) g) : Pl (n + m) (fun t => f t * g t) := by
  obtain ⟨l, h1, h2⟩ := hf
  have : ∀ (l : List Int) (n : Nat), l.length ≤ n → Pl (n + m) (fun t => Go.Proofs.YtldcjkhbiffdoabGreatDoor.ev t l * g t) := by
    intro l
    induction l with
    | nil => intro n _; exact (Pl.zero _).congr fun t => by simp [Go.Proofs.YtldcjkhbiffdoabGreatDoor.ev]
    | cons a l ih =>
      intro n hn
      cases n with
      | zero => simp at hn
      | succ n =>
        have h3 := (ih n (by simpa using hn)).shift 1
        have h4 := hg.scal a
        refine ((h4.mono (show m + 1 ≤ n + 1 + m by omega)).add (h3.mono (show 1 + (n + m) ≤ n + 1 + m by omega))).congr fun t => ?_
        simp only [Go.Proofs.YtldcjkhbiffdoabGreatDoor.ev, Int.add_mul, Int.pow_one, Int.mul_assoc]
  exact (this l n h1).congr fun t => by rw [h2]
theorem Pl.mul2 {n m : Nat} {f g : Int → Int} (hf : Pl n f) (hg : Pl m g) : Pl (n + m) (fun t => f t * g t) :=
  (hf.mul (m := m) (hg.mono (by omega)))

theorem Po.zero : Po (fun _ => 0) := ⟨0, Pl.zero 0⟩
theorem Po.const (c : Int) : Po (fun _ => c) := ⟨1, Pl.const c⟩
theorem Po.ev (l : List Int) : Po (fun t => Go.Proofs.YtldcjkhbiffdoabGreatDoor.ev t l) := ⟨_, Pl.ev l⟩
theorem Po.add {f g : Int → Int} (hf : Po f) (hg : Po g) : Po (fun t => f t + g t) := by
  obtain ⟨n, hf⟩ := hf
  obtain ⟨m, hg⟩ := hg
  exact ⟨n + m, (hf.mono (by omega)).add (hg.mono (by omega))⟩
theorem Po.mul {f g : Int → Int} (hf : Po f) (hg : Po g) : Po (fun t => f t * g t) := by
  obtain ⟨n, hf⟩ := hf
  obtain ⟨m, hg⟩ := hg
  exact ⟨n + m, hf.mul2 hg⟩
theorem Po.scal {f : Int → Int} (c : Int) (hf : Po f) : Po (fun t => c * f t) := (Po.const c).mul hf
theorem Po.neg {f : Int → Int} (hf : Po f) : Po (fun t => - f t) := (hf.scal (-1)).congr fun t => by omega
theorem Po.sub {f g : Int → Int} (hf : Po f) (hg : Po g) : Po (fun t => f t - g t) := (hf.add hg.neg).congr fun t => by omega
theorem Po.xpow (k : Nat) : Po (fun t => t ^ k) := ⟨_, Pl.xpow k⟩
theorem Po.pow {f : Int → Int} (hf : Po f) : ∀ k, Po (fun t => f t ^ k)
  | 0 => (Po.const 1).congr fun t => by simp
  | k + 1 => ((hf.pow k).mul hf).congr fun t => by rw [Int.pow_succ]

theorem ev_ext0 : ∀ (l : List Int) (N : Int), (∀ t, N ≤ t → ev t l = 0) → ∀ k, l.getD k 0 = 0
  | [], _, _ => fun k => by simp
  | a :: l, N, h => by
    have ha : a = 0 := by
      obtain ⟨t, h1, h2, h3⟩ : ∃ t : Int, N ≤ t ∧ 0 < t ∧ (a.natAbs : Int) < t := ⟨max N 0 + a.natAbs + 1, by omega, by omega, by omega⟩
      have h4 := h t h1
      simp only [ev] at h4
      have h5 : t ∣ a := ⟨- ev t l, by rw [Int.mul_neg]; omega⟩
      refine Int.eq_zero_of_dvd_of_natAbs_lt_natAbs h5 ?_
      omega
    subst ha
    have ih := ev_ext0 l (max N 1) (fun t ht => by
      have h4 := h t (by omega)
      simp only [ev, Int.zero_add] at h4
      rcases Int.mul_eq_zero.1 h4 with h5 | h5
      · omega
      · exact h5)
    intro k
    cases k with
    | zero => rfl
    | succ k => simpa using ih k

theorem ladd_getD : ∀ (l m : List Int) (k : Nat), (ladd l m).getD k 0 = l.getD k 0 + m.getD k 0
  | [], m, k => by simp [ladd]
  | a :: l, [], k => by simp [ladd]
  | a :: l, b :: m, 0 => by simp [ladd]
  | a :: l, b :: m, k + 1 => by simpa [ladd] using ladd_getD l m k

theorem ev_ext {l m : List Int} (N : Int) (h : ∀ t, N ≤ t → ev t l = ev t m) (k : Nat) : l.getD k 0 = m.getD k 0 := by
  have := ev_ext0 (ladd l (m.map fun x => -1 * x)) N (fun t ht => by rw [ev_ladd, ev_scal, h t ht]; omega) k
  rw [ladd_getD, scal_getD] at this
  omega

theorem ev_of_getD {l m : List Int} (h : ∀ k, l.getD k 0 = m.getD k 0) (t : Int) : ev t l = ev t m := by
  have aux : ∀ (l : List Int), (∀ k, l.getD k 0 = 0) → ev t l = 0 := by
    intro l
    induction l with
    | nil => intro _; rfl
    | cons a l ih =>
      intro h
      have h0 := h 0
      have h1 := ih fun k => by simpa using h (k + 1)
      simp at h0
      simp [ev, h0, h1]
  have := aux (ladd l (m.map fun x => -1 * x)) (fun k => by rw [ladd_getD, scal_getD, h]; omega)
  rw [ev_ladd, ev_scal] at this
  omega

theorem ev_tz (t : Int) (l : List Int) : ev t (tz l) = ev t l := ev_of_getD (fun k => tz_getD l k) t

def Ld (n : Nat) (c : Int) (f : Int → Int) : Prop := ∃ g, Pl n g ∧ ∀ t, f t = c * t ^ n + g t

theorem Ld.pl {n : Nat} {c : Int} {f : Int → Int} (h : Ld n c f) : Pl (n + 1) f := by
  obtain ⟨g, h1, h2⟩ := h
  exact (((Pl.xpow n).scal c).add (h1.mono (by omega))).congr h2
theorem Ld.po {n : Nat} {c : Int} {f : Int → Int} (h : Ld n c f) : Po f := h.pl.po
theorem Ld.congr {n : Nat} {c : Int} {f g : Int → Int} (h : Ld n c f) (e : ∀ t, g t = f t) : Ld n c g := by
  obtain ⟨r, h1, h2⟩ := h
  exact ⟨r, h1, fun t => by rw [e, h2]⟩

theorem Ld.of_list {l : List Int} {n : Nat} (h : l.length ≤ n + 1) : Ld n (l.getD n 0) (fun t => ev t l) := by
  refine ⟨fun t => ev t (l.take n), ⟨l.take n, by rw [List.length_take]; omega, fun _ => rfl⟩, fun t => ?_⟩
  have h1 := ev_take t l n
  rw [List.take_of_length_le h] at h1
  show ev t l = l.getD n 0 * t ^ n + ev t (l.take n)
  omega

theorem Pl.ld {n : Nat} {f : Int → Int} (h : Pl (n + 1) f) : ∃ c, Ld n c f := by
  obtain ⟨l, h1, h2⟩ := h
  exact ⟨_, (Ld.of_list h1).congr h2⟩

theorem Ld.list {n : Nat} {c : Int} {f : Int → Int} (h : Ld n c f) : ∃ l : List Int, l.length = n + 1 ∧ l.getD n 0 = c ∧ ∀ t, f t = ev t l := by
  obtain ⟨g, ⟨l, h1, h2⟩, h3⟩ := h
  refine ⟨l ++ List.replicate (n - l.length) 0 ++ [c], by simp; omega, ?_, fun t => ?_⟩
  · have hl : (l ++ List.replicate (n - l.length) (0 : Int)).length = n := by simp; omega
    rw [List.getD, List.getElem?_append_right (show (l ++ List.replicate (n - l.length) (0 : Int)).length ≤ n by omega), hl]
    simp
  · rw [h3, h2, ev_append, ev_append, ev_zeros]
    have hl : (l ++ List.replicate (n - l.length) (0 : Int)).length = n := by simp; omega
    rw [hl]
    simp only [ev, Int.mul_zero, Int.add_zero]
    rw [Int.mul_comm c]; omega

theorem Ld.uniq {n : Nat} {c d : Int} {f g : Int → Int} (h : Ld n c f) (h' : Ld n d g) (e : ∀ t, f t = g t) : c = d := by
  obtain ⟨l, _, h1, h2⟩ := h.list
  obtain ⟨m, _, h3, h4⟩ := h'.list
  rw [← h1, ← h3]
  exact ev_ext 0 (fun t _ => by rw [← h2, ← h4, e]) n

theorem Ld.of_pl {n : Nat} {f : Int → Int} (h : Pl n f) : Ld n 0 f := ⟨f, h, fun t => by omega⟩
theorem Ld.to_pl {n : Nat} {f : Int → Int} (h : Ld n 0 f) : Pl n f := by
  obtain ⟨g, h1, h2⟩ := h
  exact h1.congr fun t => by rw [h2]; omega
theorem Ld.add {n : Nat} {c d : Int} {f g : Int → Int} (hf : Ld n c f) (hg : Ld n d g) : Ld n (c + d) (fun t => f t + g t) := by
  obtain ⟨a, h1, h2⟩ := hf
  obtain ⟨b, h3, h4⟩ := hg
  exact ⟨_, h1.add h3, fun t => by simp only [h2, h4, Int.add_mul]; omega⟩
theorem Ld.scal {n : Nat} {d : Int} {f : Int → Int} (c : Int) (hf : Ld n d f) : Ld n (c * d) (fun t => c * f t) := by
  obtain ⟨a, h1, h2⟩ := hf
  exact ⟨_, h1.scal c, fun t => by simp only [h2, Int.mul_add, Int.mul_assoc]⟩
theorem Ld.sub {n : Nat} {c d : Int} {f g : Int → Int} (hf : Ld n c f) (hg : Ld n d g) : Ld n (c - d) (fun t => f t - g t) := by
  obtain ⟨a, h1, h2⟩ := hf
  obtain ⟨b, h3, h4⟩ := hg
  exact ⟨_, h1.sub h3, fun t => by simp only [h2, h4, Int.sub_mul]; omega⟩
theorem Ld.mul {n m : Nat} {c d : Int} {f g : Int → Int} (hf : Ld n c f) (hg : Ld m d g) : Ld (n + m) (c * d) (fun t => f t * g t) := by
  have hg' := hg.pl
  obtain ⟨a, h1, h2⟩ := hf
  obtain ⟨b, h3, h4⟩ := hg
  refine ⟨fun t => c * (t ^ n * b t) + a t * g t, ?_, fun t => ?_⟩
  · exact ((h3.shift n).scal c).add (h1.mul hg')
  · show f t * g t = c * d * t ^ (n + m) + (c * (t ^ n * b t) + a t * g t)
    have : c * t ^ n * (d * t ^ m) = c * d * (t ^ n * t ^ m) := by rw [Int.mul_assoc, Int.mul_left_comm (t ^ n), ← Int.mul_assoc]
    have h5 : c * t ^ n * g t = c * d * (t ^ n * t ^ m) + c * (t ^ n * b t) := by rw [h4, Int.mul_add, this, Int.mul_assoc c (t ^ n) (b t)]
    rw [h2, Int.add_mul, h5, Int.pow_add]
    omega
theorem Ld.const (c : Int) : Ld 0 c (fun _ => c) := ⟨fun _ => 0, Pl.zero 0, fun t => by simp⟩
theorem Ld.one_pow {n : Nat} : Ld n 1 (fun t => t ^ n) := ⟨fun _ => 0, Pl.zero n, fun t => by simp⟩

theorem Pl.zero0 {f : Int → Int} (h : Pl 0 f) (t : Int) : f t = 0 := by
  obtain ⟨l, h3, h4⟩ := h
  obtain rfl : l = [] := List.length_eq_zero_iff.1 (by omega)
  rw [h4]; rfl

theorem Pl.of_scal {n : Nat} {c : Int} {f : Int → Int} (hc : c ≠ 0) (hf : Po f) (h : Pl n (fun t => c * f t)) : Pl n f := by
  obtain ⟨N, l, _, h2⟩ := hf
  obtain ⟨m, h3, h4⟩ := h
  refine ⟨l.take n, by rw [List.length_take]; omega, fun t => ?_⟩
  rw [h2]
  refine ev_of_getD (fun k => ?_) t
  rcases Nat.lt_or_ge k n with hk | hk
  · simp [List.getD, List.getElem?_take_of_lt hk]
  · rw [getD_out (show (l.take n).length ≤ k by rw [List.length_take]; omega)]
    have h5 := ev_ext (l := l.map fun x => c * x) (m := m) 0 (fun t _ => by rw [ev_scal, ← h2, ← h4]) k
    rw [scal_getD, getD_out (show m.length ≤ k by omega)] at h5
    exact (Int.mul_eq_zero.1 h5).resolve_left hc

theorem Po.ext {f g : Int → Int} (hf : Po f) (hg : Po g) (N : Int) (h : ∀ t, N ≤ t → f t = g t) (t : Int) : f t = g t := by
  obtain ⟨n, l, _, h1⟩ := hf
  obtain ⟨m, k, _, h2⟩ := hg
  rw [h1, h2]
  exact ev_of_getD (ev_ext N fun t ht => by rw [← h1, ← h2, h t ht]) t

end Go.Proofs.YtldcjkhbiffdoabGreatDoor
