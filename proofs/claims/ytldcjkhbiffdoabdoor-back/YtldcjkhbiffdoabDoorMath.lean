
namespace Go.Proofs.YtldcjkhbiffdoabDoor

/-- The value of limbs to the base B, the lowest first. -/
def ev (B : Int) : List Int → Int
  | [] => 0
  | x :: l => x + B * ev B l

theorem ev_snoc (B : Int) (l : List Int) (x : Int) : ev B (l ++ [x]) = ev B l + x * B ^ l.length := by
  induction l with
  | nil => simp [ev]
  | cons a l ih =>
    simp only [List.cons_append, ev, ih, List.length_cons, Int.pow_succ]
    rw [Int.mul_add, Int.add_assoc, ← Int.mul_assoc, Int.mul_comm B x, Int.mul_assoc, Int.mul_comm (B ^ l.length) B]

/-- Each limb is a digit to the base. -/
def Dig (B : Int) (l : List Int) : Prop := ∀ x, x ∈ l → 0 ≤ x ∧ x < B

theorem Dig.nil (B : Int) : Dig B [] := fun x h => by simp at h
theorem Dig.snoc {B : Int} {l : List Int} {x : Int} (h : Dig B l) (h0 : 0 ≤ x) (h1 : x < B) : Dig B (l ++ [x]) := by
  intro y hy
  rcases List.mem_append.1 hy with hy | hy
  · exact h y hy
  · simp at hy; subst hy; exact ⟨h0, h1⟩
theorem Dig.tail {B a : Int} {l : List Int} (h : Dig B (a :: l)) : Dig B l := fun x hx => h x (List.mem_cons_of_mem _ hx)
theorem Dig.head {B a : Int} {l : List Int} (h : Dig B (a :: l)) : 0 ≤ a ∧ a < B := h a (List.mem_cons_self ..)

theorem ev_nonneg {B : Int} (hB : 0 < B) {l : List Int} (h : Dig B l) : 0 ≤ ev B l := by
  induction l with
  | nil => simp [ev]
  | cons a l ih =>
    have h1 := ih h.tail
    have h2 := h.head
    have h3 := Int.mul_nonneg (Int.le_of_lt hB) h1
    simp only [ev]; omega

theorem ev_lt {B : Int} (hB : 0 < B) {l : List Int} (h : Dig B l) : ev B l < B ^ l.length := by
  induction l with
  | nil => simp [ev]
  | cons a l ih =>
    have h1 := ih h.tail
    have h2 := h.head
    have h3 : B * (ev B l + 1) ≤ B * B ^ l.length := Int.mul_le_mul_of_nonneg_left (by omega) (Int.le_of_lt hB)
    rw [Int.mul_add, Int.mul_one] at h3
    simp only [ev, List.length_cons, Int.pow_succ]
    rw [Int.mul_comm (B ^ l.length) B]; omega

/-- No nought at the end. -/
def Trim (l : List Int) : Prop := ∀ x, l.getLast? = some x → x ≠ 0

theorem pow_pos {B : Int} (hB : 0 < B) (n : Nat) : 0 < B ^ n := Int.pow_pos hB

theorem ev_ge {B : Int} (hB : 0 < B) {l : List Int} (h : Dig B l) (ht : Trim l) (hne : l ≠ []) : B ^ (l.length - 1) ≤ ev B l := by
  obtain ⟨m, x, rfl⟩ : ∃ m x, l = m ++ [x] := ⟨l.dropLast, l.getLast hne, (List.dropLast_concat_getLast hne).symm⟩
  rw [ev_snoc]
  have h0 : 0 ≤ ev B m := ev_nonneg hB (fun y hy => h y (List.mem_append_left _ hy))
  have hx := h x (by simp)
  have hx0 : x ≠ 0 := ht x (by simp)
  have : 1 * B ^ m.length ≤ x * B ^ m.length := Int.mul_le_mul_of_nonneg_right (by omega) (Int.le_of_lt (pow_pos hB _))
  simp only [List.length_append, List.length_cons, List.length_nil, Nat.zero_add, Nat.add_sub_cancel]
  omega

theorem ev_inj {B : Int} (hB : 0 < B) : ∀ {l m : List Int}, Dig B l → Dig B m → l.length = m.length → ev B l = ev B m → l = m
  | [], [], _, _, _, _ => rfl
  | [], _ :: _, _, _, h, _ => by simp at h
  | _ :: _, [], _, _, h, _ => by simp at h
  | a :: l, b :: m, hl, hm, hn, he => by
    have ha := hl.head; have hb := hm.head
    simp only [ev] at he
    have hab : a = b := by
      have h1 : (a + B * ev B l) % B = (b + B * ev B m) % B := by rw [he]
      rw [Int.add_mul_emod_self_left, Int.add_mul_emod_self_left, Int.emod_eq_of_lt ha.1 ha.2, Int.emod_eq_of_lt hb.1 hb.2] at h1
      exact h1
    subst hab
    have : B * ev B l = B * ev B m := by omega
    have h2 := Int.eq_of_mul_eq_mul_left (by omega) this
    rw [ev_inj hB hl.tail hm.tail (by simpa using hn) h2]

theorem getD_lt {l : List Int} {i : Nat} (h : i < l.length) : l.getD i 0 = l[i] := by simp [List.getD, h]

/-- One limb more of those that are taken. -/
theorem ev_take (B : Int) (l : List Int) (i : Nat) : ev B (l.take (i + 1)) = ev B (l.take i) + l.getD i 0 * B ^ i := by
  by_cases h : i < l.length
  · rw [List.take_succ_eq_append_getElem h, ev_snoc]
    simp [h, List.length_take, Nat.min_eq_left (Nat.le_of_lt h)]
  · rw [List.take_of_length_le (by omega), List.take_of_length_le (by omega)]
    simp [List.getD, List.getElem?_eq_none (Nat.le_of_not_lt h)]

theorem Dig.getD {B : Int} (hB : 0 < B) {l : List Int} (h : Dig B l) (i : Nat) : 0 ≤ l.getD i 0 ∧ l.getD i 0 < B := by
  by_cases hi : i < l.length
  · rw [getD_lt hi]; exact h _ (List.getElem_mem hi)
  · simp [List.getD, List.getElem?_eq_none (Nat.le_of_not_lt hi)]; exact hB

theorem Dig.take {B : Int} {l : List Int} (h : Dig B l) (n : Nat) : Dig B (l.take n) := fun x hx => h x (List.mem_of_mem_take hx)
theorem Dig.drop {B : Int} {l : List Int} (h : Dig B l) (n : Nat) : Dig B (l.drop n) := fun x hx => h x (List.mem_of_mem_drop hx)

/-- One round of the sum. -/
theorem add_round {B : Int} (s : List Int) (i : Nat) (hs : s.length = i) (c x y ea eb : Int) (he : ev B s + c * B ^ i = ea + eb) :
    ev B (s ++ [(x + y + c) % B]) + (x + y + c) / B * B ^ (i + 1) = (ea + x * B ^ i) + (eb + y * B ^ i) := by
  rw [ev_snoc, hs, Int.pow_succ]
  have h := Int.emod_add_mul_ediv (x + y + c) B
  have e1 : (x + y + c) / B * (B ^ i * B) = B * ((x + y + c) / B) * B ^ i := by
    rw [Int.mul_comm (B ^ i) B, ← Int.mul_assoc, Int.mul_comm ((x + y + c) / B) B]
  have e2 : (x + y + c) % B * B ^ i + B * ((x + y + c) / B) * B ^ i = x * B ^ i + y * B ^ i + c * B ^ i := by
    rw [← Int.add_mul, h, Int.add_mul, Int.add_mul]
  rw [e1]; omega

/-- One round of the difference. -/
theorem sub_round {B : Int} (s : List Int) (i : Nat) (hs : s.length = i) (c x y ea eb t c' : Int) (he : ev B s - c * B ^ i = ea - eb) (ht : t - c' * B = x - y - c) :
    ev B (s ++ [t]) - c' * B ^ (i + 1) = (ea + x * B ^ i) - (eb + y * B ^ i) := by
  rw [ev_snoc, hs, Int.pow_succ]
  have e1 : c' * (B ^ i * B) = c' * B * B ^ i := by rw [Int.mul_comm (B ^ i) B, Int.mul_assoc]
  have e2 : t * B ^ i - c' * B * B ^ i = x * B ^ i - y * B ^ i - c * B ^ i := by
    rw [← Int.sub_mul, ht, Int.sub_mul, Int.sub_mul]
  rw [e1]; omega

/-- Where the greater is first the last borrow is none. -/
theorem sub_end {B : Int} (hB : 0 < B) (s : List Int) (hd : Dig B s) (c : Int) (hc : c = 0 ∨ c = 1) (ea eb : Int) (he : ev B s - c * B ^ s.length = ea - eb) (hle : eb ≤ ea) : ev B s = ea - eb := by
  rcases hc with rfl | rfl
  · simpa using he
  · have := ev_lt hB hd
    omega

theorem ev_append (B : Int) (l m : List Int) : ev B (l ++ m) = ev B l + B ^ l.length * ev B m := by
  induction l with
  | nil => simp [ev]
  | cons a l ih =>
    simp only [List.cons_append, ev, ih, List.length_cons, Int.pow_succ, Int.mul_add]
    rw [Int.mul_comm (B ^ l.length) B, Int.mul_assoc]; omega

theorem ev_split (B : Int) (l : List Int) (i : Nat) (h : i ≤ l.length) : ev B l = ev B (l.take i) + B ^ i * ev B (l.drop i) := by
  have := ev_append B (l.take i) (l.drop i)
  rw [List.take_append_drop, List.length_take, Nat.min_eq_left h] at this
  exact this

/-- The longer is greater. -/
theorem ev_lt_of_length {B : Int} (hB : 1 < B) {l m : List Int} (hl : Dig B l) (hm : Dig B m) (ht : Trim m) (h : l.length < m.length) : ev B l < ev B m := by
  have h1 := ev_lt (by omega) hl
  have h2 := ev_ge (by omega) hm ht (by intro e; subst e; simp at h)
  have h3 : B ^ l.length ≤ B ^ (m.length - 1) := by
    obtain ⟨k, hk⟩ : ∃ k, m.length - 1 = l.length + k := ⟨m.length - 1 - l.length, by omega⟩
    rw [hk, Int.pow_add]
    have h5 : (0:Int) < B ^ k := Int.pow_pos (by omega)
    have := Int.mul_le_mul_of_nonneg_left (show (1:Int) ≤ B ^ k by omega) (Int.le_of_lt (pow_pos (show 0 < B by omega) l.length))
    omega
  omega

/-- Of one length: the highest limb that is unlike decides. -/
theorem ev_lt_of_limb {B : Int} (hB : 0 < B) {l m : List Int} (hl : Dig B l) (hm : Dig B m) (hlen : l.length = m.length) (i : Nat) (hi : i < l.length) (heq : l.drop (i + 1) = m.drop (i + 1)) (hx : l.getD i 0 < m.getD i 0) : ev B l < ev B m := by
  rw [ev_split B l (i + 1) (by omega), ev_split B m (i + 1) (by omega), heq, ev_take, ev_take]
  have h1 := ev_lt hB (hl.take i)
  have h2 := ev_nonneg hB (hm.take i)
  rw [List.length_take, Nat.min_eq_left (by omega)] at h1
  have h3 : (l.getD i 0 + 1) * B ^ i ≤ m.getD i 0 * B ^ i := Int.mul_le_mul_of_nonneg_right (by omega) (Int.le_of_lt (pow_pos hB _))
  rw [Int.add_mul] at h3
  omega

theorem drop_eq_step {l m : List Int} (i : Nat) (hl : i < l.length) (hm : i < m.length) (heq : l.drop (i + 1) = m.drop (i + 1)) (hx : l.getD i 0 = m.getD i 0) : l.drop i = m.drop i := by
  rw [List.drop_eq_getElem_cons hl, List.drop_eq_getElem_cons hm, heq]
  rw [getD_lt hl, getD_lt hm] at hx
  rw [hx]

/-- A limb is written. -/
theorem ev_set (B : Int) (l : List Int) (k : Nat) (y : Int) (h : k < l.length) : ev B (l.set k y) = ev B l + (y - l.getD k 0) * B ^ k := by
  induction l generalizing k with
  | nil => simp at h
  | cons a l ih =>
    cases k with
    | zero => simp [ev]; omega
    | succ k =>
      simp only [List.set_cons_succ, ev, List.getD_cons_succ, Int.pow_succ]
      rw [ih k (by simpa using h), Int.mul_add, ← Int.mul_assoc, ← Int.mul_assoc, Int.mul_comm B (y - l.getD k 0), Int.mul_assoc, Int.mul_assoc, Int.mul_comm B (B ^ k)]
      omega

theorem Dig.set {B : Int} {l : List Int} (h : Dig B l) (k : Nat) {y : Int} (h0 : 0 ≤ y) (h1 : y < B) : Dig B (l.set k y) := by
  intro x hx
  rcases List.mem_or_eq_of_mem_set hx with hx | hx
  · exact h x hx
  · subst hx; exact ⟨h0, h1⟩

theorem Dig.zeros {B : Int} (hB : 0 < B) (n : Nat) : Dig B (List.replicate n 0) := by
  intro x hx; rw [List.mem_replicate] at hx; omega

theorem ev_zeros (B : Int) (n : Nat) : ev B (List.replicate n 0) = 0 := by
  induction n with
  | zero => rfl
  | succ n ih => simp [List.replicate_succ, ev, ih]

/-- One round of the inner loop of the product. -/
theorem mul_round {B : Int} (P : List Int) (i j : Nat) (hk : i + j < P.length) (x y c t e0 eb : Int) (he : ev B P + c * B ^ (i + j) = e0 + x * eb * B ^ i) (ht : t = P.getD (i + j) 0 + x * y + c) :
    ev B (P.set (i + j) (t % B)) + t / B * B ^ (i + (j + 1)) = e0 + x * (eb + y * B ^ j) * B ^ i := by
  rw [ev_set B P _ _ hk]
  have h := Int.emod_add_mul_ediv t B
  have e1 : t / B * B ^ (i + (j + 1)) = B * (t / B) * B ^ (i + j) := by
    rw [← Nat.add_assoc, Int.pow_succ, Int.mul_comm (B ^ (i + j)) B, ← Int.mul_assoc, Int.mul_comm (t / B) B]
  have e2 : (t % B - P.getD (i + j) 0) * B ^ (i + j) + B * (t / B) * B ^ (i + j) = x * y * B ^ (i + j) + c * B ^ (i + j) := by
    rw [← Int.add_mul, ← Int.add_mul]; congr 1; omega
  have e3 : x * (eb + y * B ^ j) * B ^ i = x * eb * B ^ i + x * y * B ^ (i + j) := by
    rw [Int.mul_add, Int.add_mul, Int.pow_add, ← Int.mul_assoc, Int.mul_assoc (x * y) (B ^ j), Int.mul_comm (B ^ j)]
  rw [e1, e3]; omega

theorem mul_bound {B : Int} (hB : 0 < B) (p x y c : Int) (hp : 0 ≤ p ∧ p < B) (hx : 0 ≤ x ∧ x < B) (hy : 0 ≤ y ∧ y < B) (hc : 0 ≤ c ∧ c < B) : 0 ≤ p + x * y + c ∧ p + x * y + c < B * B := by
  have h1 : x * y ≤ (B - 1) * (B - 1) := Int.mul_le_mul (by omega) (by omega) hy.1 (by omega)
  have h2 : (B - 1) * (B - 1) = B * B - 2 * B + 1 := by
    rw [Int.sub_mul, Int.mul_sub, Int.mul_one, Int.one_mul]; omega
  have h3 := Int.mul_nonneg hx.1 hy.1
  omega
end Go.Proofs.YtldcjkhbiffdoabDoor
