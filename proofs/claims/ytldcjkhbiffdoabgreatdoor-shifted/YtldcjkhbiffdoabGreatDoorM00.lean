import Derived.Lib.ItoaNum
import Derived.Test.YtldcjkhbiffdoabGreatDoorProg
import Derived.WalkKit
import Derived.WalkSpells
import Derived.WalkLawsBesides
import Derived.OwnWalk
import Derived.Laws.CopyOwn
import Derived.Deep.RegionHeld3
import Derived.Deep.QuietTactic
import Derived.BigQuiet
import Derived.BigRegion

namespace Go.Proofs.YtldcjkhbiffdoabGreatDoor

def ev (B : Int) : List Int → Int
  | [] => 0
  | x :: l => x + B * ev B l

theorem ev_snoc (B : Int) (l : List Int) (x : Int) : ev B (l ++ [x]) = ev B l + x * B ^ l.length := by
  induction l with
  | nil => simp [ev]
  | cons a l ih =>
    simp only [List.cons_append, ev, ih, List.length_cons, Int.pow_succ]
    rw [Int.mul_add, Int.add_assoc, ← Int.mul_assoc, Int.mul_comm B x, Int.mul_assoc, Int.mul_comm (B ^ l.length) B]

def Dig (B : Int) (l : List Int) : Prop := ∀ x, x ∈ l → 0 ≤ x ∧ x < B

theorem Dig.nil (B : Int) : Dig B [] := fun x h => by simp at h
theorem Dig.snoc {B : Int} {l : List Int} {x : Int} (h : Dig B l) (h0 : 0 ≤ x) (h1 : x < B) : Dig B (l ++ [x]) := by
  intro y hy
  rcases List.mem_append.1 hy with hy | hy
  · exact h y hy
  · simp at hy; subst hy; exact ⟨h0, h1⟩
theorem Dig.tail {B a : Int} {l : List Int} (h : Dig B (a :: l)) : Dig B l := fun x hx => h x (List.mem_cons_of_mem _ hx)
theorem Dig.head {B a : Int} {l : List Int} (h : Dig B (a :: l)) : 0 ≤ a ∧ a < B := h a (List.mem_cons_self ..)

theorem ev_nonneg {B : Int} (hB : 0 < B) {l : List Int} (h : Dig B l) : 0 ≤ ev B l := by
  induction l with
  | nil => simp [ev]
  | cons a l ih =>
    have h1 := ih h.tail
    have h2 := h.head
    have h3 := Int.mul_nonneg (Int.le_of_lt hB) h1
    simp only [ev]; omega

theorem ev_lt {B : Int} (hB : 0 < B) {l : List Int} (h : Dig B l) : ev B l < B ^ l.length := by
  induction l with
  | nil => simp [ev]
  | cons a l ih =>
    have h1 := ih h.tail
    have h2 := h.head
    have h3 : B * (ev B l + 1) ≤ B * B ^ l.length := Int.mul_le_mul_of_nonneg_left (by omega) (Int.le_of_lt hB)
    rw [Int.mul_add, Int.mul_one] at h3
    simp only [ev, List.length_cons, Int.pow_succ]
    rw [Int.mul_comm (B ^ l.length) B]; omega

def Trim (l : List Int) : Prop := ∀ x, l.getLast? = some x → x ≠ 0

theorem pow_pos {B : Int} (hB : 0 < B) (n : Nat) : 0 < B ^ n := Int.pow_pos hB

theorem ev_ge {B : Int} (hB : 0 < B) {l : List Int} (h : Dig B l) (ht : Trim l) (hne : l ≠ []) : B ^ (l.length - 1) ≤ ev B l := by
  obtain ⟨m, x, rfl⟩ : ∃ m x, l = m ++ [x] := ⟨l.dropLast, l.getLast hne, (List.dropLast_concat_getLast hne).symm⟩
  rw [ev_snoc]
  have h0 : 0 ≤ ev B m := ev_nonneg hB (fun y hy => h y (List.mem_append_left _ hy))
  have hx := h x (by simp)
  have hx0 : x ≠ 0 := ht x (by simp)
  have : 1 * B ^ m.length ≤ x * B ^ m.length := Int.mul_le_mul_of_nonneg_right (by omega) (Int.le_of_lt (pow_pos hB _))
  simp only [List.length_append, List.length_cons, List.length_nil, Nat.zero_add, Nat.add_sub_cancel]
  omega

theorem getD_lt {l : List Int} {i : Nat} (h : i < l.length) : l.getD i 0 = l[i] := by simp [List.getD, h]

theorem ev_take (B : Int) (l : List Int) (i : Nat) : ev B (l.take (i + 1)) = ev B (l.take i) + l.getD i 0 * B ^ i := by
  by_cases h : i < l.length
  · rw [List.take_succ_eq_append_getElem h, ev_snoc]
    simp [h, List.length_take, Nat.min_eq_left (Nat.le_of_lt h)]
  · rw [List.take_of_length_le (by omega), List.take_of_length_le (by omega)]
    simp [List.getD, List.getElem?_eq_none (Nat.le_of_not_lt h)]

theorem Dig.getD {B : Int} (hB : 0 < B) {l : List Int} (h : Dig B l) (i : Nat) : 0 ≤ l.getD i 0 ∧ l.getD i 0 < B := by
  by_cases hi : i < l.length
  · rw [getD_lt hi]; exact h _ (List.getElem_mem hi)
  · simp [List.getD, List.getElem?_eq_none (Nat.le_of_not_lt hi)]; exact hB

theorem Dig.take {B : Int} {l : List Int} (h : Dig B l) (n : Nat) : Dig B (l.take n) := fun x hx => h x (List.mem_of_mem_take hx)
theorem Dig.drop {B : Int} {l : List Int} (h : Dig B l) (n : Nat) : Dig B (l.drop n) := fun x hx => h x (List.mem_of_mem_drop hx)

theorem add_round {B : Int} (s : List Int) (i : Nat) (hs : s.length = i) (c x y ea eb : Int) (he : ev B s + c * B ^ i = ea + eb) :
    ev B (s ++ [(x + y + c) % B]) + (x + y + c) / B * B ^ (i + 1) = (ea + x * B ^ i) + (eb + y * B ^ i) := by
  rw [ev_snoc, hs, Int.pow_succ]
  have h := Int.emod_add_mul_ediv (x + y + c) B
  have e1 : (x + y + c) / B * (B ^ i * B) = B * ((x + y + c) / B) * B ^ i := by
    rw [Int.mul_comm (B ^ i) B, ← Int.mul_assoc, Int.mul_comm ((x + y + c) / B) B]
  have e2 : (x + y + c) % B * B ^ i + B * ((x + y + c) / B) * B ^ i = x * B ^ i + y * B ^ i + c * B ^ i := by
    rw [← Int.add_mul, h, Int.add_mul, Int.add_mul]
  rw [e1]; omega

theorem sub_round {B : Int} (s : List Int) (i : Nat) (hs : s.length = i) (c x y ea eb t c' : Int) (he : ev B s - c * B ^ i = ea - eb) (ht : t - c' * B = x - y - c) :
    ev B (s ++ [t]) - c' * B ^ (i + 1) = (ea + x * B ^ i) - (eb + y * B ^ i) := by
  rw [ev_snoc, hs, Int.pow_succ]
  have e1 : c' * (B ^ i * B) = c' * B * B ^ i := by rw [Int.mul_comm (B ^ i) B, Int.mul_assoc]
  have e2 : t * B ^ i - c' * B * B ^ i = x * B ^ i - y * B ^ i - c * B ^ i := by
    rw [← Int.sub_mul, ht, Int.sub_mul, Int.sub_mul]
  rw [e1]; omega

theorem sub_end {B : Int} (hB : 0 < B) (s : List Int) (hd : Dig B s) (c : Int) (hc : c = 0 ∨ c = 1) (ea eb : Int) (he : ev B s - c * B ^ s.length = ea - eb) (hle : eb ≤ ea) : ev B s = ea - eb := by
  rcases hc with rfl | rfl
  · simpa using he
  · have := ev_lt hB hd
    omega

theorem ev_append (B : Int) (l m : List Int) : ev B (l ++ m) = ev B l + B ^ l.length * ev B m := by
  induction l with
  | nil => simp [ev]
  | cons a l ih =>
    simp only [List.cons_append, ev, ih, List.length_cons, Int.pow_succ, Int.mul_add]
    rw [Int.mul_comm (B ^ l.length) B, Int.mul_assoc]; omega

theorem ev_split (B : Int) (l : List Int) (i : Nat) (h : i ≤ l.length) : ev B l = ev B (l.take i) + B ^ i * ev B (l.drop i) := by
  have := ev_append B (l.take i) (l.drop i)
  rw [List.take_append_drop, List.length_take, Nat.min_eq_left h] at this
  exact this

theorem ev_lt_of_length {B : Int} (hB : 1 < B) {l m : List Int} (hl : Dig B l) (hm : Dig B m) (ht : Trim m) (h : l.length < m.length) : ev B l < ev B m := by
  have h1 := ev_lt (by omega) hl
  have h2 := ev_ge (by omega) hm ht (by intro e; subst e; simp at h)
  have h3 : B ^ l.length ≤ B ^ (m.length - 1) := by
    obtain ⟨k, hk⟩ : ∃ k, m.length - 1 = l.length + k := ⟨m.length - 1 - l.length, by omega⟩
    rw [hk, Int.pow_add]
    have h5 : (0:Int) < B ^ k := Int.pow_pos (by omega)
    have := Int.mul_le_mul_of_nonneg_left (show (1:Int) ≤ B ^ k by omega) (Int.le_of_lt (pow_pos (show 0 < B by omega) l.length))
    omega
  omega

theorem ev_lt_of_limb {B : Int} (hB : 0 < B) {l m : List Int} (hl : Dig B l) (hm : Dig B m) (hlen : l.length = m.length) (i : Nat) (hi : i < l.length) (heq : l.drop (i + 1) = m.drop (i + 1)) (hx : l.getD i 0 < m.getD i 0) : ev B l < ev B m := by
  rw [ev_split B l (i + 1) (by omega), ev_split B m (i + 1) (by omega), heq, ev_take, ev_take]
  have h1 := ev_lt hB (hl.take i)
  have h2 := ev_nonneg hB (hm.take i)
  rw [List.length_take, Nat.min_eq_left (by omega)] at h1
  have h3 : (l.getD i 0 + 1) * B ^ i ≤ m.getD i 0 * B ^ i := Int.mul_le_mul_of_nonneg_right (by omega) (Int.le_of_lt (pow_pos hB _))
  rw [Int.add_mul] at h3
  omega

theorem drop_eq_step {l m : List Int} (i : Nat) (hl : i < l.length) (hm : i < m.length) (heq : l.drop (i + 1) = m.drop (i + 1)) (hx : l.getD i 0 = m.getD i 0) : l.drop i = m.drop i := by
  rw [List.drop_eq_getElem_cons hl, List.drop_eq_getElem_cons hm, heq]
  rw [getD_lt hl, getD_lt hm] at hx
  rw [hx]

theorem ev_set (B : Int) (l : List Int) (k : Nat) (y : Int) (h : k < l.length) : ev B (l.set k y) = ev B l + (y - l.getD k 0) * B ^ k := by
  induction l generalizing k with
  | nil => simp at h
  | cons a l ih =>
    cases k with
    | zero => simp [ev]; omega
    | succ k =>
      simp only [List.set_cons_succ, ev, List.getD_cons_succ, Int.pow_succ]
      rw [ih k (by simpa using h), Int.mul_add, ← Int.mul_assoc, ← Int.mul_assoc, Int.mul_comm B (y - l.getD k 0), Int.mul_assoc, Int.mul_assoc, Int.mul_comm B (B ^ k)]
      omega

theorem Dig.set {B : Int} {l : List Int} (h : Dig B l) (k : Nat) {y : Int} (h0 : 0 ≤ y) (h1 : y < B) : Dig B (l.set k y) := by
  intro x hx
  rcases List.mem_or_eq_of_mem_set hx with hx | hx
  · exact h x hx
  · subst hx; exact ⟨h0, h1⟩

theorem Dig.zeros {B : Int} (hB : 0 < B) (n : Nat) : Dig B (List.replicate n 0) := by
  intro x hx; rw [List.mem_replicate] at hx; omega

theorem ev_zeros (B : Int) (n : Nat) : ev B (List.replicate n 0) = 0 := by
  induction n with
  | zero => rfl
  | succ n ih => simp [List.replicate_succ, ev, ih]

theorem mul_round {B : Int} (P : List Int) (i j : Nat) (hk : i + j < P.length) (x y c t e0 eb : Int) (he : ev B P + c * B ^ (i + j) = e0 + x * eb * B ^ i) (ht : t = P.getD (i + j) 0 + x * y + c) :
    ev B (P.set (i + j) (t % B)) + t / B * B ^ (i + (j + 1)) = e0 + x * (eb + y * B ^ j) * B ^ i := by
  rw [ev_set B P _ _ hk]
  have h := Int.emod_add_mul_ediv t B
  have e1 : t / B * B ^ (i + (j + 1)) = B * (t / B) * B ^ (i + j) := by
    rw [← Nat.add_assoc, Int.pow_succ, Int.mul_comm (B ^ (i + j)) B, ← Int.mul_assoc, Int.mul_comm (t / B) B]
  have e2 : (t % B - P.getD (i + j) 0) * B ^ (i + j) + B * (t / B) * B ^ (i + j) = x * y * B ^ (i + j) + c * B ^ (i + j) := by
    rw [← Int.add_mul, ← Int.add_mul]; congr 1; omega
  have e3 : x * (eb + y * B ^ j) * B ^ i = x * eb * B ^ i + x * y * B ^ (i + j) := by
    rw [Int.mul_add, Int.add_mul, Int.pow_add, ← Int.mul_assoc, Int.mul_assoc (x * y) (B ^ j), Int.mul_comm (B ^ j)]
  rw [e1, e3]; omega

theorem mul_bound {B : Int} (hB : 0 < B) (p x y c : Int) (hp : 0 ≤ p ∧ p < B) (hx : 0 ≤ x ∧ x < B) (hy : 0 ≤ y ∧ y < B) (hc : 0 ≤ c ∧ c < B) : 0 ≤ p + x * y + c ∧ p + x * y + c < B * B := by
  have h1 : x * y ≤ (B - 1) * (B - 1) := Int.mul_le_mul (by omega) (by omega) hy.1 (by omega)
  have h2 : (B - 1) * (B - 1) = B * B - 2 * B + 1 := by
    rw [Int.sub_mul, Int.mul_sub, Int.mul_one, Int.one_mul]; omega
  have h3 := Int.mul_nonneg hx.1 hy.1
  omega
theorem tA {α : Type} (l : List α) (i : Nat) (a : α) : l.toArray.setIfInBounds i a = (l.set i a).toArray := List.setIfInBounds_toArray ..
theorem tB {α : Type} (a : α) (l : List α) (n : Nat) (b : α) : (a :: l).set (n + 1) b = a :: l.set n b := rfl
theorem tC {α : Type} (a : α) (l : List α) (b : α) : (a :: l).set 0 b = b :: l := rfl
theorem rA (a b c : Int) : a * (b + c) = a * b + a * c := Int.mul_add ..
theorem rB (a b c : Int) : (a + b) * c = a * c + b * c := Int.add_mul ..
theorem rC (a b c : Int) : a * (b - c) = a * b - a * c := Int.mul_sub ..
theorem rD (a b c : Int) : (a - b) * c = a * c - b * c := Int.sub_mul ..
theorem rE (a b : Int) : -a * b = -(a * b) := Int.neg_mul ..
theorem rF (a b : Int) : a * -b = -(a * b) := Int.mul_neg ..
theorem rG (a b c : Int) : a * b * c = a * (b * c) := Int.mul_assoc ..
theorem rH (a b : Int) : a * b = b * a := Int.mul_comm ..
theorem rI (a b c : Int) : a * (b * c) = b * (a * c) := Int.mul_left_comm ..
theorem rJ (a : Int) : a * 1 = a := Int.mul_one _
theorem rK (a : Int) : 1 * a = a := Int.one_mul _

end Go.Proofs.YtldcjkhbiffdoabGreatDoor

namespace Go.Proofs.YtldcjkhbiffdoabGreatDoor
open Go

def padk : Nat → Nat → List UInt8
  | 0, _ => []
  | k + 1, n => padk k (n / 10) ++ [UInt8.ofNat (48 + n % 10)]

theorem dec_big {n : Nat} (h : ¬ n < 10) : Lib.decDigits n = Lib.decDigits (n / 10) ++ [UInt8.ofNat (48 + n % 10)] := by rw [Lib.decDigits, dif_neg h]

theorem dec_pad (q : Nat) (hq : 0 < q) : ∀ (k x : Nat), x < 10 ^ k → Lib.decDigits (q * 10 ^ k + x) = Lib.decDigits q ++ padk k x
  | 0, x, h => by
    have : x = 0 := by simp at h; exact h
    subst this; simp [padk]
  | k + 1, x, h => by
    rw [Nat.pow_succ] at h
    have h1 : 0 < 10 ^ k := Nat.pow_pos (by omega)
    have h2 : q * 10 ^ (k + 1) = q * 10 ^ k * 10 := by rw [Nat.pow_succ, Nat.mul_assoc]
    have h3 : 1 * 1 ≤ q * 10 ^ k := Nat.mul_le_mul hq h1
    rw [h2]
    generalize hp : q * 10 ^ k = p at *
    rw [dec_big (by omega), show (p * 10 + x) / 10 = p + x / 10 by omega, show (p * 10 + x) % 10 = x % 10 by omega, ← hp, dec_pad q hq k (x / 10) (by omega)]
    simp [padk]

theorem pad_eq : ∀ (k n : Nat), n < 10 ^ (k + 1) → padk (k + 1) n = List.replicate (k + 1 - Lib.nDigits n) 48 ++ Lib.decDigits n
  | 0, n, h => by
    have h : n < 10 := by simpa using h
    rw [Lib.nDigits_small h, Lib.decDigits_one h]
    simp [padk, Nat.mod_eq_of_lt h]
  | k + 1, n, h => by
    rw [Nat.pow_succ] at h
    show padk (k + 1) (n / 10) ++ [UInt8.ofNat (48 + n % 10)] = _
    rw [pad_eq k (n / 10) (by omega)]
    by_cases hn : n < 10
    · have h0 : n / 10 = 0 := by omega
      rw [h0, Lib.nDigits_small hn, Lib.nDigits_small (by omega), Lib.decDigits_one hn, Lib.decDigits_one (by omega), Nat.mod_eq_of_lt hn]
      rw [show k + 1 + 1 - 1 = (k + 1 - 1) + 1 by omega, List.replicate_succ']
      rfl
    · rw [Lib.nDigits_big hn, dec_big hn, show k + 1 + 1 - (Lib.nDigits (n / 10) + 1) = k + 1 - Lib.nDigits (n / 10) by omega, List.append_assoc]

theorem dec_limb (q x : Int) (hq : 0 < q) (h0 : 0 ≤ x) (h1 : x < 1000000000) : Lib.decDigits (x + 1000000000 * q).toNat = Lib.decDigits q.toNat ++ padk 9 x.toNat := by
  rw [show (x + 1000000000 * q).toNat = q.toNat * 10 ^ 9 + x.toNat by omega]
  exact dec_pad q.toNat (by omega) 9 x.toNat (by omega)

theorem pad9 (x : Int) (h0 : 0 ≤ x) (h1 : x < 1000000000) : List.replicate (9 - Lib.nDigits x.toNat) 48 ++ Lib.decDigits x.toNat = padk 9 x.toNat := (pad_eq 8 x.toNat (by omega)).symm

theorem pow_nDigits (u : Nat) : 10 ^ (Lib.nDigits u - 1) ≤ u ∨ u = 0 := by
  induction u using Nat.strongRecOn with
  | _ u ih =>
    by_cases hu : u < 10
    · rw [Lib.nDigits_small hu]; simp; omega
    · left
      rw [Lib.nDigits_big hu]
      rcases ih (u / 10) (by omega) with h3 | h3
      · have := Lib.nDigits_pos (u / 10)
        rw [show Lib.nDigits (u / 10) + 1 - 1 = (Lib.nDigits (u / 10) - 1) + 1 by omega, Nat.pow_succ]
        omega
      · omega

theorem nDigits_le {u k : Nat} (h : u < 10 ^ k) (hk : 1 ≤ k) : Lib.nDigits u ≤ k := by
  rcases Nat.lt_or_ge k (Lib.nDigits u) with h1 | h1
  · exfalso
    rcases pow_nDigits u with h3 | h3
    · have h4 : 10 ^ k ≤ 10 ^ (Lib.nDigits u - 1) := Nat.pow_le_pow_right (by omega) (by omega)
      omega
    · rw [h3, Lib.nDigits_small (by omega)] at h1; omega
  · exact h1

theorem nDigits_le9 (x : Int) (h1 : x < 1000000000) : Lib.nDigits x.toNat ≤ 9 := nDigits_le (by omega) (by omega)

theorem ev_toNat_lt {l : List Int} (d : Dig 1000000000 l) : (ev 1000000000 l).toNat < 10 ^ (9 * l.length) := by
  have h := ev_lt (by omega) d
  have h0 := ev_nonneg (by omega) d
  have h1 : ((10 ^ (9 * l.length) : Nat) : Int) = 1000000000 ^ l.length := by rw [Nat.pow_mul, Int.natCast_pow]; rfl
  omega

theorem dec_len {l : List Int} (d : Dig 1000000000 l) : (Lib.decDigits (ev 1000000000 l).toNat).length ≤ 9 * l.length + 1 := by
  rw [Lib.decDigits_length]
  refine nDigits_le (Nat.lt_of_lt_of_le (ev_toNat_lt d) (Nat.pow_le_pow_right (by omega) (by omega))) (by omega)

theorem str_app (a b : List UInt8) : ((⟨a.toArray⟩ : ByteArray) ++ ⟨b.toArray⟩) = ⟨(a ++ b).toArray⟩ := by
  apply ByteArray.ext
  simp
theorem itoa_nonneg {x : Int} (h : 0 ≤ x) : Lib.itoa x = Lib.decDigits x.toNat := by unfold Lib.itoa; rw [if_neg (by omega)]

end Go.Proofs.YtldcjkhbiffdoabGreatDoor

namespace Go.Proofs.YtldcjkhbiffdoabGreatDoor
open Go.RowKit

def Row (w : World) (v : Value) (l : List Int) : Prop := w.ownsRow 0 2 1 v l.length (l.map (Value.int .i64))

theorem Row.form {w : World} {v : Value} {l : List Int} (h : Row w v l) :
    (v = .slice none 0 0 ∧ l = []) ∨ ∃ g cap, v = .slice (some ⟨g, 0, none⟩) l.length cap ∧ l.length ≤ cap ∧ cap ≤ maxLen ∧ g < w.heap.size ∧ (∀ i, i < l.length → w.cell? ⟨g, i, none⟩ = some (.int .i64 (l.getD i 0))) := by
  rcases h.2 with ⟨h1, h2⟩ | ⟨g, cap, cur, hv, hb, hg, hnc, hcm, hcs, ht⟩
  · exact .inl ⟨h1, List.eq_nil_of_length_eq_zero h2⟩
  · refine .inr ⟨g, cap, hv, hnc, hcm, (Array.getElem?_eq_some_iff.1 hg).1, fun i hi => ?_⟩
    have h' : w.ownsRow 0 2 1 (.slice (some ⟨g, 0, none⟩) l.length cap) l.length (l.map (Value.int .i64)) := hv ▸ h
    rw [h'.cellAt i (by omega)]
    simp [hi, List.getD]

theorem Row.val {w : World} {v : Value} {l : List Int} (h : Row w v l) : ∃ a c, v = .slice a l.length c := by
  rcases h.form with ⟨rfl, rfl⟩ | ⟨g, cap, rfl, _⟩
  · exact ⟨_, _, rfl⟩
  · exact ⟨_, _, rfl⟩

theorem Row.at {w : World} {a : Option Addr} {c : Nat} {l : List Int} (h : Row w (.slice a l.length c) l) (i : Nat) (hi : i < l.length) : ∃ g, a = some ⟨g, 0, none⟩ ∧ l.length ≤ c ∧ c ≤ maxLen ∧ g < w.heap.size ∧ w.cell? ⟨g, i, none⟩ = some (.int .i64 (l.getD i 0)) := by
  rcases h.form with ⟨h1, rfl⟩ | ⟨g, cap, h1, h2, h3, h5, h4⟩
  · simp at hi
  · simp only [Value.slice.injEq] at h1
    obtain ⟨rfl, _, rfl⟩ := h1
    exact ⟨g, rfl, h2, h3, h5, h4 i hi⟩

theorem Row.below {w w' : World} {v : Value} {l : List Int} (h : Row w v l) (hb : Below w.heap.size w w') : Row w' v l := by
  refine ⟨h.1, ?_⟩
  rcases h.2 with h1 | ⟨g, cap, cur, hv, hb0, hg, r⟩
  · exact .inl h1
  · exact .inr ⟨g, cap, cur, hv, hb0, by rw [hb.block g (Array.getElem?_eq_some_iff.1 hg).1]; exact hg, r⟩

theorem Row.alloc {w : World} {v : Value} {l : List Int} (h : Row w v l) (o : Obj) : Row (w.alloc o) v l := h.below ((Below.refl _ _).alloc (Nat.le_refl _) _)

def Own (B : Nat) (w : World) (v : Value) (l : List Int) : Prop := w.ownsRow B 2 1 v l.length (l.map (Value.int .i64))

theorem Own.row {B : Nat} {w : World} {v : Value} {l : List Int} (h : Own B w v l) : Row w v l := by
  refine ⟨h.1, ?_⟩
  rcases h.2 with h1 | ⟨g, cap, cur, hv, hb0, r⟩
  · exact .inl h1
  · exact .inr ⟨g, cap, cur, hv, Nat.zero_le _, r⟩

theorem Own.block {B : Nat} {w : World} {v : Value} {l : List Int} (h : Own B w v l) : ∀ k, v.ownBlock = some k → B ≤ k := fun k hk => (World.ownsRow.lt h k hk).1

theorem Own.lit {w : World} {n : Nat} (h : w.heap.size = n) : Own n (w.alloc (.cells #[] 2)) (.slice (some ⟨n, 0, none⟩) 0 0) [] := by
  subst h
  exact World.ownsRow_made w #[] 0 (Nat.le_refl _) (by simp [maxLen]) rfl

theorem Tryz.infoI64 : (Tryz.prog.info? 2).map (fun i => (i.zero, i.size, i.bytes)) = some (some (.int .i64 0), 1, 8) := by kernel_rfl
theorem Tryz.sliceI64 : Tryz.prog.underlying 68 = some (.slice 2) := by kernel_rfl

theorem wpList_push {ops : Array Oper} {rest : List Oper} {o : Oper} {a : Act} {Q : Exit → Act → World → Prop} {wr : World} (hgd : o.guard = none) (s x : Operand)
    (ho : o.op = .call { callee := .builtin .append, args := #[s, x], argTypes := #[68, 68] })
    (B : Nat) (v : Value) (l : List Int) (y : Int) (hs : a.eval s = v) (hown : Own B wr v l) (hx : a.eval x = .slice (some ⟨wr.heap.size, 0, none⟩) 1 1)
    (hlen : l.length ≤ 1000000000000) (hB : B ≤ wr.heap.size)
    (h : ∀ v' w', Own B w' v' (l ++ [y]) → Below B wr w' → wr.grownBy w' v.ownBlock → wpList Tryz.prog ops Q rest (a.put o.dst v') w') :
    wpList Tryz.prog ops Q (o :: rest) a (wr.alloc (.cells #[.int .i64 y] 2)) := by
  obtain ⟨i, hi, hz0, hz1, hz2⟩ := info_parts Tryz.infoI64
  refine wpList_append_own _ hgd s x 68 ho B 2 i (.int .i64 0) 1 8 Tryz.sliceI64 hi hz0 hz1 hz2 rfl (by decide) v l.length (l.map (Value.int .i64)) hs (World.ownsRow.alloc hown _) ⟨wr.heap.size, 0, none⟩ 1 1 [.int .i64 y] hx rfl ?_ ?_ ?_ ?_ ?_ ?_
  · intro j u hj
    match j, hj with
    | 0, hj => simp at hj; subst hj; simp [Addr.add]
  · intro u hu; simp at hu; subst hu; rfl
  · unfold maxLen; omega
  · omega
  · simp; omega
  · intro v' w' h1 h2 _
    have hg : wr.grownBy w' v.ownBlock := by
      have h0 := World.grownBy_alloc wr (.cells #[.int .i64 y] 2) v.ownBlock
      exact ⟨h2.os.trans h0.os, h2.tape.trans h0.tape, h2.output.trans h0.output, Nat.le_trans h0.size h2.size, fun k hk hne => (h2.block k (by simp; omega) hne).trans (h0.block k hk hne)⟩
    refine h v' w' ?_ ((Below.refl _ _).grown hg hB hown.block) hg
    unfold Own
    simpa using h1

theorem made_zeros (n : Nat) : (madeCells (Value.int .i64 0).cells (n * 1)).toList = (List.replicate n (0 : Int)).map (Value.int .i64) := by
  rw [List.map_replicate, List.eq_replicate_iff]
  refine ⟨by simp [size_madeCells], fun b hb => ?_⟩
  obtain ⟨i, hi, rfl⟩ := List.mem_iff_getElem.1 hb
  simp [madeCells, Value.cells, Nat.mod_one]

theorem wpList_make64 {ops : Array Oper} {rest : List Oper} {o : Oper} {a : Act} {Q : Exit → Act → World → Prop} {w : World} (hg : o.guard = none) (l c : Operand) (hop : o.op = Op.makeSlice 68 l c)
    (L C : Int) (n : Nat) (hl : a.eval l = .int .i64 L) (hc : a.eval c = .int .i64 C) (hL : L = (n : Int)) (hC : C = (n : Int)) (hn : n ≤ 1000000000000)
    (hK : ∀ w' P, Hid (P = List.replicate n 0) → w'.ownsRow w.heap.size 2 1 (.slice (some ⟨w.heap.size, 0, none⟩) n n) n (P.map (Value.int .i64)) → Below w.heap.size w w' → wpList Tryz.prog ops Q rest (a.put o.dst (.slice (some ⟨w.heap.size, 0, none⟩) n n)) w') :
    wpList Tryz.prog ops Q (o :: rest) a w := by
  obtain ⟨i, hi, hz0, hz1, hz2⟩ := info_parts Tryz.infoI64
  refine wpList_make_full w hg l c 68 hop w.heap.size 2 i (.int .i64 0) 1 Tryz.sliceI64 hi hz0 hz1 .i64 .i64 L C n hl hc hL hC (by rw [hz2]; omega) (by unfold maxLen; omega) (Nat.le_refl _) ?_
  intro w' h1 h2
  rw [made_zeros] at h1
  exact hK w' _ rfl h1 ((Below.refl _ _).grown h2 (Nat.le_refl _) (fun k hk => by cases hk))

theorem made_own {B n g : Nat} {w : World} {P : List Int} (h : w.ownsRow B 2 1 (.slice (some ⟨g, 0, none⟩) n n) n (P.map (Value.int .i64))) (hP : P.length = n) : Own B w (.slice (some ⟨g, 0, none⟩) n n) P := by
  unfold Own; rw [hP]; exact h

theorem map_set (P : List Int) (k : Nat) (y : Int) : (P.map (Value.int .i64)).set k (.int .i64 y) = (P.set k y).map (Value.int .i64) := by
  rw [List.map_set]

theorem take_set {P : List Int} {k : Nat} (h : k < P.length) (t : Int) : (P.set k t).take (k + 1) = P.take k ++ [t] := by
  rw [List.take_succ_eq_append_getElem (by simpa using h)]
  congr 1
  · rw [List.take_set_of_le (Nat.le_refl _)]
  · simp

end Go.Proofs.YtldcjkhbiffdoabGreatDoor

namespace Go.Proofs.YtldcjkhbiffdoabGreatDoor
open Go.RowKit

set_option maxHeartbeats 400000 in
theorem limbAt_any (l : List Int) (v : Value) (i : Nat) (w : World) (h : Row w v l) (hi : i ≤ 1000000000000) (hl : l.length ≤ 1000000000000) :
    Calls Tryz.prog 107 #[v, .int .i64 i] w fun e w' => e = .returned (.int .i64 (l.getD i 0)) ∧ w' = w := by
  rcases h.form with ⟨rfl, rfl⟩ | ⟨g, cap, rfl, hc, hm, _, hcell⟩
  · go_enter Tryz.func107, Tryz.ntmps107
    go_wp2
    go_ret
    exact ⟨rfl, rfl⟩
  · by_cases hlt : i < l.length
    · have hg := hcell i hlt
      clear hcell
      generalize l.getD i 0 = x at *
      go_enter Tryz.func107, Tryz.ntmps107
      go_wp2
      go_ret
      exact ⟨rfl, rfl⟩
    · have hz : l.getD i 0 = 0 := by simp [List.getD, List.getElem?_eq_none (Nat.le_of_not_lt hlt)]
      clear hcell
      rw [hz]
      clear hz
      go_enter Tryz.func107, Tryz.ntmps107
      go_wp2
      go_ret
      exact ⟨rfl, rfl⟩

end Go.Proofs.YtldcjkhbiffdoabGreatDoor

namespace Go.Proofs.YtldcjkhbiffdoabGreatDoor
open Go.RowKit

theorem add_step {l m sl : List Int} {k : Nat} {cy x y : Int} (hsl : sl.length = k) (h : Dig 1000000000 sl ∧ ev 1000000000 sl + cy * 1000000000 ^ k = ev 1000000000 (l.take k) + ev 1000000000 (m.take k)) (hx : l.getD k 0 = x) (hy : m.getD k 0 = y)
    : Dig 1000000000 (sl ++ [(x + y + cy) % 1000000000]) ∧ ev 1000000000 (sl ++ [(x + y + cy) % 1000000000]) + (x + y + cy) / 1000000000 * 1000000000 ^ (k + 1) = ev 1000000000 (l.take (k + 1)) + ev 1000000000 (m.take (k + 1)) := by
  refine ⟨h.1.snoc (by omega) (by omega), ?_⟩
  rw [ev_take, ev_take, hx, hy]
  exact add_round sl k hsl cy x y _ _ h.2

theorem add_last {l m P : List Int} {n : Nat} (hP : P.length = n) (h : Dig 1000000000 P ∧ ev 1000000000 (P.take n) + 0 * 1000000000 ^ n = ev 1000000000 (l.take n) + ev 1000000000 (m.take n)) (hl : l.length ≤ n) (hm : m.length ≤ n) :
    Dig 1000000000 P ∧ ev 1000000000 P = ev 1000000000 l + ev 1000000000 m := by
  refine ⟨h.1, ?_⟩
  have := h.2
  rw [List.take_of_length_le hl, List.take_of_length_le hm, List.take_of_length_le (by omega), Int.zero_mul, Int.add_zero] at this
  exact this

theorem add_set {l m P : List Int} {k : Nat} {cy x y : Int} (hk : k < P.length) (h : Dig 1000000000 P ∧ ev 1000000000 (P.take k) + cy * 1000000000 ^ k = ev 1000000000 (l.take k) + ev 1000000000 (m.take k)) (hx : l.getD k 0 = x) (hy : m.getD k 0 = y) :
    Dig 1000000000 (P.set k ((x + y + cy) % 1000000000)) ∧ ev 1000000000 ((P.set k ((x + y + cy) % 1000000000)).take (k + 1)) + (x + y + cy) / 1000000000 * 1000000000 ^ (k + 1) = ev 1000000000 (l.take (k + 1)) + ev 1000000000 (m.take (k + 1)) := by
  refine ⟨h.1.set k (by omega) (by omega), ?_⟩
  rw [take_set hk]
  exact (add_step (by rw [List.length_take]; omega) ⟨h.1.take k, h.2⟩ hx hy).2

set_option maxHeartbeats 1000000 in
theorem addLimbs_any (l m : List Int) (u v : Value) (w : World) (hu : Row w u l) (hv : Row w v m) (hl : l.length ≤ 1000000000) (hm : m.length ≤ 1000000000) (dl : Dig 1000000000 l) (dm : Dig 1000000000 m) :
    Calls Tryz.prog 104 #[u, v] w fun e w' => ∃ s x, e = .returned x ∧ Row w' x s ∧ Dig 1000000000 s ∧ ev 1000000000 s = ev 1000000000 l + ev 1000000000 m ∧ s.length ≤ max l.length m.length + 1 ∧ Below w.heap.size w w' := by
  obtain ⟨ua, uc, rfl⟩ := hu.val
  obtain ⟨va, vc, rfl⟩ := hv.val
  obtain ⟨n, HN⟩ : ∃ n, Hid (n = max l.length m.length + 1) := ⟨_, rfl⟩
  have hnl : l.length < n := by have := HN.out; omega
  have hnm : m.length < n := by have := HN.out; omega
  have hnx : n ≤ l.length + 1 ∨ n ≤ m.length + 1 := by have := HN.out; omega
  rw [← HN.out]
  go_enter Tryz.func104, Tryz.ntmps104
  by_cases hc : l.length < m.length
  all_goals
    go_wp2_with (at_make; refine wpList_make64 rfl (.tmp 21) (.tmp 21) rfl _ _ n rfl rfl (by omega) (by omega) (by omega) ?_)
    intro w1 P0 HP0 hown1 hb1
    go_wp2_with fail
    go_loopw [7, 8] (fun c i wr => ∃ (k : Nat) (P : List Int) (cy : Int), k ≤ n ∧ i = .int .i64 k ∧ c = .int .i64 cy ∧ 0 ≤ cy ∧ cy ≤ 1 ∧ (k = n → cy = 0) ∧ P.length = n ∧ wr.ownsRow w.heap.size 2 1 (.slice (some ⟨w.heap.size, 0, none⟩) n n) n (P.map (Value.int .i64)) ∧ Hid (Dig 1000000000 P ∧ ev 1000000000 (P.take k) + cy * 1000000000 ^ k = ev 1000000000 (l.take k) + ev 1000000000 (m.take k)) ∧ Below w.heap.size w wr)
      (fun _ i _ => n - (intOf i).toNat)
    case atStart => exact ⟨0, P0, 0, Nat.zero_le _, rfl, rfl, by omega, by omega, fun _ => rfl, by rw [HP0.out]; simp, hown1, ⟨by rw [HP0.out]; exact Dig.zeros (by omega) _, by simp [ev]⟩, hb1⟩
    case round =>
      clear hown1 hb1 HP0
      obtain ⟨k, P, cy, hk, rfl, rfl, hc0, hc1, hce, hP, hown, HE, hbel⟩ := hrel
      by_cases hlt : k < n
      · have hx := Dig.getD (by omega) dl k
        have hy := Dig.getD (by omega) dm k
        have hru := hu.below hbel
        have hrv := hv.below hbel
        have hcx := limbAt_any l (.slice ua l.length uc) k wr hru (by omega) (by omega)
        have hcy := limbAt_any m (.slice va m.length vc) k wr hrv (by omega) (by omega)
        have hout : k + 1 = n → l.getD k 0 = 0 ∧ m.getD k 0 = 0 := by
          intro h
          have h1 : l.length ≤ k := by have := HN.out; omega
          have h2 : m.length ≤ k := by have := HN.out; omega
          simp [List.getD, List.getElem?_eq_none h1, List.getElem?_eq_none h2]
        obtain ⟨x, HX⟩ : ∃ x, Hid (l.getD k 0 = x) := ⟨_, rfl⟩
        obtain ⟨y, HY⟩ : ∃ y, Hid (m.getD k 0 = y) := ⟨_, rfl⟩
        rw [HX.out] at hx hcx hout
        rw [HY.out] at hy hcy hout
        have hlast : k + 1 = n → (x + y + cy) / 1000000000 = 0 := by
          intro h
          obtain ⟨rfl, rfl⟩ := hout h
          omega
        obtain ⟨hx0, hx1⟩ := hx
        obtain ⟨hy0, hy1⟩ := hy
        have hfp := hown.frozenAt k
        have hcp : wr.cell? ⟨w.heap.size, k, none⟩ = some (.int .i64 (P.getD k 0)) := by
          rw [hown.cellAt k (by omega)]
          simp [List.getD, show k < P.length by omega]
        have hs := add_set (by omega) HE.out HX.out HY.out
        have HS : Hid _ := hs
        generalize P.getD k 0 = p at hcp
        clear hs HE HX HY hru hrv hout hce
        go_wp2_with fail
        refine hcx.mono ?_
        rintro e w' ⟨rfl, rfl⟩
        go_wp2_with fail
        refine hcy.mono ?_
        rintro e w' ⟨rfl, rfl⟩
        clear hcx hcy
        go_wp2
        go_roundw
        case rel =>
          refine ⟨k + 1, P.set k ((x + y + cy) % 1000000000), _, by omega, by go_num, rfl, by omega, by omega, hlast, by simpa using hP, ?_, HS, hbel.setCell (Nat.le_refl _) _⟩
          rw [← map_set]
          exact (World.ownsRow.stored (w := w') hown _ _).1
        case measure => simp [intOf]; omega
      · obtain rfl : k = n := by omega
        obtain rfl := hce rfl
        have hs := add_last hP HE.out (by omega) (by omega)
        have HS : Hid _ := hs
        clear hs HE
        go_wp2
        go_ret
        exact ⟨P, _, rfl, (made_own hown hP).row, HS.out.1, HS.out.2, by omega, hbel⟩

end Go.Proofs.YtldcjkhbiffdoabGreatDoor

namespace Go.Proofs.YtldcjkhbiffdoabGreatDoor
open Go.RowKit

theorem sub_step {l m sl : List Int} {k : Nat} {cy x y t c' : Int} (hsl : sl.length = k) (h : Dig 1000000000 sl ∧ ev 1000000000 sl - cy * 1000000000 ^ k = ev 1000000000 (l.take k) - ev 1000000000 (m.take k)) (hx : l.getD k 0 = x) (hy : m.getD k 0 = y)
    (ht : t - c' * 1000000000 = x - y - cy) (h0 : 0 ≤ t) (h1 : t < 1000000000) : Dig 1000000000 (sl ++ [t]) ∧ ev 1000000000 (sl ++ [t]) - c' * 1000000000 ^ (k + 1) = ev 1000000000 (l.take (k + 1)) - ev 1000000000 (m.take (k + 1)) := by
  refine ⟨h.1.snoc h0 h1, ?_⟩
  rw [ev_take, ev_take, hx, hy]
  exact sub_round sl k hsl cy x y _ _ t c' h.2 ht

theorem sub_last {l m P : List Int} {cy : Int} (hP : P.length = l.length) (h : Dig 1000000000 P ∧ ev 1000000000 (P.take l.length) - cy * 1000000000 ^ l.length = ev 1000000000 (l.take l.length) - ev 1000000000 (m.take l.length)) (hm : m.length ≤ l.length)
    (hc : cy = 0 ∨ cy = 1) (hle : ev 1000000000 m ≤ ev 1000000000 l) : Dig 1000000000 P ∧ ev 1000000000 P = ev 1000000000 l - ev 1000000000 m := by
  refine ⟨h.1, ?_⟩
  have h2 := h.2
  rw [List.take_length, List.take_of_length_le hm, List.take_of_length_le (by omega), ← hP] at h2
  exact sub_end (by omega) P h.1 cy hc _ _ h2 hle

theorem sub_set {l m P : List Int} {k : Nat} {cy x y t c' : Int} (hk : k < P.length) (h : Dig 1000000000 P ∧ ev 1000000000 (P.take k) - cy * 1000000000 ^ k = ev 1000000000 (l.take k) - ev 1000000000 (m.take k)) (hx : l.getD k 0 = x) (hy : m.getD k 0 = y)
    (ht : t - c' * 1000000000 = x - y - cy) (h0 : 0 ≤ t) (h1 : t < 1000000000) : Dig 1000000000 (P.set k t) ∧ ev 1000000000 ((P.set k t).take (k + 1)) - c' * 1000000000 ^ (k + 1) = ev 1000000000 (l.take (k + 1)) - ev 1000000000 (m.take (k + 1)) := by
  refine ⟨h.1.set k h0 h1, ?_⟩
  rw [take_set hk]
  exact (sub_step (by rw [List.length_take]; omega) ⟨h.1.take k, h.2⟩ hx hy ht h0 h1).2

set_option maxHeartbeats 1000000 in
theorem subLimbs_any (l m : List Int) (u v : Value) (w : World) (hu : Row w u l) (hv : Row w v m) (hl : l.length ≤ 1000000000) (hm : m.length ≤ l.length) (dl : Dig 1000000000 l) (dm : Dig 1000000000 m) (hle : ev 1000000000 m ≤ ev 1000000000 l) :
    Calls Tryz.prog 105 #[u, v] w fun e w' => ∃ s x, e = .returned x ∧ Row w' x s ∧ Dig 1000000000 s ∧ ev 1000000000 s = ev 1000000000 l - ev 1000000000 m ∧ s.length ≤ l.length ∧ Below w.heap.size w w' := by
  have HLE : Hid _ := hle
  clear hle
  obtain ⟨ua, uc, rfl⟩ := hu.val
  obtain ⟨va, vc, rfl⟩ := hv.val
  go_enter Tryz.func105, Tryz.ntmps105
  go_wp2_with (at_make; refine wpList_make64 rfl (.tmp 12) (.tmp 12) rfl _ _ l.length rfl rfl rfl rfl (by omega) ?_)
  intro w1 P0 HP0 hown1 hb1
  go_wp2_with fail
  go_loopw [6, 7] (fun c i wr => ∃ (k : Nat) (P : List Int) (cy : Int), k ≤ l.length ∧ i = .int .i64 k ∧ c = .int .i64 cy ∧ 0 ≤ cy ∧ cy ≤ 1 ∧ P.length = l.length ∧ wr.ownsRow w.heap.size 2 1 (.slice (some ⟨w.heap.size, 0, none⟩) l.length l.length) l.length (P.map (Value.int .i64)) ∧ Hid (Dig 1000000000 P ∧ ev 1000000000 (P.take k) - cy * 1000000000 ^ k = ev 1000000000 (l.take k) - ev 1000000000 (m.take k)) ∧ Below w.heap.size w wr)
    (fun _ i _ => l.length - (intOf i).toNat)
  case atStart => exact ⟨0, P0, 0, Nat.zero_le _, rfl, rfl, by omega, by omega, by rw [HP0.out]; simp, hown1, ⟨by rw [HP0.out]; exact Dig.zeros (by omega) _, by simp [ev]⟩, hb1⟩
  case round =>
    clear hown1 hb1 HP0
    obtain ⟨k, P, cy, hk, rfl, rfl, hc0, hc1, hP, hown, HE, hbel⟩ := hrel
    by_cases hlt : k < l.length
    · have hx := Dig.getD (by omega) dl k
      have hy := Dig.getD (by omega) dm k
      have hru := hu.below hbel
      have hrv := hv.below hbel
      have hcx := limbAt_any l (.slice ua l.length uc) k wr hru (by omega) (by omega)
      have hcy := limbAt_any m (.slice va m.length vc) k wr hrv (by omega) (by omega)
      obtain ⟨x, HX⟩ : ∃ x, Hid (l.getD k 0 = x) := ⟨_, rfl⟩
      obtain ⟨y, HY⟩ : ∃ y, Hid (m.getD k 0 = y) := ⟨_, rfl⟩
      rw [HX.out] at hx hcx
      rw [HY.out] at hy hcy
      obtain ⟨hx0, hx1⟩ := hx
      obtain ⟨hy0, hy1⟩ := hy
      have hfp := hown.frozenAt k
      have hcp : wr.cell? ⟨w.heap.size, k, none⟩ = some (.int .i64 (P.getD k 0)) := by
        rw [hown.cellAt k (by omega)]
        simp [List.getD, show k < P.length by omega]
      generalize P.getD k 0 = p at hcp
      by_cases hneg : x - y - cy < 0
      · have hs := sub_set (t := x - y - cy + 1000000000) (c' := 1) (by omega) HE.out HX.out HY.out (by omega) (by omega) (by omega)
        have HS : Hid _ := hs
        clear hs HE HX HY hru hrv
        go_wp2_with fail
        refine hcx.mono ?_
        rintro e w' ⟨rfl, rfl⟩
        go_wp2_with fail
        refine hcy.mono ?_
        rintro e w' ⟨rfl, rfl⟩
        clear hcx hcy
        go_wp2
        go_roundw
        case rel =>
          refine ⟨k + 1, P.set k (x - y - cy + 1000000000), 1, by omega, by go_num, rfl, by omega, by omega, by simpa using hP, ?_, HS, hbel.setCell (Nat.le_refl _) _⟩
          rw [← map_set]
          exact (World.ownsRow.stored (w := w') hown _ _).1
        case measure => simp [intOf]; omega
      · have hs := sub_set (t := x - y - cy) (c' := 0) (by omega) HE.out HX.out HY.out (by omega) (by omega) (by omega)
        have HS : Hid _ := hs
        clear hs HE HX HY hru hrv
        go_wp2_with fail
        refine hcx.mono ?_
        rintro e w' ⟨rfl, rfl⟩
        go_wp2_with fail
        refine hcy.mono ?_
        rintro e w' ⟨rfl, rfl⟩
        clear hcx hcy
        go_wp2
        go_roundw
        case rel =>
          refine ⟨k + 1, P.set k (x - y - cy), 0, by omega, by go_num, rfl, by omega, by omega, by simpa using hP, ?_, HS, hbel.setCell (Nat.le_refl _) _⟩
          rw [← map_set]
          exact (World.ownsRow.stored (w := w') hown _ _).1
        case measure => simp [intOf]; omega
    · obtain rfl : k = l.length := by omega
      have hs := sub_last hP HE.out (by omega) (by omega) HLE.out
      have HS : Hid _ := hs
      clear hs HE
      go_wp2
      go_ret
      exact ⟨P, _, rfl, (made_own hown hP).row, HS.out.1, HS.out.2, by omega, hbel⟩

end Go.Proofs.YtldcjkhbiffdoabGreatDoor

namespace Go.Proofs.YtldcjkhbiffdoabGreatDoor
open Go.RowKit

def cmp3 (a b : Int) : Int := if a < b then -1 else if b < a then 1 else 0
theorem cmp3_lt {a b : Int} (h : a < b) : cmp3 a b = -1 := if_pos h
theorem cmp3_gt {a b : Int} (h : b < a) : cmp3 a b = 1 := by unfold cmp3; rw [if_neg (by omega), if_pos h]
theorem cmp3_eq (a : Int) : cmp3 a a = 0 := by unfold cmp3; rw [if_neg (by omega), if_neg (by omega)]
theorem cmp3_bd (a b : Int) : -1 ≤ cmp3 a b ∧ cmp3 a b ≤ 1 := by
  unfold cmp3
  split
  · omega
  · split <;> omega

set_option maxHeartbeats 1000000 in
theorem compareLimbs_any (l m : List Int) (u v : Value) (w : World) (hu : Row w u l) (hv : Row w v m) (hl : l.length ≤ 1000000000) (dl : Dig 1000000000 l) (dm : Dig 1000000000 m) (tl : Trim l) (tm : Trim m) :
    Calls Tryz.prog 84 #[u, v] w fun e w' => e = .returned (.int .i64 (cmp3 (ev 1000000000 l) (ev 1000000000 m))) ∧ w' = w := by
  obtain ⟨ua, uc, rfl⟩ := hu.val
  obtain ⟨va, vc, rfl⟩ := hv.val
  by_cases h1 : l.length < m.length
  · rw [cmp3_lt (ev_lt_of_length (by omega) dl dm tm h1)]
    go_enter Tryz.func84, Tryz.ntmps84
    go_wp2
    go_ret
    exact ⟨rfl, rfl⟩
  by_cases h2 : m.length < l.length
  · rw [cmp3_gt (ev_lt_of_length (by omega) dm dl tl h2)]
    go_enter Tryz.func84, Tryz.ntmps84
    go_wp2
    go_ret
    exact ⟨rfl, rfl⟩
  obtain ⟨z, HZ⟩ : ∃ z, Hid (cmp3 (ev 1000000000 l) (ev 1000000000 m) = z) := ⟨_, rfl⟩
  rw [HZ.out]
  go_enter Tryz.func84, Tryz.ntmps84
  go_wp2_with fail
  go_loop [5] (fun i => ∃ (k : Nat), k ≤ l.length ∧ i = .int .i64 ((k : Int) - 1) ∧ Hid (l.drop k = m.drop k)) (fun i => (intOf i + 1).toNat)
  case atStart => exact ⟨l.length, Nat.le_refl _, rfl, by rw [List.drop_of_length_le (Nat.le_refl _), List.drop_of_length_le (by omega)]; rfl⟩
  case round =>
    obtain ⟨k, hk, rfl, HD⟩ := hrel
    cases k with
    | zero =>
      have hz : z = 0 := by
        have : l = m := by simpa using HD.out
        rw [← HZ.out, this, cmp3_eq]
      subst hz
      clear HD HZ
      go_wp2
      go_ret
      exact ⟨rfl, rfl⟩
    | succ j =>
      rw [show (((j + 1 : Nat) : Int) - 1) = (j : Int) by omega]
      have hcx := limbAt_any l (.slice ua l.length uc) j w hu (by omega) (by omega)
      have hcy := limbAt_any m (.slice va m.length vc) j w hv (by omega) (by omega)
      obtain ⟨x, HX⟩ : ∃ x, Hid (l.getD j 0 = x) := ⟨_, rfl⟩
      obtain ⟨y, HY⟩ : ∃ y, Hid (m.getD j 0 = y) := ⟨_, rfl⟩
      rw [HX.out] at hcx
      rw [HY.out] at hcy
      rcases (show x < y ∨ y < x ∨ x = y by omega) with hxy | hxy | hxy
      · have hz : z = -1 := by
          rw [← HZ.out]
          exact cmp3_lt (ev_lt_of_limb (by omega) dl dm (by omega) j (by omega) HD.out (by rw [HX.out, HY.out]; exact hxy))
        subst hz
        clear HD HZ HX HY
        go_wp2_with fail
        refine hcx.mono ?_
        rintro e w' ⟨rfl, rfl⟩
        go_wp2_with fail
        refine hcy.mono ?_
        rintro e w' ⟨rfl, rfl⟩
        go_wp2_with fail
        go_ret
        exact ⟨rfl, rfl⟩
      · have hz : z = 1 := by
          rw [← HZ.out]
          exact cmp3_gt (ev_lt_of_limb (by omega) dm dl (by omega) j (by omega) HD.out.symm (by rw [HX.out, HY.out]; exact hxy))
        subst hz
        clear HD HZ HX HY
        go_wp2_with fail
        refine hcx.mono ?_
        rintro e w' ⟨rfl, rfl⟩
        go_wp2_with fail
        refine hcy.mono ?_
        rintro e w' ⟨rfl, rfl⟩
        go_wp2_with fail
        go_ret
        exact ⟨rfl, rfl⟩
      · have hd : Hid (l.drop j = m.drop j) := drop_eq_step j (by omega) (by omega) HD.out (by rw [HX.out, HY.out]; exact hxy)
        subst hxy
        clear HD HX HY
        go_wp2_with fail
        refine hcx.mono ?_
        rintro e w' ⟨rfl, rfl⟩
        go_wp2_with fail
        refine hcy.mono ?_
        rintro e w' ⟨rfl, rfl⟩
        go_wp2_with fail
        go_round
        case rel => exact ⟨j, by omega, by go_num, hd⟩
        case measure => simp [intOf]

end Go.Proofs.YtldcjkhbiffdoabGreatDoor

namespace Go.Proofs.YtldcjkhbiffdoabGreatDoor
open Go.RowKit

theorem owned_block {w : World} {B n g c : Nat} {xs : List Value} (h : w.ownsRow B 2 1 (.slice (some ⟨g, 0, none⟩) n c) n xs) : ∃ cur, w.heap[g]? = some (.cells cur 2 (0, 0)) ∧ cur.size = c ∧ B ≤ g ∧ n ≤ c ∧ c ≤ maxLen ∧ cur.toList.take n = xs := by
  rcases h.2 with ⟨h1, _⟩ | ⟨g', cap, cur, hv, hb, hg, hnc, hcm, hcs, ht⟩
  · cases h1
  · simp only [Value.slice.injEq, true_and, Option.some.injEq, Addr.mk.injEq, and_true] at hv
    obtain ⟨rfl, rfl⟩ := hv
    exact ⟨cur, hg, by simpa using hcs, hb, hnc, hcm, by simpa using ht⟩

theorem copy64_run {w : World} (B g n : Nat) (P l : List Int) (ua : Option Addr) (uc : Nat) (hr : Row w (.slice ua l.length uc) l) (hn : n ≤ l.length)
    (hown : w.ownsRow B 2 1 (.slice (some ⟨g, 0, none⟩) n n) n (P.map (Value.int .i64))) :
    ∃ w2, (Builtin.copy_ #[68, 68] 3 #[.slice (some ⟨g, 0, none⟩) n n, .slice ua l.length uc]).run Tryz.prog w = .ok (goInt n) w2 ∧ Own B w2 (.slice (some ⟨g, 0, none⟩) n n) (l.take n) ∧ Below B w w2 := by
  obtain ⟨i, hi, hz0, hz1, hz2⟩ := info_parts Tryz.infoI64
  obtain ⟨cur, hg, hcs, hB, _, hcm, _⟩ := owned_block hown
  have hlt : (l.take n).length = n := by rw [List.length_take]; omega
  have hlen : ((l.take n).map (Value.int .i64)).length = n := by rw [List.length_map, hlt]
  by_cases h0 : n = 0
  · subst h0
    refine ⟨w, run_copy_none (P := Tryz.prog) w 68 68 3 2 (some ⟨g, 0, none⟩) ua 0 0 l.length uc Tryz.sliceI64 (by rw [hi]; simp [hz1]) (by simp), ?_, Below.refl _ _⟩
    refine ⟨by simp, .inr ⟨g, 0, cur, by simp, hB, hg, by simp, by simp [maxLen], by simpa using hcs, by simp⟩⟩
  · obtain ⟨ga, rfl, _⟩ := hr.at 0 (by omega)
    have hrun := run_copy_row (P := Tryz.prog) w 68 68 3 2 g 0 n n ⟨ga, 0, none⟩ l.length uc cur 2 ((l.take n).map (Value.int .i64)) Tryz.sliceI64 (by rw [hi]; simp [hz1]) hg (by rw [hlen]; exact (Nat.min_eq_right hn).symm) ?_ (by rw [hlen]; omega) ?_
    · rw [hlen] at hrun
      refine ⟨_, hrun, ?_, below_setRow (Below.refl _ _) hB _⟩
      have hg2 := setRow_heap w g cur (cur.toList.take 0 ++ (l.take n).map (Value.int .i64) ++ cur.toList.drop (0 + n)).toArray 2 (0, 0) hg
      have hsp : cur.toList.take 0 ++ (l.take n).map (Value.int .i64) ++ cur.toList.drop (0 + n) = (l.take n).map (Value.int .i64) := by
        rw [List.drop_eq_nil_of_le (by rw [Array.length_toList, hcs]; omega)]
        simp
      rw [hsp] at hg2 ⊢
      unfold Own
      rw [hlt]
      refine ⟨by rw [hlen]; omega, .inr ⟨g, n, _, rfl, hB, hg2, Nat.le_refl _, hcm, ?_, ?_⟩⟩
      · simp; omega
      · rw [List.take_of_length_le]
        simp; omega
    · intro j v hj
      have hj' : j < n := by
        have := (List.getElem?_eq_some_iff.1 hj).1
        omega
      obtain ⟨ga', e, _, _, _, hc⟩ := hr.at j (by omega)
      simp at e
      subst e
      have hv : v = .int .i64 (l.getD j 0) := by
        rw [getD_lt (show j < l.length by omega)]
        simp [List.getElem?_take_of_lt hj', List.getElem?_eq_getElem (show j < l.length by omega)] at hj
        exact hj.symm
      have ha : (⟨ga, 0, none⟩ : Addr).add j = ⟨ga, j, none⟩ := by cases j <;> simp [Addr.add]
      rw [hv, ha]
      exact hc
    · intro v hv
      obtain ⟨z, _, rfl⟩ := List.mem_map.1 hv
      rfl

structure Trims (l s : List Int) : Prop where
  dig : Dig 1000000000 s
  trim : Trim s
  val : ev 1000000000 s = ev 1000000000 l
  len : s.length ≤ l.length

set_option maxRecDepth 100000 in
set_option maxHeartbeats 1000000 in
theorem trimmed_any (l : List Int) (u : Value) (w : World) (hu : Row w u l) (hl : l.length ≤ 1000000000) (dl : Dig 1000000000 l) :
    Calls Tryz.prog 109 #[u] w fun e w' => ∃ s x, e = .returned x ∧ Own w.heap.size w' x s ∧ Trims l s ∧ Below w.heap.size w w' := by
  obtain ⟨ua, uc, rfl⟩ := hu.val
  go_enter Tryz.func109, Tryz.ntmps109
  go_wp2_with fail
  go_loop [3] (fun n => ∃ (k : Nat), k ≤ l.length ∧ n = .int .i64 k ∧ Hid (ev 1000000000 (l.take k) = ev 1000000000 l)) (fun n => (intOf n).toNat)
  case atStart => exact ⟨l.length, Nat.le_refl _, rfl, by rw [List.take_length]; rfl⟩
  case round =>
    obtain ⟨k, hk, rfl, HE⟩ := hrel
    have hfin : (k = 0 ∨ l.getD (k - 1) 0 ≠ 0) → Trims l (l.take k) := by
      intro h
      refine ⟨dl.take _, fun y hy => ?_, HE.out, by rw [List.length_take]; omega⟩
      rcases h with rfl | h
      · simp at hy
      · cases k with
        | zero => simp at hy
        | succ j =>
          rw [List.take_succ_eq_append_getElem (by omega), ← getD_lt (by omega)] at hy
          simp at hy
          simp at h
          rw [← hy]; exact h
    cases k with
    | zero =>
      have HT : Hid _ := hfin (.inl rfl)
      clear hfin HE
      go_wp2_with (at_make; refine wpList_make64 rfl (.tmp 19) (.tmp 19) rfl _ _ 0 rfl rfl (by omega) (by omega) (by omega) ?_)
      intro w1 P0 _ hown hb1
      obtain ⟨w2, hrun, hown2, hb2⟩ := copy64_run w.heap.size w.heap.size 0 P0 l ua uc (hu.below hb1) (by omega) hown
      go_wp2
      go_ret
      exact ⟨_, _, rfl, hown2, HT.out, hb1.trans hb2⟩
    | succ j =>
      obtain ⟨g, rfl, hc1, hc2, hg, hcell⟩ := hu.at j (by omega)
      obtain ⟨x, HX⟩ : ∃ x, Hid (l.getD j 0 = x) := ⟨_, rfl⟩
      rw [HX.out] at hcell
      by_cases hx : x = 0
      · subst hx
        have he : Hid (ev 1000000000 (l.take j) = ev 1000000000 l) := by
          have := HE.out
          rw [ev_take, HX.out] at this
          simp at this
          exact this
        clear HE HX hfin
        go_wp2_with fail
        go_round
        case rel => exact ⟨j, by omega, by go_num, he⟩
        case measure => simp [intOf]
      · have HT : Hid _ := hfin (.inr (by rw [Nat.add_sub_cancel, HX.out]; exact hx))
        have hxb : (x == 0) = false := by simp [hx]
        clear hfin HE HX
        go_wp2_with (at_make; refine wpList_make64 rfl (.tmp 19) (.tmp 19) rfl _ _ (j + 1) rfl rfl (by omega) (by omega) (by omega) ?_)
        intro w1 P0 _ hown hb1
        obtain ⟨w2, hrun, hown2, hb2⟩ := copy64_run w.heap.size w.heap.size (j + 1) P0 l _ uc (hu.below hb1) (by omega) hown
        go_wp2
        go_ret
        exact ⟨_, _, rfl, hown2, HT.out, hb1.trans hb2⟩

end Go.Proofs.YtldcjkhbiffdoabGreatDoor

namespace Go.Proofs.YtldcjkhbiffdoabGreatDoor
open Go.RowKit

set_option maxHeartbeats 1000000 in
theorem signed_any (b : Bool) (l : List Int) (u : Value) (w : World) (hu : Row w u l) (hl : l.length ≤ 1000000000) (dl : Dig 1000000000 l) :
    Calls Tryz.prog 86 #[.bool b, u] w fun e w' => ∃ s x, e = .returned (.agg #[.bool (b && !s.isEmpty), x]) ∧ Row w' x s ∧ Dig 1000000000 s ∧ Trim s ∧ ev 1000000000 s = ev 1000000000 l ∧ s.length ≤ l.length ∧ Below w.heap.size w w' := by
  obtain ⟨ua, uc, rfl⟩ := hu.val
  have hT := fun (W : World) (h : Row W (.slice ua l.length uc) l) => trimmed_any l (.slice ua l.length uc) W h hl dl
  go_enter Tryz.func86, Tryz.ntmps86
  go_wp2_with fail
  generalize hW : w.alloc (Obj.cells #[Value.bool false, Value.slice none 0 0] 70) = W0
  have hsz0 : W0.heap.size = w.heap.size + 1 := by rw [← hW]; simp
  have hb0 : Below w.heap.size w W0 := by rw [← hW]; exact (Below.refl _ _).alloc (Nat.le_refl _) _
  have hx0 : W0.heap[w.heap.size]? = some (.cells #[Value.bool false, Value.slice none 0 0] 70 (0, 0)) := by rw [← hW]; exact heap_alloc_new w _
  clear hW
  refine (hT W0 (hu.below hb0)).mono ?_
  rintro e w1 ⟨s, x, rfl, hown, hTs, hb1⟩
  rw [hsz0] at hown hb1
  obtain ⟨xa, xc, rfl⟩ := hown.row.val
  have hx1 : w1.heap[w.heap.size]? = some (.cells #[Value.bool false, Value.slice none 0 0] 70 (0, 0)) := by rw [hb1.block _ (by omega)]; exact hx0
  have hc0 : w1.cell? ⟨w.heap.size, 0, none⟩ = some (.bool false) := by simp [World.cell?, hx1]
  have hc1 : w1.cell? ⟨w.heap.size, 1, none⟩ = some (.slice none 0 0) := by simp [World.cell?, hx1]
  have hf0 : w1.frozen? ⟨w.heap.size, 0, none⟩ = false := by simp [World.frozen?, hx1]
  have hf1 : w1.frozen? ⟨w.heap.size, 1, none⟩ = false := by simp [World.frozen?, hx1]
  have hbw : Below w.heap.size w w1 := hb0.trans (hb1.mono (by omega))
  have hemp : s.isEmpty = decide (s.length = 0) := by cases s <;> simp
  clear hx0 hx1
  cases b
  all_goals
    have hcase : s.length = 0 ∨ (0 < s.length ∧ ¬ s.length = 0) := by omega
    rcases hcase with h0 | ⟨h0, h1⟩
    all_goals
      go_wp2
      refine bodyPost_ret (by simp [results, Tryz.results86, go_sem, hc0, hc1]; rfl) rfl ⟨s, .slice xa s.length xc, ?_, Own.row (B := w.heap.size + 1) (ownsRow_setCell_below (ownsRow_setCell_below hown (by simp) _) (by simp) _), hTs.dig, hTs.trim, hTs.val, hTs.len, (hbw.setCell (by simp) _).setCell (by simp) _⟩
      simp [*]

end Go.Proofs.YtldcjkhbiffdoabGreatDoor

namespace Go.Proofs.YtldcjkhbiffdoabGreatDoor
open Go.RowKit

def sv (b : Bool) (n : Int) : Int := if b then -n else n

structure Lim (b : Bool) (l : List Int) (z : Int) : Prop where
  dig : Dig 1000000000 l
  trim : Trim l
  neg : b = true → l ≠ []
  val : z = sv b (ev 1000000000 l)

def IsI (w : World) (v : Value) (z : Int) : Prop := ∃ b x l, v = .agg #[.bool b, x] ∧ Row w x l ∧ Lim b l z

theorem IsI.below {w w' : World} {v : Value} {z : Int} (h : IsI w v z) (hb : Below w.heap.size w w') : IsI w' v z := by
  obtain ⟨b, x, l, h1, h2, h3⟩ := h
  exact ⟨b, x, l, h1, h2.below hb, h3⟩

def Fit (z : Int) : Prop := ∃ n, n ≤ 10000000 ∧ z.natAbs < 1000000000 ^ n

theorem natAbs_sv (b : Bool) {n : Int} (h : 0 ≤ n) : ((sv b n).natAbs : Int) = n := by
  unfold sv; split <;> omega

theorem ev_ne {l : List Int} (d : Dig 1000000000 l) (t : Trim l) (h : l ≠ []) : 0 < ev 1000000000 l := by
  have := ev_ge (by omega) d t h
  have := pow_pos (show (0 : Int) < 1000000000 by omega) (l.length - 1)
  omega

theorem Lim.len {b : Bool} {l : List Int} {z : Int} (h : Lim b l z) (hf : Fit z) : l.length ≤ 10000000 := by
  obtain ⟨n, hn, hz⟩ := hf
  rcases Nat.lt_or_ge n l.length with hlt | hge
  · have hne : l ≠ [] := by intro e; subst e; simp at hlt
    have h1 := ev_ge (by omega) h.dig h.trim hne
    have h2 : (1000000000 : Int) ^ n ≤ 1000000000 ^ (l.length - 1) := by
      obtain ⟨k, hk⟩ : ∃ k, l.length - 1 = n + k := ⟨l.length - 1 - n, by omega⟩
      rw [hk, Int.pow_add]
      have h5 : (0 : Int) < 1000000000 ^ k := Int.pow_pos (by omega)
      have := Int.mul_le_mul_of_nonneg_left (show (1 : Int) ≤ 1000000000 ^ k by omega) (Int.le_of_lt (pow_pos (show (0 : Int) < 1000000000 by omega) n))
      omega
    have h3 := natAbs_sv b (ev_nonneg (by omega) h.dig)
    rw [← h.val] at h3
    have h4 : (z.natAbs : Int) < 1000000000 ^ n := by
      have h6 := Int.ofNat_lt.2 hz
      rw [Int.natCast_pow] at h6
      exact h6
    omega
  · omega

theorem Lim.nonneg {b : Bool} {l : List Int} {z : Int} (h : Lim b l z) : 0 ≤ ev 1000000000 l := ev_nonneg (by omega) h.dig

theorem Lim.signed {b : Bool} {s : List Int} (d : Dig 1000000000 s) (t : Trim s) : Lim (b && !s.isEmpty) s (sv b (ev 1000000000 s)) := by
  refine ⟨d, t, ?_, ?_⟩
  · intro h e; subst e; simp at h
  · cases s with
    | nil => cases b <;> simp [sv, ev]
    | cons a s => cases b <;> rfl

theorem bcell {W w1 : World} (hb : Below W.heap.size W w1) : (∀ b o, b < W.heap.size → w1.cell? ⟨b, o, none⟩ = W.cell? ⟨b, o, none⟩) ∧ (∀ b o, b < W.heap.size → w1.frozen? ⟨b, o, none⟩ = W.frozen? ⟨b, o, none⟩) :=
  ⟨fun b o h => hb.cell (p := ⟨b, o, none⟩) h, fun b o h => hb.frozen (p := ⟨b, o, none⟩) h⟩

theorem of_drew {w w' : World} (h : Below w.drew.heap.size w.drew w') : Below w.heap.size w w' := ⟨h.os, h.tape, h.output, h.size, h.block⟩
def Bx (w : World) (k : Nat) (a b : Value) : Prop := w.heap[k]? = some (.cells #[a, b] 70 (0, 0))

theorem Bx.c0 {w : World} {k : Nat} {a b : Value} (h : Bx w k a b) : w.cell? ⟨k, 0, none⟩ = some a := by unfold Bx at h; simp [World.cell?, h]
theorem Bx.c1 {w : World} {k : Nat} {a b : Value} (h : Bx w k a b) : w.cell? ⟨k, 1, none⟩ = some b := by unfold Bx at h; simp [World.cell?, h]
theorem Bx.f0 {w : World} {k : Nat} {a b : Value} (h : Bx w k a b) : w.frozen? ⟨k, 0, none⟩ = false := by unfold Bx at h; simp [World.frozen?, h]
theorem Bx.f1 {w : World} {k : Nat} {a b : Value} (h : Bx w k a b) : w.frozen? ⟨k, 1, none⟩ = false := by unfold Bx at h; simp [World.frozen?, h]
theorem Bx.lt {w : World} {k : Nat} {a b : Value} (h : Bx w k a b) : k < w.heap.size := lt_of_block h
theorem Bx.below {w w' : World} {k : Nat} {a b : Value} (h : Bx w k a b) (hb : Below w.heap.size w w') : Bx w' k a b := by unfold Bx; rw [hb.block k h.lt]; exact h
theorem Bx.set {w : World} {k : Nat} {a b : Value} (h : Bx w k a b) (a' b' : Value) : Bx ((w.setCell ⟨k, 0, none⟩ a').setCell ⟨k, 1, none⟩ b') k a' b' := by
  unfold Bx at h ⊢
  rw [heap_setCell_same _ k 1 #[a', b] _ b' (by rw [heap_setCell_same w k 0 #[a, b] _ a' h]; rfl)]
  rfl
theorem Bx.alloc (w : World) (a b : Value) : Bx (w.alloc (.cells #[a, b] 70)) w.heap.size a b := heap_alloc_new w _
theorem Bx.alloc_old {w : World} {k : Nat} {a b : Value} (h : Bx w k a b) (o : Obj) : Bx (w.alloc o) k a b := h.below ((Below.refl _ _).alloc (Nat.le_refl _) _)

theorem one_new {w W0 : World} {a b : Value} (h : w.alloc (.cells #[a, b] 70) = W0) : Below w.heap.size w W0 ∧ Bx W0 w.heap.size a b := by
  subst h
  exact ⟨(Below.refl _ _).alloc (Nat.le_refl _) _, Bx.alloc w a b⟩

theorem Row.set {w : World} {v : Value} {l : List Int} (h : Row w v l) {k : Nat} {a b : Value} (hk : Bx w k a b) (o : Nat) (u : Value) : Row (w.setCell ⟨k, o, none⟩ u) v l := by
  refine ownsRow_setCell_other h (fun e => ?_) u
  rcases h.2 with ⟨h1, _⟩ | ⟨g, cap, cur, hv, hb0, hg, r⟩
  · rw [h1] at e; simp [Value.ownBlock] at e
  · rw [hv] at e
    simp [Value.ownBlock] at e
    subst e
    unfold Bx at hk
    rw [hk] at hg
    simp at hg
theorem Row.set2 {w : World} {v : Value} {l : List Int} (h : Row w v l) {k : Nat} {a b : Value} (hk : Bx w k a b) (a' b' : Value) : Row ((w.setCell ⟨k, 0, none⟩ a').setCell ⟨k, 1, none⟩ b') v l := by
  have hk' : Bx (w.setCell ⟨k, 0, none⟩ a') k a' b := by
    unfold Bx at hk ⊢
    rw [heap_setCell_same w k 0 #[a, b] _ a' hk]; rfl
  exact (h.set hk 0 a').set hk' 1 b'
theorem below_set2 {B : Nat} {a w : World} (h : Below B a w) {k : Nat} (hk : B ≤ k) (u v : Value) : Below B a ((w.setCell ⟨k, 0, none⟩ u).setCell ⟨k, 1, none⟩ v) := (h.setCell hk u).setCell hk v

theorem Row.later {B : Nat} {w w' : World} {v : Value} {l : List Int} (h : Row w v l) (hb : Below B w w') (hB : w.heap.size ≤ B) : Row w' v l := h.below (hb.mono hB)

end Go.Proofs.YtldcjkhbiffdoabGreatDoor
