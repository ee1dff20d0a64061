import Derived.Test.YtldcjkhbiffdoabGreatDoorProg
import Derived.WalkKit
import Derived.WalkSpells
import Derived.WalkLawsBesides
import Derived.OwnWalk
import Derived.Laws.CopyOwn

namespace Go.Proofs.YtldcjkhbiffdoabGreatDoor

def ev (B : Int) : List Int → Int
  | [] => 0
  | x :: l => x + B * ev B l

theorem ev_snoc (B : Int) (l : List Int) (x : Int) : ev B (l ++ [x]) = ev B l + x * B ^ l.length := by
  induction l with
  | nil => simp [ev]
  | cons a l ih =>
    simp only [List.cons_append, ev, ih, List.length_cons, Int.pow_succ]
    rw [Int.mul_add, Int.add_assoc, ← Int.mul_assoc, Int.mul_comm B x, Int.mul_assoc, Int.mul_comm (B ^ l.length) B]

def Dig (B : Int) (l : List Int) : Prop := ∀ x, x ∈ l → 0 ≤ x ∧ x < B

theorem Dig.nil (B : Int) : Dig B [] := fun x h => by simp at h
theorem Dig.snoc {B : Int} {l : List Int} {x : Int} (h : Dig B l) (h0 : 0 ≤ x) (h1 : x < B) : Dig B (l ++ [x]) := by
  intro y hy
  rcases List.mem_append.1 hy with hy | hy
  · exact h y hy
  · simp at hy; subst hy; exact ⟨h0, h1⟩
theorem Dig.tail {B a : Int} {l : List Int} (h : Dig B (a :: l)) : Dig B l := fun x hx => h x (List.mem_cons_of_mem _ hx)
theorem Dig.head {B a : Int} {l : List Int} (h : Dig B (a :: l)) : 0 ≤ a ∧ a < B := h a (List.mem_cons_self ..)

theorem ev_nonneg {B : Int} (hB : 0 < B) {l : List Int} (h : Dig B l) : 0 ≤ ev B l := by
  induction l with
  | nil => simp [ev]
  | cons a l ih =>
    have h1 := ih h.tail
    have h2 := h.head
    have h3 := Int.mul_nonneg (Int.le_of_lt hB) h1
    simp only [ev]; omega

theorem ev_lt {B : Int} (hB : 0 < B) {l : List Int} (h : Dig B l) : ev B l < B ^ l.length := by
  induction l with
  | nil => simp [ev]
  | cons a l ih =>
    have h1 := ih h.tail
    have h2 := h.head
    have h3 : B * (ev B l + 1) ≤ B * B ^ l.length := Int.mul_le_mul_of_nonneg_left (by omega) (Int.le_of_lt hB)
    rw [Int.mul_add, Int.mul_one] at h3
    simp only [ev, List.length_cons, Int.pow_succ]
    rw [Int.mul_comm (B ^ l.length) B]; omega

def Trim (l : List Int) : Prop := ∀ x, l.getLast? = some x → x ≠ 0

theorem pow_pos {B : Int} (hB : 0 < B) (n : Nat) : 0 < B ^ n := Int.pow_pos hB

theorem ev_ge {B : Int} (hB : 0 < B) {l : List Int} (h : Dig B l) (ht : Trim l) (hne : l ≠ []) : B ^ (l.length - 1) ≤ ev B l := by
  obtain ⟨m, x, rfl⟩ : ∃ m x, l = m ++ [x] := ⟨l.dropLast, l.getLast hne, (List.dropLast_concat_getLast hne).symm⟩
  rw [ev_snoc]
  have h0 : 0 ≤ ev B m := ev_nonneg hB (fun y hy => h y (List.mem_append_left _ hy))
  have hx := h x (by simp)
  have hx0 : x ≠ 0 := ht x (by simp)
  have : 1 * B ^ m.length ≤ x * B ^ m.length := Int.mul_le_mul_of_nonneg_right (by omega) (Int.le_of_lt (pow_pos hB _))
  simp only [List.length_append, List.length_cons, List.length_nil, Nat.zero_add, Nat.add_sub_cancel]
  omega

theorem getD_lt {l : List Int} {i : Nat} (h : i < l.length) : l.getD i 0 = l[i] := by simp [List.getD, h]

theorem ev_take (B : Int) (l : List Int) (i : Nat) : ev B (l.take (i + 1)) = ev B (l.take i) + l.getD i 0 * B ^ i := by
  by_cases h : i < l.length
  · rw [List.take_succ_eq_append_getElem h, ev_snoc]
    simp [h, List.length_take, Nat.min_eq_left (Nat.le_of_lt h)]
  · rw [List.take_of_length_le (by omega), List.take_of_length_le (by omega)]
    simp [List.getD, List.getElem?_eq_none (Nat.le_of_not_lt h)]

theorem Dig.getD {B : Int} (hB : 0 < B) {l : List Int} (h : Dig B l) (i : Nat) : 0 ≤ l.getD i 0 ∧ l.getD i 0 < B := by
  by_cases hi : i < l.length
  · rw [getD_lt hi]; exact h _ (List.getElem_mem hi)
  · simp [List.getD, List.getElem?_eq_none (Nat.le_of_not_lt hi)]; exact hB

theorem Dig.take {B : Int} {l : List Int} (h : Dig B l) (n : Nat) : Dig B (l.take n) := fun x hx => h x (List.mem_of_mem_take hx)
theorem Dig.drop {B : Int} {l : List Int} (h : Dig B l) (n : Nat) : Dig B (l.drop n) := fun x hx => h x (List.mem_of_mem_drop hx)

theorem add_round {B : Int} (s : List Int) (i : Nat) (hs : s.length = i) (c x y ea eb : Int) (he : ev B s + c * B ^ i = ea + eb) :
    ev B (s ++ [(x + y + c) % B]) + (x + y + c) / B * B ^ (i + 1) = (ea + x * B ^ i) + (eb + y * B ^ i) := by
  rw [ev_snoc, hs, Int.pow_succ]
  have h := Int.emod_add_mul_ediv (x + y + c) B
  have e1 : (x + y + c) / B * (B ^ i * B) = B * ((x + y + c) / B) * B ^ i := by
    rw [Int.mul_comm (B ^ i) B, ← Int.mul_assoc, Int.mul_comm ((x + y + c) / B) B]
  have e2 : (x + y + c) % B * B ^ i + B * ((x + y + c) / B) * B ^ i = x * B ^ i + y * B ^ i + c * B ^ i := by
    rw [← Int.add_mul, h, Int.add_mul, Int.add_mul]
  rw [e1]; omega

theorem sub_round {B : Int} (s : List Int) (i : Nat) (hs : s.length = i) (c x y ea eb t c' : Int) (he : ev B s - c * B ^ i = ea - eb) (ht : t - c' * B = x - y - c) :
    ev B (s ++ [t]) - c' * B ^ (i + 1) = (ea + x * B ^ i) - (eb + y * B ^ i) := by
  rw [ev_snoc, hs, Int.pow_succ]
  have e1 : c' * (B ^ i * B) = c' * B * B ^ i := by rw [Int.mul_comm (B ^ i) B, Int.mul_assoc]
  have e2 : t * B ^ i - c' * B * B ^ i = x * B ^ i - y * B ^ i - c * B ^ i := by
    rw [← Int.sub_mul, ht, Int.sub_mul, Int.sub_mul]
  rw [e1]; omega

theorem sub_end {B : Int} (hB : 0 < B) (s : List Int) (hd : Dig B s) (c : Int) (hc : c = 0 ∨ c = 1) (ea eb : Int) (he : ev B s - c * B ^ s.length = ea - eb) (hle : eb ≤ ea) : ev B s = ea - eb := by
  rcases hc with rfl | rfl
  · simpa using he
  · have := ev_lt hB hd
    omega

theorem ev_append (B : Int) (l m : List Int) : ev B (l ++ m) = ev B l + B ^ l.length * ev B m := by
  induction l with
  | nil => simp [ev]
  | cons a l ih =>
    simp only [List.cons_append, ev, ih, List.length_cons, Int.pow_succ, Int.mul_add]
    rw [Int.mul_comm (B ^ l.length) B, Int.mul_assoc]; omega

theorem ev_split (B : Int) (l : List Int) (i : Nat) (h : i ≤ l.length) : ev B l = ev B (l.take i) + B ^ i * ev B (l.drop i) := by
  have := ev_append B (l.take i) (l.drop i)
  rw [List.take_append_drop, List.length_take, Nat.min_eq_left h] at this
  exact this

theorem ev_lt_of_length {B : Int} (hB : 1 < B) {l m : List Int} (hl : Dig B l) (hm : Dig B m) (ht : Trim m) (h : l.length < m.length) : ev B l < ev B m := by
  have h1 := ev_lt (by omega) hl
  have h2 := ev_ge (by omega) hm ht (by intro e; subst e; simp at h)
  have h3 : B ^ l.length ≤ B ^ (m.length - 1) := by
    obtain ⟨k, hk⟩ : ∃ k, m.length - 1 = l.length + k := ⟨m.length - 1 - l.length, by omega⟩
    rw [hk, Int.pow_add]
    have h5 : (0:Int) < B ^ k := Int.pow_pos (by omega)
    have := Int.mul_le_mul_of_nonneg_left (show (1:Int) ≤ B ^ k by omega) (Int.le_of_lt (pow_pos (show 0 < B by omega) l.length))
    omega
  omega

theorem ev_lt_of_limb {B : Int} (hB : 0 < B) {l m : List Int} (hl : Dig B l) (hm : Dig B m) (hlen : l.length = m.length) (i : Nat) (hi : i < l.length) (heq : l.drop (i + 1) = m.drop (i + 1)) (hx : l.getD i 0 < m.getD i 0) : ev B l < ev B m := by
  rw [ev_split B l (i + 1) (by omega), ev_split B m (i + 1) (by omega), heq, ev_take, ev_take]
  have h1 := ev_lt hB (hl.take i)
  have h2 := ev_nonneg hB (hm.take i)
  rw [List.length_take, Nat.min_eq_left (by omega)] at h1
  have h3 : (l.getD i 0 + 1) * B ^ i ≤ m.getD i 0 * B ^ i := Int.mul_le_mul_of_nonneg_right (by omega) (Int.le_of_lt (pow_pos hB _))
  rw [Int.add_mul] at h3
  omega

theorem drop_eq_step {l m : List Int} (i : Nat) (hl : i < l.length) (hm : i < m.length) (heq : l.drop (i + 1) = m.drop (i + 1)) (hx : l.getD i 0 = m.getD i 0) : l.drop i = m.drop i := by
  rw [List.drop_eq_getElem_cons hl, List.drop_eq_getElem_cons hm, heq]
  rw [getD_lt hl, getD_lt hm] at hx
  rw [hx]

theorem ev_set (B : Int) (l : List Int) (k : Nat) (y : Int) (h : k < l.length) : ev B (l.set k y) = ev B l + (y - l.getD k 0) * B ^ k := by
  induction l generalizing k with
  | nil => simp at h
  | cons a l ih =>
    cases k with
    | zero => simp [ev]; omega
    | succ k =>
      simp only [List.set_cons_succ, ev, List.getD_cons_succ, Int.pow_succ]
      rw [ih k (by simpa using h), Int.mul_add, ← Int.mul_assoc, ← Int.mul_assoc, Int.mul_comm B (y - l.getD k 0), Int.mul_assoc, Int.mul_assoc, Int.mul_comm B (B ^ k)]
      omega

theorem Dig.set {B : Int} {l : List Int} (h : Dig B l) (k : Nat) {y : Int} (h0 : 0 ≤ y) (h1 : y < B) : Dig B (l.set k y) := by
  intro x hx
  rcases List.mem_or_eq_of_mem_set hx with hx | hx
  · exact h x hx
  · subst hx; exact ⟨h0, h1⟩

theorem Dig.zeros {B : Int} (hB : 0 < B) (n : Nat) : Dig B (List.replicate n 0) := by
  intro x hx; rw [List.mem_replicate] at hx; omega

theorem ev_zeros (B : Int) (n : Nat) : ev B (List.replicate n 0) = 0 := by
  induction n with
  | zero => rfl
  | succ n ih => simp [List.replicate_succ, ev, ih]

theorem mul_round {B : Int} (P : List Int) (i j : Nat) (hk : i + j < P.length) (x y c t e0 eb : Int) (he : ev B P + c * B ^ (i + j) = e0 + x * eb * B ^ i) (ht : t = P.getD (i + j) 0 + x * y + c) :
    ev B (P.set (i + j) (t % B)) + t / B * B ^ (i + (j + 1)) = e0 + x * (eb + y * B ^ j) * B ^ i := by
  rw [ev_set B P _ _ hk]
  have h := Int.emod_add_mul_ediv t B
  have e1 : t / B * B ^ (i + (j + 1)) = B * (t / B) * B ^ (i + j) := by
    rw [← Nat.add_assoc, Int.pow_succ, Int.mul_comm (B ^ (i + j)) B, ← Int.mul_assoc, Int.mul_comm (t / B) B]
  have e2 : (t % B - P.getD (i + j) 0) * B ^ (i + j) + B * (t / B) * B ^ (i + j) = x * y * B ^ (i + j) + c * B ^ (i + j) := by
    rw [← Int.add_mul, ← Int.add_mul]; congr 1; omega
  have e3 : x * (eb + y * B ^ j) * B ^ i = x * eb * B ^ i + x * y * B ^ (i + j) := by
    rw [Int.mul_add, Int.add_mul, Int.pow_add, ← Int.mul_assoc, Int.mul_assoc (x * y) (B ^ j), Int.mul_comm (B ^ j)]
  rw [e1, e3]; omega

theorem mul_bound {B : Int} (hB : 0 < B) (p x y c : Int) (hp : 0 ≤ p ∧ p < B) (hx : 0 ≤ x ∧ x < B) (hy : 0 ≤ y ∧ y < B) (hc : 0 ≤ c ∧ c < B) : 0 ≤ p + x * y + c ∧ p + x * y + c < B * B := by
  have h1 : x * y ≤ (B - 1) * (B - 1) := Int.mul_le_mul (by omega) (by omega) hy.1 (by omega)
  have h2 : (B - 1) * (B - 1) = B * B - 2 * B + 1 := by
    rw [Int.sub_mul, Int.mul_sub, Int.mul_one, Int.one_mul]; omega
  have h3 := Int.mul_nonneg hx.1 hy.1
  omega
theorem tA {α : Type} (l : List α) (i : Nat) (a : α) : l.toArray.setIfInBounds i a = (l.set i a).toArray := List.setIfInBounds_toArray ..
theorem tB {α : Type} (a : α) (l : List α) (n : Nat) (b : α) : (a :: l).set (n + 1) b = a :: l.set n b := rfl
theorem tC {α : Type} (a : α) (l : List α) (b : α) : (a :: l).set 0 b = b :: l := rfl
theorem rA (a b c : Int) : a * (b + c) = a * b + a * c := Int.mul_add ..
theorem rB (a b c : Int) : (a + b) * c = a * c + b * c := Int.add_mul ..
theorem rC (a b c : Int) : a * (b - c) = a * b - a * c := Int.mul_sub ..
theorem rD (a b c : Int) : (a - b) * c = a * c - b * c := Int.sub_mul ..
theorem rE (a b : Int) : -a * b = -(a * b) := Int.neg_mul ..
theorem rF (a b : Int) : a * -b = -(a * b) := Int.mul_neg ..
theorem rG (a b c : Int) : a * b * c = a * (b * c) := Int.mul_assoc ..
theorem rH (a b : Int) : a * b = b * a := Int.mul_comm ..
theorem rI (a b c : Int) : a * (b * c) = b * (a * c) := Int.mul_left_comm ..
theorem rJ (a : Int) : a * 1 = a := Int.mul_one _
theorem rK (a : Int) : 1 * a = a := Int.one_mul _

end Go.Proofs.YtldcjkhbiffdoabGreatDoor

namespace Go.Proofs.YtldcjkhbiffdoabGreatDoor
open Go.RowKit

def Row (w : World) (v : Value) (l : List Int) : Prop := w.ownsRow 0 2 1 v l.length (l.map (Value.int .i64))

theorem Row.form {w : World} {v : Value} {l : List Int} (h : Row w v l) :
    (v = .slice none 0 0 ∧ l = []) ∨ ∃ g cap, v = .slice (some ⟨g, 0, none⟩) l.length cap ∧ l.length ≤ cap ∧ cap ≤ maxLen ∧ g < w.heap.size ∧ (∀ i, i < l.length → w.cell? ⟨g, i, none⟩ = some (.int .i64 (l.getD i 0))) := by
  rcases h.2 with ⟨h1, h2⟩ | ⟨g, cap, cur, hv, hb, hg, hnc, hcm, hcs, ht⟩
  · exact .inl ⟨h1, List.eq_nil_of_length_eq_zero h2⟩
  · refine .inr ⟨g, cap, hv, hnc, hcm, (Array.getElem?_eq_some_iff.1 hg).1, fun i hi => ?_⟩
    have h' : w.ownsRow 0 2 1 (.slice (some ⟨g, 0, none⟩) l.length cap) l.length (l.map (Value.int .i64)) := hv ▸ h
    rw [h'.cellAt i (by omega)]
    simp [hi, List.getD]

theorem Row.val {w : World} {v : Value} {l : List Int} (h : Row w v l) : ∃ a c, v = .slice a l.length c := by
  rcases h.form with ⟨rfl, rfl⟩ | ⟨g, cap, rfl, _⟩
  · exact ⟨_, _, rfl⟩
  · exact ⟨_, _, rfl⟩

theorem Row.at {w : World} {a : Option Addr} {c : Nat} {l : List Int} (h : Row w (.slice a l.length c) l) (i : Nat) (hi : i < l.length) : ∃ g, a = some ⟨g, 0, none⟩ ∧ l.length ≤ c ∧ c ≤ maxLen ∧ g < w.heap.size ∧ w.cell? ⟨g, i, none⟩ = some (.int .i64 (l.getD i 0)) := by
  rcases h.form with ⟨h1, rfl⟩ | ⟨g, cap, h1, h2, h3, h5, h4⟩
  · simp at hi
  · simp only [Value.slice.injEq] at h1
    obtain ⟨rfl, _, rfl⟩ := h1
    exact ⟨g, rfl, h2, h3, h5, h4 i hi⟩

theorem Row.below {w w' : World} {v : Value} {l : List Int} (h : Row w v l) (hb : Below w.heap.size w w') : Row w' v l := by
  refine ⟨h.1, ?_⟩
  rcases h.2 with h1 | ⟨g, cap, cur, hv, hb0, hg, r⟩
  · exact .inl h1
  · exact .inr ⟨g, cap, cur, hv, hb0, by rw [hb.block g (Array.getElem?_eq_some_iff.1 hg).1]; exact hg, r⟩

theorem Row.alloc {w : World} {v : Value} {l : List Int} (h : Row w v l) (o : Obj) : Row (w.alloc o) v l := h.below ((Below.refl _ _).alloc (Nat.le_refl _) _)

def Own (B : Nat) (w : World) (v : Value) (l : List Int) : Prop := w.ownsRow B 2 1 v l.length (l.map (Value.int .i64))

theorem Own.row {B : Nat} {w : World} {v : Value} {l : List Int} (h : Own B w v l) : Row w v l := by
  refine ⟨h.1, ?_⟩
  rcases h.2 with h1 | ⟨g, cap, cur, hv, hb0, r⟩
  · exact .inl h1
  · exact .inr ⟨g, cap, cur, hv, Nat.zero_le _, r⟩

theorem Own.block {B : Nat} {w : World} {v : Value} {l : List Int} (h : Own B w v l) : ∀ k, v.ownBlock = some k → B ≤ k := fun k hk => (World.ownsRow.lt h k hk).1

theorem Own.lit {w : World} {n : Nat} (h : w.heap.size = n) : Own n (w.alloc (.cells #[] 2)) (.slice (some ⟨n, 0, none⟩) 0 0) [] := by
  subst h
  exact World.ownsRow_made w #[] 0 (Nat.le_refl _) (by simp [maxLen]) rfl

theorem Tryz.infoI64 : (Tryz.prog.info? 2).map (fun i => (i.zero, i.size, i.bytes)) = some (some (.int .i64 0), 1, 8) := by kernel_rfl
theorem Tryz.sliceI64 : Tryz.prog.underlying 68 = some (.slice 2) := by kernel_rfl

theorem wpList_push {ops : Array Oper} {rest : List Oper} {o : Oper} {a : Act} {Q : Exit → Act → World → Prop} {wr : World} (hgd : o.guard = none) (s x : Operand)
    (ho : o.op = .call { callee := .builtin .append, args := #[s, x], argTypes := #[68, 68] })
    (B : Nat) (v : Value) (l : List Int) (y : Int) (hs : a.eval s = v) (hown : Own B wr v l) (hx : a.eval x = .slice (some ⟨wr.heap.size, 0, none⟩) 1 1)
    (hlen : l.length ≤ 1000000000000) (hB : B ≤ wr.heap.size)
    (h : ∀ v' w', Own B w' v' (l ++ [y]) → Below B wr w' → wr.grownBy w' v.ownBlock → wpList Tryz.prog ops Q rest (a.put o.dst v') w') :
    wpList Tryz.prog ops Q (o :: rest) a (wr.alloc (.cells #[.int .i64 y] 2)) := by
  obtain ⟨i, hi, hz0, hz1, hz2⟩ := info_parts Tryz.infoI64
  refine wpList_append_own _ hgd s x 68 ho B 2 i (.int .i64 0) 1 8 Tryz.sliceI64 hi hz0 hz1 hz2 rfl (by decide) v l.length (l.map (Value.int .i64)) hs (World.ownsRow.alloc hown _) ⟨wr.heap.size, 0, none⟩ 1 1 [.int .i64 y] hx rfl ?_ ?_ ?_ ?_ ?_ ?_
  · intro j u hj
    match j, hj with
    | 0, hj => simp at hj; subst hj; simp [Addr.add]
  · intro u hu; simp at hu; subst hu; rfl
  · unfold maxLen; omega
  · omega
  · simp; omega
  · intro v' w' h1 h2 _
    have hg : wr.grownBy w' v.ownBlock := by
      have h0 := World.grownBy_alloc wr (.cells #[.int .i64 y] 2) v.ownBlock
      exact ⟨h2.os.trans h0.os, h2.tape.trans h0.tape, h2.output.trans h0.output, Nat.le_trans h0.size h2.size, fun k hk hne => (h2.block k (by simp; omega) hne).trans (h0.block k hk hne)⟩
    refine h v' w' ?_ ((Below.refl _ _).grown hg hB hown.block) hg
    unfold Own
    simpa using h1

theorem made_zeros (n : Nat) : (madeCells (Value.int .i64 0).cells (n * 1)).toList = (List.replicate n (0 : Int)).map (Value.int .i64) := by
  rw [List.map_replicate, List.eq_replicate_iff]
  refine ⟨by simp [size_madeCells], fun b hb => ?_⟩
  obtain ⟨i, hi, rfl⟩ := List.mem_iff_getElem.1 hb
  simp [madeCells, Value.cells, Nat.mod_one]

theorem wpList_make64 {ops : Array Oper} {rest : List Oper} {o : Oper} {a : Act} {Q : Exit → Act → World → Prop} {w : World} (hg : o.guard = none) (l c : Operand) (hop : o.op = Op.makeSlice 68 l c)
    (L C : Int) (n : Nat) (hl : a.eval l = .int .i64 L) (hc : a.eval c = .int .i64 C) (hL : L = (n : Int)) (hC : C = (n : Int)) (hn : n ≤ 1000000000000)
    (hK : ∀ w' P, Hid (P = List.replicate n 0) → w'.ownsRow w.heap.size 2 1 (.slice (some ⟨w.heap.size, 0, none⟩) n n) n (P.map (Value.int .i64)) → Below w.heap.size w w' → wpList Tryz.prog ops Q rest (a.put o.dst (.slice (some ⟨w.heap.size, 0, none⟩) n n)) w') :
    wpList Tryz.prog ops Q (o :: rest) a w := by
  obtain ⟨i, hi, hz0, hz1, hz2⟩ := info_parts Tryz.infoI64
  refine wpList_make_full w hg l c 68 hop w.heap.size 2 i (.int .i64 0) 1 Tryz.sliceI64 hi hz0 hz1 .i64 .i64 L C n hl hc hL hC (by rw [hz2]; omega) (by unfold maxLen; omega) (Nat.le_refl _) ?_
  intro w' h1 h2
  rw [made_zeros] at h1
  exact hK w' _ rfl h1 ((Below.refl _ _).grown h2 (Nat.le_refl _) (fun k hk => by cases hk))

theorem made_own {B n g : Nat} {w : World} {P : List Int} (h : w.ownsRow B 2 1 (.slice (some ⟨g, 0, none⟩) n n) n (P.map (Value.int .i64))) (hP : P.length = n) : Own B w (.slice (some ⟨g, 0, none⟩) n n) P := by
  unfold Own; rw [hP]; exact h

theorem map_set (P : List Int) (k : Nat) (y : Int) : (P.map (Value.int .i64)).set k (.int .i64 y) = (P.set k y).map (Value.int .i64) := by
  rw [List.map_set]

theorem take_set {P : List Int} {k : Nat} (h : k < P.length) (t : Int) : (P.set k t).take (k + 1) = P.take k ++ [t] := by
  rw [List.take_succ_eq_append_getElem (by simpa using h)]
  congr 1
  · rw [List.take_set_of_le (Nat.le_refl _)]
  · simp

end Go.Proofs.YtldcjkhbiffdoabGreatDoor

namespace Go.Proofs.YtldcjkhbiffdoabGreatDoor
open Go.RowKit

def RowN (w : World) (v : Value) (l : List Int) : Prop := w.ownsRow 0 3 1 v l.length (l.map (Value.int .i64))

theorem RowN.form {w : World} {v : Value} {l : List Int} (h : RowN w v l) :
    (v = .slice none 0 0 ∧ l = []) ∨ ∃ g cap, v = .slice (some ⟨g, 0, none⟩) l.length cap ∧ l.length ≤ cap ∧ cap ≤ maxLen ∧ g < w.heap.size ∧ (∀ i, i < l.length → w.cell? ⟨g, i, none⟩ = some (.int .i64 (l.getD i 0))) := by
  rcases h.2 with ⟨h1, h2⟩ | ⟨g, cap, cur, hv, hb, hg, hnc, hcm, hcs, ht⟩
  · exact .inl ⟨h1, List.eq_nil_of_length_eq_zero h2⟩
  · refine .inr ⟨g, cap, hv, hnc, hcm, (Array.getElem?_eq_some_iff.1 hg).1, fun i hi => ?_⟩
    have h' : w.ownsRow 0 3 1 (.slice (some ⟨g, 0, none⟩) l.length cap) l.length (l.map (Value.int .i64)) := hv ▸ h
    rw [h'.cellAt i (by omega)]
    simp [hi, List.getD]

theorem RowN.val {w : World} {v : Value} {l : List Int} (h : RowN w v l) : ∃ a c, v = .slice a l.length c := by
  rcases h.form with ⟨rfl, rfl⟩ | ⟨g, cap, rfl, _⟩
  · exact ⟨_, _, rfl⟩
  · exact ⟨_, _, rfl⟩

theorem RowN.at {w : World} {a : Option Addr} {c : Nat} {l : List Int} (h : RowN w (.slice a l.length c) l) (i : Nat) (hi : i < l.length) : ∃ g, a = some ⟨g, 0, none⟩ ∧ l.length ≤ c ∧ c ≤ maxLen ∧ g < w.heap.size ∧ w.cell? ⟨g, i, none⟩ = some (.int .i64 (l.getD i 0)) := by
  rcases h.form with ⟨h1, rfl⟩ | ⟨g, cap, h1, h2, h3, h5, h4⟩
  · simp at hi
  · simp only [Value.slice.injEq] at h1
    obtain ⟨rfl, _, rfl⟩ := h1
    exact ⟨g, rfl, h2, h3, h5, h4 i hi⟩

theorem RowN.below {w w' : World} {v : Value} {l : List Int} (h : RowN w v l) (hb : Below w.heap.size w w') : RowN w' v l := by
  refine ⟨h.1, ?_⟩
  rcases h.2 with h1 | ⟨g, cap, cur, hv, hb0, hg, r⟩
  · exact .inl h1
  · exact .inr ⟨g, cap, cur, hv, hb0, by rw [hb.block g (Array.getElem?_eq_some_iff.1 hg).1]; exact hg, r⟩

theorem RowN.alloc {w : World} {v : Value} {l : List Int} (h : RowN w v l) (o : Obj) : RowN (w.alloc o) v l := h.below ((Below.refl _ _).alloc (Nat.le_refl _) _)

def OwnN (B : Nat) (w : World) (v : Value) (l : List Int) : Prop := w.ownsRow B 3 1 v l.length (l.map (Value.int .i64))

theorem OwnN.row {B : Nat} {w : World} {v : Value} {l : List Int} (h : OwnN B w v l) : RowN w v l := by
  refine ⟨h.1, ?_⟩
  rcases h.2 with h1 | ⟨g, cap, cur, hv, hb0, r⟩
  · exact .inl h1
  · exact .inr ⟨g, cap, cur, hv, Nat.zero_le _, r⟩

theorem OwnN.block {B : Nat} {w : World} {v : Value} {l : List Int} (h : OwnN B w v l) : ∀ k, v.ownBlock = some k → B ≤ k := fun k hk => (World.ownsRow.lt h k hk).1

theorem OwnN.lit {w : World} {n : Nat} (h : w.heap.size = n) : OwnN n (w.alloc (.cells #[] 3)) (.slice (some ⟨n, 0, none⟩) 0 0) [] := by
  subst h
  exact World.ownsRow_made w #[] 0 (Nat.le_refl _) (by simp [maxLen]) rfl

theorem Tryz.infoIntN : (Tryz.prog.info? 3).map (fun i => (i.zero, i.size, i.bytes)) = some (some (.int .i64 0), 1, 8) := by kernel_rfl
theorem Tryz.sliceIntN : Tryz.prog.underlying 42 = some (.slice 3) := by kernel_rfl

theorem wpList_pushN {ops : Array Oper} {rest : List Oper} {o : Oper} {a : Act} {Q : Exit → Act → World → Prop} {wr : World} (hgd : o.guard = none) (s x : Operand)
    (ho : o.op = .call { callee := .builtin .append, args := #[s, x], argTypes := #[42, 42] })
    (B : Nat) (v : Value) (l : List Int) (y : Int) (hs : a.eval s = v) (hown : OwnN B wr v l) (hx : a.eval x = .slice (some ⟨wr.heap.size, 0, none⟩) 1 1)
    (hlen : l.length ≤ 1000000000000) (hB : B ≤ wr.heap.size)
    (h : ∀ v' w', OwnN B w' v' (l ++ [y]) → Below B wr w' → wr.grownBy w' v.ownBlock → wpList Tryz.prog ops Q rest (a.put o.dst v') w') :
    wpList Tryz.prog ops Q (o :: rest) a (wr.alloc (.cells #[.int .i64 y] 3)) := by
  obtain ⟨i, hi, hz0, hz1, hz2⟩ := info_parts Tryz.infoIntN
  refine wpList_append_own _ hgd s x 42 ho B 3 i (.int .i64 0) 1 8 Tryz.sliceIntN hi hz0 hz1 hz2 rfl (by decide) v l.length (l.map (Value.int .i64)) hs (World.ownsRow.alloc hown _) ⟨wr.heap.size, 0, none⟩ 1 1 [.int .i64 y] hx rfl ?_ ?_ ?_ ?_ ?_ ?_
  · intro j u hj
    match j, hj with
    | 0, hj => simp at hj; subst hj; simp [Addr.add]
  · intro u hu; simp at hu; subst hu; rfl
  · unfold maxLen; omega
  · omega
  · simp; omega
  · intro v' w' h1 h2 _
    have hg : wr.grownBy w' v.ownBlock := by
      have h0 := World.grownBy_alloc wr (.cells #[.int .i64 y] 3) v.ownBlock
      exact ⟨h2.os.trans h0.os, h2.tape.trans h0.tape, h2.output.trans h0.output, Nat.le_trans h0.size h2.size, fun k hk hne => (h2.block k (by simp; omega) hne).trans (h0.block k hk hne)⟩
    refine h v' w' ?_ ((Below.refl _ _).grown hg hB hown.block) hg
    unfold OwnN
    simpa using h1


def lenV : Value → Nat
  | .slice _ n _ => n
  | _ => 0

theorem OwnN.take {B : Nat} {w : World} {a : Option Addr} {c : Nat} {l : List Int} (h : OwnN B w (.slice a l.length c) l) {n : Nat} (hn : n ≤ l.length) : OwnN B w (.slice a n c) (l.take n) := by
  have hlen : (l.take n).length = n := by rw [List.length_take]; omega
  unfold OwnN
  rw [hlen]
  refine ⟨by simp; omega, ?_⟩
  rcases h.2 with ⟨h1, h2⟩ | ⟨g, cap, cur, hv, hb, hg, hnc, hcm, hcs, ht⟩
  · simp only [Value.slice.injEq] at h1
    obtain ⟨rfl, _, rfl⟩ := h1
    obtain rfl : n = 0 := by omega
    exact .inl ⟨rfl, rfl⟩
  · simp only [Value.slice.injEq, true_and] at hv
    obtain ⟨rfl, rfl⟩ := hv
    refine .inr ⟨g, c, cur, rfl, hb, hg, by omega, hcm, hcs, ?_⟩
    have : cur.toList.take (n * 1) = (cur.toList.take (l.length * 1)).take (n * 1) := by rw [List.take_take]; congr 1; omega
    rw [this, ht, Nat.mul_one, List.map_take]

theorem OwnN.below {B : Nat} {w w' : World} {v : Value} {l : List Int} (h : OwnN B w v l) (hb : Below w.heap.size w w') : OwnN B w' v l := by
  refine ⟨h.1, ?_⟩
  rcases h.2 with h1 | ⟨g, cap, cur, hv, hb0, hg, r⟩
  · exact .inl h1
  · exact .inr ⟨g, cap, cur, hv, hb0, by rw [hb.block g (Array.getElem?_eq_some_iff.1 hg).1]; exact hg, r⟩

theorem OwnN.mono {B B' : Nat} {w : World} {v : Value} {l : List Int} (h : OwnN B w v l) (hB : B' ≤ B) : OwnN B' w v l :=
  ⟨h.1, h.2.elim Or.inl (fun ⟨g, cap, cur, hv, hg, r⟩ => Or.inr ⟨g, cap, cur, hv, Nat.le_trans hB hg, r⟩)⟩

end Go.Proofs.YtldcjkhbiffdoabGreatDoor

namespace Go.Proofs.YtldcjkhbiffdoabGreatDoor
open Go.RowKit

set_option maxHeartbeats 400000 in
theorem limbAt_any (l : List Int) (v : Value) (i : Nat) (w : World) (h : Row w v l) (hi : i ≤ 1000000000000) (hl : l.length ≤ 1000000000000) :
    Calls Tryz.prog 107 #[v, .int .i64 i] w fun e w' => e = .returned (.int .i64 (l.getD i 0)) ∧ w' = w := by
  rcases h.form with ⟨rfl, rfl⟩ | ⟨g, cap, rfl, hc, hm, _, hcell⟩
  · go_enter Tryz.func107, Tryz.ntmps107
    go_wp2
    go_ret
    exact ⟨rfl, rfl⟩
  · by_cases hlt : i < l.length
    · have hg := hcell i hlt
      clear hcell
      generalize l.getD i 0 = x at *
      go_enter Tryz.func107, Tryz.ntmps107
      go_wp2
      go_ret
      exact ⟨rfl, rfl⟩
    · have hz : l.getD i 0 = 0 := by simp [List.getD, List.getElem?_eq_none (Nat.le_of_not_lt hlt)]
      clear hcell
      rw [hz]
      clear hz
      go_enter Tryz.func107, Tryz.ntmps107
      go_wp2
      go_ret
      exact ⟨rfl, rfl⟩

end Go.Proofs.YtldcjkhbiffdoabGreatDoor

namespace Go.Proofs.YtldcjkhbiffdoabGreatDoor
open Go.RowKit

theorem owned_block {w : World} {B n g c : Nat} {xs : List Value} (h : w.ownsRow B 2 1 (.slice (some ⟨g, 0, none⟩) n c) n xs) : ∃ cur, w.heap[g]? = some (.cells cur 2 (0, 0)) ∧ cur.size = c ∧ B ≤ g ∧ n ≤ c ∧ c ≤ maxLen ∧ cur.toList.take n = xs := by
  rcases h.2 with ⟨h1, _⟩ | ⟨g', cap, cur, hv, hb, hg, hnc, hcm, hcs, ht⟩
  · cases h1
  · simp only [Value.slice.injEq, true_and, Option.some.injEq, Addr.mk.injEq, and_true] at hv
    obtain ⟨rfl, rfl⟩ := hv
    exact ⟨cur, hg, by simpa using hcs, hb, hnc, hcm, by simpa using ht⟩

theorem copy64_run {w : World} (B g n : Nat) (P l : List Int) (ua : Option Addr) (uc : Nat) (hr : Row w (.slice ua l.length uc) l) (hn : n ≤ l.length)
    (hown : w.ownsRow B 2 1 (.slice (some ⟨g, 0, none⟩) n n) n (P.map (Value.int .i64))) :
    ∃ w2, (Builtin.copy_ #[68, 68] 3 #[.slice (some ⟨g, 0, none⟩) n n, .slice ua l.length uc]).run Tryz.prog w = .ok (goInt n) w2 ∧ Own B w2 (.slice (some ⟨g, 0, none⟩) n n) (l.take n) ∧ Below B w w2 := by
  obtain ⟨i, hi, hz0, hz1, hz2⟩ := info_parts Tryz.infoI64
  obtain ⟨cur, hg, hcs, hB, _, hcm, _⟩ := owned_block hown
  have hlt : (l.take n).length = n := by rw [List.length_take]; omega
  have hlen : ((l.take n).map (Value.int .i64)).length = n := by rw [List.length_map, hlt]
  by_cases h0 : n = 0
  · subst h0
    refine ⟨w, run_copy_none (P := Tryz.prog) w 68 68 3 2 (some ⟨g, 0, none⟩) ua 0 0 l.length uc Tryz.sliceI64 (by rw [hi]; simp [hz1]) (by simp), ?_, Below.refl _ _⟩
    refine ⟨by simp, .inr ⟨g, 0, cur, by simp, hB, hg, by simp, by simp [maxLen], by simpa using hcs, by simp⟩⟩
  · obtain ⟨ga, rfl, _⟩ := hr.at 0 (by omega)
    have hrun := run_copy_row (P := Tryz.prog) w 68 68 3 2 g 0 n n ⟨ga, 0, none⟩ l.length uc cur 2 ((l.take n).map (Value.int .i64)) Tryz.sliceI64 (by rw [hi]; simp [hz1]) hg (by rw [hlen]; exact (Nat.min_eq_right hn).symm) ?_ (by rw [hlen]; omega) ?_
    · rw [hlen] at hrun
      refine ⟨_, hrun, ?_, below_setRow (Below.refl _ _) hB _⟩
      have hg2 := setRow_heap w g cur (cur.toList.take 0 ++ (l.take n).map (Value.int .i64) ++ cur.toList.drop (0 + n)).toArray 2 (0, 0) hg
      have hsp : cur.toList.take 0 ++ (l.take n).map (Value.int .i64) ++ cur.toList.drop (0 + n) = (l.take n).map (Value.int .i64) := by
        rw [List.drop_eq_nil_of_le (by rw [Array.length_toList, hcs]; omega)]
        simp
      rw [hsp] at hg2 ⊢
      unfold Own
      rw [hlt]
      refine ⟨by rw [hlen]; omega, .inr ⟨g, n, _, rfl, hB, hg2, Nat.le_refl _, hcm, ?_, ?_⟩⟩
      · simp; omega
      · rw [List.take_of_length_le]
        simp; omega
    · intro j v hj
      have hj' : j < n := by
        have := (List.getElem?_eq_some_iff.1 hj).1
        omega
      obtain ⟨ga', e, _, _, _, hc⟩ := hr.at j (by omega)
      simp at e
      subst e
      have hv : v = .int .i64 (l.getD j 0) := by
        rw [getD_lt (show j < l.length by omega)]
        simp [List.getElem?_take_of_lt hj', List.getElem?_eq_getElem (show j < l.length by omega)] at hj
        exact hj.symm
      have ha : (⟨ga, 0, none⟩ : Addr).add j = ⟨ga, j, none⟩ := by cases j <;> simp [Addr.add]
      rw [hv, ha]
      exact hc
    · intro v hv
      obtain ⟨z, _, rfl⟩ := List.mem_map.1 hv
      rfl

structure Trims (l s : List Int) : Prop where
  dig : Dig 1000000000 s
  trim : Trim s
  val : ev 1000000000 s = ev 1000000000 l
  len : s.length ≤ l.length

set_option maxRecDepth 100000 in
set_option maxHeartbeats 1000000 in
theorem trimmed_any (l : List Int) (u : Value) (w : World) (hu : Row w u l) (hl : l.length ≤ 1000000000) (dl : Dig 1000000000 l) :
    Calls Tryz.prog 109 #[u] w fun e w' => ∃ s x, e = .returned x ∧ Own w.heap.size w' x s ∧ Trims l s ∧ Below w.heap.size w w' := by
  obtain ⟨ua, uc, rfl⟩ := hu.val
  go_enter Tryz.func109, Tryz.ntmps109
  go_wp2_with fail
  go_loop [3] (fun n => ∃ (k : Nat), k ≤ l.length ∧ n = .int .i64 k ∧ Hid (ev 1000000000 (l.take k) = ev 1000000000 l)) (fun n => (intOf n).toNat)
  case atStart => exact ⟨l.length, Nat.le_refl _, rfl, by rw [List.take_length]; rfl⟩
  case round =>
    obtain ⟨k, hk, rfl, HE⟩ := hrel
    have hfin : (k = 0 ∨ l.getD (k - 1) 0 ≠ 0) → Trims l (l.take k) := by
      intro h
      refine ⟨dl.take _, fun y hy => ?_, HE.out, by rw [List.length_take]; omega⟩
      rcases h with rfl | h
      · simp at hy
      · cases k with
        | zero => simp at hy
        | succ j =>
          rw [List.take_succ_eq_append_getElem (by omega), ← getD_lt (by omega)] at hy
          simp at hy
          simp at h
          rw [← hy]; exact h
    cases k with
    | zero =>
      have HT : Hid _ := hfin (.inl rfl)
      clear hfin HE
      go_wp2_with (at_make; refine wpList_make64 rfl (.tmp 19) (.tmp 19) rfl _ _ 0 rfl rfl (by omega) (by omega) (by omega) ?_)
      intro w1 P0 _ hown hb1
      obtain ⟨w2, hrun, hown2, hb2⟩ := copy64_run w.heap.size w.heap.size 0 P0 l ua uc (hu.below hb1) (by omega) hown
      go_wp2
      go_ret
      exact ⟨_, _, rfl, hown2, HT.out, hb1.trans hb2⟩
    | succ j =>
      obtain ⟨g, rfl, hc1, hc2, hg, hcell⟩ := hu.at j (by omega)
      obtain ⟨x, HX⟩ : ∃ x, Hid (l.getD j 0 = x) := ⟨_, rfl⟩
      rw [HX.out] at hcell
      by_cases hx : x = 0
      · subst hx
        have he : Hid (ev 1000000000 (l.take j) = ev 1000000000 l) := by
          have := HE.out
          rw [ev_take, HX.out] at this
          simp at this
          exact this
        clear HE HX hfin
        go_wp2_with fail
        go_round
        case rel => exact ⟨j, by omega, by go_num, he⟩
        case measure => simp [intOf]
      · have HT : Hid _ := hfin (.inr (by rw [Nat.add_sub_cancel, HX.out]; exact hx))
        have hxb : (x == 0) = false := by simp [hx]
        clear hfin HE HX
        go_wp2_with (at_make; refine wpList_make64 rfl (.tmp 19) (.tmp 19) rfl _ _ (j + 1) rfl rfl (by omega) (by omega) (by omega) ?_)
        intro w1 P0 _ hown hb1
        obtain ⟨w2, hrun, hown2, hb2⟩ := copy64_run w.heap.size w.heap.size (j + 1) P0 l _ uc (hu.below hb1) (by omega) hown
        go_wp2
        go_ret
        exact ⟨_, _, rfl, hown2, HT.out, hb1.trans hb2⟩

end Go.Proofs.YtldcjkhbiffdoabGreatDoor

namespace Go.Proofs.YtldcjkhbiffdoabGreatDoor

def tzn (l : List Int) : Nat → Nat
  | 0 => 0
  | k + 1 => if l.getD k 0 = 0 then tzn l k else k + 1

theorem tzn_le (l : List Int) : ∀ k, tzn l k ≤ k
  | 0 => Nat.le_refl _
  | k + 1 => by
    unfold tzn
    split
    · exact Nat.le_succ_of_le (tzn_le l k)
    · exact Nat.le_refl _

def tz (l : List Int) : List Int := l.take (tzn l l.length)

theorem tzn_zero (l : List Int) : ∀ k i, tzn l k ≤ i → i < k → l.getD i 0 = 0
  | 0, i, _, h => by omega
  | k + 1, i, h1, h2 => by
    unfold tzn at h1
    split at h1
    · rcases (show i = k ∨ i < k by omega) with rfl | h3
      · assumption
      · exact tzn_zero l k i h1 h3
    · omega

theorem getD_out {l : List Int} {k : Nat} (h : l.length ≤ k) : l.getD k 0 = 0 := by
  simp [List.getD, List.getElem?_eq_none h]

theorem tz_getD (L : List Int) (k : Nat) : (tz L).getD k 0 = L.getD k 0 := by
  have hle := tzn_le L L.length
  rcases Nat.lt_or_ge k (tzn L L.length) with h | h
  · unfold tz
    simp [List.getD, List.getElem?_take_of_lt h]
  · rw [getD_out (by unfold tz; rw [List.length_take]; omega)]
    rcases Nat.lt_or_ge k L.length with h2 | h2
    · rw [tzn_zero L _ k h h2]
    · rw [getD_out h2]

theorem tz_length (l : List Int) : (tz l).length = tzn l l.length := by
  have := tzn_le l l.length
  unfold tz; rw [List.length_take]; omega

theorem tzn_last (l : List Int) : ∀ k, 0 < tzn l k → l.getD (tzn l k - 1) 0 ≠ 0
  | 0, h => by simp [tzn] at h
  | k + 1, h => by
    unfold tzn at h ⊢
    split
    · rename_i h0
      rw [if_pos h0] at h
      exact tzn_last l k h
    · assumption

def Tr (l : List Int) : Prop := l ≠ [] → l.getD (l.length - 1) 0 ≠ 0

theorem tr_tz (l : List Int) : Tr (tz l) := by
  intro h
  rw [tz_getD, tz_length]
  refine tzn_last l _ ?_
  rw [← tz_length]
  exact List.length_pos_iff.2 h

theorem Tr.nil : Tr [] := fun h => absurd rfl h

theorem Tr.len {l m : List Int} (hl : Tr l) (h : ∀ k, m.length ≤ k → l.getD k 0 = 0) : l.length ≤ m.length := by
  rcases Nat.lt_or_ge m.length l.length with h1 | h1
  · have hne : l ≠ [] := by intro e; subst e; simp at h1
    exact absurd (h (l.length - 1) (by omega)) (hl hne)
  · exact h1

theorem Tr.lenN {l : List Int} {n : Nat} (hl : Tr l) (h : ∀ k, n ≤ k → l.getD k 0 = 0) : l.length ≤ n := by
  rcases Nat.lt_or_ge n l.length with h1 | h1
  · have hne : l ≠ [] := by intro e; subst e; simp at h1
    exact absurd (h (l.length - 1) (by omega)) (hl hne)
  · exact h1

theorem ext_getD {l m : List Int} (hlen : l.length = m.length) (h : ∀ k, l.getD k 0 = m.getD k 0) : l = m := by
  refine List.ext_getElem hlen fun i h1 h2 => ?_
  have := h i
  simpa [List.getD, List.getElem?_eq_getElem h1, List.getElem?_eq_getElem h2] using this

theorem Tr.ext {l m : List Int} (hl : Tr l) (hm : Tr m) (h : ∀ k, l.getD k 0 = m.getD k 0) : l = m := by
  refine ext_getD ?_ h
  have h1 := hl.len (m := m) fun k hk => by rw [h, getD_out hk]
  have h2 := hm.len (m := l) fun k hk => by rw [← h, getD_out hk]
  omega

theorem tz_ext {l m : List Int} (h : ∀ k, l.getD k 0 = m.getD k 0) : tz l = tz m :=
  (tr_tz l).ext (tr_tz m) fun k => by rw [tz_getD, tz_getD, h]

theorem tz_of_tr {l : List Int} (h : Tr l) : tz l = l := (tr_tz l).ext h fun k => tz_getD l k

theorem tz_eq {l m : List Int} (hm : Tr m) (h : ∀ k, l.getD k 0 = m.getD k 0) : tz l = m :=
  (tr_tz l).ext hm fun k => by rw [tz_getD, h]

theorem tz_len_le {l : List Int} {n : Nat} (h : ∀ k, n ≤ k → l.getD k 0 = 0) : (tz l).length ≤ n :=
  (tr_tz l).lenN fun k hk => by rw [tz_getD]; exact h k hk

def tab (n : Nat) (f : Nat → Int) : List Int := (List.range n).map f
theorem tab_succ (n : Nat) (f : Nat → Int) : tab (n + 1) f = tab n f ++ [f n] := by
  unfold tab; rw [List.range_succ, List.map_append]; rfl
theorem tab_len (n : Nat) (f : Nat → Int) : (tab n f).length = n := by simp [tab]
theorem tab_getD (n : Nat) (f : Nat → Int) (k : Nat) : (tab n f).getD k 0 = if k < n then f k else 0 := by
  split
  · rename_i h; simp [tab, List.getD, List.getElem?_map, List.getElem?_range h]
  · rename_i h; rw [getD_out (by rw [tab_len]; omega)]
def pAt (xs ys : List Int) (k : Nat) : Nat → Int
  | 0 => 0
  | n + 1 => pAt xs ys k n + xs.getD n 0 * ys.getD (k - n) 0

def pk (xs ys : List Int) (k : Nat) : Int := pAt xs ys k (k + 1)
def prodTo (xs ys : List Int) (n : Nat) : List Int := tab n (pk xs ys)

theorem pAt_one (xs ys : List Int) (k d : Nat) : ∀ n, (∀ i, i < n → i ≠ d → xs.getD i 0 * ys.getD (k - i) 0 = 0) → pAt xs ys k n = if d < n then xs.getD d 0 * ys.getD (k - d) 0 else 0
  | 0, _ => by simp [pAt]
  | n + 1, h => by
    unfold pAt
    rw [pAt_one xs ys k d n fun i h1 h2 => h i (by omega) h2]
    by_cases hd : d = n
    · subst hd; simp
    · rw [h n (by omega) (fun e => hd e.symm)]
      by_cases h1 : d < n
      · rw [if_pos h1, if_pos (by omega)]; omega
      · rw [if_neg h1, if_neg (by omega)]; omega

theorem pk_out (xs ys : List Int) (k : Nat) (h : xs.length + ys.length - 1 ≤ k) : pk xs ys k = 0 := by
  unfold pk
  have hz : ∀ i, i < k + 1 → xs.getD i 0 * ys.getD (k - i) 0 = 0 := by
    intro i hi
    rcases Nat.lt_or_ge i xs.length with h1 | h1
    · rw [getD_out (show ys.length ≤ k - i by omega)]; simp
    · rw [getD_out h1]; simp
  rw [pAt_one xs ys k (k + 1) (k + 1) fun i h1 _ => hz i h1]
  simp

theorem prodTo_getD (xs ys : List Int) (k : Nat) : (prodTo xs ys (xs.length + ys.length - 1)).getD k 0 = pk xs ys k := by
  unfold prodTo
  rw [tab_getD]
  split
  · rfl
  · rw [pk_out]; omega

def mono (d : Nat) (c : Int) : List Int := List.replicate d 0 ++ [c]
theorem mono_getD (d : Nat) (c : Int) (k : Nat) : (mono d c).getD k 0 = if k = d then c else 0 := by
  unfold mono
  rcases Nat.lt_trichotomy k d with h | h | h
  · rw [if_neg (by omega)]
    simp [List.getD, List.getElem?_append_left (show k < (List.replicate d (0 : Int)).length by simpa using h), h]
  · subst h
    simp [List.getD]
  · rw [if_neg (by omega), getD_out]
    simp; omega
theorem single_getD (c : Int) (k : Nat) : [c].getD k 0 = if k = 0 then c else 0 := by
  cases k with
  | zero => rfl
  | succ k => simp [List.getD]

end Go.Proofs.YtldcjkhbiffdoabGreatDoor

namespace Go.Proofs.YtldcjkhbiffdoabGreatDoor

def take1 (R b : List Int) (c : Int) (n : Nat) : List Int :=
  tz (tab (max R.length (n + b.length)) fun k => R.getD k 0 - (if n ≤ k then c * b.getD (k - n) 0 else 0))

theorem take1_getD (R b : List Int) (c : Int) (n k : Nat) : (take1 R b c n).getD k 0 = R.getD k 0 - (if n ≤ k then c * b.getD (k - n) 0 else 0) := by
  unfold take1
  rw [tz_getD, tab_getD]
  split
  · rfl
  · rw [getD_out (show R.length ≤ k by omega), if_pos (show n ≤ k by omega), getD_out (show b.length ≤ k - n by omega)]
    simp

theorem take1_tr (R b : List Int) (c : Int) (n : Nat) : Tr (take1 R b c n) := tr_tz _

theorem take1_zero {R : List Int} (b : List Int) (n : Nat) (h : Tr R) : take1 R b 0 n = R :=
  (take1_tr _ _ _ _).ext h fun k => by rw [take1_getD]; simp

def lead (b : List Int) : Int := b.getD (b.length - 1) 0

def dvs (b : List Int) : Nat → List Int → Option (List Int)
  | 0, R => if R = [] then some [] else none
  | n + 1, R =>
    if (R.getD (n + b.length - 1) 0).tmod (lead b) = 0 then
      (dvs b n (take1 R b ((R.getD (n + b.length - 1) 0).tdiv (lead b)) n)).map (fun q => q ++ [(R.getD (n + b.length - 1) 0).tdiv (lead b)])
    else none

theorem dvs_fail {b R : List Int} {n : Nat} (h : (R.getD (n + b.length - 1) 0).tmod (lead b) ≠ 0) : dvs b (n + 1) R = none := by
  unfold dvs; rw [if_neg h]

theorem dvs_step {b R : List Int} {n : Nat} (h : (R.getD (n + b.length - 1) 0).tmod (lead b) = 0) :
    dvs b (n + 1) R = (dvs b n (take1 R b ((R.getD (n + b.length - 1) 0).tdiv (lead b)) n)).map (fun q => q ++ [(R.getD (n + b.length - 1) 0).tdiv (lead b)]) := by
  rw [dvs]; rw [if_pos h]

theorem dvs_len {b : List Int} : ∀ {n : Nat} {R q : List Int}, dvs b n R = some q → q.length = n
  | 0, R, q, h => by
    unfold dvs at h
    split at h
    · cases h; rfl
    · cases h
  | n + 1, R, q, h => by
    by_cases h1 : (R.getD (n + b.length - 1) 0).tmod (lead b) = 0
    · rw [dvs_step h1] at h
      cases h2 : dvs b n (take1 R b ((R.getD (n + b.length - 1) 0).tdiv (lead b)) n) with
      | none => rw [h2] at h; cases h
      | some q' =>
        rw [h2] at h
        cases h
        simp [dvs_len h2]
    · rw [dvs_fail h1] at h; cases h

theorem dvs_skip {b R : List Int} (hR : Tr R) {n : Nat} (h : R.getD (n + b.length - 1) 0 = 0) : dvs b (n + 1) R = (dvs b n R).map (fun q => q ++ [0]) := by
  rw [dvs_step (by rw [h]; simp), h]
  simp only [Int.zero_tdiv]
  rw [take1_zero b n hR]

theorem map_map_app (o : Option (List Int)) (p q : List Int) : (o.map (fun x => x ++ p)).map (fun x => x ++ q) = o.map (fun x => x ++ (p ++ q)) := by
  cases o with
  | none => rfl
  | some x => simp

theorem dvs_skips {b R : List Int} (hR : Tr R) (n : Nat) (hb : 0 < b.length) : ∀ d, R.length ≤ n + b.length - 1 → dvs b (n + d) R = (dvs b n R).map (fun q => q ++ List.replicate d 0)
  | 0, _ => by
    cases h : dvs b n R with
    | none => simp
    | some q => simp
  | d + 1, h => by
    rw [show n + (d + 1) = n + d + 1 by omega, dvs_skip hR (getD_out (by omega)), dvs_skips hR n hb d h, map_map_app]
    rw [List.replicate_succ']

structure DR (b a0 : List Int) (A q : List Int) (n : Nat) : Prop where
  tr : Tr A
  len : A.length ≤ n + b.length - 1
  res : ∃ Q, dvs b (a0.length + 1 - b.length) a0 = (dvs b n A).map (fun x => x ++ Q) ∧ q = tz (List.replicate n 0 ++ Q)
  le : n ≤ a0.length + 1 - b.length

theorem DR.start {b a0 : List Int} (h : Tr a0) : DR b a0 a0 [] (a0.length + 1 - b.length) := by
  refine ⟨h, by omega, ⟨[], ?_, ?_⟩, ?_⟩
  · simp
  · rw [tz_eq Tr.nil]
    intro k
    rw [List.append_nil]
    rcases Nat.lt_or_ge k (a0.length + 1 - b.length) with h | h
    · simp [List.getD, h]
    · rw [getD_out (by simpa using h), getD_out (by simp)]
  · exact Nat.le_refl _

theorem getD_rep_app (n : Nat) (Q : List Int) (k : Nat) : (List.replicate n 0 ++ Q).getD k 0 = if k < n then 0 else Q.getD (k - n) 0 := by
  split
  · rename_i h
    simp [List.getD, List.getElem?_append_left (show k < (List.replicate n (0 : Int)).length by simpa using h), h]
  · rename_i h
    simp [List.getD, List.getElem?_append_right (show (List.replicate n (0 : Int)).length ≤ k by simp; omega)]

theorem DR.next {b a0 A q : List Int} {n : Nat} (h : DR b a0 A q n) (hb : 0 < b.length) (hA : b.length ≤ A.length) (hm : (lead A).tmod (lead b) = 0) :
    DR b a0 (take1 A b ((lead A).tdiv (lead b)) (A.length - b.length)) (tz (tab (max q.length (A.length - b.length + 1)) fun k => q.getD k 0 + (mono (A.length - b.length) ((lead A).tdiv (lead b))).getD k 0)) (A.length - b.length) ∧ A.length - b.length < n := by
  obtain ⟨htr, hlen, ⟨Q, h1, h2⟩, hle⟩ := h
  obtain ⟨d, hd⟩ : ∃ d, A.length - b.length = d := ⟨_, rfl⟩
  rw [hd]
  have hdn : d < n := by omega
  have hAd : A.length = d + b.length := by omega
  have hlA : lead A = A.getD (d + b.length - 1) 0 := by unfold lead; rw [hAd]
  obtain ⟨e, he⟩ : ∃ e, n = d + 1 + e := ⟨n - (d + 1), by omega⟩
  have h3 : dvs b n A = (dvs b (d + 1) A).map (fun x => x ++ List.replicate e 0) := by
    rw [he]; exact dvs_skips htr (d + 1) hb e (by omega)
  rw [hlA] at hm
  refine ⟨⟨take1_tr _ _ _ _, ?_, ?_, by omega⟩, hdn⟩
  · refine (take1_tr _ _ _ _).lenN fun k hk => ?_
    rw [take1_getD]
    rcases Nat.lt_or_ge k (d + b.length) with h5 | h5
    · have hk1 : k = d + b.length - 1 := by omega
      rw [if_pos (by omega), hlA]
      have hk2 : b.getD (k - d) 0 = lead b := by unfold lead; rw [show k - d = b.length - 1 by omega]
      rw [hk2, hk1]
      have := Int.mul_tdiv_add_tmod (A.getD (d + b.length - 1) 0) (lead b)
      rw [hm, Int.mul_comm] at this
      omega
    · rw [getD_out (show A.length ≤ k by omega), if_pos (by omega), getD_out (show b.length ≤ k - d by omega)]
      simp
  · refine ⟨[(lead A).tdiv (lead b)] ++ (List.replicate e 0 ++ Q), ?_, ?_⟩
    · rw [h1, h3, dvs_step hm, map_map_app, map_map_app, hlA]
    · refine tz_ext fun k => ?_
      have hq : q.getD k 0 = if k < n then 0 else Q.getD (k - n) 0 := by rw [h2, tz_getD, getD_rep_app]
      rw [tab_getD, mono_getD, getD_rep_app]
      split
      · rw [hq]
        rcases Nat.lt_trichotomy k d with h5 | h5 | h5
        · rw [if_pos (by omega), if_neg (by omega), if_pos h5]; simp
        · subst h5
          rw [if_pos hdn, if_pos rfl, if_neg (by omega)]
          simp
        · rw [if_neg (show ¬ k = d by omega), if_neg (show ¬ k < d by omega)]
          rw [show k - d = (k - d - 1) + 1 by omega]
          simp only [List.singleton_append, List.getD_cons_succ, Int.add_zero]
          rw [getD_rep_app]
          by_cases h6 : k < n
          · rw [if_pos h6, if_pos (by omega)]
          · rw [if_neg h6, if_neg (by omega)]
            congr 1; omega
      · rename_i h5
        have h6 : q.getD k 0 = 0 := getD_out (by omega)
        rw [hq] at h6
        rw [if_neg (show ¬ k < d by omega)]
        rw [show k - d = (k - d - 1) + 1 by omega]
        simp only [List.singleton_append, List.getD_cons_succ]
        rw [getD_rep_app]
        by_cases h7 : k < n
        · rw [if_pos (by omega)]
        · rw [if_neg (by omega)]
          rw [if_neg h7] at h6
          rw [show k - d - 1 - e = k - n by omega]
          exact h6.symm

theorem DR.fails {b a0 A q : List Int} {n : Nat} (h : DR b a0 A q n) (hb : 0 < b.length) (hA : b.length ≤ A.length) (hm : (lead A).tmod (lead b) ≠ 0) :
    dvs b (a0.length + 1 - b.length) a0 = none := by
  obtain ⟨htr, hlen, ⟨Q, h1, h2⟩, hle⟩ := h
  obtain ⟨d, hd⟩ : ∃ d, A.length = d + b.length := ⟨A.length - b.length, by omega⟩
  have hlA : lead A = A.getD (d + b.length - 1) 0 := by unfold lead; rw [hd]
  obtain ⟨e, he⟩ : ∃ e, n = d + 1 + e := ⟨n - (d + 1), by omega⟩
  rw [h1, he, dvs_skips htr (d + 1) hb e (by omega)]
  rw [hlA] at hm
  rw [dvs_fail hm]
  rfl

theorem DR.ends {b a0 A q : List Int} {n : Nat} (h : DR b a0 A q n) (hb : 0 < b.length) (hA : A.length < b.length) :
    (A = [] ∧ ∃ Q, dvs b (a0.length + 1 - b.length) a0 = some Q ∧ q = tz Q) ∨ (A ≠ [] ∧ dvs b (a0.length + 1 - b.length) a0 = none) := by
  obtain ⟨htr, hlen, ⟨Q, h1, h2⟩, hle⟩ := h
  have h3 := dvs_skips htr 0 hb n (by omega)
  rw [Nat.zero_add] at h3
  rw [h3] at h1
  by_cases hA0 : A = []
  · left
    refine ⟨hA0, List.replicate n 0 ++ Q, ?_, h2⟩
    rw [h1]
    subst hA0
    simp [dvs]
  · right
    refine ⟨hA0, ?_⟩
    rw [h1]
    simp [dvs, hA0]

def Bd (l : List Int) (e : Nat) : Prop := ∀ k, (l.getD k 0).natAbs < 10 ^ e

theorem Bd.mono {l : List Int} {e f : Nat} (h : Bd l e) (hf : e ≤ f) : Bd l f :=
  fun k => Nat.lt_of_lt_of_le (h k) (Nat.pow_le_pow_right (by omega) hf)

theorem lt_two_pow {e f : Nat} {x y c : Int} (hx : x.natAbs < 10 ^ e) (hy : y.natAbs < 10 ^ f) (hc : c.natAbs < 10 ^ e) : (x - c * y).natAbs < 10 ^ (e + f + 1) := by
  have h1 : (x - c * y).natAbs ≤ x.natAbs + (c * y).natAbs := by omega
  rw [Int.natAbs_mul] at h1
  have h2 : c.natAbs * y.natAbs ≤ 10 ^ e * 10 ^ f := Nat.mul_le_mul (Nat.le_of_lt hc) (Nat.le_of_lt hy)
  have h3 : 10 ^ e ≤ 10 ^ e * 10 ^ f := Nat.le_mul_of_pos_right _ (Nat.pow_pos (by omega))
  rw [Nat.pow_succ, Nat.pow_add]
  have h4 : 0 < 10 ^ e * 10 ^ f := Nat.mul_pos (Nat.pow_pos (by omega)) (Nat.pow_pos (by omega))
  omega

theorem Bd.take1 {A b : List Int} {e f : Nat} (hA : Bd A e) (hb : Bd b f) {c : Int} (hc : c.natAbs < 10 ^ e) (n : Nat) : Bd (take1 A b c n) (e + f + 1) := by
  intro k
  rw [take1_getD]
  split
  · exact lt_two_pow (hA k) (hb _) hc
  · rw [Int.sub_zero]
    exact Nat.lt_of_lt_of_le (hA k) (Nat.pow_le_pow_right (by omega) (by omega))

theorem natAbs_tdiv_le (a b : Int) : (a.tdiv b).natAbs ≤ a.natAbs := by
  rw [Int.natAbs_tdiv]; exact Nat.div_le_self _ _

end Go.Proofs.YtldcjkhbiffdoabGreatDoor
