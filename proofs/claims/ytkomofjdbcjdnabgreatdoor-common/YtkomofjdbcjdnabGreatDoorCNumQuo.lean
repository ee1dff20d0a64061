import Derived.Test.YtkomofjdbcjdnabGreatDoorM11
import Derived.Laws.AppendOwnNone

/-
  factornum.Quo.
-/
namespace Go.Proofs.YtkomofjdbcjdnabGreatDoor
open Go.RowKit

/-- 'append([]int{x}, rest...)'. -/
theorem wpList_consN {ops : Array Oper} {rest : List Oper} {o : Oper} {a : Act} {Q : Exit → Act → World → Prop} {wr : World} (hgd : o.guard = none) (s x : Operand)
    (ho : o.op = .call { callee := .builtin .append, args := #[s, x], argTypes := #[42, 42] })
    (y : Int) (v : Value) (rl : List Int) (hs : a.eval s = .slice (some ⟨wr.heap.size, 0, none⟩) 1 1) (hx : a.eval x = v) (hr : RowN wr v rl) (hlen : rl.length ≤ 1000000000000)
    (h : ∀ v' w', OwnN wr.heap.size w' v' (y :: rl) → Below wr.heap.size wr w' → wpList Tryz.prog ops Q rest (a.put o.dst v') w') :
    wpList Tryz.prog ops Q (o :: rest) a (wr.alloc (.cells #[.int .i64 y] 3)) := by
  obtain ⟨i, hi, hz0, hz1, hz2⟩ := info_parts Tryz.infoIntN
  have hown : (wr.alloc (.cells #[.int .i64 y] 3)).ownsRow wr.heap.size 3 1 (.slice (some ⟨wr.heap.size, 0, none⟩) 1 1) 1 [.int .i64 y] := by
    refine ⟨rfl, .inr ⟨wr.heap.size, 1, #[.int .i64 y], rfl, Nat.le_refl _, heap_alloc_new wr _, Nat.le_refl _, by simp [maxLen], rfl, rfl⟩⟩
  rcases hr.form with ⟨rfl, rfl⟩ | ⟨g, cap, rfl, hc, hm, hg, hcell⟩
  · refine wpList_append_own_none hgd s x 42 ho wr.heap.size 3 i 1 Tryz.sliceIntN hi _ 1 [.int .i64 y] hs hown hx ?_
    exact h _ _ hown (below_one _ _)
  · refine wpList_append_own _ hgd s x 42 ho wr.heap.size 3 i (.int .i64 0) 1 8 Tryz.sliceIntN hi hz0 hz1 hz2 rfl (by decide) _ 1 [.int .i64 y] hs hown ⟨g, 0, none⟩ rl.length cap (rl.map (Value.int .i64)) hx (by simp) ?_ ?_ ?_ ?_ ?_ ?_
    · intro j u hj
      have hj' : j < rl.length := by
        have := (List.getElem?_eq_some_iff.1 hj).1
        simpa using this
      have hc2 := hcell j hj'
      rw [getD_lt hj'] at hc2
      simp [List.getElem?_eq_getElem hj'] at hj
      subst hj
      have ha : (⟨g, 0, none⟩ : Addr).add j = ⟨g, j, none⟩ := by cases j <;> simp [Addr.add]
      rw [ha, World.cell?_alloc_past _ _ _ hg]
      exact hc2
    · intro u hu
      obtain ⟨z, _, rfl⟩ := List.mem_map.1 hu
      rfl
    · unfold maxLen; omega
    · omega
    · simp
    · intro v' w' h1 h2 _
      refine h v' w' ?_ (((Below.refl _ _).alloc (Nat.le_refl _) _).grown h2 (by simp) (fun k hk => by simp [Value.ownBlock] at hk; omega))
      unfold OwnN
      have e : 1 + rl.length = (y :: rl).length := by simp; omega
      rw [← e]
      simpa using h1

/-- Behind the digits from the k-th on. -/
def QInv (l m Q rl : List Int) (k : Nat) : Prop :=
  Dig 10 Q ∧ ev 10 (l.drop k) = ev 10 (Q.drop k) * ev 10 m + ev 10 rl ∧ ev 10 rl < ev 10 m ∧ ∀ j, j < k → Q.getD j 0 = 0
/-- At the j-th digit. -/
def QIn (l m Q rl : List Int) (j : Nat) : Prop :=
  Dig 10 Q ∧ ev 10 (l.drop j) = ev 10 (Q.drop j) * ev 10 m + ev 10 rl ∧ ev 10 rl + Q.getD j 0 * ev 10 m < 10 * ev 10 m ∧ ∀ i, i < j → Q.getD i 0 = 0

theorem ev_drop10 {l : List Int} {j : Nat} (hj : j < l.length) : ev 10 (l.drop j) = l.getD j 0 + 10 * ev 10 (l.drop (j + 1)) := by
  rw [List.drop_eq_getElem_cons hj, ← getD_lt hj]
  rfl

theorem QInv.into {l m Q rl rl' : List Int} {j : Nat} {x : Int} (h : QInv l m Q rl (j + 1)) (hj : j < l.length) (hQ : Q.length = l.length) (hx : l.getD j 0 = x) (hx9 : x < 10) (he : ev 10 rl' = ev 10 (x :: rl)) : QIn l m Q rl' j := by
  obtain ⟨h1, h2, h3, h4⟩ := h
  have e : ev 10 rl' = x + 10 * ev 10 rl := he
  have hz := h4 j (by omega)
  refine ⟨h1, ?_, ?_, fun i hi => h4 i (by omega)⟩
  · rw [ev_drop10 hj, ev_drop10 (l := Q) (by omega), hx, hz, h2, e, Int.zero_add, Int.mul_assoc]
    omega
  · rw [hz, e]
    omega

theorem QIn.step {l m Q rl rl' : List Int} {j : Nat} {c : Int} (h : QIn l m Q rl j) (hj : j < Q.length) (hc : Q.getD j 0 = c) (hge : ev 10 m ≤ ev 10 rl) (hm : 0 < ev 10 m) (he : ev 10 rl' = ev 10 rl - ev 10 m) :
    QIn l m (Q.set j (c + 1)) rl' j ∧ c + 1 < 10 := by
  obtain ⟨h1, h2, h3, h4⟩ := h
  have hd := Dig.getD (by omega) h1 j
  rw [hc] at h3 hd
  have hg : (Q.set j (c + 1)).getD j 0 = c + 1 := by simp [List.getD, hj]
  have hmul : (c + 1) * ev 10 m = c * ev 10 m + ev 10 m := by rw [Int.add_mul]; omega
  have hc9 : c + 1 < 10 := by
    rcases Int.lt_or_le (c + 1) 10 with h | h
    · exact h
    · have := Int.mul_le_mul_of_nonneg_right h (Int.le_of_lt hm)
      omega
  refine ⟨⟨h1.set j (by omega) hc9, ?_, ?_, fun i hi => ?_⟩, hc9⟩
  · have hdr : (Q.set j (c + 1)).drop (j + 1) = Q.drop (j + 1) := by rw [List.drop_set_of_lt (by omega)]
    rw [h2, ev_drop10 (l := Q.set j (c + 1)) (by simpa using hj), ev_drop10 hj, hg, hdr, hc, he, Int.add_mul, Int.add_mul, hmul]
    omega
  · rw [hg, he, hmul]
    omega
  · rw [getD_set_ne _ (by omega)]
    exact h4 i hi

theorem QIn.out {l m Q rl : List Int} {j : Nat} (h : QIn l m Q rl j) (hlt : ev 10 rl < ev 10 m) : QInv l m Q rl j := ⟨h.1, h.2.1, hlt, h.2.2.2⟩

theorem quo_end {a m q r : Int} (h : a = q * m + r) (h0 : 0 ≤ r) (h1 : r < m) (ha : 0 ≤ a) (b1 b2 : Bool) : (sv b1 a).tdiv (sv b2 m) = sv (b1 != b2) q ∧ (sv b1 a).tmod (sv b2 m) = sv b1 r := by
  have hd : a.tdiv m = q ∧ a.tmod m = r := by
    have h2 := (Int.ediv_emod_unique (a := a) (b := m) (r := r) (q := q) (by omega)).2 ⟨by rw [h, Int.mul_comm q m]; omega, h0, h1⟩
    rw [Int.tdiv_eq_ediv_of_nonneg ha, Int.tmod_eq_emod_of_nonneg ha]
    exact h2
  cases b1 <;> cases b2 <;> simp [sv, Int.neg_tdiv, Int.tdiv_neg, Int.neg_tmod, Int.tmod_neg, hd.1, hd.2]

theorem owns_below {w w' : World} {B s n : Nat} {e : TypeId} {v : Value} {xs : List Value} (h : w.ownsRow B e s v n xs) (hb : Below w.heap.size w w') : w'.ownsRow B e s v n xs := by
  refine ⟨h.1, ?_⟩
  rcases h.2 with h1 | ⟨g, cap, cur, hv, hb0, hg, r⟩
  · exact .inl h1
  · exact .inr ⟨g, cap, cur, hv, hb0, by rw [hb.block g (Array.getElem?_eq_some_iff.1 hg).1]; exact hg, r⟩

/-- The digit at a place. -/
def qAt (g j : Nat) (w : World) : Nat := match w.cell? ⟨g, j, none⟩ with
  | some (.int _ x) => x.toNat
  | _ => 0
theorem qAt_of {g j : Nat} {w : World} {x : Int} (h : w.cell? ⟨g, j, none⟩ = some (.int .i64 x)) : qAt g j w = x.toNat := by unfold qAt; rw [h]

theorem short_of {l m : List Int} (dl : Dig 10 l) (tl : Trim l) (dm : Dig 10 m) (h : ev 10 l < ev 10 m) : l.length ≤ m.length := by
  rcases Nat.lt_or_ge m.length l.length with h1 | h1
  · have := ev_lt_of_length (by omega) dm dl tl h1; omega
  · exact h1

end Go.Proofs.YtkomofjdbcjdnabGreatDoor
