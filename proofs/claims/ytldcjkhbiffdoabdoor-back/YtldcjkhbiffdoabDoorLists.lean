/-
  Slices of whole.Int: 'OwnL B w v zs': the slice v, whose block lies from B on, holds the numbers zs.
-/
import Derived.Test.YtldcjkhbiffdoabDoorDigits
namespace Go.Proofs.YtldcjkhbiffdoabDoor
open Go.RowKit

/-- The cells of numbers, one behind the other. -/
def flat : List (Bool × Value) → List Value
  | [] => []
  | p :: l => .bool p.1 :: p.2 :: flat l

theorem flat_append (a b : List (Bool × Value)) : flat (a ++ b) = flat a ++ flat b := by
  induction a with
  | nil => rfl
  | cons p a ih => simp [flat, ih]

theorem flat_length (a : List (Bool × Value)) : (flat a).length = a.length * 2 := by
  induction a with
  | nil => rfl
  | cons p a ih => simp [flat, ih]; omega

theorem flat_at : ∀ (a : List (Bool × Value)) (i : Nat) (p : Bool × Value), a[i]? = some p → (flat a)[i * 2]? = some (.bool p.1) ∧ (flat a)[i * 2 + 1]? = some p.2
  | [], i, p, h => by simp at h
  | q :: a, 0, p, h => by simp at h; subst h; simp [flat]
  | q :: a, i + 1, p, h => by
    have := flat_at a i p (by simpa using h)
    rw [show (i + 1) * 2 = i * 2 + 1 + 1 by omega]
    simpa [flat] using this

/-- The value of a number in a list. -/
def vOf (p : Bool × Value) : Value := .agg #[.bool p.1, p.2]

def OwnL (B : Nat) (w : World) (v : Value) (zs : List Int) : Prop :=
  ∃ cs : List (Bool × Value), cs.length = zs.length ∧ w.ownsRow B 43 2 v zs.length (flat cs) ∧ ∀ i p, cs[i]? = some p → IsI w (vOf p) (zs.getD i 0)

def IsL (w : World) (v : Value) (zs : List Int) : Prop := OwnL 0 w v zs

theorem OwnL.isL {B : Nat} {w : World} {v : Value} {zs : List Int} (h : OwnL B w v zs) : IsL w v zs := by
  obtain ⟨cs, h1, h2, h3⟩ := h
  refine ⟨cs, h1, ⟨h2.1, ?_⟩, h3⟩
  rcases h2.2 with h | ⟨g, cap, cur, hv, _, r⟩
  · exact .inl h
  · exact .inr ⟨g, cap, cur, hv, Nat.zero_le _, r⟩

theorem OwnL.lower {B C : Nat} {w : World} {v : Value} {zs : List Int} (h : OwnL B w v zs) (hC : C ≤ B) : OwnL C w v zs := by
  obtain ⟨cs, h1, h2, h3⟩ := h
  refine ⟨cs, h1, ⟨h2.1, ?_⟩, h3⟩
  rcases h2.2 with h | ⟨g, cap, cur, hv, hb, r⟩
  · exact .inl h
  · exact .inr ⟨g, cap, cur, hv, Nat.le_trans hC hb, r⟩

theorem OwnL.block {B : Nat} {w : World} {v : Value} {zs : List Int} (h : OwnL B w v zs) : ∀ k, v.ownBlock = some k → B ≤ k := by
  obtain ⟨cs, h1, h2, h3⟩ := h
  exact fun k hk => (World.ownsRow.lt h2 k hk).1

theorem OwnL.below {B : Nat} {w w' : World} {v : Value} {zs : List Int} (h : OwnL B w v zs) (hb : Below w.heap.size w w') : OwnL B w' v zs := by
  obtain ⟨cs, h1, h2, h3⟩ := h
  refine ⟨cs, h1, ⟨h2.1, ?_⟩, fun i p hp => (h3 i p hp).below hb⟩
  rcases h2.2 with h | ⟨g, cap, cur, hv, hB, hg, r⟩
  · exact .inl h
  · exact .inr ⟨g, cap, cur, hv, hB, by rw [hb.block g (Array.getElem?_eq_some_iff.1 hg).1]; exact hg, r⟩

theorem OwnL.val {B : Nat} {w : World} {v : Value} {zs : List Int} (h : OwnL B w v zs) : ∃ a c, v = .slice a zs.length c := by
  obtain ⟨cs, h1, h2, h3⟩ := h
  rcases h2.2 with ⟨h, h'⟩ | ⟨g, cap, cur, hv, _⟩
  · exact ⟨none, 0, by rw [h']; exact h⟩
  · exact ⟨_, _, hv⟩

/-- A number of it: its two cells. -/
theorem OwnL.at {B : Nat} {w : World} {a : Option Addr} {c : Nat} {zs : List Int} (h : OwnL B w (.slice a zs.length c) zs) (i : Nat) (hi : i < zs.length) :
    ∃ g b xa xn xc, a = some ⟨g, 0, none⟩ ∧ zs.length ≤ c ∧ c ≤ maxLen ∧ g < w.heap.size ∧ B ≤ g ∧ w.cell? ⟨g, i * 2, none⟩ = some (.bool b) ∧ w.cell? ⟨g, i * 2 + 1, none⟩ = some (.slice xa xn xc) ∧ IsI w (.agg #[.bool b, .slice xa xn xc]) (zs.getD i 0) := by
  obtain ⟨cs, h1, h2, h3⟩ := h
  rcases h2.2 with ⟨_, h'⟩ | ⟨g, cap, cur, hv, hB, hg, hnc, hcm, _⟩
  · omega
  · simp only [Value.slice.injEq, true_and] at hv
    obtain ⟨rfl, rfl⟩ := hv
    have hp : cs[i]? = some cs[i] := List.getElem?_eq_getElem (by omega)
    obtain ⟨e1, e2⟩ := flat_at cs i _ hp
    have hI := h3 i _ hp
    obtain ⟨xa, xn, xc, hx⟩ : ∃ xa xn xc, cs[i].2 = .slice xa xn xc := by
      obtain ⟨b', x', l, e, hr, _⟩ := hI
      obtain ⟨xa, xc, hx⟩ := hr.val
      simp [vOf] at e
      exact ⟨xa, _, xc, e.2.trans hx⟩
    unfold vOf at hI
    rw [hx] at hI e2
    refine ⟨g, cs[i].1, xa, xn, xc, rfl, hnc, hcm, (Array.getElem?_eq_some_iff.1 hg).1, hB, ?_, ?_, hI⟩
    · rw [h2.cellAt (i * 2) (by omega)]; exact e1
    · rw [h2.cellAt (i * 2 + 1) (by omega)]; exact e2

/-- '[]whole.Int{}'. -/
theorem OwnL.lit {w : World} {n : Nat} (h : w.heap.size = n) : OwnL n (w.alloc (.cells #[] 43)) (.slice (some ⟨n, 0, none⟩) 0 0) [] := by
  subst h
  exact ⟨[], rfl, World.ownsRow_made w #[] 0 (Nat.le_refl _) (by simp [maxLen]) rfl, fun i p hp => by simp at hp⟩

theorem Tryd.infoInt : (Tryd.prog.info? 43).map (fun i => (i.zero, i.size, i.bytes)) = some (some (.agg #[.bool false, .slice none 0 0]), 2, 32) := by kernel_rfl
theorem Tryd.sliceInt : Tryd.prog.underlying 36 = some (.slice 43) := by kernel_rfl

/-- Limbs are not touched by what is written into a block of numbers. -/
theorem IsI.kept {w w' : World} {v : Value} {z : Int} {g : Option Nat} (h : IsI w v z) (hg : w.grownBy w' g) (ht : ∀ k, g = some k → ∃ cur, w.heap[k]? = some (.cells cur 43 (0, 0))) : IsI w' v z := by
  obtain ⟨b, x, l, h1, h2, h3⟩ := h
  refine ⟨b, x, l, h1, World.ownsRow.kept h2 hg ?_, h3⟩
  rcases h2.2 with ⟨hn, _⟩ | ⟨k, cap, cur, hv, _, hk, _⟩
  · left; rw [hn]; rfl
  · right
    rw [hv]
    show some k ≠ g
    intro e
    obtain ⟨cur', hc⟩ := ht k e.symm
    rw [hk] at hc
    simp at hc

theorem OwnL.typ {B : Nat} {w : World} {v : Value} {zs : List Int} (h : OwnL B w v zs) : ∀ k, v.ownBlock = some k → ∃ cur, w.heap[k]? = some (.cells cur 43 (0, 0)) := by
  obtain ⟨cs, h1, h2, h3⟩ := h
  intro k hk
  rcases h2.2 with ⟨hn, _⟩ | ⟨g, cap, cur, hv, _, hg, _⟩
  · rw [hn] at hk; simp [Value.ownBlock] at hk
  · rw [hv] at hk; simp [Value.ownBlock] at hk; subst hk; exact ⟨cur, hg⟩

/-- 'l = append(l, y)' on a slice of numbers that the call itself has made. -/
theorem wpList_pushI {ops : Array Oper} {rest : List Oper} {o : Oper} {a : Act} {Q : Exit → Act → World → Prop} {wr : World} (hgd : o.guard = none) (s x : Operand)
    (ho : o.op = .call { callee := .builtin .append, args := #[s, x], argTypes := #[36, 36] })
    (B : Nat) (v : Value) (zs : List Int) (b : Bool) (y : Value) (z : Int) (hs : a.eval s = v) (hown : OwnL B wr v zs) (hz : IsI wr (.agg #[.bool b, y]) z) (hx : a.eval x = .slice (some ⟨wr.heap.size, 0, none⟩) 1 1)
    (hlen : zs.length ≤ 1000000000) (hB : B ≤ wr.heap.size)
    (h : ∀ v' w', OwnL B w' v' (zs ++ [z]) → Below B wr w' → wr.grownBy w' v.ownBlock → wpList Tryd.prog ops Q rest (a.put o.dst v') w') :
    wpList Tryd.prog ops Q (o :: rest) a (wr.alloc (.cells #[.bool b, y] 43)) := by
  obtain ⟨i, hi, hz0, hz1, hz2⟩ := info_parts Tryd.infoInt
  have htyp := hown.typ
  have hblk := hown.block
  obtain ⟨cs, h1, h2, h3⟩ := hown
  have hy1 : y.oneCell' = true := by
    obtain ⟨b', x', l, e, hr, _⟩ := hz
    simp at e
    obtain ⟨_, rfl⟩ := e
    obtain ⟨xa, xc, rfl⟩ := hr.val
    rfl
  refine wpList_append_own _ hgd s x 36 ho B 43 i (.agg #[.bool false, .slice none 0 0]) 2 32 Tryd.sliceInt hi hz0 hz1 hz2 rfl (by decide) v zs.length (flat cs) hs (World.ownsRow.alloc h2 _) ⟨wr.heap.size, 0, none⟩ 1 1 [.bool b, y] hx rfl ?_ ?_ ?_ ?_ ?_ ?_
  · exact cell_two_new wr (.bool b) y 43
  · intro u hu
    simp at hu
    rcases hu with rfl | rfl
    · rfl
    · exact hy1
  · unfold maxLen; omega
  · omega
  · simp; omega
  · intro v' w' g1 g2 _
    have hg : wr.grownBy w' v.ownBlock := by
      have h0 := World.grownBy_alloc wr (.cells #[.bool b, y] 43) v.ownBlock
      exact ⟨g2.os.trans h0.os, g2.tape.trans h0.tape, g2.output.trans h0.output, Nat.le_trans h0.size g2.size, fun k hk hne => (g2.block k (by simp; omega) hne).trans (h0.block k hk hne)⟩
    refine h v' w' ⟨cs ++ [(b, y)], by simp [h1], ?_, ?_⟩ ((Below.refl _ _).grown hg hB hblk) hg
    · rw [flat_append]
      simpa [flat] using g1
    · intro j p hj
      by_cases hjl : j < cs.length
      · rw [List.getElem?_append_left hjl] at hj
        have hj2 : (zs ++ [z]).getD j 0 = zs.getD j 0 := by simp [List.getD, List.getElem?_append_left (show j < zs.length by omega)]
        rw [hj2]
        exact (h3 j p hj).kept hg htyp
      · rw [List.getElem?_append_right (by omega)] at hj
        have hj0 : j - cs.length = 0 := by
          rcases Nat.eq_zero_or_pos (j - cs.length) with h0 | h0
          · exact h0
          · rw [List.getElem?_eq_none (by simp; omega)] at hj; simp at hj
        rw [hj0] at hj
        simp at hj
        subst hj
        have hj2 : (zs ++ [z]).getD j 0 = z := by
          rw [show j = zs.length by omega]; simp [List.getD]
        rw [hj2]
        exact hz.kept hg htyp

end Go.Proofs.YtldcjkhbiffdoabDoor
