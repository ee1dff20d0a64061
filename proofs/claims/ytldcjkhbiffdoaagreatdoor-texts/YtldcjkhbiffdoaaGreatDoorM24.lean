import Derived.Test.YtldcjkhbiffdoaaGreatDoorM16
import Derived.Test.YtldcjkhbiffdoaaGreatDoorM19

/-
  factorref: monomials in memory: a list of them, and one in a box.
-/
namespace Go.Proofs.YtldcjkhbiffdoaaGreatDoor
open Go.RowKit

def OwnM (B : Nat) (w : World) (v : Value) (ts : List (Int × Nat)) : Prop :=
  ∃ cs : List TC, cs.length = ts.length ∧ w.ownsRow B 87 4 v ts.length (flat4 cs) ∧
    ∀ i p, cs[i]? = some p → IsN w (.agg #[.bool p.a, p.x]) (ts.getD i (0, 0)).1 ∧ IsN w (.agg #[.bool p.b, p.y]) ((ts.getD i (0, 0)).2 : Int)

theorem OwnM.nil (B : Nat) (w : World) : OwnM B w (.slice none 0 0) [] := ⟨[], rfl, World.ownsRow_nil w B _ _, fun i p hp => by simp at hp⟩

theorem OwnM.block {B : Nat} {w : World} {v : Value} {ts : List (Int × Nat)} (h : OwnM B w v ts) : ∀ k, v.ownBlock = some k → B ≤ k := by
  obtain ⟨cs, h1, h2, h3⟩ := h
  exact fun k hk => (World.ownsRow.lt h2 k hk).1

theorem OwnM.typ {B : Nat} {w : World} {v : Value} {ts : List (Int × Nat)} (h : OwnM B w v ts) : ∀ k, v.ownBlock = some k → ∃ cur, w.heap[k]? = some (.cells cur 87 (0, 0)) := by
  obtain ⟨cs, h1, h2, h3⟩ := h
  intro k hk
  rcases h2.2 with ⟨hn, _⟩ | ⟨g, cap, cur, hv, _, hg, _⟩
  · rw [hn] at hk; simp [Value.ownBlock] at hk
  · rw [hv] at hk; simp [Value.ownBlock] at hk; subst hk; exact ⟨cur, hg⟩

theorem OwnM.val {B : Nat} {w : World} {v : Value} {ts : List (Int × Nat)} (h : OwnM B w v ts) : ∃ a c, v = .slice a ts.length c := by
  obtain ⟨cs, h1, h2, h3⟩ := h
  rcases h2.2 with ⟨h, h'⟩ | ⟨g, cap, cur, hv, _⟩
  · exact ⟨none, 0, by rw [h']; exact h⟩
  · exact ⟨_, _, hv⟩

theorem OwnM.below {B : Nat} {w w' : World} {v : Value} {ts : List (Int × Nat)} (h : OwnM B w v ts) (hb : Below w.heap.size w w') : OwnM B w' v ts := by
  obtain ⟨cs, h1, h2, h3⟩ := h
  exact ⟨cs, h1, owns_below h2 hb, fun i p hp => ⟨(h3 i p hp).1.below hb, (h3 i p hp).2.below hb⟩⟩

/-- A monomial of it: its four cells. -/
theorem OwnM.at {B : Nat} {w : World} {a : Option Addr} {c : Nat} {ts : List (Int × Nat)} (h : OwnM B w (.slice a ts.length c) ts) (i : Nat) (hi : i < ts.length) :
    ∃ g b xa xn xc d ya yn yc, a = some ⟨g, 0, none⟩ ∧ ts.length ≤ c ∧ c ≤ maxLen ∧ g < w.heap.size ∧ B ≤ g ∧ w.cell? ⟨g, i * 4, none⟩ = some (.bool b) ∧ w.cell? ⟨g, i * 4 + 1, none⟩ = some (.slice xa xn xc) ∧ w.cell? ⟨g, i * 4 + 2, none⟩ = some (.bool d) ∧ w.cell? ⟨g, i * 4 + 3, none⟩ = some (.slice ya yn yc) ∧
      IsN w (.agg #[.bool b, .slice xa xn xc]) (ts.getD i (0, 0)).1 ∧ IsN w (.agg #[.bool d, .slice ya yn yc]) ((ts.getD i (0, 0)).2 : Int) := by
  obtain ⟨cs, h1, h2, h3⟩ := h
  rcases h2.2 with ⟨_, h'⟩ | ⟨g, cap, cur, hv, hB, hg, hnc, hcm, _⟩
  · omega
  · simp only [Value.slice.injEq, true_and] at hv
    obtain ⟨rfl, rfl⟩ := hv
    have hp : cs[i]? = some cs[i] := List.getElem?_eq_getElem (by omega)
    obtain ⟨e1, e2, e3, e4⟩ := flat4_at cs i _ hp
    obtain ⟨hI, hJ⟩ := h3 i _ hp
    obtain ⟨xa, xn, xc, hx⟩ := num_oneCell hI
    obtain ⟨ya, yn, yc, hy⟩ := num_oneCell hJ
    rw [hx] at hI e2
    rw [hy] at hJ e4
    refine ⟨g, cs[i].a, xa, xn, xc, cs[i].b, ya, yn, yc, rfl, hnc, hcm, (Array.getElem?_eq_some_iff.1 hg).1, hB, ?_, ?_, ?_, ?_, hI, hJ⟩
    · rw [h2.cellAt (i * 4) (by omega)]; exact e1
    · rw [h2.cellAt (i * 4 + 1) (by omega)]; exact e2
    · rw [h2.cellAt (i * 4 + 2) (by omega)]; exact e3
    · rw [h2.cellAt (i * 4 + 3) (by omega)]; exact e4

theorem Tryz.infoMono : (Tryz.prog.info? 87).map (fun i => (i.zero, i.size, i.bytes)) = some (some (.agg #[.bool false, .slice none 0 0, .bool false, .slice none 0 0]), 4, 64) := by kernel_rfl
theorem Tryz.sliceMono : Tryz.prog.underlying 84 = some (.slice 87) := by kernel_rfl

theorem cell_four_new (w : World) (x y z t : Value) (ty : TypeId) (j : Nat) (u : Value) (h : [x, y, z, t][j]? = some u) : (w.alloc (.cells #[x, y, z, t] ty)).cell? (Addr.add ⟨w.heap.size, 0, none⟩ j) = some u := by
  match j, h with
  | 0, h => simp at h; subst h; simp [Addr.add]
  | 1, h => simp at h; subst h; simp [Addr.add]
  | 2, h => simp at h; subst h; simp [Addr.add]
  | 3, h => simp at h; subst h; simp [Addr.add]
  | j + 4, h => simp at h

/-- Digits are not touched by what is written into a block of monomials. -/
theorem IsN.keptM {w w' : World} {v : Value} {z : Int} {g : Option Nat} (h : IsN w v z) (hg : w.grownBy w' g) (ht : ∀ k, g = some k → ∃ cur, w.heap[k]? = some (.cells cur 87 (0, 0))) : IsN w' v z := by
  obtain ⟨b, x, l, h1, h2, h3⟩ := h
  refine ⟨b, x, l, h1, World.ownsRow.kept h2 hg ?_, h3⟩
  rcases h2.2 with ⟨hn, _⟩ | ⟨k, cap, cur, hv, _, hk, _⟩
  · left; rw [hn]; rfl
  · right
    rw [hv]
    show some k ≠ g
    intro e
    obtain ⟨cur', hc⟩ := ht k e.symm
    rw [hk] at hc
    simp at hc

/-- 'l = append(l, m)'. -/
theorem wpList_pushM {ops : Array Oper} {rest : List Oper} {o : Oper} {a : Act} {Q : Exit → Act → World → Prop} {wr : World} (hgd : o.guard = none) (s x : Operand)
    (ho : o.op = .call { callee := .builtin .append, args := #[s, x], argTypes := #[84, 84] })
    (B : Nat) (v : Value) (ts : List (Int × Nat)) (b d : Bool) (y u : Value) (z : Int) (p : Nat) (q : Nat) (hq : q = wr.heap.size) (hs : a.eval s = v) (hown : OwnM B wr v ts) (hz : IsN wr (.agg #[.bool b, y]) z) (hp : IsN wr (.agg #[.bool d, u]) (p : Int)) (hx : a.eval x = .slice (some ⟨q, 0, none⟩) 1 1)
    (hlen : ts.length ≤ 1000000) (hB : B ≤ wr.heap.size)
    (h : ∀ v' w', OwnM B w' v' (ts ++ [(z, p)]) → Below B wr w' → wr.grownBy w' v.ownBlock → wpList Tryz.prog ops Q rest (a.put o.dst v') w') :
    wpList Tryz.prog ops Q (o :: rest) a (wr.alloc (.cells #[.bool b, y, .bool d, u] 87)) := by
  subst hq
  obtain ⟨i, hi, hz0, hz1, hz2⟩ := info_parts Tryz.infoMono
  have htyp := hown.typ
  have hblk := hown.block
  obtain ⟨cs, h1, h2, h3⟩ := hown
  obtain ⟨xa, xn, xc, rfl⟩ := num_oneCell hz
  obtain ⟨ya, yn, yc, rfl⟩ := num_oneCell hp
  refine wpList_append_own _ hgd s x 84 ho B 87 i (.agg #[.bool false, .slice none 0 0, .bool false, .slice none 0 0]) 4 64 Tryz.sliceMono hi hz0 hz1 hz2 rfl (by decide) v ts.length (flat4 cs) hs (World.ownsRow.alloc h2 _) ⟨wr.heap.size, 0, none⟩ 1 1 [.bool b, .slice xa xn xc, .bool d, .slice ya yn yc] hx rfl ?_ ?_ ?_ ?_ ?_ ?_
  · exact cell_four_new wr _ _ _ _ _
  · intro q hq
    simp at hq
    rcases hq with rfl | rfl | rfl | rfl <;> rfl
  · unfold maxLen; omega
  · omega
  · simp; omega
  · intro v' w' g1 g2 _
    have hg : wr.grownBy w' v.ownBlock := by
      have h0 := World.grownBy_alloc wr (.cells #[.bool b, .slice xa xn xc, .bool d, .slice ya yn yc] 87) v.ownBlock
      exact ⟨g2.os.trans h0.os, g2.tape.trans h0.tape, g2.output.trans h0.output, Nat.le_trans h0.size g2.size, fun k hk hne => (g2.block k (by simp; omega) hne).trans (h0.block k hk hne)⟩
    refine h v' w' ⟨cs ++ [⟨b, .slice xa xn xc, d, .slice ya yn yc⟩], by simp [h1], ?_, ?_⟩ ((Below.refl _ _).grown hg hB hblk) hg
    · rw [flat4_append]
      simpa [flat4] using g1
    · intro j q hj
      by_cases hjl : j < cs.length
      · rw [List.getElem?_append_left hjl] at hj
        have hj2 : (ts ++ [(z, p)]).getD j (0, 0) = ts.getD j (0, 0) := by simp [List.getD, List.getElem?_append_left (show j < ts.length by omega)]
        rw [hj2]
        exact ⟨(h3 j q hj).1.keptM hg htyp, (h3 j q hj).2.keptM hg htyp⟩
      · rw [List.getElem?_append_right (by omega)] at hj
        have hj0 : j - cs.length = 0 := by
          rcases Nat.eq_zero_or_pos (j - cs.length) with h0 | h0
          · exact h0
          · rw [List.getElem?_eq_none (by simp; omega)] at hj; simp at hj
        rw [hj0] at hj
        simp at hj
        subst hj
        have hj2 : (ts ++ [(z, p)]).getD j (0, 0) = (z, p) := by
          rw [show j = ts.length by omega]; simp [List.getD]
        rw [hj2]
        exact ⟨hz.keptM hg htyp, hp.keptM hg htyp⟩

/-- A box that holds a monomial: its four cells. -/
def BxM (w : World) (k : Nat) (a b c d : Value) : Prop := w.heap[k]? = some (.cells #[a, b, c, d] 87 (0, 0))
theorem BxM.c0 {w : World} {k : Nat} {a b c d : Value} (h : BxM w k a b c d) : w.cell? ⟨k, 0, none⟩ = some a := by unfold BxM at h; simp [World.cell?, h]
theorem BxM.c1 {w : World} {k : Nat} {a b c d : Value} (h : BxM w k a b c d) : w.cell? ⟨k, 1, none⟩ = some b := by unfold BxM at h; simp [World.cell?, h]
theorem BxM.c2 {w : World} {k : Nat} {a b c d : Value} (h : BxM w k a b c d) : w.cell? ⟨k, 2, none⟩ = some c := by unfold BxM at h; simp [World.cell?, h]
theorem BxM.c3 {w : World} {k : Nat} {a b c d : Value} (h : BxM w k a b c d) : w.cell? ⟨k, 3, none⟩ = some d := by unfold BxM at h; simp [World.cell?, h]
theorem BxM.fr {w : World} {k : Nat} {a b c d : Value} (h : BxM w k a b c d) (o : Nat) : w.frozen? ⟨k, o, none⟩ = false := by unfold BxM at h; simp [World.frozen?, h]
theorem BxM.lt {w : World} {k : Nat} {a b c d : Value} (h : BxM w k a b c d) : k < w.heap.size := lt_of_block h
theorem BxM.below {w w' : World} {k : Nat} {a b c d : Value} (h : BxM w k a b c d) (hb : Below w.heap.size w w') : BxM w' k a b c d := by unfold BxM; rw [hb.block k h.lt]; exact h
theorem BxM.alloc (w : World) (a b c d : Value) : BxM (w.alloc (.cells #[a, b, c, d] 87)) w.heap.size a b c d := heap_alloc_new w _

end Go.Proofs.YtldcjkhbiffdoaaGreatDoor
