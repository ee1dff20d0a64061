/-
  whole.Int in memory: 'IsI w v z': the value v is the number z.
-/
import Derived.Test.YtldcjkhbiffdoabDoorAddLimbs
import Derived.Test.YtldcjkhbiffdoabDoorSubLimbs
import Derived.Test.YtldcjkhbiffdoabDoorCompareLimbs
import Derived.Test.YtldcjkhbiffdoabDoorSigned
import Derived.Deep.RegionHeld3
import Derived.Deep.QuietTactic
import Derived.BigQuiet
import Derived.BigRegion
namespace Go.Proofs.YtldcjkhbiffdoabDoor
open Go.RowKit

/-- With its sign. -/
def sv (b : Bool) (n : Int) : Int := if b then -n else n

/-- Limbs in their one form, with a sign. -/
structure Lim (b : Bool) (l : List Int) (z : Int) : Prop where
  dig : Dig 1000000000 l
  trim : Trim l
  neg : b = true → l ≠ []
  val : z = sv b (ev 1000000000 l)

def IsI (w : World) (v : Value) (z : Int) : Prop := ∃ b x l, v = .agg #[.bool b, x] ∧ Row w x l ∧ Lim b l z

theorem IsI.below {w w' : World} {v : Value} {z : Int} (h : IsI w v z) (hb : Below w.heap.size w w') : IsI w' v z := by
  obtain ⟨b, x, l, h1, h2, h3⟩ := h
  exact ⟨b, x, l, h1, h2.below hb, h3⟩

/-- Not too great: at most a million limbs. -/
def Fit (z : Int) : Prop := ∃ n, n ≤ 10000000 ∧ z.natAbs < 1000000000 ^ n

theorem natAbs_sv (b : Bool) {n : Int} (h : 0 ≤ n) : ((sv b n).natAbs : Int) = n := by
  unfold sv; split <;> omega

theorem ev_ne {l : List Int} (d : Dig 1000000000 l) (t : Trim l) (h : l ≠ []) : 0 < ev 1000000000 l := by
  have := ev_ge (by omega) d t h
  have := pow_pos (show (0 : Int) < 1000000000 by omega) (l.length - 1)
  omega

theorem Lim.len {b : Bool} {l : List Int} {z : Int} (h : Lim b l z) (hf : Fit z) : l.length ≤ 10000000 := by
  obtain ⟨n, hn, hz⟩ := hf
  rcases Nat.lt_or_ge n l.length with hlt | hge
  · have hne : l ≠ [] := by intro e; subst e; simp at hlt
    have h1 := ev_ge (by omega) h.dig h.trim hne
    have h2 : (1000000000 : Int) ^ n ≤ 1000000000 ^ (l.length - 1) := by
      obtain ⟨k, hk⟩ : ∃ k, l.length - 1 = n + k := ⟨l.length - 1 - n, by omega⟩
      rw [hk, Int.pow_add]
      have h5 : (0 : Int) < 1000000000 ^ k := Int.pow_pos (by omega)
      have := Int.mul_le_mul_of_nonneg_left (show (1 : Int) ≤ 1000000000 ^ k by omega) (Int.le_of_lt (pow_pos (show (0 : Int) < 1000000000 by omega) n))
      omega
    have h3 := natAbs_sv b (ev_nonneg (by omega) h.dig)
    rw [← h.val] at h3
    have h4 : (z.natAbs : Int) < 1000000000 ^ n := by
      have h6 := Int.ofNat_lt.2 hz
      rw [Int.natCast_pow] at h6
      exact h6
    omega
  · omega

theorem Lim.nonneg {b : Bool} {l : List Int} {z : Int} (h : Lim b l z) : 0 ≤ ev 1000000000 l := ev_nonneg (by omega) h.dig

/-- The limbs that 'signed' gives. -/
theorem Lim.signed {b : Bool} {s : List Int} (d : Dig 1000000000 s) (t : Trim s) : Lim (b && !s.isEmpty) s (sv b (ev 1000000000 s)) := by
  refine ⟨d, t, ?_, ?_⟩
  · intro h e; subst e; simp at h
  · cases s with
    | nil => cases b <;> simp [sv, ev]
    | cons a s => cases b <;> rfl

/-- The old cells, and the old marks, behind a call that makes memory alone. -/
theorem bcell {W w1 : World} (hb : Below W.heap.size W w1) : (∀ b o, b < W.heap.size → w1.cell? ⟨b, o, none⟩ = W.cell? ⟨b, o, none⟩) ∧ (∀ b o, b < W.heap.size → w1.frozen? ⟨b, o, none⟩ = W.frozen? ⟨b, o, none⟩) :=
  ⟨fun b o h => hb.cell (p := ⟨b, o, none⟩) h, fun b o h => hb.frozen (p := ⟨b, o, none⟩) h⟩

theorem of_drew {w w' : World} (h : Below w.drew.heap.size w.drew w') : Below w.heap.size w w' := ⟨h.os, h.tape, h.output, h.size, h.block⟩
theorem of_drewN {w w' : World} {n : Nat} (h : Below (w.drewN n).heap.size (w.drewN n) w') : Below w.heap.size w w' := ⟨h.os, h.tape, h.output, h.size, h.block⟩

/-- Block k is a box that holds a whole.Int: its two cells. -/
def Bx (w : World) (k : Nat) (a b : Value) : Prop := w.heap[k]? = some (.cells #[a, b] 43 (0, 0))

theorem Bx.c0 {w : World} {k : Nat} {a b : Value} (h : Bx w k a b) : w.cell? ⟨k, 0, none⟩ = some a := by unfold Bx at h; simp [World.cell?, h]
theorem Bx.c1 {w : World} {k : Nat} {a b : Value} (h : Bx w k a b) : w.cell? ⟨k, 1, none⟩ = some b := by unfold Bx at h; simp [World.cell?, h]
theorem Bx.f0 {w : World} {k : Nat} {a b : Value} (h : Bx w k a b) : w.frozen? ⟨k, 0, none⟩ = false := by unfold Bx at h; simp [World.frozen?, h]
theorem Bx.f1 {w : World} {k : Nat} {a b : Value} (h : Bx w k a b) : w.frozen? ⟨k, 1, none⟩ = false := by unfold Bx at h; simp [World.frozen?, h]
theorem Bx.lt {w : World} {k : Nat} {a b : Value} (h : Bx w k a b) : k < w.heap.size := lt_of_block h
theorem Bx.below {w w' : World} {k : Nat} {a b : Value} (h : Bx w k a b) (hb : Below w.heap.size w w') : Bx w' k a b := by unfold Bx; rw [hb.block k h.lt]; exact h
theorem Bx.set {w : World} {k : Nat} {a b : Value} (h : Bx w k a b) (a' b' : Value) : Bx ((w.setCell ⟨k, 0, none⟩ a').setCell ⟨k, 1, none⟩ b') k a' b' := by
  unfold Bx at h ⊢
  rw [heap_setCell_same _ k 1 #[a', b] _ b' (by rw [heap_setCell_same w k 0 #[a, b] _ a' h]; rfl)]
  rfl
theorem Bx.alloc (w : World) (a b : Value) : Bx (w.alloc (.cells #[a, b] 43)) w.heap.size a b := heap_alloc_new w _
theorem Bx.alloc_old {w : World} {k : Nat} {a b : Value} (h : Bx w k a b) (o : Obj) : Bx (w.alloc o) k a b := h.below ((Below.refl _ _).alloc (Nat.le_refl _) _)

/-- A world behind a new box. -/
theorem one_new {w W0 : World} {a b : Value} (h : w.alloc (.cells #[a, b] 43) = W0) : Below w.heap.size w W0 ∧ Bx W0 w.heap.size a b := by
  subst h
  exact ⟨(Below.refl _ _).alloc (Nat.le_refl _) _, Bx.alloc w a b⟩

/-- A store into a box touches no row of limbs. -/
theorem Row.set {w : World} {v : Value} {l : List Int} (h : Row w v l) {k : Nat} {a b : Value} (hk : Bx w k a b) (o : Nat) (u : Value) : Row (w.setCell ⟨k, o, none⟩ u) v l := by
  refine ownsRow_setCell_other h (fun e => ?_) u
  rcases h.2 with ⟨h1, _⟩ | ⟨g, cap, cur, hv, hb0, hg, r⟩
  · rw [h1] at e; simp [Value.ownBlock] at e
  · rw [hv] at e
    simp [Value.ownBlock] at e
    subst e
    unfold Bx at hk
    rw [hk] at hg
    simp at hg
theorem Row.set2 {w : World} {v : Value} {l : List Int} (h : Row w v l) {k : Nat} {a b : Value} (hk : Bx w k a b) (a' b' : Value) : Row ((w.setCell ⟨k, 0, none⟩ a').setCell ⟨k, 1, none⟩ b') v l := by
  have hk' : Bx (w.setCell ⟨k, 0, none⟩ a') k a' b := by
    unfold Bx at hk ⊢
    rw [heap_setCell_same w k 0 #[a, b] _ a' hk]; rfl
  exact (h.set hk 0 a').set hk' 1 b'
theorem below_set2 {B : Nat} {a w : World} (h : Below B a w) {k : Nat} (hk : B ≤ k) (u v : Value) : Below B a ((w.setCell ⟨k, 0, none⟩ u).setCell ⟨k, 1, none⟩ v) := (h.setCell hk u).setCell hk v

theorem Row.later {B : Nat} {w w' : World} {v : Value} {l : List Int} (h : Row w v l) (hb : Below B w w') (hB : w.heap.size ≤ B) : Row w' v l := h.below (hb.mono hB)

end Go.Proofs.YtldcjkhbiffdoabDoor
