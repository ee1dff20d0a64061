import Derived.Test.YtldcjkhbiffdoaaGreatDoorM00
import Derived.Laws.CopyOwn
import Derived.Deep.RegionHeld3
import Derived.Deep.QuietTactic
import Derived.BigQuiet
import Derived.BigRegion

/-
  whole.trimmed.
-/
namespace Go.Proofs.YtldcjkhbiffdoaaGreatDoor
open Go.RowKit

theorem owned_block {w : World} {B n g c : Nat} {xs : List Value} (h : w.ownsRow B 2 1 (.slice (some ⟨g, 0, none⟩) n c) n xs) : ∃ cur, w.heap[g]? = some (.cells cur 2 (0, 0)) ∧ cur.size = c ∧ B ≤ g ∧ n ≤ c ∧ c ≤ maxLen ∧ cur.toList.take n = xs := by
  rcases h.2 with ⟨h1, _⟩ | ⟨g', cap, cur, hv, hb, hg, hnc, hcm, hcs, ht⟩
  · cases h1
  · simp only [Value.slice.injEq, true_and, Option.some.injEq, Addr.mk.injEq, and_true] at hv
    obtain ⟨rfl, rfl⟩ := hv
    exact ⟨cur, hg, by simpa using hcs, hb, hnc, hcm, by simpa using ht⟩

/-- 'copy(kept, limbs)' into a row of the same length or a shorter one. -/
theorem copy64_run {w : World} (B g n : Nat) (P l : List Int) (ua : Option Addr) (uc : Nat) (hr : Row w (.slice ua l.length uc) l) (hn : n ≤ l.length)
    (hown : w.ownsRow B 2 1 (.slice (some ⟨g, 0, none⟩) n n) n (P.map (Value.int .i64))) :
    ∃ w2, (Builtin.copy_ #[103, 103] 3 #[.slice (some ⟨g, 0, none⟩) n n, .slice ua l.length uc]).run Tryz.prog w = .ok (goInt n) w2 ∧ Own B w2 (.slice (some ⟨g, 0, none⟩) n n) (l.take n) ∧ Below B w w2 := by
  obtain ⟨i, hi, hz0, hz1, hz2⟩ := info_parts Tryz.infoI64
  obtain ⟨cur, hg, hcs, hB, _, hcm, _⟩ := owned_block hown
  have hlt : (l.take n).length = n := by rw [List.length_take]; omega
  have hlen : ((l.take n).map (Value.int .i64)).length = n := by rw [List.length_map, hlt]
  by_cases h0 : n = 0
  · subst h0
    refine ⟨w, run_copy_none (P := Tryz.prog) w 103 103 3 2 (some ⟨g, 0, none⟩) ua 0 0 l.length uc Tryz.sliceI64 (by rw [hi]; simp [hz1]) (by simp), ?_, Below.refl _ _⟩
    refine ⟨by simp, .inr ⟨g, 0, cur, by simp, hB, hg, by simp, by simp [maxLen], by simpa using hcs, by simp⟩⟩
  · obtain ⟨ga, rfl, _⟩ := hr.at 0 (by omega)
    have hrun := run_copy_row (P := Tryz.prog) w 103 103 3 2 g 0 n n ⟨ga, 0, none⟩ l.length uc cur 2 ((l.take n).map (Value.int .i64)) Tryz.sliceI64 (by rw [hi]; simp [hz1]) hg (by rw [hlen]; exact (Nat.min_eq_right hn).symm) ?_ (by rw [hlen]; omega) ?_
    · rw [hlen] at hrun
      refine ⟨_, hrun, ?_, below_setRow (Below.refl _ _) hB _⟩
      have hg2 := setRow_heap w g cur (cur.toList.take 0 ++ (l.take n).map (Value.int .i64) ++ cur.toList.drop (0 + n)).toArray 2 (0, 0) hg
      have hsp : cur.toList.take 0 ++ (l.take n).map (Value.int .i64) ++ cur.toList.drop (0 + n) = (l.take n).map (Value.int .i64) := by
        rw [List.drop_eq_nil_of_le (by rw [Array.length_toList, hcs]; omega)]
        simp
      rw [hsp] at hg2 ⊢
      unfold Own
      rw [hlt]
      refine ⟨by rw [hlen]; omega, .inr ⟨g, n, _, rfl, hB, hg2, Nat.le_refl _, hcm, ?_, ?_⟩⟩
      · simp; omega
      · rw [List.take_of_length_le]
        simp; omega
    · intro j v hj
      have hj' : j < n := by
        have := (List.getElem?_eq_some_iff.1 hj).1
        omega
      obtain ⟨ga', e, _, _, _, hc⟩ := hr.at j (by omega)
      simp at e
      subst e
      have hv : v = .int .i64 (l.getD j 0) := by
        rw [getD_lt (show j < l.length by omega)]
        simp [List.getElem?_take_of_lt hj', List.getElem?_eq_getElem (show j < l.length by omega)] at hj
        exact hj.symm
      have ha : (⟨ga, 0, none⟩ : Addr).add j = ⟨ga, j, none⟩ := by cases j <;> simp [Addr.add]
      rw [hv, ha]
      exact hc
    · intro v hv
      obtain ⟨z, _, rfl⟩ := List.mem_map.1 hv
      rfl

/-- What 'trimmed' leaves. -/
structure Trims (l s : List Int) : Prop where
  dig : Dig 1000000000 s
  trim : Trim s
  val : ev 1000000000 s = ev 1000000000 l
  len : s.length ≤ l.length

set_option maxRecDepth 100000 in
set_option maxHeartbeats 1000000 in
theorem trimmed_any (l : List Int) (u : Value) (w : World) (hu : Row w u l) (hl : l.length ≤ 1000000000) (dl : Dig 1000000000 l) :
    Calls Tryz.prog 154 #[u] w fun e w' => ∃ s x, e = .returned x ∧ Own w.heap.size w' x s ∧ Trims l s ∧ Below w.heap.size w w' := by
  obtain ⟨ua, uc, rfl⟩ := hu.val
  go_enter Tryz.func154, Tryz.ntmps154
  go_wp2_with fail
  go_loop [3] (fun n => ∃ (k : Nat), k ≤ l.length ∧ n = .int .i64 k ∧ Hid (ev 1000000000 (l.take k) = ev 1000000000 l)) (fun n => (intOf n).toNat)
  case atStart => exact ⟨l.length, Nat.le_refl _, rfl, by rw [List.take_length]; rfl⟩
  case round =>
    obtain ⟨k, hk, rfl, HE⟩ := hrel
    have hfin : (k = 0 ∨ l.getD (k - 1) 0 ≠ 0) → Trims l (l.take k) := by
      intro h
      refine ⟨dl.take _, fun y hy => ?_, HE.out, by rw [List.length_take]; omega⟩
      rcases h with rfl | h
      · simp at hy
      · cases k with
        | zero => simp at hy
        | succ j =>
          rw [List.take_succ_eq_append_getElem (by omega), ← getD_lt (by omega)] at hy
          simp at hy
          simp at h
          rw [← hy]; exact h
    cases k with
    | zero =>
      have HT : Hid _ := hfin (.inl rfl)
      clear hfin HE
      go_wp2_with (at_make; refine wpList_make64 rfl (.tmp 19) (.tmp 19) rfl _ _ 0 rfl rfl (by omega) (by omega) (by omega) ?_)
      intro w1 P0 _ hown hb1
      obtain ⟨w2, hrun, hown2, hb2⟩ := copy64_run w.heap.size w.heap.size 0 P0 l ua uc (hu.below hb1) (by omega) hown
      go_wp2
      go_ret
      exact ⟨_, _, rfl, hown2, HT.out, hb1.trans hb2⟩
    | succ j =>
      obtain ⟨g, rfl, hc1, hc2, hg, hcell⟩ := hu.at j (by omega)
      obtain ⟨x, HX⟩ : ∃ x, Hid (l.getD j 0 = x) := ⟨_, rfl⟩
      rw [HX.out] at hcell
      by_cases hx : x = 0
      · subst hx
        have he : Hid (ev 1000000000 (l.take j) = ev 1000000000 l) := by
          have := HE.out
          rw [ev_take, HX.out] at this
          simp at this
          exact this
        clear HE HX hfin
        go_wp2_with fail
        go_round
        case rel => exact ⟨j, by omega, by go_num, he⟩
        case measure => simp [intOf]
      · have HT : Hid _ := hfin (.inr (by rw [Nat.add_sub_cancel, HX.out]; exact hx))
        have hxb : (x == 0) = false := by simp [hx]
        clear hfin HE HX
        go_wp2_with (at_make; refine wpList_make64 rfl (.tmp 19) (.tmp 19) rfl _ _ (j + 1) rfl rfl (by omega) (by omega) (by omega) ?_)
        intro w1 P0 _ hown hb1
        obtain ⟨w2, hrun, hown2, hb2⟩ := copy64_run w.heap.size w.heap.size (j + 1) P0 l _ uc (hu.below hb1) (by omega) hown
        go_wp2
        go_ret
        exact ⟨_, _, rfl, hown2, HT.out, hb1.trans hb2⟩

end Go.Proofs.YtldcjkhbiffdoaaGreatDoor

/-
  whole.signed.
-/
namespace Go.Proofs.YtldcjkhbiffdoaaGreatDoor
open Go.RowKit

set_option maxHeartbeats 1000000 in
theorem signed_any (b : Bool) (l : List Int) (u : Value) (w : World) (hu : Row w u l) (hl : l.length ≤ 1000000000) (dl : Dig 1000000000 l) :
    Calls Tryz.prog 131 #[.bool b, u] w fun e w' => ∃ s x, e = .returned (.agg #[.bool (b && !s.isEmpty), x]) ∧ Row w' x s ∧ Dig 1000000000 s ∧ Trim s ∧ ev 1000000000 s = ev 1000000000 l ∧ s.length ≤ l.length ∧ Below w.heap.size w w' := by
  obtain ⟨ua, uc, rfl⟩ := hu.val
  have hT := fun (W : World) (h : Row W (.slice ua l.length uc) l) => trimmed_any l (.slice ua l.length uc) W h hl dl
  go_enter Tryz.func131, Tryz.ntmps131
  go_wp2_with fail
  generalize hW : w.alloc (Obj.cells #[Value.bool false, Value.slice none 0 0] 105) = W0
  have hsz0 : W0.heap.size = w.heap.size + 1 := by rw [← hW]; simp
  have hb0 : Below w.heap.size w W0 := by rw [← hW]; exact (Below.refl _ _).alloc (Nat.le_refl _) _
  have hx0 : W0.heap[w.heap.size]? = some (.cells #[Value.bool false, Value.slice none 0 0] 105 (0, 0)) := by rw [← hW]; exact heap_alloc_new w _
  clear hW
  refine (hT W0 (hu.below hb0)).mono ?_
  rintro e w1 ⟨s, x, rfl, hown, hTs, hb1⟩
  rw [hsz0] at hown hb1
  obtain ⟨xa, xc, rfl⟩ := hown.row.val
  have hx1 : w1.heap[w.heap.size]? = some (.cells #[Value.bool false, Value.slice none 0 0] 105 (0, 0)) := by rw [hb1.block _ (by omega)]; exact hx0
  have hc0 : w1.cell? ⟨w.heap.size, 0, none⟩ = some (.bool false) := by simp [World.cell?, hx1]
  have hc1 : w1.cell? ⟨w.heap.size, 1, none⟩ = some (.slice none 0 0) := by simp [World.cell?, hx1]
  have hf0 : w1.frozen? ⟨w.heap.size, 0, none⟩ = false := by simp [World.frozen?, hx1]
  have hf1 : w1.frozen? ⟨w.heap.size, 1, none⟩ = false := by simp [World.frozen?, hx1]
  have hbw : Below w.heap.size w w1 := hb0.trans (hb1.mono (by omega))
  have hemp : s.isEmpty = decide (s.length = 0) := by cases s <;> simp
  clear hx0 hx1
  cases b
  all_goals
    have hcase : s.length = 0 ∨ (0 < s.length ∧ ¬ s.length = 0) := by omega
    rcases hcase with h0 | ⟨h0, h1⟩
    all_goals
      go_wp2
      refine bodyPost_ret (by simp [results, Tryz.results131, go_sem, hc0, hc1]; rfl) rfl ⟨s, .slice xa s.length xc, ?_, Own.row (B := w.heap.size + 1) (ownsRow_setCell_below (ownsRow_setCell_below hown (by simp) _) (by simp) _), hTs.dig, hTs.trim, hTs.val, hTs.len, (hbw.setCell (by simp) _).setCell (by simp) _⟩
      simp [*]

end Go.Proofs.YtldcjkhbiffdoaaGreatDoor

/-
  whole.Int in memory: 'IsI w v z': the value v is the number z.
-/
namespace Go.Proofs.YtldcjkhbiffdoaaGreatDoor
open Go.RowKit

/-- With its sign. -/
def sv (b : Bool) (n : Int) : Int := if b then -n else n

/-- Limbs in their one form, with a sign. -/
structure Lim (b : Bool) (l : List Int) (z : Int) : Prop where
  dig : Dig 1000000000 l
  trim : Trim l
  neg : b = true → l ≠ []
  val : z = sv b (ev 1000000000 l)

def IsI (w : World) (v : Value) (z : Int) : Prop := ∃ b x l, v = .agg #[.bool b, x] ∧ Row w x l ∧ Lim b l z

theorem IsI.below {w w' : World} {v : Value} {z : Int} (h : IsI w v z) (hb : Below w.heap.size w w') : IsI w' v z := by
  obtain ⟨b, x, l, h1, h2, h3⟩ := h
  exact ⟨b, x, l, h1, h2.below hb, h3⟩

/-- Not too great: at most a million limbs. -/
def Fit (z : Int) : Prop := ∃ n, n ≤ 10000000 ∧ z.natAbs < 1000000000 ^ n

theorem natAbs_sv (b : Bool) {n : Int} (h : 0 ≤ n) : ((sv b n).natAbs : Int) = n := by
  unfold sv; split <;> omega

theorem ev_ne {l : List Int} (d : Dig 1000000000 l) (t : Trim l) (h : l ≠ []) : 0 < ev 1000000000 l := by
  have := ev_ge (by omega) d t h
  have := pow_pos (show (0 : Int) < 1000000000 by omega) (l.length - 1)
  omega

theorem Lim.len {b : Bool} {l : List Int} {z : Int} (h : Lim b l z) (hf : Fit z) : l.length ≤ 10000000 := by
  obtain ⟨n, hn, hz⟩ := hf
  rcases Nat.lt_or_ge n l.length with hlt | hge
  · have hne : l ≠ [] := by intro e; subst e; simp at hlt
    have h1 := ev_ge (by omega) h.dig h.trim hne
    have h2 : (1000000000 : Int) ^ n ≤ 1000000000 ^ (l.length - 1) := by
      obtain ⟨k, hk⟩ : ∃ k, l.length - 1 = n + k := ⟨l.length - 1 - n, by omega⟩
      rw [hk, Int.pow_add]
      have h5 : (0 : Int) < 1000000000 ^ k := Int.pow_pos (by omega)
      have := Int.mul_le_mul_of_nonneg_left (show (1 : Int) ≤ 1000000000 ^ k by omega) (Int.le_of_lt (pow_pos (show (0 : Int) < 1000000000 by omega) n))
      omega
    have h3 := natAbs_sv b (ev_nonneg (by omega) h.dig)
    rw [← h.val] at h3
    have h4 : (z.natAbs : Int) < 1000000000 ^ n := by
      have h6 := Int.ofNat_lt.2 hz
      rw [Int.natCast_pow] at h6
      exact h6
    omega
  · omega

theorem Lim.nonneg {b : Bool} {l : List Int} {z : Int} (h : Lim b l z) : 0 ≤ ev 1000000000 l := ev_nonneg (by omega) h.dig

/-- The limbs that 'signed' gives. -/
theorem Lim.signed {b : Bool} {s : List Int} (d : Dig 1000000000 s) (t : Trim s) : Lim (b && !s.isEmpty) s (sv b (ev 1000000000 s)) := by
  refine ⟨d, t, ?_, ?_⟩
  · intro h e; subst e; simp at h
  · cases s with
    | nil => cases b <;> simp [sv, ev]
    | cons a s => cases b <;> rfl

/-- The old cells, and the old marks, behind a call that makes memory alone. -/
theorem bcell {W w1 : World} (hb : Below W.heap.size W w1) : (∀ b o, b < W.heap.size → w1.cell? ⟨b, o, none⟩ = W.cell? ⟨b, o, none⟩) ∧ (∀ b o, b < W.heap.size → w1.frozen? ⟨b, o, none⟩ = W.frozen? ⟨b, o, none⟩) :=
  ⟨fun b o h => hb.cell (p := ⟨b, o, none⟩) h, fun b o h => hb.frozen (p := ⟨b, o, none⟩) h⟩

theorem of_drew {w w' : World} (h : Below w.drew.heap.size w.drew w') : Below w.heap.size w w' := ⟨h.os, h.tape, h.output, h.size, h.block⟩
theorem of_drewN {w w' : World} {n : Nat} (h : Below (w.drewN n).heap.size (w.drewN n) w') : Below w.heap.size w w' := ⟨h.os, h.tape, h.output, h.size, h.block⟩

/-- Block k is a box that holds a whole.Int: its two cells. -/
def Bx (w : World) (k : Nat) (a b : Value) : Prop := w.heap[k]? = some (.cells #[a, b] 105 (0, 0))

theorem Bx.c0 {w : World} {k : Nat} {a b : Value} (h : Bx w k a b) : w.cell? ⟨k, 0, none⟩ = some a := by unfold Bx at h; simp [World.cell?, h]
theorem Bx.c1 {w : World} {k : Nat} {a b : Value} (h : Bx w k a b) : w.cell? ⟨k, 1, none⟩ = some b := by unfold Bx at h; simp [World.cell?, h]
theorem Bx.f0 {w : World} {k : Nat} {a b : Value} (h : Bx w k a b) : w.frozen? ⟨k, 0, none⟩ = false := by unfold Bx at h; simp [World.frozen?, h]
theorem Bx.f1 {w : World} {k : Nat} {a b : Value} (h : Bx w k a b) : w.frozen? ⟨k, 1, none⟩ = false := by unfold Bx at h; simp [World.frozen?, h]
theorem Bx.lt {w : World} {k : Nat} {a b : Value} (h : Bx w k a b) : k < w.heap.size := lt_of_block h
theorem Bx.below {w w' : World} {k : Nat} {a b : Value} (h : Bx w k a b) (hb : Below w.heap.size w w') : Bx w' k a b := by unfold Bx; rw [hb.block k h.lt]; exact h
theorem Bx.set {w : World} {k : Nat} {a b : Value} (h : Bx w k a b) (a' b' : Value) : Bx ((w.setCell ⟨k, 0, none⟩ a').setCell ⟨k, 1, none⟩ b') k a' b' := by
  unfold Bx at h ⊢
  rw [heap_setCell_same _ k 1 #[a', b] _ b' (by rw [heap_setCell_same w k 0 #[a, b] _ a' h]; rfl)]
  rfl
theorem Bx.alloc (w : World) (a b : Value) : Bx (w.alloc (.cells #[a, b] 105)) w.heap.size a b := heap_alloc_new w _
theorem Bx.alloc_old {w : World} {k : Nat} {a b : Value} (h : Bx w k a b) (o : Obj) : Bx (w.alloc o) k a b := h.below ((Below.refl _ _).alloc (Nat.le_refl _) _)

/-- A world behind a new box. -/
theorem one_new {w W0 : World} {a b : Value} (h : w.alloc (.cells #[a, b] 105) = W0) : Below w.heap.size w W0 ∧ Bx W0 w.heap.size a b := by
  subst h
  exact ⟨(Below.refl _ _).alloc (Nat.le_refl _) _, Bx.alloc w a b⟩

/-- A store into a box touches no row of limbs. -/
theorem Row.set {w : World} {v : Value} {l : List Int} (h : Row w v l) {k : Nat} {a b : Value} (hk : Bx w k a b) (o : Nat) (u : Value) : Row (w.setCell ⟨k, o, none⟩ u) v l := by
  refine ownsRow_setCell_other h (fun e => ?_) u
  rcases h.2 with ⟨h1, _⟩ | ⟨g, cap, cur, hv, hb0, hg, r⟩
  · rw [h1] at e; simp [Value.ownBlock] at e
  · rw [hv] at e
    simp [Value.ownBlock] at e
    subst e
    unfold Bx at hk
    rw [hk] at hg
    simp at hg
theorem Row.set2 {w : World} {v : Value} {l : List Int} (h : Row w v l) {k : Nat} {a b : Value} (hk : Bx w k a b) (a' b' : Value) : Row ((w.setCell ⟨k, 0, none⟩ a').setCell ⟨k, 1, none⟩ b') v l := by
  have hk' : Bx (w.setCell ⟨k, 0, none⟩ a') k a' b := by
    unfold Bx at hk ⊢
    rw [heap_setCell_same w k 0 #[a, b] _ a' hk]; rfl
  exact (h.set hk 0 a').set hk' 1 b'
theorem below_set2 {B : Nat} {a w : World} (h : Below B a w) {k : Nat} (hk : B ≤ k) (u v : Value) : Below B a ((w.setCell ⟨k, 0, none⟩ u).setCell ⟨k, 1, none⟩ v) := (h.setCell hk u).setCell hk v

theorem Row.later {B : Nat} {w w' : World} {v : Value} {l : List Int} (h : Row w v l) (hb : Below B w w') (hB : w.heap.size ≤ B) : Row w' v l := h.below (hb.mono hB)

end Go.Proofs.YtldcjkhbiffdoaaGreatDoor

/-
  whole.Sign, whole.Neg, whole.Abs, whole.Compare.
-/
namespace Go.Proofs.YtldcjkhbiffdoaaGreatDoor
open Go.RowKit

/-- A world behind two new boxes. -/
theorem two_new {w W0 : World} {a b c d : Value} (h : (w.alloc (.cells #[a, b] 105)).alloc (.cells #[c, d] 105) = W0) :
    w.heap.size + 1 < W0.heap.size ∧ Below w.heap.size w W0 ∧ Bx W0 w.heap.size a b ∧ Bx W0 (w.heap.size + 1) c d := by
  subst h
  refine ⟨by simp, ((Below.refl _ _).alloc (Nat.le_refl _) _).alloc (by simp) _, (Bx.alloc w a b).alloc_old _, ?_⟩
  have := Bx.alloc (w.alloc (.cells #[a, b] 105)) c d
  simpa using this

set_option maxHeartbeats 1000000 in
theorem neg_any (u : Value) (z : Int) (w : World) (hu : IsI w u z) (f : Fit z) :
    Calls Tryz.prog 108 #[u] w fun e w' => ∃ v, e = .returned v ∧ IsI w' v (-z) ∧ Below w.heap.size w w' := by
  obtain ⟨b, x, l, rfl, hx, h1⟩ := hu
  have hl := h1.len f
  obtain ⟨ua, uc, rfl⟩ := hx.val
  go_enter Tryz.func108, Tryz.ntmps108
  go_wp2_with fail
  generalize hW : (w.alloc (Obj.cells #[Value.bool b, Value.slice ua l.length uc] 105)).alloc (Obj.cells #[Value.bool false, Value.slice none 0 0] 105) = W0
  obtain ⟨hz0, hb0, X0, X1⟩ := two_new hW
  clear hW
  refine (signed_any (!b) l _ W0 (hx.below hb0) (by omega) h1.dig).mono ?_
  rintro e w1 ⟨t, x2, rfl, hr2, hd2, ht2, hv2, hlen2, hb2⟩
  have HV2 : Hid _ := hv2
  clear hv2
  obtain ⟨xa, xc, rfl⟩ := hr2.val
  have X1' := X1.below hb2
  have r3 := X1'.c0; have r4 := X1'.c1; have g3 := X1'.f0; have g4 := X1'.f1
  go_wp2
  refine bodyPost_ret (v := .agg #[.bool (!b && !t.isEmpty), .slice xa t.length xc]) (by simp [results, Tryz.results108, go_sem, r3, r4]) rfl ⟨_, rfl, ⟨_, _, t, rfl, hr2.set2 X1' _ _, ?_⟩, below_set2 (hb0.trans (hb2.mono hb0.size)) (by omega) _ _⟩
  have := Lim.signed (b := !b) hd2 ht2
  rw [HV2.out] at this
  rw [h1.val]
  have e : -sv b (ev 1000000000 l) = sv (!b) (ev 1000000000 l) := by cases b <;> simp [sv]
  rw [e]
  exact this

set_option maxHeartbeats 1000000 in
theorem abs_any (u : Value) (z : Int) (w : World) (hu : IsI w u z) (f : Fit z) :
    Calls Tryz.prog 109 #[u] w fun e w' => ∃ v, e = .returned v ∧ IsI w' v (z.natAbs : Int) ∧ Below w.heap.size w w' := by
  obtain ⟨b, x, l, rfl, hx, h1⟩ := hu
  have hl := h1.len f
  obtain ⟨ua, uc, rfl⟩ := hx.val
  go_enter Tryz.func109, Tryz.ntmps109
  go_wp2_with fail
  generalize hW : (w.alloc (Obj.cells #[Value.bool b, Value.slice ua l.length uc] 105)).alloc (Obj.cells #[Value.bool false, Value.slice none 0 0] 105) = W0
  obtain ⟨hz0, hb0, X0, X1⟩ := two_new hW
  clear hW
  refine (signed_any false l _ W0 (hx.below hb0) (by omega) h1.dig).mono ?_
  rintro e w1 ⟨t, x2, rfl, hr2, hd2, ht2, hv2, hlen2, hb2⟩
  have HV2 : Hid _ := hv2
  clear hv2
  obtain ⟨xa, xc, rfl⟩ := hr2.val
  have X1' := X1.below hb2
  have r3 := X1'.c0; have r4 := X1'.c1; have g3 := X1'.f0; have g4 := X1'.f1
  go_wp2
  refine bodyPost_ret (v := .agg #[.bool (false && !t.isEmpty), .slice xa t.length xc]) (by simp [results, Tryz.results109, go_sem, r3, r4]) rfl ⟨_, rfl, ⟨_, _, t, rfl, hr2.set2 X1' _ _, ?_⟩, below_set2 (hb0.trans (hb2.mono hb0.size)) (by omega) _ _⟩
  have := Lim.signed (b := false) hd2 ht2
  rw [HV2.out] at this
  rw [h1.val, natAbs_sv b h1.nonneg]
  exact this

/-- The sign. -/
def sgn3 (z : Int) : Int := if z < 0 then -1 else if z = 0 then 0 else 1

set_option maxHeartbeats 1000000 in
theorem sign_any (u : Value) (z : Int) (w : World) (hu : IsI w u z) (f : Fit z) :
    Calls Tryz.prog 90 #[u] w fun e w' => e = .returned (.int .i64 (sgn3 z)) ∧ Below w.heap.size w w' := by
  obtain ⟨b, x, l, rfl, hx, h1⟩ := hu
  have hl := h1.len f
  obtain ⟨ua, uc, rfl⟩ := hx.val
  have hs : (l.length = 0 ∧ sgn3 z = 0) ∨ (0 < l.length ∧ b = true ∧ sgn3 z = -1) ∨ (0 < l.length ∧ b = false ∧ sgn3 z = 1) := by
    cases l with
    | nil =>
      refine .inl ⟨rfl, ?_⟩
      rw [h1.val]
      cases b <;> simp [sv, ev, sgn3]
    | cons a l =>
      have := ev_ne h1.dig h1.trim (by simp)
      cases b with
      | true => exact .inr (.inl ⟨by simp, rfl, by rw [h1.val]; unfold sgn3 sv; rw [if_pos rfl, if_pos (by omega)]⟩)
      | false => exact .inr (.inr ⟨by simp, rfl, by rw [h1.val]; show sgn3 (ev 1000000000 (a :: l)) = 1; unfold sgn3; rw [if_neg (by omega), if_neg (by omega)]⟩)
  generalize sgn3 z = g at *
  rcases hs with ⟨h0, rfl⟩ | ⟨h0, rfl, rfl⟩ | ⟨h0, rfl, rfl⟩
  all_goals
    go_enter Tryz.func90, Tryz.ntmps90
    go_wp2
    go_ret
    exact ⟨rfl, (Below.refl _ _).alloc (Nat.le_refl _) _⟩

set_option maxHeartbeats 1000000 in
theorem compare_any (u v : Value) (z1 z2 : Int) (w : World) (hu : IsI w u z1) (hv : IsI w v z2) (f1 : Fit z1) (f2 : Fit z2) :
    Calls Tryz.prog 91 #[u, v] w fun e w' => e = .returned (.int .i64 (cmp3 z1 z2)) ∧ Below w.heap.size w w' := by
  obtain ⟨b1, x, l, rfl, hx, h1⟩ := hu
  obtain ⟨b2, y, m, rfl, hy, h2⟩ := hv
  have hl := h1.len f1
  have hm := h2.len f2
  obtain ⟨ua, uc, rfl⟩ := hx.val
  obtain ⟨va, vc, rfl⟩ := hy.val
  have n1 := h1.nonneg
  have n2 := h2.nonneg
  have p1 : b1 = true → 0 < ev 1000000000 l := fun h => ev_ne h1.dig h1.trim (h1.neg h)
  have p2 : b2 = true → 0 < ev 1000000000 m := fun h => ev_ne h2.dig h2.trim (h2.neg h)
  have e1 := h1.val
  have e2 := h2.val
  have hcmp := cmp3_bd (ev 1000000000 l) (ev 1000000000 m)
  cases b1 <;> cases b2
  · have he : cmp3 z1 z2 = cmp3 (ev 1000000000 l) (ev 1000000000 m) := by rw [e1, e2]; rfl
    rw [he]
    clear he e1 e2 p1 p2 n1 n2
    have hC := fun (W0 : World) (g1 : Row W0 (.slice ua l.length uc) l) (g2 : Row W0 (.slice va m.length vc) m) => compareLimbs_any l m _ _ W0 g1 g2 (by omega) h1.dig h2.dig h1.trim h2.trim
    generalize cmp3 (ev 1000000000 l) (ev 1000000000 m) = c at *
    obtain ⟨hcl, hcu⟩ := hcmp
    have HC : Hid _ := hC
    clear hC
    go_enter Tryz.func91, Tryz.ntmps91
    go_wp2_with fail
    generalize hW : (w.alloc (Obj.cells #[Value.bool false, Value.slice ua l.length uc] 105)).alloc (Obj.cells #[Value.bool false, Value.slice va m.length vc] 105) = W0
    obtain ⟨hz0, hb0, X0, X1⟩ := two_new hW
    clear hW
    refine (HC.out W0 (hx.below hb0) (hy.below hb0)).mono ?_
    rintro e w' ⟨rfl, rfl⟩
    have r3 := X0.c0
    go_wp2
    go_ret
    exact ⟨rfl, hb0⟩
  · have he : cmp3 z1 z2 = 1 := by
      have := p2 rfl
      apply cmp3_gt
      rw [e1, e2]; unfold sv; rw [if_pos rfl, if_neg (by simp)]; omega
    rw [he]
    clear he e1 e2 p1 p2 n1 n2 hcmp
    go_enter Tryz.func91, Tryz.ntmps91
    go_wp2
    go_ret
    exact ⟨rfl, ((Below.refl _ _).alloc (Nat.le_refl _) _).alloc (by simp) _⟩
  · have he : cmp3 z1 z2 = -1 := by
      have := p1 rfl
      apply cmp3_lt
      rw [e1, e2]; unfold sv; rw [if_pos rfl, if_neg (by simp)]; omega
    rw [he]
    clear he e1 e2 p1 p2 n1 n2 hcmp
    go_enter Tryz.func91, Tryz.ntmps91
    go_wp2
    go_ret
    exact ⟨rfl, ((Below.refl _ _).alloc (Nat.le_refl _) _).alloc (by simp) _⟩
  · have he : cmp3 z1 z2 = -cmp3 (ev 1000000000 l) (ev 1000000000 m) := by
      rw [e1, e2]; unfold sv cmp3; rw [if_pos rfl, if_pos rfl]
      split
      · rw [if_neg (by omega), if_pos (by omega)]
      · split
        · rw [if_pos (by omega)]
          omega
        · rw [if_neg (by omega), if_neg (by omega)]; rfl
    rw [he]
    clear he e1 e2 p1 p2 n1 n2
    have hC := fun (W0 : World) (g1 : Row W0 (.slice ua l.length uc) l) (g2 : Row W0 (.slice va m.length vc) m) => compareLimbs_any l m _ _ W0 g1 g2 (by omega) h1.dig h2.dig h1.trim h2.trim
    generalize cmp3 (ev 1000000000 l) (ev 1000000000 m) = c at *
    obtain ⟨hcl, hcu⟩ := hcmp
    have HC : Hid _ := hC
    clear hC
    go_enter Tryz.func91, Tryz.ntmps91
    go_wp2_with fail
    generalize hW : (w.alloc (Obj.cells #[Value.bool true, Value.slice ua l.length uc] 105)).alloc (Obj.cells #[Value.bool true, Value.slice va m.length vc] 105) = W0
    obtain ⟨hz0, hb0, X0, X1⟩ := two_new hW
    clear hW
    refine (HC.out W0 (hx.below hb0) (hy.below hb0)).mono ?_
    rintro e w' ⟨rfl, rfl⟩
    have r3 := X0.c0
    go_wp2
    go_ret
    exact ⟨rfl, hb0⟩

end Go.Proofs.YtldcjkhbiffdoaaGreatDoor

/-
  Polynomials as lists of numbers, the lowest first: noughts at the end, sums, products.
-/
namespace Go.Proofs.YtldcjkhbiffdoaaGreatDoor

/-- How many are left without the noughts at the end, of the first k. -/
def tzn (l : List Int) : Nat → Nat
  | 0 => 0
  | k + 1 => if l.getD k 0 = 0 then tzn l k else k + 1

theorem tzn_le (l : List Int) : ∀ k, tzn l k ≤ k
  | 0 => Nat.le_refl _
  | k + 1 => by
    unfold tzn
    split
    · exact Nat.le_succ_of_le (tzn_le l k)
    · exact Nat.le_refl _

def tz (l : List Int) : List Int := l.take (tzn l l.length)

theorem tzn_zero (l : List Int) : ∀ k i, tzn l k ≤ i → i < k → l.getD i 0 = 0
  | 0, i, _, h => by omega
  | k + 1, i, h1, h2 => by
    unfold tzn at h1
    split at h1
    · rcases (show i = k ∨ i < k by omega) with rfl | h3
      · assumption
      · exact tzn_zero l k i h1 h3
    · omega

theorem getD_out {l : List Int} {k : Nat} (h : l.length ≤ k) : l.getD k 0 = 0 := by
  simp [List.getD, List.getElem?_eq_none h]

theorem tz_getD (L : List Int) (k : Nat) : (tz L).getD k 0 = L.getD k 0 := by
  have hle := tzn_le L L.length
  rcases Nat.lt_or_ge k (tzn L L.length) with h | h
  · unfold tz
    simp [List.getD, List.getElem?_take_of_lt h]
  · rw [getD_out (by unfold tz; rw [List.length_take]; omega)]
    rcases Nat.lt_or_ge k L.length with h2 | h2
    · rw [tzn_zero L _ k h h2]
    · rw [getD_out h2]

theorem tz_length (l : List Int) : (tz l).length = tzn l l.length := by
  have := tzn_le l l.length
  unfold tz; rw [List.length_take]; omega

theorem tzn_last (l : List Int) : ∀ k, 0 < tzn l k → l.getD (tzn l k - 1) 0 ≠ 0
  | 0, h => by simp [tzn] at h
  | k + 1, h => by
    unfold tzn at h ⊢
    split
    · rename_i h0
      rw [if_pos h0] at h
      exact tzn_last l k h
    · assumption

/-- No nought at the end. -/
def Tr (l : List Int) : Prop := l ≠ [] → l.getD (l.length - 1) 0 ≠ 0

theorem tr_tz (l : List Int) : Tr (tz l) := by
  intro h
  rw [tz_getD, tz_length]
  refine tzn_last l _ ?_
  rw [← tz_length]
  exact List.length_pos_iff.2 h

theorem Tr.nil : Tr [] := fun h => absurd rfl h

theorem Tr.len {l m : List Int} (hl : Tr l) (h : ∀ k, m.length ≤ k → l.getD k 0 = 0) : l.length ≤ m.length := by
  rcases Nat.lt_or_ge m.length l.length with h1 | h1
  · have hne : l ≠ [] := by intro e; subst e; simp at h1
    exact absurd (h (l.length - 1) (by omega)) (hl hne)
  · exact h1

theorem Tr.lenN {l : List Int} {n : Nat} (hl : Tr l) (h : ∀ k, n ≤ k → l.getD k 0 = 0) : l.length ≤ n := by
  rcases Nat.lt_or_ge n l.length with h1 | h1
  · have hne : l ≠ [] := by intro e; subst e; simp at h1
    exact absurd (h (l.length - 1) (by omega)) (hl hne)
  · exact h1

theorem ext_getD {l m : List Int} (hlen : l.length = m.length) (h : ∀ k, l.getD k 0 = m.getD k 0) : l = m := by
  refine List.ext_getElem hlen fun i h1 h2 => ?_
  have := h i
  simpa [List.getD, List.getElem?_eq_getElem h1, List.getElem?_eq_getElem h2] using this

theorem Tr.ext {l m : List Int} (hl : Tr l) (hm : Tr m) (h : ∀ k, l.getD k 0 = m.getD k 0) : l = m := by
  refine ext_getD ?_ h
  have h1 := hl.len (m := m) fun k hk => by rw [h, getD_out hk]
  have h2 := hm.len (m := l) fun k hk => by rw [← h, getD_out hk]
  omega

theorem tz_ext {l m : List Int} (h : ∀ k, l.getD k 0 = m.getD k 0) : tz l = tz m :=
  (tr_tz l).ext (tr_tz m) fun k => by rw [tz_getD, tz_getD, h]

theorem tz_of_tr {l : List Int} (h : Tr l) : tz l = l := (tr_tz l).ext h fun k => tz_getD l k

theorem tz_eq {l m : List Int} (hm : Tr m) (h : ∀ k, l.getD k 0 = m.getD k 0) : tz l = m :=
  (tr_tz l).ext hm fun k => by rw [tz_getD, h]

theorem tz_len_le {l : List Int} {n : Nat} (h : ∀ k, n ≤ k → l.getD k 0 = 0) : (tz l).length ≤ n :=
  (tr_tz l).lenN fun k hk => by rw [tz_getD]; exact h k hk

/-- The list of the first n numbers of a rule. -/
def tab (n : Nat) (f : Nat → Int) : List Int := (List.range n).map f
theorem tab_succ (n : Nat) (f : Nat → Int) : tab (n + 1) f = tab n f ++ [f n] := by
  unfold tab; rw [List.range_succ, List.map_append]; rfl
theorem tab_len (n : Nat) (f : Nat → Int) : (tab n f).length = n := by simp [tab]
theorem tab_getD (n : Nat) (f : Nat → Int) (k : Nat) : (tab n f).getD k 0 = if k < n then f k else 0 := by
  split
  · rename_i h; simp [tab, List.getD, List.getElem?_map, List.getElem?_range h]
  · rename_i h; rw [getD_out (by rw [tab_len]; omega)]
theorem tab_zero (f : Nat → Int) : tab 0 f = [] := rfl

/-- Sums of products: the coefficient of x^k, of the first n pairs. -/
def pAt (xs ys : List Int) (k : Nat) : Nat → Int
  | 0 => 0
  | n + 1 => pAt xs ys k n + xs.getD n 0 * ys.getD (k - n) 0

def pk (xs ys : List Int) (k : Nat) : Int := pAt xs ys k (k + 1)
def prodTo (xs ys : List Int) (n : Nat) : List Int := tab n (pk xs ys)

theorem pAt_one (xs ys : List Int) (k d : Nat) : ∀ n, (∀ i, i < n → i ≠ d → xs.getD i 0 * ys.getD (k - i) 0 = 0) → pAt xs ys k n = if d < n then xs.getD d 0 * ys.getD (k - d) 0 else 0
  | 0, _ => by simp [pAt]
  | n + 1, h => by
    unfold pAt
    rw [pAt_one xs ys k d n fun i h1 h2 => h i (by omega) h2]
    by_cases hd : d = n
    · subst hd; simp
    · rw [h n (by omega) (fun e => hd e.symm)]
      by_cases h1 : d < n
      · rw [if_pos h1, if_pos (by omega)]; omega
      · rw [if_neg h1, if_neg (by omega)]; omega

theorem pk_out (xs ys : List Int) (k : Nat) (h : xs.length + ys.length - 1 ≤ k) : pk xs ys k = 0 := by
  unfold pk
  have hz : ∀ i, i < k + 1 → xs.getD i 0 * ys.getD (k - i) 0 = 0 := by
    intro i hi
    rcases Nat.lt_or_ge i xs.length with h1 | h1
    · rw [getD_out (show ys.length ≤ k - i by omega)]; simp
    · rw [getD_out h1]; simp
  rw [pAt_one xs ys k (k + 1) (k + 1) fun i h1 _ => hz i h1]
  simp

theorem prodTo_getD (xs ys : List Int) (k : Nat) : (prodTo xs ys (xs.length + ys.length - 1)).getD k 0 = pk xs ys k := by
  unfold prodTo
  rw [tab_getD]
  split
  · rfl
  · rw [pk_out]; omega

/-- A number times a power of x. -/
def mono (d : Nat) (c : Int) : List Int := List.replicate d 0 ++ [c]
theorem mono_getD (d : Nat) (c : Int) (k : Nat) : (mono d c).getD k 0 = if k = d then c else 0 := by
  unfold mono
  rcases Nat.lt_trichotomy k d with h | h | h
  · rw [if_neg (by omega)]
    simp [List.getD, List.getElem?_append_left (show k < (List.replicate d (0 : Int)).length by simpa using h), h]
  · subst h
    simp [List.getD]
  · rw [if_neg (by omega), getD_out]
    simp; omega
theorem mono_len (d : Nat) (c : Int) : (mono d c).length = d + 1 := by simp [mono]

theorem pk_mono (d : Nat) (c : Int) (ys : List Int) (k : Nat) : pk (mono d c) ys k = if d ≤ k then c * ys.getD (k - d) 0 else 0 := by
  unfold pk
  rw [pAt_one _ _ k d (k + 1)]
  · rw [mono_getD, if_pos rfl]
    by_cases h : d ≤ k
    · rw [if_pos h, if_pos (by omega)]
    · rw [if_neg h, if_neg (by omega)]
  · intro i _ h
    rw [mono_getD, if_neg h]; simp

theorem single_getD (c : Int) (k : Nat) : [c].getD k 0 = if k = 0 then c else 0 := by
  cases k with
  | zero => rfl
  | succ k => simp [List.getD]

theorem pk_num (xs : List Int) (c : Int) (k : Nat) : pk xs [c] k = xs.getD k 0 * c := by
  unfold pk
  rw [pAt_one _ _ k k (k + 1)]
  · rw [if_pos (by omega), single_getD, if_pos (by omega)]
  · intro i h1 h2
    rw [single_getD, if_neg (by omega)]; simp

theorem pair_getD (s t : Int) (k : Nat) : [s, t].getD k 0 = if k = 0 then s else if k = 1 then t else 0 := by
  rcases k with _ | _ | k
  · rfl
  · rfl
  · simp [List.getD]

/-- Times x + s. -/
theorem pk_lin (xs : List Int) (s : Int) (k : Nat) : pk xs [s, 1] k = xs.getD k 0 * s + (if k = 0 then 0 else xs.getD (k - 1) 0) := by
  unfold pk
  cases k with
  | zero => simp [pAt]
  | succ j =>
    show pAt xs [s, 1] (j + 1) (j + 1) + xs.getD (j + 1) 0 * [s, 1].getD (j + 1 - (j + 1)) 0 = _
    rw [pAt_one _ _ (j + 1) j (j + 1)]
    · rw [if_pos (by omega), pair_getD, pair_getD, if_neg (by omega), if_pos (by omega), if_pos (by omega), if_neg (by omega)]
      simp
      omega
    · intro i h1 h2
      rw [pair_getD, if_neg (by omega), if_neg (by omega)]; simp

end Go.Proofs.YtldcjkhbiffdoaaGreatDoor
