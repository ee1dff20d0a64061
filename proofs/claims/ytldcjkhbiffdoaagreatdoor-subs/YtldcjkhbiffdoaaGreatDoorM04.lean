import Derived.Test.YtldcjkhbiffdoaaGreatDoorM03
import Derived.Test.YtldcjkhbiffdoaaGreatDoorM01

/-
  factornum.Num in memory: 'IsN w v z': the value v is the number z.
-/
namespace Go.Proofs.YtldcjkhbiffdoaaGreatDoor
open Go.RowKit

/-- Digits in their one form, with a sign. -/
structure LimN (b : Bool) (l : List Int) (z : Int) : Prop where
  dig : Dig 10 l
  trim : Trim l
  neg : b = true → l ≠ []
  val : z = sv b (ev 10 l)

def IsN (w : World) (v : Value) (z : Int) : Prop := ∃ b x l, v = .agg #[.bool b, x] ∧ RowN w x l ∧ LimN b l z

theorem IsN.below {w w' : World} {v : Value} {z : Int} (h : IsN w v z) (hb : Below w.heap.size w w') : IsN w' v z := by
  obtain ⟨b, x, l, h1, h2, h3⟩ := h
  exact ⟨b, x, l, h1, h2.below hb, h3⟩

theorem ev_neN {l : List Int} (d : Dig 10 l) (t : Trim l) (h : l ≠ []) : 0 < ev 10 l := by
  have := ev_ge (by omega) d t h
  have := pow_pos (show (0 : Int) < 10 by omega) (l.length - 1)
  omega

theorem LimN.len {b : Bool} {l : List Int} {z : Int} (h : LimN b l z) {n : Nat} (hz : z.natAbs < 10 ^ n) : l.length ≤ n := by
  rcases Nat.lt_or_ge n l.length with hlt | hge
  · have hne : l ≠ [] := by intro e; subst e; simp at hlt
    have h1 := ev_ge (by omega) h.dig h.trim hne
    have h2 : (10 : Int) ^ n ≤ 10 ^ (l.length - 1) := by
      obtain ⟨k, hk⟩ : ∃ k, l.length - 1 = n + k := ⟨l.length - 1 - n, by omega⟩
      rw [hk, Int.pow_add]
      have h5 : (0 : Int) < 10 ^ k := Int.pow_pos (by omega)
      have := Int.mul_le_mul_of_nonneg_left (show (1 : Int) ≤ 10 ^ k by omega) (Int.le_of_lt (pow_pos (show (0 : Int) < 10 by omega) n))
      omega
    have h3 := natAbs_sv b (ev_nonneg (by omega) h.dig)
    rw [← h.val] at h3
    have h4 : (z.natAbs : Int) < 10 ^ n := by
      have h6 := Int.ofNat_lt.2 hz
      rw [Int.natCast_pow] at h6
      exact h6
    omega
  · omega

theorem LimN.nonneg {b : Bool} {l : List Int} {z : Int} (h : LimN b l z) : 0 ≤ ev 10 l := ev_nonneg (by omega) h.dig

/-- The limbs that 'signed' gives. -/
theorem LimN.signed {b : Bool} {s : List Int} (d : Dig 10 s) (t : Trim s) : LimN (b && !s.isEmpty) s (sv b (ev 10 s)) := by
  refine ⟨d, t, ?_, ?_⟩
  · intro h e; subst e; simp at h
  · cases s with
    | nil => cases b <;> simp [sv, ev]
    | cons a s => cases b <;> rfl

/-- Block k is a box that holds a factornum.Num: its two cells. -/
def BxN (w : World) (k : Nat) (a b : Value) : Prop := w.heap[k]? = some (.cells #[a, b] 74 (0, 0))

theorem BxN.c0 {w : World} {k : Nat} {a b : Value} (h : BxN w k a b) : w.cell? ⟨k, 0, none⟩ = some a := by unfold BxN at h; simp [World.cell?, h]
theorem BxN.c1 {w : World} {k : Nat} {a b : Value} (h : BxN w k a b) : w.cell? ⟨k, 1, none⟩ = some b := by unfold BxN at h; simp [World.cell?, h]
theorem BxN.f0 {w : World} {k : Nat} {a b : Value} (h : BxN w k a b) : w.frozen? ⟨k, 0, none⟩ = false := by unfold BxN at h; simp [World.frozen?, h]
theorem BxN.f1 {w : World} {k : Nat} {a b : Value} (h : BxN w k a b) : w.frozen? ⟨k, 1, none⟩ = false := by unfold BxN at h; simp [World.frozen?, h]
theorem BxN.lt {w : World} {k : Nat} {a b : Value} (h : BxN w k a b) : k < w.heap.size := lt_of_block h
theorem BxN.below {w w' : World} {k : Nat} {a b : Value} (h : BxN w k a b) (hb : Below w.heap.size w w') : BxN w' k a b := by unfold BxN; rw [hb.block k h.lt]; exact h
theorem BxN.set {w : World} {k : Nat} {a b : Value} (h : BxN w k a b) (a' b' : Value) : BxN ((w.setCell ⟨k, 0, none⟩ a').setCell ⟨k, 1, none⟩ b') k a' b' := by
  unfold BxN at h ⊢
  rw [heap_setCell_same _ k 1 #[a', b] _ b' (by rw [heap_setCell_same w k 0 #[a, b] _ a' h]; rfl)]
  rfl
theorem BxN.alloc (w : World) (a b : Value) : BxN (w.alloc (.cells #[a, b] 74)) w.heap.size a b := heap_alloc_new w _
theorem BxN.alloc_old {w : World} {k : Nat} {a b : Value} (h : BxN w k a b) (o : Obj) : BxN (w.alloc o) k a b := h.below ((Below.refl _ _).alloc (Nat.le_refl _) _)

/-- A world behind a new box. -/
theorem one_newN {w W0 : World} {a b : Value} (h : w.alloc (.cells #[a, b] 74) = W0) : Below w.heap.size w W0 ∧ BxN W0 w.heap.size a b := by
  subst h
  exact ⟨(Below.refl _ _).alloc (Nat.le_refl _) _, BxN.alloc w a b⟩

/-- A store into a box touches no row of limbs. -/
theorem RowN.set {w : World} {v : Value} {l : List Int} (h : RowN w v l) {k : Nat} {a b : Value} (hk : BxN w k a b) (o : Nat) (u : Value) : RowN (w.setCell ⟨k, o, none⟩ u) v l := by
  refine ownsRow_setCell_other h (fun e => ?_) u
  rcases h.2 with ⟨h1, _⟩ | ⟨g, cap, cur, hv, hb0, hg, r⟩
  · rw [h1] at e; simp [Value.ownBlock] at e
  · rw [hv] at e
    simp [Value.ownBlock] at e
    subst e
    unfold BxN at hk
    rw [hk] at hg
    simp at hg
theorem RowN.set2 {w : World} {v : Value} {l : List Int} (h : RowN w v l) {k : Nat} {a b : Value} (hk : BxN w k a b) (a' b' : Value) : RowN ((w.setCell ⟨k, 0, none⟩ a').setCell ⟨k, 1, none⟩ b') v l := by
  have hk' : BxN (w.setCell ⟨k, 0, none⟩ a') k a' b := by
    unfold BxN at hk ⊢
    rw [heap_setCell_same w k 0 #[a, b] _ a' hk]; rfl
  exact (h.set hk 0 a').set hk' 1 b'
theorem RowN.later {B : Nat} {w w' : World} {v : Value} {l : List Int} (h : RowN w v l) (hb : Below B w w') (hB : w.heap.size ≤ B) : RowN w' v l := h.below (hb.mono hB)

end Go.Proofs.YtldcjkhbiffdoaaGreatDoor

/-
  factornum.tidy, digit.
-/
namespace Go.Proofs.YtldcjkhbiffdoaaGreatDoor
open Go.RowKit

set_option maxHeartbeats 400000 in
theorem digitN_any (l : List Int) (v : Value) (i : Nat) (w : World) (h : RowN w v l) (hl : l.length ≤ 1000000000000) :
    Calls Tryz.prog 105 #[v, .int .i64 i] w fun e w' => e = .returned (.int .i64 (l.getD i 0)) ∧ w' = w := by
  rcases h.form with ⟨rfl, rfl⟩ | ⟨g, cap, rfl, hc, hm, _, hcell⟩
  · go_enter Tryz.func105, Tryz.ntmps105
    go_wp2
    go_ret
    exact ⟨rfl, rfl⟩
  · by_cases hlt : i < l.length
    · have hg := hcell i hlt
      clear hcell
      generalize l.getD i 0 = x at *
      go_enter Tryz.func105, Tryz.ntmps105
      go_wp2
      go_ret
      exact ⟨rfl, rfl⟩
    · have hz : l.getD i 0 = 0 := by simp [List.getD, List.getElem?_eq_none (Nat.le_of_not_lt hlt)]
      clear hcell
      rw [hz]
      clear hz
      go_enter Tryz.func105, Tryz.ntmps105
      go_wp2
      go_ret
      exact ⟨rfl, rfl⟩

theorem below_one (w : World) (o : Obj) : Below w.heap.size w (w.alloc o) := (Below.refl _ _).alloc (Nat.le_refl _) _

set_option maxHeartbeats 1000000 in
theorem tidyN_own (B : Nat) (b : Bool) (l : List Int) (u : Value) (w : World) (hu : OwnN B w u l) (hl : l.length ≤ 1000000000000) (dl : Dig 10 l) :
    Calls Tryz.prog 93 #[.bool b, u] w fun e w' => ∃ s x, e = .returned (.agg #[.bool (b && !s.isEmpty), x]) ∧ OwnN B w' x s ∧ Dig 10 s ∧ Trim s ∧ ev 10 s = ev 10 l ∧ s.length ≤ l.length ∧ Below w.heap.size w w' := by
  obtain ⟨ua, uc, rfl⟩ := hu.row.val
  go_enter Tryz.func93, Tryz.ntmps93
  go_wp2_with fail
  go_loop [1] (fun d => ∃ (k : Nat), k ≤ l.length ∧ d = .slice ua k uc ∧ Hid (ev 10 (l.take k) = ev 10 l)) (fun d => lenV d)
  case atStart => exact ⟨l.length, Nat.le_refl _, rfl, by rw [List.take_length]; rfl⟩
  case round =>
    obtain ⟨k, hk, rfl, HE⟩ := hrel
    cases k with
    | zero =>
      have hr : OwnN B w (.slice ua 0 uc) [] := hu.take (n := 0) (Nat.zero_le _)
      cases b
      all_goals
        go_wp2
        refine bodyPost_ret (v := .agg #[.bool false, .slice ua 0 uc]) (by simp [results, Tryz.results93, go_sem]) rfl ⟨[], _, rfl, hr.below (below_one _ _), Dig.nil _, (fun x h => by simp at h), HE.out, Nat.zero_le _, (below_one _ _)⟩
    | succ j =>
      obtain ⟨g, rfl, hc1, hc2, hg, hcell⟩ := hu.row.at j (by omega)
      obtain ⟨x, HX⟩ : ∃ x, Hid (l.getD j 0 = x) := ⟨_, rfl⟩
      rw [HX.out] at hcell
      by_cases hx : x = 0
      · subst hx
        have he : Hid (ev 10 (l.take j) = ev 10 l) := by
          have := HE.out
          rw [ev_take, HX.out] at this
          simp at this
          exact this
        clear HE HX
        go_wp2_with fail
        go_round
        case rel => exact ⟨j, by omega, by go_num, he⟩
        case measure => simp [lenV]
      · have hxb : (x == 0) = false := by simp [hx]
        have hr := hu.take (n := j + 1) (by omega)
        have hT : Dig 10 (l.take (j + 1)) ∧ Trim (l.take (j + 1)) := by
          refine ⟨dl.take _, fun y hy => ?_⟩
          rw [List.take_succ_eq_append_getElem (by omega), ← getD_lt (by omega), HX.out] at hy
          simp at hy
          omega
        have hlen : (l.take (j + 1)).length = j + 1 := by rw [List.length_take]; omega
        obtain ⟨t, HTE⟩ : ∃ t, Hid (l.take (j + 1) = t) := ⟨_, rfl⟩
        have HE2 := HE.out
        rw [HTE.out] at hr hT HE2 hlen
        have HE3 : Hid _ := HE2
        have HL : Hid _ := hlen
        have htl : t.length ≤ l.length := by omega
        have hte : t.isEmpty = false := by
          cases t with
          | nil => simp at hlen
          | cons a b => rfl
        clear HE2 HE HX HTE hlen
        cases b
        · go_wp2
          refine bodyPost_ret (v := .agg #[.bool false, .slice (some ⟨g, 0, none⟩) (j + 1) uc]) (by simp [results, Tryz.results93, go_sem]) rfl ⟨t, _, rfl, hr.below (below_one _ _), hT.1, hT.2, HE3.out, htl, (below_one _ _)⟩
        · go_wp2
          refine bodyPost_ret (v := .agg #[.bool true, .slice (some ⟨g, 0, none⟩) (j + 1) uc]) (by simp [results, Tryz.results93, go_sem]) rfl ⟨t, _, by rw [hte]; rfl, hr.below (below_one _ _), hT.1, hT.2, HE3.out, htl, (below_one _ _)⟩

theorem tidyN_any (b : Bool) (l : List Int) (u : Value) (w : World) (hu : RowN w u l) (hl : l.length ≤ 1000000000000) (dl : Dig 10 l) :
    Calls Tryz.prog 93 #[.bool b, u] w fun e w' => ∃ s x, e = .returned (.agg #[.bool (b && !s.isEmpty), x]) ∧ RowN w' x s ∧ Dig 10 s ∧ Trim s ∧ ev 10 s = ev 10 l ∧ s.length ≤ l.length ∧ Below w.heap.size w w' :=
  tidyN_own 0 b l u w hu hl dl

end Go.Proofs.YtldcjkhbiffdoaaGreatDoor

/-
  factornum.plus.
-/
namespace Go.Proofs.YtldcjkhbiffdoaaGreatDoor
open Go.RowKit

theorem add_stepN {l m sl : List Int} {k : Nat} {cy x y : Int} (hsl : sl.length = k) (h : Dig 10 sl ∧ ev 10 sl + cy * 10 ^ k = ev 10 (l.take k) + ev 10 (m.take k)) (hx : l.getD k 0 = x) (hy : m.getD k 0 = y)
    : Dig 10 (sl ++ [(x + y + cy) % 10]) ∧ ev 10 (sl ++ [(x + y + cy) % 10]) + (x + y + cy) / 10 * 10 ^ (k + 1) = ev 10 (l.take (k + 1)) + ev 10 (m.take (k + 1)) := by
  refine ⟨h.1.snoc (by omega) (by omega), ?_⟩
  rw [ev_take, ev_take, hx, hy]
  exact add_round sl k hsl cy x y _ _ h.2

theorem add_lastN {l m sl : List Int} {k : Nat} {cy : Int} (h : Dig 10 sl ∧ ev 10 sl + cy * 10 ^ k = ev 10 (l.take k) + ev 10 (m.take k)) (hl : l.length ≤ k) (hm : m.length ≤ k)
    (h0 : cy = 0) : Dig 10 sl ∧ ev 10 sl = ev 10 l + ev 10 m := by
  refine ⟨h.1, ?_⟩
  have := h.2
  rw [List.take_of_length_le hl, List.take_of_length_le hm, h0] at this
  simpa using this


/-- Behind the last digits no carry is left. -/
theorem carry_end {l m : List Int} {k : Nat} (hl : l.length ≤ k) (hm : m.length ≤ k) : l.getD k 0 = 0 ∧ m.getD k 0 = 0 := by
  simp [List.getD, List.getElem?_eq_none hl, List.getElem?_eq_none hm]

set_option maxHeartbeats 1000000 in
theorem plusN_any (l m : List Int) (u v : Value) (w : World) (hu : RowN w u l) (hv : RowN w v m) (hl : l.length ≤ 100000000000) (hm : m.length ≤ 100000000000) (dl : Dig 10 l) (dm : Dig 10 m) :
    Calls Tryz.prog 100 #[u, v] w fun e w' => ∃ s x, e = .returned x ∧ RowN w' x s ∧ Dig 10 s ∧ ev 10 s = ev 10 l + ev 10 m ∧ s.length ≤ max l.length m.length + 1 ∧ Below w.heap.size w w' := by
  obtain ⟨ua, uc, rfl⟩ := hu.val
  obtain ⟨va, vc, rfl⟩ := hv.val
  go_enter Tryz.func100, Tryz.ntmps100
  go_wp2_with fail
  go_loopw [5, 6, 7] (fun s c i wr => ∃ (k : Nat) (sl : List Int) (cy : Int), k ≤ max l.length m.length + 1 ∧ i = .int .i64 k ∧ c = .int .i64 cy ∧ 0 ≤ cy ∧ cy ≤ 1 ∧ (k = max l.length m.length + 1 → cy = 0) ∧ OwnN w.heap.size wr s sl ∧ sl.length = k ∧ Hid (Dig 10 sl ∧ ev 10 sl + cy * 10 ^ k = ev 10 (l.take k) + ev 10 (m.take k)) ∧ Below w.heap.size w wr)
    (fun _ _ i _ => max l.length m.length + 1 - (intOf i).toNat)
  case atStart => exact ⟨0, [], 0, Nat.zero_le _, rfl, rfl, by omega, by omega, fun _ => rfl, OwnN.nil0 _ _, rfl, ⟨Dig.nil _, by simp [ev]⟩, Below.refl _ _⟩
  case round =>
    obtain ⟨k, sl, cy, hk, rfl, rfl, hc0, hc1, hke, hown, hsl, HE, hbel⟩ := hrel
    have hx := Dig.getD (by omega) dl k
    have hy := Dig.getD (by omega) dm k
    have hru := hu.below hbel
    have hrv := hv.below hbel
    have hcx := digitN_any l (.slice ua l.length uc) k wr hru (by omega)
    have hcy := digitN_any m (.slice va m.length vc) k wr hrv (by omega)
    have hend := fun h1 h2 => @carry_end l m k h1 h2
    obtain ⟨x, HX⟩ : ∃ x, Hid (l.getD k 0 = x) := ⟨_, rfl⟩
    obtain ⟨y, HY⟩ : ∃ y, Hid (m.getD k 0 = y) := ⟨_, rfl⟩
    rw [HX.out] at hx hcx hend
    rw [HY.out] at hy hcy hend
    obtain ⟨hx0, hx1⟩ := hx
    obtain ⟨hy0, hy1⟩ := hy
    have hgo : (k < max l.length m.length ∨ 0 < cy) ∨ (¬ k < max l.length m.length ∧ cy = 0) := by omega
    rcases hgo with hgo | ⟨hlt, hcz⟩
    · have hk2 : k < max l.length m.length + 1 := by
        rcases hgo with h | h
        · omega
        · by_cases he : k = max l.length m.length + 1
          · have := hke he; omega
          · omega
      have hlast : k + 1 = max l.length m.length + 1 → (cy + x + y) / 10 = 0 := by
        intro h
        obtain ⟨rfl, rfl⟩ := hend (by omega) (by omega)
        omega
      have hsw : x + y + cy = cy + x + y := by omega
      have hs := add_stepN hsl HE.out HX.out HY.out
      rw [hsw] at hs
      have HS : Hid _ := hs
      clear hs HE HX HY hru hrv hend hsw hke
      have hcase : (k < l.length) ∨ (¬ k < l.length ∧ k < m.length) ∨ (¬ k < l.length ∧ ¬ k < m.length ∧ 0 < cy) := by omega
      clear hgo
      rcases hcase with h1 | ⟨h1, h2⟩ | ⟨h1, h2, h3⟩
      all_goals
        go_wp2_with fail
        refine hcx.mono ?_
        rintro e w' ⟨rfl, rfl⟩
        go_wp2_with fail
        refine hcy.mono ?_
        rintro e w' ⟨rfl, rfl⟩
        go_wp2_with (at_builtin; refine wpList_pushN rfl (.tmp 33) (.tmp 36) rfl w.heap.size _ sl _ rfl hown rfl (by omega) hbel.size ?_)
        intro v' w1 hown1 hb1 _
        go_wp2
        go_roundw
        case rel => exact ⟨k + 1, _, _, by omega, by go_num, rfl, by omega, by omega, hlast, hown1, by simp; omega, HS, hbel.trans hb1⟩
        case measure => simp [intOf]; omega
    · have hlk : l.length ≤ k := by omega
      have hmk : m.length ≤ k := by omega
      have hs := add_lastN HE.out hlk hmk hcz
      have HS : Hid _ := hs
      subst hcz
      clear hs HE HX HY hcx hcy hru hrv hx0 hx1 hy0 hy1 hend hke hc0 hc1
      go_wp2
      go_ret
      exact ⟨_, _, rfl, hown.row, HS.out.1, HS.out.2, by omega, hbel⟩

end Go.Proofs.YtldcjkhbiffdoaaGreatDoor

/-
  factornum.less, size.
-/
namespace Go.Proofs.YtldcjkhbiffdoaaGreatDoor
open Go.RowKit

theorem sub_stepN {l m sl : List Int} {k : Nat} {cy x y t c' : Int} (hsl : sl.length = k) (h : Dig 10 sl ∧ ev 10 sl - cy * 10 ^ k = ev 10 (l.take k) - ev 10 (m.take k)) (hx : l.getD k 0 = x) (hy : m.getD k 0 = y)
    (ht : t - c' * 10 = x - y - cy) (h0 : 0 ≤ t) (h1 : t < 10) : Dig 10 (sl ++ [t]) ∧ ev 10 (sl ++ [t]) - c' * 10 ^ (k + 1) = ev 10 (l.take (k + 1)) - ev 10 (m.take (k + 1)) := by
  refine ⟨h.1.snoc h0 h1, ?_⟩
  rw [ev_take, ev_take, hx, hy]
  exact sub_round sl k hsl cy x y _ _ t c' h.2 ht

theorem sub_lastN {l m sl : List Int} {k : Nat} {cy : Int} (hsl : sl.length = k) (h : Dig 10 sl ∧ ev 10 sl - cy * 10 ^ k = ev 10 (l.take k) - ev 10 (m.take k)) (hl : l.length ≤ k) (hm : m.length ≤ k)
    (hc : cy = 0 ∨ cy = 1) (hle : ev 10 m ≤ ev 10 l) : Dig 10 sl ∧ ev 10 sl = ev 10 l - ev 10 m := by
  refine ⟨h.1, ?_⟩
  have h2 := h.2
  rw [List.take_of_length_le hl, List.take_of_length_le hm, ← hsl] at h2
  exact sub_end (by omega) sl h.1 cy hc _ _ h2 hle


set_option maxHeartbeats 1000000 in
theorem lessN_own (l m : List Int) (u v : Value) (w : World) (hu : RowN w u l) (hv : RowN w v m) (hl : l.length ≤ 100000000000) (hm : m.length ≤ l.length) (dl : Dig 10 l) (dm : Dig 10 m) (hle : ev 10 m ≤ ev 10 l) :
    Calls Tryz.prog 102 #[u, v] w fun e w' => ∃ s x, e = .returned x ∧ OwnN w.heap.size w' x s ∧ Dig 10 s ∧ ev 10 s = ev 10 l - ev 10 m ∧ s.length ≤ l.length ∧ Below w.heap.size w w' := by
  have HLE : Hid _ := hle
  clear hle
  obtain ⟨ua, uc, rfl⟩ := hu.val
  obtain ⟨va, vc, rfl⟩ := hv.val
  go_enter Tryz.func102, Tryz.ntmps102
  go_wp2_with fail
  go_loopw [5, 6, 11] (fun s c i wr => ∃ (k : Nat) (sl : List Int) (cy : Int), k ≤ l.length ∧ i = .int .i64 k ∧ c = .int .i64 cy ∧ 0 ≤ cy ∧ cy ≤ 1 ∧ OwnN w.heap.size wr s sl ∧ sl.length = k ∧ Hid (Dig 10 sl ∧ ev 10 sl - cy * 10 ^ k = ev 10 (l.take k) - ev 10 (m.take k)) ∧ Below w.heap.size w wr)
    (fun _ _ i _ => l.length - (intOf i).toNat)
  case atStart => exact ⟨0, [], 0, Nat.zero_le _, rfl, rfl, by omega, by omega, OwnN.nil0 _ _, rfl, ⟨Dig.nil _, by simp [ev]⟩, Below.refl _ _⟩
  case round =>
    obtain ⟨k, sl, cy, hk, rfl, rfl, hc0, hc1, hown, hsl, HE, hbel⟩ := hrel
    have hy := Dig.getD (by omega) dm k
    have hrv := hv.below hbel
    have hD := fun (W : World) (h : RowN W (.slice va m.length vc) m) => digitN_any m (.slice va m.length vc) k W h (by omega)
    obtain ⟨y, HY⟩ : ∃ y, Hid (m.getD k 0 = y) := ⟨_, rfl⟩
    rw [HY.out] at hy hD
    obtain ⟨hy0, hy1⟩ := hy
    by_cases hlt : k < l.length
    · obtain ⟨ga, rfl, hu1, hu2, hu3, hcu⟩ := hu.at k hlt
      have hx := Dig.getD (by omega) dl k
      obtain ⟨x, HX⟩ : ∃ x, Hid (l.getD k 0 = x) := ⟨_, rfl⟩
      rw [HX.out] at hx hcu
      obtain ⟨hx0, hx1⟩ := hx
      have hcu' : wr.cell? ⟨ga, k, none⟩ = some (.int .i64 x) := (hbel.cell (by exact hu3)).trans hcu
      clear hcu
      by_cases hneg : x - y - cy < 0
      · have hs := sub_stepN (t := x - y - cy + 10) (c' := 1) hsl HE.out HX.out HY.out (by omega) (by omega) (by omega)
        have HS : Hid _ := hs
        clear hs HE HX HY
        go_wp2_with fail
        go_quiet ((go_at_call 105; exact Calls.quiet_of_same (hD _ (by exact hrv))))
        go_wp2_with (at_builtin; refine wpList_pushN rfl (.tmp 28) (.tmp 30) rfl w.heap.size _ sl _ rfl (by exact hown) rfl (by omega) (by exact hbel.size) ?_)
        intro v' w1 hown1 hb1 _
        go_wp2
        go_roundw
        case rel => exact ⟨k + 1, _, 1, by omega, by go_num, rfl, by omega, by omega, hown1, by simp; omega, HS, (below_drewN hbel nq).trans hb1⟩
        case measure => simp [intOf]; omega
      · have hs := sub_stepN (t := x - y - cy) (c' := 0) hsl HE.out HX.out HY.out (by omega) (by omega) (by omega)
        have HS : Hid _ := hs
        clear hs HE HX HY
        go_wp2_with fail
        go_quiet ((go_at_call 105; exact Calls.quiet_of_same (hD _ (by exact hrv))))
        go_wp2_with (at_builtin; refine wpList_pushN rfl (.tmp 28) (.tmp 30) rfl w.heap.size _ sl _ rfl (by exact hown) rfl (by omega) (by exact hbel.size) ?_)
        intro v' w1 hown1 hb1 _
        go_wp2
        go_roundw
        case rel => exact ⟨k + 1, _, 0, by omega, by go_num, rfl, by omega, by omega, hown1, by simp; omega, HS, (below_drewN hbel nq).trans hb1⟩
        case measure => simp [intOf]; omega
    · have hlk : l.length ≤ k := by omega
      have hs := sub_lastN hsl HE.out hlk (by omega) (by omega) HLE.out
      have HS : Hid _ := hs
      clear hs HE HY hD hrv hy0 hy1
      go_wp2
      go_ret
      exact ⟨_, _, rfl, hown, HS.out.1, HS.out.2, by omega, hbel⟩

theorem lessN_any (l m : List Int) (u v : Value) (w : World) (hu : RowN w u l) (hv : RowN w v m) (hl : l.length ≤ 100000000000) (hm : m.length ≤ l.length) (dl : Dig 10 l) (dm : Dig 10 m) (hle : ev 10 m ≤ ev 10 l) :
    Calls Tryz.prog 102 #[u, v] w fun e w' => ∃ s x, e = .returned x ∧ RowN w' x s ∧ Dig 10 s ∧ ev 10 s = ev 10 l - ev 10 m ∧ s.length ≤ l.length ∧ Below w.heap.size w w' :=
  (lessN_own l m u v w hu hv hl hm dl dm hle).mono fun _ _ ⟨s, x, h1, h2, h3⟩ => ⟨s, x, h1, h2.row, h3⟩

theorem drewN_add2 (w : World) (n m : Nat) : (w.drewN n).drewN m = w.drewN (n + m) := by simp
theorem drewN_add3 (w : World) (n m k : Nat) : ((w.drewN n).drewN m).drewN k = w.drewN (n + m + k) := by simp

set_option maxHeartbeats 1000000 in
theorem sizeN_any (l m : List Int) (u v : Value) (w : World) (hu : RowN w u l) (hv : RowN w v m) (hl : l.length ≤ 100000000000) (dl : Dig 10 l) (dm : Dig 10 m) (tl : Trim l) (tm : Trim m) :
    Calls Tryz.prog 101 #[u, v] w fun e w' => e = .returned (.int .i64 (cmp3 (ev 10 l) (ev 10 m))) ∧ ∃ n, w' = w.drewN n := by
  obtain ⟨ua, uc, rfl⟩ := hu.val
  obtain ⟨va, vc, rfl⟩ := hv.val
  by_cases h1 : l.length < m.length
  · rw [cmp3_lt (ev_lt_of_length (by omega) dl dm tm h1)]
    have hne : ((l.length : Int) != (m.length : Int)) = true := by simp; omega
    go_enter Tryz.func101, Tryz.ntmps101
    go_wp2
    go_ret
    exact ⟨rfl, 0, rfl⟩
  by_cases h2 : m.length < l.length
  · rw [cmp3_gt (ev_lt_of_length (by omega) dm dl tl h2)]
    have hne : ((l.length : Int) != (m.length : Int)) = true := by simp; omega
    go_enter Tryz.func101, Tryz.ntmps101
    go_wp2
    go_ret
    exact ⟨rfl, 0, rfl⟩
  have heq : m.length = l.length := by omega
  have hvat := fun j (hj : j < m.length) => hv.at j hj
  rw [heq] at hvat ⊢
  obtain ⟨z, HZ⟩ : ∃ z, Hid (cmp3 (ev 10 l) (ev 10 m) = z) := ⟨_, rfl⟩
  rw [HZ.out]
  clear hv h1 h2
  go_enter Tryz.func101, Tryz.ntmps101
  go_wp2_with fail
  go_loopw [5] (fun i wr => ∃ (k : Nat), k ≤ l.length ∧ i = .int .i64 ((k : Int) - 1) ∧ Hid (l.drop k = m.drop k) ∧ ∃ n, wr = w.drewN n) (fun i _ => (intOf i + 1).toNat)
  case atStart => exact ⟨l.length, Nat.le_refl _, rfl, by rw [List.drop_of_length_le (Nat.le_refl _), List.drop_of_length_le (by omega)]; rfl, 0, rfl⟩
  case round =>
    obtain ⟨k, hk, rfl, HD, n, rfl⟩ := hrel
    cases k with
    | zero =>
      have hz : z = 0 := by
        have : l = m := by simpa using HD.out
        rw [← HZ.out, this, cmp3_eq]
      subst hz
      clear HD HZ hvat
      go_wp2
      go_ret
      exact ⟨rfl, n, rfl⟩
    | succ j =>
      rw [show (((j + 1 : Nat) : Int) - 1) = (j : Int) by omega]
      obtain ⟨ga, rfl, hu1, hu2, hu3, hcu⟩ := hu.at j (by omega)
      obtain ⟨gb, rfl, hv1, hv2, hv3, hcv⟩ := hvat j (by omega)
      clear hvat
      obtain ⟨x, HX⟩ : ∃ x, Hid (l.getD j 0 = x) := ⟨_, rfl⟩
      obtain ⟨y, HY⟩ : ∃ y, Hid (m.getD j 0 = y) := ⟨_, rfl⟩
      rw [HX.out] at hcu
      rw [HY.out] at hcv
      rcases (show x < y ∨ y < x ∨ x = y by omega) with hxy | hxy | hxy
      · have hz : z = -1 := by
          rw [← HZ.out]
          exact cmp3_lt (ev_lt_of_limb (by omega) dl dm (by omega) j (by omega) HD.out (by rw [HX.out, HY.out]; exact hxy))
        have hne : (x != y) = true := by simp; omega
        subst hz
        clear HD HZ HX HY
        go_wp2_with fail
        go_quiet (fail)
        go_wp2_with fail
        go_quiet (fail)
        go_wp2_with fail
        go_ret
        exact ⟨rfl, _, (drewN_add3 w n _ _)⟩
      · have hz : z = 1 := by
          rw [← HZ.out]
          exact cmp3_gt (ev_lt_of_limb (by omega) dm dl (by omega) j (by omega) HD.out.symm (by rw [HX.out, HY.out]; exact hxy))
        have hne : (x != y) = true := by simp; omega
        subst hz
        clear HD HZ HX HY
        go_wp2_with fail
        go_quiet (fail)
        go_wp2_with fail
        go_quiet (fail)
        go_wp2_with fail
        go_ret
        exact ⟨rfl, _, (drewN_add3 w n _ _)⟩
      · have hd : Hid (l.drop j = m.drop j) := drop_eq_step j (by omega) (by omega) HD.out (by rw [HX.out, HY.out]; exact hxy)
        have hne : (x != y) = false := by simp [hxy]
        clear HD HX HY
        go_wp2_with fail
        go_quiet (fail)
        go_wp2_with fail
        go_roundw
        case rel => exact ⟨j, by omega, by go_num, hd, _, rfl⟩
        case measure => simp [intOf]

end Go.Proofs.YtldcjkhbiffdoaaGreatDoor

/-
  factornum.Add.
-/
namespace Go.Proofs.YtldcjkhbiffdoaaGreatDoor
open Go.RowKit

/-- Not too great: at most so many digits. -/
def FitN (z : Int) : Prop := ∃ n, n ≤ 10000000000 ∧ z.natAbs < 10 ^ n
theorem LimN.fit {b : Bool} {l : List Int} {z : Int} (h : LimN b l z) (hf : FitN z) : l.length ≤ 10000000000 := by
  obtain ⟨n, hn, hz⟩ := hf
  exact Nat.le_trans (h.len hz) hn

/-- A world behind three new boxes: two numbers handed in, one for the result. -/
theorem three_newN {w W0 : World} {a b c d e f : Value} (h : ((w.alloc (.cells #[a, b] 74)).alloc (.cells #[c, d] 74)).alloc (.cells #[e, f] 74) = W0) :
    w.heap.size + 1 + 1 < W0.heap.size ∧ Below w.heap.size w W0 ∧ BxN W0 w.heap.size a b ∧ BxN W0 (w.heap.size + 1) c d ∧ BxN W0 (w.heap.size + 1 + 1) e f := by
  subst h
  refine ⟨by simp, (((Below.refl _ _).alloc (Nat.le_refl _) _).alloc (by simp) _).alloc (by simp; omega) _, ((BxN.alloc w a b).alloc_old _).alloc_old _, ?_, ?_⟩
  · have := (BxN.alloc (w.alloc (.cells #[a, b] 74)) c d).alloc_old (.cells #[e, f] 74)
    simpa using this
  · have := BxN.alloc ((w.alloc (.cells #[a, b] 74)).alloc (.cells #[c, d] 74)) e f
    simpa using this

set_option maxHeartbeats 2000000 in
theorem add_sameN (b : Bool) (x y : Value) (l m : List Int) (z1 z2 : Int) (w : World) (hx : RowN w x l) (hy : RowN w y m) (h1 : LimN b l z1) (h2 : LimN b m z2) (hl : l.length ≤ 10000000000) (hm : m.length ≤ 10000000000) :
    Calls Tryz.prog 58 #[.agg #[.bool b, x], .agg #[.bool b, y]] w fun e w' => ∃ v, e = .returned v ∧ IsN w' v (z1 + z2) ∧ Below w.heap.size w w' := by
  obtain ⟨ua, uc, rfl⟩ := hx.val
  obtain ⟨va, vc, rfl⟩ := hy.val
  go_enter Tryz.func58, Tryz.ntmps58
  go_wp2
  generalize hW : ((w.alloc (Obj.cells #[Value.bool b, Value.slice ua l.length uc] 74)).alloc (Obj.cells #[Value.bool b, Value.slice va m.length vc] 74)).alloc (Obj.cells #[Value.bool false, Value.slice none 0 0] 74) = W0
  obtain ⟨hz0, hb0, X0, X1, X2⟩ := three_newN hW
  clear hW
  have c0 := X0.c0; have c1 := X0.c1; have c2 := X1.c1
  have hx0 := hx.below hb0
  have hy0 := hy.below hb0
  go_region_held3 (fun w' => w'.cell? ⟨w.heap.size, 0, none⟩ = some (.bool b) ∧ w'.cell? ⟨w.heap.size, 1, none⟩ = some (.slice ua l.length uc) ∧ w'.cell? ⟨w.heap.size + 1, 1, none⟩ = some (.slice va m.length vc))
    (first | exact ⟨c0, c1, c2⟩ | exact ⟨q0, q1, q2⟩ | exact ⟨r0, r1, r2⟩ | simp [go_sem, r0, r1, r2])
    (first
      | (go_at_call 100; refine (plusN_any l m _ _ _ (by exact hx0) (by exact hy0) (by omega) (by omega) h1.dig h2.dig).mono ?_; rintro e w1 ⟨s, x1, rfl, hr1, hd1, hv1, hlen1, hb1'⟩; have hb1 := of_drew hb1'; clear hb1'; have HV1 : Hid _ := hv1; clear hv1; have X0' : BxN w1 _ _ _ := X0.below hb1; have X1' : BxN w1 _ _ _ := X1.below hb1; have X2' : BxN w1 _ _ _ := X2.below hb1; have q0 := X0'.c0; have q1 := X0'.c1; have q2 := X1'.c1)
      | (go_at_call 93; refine (tidyN_any b s x1 w1 hr1 (by omega) hd1).mono ?_; rintro e w2 ⟨t, x2, rfl, hr2, hd2, ht2, hv2, hlen2, hb2⟩; have HV2 : Hid _ := hv2; clear hv2; obtain ⟨xa, xc, rfl⟩ := hr2.val; have X0'' := X0'.below hb2; have X1'' := X1'.below hb2; have X2'' := X2'.below hb2; have r0 := X0''.c0; have r1 := X0''.c1; have r2 := X1''.c1; have r3 := X2''.c0; have r4 := X2''.c1; have g3 := X2''.f0; have g4 := X2''.f1))
  all_goals go_wp2
  refine bodyPost_ret (v := .agg #[.bool (b && !t.isEmpty), .slice xa t.length xc]) (by simp [results, Tryz.results58, go_sem, r3, r4]) rfl ⟨_, rfl, ⟨_, _, t, rfl, hr2.set2 X2'' _ _, ?_⟩, ?_⟩
  · have := LimN.signed (b := b) hd2 ht2
    rw [HV2.out, HV1.out] at this
    rw [h1.val, h2.val]
    have e : sv b (ev 10 l) + sv b (ev 10 m) = sv b (ev 10 l + ev 10 m) := by unfold sv; split <;> omega
    rw [e]
    exact this
  · exact below_set2 (hb0.trans ((hb1.mono hb0.size).trans (hb2.mono (by have := hb0.size; have := hb1.size; omega)))) (by omega) _ _

set_option maxHeartbeats 2000000 in
theorem add_geN (b1 b2 : Bool) (hne : (b1 == b2) = false) (x y : Value) (l m : List Int) (z1 z2 : Int) (w : World) (hx : RowN w x l) (hy : RowN w y m) (h1 : LimN b1 l z1) (h2 : LimN b2 m z2) (hl : l.length ≤ 10000000000) (_hm : m.length ≤ 10000000000) (hle : ev 10 m ≤ ev 10 l) :
    Calls Tryz.prog 58 #[.agg #[.bool b1, x], .agg #[.bool b2, y]] w fun e w' => ∃ v, e = .returned v ∧ IsN w' v (z1 + z2) ∧ Below w.heap.size w w' := by
  obtain ⟨ua, uc, rfl⟩ := hx.val
  obtain ⟨va, vc, rfl⟩ := hy.val
  have hlen : m.length ≤ l.length := by
    rcases Nat.lt_or_ge l.length m.length with h | h
    · have := ev_lt_of_length (by omega) h1.dig h2.dig h2.trim h; omega
    · exact h
  have hcmp : 0 ≤ cmp3 (ev 10 l) (ev 10 m) := by unfold cmp3; rw [if_neg (by omega)]; split <;> omega
  have HLE : Hid _ := hle
  clear hle
  go_enter Tryz.func58, Tryz.ntmps58
  go_wp2_with fail
  generalize hW : ((w.alloc (Obj.cells #[Value.bool b1, Value.slice ua l.length uc] 74)).alloc (Obj.cells #[Value.bool b2, Value.slice va m.length vc] 74)).alloc (Obj.cells #[Value.bool false, Value.slice none 0 0] 74) = W0
  obtain ⟨hz0, hb0, X0, X1, X2⟩ := three_newN hW
  clear hW
  have hx0 := hx.below hb0
  have hy0 := hy.below hb0
  refine (sizeN_any l m _ _ W0 hx0 hy0 (by omega) h1.dig h2.dig h1.trim h2.trim).mono ?_
  rintro e w' ⟨rfl, nd, rfl⟩
  obtain ⟨W1, HW1⟩ : ∃ W1, W0.drewN nd = W1 := ⟨_, rfl⟩
  rw [HW1]
  obtain ⟨hz0, hb0, X0, X1, X2, hx0, hy0⟩ : w.heap.size + 1 + 1 < W1.heap.size ∧ Below w.heap.size w W1 ∧ BxN W1 w.heap.size _ _ ∧ BxN W1 (w.heap.size + 1) _ _ ∧ BxN W1 (w.heap.size + 1 + 1) _ _ ∧ RowN W1 _ l ∧ RowN W1 _ m := by
    subst HW1
    exact ⟨hz0, below_drewN hb0 nd, X0, X1, X2, hx0, hy0⟩
  clear HW1
  generalize cmp3 (ev 10 l) (ev 10 m) = c at *
  go_wp2_with fail
  have c0 := X0.c0; have c1 := X0.c1; have c2 := X1.c1
  have hle := HLE.out
  go_region_held3 (fun w' => w'.cell? ⟨w.heap.size, 0, none⟩ = some (.bool b1) ∧ w'.cell? ⟨w.heap.size, 1, none⟩ = some (.slice ua l.length uc) ∧ w'.cell? ⟨w.heap.size + 1, 1, none⟩ = some (.slice va m.length vc))
    (first | exact ⟨c0, c1, c2⟩ | exact ⟨q0, q1, q2⟩ | exact ⟨r0, r1, r2⟩ | simp [go_sem, r0, r1, r2])
    (first
      | (go_at_call 102; refine (lessN_any l m _ _ _ (by exact hx0) (by exact hy0) (by omega) hlen h1.dig h2.dig hle).mono ?_; rintro e w1 ⟨s, x1, rfl, hr1, hd1, hv1, hlen1, hb1'⟩; have hb1 := of_drew hb1'; clear hb1'; have HV1 : Hid _ := hv1; clear hv1; have X0' : BxN w1 _ _ _ := X0.below hb1; have X1' : BxN w1 _ _ _ := X1.below hb1; have X2' : BxN w1 _ _ _ := X2.below hb1; have q0 := X0'.c0; have q1 := X0'.c1; have q2 := X1'.c1)
      | (go_at_call 93; refine (tidyN_any b1 s x1 w1 hr1 (by omega) hd1).mono ?_; rintro e w2 ⟨t, x2, rfl, hr2, hd2, ht2, hv2, hlen2, hb2⟩; have HV2 : Hid _ := hv2; clear hv2; obtain ⟨xa, xc, rfl⟩ := hr2.val; have X0'' := X0'.below hb2; have X1'' := X1'.below hb2; have X2'' := X2'.below hb2; have r0 := X0''.c0; have r1 := X0''.c1; have r2 := X1''.c1; have r3 := X2''.c0; have r4 := X2''.c1; have g3 := X2''.f0; have g4 := X2''.f1))
  all_goals go_wp2
  refine bodyPost_ret (v := .agg #[.bool (b1 && !t.isEmpty), .slice xa t.length xc]) (by simp [results, Tryz.results58, go_sem, r3, r4]) rfl ⟨_, rfl, ⟨_, _, t, rfl, hr2.set2 X2'' _ _, ?_⟩, ?_⟩
  · have := LimN.signed (b := b1) hd2 ht2
    rw [HV2.out, HV1.out] at this
    rw [h1.val, h2.val]
    have e : sv b1 (ev 10 l) + sv b2 (ev 10 m) = sv b1 (ev 10 l - ev 10 m) := by cases b1 <;> cases b2 <;> simp_all [sv] <;> omega
    rw [e]
    exact this
  · exact below_set2 (hb0.trans ((hb1.mono hb0.size).trans (hb2.mono (by have := hb0.size; have := hb1.size; omega)))) (by omega) _ _

set_option maxHeartbeats 2000000 in
theorem add_ltN (b1 b2 : Bool) (hne : (b1 == b2) = false) (x y : Value) (l m : List Int) (z1 z2 : Int) (w : World) (hx : RowN w x l) (hy : RowN w y m) (h1 : LimN b1 l z1) (h2 : LimN b2 m z2) (hl : l.length ≤ 10000000000) (hm : m.length ≤ 10000000000) (hle : ev 10 l < ev 10 m) :
    Calls Tryz.prog 58 #[.agg #[.bool b1, x], .agg #[.bool b2, y]] w fun e w' => ∃ v, e = .returned v ∧ IsN w' v (z1 + z2) ∧ Below w.heap.size w w' := by
  obtain ⟨ua, uc, rfl⟩ := hx.val
  obtain ⟨va, vc, rfl⟩ := hy.val
  have hlen : l.length ≤ m.length := by
    rcases Nat.lt_or_ge m.length l.length with h | h
    · have := ev_lt_of_length (by omega) h2.dig h1.dig h1.trim h; omega
    · exact h
  have hcmp : cmp3 (ev 10 l) (ev 10 m) < 0 := by rw [cmp3_lt hle]; omega
  have HLE : Hid _ := hle
  clear hle
  go_enter Tryz.func58, Tryz.ntmps58
  go_wp2_with fail
  generalize hW : ((w.alloc (Obj.cells #[Value.bool b1, Value.slice ua l.length uc] 74)).alloc (Obj.cells #[Value.bool b2, Value.slice va m.length vc] 74)).alloc (Obj.cells #[Value.bool false, Value.slice none 0 0] 74) = W0
  obtain ⟨hz0, hb0, X0, X1, X2⟩ := three_newN hW
  clear hW
  have hx0 := hx.below hb0
  have hy0 := hy.below hb0
  refine (sizeN_any l m _ _ W0 hx0 hy0 (by omega) h1.dig h2.dig h1.trim h2.trim).mono ?_
  rintro e w' ⟨rfl, nd, rfl⟩
  obtain ⟨W1, HW1⟩ : ∃ W1, W0.drewN nd = W1 := ⟨_, rfl⟩
  rw [HW1]
  obtain ⟨hz0, hb0, X0, X1, X2, hx0, hy0⟩ : w.heap.size + 1 + 1 < W1.heap.size ∧ Below w.heap.size w W1 ∧ BxN W1 w.heap.size _ _ ∧ BxN W1 (w.heap.size + 1) _ _ ∧ BxN W1 (w.heap.size + 1 + 1) _ _ ∧ RowN W1 _ l ∧ RowN W1 _ m := by
    subst HW1
    exact ⟨hz0, below_drewN hb0 nd, X0, X1, X2, hx0, hy0⟩
  clear HW1
  generalize cmp3 (ev 10 l) (ev 10 m) = c at *
  go_wp2_with fail
  have c0 := X1.c0; have c1 := X0.c1; have c2 := X1.c1
  have hle := HLE.out
  go_region_held3 (fun w' => w'.cell? ⟨w.heap.size + 1, 0, none⟩ = some (.bool b2) ∧ w'.cell? ⟨w.heap.size, 1, none⟩ = some (.slice ua l.length uc) ∧ w'.cell? ⟨w.heap.size + 1, 1, none⟩ = some (.slice va m.length vc))
    (first | exact ⟨c0, c1, c2⟩ | exact ⟨q0, q1, q2⟩ | exact ⟨r0, r1, r2⟩ | simp [go_sem, r0, r1, r2])
    (first
      | (go_at_call 102; refine (lessN_any m l _ _ _ (by exact hy0) (by exact hx0) (by omega) hlen h2.dig h1.dig (by omega)).mono ?_; rintro e w1 ⟨s, x1, rfl, hr1, hd1, hv1, hlen1, hb1'⟩; have hb1 := of_drew hb1'; clear hb1'; have HV1 : Hid _ := hv1; clear hv1; have X0' : BxN w1 _ _ _ := X0.below hb1; have X1' : BxN w1 _ _ _ := X1.below hb1; have X2' : BxN w1 _ _ _ := X2.below hb1; have q0 := X1'.c0; have q1 := X0'.c1; have q2 := X1'.c1)
      | (go_at_call 93; refine (tidyN_any b2 s x1 w1 hr1 (by omega) hd1).mono ?_; rintro e w2 ⟨t, x2, rfl, hr2, hd2, ht2, hv2, hlen2, hb2⟩; have HV2 : Hid _ := hv2; clear hv2; obtain ⟨xa, xc, rfl⟩ := hr2.val; have X0'' := X0'.below hb2; have X1'' := X1'.below hb2; have X2'' := X2'.below hb2; have r0 := X1''.c0; have r1 := X0''.c1; have r2 := X1''.c1; have r3 := X2''.c0; have r4 := X2''.c1; have g3 := X2''.f0; have g4 := X2''.f1))
  all_goals go_wp2
  refine bodyPost_ret (v := .agg #[.bool (b2 && !t.isEmpty), .slice xa t.length xc]) (by simp [results, Tryz.results58, go_sem, r3, r4]) rfl ⟨_, rfl, ⟨_, _, t, rfl, hr2.set2 X2'' _ _, ?_⟩, ?_⟩
  · have := LimN.signed (b := b2) hd2 ht2
    rw [HV2.out, HV1.out] at this
    rw [h1.val, h2.val]
    have e : sv b1 (ev 10 l) + sv b2 (ev 10 m) = sv b2 (ev 10 m - ev 10 l) := by cases b1 <;> cases b2 <;> simp_all [sv] <;> omega
    rw [e]
    exact this
  · exact below_set2 (hb0.trans ((hb1.mono hb0.size).trans (hb2.mono (by have := hb0.size; have := hb1.size; omega)))) (by omega) _ _

/-- factornum.Add: the sum. -/
theorem addN_any (u v : Value) (z1 z2 : Int) (w : World) (hu : IsN w u z1) (hv : IsN w v z2) (f1 : FitN z1) (f2 : FitN z2) :
    Calls Tryz.prog 58 #[u, v] w fun e w' => ∃ v, e = .returned v ∧ IsN w' v (z1 + z2) ∧ Below w.heap.size w w' := by
  obtain ⟨b1, x, l, rfl, hx, h1⟩ := hu
  obtain ⟨b2, y, m, rfl, hy, h2⟩ := hv
  have hl := h1.fit f1
  have hm := h2.fit f2
  by_cases hb : b1 = b2
  · subst hb
    exact add_sameN b1 x y l m z1 z2 w hx hy h1 h2 hl hm
  · rcases (show ev 10 l < ev 10 m ∨ ev 10 m ≤ ev 10 l by omega) with h | h
    · exact add_ltN b1 b2 (by simp [hb]) x y l m z1 z2 w hx hy h1 h2 hl hm h
    · exact add_geN b1 b2 (by simp [hb]) x y l m z1 z2 w hx hy h1 h2 hl hm h

end Go.Proofs.YtldcjkhbiffdoaaGreatDoor

/-
  factornum: Minus, Abs, Zero.
-/
namespace Go.Proofs.YtldcjkhbiffdoaaGreatDoor
open Go.RowKit

/-- A world behind two new boxes. -/
theorem two_newN {w W0 : World} {a b c d : Value} (h : (w.alloc (.cells #[a, b] 74)).alloc (.cells #[c, d] 74) = W0) :
    w.heap.size + 1 < W0.heap.size ∧ Below w.heap.size w W0 ∧ BxN W0 w.heap.size a b ∧ BxN W0 (w.heap.size + 1) c d := by
  subst h
  refine ⟨by simp, ((Below.refl _ _).alloc (Nat.le_refl _) _).alloc (by simp) _, (BxN.alloc w a b).alloc_old _, ?_⟩
  have := BxN.alloc (w.alloc (.cells #[a, b] 74)) c d
  simpa using this

set_option maxHeartbeats 1000000 in
theorem minusN_any (u : Value) (z : Int) (w : World) (hu : IsN w u z) (f : FitN z) :
    Calls Tryz.prog 54 #[u] w fun e w' => ∃ v, e = .returned v ∧ IsN w' v (-z) ∧ Below w.heap.size w w' := by
  obtain ⟨b, x, l, rfl, hx, h1⟩ := hu
  have hl := h1.fit f
  obtain ⟨ua, uc, rfl⟩ := hx.val
  go_enter Tryz.func54, Tryz.ntmps54
  go_wp2_with fail
  generalize hW : (w.alloc (Obj.cells #[Value.bool b, Value.slice ua l.length uc] 74)).alloc (Obj.cells #[Value.bool false, Value.slice none 0 0] 74) = W0
  obtain ⟨hz0, hb0, X0, X1⟩ := two_newN hW
  clear hW
  refine (tidyN_any (!b) l _ W0 (hx.below hb0) (by omega) h1.dig).mono ?_
  rintro e w1 ⟨t, x2, rfl, hr2, hd2, ht2, hv2, hlen2, hb2⟩
  have HV2 : Hid _ := hv2
  clear hv2
  obtain ⟨xa, xc, rfl⟩ := hr2.val
  have X1' := X1.below hb2
  have r3 := X1'.c0; have r4 := X1'.c1; have g3 := X1'.f0; have g4 := X1'.f1
  go_wp2
  refine bodyPost_ret (v := .agg #[.bool (!b && !t.isEmpty), .slice xa t.length xc]) (by simp [results, Tryz.results54, go_sem, r3, r4]) rfl ⟨_, rfl, ⟨_, _, t, rfl, hr2.set2 X1' _ _, ?_⟩, below_set2 (hb0.trans (hb2.mono hb0.size)) (by omega) _ _⟩
  have := LimN.signed (b := !b) hd2 ht2
  rw [HV2.out] at this
  rw [h1.val]
  have e : -sv b (ev 10 l) = sv (!b) (ev 10 l) := by cases b <;> simp [sv]
  rw [e]
  exact this

set_option maxHeartbeats 1000000 in
theorem absN_any (u : Value) (z : Int) (w : World) (hu : IsN w u z) :
    Calls Tryz.prog 83 #[u] w fun e w' => ∃ v, e = .returned v ∧ IsN w' v (z.natAbs : Int) ∧ Below w.heap.size w w' := by
  obtain ⟨b, x, l, rfl, hx, h1⟩ := hu
  obtain ⟨ua, uc, rfl⟩ := hx.val
  go_enter Tryz.func83, Tryz.ntmps83
  go_wp2
  refine bodyPost_ret (v := .agg #[.bool false, .slice ua l.length uc]) (by simp [results, Tryz.results83, go_sem]) rfl ⟨_, rfl, ⟨_, _, l, rfl, hx.below ((below_one _ _).trans ((below_one _ _).mono (by simp))), ⟨h1.dig, h1.trim, (fun h => by cases h), ?_⟩⟩, (below_one _ _).trans ((below_one _ _).mono (by simp))⟩
  rw [h1.val, natAbs_sv b h1.nonneg]
  rfl

set_option maxHeartbeats 1000000 in
theorem zeroN_any (u : Value) (z : Int) (w : World) (hu : IsN w u z) :
    Calls Tryz.prog 82 #[u] w fun e w' => e = .returned (.bool (decide (z = 0))) ∧ Below w.heap.size w w' := by
  obtain ⟨b, x, l, rfl, hx, h1⟩ := hu
  obtain ⟨ua, uc, rfl⟩ := hx.val
  have hz : ((l.length : Int) == 0) = decide (z = 0) := by
    rw [h1.val]
    cases l with
    | nil => cases b <;> simp [sv, ev]
    | cons a l =>
      have := ev_neN h1.dig h1.trim (by simp)
      rw [decide_eq_false (by unfold sv; split <;> omega)]
      simp
      omega
  go_enter Tryz.func82, Tryz.ntmps82
  go_wp2
  go_ret
  exact ⟨rfl, below_one _ _⟩

end Go.Proofs.YtldcjkhbiffdoaaGreatDoor
