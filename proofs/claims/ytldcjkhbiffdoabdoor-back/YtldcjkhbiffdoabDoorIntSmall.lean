/-
  whole.Sign, whole.Neg, whole.Abs, whole.Compare.
-/
import Derived.Test.YtldcjkhbiffdoabDoorInts
namespace Go.Proofs.YtldcjkhbiffdoabDoor
open Go.RowKit

/-- A world behind two new boxes. -/
theorem two_new {w W0 : World} {a b c d : Value} (h : (w.alloc (.cells #[a, b] 43)).alloc (.cells #[c, d] 43) = W0) :
    w.heap.size + 1 < W0.heap.size ∧ Below w.heap.size w W0 ∧ Bx W0 w.heap.size a b ∧ Bx W0 (w.heap.size + 1) c d := by
  subst h
  refine ⟨by simp, ((Below.refl _ _).alloc (Nat.le_refl _) _).alloc (by simp) _, (Bx.alloc w a b).alloc_old _, ?_⟩
  have := Bx.alloc (w.alloc (.cells #[a, b] 43)) c d
  simpa using this

set_option maxHeartbeats 1000000 in
theorem neg_any (u : Value) (z : Int) (w : World) (hu : IsI w u z) (f : Fit z) :
    Calls Tryd.prog 23 #[u] w fun e w' => ∃ v, e = .returned v ∧ IsI w' v (-z) ∧ Below w.heap.size w w' := by
  obtain ⟨b, x, l, rfl, hx, h1⟩ := hu
  have hl := h1.len f
  obtain ⟨ua, uc, rfl⟩ := hx.val
  go_enter Tryd.func23, Tryd.ntmps23
  go_wp2_with fail
  generalize hW : (w.alloc (Obj.cells #[Value.bool b, Value.slice ua l.length uc] 43)).alloc (Obj.cells #[Value.bool false, Value.slice none 0 0] 43) = W0
  obtain ⟨hz0, hb0, X0, X1⟩ := two_new hW
  clear hW
  refine (signed_any (!b) l _ W0 (hx.below hb0) (by omega) h1.dig).mono ?_
  rintro e w1 ⟨t, x2, rfl, hr2, hd2, ht2, hv2, hlen2, hb2⟩
  have HV2 : Hid _ := hv2
  clear hv2
  obtain ⟨xa, xc, rfl⟩ := hr2.val
  have X1' := X1.below hb2
  have r3 := X1'.c0; have r4 := X1'.c1; have g3 := X1'.f0; have g4 := X1'.f1
  go_wp2
  refine bodyPost_ret (v := .agg #[.bool (!b && !t.isEmpty), .slice xa t.length xc]) (by simp [results, Tryd.results23, go_sem, r3, r4]) rfl ⟨_, rfl, ⟨_, _, t, rfl, hr2.set2 X1' _ _, ?_⟩, below_set2 (hb0.trans (hb2.mono hb0.size)) (by omega) _ _⟩
  have := Lim.signed (b := !b) hd2 ht2
  rw [HV2.out] at this
  rw [h1.val]
  have e : -sv b (ev 1000000000 l) = sv (!b) (ev 1000000000 l) := by cases b <;> simp [sv]
  rw [e]
  exact this

set_option maxHeartbeats 1000000 in
theorem abs_any (u : Value) (z : Int) (w : World) (hu : IsI w u z) (f : Fit z) :
    Calls Tryd.prog 19 #[u] w fun e w' => ∃ v, e = .returned v ∧ IsI w' v (z.natAbs : Int) ∧ Below w.heap.size w w' := by
  obtain ⟨b, x, l, rfl, hx, h1⟩ := hu
  have hl := h1.len f
  obtain ⟨ua, uc, rfl⟩ := hx.val
  go_enter Tryd.func19, Tryd.ntmps19
  go_wp2_with fail
  generalize hW : (w.alloc (Obj.cells #[Value.bool b, Value.slice ua l.length uc] 43)).alloc (Obj.cells #[Value.bool false, Value.slice none 0 0] 43) = W0
  obtain ⟨hz0, hb0, X0, X1⟩ := two_new hW
  clear hW
  refine (signed_any false l _ W0 (hx.below hb0) (by omega) h1.dig).mono ?_
  rintro e w1 ⟨t, x2, rfl, hr2, hd2, ht2, hv2, hlen2, hb2⟩
  have HV2 : Hid _ := hv2
  clear hv2
  obtain ⟨xa, xc, rfl⟩ := hr2.val
  have X1' := X1.below hb2
  have r3 := X1'.c0; have r4 := X1'.c1; have g3 := X1'.f0; have g4 := X1'.f1
  go_wp2
  refine bodyPost_ret (v := .agg #[.bool (false && !t.isEmpty), .slice xa t.length xc]) (by simp [results, Tryd.results19, go_sem, r3, r4]) rfl ⟨_, rfl, ⟨_, _, t, rfl, hr2.set2 X1' _ _, ?_⟩, below_set2 (hb0.trans (hb2.mono hb0.size)) (by omega) _ _⟩
  have := Lim.signed (b := false) hd2 ht2
  rw [HV2.out] at this
  rw [h1.val, natAbs_sv b h1.nonneg]
  exact this

/-- The sign. -/
def sgn3 (z : Int) : Int := if z < 0 then -1 else if z = 0 then 0 else 1

set_option maxHeartbeats 1000000 in
theorem sign_any (u : Value) (z : Int) (w : World) (hu : IsI w u z) (f : Fit z) :
    Calls Tryd.prog 14 #[u] w fun e w' => e = .returned (.int .i64 (sgn3 z)) ∧ Below w.heap.size w w' := by
  obtain ⟨b, x, l, rfl, hx, h1⟩ := hu
  have hl := h1.len f
  obtain ⟨ua, uc, rfl⟩ := hx.val
  have hs : (l.length = 0 ∧ sgn3 z = 0) ∨ (0 < l.length ∧ b = true ∧ sgn3 z = -1) ∨ (0 < l.length ∧ b = false ∧ sgn3 z = 1) := by
    cases l with
    | nil =>
      refine .inl ⟨rfl, ?_⟩
      rw [h1.val]
      cases b <;> simp [sv, ev, sgn3]
    | cons a l =>
      have := ev_ne h1.dig h1.trim (by simp)
      cases b with
      | true => exact .inr (.inl ⟨by simp, rfl, by rw [h1.val]; unfold sgn3 sv; rw [if_pos rfl, if_pos (by omega)]⟩)
      | false => exact .inr (.inr ⟨by simp, rfl, by rw [h1.val]; show sgn3 (ev 1000000000 (a :: l)) = 1; unfold sgn3; rw [if_neg (by omega), if_neg (by omega)]⟩)
  generalize sgn3 z = g at *
  rcases hs with ⟨h0, rfl⟩ | ⟨h0, rfl, rfl⟩ | ⟨h0, rfl, rfl⟩
  all_goals
    go_enter Tryd.func14, Tryd.ntmps14
    go_wp2
    go_ret
    exact ⟨rfl, (Below.refl _ _).alloc (Nat.le_refl _) _⟩

set_option maxHeartbeats 1000000 in
theorem compare_any (u v : Value) (z1 z2 : Int) (w : World) (hu : IsI w u z1) (hv : IsI w v z2) (f1 : Fit z1) (f2 : Fit z2) :
    Calls Tryd.prog 15 #[u, v] w fun e w' => e = .returned (.int .i64 (cmp3 z1 z2)) ∧ Below w.heap.size w w' := by
  obtain ⟨b1, x, l, rfl, hx, h1⟩ := hu
  obtain ⟨b2, y, m, rfl, hy, h2⟩ := hv
  have hl := h1.len f1
  have hm := h2.len f2
  obtain ⟨ua, uc, rfl⟩ := hx.val
  obtain ⟨va, vc, rfl⟩ := hy.val
  have n1 := h1.nonneg
  have n2 := h2.nonneg
  have p1 : b1 = true → 0 < ev 1000000000 l := fun h => ev_ne h1.dig h1.trim (h1.neg h)
  have p2 : b2 = true → 0 < ev 1000000000 m := fun h => ev_ne h2.dig h2.trim (h2.neg h)
  have e1 := h1.val
  have e2 := h2.val
  have hcmp := cmp3_bd (ev 1000000000 l) (ev 1000000000 m)
  cases b1 <;> cases b2
  · have he : cmp3 z1 z2 = cmp3 (ev 1000000000 l) (ev 1000000000 m) := by rw [e1, e2]; rfl
    rw [he]
    clear he e1 e2 p1 p2 n1 n2
    have hC := fun (W0 : World) (g1 : Row W0 (.slice ua l.length uc) l) (g2 : Row W0 (.slice va m.length vc) m) => compareLimbs_any l m _ _ W0 g1 g2 (by omega) h1.dig h2.dig h1.trim h2.trim
    generalize cmp3 (ev 1000000000 l) (ev 1000000000 m) = c at *
    obtain ⟨hcl, hcu⟩ := hcmp
    have HC : Hid _ := hC
    clear hC
    go_enter Tryd.func15, Tryd.ntmps15
    go_wp2_with fail
    generalize hW : (w.alloc (Obj.cells #[Value.bool false, Value.slice ua l.length uc] 43)).alloc (Obj.cells #[Value.bool false, Value.slice va m.length vc] 43) = W0
    obtain ⟨hz0, hb0, X0, X1⟩ := two_new hW
    clear hW
    refine (HC.out W0 (hx.below hb0) (hy.below hb0)).mono ?_
    rintro e w' ⟨rfl, rfl⟩
    have r3 := X0.c0
    go_wp2
    go_ret
    exact ⟨rfl, hb0⟩
  · have he : cmp3 z1 z2 = 1 := by
      have := p2 rfl
      apply cmp3_gt
      rw [e1, e2]; unfold sv; rw [if_pos rfl, if_neg (by simp)]; omega
    rw [he]
    clear he e1 e2 p1 p2 n1 n2 hcmp
    go_enter Tryd.func15, Tryd.ntmps15
    go_wp2
    go_ret
    exact ⟨rfl, ((Below.refl _ _).alloc (Nat.le_refl _) _).alloc (by simp) _⟩
  · have he : cmp3 z1 z2 = -1 := by
      have := p1 rfl
      apply cmp3_lt
      rw [e1, e2]; unfold sv; rw [if_pos rfl, if_neg (by simp)]; omega
    rw [he]
    clear he e1 e2 p1 p2 n1 n2 hcmp
    go_enter Tryd.func15, Tryd.ntmps15
    go_wp2
    go_ret
    exact ⟨rfl, ((Below.refl _ _).alloc (Nat.le_refl _) _).alloc (by simp) _⟩
  · have he : cmp3 z1 z2 = -cmp3 (ev 1000000000 l) (ev 1000000000 m) := by
      rw [e1, e2]; unfold sv cmp3; rw [if_pos rfl, if_pos rfl]
      split
      · rw [if_neg (by omega), if_pos (by omega)]
      · split
        · rw [if_pos (by omega)]
          omega
        · rw [if_neg (by omega), if_neg (by omega)]; rfl
    rw [he]
    clear he e1 e2 p1 p2 n1 n2
    have hC := fun (W0 : World) (g1 : Row W0 (.slice ua l.length uc) l) (g2 : Row W0 (.slice va m.length vc) m) => compareLimbs_any l m _ _ W0 g1 g2 (by omega) h1.dig h2.dig h1.trim h2.trim
    generalize cmp3 (ev 1000000000 l) (ev 1000000000 m) = c at *
    obtain ⟨hcl, hcu⟩ := hcmp
    have HC : Hid _ := hC
    clear hC
    go_enter Tryd.func15, Tryd.ntmps15
    go_wp2_with fail
    generalize hW : (w.alloc (Obj.cells #[Value.bool true, Value.slice ua l.length uc] 43)).alloc (Obj.cells #[Value.bool true, Value.slice va m.length vc] 43) = W0
    obtain ⟨hz0, hb0, X0, X1⟩ := two_new hW
    clear hW
    refine (HC.out W0 (hx.below hb0) (hy.below hb0)).mono ?_
    rintro e w' ⟨rfl, rfl⟩
    have r3 := X0.c0
    go_wp2
    go_ret
    exact ⟨rfl, hb0⟩

end Go.Proofs.YtldcjkhbiffdoabDoor
