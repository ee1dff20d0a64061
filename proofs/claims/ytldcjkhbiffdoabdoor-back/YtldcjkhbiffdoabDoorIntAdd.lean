/-
  whole.Add.
-/
import Derived.Test.YtldcjkhbiffdoabDoorInts
namespace Go.Proofs.YtldcjkhbiffdoabDoor
open Go.RowKit

/-- A world behind three new boxes: two numbers handed in, one for the result. -/
theorem three_new {w W0 : World} {a b c d e f : Value} (h : ((w.alloc (.cells #[a, b] 43)).alloc (.cells #[c, d] 43)).alloc (.cells #[e, f] 43) = W0) :
    w.heap.size + 1 + 1 < W0.heap.size ∧ Below w.heap.size w W0 ∧ Bx W0 w.heap.size a b ∧ Bx W0 (w.heap.size + 1) c d ∧ Bx W0 (w.heap.size + 1 + 1) e f := by
  subst h
  refine ⟨by simp, (((Below.refl _ _).alloc (Nat.le_refl _) _).alloc (by simp) _).alloc (by simp; omega) _, ((Bx.alloc w a b).alloc_old _).alloc_old _, ?_, ?_⟩
  · have := (Bx.alloc (w.alloc (.cells #[a, b] 43)) c d).alloc_old (.cells #[e, f] 43)
    simpa using this
  · have := Bx.alloc ((w.alloc (.cells #[a, b] 43)).alloc (.cells #[c, d] 43)) e f
    simpa using this

set_option maxHeartbeats 2000000 in
theorem add_same (b : Bool) (x y : Value) (l m : List Int) (z1 z2 : Int) (w : World) (hx : Row w x l) (hy : Row w y m) (h1 : Lim b l z1) (h2 : Lim b m z2) (hl : l.length ≤ 10000000) (hm : m.length ≤ 10000000) :
    Calls Tryd.prog 33 #[.agg #[.bool b, x], .agg #[.bool b, y]] w fun e w' => ∃ v, e = .returned v ∧ IsI w' v (z1 + z2) ∧ Below w.heap.size w w' := by
  obtain ⟨ua, uc, rfl⟩ := hx.val
  obtain ⟨va, vc, rfl⟩ := hy.val
  go_enter Tryd.func33, Tryd.ntmps33
  go_wp2
  generalize hW : ((w.alloc (Obj.cells #[Value.bool b, Value.slice ua l.length uc] 43)).alloc (Obj.cells #[Value.bool b, Value.slice va m.length vc] 43)).alloc (Obj.cells #[Value.bool false, Value.slice none 0 0] 43) = W0
  obtain ⟨hz0, hb0, X0, X1, X2⟩ := three_new hW
  clear hW
  have c0 := X0.c0; have c1 := X0.c1; have c2 := X1.c1
  have hx0 := hx.below hb0
  have hy0 := hy.below hb0
  go_region_held3 (fun w' => w'.cell? ⟨w.heap.size, 0, none⟩ = some (.bool b) ∧ w'.cell? ⟨w.heap.size, 1, none⟩ = some (.slice ua l.length uc) ∧ w'.cell? ⟨w.heap.size + 1, 1, none⟩ = some (.slice va m.length vc))
    (first | exact ⟨c0, c1, c2⟩ | exact ⟨q0, q1, q2⟩ | exact ⟨r0, r1, r2⟩ | simp [go_sem, r0, r1, r2])
    (first
      | (go_at_call 39; refine (addLimbs_any l m _ _ _ (by exact hx0) (by exact hy0) (by omega) (by omega) h1.dig h2.dig).mono ?_; rintro e w1 ⟨s, x1, rfl, hr1, hd1, hv1, hlen1, hb1'⟩; have hb1 := of_drew hb1'; clear hb1'; have HV1 : Hid _ := hv1; clear hv1; have X0' : Bx w1 _ _ _ := X0.below hb1; have X1' : Bx w1 _ _ _ := X1.below hb1; have X2' : Bx w1 _ _ _ := X2.below hb1; have q0 := X0'.c0; have q1 := X0'.c1; have q2 := X1'.c1)
      | (go_at_call 30; refine (signed_any b s x1 w1 hr1 (by omega) hd1).mono ?_; rintro e w2 ⟨t, x2, rfl, hr2, hd2, ht2, hv2, hlen2, hb2⟩; have HV2 : Hid _ := hv2; clear hv2; obtain ⟨xa, xc, rfl⟩ := hr2.val; have X0'' := X0'.below hb2; have X1'' := X1'.below hb2; have X2'' := X2'.below hb2; have r0 := X0''.c0; have r1 := X0''.c1; have r2 := X1''.c1; have r3 := X2''.c0; have r4 := X2''.c1; have g3 := X2''.f0; have g4 := X2''.f1))
  all_goals go_wp2
  refine bodyPost_ret (v := .agg #[.bool (b && !t.isEmpty), .slice xa t.length xc]) (by simp [results, Tryd.results33, go_sem, r3, r4]) rfl ⟨_, rfl, ⟨_, _, t, rfl, hr2.set2 X2'' _ _, ?_⟩, ?_⟩
  · have := Lim.signed (b := b) hd2 ht2
    rw [HV2.out, HV1.out] at this
    rw [h1.val, h2.val]
    have e : sv b (ev 1000000000 l) + sv b (ev 1000000000 m) = sv b (ev 1000000000 l + ev 1000000000 m) := by unfold sv; split <;> omega
    rw [e]
    exact this
  · exact below_set2 (hb0.trans ((hb1.mono hb0.size).trans (hb2.mono (by have := hb0.size; have := hb1.size; omega)))) (by omega) _ _

set_option maxHeartbeats 2000000 in
theorem add_ge (b1 b2 : Bool) (hne : (b1 == b2) = false) (x y : Value) (l m : List Int) (z1 z2 : Int) (w : World) (hx : Row w x l) (hy : Row w y m) (h1 : Lim b1 l z1) (h2 : Lim b2 m z2) (hl : l.length ≤ 10000000) (_hm : m.length ≤ 10000000) (hle : ev 1000000000 m ≤ ev 1000000000 l) :
    Calls Tryd.prog 33 #[.agg #[.bool b1, x], .agg #[.bool b2, y]] w fun e w' => ∃ v, e = .returned v ∧ IsI w' v (z1 + z2) ∧ Below w.heap.size w w' := by
  obtain ⟨ua, uc, rfl⟩ := hx.val
  obtain ⟨va, vc, rfl⟩ := hy.val
  have hlen : m.length ≤ l.length := by
    rcases Nat.lt_or_ge l.length m.length with h | h
    · have := ev_lt_of_length (by omega) h1.dig h2.dig h2.trim h; omega
    · exact h
  have hcmp : 0 ≤ cmp3 (ev 1000000000 l) (ev 1000000000 m) := by unfold cmp3; rw [if_neg (by omega)]; split <;> omega
  have HLE : Hid _ := hle
  clear hle
  go_enter Tryd.func33, Tryd.ntmps33
  go_wp2_with fail
  generalize hW : ((w.alloc (Obj.cells #[Value.bool b1, Value.slice ua l.length uc] 43)).alloc (Obj.cells #[Value.bool b2, Value.slice va m.length vc] 43)).alloc (Obj.cells #[Value.bool false, Value.slice none 0 0] 43) = W0
  obtain ⟨hz0, hb0, X0, X1, X2⟩ := three_new hW
  clear hW
  have hx0 := hx.below hb0
  have hy0 := hy.below hb0
  refine (compareLimbs_any l m _ _ W0 hx0 hy0 (by omega) h1.dig h2.dig h1.trim h2.trim).mono ?_
  rintro e w' ⟨rfl, rfl⟩
  generalize cmp3 (ev 1000000000 l) (ev 1000000000 m) = c at *
  go_wp2_with fail
  have c0 := X0.c0; have c1 := X0.c1; have c2 := X1.c1
  have hle := HLE.out
  go_region_held3 (fun w' => w'.cell? ⟨w.heap.size, 0, none⟩ = some (.bool b1) ∧ w'.cell? ⟨w.heap.size, 1, none⟩ = some (.slice ua l.length uc) ∧ w'.cell? ⟨w.heap.size + 1, 1, none⟩ = some (.slice va m.length vc))
    (first | exact ⟨c0, c1, c2⟩ | exact ⟨q0, q1, q2⟩ | exact ⟨r0, r1, r2⟩ | simp [go_sem, r0, r1, r2])
    (first
      | (go_at_call 40; refine (subLimbs_any l m _ _ _ (by exact hx0) (by exact hy0) (by omega) hlen h1.dig h2.dig hle).mono ?_; rintro e w1 ⟨s, x1, rfl, hr1, hd1, hv1, hlen1, hb1'⟩; have hb1 := of_drew hb1'; clear hb1'; have HV1 : Hid _ := hv1; clear hv1; have X0' : Bx w1 _ _ _ := X0.below hb1; have X1' : Bx w1 _ _ _ := X1.below hb1; have X2' : Bx w1 _ _ _ := X2.below hb1; have q0 := X0'.c0; have q1 := X0'.c1; have q2 := X1'.c1)
      | (go_at_call 30; refine (signed_any b1 s x1 w1 hr1 (by omega) hd1).mono ?_; rintro e w2 ⟨t, x2, rfl, hr2, hd2, ht2, hv2, hlen2, hb2⟩; have HV2 : Hid _ := hv2; clear hv2; obtain ⟨xa, xc, rfl⟩ := hr2.val; have X0'' := X0'.below hb2; have X1'' := X1'.below hb2; have X2'' := X2'.below hb2; have r0 := X0''.c0; have r1 := X0''.c1; have r2 := X1''.c1; have r3 := X2''.c0; have r4 := X2''.c1; have g3 := X2''.f0; have g4 := X2''.f1))
  all_goals go_wp2
  refine bodyPost_ret (v := .agg #[.bool (b1 && !t.isEmpty), .slice xa t.length xc]) (by simp [results, Tryd.results33, go_sem, r3, r4]) rfl ⟨_, rfl, ⟨_, _, t, rfl, hr2.set2 X2'' _ _, ?_⟩, ?_⟩
  · have := Lim.signed (b := b1) hd2 ht2
    rw [HV2.out, HV1.out] at this
    rw [h1.val, h2.val]
    have e : sv b1 (ev 1000000000 l) + sv b2 (ev 1000000000 m) = sv b1 (ev 1000000000 l - ev 1000000000 m) := by cases b1 <;> cases b2 <;> simp_all [sv] <;> omega
    rw [e]
    exact this
  · exact below_set2 (hb0.trans ((hb1.mono hb0.size).trans (hb2.mono (by have := hb0.size; have := hb1.size; omega)))) (by omega) _ _

set_option maxHeartbeats 2000000 in
theorem add_lt (b1 b2 : Bool) (hne : (b1 == b2) = false) (x y : Value) (l m : List Int) (z1 z2 : Int) (w : World) (hx : Row w x l) (hy : Row w y m) (h1 : Lim b1 l z1) (h2 : Lim b2 m z2) (hl : l.length ≤ 10000000) (hm : m.length ≤ 10000000) (hle : ev 1000000000 l < ev 1000000000 m) :
    Calls Tryd.prog 33 #[.agg #[.bool b1, x], .agg #[.bool b2, y]] w fun e w' => ∃ v, e = .returned v ∧ IsI w' v (z1 + z2) ∧ Below w.heap.size w w' := by
  obtain ⟨ua, uc, rfl⟩ := hx.val
  obtain ⟨va, vc, rfl⟩ := hy.val
  have hlen : l.length ≤ m.length := by
    rcases Nat.lt_or_ge m.length l.length with h | h
    · have := ev_lt_of_length (by omega) h2.dig h1.dig h1.trim h; omega
    · exact h
  have hcmp : cmp3 (ev 1000000000 l) (ev 1000000000 m) < 0 := by rw [cmp3_lt hle]; omega
  have HLE : Hid _ := hle
  clear hle
  go_enter Tryd.func33, Tryd.ntmps33
  go_wp2_with fail
  generalize hW : ((w.alloc (Obj.cells #[Value.bool b1, Value.slice ua l.length uc] 43)).alloc (Obj.cells #[Value.bool b2, Value.slice va m.length vc] 43)).alloc (Obj.cells #[Value.bool false, Value.slice none 0 0] 43) = W0
  obtain ⟨hz0, hb0, X0, X1, X2⟩ := three_new hW
  clear hW
  have hx0 := hx.below hb0
  have hy0 := hy.below hb0
  refine (compareLimbs_any l m _ _ W0 hx0 hy0 (by omega) h1.dig h2.dig h1.trim h2.trim).mono ?_
  rintro e w' ⟨rfl, rfl⟩
  generalize cmp3 (ev 1000000000 l) (ev 1000000000 m) = c at *
  go_wp2_with fail
  have c0 := X1.c0; have c1 := X0.c1; have c2 := X1.c1
  have hle := HLE.out
  go_region_held3 (fun w' => w'.cell? ⟨w.heap.size + 1, 0, none⟩ = some (.bool b2) ∧ w'.cell? ⟨w.heap.size, 1, none⟩ = some (.slice ua l.length uc) ∧ w'.cell? ⟨w.heap.size + 1, 1, none⟩ = some (.slice va m.length vc))
    (first | exact ⟨c0, c1, c2⟩ | exact ⟨q0, q1, q2⟩ | exact ⟨r0, r1, r2⟩ | simp [go_sem, r0, r1, r2])
    (first
      | (go_at_call 40; refine (subLimbs_any m l _ _ _ (by exact hy0) (by exact hx0) (by omega) hlen h2.dig h1.dig (by omega)).mono ?_; rintro e w1 ⟨s, x1, rfl, hr1, hd1, hv1, hlen1, hb1'⟩; have hb1 := of_drew hb1'; clear hb1'; have HV1 : Hid _ := hv1; clear hv1; have X0' : Bx w1 _ _ _ := X0.below hb1; have X1' : Bx w1 _ _ _ := X1.below hb1; have X2' : Bx w1 _ _ _ := X2.below hb1; have q0 := X1'.c0; have q1 := X0'.c1; have q2 := X1'.c1)
      | (go_at_call 30; refine (signed_any b2 s x1 w1 hr1 (by omega) hd1).mono ?_; rintro e w2 ⟨t, x2, rfl, hr2, hd2, ht2, hv2, hlen2, hb2⟩; have HV2 : Hid _ := hv2; clear hv2; obtain ⟨xa, xc, rfl⟩ := hr2.val; have X0'' := X0'.below hb2; have X1'' := X1'.below hb2; have X2'' := X2'.below hb2; have r0 := X1''.c0; have r1 := X0''.c1; have r2 := X1''.c1; have r3 := X2''.c0; have r4 := X2''.c1; have g3 := X2''.f0; have g4 := X2''.f1))
  all_goals go_wp2
  refine bodyPost_ret (v := .agg #[.bool (b2 && !t.isEmpty), .slice xa t.length xc]) (by simp [results, Tryd.results33, go_sem, r3, r4]) rfl ⟨_, rfl, ⟨_, _, t, rfl, hr2.set2 X2'' _ _, ?_⟩, ?_⟩
  · have := Lim.signed (b := b2) hd2 ht2
    rw [HV2.out, HV1.out] at this
    rw [h1.val, h2.val]
    have e : sv b1 (ev 1000000000 l) + sv b2 (ev 1000000000 m) = sv b2 (ev 1000000000 m - ev 1000000000 l) := by cases b1 <;> cases b2 <;> simp_all [sv] <;> omega
    rw [e]
    exact this
  · exact below_set2 (hb0.trans ((hb1.mono hb0.size).trans (hb2.mono (by have := hb0.size; have := hb1.size; omega)))) (by omega) _ _

/-- whole.Add: the sum. -/
theorem add_any (u v : Value) (z1 z2 : Int) (w : World) (hu : IsI w u z1) (hv : IsI w v z2) (f1 : Fit z1) (f2 : Fit z2) :
    Calls Tryd.prog 33 #[u, v] w fun e w' => ∃ v, e = .returned v ∧ IsI w' v (z1 + z2) ∧ Below w.heap.size w w' := by
  obtain ⟨b1, x, l, rfl, hx, h1⟩ := hu
  obtain ⟨b2, y, m, rfl, hy, h2⟩ := hv
  have hl := h1.len f1
  have hm := h2.len f2
  by_cases hb : b1 = b2
  · subst hb
    exact add_same b1 x y l m z1 z2 w hx hy h1 h2 hl hm
  · rcases (show ev 1000000000 l < ev 1000000000 m ∨ ev 1000000000 m ≤ ev 1000000000 l by omega) with h | h
    · exact add_lt b1 b2 (by simp [hb]) x y l m z1 z2 w hx hy h1 h2 hl hm h
    · exact add_ge b1 b2 (by simp [hb]) x y l m z1 z2 w hx hy h1 h2 hl hm h

end Go.Proofs.YtldcjkhbiffdoabDoor
