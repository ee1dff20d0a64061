/-
  whole.Mul.
-/
import Derived.Test.YtldcjkhbiffdoabDoorIntAdd
import Derived.Test.YtldcjkhbiffdoabDoorMulLimbs
namespace Go.Proofs.YtldcjkhbiffdoabDoor
open Go.RowKit

set_option maxHeartbeats 2000000 in
theorem mul_any (u v : Value) (z1 z2 : Int) (w : World) (hu : IsI w u z1) (hv : IsI w v z2) (f1 : Fit z1) (f2 : Fit z2) :
    Calls Tryd.prog 32 #[u, v] w fun e w' => ∃ v, e = .returned v ∧ IsI w' v (z1 * z2) ∧ Below w.heap.size w w' := by
  obtain ⟨b1, x, l, rfl, hx, h1⟩ := hu
  obtain ⟨b2, y, m, rfl, hy, h2⟩ := hv
  have hl := h1.len f1
  have hm := h2.len f2
  obtain ⟨ua, uc, rfl⟩ := hx.val
  obtain ⟨va, vc, rfl⟩ := hy.val
  go_enter Tryd.func32, Tryd.ntmps32
  go_wp2
  generalize hW : ((w.alloc (Obj.cells #[Value.bool b1, Value.slice ua l.length uc] 43)).alloc (Obj.cells #[Value.bool b2, Value.slice va m.length vc] 43)).alloc (Obj.cells #[Value.bool false, Value.slice none 0 0] 43) = W0
  obtain ⟨hz0, hb0, X0, X1, X2⟩ := three_new hW
  clear hW
  have c0 := X0.c0; have c1 := X0.c1; have c2 := X1.c1; have c3 := X1.c0
  have hx0 := hx.below hb0
  have hy0 := hy.below hb0
  go_region_held3 (fun w' => w'.cell? ⟨w.heap.size, 0, none⟩ = some (.bool b1) ∧ w'.cell? ⟨w.heap.size, 1, none⟩ = some (.slice ua l.length uc) ∧ w'.cell? ⟨w.heap.size + 1, 1, none⟩ = some (.slice va m.length vc) ∧ w'.cell? ⟨w.heap.size + 1, 0, none⟩ = some (.bool b2))
    (first | exact ⟨c0, c1, c2, c3⟩ | exact ⟨q0, q1, q2, q3⟩ | exact ⟨r0, r1, r2, r5⟩ | simp [go_sem, r0, r1, r2, r5])
    (first
      | (go_at_call 38; refine (mulLimbs_any l m _ _ _ (by exact hx0) (by exact hy0) (by omega) (by omega) h1.dig h2.dig).mono ?_; rintro e w1 ⟨s, x1, rfl, hr1, hd1, hv1, hlen1, hb1'⟩; have hb1 := of_drew hb1'; clear hb1'; have HV1 : Hid _ := hv1; clear hv1; have X0' : Bx w1 _ _ _ := X0.below hb1; have X1' : Bx w1 _ _ _ := X1.below hb1; have X2' : Bx w1 _ _ _ := X2.below hb1; have q0 := X0'.c0; have q1 := X0'.c1; have q2 := X1'.c1; have q3 := X1'.c0)
      | (go_at_call 30; refine (signed_any _ s x1 w1 hr1 (by omega) hd1).mono ?_; rintro e w2 ⟨t, x2, rfl, hr2, hd2, ht2, hv2, hlen2, hb2⟩; have HV2 : Hid _ := hv2; clear hv2; obtain ⟨xa, xc, rfl⟩ := hr2.val; have X0'' := X0'.below hb2; have X1'' := X1'.below hb2; have X2'' := X2'.below hb2; have r0 := X0''.c0; have r1 := X0''.c1; have r2 := X1''.c1; have r3 := X2''.c0; have r4 := X2''.c1; have r5 := X1''.c0; have g3 := X2''.f0; have g4 := X2''.f1))
  all_goals go_wp2
  refine bodyPost_ret (v := .agg #[.bool (!(b1 == b2) && !t.isEmpty), .slice xa t.length xc]) (by simp [results, Tryd.results32, go_sem, r3, r4]) rfl ⟨_, rfl, ⟨_, _, t, rfl, hr2.set2 X2'' _ _, ?_⟩, ?_⟩
  · have := Lim.signed (b := !(b1 == b2)) hd2 ht2
    rw [HV2.out, HV1.out] at this
    rw [h1.val, h2.val]
    have e : sv b1 (ev 1000000000 l) * sv b2 (ev 1000000000 m) = sv (!(b1 == b2)) (ev 1000000000 l * ev 1000000000 m) := by
      cases b1 <;> cases b2 <;> simp [sv, Int.neg_mul, Int.mul_neg]
    rw [e]
    exact this
  · exact below_set2 (hb0.trans ((hb1.mono hb0.size).trans (hb2.mono (by have := hb0.size; have := hb1.size; omega)))) (by omega) _ _

end Go.Proofs.YtldcjkhbiffdoabDoor
