import Derived.Test.YtldcjkhbiffdoabGreatDoorM10
import Derived.Test.YtldcjkhbiffdoabGreatDoorM08

namespace Go.Proofs.YtldcjkhbiffdoabGreatDoor
open Go.RowKit

theorem four_new {w W0 : World} {a b c d e f g h : Value} (hh : (((w.alloc (.cells #[a, b] 70)).alloc (.cells #[c, d] 70)).alloc (.cells #[e, f] 70)).alloc (.cells #[g, h] 70) = W0) :
    w.heap.size + 1 + 1 + 1 < W0.heap.size ∧ Below w.heap.size w W0 ∧ Bx W0 w.heap.size a b ∧ Bx W0 (w.heap.size + 1) c d ∧ Bx W0 (w.heap.size + 1 + 1) e f ∧ Bx W0 (w.heap.size + 1 + 1 + 1) g h := by
  generalize hW : ((w.alloc (.cells #[a, b] 70)).alloc (.cells #[c, d] 70)).alloc (.cells #[e, f] 70) = W1 at hh
  have hs : W1.heap.size = w.heap.size + 1 + 1 + 1 := by rw [← hW]; simp
  obtain ⟨h1, h2, h3, h4, h5⟩ := three_new hW
  subst hh
  refine ⟨by simp; omega, h2.alloc (by omega) _, h3.alloc_old _, h4.alloc_old _, h5.alloc_old _, ?_⟩
  rw [← hs]
  exact Bx.alloc _ _ _

theorem Bx.set_other {w : World} {k j : Nat} {a b c d : Value} (h : Bx w k a b) (_h2 : Bx w j c d) (a' b' : Value) (hne : j ≠ k) : Bx ((w.setCell ⟨j, 0, none⟩ a').setCell ⟨j, 1, none⟩ b') k a b := by
  unfold Bx at h ⊢
  rw [Below.heap_setCell _ _ _ _ (by simpa using Ne.symm hne), Below.heap_setCell _ _ _ _ (by simpa using Ne.symm hne)]
  exact h

theorem sv_div {b1 b2 : Bool} {A D Q S : Int} (hQ : 0 ≤ Q) (hS : 0 ≤ S) (hD : 0 < D) (h : A = Q * D + S) (hlt : S < D) : sv (!(b1 == b2)) Q = (sv b1 A).tdiv (sv b2 D) ∧ sv b1 S = (sv b1 A).tmod (sv b2 D) := by
  have hA : 0 ≤ A := by have := Int.mul_nonneg hQ (Int.le_of_lt hD); omega
  have h1 : A.tdiv D = Q := by
    rw [Int.tdiv_eq_ediv_of_nonneg hA, h, Int.add_comm, Int.add_mul_ediv_right _ _ (by omega), Int.ediv_eq_zero_of_lt hS hlt]; omega
  have h2 : A.tmod D = S := by
    rw [Int.tmod_eq_emod_of_nonneg hA, h, Int.add_comm, Int.add_mul_emod_self_right, Int.emod_eq_of_lt hS hlt]
  cases b1 <;> cases b2 <;> simp [sv, Int.neg_tdiv, Int.tdiv_neg, Int.tmod_neg, Int.neg_tmod, h1, h2]

set_option maxRecDepth 100000 in
set_option maxHeartbeats 4000000 in
theorem divide_any (u v : Value) (z1 z2 : Int) (w : World) (hu : IsI w u z1) (hv : IsI w v z2) (f1 : Fit z1) (f2 : Fit z2) :
    Calls Tryz.prog 64 #[u, v] w fun e w' => ∃ x y, e = .returned (.tuple #[x, y]) ∧ IsI w' x (z1.tdiv z2) ∧ IsI w' y (z1.tmod z2) ∧ Below w.heap.size w w' := by
  obtain ⟨b1, x, l, rfl, hx, h1⟩ := hu
  obtain ⟨b2, y, m, rfl, hy, h2⟩ := hv
  have hl := h1.len f1
  have hm := h2.len f2
  obtain ⟨ua, uc, rfl⟩ := hx.val
  obtain ⟨va, vc, rfl⟩ := hy.val
  rcases Nat.eq_zero_or_pos m.length with hm0 | hm0
  · obtain rfl := List.eq_nil_of_length_eq_zero hm0
    have hz2 : z2 = 0 := by have := h2.val; cases b2 <;> simpa [sv, ev] using this
    subst hz2
    go_enter Tryz.func64, Tryz.ntmps64
    go_wp2
    generalize hW : (((w.alloc (Obj.cells #[Value.bool b1, Value.slice ua l.length uc] 70)).alloc (Obj.cells #[Value.bool b2, Value.slice va ([] : List Int).length vc] 70)).alloc (Obj.cells #[Value.bool false, Value.slice none 0 0] 70)).alloc (Obj.cells #[Value.bool false, Value.slice none 0 0] 70) = W0
    obtain ⟨hz0, hb0, X0, X1, X2, X3⟩ := four_new hW
    clear hW
    have c0 := X0.c0; have c1 := X0.c1; have c2 := X2.c0; have c3 := X2.c1; have c4 := X3.c0; have c5 := X3.c1
    have g2 := X2.f0; have g3 := X2.f1; have g4 := X3.f0; have g5 := X3.f1
    go_region
    all_goals go_wp2
    have hbw := (below_set2 (below_set2 hb0 (k := w.heap.size + 1 + 1) (by omega) (.bool false) (.slice none 0 0)) (k := w.heap.size + 1 + 1 + 1) (by omega) (.bool b1) (.slice ua l.length uc))
    refine bodyPost_ret (v := .tuple #[.agg #[.bool false, .slice none 0 0], .agg #[.bool b1, .slice ua l.length uc]]) (by simp [results, Tryz.results64, go_sem, c2, c3, c4, c5]) rfl ⟨_, _, rfl, ⟨_, _, [], rfl, ⟨rfl, .inl ⟨rfl, rfl⟩⟩, Dig.nil _, fun x h => by simp at h, fun h => by simp at h, by simp [sv, ev]⟩, ?_, hbw.drew⟩
    rw [Int.tmod_zero]
    exact ⟨_, _, l, rfl, ((((hx.below hb0).set2 X2 _ _).set2 (X3.set_other X2 _ _ (by omega)) _ _).below ⟨rfl, rfl, rfl, Nat.le_refl _, fun _ _ => rfl⟩), h1⟩
  · have hD := divideLimbs_any l m (.slice ua l.length uc) (.slice va m.length vc)
    have hmp := ev_ne h2.dig h2.trim (List.length_pos_iff.1 hm0)
    go_enter Tryz.func64, Tryz.ntmps64
    go_wp2_with fail
    generalize hW : (((w.alloc (Obj.cells #[Value.bool b1, Value.slice ua l.length uc] 70)).alloc (Obj.cells #[Value.bool b2, Value.slice va m.length vc] 70)).alloc (Obj.cells #[Value.bool false, Value.slice none 0 0] 70)).alloc (Obj.cells #[Value.bool false, Value.slice none 0 0] 70) = W0
    obtain ⟨hz0, hb0, X0, X1, X2, X3⟩ := four_new hW
    clear hW
    refine (hD W0 (hx.below hb0) (hy.below hb0) hl hm hm0 h1.dig h2.dig h1.trim h2.trim).mono ?_
    rintro e w1 ⟨qv, rv, rfl, ⟨Q, s, hrQ, hrs, dQ, ds, hlQ, hls, hval, hlt⟩, hb1⟩
    have hsv := sv_div (b1 := b1) (b2 := b2) (ev_nonneg (by omega) dQ) (ev_nonneg (by omega) ds) hmp hval hlt
    have HSV : Hid _ := hsv
    clear hval hlt hD hsv
    obtain ⟨qa, qc, rfl⟩ := hrQ.val
    obtain ⟨sa, sc, rfl⟩ := hrs.val
    have X0' := X0.below hb1; have X1' := X1.below hb1; have X2' := X2.below hb1; have X3' := X3.below hb1
    have c0 := X0'.c0; have c3 := X1'.c0
    clear X0 X1 X2 X3
    go_wp2
    have hbd : Below w1.heap.size w1 w1.drew := ⟨rfl, rfl, rfl, Nat.le_refl _, fun _ _ => rfl⟩
    have hSV : ∀ W, Below w1.heap.size w1 W → W.cell? ⟨w.heap.size, 0, none⟩ = some (.bool b1) ∧ W.cell? ⟨w.heap.size + 1, 0, none⟩ = some (.bool b2) := fun W h => ⟨(X0'.below h).c0, (X1'.below h).c0⟩
    refine wp_region_held_drew (S := fun W => W.cell? ⟨w.heap.size, 0, none⟩ = some (.bool b1) ∧ W.cell? ⟨w.heap.size + 1, 0, none⟩ = some (.bool b2)) (by kernel_rfl) (hSV _ hbd) fun hS => ?_
    refine h_take 0 22 (.pointer (some ⟨w.heap.size, 0, none⟩)) rfl rfl (by kernel_rfl) (by kernel_rfl) (by kernel_rfl) (fun _ _ _ h => h) rfl (fun _ _ => by first | rfl | go_simp) hS ?_
    simp only [Act.put, tA, tB, tC]
    refine h_take 1 23 (.bool b1) rfl rfl (by kernel_rfl) (by kernel_rfl) (by kernel_rfl) (fun _ _ _ h => h) rfl (fun w' hw' => by obtain ⟨y0, y1⟩ := hw'; go_simp) hS ?_
    simp only [Act.put, tA, tB, tC]
    refine h_take 2 24 (.pointer (some ⟨w.heap.size + 1, 0, none⟩)) rfl rfl (by kernel_rfl) (by kernel_rfl) (by kernel_rfl) (fun _ _ _ h => h) rfl (fun _ _ => by first | rfl | go_simp) hS ?_
    simp only [Act.put, tA, tB, tC]
    refine h_take 3 25 (.bool b2) rfl rfl (by kernel_rfl) (by kernel_rfl) (by kernel_rfl) (fun _ _ _ h => h) rfl (fun w' hw' => by obtain ⟨y0, y1⟩ := hw'; go_simp) hS ?_
    simp only [Act.put, tA, tB, tC]
    refine h_take 4 26 (.bool (!(b1 == b2))) rfl rfl (by kernel_rfl) (by kernel_rfl) (by kernel_rfl) (fun _ _ _ h => h) rfl (fun _ _ => by first | rfl | go_simp) hS ?_
    simp only [Act.put, tA, tB, tC]
    refine h_take 5 27 (.slice qa Q.length qc) rfl rfl (by kernel_rfl) (by kernel_rfl) (by kernel_rfl) (fun _ _ _ h => h) rfl (fun _ _ => by first | rfl | go_simp) hS ?_
    simp only [Act.put, tA, tB, tC]
    refine h_take 7 29 (.pointer (some ⟨w.heap.size, 0, none⟩)) rfl rfl (by kernel_rfl) (by kernel_rfl) (by kernel_rfl) (fun _ _ _ h => h) rfl (fun _ _ => by first | rfl | go_simp) hS ?_
    simp only [Act.put, tA, tB, tC]
    refine h_take 8 30 (.bool b1) rfl rfl (by kernel_rfl) (by kernel_rfl) (by kernel_rfl) (fun _ _ _ h => h) rfl (fun w' hw' => by obtain ⟨y0, y1⟩ := hw'; go_simp) hS ?_
    simp only [Act.put, tA, tB, tC]
    refine h_take 9 31 (.slice sa s.length sc) rfl rfl (by kernel_rfl) (by kernel_rfl) (by kernel_rfl) (fun _ _ _ h => h) rfl (fun _ _ => by first | rfl | go_simp) hS ?_
    simp only [Act.put, tA, tB, tC]
    refine h_call 6 28 86 #[.bool (!(b1 == b2)), .slice qa Q.length qc] rfl rfl (by kernel_rfl) rfl (by go_simp) ?_
    refine (signed_any (!(b1 == b2)) Q (.slice qa Q.length qc) _ (hrQ.below hbd) (by omega) dQ).mono ?_
    rintro e w2 ⟨t, x1, rfl, hr1, hd1, ht1, hv1, hlen1, hb2'⟩
    have hb2 := of_drew hb2'
    clear hb2'
    have HV1 : Hid _ := hv1
    clear hv1
    obtain ⟨ta, tc, rfl⟩ := hr1.val
    refine ⟨_, rfl, hSV _ hb2, ?_⟩
    simp only [Act.put, tA, tB, tC]
    refine h_call 10 32 86 #[.bool b1, .slice sa s.length sc] rfl rfl (by kernel_rfl) rfl (by go_simp) ?_
    refine (signed_any b1 s (.slice sa s.length sc) _ (hrs.below hb2) (by omega) ds).mono ?_
    rintro e w3 ⟨t3, x3, rfl, hr3, hd3, ht3, hv3, hlen3, hb3⟩
    have HV3 : Hid _ := hv3
    clear hv3
    obtain ⟨xa, xc, rfl⟩ := hr3.val
    have hb13 := hb2.trans (hb3.mono hb2.size)
    have Z2 := X2'.below hb13
    have Z3 := X3'.below hb13
    have i0 := Z2.c0; have i1 := Z2.c1; have j0 := Z3.c0; have j1 := Z3.c1
    have g0 := Z2.f0; have g1 := Z2.f1; have k0 := Z3.f0; have k1 := Z3.f1
    have hS3 := hSV _ hb13
    obtain ⟨s0, s1⟩ := id hS3
    refine ⟨_, rfl, hS3, ?_⟩
    simp only [Act.put, tA, tB, tC]
    refine h_store 11 (w' := (w3.setCell ⟨w.heap.size + 1 + 1, 0, none⟩ (.bool (!(b1 == b2) && !t.isEmpty))).setCell ⟨w.heap.size + 1 + 1, 1, none⟩ (.slice ta t.length tc)) rfl rfl (by kernel_rfl) rfl (by go_simp) (by simp [go_sem, s0, s1]) ?_
    refine h_store 12 (w' := (((w3.setCell ⟨w.heap.size + 1 + 1, 0, none⟩ (.bool (!(b1 == b2) && !t.isEmpty))).setCell ⟨w.heap.size + 1 + 1, 1, none⟩ (.slice ta t.length tc)).setCell ⟨w.heap.size + 1 + 1 + 1, 0, none⟩ (.bool (b1 && !t3.isEmpty))).setCell ⟨w.heap.size + 1 + 1 + 1, 1, none⟩ (.slice xa t3.length xc)) rfl rfl (by kernel_rfl) rfl (by go_simp) (by simp [go_sem, s0, s1]) ?_
    refine wpAnyH_done (by kernel_rfl) ?_ _
    go_wp2
    refine bodyPost_ret (v := .tuple #[.agg #[.bool (!(b1 == b2) && !t.isEmpty), .slice ta t.length tc], .agg #[.bool (b1 && !t3.isEmpty), .slice xa t3.length xc]]) (by simp [results, Tryz.results64, go_sem, i0, i1, j0, j1]) rfl ⟨_, _, rfl, ⟨_, _, t, rfl, ((hr1.below hb3).set2 Z2 _ _).set2 (Z3.set_other Z2 _ _ (by omega)) _ _, ?_⟩, ⟨_, _, t3, rfl, (hr3.set2 Z2 _ _).set2 (Z3.set_other Z2 _ _ (by omega)) _ _, ?_⟩, ?_⟩
    · have := Lim.signed (b := !(b1 == b2)) hd1 ht1
      rw [HV1.out, HSV.out.1, ← h1.val, ← h2.val] at this
      exact this
    · have := Lim.signed (b := b1) hd3 ht3
      rw [HV3.out, HSV.out.2, ← h1.val, ← h2.val] at this
      exact this
    · exact below_set2 (below_set2 (hb0.trans ((hb1.trans (hb13.mono hb1.size)).mono hb0.size)) (by omega) _ _) (by omega) _ _

end Go.Proofs.YtldcjkhbiffdoabGreatDoor
