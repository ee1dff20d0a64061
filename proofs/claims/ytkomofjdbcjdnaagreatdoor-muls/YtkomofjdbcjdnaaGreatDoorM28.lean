import Derived.Test.YtkomofjdbcjdnaaGreatDoorM27
import Derived.Test.YtkomofjdbcjdnaaGreatDoorM18
import Derived.Test.YtkomofjdbcjdnaaGreatDoorM21
import Derived.Test.YtkomofjdbcjdnaaGreatDoorM22
import Derived.Test.YtkomofjdbcjdnaaGreatDoorM19

/-
  poly.Divide.
-/
namespace Go.Proofs.YtkomofjdbcjdnaaGreatDoor
open Go.RowKit

/-- What the division answers. -/
def DivV (w' : World) (b a0 : List Int) (p : Value) (er : Int) : Prop :=
  (b = [] ∧ er = 4 ∧ p = .pointer none) ∨ (b ≠ [] ∧ dvs b (a0.length + 1 - b.length) a0 = none ∧ er = 5 ∧ p = .pointer none) ∨ (b ≠ [] ∧ ∃ Q, dvs b (a0.length + 1 - b.length) a0 = some Q ∧ BoundedV w' (tz Q) p er)

set_option maxRecDepth 100000 in
set_option maxHeartbeats 4000000 in
theorem divideP_any (xs ys : List Int) (u v : Value) (w : World) (hu : IsP w u xs) (hv : IsP w v ys) (hx : inB xs = true) (hy : inB ys = true) (tx : Tr xs) (ht : Tab w) :
    Calls Tryz.prog 33 #[u, v] w fun e w' => ∃ p er, e = .returned (.tuple #[p, .int .i64 er]) ∧ DivV w' ys xs p er ∧ Below w.heap.size w w' := by
  obtain ⟨k1, a1, c1, rfl, hk1, q1, hL1⟩ := hu.open
  obtain ⟨k2, a2, c2, rfl, hk2, q2, hL2⟩ := hv.open
  have lx := inB_len hx
  have ly := inB_len hy
  have bx := inB_bd hx
  have bY := inB_bd hy
  by_cases h0 : ys = []
  · subst h0
    have hl0 : ([] : List Int).length = 0 := rfl
    rw [hl0] at q2
    clear hu hv hL1 hL2 bx bY
    go_enter Tryz.func33, Tryz.ntmps33
    go_wp2
    go_ret2
    exact ⟨_, _, rfl, .inl ⟨rfl, rfl, rfl⟩, Below.refl _ _⟩
  · have hpos := List.length_pos_iff.2 h0
    have hne : ¬ ys.length = 0 := by omega
    have hlv := fun N (Q : List Int) (_h : dvs ys N xs = some Q) => (trivial : True)
    have hN : (xs.length + 1 - ys.length) * 13 ≤ 143 := Nat.mul_le_mul (show xs.length + 1 - ys.length ≤ 11 by omega) (Nat.le_refl 13)
    have hQ := fun (W : World) (h : Below w.heap.size w W) => quotientOf_any xs ys 12 12 _ _ W (OwnL.below hL1 h) (OwnL.below hL2 h) (by omega) (by omega) bx bY (by omega) tx h0
    have hE : 12 + (xs.length + 1 - ys.length) * (12 + 1) ≤ 80000000 := by omega
    have HQ : Hid _ := hQ
    have HE : Hid _ := hE
    obtain ⟨T, HT⟩ : ∃ T : World → Value → Int → Prop, Hid (T = fun w' p er => DivV w' ys xs p er) := ⟨_, rfl⟩
    have hgoal : (fun (e : Ending) (w' : World) => ∃ p er, e = .returned (.tuple #[p, .int .i64 er]) ∧ DivV w' ys xs p er ∧ Below w.heap.size w w') = fun e w' => ∃ p er, e = .returned (.tuple #[p, .int .i64 er]) ∧ T w' p er ∧ Below w.heap.size w w' := by rw [HT.out]
    rw [hgoal]
    clear hgoal hQ hE hlv hN
    have hbd : Below w.heap.size w w.drew := ⟨rfl, rfl, rfl, Nat.le_refl _, fun _ _ => rfl⟩
    go_enter Tryz.func33, Tryz.ntmps33
    go_wp2_with fail
    refine wp_region_held_drew (S := fun w' => w'.cell? ⟨k1, 0, none⟩ = some (.slice a1 xs.length c1) ∧ w'.cell? ⟨k2, 0, none⟩ = some (.slice a2 ys.length c2)) (by kernel_rfl) ⟨q1, q2⟩ fun hS => ?_
    refine h_take 0 15 (.pointer (some ⟨k1, 0, none⟩)) rfl rfl (by kernel_rfl) (by kernel_rfl) (by kernel_rfl) (fun _ _ _ h => h) rfl (fun _ _ => by first | rfl | go_simp) hS ?_
    simp only [Act.put, List.setIfInBounds_toArray, List.set_cons_succ, List.set_cons_zero]
    refine h_take 1 16 (.pointer (some ⟨k1, 0, none⟩)) rfl rfl (by kernel_rfl) (by kernel_rfl) (by kernel_rfl) (fun _ _ _ h => h) rfl (fun _ _ => by first | rfl | go_simp) hS ?_
    simp only [Act.put, List.setIfInBounds_toArray, List.set_cons_succ, List.set_cons_zero]
    refine h_take 2 17 (.pointer (some ⟨k1, 0, none⟩)) rfl rfl (by kernel_rfl) (by kernel_rfl) (by kernel_rfl) (fun _ _ _ h => h) rfl (fun _ _ => by first | rfl | go_simp) hS ?_
    simp only [Act.put, List.setIfInBounds_toArray, List.set_cons_succ, List.set_cons_zero]
    refine h_take 3 18 (.slice a1 xs.length c1) rfl rfl (by kernel_rfl) (by kernel_rfl) (by kernel_rfl) (fun _ _ _ h => h) rfl (fun w' hw' => by obtain ⟨y0, y1⟩ := hw'; go_simp) hS ?_
    simp only [Act.put, List.setIfInBounds_toArray, List.set_cons_succ, List.set_cons_zero]
    refine h_take 4 19 (.pointer (some ⟨k2, 0, none⟩)) rfl rfl (by kernel_rfl) (by kernel_rfl) (by kernel_rfl) (fun _ _ _ h => h) rfl (fun _ _ => by first | rfl | go_simp) hS ?_
    simp only [Act.put, List.setIfInBounds_toArray, List.set_cons_succ, List.set_cons_zero]
    refine h_take 5 20 (.pointer (some ⟨k2, 0, none⟩)) rfl rfl (by kernel_rfl) (by kernel_rfl) (by kernel_rfl) (fun _ _ _ h => h) rfl (fun _ _ => by first | rfl | go_simp) hS ?_
    simp only [Act.put, List.setIfInBounds_toArray, List.set_cons_succ, List.set_cons_zero]
    refine h_take 6 21 (.pointer (some ⟨k2, 0, none⟩)) rfl rfl (by kernel_rfl) (by kernel_rfl) (by kernel_rfl) (fun _ _ _ h => h) rfl (fun _ _ => by first | rfl | go_simp) hS ?_
    simp only [Act.put, List.setIfInBounds_toArray, List.set_cons_succ, List.set_cons_zero]
    refine h_take 7 22 (.slice a2 ys.length c2) rfl rfl (by kernel_rfl) (by kernel_rfl) (by kernel_rfl) (fun _ _ _ h => h) rfl (fun w' hw' => by obtain ⟨y0, y1⟩ := hw'; go_simp) hS ?_
    simp only [Act.put, List.setIfInBounds_toArray, List.set_cons_succ, List.set_cons_zero]
    refine h_call 8 23 64 #[.slice a1 xs.length c1, .slice a2 ys.length c2] rfl rfl (by kernel_rfl) rfl (by go_simp) ?_
    refine (HQ.out _ hbd).mono ?_
    rintro en w1 ⟨x1, fl, rfl, hQV, hb1⟩
    have hb1w : Below w.heap.size w w1 := hbd.trans hb1
    have hS : w1.cell? ⟨k1, 0, none⟩ = some (.slice a1 xs.length c1) ∧ w1.cell? ⟨k2, 0, none⟩ = some (.slice a2 ys.length c2) := ⟨(hb1w.cell (p := ⟨k1, 0, none⟩) hk1).trans q1, (hb1w.cell (p := ⟨k2, 0, none⟩) hk2).trans q2⟩
    refine ⟨_, rfl, hS, ?_⟩
    simp only [Act.put, List.setIfInBounds_toArray, List.set_cons_succ, List.set_cons_zero]
    refine h_take 9 14 (.tuple #[x1, .bool fl]) rfl rfl (by kernel_rfl) (by kernel_rfl) (by kernel_rfl) (fun _ _ _ h => h) rfl (fun _ _ => by first | rfl | go_simp) hS ?_
    simp only [Act.put, List.setIfInBounds_toArray, List.set_cons_succ, List.set_cons_zero]
    refine h_take 10 24 (x1) rfl rfl (by kernel_rfl) (by kernel_rfl) (by kernel_rfl) (fun _ _ _ h => h) rfl (fun _ _ => by first | rfl | go_simp) hS ?_
    simp only [Act.put, List.setIfInBounds_toArray, List.set_cons_succ, List.set_cons_zero]
    refine h_take 11 25 (.bool fl) rfl rfl (by kernel_rfl) (by kernel_rfl) (by kernel_rfl) (fun _ _ _ h => h) rfl (fun _ _ => by first | rfl | go_simp) hS ?_
    simp only [Act.put, List.setIfInBounds_toArray, List.set_cons_succ, List.set_cons_zero]
    refine h_take 12 6 (x1) rfl rfl (by kernel_rfl) (by kernel_rfl) (by kernel_rfl) (fun _ _ _ h => h) rfl (fun _ _ => by first | rfl | go_simp) hS ?_
    simp only [Act.put, List.setIfInBounds_toArray, List.set_cons_succ, List.set_cons_zero]
    refine h_take 13 7 (.bool fl) rfl rfl (by kernel_rfl) (by kernel_rfl) (by kernel_rfl) (fun _ _ _ h => h) rfl (fun _ _ => by first | rfl | go_simp) hS ?_
    simp only [Act.put, List.setIfInBounds_toArray, List.set_cons_succ, List.set_cons_zero]
    refine wpAnyH_done (by kernel_rfl) ?_ _
    rcases hQV with ⟨rfl, Q, hd, hIQ, hbQ⟩ | ⟨rfl, hd⟩
    · have hlQ : Q.length ≤ 1000 := by
        rw [dvs_len hd]; omega
      have hB := bounded2_any Q x1 w1 hIQ (by omega) (hbQ.fitW HE.out) (ht.below hb1w)
      obtain ⟨qa, qc, rfl⟩ := OwnL.val hIQ
      go_wp2_with fail
      refine hB.mono ?_
      rintro en w2 ⟨p, er, rfl, hBV, hb2⟩
      go_wp2
      go_ret2
      refine ⟨_, _, rfl, ?_, hb1w.trans (hb2.mono hb1w.size)⟩
      rw [HT.out]
      exact .inr (.inr ⟨h0, Q, hd, hBV⟩)
    · go_wp2
      go_ret2
      refine ⟨_, _, rfl, ?_, hb1w⟩
      rw [HT.out]
      exact .inr (.inl ⟨h0, hd, rfl, rfl⟩)

end Go.Proofs.YtkomofjdbcjdnaaGreatDoor

/-
  factorlaw.two and factorlaw.shifted. (Written by wip/gen_law.py.)
-/
namespace Go.Proofs.YtkomofjdbcjdnaaGreatDoor
open Go.RowKit

theorem gfun_len : ∀ (n : Nat) (A B : List Int), (gfun n A B).length ≤ A.length + B.length
  | 0, A, B => by unfold gfun; split <;> omega
  | n + 1, A, B => by
    unfold gfun
    split
    · omega
    · rename_i hA
      split
      · omega
      · rename_i hB
        have hA1 := List.length_pos_iff.2 hA
        have hB1 := List.length_pos_iff.2 hB
        split
        · rename_i h
          have h1 := gfun_len n (prim (elim B A)) A
          have h2 := elim_len hA1 (Nat.le_of_lt h)
          rw [prim_len] at h1
          omega
        · have h1 := gfun_len n (prim (elim A B)) B
          have h2 := elim_len hB1 (show B.length ≤ A.length by omega)
          rw [prim_len] at h1
          omega

theorem fgcd_len (a b : List Int) : (fgcd a b).length ≤ a.length + b.length + 1 := by
  unfold fgcd
  have h1 := pmul_len (pgcd a b) [(Nat.gcd (cont a) (cont b) : Int)]
  have h2 := gfun_len (a.length + b.length) (prim a) (prim b)
  rw [prim_len, prim_len] at h2
  unfold pgcd at *
  have h3 : [(Nat.gcd (cont a) (cont b) : Int)].length = 1 := rfl
  omega

theorem two_newQ {w W0 : World} {a b c d : Value} (h : (w.alloc (.cells #[a, b] 35)).alloc (.cells #[c, d] 35) = W0) :
    w.heap.size + 1 < W0.heap.size ∧ Below w.heap.size w W0 ∧ W0.heap[w.heap.size]? = some (.cells #[a, b] 35 (0, 0)) ∧ W0.heap[w.heap.size + 1]? = some (.cells #[c, d] 35 (0, 0)) := by
  subst h
  have hb1 := below_one (w.alloc (.cells #[a, b] 35)) (.cells #[c, d] 35)
  refine ⟨by simp, ((Below.refl _ _).alloc (Nat.le_refl _) _).alloc (by simp) _, ?_, ?_⟩
  · rw [hb1.block _ (by simp)]; exact heap_alloc_new w _
  · have := heap_alloc_new (w.alloc (.cells #[a, b] 35)) (.cells #[c, d] 35)
    simpa using this

section
variable {w : World} {k : Nat} {a b : Value} {e : TypeId}
theorem w2_0 (h : w.heap[k]? = some (.cells #[a, b] e (0, 0))) : w.cell? ⟨k, 0, none⟩ = some a := by simp [World.cell?, h]
theorem w2_1 (h : w.heap[k]? = some (.cells #[a, b] e (0, 0))) : w.cell? ⟨k, 1, none⟩ = some b := by simp [World.cell?, h]
end

theorem both_of {w1 w3 : World} {t : List Int} {x m : Value} {er f : Int} (h1 : BoundedV w1 t x er) (hb : Below w1.heap.size w1 w3) (h2 : RB w3 t m f) (ht : Tr t) : BothV w3 x er m f := by
  rcases h1 with ⟨i1, rfl, hp⟩ | ⟨i1, rfl, rfl⟩
  · rcases h2 with ⟨i2, rfl, hn⟩ | ⟨i2, rfl, rfl⟩
    · exact .inl ⟨rfl, rfl, t, ⟨hp.below hb, hn, ht, i1⟩⟩
    · rw [i1] at i2; cases i2
  · rcases h2 with ⟨i2, rfl, hn⟩ | ⟨i2, rfl, rfl⟩
    · rw [i1] at i2; cases i2
    · exact .inr ⟨by decide, rfl, rfl⟩

theorem both_div {w1 w3 : World} {a b : List Int} {x m : Value} {er f : Int} (h1 : DivV w1 b a x er) (hb : Below w1.heap.size w1 w3) (h2 : RD w3 b a m f) : BothV w3 x er m f := by
  rcases h1 with ⟨i1, rfl, rfl⟩ | ⟨i1, d1, rfl, rfl⟩ | ⟨i1, Q, d1, h1⟩
  · rcases h2 with ⟨_, rfl⟩ | ⟨i2, _⟩ | ⟨i2, _⟩
    · exact .inr ⟨by decide, rfl, rfl⟩
    · exact absurd i1 i2
    · exact absurd i1 i2
  · rcases h2 with ⟨i2, _⟩ | ⟨_, _, rfl⟩ | ⟨_, Q, d2, _⟩
    · exact absurd i2 i1
    · exact .inr ⟨by decide, rfl, rfl⟩
    · rw [d1] at d2; cases d2
  · rcases h2 with ⟨i2, _⟩ | ⟨_, d2, _⟩ | ⟨_, Q2, d2, h2⟩
    · exact absurd i2 i1
    · rw [d1] at d2; cases d2
    · rw [d1] at d2
      cases d2
      exact both_of h1 hb h2 (tr_tz _)

/-- How a step ends. -/
def StepOK (B k : Nat) (ps : List (List Int)) (w : World) (en : Ending) (w' : World) : Prop := en = .returned (.bool true) ∧ (∃ ps', IsW B w' k ps' ∧ ps'.length ≤ ps.length + 1) ∧ Kq B w w'

theorem StepOK.from {B k : Nat} {ps : List (List Int)} {w0 w : World} {en : Ending} {w' : World} (h : StepOK B k ps w en w') (hk : Below w0.heap.size w0 w) (hB : B ≤ w0.heap.size) : StepOK B k ps w0 en w' := ⟨h.1, h.2.1, (Kg.of hk hB).trans h.2.2⟩

theorem keepS_any (B k : Nat) (ps : List (List Int)) (x m : Value) (e f : Int) (w : World) (hW : IsW B w k ps) (hV : BothV w x e m f) (hlen : ps.length ≤ 10000000) (hB : B ≤ k) (ht : TabB B w) :
    Calls Tryz.prog 25 #[.pointer (some ⟨k, 0, none⟩), x, .int .i64 e, m, .int .i64 f] w fun en w' => StepOK B k ps w en w' := keep_any B k ps x m e f w hW hV hlen hB ht

set_option maxRecDepth 100000 in
set_option maxHeartbeats 4000000 in
theorem two3_any (B k : Nat) (ps : List (List Int)) (x1 m1 x2 m2 : Value) (p q : List Int) (w : World) (hW : IsW B w k ps) (h1 : PairOK w x1 m1 p) (h2 : PairOK w x2 m2 q) (hlen : ps.length ≤ 10000000) (hB : B ≤ k) (ht : TabB B w) :
    Calls Tryz.prog 18 #[.pointer (some ⟨k, 0, none⟩), .int .i64 3, .agg #[x1, m1], .agg #[x2, m2]] w fun en w' => StepOK B k ps w en w' := by
  have hkw : B ≤ w.heap.size := by obtain ⟨a, c, hh, _⟩ := hW; have := lt_of_block hh; omega
  obtain ⟨k1, v1, rfl, _, _⟩ := id h1.p
  obtain ⟨k2, v2, rfl, _, _⟩ := id h2.p
  obtain ⟨a1, c1, rfl⟩ := OwnLN.val h1.n
  obtain ⟨a2, c2, rfl⟩ := OwnLN.val h2.n
  have lx := inB_len h1.ib
  have ly := inB_len h2.ib
  have bx := inB_bd h1.ib
  have bY := inB_bd h2.ib
  have hP := fun (W : World) (h : Below w.heap.size w W) => addP_any p q _ _ W (h1.p.below h) (h2.p.below h) h1.ib h2.ib ((ht.below h hkw).tab (by have := h.size; omega))
  have hR := fun (W : World) (h : Below w.heap.size w W) => addR_any p q _ _ W (OwnLN.below h1.n h) (OwnLN.below h2.n h) (by omega) (by omega) (bx.fitL (by omega)) (bY.fitL (by omega))
  have hBo := fun (W : World) (u : Value) (g : IsLN W u (padd p q)) => boundedL_any (padd p q) u W g (by have := padd_len p q; omega)
  have hTr : Tr (padd p q) := padd_tr _ _
  rw [show tz (sumTo p q (max p.length q.length)) = padd p q from rfl] at hR
  generalize padd p q = T at *
  have HP : Hid _ := hP
  have HR : Hid _ := hR
  have HBo : Hid _ := hBo
  clear hP hR hBo bx bY
  have hK := fun (W : World) (x m : Value) (e f : Int) (h : Below w.heap.size w W) (hV : BothV W x e m f) => (keepS_any B k ps x m e f W (hW.below h) hV hlen hB (ht.below h hkw)).mono (fun en w' hs => hs.from h hkw)
  have HK : Hid _ := hK
  clear hK
  obtain ⟨PO, HPO⟩ : ∃ PO : Ending → World → Prop, Hid (PO = fun en w' => StepOK B k ps w en w') := ⟨_, rfl⟩
  rw [← HPO.out] at HK
  rw [← HPO.out]
  go_enter Tryz.func18, Tryz.ntmps18
  go_wp2_with fail
  generalize hW0 : (w.alloc (Obj.cells #[Value.pointer (some ⟨k1, 0, none⟩), Value.slice a1 p.length c1] 35)).alloc (Obj.cells #[Value.pointer (some ⟨k2, 0, none⟩), Value.slice a2 q.length c2] 35) = W0
  obtain ⟨hs0, hb0, X1, X2⟩ := two_newQ hW0
  clear hW0
  refine (HP.out W0 hb0).mono ?_
  rintro en w1 ⟨x, er, rfl, hBV, hb1⟩
  have hb1w := hb0.trans (hb1.mono hb0.size)
  have q1 := w2_1 ((hb1.block w.heap.size (by omega)).trans X1)
  have q2 := w2_1 ((hb1.block (w.heap.size + 1) (by omega)).trans X2)
  have hs1 : w.heap.size + 1 < w1.heap.size := by have := hb1.size; omega
  go_wp2_with fail
  refine (HR.out w1 hb1w).mono ?_
  rintro en w2 ⟨y, rfl, hI2, hb2⟩
  obtain ⟨ya, yc, rfl⟩ := OwnLN.val hI2
  have hb2w := hb1w.trans (hb2.mono hb1w.size)
  go_wp2_with fail
  refine (HBo.out w2 _ hI2).mono ?_
  rintro en w3 ⟨m, f, rfl, hRB, hb3⟩
  have hb23 := hb2.trans (hb3.mono hb2.size)
  have hb3w := hb1w.trans (hb23.mono hb1w.size)
  go_wp2_with fail
  refine (HK.out w3 x m er f hb3w (both_of hBV hb23 hRB hTr)).mono ?_
  rintro en w4 hpo
  have hpo' := hpo
  rw [HPO.out] at hpo'
  obtain ⟨rfl, _⟩ := hpo'
  go_wp2
  exact hpo

set_option maxRecDepth 100000 in
set_option maxHeartbeats 4000000 in
theorem two5_any (B k : Nat) (ps : List (List Int)) (x1 m1 x2 m2 : Value) (p q : List Int) (w : World) (hW : IsW B w k ps) (h1 : PairOK w x1 m1 p) (h2 : PairOK w x2 m2 q) (hlen : ps.length ≤ 10000000) (hB : B ≤ k) (ht : TabB B w) :
    Calls Tryz.prog 18 #[.pointer (some ⟨k, 0, none⟩), .int .i64 5, .agg #[x1, m1], .agg #[x2, m2]] w fun en w' => StepOK B k ps w en w' := by
  have hkw : B ≤ w.heap.size := by obtain ⟨a, c, hh, _⟩ := hW; have := lt_of_block hh; omega
  obtain ⟨k1, v1, rfl, _, _⟩ := id h1.p
  obtain ⟨k2, v2, rfl, _, _⟩ := id h2.p
  obtain ⟨a1, c1, rfl⟩ := OwnLN.val h1.n
  obtain ⟨a2, c2, rfl⟩ := OwnLN.val h2.n
  have lx := inB_len h1.ib
  have ly := inB_len h2.ib
  have bx := inB_bd h1.ib
  have bY := inB_bd h2.ib
  have hP := fun (W : World) (h : Below w.heap.size w W) => mulP_any p q _ _ W (h1.p.below h) (h2.p.below h) h1.ib h2.ib ((ht.below h hkw).tab (by have := h.size; omega))
  have hR := fun (W : World) (h : Below w.heap.size w W) => mulR_any p q 12 12 _ _ W (OwnLN.below h1.n h) (OwnLN.below h2.n h) (by omega) (by omega) bx bY (by omega)
  have hBo := fun (W : World) (u : Value) (g : IsLN W u (pmul p q)) => boundedL_any (pmul p q) u W g (by have := pmul_len p q; omega)
  have hTr : Tr (pmul p q) := pmul_tr _ _
  generalize pmul p q = T at *
  have HP : Hid _ := hP
  have HR : Hid _ := hR
  have HBo : Hid _ := hBo
  clear hP hR hBo bx bY
  have hK := fun (W : World) (x m : Value) (e f : Int) (h : Below w.heap.size w W) (hV : BothV W x e m f) => (keepS_any B k ps x m e f W (hW.below h) hV hlen hB (ht.below h hkw)).mono (fun en w' hs => hs.from h hkw)
  have HK : Hid _ := hK
  clear hK
  obtain ⟨PO, HPO⟩ : ∃ PO : Ending → World → Prop, Hid (PO = fun en w' => StepOK B k ps w en w') := ⟨_, rfl⟩
  rw [← HPO.out] at HK
  rw [← HPO.out]
  go_enter Tryz.func18, Tryz.ntmps18
  go_wp2_with fail
  generalize hW0 : (w.alloc (Obj.cells #[Value.pointer (some ⟨k1, 0, none⟩), Value.slice a1 p.length c1] 35)).alloc (Obj.cells #[Value.pointer (some ⟨k2, 0, none⟩), Value.slice a2 q.length c2] 35) = W0
  obtain ⟨hs0, hb0, X1, X2⟩ := two_newQ hW0
  clear hW0
  refine (HP.out W0 hb0).mono ?_
  rintro en w1 ⟨x, er, rfl, hBV, hb1⟩
  have hb1w := hb0.trans (hb1.mono hb0.size)
  have q1 := w2_1 ((hb1.block w.heap.size (by omega)).trans X1)
  have q2 := w2_1 ((hb1.block (w.heap.size + 1) (by omega)).trans X2)
  have hs1 : w.heap.size + 1 < w1.heap.size := by have := hb1.size; omega
  go_wp2_with fail
  refine (HR.out w1 hb1w).mono ?_
  rintro en w2 ⟨y, rfl, hI2, hb2⟩
  obtain ⟨ya, yc, rfl⟩ := OwnLN.val hI2
  have hb2w := hb1w.trans (hb2.mono hb1w.size)
  go_wp2_with fail
  refine (HBo.out w2 _ hI2).mono ?_
  rintro en w3 ⟨m, f, rfl, hRB, hb3⟩
  have hb23 := hb2.trans (hb3.mono hb2.size)
  have hb3w := hb1w.trans (hb23.mono hb1w.size)
  go_wp2_with fail
  refine (HK.out w3 x m er f hb3w (both_of hBV hb23 hRB hTr)).mono ?_
  rintro en w4 hpo
  have hpo' := hpo
  rw [HPO.out] at hpo'
  obtain ⟨rfl, _⟩ := hpo'
  go_wp2
  exact hpo

set_option maxRecDepth 100000 in
set_option maxHeartbeats 4000000 in
theorem two7_any (B k : Nat) (ps : List (List Int)) (x1 m1 x2 m2 : Value) (p q : List Int) (w : World) (hW : IsW B w k ps) (h1 : PairOK w x1 m1 p) (h2 : PairOK w x2 m2 q) (hlen : ps.length ≤ 10000000) (hB : B ≤ k) (ht : TabB B w) :
    Calls Tryz.prog 18 #[.pointer (some ⟨k, 0, none⟩), .int .i64 7, .agg #[x1, m1], .agg #[x2, m2]] w fun en w' => StepOK B k ps w en w' := by
  have hkw : B ≤ w.heap.size := by obtain ⟨a, c, hh, _⟩ := hW; have := lt_of_block hh; omega
  obtain ⟨k1, v1, rfl, _, _⟩ := id h1.p
  obtain ⟨k2, v2, rfl, _, _⟩ := id h2.p
  obtain ⟨a1, c1, rfl⟩ := OwnLN.val h1.n
  obtain ⟨a2, c2, rfl⟩ := OwnLN.val h2.n
  have lx := inB_len h1.ib
  have ly := inB_len h2.ib
  have bx := inB_bd h1.ib
  have bY := inB_bd h2.ib
  have hP := fun (W : World) (h : Below w.heap.size w W) => gcdP_any p q _ _ W (h1.p.below h) (h2.p.below h) h1.ib h2.ib h1.tr h2.tr ((ht.below h hkw).tab (by have := h.size; omega))
  have hR := fun (W : World) (h : Below w.heap.size w W) => gcdR_any p q _ _ W (OwnLN.below h1.n h) (OwnLN.below h2.n h) lx ly bx bY h1.tr h2.tr
  have hBo := fun (W : World) (u : Value) (g : IsLN W u (fgcd p q)) => boundedL_any (fgcd p q) u W g (by have := fgcd_len p q; omega)
  have hTr : Tr (fgcd p q) := pmul_tr _ _
  generalize fgcd p q = T at *
  have HP : Hid _ := hP
  have HR : Hid _ := hR
  have HBo : Hid _ := hBo
  clear hP hR hBo bx bY
  have hK := fun (W : World) (x m : Value) (e f : Int) (h : Below w.heap.size w W) (hV : BothV W x e m f) => (keepS_any B k ps x m e f W (hW.below h) hV hlen hB (ht.below h hkw)).mono (fun en w' hs => hs.from h hkw)
  have HK : Hid _ := hK
  clear hK
  obtain ⟨PO, HPO⟩ : ∃ PO : Ending → World → Prop, Hid (PO = fun en w' => StepOK B k ps w en w') := ⟨_, rfl⟩
  rw [← HPO.out] at HK
  rw [← HPO.out]
  go_enter Tryz.func18, Tryz.ntmps18
  go_wp2_with fail
  generalize hW0 : (w.alloc (Obj.cells #[Value.pointer (some ⟨k1, 0, none⟩), Value.slice a1 p.length c1] 35)).alloc (Obj.cells #[Value.pointer (some ⟨k2, 0, none⟩), Value.slice a2 q.length c2] 35) = W0
  obtain ⟨hs0, hb0, X1, X2⟩ := two_newQ hW0
  clear hW0
  refine (HP.out W0 hb0).mono ?_
  rintro en w1 ⟨x, er, rfl, hBV, hb1⟩
  have hb1w := hb0.trans (hb1.mono hb0.size)
  have q1 := w2_1 ((hb1.block w.heap.size (by omega)).trans X1)
  have q2 := w2_1 ((hb1.block (w.heap.size + 1) (by omega)).trans X2)
  have hs1 : w.heap.size + 1 < w1.heap.size := by have := hb1.size; omega
  go_wp2_with fail
  refine (HR.out w1 hb1w).mono ?_
  rintro en w2 ⟨y, rfl, hI2, hb2⟩
  obtain ⟨ya, yc, rfl⟩ := OwnLN.val hI2
  have hb2w := hb1w.trans (hb2.mono hb1w.size)
  go_wp2_with fail
  refine (HBo.out w2 _ hI2).mono ?_
  rintro en w3 ⟨m, f, rfl, hRB, hb3⟩
  have hb23 := hb2.trans (hb3.mono hb2.size)
  have hb3w := hb1w.trans (hb23.mono hb1w.size)
  go_wp2_with fail
  refine (HK.out w3 x m er f hb3w (both_of hBV hb23 hRB hTr)).mono ?_
  rintro en w4 hpo
  have hpo' := hpo
  rw [HPO.out] at hpo'
  obtain ⟨rfl, _⟩ := hpo'
  go_wp2
  exact hpo

set_option maxRecDepth 100000 in
set_option maxHeartbeats 4000000 in
theorem two6_any (B k : Nat) (ps : List (List Int)) (x1 m1 x2 m2 : Value) (p q : List Int) (w : World) (hW : IsW B w k ps) (h1 : PairOK w x1 m1 p) (h2 : PairOK w x2 m2 q) (hlen : ps.length ≤ 10000000) (hB : B ≤ k) (ht : TabB B w) :
    Calls Tryz.prog 18 #[.pointer (some ⟨k, 0, none⟩), .int .i64 6, .agg #[x1, m1], .agg #[x2, m2]] w fun en w' => StepOK B k ps w en w' := by
  have hkw : B ≤ w.heap.size := by obtain ⟨a, c, hh, _⟩ := hW; have := lt_of_block hh; omega
  obtain ⟨k1, v1, rfl, _, _⟩ := id h1.p
  obtain ⟨k2, v2, rfl, _, _⟩ := id h2.p
  obtain ⟨a1, c1, rfl⟩ := OwnLN.val h1.n
  obtain ⟨a2, c2, rfl⟩ := OwnLN.val h2.n
  have lx := inB_len h1.ib
  have ly := inB_len h2.ib
  have bx := inB_bd h1.ib
  have bY := inB_bd h2.ib
  have hP := fun (W : World) (h : Below w.heap.size w W) => divideP_any p q _ _ W (h1.p.below h) (h2.p.below h) h1.ib h2.ib h1.tr ((ht.below h hkw).tab (by have := h.size; omega))
  have hR := fun (W : World) (h : Below w.heap.size w W) => divided_any p q _ _ W (OwnLN.below h1.n h) (OwnLN.below h2.n h) h1.ib h2.ib h1.tr h2.tr
  have hboth := fun (w1 w3 : World) (x m : Value) (er f : Int) (g1 : DivV w1 q p x er) (g2 : Below w1.heap.size w1 w3) (g3 : RD w3 q p m f) => both_div g1 g2 g3
  have HBOTH : Hid _ := hboth
  obtain ⟨D1, HD1⟩ : ∃ D1 : World → Value → Int → Prop, Hid (D1 = fun w' p' er => DivV w' q p p' er) := ⟨_, rfl⟩
  obtain ⟨D2, HD2⟩ : ∃ D2 : World → Value → Int → Prop, Hid (D2 = fun w' m f => RD w' q p m f) := ⟨_, rfl⟩
  have hP2 : ∀ (W : World), Below w.heap.size w W → Calls Tryz.prog 33 #[.pointer (some ⟨k1, 0, none⟩), .pointer (some ⟨k2, 0, none⟩)] W fun e w' => ∃ p' er, e = .returned (.tuple #[p', .int .i64 er]) ∧ D1 w' p' er ∧ Below W.heap.size W w' := by rw [HD1.out]; exact hP
  have hR2 : ∀ (W : World), Below w.heap.size w W → Calls Tryz.prog 34 #[.slice a1 p.length c1, .slice a2 q.length c2] W fun e w' => ∃ m f, e = .returned (.tuple #[m, .int .i64 f]) ∧ D2 w' m f ∧ Below W.heap.size W w' := by rw [HD2.out]; exact hR
  have HP : Hid _ := hP2
  have HR : Hid _ := hR2
  clear hP hR hP2 hR2 bx bY hboth
  have hK := fun (W : World) (x m : Value) (e f : Int) (h : Below w.heap.size w W) (hV : BothV W x e m f) => (keepS_any B k ps x m e f W (hW.below h) hV hlen hB (ht.below h hkw)).mono (fun en w' hs => hs.from h hkw)
  have HK : Hid _ := hK
  clear hK
  obtain ⟨PO, HPO⟩ : ∃ PO : Ending → World → Prop, Hid (PO = fun en w' => StepOK B k ps w en w') := ⟨_, rfl⟩
  rw [← HPO.out] at HK
  rw [← HPO.out]
  go_enter Tryz.func18, Tryz.ntmps18
  go_wp2_with fail
  generalize hW0 : (w.alloc (Obj.cells #[Value.pointer (some ⟨k1, 0, none⟩), Value.slice a1 p.length c1] 35)).alloc (Obj.cells #[Value.pointer (some ⟨k2, 0, none⟩), Value.slice a2 q.length c2] 35) = W0
  obtain ⟨hs0, hb0, X1, X2⟩ := two_newQ hW0
  clear hW0
  refine (HP.out W0 hb0).mono ?_
  rintro en w1 ⟨x, er, rfl, hBV, hb1⟩
  have hb1w := hb0.trans (hb1.mono hb0.size)
  have q1 := w2_1 ((hb1.block w.heap.size (by omega)).trans X1)
  have q2 := w2_1 ((hb1.block (w.heap.size + 1) (by omega)).trans X2)
  have hs1 : w.heap.size + 1 < w1.heap.size := by have := hb1.size; omega
  go_wp2_with fail
  refine (HR.out w1 hb1w).mono ?_
  rintro en w3 ⟨m, f, rfl, hRB, hb23⟩
  have hb3w := hb1w.trans (hb23.mono hb1w.size)
  have hBoth : BothV w3 x er m f := HBOTH.out w1 w3 x m er f (by rw [HD1.out] at hBV; exact hBV) hb23 (by rw [HD2.out] at hRB; exact hRB)
  clear hBV hRB HBOTH HD1 HD2
  go_wp2_with fail
  refine (HK.out w3 x m er f hb3w hBoth).mono ?_
  rintro en w4 hpo
  have hpo' := hpo
  rw [HPO.out] at hpo'
  obtain ⟨rfl, _⟩ := hpo'
  go_wp2
  exact hpo

set_option maxRecDepth 100000 in
set_option maxHeartbeats 4000000 in
theorem two4_any (B k : Nat) (ps : List (List Int)) (x1 m1 x2 m2 : Value) (p q : List Int) (w : World) (hW : IsW B w k ps) (h1 : PairOK w x1 m1 p) (h2 : PairOK w x2 m2 q) (hlen : ps.length ≤ 10000000) (hB : B ≤ k) (ht : TabB B w) :
    Calls Tryz.prog 18 #[.pointer (some ⟨k, 0, none⟩), .int .i64 4, .agg #[x1, m1], .agg #[x2, m2]] w fun en w' => StepOK B k ps w en w' := by
  have hkw : B ≤ w.heap.size := by obtain ⟨a, c, hh, _⟩ := hW; have := lt_of_block hh; omega
  obtain ⟨k1, v1, rfl, _, _⟩ := id h1.p
  obtain ⟨k2, v2, rfl, _, _⟩ := id h2.p
  obtain ⟨a1, c1, rfl⟩ := OwnLN.val h1.n
  obtain ⟨a2, c2, rfl⟩ := OwnLN.val h2.n
  have lx := inB_len h1.ib
  have ly := inB_len h2.ib
  have bx := inB_bd h1.ib
  have bY := inB_bd h2.ib
  have hP := fun (W : World) (h : Below w.heap.size w W) => subP_any p q _ _ W (h1.p.below h) (h2.p.below h) h1.ib h2.ib ((ht.below h hkw).tab (by have := h.size; omega))
  have hM := fun (W : World) (h : Below w.heap.size w W) => minusR_any q _ W (OwnLN.below h2.n h) (by omega) (bY.fitL (by omega))
  have hR := fun (W : World) (u : Value) (h : Below w.heap.size w W) (g : IsLN W u (q.map fun z => -z)) => addR_any p (q.map fun z => -z) _ u W (OwnLN.below h1.n h) g (by omega) (by simp; omega) (bx.fitL (by omega)) (bY.negs.fitL (by omega))
  rw [show tz (sumTo p (q.map fun z => -z) (max p.length (q.map fun z => -z).length)) = padd p (q.map fun z => -z) from rfl] at hR
  have hBo := fun (W : World) (u : Value) (g : IsLN W u (padd p (q.map fun z => -z))) => boundedL_any (padd p (q.map fun z => -z)) u W g (by have := padd_len p (q.map fun z => -z); rw [List.length_map] at this; omega)
  have hTr : Tr (padd p (q.map fun z => -z)) := padd_tr _ _
  generalize padd p (q.map fun z => -z) = T at *
  generalize (q.map fun z => -z) = nq at *
  have HP : Hid _ := hP
  have HM : Hid _ := hM
  have HR : Hid _ := hR
  have HBo : Hid _ := hBo
  clear hP hR hM hBo bx bY
  have hK := fun (W : World) (x m : Value) (e f : Int) (h : Below w.heap.size w W) (hV : BothV W x e m f) => (keepS_any B k ps x m e f W (hW.below h) hV hlen hB (ht.below h hkw)).mono (fun en w' hs => hs.from h hkw)
  have HK : Hid _ := hK
  clear hK
  obtain ⟨PO, HPO⟩ : ∃ PO : Ending → World → Prop, Hid (PO = fun en w' => StepOK B k ps w en w') := ⟨_, rfl⟩
  rw [← HPO.out] at HK
  rw [← HPO.out]
  go_enter Tryz.func18, Tryz.ntmps18
  go_wp2_with fail
  generalize hW0 : (w.alloc (Obj.cells #[Value.pointer (some ⟨k1, 0, none⟩), Value.slice a1 p.length c1] 35)).alloc (Obj.cells #[Value.pointer (some ⟨k2, 0, none⟩), Value.slice a2 q.length c2] 35) = W0
  obtain ⟨hs0, hb0, X1, X2⟩ := two_newQ hW0
  clear hW0
  refine (HP.out W0 hb0).mono ?_
  rintro en w1 ⟨x, er, rfl, hBV, hb1⟩
  have hb1w := hb0.trans (hb1.mono hb0.size)
  have q1 := w2_1 ((hb1.block w.heap.size (by omega)).trans X1)
  have q2 := w2_1 ((hb1.block (w.heap.size + 1) (by omega)).trans X2)
  have hs1 : w.heap.size + 1 < w1.heap.size := by have := hb1.size; omega
  have hbd : Below w1.heap.size w1 w1.drew := ⟨rfl, rfl, rfl, Nat.le_refl _, fun _ _ => rfl⟩
  have hSV : ∀ W, Below w1.heap.size w1 W → W.cell? ⟨w.heap.size, 1, none⟩ = some (.slice a1 p.length c1) ∧ W.cell? ⟨w.heap.size + 1, 1, none⟩ = some (.slice a2 q.length c2) := fun W h => ⟨(h.cell (p := ⟨w.heap.size, 1, none⟩) (show w.heap.size < w1.heap.size by omega)).trans q1, (h.cell (p := ⟨w.heap.size + 1, 1, none⟩) (show w.heap.size + 1 < w1.heap.size by omega)).trans q2⟩
  go_wp2_with fail
  refine wp_region_held_drew (S := fun W => W.cell? ⟨w.heap.size, 1, none⟩ = some (.slice a1 p.length c1) ∧ W.cell? ⟨w.heap.size + 1, 1, none⟩ = some (.slice a2 q.length c2)) (by kernel_rfl) (hSV _ hbd) fun hS => ?_
  have hbdw : Below w.heap.size w w1.drew := hb1w.trans (hbd.mono hb1w.size)
  generalize w1.drew = V1 at *
  refine h_take 0 44 (.pointer (some ⟨w.heap.size, 1, none⟩)) rfl rfl (by kernel_rfl) (by kernel_rfl) (by kernel_rfl) (fun _ _ _ h => h) rfl (fun _ _ => by first | rfl | go_simp) hS ?_
  simp only [Act.put, List.setIfInBounds_toArray, List.set_cons_succ, List.set_cons_zero]
  refine h_take 1 45 (.slice a1 p.length c1) rfl rfl (by kernel_rfl) (by kernel_rfl) (by kernel_rfl) (fun _ _ _ h => h) rfl (fun w' hw' => by obtain ⟨y0, y1⟩ := hw'; go_simp) hS ?_
  simp only [Act.put, List.setIfInBounds_toArray, List.set_cons_succ, List.set_cons_zero]
  refine h_take 2 46 (.pointer (some ⟨w.heap.size + 1, 1, none⟩)) rfl rfl (by kernel_rfl) (by kernel_rfl) (by kernel_rfl) (fun _ _ _ h => h) rfl (fun _ _ => by first | rfl | go_simp) hS ?_
  simp only [Act.put, List.setIfInBounds_toArray, List.set_cons_succ, List.set_cons_zero]
  refine h_take 3 47 (.slice a2 q.length c2) rfl rfl (by kernel_rfl) (by kernel_rfl) (by kernel_rfl) (fun _ _ _ h => h) rfl (fun w' hw' => by obtain ⟨y0, y1⟩ := hw'; go_simp) hS ?_
  simp only [Act.put, List.setIfInBounds_toArray, List.set_cons_succ, List.set_cons_zero]
  refine h_call 4 48 30 #[.slice a2 q.length c2] rfl rfl (by kernel_rfl) rfl (by go_simp) ?_
  refine (HM.out V1 hbdw).mono ?_
  rintro en w5 ⟨y5, rfl, hI5, hb5⟩
  obtain ⟨ya5, yc5, rfl⟩ := OwnLN.val hI5
  have hb5d := hbd.trans (hb5.mono hbd.size)
  refine ⟨_, rfl, hSV _ hb5d, ?_⟩
  simp only [Act.put, List.setIfInBounds_toArray, List.set_cons_succ, List.set_cons_zero]
  refine h_call 5 49 28 #[.slice a1 p.length c1, .slice ya5 nq.length yc5] rfl rfl (by kernel_rfl) rfl (by go_simp) ?_
  refine (HR.out w5 _ (hb1w.trans (hb5d.mono hb1w.size)) hI5).mono ?_
  rintro en w2 ⟨y, rfl, hI2, hb2⟩
  obtain ⟨ya, yc, rfl⟩ := OwnLN.val hI2
  have hb2d := hb5d.trans (hb2.mono hb5d.size)
  refine ⟨_, rfl, hSV _ hb2d, ?_⟩
  simp only [Act.put, List.setIfInBounds_toArray, List.set_cons_succ, List.set_cons_zero]
  refine h_call 6 50 27 #[.slice ya T.length yc] rfl rfl (by kernel_rfl) rfl (by go_simp) ?_
  refine (HBo.out w2 _ hI2).mono ?_
  rintro en w3 ⟨m, f, rfl, hRB, hb3⟩
  have hb23 := hb2d.trans (hb3.mono hb2d.size)
  have hb3w := hb1w.trans (hb23.mono hb1w.size)
  have hS := hSV _ hb23
  refine ⟨_, rfl, hS, ?_⟩
  simp only [Act.put, List.setIfInBounds_toArray, List.set_cons_succ, List.set_cons_zero]
  refine h_take 7 43 (.tuple #[m, .int .i64 f]) rfl rfl (by kernel_rfl) (by kernel_rfl) (by kernel_rfl) (fun _ _ _ h => h) rfl (fun _ _ => by first | rfl | go_simp) hS ?_
  simp only [Act.put, List.setIfInBounds_toArray, List.set_cons_succ, List.set_cons_zero]
  refine h_take 8 51 (m) rfl rfl (by kernel_rfl) (by kernel_rfl) (by kernel_rfl) (fun _ _ _ h => h) rfl (fun _ _ => by first | rfl | go_simp) hS ?_
  simp only [Act.put, List.setIfInBounds_toArray, List.set_cons_succ, List.set_cons_zero]
  refine h_take 9 52 (.int .i64 f) rfl rfl (by kernel_rfl) (by kernel_rfl) (by kernel_rfl) (fun _ _ _ h => h) rfl (fun _ _ => by first | rfl | go_simp) hS ?_
  simp only [Act.put, List.setIfInBounds_toArray, List.set_cons_succ, List.set_cons_zero]
  refine h_take 10 10 (m) rfl rfl (by kernel_rfl) (by kernel_rfl) (by kernel_rfl) (fun _ _ _ h => h) rfl (fun _ _ => by first | rfl | go_simp) hS ?_
  simp only [Act.put, List.setIfInBounds_toArray, List.set_cons_succ, List.set_cons_zero]
  refine h_take 11 12 (.int .i64 f) rfl rfl (by kernel_rfl) (by kernel_rfl) (by kernel_rfl) (fun _ _ _ h => h) rfl (fun _ _ => by first | rfl | go_simp) hS ?_
  simp only [Act.put, List.setIfInBounds_toArray, List.set_cons_succ, List.set_cons_zero]
  refine wpAnyH_done (by kernel_rfl) ?_ _
  go_wp2_with fail
  refine (HK.out w3 x m er f hb3w (both_of hBV hb23 hRB hTr)).mono ?_
  rintro en w4 hpo
  have hpo' := hpo
  rw [HPO.out] at hpo'
  obtain ⟨rfl, _⟩ := hpo'
  go_wp2
  exact hpo

theorem two_any (B k : Nat) (ps : List (List Int)) (kind : Int) (x1 m1 x2 m2 : Value) (p q : List Int) (w : World) (hW : IsW B w k ps) (h1 : PairOK w x1 m1 p) (h2 : PairOK w x2 m2 q) (hlen : ps.length ≤ 10000000) (hB : B ≤ k) (ht : TabB B w) (hk : kind = 3 ∨ kind = 4 ∨ kind = 5 ∨ kind = 6 ∨ kind = 7) :
    Calls Tryz.prog 18 #[.pointer (some ⟨k, 0, none⟩), .int .i64 kind, .agg #[x1, m1], .agg #[x2, m2]] w fun en w' => StepOK B k ps w en w' := by
  rcases hk with rfl | rfl | rfl | rfl | rfl
  · exact two3_any B k ps x1 m1 x2 m2 p q w hW h1 h2 hlen hB ht
  · exact two4_any B k ps x1 m1 x2 m2 p q w hW h1 h2 hlen hB ht
  · exact two5_any B k ps x1 m1 x2 m2 p q w hW h1 h2 hlen hB ht
  · exact two6_any B k ps x1 m1 x2 m2 p q w hW h1 h2 hlen hB ht
  · exact two7_any B k ps x1 m1 x2 m2 p q w hW h1 h2 hlen hB ht

set_option maxRecDepth 100000 in
set_option maxHeartbeats 4000000 in
theorem shifted_any (B k : Nat) (ps : List (List Int)) (s : Int) (x1 m1 : Value) (p : List Int) (w : World) (hW : IsW B w k ps) (h1 : PairOK w x1 m1 p) (hlen : ps.length ≤ 10000000) (hB : B ≤ k) (ht : TabB B w) :
    Calls Tryz.prog 19 #[.pointer (some ⟨k, 0, none⟩), .agg #[x1, m1], .int .i64 s] w fun en w' => StepOK B k ps w en w' := by
  have hkw : B ≤ w.heap.size := by obtain ⟨a, c, hh, _⟩ := hW; have := lt_of_block hh; omega
  obtain ⟨k1, v1, rfl, _, _⟩ := id h1.p
  obtain ⟨a1, c1, rfl⟩ := OwnLN.val h1.n
  have lx := inB_len h1.ib
  have bx := inB_bd h1.ib
  by_cases hs : s < -99 ∨ 99 < s
  · have hP := fun (W : World) => shiftP_err s (.pointer (some ⟨k1, 0, none⟩)) W hs
    have hcase : s < -99 ∨ (¬ s < -99 ∧ 99 < s) := by omega
    have HFIN : Hid (∀ (W : World), Below w.heap.size w W → StepOK B k ps w (.returned (.bool true)) W) := fun W h => ⟨rfl, ⟨ps, hW.below h, by omega⟩, Kg.of h hkw⟩
    have HP : Hid _ := hP
    clear hP hs
    rcases hcase with hc | ⟨hc0, hc⟩
    · go_enter Tryz.func19, Tryz.ntmps19
      go_wp2_with fail
      have hb0 := below_one w (Obj.cells #[Value.pointer (some ⟨k1, 0, none⟩), Value.slice a1 p.length c1] 35)
      generalize w.alloc (Obj.cells #[Value.pointer (some ⟨k1, 0, none⟩), Value.slice a1 p.length c1] 35) = W0 at *
      refine (HP.out W0).mono ?_
      rintro en w1 ⟨rfl, hb1⟩
      go_wp2
      go_ret
      exact HFIN.out w1 (hb0.trans (hb1.mono hb0.size))
    · go_enter Tryz.func19, Tryz.ntmps19
      go_wp2_with fail
      have hb0 := below_one w (Obj.cells #[Value.pointer (some ⟨k1, 0, none⟩), Value.slice a1 p.length c1] 35)
      generalize w.alloc (Obj.cells #[Value.pointer (some ⟨k1, 0, none⟩), Value.slice a1 p.length c1] 35) = W0 at *
      refine (HP.out W0).mono ?_
      rintro en w1 ⟨rfl, hb1⟩
      go_wp2
      go_ret
      exact HFIN.out w1 (hb0.trans (hb1.mono hb0.size))
  · have hs0 : ¬ s < -99 := by omega
    have hs1 : ¬ 99 < s := by omega
    have hP := fun (W : World) (h : Below w.heap.size w W) => shiftP_any p s _ W (h1.p.below h) h1.ib (by omega) (by omega) ((ht.below h hkw).tab (by have := h.size; omega))
    have hR := fun (W : World) (h : Below w.heap.size w W) => shiftR_any p s _ W (OwnLN.below h1.n h) lx bx (by omega)
    have hBo := fun (W : World) (u : Value) (g : IsLN W u (oS s p p.length)) => boundedL_any (oS s p p.length) u W g (by have := oS_len s p p.length; omega)
    have hTr : Tr (oS s p p.length) := oS_tr _ _ _
    generalize oS s p p.length = T at *
    have HP : Hid _ := hP
    have HR : Hid _ := hR
    have HBo : Hid _ := hBo
    have hK := fun (W : World) (x m : Value) (e f : Int) (h : Below w.heap.size w W) (hV : BothV W x e m f) => (keepS_any B k ps x m e f W (hW.below h) hV hlen hB (ht.below h hkw)).mono (fun en w' hs => hs.from h hkw)
    have HK : Hid _ := hK
    clear hP hR hBo bx hs hK
    obtain ⟨PO, HPO⟩ : ∃ PO : Ending → World → Prop, Hid (PO = fun en w' => StepOK B k ps w en w') := ⟨_, rfl⟩
    rw [← HPO.out] at HK
    rw [← HPO.out]
    go_enter Tryz.func19, Tryz.ntmps19
    go_wp2_with fail
    have hb0 := below_one w (Obj.cells #[Value.pointer (some ⟨k1, 0, none⟩), Value.slice a1 p.length c1] 35)
    have X1 := heap_alloc_new w (Obj.cells #[Value.pointer (some ⟨k1, 0, none⟩), Value.slice a1 p.length c1] 35)
    have hs2 := lt_of_block X1
    generalize w.alloc (Obj.cells #[Value.pointer (some ⟨k1, 0, none⟩), Value.slice a1 p.length c1] 35) = W0 at *
    refine (HP.out W0 hb0).mono ?_
    rintro en w1 ⟨x, er, rfl, hBV, hb1⟩
    have hb1w := hb0.trans (hb1.mono hb0.size)
    have q1 := w2_1 ((hb1.block w.heap.size hs2).trans X1)
    have hs3 : w.heap.size < w1.heap.size := by have := hb1.size; omega
    go_wp2_with fail
    refine (HR.out w1 hb1w).mono ?_
    rintro en w2 ⟨y, rfl, hI2, hb2⟩
    obtain ⟨ya, yc, rfl⟩ := OwnLN.val hI2
    have hb2w := hb1w.trans (hb2.mono hb1w.size)
    go_wp2_with fail
    refine (HBo.out w2 _ hI2).mono ?_
    rintro en w3 ⟨m, f, rfl, hRB, hb3⟩
    have hb23 := hb2.trans (hb3.mono hb2.size)
    have hb3w := hb1w.trans (hb23.mono hb1w.size)
    go_wp2_with fail
    refine (HK.out w3 x m er f hb3w (both_of hBV hb23 hRB hTr)).mono ?_
    rintro en w4 hpo
    have hpo2 := hpo
    rw [HPO.out] at hpo2
    obtain ⟨rfl, _⟩ := hpo2
    go_wp2
    exact hpo

end Go.Proofs.YtkomofjdbcjdnaaGreatDoor
