import Derived.Test.YtldcjkhbiffdoaaGreatDoorCPolyPrim
import Derived.Test.YtldcjkhbiffdoaaGreatDoorM15
import Derived.Test.YtldcjkhbiffdoaaGreatDoorM19
import Derived.Test.YtldcjkhbiffdoaaGreatDoorM22
import Derived.Test.YtldcjkhbiffdoaaGreatDoorM27
import Derived.Test.YtldcjkhbiffdoaaGreatDoorM23
import Derived.Test.YtldcjkhbiffdoaaGreatDoorM20

/-
  poly.primitiveGcd and poly.Gcd.
-/
namespace Go.Proofs.YtldcjkhbiffdoaaGreatDoor
open Go.RowKit

theorem times_fgcd (a b : List Int) : tz (List.replicate 0 0 ++ (pgcd a b).map fun x => x * (Nat.gcd (cont a) (cont b) : Int)) = fgcd a b :=
  tz_eq (pmul_tr _ _) fun k => by
    rw [getD_rep_app, if_neg (by omega), Nat.sub_zero, map_mul_getD]
    unfold fgcd
    rw [pmul_getD, pk_num]

theorem tz_le (l : List Int) : (tz l).length ≤ l.length := by
  rw [tz_length]; exact tzn_le l l.length

theorem Bd.tzs {l : List Int} {e : Nat} (h : Bd l e) : Bd (tz l) e := fun k => by rw [tz_getD]; exact h k

set_option maxRecDepth 100000 in
set_option maxHeartbeats 4000000 in
theorem primitiveGcd_any (G a b : List Int) (u v : Value) (w : World) {e0 : Nat} (hu : IsL w u a) (hv : IsL w v b) (hps : PS G a b e0) :
    Calls Tryz.prog 69 #[u, v] w fun en w' => ∃ x, en = .returned x ∧ IsL w' x G ∧ G.length ≤ 11 ∧ Bd G 5000000 ∧ Below w.heap.size w w' := by
  obtain ⟨ua, uc, rfl⟩ := OwnL.val hu
  obtain ⟨va, vc, rfl⟩ := OwnL.val hv
  have HPS : Hid _ := hps
  clear hps
  go_enter Tryz.func69, Tryz.ntmps69
  go_wp2_with fail
  go_loopw [5, 6] (fun g l wr => ∃ (A B : List Int) (e : Nat), IsL wr g A ∧ IsL wr l B ∧ Hid (PS G A B e) ∧ Below w.heap.size w wr) (fun _ l _ => lenV l)
  case atStart => exact ⟨a, b, e0, hu, hv, HPS, Below.refl _ _⟩
  case round =>
    clear HPS hu hv
    obtain ⟨A, B, e, hA, hB, HPS, hbel⟩ := hrel
    obtain ⟨aa, ac, rfl⟩ := OwnL.val hA
    obtain ⟨ba, bc, rfl⟩ := OwnL.val hB
    by_cases hB0 : B = []
    · subst hB0
      have hend := HPS.out.ends
      have hla := HPS.out.la
      have hba := HPS.out.ba.mono HPS.out.small
      rw [hend] at hla hba hA
      have h0 : ([] : List Int).length = 0 := rfl
      go_wp2
      go_ret
      rw [hend]
      exact ⟨_, rfl, hA, hla, hba, hbel⟩
    · have hbl := List.length_pos_iff.2 hB0
      have ps := HPS.out
      obtain ⟨ht1, ht2⟩ := ps.top hB0
      have hla := ps.la
      have hr := restOf_any A B e e _ _ wr hA hB (by omega) (by have := ps.lb; omega) ps.ba ps.bb (by unfold pse at ht1; omega) ps.ta ps.tb hB0 ps.pa
      rw [show e + (A.length + 1 - B.length) * (e + 1) = pse A B e from rfl] at hr
      have hnx := fun R (h1 : RO B A R 0) (h2 : Bd R (pse A B e)) => ps.next hB0 h1 h2
      have HNX : Hid _ := hnx
      clear hnx ps HPS
      generalize pse A B e = E at *
      go_wp2_with fail
      refine hr.mono ?_
      rintro en w1 ⟨x1, R, rfl, hI1, hRl, hRO, hRb, hb1⟩
      have hnx := HNX.out R hRO hRb
      obtain ⟨a1, c1, rfl⟩ := OwnL.val hI1
      have hT := ptrimmed_any R _ w1 hI1 (by omega) (fun i _ => fitW_of (hRb i) (by omega))
      have hP := fun (W : World) (x : Value) (g : IsL W x (tz R)) => primP_any (tz R) E x W g (by have := tz_le R; omega) hRb.tzs (by omega)
      clear hr HNX hRO
      have HNX : Hid _ := hnx
      have HP : Hid _ := hP
      clear hnx hP
      generalize prim (tz R) = P at *
      generalize tz R = tR at *
      go_wp2_with fail
      refine hT.mono ?_
      rintro en w2 ⟨x2, rfl, hI2, hb2⟩
      obtain ⟨a2, c2, rfl⟩ := OwnL.val hI2
      have hb2w := hb1.trans (hb2.mono hb1.size)
      go_wp2_with fail
      refine (HP.out w2 _ hI2.isL).mono ?_
      rintro en w3 ⟨x3, rfl, hI3, hb3⟩
      obtain ⟨a3, c3, rfl⟩ := OwnL.val hI3
      have hb3w := hb2w.trans (hb3.mono hb2w.size)
      have hlt3 := HNX.out.2
      go_wp2
      go_roundw
      case rel => exact ⟨B, P, E, OwnL.below hB hb3w, hI3, HNX.out.1, hbel.trans (hb3w.mono hbel.size)⟩
      case measure => simp [lenV]; exact hlt3

set_option maxRecDepth 100000 in
set_option maxHeartbeats 4000000 in
theorem gcdP_any (xs ys : List Int) (u v : Value) (w : World) (hu : IsP w u xs) (hv : IsP w v ys) (hx : inB xs = true) (hy : inB ys = true) (tx : Tr xs) (ty : Tr ys) (ht : Tab w) :
    Calls Tryz.prog 35 #[u, v] w fun e w' => ∃ p er, e = .returned (.tuple #[p, .int .i64 er]) ∧ BoundedV w' (fgcd xs ys) p er ∧ Below w.heap.size w w' := by
  obtain ⟨k1, a1, c1, rfl, hk1, q1, hL1⟩ := hu.open
  obtain ⟨k2, a2, c2, rfl, hk2, q2, hL2⟩ := hv.open
  have lx := inB_len hx
  have ly := inB_len hy
  have bx := inB_bd hx
  have bY := inB_bd hy
  have hC1 := fun (W : World) (h : Below w.heap.size w W) => contentP_any xs 12 _ W (OwnL.below hL1 h) (by omega) bx (by omega)
  have hC2 := fun (W : World) (h : Below w.heap.size w W) => contentP_any ys 12 _ W (OwnL.below hL2 h) (by omega) bY (by omega)
  have hP1 := fun (W : World) (h : Below w.heap.size w W) => primP_any xs 12 _ W (OwnL.below hL1 h) (by omega) bx (by omega)
  have hP2 := fun (W : World) (h : Below w.heap.size w W) => primP_any ys 12 _ W (OwnL.below hL2 h) (by omega) bY (by omega)
  have hG := fun (W : World) (u v : Value) (g1 : IsI W u (scont xs)) (g2 : IsI W v (scont ys)) => gcd_any u v _ _ W g1 g2 (fitW_of (scont_lt bx) (by omega)) (fitW_of (scont_lt bY) (by omega))
  have hPG := fun (W : World) (u v : Value) (g1 : IsL W u (prim xs)) (g2 : IsL W v (prim ys)) => primitiveGcd_any (pgcd xs ys) (prim xs) (prim ys) u v W g1 g2 (PS.start tx ty lx ly bx bY)
  rw [gcd_scont] at hG
  have fg : ((Nat.gcd (cont xs) (cont ys) : Nat) : Int).natAbs < 10 ^ 12 := by
    rw [Int.natAbs_natCast]; exact gcd_lt bx.cont' bY.cont'
  have hT := fun (W : World) (u v : Value) (g1 : IsL W u (pgcd xs ys)) (g2 : IsI W v ((Nat.gcd (cont xs) (cont ys) : Nat) : Int)) (l : (pgcd xs ys).length ≤ 11) (b : Bd (pgcd xs ys) 5000000) => times_any (pgcd xs ys) _ 5000000 12 0 u v W g1 g2 (by omega) (by omega) b fg (by omega) (by omega)
  have hB := fun (W : World) (u : Value) (g1 : IsL W u (List.replicate 0 0 ++ (pgcd xs ys).map fun x => x * ((Nat.gcd (cont xs) (cont ys) : Nat) : Int))) (l : (pgcd xs ys).length ≤ 11) (b : Bd (pgcd xs ys) 5000000) (g2 : Tab W) => bounded2_any _ u W g1 (by simp; omega) ((b.timesW fg).fitW (by omega)) g2
  rw [times_fgcd] at hB
  clear hx hy tx ty bx bY fg
  generalize (List.replicate 0 0 ++ (pgcd xs ys).map fun x => x * ((Nat.gcd (cont xs) (cont ys) : Nat) : Int)) = L at *
  generalize ((Nat.gcd (cont xs) (cont ys) : Nat) : Int) = gg at *
  generalize pgcd xs ys = P at *
  generalize fgcd xs ys = F at *
  generalize prim xs = px at *
  generalize prim ys = py at *
  generalize scont xs = sx at *
  generalize scont ys = sy at *
  have HC1 : Hid _ := hC1
  have HC2 : Hid _ := hC2
  have HP1 : Hid _ := hP1
  have HP2 : Hid _ := hP2
  have HG : Hid _ := hG
  have HPG : Hid _ := hPG
  have HT : Hid _ := hT
  have HB : Hid _ := hB
  clear hC1 hC2 hP1 hP2 hG hPG hT hB
  go_enter Tryz.func35, Tryz.ntmps35
  go_wp2_with fail
  refine (HC1.out w (Below.refl _ _)).mono ?_
  rintro en w1 ⟨x1, rfl, hI1, hb1⟩
  obtain ⟨b3, a3, n3, c3, rfl⟩ := hI1.form
  have r2 := (hb1.cell (p := ⟨k2, 0, none⟩) hk2).trans q2
  have hk2' : k2 < w1.heap.size := by have := hb1.size; omega
  go_wp2_with fail
  generalize hW2 : w1.alloc (Obj.cells #[Value.bool b3, Value.slice a3 n3 c3] 105) = W2
  obtain ⟨hb2, X2⟩ := one_new hW2
  clear hW2
  have hb2w := hb1.trans (hb2.mono hb1.size)
  refine (HC2.out W2 hb2w).mono ?_
  rintro en w3 ⟨x3, rfl, hI3, hb3⟩
  obtain ⟨b4, a4, n4, c4, rfl⟩ := hI3.form
  have hb3w := hb2w.trans (hb3.mono hb2w.size)
  have X3 := X2.below hb3
  have hI1' := (hI1.below hb2).below hb3
  have hs3 : w1.heap.size < w3.heap.size := X3.lt
  have s0 := X3.c0; have s1 := X3.c1
  go_wp2_with fail
  generalize hW4 : w3.alloc (Obj.cells #[Value.bool b4, Value.slice a4 n4 c4] 105) = W4
  obtain ⟨hb4, X4⟩ := one_new hW4
  clear hW4
  have hb4w := hb3w.trans (hb4.mono hb3w.size)
  refine (HG.out W4 _ _ (hI1'.below hb4) (hI3.below hb4)).mono ?_
  rintro en w5 ⟨x5, rfl, hI5, hb5⟩
  obtain ⟨b5, a5, n5, c5, rfl⟩ := hI5.form
  have hb5w := hb4w.trans (hb5.mono hb4w.size)
  have t1 := (hb5w.cell (p := ⟨k1, 0, none⟩) hk1).trans q1
  have hk1' : k1 < w5.heap.size := by have := hb5w.size; omega
  clear s0 s1 r2
  go_wp2_with fail
  generalize hW6 : w5.alloc (Obj.cells #[Value.bool b5, Value.slice a5 n5 c5] 105) = W6
  have K6 : IsB W6 w5.heap.size gg := hW6 ▸ IsB.new hI5
  obtain ⟨hb6, _⟩ := one_new hW6
  clear hW6
  have hb6w := hb5w.trans (hb6.mono hb5w.size)
  refine (HP1.out W6 hb6w).mono ?_
  rintro en w7 ⟨x7, rfl, hI7, hb7⟩
  obtain ⟨a7, c7, rfl⟩ := OwnL.val hI7
  have hb7w := hb6w.trans (hb7.mono hb6w.size)
  have K7 := K6.below hb7
  have t2 := (hb7w.cell (p := ⟨k2, 0, none⟩) hk2).trans q2
  go_wp2_with fail
  refine (HP2.out w7 hb7w).mono ?_
  rintro en w8 ⟨x8, rfl, hI8, hb8⟩
  obtain ⟨a8, c8, rfl⟩ := OwnL.val hI8
  have hb8w := hb7w.trans (hb8.mono hb7w.size)
  have K8 := K7.below hb8
  clear t1 t2
  go_wp2_with fail
  refine (HPG.out w8 _ _ (OwnL.below hI7 hb8) hI8).mono ?_
  rintro en w9 ⟨x9, rfl, hI9, hl9, hbd9, hb9⟩
  obtain ⟨a9, c9, rfl⟩ := OwnL.val hI9
  have hb9w := hb8w.trans (hb9.mono hb8w.size)
  have K9 := K8.below hb9
  obtain ⟨bk, ka, kn, kc, X9, hK9⟩ := K9.open
  have s0 := X9.c0; have s1 := X9.c1
  go_wp2_with fail
  refine (HT.out w9 _ _ hI9 hK9 hl9 hbd9).mono ?_
  rintro en w10 ⟨x10, rfl, hI10, hb10⟩
  obtain ⟨a10, c10, rfl⟩ := OwnL.val hI10
  have hb10w := hb9w.trans (hb10.mono hb9w.size)
  clear s0 s1
  go_wp2_with fail
  refine (HB.out w10 _ hI10.isL hl9 hbd9 (ht.below hb10w)).mono ?_
  rintro en w11 ⟨p, er, rfl, hBV, hb11⟩
  go_wp2
  go_ret2
  exact ⟨_, _, rfl, hBV, hb10w.trans (hb11.mono hb10w.size)⟩

end Go.Proofs.YtldcjkhbiffdoaaGreatDoor

/-
  factorlaw.two and factorlaw.shifted. (Written by wip/gen_law.py.)
-/
namespace Go.Proofs.YtldcjkhbiffdoaaGreatDoor
open Go.RowKit

theorem gfun_len : ∀ (n : Nat) (A B : List Int), (gfun n A B).length ≤ A.length + B.length
  | 0, A, B => by unfold gfun; split <;> omega
  | n + 1, A, B => by
    unfold gfun
    split
    · omega
    · rename_i hA
      split
      · omega
      · rename_i hB
        have hA1 := List.length_pos_iff.2 hA
        have hB1 := List.length_pos_iff.2 hB
        split
        · rename_i h
          have h1 := gfun_len n (prim (elim B A)) A
          have h2 := elim_len hA1 (Nat.le_of_lt h)
          rw [prim_len] at h1
          omega
        · have h1 := gfun_len n (prim (elim A B)) B
          have h2 := elim_len hB1 (show B.length ≤ A.length by omega)
          rw [prim_len] at h1
          omega

theorem fgcd_len (a b : List Int) : (fgcd a b).length ≤ a.length + b.length + 1 := by
  unfold fgcd
  have h1 := pmul_len (pgcd a b) [(Nat.gcd (cont a) (cont b) : Int)]
  have h2 := gfun_len (a.length + b.length) (prim a) (prim b)
  rw [prim_len, prim_len] at h2
  unfold pgcd at *
  have h3 : [(Nat.gcd (cont a) (cont b) : Int)].length = 1 := rfl
  omega

theorem two_newQ {w W0 : World} {a b c d : Value} (h : (w.alloc (.cells #[a, b] 35)).alloc (.cells #[c, d] 35) = W0) :
    w.heap.size + 1 < W0.heap.size ∧ Below w.heap.size w W0 ∧ W0.heap[w.heap.size]? = some (.cells #[a, b] 35 (0, 0)) ∧ W0.heap[w.heap.size + 1]? = some (.cells #[c, d] 35 (0, 0)) := by
  subst h
  have hb1 := below_one (w.alloc (.cells #[a, b] 35)) (.cells #[c, d] 35)
  refine ⟨by simp, ((Below.refl _ _).alloc (Nat.le_refl _) _).alloc (by simp) _, ?_, ?_⟩
  · rw [hb1.block _ (by simp)]; exact heap_alloc_new w _
  · have := heap_alloc_new (w.alloc (.cells #[a, b] 35)) (.cells #[c, d] 35)
    simpa using this

section
variable {w : World} {k : Nat} {a b : Value} {e : TypeId}
theorem w2_0 (h : w.heap[k]? = some (.cells #[a, b] e (0, 0))) : w.cell? ⟨k, 0, none⟩ = some a := by simp [World.cell?, h]
theorem w2_1 (h : w.heap[k]? = some (.cells #[a, b] e (0, 0))) : w.cell? ⟨k, 1, none⟩ = some b := by simp [World.cell?, h]
end

theorem both_of {w1 w3 : World} {t : List Int} {x m : Value} {er f : Int} (h1 : BoundedV w1 t x er) (hb : Below w1.heap.size w1 w3) (h2 : RB w3 t m f) (ht : Tr t) : BothV w3 x er m f := by
  rcases h1 with ⟨i1, rfl, hp⟩ | ⟨i1, rfl, rfl⟩
  · rcases h2 with ⟨i2, rfl, hn⟩ | ⟨i2, rfl, rfl⟩
    · exact .inl ⟨rfl, rfl, t, ⟨hp.below hb, hn, ht, i1⟩⟩
    · rw [i1] at i2; cases i2
  · rcases h2 with ⟨i2, rfl, hn⟩ | ⟨i2, rfl, rfl⟩
    · rw [i1] at i2; cases i2
    · exact .inr ⟨by decide, rfl, rfl⟩

theorem both_div {w1 w3 : World} {a b : List Int} {x m : Value} {er f : Int} (h1 : DivV w1 b a x er) (hb : Below w1.heap.size w1 w3) (h2 : RD w3 b a m f) : BothV w3 x er m f := by
  rcases h1 with ⟨i1, rfl, rfl⟩ | ⟨i1, d1, rfl, rfl⟩ | ⟨i1, Q, d1, h1⟩
  · rcases h2 with ⟨_, rfl⟩ | ⟨i2, _⟩ | ⟨i2, _⟩
    · exact .inr ⟨by decide, rfl, rfl⟩
    · exact absurd i1 i2
    · exact absurd i1 i2
  · rcases h2 with ⟨i2, _⟩ | ⟨_, _, rfl⟩ | ⟨_, Q, d2, _⟩
    · exact absurd i2 i1
    · exact .inr ⟨by decide, rfl, rfl⟩
    · rw [d1] at d2; cases d2
  · rcases h2 with ⟨i2, _⟩ | ⟨_, d2, _⟩ | ⟨_, Q2, d2, h2⟩
    · exact absurd i2 i1
    · rw [d1] at d2; cases d2
    · rw [d1] at d2
      cases d2
      exact both_of h1 hb h2 (tr_tz _)

/-- How a step ends. -/
def StepOK (B k : Nat) (ps : List (List Int)) (w : World) (en : Ending) (w' : World) : Prop := en = .returned (.bool true) ∧ (∃ ps', IsW B w' k ps' ∧ ps'.length ≤ ps.length + 1) ∧ Kq B w w'

theorem StepOK.from {B k : Nat} {ps : List (List Int)} {w0 w : World} {en : Ending} {w' : World} (h : StepOK B k ps w en w') (hk : Below w0.heap.size w0 w) (hB : B ≤ w0.heap.size) : StepOK B k ps w0 en w' := ⟨h.1, h.2.1, (Kg.of hk hB).trans h.2.2⟩

theorem keepS_any (B k : Nat) (ps : List (List Int)) (x m : Value) (e f : Int) (w : World) (hW : IsW B w k ps) (hV : BothV w x e m f) (hlen : ps.length ≤ 10000000) (hB : B ≤ k) (ht : TabB B w) :
    Calls Tryz.prog 25 #[.pointer (some ⟨k, 0, none⟩), x, .int .i64 e, m, .int .i64 f] w fun en w' => StepOK B k ps w en w' := keep_any B k ps x m e f w hW hV hlen hB ht

set_option maxRecDepth 100000 in
set_option maxHeartbeats 4000000 in
theorem two3_any (B k : Nat) (ps : List (List Int)) (x1 m1 x2 m2 : Value) (p q : List Int) (w : World) (hW : IsW B w k ps) (h1 : PairOK w x1 m1 p) (h2 : PairOK w x2 m2 q) (hlen : ps.length ≤ 10000000) (hB : B ≤ k) (ht : TabB B w) :
    Calls Tryz.prog 18 #[.pointer (some ⟨k, 0, none⟩), .int .i64 3, .agg #[x1, m1], .agg #[x2, m2]] w fun en w' => StepOK B k ps w en w' := by
  have hkw : B ≤ w.heap.size := by obtain ⟨a, c, hh, _⟩ := hW; have := lt_of_block hh; omega
  obtain ⟨k1, v1, rfl, _, _⟩ := id h1.p
  obtain ⟨k2, v2, rfl, _, _⟩ := id h2.p
  obtain ⟨a1, c1, rfl⟩ := OwnLN.val h1.n
  obtain ⟨a2, c2, rfl⟩ := OwnLN.val h2.n
  have lx := inB_len h1.ib
  have ly := inB_len h2.ib
  have bx := inB_bd h1.ib
  have bY := inB_bd h2.ib
  have hP := fun (W : World) (h : Below w.heap.size w W) => addP_any p q _ _ W (h1.p.below h) (h2.p.below h) h1.ib h2.ib ((ht.below h hkw).tab (by have := h.size; omega))
  have hR := fun (W : World) (h : Below w.heap.size w W) => addR_any p q _ _ W (OwnLN.below h1.n h) (OwnLN.below h2.n h) (by omega) (by omega) (bx.fitL (by omega)) (bY.fitL (by omega))
  have hBo := fun (W : World) (u : Value) (g : IsLN W u (padd p q)) => boundedL_any (padd p q) u W g (by have := padd_len p q; omega)
  have hTr : Tr (padd p q) := padd_tr _ _
  rw [show tz (sumTo p q (max p.length q.length)) = padd p q from rfl] at hR
  generalize padd p q = T at *
  have HP : Hid _ := hP
  have HR : Hid _ := hR
  have HBo : Hid _ := hBo
  clear hP hR hBo bx bY
  have hK := fun (W : World) (x m : Value) (e f : Int) (h : Below w.heap.size w W) (hV : BothV W x e m f) => (keepS_any B k ps x m e f W (hW.below h) hV hlen hB (ht.below h hkw)).mono (fun en w' hs => hs.from h hkw)
  have HK : Hid _ := hK
  clear hK
  obtain ⟨PO, HPO⟩ : ∃ PO : Ending → World → Prop, Hid (PO = fun en w' => StepOK B k ps w en w') := ⟨_, rfl⟩
  rw [← HPO.out] at HK
  rw [← HPO.out]
  go_enter Tryz.func18, Tryz.ntmps18
  go_wp2_with fail
  generalize hW0 : (w.alloc (Obj.cells #[Value.pointer (some ⟨k1, 0, none⟩), Value.slice a1 p.length c1] 35)).alloc (Obj.cells #[Value.pointer (some ⟨k2, 0, none⟩), Value.slice a2 q.length c2] 35) = W0
  obtain ⟨hs0, hb0, X1, X2⟩ := two_newQ hW0
  clear hW0
  refine (HP.out W0 hb0).mono ?_
  rintro en w1 ⟨x, er, rfl, hBV, hb1⟩
  have hb1w := hb0.trans (hb1.mono hb0.size)
  have q1 := w2_1 ((hb1.block w.heap.size (by omega)).trans X1)
  have q2 := w2_1 ((hb1.block (w.heap.size + 1) (by omega)).trans X2)
  have hs1 : w.heap.size + 1 < w1.heap.size := by have := hb1.size; omega
  go_wp2_with fail
  refine (HR.out w1 hb1w).mono ?_
  rintro en w2 ⟨y, rfl, hI2, hb2⟩
  obtain ⟨ya, yc, rfl⟩ := OwnLN.val hI2
  have hb2w := hb1w.trans (hb2.mono hb1w.size)
  go_wp2_with fail
  refine (HBo.out w2 _ hI2).mono ?_
  rintro en w3 ⟨m, f, rfl, hRB, hb3⟩
  have hb23 := hb2.trans (hb3.mono hb2.size)
  have hb3w := hb1w.trans (hb23.mono hb1w.size)
  go_wp2_with fail
  refine (HK.out w3 x m er f hb3w (both_of hBV hb23 hRB hTr)).mono ?_
  rintro en w4 hpo
  have hpo' := hpo
  rw [HPO.out] at hpo'
  obtain ⟨rfl, _⟩ := hpo'
  go_wp2
  exact hpo

set_option maxRecDepth 100000 in
set_option maxHeartbeats 4000000 in
theorem two5_any (B k : Nat) (ps : List (List Int)) (x1 m1 x2 m2 : Value) (p q : List Int) (w : World) (hW : IsW B w k ps) (h1 : PairOK w x1 m1 p) (h2 : PairOK w x2 m2 q) (hlen : ps.length ≤ 10000000) (hB : B ≤ k) (ht : TabB B w) :
    Calls Tryz.prog 18 #[.pointer (some ⟨k, 0, none⟩), .int .i64 5, .agg #[x1, m1], .agg #[x2, m2]] w fun en w' => StepOK B k ps w en w' := by
  have hkw : B ≤ w.heap.size := by obtain ⟨a, c, hh, _⟩ := hW; have := lt_of_block hh; omega
  obtain ⟨k1, v1, rfl, _, _⟩ := id h1.p
  obtain ⟨k2, v2, rfl, _, _⟩ := id h2.p
  obtain ⟨a1, c1, rfl⟩ := OwnLN.val h1.n
  obtain ⟨a2, c2, rfl⟩ := OwnLN.val h2.n
  have lx := inB_len h1.ib
  have ly := inB_len h2.ib
  have bx := inB_bd h1.ib
  have bY := inB_bd h2.ib
  have hP := fun (W : World) (h : Below w.heap.size w W) => mulP_any p q _ _ W (h1.p.below h) (h2.p.below h) h1.ib h2.ib ((ht.below h hkw).tab (by have := h.size; omega))
  have hR := fun (W : World) (h : Below w.heap.size w W) => mulR_any p q 12 12 _ _ W (OwnLN.below h1.n h) (OwnLN.below h2.n h) (by omega) (by omega) bx bY (by omega)
  have hBo := fun (W : World) (u : Value) (g : IsLN W u (pmul p q)) => boundedL_any (pmul p q) u W g (by have := pmul_len p q; omega)
  have hTr : Tr (pmul p q) := pmul_tr _ _
  generalize pmul p q = T at *
  have HP : Hid _ := hP
  have HR : Hid _ := hR
  have HBo : Hid _ := hBo
  clear hP hR hBo bx bY
  have hK := fun (W : World) (x m : Value) (e f : Int) (h : Below w.heap.size w W) (hV : BothV W x e m f) => (keepS_any B k ps x m e f W (hW.below h) hV hlen hB (ht.below h hkw)).mono (fun en w' hs => hs.from h hkw)
  have HK : Hid _ := hK
  clear hK
  obtain ⟨PO, HPO⟩ : ∃ PO : Ending → World → Prop, Hid (PO = fun en w' => StepOK B k ps w en w') := ⟨_, rfl⟩
  rw [← HPO.out] at HK
  rw [← HPO.out]
  go_enter Tryz.func18, Tryz.ntmps18
  go_wp2_with fail
  generalize hW0 : (w.alloc (Obj.cells #[Value.pointer (some ⟨k1, 0, none⟩), Value.slice a1 p.length c1] 35)).alloc (Obj.cells #[Value.pointer (some ⟨k2, 0, none⟩), Value.slice a2 q.length c2] 35) = W0
  obtain ⟨hs0, hb0, X1, X2⟩ := two_newQ hW0
  clear hW0
  refine (HP.out W0 hb0).mono ?_
  rintro en w1 ⟨x, er, rfl, hBV, hb1⟩
  have hb1w := hb0.trans (hb1.mono hb0.size)
  have q1 := w2_1 ((hb1.block w.heap.size (by omega)).trans X1)
  have q2 := w2_1 ((hb1.block (w.heap.size + 1) (by omega)).trans X2)
  have hs1 : w.heap.size + 1 < w1.heap.size := by have := hb1.size; omega
  go_wp2_with fail
  refine (HR.out w1 hb1w).mono ?_
  rintro en w2 ⟨y, rfl, hI2, hb2⟩
  obtain ⟨ya, yc, rfl⟩ := OwnLN.val hI2
  have hb2w := hb1w.trans (hb2.mono hb1w.size)
  go_wp2_with fail
  refine (HBo.out w2 _ hI2).mono ?_
  rintro en w3 ⟨m, f, rfl, hRB, hb3⟩
  have hb23 := hb2.trans (hb3.mono hb2.size)
  have hb3w := hb1w.trans (hb23.mono hb1w.size)
  go_wp2_with fail
  refine (HK.out w3 x m er f hb3w (both_of hBV hb23 hRB hTr)).mono ?_
  rintro en w4 hpo
  have hpo' := hpo
  rw [HPO.out] at hpo'
  obtain ⟨rfl, _⟩ := hpo'
  go_wp2
  exact hpo

set_option maxRecDepth 100000 in
set_option maxHeartbeats 4000000 in
theorem two7_any (B k : Nat) (ps : List (List Int)) (x1 m1 x2 m2 : Value) (p q : List Int) (w : World) (hW : IsW B w k ps) (h1 : PairOK w x1 m1 p) (h2 : PairOK w x2 m2 q) (hlen : ps.length ≤ 10000000) (hB : B ≤ k) (ht : TabB B w) :
    Calls Tryz.prog 18 #[.pointer (some ⟨k, 0, none⟩), .int .i64 7, .agg #[x1, m1], .agg #[x2, m2]] w fun en w' => StepOK B k ps w en w' := by
  have hkw : B ≤ w.heap.size := by obtain ⟨a, c, hh, _⟩ := hW; have := lt_of_block hh; omega
  obtain ⟨k1, v1, rfl, _, _⟩ := id h1.p
  obtain ⟨k2, v2, rfl, _, _⟩ := id h2.p
  obtain ⟨a1, c1, rfl⟩ := OwnLN.val h1.n
  obtain ⟨a2, c2, rfl⟩ := OwnLN.val h2.n
  have lx := inB_len h1.ib
  have ly := inB_len h2.ib
  have bx := inB_bd h1.ib
  have bY := inB_bd h2.ib
  have hP := fun (W : World) (h : Below w.heap.size w W) => gcdP_any p q _ _ W (h1.p.below h) (h2.p.below h) h1.ib h2.ib h1.tr h2.tr ((ht.below h hkw).tab (by have := h.size; omega))
  have hR := fun (W : World) (h : Below w.heap.size w W) => gcdR_any p q _ _ W (OwnLN.below h1.n h) (OwnLN.below h2.n h) lx ly bx bY h1.tr h2.tr
  have hBo := fun (W : World) (u : Value) (g : IsLN W u (fgcd p q)) => boundedL_any (fgcd p q) u W g (by have := fgcd_len p q; omega)
  have hTr : Tr (fgcd p q) := pmul_tr _ _
  generalize fgcd p q = T at *
  have HP : Hid _ := hP
  have HR : Hid _ := hR
  have HBo : Hid _ := hBo
  clear hP hR hBo bx bY
  have hK := fun (W : World) (x m : Value) (e f : Int) (h : Below w.heap.size w W) (hV : BothV W x e m f) => (keepS_any B k ps x m e f W (hW.below h) hV hlen hB (ht.below h hkw)).mono (fun en w' hs => hs.from h hkw)
  have HK : Hid _ := hK
  clear hK
  obtain ⟨PO, HPO⟩ : ∃ PO : Ending → World → Prop, Hid (PO = fun en w' => StepOK B k ps w en w') := ⟨_, rfl⟩
  rw [← HPO.out] at HK
  rw [← HPO.out]
  go_enter Tryz.func18, Tryz.ntmps18
  go_wp2_with fail
  generalize hW0 : (w.alloc (Obj.cells #[Value.pointer (some ⟨k1, 0, none⟩), Value.slice a1 p.length c1] 35)).alloc (Obj.cells #[Value.pointer (some ⟨k2, 0, none⟩), Value.slice a2 q.length c2] 35) = W0
  obtain ⟨hs0, hb0, X1, X2⟩ := two_newQ hW0
  clear hW0
  refine (HP.out W0 hb0).mono ?_
  rintro en w1 ⟨x, er, rfl, hBV, hb1⟩
  have hb1w := hb0.trans (hb1.mono hb0.size)
  have q1 := w2_1 ((hb1.block w.heap.size (by omega)).trans X1)
  have q2 := w2_1 ((hb1.block (w.heap.size + 1) (by omega)).trans X2)
  have hs1 : w.heap.size + 1 < w1.heap.size := by have := hb1.size; omega
  go_wp2_with fail
  refine (HR.out w1 hb1w).mono ?_
  rintro en w2 ⟨y, rfl, hI2, hb2⟩
  obtain ⟨ya, yc, rfl⟩ := OwnLN.val hI2
  have hb2w := hb1w.trans (hb2.mono hb1w.size)
  go_wp2_with fail
  refine (HBo.out w2 _ hI2).mono ?_
  rintro en w3 ⟨m, f, rfl, hRB, hb3⟩
  have hb23 := hb2.trans (hb3.mono hb2.size)
  have hb3w := hb1w.trans (hb23.mono hb1w.size)
  go_wp2_with fail
  refine (HK.out w3 x m er f hb3w (both_of hBV hb23 hRB hTr)).mono ?_
  rintro en w4 hpo
  have hpo' := hpo
  rw [HPO.out] at hpo'
  obtain ⟨rfl, _⟩ := hpo'
  go_wp2
  exact hpo

set_option maxRecDepth 100000 in
set_option maxHeartbeats 4000000 in
theorem two6_any (B k : Nat) (ps : List (List Int)) (x1 m1 x2 m2 : Value) (p q : List Int) (w : World) (hW : IsW B w k ps) (h1 : PairOK w x1 m1 p) (h2 : PairOK w x2 m2 q) (hlen : ps.length ≤ 10000000) (hB : B ≤ k) (ht : TabB B w) :
    Calls Tryz.prog 18 #[.pointer (some ⟨k, 0, none⟩), .int .i64 6, .agg #[x1, m1], .agg #[x2, m2]] w fun en w' => StepOK B k ps w en w' := by
  have hkw : B ≤ w.heap.size := by obtain ⟨a, c, hh, _⟩ := hW; have := lt_of_block hh; omega
  obtain ⟨k1, v1, rfl, _, _⟩ := id h1.p
  obtain ⟨k2, v2, rfl, _, _⟩ := id h2.p
  obtain ⟨a1, c1, rfl⟩ := OwnLN.val h1.n
  obtain ⟨a2, c2, rfl⟩ := OwnLN.val h2.n
  have lx := inB_len h1.ib
  have ly := inB_len h2.ib
  have bx := inB_bd h1.ib
  have bY := inB_bd h2.ib
  have hP := fun (W : World) (h : Below w.heap.size w W) => divideP_any p q _ _ W (h1.p.below h) (h2.p.below h) h1.ib h2.ib h1.tr ((ht.below h hkw).tab (by have := h.size; omega))
  have hR := fun (W : World) (h : Below w.heap.size w W) => divided_any p q _ _ W (OwnLN.below h1.n h) (OwnLN.below h2.n h) h1.ib h2.ib h1.tr h2.tr
  have hboth := fun (w1 w3 : World) (x m : Value) (er f : Int) (g1 : DivV w1 q p x er) (g2 : Below w1.heap.size w1 w3) (g3 : RD w3 q p m f) => both_div g1 g2 g3
  have HBOTH : Hid _ := hboth
  obtain ⟨D1, HD1⟩ : ∃ D1 : World → Value → Int → Prop, Hid (D1 = fun w' p' er => DivV w' q p p' er) := ⟨_, rfl⟩
  obtain ⟨D2, HD2⟩ : ∃ D2 : World → Value → Int → Prop, Hid (D2 = fun w' m f => RD w' q p m f) := ⟨_, rfl⟩
  have hP2 : ∀ (W : World), Below w.heap.size w W → Calls Tryz.prog 33 #[.pointer (some ⟨k1, 0, none⟩), .pointer (some ⟨k2, 0, none⟩)] W fun e w' => ∃ p' er, e = .returned (.tuple #[p', .int .i64 er]) ∧ D1 w' p' er ∧ Below W.heap.size W w' := by rw [HD1.out]; exact hP
  have hR2 : ∀ (W : World), Below w.heap.size w W → Calls Tryz.prog 34 #[.slice a1 p.length c1, .slice a2 q.length c2] W fun e w' => ∃ m f, e = .returned (.tuple #[m, .int .i64 f]) ∧ D2 w' m f ∧ Below W.heap.size W w' := by rw [HD2.out]; exact hR
  have HP : Hid _ := hP2
  have HR : Hid _ := hR2
  clear hP hR hP2 hR2 bx bY hboth
  have hK := fun (W : World) (x m : Value) (e f : Int) (h : Below w.heap.size w W) (hV : BothV W x e m f) => (keepS_any B k ps x m e f W (hW.below h) hV hlen hB (ht.below h hkw)).mono (fun en w' hs => hs.from h hkw)
  have HK : Hid _ := hK
  clear hK
  obtain ⟨PO, HPO⟩ : ∃ PO : Ending → World → Prop, Hid (PO = fun en w' => StepOK B k ps w en w') := ⟨_, rfl⟩
  rw [← HPO.out] at HK
  rw [← HPO.out]
  go_enter Tryz.func18, Tryz.ntmps18
  go_wp2_with fail
  generalize hW0 : (w.alloc (Obj.cells #[Value.pointer (some ⟨k1, 0, none⟩), Value.slice a1 p.length c1] 35)).alloc (Obj.cells #[Value.pointer (some ⟨k2, 0, none⟩), Value.slice a2 q.length c2] 35) = W0
  obtain ⟨hs0, hb0, X1, X2⟩ := two_newQ hW0
  clear hW0
  refine (HP.out W0 hb0).mono ?_
  rintro en w1 ⟨x, er, rfl, hBV, hb1⟩
  have hb1w := hb0.trans (hb1.mono hb0.size)
  have q1 := w2_1 ((hb1.block w.heap.size (by omega)).trans X1)
  have q2 := w2_1 ((hb1.block (w.heap.size + 1) (by omega)).trans X2)
  have hs1 : w.heap.size + 1 < w1.heap.size := by have := hb1.size; omega
  go_wp2_with fail
  refine (HR.out w1 hb1w).mono ?_
  rintro en w3 ⟨m, f, rfl, hRB, hb23⟩
  have hb3w := hb1w.trans (hb23.mono hb1w.size)
  have hBoth : BothV w3 x er m f := HBOTH.out w1 w3 x m er f (by rw [HD1.out] at hBV; exact hBV) hb23 (by rw [HD2.out] at hRB; exact hRB)
  clear hBV hRB HBOTH HD1 HD2
  go_wp2_with fail
  refine (HK.out w3 x m er f hb3w hBoth).mono ?_
  rintro en w4 hpo
  have hpo' := hpo
  rw [HPO.out] at hpo'
  obtain ⟨rfl, _⟩ := hpo'
  go_wp2
  exact hpo

set_option maxRecDepth 100000 in
set_option maxHeartbeats 4000000 in
theorem two4_any (B k : Nat) (ps : List (List Int)) (x1 m1 x2 m2 : Value) (p q : List Int) (w : World) (hW : IsW B w k ps) (h1 : PairOK w x1 m1 p) (h2 : PairOK w x2 m2 q) (hlen : ps.length ≤ 10000000) (hB : B ≤ k) (ht : TabB B w) :
    Calls Tryz.prog 18 #[.pointer (some ⟨k, 0, none⟩), .int .i64 4, .agg #[x1, m1], .agg #[x2, m2]] w fun en w' => StepOK B k ps w en w' := by
  have hkw : B ≤ w.heap.size := by obtain ⟨a, c, hh, _⟩ := hW; have := lt_of_block hh; omega
  obtain ⟨k1, v1, rfl, _, _⟩ := id h1.p
  obtain ⟨k2, v2, rfl, _, _⟩ := id h2.p
  obtain ⟨a1, c1, rfl⟩ := OwnLN.val h1.n
  obtain ⟨a2, c2, rfl⟩ := OwnLN.val h2.n
  have lx := inB_len h1.ib
  have ly := inB_len h2.ib
  have bx := inB_bd h1.ib
  have bY := inB_bd h2.ib
  have hP := fun (W : World) (h : Below w.heap.size w W) => subP_any p q _ _ W (h1.p.below h) (h2.p.below h) h1.ib h2.ib ((ht.below h hkw).tab (by have := h.size; omega))
  have hM := fun (W : World) (h : Below w.heap.size w W) => minusR_any q _ W (OwnLN.below h2.n h) (by omega) (bY.fitL (by omega))
  have hR := fun (W : World) (u : Value) (h : Below w.heap.size w W) (g : IsLN W u (q.map fun z => -z)) => addR_any p (q.map fun z => -z) _ u W (OwnLN.below h1.n h) g (by omega) (by simp; omega) (bx.fitL (by omega)) (bY.negs.fitL (by omega))
  rw [show tz (sumTo p (q.map fun z => -z) (max p.length (q.map fun z => -z).length)) = padd p (q.map fun z => -z) from rfl] at hR
  have hBo := fun (W : World) (u : Value) (g : IsLN W u (padd p (q.map fun z => -z))) => boundedL_any (padd p (q.map fun z => -z)) u W g (by have := padd_len p (q.map fun z => -z); rw [List.length_map] at this; omega)
  have hTr : Tr (padd p (q.map fun z => -z)) := padd_tr _ _
  generalize padd p (q.map fun z => -z) = T at *
  generalize (q.map fun z => -z) = nq at *
  have HP : Hid _ := hP
  have HM : Hid _ := hM
  have HR : Hid _ := hR
  have HBo : Hid _ := hBo
  clear hP hR hM hBo bx bY
  have hK := fun (W : World) (x m : Value) (e f : Int) (h : Below w.heap.size w W) (hV : BothV W x e m f) => (keepS_any B k ps x m e f W (hW.below h) hV hlen hB (ht.below h hkw)).mono (fun en w' hs => hs.from h hkw)
  have HK : Hid _ := hK
  clear hK
  obtain ⟨PO, HPO⟩ : ∃ PO : Ending → World → Prop, Hid (PO = fun en w' => StepOK B k ps w en w') := ⟨_, rfl⟩
  rw [← HPO.out] at HK
  rw [← HPO.out]
  go_enter Tryz.func18, Tryz.ntmps18
  go_wp2_with fail
  generalize hW0 : (w.alloc (Obj.cells #[Value.pointer (some ⟨k1, 0, none⟩), Value.slice a1 p.length c1] 35)).alloc (Obj.cells #[Value.pointer (some ⟨k2, 0, none⟩), Value.slice a2 q.length c2] 35) = W0
  obtain ⟨hs0, hb0, X1, X2⟩ := two_newQ hW0
  clear hW0
  refine (HP.out W0 hb0).mono ?_
  rintro en w1 ⟨x, er, rfl, hBV, hb1⟩
  have hb1w := hb0.trans (hb1.mono hb0.size)
  have q1 := w2_1 ((hb1.block w.heap.size (by omega)).trans X1)
  have q2 := w2_1 ((hb1.block (w.heap.size + 1) (by omega)).trans X2)
  have hs1 : w.heap.size + 1 < w1.heap.size := by have := hb1.size; omega
  have hbd : Below w1.heap.size w1 w1.drew := ⟨rfl, rfl, rfl, Nat.le_refl _, fun _ _ => rfl⟩
  have hSV : ∀ W, Below w1.heap.size w1 W → W.cell? ⟨w.heap.size, 1, none⟩ = some (.slice a1 p.length c1) ∧ W.cell? ⟨w.heap.size + 1, 1, none⟩ = some (.slice a2 q.length c2) := fun W h => ⟨(h.cell (p := ⟨w.heap.size, 1, none⟩) (show w.heap.size < w1.heap.size by omega)).trans q1, (h.cell (p := ⟨w.heap.size + 1, 1, none⟩) (show w.heap.size + 1 < w1.heap.size by omega)).trans q2⟩
  go_wp2_with fail
  refine wp_region_held_drew (S := fun W => W.cell? ⟨w.heap.size, 1, none⟩ = some (.slice a1 p.length c1) ∧ W.cell? ⟨w.heap.size + 1, 1, none⟩ = some (.slice a2 q.length c2)) (by kernel_rfl) (hSV _ hbd) fun hS => ?_
  have hbdw : Below w.heap.size w w1.drew := hb1w.trans (hbd.mono hb1w.size)
  generalize w1.drew = V1 at *
  refine h_take 0 44 (.pointer (some ⟨w.heap.size, 1, none⟩)) rfl rfl (by kernel_rfl) (by kernel_rfl) (by kernel_rfl) (fun _ _ _ h => h) rfl (fun _ _ => by first | rfl | go_simp) hS ?_
  simp only [Act.put, List.setIfInBounds_toArray, List.set_cons_succ, List.set_cons_zero]
  refine h_take 1 45 (.slice a1 p.length c1) rfl rfl (by kernel_rfl) (by kernel_rfl) (by kernel_rfl) (fun _ _ _ h => h) rfl (fun w' hw' => by obtain ⟨y0, y1⟩ := hw'; go_simp) hS ?_
  simp only [Act.put, List.setIfInBounds_toArray, List.set_cons_succ, List.set_cons_zero]
  refine h_take 2 46 (.pointer (some ⟨w.heap.size + 1, 1, none⟩)) rfl rfl (by kernel_rfl) (by kernel_rfl) (by kernel_rfl) (fun _ _ _ h => h) rfl (fun _ _ => by first | rfl | go_simp) hS ?_
  simp only [Act.put, List.setIfInBounds_toArray, List.set_cons_succ, List.set_cons_zero]
  refine h_take 3 47 (.slice a2 q.length c2) rfl rfl (by kernel_rfl) (by kernel_rfl) (by kernel_rfl) (fun _ _ _ h => h) rfl (fun w' hw' => by obtain ⟨y0, y1⟩ := hw'; go_simp) hS ?_
  simp only [Act.put, List.setIfInBounds_toArray, List.set_cons_succ, List.set_cons_zero]
  refine h_call 4 48 30 #[.slice a2 q.length c2] rfl rfl (by kernel_rfl) rfl (by go_simp) ?_
  refine (HM.out V1 hbdw).mono ?_
  rintro en w5 ⟨y5, rfl, hI5, hb5⟩
  obtain ⟨ya5, yc5, rfl⟩ := OwnLN.val hI5
  have hb5d := hbd.trans (hb5.mono hbd.size)
  refine ⟨_, rfl, hSV _ hb5d, ?_⟩
  simp only [Act.put, List.setIfInBounds_toArray, List.set_cons_succ, List.set_cons_zero]
  refine h_call 5 49 28 #[.slice a1 p.length c1, .slice ya5 nq.length yc5] rfl rfl (by kernel_rfl) rfl (by go_simp) ?_
  refine (HR.out w5 _ (hb1w.trans (hb5d.mono hb1w.size)) hI5).mono ?_
  rintro en w2 ⟨y, rfl, hI2, hb2⟩
  obtain ⟨ya, yc, rfl⟩ := OwnLN.val hI2
  have hb2d := hb5d.trans (hb2.mono hb5d.size)
  refine ⟨_, rfl, hSV _ hb2d, ?_⟩
  simp only [Act.put, List.setIfInBounds_toArray, List.set_cons_succ, List.set_cons_zero]
  refine h_call 6 50 27 #[.slice ya T.length yc] rfl rfl (by kernel_rfl) rfl (by go_simp) ?_
  refine (HBo.out w2 _ hI2).mono ?_
  rintro en w3 ⟨m, f, rfl, hRB, hb3⟩
  have hb23 := hb2d.trans (hb3.mono hb2d.size)
  have hb3w := hb1w.trans (hb23.mono hb1w.size)
  have hS := hSV _ hb23
  refine ⟨_, rfl, hS, ?_⟩
  simp only [Act.put, List.setIfInBounds_toArray, List.set_cons_succ, List.set_cons_zero]
  refine h_take 7 43 (.tuple #[m, .int .i64 f]) rfl rfl (by kernel_rfl) (by kernel_rfl) (by kernel_rfl) (fun _ _ _ h => h) rfl (fun _ _ => by first | rfl | go_simp) hS ?_
  simp only [Act.put, List.setIfInBounds_toArray, List.set_cons_succ, List.set_cons_zero]
  refine h_take 8 51 (m) rfl rfl (by kernel_rfl) (by kernel_rfl) (by kernel_rfl) (fun _ _ _ h => h) rfl (fun _ _ => by first | rfl | go_simp) hS ?_
  simp only [Act.put, List.setIfInBounds_toArray, List.set_cons_succ, List.set_cons_zero]
  refine h_take 9 52 (.int .i64 f) rfl rfl (by kernel_rfl) (by kernel_rfl) (by kernel_rfl) (fun _ _ _ h => h) rfl (fun _ _ => by first | rfl | go_simp) hS ?_
  simp only [Act.put, List.setIfInBounds_toArray, List.set_cons_succ, List.set_cons_zero]
  refine h_take 10 10 (m) rfl rfl (by kernel_rfl) (by kernel_rfl) (by kernel_rfl) (fun _ _ _ h => h) rfl (fun _ _ => by first | rfl | go_simp) hS ?_
  simp only [Act.put, List.setIfInBounds_toArray, List.set_cons_succ, List.set_cons_zero]
  refine h_take 11 12 (.int .i64 f) rfl rfl (by kernel_rfl) (by kernel_rfl) (by kernel_rfl) (fun _ _ _ h => h) rfl (fun _ _ => by first | rfl | go_simp) hS ?_
  simp only [Act.put, List.setIfInBounds_toArray, List.set_cons_succ, List.set_cons_zero]
  refine wpAnyH_done (by kernel_rfl) ?_ _
  go_wp2_with fail
  refine (HK.out w3 x m er f hb3w (both_of hBV hb23 hRB hTr)).mono ?_
  rintro en w4 hpo
  have hpo' := hpo
  rw [HPO.out] at hpo'
  obtain ⟨rfl, _⟩ := hpo'
  go_wp2
  exact hpo

theorem two_any (B k : Nat) (ps : List (List Int)) (kind : Int) (x1 m1 x2 m2 : Value) (p q : List Int) (w : World) (hW : IsW B w k ps) (h1 : PairOK w x1 m1 p) (h2 : PairOK w x2 m2 q) (hlen : ps.length ≤ 10000000) (hB : B ≤ k) (ht : TabB B w) (hk : kind = 3 ∨ kind = 4 ∨ kind = 5 ∨ kind = 6 ∨ kind = 7) :
    Calls Tryz.prog 18 #[.pointer (some ⟨k, 0, none⟩), .int .i64 kind, .agg #[x1, m1], .agg #[x2, m2]] w fun en w' => StepOK B k ps w en w' := by
  rcases hk with rfl | rfl | rfl | rfl | rfl
  · exact two3_any B k ps x1 m1 x2 m2 p q w hW h1 h2 hlen hB ht
  · exact two4_any B k ps x1 m1 x2 m2 p q w hW h1 h2 hlen hB ht
  · exact two5_any B k ps x1 m1 x2 m2 p q w hW h1 h2 hlen hB ht
  · exact two6_any B k ps x1 m1 x2 m2 p q w hW h1 h2 hlen hB ht
  · exact two7_any B k ps x1 m1 x2 m2 p q w hW h1 h2 hlen hB ht

set_option maxRecDepth 100000 in
set_option maxHeartbeats 4000000 in
theorem shifted_any (B k : Nat) (ps : List (List Int)) (s : Int) (x1 m1 : Value) (p : List Int) (w : World) (hW : IsW B w k ps) (h1 : PairOK w x1 m1 p) (hlen : ps.length ≤ 10000000) (hB : B ≤ k) (ht : TabB B w) :
    Calls Tryz.prog 19 #[.pointer (some ⟨k, 0, none⟩), .agg #[x1, m1], .int .i64 s] w fun en w' => StepOK B k ps w en w' := by
  have hkw : B ≤ w.heap.size := by obtain ⟨a, c, hh, _⟩ := hW; have := lt_of_block hh; omega
  obtain ⟨k1, v1, rfl, _, _⟩ := id h1.p
  obtain ⟨a1, c1, rfl⟩ := OwnLN.val h1.n
  have lx := inB_len h1.ib
  have bx := inB_bd h1.ib
  by_cases hs : s < -99 ∨ 99 < s
  · have hP := fun (W : World) => shiftP_err s (.pointer (some ⟨k1, 0, none⟩)) W hs
    have hcase : s < -99 ∨ (¬ s < -99 ∧ 99 < s) := by omega
    have HFIN : Hid (∀ (W : World), Below w.heap.size w W → StepOK B k ps w (.returned (.bool true)) W) := fun W h => ⟨rfl, ⟨ps, hW.below h, by omega⟩, Kg.of h hkw⟩
    have HP : Hid _ := hP
    clear hP hs
    rcases hcase with hc | ⟨hc0, hc⟩
    · go_enter Tryz.func19, Tryz.ntmps19
      go_wp2_with fail
      have hb0 := below_one w (Obj.cells #[Value.pointer (some ⟨k1, 0, none⟩), Value.slice a1 p.length c1] 35)
      generalize w.alloc (Obj.cells #[Value.pointer (some ⟨k1, 0, none⟩), Value.slice a1 p.length c1] 35) = W0 at *
      refine (HP.out W0).mono ?_
      rintro en w1 ⟨rfl, hb1⟩
      go_wp2
      go_ret
      exact HFIN.out w1 (hb0.trans (hb1.mono hb0.size))
    · go_enter Tryz.func19, Tryz.ntmps19
      go_wp2_with fail
      have hb0 := below_one w (Obj.cells #[Value.pointer (some ⟨k1, 0, none⟩), Value.slice a1 p.length c1] 35)
      generalize w.alloc (Obj.cells #[Value.pointer (some ⟨k1, 0, none⟩), Value.slice a1 p.length c1] 35) = W0 at *
      refine (HP.out W0).mono ?_
      rintro en w1 ⟨rfl, hb1⟩
      go_wp2
      go_ret
      exact HFIN.out w1 (hb0.trans (hb1.mono hb0.size))
  · have hs0 : ¬ s < -99 := by omega
    have hs1 : ¬ 99 < s := by omega
    have hP := fun (W : World) (h : Below w.heap.size w W) => shiftP_any p s _ W (h1.p.below h) h1.ib (by omega) (by omega) ((ht.below h hkw).tab (by have := h.size; omega))
    have hR := fun (W : World) (h : Below w.heap.size w W) => shiftR_any p s _ W (OwnLN.below h1.n h) lx bx (by omega)
    have hBo := fun (W : World) (u : Value) (g : IsLN W u (oS s p p.length)) => boundedL_any (oS s p p.length) u W g (by have := oS_len s p p.length; omega)
    have hTr : Tr (oS s p p.length) := oS_tr _ _ _
    generalize oS s p p.length = T at *
    have HP : Hid _ := hP
    have HR : Hid _ := hR
    have HBo : Hid _ := hBo
    have hK := fun (W : World) (x m : Value) (e f : Int) (h : Below w.heap.size w W) (hV : BothV W x e m f) => (keepS_any B k ps x m e f W (hW.below h) hV hlen hB (ht.below h hkw)).mono (fun en w' hs => hs.from h hkw)
    have HK : Hid _ := hK
    clear hP hR hBo bx hs hK
    obtain ⟨PO, HPO⟩ : ∃ PO : Ending → World → Prop, Hid (PO = fun en w' => StepOK B k ps w en w') := ⟨_, rfl⟩
    rw [← HPO.out] at HK
    rw [← HPO.out]
    go_enter Tryz.func19, Tryz.ntmps19
    go_wp2_with fail
    have hb0 := below_one w (Obj.cells #[Value.pointer (some ⟨k1, 0, none⟩), Value.slice a1 p.length c1] 35)
    have X1 := heap_alloc_new w (Obj.cells #[Value.pointer (some ⟨k1, 0, none⟩), Value.slice a1 p.length c1] 35)
    have hs2 := lt_of_block X1
    generalize w.alloc (Obj.cells #[Value.pointer (some ⟨k1, 0, none⟩), Value.slice a1 p.length c1] 35) = W0 at *
    refine (HP.out W0 hb0).mono ?_
    rintro en w1 ⟨x, er, rfl, hBV, hb1⟩
    have hb1w := hb0.trans (hb1.mono hb0.size)
    have q1 := w2_1 ((hb1.block w.heap.size hs2).trans X1)
    have hs3 : w.heap.size < w1.heap.size := by have := hb1.size; omega
    go_wp2_with fail
    refine (HR.out w1 hb1w).mono ?_
    rintro en w2 ⟨y, rfl, hI2, hb2⟩
    obtain ⟨ya, yc, rfl⟩ := OwnLN.val hI2
    have hb2w := hb1w.trans (hb2.mono hb1w.size)
    go_wp2_with fail
    refine (HBo.out w2 _ hI2).mono ?_
    rintro en w3 ⟨m, f, rfl, hRB, hb3⟩
    have hb23 := hb2.trans (hb3.mono hb2.size)
    have hb3w := hb1w.trans (hb23.mono hb1w.size)
    go_wp2_with fail
    refine (HK.out w3 x m er f hb3w (both_of hBV hb23 hRB hTr)).mono ?_
    rintro en w4 hpo
    have hpo2 := hpo
    rw [HPO.out] at hpo2
    obtain ⟨rfl, _⟩ := hpo2
    go_wp2
    exact hpo

end Go.Proofs.YtldcjkhbiffdoaaGreatDoor
