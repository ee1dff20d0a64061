import Derived.Test.YtldcjkhbiffdoaaGreatDoorCNumQuo
import Derived.Test.YtldcjkhbiffdoaaGreatDoorM12
import Derived.Test.YtldcjkhbiffdoaaGreatDoorM03
import Derived.Deep.RegionWith

/-
  factornum.Gcd.
-/
namespace Go.Proofs.YtldcjkhbiffdoaaGreatDoor
open Go.RowKit

/-- Two nested lists of stores into a box: the box then. -/
theorem IsN.set2 {w : World} {u : Value} {z : Int} (h : IsN w u z) {k : Nat} {a b : Value} (hk : BxN w k a b) (a' b' : Value) : IsN ((w.setCell ⟨k, 0, none⟩ a').setCell ⟨k, 1, none⟩ b') u z := by
  obtain ⟨b1, x, l, h1, h2, h3⟩ := h
  exact ⟨b1, x, l, h1, h2.set2 hk a' b', h3⟩

/-- The box k holds the number z. -/
def IsK (w : World) (k : Nat) (z : Int) : Prop := ∃ b a n c, BxN w k (.bool b) (.slice a n c) ∧ IsN w (.agg #[.bool b, .slice a n c]) z

theorem IsK.below {w w' : World} {k : Nat} {z : Int} (h : IsK w k z) (hb : Below w.heap.size w w') : IsK w' k z := by
  obtain ⟨b, a, n, c, h1, h2⟩ := h
  exact ⟨b, a, n, c, h1.below hb, h2.below hb⟩
theorem IsK.other {w : World} {k j : Nat} {z : Int} (h : IsK w k z) {a b : Value} (hj : BxN w j a b) (hne : k ≠ j) (u v : Value) : IsK ((w.setCell ⟨j, 0, none⟩ u).setCell ⟨j, 1, none⟩ v) k z := by
  obtain ⟨b, x, n, c, h1, h2⟩ := h
  exact ⟨b, x, n, c, h1.other hne u v, h2.set2 hj u v⟩
theorem IsK.stored {w : World} {j : Nat} {a b : Value} (hj : BxN w j a b) {b1 : Bool} {x : Option Addr} {n c : Nat} {z : Int} (h : IsN w (.agg #[.bool b1, .slice x n c]) z) : IsK ((w.setCell ⟨j, 0, none⟩ (.bool b1)).setCell ⟨j, 1, none⟩ (.slice x n c)) j z :=
  ⟨b1, x, n, c, hj.set _ _, h.set2 hj _ _⟩

theorem gcd_step {a b : Int} (ha : 0 ≤ a) (hb : 0 < b) : 0 ≤ a.tmod b ∧ a.tmod b < b ∧ Int.gcd b (a.tmod b) = Int.gcd a b := by
  rw [Int.tmod_eq_emod_of_nonneg ha]
  refine ⟨Int.emod_nonneg _ (by omega), Int.emod_lt_of_pos _ hb, ?_⟩
  have h1 : (a % b).natAbs = a.natAbs % b.natAbs := Int.natAbs_emod_of_nonneg ha b
  unfold Int.gcd
  rw [h1]
  exact (Nat.gcd_comm _ _).trans ((Nat.gcd_rec b.natAbs a.natAbs).symm.trans (Nat.gcd_comm _ _))

theorem FitN.le {a b : Int} (h : FitN a) (hb : b.natAbs ≤ a.natAbs) : FitN b := by
  obtain ⟨n, h1, h2⟩ := h
  exact ⟨n, h1, Nat.lt_of_le_of_lt hb h2⟩

/-- A number is one alone. -/
theorem RowN.uniq {w : World} {a : Option Addr} {n c : Nat} {l l' : List Int} (h : RowN w (.slice a n c) l) (h' : RowN w (.slice a n c) l') : l = l' := by
  have e1 : n = l.length := by obtain ⟨_, _, e⟩ := h.val; simp at e; exact e.2.1
  have e2 : n = l'.length := by obtain ⟨_, _, e⟩ := h'.val; simp at e; exact e.2.1
  apply List.ext_getElem (by omega)
  intro i h1 h2
  have hn : RowN w (.slice a l.length c) l := e1 ▸ h
  have hn' : RowN w (.slice a l'.length c) l' := e2 ▸ h'
  obtain ⟨g, rfl, _, _, _, hc⟩ := hn.at i h1
  obtain ⟨g', hg, _, _, _, hc'⟩ := hn'.at i h2
  simp at hg
  subst hg
  rw [getD_lt h1] at hc
  rw [getD_lt h2, hc] at hc'
  simpa using hc'

theorem IsK.uniq {w : World} {k : Nat} {z z' : Int} (h : IsK w k z) (h' : IsK w k z') : z = z' := by
  obtain ⟨b, a, n, c, h1, b2, x2, l, e, hr, hl⟩ := h
  obtain ⟨b', a', n', c', h1', b2', x2', l', e', hr', hl'⟩ := h'
  unfold BxN at h1 h1'
  rw [h1] at h1'
  simp at h1' e e'
  obtain ⟨rfl, rfl, rfl, rfl⟩ := h1'
  obtain ⟨rfl, rfl⟩ := e
  obtain ⟨rfl, rfl⟩ := e'
  obtain rfl := hr.uniq hr'
  rw [hl.val, hl'.val]

open Classical in
/-- The number in a box. -/
noncomputable def kAt (k : Nat) (w : World) : Nat := if h : ∃ z, IsK w k z then (Classical.choose h).natAbs else 0
theorem IsK.at {w : World} {k : Nat} {z : Int} (h : IsK w k z) : kAt k w = z.natAbs := by
  unfold kAt
  have hx : ∃ z, IsK w k z := ⟨z, h⟩
  rw [dif_pos hx, (Classical.choose_spec hx).uniq h]

set_option maxHeartbeats 4000000 in
theorem gcdN_any (u v : Value) (z1 z2 : Int) (w : World) (hu : IsN w u z1) (hv : IsN w v z2) (f1 : FitN z1) (f2 : FitN z2) :
    Calls Tryz.prog 71 #[u, v] w fun e w' => ∃ v, e = .returned v ∧ IsN w' v (Int.gcd z1 z2 : Int) ∧ Below w.heap.size w w' := by
  obtain ⟨b1, ua, un, uc, l, rfl, hx, h1⟩ := id hu.open
  obtain ⟨b2, va, vn, vc, m, rfl, hy, h2⟩ := id hv.open
  obtain ⟨g, HG⟩ : ∃ g, Hid (Int.gcd z1 z2 = g) := ⟨_, rfl⟩
  rw [HG.out]
  go_enter Tryz.func71, Tryz.ntmps71
  go_wp2_with fail
  generalize hW : ((w.alloc (Obj.cells #[Value.bool b1, Value.slice ua un uc] 74)).alloc (Obj.cells #[Value.bool b2, Value.slice va vn vc] 74)).alloc (Obj.cells #[Value.bool false, Value.slice none 0 0] 74) = W0
  obtain ⟨hz0, hb0, X0, X1, X2⟩ := three_newN hW
  clear hW
  refine (absN_any _ z1 W0 (hu.below hb0)).mono ?_
  rintro e w1 ⟨v1, rfl, hI1, hb1⟩
  obtain ⟨b3, xa, xn, xc, t1, rfl, _, _⟩ := id hI1.open
  have Y0 := X0.below hb1; have Y1 := X1.below hb1; have Y2 := X2.below hb1
  have hv1 := (hv.below hb0).below hb1
  have p0 := Y0.c0; have p1 := Y0.c1; have p2 := Y1.c0; have p3 := Y1.c1; have f0 := Y0.f0; have f3 := Y0.f1
  go_wp2_with fail
  generalize hW2 : (w1.setCell ⟨w.heap.size, 0, none⟩ (.bool b3)).setCell ⟨w.heap.size, 1, none⟩ (.slice xa xn xc) = W2
  have K0 : IsK W2 w.heap.size (z1.natAbs : Int) := hW2 ▸ IsK.stored Y0 hI1
  have Z1 : BxN W2 (w.heap.size + 1) _ _ := hW2 ▸ Y1.other (by omega) _ _
  have Z2 : BxN W2 (w.heap.size + 1 + 1) _ _ := hW2 ▸ Y2.other (by omega) _ _
  have hv2 : IsN W2 _ z2 := hW2 ▸ hv1.set2 Y0 _ _
  have hbw2 : Below w.heap.size w W2 := hW2 ▸ below_set2 (hb0.trans (hb1.mono hb0.size)) (Nat.le_refl _) _ _
  clear hW2
  refine (absN_any _ z2 W2 hv2).mono ?_
  rintro e w3 ⟨v3, rfl, hI3, hb3⟩
  obtain ⟨b4, ya, yn, yc, t3, rfl, _, _⟩ := id hI3.open
  have V1 := Z1.below hb3; have V2 := Z2.below hb3
  have K0' := K0.below hb3
  have q2 := V1.c0; have q3 := V1.c1; have g0 := V1.f0; have g3 := V1.f1
  go_wp2_with fail
  generalize hW4 : (w3.setCell ⟨w.heap.size + 1, 0, none⟩ (.bool b4)).setCell ⟨w.heap.size + 1, 1, none⟩ (.slice ya yn yc) = W4
  have L0 : IsK W4 w.heap.size (z1.natAbs : Int) := hW4 ▸ K0'.other V1 (by omega) _ _
  have L1 : IsK W4 (w.heap.size + 1) (z2.natAbs : Int) := hW4 ▸ IsK.stored V1 hI3
  have L2 : BxN W4 (w.heap.size + 1 + 1) (.bool false) (.slice none 0 0) := hW4 ▸ V2.other (by omega) _ _
  have hbw4 : Below w.heap.size w W4 := hW4 ▸ below_set2 (hbw2.trans (hb3.mono hbw2.size)) (by omega) _ _
  have hG : Hid (Int.gcd (z1.natAbs : Int) (z2.natAbs : Int) = g) := by
    have := HG.out
    unfold Int.gcd at this
    exact (by unfold Int.gcd; simpa using this : Int.gcd (z1.natAbs : Int) (z2.natAbs : Int) = g)
  clear hW4
  have f1' : FitN (z1.natAbs : Int) := f1.le (by simp)
  have f2' : FitN (z2.natAbs : Int) := f2.le (by simp)
  have hn1 : 0 ≤ (z1.natAbs : Int) := by omega
  have hn2 : 0 ≤ (z2.natAbs : Int) := by omega
  clear HG hv2 hI3 K0 K0' V1 V2 Z1 Z2 hv1 hI1 Y0 Y1 Y2 X0 X1 X2 hx hy h1 h2 hu hv hb0 hb1 hb3 hbw2 p0 p1 p2 p3 f0 f3 q2 q3 g0 g3
  generalize (z1.natAbs : Int) = y1 at *
  generalize (z2.natAbs : Int) = y2 at *
  go_loopw [5] (fun _p wr => ∃ (a b : Int), IsK wr w.heap.size a ∧ IsK wr (w.heap.size + 1) b ∧ BxN wr (w.heap.size + 1 + 1) (.bool false) (.slice none 0 0) ∧ 0 ≤ a ∧ 0 ≤ b ∧ FitN a ∧ FitN b ∧ Hid (Int.gcd a b = g) ∧ Below w.heap.size w wr) (fun _ wr => kAt (w.heap.size + 1) wr)
  case atStart => exact ⟨y1, y2, L0, L1, L2, hn1, hn2, f1', f2', hG, hbw4⟩
  case round =>
    clear L0 L1 L2 hn1 hn2 f1' f2' hG hbw4
    obtain ⟨a, b, hK0, hK1, B2, ha, hb, fa, fb, HG, hbel⟩ := hrel
    have hk1 := hK1.at
    obtain ⟨ba, aa, an, ac, A0, hA⟩ := id hK0
    obtain ⟨bb, ca, cn, cc, A1, hBn⟩ := id hK1
    have c0 := A0.c0; have c1 := A0.c1; have c2 := A1.c0; have c3 := A1.c1
    have hsz := A1.lt
    have hZ := zeroN_any _ b wr hBn
    by_cases hb0 : b = 0
    · rw [decide_eq_true hb0] at hZ
      go_wp2_with fail
      refine hZ.mono ?_
      rintro e w5 ⟨rfl, hb5⟩
      have D0 := A0.below hb5; have D2 := B2.below hb5
      have hA5 := hA.below hb5
      have r0 := D0.c0; have r1 := D0.c1; have r2 := D2.c0; have r3 := D2.c1; have g2 := D2.f0; have g3 := D2.f1
      have hga : a = (g : Int) := by
        have := HG.out
        rw [hb0, Int.gcd_zero_right] at this
        omega
      rw [hga] at hA5
      go_wp2
      refine bodyPost_ret (v := .agg #[.bool ba, .slice aa an ac]) (by simp [results, Tryz.results71, go_sem, r2, r3]) rfl ⟨_, rfl, hA5.set2 D2 _ _, below_set2 (hbel.trans (hb5.mono hbel.size)) (by omega) _ _⟩
    · rw [decide_eq_false hb0] at hZ
      have hQ := fun (W : World) (g1 : IsN W (.agg #[.bool ba, .slice aa an ac]) a) (g2 : IsN W (.agg #[.bool bb, .slice ca cn cc]) b) => quoN_any _ _ a b W g1 g2 fa fb hb0
      have hst := gcd_step ha (show 0 < b by omega)
      generalize a.tdiv b = qq at *
      generalize a.tmod b = rr at *
      go_wp2_with fail
      refine hZ.mono ?_
      rintro e w5 ⟨rfl, hb5⟩
      have D0 := A0.below hb5; have D1 := A1.below hb5; have D2 := B2.below hb5
      have hA5 := hA.below hb5
      have hB5 := hBn.below hb5
      have r0 := D0.c0; have r1 := D0.c1; have r2 := D1.c0; have r3 := D1.c1
      go_wp2_with fail
      refine (hQ w5 hA5 hB5).mono ?_
      rintro e w6 ⟨q6, r6, rfl, hq6, hr6, hb6⟩
      obtain ⟨b7, qa, qn, qc, _, rfl, _, _⟩ := id hq6.open
      obtain ⟨b8, ra, rn, rc, _, rfl, _, _⟩ := id hr6.open
      have E0 := D0.below hb6; have E1 := D1.below hb6; have E2 := D2.below hb6
      have hB6 := hB5.below hb6
      have s0 := E0.c0; have s1 := E0.c1; have s2 := E1.c0; have s3 := E1.c1; have t0 := E0.f0; have t1 := E0.f1; have t2 := E1.f0; have t3 := E1.f1
      have hs6 := E1.lt
      have hs7 : w.heap.size + 1 < w6.heap.size + 1 := by omega
      have hs8 : w.heap.size < w6.heap.size := by omega
      have hs9 : w.heap.size < w6.heap.size + 1 := by omega
      have M0 := IsK.stored E0 hB6
      have E1a := E1.other (show w.heap.size + 1 ≠ w.heap.size by omega) (.bool bb) (.slice ca cn cc)
      have hr6a := hr6.set2 E0 (.bool bb) (.slice ca cn cc)
      have N0 := M0.other E1a (show w.heap.size ≠ w.heap.size + 1 by omega) (.bool b8) (.slice ra rn rc)
      have N1 := IsK.stored E1a hr6a
      have N2 := (E2.other (show w.heap.size + 1 + 1 ≠ w.heap.size by omega) (.bool bb) (.slice ca cn cc)).other (show w.heap.size + 1 + 1 ≠ w.heap.size + 1 by omega) (.bool b8) (.slice ra rn rc)
      have hbb := fun (W : World) (o o' : Obj) => (below_one W o).trans ((below_one (W.alloc o) o').mono (by simp))
      have P0 := N0.below (hbb _ (.cells #[.bool b7, .slice qa qn qc] 74) (.cells #[.bool b8, .slice ra rn rc] 74))
      have P1 := N1.below (hbb _ (.cells #[.bool b7, .slice qa qn qc] 74) (.cells #[.bool b8, .slice ra rn rc] 74))
      have P2 := N2.below (hbb _ (.cells #[.bool b7, .slice qa qn qc] 74) (.cells #[.bool b8, .slice ra rn rc] 74))
      have hb56 : Below w.heap.size w w6 := (hbel.trans (hb5.mono hbel.size)).trans (hb6.mono (by have := hbel.size; have := hb5.size; omega))
      have hbs := below_set2 (below_set2 hb56 (Nat.le_refl _) (.bool bb) (.slice ca cn cc)) (show w.heap.size ≤ w.heap.size + 1 by omega) (.bool b8) (.slice ra rn rc)
      have hbf := hbs.trans ((hbb _ (.cells #[.bool b7, .slice qa qn qc] 74) (.cells #[.bool b8, .slice ra rn rc] 74)).mono hbs.size)
      have hP1 := P1.at
      have HALL : Hid _ := (⟨P0, P1, P2, hbf, hP1⟩ : _ ∧ _ ∧ _ ∧ _ ∧ _)
      clear M0 E1a hr6a N0 N1 N2 hbb P0 P1 P2 hbs hbf hP1 hb56
      have HG2 : Hid (Int.gcd b rr = g) := hst.2.2.trans HG.out
      go_wp2
      obtain ⟨P0, P1, P2, hbf, hP1⟩ := HALL.out
      refine ⟨⟨b, rr, P0, P1, P2, hb, hst.1, fb, fb.le (by omega), HG2, hbf⟩, ?_⟩
      rw [hP1, hk1]
      omega

end Go.Proofs.YtldcjkhbiffdoaaGreatDoor

/-
  factorref.Poly in memory: a slice of numbers.
-/
namespace Go.Proofs.YtldcjkhbiffdoaaGreatDoor
open Go.RowKit


def OwnLN (B : Nat) (w : World) (v : Value) (zs : List Int) : Prop :=
  ∃ cs : List (Bool × Value), cs.length = zs.length ∧ w.ownsRow B 74 2 v zs.length (flat cs) ∧ ∀ i p, cs[i]? = some p → IsN w (vOf p) (zs.getD i 0)

def IsLN (w : World) (v : Value) (zs : List Int) : Prop := OwnLN 0 w v zs

theorem OwnLN.isL {B : Nat} {w : World} {v : Value} {zs : List Int} (h : OwnLN B w v zs) : IsLN w v zs := by
  obtain ⟨cs, h1, h2, h3⟩ := h
  refine ⟨cs, h1, ⟨h2.1, ?_⟩, h3⟩
  rcases h2.2 with h | ⟨g, cap, cur, hv, _, r⟩
  · exact .inl h
  · exact .inr ⟨g, cap, cur, hv, Nat.zero_le _, r⟩

theorem OwnLN.block {B : Nat} {w : World} {v : Value} {zs : List Int} (h : OwnLN B w v zs) : ∀ k, v.ownBlock = some k → B ≤ k := by
  obtain ⟨cs, h1, h2, h3⟩ := h
  exact fun k hk => (World.ownsRow.lt h2 k hk).1

theorem OwnLN.below {B : Nat} {w w' : World} {v : Value} {zs : List Int} (h : OwnLN B w v zs) (hb : Below w.heap.size w w') : OwnLN B w' v zs := by
  obtain ⟨cs, h1, h2, h3⟩ := h
  refine ⟨cs, h1, ⟨h2.1, ?_⟩, fun i p hp => (h3 i p hp).below hb⟩
  rcases h2.2 with h | ⟨g, cap, cur, hv, hB, hg, r⟩
  · exact .inl h
  · exact .inr ⟨g, cap, cur, hv, hB, by rw [hb.block g (Array.getElem?_eq_some_iff.1 hg).1]; exact hg, r⟩

theorem OwnLN.val {B : Nat} {w : World} {v : Value} {zs : List Int} (h : OwnLN B w v zs) : ∃ a c, v = .slice a zs.length c := by
  obtain ⟨cs, h1, h2, h3⟩ := h
  rcases h2.2 with ⟨h, h'⟩ | ⟨g, cap, cur, hv, _⟩
  · exact ⟨none, 0, by rw [h']; exact h⟩
  · exact ⟨_, _, hv⟩

/-- A number of it: its two cells. -/
theorem OwnLN.at {B : Nat} {w : World} {a : Option Addr} {c : Nat} {zs : List Int} (h : OwnLN B w (.slice a zs.length c) zs) (i : Nat) (hi : i < zs.length) :
    ∃ g b xa xn xc, a = some ⟨g, 0, none⟩ ∧ zs.length ≤ c ∧ c ≤ maxLen ∧ g < w.heap.size ∧ B ≤ g ∧ w.cell? ⟨g, i * 2, none⟩ = some (.bool b) ∧ w.cell? ⟨g, i * 2 + 1, none⟩ = some (.slice xa xn xc) ∧ IsN w (.agg #[.bool b, .slice xa xn xc]) (zs.getD i 0) := by
  obtain ⟨cs, h1, h2, h3⟩ := h
  rcases h2.2 with ⟨_, h'⟩ | ⟨g, cap, cur, hv, hB, hg, hnc, hcm, _⟩
  · omega
  · simp only [Value.slice.injEq, true_and] at hv
    obtain ⟨rfl, rfl⟩ := hv
    have hp : cs[i]? = some cs[i] := List.getElem?_eq_getElem (by omega)
    obtain ⟨e1, e2⟩ := flat_at cs i _ hp
    have hI := h3 i _ hp
    obtain ⟨xa, xn, xc, hx⟩ : ∃ xa xn xc, cs[i].2 = .slice xa xn xc := by
      obtain ⟨b', x', l, e, hr, _⟩ := hI
      obtain ⟨xa, xc, hx⟩ := hr.val
      simp [vOf] at e
      exact ⟨xa, _, xc, e.2.trans hx⟩
    unfold vOf at hI
    rw [hx] at hI e2
    refine ⟨g, cs[i].1, xa, xn, xc, rfl, hnc, hcm, (Array.getElem?_eq_some_iff.1 hg).1, hB, ?_, ?_, hI⟩
    · rw [h2.cellAt (i * 2) (by omega)]; exact e1
    · rw [h2.cellAt (i * 2 + 1) (by omega)]; exact e2

/-- 'Poly{}'. -/
theorem OwnLN.lit {w : World} {n : Nat} (h : w.heap.size = n) : OwnLN n (w.alloc (.cells #[] 74)) (.slice (some ⟨n, 0, none⟩) 0 0) [] := by
  subst h
  exact ⟨[], rfl, World.ownsRow_made w #[] 0 (Nat.le_refl _) (by simp [maxLen]) rfl, fun i p hp => by simp at hp⟩

theorem Tryz.infoNum : (Tryz.prog.info? 74).map (fun i => (i.zero, i.size, i.bytes)) = some (some (.agg #[.bool false, .slice none 0 0]), 2, 32) := by kernel_rfl
theorem Tryz.slicePoly : Tryz.prog.underlying 33 = some (.slice 74) := by kernel_rfl

/-- Limbs are not touched by what is written into a block of numbers. -/
theorem IsN.kept {w w' : World} {v : Value} {z : Int} {g : Option Nat} (h : IsN w v z) (hg : w.grownBy w' g) (ht : ∀ k, g = some k → ∃ cur, w.heap[k]? = some (.cells cur 74 (0, 0))) : IsN w' v z := by
  obtain ⟨b, x, l, h1, h2, h3⟩ := h
  refine ⟨b, x, l, h1, World.ownsRow.kept h2 hg ?_, h3⟩
  rcases h2.2 with ⟨hn, _⟩ | ⟨k, cap, cur, hv, _, hk, _⟩
  · left; rw [hn]; rfl
  · right
    rw [hv]
    show some k ≠ g
    intro e
    obtain ⟨cur', hc⟩ := ht k e.symm
    rw [hk] at hc
    simp at hc

theorem OwnLN.typ {B : Nat} {w : World} {v : Value} {zs : List Int} (h : OwnLN B w v zs) : ∀ k, v.ownBlock = some k → ∃ cur, w.heap[k]? = some (.cells cur 74 (0, 0)) := by
  obtain ⟨cs, h1, h2, h3⟩ := h
  intro k hk
  rcases h2.2 with ⟨hn, _⟩ | ⟨g, cap, cur, hv, _, hg, _⟩
  · rw [hn] at hk; simp [Value.ownBlock] at hk
  · rw [hv] at hk; simp [Value.ownBlock] at hk; subst hk; exact ⟨cur, hg⟩

/-- 'l = append(l, y)' on a slice of numbers that the call itself has made. -/
theorem wpList_pushNum {ops : Array Oper} {rest : List Oper} {o : Oper} {a : Act} {Q : Exit → Act → World → Prop} {wr : World} (hgd : o.guard = none) (s x : Operand)
    (ho : o.op = .call { callee := .builtin .append, args := #[s, x], argTypes := #[33, 33] })
    (B : Nat) (v : Value) (zs : List Int) (b : Bool) (y : Value) (z : Int) (hs : a.eval s = v) (hown : OwnLN B wr v zs) (hz : IsN wr (.agg #[.bool b, y]) z) (hx : a.eval x = .slice (some ⟨wr.heap.size, 0, none⟩) 1 1)
    (hlen : zs.length ≤ 1000000000) (hB : B ≤ wr.heap.size)
    (h : ∀ v' w', OwnLN B w' v' (zs ++ [z]) → Below B wr w' → wr.grownBy w' v.ownBlock → wpList Tryz.prog ops Q rest (a.put o.dst v') w') :
    wpList Tryz.prog ops Q (o :: rest) a (wr.alloc (.cells #[.bool b, y] 74)) := by
  obtain ⟨i, hi, hz0, hz1, hz2⟩ := info_parts Tryz.infoNum
  have htyp := hown.typ
  have hblk := hown.block
  obtain ⟨cs, h1, h2, h3⟩ := hown
  have hy1 : y.oneCell' = true := by
    obtain ⟨b', x', l, e, hr, _⟩ := hz
    simp at e
    obtain ⟨_, rfl⟩ := e
    obtain ⟨xa, xc, rfl⟩ := hr.val
    rfl
  refine wpList_append_own _ hgd s x 33 ho B 74 i (.agg #[.bool false, .slice none 0 0]) 2 32 Tryz.slicePoly hi hz0 hz1 hz2 rfl (by decide) v zs.length (flat cs) hs (World.ownsRow.alloc h2 _) ⟨wr.heap.size, 0, none⟩ 1 1 [.bool b, y] hx rfl ?_ ?_ ?_ ?_ ?_ ?_
  · exact cell_two_new wr (.bool b) y 74
  · intro u hu
    simp at hu
    rcases hu with rfl | rfl
    · rfl
    · exact hy1
  · unfold maxLen; omega
  · omega
  · simp; omega
  · intro v' w' g1 g2 _
    have hg : wr.grownBy w' v.ownBlock := by
      have h0 := World.grownBy_alloc wr (.cells #[.bool b, y] 74) v.ownBlock
      exact ⟨g2.os.trans h0.os, g2.tape.trans h0.tape, g2.output.trans h0.output, Nat.le_trans h0.size g2.size, fun k hk hne => (g2.block k (by simp; omega) hne).trans (h0.block k hk hne)⟩
    refine h v' w' ⟨cs ++ [(b, y)], by simp [h1], ?_, ?_⟩ ((Below.refl _ _).grown hg hB hblk) hg
    · rw [flat_append]
      simpa [flat] using g1
    · intro j p hj
      by_cases hjl : j < cs.length
      · rw [List.getElem?_append_left hjl] at hj
        have hj2 : (zs ++ [z]).getD j 0 = zs.getD j 0 := by simp [List.getD, List.getElem?_append_left (show j < zs.length by omega)]
        rw [hj2]
        exact (h3 j p hj).kept hg htyp
      · rw [List.getElem?_append_right (by omega)] at hj
        have hj0 : j - cs.length = 0 := by
          rcases Nat.eq_zero_or_pos (j - cs.length) with h0 | h0
          · exact h0
          · rw [List.getElem?_eq_none (by simp; omega)] at hj; simp at hj
        rw [hj0] at hj
        simp at hj
        subst hj
        have hj2 : (zs ++ [z]).getD j 0 = z := by
          rw [show j = zs.length by omega]; simp [List.getD]
        rw [hj2]
        exact hz.kept hg htyp

/-- A nil list of numbers. -/
theorem OwnLN.nil0 (B : Nat) (w : World) : OwnLN B w (.slice none 0 0) [] := ⟨[], rfl, ⟨rfl, .inl ⟨rfl, rfl⟩⟩, fun i p hp => by simp at hp⟩

end Go.Proofs.YtldcjkhbiffdoaaGreatDoor

/-
  factorref: Poly.at, tidy.
-/
namespace Go.Proofs.YtldcjkhbiffdoaaGreatDoor
open Go.RowKit

theorem zeroNum {w : World} : IsN w (.agg #[.bool false, .slice none 0 0]) 0 :=
  ⟨_, _, [], rfl, ⟨rfl, .inl ⟨rfl, rfl⟩⟩, ⟨Dig.nil _, (fun x h => by simp at h), (fun h => by cases h), by simp [sv, ev]⟩⟩

set_option maxHeartbeats 1000000 in
theorem atR_any (zs : List Int) (v : Value) (k : Nat) (w : World) (hv : IsLN w v zs) :
    Calls Tryz.prog 59 #[v, .int .i64 k] w fun e w' => ∃ x, e = .returned x ∧ IsN w' x (zs.getD k 0) ∧ Below w.heap.size w w' := by
  obtain ⟨va, vc, rfl⟩ := OwnLN.val hv
  by_cases hlt : k < zs.length
  · obtain ⟨g, b, xa, xn, xc, rfl, hc1, hc2, hg, _, hc0, hcx, hI⟩ := OwnLN.at hv k hlt
    generalize zs.getD k 0 = z at *
    go_enter Tryz.func59, Tryz.ntmps59
    go_wp2
    refine bodyPost_ret (v := .agg #[.bool b, .slice xa xn xc]) (by simp [results, Tryz.results59, go_sem]) rfl ⟨_, rfl, hI.below (below_one _ _), below_one _ _⟩
  · have hz : zs.getD k 0 = 0 := by simp [List.getD, List.getElem?_eq_none (Nat.le_of_not_lt hlt)]
    rw [hz]
    clear hz
    go_enter Tryz.func59, Tryz.ntmps59
    go_wp2
    refine bodyPost_ret (v := .agg #[.bool false, .slice none 0 0]) (by simp [results, Tryz.results59, go_sem]) rfl ⟨_, rfl, zeroNum, below_one _ _⟩

theorem flat_take : ∀ (cs : List (Bool × Value)) (n : Nat), (flat cs).take (n * 2) = flat (cs.take n)
  | [], n => by simp [flat]
  | p :: cs, 0 => by simp [flat]
  | p :: cs, n + 1 => by
    rw [show (n + 1) * 2 = n * 2 + 1 + 1 by omega]
    simp [flat, flat_take cs n]

theorem OwnLN.take {B : Nat} {w : World} {a : Option Addr} {c : Nat} {zs : List Int} (h : OwnLN B w (.slice a zs.length c) zs) {n : Nat} (hn : n ≤ zs.length) : OwnLN B w (.slice a n c) (zs.take n) := by
  obtain ⟨cs, h1, h2, h3⟩ := h
  have hlen : (zs.take n).length = n := by rw [List.length_take]; omega
  refine ⟨cs.take n, by rw [List.length_take, hlen]; omega, ?_, fun i p hp => ?_⟩
  · rw [hlen]
    refine ⟨by rw [flat_length, List.length_take]; omega, ?_⟩
    rcases h2.2 with ⟨h4, h5⟩ | ⟨g, cap, cur, hv, hb, hg, hnc, hcm, hcs, ht⟩
    · simp only [Value.slice.injEq] at h4
      obtain ⟨rfl, _, rfl⟩ := h4
      obtain rfl : n = 0 := by omega
      exact .inl ⟨rfl, rfl⟩
    · simp only [Value.slice.injEq, true_and] at hv
      obtain ⟨rfl, rfl⟩ := hv
      refine .inr ⟨g, c, cur, rfl, hb, hg, by omega, hcm, hcs, ?_⟩
      have : cur.toList.take (n * 2) = (cur.toList.take (zs.length * 2)).take (n * 2) := by rw [List.take_take]; congr 1; omega
      rw [this, ht, flat_take]
  · have hi : i < n := by
      have := (List.getElem?_eq_some_iff.1 hp).1
      rw [List.length_take] at this
      omega
    rw [List.getElem?_take_of_lt hi] at hp
    have := h3 i p hp
    rwa [show (zs.take n).getD i 0 = zs.getD i 0 by simp [List.getD, List.getElem?_take_of_lt hi]]

set_option maxHeartbeats 1000000 in
theorem tidyR_own (B : Nat) (zs : List Int) (v : Value) (w : World) (hv : OwnLN B w v zs) (hl : zs.length ≤ 1000000000) :
    Calls Tryz.prog 60 #[v] w fun e w' => ∃ x, e = .returned x ∧ OwnLN B w' x (tz zs) ∧ Below w.heap.size w w' := by
  obtain ⟨va, vc, rfl⟩ := OwnLN.val hv
  obtain ⟨n, HN⟩ : ∃ n, Hid (tzn zs zs.length = n) := ⟨_, rfl⟩
  unfold tz
  rw [HN.out]
  go_enter Tryz.func60, Tryz.ntmps60
  go_wp2_with fail
  go_loopw [0] (fun d wr => ∃ (k : Nat), k ≤ zs.length ∧ d = .slice va k vc ∧ Hid (tzn zs k = n) ∧ Below w.heap.size w wr) (fun d _ => lenV d)
  case atStart => exact ⟨zs.length, Nat.le_refl _, rfl, HN, Below.refl _ _⟩
  case round =>
    obtain ⟨k, hk, rfl, HT, hbel⟩ := hrel
    have hvw := OwnLN.below hv hbel
    cases k with
    | zero =>
      have hn : n = 0 := HT.out.symm
      subst hn
      have hr := hvw.take (n := 0) (Nat.zero_le _)
      go_wp2
      go_ret
      exact ⟨_, rfl, hr, hbel⟩
    | succ j =>
      obtain ⟨g, b, xa, xn, xc, rfl, hc1, hc2, hg, _, hc0, hcx, hI⟩ := OwnLN.at hvw j (by omega)
      obtain ⟨z, HZ⟩ : ∃ z, Hid (zs.getD j 0 = z) := ⟨_, rfl⟩
      rw [HZ.out] at hI
      have hS := zeroN_any _ z wr hI
      by_cases hz0 : z = 0
      · rw [decide_eq_true hz0] at hS
        have HT2 : Hid (tzn zs j = n) := by
          have := HT.out
          rw [tzn, if_pos (by rw [HZ.out]; exact hz0)] at this
          exact this
        clear HT HZ hz0
        go_wp2_with fail
        refine hS.mono ?_
        rintro e w1 ⟨rfl, hb1⟩
        go_wp2_with fail
        go_roundw
        case rel => exact ⟨j, by omega, by go_num, HT2, hbel.trans (hb1.mono hbel.size)⟩
        case measure => simp [lenV]
      · rw [decide_eq_false hz0] at hS
        have hn : n = j + 1 := by
          have := HT.out
          rw [tzn, if_neg (by rw [HZ.out]; exact hz0)] at this
          exact this.symm
        subst hn
        have hr := hvw.take (n := j + 1) (by omega)
        clear HT HZ hz0
        go_wp2_with fail
        refine hS.mono ?_
        rintro e w1 ⟨rfl, hb1⟩
        have hr1 := OwnLN.below hr hb1
        go_wp2
        go_ret
        exact ⟨_, rfl, hr1, hbel.trans (hb1.mono hbel.size)⟩

end Go.Proofs.YtldcjkhbiffdoaaGreatDoor

/-
  factorref: Add, Minus.
-/
namespace Go.Proofs.YtldcjkhbiffdoaaGreatDoor
open Go.RowKit

/-- The sums, power by power. -/
def sumTo (xs ys : List Int) (n : Nat) : List Int := (List.range n).map fun k => xs.getD k 0 + ys.getD k 0
theorem sumTo_succ (xs ys : List Int) (n : Nat) : sumTo xs ys (n + 1) = sumTo xs ys n ++ [xs.getD n 0 + ys.getD n 0] := by
  unfold sumTo
  rw [List.range_succ, List.map_append]
  rfl
theorem sumTo_len (xs ys : List Int) (n : Nat) : (sumTo xs ys n).length = n := by simp [sumTo]

/-- All are not too great. -/
def FitL (zs : List Int) : Prop := ∀ k, FitN (zs.getD k 0)

set_option maxHeartbeats 1000000 in
theorem addR_any (xs ys : List Int) (u v : Value) (w : World) (hu : IsLN w u xs) (hv : IsLN w v ys) (hl : xs.length ≤ 1000000) (hm : ys.length ≤ 1000000) (fx : FitL xs) (fy : FitL ys) :
    Calls Tryz.prog 28 #[u, v] w fun e w' => ∃ x, e = .returned x ∧ IsLN w' x (tz (sumTo xs ys (max xs.length ys.length))) ∧ Below w.heap.size w w' := by
  obtain ⟨ua, uc, rfl⟩ := OwnLN.val hu
  obtain ⟨va, vc, rfl⟩ := OwnLN.val hv
  obtain ⟨S, HS⟩ : ∃ S, Hid (tz (sumTo xs ys (max xs.length ys.length)) = S) := ⟨_, rfl⟩
  rw [HS.out]
  go_enter Tryz.func28, Tryz.ntmps28
  go_wp2_with fail
  go_loopw [5, 6] (fun o i wr => ∃ (k : Nat), k ≤ max xs.length ys.length ∧ i = .int .i64 k ∧ OwnLN w.heap.size wr o (sumTo xs ys k) ∧ Below w.heap.size w wr) (fun _ i _ => max xs.length ys.length - (intOf i).toNat)
  case atStart => exact ⟨0, Nat.zero_le _, rfl, OwnLN.nil0 _ _, Below.refl _ _⟩
  case round =>
    obtain ⟨k, hk, rfl, hown, hbel⟩ := hrel
    have hlen := sumTo_len xs ys k
    by_cases hlt : k < max xs.length ys.length
    · have hc1 := atR_any xs (.slice ua xs.length uc) k wr (OwnLN.below hu hbel)
      have hc2 := fun (W : World) (g : IsLN W (.slice va ys.length vc) ys) => atR_any ys (.slice va ys.length vc) k W g
      have hsu := sumTo_succ xs ys k
      have f1 := fx k
      have f2 := fy k
      generalize xs.getD k 0 = x at *
      generalize ys.getD k 0 = y at *
      have HSU : Hid _ := hsu
      clear hsu
      obtain ⟨L, HL⟩ : ∃ L, Hid (sumTo xs ys k = L) := ⟨_, rfl⟩
      rw [HL.out] at hown hlen
      have hcase : k < xs.length ∨ (¬ k < xs.length ∧ k < ys.length) := by omega
      rcases hcase with h5 | ⟨h5, h6⟩
      all_goals
        go_wp2_with fail
        refine hc1.mono ?_
        rintro e w1 ⟨x1, rfl, hI1, hb1⟩
        have hbw1 := hbel.trans (hb1.mono hbel.size)
        go_wp2_with fail
        refine (hc2 w1 (OwnLN.below hv hbw1)).mono ?_
        rintro e w2 ⟨x2, rfl, hI2, hb2⟩
        go_wp2_with fail
        refine (addN_any x1 x2 x y w2 (hI1.below hb2) hI2 f1 f2).mono ?_
        rintro e w3 ⟨x3, rfl, hI3, hb3⟩
        obtain ⟨b3, a3, n3, c3, _, rfl, _, _⟩ := id hI3.open
        have hbw3 : Below w.heap.size w w3 := (hbw1.trans (hb2.mono hbw1.size)).trans (hb3.mono (by have := hbw1.size; have := hb2.size; omega))
        have hown3 := OwnLN.below (OwnLN.below (OwnLN.below hown hb1) hb2) hb3
        go_wp2_with (at_builtin; refine wpList_pushNum rfl (.tmp 19) (.tmp 27) rfl w.heap.size _ L _ _ (x + y) rfl hown3 hI3 rfl (by omega) hbw3.size ?_)
        intro v4 w4 hown4 hb4 _
        rw [← HL.out, ← HSU.out] at hown4
        go_wp2
        go_roundw
        case rel => exact ⟨k + 1, by omega, by go_num, hown4, hbw3.trans hb4⟩
        case measure => simp [intOf]; omega
    · obtain rfl : k = max xs.length ys.length := by omega
      have hT := tidyR_own w.heap.size _ _ wr hown (by omega)
      rw [HS.out] at hT
      have h5 : ¬ max xs.length ys.length < xs.length := by omega
      have h6 : ¬ max xs.length ys.length < ys.length := by omega
      go_wp2_with fail
      refine hT.mono ?_
      rintro e w1 ⟨x1, rfl, hI1, hb1⟩
      obtain ⟨a1, c1, rfl⟩ := OwnLN.val hI1
      go_wp2
      go_ret
      exact ⟨_, rfl, hI1.isL, hbel.trans (hb1.mono hbel.size)⟩

end Go.Proofs.YtldcjkhbiffdoaaGreatDoor

/-
  factorref: Mul.
-/
namespace Go.Proofs.YtldcjkhbiffdoaaGreatDoor
open Go.RowKit

theorem fitN_of {z : Int} {e : Nat} (h : z.natAbs < 10 ^ e) (he : e ≤ 10000000000) : FitN z := ⟨e, he, h⟩

theorem Bd.fitL {l : List Int} {e : Nat} (h : Bd l e) (he : e ≤ 10000000000) : FitL l := fun k => fitN_of (h k) he

theorem pAt_bd {xs ys : List Int} {e f : Nat} (hx : Bd xs e) (hy : Bd ys f) (k : Nat) : ∀ n, (pAt xs ys k n).natAbs ≤ n * 10 ^ (e + f)
  | 0 => by simp [pAt]
  | n + 1 => by
    have h1 := pAt_bd hx hy k n
    have h2 : (xs.getD n 0 * ys.getD (k - n) 0).natAbs ≤ 10 ^ (e + f) := by
      rw [Int.natAbs_mul, Nat.pow_add]
      exact Nat.mul_le_mul (Nat.le_of_lt (hx n)) (Nat.le_of_lt (hy (k - n)))
    have h3 := Int.natAbs_add_le (pAt xs ys k n) (xs.getD n 0 * ys.getD (k - n) 0)
    show (pAt xs ys k n + xs.getD n 0 * ys.getD (k - n) 0).natAbs ≤ _
    rw [Nat.succ_mul]
    omega

theorem pAt_lt {xs ys : List Int} {e f : Nat} (hx : Bd xs e) (hy : Bd ys f) (k : Nat) {n : Nat} (hn : n < 10000) : (pAt xs ys k n).natAbs < 10 ^ (e + f + 4) := by
  have h1 := pAt_bd hx hy k n
  have h2 : 0 < 10 ^ (e + f) := Nat.pow_pos (by omega)
  have h3 : n * 10 ^ (e + f) < 10000 * 10 ^ (e + f) := Nat.mul_lt_mul_of_pos_right hn h2
  rw [Nat.pow_add, Nat.mul_comm]
  exact Nat.lt_of_le_of_lt h1 h3

theorem pk_lt {xs ys : List Int} {e f : Nat} (hx : Bd xs e) (hy : Bd ys f) {k : Nat} (hk : k < 9999) : (pk xs ys k).natAbs < 10 ^ (e + f + 4) := pAt_lt hx hy k (by omega)

theorem prodTo_succ (xs ys : List Int) (n : Nat) : prodTo xs ys (n + 1) = prodTo xs ys n ++ [pAt xs ys n (n + 1)] := tab_succ n _

/-- The product, without noughts at the end. -/
def pmul (xs ys : List Int) : List Int := tz (prodTo xs ys (xs.length + ys.length - 1))
theorem pmul_getD (xs ys : List Int) (k : Nat) : (pmul xs ys).getD k 0 = pk xs ys k := by unfold pmul; rw [tz_getD, prodTo_getD]
theorem pmul_tr (xs ys : List Int) : Tr (pmul xs ys) := tr_tz _
theorem pmul_len (xs ys : List Int) : (pmul xs ys).length ≤ xs.length + ys.length - 1 := tz_len_le fun k hk => by rw [prodTo_getD, pk_out _ _ _ hk]

set_option maxRecDepth 100000 in
set_option maxHeartbeats 8000000 in
theorem mulR_any (xs ys : List Int) (e f : Nat) (u v : Value) (w : World) (hu : IsLN w u xs) (hv : IsLN w v ys) (hl : xs.length ≤ 1000) (hm : ys.length ≤ 1000) (fx : Bd xs e) (fy : Bd ys f) (hef : e + f ≤ 1000000000) :
    Calls Tryz.prog 32 #[u, v] w fun e w' => ∃ x, e = .returned x ∧ IsLN w' x (pmul xs ys) ∧ Below w.heap.size w w' := by
  obtain ⟨ua, uc, rfl⟩ := OwnLN.val hu
  obtain ⟨va, vc, rfl⟩ := OwnLN.val hv
  obtain ⟨S, HS⟩ : ∃ S, Hid (pmul xs ys = S) := ⟨_, rfl⟩
  rw [HS.out]
  obtain ⟨N, HN⟩ : ∃ N, Hid (xs.length + ys.length - 1 = N) := ⟨_, rfl⟩
  have hN1 : N ≤ 2000 := by have := HN.out; omega
  have hN2 : ((xs.length : Int) + ys.length - 1 = N) ∨ (N = 0 ∧ (xs.length : Int) + ys.length - 1 = -1) := by have := HN.out; omega
  go_enter Tryz.func32, Tryz.ntmps32
  go_wp2_with fail
  go_loopw [5, 6] (fun o i wr => ∃ (k : Nat), k ≤ N ∧ i = .int .i64 k ∧ OwnLN w.heap.size wr o (prodTo xs ys k) ∧ Below w.heap.size w wr) (fun _ i _ => N - (intOf i).toNat)
  case atStart => exact ⟨0, Nat.zero_le _, rfl, OwnLN.nil0 _ _, Below.refl _ _⟩
  case round =>
    obtain ⟨k, hk, rfl, hown, hbel⟩ := hrel
    by_cases hlt : k < N
    · have hN3 : (xs.length : Int) + ys.length - 1 = N := by omega
      have hsu := prodTo_succ xs ys k
      have HSU : Hid _ := hsu
      obtain ⟨L, HL⟩ : ∃ L, Hid (prodTo xs ys k = L) := ⟨_, rfl⟩
      have hlen : (prodTo xs ys k).length = k := tab_len _ _
      rw [HL.out] at hown hlen
      clear hsu
      go_wp2_with fail
      generalize hW : wr.alloc (Obj.cells #[Value.bool false, Value.slice none 0 0] 74) = W0
      obtain ⟨hb0, X0⟩ := one_newN hW
      clear hW
      have hK0 : IsK W0 wr.heap.size (pAt xs ys k 0) := ⟨_, _, _, _, X0, zeroNum⟩
      clear X0
      have hwo : ∃ wo : World, wo = wr := ⟨_, rfl⟩
      obtain ⟨wo, rfl⟩ := hwo
      go_loopw [8] (fun i wq => ∃ (n : Nat), n ≤ k + 1 ∧ i = .int .i64 n ∧ IsK wq wo.heap.size (pAt xs ys k n) ∧ Below wo.heap.size wo wq) (fun i _ => k + 1 - (intOf i).toNat)
      case atStart => exact ⟨0, Nat.zero_le _, rfl, hK0, hb0⟩
      case round =>
        clear hb0 hK0
        obtain ⟨n, hn, rfl, hK, hbi⟩ := hrel
        have hbq : Below w.heap.size w wr := hbel.trans (hbi.mono hbel.size)
        obtain ⟨kb, ka, kn, kc, A0, hA⟩ := id hK
        have c0 := A0.c0; have c1 := A0.c1; have g0 := A0.f0; have g1 := A0.f1
        have hsz := A0.lt
        by_cases hlt2 : n < k + 1
        · have hx1 := OwnLN.below hu hbq
          have hy1 := OwnLN.below hv hbq
          have hA1 := fun (W : World) (g : IsLN W (.slice ua xs.length uc) xs) => atR_any xs (.slice ua xs.length uc) n W g
          have hA2 := fun (W : World) (g : IsLN W (.slice va ys.length vc) ys) => atR_any ys (.slice va ys.length vc) (k - n) W g
          have hwrap : Value.int .i64 (IntKind.i64.wrap ((k : Int) - n)) = Value.int .i64 ((k - n : Nat) : Int) := by
            rw [show (((k - n : Nat) : Int)) = (k : Int) - n by omega, IntKind.wrap_i64]
            congr 1
            omega
          rw [← hwrap] at hA2
          clear hwrap
          have hp1 := pAt_lt fx fy k (n := n) (by omega)
          have hp2 : (xs.getD n 0 * ys.getD (k - n) 0).natAbs ≤ 10 ^ (e + f) := by
            rw [Int.natAbs_mul, Nat.pow_add]
            exact Nat.mul_le_mul (Nat.le_of_lt (fx n)) (Nat.le_of_lt (fy (k - n)))
          have hstep : pAt xs ys k (n + 1) = pAt xs ys k n + xs.getD n 0 * ys.getD (k - n) 0 := rfl
          have f1 : FitN (xs.getD n 0) := fitN_of (fx n) (by omega)
          have f2 : FitN (ys.getD (k - n) 0) := fitN_of (fy (k - n)) (by omega)
          have f3 : FitN (pAt xs ys k n) := fitN_of hp1 (by omega)
          have f4 : FitN (xs.getD n 0 * ys.getD (k - n) 0) := fitN_of (e := e + f + 1) (Nat.lt_of_le_of_lt hp2 (Nat.pow_lt_pow_right (by omega) (by omega))) (by omega)
          have HSTEP : Hid _ := hstep
          clear hp1 hp2 hstep
          generalize xs.getD n 0 = x at *
          generalize ys.getD (k - n) 0 = y at *
          generalize pAt xs ys k n = p at *
          have hM := fun (W : World) (u1 u2 : Value) (g1 : IsN W u1 x) (g2 : IsN W u2 y) => mulN_any u1 u2 x y W g1 g2 f1 f2
          have hS := fun (W : World) (u1 u2 : Value) (g1 : IsN W u1 p) (g2 : IsN W u2 (x * y)) => addN_any u1 u2 p (x * y) W g1 g2 f3 f4
          have HA1 : Hid _ := hA1
          have HA2 : Hid _ := hA2
          have HM : Hid _ := hM
          have HS2 : Hid _ := hS
          clear hA1 hA2 hM hS
          go_wp2_with fail
          go_region_with (first
            | (go_at_call_of 59 uc; refine (HA1.out _ (by exact hx1)).mono ?_; rintro e w2 ⟨x2, rfl, hI2, hb2'⟩; have hb2 := of_drew hb2'; clear hb2'; obtain ⟨b2, a2, n2, k2, _, rfl, _, _⟩ := id hI2.open; have A2 := A0.below hb2; have hAA2 := hA.below hb2; have c0' := A2.c0; have c1' := A2.c1; have hy2 := OwnLN.below hy1 hb2)
            | (go_at_call_of 59 vc; refine (HA2.out _ (by exact hy2)).mono ?_; rintro e w3 ⟨x3, rfl, hI3, hb3⟩; obtain ⟨b3, a3, n3, k3, _, rfl, _, _⟩ := id hI3.open; have A3 := A2.below hb3; have hAA3 := hAA2.below hb3; have d0 := A3.c0; have d1 := A3.c1; have hI2' := hI2.below hb3)
            | (go_at_call 63; refine (HM.out _ _ _ (by exact hI2') (by exact hI3)).mono ?_; rintro e w4 ⟨x4, rfl, hI4, hb4⟩; obtain ⟨b4, a4, n4, k4, _, rfl, _, _⟩ := id hI4.open; have A4 := A3.below hb4; have hAA4 := hAA3.below hb4; have e0 := A4.c0; have e1 := A4.c1)
            | (go_at_call 58; refine (HS2.out _ _ _ (by exact hAA4) (by exact hI4)).mono ?_; rintro e w5 ⟨x5, rfl, hI5, hb5⟩; obtain ⟨b5, a5, n5, k5, _, rfl, _, _⟩ := id hI5.open; have A5 := A4.below hb5; have r0 := A5.c0; have r1 := A5.c1; have r2 := A5.f0; have r3 := A5.f1))
          all_goals
            have hb25 : Below wo.heap.size wo w5 := (((hbi.trans (hb2.mono hbi.size)).trans (hb3.mono (by have := hbi.size; have := hb2.size; omega))).trans (hb4.mono (by have := hbi.size; have := hb2.size; have := hb3.size; omega))).trans (hb5.mono (by have := hbi.size; have := hb2.size; have := hb3.size; have := hb4.size; omega))
            have hK5 := IsK.stored A5 hI5
            rw [← HSTEP.out] at hK5
            have HK5 : Hid _ := hK5
            clear hK5
            go_wp2
            go_roundw
            case rel => exact ⟨n + 1, by omega, by go_num, HK5.out, below_set2 hb25 (Nat.le_refl _) _ _⟩
            case measure => simp [intOf]; omega
        · obtain rfl : n = k + 1 := by omega
          have hown1 := OwnLN.below hown hbi
          go_wp2_with (at_builtin; refine wpList_pushNum rfl (.tmp 36) (.tmp 38) rfl w.heap.size _ L _ _ (pAt xs ys k (k + 1)) rfl hown1 hA rfl (by omega) hbq.size ?_)
          intro v4 w4 hown4 hb4 _
          rw [← HL.out, ← HSU.out] at hown4
          go_wp2
          go_roundw
          case rel => exact ⟨k + 1, by omega, by go_num, hown4, hbq.trans hb4⟩
          case measure => simp [intOf]; omega
    · obtain rfl : k = N := by omega
      have hlen : (prodTo xs ys k).length = k := tab_len _ _
      have hT := tidyR_own w.heap.size _ _ wr hown (by omega)
      have he : tz (prodTo xs ys k) = S := by rw [← HS.out, ← HN.out]; rfl
      rw [he] at hT
      have h5 : ¬ ((k : Int) < (xs.length : Int) + ys.length - 1) := by omega
      clear he
      go_wp2_with fail
      refine hT.mono ?_
      rintro e w1 ⟨x1, rfl, hI1, hb1⟩
      obtain ⟨a1, c1, rfl⟩ := OwnLN.val hI1
      go_wp2
      go_ret
      exact ⟨_, rfl, hI1.isL, hbel.trans (hb1.mono hbel.size)⟩

end Go.Proofs.YtldcjkhbiffdoaaGreatDoor
