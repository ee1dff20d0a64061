import Derived.Test.YtldcjkhbiffdoabGreatDoorCNumQuo
import Derived.Test.YtldcjkhbiffdoabGreatDoorCWInts
import Derived.Test.YtldcjkhbiffdoabGreatDoorM19
import Derived.Test.YtldcjkhbiffdoabGreatDoorM09
import Derived.Deep.RegionWith
import Derived.Deep.RegionHeld3
import Derived.Test.YtldcjkhbiffdoabGreatDoorM20
import Derived.Test.YtldcjkhbiffdoabGreatDoorM21

namespace Go.Proofs.YtldcjkhbiffdoabGreatDoor
open Go.RowKit

theorem gcd_step {a b : Int} (ha : 0 ≤ a) (hb : 0 < b) : 0 ≤ a.tmod b ∧ a.tmod b < b ∧ Int.gcd b (a.tmod b) = Int.gcd a b := by
  rw [Int.tmod_eq_emod_of_nonneg ha]
  refine ⟨Int.emod_nonneg _ (by omega), Int.emod_lt_of_pos _ hb, ?_⟩
  have h1 : (a % b).natAbs = a.natAbs % b.natAbs := Int.natAbs_emod_of_nonneg ha b
  unfold Int.gcd
  rw [h1]
  exact (Nat.gcd_comm _ _).trans ((Nat.gcd_rec b.natAbs a.natAbs).symm.trans (Nat.gcd_comm _ _))

theorem FitN.le {a b : Int} (h : FitN a) (hb : b.natAbs ≤ a.natAbs) : FitN b := by
  obtain ⟨n, h1, h2⟩ := h
  exact ⟨n, h1, Nat.lt_of_le_of_lt hb h2⟩

theorem RowN.uniq {w : World} {a : Option Addr} {n c : Nat} {l l' : List Int} (h : RowN w (.slice a n c) l) (h' : RowN w (.slice a n c) l') : l = l' := by
  have e1 : n = l.length := by obtain ⟨_, _, e⟩ := h.val; simp at e; exact e.2.1
  have e2 : n = l'.length := by obtain ⟨_, _, e⟩ := h'.val; simp at e; exact e.2.1
  apply List.ext_getElem (by omega)
  intro i h1 h2
  have hn : RowN w (.slice a l.length c) l := e1 ▸ h
  have hn' : RowN w (.slice a l'.length c) l' := e2 ▸ h'
  obtain ⟨g, rfl, _, _, _, hc⟩ := hn.at i h1
  obtain ⟨g', hg, _, _, _, hc'⟩ := hn'.at i h2
  simp at hg
  subst hg
  rw [getD_lt h1] at hc
  rw [getD_lt h2, hc] at hc'
  simpa using hc'

end Go.Proofs.YtldcjkhbiffdoabGreatDoor

namespace Go.Proofs.YtldcjkhbiffdoabGreatDoor
open Go.RowKit

theorem Row.uniq {w : World} {a : Option Addr} {n c : Nat} {l l' : List Int} (h : Row w (.slice a n c) l) (h' : Row w (.slice a n c) l') : l = l' := by
  have e1 : n = l.length := by obtain ⟨_, _, e⟩ := h.val; simp at e; exact e.2.1
  have e2 : n = l'.length := by obtain ⟨_, _, e⟩ := h'.val; simp at e; exact e.2.1
  apply List.ext_getElem (by omega)
  intro i h1 h2
  have hn : Row w (.slice a l.length c) l := e1 ▸ h
  have hn' : Row w (.slice a l'.length c) l' := e2 ▸ h'
  obtain ⟨g, rfl, _, _, _, hc⟩ := hn.at i h1
  obtain ⟨g', hg, _, _, _, hc'⟩ := hn'.at i h2
  simp at hg
  subst hg
  rw [getD_lt h1] at hc
  rw [getD_lt h2, hc] at hc'
  simpa using hc'

theorem IsI.uniq {w : World} {v : Value} {z z' : Int} (h : IsI w v z) (h' : IsI w v z') : z = z' := by
  obtain ⟨b2, x2, l, e, hr, hl⟩ := h
  obtain ⟨b2', x2', l', e', hr', hl'⟩ := h'
  subst e
  simp at e'
  obtain ⟨rfl, rfl⟩ := e'
  obtain ⟨xa, xc, rfl⟩ := hr.val
  obtain rfl := hr.uniq hr'
  rw [hl.val, hl'.val]

theorem IsB.uniq {w : World} {k : Nat} {z z' : Int} (h : IsB w k z) (h' : IsB w k z') : z = z' := by
  obtain ⟨b, x, h1, h2⟩ := h
  obtain ⟨b', x', h1', h2'⟩ := h'
  unfold Bx at h1 h1'
  rw [h1] at h1'
  simp at h1'
  obtain ⟨rfl, rfl⟩ := h1'
  exact h2.uniq h2'

open Classical in
noncomputable def bAt (k : Nat) (w : World) : Nat := if h : ∃ z, IsB w k z then (Classical.choose h).natAbs else 0
theorem IsB.at {w : World} {k : Nat} {z : Int} (h : IsB w k z) : bAt k w = z.natAbs := by
  unfold bAt
  have hx : ∃ z, IsB w k z := ⟨z, h⟩
  rw [dif_pos hx, (Classical.choose_spec hx).uniq h]

theorem Fit.le {a b : Int} (h : Fit a) (hb : b.natAbs ≤ a.natAbs) : Fit b := by
  obtain ⟨n, h1, h2⟩ := h
  exact ⟨n, h1, Nat.lt_of_le_of_lt hb h2⟩

set_option maxHeartbeats 4000000 in
theorem gcd_any (u v : Value) (z1 z2 : Int) (w : World) (hu : IsI w u z1) (hv : IsI w v z2) (f1 : Fit z1) (f2 : Fit z2) :
    Calls Tryz.prog 47 #[u, v] w fun e w' => ∃ v, e = .returned v ∧ IsI w' v (Int.gcd z1 z2 : Int) ∧ Below w.heap.size w w' := by
  obtain ⟨b1, ua, un, uc, rfl⟩ := hu.form
  obtain ⟨b2, va, vn, vc, rfl⟩ := hv.form
  obtain ⟨g, HG⟩ : ∃ g, Hid (Int.gcd z1 z2 = g) := ⟨_, rfl⟩
  rw [HG.out]
  go_enter Tryz.func47, Tryz.ntmps47
  go_wp2_with fail
  generalize hW : ((w.alloc (Obj.cells #[Value.bool b1, Value.slice ua un uc] 70)).alloc (Obj.cells #[Value.bool b2, Value.slice va vn vc] 70)).alloc (Obj.cells #[Value.bool false, Value.slice none 0 0] 70) = W0
  obtain ⟨hz0, hb0, X0, X1, X2⟩ := three_new hW
  clear hW
  refine (abs_any _ z1 W0 (hu.below hb0) f1).mono ?_
  rintro e w1 ⟨v1, rfl, hI1, hb1⟩
  obtain ⟨b3, xa, xn, xc, rfl⟩ := hI1.form
  have Y1 := X1.below hb1; have Y2 := X2.below hb1
  have hv1 := (hv.below hb0).below hb1
  have p2 := Y1.c0; have p3 := Y1.c1
  have hs1 := Y2.lt
  have hs1a : w.heap.size + 1 < w1.heap.size := by omega
  have hbw1 := hb0.trans (hb1.mono hb0.size)
  go_wp2_with fail
  generalize hW2 : w1.alloc (Obj.cells #[Value.bool b3, Value.slice xa xn xc] 70) = W2
  have K0 : IsB W2 w1.heap.size (z1.natAbs : Int) := hW2 ▸ IsB.new hI1
  obtain ⟨hb2, _⟩ := one_new hW2
  have Z2 := Y2.below hb2
  have hbw2 := hbw1.trans (hb2.mono hbw1.size)
  have hsz2 : W2.heap.size = w1.heap.size + 1 := by rw [← hW2]; simp
  clear hW2
  refine (abs_any _ z2 W2 (hv1.below hb2) f2).mono ?_
  rintro e w3 ⟨v3, rfl, hI3, hb3⟩
  obtain ⟨b4, ya, yn, yc, rfl⟩ := hI3.form
  have K3 := K0.below hb3
  have V2 := Z2.below hb3
  have hs3 : w1.heap.size < w3.heap.size := by have := hb3.size; omega
  have hbw3 := hbw2.trans (hb3.mono hbw2.size)
  go_wp2_with fail
  generalize hW4 : w3.alloc (Obj.cells #[Value.bool b4, Value.slice ya yn yc] 70) = W4
  have L1 : IsB W4 w3.heap.size (z2.natAbs : Int) := hW4 ▸ IsB.new hI3
  obtain ⟨hb4, _⟩ := one_new hW4
  have L0 := K3.below hb4
  have L2 := V2.below hb4
  have hbw4 := hbw3.trans (hb4.mono hbw3.size)
  have hG : Hid (Int.gcd (z1.natAbs : Int) (z2.natAbs : Int) = g) := by
    have := HG.out
    unfold Int.gcd at this
    exact (by unfold Int.gcd; simpa using this : Int.gcd (z1.natAbs : Int) (z2.natAbs : Int) = g)
  have f1' : Fit (z1.natAbs : Int) := f1.le (by simp)
  have f2' : Fit (z2.natAbs : Int) := f2.le (by simp)
  have hn1 : 0 ≤ (z1.natAbs : Int) := by omega
  have hn2 : 0 ≤ (z2.natAbs : Int) := by omega
  clear hW4
  clear HG hI3 K0 K3 V2 Z2 hv1 hI1 Y1 Y2 X0 X1 X2 hu hv hb0 hb1 hb3 hbw2 p2 p3 hbw1 hbw3 hb2 hb4
  generalize (z1.natAbs : Int) = y1 at *
  generalize (z2.natAbs : Int) = y2 at *
  have hm1 : w.heap.size + 1 + 1 < w1.heap.size := by omega
  generalize w1.heap.size = m1 at *
  generalize w3.heap.size = m2 at *
  go_loopw [7] (fun _p wr => ∃ (a b : Int), IsB wr m1 a ∧ IsB wr m2 b ∧ Bx wr (w.heap.size + 1 + 1) (.bool false) (.slice none 0 0) ∧ 0 ≤ a ∧ 0 ≤ b ∧ Fit a ∧ Fit b ∧ Hid (Int.gcd a b = g) ∧ Below w.heap.size w wr) (fun _ wr => bAt m2 wr)
  case atStart => exact ⟨y1, y2, L0, L1, L2, hn1, hn2, f1', f2', hG, hbw4⟩
  case round =>
    clear L0 L1 L2 hn1 hn2 f1' f2' hG hbw4
    obtain ⟨a, b, hK0, hK1, B2, ha, hb, fa, fb, HG, hbel⟩ := hrel
    have hk1 := hK1.at
    obtain ⟨ba, aa, an, ac, A0, hA⟩ := hK0.open
    obtain ⟨bb, ca, cn, cc, A1, hBn⟩ := hK1.open
    have c0 := A0.c0; have c1 := A0.c1; have c2 := A1.c0; have c3 := A1.c1
    have hsz := A1.lt
    have hZ := sign_any _ b wr hBn fb
    by_cases hb0 : b = 0
    · rw [show sgn3 b = 0 by simp [sgn3, hb0]] at hZ
      go_wp2_with fail
      refine hZ.mono ?_
      rintro e w5 ⟨rfl, hb5⟩
      have D0 := A0.below hb5; have D2 := B2.below hb5
      have hA5 := hA.below hb5
      have r0 := D0.c0; have r1 := D0.c1; have r2 := D2.c0; have r3 := D2.c1; have g2 := D2.f0; have g3 := D2.f1
      have hga : a = (g : Int) := by
        have := HG.out
        rw [hb0, Int.gcd_zero_right] at this
        omega
      rw [hga] at hA5
      go_wp2
      refine bodyPost_ret (v := .agg #[.bool ba, .slice aa an ac]) (by simp [results, Tryz.results47, go_sem, r2, r3]) rfl ⟨_, rfl, hA5.set2 D2 _ _, below_set2 (hbel.trans (hb5.mono hbel.size)) (by omega) _ _⟩
    · rw [show sgn3 b = 1 by unfold sgn3; rw [if_neg (by omega), if_neg hb0]] at hZ
      have hQ := fun (W : World) (g1 : IsI W (.agg #[.bool ba, .slice aa an ac]) a) (g2 : IsI W (.agg #[.bool bb, .slice ca cn cc]) b) => divide_any _ _ a b W g1 g2 fa fb
      have hst := gcd_step ha (show 0 < b by omega)
      generalize a.tdiv b = qq at *
      generalize a.tmod b = rr at *
      go_wp2_with fail
      refine hZ.mono ?_
      rintro e w5 ⟨rfl, hb5⟩
      have D0 := A0.below hb5; have D1 := A1.below hb5; have D2 := B2.below hb5
      have hA5 := hA.below hb5
      have hB5 := hBn.below hb5
      have r0 := D0.c0; have r1 := D0.c1; have r2 := D1.c0; have r3 := D1.c1
      go_wp2_with fail
      refine (hQ w5 hA5 hB5).mono ?_
      rintro e w6 ⟨q6, r6, rfl, hq6, hr6, hb6⟩
      obtain ⟨b7, qa, qn, qc, rfl⟩ := hq6.form
      obtain ⟨b8, ra, rn, rc, rfl⟩ := hr6.form
      have E0 := D0.below hb6; have E1 := D1.below hb6; have E2 := D2.below hb6
      have hB6 := hB5.below hb6
      have s0 := E0.c0; have s1 := E0.c1; have s2 := E1.c0; have s3 := E1.c1; have t0 := E0.f0; have t1 := E0.f1; have t2 := E1.f0; have t3 := E1.f1
      have hs6 := E1.lt
      have hs7 : m2 < w6.heap.size + 1 := by omega
      have hs8 : m1 < w6.heap.size := by omega
      have hs9 : m1 < w6.heap.size + 1 := by omega
      have M0 := IsB.stored E0 hB6
      have E1a := E1.other (show m2 ≠ m1 by omega) (.bool bb) (.slice ca cn cc)
      have hr6a := hr6.set2 E0 (.bool bb) (.slice ca cn cc)
      have N0 := M0.other E1a (show m1 ≠ m2 by omega) (.bool b8) (.slice ra rn rc)
      have N1 := IsB.stored E1a hr6a
      have N2 := (E2.other (show w.heap.size + 1 + 1 ≠ m1 by omega) (.bool bb) (.slice ca cn cc)).other (show w.heap.size + 1 + 1 ≠ m2 by omega) (.bool b8) (.slice ra rn rc)
      have hbb := fun (W : World) (o o' : Obj) => (below_one W o).trans ((below_one (W.alloc o) o').mono (by simp))
      have P0 := N0.below (hbb _ (.cells #[.bool b7, .slice qa qn qc] 70) (.cells #[.bool b8, .slice ra rn rc] 70))
      have P1 := N1.below (hbb _ (.cells #[.bool b7, .slice qa qn qc] 70) (.cells #[.bool b8, .slice ra rn rc] 70))
      have P2 := N2.below (hbb _ (.cells #[.bool b7, .slice qa qn qc] 70) (.cells #[.bool b8, .slice ra rn rc] 70))
      have hb56 : Below w.heap.size w w6 := (hbel.trans (hb5.mono hbel.size)).trans (hb6.mono (by have := hbel.size; have := hb5.size; omega))
      have hbs := below_set2 (below_set2 hb56 (show w.heap.size ≤ m1 by omega) (.bool bb) (.slice ca cn cc)) (show w.heap.size ≤ m2 by omega) (.bool b8) (.slice ra rn rc)
      have hbf := hbs.trans ((hbb _ (.cells #[.bool b7, .slice qa qn qc] 70) (.cells #[.bool b8, .slice ra rn rc] 70)).mono hbs.size)
      have hP1 := P1.at
      have HALL : Hid _ := (⟨P0, P1, P2, hbf, hP1⟩ : _ ∧ _ ∧ _ ∧ _ ∧ _)
      clear M0 E1a hr6a N0 N1 N2 hbb P0 P1 P2 hbs hbf hP1 hb56
      have HG2 : Hid (Int.gcd b rr = g) := hst.2.2.trans HG.out
      go_wp2
      obtain ⟨P0, P1, P2, hbf, hP1⟩ := HALL.out
      refine ⟨⟨b, rr, P0, P1, P2, hb, hst.1, fb, fb.le (by omega), HG2, hbf⟩, ?_⟩
      rw [hP1, hk1]
      omega

end Go.Proofs.YtldcjkhbiffdoabGreatDoor

namespace Go.Proofs.YtldcjkhbiffdoabGreatDoor
open Go.RowKit


end Go.Proofs.YtldcjkhbiffdoabGreatDoor

namespace Go.Proofs.YtldcjkhbiffdoabGreatDoor
open Go.RowKit

end Go.Proofs.YtldcjkhbiffdoabGreatDoor

namespace Go.Proofs.YtldcjkhbiffdoabGreatDoor
open Go.RowKit

def sumTo (xs ys : List Int) (n : Nat) : List Int := (List.range n).map fun k => xs.getD k 0 + ys.getD k 0
end Go.Proofs.YtldcjkhbiffdoabGreatDoor

namespace Go.Proofs.YtldcjkhbiffdoabGreatDoor
open Go.RowKit

end Go.Proofs.YtldcjkhbiffdoabGreatDoor

namespace Go.Proofs.YtldcjkhbiffdoabGreatDoor
open Go.RowKit

end Go.Proofs.YtldcjkhbiffdoabGreatDoor

namespace Go.Proofs.YtldcjkhbiffdoabGreatDoor
open Go.RowKit

theorem made_nums (n : Nat) : (madeCells (Value.agg #[.bool false, .slice none 0 0]).cells (n * 2)).toList = flat (List.replicate n (false, .slice none 0 0)) := by
  have hz : (Value.agg #[.bool false, .slice none 0 0]).cells = #[.bool false, .slice none 0 0] := by rfl
  rw [hz]
  refine List.ext_getElem? fun i => ?_
  rcases Nat.lt_or_ge i (n * 2) with h | h
  · have h1 : (madeCells #[Value.bool false, .slice none 0 0] (n * 2)).toList[i]? = some ((#[Value.bool false, .slice none 0 0] : Array Value)[i % 2]!) := by
      simp [madeCells, h]
    rw [h1]
    obtain ⟨e1, e2⟩ := flat_at (List.replicate n (false, Value.slice none 0 0)) (i / 2) (false, .slice none 0 0) (by rw [List.getElem?_replicate, if_pos (by omega)])
    rcases Nat.mod_two_eq_zero_or_one i with h2 | h2
    · rw [h2]
      rw [show i / 2 * 2 = i by omega] at e1
      rw [e1]; rfl
    · rw [h2]
      rw [show i / 2 * 2 + 1 = i by omega] at e2
      rw [e2]; rfl
  · rw [List.getElem?_eq_none (by rw [Array.length_toList, size_madeCells]; exact h), List.getElem?_eq_none (by rw [flat_length]; simpa using h)]

theorem flat_set : ∀ (cs : List (Bool × Value)) (i : Nat) (b : Bool) (y : Value), ((flat cs).set (i * 2) (.bool b)).set (i * 2 + 1) y = flat (cs.set i (b, y))
  | [], i, b, y => by simp [flat]
  | p :: cs, 0, b, y => by simp [flat]
  | p :: cs, i + 1, b, y => by
    rw [show (i + 1) * 2 = i * 2 + 1 + 1 by omega]
    simp only [flat, List.set_cons_succ, flat_set cs i b y]

def padd (xs ys : List Int) : List Int := tz (sumTo xs ys (max xs.length ys.length))
theorem padd_getD (xs ys : List Int) (k : Nat) : (padd xs ys).getD k 0 = xs.getD k 0 + ys.getD k 0 := by
  unfold padd
  rw [tz_getD, show sumTo xs ys (max xs.length ys.length) = tab (max xs.length ys.length) fun k => xs.getD k 0 + ys.getD k 0 from rfl, tab_getD]
  split
  · rfl
  · rw [getD_out (show xs.length ≤ k by omega), getD_out (show ys.length ≤ k by omega)]; rfl
theorem padd_tr (xs ys : List Int) : Tr (padd xs ys) := tr_tz _
end Go.Proofs.YtldcjkhbiffdoabGreatDoor

namespace Go.Proofs.YtldcjkhbiffdoabGreatDoor
open Go.RowKit

theorem FitN.gcd {g c : Int} (hg : FitN g) (hc : FitN c) : FitN (Int.gcd g c : Int) := by
  by_cases h : g = 0
  · subst h
    obtain ⟨n, hn, h1⟩ := hc
    refine ⟨n, hn, ?_⟩
    rw [Int.gcd_zero_left]
    simpa using h1
  · obtain ⟨n, hn, h1⟩ := hg
    refine ⟨n, hn, Nat.lt_of_le_of_lt ?_ h1⟩
    have := Nat.gcd_le_left c.natAbs (show 0 < g.natAbs by omega)
    unfold Int.gcd
    simpa using this

theorem cont_take {zs : List Int} {k : Nat} (h : k < zs.length) : cont (zs.take (k + 1)) = Int.gcd (cont (zs.take k) : Int) (zs.getD k 0) := by
  unfold cont
  rw [List.take_succ_eq_append_getElem h, List.foldl_append, ← getD_lt h]
  rfl

end Go.Proofs.YtldcjkhbiffdoabGreatDoor

namespace Go.Proofs.YtldcjkhbiffdoabGreatDoor
open Go.RowKit

theorem prim_take {zs : List Int} {k : Nat} (h : k < zs.length) : (prim zs).take (k + 1) = (prim zs).take k ++ [(zs.getD k 0).tdiv (scont zs)] := by
  have hl : k < (prim zs).length := by rw [prim_len]; exact h
  rw [List.take_succ_eq_append_getElem hl, ← getD_lt hl, prim_getD]

end Go.Proofs.YtldcjkhbiffdoabGreatDoor

namespace Go.Proofs.YtldcjkhbiffdoabGreatDoor
open Go.RowKit

theorem Bd.one {c : Int} {e : Nat} (h : c.natAbs < 10 ^ e) : Bd [c] e := by
  intro k
  rw [single_getD]
  split
  · exact h
  · exact Nat.pow_pos (by omega)

theorem grow_step {e F F' : Nat} (h : e + 1 ≤ 13 * 2 ^ (22 - F)) (hF : F' < F) (hF2 : F ≤ 22) : e + e + 1 + 1 ≤ 13 * 2 ^ (22 - F') := by
  have h1 : 2 ^ (22 - F + 1) ≤ 2 ^ (22 - F') := Nat.pow_le_pow_right (by omega) (by omega)
  rw [Nat.pow_succ] at h1
  omega
structure GS (G A B : List Int) (F : Nat) : Prop where
  ta : Tr A
  tb : Tr B
  res : gfun F A B = G
  len : A.length + B.length ≤ F
  bd : ∃ e, e + 1 ≤ 13 * 2 ^ (22 - (A.length + B.length)) ∧ Bd A e ∧ Bd B e

theorem GS.elim {G X Y : List Int} {F : Nat} (h : GS G X Y F) (hF : F ≤ 22) (hY : Y ≠ []) (hle : Y.length ≤ X.length) : GS G (prim (elim X Y)) Y F ∧ (prim (elim X Y)).length < X.length := by
  obtain ⟨ta, tb, hr, hlen, e, he, hx, hy⟩ := h
  have hY1 := List.length_pos_iff.2 hY
  have hl := elim_len hY1 hle
  have hl2 : (prim (Go.Proofs.YtldcjkhbiffdoabGreatDoor.elim X Y)).length < X.length := by rw [prim_len]; exact hl
  refine ⟨⟨(elim_tr _ _).prim, tb, ?_, by omega, e + e + 1, grow_step he (by omega) (by omega), (hx.elim hy).prim, hy.mono (by omega)⟩, hl2⟩
  obtain ⟨f, rfl⟩ : ∃ f, F = f + 1 := ⟨F - 1, by omega⟩
  rw [← hr, gfun_ge f hY hle]
  exact gfun_more f (by omega)

theorem GS.swap {G X Y : List Int} {F : Nat} (h : GS G X Y F) (hne : X.length ≠ Y.length) : GS G Y X F := by
  obtain ⟨ta, tb, hr, hlen, e, he, hx, hy⟩ := h
  exact ⟨tb, ta, by rw [← hr, gfun_swap F (fun h => hne h.symm) (by omega)], by omega, e, by rw [Nat.add_comm Y.length]; exact he, hy, hx⟩

theorem padd_nil_right {A : List Int} (h : Tr A) : padd A [] = A := (padd_tr _ _).ext h fun k => by rw [padd_getD]; simp
theorem padd_nil_left {A : List Int} (h : Tr A) : padd [] A = A := (padd_tr _ _).ext h fun k => by rw [padd_getD]; simp

theorem GS.ends {G A B : List Int} {F : Nat} (h : GS G A B F) (h0 : A = [] ∨ B = []) : padd A B = G := by
  obtain ⟨ta, tb, hr, _⟩ := h
  rcases h0 with rfl | rfl
  · rw [padd_nil_left tb, ← hr, gfun_left]
  · rw [padd_nil_right ta, ← hr, gfun_right]

theorem Bd.cont {zs : List Int} {e : Nat} (h : Bd zs e) : ∀ k, k ≤ zs.length → Go.Proofs.YtldcjkhbiffdoabGreatDoor.cont (zs.take k) < 10 ^ e
  | 0, _ => Nat.pow_pos (by omega)
  | k + 1, hk => by
    rw [cont_take (by omega)]
    have ih := h.cont k (by omega)
    by_cases h0 : Go.Proofs.YtldcjkhbiffdoabGreatDoor.cont (zs.take k) = 0
    · rw [h0]
      show Int.gcd 0 _ < _
      rw [Int.gcd_zero_left]
      exact h k
    · refine Nat.lt_of_le_of_lt ?_ ih
      unfold Int.gcd
      rw [Int.natAbs_natCast]
      exact Nat.gcd_le_left _ (by omega)
theorem Bd.cont' {zs : List Int} {e : Nat} (h : Bd zs e) : Go.Proofs.YtldcjkhbiffdoabGreatDoor.cont zs < 10 ^ e := by
  have := h.cont zs.length (Nat.le_refl _)
  rwa [List.take_length] at this

end Go.Proofs.YtldcjkhbiffdoabGreatDoor

namespace Go.Proofs.YtldcjkhbiffdoabGreatDoor

theorem three_one : ∀ d : Nat, d + 2 ≤ 3 ^ (d + 1)
  | 0 => by decide
  | d + 1 => by have := three_one d; rw [Nat.pow_succ]; omega

theorem three_zero {d : Nat} (h : 0 < d) : d + 2 ≤ 3 ^ d := by
  obtain ⟨c, rfl⟩ : ∃ c, d = c + 1 := ⟨d - 1, by omega⟩
  have := three_one c
  cases c with
  | zero => decide
  | succ c => have := three_one c; rw [Nat.pow_succ] at *; omega

structure PS (G A B : List Int) (e : Nat) : Prop where
  ta : Tr A
  tb : Tr B
  pa : prim A = A
  pb : prim B = B
  res : gfun (A.length + B.length) A B = G
  la : A.length ≤ 11
  lb : B.length ≤ 11
  ba : Bd A e
  bb : Bd B e
  gr : e + 1 ≤ 13 ∨ (B.length < A.length ∧ e + 1 ≤ 26 * 3 ^ (12 - A.length))

def pse (A B : List Int) (e : Nat) : Nat := e + (A.length + 1 - B.length) * (e + 1)

theorem PS.grow {G A B : List Int} {e : Nat} (h : PS G A B e) (hb : B ≠ []) : pse A B e + 1 ≤ 26 * 3 ^ (12 - B.length) := by
  obtain ⟨ta, tb, pa, pb, res, la, lb, ba, bb, gr⟩ := h
  have hb1 := List.length_pos_iff.2 hb
  unfold pse
  have h3 : ∀ n, 1 ≤ 3 ^ n := fun n => Nat.pow_pos (by omega)
  rcases gr with h1 | ⟨h1, h2⟩
  · by_cases hl : A.length < B.length
    · rw [show A.length + 1 - B.length = 0 by omega]
      have := h3 (12 - B.length)
      omega
    · obtain ⟨d, hd⟩ : ∃ d, A.length = B.length + d := ⟨A.length - B.length, by omega⟩
      rw [show A.length + 1 - B.length = d + 1 by omega]
      have h4 := three_one d
      have h5 : 3 ^ (d + 1) ≤ 3 ^ (12 - B.length) := Nat.pow_le_pow_right (by omega) (by omega)
      have h6 : (d + 1) * (e + 1) ≤ (d + 1) * 13 := Nat.mul_le_mul (Nat.le_refl _) h1
      omega
  · obtain ⟨d, hd⟩ : ∃ d, A.length = B.length + d := ⟨A.length - B.length, by omega⟩
    rw [show A.length + 1 - B.length = d + 1 by omega]
    have h4 := three_zero (d := d) (by omega)
    have h5 : 3 ^ (12 - B.length) = 3 ^ (12 - A.length) * 3 ^ d := by rw [← Nat.pow_add]; congr 1; omega
    have h6 : (d + 2) * (e + 1) ≤ 3 ^ d * (26 * 3 ^ (12 - A.length)) := Nat.mul_le_mul h4 h2
    have h7 : (d + 2) * (e + 1) = e + (d + 1) * (e + 1) + 1 := by rw [show d + 2 = (d + 1) + 1 from rfl, Nat.succ_mul (d + 1)]; omega
    have h8 : 3 ^ d * (26 * 3 ^ (12 - A.length)) = 26 * (3 ^ (12 - A.length) * 3 ^ d) := by
      rw [Nat.mul_left_comm, Nat.mul_comm (3 ^ d)]
    rw [← h7, h5, ← h8]
    exact h6

theorem PS.top {G A B : List Int} {e : Nat} (h : PS G A B e) (hb : B ≠ []) : pse A B e ≤ 5000000 ∧ e ≤ 5000000 := by
  have h1 := h.grow hb
  have hb1 := List.length_pos_iff.2 hb
  have h2 : 3 ^ (12 - B.length) ≤ 3 ^ 11 := Nat.pow_le_pow_right (by omega) (by omega)
  have h3 : 3 ^ 11 = 177147 := by decide
  have h4 : e ≤ pse A B e := by unfold pse; omega
  omega

theorem PS.small {G A B : List Int} {e : Nat} (h : PS G A B e) : e ≤ 5000000 := by
  rcases h.gr with h1 | ⟨h1, h2⟩
  · omega
  · have h3 : 3 ^ (12 - A.length) ≤ 3 ^ 11 := Nat.pow_le_pow_right (by omega) (by omega)
    have h4 : 3 ^ 11 = 177147 := by decide
    omega

theorem PS.next {G A B R : List Int} {e : Nat} (h : PS G A B e) (hb : B ≠ []) (hr : RO B A R 0) (hR : Bd R (pse A B e)) : PS G B (prim (tz R)) (pse A B e) ∧ (prim (tz R)).length < B.length := by
  have hg := h.grow hb
  obtain ⟨ta, tb, pa, pb, res, la, lb, ba, bb, gr⟩ := h
  obtain ⟨h1, h2, h3, h4⟩ := hr.ends hb
  have h5 : e ≤ pse A B e := by unfold pse; omega
  refine ⟨⟨tb, h2, pb, h3, ?_, lb, by omega, bb.mono h5, Bd.prim (fun k => by rw [tz_getD]; exact hR k), .inr ⟨h1, hg⟩⟩, h1⟩
  rw [← res, h4]
  by_cases hl : A.length + B.length ≤ B.length + (prim (tz R)).length
  · exact gfun_eq (Nat.le_refl _) (by
      have : A.length ≤ (prim (tz R)).length := by omega
      obtain ⟨A', c, hc, hR', hA, hpA, hlen, hle, _⟩ := hr
      have h1' : prim (tz R) = A' := by rw [prim_of_mul hc hA (tr_tz R) fun k => by rw [tz_getD, hR'], hpA]
      rw [h1']; omega)
  · exact gfun_eq (Nat.le_refl _) (by omega)

theorem PS.ends {G A : List Int} {e : Nat} (h : PS G A [] e) : A = G := by
  have := h.res
  rw [gfun_right] at this
  exact this

theorem PS.start {a b : List Int} (ta : Tr a) (tb : Tr b) (la : a.length ≤ 11) (lb : b.length ≤ 11) (ba : Bd a 12) (bb : Bd b 12) : PS (pgcd a b) (prim a) (prim b) 12 :=
  ⟨ta.prim, tb.prim, prim_prim ta, prim_prim tb, by unfold pgcd; rw [prim_len, prim_len], by rw [prim_len]; exact la, by rw [prim_len]; exact lb, ba.prim, bb.prim, .inl (by omega)⟩

theorem scont_abs (l : List Int) : (scont l).natAbs = cont l := by
  unfold scont
  split
  · simp
  · simp

end Go.Proofs.YtldcjkhbiffdoabGreatDoor

namespace Go.Proofs.YtldcjkhbiffdoabGreatDoor
open Go.RowKit

set_option maxHeartbeats 1000000 in
theorem numberAt_neg (zs : List Int) (v : Value) (w : World) (hv : IsL w v zs) :
    Calls Tryz.prog 62 #[v, .int .i64 (-1)] w fun e w' => ∃ x, e = .returned x ∧ IsI w' x 0 ∧ Below w.heap.size w w' := by
  obtain ⟨va, vc, rfl⟩ := OwnL.val hv
  clear hv
  go_enter Tryz.func62, Tryz.ntmps62
  go_wp2
  refine bodyPost_ret (v := .agg #[.bool false, .slice none 0 0]) (by simp [results, Tryz.results62, go_sem]) rfl ⟨_, rfl, zeroInt, (Below.refl _ _).alloc (Nat.le_refl _) _⟩

theorem numberAt_last (zs : List Int) (v : Value) (w : World) (hv : IsL w v zs) :
    Calls Tryz.prog 62 #[v, .int .i64 ((zs.length : Int) - 1)] w fun e w' => ∃ x, e = .returned x ∧ IsI w' x (lead zs) ∧ Below w.heap.size w w' := by
  by_cases h : zs.length = 0
  · have h1 : zs = [] := List.length_eq_zero_iff.1 h
    rw [h, show (((0 : Nat) : Int) - 1) = -1 by rfl, show lead zs = 0 by rw [h1]; rfl]
    exact numberAt_neg zs v w hv
  · rw [show (zs.length : Int) - 1 = ((zs.length - 1 : Nat) : Int) by omega]
    exact numberAt_any zs v (zs.length - 1) w hv

set_option maxRecDepth 100000 in
set_option maxHeartbeats 4000000 in
theorem contentP_any (zs : List Int) (e : Nat) (u : Value) (w : World) (hu : IsL w u zs) (hl : zs.length ≤ 1000) (fx : Bd zs e) (he : e ≤ 80000000) :
    Calls Tryz.prog 37 #[u] w fun en w' => ∃ x, en = .returned x ∧ IsI w' x (scont zs) ∧ Below w.heap.size w w' := by
  obtain ⟨ua, uc, rfl⟩ := OwnL.val hu
  have hlast := fun (W : World) (g : IsL W (.slice ua zs.length uc) zs) => numberAt_last zs _ W g
  have flead : Fit (lead zs) := fitW_of fx.lead he
  have hfin : Hid ((lead zs < 0 → scont zs = -(cont zs : Int)) ∧ (¬ lead zs < 0 → scont zs = (cont zs : Int))) := ⟨fun h => by unfold scont; rw [if_pos h], fun h => by unfold scont; rw [if_neg h]⟩
  generalize lead zs = ld at *
  obtain ⟨S, HS⟩ : ∃ S, Hid (scont zs = S) := ⟨_, rfl⟩
  rw [HS.out] at hfin ⊢
  clear HS
  have HLAST : Hid _ := hlast
  clear hlast
  go_enter Tryz.func37, Tryz.ntmps37
  go_wp2_with fail
  generalize hW : (w.alloc (Obj.cells #[Value.bool false, Value.slice none 0 0] 70)).alloc (Obj.cells #[Value.bool false, Value.slice none 0 0] 70) = W0
  obtain ⟨hz0, hb0, X0, X1⟩ := two_new hW
  clear hW
  have K1 : IsB W0 (w.heap.size + 1) ((cont (zs.take 0) : Nat) : Int) := ⟨_, _, X1, zeroInt⟩
  clear X1
  go_loopw [4] (fun i wr => ∃ (k : Nat), k ≤ zs.length ∧ i = .int .i64 k ∧ IsB wr (w.heap.size + 1) ((cont (zs.take k) : Nat) : Int) ∧ Bx wr w.heap.size (.bool false) (.slice none 0 0) ∧ Below w.heap.size w wr) (fun i _ => zs.length - (intOf i).toNat)
  case atStart => exact ⟨0, Nat.zero_le _, rfl, K1, X0, hb0⟩
  case round =>
    clear K1 X0 hb0
    obtain ⟨k, hk, rfl, hK, B0, hbel⟩ := hrel
    obtain ⟨gb, ga, gn, gc, G0, hG⟩ := hK.open
    have fK : Fit ((cont (zs.take k) : Nat) : Int) := fitW_of (by have := fx.cont k hk; simpa using this) he
    have hszw := G0.lt
    by_cases hlt : k < zs.length
    · obtain ⟨g, b, xa, xn, xc, rfl, hc1, hc2, hg, _, hc0, hcx, hI⟩ := OwnL.at hu k hlt
      have hct := cont_take hlt
      have f1 : Fit (zs.getD k 0) := fitW_of (fx k) he
      generalize zs.getD k 0 = z at *
      have HCT : Hid _ := hct
      clear hct
      generalize ((cont (zs.take k) : Nat) : Int) = cg at *
      have hM := fun (W : World) (g1 : IsI W (.agg #[.bool gb, .slice ga gn gc]) cg) (g2 : IsI W (.agg #[.bool b, .slice xa xn xc]) z) => gcd_any _ _ cg z W g1 g2 fK f1
      have HM : Hid _ := hM
      clear hM
      have hIr := hI.below hbel
      have hSV : ∀ W, Below w.heap.size w W → W.cell? ⟨g, k * 2, none⟩ = some (.bool b) ∧ W.cell? ⟨g, k * 2 + 1, none⟩ = some (.slice xa xn xc) := fun W h => ⟨(h.cell (p := ⟨g, k * 2, none⟩) hg).trans hc0, (h.cell (p := ⟨g, k * 2 + 1, none⟩) hg).trans hcx⟩
      have hbd : Below w.heap.size w wr.drew := ⟨hbel.os, hbel.tape, hbel.output, hbel.size, hbel.block⟩
      have hbdw : Below wr.heap.size wr wr.drew := ⟨rfl, rfl, rfl, Nat.le_refl _, fun _ _ => rfl⟩
      have hki : (k : Int) < (zs.length : Int) := by omega
      have hki0 : (0 : Int) ≤ (k : Int) := by omega
      go_wp2_with fail
      refine wp_region_held_drew (S := fun W => W.cell? ⟨g, k * 2, none⟩ = some (.bool b) ∧ W.cell? ⟨g, k * 2 + 1, none⟩ = some (.slice xa xn xc)) (by kernel_rfl) (hSV _ hbd) fun hS => ?_
      have G1 := G0.below hbdw
      have B1 := B0.below hbdw
      have hG1 := hG.below hbdw
      have hI1 := hIr.below hbdw
      have hs0 : wr.drew.heap.size = wr.heap.size := rfl
      rw [← hs0] at hszw
      clear hs0 hIr hG hbdw
      generalize wr.drew = W1 at *
      refine h_take 1 14 (.slice (some ⟨g, 0, none⟩) zs.length uc) rfl rfl (by kernel_rfl) (by kernel_rfl) (by kernel_rfl) (fun _ _ _ h => h) rfl (fun _ _ => by first | rfl | go_simp) hS ?_
      simp only [Act.put, tA, tB, tC]
      refine h_take 2 15 (.int .i64 (k : Int)) rfl rfl (by kernel_rfl) (by kernel_rfl) (by kernel_rfl) (fun _ _ _ h => h) rfl (fun _ _ => by first | rfl | go_simp) hS ?_
      simp only [Act.put, tA, tB, tC]
      refine h_take 3 16 (.pointer (some ⟨g, k * 2, none⟩)) rfl rfl (by kernel_rfl) (by kernel_rfl) (by kernel_rfl) (fun _ _ _ h => h) rfl (fun _ _ => by first | rfl | go_simp) hS ?_
      simp only [Act.put, tA, tB, tC]
      refine h_take 4 17 (.agg #[.bool b, .slice xa xn xc]) rfl rfl (by kernel_rfl) (by kernel_rfl) (by kernel_rfl) (fun _ _ _ h => h) rfl (fun w' hw' => by obtain ⟨y0, y1⟩ := hw'; go_simp) hS ?_
      simp only [Act.put, tA, tB, tC]
      have q0 := G1.c0; have q1 := G1.c1
      refine h_val 0 13 (.agg #[.bool gb, .slice ga gn gc]) (w' := W1) rfl rfl (by kernel_rfl) rfl (by go_simp) hS ?_
      simp only [Act.put, tA, tB, tC]
      clear q0 q1
      refine h_call 5 18 47 #[.agg #[.bool gb, .slice ga gn gc], .agg #[.bool b, .slice xa xn xc]] rfl rfl (by kernel_rfl) rfl (by go_simp) ?_
      refine (HM.out W1 hG1 hI1).mono ?_
      rintro en w3 ⟨x3, rfl, hI3, hb3⟩
      obtain ⟨b3, a3, n3, c3, rfl⟩ := hI3.form
      have G3 := G1.below hb3; have B3 := B1.below hb3
      have r0 := G3.c0; have r1 := G3.c1; have r2 := G3.f0; have r3 := G3.f1
      have hbw3 : Below w.heap.size w w3 := hbd.trans (hb3.mono hbd.size)
      have hK3 := IsB.stored G3 hI3
      rw [← HCT.out] at hK3
      have hB3 := B3.other (show w.heap.size ≠ w.heap.size + 1 by omega) (.bool b3) (.slice a3 n3 c3)
      have hb4 := below_set2 hbw3 (show w.heap.size ≤ w.heap.size + 1 by omega) (.bool b3) (.slice a3 n3 c3)
      refine ⟨_, rfl, hSV _ hbw3, ?_⟩
      simp only [Act.put, tA, tB, tC]
      refine h_store 6 (w' := (w3.setCell ⟨w.heap.size + 1, 0, none⟩ (.bool b3)).setCell ⟨w.heap.size + 1, 1, none⟩ (.slice a3 n3 c3)) rfl rfl (by kernel_rfl) rfl (by go_simp) (hSV _ hb4) ?_
      clear r0 r1 r2 r3 G3 B3 hI3 hbw3 hb3
      generalize (w3.setCell ⟨w.heap.size + 1, 0, none⟩ (.bool b3)).setCell ⟨w.heap.size + 1, 1, none⟩ (.slice a3 n3 c3) = W4 at *
      refine wpAnyH_done (by kernel_rfl) ?_ _
      go_wp2
      go_roundw
      case rel => exact ⟨k + 1, by omega, by go_num, hK3, hB3, hb4⟩
      case measure => simp [intOf]; omega
    · obtain rfl : k = zs.length := by omega
      rw [List.take_length] at hG fK
      go_wp2_with fail
      refine (HLAST.out wr (OwnL.below hu hbel)).mono ?_
      rintro en w3 ⟨x3, rfl, hI3, hb3⟩
      obtain ⟨b3, a3, n3, c3, rfl⟩ := hI3.form
      go_wp2_with fail
      generalize hW4 : w3.alloc (Obj.cells #[Value.bool b3, Value.slice a3 n3 c3] 70) = W4
      obtain ⟨hb4, X4⟩ := one_new hW4
      clear hW4
      have hb4w := hb3.trans (hb4.mono hb3.size)
      refine (sign_any _ ld W4 (hI3.below hb4) flead).mono ?_
      rintro en w5 ⟨rfl, hb5⟩
      have hb5w := hb4w.trans (hb5.mono hb4w.size)
      have G5 := G0.below hb5w; have B5 := B0.below hb5w
      have hG5 := hG.below hb5w
      have hbw5 := hbel.trans (hb5w.mono hbel.size)
      have r0 := G5.c0; have r1 := G5.c1; have r2 := B5.c0; have r3 := B5.c1; have r4 := B5.f0; have r5 := B5.f1
      by_cases hneg : ld < 0
      · have hs := hfin.out.1 (by omega)
        have hsg : sgn3 ld = -1 := by unfold sgn3; rw [if_pos hneg]
        rw [hsg]
        have HS2 : Hid _ := hs
        clear hs hfin
        go_wp2_with fail
        refine (neg_any _ _ w5 hG5 fK).mono ?_
        rintro en w6 ⟨x6, rfl, hI6, hb6⟩
        obtain ⟨b6, a6, n6, c6, rfl⟩ := hI6.form
        have B6 := B5.below hb6
        clear r0 r1 r2 r3 r4 r5
        have r2 := B6.c0; have r3 := B6.c1; have r4 := B6.f0; have r5 := B6.f1
        rw [← HS2.out] at hI6
        go_wp2
        refine bodyPost_ret (v := .agg #[.bool b6, .slice a6 n6 c6]) (by simp [results, Tryz.results37, go_sem, r2, r3]) rfl ⟨_, rfl, hI6.set2 B6 _ _, below_set2 (hbw5.trans (hb6.mono hbw5.size)) (Nat.le_refl _) _ _⟩
      · have hs := hfin.out.2 (by omega)
        have hsg : ¬ sgn3 ld < 0 := by unfold sgn3; rw [if_neg hneg]; split <;> omega
        rw [← hs] at hG5
        clear hs hfin
        generalize sgn3 ld = sg at *
        go_wp2
        refine bodyPost_ret (v := .agg #[.bool gb, .slice ga gn gc]) (by simp [results, Tryz.results37, go_sem, r2, r3]) rfl ⟨_, rfl, hG5.set2 B5 _ _, below_set2 hbw5 (Nat.le_refl _) _ _⟩

end Go.Proofs.YtldcjkhbiffdoabGreatDoor

set_option linter.unusedSimpArgs false
namespace Go.Proofs.YtldcjkhbiffdoabGreatDoor
open Go.RowKit

theorem drop_evW (B : Int) (l : List Int) (k : Nat) (hk : k < l.length) : ev B (l.drop k) = l.getD k 0 + B * ev B (l.drop (k + 1)) := by
  rw [List.drop_eq_getElem_cons hk, getD_lt hk]; rfl

theorem modW_step (l : List Int) (k : Nat) (hk : k < l.length) (p : Nat) : (ev 1000000000 (l.drop (k + 1)) % (p : Int) * 1000000000 + l.getD k 0) % p = ev 1000000000 (l.drop k) % p := by
  rw [drop_evW 1000000000 l k hk, Int.add_comm, Int.mul_comm (1000000000 : Int)]
  generalize ev 1000000000 (l.drop (k + 1)) = E
  generalize l.getD k 0 = x
  rw [Int.add_emod x (E % p * 1000000000), Int.mul_emod (E % p), Int.emod_emod, ← Int.mul_emod, ← Int.add_emod]

set_option maxHeartbeats 2000000 in
theorem modW_any (z : Int) (p : Nat) (u : Value) (w : World) (hu : IsI w u z) (fz : Fit z) (hp : 0 < p) (hp1 : p < 1000) :
    Calls Tryz.prog 92 #[u, .int .i64 p] w fun e w' => e = .returned (.int .i64 (z % p)) ∧ Below w.heap.size w w' := by
  obtain ⟨b, x, l, rfl, hx, h1⟩ := hu
  have hl := h1.len fz
  obtain ⟨ua, uc, rfl⟩ := hx.val
  have hdig := fun k => Dig.getD (show (0 : Int) < 1000000000 by omega) h1.dig k
  have HD : Hid _ := hdig
  have HV : Hid _ := h1.val
  clear h1 hdig
  obtain ⟨m, HM⟩ : ∃ m, Hid (z % (p : Int) = m) := ⟨_, rfl⟩
  rw [HM.out]
  go_enter Tryz.func92, Tryz.ntmps92
  go_wp2_with fail
  generalize hW : w.alloc (Obj.cells #[Value.bool b, Value.slice ua l.length uc] 70) = W0
  obtain ⟨hb0, X0⟩ := one_new hW
  clear hW
  have q0 := X0.c0; have q1 := X0.c1
  have hszw := X0.lt
  have hpz : ¬ (p : Int) = 0 := by omega
  go_wp2_with fail
  go_loopw [6, 7] (fun r i wr => ∃ (k : Nat) (y : Int), k ≤ l.length ∧ i = .int .i64 ((k : Int) - 1) ∧ r = .int .i64 y ∧ 0 ≤ y ∧ y < p ∧ Hid (y = ev 1000000000 (l.drop k) % p) ∧ wr = W0) (fun _ i _ => (intOf i + 1).toNat)
  case atStart => exact ⟨l.length, 0, Nat.le_refl _, rfl, rfl, by omega, by omega, by show (0 : Int) = _; rw [List.drop_length]; simp [ev], rfl⟩
  case round =>
    obtain ⟨k, y, hk, rfl, rfl, hy0, hy1, HY, rfl⟩ := hrel
    cases k with
    | zero =>
      have hY : y = ev 1000000000 l % p := by have := HY.out; rwa [List.drop_zero] at this
      have HR : Hid ((b = true → 0 < y → (p : Int) - y = z % p) ∧ ((b = false ∨ ¬ 0 < y) → y = z % p)) := by
        have hval := HV.out
        have hdm := Int.mul_ediv_add_emod (ev 1000000000 l) p
        rw [← hY] at hdm
        refine ⟨fun h1 h2 => ?_, fun h => ?_⟩
        · subst h1
          rw [hval]
          show _ = (-(ev 1000000000 l)) % (p : Int)
          rw [show -(ev 1000000000 l) = ((p : Int) - y) + p * (-(ev 1000000000 l / p) - 1) by rw [Int.mul_sub, Int.mul_neg]; omega, Int.add_mul_emod_self_left, Int.emod_eq_of_lt (by omega) (by omega)]
        · rw [hval]
          cases b with
          | false => exact hY
          | true =>
            have hy : y = 0 := by
              rcases h with h | h
              · cases h
              · omega
            show y = (-(ev 1000000000 l)) % (p : Int)
            rw [show -(ev 1000000000 l) = 0 + p * (-(ev 1000000000 l / p)) by rw [Int.mul_neg]; omega, Int.add_mul_emod_self_left, hy]
            simp
      clear HY hY HV
      rw [HM.out] at HR
      cases b with
      | true =>
        by_cases hy : 0 < y
        · have he := HR.out.1 rfl hy
          have HEE : Hid _ := he
          clear he HR
          go_wp2
          go_ret
          exact ⟨by rw [← HEE.out]; rfl, hb0⟩
        · have he := HR.out.2 (.inr hy)
          have HEE : Hid _ := he
          clear he HR
          go_wp2
          go_ret
          exact ⟨by rw [← HEE.out]; rfl, hb0⟩
      | false =>
        have he := HR.out.2 (.inl rfl)
        have HEE : Hid _ := he
        clear he HR
        go_wp2
        go_ret
        exact ⟨by rw [← HEE.out]; rfl, hb0⟩
    | succ k =>
      rw [show (((k + 1 : Nat) : Int) - 1) = (k : Int) by omega]
      have hst := modW_step l k (by omega) p
      rw [← HY.out] at hst
      obtain ⟨ga, rfl, hu1, hu2, hu3, hcx⟩ := hx.at k (by omega)
      obtain ⟨hx0, hx1⟩ := HD.out k
      have hcx' : wr.cell? ⟨ga, k, none⟩ = some (.int .i64 (l.getD k 0)) := (hb0.cell (p := ⟨ga, k, none⟩) hu3).trans hcx
      generalize l.getD k 0 = x at *
      have HST : Hid _ := hst
      clear hst HY hcx
      have hq0 : 0 ≤ (y * 1000000000 + x) % p := Int.emod_nonneg _ (by omega)
      have hq1 : (y * 1000000000 + x) % p < p := Int.emod_lt_of_pos _ (by omega)
      have hw1 : IntKind.i64.wrap (y * 1000000000) = y * 1000000000 := by rw [IntKind.wrap_i64]; omega
      have hw2 : IntKind.i64.wrap (y * 1000000000 + x) = y * 1000000000 + x := by rw [IntKind.wrap_i64]; omega
      have hnn : 0 ≤ y * 1000000000 + x := by omega
      go_wp2
      go_roundw
      case rel => exact ⟨k, _, by omega, by go_num, rfl, hq0, hq1, HST, trivial⟩
      case measure => simp [intOf]

def redL (p : Nat) (F : List Int) : List Int := tz (tab F.length fun k => F.getD k 0 % p)

theorem redL_nrm {p : Nat} (hp : 0 < p) (F : List Int) : Nrm p (redL p F) := (Red.tab hp _ _).tz
theorem redL_len (p : Nat) (F : List Int) : (redL p F).length ≤ F.length := by
  have := tz_le0 (tab F.length fun k => F.getD k 0 % p)
  rwa [tab_len] at this
theorem redL_zm (p : Nat) (F : List Int) : Zm p (fun t => ev t (redL p F) - ev t F) := by
  have : Zm p (fun t => ev t (tab F.length fun k => F.getD k 0 % p) - ev t F) := Zm.of_getD fun k => by
    rw [tab_getD]
    split
    · exact emod_alike _ p
    · rw [getD_out (by omega)]; simp
  exact this.congr fun t => by unfold redL; rw [ev_tz]
theorem redL_getD {p : Nat} {F : List Int} {k : Nat} (h : k < F.length) : (redL p F).getD k 0 = F.getD k 0 % p := by
  unfold redL
  rw [tz_getD, tab_getD, if_pos h]
theorem redL_eq {p : Nat} (hp : 0 < p) {F : List Int} (hF : F ≠ []) : (redL p F).length = F.length ↔ ¬ (p : Int) ∣ lead F := by
  have h0 := List.length_pos_iff.2 hF
  constructor
  · intro h hd
    have hne : redL p F ≠ [] := by intro e; rw [e] at h; simp at h; omega
    have h1 := (redL_nrm hp F).2 hne
    rw [h, redL_getD (by omega)] at h1
    exact h1 (Int.emod_eq_zero_of_dvd hd)
  · intro h
    have h1 := redL_len p F
    refine Nat.le_antisymm h1 (Nat.le_of_not_lt fun hlt => h ?_)
    have h2 : (redL p F).getD (F.length - 1) 0 = 0 := getD_out (by omega)
    rw [redL_getD (by omega)] at h2
    exact Int.dvd_of_emod_eq_zero h2

set_option maxHeartbeats 2000000 in
theorem reduced_any (F : List Int) (p : Nat) (u : Value) (w : World) (hu : IsL w u F) (fF : FitW F) (hl : F.length ≤ 900) (hp : 0 < p) (hp1 : p < 1000) :
    Calls Tryz.prog 68 #[u, .int .i64 p] w fun e w' => ∃ x, e = .returned x ∧ OwnN w.heap.size w' x (redL p F) ∧ Below w.heap.size w w' := by
  obtain ⟨ua, uc, rfl⟩ := OwnL.val hu
  obtain ⟨f, HF⟩ : ∃ f : Nat → Int, Hid (f = fun k => F.getD k 0 % p) := ⟨_, rfl⟩
  have HT : Hid (redL p F = tz (tab F.length f)) := by rw [HF.out]; rfl
  rw [HT.out]
  clear HT
  go_enter Tryz.func68, Tryz.ntmps68
  go_wp2_with fail
  go_loopw [5, 6] (fun o i wr => ∃ (k : Nat), k ≤ F.length ∧ i = .int .i64 k ∧ OwnN w.heap.size wr o (tab k f) ∧ Below w.heap.size w wr) (fun _ i _ => F.length - (intOf i).toNat)
  case atStart => exact ⟨0, Nat.zero_le _, rfl, OwnN.lit rfl, (Below.refl _ _).alloc (Nat.le_refl _) _⟩
  case round =>
    obtain ⟨k, hk, rfl, hown, hbel⟩ := hrel
    have hlen : (tab k f).length ≤ 900 := by rw [tab_len]; omega
    by_cases hlt : k < F.length
    · have hsu := tab_succ k f
      obtain ⟨g, b, xa, xn, xc, rfl, hc1, hc2, hg, _, hc0, hcx, hI⟩ := OwnL.at hu k hlt
      have hc0' : wr.cell? ⟨g, k * 2, none⟩ = some (.bool b) := (hbel.cell (p := ⟨g, k * 2, none⟩) hg).trans hc0
      have hcx' : wr.cell? ⟨g, k * 2 + 1, none⟩ = some (.slice xa xn xc) := (hbel.cell (p := ⟨g, k * 2 + 1, none⟩) hg).trans hcx
      have hfk : f k = F.getD k 0 % p := by rw [HF.out]
      rw [hfk] at hsu
      have hM := modW_any _ p _ wr (hI.below hbel) (fF k) hp hp1
      generalize F.getD k 0 = x at *
      have HSU : Hid _ := hsu
      clear hsu hfk
      obtain ⟨L, HL⟩ : ∃ L, Hid (tab k f = L) := ⟨_, rfl⟩
      rw [HL.out] at hown hlen
      obtain ⟨oa, oc, rfl⟩ := hown.row.val
      go_wp2_with fail
      refine hM.mono ?_
      rintro e w1 ⟨rfl, hb1⟩
      have hb1w := hbel.trans (hb1.mono hbel.size)
      go_wp2_with (at_builtin; refine wpList_pushN rfl (.tmp 14) (.tmp 21) rfl w.heap.size _ L _ rfl (hown.below hb1) rfl (by omega) hb1w.size ?_)
      intro v4 w4 hown4 hb4 _
      rw [← HL.out, ← HSU.out] at hown4
      go_wp2
      go_roundw
      case rel => exact ⟨k + 1, by omega, by go_num, hown4, hb1w.trans hb4⟩
      case measure => simp [intOf]; omega
    · obtain rfl : k = F.length := by omega
      have hT := trimN_any _ _ wr hown.row (by omega)
      obtain ⟨oa, oc, rfl⟩ := hown.row.val
      generalize (tab F.length f).length = tn at *
      go_wp2_with fail
      refine hT.mono ?_
      rintro e w2 ⟨x2, rfl, hI2, hb2⟩
      obtain ⟨xa, xc, rfl⟩ := hI2.row.val
      go_wp2
      go_ret
      exact ⟨_, rfl, hI2.lower hbel.size, hbel.trans (hb2.mono hbel.size)⟩

def FitP (F : List Int) (p : Nat) : Prop := isP p ∧ ¬ (p : Int) ∣ lead F ∧ Cop p (fun t => ev t F) (fun t => ev t (slp F))

theorem slp_alike {p : Nat} {F G : List Int} (h : Zm p (fun t => ev t F - ev t G)) : Zm p (fun t => ev t (slp F) - ev t (slp G)) := by
  have hd := ((slp_dr F).add ((Dr.const (-1)).mul (slp_dr G)))
  refine (Zm.dr (h.congr (g := fun t => ev t F + -1 * ev t G) fun t => by omega) hd).congr fun t => ?_
  omega

theorem cop_redL {p : Nat} (F : List Int) : Cop p (fun t => ev t (redL p F)) (fun t => ev t (slp (redL p F))) ↔ Cop p (fun t => ev t F) (fun t => ev t (slp F)) := by
  have h1 := redL_zm p F
  have h2 := slp_alike h1
  constructor
  · rintro ⟨u, v, c, g1, g2, g3, g4⟩
    exact ⟨u, v, c, g1, g2, g3, ((g4.sub (h1.mul g1)).sub (h2.mul g2)).congr fun t => by dsimp only; simp only [rA, rB, rC, rD, rE, rF, rG, rH, rI, rJ, rK]; omega⟩
  · rintro ⟨u, v, c, g1, g2, g3, g4⟩
    exact ⟨u, v, c, g1, g2, g3, ((g4.add (h1.mul g1)).add (h2.mul g2)).congr fun t => by dsimp only; simp only [rA, rB, rC, rD, rE, rF, rG, rH, rI, rJ, rK]; omega⟩

set_option maxHeartbeats 2000000 in
theorem fits_any (F : List Int) (p : Nat) (u : Value) (w : World) (hu : IsL w u F) (fF : FitW F) (hF : F ≠ []) (hl : F.length ≤ 900) (hp2 : 2 ≤ p) (hp1 : p < 1000) (b : Bool) (HB : Hid (b = true ↔ FitP F p)) :
    Calls Tryz.prog 88 #[u, .int .i64 p] w fun e w' => e = .returned (.bool b) ∧ Below w.heap.size w w' := by
  obtain ⟨ua, uc, rfl⟩ := OwnL.val hu
  have h0 := List.length_pos_iff.2 hF
  obtain ⟨bp, HBP⟩ : ∃ bp : Bool, Hid (bp = true ↔ isP p) := by
    by_cases h : isP p
    · exact ⟨true, by show _ ↔ _; simp [h]⟩
    · exact ⟨false, by show _ ↔ _; simp [h]⟩
  have hP := isPrime_any p w hp2 (by omega) bp HBP
  cases bp with
  | false =>
    have hb : b = false := by
      cases b with
      | false => rfl
      | true => exact absurd (HB.out.1 rfl).1 (fun h => by have := HBP.out.2 h; cases this)
    subst hb
    clear HB HBP
    go_enter Tryz.func88, Tryz.ntmps88
    go_wp2_with fail
    refine hP.mono ?_
    rintro e w1 ⟨rfl, rfl⟩
    go_wp2
    go_ret
    exact ⟨rfl, Below.refl _ _⟩
  | true =>
    have hisp := HBP.out.1 rfl
    have hR := reduced_any F p _ w hu fF hl (by omega) hp1
    have hrl := redL_len p F
    have hnr := redL_nrm (p := p) (by omega) F
    by_cases hlen : (redL p F).length = F.length
    · have hne : redL p F ≠ [] := by intro e; rw [e] at hlen; simp at hlen; omega
      have HSQ : Hid _ := fun (W : World) (v : Value) (hv : RowN W v (redL p F)) => squareFreeM_any p (redL p F) v W hv (by omega) hp2 hp1 hisp.2 hnr hne b (by
        show _ ↔ _
        rw [HB.out, cop_redL]
        exact ⟨fun h => h.2.2, fun h => ⟨hisp, (redL_eq (by omega) hF).1 hlen, h⟩⟩)
      have hl1 : (redL p F).length ≤ F.length := by omega
      have hl2 : F.length ≤ (redL p F).length := by omega
      clear HB HBP hisp hnr hne hlen
      obtain ⟨L, HL⟩ : ∃ L, Hid (redL p F = L) := ⟨_, rfl⟩
      rw [HL.out] at hR HSQ hl1 hl2 hrl
      go_enter Tryz.func88, Tryz.ntmps88
      go_wp2_with fail
      refine hP.mono ?_
      rintro e w1 ⟨rfl, rfl⟩
      go_wp2_with fail
      refine hR.mono ?_
      rintro e w2 ⟨x2, rfl, hI2, hb2⟩
      obtain ⟨xa, xc, rfl⟩ := hI2.row.val
      have hS := HSQ.out w2 _ hI2.row
      have hll : (L.length : Int) = (F.length : Int) := by omega
      obtain ⟨ln, HLN⟩ : ∃ ln, Hid (L.length = ln) := ⟨_, rfl⟩
      rw [HLN.out] at hS hll ⊢
      obtain ⟨fn, HFN⟩ : ∃ fn, Hid (F.length = fn) := ⟨_, rfl⟩
      rw [HFN.out] at hll ⊢
      obtain rfl : fn = ln := by omega
      clear hll
      go_wp2_with fail
      refine hS.mono ?_
      rintro e w3 ⟨rfl, hb3⟩
      go_wp2
      go_ret
      exact ⟨rfl, hb2.trans (hb3.mono hb2.size)⟩
    · have hb : b = false := by
        cases b with
        | false => rfl
        | true => exact absurd ((redL_eq (by omega) hF).2 (HB.out.1 rfl).2.1) hlen
      subst hb
      have hlen' : ¬ ((redL p F).length : Int) = (F.length : Int) := by omega
      clear HB HBP hnr hisp hlen
      obtain ⟨L, HL⟩ : ∃ L, Hid (redL p F = L) := ⟨_, rfl⟩
      rw [HL.out] at hR hlen' hrl
      go_enter Tryz.func88, Tryz.ntmps88
      go_wp2_with fail
      refine hP.mono ?_
      rintro e w1 ⟨rfl, rfl⟩
      go_wp2_with fail
      refine hR.mono ?_
      rintro e w2 ⟨x2, rfl, hI2, hb2⟩
      obtain ⟨xa, xc, rfl⟩ := hI2.row.val
      go_wp2
      go_ret
      exact ⟨rfl, hb2⟩

set_option maxRecDepth 100000 in
set_option maxHeartbeats 2000000 in
theorem fittingPrime_any (F : List Int) (u : Value) (w : World) (hu : IsL w u F) (fF : FitW F) (hF : F ≠ []) (hl : F.length ≤ 900) (hex : ∃ p, p < 1000 ∧ FitP F p) :
    Calls Tryz.prog 66 #[u] w fun e w' => ∃ p : Nat, e = .returned (.int .i64 p) ∧ 2 ≤ p ∧ p < 1000 ∧ FitP F p ∧ Below w.heap.size w w' := by
  obtain ⟨ua, uc, rfl⟩ := OwnL.val hu
  obtain ⟨q, hq1, hq⟩ := hex
  have hq2 := hq.1.1
  obtain ⟨FP, HFP⟩ : ∃ FP : Nat → Prop, Hid (FP = FitP F) := ⟨_, rfl⟩
  have HQ : Hid (FP q) := by show FP q; rw [HFP.out]; exact hq
  have HFT : Hid (∀ (W : World) (p : Nat) (b : Bool), Below w.heap.size w W → 2 ≤ p → p < 1000 → (b = true ↔ FP p) → _) := fun W p b hW h2 h1 hb => fits_any F p _ W (OwnL.below hu hW) fF hF hl h2 h1 b (by rw [← HFP.out]; exact hb)
  rw [← HFP.out]
  clear hq HFP
  go_enter Tryz.func66, Tryz.ntmps66
  go_wp2_with fail
  go_loopw [3] (fun i wr => ∃ (k : Nat), i = .int .i64 k ∧ 2 ≤ k ∧ k ≤ q ∧ Below w.heap.size w wr) (fun i _ => q - (intOf i).toNat)
  case atStart => exact ⟨2, rfl, Nat.le_refl _, hq2, Below.refl _ _⟩
  case round =>
    obtain ⟨k, rfl, hk2, hkq, hbel⟩ := hrel
    have hk1000 : (k : Int) < 1000 := by omega
    by_cases h : FP k
    · have hS := HFT.out wr k true hbel hk2 (by omega) (by simp [h])
      have HH : Hid (FP k) := h
      clear h
      go_wp2_with fail
      refine hS.mono ?_
      rintro e w1 ⟨rfl, hb1⟩
      go_wp2
      go_ret
      exact ⟨k, rfl, hk2, by omega, HH.out, hbel.trans (hb1.mono hbel.size)⟩
    · have hS := HFT.out wr k false hbel hk2 (by omega) (by simp [h])
      have hkn : k ≠ q := fun e => h (by rw [e]; exact HQ.out)
      have hkq' : k < q := by omega
      clear h hkn
      go_wp2_with fail
      refine hS.mono ?_
      rintro e w1 ⟨rfl, hb1⟩
      go_wp2
      go_roundw
      case rel => exact ⟨k + 1, by go_num, by omega, by omega, hbel.trans (hb1.mono hbel.size)⟩
      case measure => simp [intOf]; omega

end Go.Proofs.YtldcjkhbiffdoabGreatDoor

namespace Go.Proofs.YtldcjkhbiffdoabGreatDoor
open Go.RowKit

theorem inB_bd {zs : List Int} (h : inB zs = true) : Bd zs 12 := by
  intro k
  rcases Nat.lt_or_ge k zs.length with h1 | h1
  · have h2 := inB_at h h1
    have h3 := Lib.lt_pow_nDigits (zs.getD k 0).natAbs
    exact Nat.lt_of_lt_of_le h3 (Nat.pow_le_pow_right (by omega) h2)
  · rw [getD_out h1]; exact Nat.pow_pos (by omega)

theorem IsP.open {w : World} {p : Value} {zs : List Int} (h : IsP w p zs) : ∃ k a c, p = .pointer (some ⟨k, 0, none⟩) ∧ k < w.heap.size ∧ w.cell? ⟨k, 0, none⟩ = some (.slice a zs.length c) ∧ IsL w (.slice a zs.length c) zs := by
  obtain ⟨k, v, rfl, h2, h3⟩ := h
  obtain ⟨a, c, rfl⟩ := OwnL.val h3
  exact ⟨k, a, c, rfl, lt_of_block h2, by simp [World.cell?, h2], h3⟩

theorem psub_getD (xs ys : List Int) (k : Nat) : (tab (max xs.length ys.length) fun k => xs.getD k 0 - ys.getD k 0).getD k 0 = xs.getD k 0 - ys.getD k 0 := by
  rw [tab_getD]
  split
  · rfl
  · rw [getD_out (show xs.length ≤ k by omega), getD_out (show ys.length ≤ k by omega)]; rfl
end Go.Proofs.YtldcjkhbiffdoabGreatDoor
