import Derived.Test.YtldcjkhbiffdoabGreatDoorM25
import Derived.Test.YtldcjkhbiffdoabGreatDoorCPolyPrim
import Derived.Test.YtldcjkhbiffdoabGreatDoorM20
import Derived.Maps.AppendAt
import Derived.Test.YtldcjkhbiffdoabGreatDoorM22

set_option linter.unusedSimpArgs false
namespace Go.Proofs.YtldcjkhbiffdoabGreatDoor
open Go.RowKit

theorem wpList_pushI2 {ops : Array Oper} {rest : List Oper} {o : Oper} {a : Act} {Q : Exit → Act → World → Prop} {wr : World} (hgd : o.guard = none) (s x : Operand)
    (ho : o.op = .call { callee := .builtin .append, args := #[s, x], argTypes := #[65, 65] })
    (B : Nat) (v : Value) (zs : List Int) (b : Bool) (y : Value) (z : Int) (hs : a.eval s = v) (hown : OwnL B wr v zs) (hz : IsI wr (.agg #[.bool b, y]) z) (hx : a.eval x = .slice (some ⟨wr.heap.size, 0, none⟩) 1 1)
    (hlen : zs.length ≤ 1000000000) (hB : B ≤ wr.heap.size)
    (h : ∀ v' w', OwnL B w' v' (zs ++ [z]) → Below B wr w' → wr.grownBy w' v.ownBlock → (∀ k, v'.ownBlock = some k → v.ownBlock = some k ∨ wr.heap.size ≤ k) → wpList Tryz.prog ops Q rest (a.put o.dst v') w') :
    wpList Tryz.prog ops Q (o :: rest) a (wr.alloc (.cells #[.bool b, y] 70)) := by
  obtain ⟨i, hi, hz0, hz1, hz2⟩ := info_parts Tryz.infoInt
  have htyp := hown.typ
  have hblk := hown.block
  obtain ⟨cs, h1, h2, h3⟩ := hown
  obtain ⟨b', x', l', e, hr, hl⟩ := hz
  have hz : IsI wr (.agg #[.bool b, y]) z := ⟨b', x', l', e, hr, hl⟩
  simp at e
  obtain ⟨rfl, rfl⟩ := e
  obtain ⟨ya, yc, rfl⟩ := hr.val
  refine wpList_append_own_at _ hgd s x 65 ho B 70 i (.agg #[.bool false, .slice none 0 0]) 2 32 Tryz.sliceInt hi hz0 hz1 hz2 rfl (by decide) v zs.length (flat cs) hs (World.ownsRow.alloc h2 _) ⟨wr.heap.size, 0, none⟩ 1 1 [.bool b, .slice ya l'.length yc] hx rfl ?_ ?_ ?_ ?_ ?_ ?_
  · intro j u hj
    match j, hj with
    | 0, hj => simp at hj; subst hj; simp [Addr.add]
    | 1, hj => simp at hj; subst hj; simp [Addr.add]
  · intro u hu
    simp at hu
    rcases hu with rfl | rfl <;> rfl
  · unfold maxLen; omega
  · omega
  · simp; omega
  · intro v' w' g1 g2 _ g4
    have h0 := World.grownBy_alloc wr (.cells #[.bool b, .slice ya l'.length yc] 70) v.ownBlock
    have hg : wr.grownBy w' v.ownBlock := ⟨g2.os.trans h0.os, g2.tape.trans h0.tape, g2.output.trans h0.output, Nat.le_trans h0.size g2.size, fun k hk hne => (g2.block k (by simp; omega) hne).trans (h0.block k hk hne)⟩
    refine h v' w' ⟨cs ++ [(b, .slice ya l'.length yc)], by simp [h1], ?_, ?_⟩ ((Below.refl _ _).grown hg hB hblk) hg (fun k hk => ?_)
    · rw [flat_append]
      simpa [flat] using g1
    · intro j p hj
      by_cases hjl : j < cs.length
      · rw [List.getElem?_append_left hjl] at hj
        have hj2 : (zs ++ [z]).getD j 0 = zs.getD j 0 := by simp [List.getD, List.getElem?_append_left (show j < zs.length by omega)]
        rw [hj2]
        exact (h3 j p hj).kept hg htyp
      · rw [List.getElem?_append_right (by omega)] at hj
        have hj0 : j - cs.length = 0 := by
          rcases Nat.eq_zero_or_pos (j - cs.length) with h0 | h0
          · exact h0
          · rw [List.getElem?_eq_none (by simp; omega)] at hj; simp at hj
        rw [hj0] at hj
        simp at hj
        subst hj
        have hj2 : (zs ++ [z]).getD j 0 = z := by
          rw [show j = zs.length by omega]; simp [List.getD]
        rw [hj2]
        exact hz.kept hg htyp
    · rcases g4 with g4 | g4
      · left; rw [← g4]; exact hk
      · right
        rw [g4] at hk
        simp at hk
        omega

theorem litI {w : World} {b : Bool} {y : Value} {z : Int} (hz : IsI w (.agg #[.bool b, y]) z) : OwnL w.heap.size (w.alloc (.cells #[.bool b, y] 70)) (.slice (some ⟨w.heap.size, 0, none⟩) 1 1) [z] := by
  refine ⟨[(b, y)], rfl, World.ownsRow_lit w #[.bool b, y] 1 (Nat.le_refl _) (by simp [maxLen]) rfl, fun i p hp => ?_⟩
  match i, hp with
  | 0, hp =>
    simp at hp
    subst hp
    exact hz.below (below_one w _)

theorem IsL.keptO {w w' : World} {v : Value} {zs : List Int} {g : Option Nat} (h : IsL w v zs) (hg : w.grownBy w' g) (hne : ∀ k, g = some k → v.ownBlock ≠ some k) (ht : ∀ k, g = some k → ∃ cur, w.heap[k]? = some (.cells cur 70 (0, 0))) : IsL w' v zs := by
  obtain ⟨cs, h1, h2, h3⟩ := h
  refine ⟨cs, h1, ⟨h2.1, ?_⟩, fun i p hp => (h3 i p hp).kept hg ht⟩
  rcases h2.2 with h | ⟨k, cap, cur, hv, hB, hk, r⟩
  · exact .inl h
  · refine .inr ⟨k, cap, cur, hv, hB, ?_, r⟩
    rw [hg.block k (Array.getElem?_eq_some_iff.1 hk).1 (fun e => hne k e.symm (by rw [hv]; rfl))]
    exact hk

set_option maxHeartbeats 2000000 in
theorem wholeNumbers_any (l : List Int) (u : Value) (w : World) (hu : RowN w u l) (hl : l.length ≤ 900) (hr : ∀ k, 0 ≤ l.getD k 0 ∧ l.getD k 0 < 1000) :
    Calls Tryz.prog 96 #[u] w fun e w' => ∃ x, e = .returned x ∧ OwnL w.heap.size w' x l ∧ Below w.heap.size w w' := by
  obtain ⟨ua, uc, rfl⟩ := hu.val
  have HR : Hid _ := hr
  clear hr
  go_enter Tryz.func96, Tryz.ntmps96
  go_wp2_with fail
  go_loopw [3, 4] (fun o i wr => ∃ (k : Nat), k ≤ l.length ∧ i = .int .i64 k ∧ OwnL w.heap.size wr o (l.take k) ∧ Below w.heap.size w wr) (fun _ i _ => l.length - (intOf i).toNat)
  case atStart => exact ⟨0, Nat.zero_le _, rfl, OwnL.lit rfl, below_one w _⟩
  case round =>
    obtain ⟨k, hk, rfl, hown, hbel⟩ := hrel
    by_cases hlt : k < l.length
    · have hsu : l.take (k + 1) = l.take k ++ [l.getD k 0] := by rw [List.take_succ_eq_append_getElem hlt, ← getD_lt hlt]
      obtain ⟨ga, rfl, hu1, hu2, hu3, hcx⟩ := hu.at k hlt
      obtain ⟨hx0, hx1⟩ := HR.out k
      have hcx' : wr.cell? ⟨ga, k, none⟩ = some (.int .i64 (l.getD k 0)) := (hbel.cell (p := ⟨ga, k, none⟩) hu3).trans hcx
      generalize l.getD k 0 = x at *
      have HSU : Hid _ := hsu
      have hlen : (l.take k).length ≤ 900 := by rw [List.length_take]; omega
      clear hsu hcx
      obtain ⟨L, HL⟩ : ∃ L, Hid (l.take k = L) := ⟨_, rfl⟩
      rw [HL.out] at hown hlen
      obtain ⟨oa, oc, rfl⟩ := OwnL.val hown
      go_wp2_with fail
      refine (small_any x (by omega) (by omega) wr).mono ?_
      rintro e w1 ⟨v1, rfl, hI1, hb1⟩
      obtain ⟨b1, a1, n1, c1, rfl⟩ := hI1.form
      have hb1w := hbel.trans (hb1.mono hbel.size)
      go_wp2_with (at_builtin; refine wpList_pushI rfl (.tmp 12) (.tmp 18) rfl w.heap.size _ L _ _ x rfl (OwnL.below hown hb1) hI1 rfl (by omega) hb1w.size ?_)
      intro v4 w4 hown4 hb4 _
      rw [← HL.out, ← HSU.out] at hown4
      go_wp2
      go_roundw
      case rel => exact ⟨k + 1, by omega, by go_num, hown4, hb1w.trans hb4⟩
      case measure => simp [intOf]; omega
    · obtain rfl : k = l.length := by omega
      rw [List.take_length] at hown
      obtain ⟨oa, oc, hoe⟩ := OwnL.val hown
      subst hoe
      go_wp2
      go_ret
      exact ⟨_, rfl, hown, hbel⟩

theorem pAt_sm (xs ys : List Int) (k : Nat) : ∀ n, pAt xs ys k n = sm (fun i => xs.getD i 0 * ys.getD (k - i) 0) n
  | 0 => rfl
  | n + 1 => by
    show pAt xs ys k n + xs.getD n 0 * ys.getD (k - n) 0 = sm (fun i => xs.getD i 0 * ys.getD (k - i) 0) n + xs.getD n 0 * ys.getD (k - n) 0
    rw [pAt_sm xs ys k n]

theorem pk_mS : ∀ (xs ys : List Int) (k : Nat), pk xs ys k = mS xs 0 (fun j => ys.getD j 0) k
  | [], ys, k => by
    unfold pk
    rw [pAt_sm, sm_congr (k + 1) (G := fun _ => 0) fun i _ => by simp, sm_zero]; rfl
  | a :: xs, ys, k => by
    unfold pk
    rw [pAt_sm, sm_first]
    show a * ys.getD (k - 0) 0 + sm (fun i => xs.getD i 0 * ys.getD (k - (i + 1)) 0) k = (if (0 : Nat) = 0 then a else 0) * ys.getD k 0 + ((if k = 0 then 0 else mS xs 0 (fun j => ys.getD j 0) (k - 1)) + ((0 : Nat) : Int) * mS xs (0 - 1) (fun j => ys.getD j 0) k)
    rw [if_pos rfl, Nat.sub_zero]
    cases k with
    | zero => simp [sm]
    | succ k =>
      rw [if_neg (by omega), Nat.add_sub_cancel, ← pk_mS xs ys k]
      unfold pk
      rw [pAt_sm]
      have : sm (fun i => xs.getD i 0 * ys.getD (k + 1 - (i + 1)) 0) (k + 1) = sm (fun i => xs.getD i 0 * ys.getD (k - i) 0) (k + 1) := sm_congr _ fun i _ => by rw [show k + 1 - (i + 1) = k - i by omega]
      rw [this]; simp

end Go.Proofs.YtldcjkhbiffdoabGreatDoor

namespace Go.Proofs.YtldcjkhbiffdoabGreatDoor
open Go.RowKit

theorem tz_le (l : List Int) : (tz l).length ≤ l.length := by
  rw [tz_length]; exact tzn_le l l.length

theorem Bd.tzs {l : List Int} {e : Nat} (h : Bd l e) : Bd (tz l) e := fun k => by rw [tz_getD]; exact h k

set_option maxRecDepth 100000 in
set_option maxHeartbeats 4000000 in
theorem primitiveGcd_any (G a b : List Int) (u v : Value) (w : World) {e0 : Nat} (hu : IsL w u a) (hv : IsL w v b) (hps : PS G a b e0) :
    Calls Tryz.prog 48 #[u, v] w fun en w' => ∃ x, en = .returned x ∧ IsL w' x G ∧ G.length ≤ 11 ∧ Bd G 5000000 ∧ Below w.heap.size w w' := by
  obtain ⟨ua, uc, rfl⟩ := OwnL.val hu
  obtain ⟨va, vc, rfl⟩ := OwnL.val hv
  have HPS : Hid _ := hps
  clear hps
  go_enter Tryz.func48, Tryz.ntmps48
  go_wp2_with fail
  go_loopw [5, 6] (fun g l wr => ∃ (A B : List Int) (e : Nat), IsL wr g A ∧ IsL wr l B ∧ Hid (PS G A B e) ∧ Below w.heap.size w wr) (fun _ l _ => lenV l)
  case atStart => exact ⟨a, b, e0, hu, hv, HPS, Below.refl _ _⟩
  case round =>
    clear HPS hu hv
    obtain ⟨A, B, e, hA, hB, HPS, hbel⟩ := hrel
    obtain ⟨aa, ac, rfl⟩ := OwnL.val hA
    obtain ⟨ba, bc, rfl⟩ := OwnL.val hB
    by_cases hB0 : B = []
    · subst hB0
      have hend := HPS.out.ends
      have hla := HPS.out.la
      have hba := HPS.out.ba.mono HPS.out.small
      rw [hend] at hla hba hA
      have h0 : ([] : List Int).length = 0 := rfl
      go_wp2
      go_ret
      rw [hend]
      exact ⟨_, rfl, hA, hla, hba, hbel⟩
    · have hbl := List.length_pos_iff.2 hB0
      have ps := HPS.out
      obtain ⟨ht1, ht2⟩ := ps.top hB0
      have hla := ps.la
      have hr := restOf_any A B e e _ _ wr hA hB (by omega) (by have := ps.lb; omega) ps.ba ps.bb (by unfold pse at ht1; omega) ps.ta ps.tb hB0 ps.pa
      rw [show e + (A.length + 1 - B.length) * (e + 1) = pse A B e from rfl] at hr
      have hnx := fun R (h1 : RO B A R 0) (h2 : Bd R (pse A B e)) => ps.next hB0 h1 h2
      have HNX : Hid _ := hnx
      clear hnx ps HPS
      generalize pse A B e = E at *
      go_wp2_with fail
      refine hr.mono ?_
      rintro en w1 ⟨x1, R, rfl, hI1, hRl, hRO, hRb, hb1⟩
      have hnx := HNX.out R hRO hRb
      obtain ⟨a1, c1, rfl⟩ := OwnL.val hI1
      have hT := ptrimmed_any R _ w1 hI1 (by omega) (fun i _ => fitW_of (hRb i) (by omega))
      have hP := fun (W : World) (x : Value) (g : IsL W x (tz R)) => primP_any (tz R) E x W g (by have := tz_le R; omega) hRb.tzs (by omega)
      clear hr HNX hRO
      have HNX : Hid _ := hnx
      have HP : Hid _ := hP
      clear hnx hP
      generalize prim (tz R) = P at *
      generalize tz R = tR at *
      go_wp2_with fail
      refine hT.mono ?_
      rintro en w2 ⟨x2, rfl, hI2, hb2⟩
      obtain ⟨a2, c2, rfl⟩ := OwnL.val hI2
      have hb2w := hb1.trans (hb2.mono hb1.size)
      go_wp2_with fail
      refine (HP.out w2 _ hI2.isL).mono ?_
      rintro en w3 ⟨x3, rfl, hI3, hb3⟩
      obtain ⟨a3, c3, rfl⟩ := OwnL.val hI3
      have hb3w := hb2w.trans (hb3.mono hb2w.size)
      have hlt3 := HNX.out.2
      go_wp2
      go_roundw
      case rel => exact ⟨B, P, E, OwnL.below hB hb3w, hI3, HNX.out.1, hbel.trans (hb3w.mono hbel.size)⟩
      case measure => simp [lenV]; exact hlt3

end Go.Proofs.YtldcjkhbiffdoabGreatDoor
