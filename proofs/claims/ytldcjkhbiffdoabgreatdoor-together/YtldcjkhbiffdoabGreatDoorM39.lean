import Derived.Test.YtldcjkhbiffdoabGreatDoorM38
import Derived.Test.YtldcjkhbiffdoabGreatDoorM10
import Derived.Laws.AppendOwnNone

set_option linter.unusedSimpArgs false
namespace Go.Proofs.YtldcjkhbiffdoabGreatDoor
open Go.RowKit

theorem ptCells_one : ∀ (ps : List (List Int × Nat)) (u : Value), u ∈ ptCells ps → u.oneCell' = true
  | [], u, h => by simp [ptCells] at h
  | x :: l, u, h => by
    simp only [ptCells, List.mem_cons] at h
    rcases h with rfl | rfl | h
    · rfl
    · rfl
    · exact ptCells_one l u h

theorem wpList_pushPts {ops : Array Oper} {rest : List Oper} {o : Oper} {a : Act} {Q : Exit → Act → World → Prop} {wr : World} (hgd : o.guard = none) (s x : Operand)
    (ho : o.op = .call { callee := .builtin .append, args := #[s, x], argTypes := #[36, 36] })
    (B : Nat) (v u : Value) (ps qs : List (List Int × Nat)) (hs : a.eval s = v) (hown : OwnPt B wr v ps) (hx : a.eval x = u) (hq : OwnPt 0 wr u qs)
    (hlen : ps.length + qs.length ≤ 1000000000) (hB : B ≤ wr.heap.size)
    (h : ∀ v' w', OwnPt B w' v' (ps ++ qs) → Below B wr w' → wr.grownBy w' v.ownBlock → wpList Tryz.prog ops Q rest (a.put o.dst v') w') :
    wpList Tryz.prog ops Q (o :: rest) a wr := by
  obtain ⟨i, hi, hz0, hz1, hz2⟩ := info_parts Tryz.infoPt
  have hblk := hown.block
  have hq2 : wr.ownsRow 0 40 2 u qs.length (ptCells qs) := hq
  rcases hq2.2 with ⟨hn, hn0⟩ | ⟨g, cap, cur, hv, _, hg, hnc, hcm, _⟩
  · have e : qs = [] := List.length_eq_zero_iff.1 hn0
    subst e
    refine wpList_append_own_none hgd s x 36 ho B 40 i 2 Tryz.slicePt hi v ps.length (ptCells ps) hs hown (hx.trans hn) ?_
    refine h v wr (by rw [List.append_nil]; exact hown) (Below.refl _ _) ?_
    exact ⟨rfl, rfl, rfl, Nat.le_refl _, fun _ _ _ => rfl⟩
  · refine wpList_append_own _ hgd s x 36 ho B 40 i (.agg #[.string ⟨#[]⟩, .int .i64 0]) 2 24 Tryz.slicePt hi hz0 hz1 hz2 rfl (by decide) v ps.length (ptCells ps) hs hown ⟨g, 0, none⟩ qs.length cap (ptCells qs) (hx.trans hv) (by rw [ptCells_len]; omega) ?_ (ptCells_one qs) ?_ ?_ hB ?_
    · intro j y hj
      have hjl : j < (ptCells qs).length := (List.getElem?_eq_some_iff.1 hj).1
      rw [ptCells_len] at hjl
      subst hv
      have := hq2.cellAt j (by omega)
      rw [hj] at this
      by_cases h0 : j = 0
      · subst h0; simpa [Addr.add] using this
      · simpa [Addr.add, h0] using this
    · unfold maxLen; omega
    · omega
    · intro v' w' g1 g2 _
      refine h v' w' ?_ ((Below.refl _ _).grown g2 hB hblk) g2
      show World.ownsRow _ _ _ _ _ _ _
      rw [ptCells_app, List.length_append]
      exact g1

set_option maxRecDepth 100000 in
set_option maxHeartbeats 8000000 in
theorem union_any (pl pa pb : List (List Int × Nat)) (ul ua ub : Value) (w : World) (hl : OwnPt 0 w ul pl) (ha : OwnPt 0 w ua pa) (hb : OwnPt 0 w ub pb) (ol : PtOK pl) (oa : PtOK pa) (ob : PtOK pb)
    (h1 : ∀ x, x ∈ pl → x.2 = oftT pa (ptext x.1) + oftT pb (ptext x.1)) (h2 : ∀ x, x ∈ pa ++ pb → 0 < oftT pl (ptext x.1)) :
    Calls Tryz.prog 26 #[ul, ua, ub] w fun e w' => e = .returned (.bool true) ∧ Below w.heap.size w w' := by
  obtain ⟨al, cl, rfl⟩ := hl.val
  obtain ⟨aa, ca, rfl⟩ := ha.val
  obtain ⟨ab, cb, rfl⟩ := hb.val
  have ll := ol.1
  have la := oa.1
  have lb := ob.1
  have HOl : Hid _ := ol
  have HOa : Hid _ := oa
  have HOb : Hid _ := ob
  have HM1 : Hid _ := h1
  have HM2 : Hid _ := h2
  clear ol oa ob h1 h2
  go_enter Tryz.func26, Tryz.ntmps26
  go_wp2_with fail
  go_loopw [13] (fun k wr => ∃ i : Nat, k = .int .i64 (i : Nat) ∧ i ≤ pl.length ∧ Below w.heap.size w wr) (fun k _ => pl.length - (intOf k).toNat)
  case atStart => exact ⟨0, rfl, by omega, Below.refl _ _⟩
  case round =>
    obtain ⟨i, rfl, hi, hbel⟩ := hrel
    by_cases hlt : i < pl.length
    · obtain ⟨gg, x, rfl, hc1, hc2, hgg, _, q1, q2, hxm⟩ := (hl.below hbel).at i hlt
      have HMN : Hid (x.2 = oftT pa (ptext x.1) + oftT pb (ptext x.1)) := HM1.out x (List.mem_of_getElem? hxm)
      have hii : (i : Int) < (pl.length : Int) := by omega
      have la1 := oftT_le (ptext x.1) HOa.out.2
      have lb1 := oftT_le (ptext x.1) HOb.out.2
      have HA : Hid _ := fun (V : World) (h : Below w.heap.size w V) => often_any pa ⟨(ptext x.1).toArray⟩ _ V (ha.below h) HOa.out
      have HB : Hid _ := fun (V : World) (h : Below w.heap.size w V) => often_any pb ⟨(ptext x.1).toArray⟩ _ V (hb.below h) HOb.out
      have e1 : (ByteArray.mk (ptext x.1).toArray).data.toList = ptext x.1 := rfl
      rw [e1] at HA HB
      clear e1
      generalize oftT pa (ptext x.1) = na at *
      generalize oftT pb (ptext x.1) = nb at *
      generalize (ByteArray.mk (ptext x.1).toArray) = TB at *
      generalize x.2 = E at *
      clear hxm
      go_wp2_with fail
      obtain ⟨W7, HW7⟩ : ∃ W7, Hid (wr.alloc (Obj.cells #[Value.string TB, Value.int IntKind.i64 (E : Nat)] 40) = W7) := ⟨_, rfl⟩
      have hb7 : Below wr.heap.size wr W7 := by rw [← HW7.out]; exact (Below.refl _ _).alloc (Nat.le_refl _) _
      have hcS : W7.cell? ⟨wr.heap.size, 0, none⟩ = some (.string TB) ∧ W7.cell? ⟨wr.heap.size, 1, none⟩ = some (.int .i64 (E : Nat)) := by
        have hh : W7.heap[wr.heap.size]? = some (.cells #[Value.string TB, Value.int IntKind.i64 (E : Nat)] 40 (0, 0)) := by rw [← HW7.out]; exact heap_alloc_new wr _
        constructor <;> simp [World.cell?, hh]
      have hk7 : wr.heap.size < W7.heap.size := by rw [← HW7.out]; simp
      rw [HW7.out]
      have hbd : Below W7.heap.size W7 W7.drew := ⟨rfl, rfl, rfl, Nat.le_refl _, fun _ _ => rfl⟩
      have hSV : ∀ V, Below W7.heap.size W7 V → V.cell? ⟨wr.heap.size, 0, none⟩ = some (.string TB) ∧ V.cell? ⟨wr.heap.size, 1, none⟩ = some (.int .i64 (E : Nat)) := fun V h => ⟨(h.cell (p := ⟨wr.heap.size, 0, none⟩) hk7).trans hcS.1, (h.cell (p := ⟨wr.heap.size, 1, none⟩) hk7).trans hcS.2⟩
      have hbel7 := hbel.trans (hb7.mono hbel.size)
      clear HW7 hb7 hcS
      generalize wr.heap.size = kx at *
      refine wp_region_held_drew (S := fun V => V.cell? ⟨kx, 0, none⟩ = some (.string TB) ∧ V.cell? ⟨kx, 1, none⟩ = some (.int .i64 (E : Nat))) (by kernel_rfl) (hSV _ hbd) fun hS => ?_
      have hbelV := hbel7.trans (hbd.mono hbel7.size)
      generalize W7.drew = V0 at *
      refine h_take 0 17 (.pointer (some ⟨kx, 1, none⟩)) rfl rfl (by kernel_rfl) (by kernel_rfl) (by kernel_rfl) (fun _ _ _ h => h) rfl (fun _ _ => by first | rfl | go_simp) hS ?_
      simp only [Act.put, tA, tB, tC]
      refine h_take 1 18 (.int .i64 (E : Nat)) rfl rfl (by kernel_rfl) (by kernel_rfl) (by kernel_rfl) (fun _ _ _ h => h) rfl (fun w' hw' => by obtain ⟨y0, y1⟩ := hw'; go_simp) hS ?_
      simp only [Act.put, tA, tB, tC]
      refine h_take 2 19 (.slice aa pa.length ca) rfl rfl (by kernel_rfl) (by kernel_rfl) (by kernel_rfl) (fun _ _ _ h => h) rfl (fun _ _ => by first | rfl | go_simp) hS ?_
      simp only [Act.put, tA, tB, tC]
      refine h_take 3 20 (.pointer (some ⟨kx, 0, none⟩)) rfl rfl (by kernel_rfl) (by kernel_rfl) (by kernel_rfl) (fun _ _ _ h => h) rfl (fun _ _ => by first | rfl | go_simp) hS ?_
      simp only [Act.put, tA, tB, tC]
      refine h_take 4 21 (.string TB) rfl rfl (by kernel_rfl) (by kernel_rfl) (by kernel_rfl) (fun _ _ _ h => h) rfl (fun w' hw' => by obtain ⟨y0, y1⟩ := hw'; go_simp) hS ?_
      simp only [Act.put, tA, tB, tC]
      refine h_take 6 23 (.slice ab pb.length cb) rfl rfl (by kernel_rfl) (by kernel_rfl) (by kernel_rfl) (fun _ _ _ h => h) rfl (fun _ _ => by first | rfl | go_simp) hS ?_
      simp only [Act.put, tA, tB, tC]
      refine h_take 7 24 (.pointer (some ⟨kx, 0, none⟩)) rfl rfl (by kernel_rfl) (by kernel_rfl) (by kernel_rfl) (fun _ _ _ h => h) rfl (fun _ _ => by first | rfl | go_simp) hS ?_
      simp only [Act.put, tA, tB, tC]
      refine h_take 8 25 (.string TB) rfl rfl (by kernel_rfl) (by kernel_rfl) (by kernel_rfl) (fun _ _ _ h => h) rfl (fun w' hw' => by obtain ⟨y0, y1⟩ := hw'; go_simp) hS ?_
      simp only [Act.put, tA, tB, tC]
      refine h_call 5 22 28 #[.slice aa pa.length ca, .string TB] rfl rfl (by kernel_rfl) rfl (by go_simp) ?_
      refine (HA.out V0 hbelV).mono ?_
      rintro en w8 ⟨rfl, hb8⟩
      have hbd8 := hbd.trans (hb8.mono hbd.size)
      have hbel8 := hbelV.trans (hb8.mono hbelV.size)
      have hS := hSV _ hbd8
      refine ⟨_, rfl, hS, ?_⟩
      simp only [Act.put, tA, tB, tC]
      refine h_call 9 26 28 #[.slice ab pb.length cb, .string TB] rfl rfl (by kernel_rfl) rfl (by go_simp) ?_
      refine (HB.out w8 hbel8).mono ?_
      rintro en w9 ⟨rfl, hb9⟩
      have hbd9 := hbd8.trans (hb9.mono hbd8.size)
      have hbel9 := hbel8.trans (hb9.mono hbel8.size)
      have hS := hSV _ hbd9
      refine ⟨_, rfl, hS, ?_⟩
      simp only [Act.put, tA, tB, tC]
      have hwE : IntKind.i64.wrap ((na : Int) + (nb : Int)) = (E : Int) := by
        have := HMN.out
        rw [IntKind.wrap_i64]
        omega
      refine h_take 10 27 (.int .i64 (E : Nat)) rfl rfl (by kernel_rfl) (by kernel_rfl) (by kernel_rfl) (fun _ _ _ h => h) rfl (fun _ _ => by first | rfl | go_simp) hS ?_
      simp only [Act.put, tA, tB, tC]
      refine h_take 11 28 (.bool false) rfl rfl (by kernel_rfl) (by kernel_rfl) (by kernel_rfl) (fun _ _ _ h => h) rfl (fun _ _ => by first | rfl | go_simp) hS ?_
      simp only [Act.put, tA, tB, tC]
      refine wpAnyH_done (by kernel_rfl) ?_ _
      go_wp2
      go_roundw
      case rel => exact ⟨i + 1, by go_num, by omega, hbel9⟩
      case measure => simp [intOf]; omega
    · obtain rfl : i = pl.length := by omega
      go_wp2_with (at_builtin; refine wpList_pushPts rfl (.const (.slice none 0 0)) (.tmp 30) rfl w.heap.size _ _ [] pa rfl (World.ownsRow_nil wr _ _ _) rfl (ha.below hbel) (by simp; omega) hbel.size ?_)
      intro v3 w3 hv3 hb3 hg3
      have hbel3 := hbel.trans hb3
      obtain ⟨a3, c3, rfl⟩ := hv3.val
      go_wp2_with (at_builtin; refine wpList_pushPts rfl (.tmp 31) (.tmp 32) rfl w.heap.size _ _ pa pb rfl hv3 rfl (hb.below hbel3) (by omega) hbel3.size ?_)
      intro v4 w4 hv4 hb4 hg4
      have hbel4 := hbel3.trans hb4
      obtain ⟨pq, HPQ⟩ : ∃ pq, Hid (pa ++ pb = pq) := ⟨_, rfl⟩
      have lq : pq.length ≤ 20000 := by rw [← HPQ.out]; simp; omega
      have HM3 : Hid (∀ x, x ∈ pq → 0 < oftT pl (ptext x.1)) := by rw [← HPQ.out]; exact HM2.out
      rw [HPQ.out] at hv4
      have hv4' : OwnPt 0 w4 v4 pq := hv4.lower (Nat.zero_le _)
      obtain ⟨a4, c4, rfl⟩ := hv4'.val
      have hl4 := hl.below hbel4
      clear hg3 hg4 hv3 hv4 hb3 hb4 HPQ HM2 hbel hbel3
      go_wp2_with fail
      go_loopw [35] (fun k wr => ∃ i : Nat, k = .int .i64 (i : Nat) ∧ i ≤ pq.length ∧ Below w4.heap.size w4 wr) (fun k _ => pq.length - (intOf k).toNat)
      case atStart => exact ⟨0, rfl, by omega, Below.refl _ _⟩
      case round =>
        obtain ⟨i, rfl, hi, hbel⟩ := hrel
        by_cases hlt : i < pq.length
        · obtain ⟨gg, x, rfl, hc1, hc2, hgg, _, q1, q2, hxm⟩ := (hv4'.below hbel).at i hlt
          have hpos := HM3.out x (List.mem_of_getElem? hxm)
          have hii : (i : Int) < (pq.length : Int) := by omega
          have ll1 := oftT_le (ptext x.1) HOl.out.2
          have HA : Hid _ := fun (V : World) (h : Below w4.heap.size w4 V) => often_any pl ⟨(ptext x.1).toArray⟩ _ V (hl4.below h) HOl.out
          have e1 : (ByteArray.mk (ptext x.1).toArray).data.toList = ptext x.1 := rfl
          rw [e1] at HA
          clear e1
          generalize oftT pl (ptext x.1) = nl at *
          generalize (ByteArray.mk (ptext x.1).toArray) = TB at *
          generalize x.2 = E at *
          clear hxm
          have hnl : ¬ (nl : Int) = 0 := by omega
          go_wp2_with fail
          refine (HA.out _ (hbel.alloc hbel.size _)).mono ?_
          rintro en w8 ⟨rfl, hb8⟩
          have hbel8 := (hbel.alloc hbel.size (Obj.cells #[Value.string TB, Value.int IntKind.i64 (E : Nat)] 40)).trans (hb8.mono (Nat.le_trans hbel.size (by simp)))
          go_wp2
          go_roundw
          case rel => exact ⟨i + 1, by go_num, by omega, hbel8⟩
          case measure => simp [intOf]; omega
        · obtain rfl : i = pq.length := by omega
          go_wp2
          go_ret
          exact ⟨rfl, hbel4.trans (hbel.mono hbel4.size)⟩

end Go.Proofs.YtldcjkhbiffdoabGreatDoor
