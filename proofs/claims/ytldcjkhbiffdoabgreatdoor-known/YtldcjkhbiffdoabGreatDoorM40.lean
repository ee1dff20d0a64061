import Derived.Test.YtldcjkhbiffdoabGreatDoorM38
import Derived.Test.YtldcjkhbiffdoabGreatDoorM31
import Derived.Test.YtldcjkhbiffdoabGreatDoorCKCmn
import Derived.Test.YtldcjkhbiffdoabGreatDoorCFOrd

set_option linter.unusedSimpArgs false
namespace Go.Proofs.YtldcjkhbiffdoabGreatDoor
open Go.RowKit

theorem pread_ok {zs : List Int} (tz' : Tr zs) (hB : inB zs = true) (hl : (ptext zs).length ≤ 200) : pread (ptext zs) = (0, 0, zs) := by
  obtain ⟨ts, e1, e2, e3⟩ := rsum_text zs (inB_len hB)
  have hc : tz (coefsT ts 11) = zs := (tr_tz _).ext tz' fun k => by
    rw [tz_getD]
    by_cases hk : k < 11
    · rw [coefs_at ts 11 k hk, e2]
    · have := inB_len hB
      rw [getD_out (by unfold coefsT; simp; omega), getD_out (by omega)]
  have hq : ts.any bigQ = false := by
    rw [List.any_eq_false]
    intro q hq
    have := e3 q hq
    unfold bigQ
    simp
    intro _
    omega
  unfold pread
  rw [if_neg (by omega), e1]
  simp only [if_true]
  rw [hq, hc, if_neg (by decide), if_pos hB]

set_option maxHeartbeats 1000000 in
theorem pickK_any (c : Int) (w : World) (h1 : -9223372036854775808 ≤ c) (h2 : c ≤ 9223372036854775807) :
    Calls Tryz.prog 33 #[.int .i64 c, .int .i64 21] w fun e w' => (∃ k : Nat, k < 21 ∧ e = .returned (.int .i64 (k : Nat))) ∧ w' = w := by
  by_cases hc : c < 0
  · have hw1 : IntKind.i64.wrap (c + 1) = c + 1 := by rw [IntKind.wrap_i64]; omega
    have hw2 : IntKind.i64.wrap (-(c + 1)) = -(c + 1) := by rw [IntKind.wrap_i64]; omega
    have ht : (-(c + 1)).tmod 21 = (-(c + 1)) % 21 := Int.tmod_eq_emod_of_nonneg (by omega)
    obtain ⟨k, hk⟩ : ∃ k : Nat, (-(c + 1)) % 21 = (k : Int) := ⟨((-(c + 1)) % 21).toNat, by omega⟩
    have hk21 : k < 21 := by omega
    have hw3 : IntKind.i64.wrap (k : Int) = (k : Int) := by rw [IntKind.wrap_i64]; omega
    rw [hk] at ht
    generalize hD : -(c + 1) = D at *
    have HK : Hid _ := hk
    clear hk
    go_enter Tryz.func33, Tryz.ntmps33
    go_wp2
    go_ret
    exact ⟨⟨k, hk21, rfl⟩, rfl⟩
  · have ht : c.tmod 21 = c % 21 := Int.tmod_eq_emod_of_nonneg (by omega)
    obtain ⟨k, hk⟩ : ∃ k : Nat, c % 21 = (k : Int) := ⟨(c % 21).toNat, by omega⟩
    have hk21 : k < 21 := by omega
    have hw3 : IntKind.i64.wrap (k : Int) = (k : Int) := by rw [IntKind.wrap_i64]; omega
    rw [hk] at ht
    have HK : Hid _ := hk
    clear hk
    go_enter Tryz.func33, Tryz.ntmps33
    go_wp2
    go_ret
    exact ⟨⟨k, hk21, rfl⟩, rfl⟩

set_option maxRecDepth 100000 in
set_option maxHeartbeats 8000000 in
theorem known_any (c : Int) (w : World) (h1 : -9223372036854775808 ≤ c) (h2 : c ≤ 9223372036854775807) (ht : Tab w) :
    Calls Tryz.prog 15 #[.int .i64 c] w fun e w' => e = .returned (.bool true) ∧ Below w.heap.size w w' := by
  go_enter Tryz.func15, Tryz.ntmps15
  go_wp2_with fail
  refine (lots_any w).mono ?_
  rintro e w1 ⟨rfl, hw1⟩
  have hb1 : Below w.heap.size w w1 := by rw [hw1]; exact allocs_below _ _
  have HL : Hid (∀ k, k < 21 → LotAt w1 w.heap.size k) := fun k hk => lot_at (fun j hj => by rw [hw1]; exact allocs_at _ _ j (by exact hj)) k hk
  clear hw1
  go_wp2_with fail
  refine (pickK_any c w1 h1 h2).mono ?_
  rintro e w2 ⟨⟨k, hk, rfl⟩, rfl⟩
  obtain ⟨zs, ps, C, a, cc, c0, c1, c2, hown, hlot⟩ := HL.out k hk
  have hp := hlot.inb
  have hpr := pread_ok hlot.tr hlot.inb hlot.len
  have hki : (k : Int) < 21 := by omega
  have hki0 : (0 : Int) ≤ (k : Int) := by omega
  have HLOT : Hid (LotOK zs C ps) := hlot
  have ht1 := ht.below hb1
  have HRD : Hid _ := fun (V : World) (h : Below w2.heap.size w2 V) => read_any ⟨(ptext zs).toArray⟩ V (ht1.below h) (by show (ptext zs).toArray.size ≤ _; have := hlot.len; simp; omega)
  rw [show (ByteArray.mk (ptext zs).toArray).data.toList = ptext zs from rfl, hpr] at HRD
  have HTX : Hid _ := fun (V : World) (u : Value) (h : Below w2.heap.size w2 V) (hu : IsP V u zs) => polyText_any zs u V hu hp (ht1.below h)
  have HFA : Hid _ := fun (V : World) (u : Value) (h : Below w2.heap.size w2 V) (hu : IsP V u zs) => factorP_any zs u V hu hp hlot.tr (ht1.below h)
  generalize hTX : (ByteArray.mk (ptext zs).toArray) = TX at *
  clear hTX HL hpr hlot h1 h2
  generalize w.heap.size + 18 = g at *
  go_wp2_with fail
  obtain ⟨W7, HW7⟩ : ∃ W7, Hid (w2.alloc (Obj.cells #[Value.string TX, Value.string C, Value.slice a ps.length cc] 56) = W7) := ⟨_, rfl⟩
  have hb7 : Below w2.heap.size w2 W7 := by rw [← HW7.out]; exact (Below.refl _ _).alloc (Nat.le_refl _) _
  have hcS : W7.cell? ⟨w2.heap.size, 0, none⟩ = some (.string TX) ∧ W7.cell? ⟨w2.heap.size, 1, none⟩ = some (.string C) ∧ W7.cell? ⟨w2.heap.size, 2, none⟩ = some (.slice a ps.length cc) := by
    have hh : W7.heap[w2.heap.size]? = some (.cells #[Value.string TX, Value.string C, Value.slice a ps.length cc] 56 (0, 0)) := by rw [← HW7.out]; exact heap_alloc_new w2 _
    refine ⟨?_, ?_, ?_⟩ <;> simp [World.cell?, hh]
  have hk7 : w2.heap.size < W7.heap.size := by rw [← HW7.out]; simp
  rw [HW7.out]
  clear HW7
  have hSV : ∀ V, Below W7.heap.size W7 V → V.cell? ⟨w2.heap.size, 0, none⟩ = some (.string TX) ∧ V.cell? ⟨w2.heap.size, 1, none⟩ = some (.string C) ∧ V.cell? ⟨w2.heap.size, 2, none⟩ = some (.slice a ps.length cc) := fun V h => ⟨(h.cell (p := ⟨w2.heap.size, 0, none⟩) hk7).trans hcS.1, (h.cell (p := ⟨w2.heap.size, 1, none⟩) hk7).trans hcS.2.1, (h.cell (p := ⟨w2.heap.size, 2, none⟩) hk7).trans hcS.2.2⟩
  have HSV : Hid _ := hSV
  have HOW : Hid _ := fun (V : World) (h : Below w2.heap.size w2 V) => hown.below h
  clear hSV hcS c0 c1 c2 hown
  obtain ⟨kx, HKX⟩ : ∃ kx, Hid (w2.heap.size = kx) := ⟨_, rfl⟩
  rw [HKX.out] at HSV ⊢
  refine (HRD.out W7 hb7).mono ?_
  rintro e w3 ⟨hA, hb3⟩
  rcases hA with ⟨_, _, q, rfl, hq⟩ | ⟨hne, _⟩
  · have hq : IsP w3 q zs := hq
    have hb23 := hb7.trans (hb3.mono hb7.size)
    obtain ⟨kq, vq, rfl, _⟩ := id hq
    have hbd : Below w3.heap.size w3 w3.drew := ⟨rfl, rfl, rfl, Nat.le_refl _, fun _ _ => rfl⟩
    have hb3d := hb3.trans (hbd.mono hb3.size)
    have hS0 := HSV.out _ hb3d
    go_wp2_with fail
    refine wp_region_held_drew (S := fun V => V.cell? ⟨kx, 0, none⟩ = some (.string TX) ∧ V.cell? ⟨kx, 1, none⟩ = some (.string C) ∧ V.cell? ⟨kx, 2, none⟩ = some (.slice a ps.length cc)) (by kernel_rfl) hS0 fun hS => ?_
    have hqd := hq.below hbd
    have hb2d := hb23.trans (hbd.mono hb23.size)
    clear hS0 hbd hb3 hq hb23
    generalize w3.drew = V0 at *
    refine h_take 0 26 (.int .i64 0) rfl rfl (by kernel_rfl) (by kernel_rfl) (by kernel_rfl) (fun _ _ _ h => h) rfl (fun _ _ => by first | rfl | go_simp) hS ?_
    simp only [Act.put, tA, tB, tC]
    refine h_take 1 27 (.bool false) rfl rfl (by kernel_rfl) (by kernel_rfl) (by kernel_rfl) (fun _ _ _ h => h) rfl (fun _ _ => by first | rfl | go_simp) hS ?_
    simp only [Act.put, tA, tB, tC]
    refine h_take 2 28 (.bool false) rfl rfl (by kernel_rfl) (by kernel_rfl) (by kernel_rfl) (fun _ _ _ h => h) rfl (fun _ _ => by first | rfl | go_simp) hS ?_
    simp only [Act.put, tA, tB, tC]
    refine h_take 3 29 (.pointer (some ⟨kq, 0, none⟩)) rfl rfl (by kernel_rfl) (by kernel_rfl) (by kernel_rfl) (fun _ _ _ h => h) rfl (fun _ _ => by first | rfl | go_simp) hS ?_
    simp only [Act.put, tA, tB, tC]
    refine h_take 5 31 (.pointer (some ⟨kx, 0, none⟩)) rfl rfl (by kernel_rfl) (by kernel_rfl) (by kernel_rfl) (fun _ _ _ h => h) rfl (fun _ _ => by first | rfl | go_simp) hS ?_
    simp only [Act.put, tA, tB, tC]
    refine h_take 6 32 (.string TX) rfl rfl (by kernel_rfl) (by kernel_rfl) (by kernel_rfl) (fun _ _ _ h => h) rfl (fun w' hw' => by obtain ⟨y0, y1, y2⟩ := hw'; go_simp) hS ?_
    simp only [Act.put, tA, tB, tC]
    refine h_call 4 30 17 #[.pointer (some ⟨kq, 0, none⟩)] rfl rfl (by kernel_rfl) rfl (by go_simp) ?_
    refine (HTX.out V0 _ hb2d hqd).mono ?_
    rintro en w4 ⟨rfl, hb4⟩
    have hb7w4 := hb3d.trans (hb4.mono hb3d.size)
    have hb2w4 := hb2d.trans (hb4.mono hb2d.size)
    have hS := HSV.out _ hb7w4
    refine ⟨_, rfl, hS, ?_⟩
    simp only [Act.put, tA, tB, tC]
    refine h_val 7 33 (w' := w4) (.bool false) rfl rfl (by kernel_rfl) rfl (by go_simp) hS ?_
    simp only [Act.put, tA, tB, tC]
    refine h_val 8 34 (w' := w4) (.bool false) rfl rfl (by kernel_rfl) rfl (by go_simp) hS ?_
    simp only [Act.put, tA, tB, tC]
    refine wpAnyH_done (by kernel_rfl) ?_ _
    have hq4 := hqd.below hb4
    clear hS hb3d hb2d hb4 hqd
    go_wp2_with fail
    refine (HFA.out w4 _ hb2w4 hq4).mono ?_
    rintro e w5 ⟨hE, hb5⟩
    have hb7w5 := hb7w4.trans (hb5.mono hb7w4.size)
    have hb2w5 := hb2w4.trans (hb5.mono hb2w4.size)
    obtain ⟨s0, s1, s2⟩ := HSV.out _ hb7w5
    have hbw5 := hb1.trans (hb2w5.mono hb1.size)
    rcases hE with ⟨hz, rfl⟩ | ⟨hz, v, qs, hF, rfl⟩
    · rcases HLOT.out.is with ⟨_, rfl⟩ | ⟨h, _⟩
      · go_wp2
        go_ret
        exact ⟨rfl, hbw5⟩
      · exact absurd hz h
    · rcases HLOT.out.is with ⟨h, _⟩ | ⟨_, hC, hCn, hf⟩
      · exact absurd h hz
      · obtain ⟨_, rfl⟩ := Fac.same HLOT.out.tr hz hF.fac hf
        rw [← hC]
        have hCq : (C.toList == []) = false := by rw [beq_eq_false_iff_ne]; exact hCn
        have hlq := hF.own.lower (Nat.zero_le _)
        have hlp := HOW.out w5 hb2w5
        have lq := hF.len
        obtain ⟨va, vc, rfl⟩ := hlq.val
        clear hF hf hC HTX HFA HRD
        go_wp2_with fail
        go_loopw [64] (fun k wr => ∃ i : Nat, k = .int .i64 (i : Nat) ∧ i ≤ qs.length ∧ Below w5.heap.size w5 wr) (fun k _ => qs.length - (intOf k).toNat)
        case atStart => exact ⟨0, rfl, by omega, Below.refl _ _⟩
        case round =>
          obtain ⟨i, rfl, hi, hbi⟩ := hrel
          by_cases hlt : i < qs.length
          · obtain ⟨g1, x, hg1, _, _, _, _, y0, y1, hxm⟩ := (hlq.below hbi).at i hlt
            obtain ⟨g2, x', hg2, _, _, _, _, z0, z1, hxm'⟩ := (hlp.below hbi).at i hlt
            obtain rfl : x = x' := Option.some.inj (hxm.symm.trans hxm')
            subst hg1
            subst hg2
            have hii : (i : Int) < (qs.length : Int) := by omega
            have hs2 := (HSV.out _ (hb7w5.trans (hbi.mono hb7w5.size))).2.2
            generalize (ByteArray.mk (ptext x.1).toArray) = TY at *
            generalize x.2 = E at *
            have hbd : Below wr.heap.size wr wr.drew := ⟨rfl, rfl, rfl, Nat.le_refl _, fun _ _ => rfl⟩
            have hbid := hbi.trans (hbd.mono hbi.size)
            go_wp2_with fail
            refine wp_region_held_drew (S := fun V => V.cell? ⟨kx, 2, none⟩ = some (.slice (some ⟨g2, 0, none⟩) qs.length cc) ∧ V.cell? ⟨g1, i * 2, none⟩ = some (.string TY) ∧ V.cell? ⟨g1, i * 2 + 1, none⟩ = some (.int .i64 (E : Nat)) ∧ V.cell? ⟨g2, i * 2, none⟩ = some (.string TY) ∧ V.cell? ⟨g2, i * 2 + 1, none⟩ = some (.int .i64 (E : Nat))) (by kernel_rfl) ⟨hs2, y0, y1, z0, z1⟩ fun hS => ?_
            clear hbd hs2 y0 y1 z0 z1 hxm hxm'
            generalize wr.drew = V0 at *
            refine h_take 0 67 (.slice (some ⟨g1, 0, none⟩) qs.length vc) rfl rfl (by kernel_rfl) (by kernel_rfl) (by kernel_rfl) (fun _ _ _ h => h) rfl (fun _ _ => by first | rfl | go_simp) hS ?_
            simp only [Act.put, tA, tB, tC]
            refine h_take 1 68 (.int .i64 (i : Nat)) rfl rfl (by kernel_rfl) (by kernel_rfl) (by kernel_rfl) (fun _ _ _ h => h) rfl (fun _ _ => by first | rfl | go_simp) hS ?_
            simp only [Act.put, tA, tB, tC]
            refine h_take 2 69 (.pointer (some ⟨g1, i * 2, none⟩)) rfl rfl (by kernel_rfl) (by kernel_rfl) (by kernel_rfl) (fun _ _ _ h => h) rfl (fun _ _ => by first | rfl | go_simp) hS ?_
            simp only [Act.put, tA, tB, tC]
            refine h_take 3 70 (.agg #[.string TY, .int .i64 (E : Nat)]) rfl rfl (by kernel_rfl) (by kernel_rfl) (by kernel_rfl) (fun _ _ _ h => h) rfl (fun w' hw' => by obtain ⟨y0, y1, y2, y3, y4⟩ := hw'; go_simp) hS ?_
            simp only [Act.put, tA, tB, tC]
            refine h_take 4 71 (.pointer (some ⟨kx, 2, none⟩)) rfl rfl (by kernel_rfl) (by kernel_rfl) (by kernel_rfl) (fun _ _ _ h => h) rfl (fun _ _ => by first | rfl | go_simp) hS ?_
            simp only [Act.put, tA, tB, tC]
            refine h_take 5 72 (.slice (some ⟨g2, 0, none⟩) qs.length cc) rfl rfl (by kernel_rfl) (by kernel_rfl) (by kernel_rfl) (fun _ _ _ h => h) rfl (fun w' hw' => by obtain ⟨y0, y1, y2, y3, y4⟩ := hw'; go_simp) hS ?_
            simp only [Act.put, tA, tB, tC]
            refine h_take 6 73 (.int .i64 (i : Nat)) rfl rfl (by kernel_rfl) (by kernel_rfl) (by kernel_rfl) (fun _ _ _ h => h) rfl (fun _ _ => by first | rfl | go_simp) hS ?_
            simp only [Act.put, tA, tB, tC]
            refine h_take 7 74 (.pointer (some ⟨g2, i * 2, none⟩)) rfl rfl (by kernel_rfl) (by kernel_rfl) (by kernel_rfl) (fun _ _ _ h => h) rfl (fun _ _ => by first | rfl | go_simp) hS ?_
            simp only [Act.put, tA, tB, tC]
            refine h_take 8 75 (.agg #[.string TY, .int .i64 (E : Nat)]) rfl rfl (by kernel_rfl) (by kernel_rfl) (by kernel_rfl) (fun _ _ _ h => h) rfl (fun w' hw' => by obtain ⟨y0, y1, y2, y3, y4⟩ := hw'; go_simp) hS ?_
            simp only [Act.put, tA, tB, tC]
            refine h_take 9 76 (.bool false) rfl rfl (by kernel_rfl) (by kernel_rfl) (by kernel_rfl) (fun _ _ _ h => h) rfl (fun _ _ => by go_simp) hS ?_
            simp only [Act.put, tA, tB, tC]
            refine wpAnyH_done (by kernel_rfl) ?_ _
            go_wp2
            go_roundw
            case rel => exact ⟨i + 1, by go_num, by omega, hbid⟩
            case measure => simp [intOf]; omega
          · obtain rfl : i = qs.length := by omega
            go_wp2
            go_ret
            exact ⟨rfl, hbw5.trans (hbi.mono hbw5.size)⟩
  · exact absurd rfl hne

set_option maxHeartbeats 1000000 in
theorem Known_any (c : Int) (w : World) (ht : Tab w) (h1 : -9223372036854775808 ≤ c) (h2 : c ≤ 9223372036854775807) :
    Calls Tryz.prog 8 #[.int .i64 c] w fun e w' => e = .returned (.bool true) ∧ Below w.heap.size w w' := by
  go_enter Tryz.func8, Tryz.ntmps8
  go_wp2_with fail
  refine (known_any c w h1 h2 ht).mono ?_
  rintro e w1 ⟨rfl, hb1⟩
  go_wp2
  go_ret
  exact ⟨rfl, hb1⟩

end Go.Proofs.YtldcjkhbiffdoabGreatDoor
