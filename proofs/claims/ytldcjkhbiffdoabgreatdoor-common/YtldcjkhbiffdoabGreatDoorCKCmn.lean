import Derived.Test.YtldcjkhbiffdoabGreatDoorM36
import Derived.Test.YtldcjkhbiffdoabGreatDoorM30
import Derived.Test.YtldcjkhbiffdoabGreatDoorM25
import Derived.Test.YtldcjkhbiffdoabGreatDoorM08

set_option linter.unusedSimpArgs false
namespace Go.Proofs.YtldcjkhbiffdoabGreatDoor
open Go.RowKit

theorem pow_len {p : List Int} (hp : Tr p) (h2 : 2 ≤ p.length) : ∀ (n : Nat) {zs : List Int} {s : Int → Int}, Tr zs → zs ≠ [] → Po s → (∀ t, ev t zs = ev t p ^ n * s t) → n + 1 ≤ zs.length
  | 0, zs, s, tz, hne, hs, e => by have := List.length_pos_iff.2 hne; omega
  | n + 1, zs, s, tz, hne, hs, e => by
    obtain ⟨W, tW, hW⟩ := (((Po.ev p).pow n).mul hs).list
    have hpn : p ≠ [] := fun h => by rw [h] at h2; simp at h2
    have e1 : ∀ t, ev t zs = ev t p * ev t W := fun t => by rw [e, ← hW, Int.pow_succ, Int.mul_comm (ev t p ^ n), Int.mul_assoc]
    have hWn : W ≠ [] := fun h => hne (tz.zero fun t => by rw [e1, h]; simp [ev])
    have h3 := (mul_len tz hp tW hpn hWn e1).2.1
    have h4 := pow_len hp h2 n tW hWn hs (fun t => (hW t).symm)
    omega

theorem Fac.exp {zs : List Int} {c : Int} {ps : List (List Int × Nat)} (h : Fac zs c ps) (tz : Tr zs) (hne : zs ≠ []) {x : List Int × Nat} (hx : x ∈ ps) : x.2 + 1 ≤ zs.length := by
  obtain ⟨h1, h2, h3⟩ := h.each x hx
  have hl := h2.len h1
  have ho : x.2 ≤ oft ps x.1 := oft_mem hx
  obtain ⟨d, hd⟩ : ∃ d, oft ps x.1 = x.2 + d := ⟨oft ps x.1 - x.2, by omega⟩
  refine pow_len h1.tr hl x.2 tz hne ((((Po.ev x.1).pow d).mul (pE_po (rst ps x.1))).scal c) fun t => ?_
  rw [h.eq, pE_oft x.1 t ps, hd, Int.pow_add]
  simp only [rA, rB, rC, rD, rE, rF, rG, rH, rI, rJ, rK]

theorem FacV.ok {w' : World} {B : Nat} {zs : List Int} {ps : List (List Int × Nat)} {v : Value} (h : FacV w' B zs ps v) (tz : Tr zs) (hne : zs ≠ []) (hl : zs.length ≤ 11) : PtOK ps :=
  ⟨h.len, fun x hx => ⟨(h.fac.each x hx).1.tr, (h.bd x hx).1, by have := h.fac.exp tz hne hx; omega⟩⟩

theorem ptext_zero {zs : List Int} (tz : Tr zs) (hl : zs.length ≤ 11) : ptext zs = [48] ↔ zs = [] :=
  ⟨fun h => ptext_inj tz Tr.nil hl (by simp) h, fun h => by rw [h]; rfl⟩

theorem str_nq {a : List UInt8} (h : a ≠ [48]) : ((ByteArray.mk a.toArray).toList == [48]) = false := by
  rw [ByteArray.toList_eq, beq_eq_false_iff_ne]
  exact h

theorem str_ne {a : List UInt8} (h : a ≠ [48]) : ¬ (ByteArray.mk a.toArray).toList = [48] := by
  rw [ByteArray.toList_eq]
  exact h

set_option maxRecDepth 100000 in
set_option maxHeartbeats 8000000 in
theorem common_any (xs ys : List Int) (p q : Value) (w : World) (hp : IsP w p xs) (hq : IsP w q ys) (hx : inB xs = true) (hy : inB ys = true) (tx : Tr xs) (ty : Tr ys) (ht : Tab w) :
    Calls Tryz.prog 12 #[p, q] w fun e w' => e = .returned (.bool true) ∧ Below w.heap.size w w' := by
  have lx := inB_len hx
  have ly := inB_len hy
  have hTa := polyText_any xs p w hp hx ht
  have HTb : Hid _ := fun (W : World) (h : Below w.heap.size w W) => polyText_any ys q W (hq.below h) hy (ht.below h)
  obtain ⟨kp, vp, rfl, _⟩ := id hp
  obtain ⟨kq, vq, rfl, _⟩ := id hq
  by_cases hx0 : xs = []
  · have e0 : ptext xs = [48] := (ptext_zero tx lx).2 hx0
    rw [e0] at hTa
    go_enter Tryz.func12, Tryz.ntmps12
    go_wp2_with fail
    refine hTa.mono ?_
    rintro e w1 ⟨rfl, hb1⟩
    go_wp2
    go_ret
    exact ⟨rfl, hb1⟩
  have hxn : ¬ (ByteArray.mk (ptext xs).toArray).toList = [48] := str_ne fun e => hx0 ((ptext_zero tx lx).1 e)
  have hxq := str_nq (a := ptext xs) fun e => hx0 ((ptext_zero tx lx).1 e)
  by_cases hy0 : ys = []
  · have e0 : ptext ys = [48] := (ptext_zero ty ly).2 hy0
    rw [e0] at HTb
    generalize (ByteArray.mk (ptext xs).toArray) = TX at *
    go_enter Tryz.func12, Tryz.ntmps12
    go_wp2_with fail
    refine hTa.mono ?_
    rintro e w1 ⟨rfl, hb1⟩
    go_wp2_with fail
    refine (HTb.out w1 hb1).mono ?_
    rintro e w2 ⟨rfl, hb2⟩
    go_wp2
    go_ret
    exact ⟨rfl, hb1.trans (hb2.mono hb1.size)⟩
  have hyn : ¬ (ByteArray.mk (ptext ys).toArray).toList = [48] := str_ne fun e => hy0 ((ptext_zero ty ly).1 e)
  have hyq := str_nq (a := ptext ys) fun e => hy0 ((ptext_zero ty ly).1 e)
  have HG : Hid _ := fun (W : World) (h : Below w.heap.size w W) => gcdP_any xs ys _ _ W (hp.below h) (hq.below h) hx hy tx ty (ht.below h)
  obtain ⟨G, HGe⟩ : ∃ G, Hid (G = fgcd xs ys) := ⟨_, rfl⟩
  have tG : Tr G := by rw [HGe.out]; exact tr_tz _
  have nG : G ≠ [] := by rw [HGe.out]; exact fgcd_ne tx ty hx0
  rw [← HGe.out] at HG
  have HFG : Hid (∀ (W : World) (g : Value), Below w.heap.size w W → inB G = true → IsP W g G → Calls Tryz.prog 18 #[g] W fun e w' => (∃ v ps s, FacV w' W.heap.size G ps v ∧ PtOK ps ∧ e = .returned (.tuple #[.string s, v, .int .i64 0])) ∧ Below W.heap.size W w') := fun W g h hi hg => (factorP_any G g W hg hi tG (ht.below h)).mono fun e w' hE => by
    obtain ⟨h1 | ⟨_, v, ps, h2, h3⟩, h4⟩ := hE
    · exact absurd h1.1 nG
    · exact ⟨⟨v, ps, _, h2, h2.ok tG nG (inB_len hi), h3⟩, h4⟩
  have HFA : Hid (∀ (W : World), Below w.heap.size w W → Calls Tryz.prog 18 #[.pointer (some ⟨kp, 0, none⟩)] W fun e w' => (∃ v ps s, FacV w' W.heap.size xs ps v ∧ PtOK ps ∧ e = .returned (.tuple #[.string s, v, .int .i64 0])) ∧ Below W.heap.size W w') := fun W h => (factorP_any xs _ W (hp.below h) hx tx (ht.below h)).mono fun e w' hE => by
    obtain ⟨h1 | ⟨_, v, ps, h2, h3⟩, h4⟩ := hE
    · exact absurd h1.1 hx0
    · exact ⟨⟨v, ps, _, h2, h2.ok tx hx0 lx, h3⟩, h4⟩
  have HFB : Hid (∀ (W : World), Below w.heap.size w W → Calls Tryz.prog 18 #[.pointer (some ⟨kq, 0, none⟩)] W fun e w' => (∃ v ps s, FacV w' W.heap.size ys ps v ∧ PtOK ps ∧ e = .returned (.tuple #[.string s, v, .int .i64 0])) ∧ Below W.heap.size W w') := fun W h => (factorP_any ys _ W (hq.below h) hy ty (ht.below h)).mono fun e w' hE => by
    obtain ⟨h1 | ⟨_, v, ps, h2, h3⟩, h4⟩ := hE
    · exact absurd h1.1 hy0
    · exact ⟨⟨v, ps, _, h2, h2.ok ty hy0 ly, h3⟩, h4⟩
  have HDA : Hid (∀ (W : World) (g : Value), Below w.heap.size w W → inB G = true → IsP W g G → Calls Tryz.prog 25 #[.pointer (some ⟨kp, 0, none⟩), g] W fun e w' => ∃ r er, e = .returned (.tuple #[r, .int .i64 er]) ∧ (er = 0 ∨ er = 3) ∧ Below W.heap.size W w') := fun W g h hi hg => (divideP_any xs G _ g W (hp.below h) hg hx hi tx (ht.below h)).mono fun e w' hE => by
    obtain ⟨r, er, h1, h2, h3⟩ := hE
    refine ⟨r, er, h1, ?_, h3⟩
    rcases h2 with ⟨h4, _⟩ | ⟨_, h4, _⟩ | ⟨_, Q, h4, h5⟩
    · exact absurd h4 nG
    · obtain ⟨s, hs, he⟩ := fgcd_left tx ty hx0 (b := ys)
      rw [← HGe.out] at he
      obtain ⟨Q, hQ⟩ := dvs_of tx tG nG hs he
      rw [hQ] at h4; cases h4
    · rcases h5 with ⟨_, h6, _⟩ | ⟨_, h6, _⟩
      · exact .inl h6
      · exact .inr h6
  have HDB : Hid (∀ (W : World) (g : Value), Below w.heap.size w W → inB G = true → IsP W g G → Calls Tryz.prog 25 #[.pointer (some ⟨kq, 0, none⟩), g] W fun e w' => ∃ r er, e = .returned (.tuple #[r, .int .i64 er]) ∧ (er = 0 ∨ er = 3) ∧ Below W.heap.size W w') := fun W g h hi hg => (divideP_any ys G _ g W (hq.below h) hg hy hi ty (ht.below h)).mono fun e w' hE => by
    obtain ⟨r, er, h1, h2, h3⟩ := hE
    refine ⟨r, er, h1, ?_, h3⟩
    rcases h2 with ⟨h4, _⟩ | ⟨_, h4, _⟩ | ⟨_, Q, h4, h5⟩
    · exact absurd h4 nG
    · obtain ⟨s, hs, he⟩ := fgcd_right tx ty hx0
      rw [← HGe.out] at he
      obtain ⟨Q, hQ⟩ := dvs_of ty tG nG hs he
      rw [hQ] at h4; cases h4
    · rcases h5 with ⟨_, h6, _⟩ | ⟨_, h6, _⟩
      · exact .inl h6
      · exact .inr h6
  have HMIN : Hid (∀ (pa pb pg : List (List Int × Nat)), Fac xs (scont xs) pa → Fac ys (scont ys) pb → Fac G (scont G) pg → PtOK pa → PtOK pb → PtOK pg → (∀ x, x ∈ pg → x.2 = min (oftT pa (ptext x.1)) (oftT pb (ptext x.1))) ∧ ∀ x, x ∈ pa → 0 < oftT pb (ptext x.1) → 0 < oftT pg (ptext x.1)) := fun pa pb pg fa fb fg oa ob og => by
    rw [HGe.out] at fg
    refine ⟨fun x hx => ?_, fun x hx h0 => ?_⟩
    · obtain ⟨h1, h2, h3⟩ := fg.each x hx
      have h4 := og.2 x hx
      rw [oftT_eq h4.1 h4.2.1 oa.2, oftT_eq h4.1 h4.2.1 ob.2, ← oft_gcd tx ty hx0 hy0 fa fb fg h1 h2, oft_asc fg.asc hx]
    · obtain ⟨h1, h2, h3⟩ := fa.each x hx
      have h4 := oa.2 x hx
      rw [oftT_eq h4.1 h4.2.1 ob.2] at h0
      rw [oftT_eq h4.1 h4.2.1 og.2, oft_gcd tx ty hx0 hy0 fa fb fg h1 h2]
      have := oft_mem hx
      omega
  clear HGe tG nG tx ty hp hq hx hy
  generalize (ByteArray.mk (ptext xs).toArray) = TX at *
  generalize (ByteArray.mk (ptext ys).toArray) = TY at *
  go_enter Tryz.func12, Tryz.ntmps12
  go_wp2_with fail
  refine hTa.mono ?_
  rintro e w1 ⟨rfl, hb1⟩
  go_wp2_with fail
  refine (HTb.out w1 hb1).mono ?_
  rintro e w2 ⟨rfl, hb2⟩
  have hbw2 := hb1.trans (hb2.mono hb1.size)
  clear hb1 hb2
  go_wp2_with fail
  refine (HG.out w2 hbw2).mono ?_
  rintro e w3 ⟨g, er, rfl, hBV, hb3⟩
  have hbw3 := hbw2.trans (hb3.mono hbw2.size)
  clear hb3
  rcases hBV with ⟨hi, rfl, hg⟩ | ⟨_, rfl, rfl⟩
  · have hi0 : Hid _ := hi
    obtain ⟨kg, vg, rfl, _⟩ := id hg
    go_wp2_with fail
    refine (HFG.out w3 _ hbw3 hi hg).mono ?_
    rintro e w4 ⟨⟨vG, pg, sg, hFg, hOg, rfl⟩, hb4⟩
    have hbw4 := hbw3.trans (hb4.mono hbw3.size)
    have hg4 := hg.below hb4
    go_wp2_with fail
    refine (HFA.out w4 hbw4).mono ?_
    rintro e w5 ⟨⟨vA, pa, sa, hFa, hOa, rfl⟩, hb5⟩
    have hbw5 := hbw4.trans (hb5.mono hbw4.size)
    have hg5 := hg4.below hb5
    go_wp2_with fail
    refine (HFB.out w5 hbw5).mono ?_
    rintro e w6 ⟨⟨vB, pb, sb, hFb, hOb, rfl⟩, hb6⟩
    have hbw6 := hbw5.trans (hb6.mono hbw5.size)
    have hg6 := hg5.below hb6
    obtain ⟨hm1, hm2⟩ := HMIN.out pa pb pg hFa.fac hFb.fac hFg.fac hOa hOb hOg
    have HM1 : Hid _ := hm1
    have HM2 : Hid _ := hm2
    have hlg := hFg.own.lower (Nat.zero_le _) |>.below hb5 |>.below hb6
    have hla := hFa.own.lower (Nat.zero_le _) |>.below hb6
    have hlb := hFb.own.lower (Nat.zero_le _)
    have lg := hOg.1
    have la := hOa.1
    have lb := hOb.1
    have HOa : Hid _ := hOa
    have HOb : Hid _ := hOb
    have HOg : Hid _ := hOg
    clear hm1 hm2 hFg hFa hFb hOa hOb hOg HMIN HFG HFA HFB HG hTa HTb hb4 hb5 hb6 hg hg4 hg5 hbw2 hbw3 hbw4 hbw5
    obtain ⟨ag, cg, rfl⟩ := hlg.val
    obtain ⟨aa, ca, rfl⟩ := hla.val
    obtain ⟨ab, cb, rfl⟩ := hlb.val
    go_wp2_with fail
    go_loopw [64] (fun k wr => ∃ i : Nat, k = .int .i64 (i : Nat) ∧ i ≤ pg.length ∧ Below w6.heap.size w6 wr) (fun k _ => pg.length - (intOf k).toNat)
    case atStart => exact ⟨0, rfl, by omega, Below.refl _ _⟩
    case round =>
      obtain ⟨i, rfl, hi, hbel⟩ := hrel
      by_cases hlt : i < pg.length
      · obtain ⟨gg, x, rfl, hc1, hc2, hgg, _, q1, q2, hxm⟩ := (hlg.below hbel).at i hlt
        have HMN : Hid (x.2 = min (oftT pa (ptext x.1)) (oftT pb (ptext x.1))) := HM1.out x (List.mem_of_getElem? hxm)
        have hii : (i : Int) < (pg.length : Int) := by omega
        have la1 := oftT_le (ptext x.1) HOa.out.2
        have lb1 := oftT_le (ptext x.1) HOb.out.2
        have HA : Hid _ := fun (V : World) (h : Below w6.heap.size w6 V) => often_any pa ⟨(ptext x.1).toArray⟩ _ V (hla.below h) HOa.out
        have HB : Hid _ := fun (V : World) (h : Below w6.heap.size w6 V) => often_any pb ⟨(ptext x.1).toArray⟩ _ V (hlb.below h) HOb.out
        have e1 : (ByteArray.mk (ptext x.1).toArray).data.toList = ptext x.1 := rfl
        rw [e1] at HA HB
        clear e1
        generalize oftT pa (ptext x.1) = na at *
        generalize oftT pb (ptext x.1) = nb at *
        generalize (ByteArray.mk (ptext x.1).toArray) = TB at *
        generalize x.2 = E at *
        clear hxm
        go_wp2_with fail
        obtain ⟨W7, HW7⟩ : ∃ W7, Hid (wr.alloc (Obj.cells #[Value.string TB, Value.int IntKind.i64 (E : Nat)] 40) = W7) := ⟨_, rfl⟩
        have hb7 : Below wr.heap.size wr W7 := by rw [← HW7.out]; exact (Below.refl _ _).alloc (Nat.le_refl _) _
        have hcS : W7.cell? ⟨wr.heap.size, 0, none⟩ = some (.string TB) ∧ W7.cell? ⟨wr.heap.size, 1, none⟩ = some (.int .i64 (E : Nat)) := by
          have hh : W7.heap[wr.heap.size]? = some (.cells #[Value.string TB, Value.int IntKind.i64 (E : Nat)] 40 (0, 0)) := by rw [← HW7.out]; exact heap_alloc_new wr _
          constructor <;> simp [World.cell?, hh]
        have hk7 : wr.heap.size < W7.heap.size := by rw [← HW7.out]; simp
        rw [HW7.out]
        have hbd : Below W7.heap.size W7 W7.drew := ⟨rfl, rfl, rfl, Nat.le_refl _, fun _ _ => rfl⟩
        have hSV : ∀ V, Below W7.heap.size W7 V → V.cell? ⟨wr.heap.size, 0, none⟩ = some (.string TB) ∧ V.cell? ⟨wr.heap.size, 1, none⟩ = some (.int .i64 (E : Nat)) := fun V h => ⟨(h.cell (p := ⟨wr.heap.size, 0, none⟩) hk7).trans hcS.1, (h.cell (p := ⟨wr.heap.size, 1, none⟩) hk7).trans hcS.2⟩
        have hbel7 := hbel.trans (hb7.mono hbel.size)
        clear HW7 hb7 hcS
        generalize wr.heap.size = kx at *
        refine wp_region_held_drew (S := fun V => V.cell? ⟨kx, 0, none⟩ = some (.string TB) ∧ V.cell? ⟨kx, 1, none⟩ = some (.int .i64 (E : Nat))) (by kernel_rfl) (hSV _ hbd) fun hS => ?_
        have hbelV := hbel7.trans (hbd.mono hbel7.size)
        generalize W7.drew = V0 at *
        refine h_take 0 68 (.pointer (some ⟨kx, 1, none⟩)) rfl rfl (by kernel_rfl) (by kernel_rfl) (by kernel_rfl) (fun _ _ _ h => h) rfl (fun _ _ => by first | rfl | go_simp) hS ?_
        simp only [Act.put, tA, tB, tC]
        refine h_take 1 69 (.int .i64 (E : Nat)) rfl rfl (by kernel_rfl) (by kernel_rfl) (by kernel_rfl) (fun _ _ _ h => h) rfl (fun w' hw' => by obtain ⟨y0, y1⟩ := hw'; go_simp) hS ?_
        simp only [Act.put, tA, tB, tC]
        refine h_take 2 70 (.slice aa pa.length ca) rfl rfl (by kernel_rfl) (by kernel_rfl) (by kernel_rfl) (fun _ _ _ h => h) rfl (fun _ _ => by first | rfl | go_simp) hS ?_
        simp only [Act.put, tA, tB, tC]
        refine h_take 3 71 (.pointer (some ⟨kx, 0, none⟩)) rfl rfl (by kernel_rfl) (by kernel_rfl) (by kernel_rfl) (fun _ _ _ h => h) rfl (fun _ _ => by first | rfl | go_simp) hS ?_
        simp only [Act.put, tA, tB, tC]
        refine h_take 4 72 (.string TB) rfl rfl (by kernel_rfl) (by kernel_rfl) (by kernel_rfl) (fun _ _ _ h => h) rfl (fun w' hw' => by obtain ⟨y0, y1⟩ := hw'; go_simp) hS ?_
        simp only [Act.put, tA, tB, tC]
        refine h_take 6 74 (.slice ab pb.length cb) rfl rfl (by kernel_rfl) (by kernel_rfl) (by kernel_rfl) (fun _ _ _ h => h) rfl (fun _ _ => by first | rfl | go_simp) hS ?_
        simp only [Act.put, tA, tB, tC]
        refine h_take 7 75 (.pointer (some ⟨kx, 0, none⟩)) rfl rfl (by kernel_rfl) (by kernel_rfl) (by kernel_rfl) (fun _ _ _ h => h) rfl (fun _ _ => by first | rfl | go_simp) hS ?_
        simp only [Act.put, tA, tB, tC]
        refine h_take 8 76 (.string TB) rfl rfl (by kernel_rfl) (by kernel_rfl) (by kernel_rfl) (fun _ _ _ h => h) rfl (fun w' hw' => by obtain ⟨y0, y1⟩ := hw'; go_simp) hS ?_
        simp only [Act.put, tA, tB, tC]
        refine h_call 5 73 28 #[.slice aa pa.length ca, .string TB] rfl rfl (by kernel_rfl) rfl (by go_simp) ?_
        refine (HA.out V0 hbelV).mono ?_
        rintro en w8 ⟨rfl, hb8⟩
        have hbd8 := hbd.trans (hb8.mono hbd.size)
        have hbel8 := hbelV.trans (hb8.mono hbelV.size)
        have hS := hSV _ hbd8
        refine ⟨_, rfl, hS, ?_⟩
        simp only [Act.put, tA, tB, tC]
        refine h_call 9 77 28 #[.slice ab pb.length cb, .string TB] rfl rfl (by kernel_rfl) rfl (by go_simp) ?_
        refine (HB.out w8 hbel8).mono ?_
        rintro en w9 ⟨rfl, hb9⟩
        have hbd9 := hbd8.trans (hb9.mono hbd8.size)
        have hbel9 := hbel8.trans (hb9.mono hbel8.size)
        have hS := hSV _ hbd9
        refine ⟨_, rfl, hS, ?_⟩
        simp only [Act.put, tA, tB, tC]
        refine h_val 10 78 (w' := w9) (.int .i64 (E : Nat)) rfl rfl (by kernel_rfl) rfl (by
          rw [HMN.out]
          go_simp
          omega) hS ?_
        simp only [Act.put, tA, tB, tC]
        refine h_take 11 79 (.bool false) rfl rfl (by kernel_rfl) (by kernel_rfl) (by kernel_rfl) (fun _ _ _ h => h) rfl (fun _ _ => by first | rfl | go_simp) hS ?_
        simp only [Act.put, tA, tB, tC]
        refine wpAnyH_done (by kernel_rfl) ?_ _
        go_wp2
        go_roundw
        case rel => exact ⟨i + 1, by go_num, by omega, hbel9⟩
        case measure => simp [intOf]; omega
      · obtain rfl : i = pg.length := by omega
        go_wp2_with fail
        go_loopw [83] (fun k wr => ∃ i : Nat, k = .int .i64 (i : Nat) ∧ i ≤ pa.length ∧ Below w6.heap.size w6 wr) (fun k _ => pa.length - (intOf k).toNat)
        case atStart => exact ⟨0, rfl, by omega, hbel⟩
        case round =>
          clear hbel
          obtain ⟨i, rfl, hi, hbel⟩ := hrel
          by_cases hlt : i < pa.length
          · obtain ⟨gg, x, rfl, hc1, hc2, hgg, _, q1, q2, hxm⟩ := (hla.below hbel).at i hlt
            have HMN : Hid (0 < oftT pb (ptext x.1) → 0 < oftT pg (ptext x.1)) := HM2.out x (List.mem_of_getElem? hxm)
            have hii : (i : Int) < (pa.length : Int) := by omega
            have lg1 := oftT_le (ptext x.1) HOg.out.2
            have lb1 := oftT_le (ptext x.1) HOb.out.2
            have HA : Hid _ := fun (V : World) (h : Below w6.heap.size w6 V) => often_any pg ⟨(ptext x.1).toArray⟩ _ V (hlg.below h) HOg.out
            have HB : Hid _ := fun (V : World) (h : Below w6.heap.size w6 V) => often_any pb ⟨(ptext x.1).toArray⟩ _ V (hlb.below h) HOb.out
            have e1 : (ByteArray.mk (ptext x.1).toArray).data.toList = ptext x.1 := rfl
            rw [e1] at HA HB
            clear e1
            generalize oftT pg (ptext x.1) = ng at *
            generalize oftT pb (ptext x.1) = nb at *
            generalize (ByteArray.mk (ptext x.1).toArray) = TB at *
            generalize x.2 = E at *
            clear hxm
            go_wp2_with fail
            obtain ⟨W7, HW7⟩ : ∃ W7, Hid (wr.alloc (Obj.cells #[Value.string TB, Value.int IntKind.i64 (E : Nat)] 40) = W7) := ⟨_, rfl⟩
            have hh : W7.heap[wr.heap.size]? = some (.cells #[Value.string TB, Value.int IntKind.i64 (E : Nat)] 40 (0, 0)) := by rw [← HW7.out]; exact heap_alloc_new wr _
            have hb7 : Below wr.heap.size wr W7 := by rw [← HW7.out]; exact (Below.refl _ _).alloc (Nat.le_refl _) _
            have hk7 : wr.heap.size < W7.heap.size := by rw [← HW7.out]; simp
            rw [HW7.out]
            have hbel7 := hbel.trans (hb7.mono hbel.size)
            have hc7 : W7.cell? ⟨wr.heap.size, 0, none⟩ = some (.string TB) := by simp [World.cell?, hh]
            clear HW7 hb7 hh
            generalize wr.heap.size = kx at *
            refine (HB.out W7 hbel7).mono ?_
            rintro en w8 ⟨rfl, hb8⟩
            have hbel8 := hbel7.trans (hb8.mono hbel7.size)
            have hc8 := (hb8.cell (p := ⟨kx, 0, none⟩) hk7).trans hc7
            by_cases hnb : 0 < nb
            · have hng := HMN.out hnb
              have hnb' : (0 : Int) < (nb : Int) := by omega
              have hng' : ¬ (ng : Int) = 0 := by omega
              go_wp2_with fail
              refine (HA.out w8 hbel8).mono ?_
              rintro en w9 ⟨rfl, hb9⟩
              have hbel9 := hbel8.trans (hb9.mono hbel8.size)
              go_wp2
              go_roundw
              case rel => exact ⟨i + 1, by go_num, by omega, hbel9⟩
              case measure => simp [intOf]; omega
            · have hnb' : ¬ (0 : Int) < (nb : Int) := by omega
              go_wp2
              go_roundw
              case rel => exact ⟨i + 1, by go_num, by omega, hbel8⟩
              case measure => simp [intOf]; omega
          · obtain rfl : i = pa.length := by omega
            have hbwr := hbw6.trans (hbel.mono hbw6.size)
            have hgr := hg6.below hbel
            have hD1 := HDA.out wr _ hbwr hi0.out hgr
            have HD2 : Hid _ := fun (V : World) (h : Below wr.heap.size wr V) => HDB.out V _ (hbwr.trans (h.mono hbwr.size)) hi0.out (hgr.below h)
            go_wp2_with fail
            refine hD1.mono ?_
            rintro en w8 ⟨r1, er1, rfl, her1, hb8⟩
            go_wp2_with fail
            refine (HD2.out w8 hb8).mono ?_
            rintro en w9 ⟨r2, er2, rfl, her2, hb9⟩
            have hb9w := hb8.trans (hb9.mono hb8.size)
            have hbw9 := hbwr.trans (hb9w.mono hbwr.size)
            rcases her1 with rfl | rfl <;> rcases her2 with rfl | rfl
            all_goals
              go_wp2
              go_ret
              exact ⟨rfl, hbw9⟩
  · go_wp2
    go_ret
    exact ⟨rfl, hbw3⟩

end Go.Proofs.YtldcjkhbiffdoabGreatDoor
