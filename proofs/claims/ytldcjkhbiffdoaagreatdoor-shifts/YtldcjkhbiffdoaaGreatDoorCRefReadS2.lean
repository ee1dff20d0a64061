import Derived.Test.YtldcjkhbiffdoaaGreatDoorM36

/-
  factorref.Read: a round from the state 2. (Written by wip/gen_split.py.)
-/
namespace Go.Proofs.YtldcjkhbiffdoaaGreatDoor
open Go.RowKit

set_option maxRecDepth 100000 in
set_option maxHeartbeats 40000000 in
theorem roundR2 (s : ByteArray) (w wr : World) (R : Nat ⊕ List (Int × Nat)) (ws : List Wd) (km B2 k : Nat) (wa la : Option Addr) (wc lc : Nat) (ms : List (Int × Nat)) (c : Int) (e : Nat) (neg : Bool) (x1 x9 x13 x14 x15 x16 x17 x18 x144 x145 x146 x147 x148 : Value) (u2 u3 u4 u10 u11 u12 u22 u23 u24 u25 u26 u27 u28 u29 u30 u31 u32 u33 u34 u35 u36 u37 u38 u39 u40 u41 u42 u43 u44 u45 u46 u47 u48 u49 u50 u51 u52 u53 u54 u55 u56 u57 u58 u59 u60 u61 u62 u63 u64 u65 u66 u67 u68 u69 u70 u71 u72 u73 u74 u75 u76 u77 u78 u79 u80 u81 u82 u83 u84 u85 u86 u87 u88 u89 u90 u91 u92 u93 u94 u95 u96 u97 u98 u99 u100 u101 u102 u103 u104 u105 u106 u107 u108 u109 u110 u111 u112 u113 u114 u115 u116 u117 u118 u119 u120 u121 u122 u123 u124 u125 u126 u127 u128 u129 u130 u131 u132 u133 u134 u135 u136 u137 u138 u139 u140 u141 u142 u143 : Value)
    (hlong : ¬ 200 < s.size) (hwl : ws.length ≤ s.size + 1) (HWOK : Hid (∀ p, p ∈ ws → WdOk s.size p)) (hkm : w.heap.size ≤ km) (_hkB : km < B2) (hlt : k < ws.length) (hmsl : ms.length ≤ k)
    (hRd : Rdg B2 km (.slice wa ws.length wc) (.slice la ms.length lc) ws wr ⟨ms, c, e, neg, 2⟩) (HE : Hid (rrun s.size (ws.drop k) ⟨ms, c, e, neg, 2⟩ = R)) (hbel : Below w.heap.size w wr) (Q : Exit → Act → World → Prop)
    (hnext : ∀ {u2 u3 u4 u5 u7 u8 u10 u11 u12 u21 u22 u23 u24 u25 u26 u27 u28 u29 u30 u31 u32 u33 u34 u35 u36 u37 u38 u39 u40 u41 u42 u43 u44 u45 u46 u47 u48 u49 u50 u51 u52 u53 u54 u55 u56 u57 u58 u59 u60 u61 u62 u63 u64 u65 u66 u67 u68 u69 u70 u71 u72 u73 u74 u75 u76 u77 u78 u79 u80 u81 u82 u83 u84 u85 u86 u87 u88 u89 u90 u91 u92 u93 u94 u95 u96 u97 u98 u99 u100 u101 u102 u103 u104 u105 u106 u107 u108 u109 u110 u111 u112 u113 u114 u115 u116 u117 u118 u119 u120 u121 u122 u123 u124 u125 u126 u127 u128 u129 u130 u131 u132 u133 u134 u135 u136 u137 u138 u139 u140 u141 u142 u143 : Value} {w' : World}, (∃ (k' : Nat) (S : St), k' ≤ ws.length ∧ u21 = .int .i64 k' ∧ u7 = .bool S.neg ∧ u8 = .int .i64 (S.st : Int) ∧ S.st ≤ 6 ∧ S.ms.length ≤ k' ∧ Rdg B2 km (.slice wa ws.length wc) u5 ws w' S ∧ Hid (rrun s.size (ws.drop k') S = R) ∧ Below w.heap.size w w') → ws.length - (intOf u21).toNat < ws.length - k → Q .normal ⟨#[.string s, x1, u2, u3, u4, u5, .pointer (some ⟨km, 0, none⟩), u7, u8, x9, u10, u11, u12, x13, x14, x15, x16, x17, x18, .slice wa ws.length wc, .int .i64 (ws.length : Int), u21, u22, u23, u24, u25, u26, u27, u28, u29, u30, u31, u32, u33, u34, u35, u36, u37, u38, u39, u40, u41, u42, u43, u44, u45, u46, u47, u48, u49, u50, u51, u52, u53, u54, u55, u56, u57, u58, u59, u60, u61, u62, u63, u64, u65, u66, u67, u68, u69, u70, u71, u72, u73, u74, u75, u76, u77, u78, u79, u80, u81, u82, u83, u84, u85, u86, u87, u88, u89, u90, u91, u92, u93, u94, u95, u96, u97, u98, u99, u100, u101, u102, u103, u104, u105, u106, u107, u108, u109, u110, u111, u112, u113, u114, u115, u116, u117, u118, u119, u120, u121, u122, u123, u124, u125, u126, u127, u128, u129, u130, u131, u132, u133, u134, u135, u136, u137, u138, u139, u140, u141, u142, u143, x144, x145, x146, x147, x148], []⟩ w')
    (hret : ∀ {u5 u7 u8 u10 u11 u12 u21 u22 u23 u24 u25 u26 u27 u28 u29 u30 u31 u32 u33 u34 u35 u36 u37 u38 u39 u40 u41 u42 u43 u44 u45 u46 u47 u48 u49 u50 u51 u52 u53 u54 u55 u56 u57 u58 u59 u60 u61 u62 u63 u64 u65 u66 u67 u68 u69 u70 u71 u72 u73 u74 u75 u76 u77 u78 u79 u80 u81 u82 u83 u84 u85 u86 u87 u88 u89 u90 u91 u92 u93 u94 u95 u96 u97 u98 u99 u100 u101 u102 u103 u104 u105 u106 u107 u108 u109 u110 u111 u112 u113 u114 u115 u116 u117 u118 u119 u120 u121 u122 u123 u124 u125 u126 u127 u128 u129 u130 u131 u132 u133 u134 u135 u136 u137 u138 u139 u140 u141 u142 u143 : Value} {w' : World} {p : Nat}, R = .inl p → Below w.heap.size w w' → Q .ret ⟨#[.string s, x1, .slice none 0 0, .int .i64 2, .int .i64 (p : Int), u5, .pointer (some ⟨km, 0, none⟩), u7, u8, x9, u10, u11, u12, x13, x14, x15, x16, x17, x18, .slice wa ws.length wc, .int .i64 (ws.length : Int), u21, u22, u23, u24, u25, u26, u27, u28, u29, u30, u31, u32, u33, u34, u35, u36, u37, u38, u39, u40, u41, u42, u43, u44, u45, u46, u47, u48, u49, u50, u51, u52, u53, u54, u55, u56, u57, u58, u59, u60, u61, u62, u63, u64, u65, u66, u67, u68, u69, u70, u71, u72, u73, u74, u75, u76, u77, u78, u79, u80, u81, u82, u83, u84, u85, u86, u87, u88, u89, u90, u91, u92, u93, u94, u95, u96, u97, u98, u99, u100, u101, u102, u103, u104, u105, u106, u107, u108, u109, u110, u111, u112, u113, u114, u115, u116, u117, u118, u119, u120, u121, u122, u123, u124, u125, u126, u127, u128, u129, u130, u131, u132, u133, u134, u135, u136, u137, u138, u139, u140, u141, u142, u143, x144, x145, x146, x147, x148], []⟩ w') :
    Code.wp Tryz.prog ((Tryz.f24.body.bind loopOf).getD .skip) Q ⟨#[.string s, x1, u2, u3, u4, .slice la ms.length lc, .pointer (some ⟨km, 0, none⟩), .bool neg, .int .i64 ((2 : Nat) : Int), x9, u10, u11, u12, x13, x14, x15, x16, x17, x18, .slice wa ws.length wc, .int .i64 (ws.length : Int), .int .i64 (k : Int), u22, u23, u24, u25, u26, u27, u28, u29, u30, u31, u32, u33, u34, u35, u36, u37, u38, u39, u40, u41, u42, u43, u44, u45, u46, u47, u48, u49, u50, u51, u52, u53, u54, u55, u56, u57, u58, u59, u60, u61, u62, u63, u64, u65, u66, u67, u68, u69, u70, u71, u72, u73, u74, u75, u76, u77, u78, u79, u80, u81, u82, u83, u84, u85, u86, u87, u88, u89, u90, u91, u92, u93, u94, u95, u96, u97, u98, u99, u100, u101, u102, u103, u104, u105, u106, u107, u108, u109, u110, u111, u112, u113, u114, u115, u116, u117, u118, u119, u120, u121, u122, u123, u124, u125, u126, u127, u128, u129, u130, u131, u132, u133, u134, u135, u136, u137, u138, u139, u140, u141, u142, u143, x144, x145, x146, x147, x148], []⟩ wr := by
  have hO := fun (W : World) => ofN_any 1 W (by decide)
  have HO : Hid _ := hO
  clear hO
  obtain ⟨p, hp⟩ : ∃ p, ws[k]? = some p := ⟨_, List.getElem?_eq_getElem hlt⟩
  obtain ⟨g, rfl, hc1, hc2, hg, p0, p1, p2⟩ := OwnW.at hRd.words k p hp
  obtain ⟨hwd, hwl2, hwat⟩ := HWOK.out p (List.mem_of_getElem? hp)
  have hdrop : ws.drop k = p :: ws.drop (k + 1) := by
    rw [List.drop_eq_getElem_cons hlt]
    rw [List.getElem?_eq_getElem hlt] at hp
    rw [Option.some.inj hp]
  rw [hdrop] at HE
  have hE := HE.out
  unfold rrun at hE
  obtain ⟨cls, D, at'⟩ := p
  simp only at p0 p1 p2 hwd hwl2 hwat hE
  have HE1 : Hid _ := hE
  clear hE HE hdrop hp
  have hsz200 : s.size ≤ 200 := by omega
  obtain ⟨mb, ma, mn, mc, md, me, mf, mg, M0, hIc, hIe⟩ := id hRd.box
  have hkl := M0.lt
  have m0 := M0.c0; have m1 := M0.c1; have m2 := M0.c2; have m3 := M0.c3
  have n0 := M0.fr 0; have n1' := M0.fr 1; have n2 := M0.fr 2; have n3 := M0.fr 3
  simp only at hIc hIe
  have hrd : ∀ (W : World), Calls Tryz.prog 53 #[.string ⟨D.toArray⟩] W fun e w' => ∃ v, e = .returned v ∧ IsN w' v (numOf 0 D : Int) ∧ Below W.heap.size W w' := by
    intro W
    have := readN_any ⟨D.toArray⟩ W (by show D.length ≤ 1000; omega) (by simpa using hwd)
    simpa using this
  have HRD : Hid _ := hrd
  have hns := numOf_small hwd (by omega)
  have hmin := fun (W : World) (g1 : IsN W (.agg #[.bool mb, .slice ma mn mc]) c) => minusN_any _ c W g1 (fitN_of (e := 201) hRd.cs (by omega))
  have HMIN : Hid _ := hmin
  clear hrd hmin
  obtain ⟨cl, HCL⟩ : ∃ cl : Int, Hid (cl = (cls.toNat : Int)) := ⟨_, rfl⟩
  rw [← HCL.out] at p0
  have hcl : ∀ n : UInt8, cls ≠ n → (cl == (n.toNat : Int)) = false := by
    intro n hn
    rw [beq_eq_false_iff_ne, HCL.out]
    intro h
    exact hn (UInt8.toNat_inj.1 (by omega))
  have HCLN : Hid _ := hcl
  clear hcl
  dsimp only [loopOf, Tryz.f24, Option.getD, Option.bind]
  skip
  by_cases h42 : cls = 42
  · have hcv : cl = 42 := by rw [HCL.out, h42]; rfl
    as_aux_lemma =>
      subst hcv
      have hstp : stp s.size ⟨ms, c, e, neg, 2⟩ (cls, D, at') = some ⟨ms, c, e, neg, 3⟩ := by unfold stp; simp [h42]
      have HE2 : Hid (rrun s.size (ws.drop (k + 1)) ⟨ms, c, e, neg, 3⟩ = R) := by
        have := HE1.out
        rw [hstp] at this
        exact this
      clear HE1 hstp
      clear HRD HMIN HO
      go_wp2
      refine hnext ?rel ?measure
      case rel => exact ⟨k + 1, ⟨ms, c, e, neg, 3⟩, by omega, by go_num, rfl, rfl, (by decide : (3 : Nat) ≤ 6), by show ms.length ≤ _; omega, ⟨hRd.words.below (below_one _ _), hRd.list.below (below_one _ _), hRd.box.below (below_one _ _), hRd.small, hRd.cs, hRd.es⟩, HE2, hbel.trans ((below_one _ _).mono hbel.size)⟩
      case measure => simp [intOf]; omega
  · skip
    by_cases h43 : cls = 43
    · have hcv : cl = 43 := by rw [HCL.out, h43]; rfl
      subst hcv
      cases neg
      · have hstp : stp s.size ⟨ms, c, e, false, 2⟩ (cls, D, at') = some ⟨ms ++ [(c, e)], 1, 0, false, 1⟩ := by unfold stp; simp [h43, endS]
        have HE2 : Hid (rrun s.size (ws.drop (k + 1)) ⟨ms ++ [(c, e)], 1, 0, false, 1⟩ = R) := by
          have := HE1.out
          rw [hstp] at this
          exact this
        clear HE1 hstp
        clear HRD
        as_aux_lemma =>
          have hms5 : ms.length ≤ 500 := by omega
          have hblk : (some wr.heap.size : Option Nat) ≠ (Value.slice la ms.length lc).ownBlock := fun e => by
            obtain ⟨cur, hc⟩ := hRd.list.typ _ e.symm
            have := lt_of_block hc
            omega
          have hneq : wr.heap.size ≠ km := by omega
          have hneq2 : km ≠ wr.heap.size := by omega
          clear HMIN
          have hRp := hRd.below (below_one wr (Obj.cells #[Value.int IntKind.u8 43, Value.string ⟨D.toArray⟩, Value.int IntKind.i64 (at' : Int)] 91))
          have Mp := M0.below (below_one wr (Obj.cells #[Value.int IntKind.u8 43, Value.string ⟨D.toArray⟩, Value.int IntKind.i64 (at' : Int)] 91))
          have Xp : (wr.alloc (Obj.cells #[Value.int IntKind.u8 43, Value.string ⟨D.toArray⟩, Value.int IntKind.i64 (at' : Int)] 91)).heap[wr.heap.size]? = some (.cells #[.int .u8 43, .string ⟨D.toArray⟩, .int .i64 (at' : Int)] 91 (0, 0)) := heap_alloc_new wr _
          have hbp : Below w.heap.size w (wr.alloc (Obj.cells #[Value.int IntKind.u8 43, Value.string ⟨D.toArray⟩, Value.int IntKind.i64 (at' : Int)] 91)) := hbel.trans ((below_one _ _).mono hbel.size)
          have hIc' := hIc.below (below_one wr (Obj.cells #[Value.int IntKind.u8 43, Value.string ⟨D.toArray⟩, Value.int IntKind.i64 (at' : Int)] 91))
          have hIe' := hIe.below (below_one wr (Obj.cells #[Value.int IntKind.u8 43, Value.string ⟨D.toArray⟩, Value.int IntKind.i64 (at' : Int)] 91))
          have hzb : (c : Int).natAbs < 10 ^ 201 := hRd.cs
          go_wp2_with (at_builtin; refine wpList_pushM rfl (.tmp 134) (.tmp 136) rfl (km + 1) _ ms _ _ _ _ c e _ (by simp) rfl hRp.list hIc' hIe' rfl (by omega) (by simp; omega) ?_)
          intro v6 w6 hown6 hb6 hg6
          have hW6 := hRp.words.grownM hg6 hRp.list
          have M6 := BxM.grownM Mp hg6 hRp.list (Nat.lt_succ_self _)
          have X6 : w6.heap[wr.heap.size]? = some (.cells #[.int .u8 43, .string ⟨D.toArray⟩, .int .i64 (at' : Int)] 91 (0, 0)) := by
            rw [hg6.block _ (lt_of_block Xp) hblk]
            exact Xp
          have hbw6 : Below w.heap.size w w6 := hbp.trans (hb6.mono (by omega))
          have hsmall := hRp.small.snoc hms5 hzb hRp.es
          clear hRp Mp Xp hbp
          go_wp2_with fail
          refine (HO.out w6).mono ?_
          rintro en w7 ⟨x7, rfl, hI7, hb7⟩
          obtain ⟨b7, a7, n7, c7, _, rfl, _, _⟩ := id hI7.open
          have M7 := M6.below hb7
          have X7 : w7.heap[wr.heap.size]? = some (.cells #[.int .u8 43, .string ⟨D.toArray⟩, .int .i64 (at' : Int)] 91 (0, 0)) := by rw [hb7.block _ (lt_of_block X6)]; exact X6
          have cw : w7.cell? ⟨wr.heap.size, 0, none⟩ = some (.int .u8 43) := by simp [World.cell?, X7]
          have r0 := M7.c0; have r1 := M7.c1; have r2 := M7.c2; have r3 := M7.c3
          have s0 := M7.fr 0; have s1 := M7.fr 1; have s2 := M7.fr 2; have s3 := M7.fr 3
          have hS := setM4 w7 km (.bool b7) (.slice a7 n7 c7) (.bool false) (.slice none 0 0)
          have hR8 : Rdg B2 km (.slice (some ⟨g, 0, none⟩) ws.length wc) v6 ws ((((w7.setCell ⟨km, 0, none⟩ (.bool b7)).setCell ⟨km, 1, none⟩ (.slice a7 n7 c7)).setCell ⟨km, 2, none⟩ (.bool false)).setCell ⟨km, 3, none⟩ (.slice none 0 0)) ⟨ms ++ [(c, e)], 1, 0, false, 1⟩ := ⟨(hW6.below hb7).setM M7 hS, (hown6.below hb7).setM (Nat.lt_succ_self _) M7 hS, ⟨_, _, _, _, _, _, _, _, M7.set4 _ _ _ _, hI7.setM M7 hS, zeroNum⟩, hsmall, one_small, Nat.pow_pos (by omega)⟩
          have HR8 : Hid _ := hR8
          have hbw7 := hbw6.trans (hb7.mono hbw6.size)
          clear hR8
          go_wp2
          refine hnext ?rel ?measure
          case rel => exact ⟨k + 1, ⟨ms ++ [(c, e)], 1, 0, false, 1⟩, by omega, by go_num, rfl, rfl, (by decide : (1 : Nat) ≤ 6), by show (ms ++ [_]).length ≤ _; simp; omega, HR8.out, HE2, (((hbw7.setCell hkm _).setCell hkm _).setCell hkm _).setCell hkm _⟩
          case measure => simp [intOf]; omega
      · have hstp : stp s.size ⟨ms, c, e, true, 2⟩ (cls, D, at') = some ⟨ms ++ [(-c, e)], 1, 0, false, 1⟩ := by unfold stp; simp [h43, endS]
        have HE2 : Hid (rrun s.size (ws.drop (k + 1)) ⟨ms ++ [(-c, e)], 1, 0, false, 1⟩ = R) := by
          have := HE1.out
          rw [hstp] at this
          exact this
        clear HE1 hstp
        clear HRD
        as_aux_lemma =>
          have hms5 : ms.length ≤ 500 := by omega
          have hblk : (some wr.heap.size : Option Nat) ≠ (Value.slice la ms.length lc).ownBlock := fun e => by
            obtain ⟨cur, hc⟩ := hRd.list.typ _ e.symm
            have := lt_of_block hc
            omega
          have hneq : wr.heap.size ≠ km := by omega
          have hneq2 : km ≠ wr.heap.size := by omega
          go_wp2_with fail
          generalize hW5 : wr.alloc _ = W5
          have hb5 : Below wr.heap.size wr W5 := by rw [← hW5]; exact below_one _ _
          have X5 : W5.heap[wr.heap.size]? = some (.cells #[.int .u8 43, .string ⟨D.toArray⟩, .int .i64 (at' : Int)] 91 (0, 0)) := by rw [← hW5]; exact heap_alloc_new wr _
          clear hW5
          have hR5 := hRd.below hb5
          refine (HMIN.out W5 (hIc.below hb5)).mono ?_
          rintro en w5 ⟨x5, rfl, hI5, hbm⟩
          obtain ⟨b5, a5, n5, c5, _, rfl, _, _⟩ := id hI5.open
          have hb5w : Below wr.heap.size wr w5 := hb5.trans (hbm.mono hb5.size)
          have M5 := M0.below hb5w
          have X5' : w5.heap[wr.heap.size]? = some (.cells #[.int .u8 43, .string ⟨D.toArray⟩, .int .i64 (at' : Int)] 91 (0, 0)) := by rw [hbm.block _ (lt_of_block X5)]; exact X5
          have hzb : (-c : Int).natAbs < 10 ^ 201 := by rw [Int.natAbs_neg]; exact hRd.cs
          have hRp := (hR5.below hbm).setC hI5 hzb true 1
          have hS5 := setM2 w5 km 0 1 (.bool b5) (.slice a5 n5 c5)
          have Mp := M5.set01 (.bool b5) (.slice a5 n5 c5)
          have Xp := (hS5.other wr.heap.size hneq).trans X5'
          have hbp : Below w.heap.size w ((w5.setCell ⟨km, 0, none⟩ (.bool b5)).setCell ⟨km, 1, none⟩ (.slice a5 n5 c5)) := ((hbel.trans (hb5w.mono hbel.size)).setCell hkm _).setCell hkm _
          have hIc' := hI5.setM M5 hS5
          have hIe' := (hIe.below hb5w).setM M5 hS5
          have hszp : ((w5.setCell ⟨km, 0, none⟩ (.bool b5)).setCell ⟨km, 1, none⟩ (.slice a5 n5 c5)).heap.size = w5.heap.size := hS5.size
          have hsz5 : km < w5.heap.size := M5.lt
          have q0 := M5.c0; have q1 := M5.c1; have q2 := M5.c2; have q3 := M5.c3
          have o0 := M5.fr 0; have o1 := M5.fr 1; have o2 := M5.fr 2; have o3 := M5.fr 3
          have HRP : Hid _ := hRp
          have HMP : Hid _ := Mp
          have HXP : Hid _ := Xp
          have HBP : Hid _ := hbp
          have HIC : Hid _ := hIc'
          have HIE : Hid _ := hIe'
          clear hRp Mp Xp hbp hIc' hIe' m0 m1 m2 m3 n0 n1' n2 n3
          go_wp2_with (at_builtin; refine wpList_pushM rfl (.tmp 134) (.tmp 136) rfl (km + 1) _ ms _ _ _ _ (-c) e _ (by simp) rfl HRP.out.list HIC.out HIE.out rfl (by omega) (by simp; omega) ?_)
          obtain hRp := HRP.out
          obtain Mp := HMP.out
          obtain Xp := HXP.out
          obtain hbp := HBP.out
          clear q0 q1 q2 q3 o0 o1 o2 o3 HRP HMP HXP HBP HIC HIE hszp
          intro v6 w6 hown6 hb6 hg6
          have hW6 := hRp.words.grownM hg6 hRp.list
          have M6 := BxM.grownM Mp hg6 hRp.list (Nat.lt_succ_self _)
          have X6 : w6.heap[wr.heap.size]? = some (.cells #[.int .u8 43, .string ⟨D.toArray⟩, .int .i64 (at' : Int)] 91 (0, 0)) := by
            rw [hg6.block _ (lt_of_block Xp) hblk]
            exact Xp
          have hbw6 : Below w.heap.size w w6 := hbp.trans (hb6.mono (by omega))
          have hsmall := hRp.small.snoc hms5 hzb hRp.es
          clear hRp Mp Xp hbp
          go_wp2_with fail
          refine (HO.out w6).mono ?_
          rintro en w7 ⟨x7, rfl, hI7, hb7⟩
          obtain ⟨b7, a7, n7, c7, _, rfl, _, _⟩ := id hI7.open
          have M7 := M6.below hb7
          have X7 : w7.heap[wr.heap.size]? = some (.cells #[.int .u8 43, .string ⟨D.toArray⟩, .int .i64 (at' : Int)] 91 (0, 0)) := by rw [hb7.block _ (lt_of_block X6)]; exact X6
          have cw : w7.cell? ⟨wr.heap.size, 0, none⟩ = some (.int .u8 43) := by simp [World.cell?, X7]
          have r0 := M7.c0; have r1 := M7.c1; have r2 := M7.c2; have r3 := M7.c3
          have s0 := M7.fr 0; have s1 := M7.fr 1; have s2 := M7.fr 2; have s3 := M7.fr 3
          have hS := setM4 w7 km (.bool b7) (.slice a7 n7 c7) (.bool false) (.slice none 0 0)
          have hR8 : Rdg B2 km (.slice (some ⟨g, 0, none⟩) ws.length wc) v6 ws ((((w7.setCell ⟨km, 0, none⟩ (.bool b7)).setCell ⟨km, 1, none⟩ (.slice a7 n7 c7)).setCell ⟨km, 2, none⟩ (.bool false)).setCell ⟨km, 3, none⟩ (.slice none 0 0)) ⟨ms ++ [(-c, e)], 1, 0, false, 1⟩ := ⟨(hW6.below hb7).setM M7 hS, (hown6.below hb7).setM (Nat.lt_succ_self _) M7 hS, ⟨_, _, _, _, _, _, _, _, M7.set4 _ _ _ _, hI7.setM M7 hS, zeroNum⟩, hsmall, one_small, Nat.pow_pos (by omega)⟩
          have HR8 : Hid _ := hR8
          have hbw7 := hbw6.trans (hb7.mono hbw6.size)
          clear hR8
          go_wp2
          refine hnext ?rel ?measure
          case rel => exact ⟨k + 1, ⟨ms ++ [(-c, e)], 1, 0, false, 1⟩, by omega, by go_num, rfl, rfl, (by decide : (1 : Nat) ≤ 6), by show (ms ++ [_]).length ≤ _; simp; omega, HR8.out, HE2, (((hbw7.setCell hkm _).setCell hkm _).setCell hkm _).setCell hkm _⟩
          case measure => simp [intOf]; omega
    · skip
      by_cases h45 : cls = 45
      · have hcv : cl = 45 := by rw [HCL.out, h45]; rfl
        subst hcv
        cases neg
        · have hstp : stp s.size ⟨ms, c, e, false, 2⟩ (cls, D, at') = some ⟨ms ++ [(c, e)], 1, 0, true, 1⟩ := by unfold stp; simp [h45, endS]
          have HE2 : Hid (rrun s.size (ws.drop (k + 1)) ⟨ms ++ [(c, e)], 1, 0, true, 1⟩ = R) := by
            have := HE1.out
            rw [hstp] at this
            exact this
          clear HE1 hstp
          clear HRD
          as_aux_lemma =>
            have hms5 : ms.length ≤ 500 := by omega
            have hblk : (some wr.heap.size : Option Nat) ≠ (Value.slice la ms.length lc).ownBlock := fun e => by
              obtain ⟨cur, hc⟩ := hRd.list.typ _ e.symm
              have := lt_of_block hc
              omega
            have hneq : wr.heap.size ≠ km := by omega
            have hneq2 : km ≠ wr.heap.size := by omega
            clear HMIN
            have hRp := hRd.below (below_one wr (Obj.cells #[Value.int IntKind.u8 45, Value.string ⟨D.toArray⟩, Value.int IntKind.i64 (at' : Int)] 91))
            have Mp := M0.below (below_one wr (Obj.cells #[Value.int IntKind.u8 45, Value.string ⟨D.toArray⟩, Value.int IntKind.i64 (at' : Int)] 91))
            have Xp : (wr.alloc (Obj.cells #[Value.int IntKind.u8 45, Value.string ⟨D.toArray⟩, Value.int IntKind.i64 (at' : Int)] 91)).heap[wr.heap.size]? = some (.cells #[.int .u8 45, .string ⟨D.toArray⟩, .int .i64 (at' : Int)] 91 (0, 0)) := heap_alloc_new wr _
            have hbp : Below w.heap.size w (wr.alloc (Obj.cells #[Value.int IntKind.u8 45, Value.string ⟨D.toArray⟩, Value.int IntKind.i64 (at' : Int)] 91)) := hbel.trans ((below_one _ _).mono hbel.size)
            have hIc' := hIc.below (below_one wr (Obj.cells #[Value.int IntKind.u8 45, Value.string ⟨D.toArray⟩, Value.int IntKind.i64 (at' : Int)] 91))
            have hIe' := hIe.below (below_one wr (Obj.cells #[Value.int IntKind.u8 45, Value.string ⟨D.toArray⟩, Value.int IntKind.i64 (at' : Int)] 91))
            have hzb : (c : Int).natAbs < 10 ^ 201 := hRd.cs
            go_wp2_with (at_builtin; refine wpList_pushM rfl (.tmp 134) (.tmp 136) rfl (km + 1) _ ms _ _ _ _ c e _ (by simp) rfl hRp.list hIc' hIe' rfl (by omega) (by simp; omega) ?_)
            intro v6 w6 hown6 hb6 hg6
            have hW6 := hRp.words.grownM hg6 hRp.list
            have M6 := BxM.grownM Mp hg6 hRp.list (Nat.lt_succ_self _)
            have X6 : w6.heap[wr.heap.size]? = some (.cells #[.int .u8 45, .string ⟨D.toArray⟩, .int .i64 (at' : Int)] 91 (0, 0)) := by
              rw [hg6.block _ (lt_of_block Xp) hblk]
              exact Xp
            have hbw6 : Below w.heap.size w w6 := hbp.trans (hb6.mono (by omega))
            have hsmall := hRp.small.snoc hms5 hzb hRp.es
            clear hRp Mp Xp hbp
            go_wp2_with fail
            refine (HO.out w6).mono ?_
            rintro en w7 ⟨x7, rfl, hI7, hb7⟩
            obtain ⟨b7, a7, n7, c7, _, rfl, _, _⟩ := id hI7.open
            have M7 := M6.below hb7
            have X7 : w7.heap[wr.heap.size]? = some (.cells #[.int .u8 45, .string ⟨D.toArray⟩, .int .i64 (at' : Int)] 91 (0, 0)) := by rw [hb7.block _ (lt_of_block X6)]; exact X6
            have cw : w7.cell? ⟨wr.heap.size, 0, none⟩ = some (.int .u8 45) := by simp [World.cell?, X7]
            have r0 := M7.c0; have r1 := M7.c1; have r2 := M7.c2; have r3 := M7.c3
            have s0 := M7.fr 0; have s1 := M7.fr 1; have s2 := M7.fr 2; have s3 := M7.fr 3
            have hS := setM4 w7 km (.bool b7) (.slice a7 n7 c7) (.bool false) (.slice none 0 0)
            have hR8 : Rdg B2 km (.slice (some ⟨g, 0, none⟩) ws.length wc) v6 ws ((((w7.setCell ⟨km, 0, none⟩ (.bool b7)).setCell ⟨km, 1, none⟩ (.slice a7 n7 c7)).setCell ⟨km, 2, none⟩ (.bool false)).setCell ⟨km, 3, none⟩ (.slice none 0 0)) ⟨ms ++ [(c, e)], 1, 0, true, 1⟩ := ⟨(hW6.below hb7).setM M7 hS, (hown6.below hb7).setM (Nat.lt_succ_self _) M7 hS, ⟨_, _, _, _, _, _, _, _, M7.set4 _ _ _ _, hI7.setM M7 hS, zeroNum⟩, hsmall, one_small, Nat.pow_pos (by omega)⟩
            have HR8 : Hid _ := hR8
            have hbw7 := hbw6.trans (hb7.mono hbw6.size)
            clear hR8
            go_wp2
            refine hnext ?rel ?measure
            case rel => exact ⟨k + 1, ⟨ms ++ [(c, e)], 1, 0, true, 1⟩, by omega, by go_num, rfl, rfl, (by decide : (1 : Nat) ≤ 6), by show (ms ++ [_]).length ≤ _; simp; omega, HR8.out, HE2, (((hbw7.setCell hkm _).setCell hkm _).setCell hkm _).setCell hkm _⟩
            case measure => simp [intOf]; omega
        · have hstp : stp s.size ⟨ms, c, e, true, 2⟩ (cls, D, at') = some ⟨ms ++ [(-c, e)], 1, 0, true, 1⟩ := by unfold stp; simp [h45, endS]
          have HE2 : Hid (rrun s.size (ws.drop (k + 1)) ⟨ms ++ [(-c, e)], 1, 0, true, 1⟩ = R) := by
            have := HE1.out
            rw [hstp] at this
            exact this
          clear HE1 hstp
          clear HRD
          as_aux_lemma =>
            have hms5 : ms.length ≤ 500 := by omega
            have hblk : (some wr.heap.size : Option Nat) ≠ (Value.slice la ms.length lc).ownBlock := fun e => by
              obtain ⟨cur, hc⟩ := hRd.list.typ _ e.symm
              have := lt_of_block hc
              omega
            have hneq : wr.heap.size ≠ km := by omega
            have hneq2 : km ≠ wr.heap.size := by omega
            go_wp2_with fail
            generalize hW5 : wr.alloc _ = W5
            have hb5 : Below wr.heap.size wr W5 := by rw [← hW5]; exact below_one _ _
            have X5 : W5.heap[wr.heap.size]? = some (.cells #[.int .u8 45, .string ⟨D.toArray⟩, .int .i64 (at' : Int)] 91 (0, 0)) := by rw [← hW5]; exact heap_alloc_new wr _
            clear hW5
            have hR5 := hRd.below hb5
            refine (HMIN.out W5 (hIc.below hb5)).mono ?_
            rintro en w5 ⟨x5, rfl, hI5, hbm⟩
            obtain ⟨b5, a5, n5, c5, _, rfl, _, _⟩ := id hI5.open
            have hb5w : Below wr.heap.size wr w5 := hb5.trans (hbm.mono hb5.size)
            have M5 := M0.below hb5w
            have X5' : w5.heap[wr.heap.size]? = some (.cells #[.int .u8 45, .string ⟨D.toArray⟩, .int .i64 (at' : Int)] 91 (0, 0)) := by rw [hbm.block _ (lt_of_block X5)]; exact X5
            have hzb : (-c : Int).natAbs < 10 ^ 201 := by rw [Int.natAbs_neg]; exact hRd.cs
            have hRp := (hR5.below hbm).setC hI5 hzb true 1
            have hS5 := setM2 w5 km 0 1 (.bool b5) (.slice a5 n5 c5)
            have Mp := M5.set01 (.bool b5) (.slice a5 n5 c5)
            have Xp := (hS5.other wr.heap.size hneq).trans X5'
            have hbp : Below w.heap.size w ((w5.setCell ⟨km, 0, none⟩ (.bool b5)).setCell ⟨km, 1, none⟩ (.slice a5 n5 c5)) := ((hbel.trans (hb5w.mono hbel.size)).setCell hkm _).setCell hkm _
            have hIc' := hI5.setM M5 hS5
            have hIe' := (hIe.below hb5w).setM M5 hS5
            have hszp : ((w5.setCell ⟨km, 0, none⟩ (.bool b5)).setCell ⟨km, 1, none⟩ (.slice a5 n5 c5)).heap.size = w5.heap.size := hS5.size
            have hsz5 : km < w5.heap.size := M5.lt
            have q0 := M5.c0; have q1 := M5.c1; have q2 := M5.c2; have q3 := M5.c3
            have o0 := M5.fr 0; have o1 := M5.fr 1; have o2 := M5.fr 2; have o3 := M5.fr 3
            have HRP : Hid _ := hRp
            have HMP : Hid _ := Mp
            have HXP : Hid _ := Xp
            have HBP : Hid _ := hbp
            have HIC : Hid _ := hIc'
            have HIE : Hid _ := hIe'
            clear hRp Mp Xp hbp hIc' hIe' m0 m1 m2 m3 n0 n1' n2 n3
            go_wp2_with (at_builtin; refine wpList_pushM rfl (.tmp 134) (.tmp 136) rfl (km + 1) _ ms _ _ _ _ (-c) e _ (by simp) rfl HRP.out.list HIC.out HIE.out rfl (by omega) (by simp; omega) ?_)
            obtain hRp := HRP.out
            obtain Mp := HMP.out
            obtain Xp := HXP.out
            obtain hbp := HBP.out
            clear q0 q1 q2 q3 o0 o1 o2 o3 HRP HMP HXP HBP HIC HIE hszp
            intro v6 w6 hown6 hb6 hg6
            have hW6 := hRp.words.grownM hg6 hRp.list
            have M6 := BxM.grownM Mp hg6 hRp.list (Nat.lt_succ_self _)
            have X6 : w6.heap[wr.heap.size]? = some (.cells #[.int .u8 45, .string ⟨D.toArray⟩, .int .i64 (at' : Int)] 91 (0, 0)) := by
              rw [hg6.block _ (lt_of_block Xp) hblk]
              exact Xp
            have hbw6 : Below w.heap.size w w6 := hbp.trans (hb6.mono (by omega))
            have hsmall := hRp.small.snoc hms5 hzb hRp.es
            clear hRp Mp Xp hbp
            go_wp2_with fail
            refine (HO.out w6).mono ?_
            rintro en w7 ⟨x7, rfl, hI7, hb7⟩
            obtain ⟨b7, a7, n7, c7, _, rfl, _, _⟩ := id hI7.open
            have M7 := M6.below hb7
            have X7 : w7.heap[wr.heap.size]? = some (.cells #[.int .u8 45, .string ⟨D.toArray⟩, .int .i64 (at' : Int)] 91 (0, 0)) := by rw [hb7.block _ (lt_of_block X6)]; exact X6
            have cw : w7.cell? ⟨wr.heap.size, 0, none⟩ = some (.int .u8 45) := by simp [World.cell?, X7]
            have r0 := M7.c0; have r1 := M7.c1; have r2 := M7.c2; have r3 := M7.c3
            have s0 := M7.fr 0; have s1 := M7.fr 1; have s2 := M7.fr 2; have s3 := M7.fr 3
            have hS := setM4 w7 km (.bool b7) (.slice a7 n7 c7) (.bool false) (.slice none 0 0)
            have hR8 : Rdg B2 km (.slice (some ⟨g, 0, none⟩) ws.length wc) v6 ws ((((w7.setCell ⟨km, 0, none⟩ (.bool b7)).setCell ⟨km, 1, none⟩ (.slice a7 n7 c7)).setCell ⟨km, 2, none⟩ (.bool false)).setCell ⟨km, 3, none⟩ (.slice none 0 0)) ⟨ms ++ [(-c, e)], 1, 0, true, 1⟩ := ⟨(hW6.below hb7).setM M7 hS, (hown6.below hb7).setM (Nat.lt_succ_self _) M7 hS, ⟨_, _, _, _, _, _, _, _, M7.set4 _ _ _ _, hI7.setM M7 hS, zeroNum⟩, hsmall, one_small, Nat.pow_pos (by omega)⟩
            have HR8 : Hid _ := hR8
            have hbw7 := hbw6.trans (hb7.mono hbw6.size)
            clear hR8
            go_wp2
            refine hnext ?rel ?measure
            case rel => exact ⟨k + 1, ⟨ms ++ [(-c, e)], 1, 0, true, 1⟩, by omega, by go_num, rfl, rfl, (by decide : (1 : Nat) ≤ 6), by show (ms ++ [_]).length ≤ _; simp; omega, HR8.out, HE2, (((hbw7.setCell hkm _).setCell hkm _).setCell hkm _).setCell hkm _⟩
            case measure => simp [intOf]; omega
      · skip
        by_cases h46 : cls = 46
        · have hcv : cl = 46 := by rw [HCL.out, h46]; rfl
          subst hcv
          by_cases hat : at' = s.size
          · subst hat
            cases neg
            · have hstp : stp s.size ⟨ms, c, e, false, 2⟩ (cls, D, s.size) = some ⟨ms ++ [(c, e)], 1, 0, false, 1⟩ := by unfold stp; simp [h46, endS]
              have HE2 : Hid (rrun s.size (ws.drop (k + 1)) ⟨ms ++ [(c, e)], 1, 0, false, 1⟩ = R) := by
                have := HE1.out
                rw [hstp] at this
                exact this
              clear HE1 hstp
              clear HRD
              as_aux_lemma =>
                have hms5 : ms.length ≤ 500 := by omega
                have hblk : (some wr.heap.size : Option Nat) ≠ (Value.slice la ms.length lc).ownBlock := fun e => by
                  obtain ⟨cur, hc⟩ := hRd.list.typ _ e.symm
                  have := lt_of_block hc
                  omega
                have hneq : wr.heap.size ≠ km := by omega
                have hneq2 : km ≠ wr.heap.size := by omega
                clear HMIN
                have hRp := hRd.below (below_one wr (Obj.cells #[Value.int IntKind.u8 46, Value.string ⟨D.toArray⟩, Value.int IntKind.i64 (s.size : Int)] 91))
                have Mp := M0.below (below_one wr (Obj.cells #[Value.int IntKind.u8 46, Value.string ⟨D.toArray⟩, Value.int IntKind.i64 (s.size : Int)] 91))
                have Xp : (wr.alloc (Obj.cells #[Value.int IntKind.u8 46, Value.string ⟨D.toArray⟩, Value.int IntKind.i64 (s.size : Int)] 91)).heap[wr.heap.size]? = some (.cells #[.int .u8 46, .string ⟨D.toArray⟩, .int .i64 (s.size : Int)] 91 (0, 0)) := heap_alloc_new wr _
                have hbp : Below w.heap.size w (wr.alloc (Obj.cells #[Value.int IntKind.u8 46, Value.string ⟨D.toArray⟩, Value.int IntKind.i64 (s.size : Int)] 91)) := hbel.trans ((below_one _ _).mono hbel.size)
                have hIc' := hIc.below (below_one wr (Obj.cells #[Value.int IntKind.u8 46, Value.string ⟨D.toArray⟩, Value.int IntKind.i64 (s.size : Int)] 91))
                have hIe' := hIe.below (below_one wr (Obj.cells #[Value.int IntKind.u8 46, Value.string ⟨D.toArray⟩, Value.int IntKind.i64 (s.size : Int)] 91))
                have hzb : (c : Int).natAbs < 10 ^ 201 := hRd.cs
                go_wp2_with (at_builtin; refine wpList_pushM rfl (.tmp 134) (.tmp 136) rfl (km + 1) _ ms _ _ _ _ c e _ (by simp) rfl hRp.list hIc' hIe' rfl (by omega) (by simp; omega) ?_)
                intro v6 w6 hown6 hb6 hg6
                have hW6 := hRp.words.grownM hg6 hRp.list
                have M6 := BxM.grownM Mp hg6 hRp.list (Nat.lt_succ_self _)
                have X6 : w6.heap[wr.heap.size]? = some (.cells #[.int .u8 46, .string ⟨D.toArray⟩, .int .i64 (s.size : Int)] 91 (0, 0)) := by
                  rw [hg6.block _ (lt_of_block Xp) hblk]
                  exact Xp
                have hbw6 : Below w.heap.size w w6 := hbp.trans (hb6.mono (by omega))
                have hsmall := hRp.small.snoc hms5 hzb hRp.es
                clear hRp Mp Xp hbp
                go_wp2_with fail
                refine (HO.out w6).mono ?_
                rintro en w7 ⟨x7, rfl, hI7, hb7⟩
                obtain ⟨b7, a7, n7, c7, _, rfl, _, _⟩ := id hI7.open
                have M7 := M6.below hb7
                have X7 : w7.heap[wr.heap.size]? = some (.cells #[.int .u8 46, .string ⟨D.toArray⟩, .int .i64 (s.size : Int)] 91 (0, 0)) := by rw [hb7.block _ (lt_of_block X6)]; exact X6
                have cw : w7.cell? ⟨wr.heap.size, 0, none⟩ = some (.int .u8 46) := by simp [World.cell?, X7]
                have r0 := M7.c0; have r1 := M7.c1; have r2 := M7.c2; have r3 := M7.c3
                have s0 := M7.fr 0; have s1 := M7.fr 1; have s2 := M7.fr 2; have s3 := M7.fr 3
                have hS := setM4 w7 km (.bool b7) (.slice a7 n7 c7) (.bool false) (.slice none 0 0)
                have hR8 : Rdg B2 km (.slice (some ⟨g, 0, none⟩) ws.length wc) v6 ws ((((w7.setCell ⟨km, 0, none⟩ (.bool b7)).setCell ⟨km, 1, none⟩ (.slice a7 n7 c7)).setCell ⟨km, 2, none⟩ (.bool false)).setCell ⟨km, 3, none⟩ (.slice none 0 0)) ⟨ms ++ [(c, e)], 1, 0, false, 1⟩ := ⟨(hW6.below hb7).setM M7 hS, (hown6.below hb7).setM (Nat.lt_succ_self _) M7 hS, ⟨_, _, _, _, _, _, _, _, M7.set4 _ _ _ _, hI7.setM M7 hS, zeroNum⟩, hsmall, one_small, Nat.pow_pos (by omega)⟩
                have HR8 : Hid _ := hR8
                have hbw7 := hbw6.trans (hb7.mono hbw6.size)
                clear hR8
                go_wp2
                refine hnext ?rel ?measure
                case rel => exact ⟨k + 1, ⟨ms ++ [(c, e)], 1, 0, false, 1⟩, by omega, by go_num, rfl, rfl, (by decide : (1 : Nat) ≤ 6), by show (ms ++ [_]).length ≤ _; simp; omega, HR8.out, HE2, (((hbw7.setCell hkm _).setCell hkm _).setCell hkm _).setCell hkm _⟩
                case measure => simp [intOf]; omega
            · have hstp : stp s.size ⟨ms, c, e, true, 2⟩ (cls, D, s.size) = some ⟨ms ++ [(-c, e)], 1, 0, false, 1⟩ := by unfold stp; simp [h46, endS]
              have HE2 : Hid (rrun s.size (ws.drop (k + 1)) ⟨ms ++ [(-c, e)], 1, 0, false, 1⟩ = R) := by
                have := HE1.out
                rw [hstp] at this
                exact this
              clear HE1 hstp
              clear HRD
              as_aux_lemma =>
                have hms5 : ms.length ≤ 500 := by omega
                have hblk : (some wr.heap.size : Option Nat) ≠ (Value.slice la ms.length lc).ownBlock := fun e => by
                  obtain ⟨cur, hc⟩ := hRd.list.typ _ e.symm
                  have := lt_of_block hc
                  omega
                have hneq : wr.heap.size ≠ km := by omega
                have hneq2 : km ≠ wr.heap.size := by omega
                go_wp2_with fail
                generalize hW5 : wr.alloc _ = W5
                have hb5 : Below wr.heap.size wr W5 := by rw [← hW5]; exact below_one _ _
                have X5 : W5.heap[wr.heap.size]? = some (.cells #[.int .u8 46, .string ⟨D.toArray⟩, .int .i64 (s.size : Int)] 91 (0, 0)) := by rw [← hW5]; exact heap_alloc_new wr _
                clear hW5
                have hR5 := hRd.below hb5
                refine (HMIN.out W5 (hIc.below hb5)).mono ?_
                rintro en w5 ⟨x5, rfl, hI5, hbm⟩
                obtain ⟨b5, a5, n5, c5, _, rfl, _, _⟩ := id hI5.open
                have hb5w : Below wr.heap.size wr w5 := hb5.trans (hbm.mono hb5.size)
                have M5 := M0.below hb5w
                have X5' : w5.heap[wr.heap.size]? = some (.cells #[.int .u8 46, .string ⟨D.toArray⟩, .int .i64 (s.size : Int)] 91 (0, 0)) := by rw [hbm.block _ (lt_of_block X5)]; exact X5
                have hzb : (-c : Int).natAbs < 10 ^ 201 := by rw [Int.natAbs_neg]; exact hRd.cs
                have hRp := (hR5.below hbm).setC hI5 hzb true 1
                have hS5 := setM2 w5 km 0 1 (.bool b5) (.slice a5 n5 c5)
                have Mp := M5.set01 (.bool b5) (.slice a5 n5 c5)
                have Xp := (hS5.other wr.heap.size hneq).trans X5'
                have hbp : Below w.heap.size w ((w5.setCell ⟨km, 0, none⟩ (.bool b5)).setCell ⟨km, 1, none⟩ (.slice a5 n5 c5)) := ((hbel.trans (hb5w.mono hbel.size)).setCell hkm _).setCell hkm _
                have hIc' := hI5.setM M5 hS5
                have hIe' := (hIe.below hb5w).setM M5 hS5
                have hszp : ((w5.setCell ⟨km, 0, none⟩ (.bool b5)).setCell ⟨km, 1, none⟩ (.slice a5 n5 c5)).heap.size = w5.heap.size := hS5.size
                have hsz5 : km < w5.heap.size := M5.lt
                have q0 := M5.c0; have q1 := M5.c1; have q2 := M5.c2; have q3 := M5.c3
                have o0 := M5.fr 0; have o1 := M5.fr 1; have o2 := M5.fr 2; have o3 := M5.fr 3
                have HRP : Hid _ := hRp
                have HMP : Hid _ := Mp
                have HXP : Hid _ := Xp
                have HBP : Hid _ := hbp
                have HIC : Hid _ := hIc'
                have HIE : Hid _ := hIe'
                clear hRp Mp Xp hbp hIc' hIe' m0 m1 m2 m3 n0 n1' n2 n3
                go_wp2_with (at_builtin; refine wpList_pushM rfl (.tmp 134) (.tmp 136) rfl (km + 1) _ ms _ _ _ _ (-c) e _ (by simp) rfl HRP.out.list HIC.out HIE.out rfl (by omega) (by simp; omega) ?_)
                obtain hRp := HRP.out
                obtain Mp := HMP.out
                obtain Xp := HXP.out
                obtain hbp := HBP.out
                clear q0 q1 q2 q3 o0 o1 o2 o3 HRP HMP HXP HBP HIC HIE hszp
                intro v6 w6 hown6 hb6 hg6
                have hW6 := hRp.words.grownM hg6 hRp.list
                have M6 := BxM.grownM Mp hg6 hRp.list (Nat.lt_succ_self _)
                have X6 : w6.heap[wr.heap.size]? = some (.cells #[.int .u8 46, .string ⟨D.toArray⟩, .int .i64 (s.size : Int)] 91 (0, 0)) := by
                  rw [hg6.block _ (lt_of_block Xp) hblk]
                  exact Xp
                have hbw6 : Below w.heap.size w w6 := hbp.trans (hb6.mono (by omega))
                have hsmall := hRp.small.snoc hms5 hzb hRp.es
                clear hRp Mp Xp hbp
                go_wp2_with fail
                refine (HO.out w6).mono ?_
                rintro en w7 ⟨x7, rfl, hI7, hb7⟩
                obtain ⟨b7, a7, n7, c7, _, rfl, _, _⟩ := id hI7.open
                have M7 := M6.below hb7
                have X7 : w7.heap[wr.heap.size]? = some (.cells #[.int .u8 46, .string ⟨D.toArray⟩, .int .i64 (s.size : Int)] 91 (0, 0)) := by rw [hb7.block _ (lt_of_block X6)]; exact X6
                have cw : w7.cell? ⟨wr.heap.size, 0, none⟩ = some (.int .u8 46) := by simp [World.cell?, X7]
                have r0 := M7.c0; have r1 := M7.c1; have r2 := M7.c2; have r3 := M7.c3
                have s0 := M7.fr 0; have s1 := M7.fr 1; have s2 := M7.fr 2; have s3 := M7.fr 3
                have hS := setM4 w7 km (.bool b7) (.slice a7 n7 c7) (.bool false) (.slice none 0 0)
                have hR8 : Rdg B2 km (.slice (some ⟨g, 0, none⟩) ws.length wc) v6 ws ((((w7.setCell ⟨km, 0, none⟩ (.bool b7)).setCell ⟨km, 1, none⟩ (.slice a7 n7 c7)).setCell ⟨km, 2, none⟩ (.bool false)).setCell ⟨km, 3, none⟩ (.slice none 0 0)) ⟨ms ++ [(-c, e)], 1, 0, false, 1⟩ := ⟨(hW6.below hb7).setM M7 hS, (hown6.below hb7).setM (Nat.lt_succ_self _) M7 hS, ⟨_, _, _, _, _, _, _, _, M7.set4 _ _ _ _, hI7.setM M7 hS, zeroNum⟩, hsmall, one_small, Nat.pow_pos (by omega)⟩
                have HR8 : Hid _ := hR8
                have hbw7 := hbw6.trans (hb7.mono hbw6.size)
                clear hR8
                go_wp2
                refine hnext ?rel ?measure
                case rel => exact ⟨k + 1, ⟨ms ++ [(-c, e)], 1, 0, false, 1⟩, by omega, by go_num, rfl, rfl, (by decide : (1 : Nat) ≤ 6), by show (ms ++ [_]).length ≤ _; simp; omega, HR8.out, HE2, (((hbw7.setCell hkm _).setCell hkm _).setCell hkm _).setCell hkm _⟩
                case measure => simp [intOf]; omega
          · have hatb : ((at' : Int) == (s.size : Int)) = false := by rw [beq_eq_false_iff_ne]; omega
            have hstp : stp s.size ⟨ms, c, e, neg, 2⟩ (cls, D, at') = none := by unfold stp; simp [h46, hat, endS]
            as_aux_lemma =>
              have hE2 : R = .inl at' := by
                have := HE1.out
                rw [hstp] at this
                exact this.symm
              clear HE1 hstp HRD HMIN HO
              go_wp2_with fail
              go_quiet (fail)
              go_wp2
              exact hret hE2 (hbel.trans ((below_drewN (below_one _ _) nq).mono hbel.size))
        · skip
          have hstp : stp s.size ⟨ms, c, e, neg, 2⟩ (cls, D, at') = none := by unfold stp; simp [h42, h43, h45, h46, endS]
          have hx42 : (cl == 42) = false := HCLN.out 42 h42
          have hx43 : (cl == 43) = false := HCLN.out 43 h43
          have hx45 : (cl == 45) = false := HCLN.out 45 h45
          have hx46 : (cl == 46) = false := HCLN.out 46 h46
          as_aux_lemma =>
            have hE2 : R = .inl at' := by
              have := HE1.out
              rw [hstp] at this
              exact this.symm
            clear HE1 hstp HRD HMIN HO
            go_wp2_with fail
            go_quiet (fail)
            go_wp2
            exact hret hE2 (hbel.trans ((below_drewN (below_one _ _) nq).mono hbel.size))

end Go.Proofs.YtldcjkhbiffdoaaGreatDoor
