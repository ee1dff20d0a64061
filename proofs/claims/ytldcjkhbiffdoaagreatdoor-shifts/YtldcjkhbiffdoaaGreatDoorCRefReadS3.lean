import Derived.Test.YtldcjkhbiffdoaaGreatDoorM36

/-
  factorref.Read: a round from the state 3. (Written by wip/gen_split.py.)
-/
namespace Go.Proofs.YtldcjkhbiffdoaaGreatDoor
open Go.RowKit

set_option maxRecDepth 100000 in
set_option maxHeartbeats 40000000 in
theorem roundR3 (s : ByteArray) (w wr : World) (R : Nat ⊕ List (Int × Nat)) (ws : List Wd) (km B2 k : Nat) (wa la : Option Addr) (wc lc : Nat) (ms : List (Int × Nat)) (c : Int) (e : Nat) (neg : Bool) (x1 x9 x13 x14 x15 x16 x17 x18 x144 x145 x146 x147 x148 : Value) (u2 u3 u4 u10 u11 u12 u22 u23 u24 u25 u26 u27 u28 u29 u30 u31 u32 u33 u34 u35 u36 u37 u38 u39 u40 u41 u42 u43 u44 u45 u46 u47 u48 u49 u50 u51 u52 u53 u54 u55 u56 u57 u58 u59 u60 u61 u62 u63 u64 u65 u66 u67 u68 u69 u70 u71 u72 u73 u74 u75 u76 u77 u78 u79 u80 u81 u82 u83 u84 u85 u86 u87 u88 u89 u90 u91 u92 u93 u94 u95 u96 u97 u98 u99 u100 u101 u102 u103 u104 u105 u106 u107 u108 u109 u110 u111 u112 u113 u114 u115 u116 u117 u118 u119 u120 u121 u122 u123 u124 u125 u126 u127 u128 u129 u130 u131 u132 u133 u134 u135 u136 u137 u138 u139 u140 u141 u142 u143 : Value)
    (hlong : ¬ 200 < s.size) (hwl : ws.length ≤ s.size + 1) (HWOK : Hid (∀ p, p ∈ ws → WdOk s.size p)) (hkm : w.heap.size ≤ km) (_hkB : km < B2) (hlt : k < ws.length) (hmsl : ms.length ≤ k)
    (hRd : Rdg B2 km (.slice wa ws.length wc) (.slice la ms.length lc) ws wr ⟨ms, c, e, neg, 3⟩) (HE : Hid (rrun s.size (ws.drop k) ⟨ms, c, e, neg, 3⟩ = R)) (hbel : Below w.heap.size w wr) (Q : Exit → Act → World → Prop)
    (hnext : ∀ {u2 u3 u4 u5 u7 u8 u10 u11 u12 u21 u22 u23 u24 u25 u26 u27 u28 u29 u30 u31 u32 u33 u34 u35 u36 u37 u38 u39 u40 u41 u42 u43 u44 u45 u46 u47 u48 u49 u50 u51 u52 u53 u54 u55 u56 u57 u58 u59 u60 u61 u62 u63 u64 u65 u66 u67 u68 u69 u70 u71 u72 u73 u74 u75 u76 u77 u78 u79 u80 u81 u82 u83 u84 u85 u86 u87 u88 u89 u90 u91 u92 u93 u94 u95 u96 u97 u98 u99 u100 u101 u102 u103 u104 u105 u106 u107 u108 u109 u110 u111 u112 u113 u114 u115 u116 u117 u118 u119 u120 u121 u122 u123 u124 u125 u126 u127 u128 u129 u130 u131 u132 u133 u134 u135 u136 u137 u138 u139 u140 u141 u142 u143 : Value} {w' : World}, (∃ (k' : Nat) (S : St), k' ≤ ws.length ∧ u21 = .int .i64 k' ∧ u7 = .bool S.neg ∧ u8 = .int .i64 (S.st : Int) ∧ S.st ≤ 6 ∧ S.ms.length ≤ k' ∧ Rdg B2 km (.slice wa ws.length wc) u5 ws w' S ∧ Hid (rrun s.size (ws.drop k') S = R) ∧ Below w.heap.size w w') → ws.length - (intOf u21).toNat < ws.length - k → Q .normal ⟨#[.string s, x1, u2, u3, u4, u5, .pointer (some ⟨km, 0, none⟩), u7, u8, x9, u10, u11, u12, x13, x14, x15, x16, x17, x18, .slice wa ws.length wc, .int .i64 (ws.length : Int), u21, u22, u23, u24, u25, u26, u27, u28, u29, u30, u31, u32, u33, u34, u35, u36, u37, u38, u39, u40, u41, u42, u43, u44, u45, u46, u47, u48, u49, u50, u51, u52, u53, u54, u55, u56, u57, u58, u59, u60, u61, u62, u63, u64, u65, u66, u67, u68, u69, u70, u71, u72, u73, u74, u75, u76, u77, u78, u79, u80, u81, u82, u83, u84, u85, u86, u87, u88, u89, u90, u91, u92, u93, u94, u95, u96, u97, u98, u99, u100, u101, u102, u103, u104, u105, u106, u107, u108, u109, u110, u111, u112, u113, u114, u115, u116, u117, u118, u119, u120, u121, u122, u123, u124, u125, u126, u127, u128, u129, u130, u131, u132, u133, u134, u135, u136, u137, u138, u139, u140, u141, u142, u143, x144, x145, x146, x147, x148], []⟩ w')
    (hret : ∀ {u5 u7 u8 u10 u11 u12 u21 u22 u23 u24 u25 u26 u27 u28 u29 u30 u31 u32 u33 u34 u35 u36 u37 u38 u39 u40 u41 u42 u43 u44 u45 u46 u47 u48 u49 u50 u51 u52 u53 u54 u55 u56 u57 u58 u59 u60 u61 u62 u63 u64 u65 u66 u67 u68 u69 u70 u71 u72 u73 u74 u75 u76 u77 u78 u79 u80 u81 u82 u83 u84 u85 u86 u87 u88 u89 u90 u91 u92 u93 u94 u95 u96 u97 u98 u99 u100 u101 u102 u103 u104 u105 u106 u107 u108 u109 u110 u111 u112 u113 u114 u115 u116 u117 u118 u119 u120 u121 u122 u123 u124 u125 u126 u127 u128 u129 u130 u131 u132 u133 u134 u135 u136 u137 u138 u139 u140 u141 u142 u143 : Value} {w' : World} {p : Nat}, R = .inl p → Below w.heap.size w w' → Q .ret ⟨#[.string s, x1, .slice none 0 0, .int .i64 2, .int .i64 (p : Int), u5, .pointer (some ⟨km, 0, none⟩), u7, u8, x9, u10, u11, u12, x13, x14, x15, x16, x17, x18, .slice wa ws.length wc, .int .i64 (ws.length : Int), u21, u22, u23, u24, u25, u26, u27, u28, u29, u30, u31, u32, u33, u34, u35, u36, u37, u38, u39, u40, u41, u42, u43, u44, u45, u46, u47, u48, u49, u50, u51, u52, u53, u54, u55, u56, u57, u58, u59, u60, u61, u62, u63, u64, u65, u66, u67, u68, u69, u70, u71, u72, u73, u74, u75, u76, u77, u78, u79, u80, u81, u82, u83, u84, u85, u86, u87, u88, u89, u90, u91, u92, u93, u94, u95, u96, u97, u98, u99, u100, u101, u102, u103, u104, u105, u106, u107, u108, u109, u110, u111, u112, u113, u114, u115, u116, u117, u118, u119, u120, u121, u122, u123, u124, u125, u126, u127, u128, u129, u130, u131, u132, u133, u134, u135, u136, u137, u138, u139, u140, u141, u142, u143, x144, x145, x146, x147, x148], []⟩ w') :
    Code.wp Tryz.prog ((Tryz.f24.body.bind loopOf).getD .skip) Q ⟨#[.string s, x1, u2, u3, u4, .slice la ms.length lc, .pointer (some ⟨km, 0, none⟩), .bool neg, .int .i64 ((3 : Nat) : Int), x9, u10, u11, u12, x13, x14, x15, x16, x17, x18, .slice wa ws.length wc, .int .i64 (ws.length : Int), .int .i64 (k : Int), u22, u23, u24, u25, u26, u27, u28, u29, u30, u31, u32, u33, u34, u35, u36, u37, u38, u39, u40, u41, u42, u43, u44, u45, u46, u47, u48, u49, u50, u51, u52, u53, u54, u55, u56, u57, u58, u59, u60, u61, u62, u63, u64, u65, u66, u67, u68, u69, u70, u71, u72, u73, u74, u75, u76, u77, u78, u79, u80, u81, u82, u83, u84, u85, u86, u87, u88, u89, u90, u91, u92, u93, u94, u95, u96, u97, u98, u99, u100, u101, u102, u103, u104, u105, u106, u107, u108, u109, u110, u111, u112, u113, u114, u115, u116, u117, u118, u119, u120, u121, u122, u123, u124, u125, u126, u127, u128, u129, u130, u131, u132, u133, u134, u135, u136, u137, u138, u139, u140, u141, u142, u143, x144, x145, x146, x147, x148], []⟩ wr := by
  have hO := fun (W : World) => ofN_any 1 W (by decide)
  have HO : Hid _ := hO
  clear hO
  obtain ⟨p, hp⟩ : ∃ p, ws[k]? = some p := ⟨_, List.getElem?_eq_getElem hlt⟩
  obtain ⟨g, rfl, hc1, hc2, hg, p0, p1, p2⟩ := OwnW.at hRd.words k p hp
  obtain ⟨hwd, hwl2, hwat⟩ := HWOK.out p (List.mem_of_getElem? hp)
  have hdrop : ws.drop k = p :: ws.drop (k + 1) := by
    rw [List.drop_eq_getElem_cons hlt]
    rw [List.getElem?_eq_getElem hlt] at hp
    rw [Option.some.inj hp]
  rw [hdrop] at HE
  have hE := HE.out
  unfold rrun at hE
  obtain ⟨cls, D, at'⟩ := p
  simp only at p0 p1 p2 hwd hwl2 hwat hE
  have HE1 : Hid _ := hE
  clear hE HE hdrop hp
  have hsz200 : s.size ≤ 200 := by omega
  obtain ⟨mb, ma, mn, mc, md, me, mf, mg, M0, hIc, hIe⟩ := id hRd.box
  have hkl := M0.lt
  have m0 := M0.c0; have m1 := M0.c1; have m2 := M0.c2; have m3 := M0.c3
  have n0 := M0.fr 0; have n1' := M0.fr 1; have n2 := M0.fr 2; have n3 := M0.fr 3
  simp only at hIc hIe
  have hrd : ∀ (W : World), Calls Tryz.prog 53 #[.string ⟨D.toArray⟩] W fun e w' => ∃ v, e = .returned v ∧ IsN w' v (numOf 0 D : Int) ∧ Below W.heap.size W w' := by
    intro W
    have := readN_any ⟨D.toArray⟩ W (by show D.length ≤ 1000; omega) (by simpa using hwd)
    simpa using this
  have HRD : Hid _ := hrd
  have hns := numOf_small hwd (by omega)
  have hmin := fun (W : World) (g1 : IsN W (.agg #[.bool mb, .slice ma mn mc]) c) => minusN_any _ c W g1 (fitN_of (e := 201) hRd.cs (by omega))
  have HMIN : Hid _ := hmin
  clear hrd hmin
  obtain ⟨cl, HCL⟩ : ∃ cl : Int, Hid (cl = (cls.toNat : Int)) := ⟨_, rfl⟩
  rw [← HCL.out] at p0
  have hcl : ∀ n : UInt8, cls ≠ n → (cl == (n.toNat : Int)) = false := by
    intro n hn
    rw [beq_eq_false_iff_ne, HCL.out]
    intro h
    exact hn (UInt8.toNat_inj.1 (by omega))
  have HCLN : Hid _ := hcl
  clear hcl
  dsimp only [loopOf, Tryz.f24, Option.getD, Option.bind]
  skip
  by_cases h120 : cls = 120
  · have hcv : cl = 120 := by rw [HCL.out, h120]; rfl
    as_aux_lemma =>
      subst hcv
      have hstp : stp s.size ⟨ms, c, e, neg, 3⟩ (cls, D, at') = some ⟨ms, c, 1, neg, 4⟩ := by unfold stp; simp [h120]
      have HE2 : Hid (rrun s.size (ws.drop (k + 1)) ⟨ms, c, 1, neg, 4⟩ = R) := by
        have := HE1.out
        rw [hstp] at this
        exact this
      clear HE1 hstp
      clear HMIN HRD
      go_wp2_with fail
      generalize hW5 : wr.alloc _ = W5
      have hb5 : Below wr.heap.size wr W5 := by rw [← hW5]; exact below_one _ _
      clear hW5
      have hR5 := hRd.below hb5
      refine (HO.out W5).mono ?_
      rintro en w6 ⟨x6, rfl, hI6, hb6⟩
      obtain ⟨b6, a6, n6, c6, _, rfl, _, _⟩ := id hI6.open
      have hR6 := hR5.below hb6
      have hb6w : Below wr.heap.size wr w6 := hb5.trans (hb6.mono hb5.size)
      have M6 := M0.below hb6w
      have q0 := M6.c0; have q1 := M6.c1; have q2 := M6.c2; have q3 := M6.c3
      have o0 := M6.fr 0; have o1 := M6.fr 1; have o2 := M6.fr 2; have o3 := M6.fr 3
      have hR7 := hR6.setE (z := 1) hI6 one_small neg 4
      have HR7 : Hid _ := hR7
      clear hR7
      go_wp2
      refine hnext ?rel ?measure
      case rel => exact ⟨k + 1, ⟨ms, c, 1, neg, 4⟩, by omega, by go_num, rfl, rfl, (by decide : (4 : Nat) ≤ 6), by show ms.length ≤ _; omega, HR7.out, HE2, ((hbel.trans (hb6w.mono hbel.size)).setCell hkm _).setCell hkm _⟩
      case measure => simp [intOf]; omega
  · skip
    have hstp : stp s.size ⟨ms, c, e, neg, 3⟩ (cls, D, at') = none := by unfold stp; simp [h120, endS]
    have hx120 : (cl == 120) = false := HCLN.out 120 h120
    by_cases h46 : cls = 46
    · have hcv : cl = 46 := by rw [HCL.out, h46]; rfl
      as_aux_lemma =>
        subst hcv
        have hE2 : R = .inl at' := by
          have := HE1.out
          rw [hstp] at this
          exact this.symm
        clear HE1 hstp HRD HMIN HO
        go_wp2_with fail
        go_quiet (fail)
        go_wp2
        exact hret hE2 (hbel.trans ((below_drewN (below_one _ _) nq).mono hbel.size))
    · have hx46 : (cl == 46) = false := HCLN.out 46 h46
      as_aux_lemma =>
        have hE2 : R = .inl at' := by
          have := HE1.out
          rw [hstp] at this
          exact this.symm
        clear HE1 hstp HRD HMIN HO
        go_wp2_with fail
        go_quiet (fail)
        go_wp2
        exact hret hE2 (hbel.trans ((below_drewN (below_one _ _) nq).mono hbel.size))

end Go.Proofs.YtldcjkhbiffdoaaGreatDoor
