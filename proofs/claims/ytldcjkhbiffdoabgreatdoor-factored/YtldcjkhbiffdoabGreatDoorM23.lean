import Derived.Test.YtldcjkhbiffdoabGreatDoorM22

set_option linter.unusedSimpArgs false
namespace Go.Proofs.YtldcjkhbiffdoabGreatDoor
open Go.RowKit

theorem tms_head (zs : List Int) (n : Nat) (h : zs.getD (n - 1) 0 ≠ 0) : ∀ m, ∃ l, tms zs n (m + 1) = (zs.getD (n - 1) 0, n - 1) :: l
  | 0 => ⟨[], by
    show [] ++ (if zs.getD (n - 1 - 0) 0 = 0 then [] else [(zs.getD (n - 1 - 0) 0, n - 1 - 0)]) = _
    rw [Nat.sub_zero, if_neg h]; rfl⟩
  | m + 1 => by
    obtain ⟨l, hl⟩ := tms_head zs n h m
    exact ⟨l ++ (if zs.getD (n - 1 - (m + 1)) 0 = 0 then [] else [(zs.getD (n - 1 - (m + 1)) 0, n - 1 - (m + 1))]), by
      show tms zs n (m + 1) ++ _ = _
      rw [hl]; rfl⟩

theorem ptext_head {zs : List Int} (hz : Tr zs) (hne : zs ≠ []) : ∃ tl, ptext zs = signT (decide (lead zs < 0)) true ++ (termT (lead zs).natAbs (zs.length - 1) ++ more tl) ∧ (zs.length = 1 → tl = []) := by
  obtain ⟨n, hn⟩ : ∃ n, zs.length = n + 1 := ⟨zs.length - 1, by have := List.length_pos_iff.2 hne; omega⟩
  obtain ⟨l, hl⟩ := tms_head zs zs.length (hz hne) n
  have hl2 : tms zs zs.length zs.length = (lead zs, zs.length - 1) :: l := by
    conv => lhs; rw [show tms zs zs.length zs.length = tms zs zs.length (n + 1) by rw [← hn]]
    exact hl
  refine ⟨l, ?_, fun h1 => ?_⟩
  · unfold ptext
    rw [ptm_txt, hl2, if_neg (fun e => by have := txt_nil.1 e; cases this)]
    rfl
  · have h0 : n = 0 := by omega
    subst h0
    have : tms zs zs.length 1 = [(zs.getD (zs.length - 1) 0, zs.length - 1)] := by
      show [] ++ (if zs.getD (zs.length - 1 - 0) 0 = 0 then [] else [(zs.getD (zs.length - 1 - 0) 0, zs.length - 1 - 0)]) = _
      rw [Nat.sub_zero, if_neg (hz hne)]; rfl
    rw [this] at hl
    simpa using hl.symm

structure DSh (l A V R : List UInt8) (k : Nat) : Prop where
  eq : l = A ++ (V ++ R)
  no : ∀ c, c ∈ A → c ≠ 120 ∧ c.toNat < 128
  var : (k = 0 ∧ V = [] ∧ R = []) ∨ (0 < k ∧ V = varT k ∧ Rst R)

theorem dig_no {c : UInt8} (h : isDig c = true) : c ≠ 120 ∧ c.toNat < 128 := by
  unfold isDig at h
  rw [Bool.and_eq_true, decide_eq_true_iff, decide_eq_true_iff, UInt8.le_iff_toNat_le, UInt8.le_iff_toNat_le] at h
  have e2 : (57 : UInt8).toNat = 57 := rfl
  refine ⟨fun e => ?_, by omega⟩
  subst e
  have : (120 : UInt8).toNat = 120 := rfl
  omega

theorem TSh.pvar {n k : Nat} {D P V : List UInt8} (h : TSh n k D P V) : (∀ c, c ∈ P → c = 42) ∧ ((k = 0 ∧ V = []) ∨ (0 < k ∧ V = varT k)) := by
  cases h with
  | num _ _ _ => exact ⟨fun c hc => (by cases hc), .inl ⟨rfl, rfl⟩⟩
  | one a b => exact ⟨fun c hc => (by cases hc), .inr ⟨a, b⟩⟩
  | mul _ _ _ a b => exact ⟨fun c hc => by simpa using hc, .inr ⟨a, b⟩⟩

theorem ptext_dsh {zs : List Int} (hz : Tr zs) (hne : zs ≠ []) : ∃ A V R, DSh (ptext zs) A V R (zs.length - 1) := by
  obtain ⟨tl, h1, h2⟩ := ptext_head hz hne
  obtain ⟨D, P, V, h3, h4⟩ := term_sh (lead zs).natAbs (zs.length - 1)
  have hlen := List.length_pos_iff.2 hne
  refine ⟨signT (decide (lead zs < 0)) true ++ (D ++ P), V, more tl, by rw [h1, h3]; simp, fun c hc => ?_, ?_⟩
  · rcases List.mem_append.1 hc with hc | hc
    · have : c = 45 := by
        unfold signT at hc
        rw [if_pos rfl] at hc
        split at hc
        · simpa using hc
        · cases hc
      subst this
      decide
    · rcases List.mem_append.1 hc with hc | hc
      · exact dig_no (h4.dig c hc)
      · obtain rfl := h4.pvar.1 c hc
        decide
  · rcases h4.pvar.2 with ⟨a, b⟩ | ⟨a, b⟩
    · exact .inl ⟨a, b, by rw [h2 (by omega)]; rfl⟩
    · exact .inr ⟨a, b, more_rst tl⟩

theorem ptext_first {zs : List Int} (hz : Tr zs) (hl : 0 < lead zs) : ∃ c t, ptext zs = c :: t ∧ c ≠ 45 := by
  have hne : zs ≠ [] := fun e => by subst e; simp [lead] at hl
  obtain ⟨tl, h1, _⟩ := ptext_head hz hne
  obtain ⟨D, P, V, h3, h4⟩ := term_sh (lead zs).natAbs (zs.length - 1)
  obtain ⟨c, t, h5, _, _, h6⟩ := h4.head
  refine ⟨c, t ++ more tl, ?_, h6⟩
  rw [h1, decide_eq_false (by omega), h3, h5]
  rfl

set_option maxRecDepth 100000 in
set_option maxHeartbeats 8000000 in
theorem degree_any (s : ByteArray) (A V R : List UInt8) (k : Nat) (w : World) (h : DSh s.data.toList A V R k) (hk : k ≤ 10) (hs : s.size ≤ 1000000) :
    Calls Tryz.prog 19 #[.string s] w fun e w' => e = .returned (.int .i64 (k : Nat)) ∧ Below w.heap.size w w' := by
  have hlen : s.size = A.length + (V.length + R.length) := by
    have := congrArg List.length h.eq
    rw [toList_len, List.length_append, List.length_append] at this
    exact this
  have HEQ : Hid _ := h.eq
  have HNO : Hid _ := h.no
  have HVAR : Hid _ := h.var
  have hAl : A.length ≤ s.size := by omega
  have HLN : Hid _ := hlen
  clear hlen h
  go_enter Tryz.func19, Tryz.ntmps19
  go_wp2
  go_loopw [2] (fun r w' => r = .int .i64 0 ∧ ∃ (pos : Nat), pos ≤ A.length ∧ w' = w.iter s pos) (fun _ w' => s.size - w'.iterPos w.heap.size)
  case atStart => exact ⟨rfl, 0, by omega, rfl⟩
  case round =>
    obtain ⟨rfl, pos, hpl, rfl⟩ := hrel
    by_cases hp : pos < A.length
    · have hps : pos < s.size := by omega
      obtain ⟨c, hc⟩ : ∃ c, A[pos]? = some c := ⟨A[pos], List.getElem?_eq_getElem hp⟩
      obtain ⟨hn1, hn2⟩ := HNO.out c (List.mem_of_getElem? hc)
      have hcs : s[pos] = c := by
        have h1 := byte_at hps
        rw [HEQ.out, List.getElem?_append_left hp, hc] at h1
        exact (Option.some.inj h1).symm
      have hki : (pos : Int) < (s.size : Int) := by omega
      obtain ⟨bi, hbi⟩ : ∃ bi : Int, ((s[pos].toNat : Nat) : Int) = bi := ⟨_, rfl⟩
      have hnx : ∀ ty, (Instr.next (.pointer (some ⟨w.heap.size, 0, none⟩)) true ty).run Tryz.prog (w.iter s pos) = _ := fun ty => run_next_ascii w s pos ty hps (by rw [hcs]; exact hn2)
      have hy : ¬ bi = 120 := by
        rw [← hbi, hcs]
        intro e
        exact hn1 (UInt8.toNat_inj.1 (by have : (120 : UInt8).toNat = 120 := rfl; omega))
      have hy1 : (bi == 120) = false := by rw [beq_eq_false_iff_ne]; exact hy
      have hy2 : (bi != 120) = true := by simp [hy]
      clear hcs hc
      go_wp2
      go_roundw
      case rel => exact ⟨rfl, pos + 1, by omega, rfl⟩
      case measure => simp; omega
    · obtain rfl : pos = A.length := by omega
      have hdr : s.data.toList.drop A.length = V ++ R := by rw [HEQ.out, List.drop_left]
      rcases HVAR.out with ⟨rfl, hV, hR⟩ | ⟨hk0, hV, hR⟩
      · have hps : ¬ A.length < s.size := by have := HLN.out; rw [hV, hR] at this; simp at this; omega
        have hnx : ∀ ty, (Instr.next (.pointer (some ⟨w.heap.size, 0, none⟩)) true ty).run Tryz.prog (w.iter s A.length) = _ := fun ty => run_next_end w s A.length ty hps
        clear hdr hV hR
        go_wp2
        go_ret
        exact ⟨rfl, below_iter w s A.length⟩
      · obtain ⟨vt, hvt⟩ := var_head k
        obtain ⟨hl7, hbt7⟩ := at_drop (A := []) (c := 120) (R := vt ++ R) (by rw [hdr, hV, hvt]; rfl)
        have hps : A.length < s.size := hl7
        have hs120 : s[A.length] = 120 := hbt7
        have hki : (A.length : Int) < (s.size : Int) := by omega
        have hbi : ((s[A.length].toNat : Nat) : Int) = 120 := by rw [hs120]; rfl
        have hnx : ∀ ty, (Instr.next (.pointer (some ⟨w.heap.size, 0, none⟩)) true ty).run Tryz.prog (w.iter s A.length) = _ := fun ty => run_next_ascii w s A.length ty hps (by rw [hs120]; decide)
        clear hbt7 hvt hl7 HNO HVAR hAl hp hpl
        generalize hpos : A.length = i3 at *
        have htn : ((i3 : Int) + 1).toNat = i3 + 1 := by omega
        by_cases hk1 : k = 1
        · subst hk1
          have hd4 : s.data.toList.drop (i3 + 1) = R := by
            have : s.data.toList.drop i3 = [120] ++ R := by rw [hdr, hV]; rfl
            exact drop_plus this
          rcases hR with hR0 | ⟨op, R', hR1, _⟩
          · have hend := end_drop hd4 (by omega)
            have hb1 : (((i3 : Int) + 1) == (s.size : Int)) = true := by rw [hR0] at hend; simp at hend; rw [beq_iff_eq]; omega
            clear hend hd4 hdr hV HLN hpos HEQ hs120
            go_wp2
            go_ret
            exact ⟨rfl, below_iter w s _⟩
          · obtain ⟨hl3, hbt3⟩ := at_drop (A := []) (c := 32) (R := op :: R') (by rw [hd4, hR1]; rfl)
            have hl3 : i3 + 1 < s.size := hl3
            have hb1 : (((i3 : Int) + 1) == (s.size : Int)) = false := by rw [beq_eq_false_iff_ne]; omega
            have hki3 : (i3 : Int) + 1 < (s.size : Int) := by omega
            have hbi3 : ((s[i3 + 1].toNat : Nat) : Int) = 32 := by
              have : s[i3 + 1] = 32 := hbt3
              rw [this]; rfl
            clear hd4 hdr hV HLN hpos HEQ hs120 hbt3
            go_wp2
            go_ret
            exact ⟨rfl, below_iter w s _⟩
        · have hk2 : 1 < k := by omega
          have hv2 : varT k = 120 :: 94 :: Lib.decDigits k := by unfold varT; rw [if_pos hk2]; rfl
          obtain ⟨hE1, hE2, hE3⟩ := dec_all k
          have hEl : (Lib.decDigits k).length ≤ 2 := by rw [Lib.decDigits_length]; exact nDigits_le (by omega) (by omega)
          rw [hV, hv2] at hdr
          generalize Lib.decDigits k = E at *
          have hd5 : s.data.toList.drop (i3 + 2) = E ++ R := by
            have : s.data.toList.drop i3 = [120, 94] ++ (E ++ R) := hdr
            exact drop_plus this
          obtain ⟨hl4, hbt4⟩ := at_drop (A := [120]) (c := 94) (R := E ++ R) hdr
          have hl4 : i3 + 1 < s.size := hl4
          have hki4 : (i3 : Int) + 1 < (s.size : Int) := by omega
          have hb1 : (((i3 : Int) + 1) == (s.size : Int)) = false := by rw [beq_eq_false_iff_ne]; omega
          have hbi4 : ((s[i3 + 1].toNat : Nat) : Int) = 94 := by
            have : s[i3 + 1] = 94 := hbt4
            rw [this]; rfl
          have HD5 : Hid _ := hd5
          have HE1 : Hid _ := hE1
          have HEQ2 : Hid (szf 0 E = k) := by show _ = _; rw [szf_digs _ _ hE1, hE2]
          have HEB : Hid (∀ j, szf 0 (E.take j) < 100) := fun j => by
            have := szf_bd (E.take j) 0 0 (fun c hc => .inr (hE1 c (List.mem_of_mem_take hc))) (by decide)
            refine Nat.lt_of_lt_of_le this ?_
            have h2 : (E.take j).length ≤ 2 := by rw [List.length_take]; omega
            exact Nat.le_trans (Nat.pow_le_pow_right (by decide) (show 0 + (E.take j).length ≤ 2 by omega)) (by decide)
          have HIE : Hid (s.data.toList.drop (i3 + 2 + E.length) = R) := drop_plus hd5
          have HIL : Hid (i3 + 2 + E.length ≤ s.size) := by
            have := congrArg List.length hd5
            rw [List.length_drop, toList_len, List.length_append] at this
            show _ ≤ _
            omega
          have HRR : Hid _ := hR
          clear hd5 hE1 hE2 hv2 hdr hbt4 hV hpos HEQ hs120 HLN hR
          go_wp2_with fail
          have hwo : ∃ wo : World, wo = w.iter s (i3 + 1) := ⟨_, rfl⟩
          obtain ⟨wo, HWO⟩ := hwo
          have hbwo : Below w.heap.size w wo := by rw [HWO]; exact below_iter w s _
          rw [← HWO]
          clear HWO hnx hbi4 hki4 hbi
          go_loopw [5, 4] (fun k c wr => ∃ (j : Nat), j ≤ E.length ∧ i3 + 2 + j ≤ s.size ∧ k = .int .i64 ((i3 + 2 + j : Nat) : Int) ∧ c = .int .i64 (szf 0 (E.take j) : Nat) ∧ wr = wo) (fun k _ _ => s.size - (intOf k).toNat)
          case atStart => exact ⟨0, by omega, by omega, by go_num, rfl, rfl⟩
          case round =>
            obtain ⟨j, hj, hij, rfl, rfl, rfl⟩ := hrel
            by_cases hjl : j < E.length
            · obtain ⟨c, hc⟩ : ∃ c, E[j]? = some c := ⟨E[j], List.getElem?_eq_getElem hjl⟩
              have hdig := HE1.out c (List.mem_of_getElem? hc)
              have hTk : E.take (j + 1) = E.take j ++ [c] := by rw [List.take_add_one, hc]; rfl
              have hd6 : s.data.toList.drop (i3 + 2) = E.take j ++ c :: (E.drop (j + 1) ++ R) := by
                have hsp : E = E.take j ++ c :: E.drop (j + 1) := by
                  rw [List.getElem?_eq_getElem hjl] at hc
                  rw [← Option.some.inj hc, ← List.drop_eq_getElem_cons hjl, List.take_append_drop]
                have h0 := HD5.out
                rw [hsp] at h0
                rw [h0, List.append_assoc]
                rfl
              obtain ⟨hl5, hbt5⟩ := at_dropN (j := j) (by rw [List.length_take]; omega) hd6
              obtain ⟨bj, hbj0⟩ : ∃ bj : Int, (c.toNat : Int) = bj := ⟨_, rfl⟩
              have h48 : 48 ≤ bj ∧ bj ≤ 57 := by
                unfold isDig at hdig
                rw [Bool.and_eq_true, decide_eq_true_iff, decide_eq_true_iff, UInt8.le_iff_toNat_le, UInt8.le_iff_toNat_le] at hdig
                have e1 : (48 : UInt8).toNat = 48 := rfl
                have e2 : (57 : UInt8).toNat = 57 := rfl
                omega
              obtain ⟨h48, h57⟩ := h48
              have HG2 : Hid ((szf 0 (E.take (j + 1)) : Int) = 10 * (szf 0 (E.take j) : Int) + (bj - 48)) := by
                show _ = _
                rw [hTk, szf_snoc, if_neg (dig_ne hdig).2]
                omega
              have hG1 := HEB.out j
              have hki5 : ((i3 + 2 + j : Nat) : Int) < (s.size : Int) := by omega
              have hbi5 : ((s[i3 + 2 + j].toNat : Nat) : Int) = bj := by rw [hbt5]; exact hbj0
              clear hd6 hTk hc hbt5 hbj0 hdig
              have hij1 : i3 + 2 + j + 1 ≤ s.size := by omega
              have HIJ : Hid (i3 + 2 + (j + 1) = i3 + 2 + j + 1) := by show _ = _; omega
              generalize hIJ : i3 + 2 + j = ij at *
              clear hIJ
              generalize szf 0 (E.take j) = G at *
              have hdw := digit_wrap bj h48 h57
              have hw1 : IntKind.i64.wrap (10 * (G : Int)) = 10 * (G : Int) := by rw [IntKind.wrap_i64]; omega
              have hw2 : IntKind.i64.wrap (10 * (G : Int) + (bj - 48)) = 10 * (G : Int) + (bj - 48) := by rw [IntKind.wrap_i64]; omega
              go_wp2
              go_roundw
              case rel => exact ⟨j + 1, by omega, by rw [HIJ.out]; exact hij1, by rw [HIJ.out]; go_num, by rw [HG2.out], by first | rfl | trivial⟩
              case measure => simp [intOf]; omega
            · obtain rfl : j = E.length := by omega
              rw [List.take_length, HEQ2.out]
              have hd7 := HIE.out
              have hil := HIL.out
              clear HIE HIL HEB HEQ2 HD5 hij hj
              generalize i3 + 2 + E.length = ie at *
              rcases HRR.out with hR0 | ⟨op, R', hR1, _⟩
              · have hend := end_drop hd7 hil
                have hge : ¬ (ie : Int) < (s.size : Int) := by rw [hR0] at hend; simp at hend; omega
                clear hend hd7
                go_wp2
                go_ret
                exact ⟨rfl, hbwo⟩
              · obtain ⟨hl6, hbt6⟩ := at_drop (A := []) (c := 32) (R := op :: R') (by rw [hd7, hR1]; rfl)
                have hl6 : ie < s.size := hl6
                have hki6 : (ie : Int) < (s.size : Int) := by omega
                have hbi6 : ((s[ie].toNat : Nat) : Int) = 32 := by
                  have : s[ie] = 32 := hbt6
                  rw [this]; rfl
                clear hd7 hbt6
                go_wp2
                go_ret
                exact ⟨rfl, hbwo⟩

theorem degreeP_any (zs : List Int) (w : World) (hz : Tr zs) (hne : zs ≠ []) (hl : zs.length ≤ 11) {e : Nat} (hB : Bd zs e) (he : e ≤ 30) :
    Calls Tryz.prog 19 #[.string ⟨(ptext zs).toArray⟩] w fun en w' => en = .returned (.int .i64 ((zs.length - 1 : Nat) : Int)) ∧ Below w.heap.size w w' := by
  obtain ⟨A, V, R, h⟩ := ptext_dsh hz hne
  have hsz := ptext_lenW hl hB he
  exact degree_any ⟨(ptext zs).toArray⟩ A V R (zs.length - 1) w h (by omega) (by show (ptext zs).toArray.size ≤ 1000000; simp; omega)

end Go.Proofs.YtldcjkhbiffdoabGreatDoor
