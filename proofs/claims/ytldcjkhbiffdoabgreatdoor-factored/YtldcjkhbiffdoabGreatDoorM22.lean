import Derived.Test.YtldcjkhbiffdoabGreatDoorM21
import Derived.Deep.DeepCutAuto
import Derived.Deep.CutBlock
import Derived.Test.YtldcjkhbiffdoabGreatDoorM08
import Derived.Laws.RangeString

set_option linter.unusedSimpArgs false
namespace Go.Proofs.YtldcjkhbiffdoabGreatDoor
open Go.RowKit


set_option maxRecDepth 100000 in
set_option maxHeartbeats 8000000 in
theorem coefs_any (s : ByteArray) (tl : List (Int × Nat)) (m : Int) (w : World) (hs : s.data.toList = txt tl) (hne : tl ≠ []) (hp : ∀ q, q ∈ tl → q.2 ≤ 10) (hsz : s.size ≤ 1000000) (hm : 1000 < m) (hm' : m ≤ 2147483647) :
    Calls Tryz.prog 24 #[.string s, .int .i64 m] w fun e w' => ∃ x cs, e = .returned (.tuple #[x, .bool true]) ∧ OwnN w.heap.size w' x cs ∧ CsO m cs tl ∧ Below w.heap.size w w' := by
  have HH0 : Hid (Hd s.data.toList 0 tl) := Hd.txt hs
  have hs0 : 0 < s.size := by
    rcases HH0.out with ⟨h, _⟩ | ⟨q, rs, S, h1, h2, h3, h4⟩
    · exact absurd h hne
    · obtain ⟨b, t, hb, _⟩ := term_head q.1.natAbs q.2
      rw [hb] at h4
      obtain ⟨h5, _⟩ := at_drop (A := S) (R := t ++ more rs) (c := b) h4
      omega
  have HP : Hid _ := hp
  clear hp hs hne
  go_enter Tryz.func24, Tryz.ntmps24
  go_wp2_with (at_make; refine wpList_makeZ rfl (.const (.int .i64 11)) (.const (.int .i64 11)) rfl _ _ 11 rfl rfl (by omega) (by omega) (by omega) ?_)
  intro w1 P0 HP0 hown1 hb1
  have HC0 : Hid (CsO m P0 []) := ⟨by rw [HP0.out]; rfl, fun k hk => by
    rw [show smT k [] % m = 0 by simp [smT], HP0.out]
    revert k; decide⟩
  clear HP0
  go_wp2_with fail
  go_loopw [7] (fun k wr => ∃ (i : Nat) (cs : List Int) (dn rs : List (Int × Nat)), k = .int .i64 (i : Nat) ∧ i ≤ s.size ∧ Hid (tl = dn ++ rs) ∧ Hid (Hd s.data.toList i rs) ∧ Hid (CsO m cs dn) ∧ wr.ownsRow w.heap.size 3 1 (.slice (some ⟨w.heap.size, 0, none⟩) 11 11) 11 (cs.map (Value.int .i64)) ∧ Below w.heap.size w wr) (fun k _ => s.size - (intOf k).toNat)
  case atStart => exact ⟨0, P0, [], tl, rfl, by omega, rfl, HH0, HC0, hown1, hb1⟩
  case round =>
    clear HH0 HC0 hown1 hb1
    obtain ⟨i, cs, dn, rs, rfl, hi, HT, HH, HC, hown, hbel⟩ := hrel
    rcases HH.out with ⟨hr0, hd0⟩ | ⟨q, rs', S, hrq, hSg, hSn, hdr⟩
    · have hend := end_drop hd0 hi
      have hge : ¬ (i : Int) < (s.size : Int) := by simp at hend; omega
      have hpos : (0 : Int) < (s.size : Int) := by omega
      have HF : Hid (CsO m cs tl) := by
        have := HT.out
        rw [hr0, List.append_nil] at this
        show CsO m cs tl
        rw [this]; exact HC.out
      clear hd0 hr0 HH HT hend
      go_wp2
      go_ret2
      first | exact ⟨_, cs, rfl, made_ownN hown HF.out.1, HF.out, hbel⟩ | exact ⟨_, rfl, cs, made_ownN hown HF.out.1, HF.out, hbel⟩
    · obtain ⟨D, P, V, hterm, hsh⟩ := term_sh q.1.natAbs q.2
      rw [hterm] at hdr
      have HR : Hid (Rst (more rs')) := more_rst rs'
      have HNX : Hid (∀ i', s.data.toList.drop i' = more rs' → Hd s.data.toList i' rs') := fun i' h => Hd.more h
      have hq10 : q.2 ≤ 10 := HP.out q (by rw [HT.out, hrq]; simp)
      have HT2 : Hid (tl = (dn ++ [(q.1, q.2)]) ++ rs') := by
        show _ = _
        rw [HT.out, hrq]; simp
      obtain ⟨q1, q2⟩ := q
      dsimp only at *
      generalize more rs' = R at *
      have HDR : Hid _ := hdr
      have HSG : Hid _ := hSg
      have HSN : Hid _ := hSn
      obtain ⟨N, HN1⟩ : ∃ N, Hid (N = q1.natAbs) := ⟨_, rfl⟩
      rw [← HN1.out] at hsh
      have HSH : Hid _ := hsh
      have hlt : i < s.size := by
        rcases S with _ | ⟨c, S⟩
        · cases hsh with
          | num h1 h2 h3 =>
            rcases D with _ | ⟨c, D⟩
            · exact absurd rfl h2
            · obtain ⟨h, _⟩ := at_drop (A := []) (c := c) (R := D ++ ([] ++ []) ++ R) (by rw [hdr]; simp)
              simpa using h
          | one h1 h2 =>
            obtain ⟨t, ht⟩ := var_head q2
            obtain ⟨h, _⟩ := at_drop (A := []) (c := 120) (R := t ++ R) (by rw [hdr, h2, ht]; simp)
            simpa using h
          | mul h1 h2 h3 h4 h5 =>
            rcases D with _ | ⟨c, D⟩
            · exact absurd rfl h2
            · obtain ⟨h, _⟩ := at_drop (A := []) (c := c) (R := D ++ ([42] ++ V) ++ R) (by rw [hdr]; simp)
              simpa using h
        · obtain ⟨h, _⟩ := at_drop (A := []) (c := c) (R := S ++ (D ++ (P ++ V) ++ R)) (by rw [hdr]; simp)
          simpa using h
      have hlti : (i : Int) < (s.size : Int) := by omega
      clear hdr hSg hSn hsh HH hterm hrq HT
      have hwo : ∃ wo : World, wo = wr := ⟨_, rfl⟩
      obtain ⟨wo, rfl⟩ := hwo
      go_wp2_with fail
      go_loopw [7, 8] (fun k b wr => ∃ (j : Nat), j ≤ S.length ∧ i + j ≤ s.size ∧ k = .int .i64 ((i + j : Nat) : Int) ∧ b = .bool ((S.take j).any (· == 45)) ∧ wr = wo) (fun k _ _ => s.size - (intOf k).toNat)
      case atStart => exact ⟨0, by omega, by omega, rfl, by simp, rfl⟩
      case round =>
        obtain ⟨j, hj, hij, rfl, rfl, rfl⟩ := hrel
        by_cases hjl : j < S.length
        · obtain ⟨c, hc⟩ : ∃ c, S[j]? = some c := ⟨S[j], List.getElem?_eq_getElem hjl⟩
          have hcm := HSG.out c (List.mem_of_getElem? hc)
          have hsp : S = S.take j ++ c :: S.drop (j + 1) := by
            rw [List.getElem?_eq_getElem hjl] at hc
            rw [← Option.some.inj hc, ← List.drop_eq_getElem_cons hjl, List.take_append_drop]
          have hTk : S.take (j + 1) = S.take j ++ [c] := by rw [List.take_add_one, hc]; rfl
          have hd1 : s.data.toList.drop i = S.take j ++ c :: (S.drop (j + 1) ++ (D ++ (P ++ V) ++ R)) := by
            have h0 := HDR.out
            rw [hsp] at h0
            rw [h0]
            rw [List.append_assoc]
            rfl
          obtain ⟨hl2, hbt⟩ := at_dropN (j := j) (by rw [List.length_take]; omega) hd1
          have hki : ((i + j : Nat) : Int) < (s.size : Int) := by omega
          have HAN : Hid ((S.take (j + 1)).any (· == 45) = ((S.take j).any (· == 45) || c == 45)) := by
            show _ = _
            rw [hTk]; simp
          clear hsp hTk hc hd1
          generalize (S.take j).any (· == 45) = neg at *
          have hbi : ((s[i + j].toNat : Nat) : Int) = (c.toNat : Int) := by rw [hbt]
          rcases hcm with rfl | rfl | rfl
          all_goals
            cases neg
            all_goals
              go_wp2
              go_roundw
              case rel => exact ⟨j + 1, by omega, by omega, by go_num, by rw [HAN.out]; rfl, by first | rfl | trivial⟩
              case measure => simp [intOf]; omega
        · obtain rfl : j = S.length := by omega
          rw [List.take_length, HSN.out]
          obtain ⟨b0, t0, hb0, hn32, hn43, hn45⟩ := HSH.out.head
          have hd1 : s.data.toList.drop i = S ++ b0 :: (t0 ++ R) := by
            rw [HDR.out, hb0]; rfl
          obtain ⟨hl2, hbt⟩ := at_dropN (j := S.length) rfl hd1
          have hd2 := drop_plus HDR.out
          clear hd1
          have HD2 : Hid _ := hd2
          clear hd2 HDR
          have hi1 : i ≤ i + S.length := by omega
          generalize i + S.length = i1 at *
          have hki : (i1 : Int) < (s.size : Int) := by omega
          obtain ⟨bi, hbi⟩ : ∃ bi : Int, ((s[i1].toNat : Nat) : Int) = bi := ⟨_, rfl⟩
          have hx1 : ¬ bi = 32 := by rw [← hbi, hbt]; intro h; exact hn32 (UInt8.toNat_inj.1 (by have : (32 : UInt8).toNat = 32 := rfl; omega))
          have hx2 : ¬ bi = 43 := by rw [← hbi, hbt]; intro h; exact hn43 (UInt8.toNat_inj.1 (by have : (43 : UInt8).toNat = 43 := rfl; omega))
          have hx3 : ¬ bi = 45 := by rw [← hbi, hbt]; intro h; exact hn45 (UInt8.toNat_inj.1 (by have : (45 : UInt8).toNat = 45 := rfl; omega))
          have hy1 : (bi == 32) = false := by simpa using hx1
          have hy2 : (bi == 43) = false := by simpa using hx2
          have hy3 : (bi == 45) = false := by simpa using hx3
          clear hb0 hbt
          have hneg : ∃ ng, decide (q1 < 0) = ng := ⟨_, rfl⟩
          obtain ⟨ng, hng⟩ := hneg
          have HNG : Hid _ := hng
          clear hng
          rw [HNG.out]
          have hwo : ∃ wo : World, wo = wr := ⟨_, rfl⟩
          obtain ⟨wo, rfl⟩ := hwo
          go_upto_block 4 with fail
          clear hx1 hx2 hx3 hy1 hy2 hy3 hbi
          obtain ⟨i2, HI2⟩ : ∃ i2, Hid (i2 = i1 + D.length) := ⟨_, rfl⟩
          obtain ⟨C0, HC0⟩ : ∃ C0, Hid (C0 = dgm m 0 D) := ⟨_, rfl⟩
          have hd3 : s.data.toList.drop (i1 + D.length) = (P ++ V) ++ R := drop_plus (by rw [← List.append_assoc, ← List.append_assoc, List.append_assoc D P V]; exact HD2.out)
          rw [← HI2.out] at hd3
          have HD3 : Hid _ := hd3
          have hi2le : i2 ≤ s.size := by
            have h0 := congrArg List.length HD2.out
            rw [List.length_drop, toList_len, List.length_append, List.length_append] at h0
            have := HI2.out
            omega
          have hi12 : i1 ≤ i2 := by have := HI2.out; omega
          have hi12L : i1 + D.length ≤ i2 := by have := HI2.out; omega
          have hlen1 : 1 ≤ D.length + P.length + V.length := by
            obtain ⟨c, t, h, _⟩ := HSH.out.head
            have := congrArg List.length h
            simp at this
            omega
          have HNEXT : Hid (((P ++ V) ++ R = [] ∧ ¬ (i2 : Int) < (s.size : Int)) ∨ ∃ (hlt : i2 < s.size), s[i2] = 42 ∨ s[i2] = 120 ∨ s[i2] = 32) := by
            rcases HSH.out.next HR.out with h0 | ⟨b, t, h0, hb⟩
            · exact .inl ⟨h0, by
                have := end_drop (hd3.trans h0) hi2le
                simp at this
                omega⟩
            · obtain ⟨h1, h2⟩ := at_drop (A := []) (c := b) (R := t) (by rw [hd3, h0]; rfl)
              exact .inr ⟨h1, by
                have h3 : s[i2] = b := h2
                rw [h3]; exact hb⟩
          clear hd3
          go_cut [7, 9] (fun s7 s9 wc => s7 = .int .i64 (i2 : Nat) ∧ s9 = .int .i64 C0 ∧ wc = wo)
          case first => as_aux_lemma =>
            go_wp2_with fail
            go_loopw [7, 9] (fun k c wr => ∃ (j : Nat) (C : Int), j ≤ D.length ∧ i1 + j ≤ s.size ∧ k = .int .i64 ((i1 + j : Nat) : Int) ∧ c = .int .i64 C ∧ Hid (C = dgm m 0 (D.take j)) ∧ wr = wo) (fun k _ _ => s.size - (intOf k).toNat)
            case atStart => exact ⟨0, 0, by omega, by omega, rfl, rfl, rfl, rfl⟩
            case round =>
              obtain ⟨j, C, hj, hij, rfl, rfl, HCD, rfl⟩ := hrel
              by_cases hjl : j < D.length
              · obtain ⟨c, hc⟩ : ∃ c, D[j]? = some c := ⟨D[j], List.getElem?_eq_getElem hjl⟩
                have hdig := HSH.out.dig c (List.mem_of_getElem? hc)
                have hTk : D.take (j + 1) = D.take j ++ [c] := by rw [List.take_add_one, hc]; rfl
                have hd1 : s.data.toList.drop i1 = D.take j ++ c :: (D.drop (j + 1) ++ ((P ++ V) ++ R)) := by
                  have hsp : D = D.take j ++ c :: D.drop (j + 1) := by
                    rw [List.getElem?_eq_getElem hjl] at hc
                    rw [← Option.some.inj hc, ← List.drop_eq_getElem_cons hjl, List.take_append_drop]
                  have h0 := HD2.out
                  rw [List.append_assoc, hsp] at h0
                  rw [h0, List.append_assoc]
                  rfl
                obtain ⟨hl3, hbt⟩ := at_dropN (j := j) (by rw [List.length_take]; omega) hd1
                have hrng := dgm_rng (m := m) (by omega) (D.take j) 0 (by omega) (by omega)
                rw [← HCD.out] at hrng
                obtain ⟨hC0, hC1⟩ := hrng
                have HC2 : Hid (dgm m 0 (D.take (j + 1)) = (10 * C + ((c.toNat : Int) - 48)) % m) := by
                  show _ = _
                  rw [hTk, dgm_snoc, ← HCD.out]
                obtain ⟨bi, hbi0⟩ : ∃ bi : Int, (c.toNat : Int) = bi := ⟨_, rfl⟩
                rw [hbi0] at HC2
                have h48 : 48 ≤ bi ∧ bi ≤ 57 := by
                  unfold isDig at hdig
                  rw [Bool.and_eq_true, decide_eq_true_iff, decide_eq_true_iff, UInt8.le_iff_toNat_le, UInt8.le_iff_toNat_le] at hdig
                  have e1 : (48 : UInt8).toNat = 48 := rfl
                  have e2 : (57 : UInt8).toNat = 57 := rfl
                  omega
                obtain ⟨h48, h57⟩ := h48
                have hki : ((i1 + j : Nat) : Int) < (s.size : Int) := by omega
                have hbi : ((s[i1 + j].toNat : Nat) : Int) = bi := by rw [hbt]; exact hbi0
                clear hd1 hTk hc hbt hbi0 hdig HCD
                have hij1 : i1 + j + 1 ≤ s.size := by omega
                have HIJ : Hid (i1 + (j + 1) = i1 + j + 1) := by show _ = _; omega
                generalize hIJ : i1 + j = ij at *
                have HIJ2 : Hid _ := hIJ
                clear hIJ
                have hdw := digit_wrap bi h48 h57
                have hw1 : IntKind.i64.wrap (10 * C) = 10 * C := by rw [IntKind.wrap_i64]; omega
                have hw2 : IntKind.i64.wrap (10 * C + (bi - 48)) = 10 * C + (bi - 48) := by rw [IntKind.wrap_i64]; omega
                have ht1 : (10 * C + (bi - 48)).tmod m = (10 * C + (bi - 48)) % m := Int.tmod_eq_emod_of_nonneg (by omega)
                have hr1 : 0 ≤ (10 * C + (bi - 48)) % m := Int.emod_nonneg _ (by omega)
                have hr2 : (10 * C + (bi - 48)) % m < m := Int.emod_lt_of_pos _ (by omega)
                have hw3 : IntKind.i64.wrap ((10 * C + (bi - 48)) % m) = (10 * C + (bi - 48)) % m := by rw [IntKind.wrap_i64]; omega
                have hm0 : ¬ m = 0 := by omega
                have hmn : ¬ m = -1 := by omega
                generalize hZ : (10 * C + (bi - 48)) % m = Z at *
                go_wp2
                go_roundw
                case rel => exact ⟨j + 1, Z, by omega, by rw [HIJ.out]; exact hij1, by rw [HIJ.out]; go_num, rfl, HC2.out.symm, by first | rfl | trivial⟩
                case measure => simp [intOf]; omega
              · obtain rfl : j = D.length := by omega
                have hC : C = C0 := by rw [HCD.out, List.take_length, HC0.out]
                subst hC
                rw [← HI2.out]
                clear HCD HC0 HI2 hij hj HD2
                rcases HNEXT.out with ⟨_, h0⟩ | ⟨hl9, h0⟩
                · have hge := h0
                  go_wp2
                  go_meet
                  case rel => exact ⟨rfl, rfl, by first | rfl | trivial⟩
                · have hki9 : (i2 : Int) < (s.size : Int) := by omega
                  obtain ⟨b9, hb9⟩ : ∃ b9 : Int, ((s[i2].toNat : Nat) : Int) = b9 := ⟨_, rfl⟩
                  have hc9 : b9 = 42 ∨ b9 = 120 ∨ b9 = 32 := by
                    rw [← hb9]
                    rcases h0 with h0 | h0 | h0 <;> rw [h0]
                    · exact .inl rfl
                    · exact .inr (.inl rfl)
                    · exact .inr (.inr rfl)
                  rcases hc9 with rfl | rfl | rfl
                  all_goals
                    go_wp2
                    go_meet
                    case rel => exact ⟨rfl, rfl, by first | rfl | trivial⟩
          case rest => as_aux_lemma =>
            obtain ⟨rfl, rfl, rfl⟩ := hcut
            have hwo : ∃ wo : World, wo = wc := ⟨_, rfl⟩
            obtain ⟨wo, rfl⟩ := hwo
            obtain ⟨C, HCC⟩ : ∃ C, Hid (C = (N : Int) % m) := ⟨_, rfl⟩
            have HDE : Hid ((((i2 : Int) == (i1 : Int)) = true ∧ C = 1) ∨ (((i2 : Int) == (i1 : Int)) = false ∧ C = C0)) := by
              have h2 := HI2.out
              have hsh := HSH.out
              cases hsh with
              | num h1 h2' h3 => exact .inr ⟨by have := List.length_pos_iff.2 h2'; rw [beq_eq_false_iff_ne]; omega, by
                  have := dgm_num (m := m) (by omega) D 0 h1
                  rw [show ((0 : Nat) : Int) % m = 0 by simp, h3] at this
                  rw [HC0.out, HCC.out, this]⟩
              | one h1 h2' => exact .inl ⟨by simp at h2; rw [beq_iff_eq]; omega, by rw [HCC.out, Int.emod_eq_of_lt (by omega) (by omega)]; rfl⟩
              | mul h1 h2' h3 h4 h5 => exact .inr ⟨by have := List.length_pos_iff.2 h2'; rw [beq_eq_false_iff_ne]; omega, by
                  have := dgm_num (m := m) (by omega) D 0 h1
                  rw [show ((0 : Nat) : Int) % m = 0 by simp, h3] at this
                  rw [HC0.out, HCC.out, this]⟩
            have HD12 : Hid (D ≠ [] → i1 < i2) := fun h => by have := List.length_pos_iff.2 h; have := HI2.out; omega
            clear HC0 HI2 HD2
            go_upto_if 79 with fail
            go_cut [9] (fun s9 wc => s9 = .int .i64 C ∧ wc = wo)
            case first => as_aux_lemma =>
              rcases HDE.out with ⟨h1, h2⟩ | ⟨h1, h2⟩
              · subst h2
                go_wp2
                go_meet
                case rel => exact ⟨rfl, by first | rfl | trivial⟩
              · subst h2
                go_wp2
                go_meet
                case rel => exact ⟨rfl, by first | rfl | trivial⟩
            case rest => as_aux_lemma =>
              obtain ⟨rfl, rfl⟩ := hcut
              have hwo : ∃ wo : World, wo = wc := ⟨_, rfl⟩
              obtain ⟨wo, rfl⟩ := hwo
              obtain ⟨Bm, HBm⟩ : ∃ Bm, Hid (Bm = decide (P = [42])) := ⟨_, rfl⟩
              go_upto_region 15 with fail
              go_cut [89] (fun s89 wc => s89 = .bool Bm ∧ wc = wo)
              case first => as_aux_lemma =>
                have hBm := HSH.out.star HR.out
                rw [← HBm.out] at hBm
                rcases HNEXT.out with ⟨h9, h0⟩ | ⟨hl9, h0⟩
                · have hge := h0
                  have hB : Bm = false := by rw [hBm]; simp [h9]
                  subst hB
                  clear HBm hBm
                  go_wp2
                  go_meet
                  case rel => exact ⟨rfl, by first | rfl | trivial⟩
                · have hki9 : (i2 : Int) < (s.size : Int) := by omega
                  obtain ⟨b9, hb9⟩ : ∃ b9 : Int, ((s[i2].toNat : Nat) : Int) = b9 := ⟨_, rfl⟩
                  have hc9 : (b9 = 42 ∧ Bm = true) ∨ (b9 = 120 ∧ Bm = false) ∨ (b9 = 32 ∧ Bm = false) := by
                    have hh : (P ++ V ++ R).head? = some s[i2] := by
                      rw [← HD3.out, List.head?_drop, byte_at hl9]
                    rw [← hb9, hBm, hh]
                    rcases h0 with h0 | h0 | h0 <;> rw [h0]
                    · exact .inl ⟨rfl, by decide⟩
                    · exact .inr (.inl ⟨rfl, by decide⟩)
                    · exact .inr (.inr ⟨rfl, by decide⟩)
                  clear HBm hBm
                  rcases hc9 with ⟨rfl, rfl⟩ | ⟨rfl, rfl⟩ | ⟨rfl, rfl⟩
                  all_goals
                    go_wp2
                    go_meet
                    case rel => exact ⟨rfl, by first | rfl | trivial⟩
              case rest => as_aux_lemma =>
                obtain ⟨rfl, rfl⟩ := hcut
                have hwo : ∃ wo : World, wo = wc := ⟨_, rfl⟩
                obtain ⟨wo, rfl⟩ := hwo
                obtain ⟨i3, HI3⟩ : ∃ i3, Hid (i3 = i2 + P.length) := ⟨_, rfl⟩
                have HBI : Hid ((Bm = true ∧ i3 = i2 + 1) ∨ (Bm = false ∧ i3 = i2)) := by
                  have h2 := HI3.out
                  have h3 := HBm.out
                  have hsh := HSH.out
                  cases hsh with
                  | num _ _ _ => exact .inr ⟨by rw [h3]; rfl, by simpa using h2⟩
                  | one _ _ => exact .inr ⟨by rw [h3]; rfl, by simpa using h2⟩
                  | mul _ _ _ _ _ => exact .inl ⟨by rw [h3]; rfl, by simpa using h2⟩
                have hd4 : s.data.toList.drop i3 = V ++ R := by
                  rw [HI3.out]
                  exact drop_plus (by rw [← List.append_assoc]; exact HD3.out)
                have HD4 : Hid _ := hd4
                have hi23 : i2 ≤ i3 := by have := HI3.out; omega
                have hi23L : i2 + P.length ≤ i3 := by have := HI3.out; omega
                have hi3le : i3 ≤ s.size := by
                  have h0 := congrArg List.length HD3.out
                  rw [List.length_drop, toList_len, List.length_append, List.length_append] at h0
                  have := HI3.out
                  omega
                clear hd4 HI3 HBm HNEXT
                go_upto_if 89 with fail
                go_cut [7] (fun s7 wc => s7 = .int .i64 (i3 : Nat) ∧ wc = wo)
                case first => as_aux_lemma =>
                  rcases HBI.out with ⟨h1, h2⟩ | ⟨h1, h2⟩
                  · subst h1
                    have HE : Hid _ := h2
                    clear h2 HBI
                    go_wp2
                    go_meet
                    case rel => exact ⟨by rw [HE.out]; go_num, by first | rfl | trivial⟩
                  · subst h1
                    subst h2
                    clear HBI
                    go_wp2
                    go_meet
                    case rel => exact ⟨rfl, by first | rfl | trivial⟩
                case rest => as_aux_lemma =>
                  obtain ⟨rfl, rfl⟩ := hcut
                  have hwo : ∃ wo : World, wo = wc := ⟨_, rfl⟩
                  obtain ⟨wo, rfl⟩ := hwo
                  obtain ⟨Bx, HBx⟩ : ∃ Bx, Hid (Bx = decide (0 < q2)) := ⟨_, rfl⟩
                  have HX : Hid ((Bx = true ∧ 0 < q2 ∧ V = varT q2) ∨ (Bx = false ∧ q2 = 0 ∧ V = [] ∧ ((i3 : Int) == (i1 : Int)) = false)) := by
                    have h3 := HBx.out
                    have hsh := HSH.out
                    have h4 := HDE.out
                    cases hsh with
                    | num h1 h2 h3' =>
                      refine .inr ⟨by rw [h3]; rfl, rfl, rfl, ?_⟩
                      rw [beq_eq_false_iff_ne]
                      have := HD12.out h2
                      omega
                    | one h1 h2 => exact .inl ⟨by rw [h3]; exact decide_eq_true h1, h1, h2⟩
                    | mul h1 h2 h3' h4' h5 => exact .inl ⟨by rw [h3]; exact decide_eq_true h4', h4', h5⟩
                  clear HBx HBI HDE
                  go_upto_region 18 with fail
                  go_cut [101] (fun s101 wc => s101 = .bool Bx ∧ wc = wo)
                  case first => as_aux_lemma =>
                    rcases HX.out with ⟨h1, h2, h3⟩ | ⟨h1, h2, h3, h4⟩
                    · subst h1
                      obtain ⟨vt, hvt⟩ := var_head q2
                      obtain ⟨hl7, hbt7⟩ := at_drop (A := []) (c := 120) (R := vt ++ R) (by rw [HD4.out, h3, hvt]; rfl)
                      have hl7 : i3 < s.size := hl7
                      have hki7 : (i3 : Int) < (s.size : Int) := by omega
                      have hbi7 : ((s[i3].toNat : Nat) : Int) = 120 := by
                        have : s[i3] = 120 := hbt7
                        rw [this]; rfl
                      clear hbt7 hvt h3
                      go_wp2
                      go_meet
                      case rel => exact ⟨rfl, by first | rfl | trivial⟩
                    · subst h1
                      have hd5 : s.data.toList.drop i3 = R := by rw [HD4.out, h3]; rfl
                      rcases HR.out with hR0 | ⟨op, R', hR1, _⟩
                      · have hend := end_drop hd5 hi3le
                        have hge : ¬ (i3 : Int) < (s.size : Int) := by rw [hR0] at hend; simp at hend; omega
                        clear hend hd5 h4
                        go_wp2
                        go_meet
                        case rel => exact ⟨rfl, by first | rfl | trivial⟩
                      · obtain ⟨hl7, hbt7⟩ := at_drop (A := []) (c := 32) (R := op :: R') (by rw [hd5, hR1]; rfl)
                        have hl7 : i3 < s.size := hl7
                        have hki7 : (i3 : Int) < (s.size : Int) := by omega
                        have hbi7 : ((s[i3].toNat : Nat) : Int) = 32 := by
                          have : s[i3] = 32 := hbt7
                          rw [this]; rfl
                        clear hbt7 hd5 h4
                        go_wp2
                        go_meet
                        case rel => exact ⟨rfl, by first | rfl | trivial⟩
                  case rest => as_aux_lemma =>
                    obtain ⟨rfl, rfl⟩ := hcut
                    have hwo : ∃ wo : World, wo = wc := ⟨_, rfl⟩
                    obtain ⟨wo, rfl⟩ := hwo
                    obtain ⟨ie, HIE⟩ : ∃ ie, Hid (ie = i3 + V.length) := ⟨_, rfl⟩
                    have hdE : s.data.toList.drop ie = R := by rw [HIE.out]; exact drop_plus HD4.out
                    have hiel : ie ≤ s.size := by
                      have h0 := congrArg List.length HD4.out
                      rw [List.length_drop, toList_len, List.length_append] at h0
                      have := HIE.out
                      omega
                    have hi3e : i3 ≤ ie := by have := HIE.out; omega
                    have hi3eL : i1 < ie := by have := HIE.out; omega
                    have HDE2 : Hid _ := hdE
                    have HEND : Hid ((R = [] ∧ ¬ (ie : Int) < (s.size : Int)) ∨ (∃ hlt : ie < s.size, ((s[ie].toNat : Nat) : Int) = 32)) := by
                      rcases HR.out with hR0 | ⟨op, R', hR1, _⟩
                      · have hend := end_drop hdE hiel
                        exact .inl ⟨hR0, by rw [hR0] at hend; simp at hend; omega⟩
                      · obtain ⟨hl7, hbt7⟩ := at_drop (A := []) (c := 32) (R := op :: R') (by rw [hdE, hR1]; rfl)
                        exact .inr ⟨hl7, by
                          have : s[ie] = 32 := hbt7
                          rw [this]; rfl⟩
                    clear hdE
                    go_upto_if 101 with fail
                    go_cut [7, 11] (fun s7 s11 wc => s7 = .int .i64 (ie : Nat) ∧ s11 = .int .i64 (q2 : Nat) ∧ wc = wo)
                    case first => as_aux_lemma =>
                      rcases HX.out with ⟨h1, h2, h3⟩ | ⟨h1, h2, h3, h4⟩
                      · subst h1
                        have HV : Hid _ := h3
                        clear h3 HX
                        by_cases hk1 : q2 = 1
                        · subst hk1
                          have hie1 : ie = i3 + 1 := by rw [HIE.out, HV.out]; rfl
                          subst hie1
                          have htn : ((i3 : Int) + 1).toNat = i3 + 1 := by omega
                          rcases HEND.out with ⟨_, hge⟩ | ⟨hlt9, hb9⟩
                          · have hge2 : ¬ (i3 : Int) + 1 < (s.size : Int) := by omega
                            clear HEND HIE
                            go_wp2
                            go_meet
                            case rel => exact ⟨by go_num, rfl, by first | rfl | trivial⟩
                          · have hki9 : (i3 : Int) + 1 < (s.size : Int) := by omega
                            clear HEND HIE
                            go_wp2
                            go_meet
                            case rel => exact ⟨by go_num, rfl, by first | rfl | trivial⟩
                        · have hk2 : 1 < q2 := by omega
                          have hv2 : varT q2 = 120 :: 94 :: Lib.decDigits q2 := by unfold varT; rw [if_pos hk2]; rfl
                          obtain ⟨hE1, hE2, hE3⟩ := dec_all q2
                          have hdV := HD4.out
                          have hiE := HIE.out
                          rw [HV.out, hv2] at hdV hiE
                          generalize Lib.decDigits q2 = E at *
                          have hd5 : s.data.toList.drop (i3 + 2) = E ++ R := by
                            have : s.data.toList.drop i3 = [120, 94] ++ (E ++ R) := hdV
                            exact drop_plus this
                          have HIQ : Hid (ie = i3 + 2 + E.length) := by show _ = _; simp at hiE; omega
                          obtain ⟨hl4, hbt4⟩ := at_drop (A := [120]) (c := 94) (R := E ++ R) hdV
                          have hl4 : i3 + 1 < s.size := hl4
                          have htn : ((i3 : Int) + 1).toNat = i3 + 1 := by omega
                          have hki4 : (i3 : Int) + 1 < (s.size : Int) := by omega
                          have hbi4 : ((s[i3 + 1].toNat : Nat) : Int) = 94 := by
                            have : s[i3 + 1] = 94 := hbt4
                            rw [this]; rfl
                          have HD5 : Hid _ := hd5
                          have HE1 : Hid _ := hE1
                          have HEQ : Hid (dgm 1000 0 E = (q2 : Int)) := by
                            have := dgm_num (m := 1000) (by omega) E 0 hE1
                            rw [show ((0 : Nat) : Int) % 1000 = 0 by simp, hE2] at this
                            show _ = _
                            rw [this, Int.emod_eq_of_lt (by omega) (by omega)]
                          clear hd5 hE1 hE2 hv2 hdV hbt4 hiE HIE HV
                          go_wp2_with fail
                          clear hbi4 hki4
                          go_loopw [7, 11] (fun k c wr => ∃ (j : Nat) (G : Int), j ≤ E.length ∧ i3 + 2 + j ≤ s.size ∧ k = .int .i64 ((i3 + 2 + j : Nat) : Int) ∧ c = .int .i64 G ∧ Hid (G = dgm 1000 0 (E.take j)) ∧ wr = wo) (fun k _ _ => s.size - (intOf k).toNat)
                          case atStart => exact ⟨0, 0, by omega, by omega, by go_num, rfl, rfl, rfl⟩
                          case round =>
                            obtain ⟨j, G, hj, hij, rfl, rfl, HGD, rfl⟩ := hrel
                            by_cases hjl : j < E.length
                            · obtain ⟨c, hc⟩ : ∃ c, E[j]? = some c := ⟨E[j], List.getElem?_eq_getElem hjl⟩
                              have hdig := HE1.out c (List.mem_of_getElem? hc)
                              have hTk : E.take (j + 1) = E.take j ++ [c] := by rw [List.take_add_one, hc]; rfl
                              have hd6 : s.data.toList.drop (i3 + 2) = E.take j ++ c :: (E.drop (j + 1) ++ R) := by
                                have hsp : E = E.take j ++ c :: E.drop (j + 1) := by
                                  rw [List.getElem?_eq_getElem hjl] at hc
                                  rw [← Option.some.inj hc, ← List.drop_eq_getElem_cons hjl, List.take_append_drop]
                                have h0 := HD5.out
                                rw [hsp] at h0
                                rw [h0, List.append_assoc]
                                rfl
                              obtain ⟨hl5, hbt5⟩ := at_dropN (j := j) (by rw [List.length_take]; omega) hd6
                              have hrng := dgm_rng (m := 1000) (by omega) (E.take j) 0 (by omega) (by omega)
                              rw [← HGD.out] at hrng
                              obtain ⟨hG0, hG1⟩ := hrng
                              have HG2 : Hid (dgm 1000 0 (E.take (j + 1)) = (10 * G + ((c.toNat : Int) - 48)) % 1000) := by
                                show _ = _
                                rw [hTk, dgm_snoc, ← HGD.out]
                              obtain ⟨bj, hbj0⟩ : ∃ bj : Int, (c.toNat : Int) = bj := ⟨_, rfl⟩
                              rw [hbj0] at HG2
                              have h48 : 48 ≤ bj ∧ bj ≤ 57 := by
                                unfold isDig at hdig
                                rw [Bool.and_eq_true, decide_eq_true_iff, decide_eq_true_iff, UInt8.le_iff_toNat_le, UInt8.le_iff_toNat_le] at hdig
                                have e1 : (48 : UInt8).toNat = 48 := rfl
                                have e2 : (57 : UInt8).toNat = 57 := rfl
                                omega
                              obtain ⟨h48, h57⟩ := h48
                              have hki5 : ((i3 + 2 + j : Nat) : Int) < (s.size : Int) := by omega
                              have hbi5 : ((s[i3 + 2 + j].toNat : Nat) : Int) = bj := by rw [hbt5]; exact hbj0
                              clear hd6 hTk hc hbt5 hbj0 hdig HGD
                              have hij1 : i3 + 2 + j + 1 ≤ s.size := by omega
                              have HIJ : Hid (i3 + 2 + (j + 1) = i3 + 2 + j + 1) := by show _ = _; omega
                              generalize hIJ : i3 + 2 + j = ij at *
                              clear hIJ
                              have hdw := digit_wrap bj h48 h57
                              have hw1 : IntKind.i64.wrap (10 * G) = 10 * G := by rw [IntKind.wrap_i64]; omega
                              have hw2 : IntKind.i64.wrap (10 * G + (bj - 48)) = 10 * G + (bj - 48) := by rw [IntKind.wrap_i64]; omega
                              have ht1 : (10 * G + (bj - 48)).tmod 1000 = (10 * G + (bj - 48)) % 1000 := Int.tmod_eq_emod_of_nonneg (by omega)
                              have hr1 : 0 ≤ (10 * G + (bj - 48)) % 1000 := Int.emod_nonneg _ (by omega)
                              have hr2 : (10 * G + (bj - 48)) % 1000 < 1000 := Int.emod_lt_of_pos _ (by omega)
                              have hw3 : IntKind.i64.wrap ((10 * G + (bj - 48)) % 1000) = (10 * G + (bj - 48)) % 1000 := by rw [IntKind.wrap_i64]; omega
                              generalize hZ : (10 * G + (bj - 48)) % 1000 = Z at *
                              go_wp2
                              go_roundw
                              case rel => exact ⟨j + 1, Z, by omega, by rw [HIJ.out]; exact hij1, by rw [HIJ.out]; go_num, rfl, HG2.out.symm, by first | rfl | trivial⟩
                              case measure => simp [intOf]; omega
                            · obtain rfl : j = E.length := by omega
                              have hG : G = (q2 : Int) := by rw [HGD.out, List.take_length, HEQ.out]
                              subst hG
                              rw [← HIQ.out]
                              clear HGD HEQ HD5 hij HIQ hj
                              rcases HEND.out with ⟨_, hge⟩ | ⟨hlt9, hb9⟩
                              · clear HEND
                                go_wp2
                                go_meet
                                case rel => exact ⟨rfl, rfl, by first | rfl | trivial⟩
                              · have hki9 : (ie : Int) < (s.size : Int) := by omega
                                clear HEND
                                go_wp2
                                go_meet
                                case rel => exact ⟨rfl, rfl, by first | rfl | trivial⟩
                      · subst h1
                        subst h2
                        have hie1 : ie = i3 := by rw [HIE.out, h3]; rfl
                        subst hie1
                        clear h3 HX HIE HEND
                        go_wp2
                        go_meet
                        case rel => exact ⟨rfl, rfl, by first | rfl | trivial⟩
                    case rest => as_aux_lemma =>
                      obtain ⟨rfl, rfl, rfl⟩ := hcut
                      have hwo : ∃ wo : World, wo = wc := ⟨_, rfl⟩
                      obtain ⟨wo, rfl⟩ := hwo
                      have HOWN : Hid (wo.ownsRow w.heap.size 3 1 (.slice (some ⟨w.heap.size, 0, none⟩) 11 11) 11 (cs.map (Value.int .i64))) := hown
                      have hd3 := HDE2.out
                      clear HX HEND HIE HD4 HD3 HDE2
                      have hCr : 0 ≤ C ∧ C < m := by rw [HCC.out]; exact ⟨Int.emod_nonneg _ (by omega), Int.emod_lt_of_pos _ (by omega)⟩
                      obtain ⟨hC0, hC1⟩ := hCr
                      obtain ⟨z, HZ⟩ : ∃ z, Hid (cs.getD q2 0 = z) := ⟨_, rfl⟩
                      have hzr : 0 ≤ z ∧ z < m := by rw [← HZ.out, HC.out.2 q2 (by omega)]; exact ⟨Int.emod_nonneg _ (by omega), Int.emod_lt_of_pos _ (by omega)⟩
                      obtain ⟨hz0, hz1⟩ := hzr
                      have hcp : wo.cell? ⟨w.heap.size, q2, none⟩ = some (.int .i64 z) := by
                        rw [HOWN.out.cellAt q2 (by omega), ← HZ.out]
                        have := HC.out.1
                        simp [List.getD, show q2 < cs.length by omega]
                      have hfp := HOWN.out.frozenAt q2
                      have hBg := Nat.le_refl w.heap.size
                      have hm0 : ¬ m = 0 := by omega
                      have hmn : ¬ m = -1 := by omega
                      have HNX2 : Hid (Hd s.data.toList ie rs') := HNX.out ie hd3
                      have hg1 : ¬ ((q2 : Nat) : Int) > 10 := by omega
                      clear hd3 hown
                      cases ng
                      · have hq : ¬ q1 < 0 := by simpa using HNG.out
                        have HST : Hid (CsO m (cs.set q2 ((z + C) % m)) (dn ++ [(q1, q2)])) := by
                          have := HC.out.next (c := q1) (c' := C) (k := q2) (by rw [HCC.out, HN1.out, Int.natAbs_of_nonneg (by omega)])
                          rw [HZ.out] at this
                          exact this
                        have hq0 : 0 ≤ (z + C) % m := Int.emod_nonneg _ (by omega)
                        have hq1 : (z + C) % m < m := Int.emod_lt_of_pos _ (by omega)
                        have ht1 : (z + C).tmod m = (z + C) % m := Int.tmod_eq_emod_of_nonneg (by omega)
                        have hw1 : IntKind.i64.wrap (z + C) = z + C := by rw [IntKind.wrap_i64]; omega
                        have hw2 : IntKind.i64.wrap ((z + C) % m) = (z + C) % m := by rw [IntKind.wrap_i64]; omega
                        generalize hY : (z + C) % m = Y at *
                        go_wp2
                        go_roundw
                        case rel =>
                          refine ⟨ie, cs.set q2 Y, dn ++ [(q1, q2)], rs', by go_num, by omega, HT2, HNX2, HST, ?_, hbel.setCell hBg _⟩
                          rw [← map_set]
                          exact (World.ownsRow.stored HOWN.out _ _).1
                        case measure => simp [intOf]; omega
                      · have hq : q1 < 0 := by simpa using HNG.out
                        have HST : Hid (CsO m (cs.set q2 ((z + (m - C) % m) % m)) (dn ++ [(q1, q2)])) := by
                          have := HC.out.next (c := q1) (c' := (m - C) % m) (k := q2) (by rw [HCC.out, HN1.out]; exact neg_mod (by omega) hq)
                          rw [HZ.out] at this
                          exact this
                        have hn0 : 0 ≤ (m - C) % m := Int.emod_nonneg _ (by omega)
                        have hn1 : (m - C) % m < m := Int.emod_lt_of_pos _ (by omega)
                        have ht0 : (m - C).tmod m = (m - C) % m := Int.tmod_eq_emod_of_nonneg (by omega)
                        have hw0 : IntKind.i64.wrap (m - C) = m - C := by rw [IntKind.wrap_i64]; omega
                        have hw3 : IntKind.i64.wrap ((m - C) % m) = (m - C) % m := by rw [IntKind.wrap_i64]; omega
                        generalize hX : (m - C) % m = X at *
                        have hq0 : 0 ≤ (z + X) % m := Int.emod_nonneg _ (by omega)
                        have hq1 : (z + X) % m < m := Int.emod_lt_of_pos _ (by omega)
                        have ht1 : (z + X).tmod m = (z + X) % m := Int.tmod_eq_emod_of_nonneg (by omega)
                        have hw1 : IntKind.i64.wrap (z + X) = z + X := by rw [IntKind.wrap_i64]; omega
                        have hw2 : IntKind.i64.wrap ((z + X) % m) = (z + X) % m := by rw [IntKind.wrap_i64]; omega
                        generalize hY : (z + X) % m = Y at *
                        go_wp2
                        go_roundw
                        case rel =>
                          refine ⟨ie, cs.set q2 Y, dn ++ [(q1, q2)], rs', by go_num, by omega, HT2, HNX2, HST, ?_, hbel.setCell hBg _⟩
                          rw [← map_set]
                          exact (World.ownsRow.stored HOWN.out _ _).1
                        case measure => simp [intOf]; omega

end Go.Proofs.YtldcjkhbiffdoabGreatDoor

set_option linter.unusedSimpArgs false
namespace Go.Proofs.YtldcjkhbiffdoabGreatDoor
open Go.RowKit

theorem prs_at {i : Nat} (h : i < 4) : ∃ m, prs.getD i 0 = m ∧ m ∈ prs ∧ 1000 < m ∧ m ≤ 2147483647 := by
  rcases (show i = 0 ∨ i = 1 ∨ i = 2 ∨ i = 3 by omega) with rfl | rfl | rfl | rfl
  · exact ⟨_, rfl, .head _, by decide, by decide⟩
  · exact ⟨_, rfl, .tail _ (.head _), by decide, by decide⟩
  · exact ⟨_, rfl, .tail _ (.tail _ (.head _)), by decide, by decide⟩
  · exact ⟨_, rfl, .tail _ (.tail _ (.tail _ (.head _))), by decide, by decide⟩

set_option maxHeartbeats 1000000 in
theorem primes_any (w : World) : Calls Tryz.prog 21 #[] w fun e w' => ∃ a c, e = .returned (.slice a prs.length c) ∧ RowN w' (.slice a prs.length c) prs ∧ Below w.heap.size w w' := by
  go_enter Tryz.func21, Tryz.ntmps21
  go_wp2
  go_ret
  refine ⟨some ⟨w.heap.size, 0, none⟩, 4, rfl, ⟨rfl, .inr ⟨w.heap.size, 4, _, rfl, Nat.zero_le _, heap_alloc_new w _, by decide, by decide, rfl, rfl⟩⟩, (Below.refl _ _).alloc (Nat.le_refl _) _⟩

theorem ptm_lenW {zs : List Int} (hB : ∀ i, Lib.nDigits (zs.getD i 0).natAbs ≤ 30) {n : Nat} (hn : n ≤ 100) : ∀ m, (ptm zs n m).length ≤ 40 * m
  | 0 => by simp [ptm]
  | m + 1 => by
    unfold ptm
    have := ptm_lenW hB hn m
    have h2 := stepT_lenW (t := ptm zs n m) (c := zs.getD (n - 1 - m) 0) (k := n - 1 - m) (by omega) (hB _)
    omega

theorem ptext_lenW {zs : List Int} {e : Nat} (hl : zs.length ≤ 11) (hB : Bd zs e) (he : e ≤ 30) : (ptext zs).length ≤ 440 := by
  have h := ptm_lenW (zs := zs) (fun i => nDigits_le (Nat.lt_of_lt_of_le (hB i) (Nat.pow_le_pow_right (by omega) he)) (by omega)) (n := zs.length) (by omega) zs.length
  unfold ptext
  split
  · simp
  · omega

theorem coefsP_any (zs : List Int) (e : Nat) (m : Int) (w : World) (hl : zs.length ≤ 11) (hB : Bd zs e) (he : e ≤ 30) (hm : 1000 < m) (hm' : m ≤ 2147483647) :
    Calls Tryz.prog 24 #[.string ⟨(ptext zs).toArray⟩, .int .i64 m] w fun en w' => ∃ x cs, en = .returned (.tuple #[x, .bool true]) ∧ OwnN w.heap.size w' x cs ∧ Cm m cs zs ∧ Below w.heap.size w w' := by
  obtain ⟨tl, h1, h2, h3, h4⟩ := text_tms hl
  have hsz := ptext_lenW hl hB he
  refine (coefs_any ⟨(ptext zs).toArray⟩ tl m w h1 h2 h3 (by show (ptext zs).toArray.size ≤ 1000000; simp; omega) hm hm').mono fun en w' hE => ?_
  obtain ⟨x, cs, g1, g2, g3, g4⟩ := hE
  exact ⟨x, cs, g1, g2, g3.cm h4, g4⟩

theorem itoa_lenW {z : Int} (h : Lib.nDigits z.natAbs ≤ 30) : (Lib.itoa z).length ≤ 40 := by
  have h1 : (termT z.natAbs 0).length ≤ 35 := termT_lenW (by omega) h
  have h2 := txt_itoa z
  have h3 : txt [(z, 0)] = signT (decide (z < 0)) true ++ (termT z.natAbs 0 ++ []) := rfl
  rw [← h2, h3, List.length_append, List.append_nil]
  have := signT_len (decide (z < 0)) true
  omega

theorem coefsI_any (z : Int) (e : Nat) (m : Int) (w : World) (hB : z.natAbs < 10 ^ e) (he : e ≤ 30) (hm : 1000 < m) (hm' : m ≤ 2147483647) :
    Calls Tryz.prog 24 #[.string ⟨(Lib.itoa z).toArray⟩, .int .i64 m] w fun en w' => ∃ x cs, en = .returned (.tuple #[x, .bool true]) ∧ OwnN w.heap.size w' x cs ∧ Cm m cs [z] ∧ Below w.heap.size w w' := by
  have hd : Lib.nDigits z.natAbs ≤ 30 := nDigits_le (Nat.lt_of_lt_of_le hB (Nat.pow_le_pow_right (by omega) he)) (by omega)
  have hsz := itoa_lenW hd
  refine (coefs_any ⟨(Lib.itoa z).toArray⟩ [(z, 0)] m w (txt_itoa z).symm (by simp) (fun q hq => by
    obtain rfl : q = (z, 0) := by simpa using hq
    exact Nat.zero_le _) (by show (Lib.itoa z).toArray.size ≤ 1000000; simp; omega) hm hm').mono fun en w' hE => ?_
  obtain ⟨x, cs, g1, g2, g3, g4⟩ := hE
  exact ⟨x, cs, g1, g2, g3.cm (smT_one z), g4⟩

end Go.Proofs.YtldcjkhbiffdoabGreatDoor

set_option linter.unusedSimpArgs false
namespace Go.Proofs.YtldcjkhbiffdoabGreatDoor
open Go.RowKit

theorem cm_rng {m : Int} {cs zs : List Int} (h : Cm m cs zs) (hm : 1 < m) (k : Nat) : 0 ≤ cs.getD k 0 ∧ cs.getD k 0 < m := by
  by_cases hk : k < 11
  · rw [h.2 k hk]; exact ⟨Int.emod_nonneg _ (by omega), Int.emod_lt_of_pos _ (by omega)⟩
  · rw [getD_out (by rw [h.1]; omega)]; omega

theorem valueC_any {m : Int} {cs zs : List Int} (x : Int) (u : Value) (w : World) (hu : RowN w u cs) (h : Cm m cs zs) (hl : zs.length ≤ 11) (hm : 1000 < m) (hm' : m ≤ 2147483647) :
    Calls Tryz.prog 30 #[u, .int .i64 x, .int .i64 1, .int .i64 m] w fun e w' => e = .returned (.int .i64 (ev x zs % m)) ∧ Below w.heap.size w w' := by
  have := value_any cs x 1 m u w hu (by rw [h.1]; omega) (by rw [h.1]; omega) (by omega) hm' (cm_rng h (by omega)) (by omega) (by omega)
  rw [cm_val h (by omega) hl] at this
  exact this

end Go.Proofs.YtldcjkhbiffdoabGreatDoor

set_option linter.unusedSimpArgs false
namespace Go.Proofs.YtldcjkhbiffdoabGreatDoor
open Go.RowKit

theorem pread_tr' (l : List UInt8) : Tr (pread l).2.2 := by
  unfold pread
  split
  · exact Tr.nil
  · split
    · split
      · exact Tr.nil
      · split
        · exact tr_tz _
        · exact Tr.nil
    · exact Tr.nil

def OfV (w : World) (p : Value) : Prop := p = .pointer none ∨ ∃ zs, inB zs = true ∧ Tr zs ∧ IsP w p zs

theorem OfV.below {w w' : World} {p : Value} (h : OfV w p) (hb : Below w.heap.size w w') : OfV w' p := by
  rcases h with h | ⟨zs, h1, h2, h3⟩
  · exact .inl h
  · exact .inr ⟨zs, h1, h2, h3.below hb⟩

set_option maxHeartbeats 1000000 in
theorem of_any (s : ByteArray) (w : World) (ht : Tab w) (hs0 : s.size ≤ 9223372036854775807) :
    Calls Tryz.prog 9 #[.string s] w fun e w' => ∃ p, e = .returned (.tuple #[p, .bool true]) ∧ OfV w' p ∧ Below w.heap.size w w' := by
  by_cases hl : 1048576 < s.size
  · have hli : (1048576 : Int) < (s.size : Int) := by omega
    go_enter Tryz.func9, Tryz.ntmps9
    go_wp2
    go_ret2
    exact ⟨_, rfl, .inl rfl, Below.refl _ _⟩
  · have hR := read_any s w ht hs0
    have hbd := pread_bd s.data.toList (rsum_le _)
    rw [toList_len] at hbd
    have htr := pread_tr' s.data.toList
    generalize pread s.data.toList = r at *
    obtain ⟨r1, r2, zs⟩ := r
    obtain ⟨hb1, hb2, hb3⟩ := hbd
    have hb1 : r1 ≤ 3 := hb1
    have hb2 : r2 ≤ s.size := hb2
    have HTR : Hid (Tr zs) := htr
    clear htr hb3
    by_cases h0 : r1 = 0
    · subst h0
      go_enter Tryz.func9, Tryz.ntmps9
      go_wp2_with fail
      refine hR.mono ?_
      rintro e w1 ⟨hA, hbw1⟩
      rcases hA with ⟨_, hin, p, rfl, hp⟩ | ⟨hne, _⟩
      · obtain ⟨pk, pv, rfl, hpk, hpv⟩ := id hp
        go_wp2
        go_ret2
        exact ⟨_, rfl, .inr ⟨zs, hin, HTR.out, hp⟩, hbw1⟩
      · exact absurd rfl hne
    · have hcases : r1 = 1 ∨ r1 = 2 ∨ r1 = 3 := by omega
      rcases hcases with rfl | rfl | rfl
      all_goals
        go_enter Tryz.func9, Tryz.ntmps9
        go_wp2_with fail
        refine hR.mono ?_
        rintro e w1 ⟨hA, hbw1⟩
        rcases hA with ⟨hz, _⟩ | ⟨_, rfl⟩
        · exact absurd hz h0
        · go_wp2
          go_ret2
          exact ⟨_, rfl, .inl rfl, hbw1⟩

end Go.Proofs.YtldcjkhbiffdoabGreatDoor

set_option linter.unusedSimpArgs false
namespace Go.Proofs.YtldcjkhbiffdoabGreatDoor
open Go.RowKit

def szf : Nat → List UInt8 → Nat
  | n, [] => n
  | n, c :: l => szf (if c = 45 then n else 10 * n + (c.toNat - 48)) l

theorem szf_snoc (c : UInt8) : ∀ (l : List UInt8) (n : Nat), szf n (l ++ [c]) = if c = 45 then szf n l else 10 * szf n l + (c.toNat - 48)
  | [], n => by simp [szf]
  | d :: l, n => by
    show szf _ (l ++ [c]) = _
    rw [szf_snoc c l]
    rfl

theorem szf_digs : ∀ (l : List UInt8) (n : Nat), (∀ c, c ∈ l → isDig c = true) → szf n l = numOf n l
  | [], n, _ => rfl
  | d :: l, n, h => by
    have hd : d ≠ 45 := (dig_ne (h d (List.mem_cons_self ..))).2
    show szf (if d = 45 then n else 10 * n + (d.toNat - 48)) l = numOf (10 * n + (d.toNat - 48)) l
    rw [if_neg hd]
    exact szf_digs l _ fun c hc => h c (List.mem_cons_of_mem _ hc)

theorem szf_bd : ∀ (l : List UInt8) (n e : Nat), (∀ c, c ∈ l → c = 45 ∨ isDig c = true) → n < 10 ^ e → szf n l < 10 ^ (e + l.length)
  | [], n, e, _, h => h
  | d :: l, n, e, hd, h => by
    have hs := hd d (List.mem_cons_self ..)
    have : (if d = 45 then n else 10 * n + (d.toNat - 48)) < 10 ^ (e + 1) := by
      rw [Nat.pow_succ]
      split
      · omega
      · next hne =>
        have hdg := hs.resolve_left hne
        unfold isDig at hdg
        rw [Bool.and_eq_true, decide_eq_true_iff, decide_eq_true_iff, UInt8.le_iff_toNat_le, UInt8.le_iff_toNat_le] at hdg
        have e1 : (48 : UInt8).toNat = 48 := rfl
        have e2 : (57 : UInt8).toNat = 57 := rfl
        omega
    have := szf_bd l _ (e + 1) (fun c hc => hd c (List.mem_cons_of_mem _ hc)) this
    rw [List.length_cons, show e + (l.length + 1) = e + 1 + l.length by omega]
    exact this

theorem below_iter (w : World) (s : ByteArray) (pos : Nat) : Below w.heap.size w (w.iter s pos) := (Below.refl _ _).alloc (Nat.le_refl _) _

end Go.Proofs.YtldcjkhbiffdoabGreatDoor
