/-
  readSum.
-/
import Derived.Test.YtldcjkhbiffdoabDoorReadTerm
namespace Go.Proofs.YtldcjkhbiffdoabDoor
open Go.RowKit

/-- A sum: is it one; where the reader stands then; the terms. 'f': as many terms at the most. -/
def rdSum (l : List UInt8) : Nat → Bool → Nat → List (Int × Nat) → Bool × Nat × List (Int × Nat)
  | 0, _, n, ts => (false, n, ts)
  | f + 1, m, n, ts =>
    if (rdTerm l n).1 then
      if l.length ≤ skp l (rdTerm l n).2.2.2 then (true, skp l (rdTerm l n).2.2.2, termsOf l m n ts)
      else if (tak l 45 (skp l (rdTerm l n).2.2.2)).1 then rdSum l f true (tak l 45 (skp l (rdTerm l n).2.2.2)).2 (termsOf l m n ts)
      else if (tak l 43 (tak l 45 (skp l (rdTerm l n).2.2.2)).2).1 then rdSum l f false (tak l 43 (tak l 45 (skp l (rdTerm l n).2.2.2)).2).2 (termsOf l m n ts)
      else (false, (tak l 43 (tak l 45 (skp l (rdTerm l n).2.2.2)).2).2, termsOf l m n ts)
    else (false, (rdTerm l n).2.2.2, termsOf l m n ts)

/-- At most k terms, none of which is too great. -/
def TsOk (ts : List (Int × Nat)) (k : Nat) : Prop := ts.length ≤ k ∧ ∀ i, i < ts.length → (ts.getD i (0, 0)).1.natAbs ≤ k * 10 ^ 200 ∧ (ts.getD i (0, 0)).2 < 10 ^ 200

theorem addT_mem {c : Int} {p : Nat} : ∀ {ts : List (Int × Nat)} {q : Int × Nat}, q ∈ addT c p ts → q ∈ ts ∨ q = (c, p) ∨ ∃ d, (d, p) ∈ ts ∧ q = (d + c, p)
  | [], q, h => by simp [addT] at h; exact .inr (.inl h)
  | (d, r) :: ts, q, h => by
    unfold addT at h
    split at h
    · rename_i hr
      subst hr
      rcases List.mem_cons.1 h with h | h
      · exact .inr (.inr ⟨d, List.mem_cons_self .., h⟩)
      · exact .inl (List.mem_cons_of_mem _ h)
    · rcases List.mem_cons.1 h with h | h
      · exact .inl (h ▸ List.mem_cons_self ..)
      · rcases addT_mem h with h | h | ⟨e, h1, h2⟩
        · exact .inl (List.mem_cons_of_mem _ h)
        · exact .inr (.inl h)
        · exact .inr (.inr ⟨e, List.mem_cons_of_mem _ h1, h2⟩)
theorem addT_length {c : Int} {p : Nat} : ∀ {ts : List (Int × Nat)}, (addT c p ts).length ≤ ts.length + 1
  | [] => by simp [addT]
  | (d, r) :: ts => by
    unfold addT
    split
    · simp
    · have := addT_length (c := c) (p := p) (ts := ts); simp; omega

theorem mem_getD {α : Type} {ts : List α} {i : Nat} {z : α} (h : i < ts.length) : ts.getD i z ∈ ts := by
  have : ts.getD i z = ts[i] := by simp [List.getD, h]
  rw [this]; exact List.getElem_mem h
theorem getD_mem {α : Type} {ts : List α} {q z : α} (h : q ∈ ts) : ∃ i, i < ts.length ∧ ts.getD i z = q := by
  obtain ⟨i, hi, e⟩ := List.getElem_of_mem h
  exact ⟨i, hi, by simp [List.getD, hi, e]⟩

theorem TsOk.add {ts : List (Int × Nat)} {k : Nat} (h : TsOk ts k) {c : Int} {p : Nat} (hc : c.natAbs < 10 ^ 200) (hp : p < 10 ^ 200) : TsOk (addT c p ts) (k + 1) := by
  obtain ⟨ha, hb⟩ := h
  refine ⟨Nat.le_trans addT_length (by omega), fun i hi => ?_⟩
  have hm := mem_getD (z := (0, 0)) hi
  generalize (addT c p ts).getD i (0, 0) = q at *
  have hk : (k + 1) * 10 ^ 200 = k * 10 ^ 200 + 10 ^ 200 := Nat.succ_mul ..
  rw [hk]
  clear hk
  generalize 10 ^ 200 = M at *
  rcases addT_mem hm with h1 | h1 | ⟨d, h1, h2⟩
  · obtain ⟨j, hj, e⟩ := getD_mem (z := (0, 0)) h1
    have h3 := hb j hj
    rw [e] at h3
    exact ⟨by omega, h3.2⟩
  · rw [h1]
    exact ⟨by show c.natAbs ≤ _; omega, hp⟩
  · obtain ⟨j, hj, e⟩ := getD_mem (z := (0, 0)) h1
    have h3 := hb j hj
    rw [e] at h3
    rw [h2]
    refine ⟨?_, h3.2⟩
    have h5 : d.natAbs ≤ k * M := h3.1
    show (d + c).natAbs ≤ _
    omega
theorem TsOk.mono {ts : List (Int × Nat)} {k j : Nat} (h : TsOk ts k) (hk : k ≤ j) : TsOk ts j :=
  ⟨Nat.le_trans h.1 hk, fun i hi => ⟨Nat.le_trans (h.2 i hi).1 (Nat.mul_le_mul_right _ hk), (h.2 i hi).2⟩⟩
theorem TsOk.terms {l : List UInt8} {m : Bool} {n : Nat} {ts : List (Int × Nat)} {k : Nat} (h : TsOk ts k) (hl : l.length ≤ 200) : TsOk (termsOf l m n ts) (k + 1) := by
  unfold termsOf
  have hf := rdTerm_fit (n := n) hl
  split
  · refine h.add ?_ hf.2
    have : (sgn m (rdTerm l n).2.1).natAbs = (rdTerm l n).2.1 := by unfold sgn; split <;> simp
    rw [this]; exact hf.1
  · exact h.mono (by omega)
theorem TsOk.fit {ts : List (Int × Nat)} {k : Nat} (h : TsOk ts k) (hk : k ≤ 1000) : ∀ i, i < ts.length → Fit (ts.getD i (0, 0)).1 ∧ Fit ((ts.getD i (0, 0)).2 : Int) := by
  intro i hi
  obtain ⟨h1, h2⟩ := h.2 i hi
  refine ⟨⟨204, by omega, ?_⟩, fit_nat h2 (by omega)⟩
  have h3 : k * 10 ^ 200 < 10 ^ 204 := by
    have : 10 ^ 204 = 10 ^ 4 * 10 ^ 200 := by rw [← Nat.pow_add]
    rw [this]
    exact Nat.mul_lt_mul_of_pos_right (by omega) (Nat.pow_pos (by omega))
  have h4 : 10 ^ 204 ≤ 1000000000 ^ 204 := Nat.pow_le_pow_left (by omega) 204
  exact Nat.lt_of_le_of_lt h1 (Nat.lt_of_lt_of_le h3 h4)

theorem tak_ge (l : List UInt8) (c : UInt8) (n : Nat) : n ≤ (tak l c n).2 := by
  have := skp_ge l n
  unfold tak; split
  · show n ≤ skp l n + 1; omega
  · exact this
theorem tak_gt {l : List UInt8} {c : UInt8} {n : Nat} (h : (tak l c n).1 = true) : n < (tak l c n).2 := by
  have := skp_ge l n
  unfold tak at h ⊢; split at h
  · rename_i hc
    rw [if_pos hc]
    show n < skp l n + 1; omega
  · simp at h
theorem rdNum_ge (l : List UInt8) (n : Nat) : n ≤ (rdNum l n).2.2 := by
  have := skp_ge l n
  show n ≤ skp l n + _; omega
theorem rdPow_ge (l : List UInt8) (n : Nat) : n ≤ (rdPow l n).2.2 := by
  have h1 := tak_ge l 120 n
  have h2 := tak_ge l 94 (tak l 120 n).2
  have h3 := rdNum_ge l (tak l 94 (tak l 120 n).2).2
  unfold rdPow; split
  · split
    · omega
    · show n ≤ (tak l 94 (tak l 120 n).2).2; omega
  · exact h1
theorem rdTerm_ge (l : List UInt8) (n : Nat) : n ≤ (rdTerm l n).2.2.2 := by
  have h1 := rdNum_ge l n
  have h2 := tak_ge l 42 (rdNum l n).2.2
  have h3 := rdPow_ge l (tak l 42 (rdNum l n).2.2).2
  have h4 := rdPow_ge l (rdNum l n).2.2
  unfold rdTerm; split
  · split
    · show n ≤ (rdPow l (tak l 42 (rdNum l n).2.2).2).2.2; omega
    · show n ≤ (tak l 42 (rdNum l n).2.2).2; omega
  · show n ≤ (rdPow l (rdNum l n).2.2).2.2; omega

set_option maxHeartbeats 4000000 in
theorem readSum_any (s : ByteArray) (rb : Nat) (tv : Value) (w : World) (B : Nat) (hR : Rd w rb s 0 tv) (hO : OwnT B w tv []) (hs : s.size ≤ 200) (hB : B ≤ rb) (hBw : B ≤ w.heap.size) :
    Calls Tryd.prog 7 #[.pointer (some ⟨rb, 0, none⟩)] w fun e w' => ∃ R, R = rdSum s.data.toList (s.size + 1) (tak s.data.toList 45 0).1 (tak s.data.toList 45 0).2 [] ∧ e = .returned (.bool R.1) ∧ R.2.1 ≤ s.size ∧ TsOk R.2.2 201 ∧ (∃ tv', Rd w' rb s R.2.1 tv' ∧ OwnT B w' tv' R.2.2) ∧ Kp B w w' := by
  have hll := toList_len s
  obtain ⟨R, HR⟩ : ∃ R, Hid (R = rdSum s.data.toList (s.size + 1) (tak s.data.toList 45 0).1 (tak s.data.toList 45 0).2 []) := ⟨_, rfl⟩
  have h0 := tak_le (l := s.data.toList) (c := 45) (n := 0) (by omega)
  have HL : Hid _ := hll
  clear hll
  rw [HL.out] at h0
  go_enter Tryd.func7, Tryd.ntmps7
  go_wp2_with fail
  refine (take_any s 0 rb tv 45 45 rfl w B hR (Nat.zero_le _) hs hB).mono ?_
  rintro e w1 ⟨rfl, hR1, hK1⟩
  have hO1 := hO.kr hK1
  obtain ⟨m0, HM0⟩ : ∃ m0, Hid ((tak s.data.toList 45 0).1 = m0) := ⟨_, rfl⟩
  obtain ⟨n0, HN0⟩ : ∃ n0, Hid ((tak s.data.toList 45 0).2 = n0) := ⟨_, rfl⟩
  rw [HM0.out]
  rw [HN0.out] at hR1 h0
  have HR2 : Hid (rdSum s.data.toList (s.size + 1) m0 n0 [] = R) := by
    have := HR.out
    rw [HM0.out, HN0.out] at this
    exact this.symm
  go_wp2_with fail
  go_loopw [3] (fun m wr => ∃ (mm : Bool) (f n : Nat) (ts : List (Int × Nat)) (tq : Value), m = .bool mm ∧ n ≤ s.size ∧ s.size < n + f ∧ TsOk ts n ∧ Rd wr rb s n tq ∧ OwnT B wr tq ts ∧ Hid (rdSum s.data.toList f mm n ts = R) ∧ Kp B w wr) (fun _ wr => s.size - rdAt rb wr)
  case atStart => exact ⟨m0, s.size + 1, n0, [], tv, rfl, h0, by omega, ⟨Nat.zero_le _, fun i hi => by simp at hi⟩, hR1, hO1, HR2, hK1.kp⟩
  case round =>
    clear hR1 hO1 HR2 hK1 hR hO
    obtain ⟨m, f, n, ts, tq, rfl, hn, hf, hts, hRk, hOk, HE, hKp⟩ := hrel
    cases f with
    | zero => omega
    | succ f =>
      have hBr := Nat.le_trans hBw hKp.bel.size
      have hTm := readTerm_any m s n rb tq ts wr B hRk hOk hn hs (hts.fit (by omega)) (Nat.le_trans hts.1 (by omega)) hB hBr
      have hge := rdTerm_ge s.data.toList n
      have hle := rdTerm_le (l := s.data.toList) (n := n) (by rw [HL.out]; exact hn)
      rw [HL.out] at hle
      have hts1 := hts.terms (l := s.data.toList) (m := m) (n := n) (by rw [HL.out]; exact hs)
      have hE := HE.out
      unfold rdSum at hE
      rw [HL.out] at hE
      have hmeas : rdAt rb wr = n := hRk.at
      have HM : Hid _ := hmeas
      generalize termsOf s.data.toList m n ts = ts1 at *
      generalize hn1 : (rdTerm s.data.toList n).2.2.2 = n1 at *
      generalize (rdTerm s.data.toList n).1 = ok at *
      clear hn1 HE hmeas
      cases ok
      · rw [if_neg (by simp)] at hE
        have HE2 : Hid _ := hE
        clear hE
        go_wp2_with fail
        refine hTm.mono ?_
        rintro e w2 ⟨rfl, ⟨tv2, hR2, hO2⟩, hK2⟩
        go_wp2
        go_ret
        refine ⟨R, HR.out, ?_⟩
        rw [← HE2.out]
        exact ⟨rfl, hle, hts1.mono (by omega), ⟨tv2, hR2, hO2⟩, hKp.trans hK2⟩
      · rw [if_pos rfl] at hE
        have hsg := skp_ge s.data.toList n1
        have hsl := skp_le (l := s.data.toList) (n := n1) (by rw [HL.out]; exact hle)
        rw [HL.out] at hsl
        have hSk := fun (W : World) (tv' : Value) (g : Rd W rb s n1 tv') => skip_any s n1 rb tv' W B g hle hs hB
        generalize skp s.data.toList n1 = n2 at *
        have HSk : Hid _ := hSk
        clear hSk
        by_cases hend : s.size ≤ n2
        · rw [if_pos hend] at hE
          have HE2 : Hid _ := hE
          clear hE
          have hd : decide ((s.size : Int) ≤ (n2 : Int)) = true := by simp; omega
          go_wp2_with fail
          refine hTm.mono ?_
          rintro e w2 ⟨rfl, ⟨tv2, hR2, hO2⟩, hK2⟩
          go_wp2_with fail
          refine (HSk.out w2 tv2 hR2).mono ?_
          rintro e w3 ⟨rfl, hR3, hK3⟩
          have hO3 := hO2.kr hK3
          have c0 := hR3.c0; have c1 := hR3.c1
          go_wp2_with fail
          go_quiet (fail)
          go_wp2
          go_ret
          refine ⟨R, HR.out, ?_⟩
          rw [← HE2.out]
          exact ⟨rfl, hsl, hts1.mono (by omega), ⟨tv2, hR3, hO3⟩, (hKp.trans (hK2.trans hK3.kp)).drewN nq⟩
        · rw [if_neg hend] at hE
          have hd : decide ((s.size : Int) ≤ (n2 : Int)) = false := by simp; omega
          have hT1 := fun (W : World) (tv' : Value) (g : Rd W rb s n2 tv') => take_any s n2 rb tv' 45 45 rfl W B g hsl hs hB
          have hg1 := tak_ge s.data.toList 45 n2
          have hl1 := tak_le (l := s.data.toList) (c := 45) (n := n2) (by rw [HL.out]; exact hsl)
          rw [HL.out] at hl1
          have hgt1 := tak_gt (l := s.data.toList) (c := 45) (n := n2)
          generalize (tak s.data.toList 45 n2).2 = n3 at *
          generalize (tak s.data.toList 45 n2).1 = t1 at *
          have HT1 : Hid _ := hT1
          clear hT1
          cases t1
          · rw [if_neg (by simp)] at hE
            have hT2 := fun (W : World) (tv' : Value) (g : Rd W rb s n3 tv') => take_any s n3 rb tv' 43 43 rfl W B g hl1 hs hB
            have hl2 := tak_le (l := s.data.toList) (c := 43) (n := n3) (by rw [HL.out]; exact hl1)
            rw [HL.out] at hl2
            have hgt2 := tak_gt (l := s.data.toList) (c := 43) (n := n3)
            generalize (tak s.data.toList 43 n3).2 = n4 at *
            generalize (tak s.data.toList 43 n3).1 = t2 at *
            have HT2 : Hid _ := hT2
            clear hT2 hgt1
            cases t2
            · rw [if_neg (by simp)] at hE
              have HE2 : Hid _ := hE
              clear hE hgt2
              go_wp2_with fail
              refine hTm.mono ?_
              rintro e w2 ⟨rfl, ⟨tv2, hR2, hO2⟩, hK2⟩
              go_wp2_with fail
              refine (HSk.out w2 tv2 hR2).mono ?_
              rintro e w3 ⟨rfl, hR3, hK3⟩
              have hO3 := hO2.kr hK3
              have c0 := hR3.c0; have c1 := hR3.c1
              go_wp2_with fail
              go_quiet (fail)
              go_wp2_with fail
              refine (HT1.out (w3.drewN nq) tv2 hR3).mono ?_
              rintro e w4 ⟨rfl, hR4, hK4⟩
              have hO4 := OwnT.kr (w := w3.drewN nq) hO3 hK4
              go_wp2_with fail
              refine (HT2.out w4 tv2 hR4).mono ?_
              rintro e w5 ⟨rfl, hR5, hK5⟩
              have hO5 := hO4.kr hK5
              go_wp2
              go_ret
              refine ⟨R, HR.out, ?_⟩
              rw [← HE2.out]
              exact ⟨rfl, hl2, hts1.mono (by omega), ⟨tv2, hR5, hO5⟩, ((hKp.trans (hK2.trans hK3.kp)).drewN nq).trans (hK4.kp.trans hK5.kp)⟩
            · rw [if_pos rfl] at hE
              have HE2 : Hid _ := hE
              have hgt3 := hgt2 rfl
              clear hE hgt2
              go_wp2_with fail
              refine hTm.mono ?_
              rintro e w2 ⟨rfl, ⟨tv2, hR2, hO2⟩, hK2⟩
              go_wp2_with fail
              refine (HSk.out w2 tv2 hR2).mono ?_
              rintro e w3 ⟨rfl, hR3, hK3⟩
              have hO3 := hO2.kr hK3
              have c0 := hR3.c0; have c1 := hR3.c1
              go_wp2_with fail
              go_quiet (fail)
              go_wp2_with fail
              refine (HT1.out (w3.drewN nq) tv2 hR3).mono ?_
              rintro e w4 ⟨rfl, hR4, hK4⟩
              have hO4 := OwnT.kr (w := w3.drewN nq) hO3 hK4
              go_wp2_with fail
              refine (HT2.out w4 tv2 hR4).mono ?_
              rintro e w5 ⟨rfl, hR5, hK5⟩
              have hO5 := hO4.kr hK5
              go_wp2_with fail
              refine ⟨⟨false, f, n4, ts1, tv2, rfl, hl2, by omega, hts1.mono (by omega), hR5, hO5, HE2, ((hKp.trans (hK2.trans hK3.kp)).drewN nq).trans (hK4.kp.trans hK5.kp)⟩, ?_⟩
              rw [hR5.at, HM.out]; omega
          · rw [if_pos rfl] at hE
            have HE2 : Hid _ := hE
            have hgt3 := hgt1 rfl
            clear hE hgt1
            go_wp2_with fail
            refine hTm.mono ?_
            rintro e w2 ⟨rfl, ⟨tv2, hR2, hO2⟩, hK2⟩
            go_wp2_with fail
            refine (HSk.out w2 tv2 hR2).mono ?_
            rintro e w3 ⟨rfl, hR3, hK3⟩
            have hO3 := hO2.kr hK3
            have c0 := hR3.c0; have c1 := hR3.c1
            go_wp2_with fail
            go_quiet (fail)
            go_wp2_with fail
            refine (HT1.out (w3.drewN nq) tv2 hR3).mono ?_
            rintro e w4 ⟨rfl, hR4, hK4⟩
            have hO4 := OwnT.kr (w := w3.drewN nq) hO3 hK4
            go_wp2_with fail
            refine ⟨⟨true, f, n3, ts1, tv2, rfl, hl1, by omega, hts1.mono (by omega), hR4, hO4, HE2, ((hKp.trans (hK2.trans hK3.kp)).drewN nq).trans hK4.kp⟩, ?_⟩
            rw [hR4.at, HM.out]; omega

end Go.Proofs.YtldcjkhbiffdoabDoor
