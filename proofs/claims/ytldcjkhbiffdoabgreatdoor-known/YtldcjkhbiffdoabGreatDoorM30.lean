import Derived.Test.YtldcjkhbiffdoabGreatDoorCAddTerm

namespace Go.Proofs.YtldcjkhbiffdoabGreatDoor
open Go.RowKit

theorem rdTerm_le {l : List UInt8} {n : Nat} (h : n ≤ l.length) : (rdTerm l n).2.2.2 ≤ l.length := by
  have h1 := rdNum_le h
  have h2 := tak_le (c := 42) h1
  unfold rdTerm
  split
  · split
    · exact rdPow_le h2
    · exact h2
  · exact rdPow_le h1

theorem rdNum_fit {l : List UInt8} {n : Nat} (h : l.length ≤ 200) : (rdNum l n).2.1 < 10 ^ 200 := by
  show numOf 0 (digs (l.drop (skp l n))) < _
  have h1 := numOf_lt (digs (l.drop (skp l n))) 0 0 (by simp) (fun c hc => digs_all _ c hc)
  have h2 := digs_le (l.drop (skp l n))
  rw [List.length_drop] at h2
  exact Nat.lt_of_lt_of_le h1 (Nat.pow_le_pow_right (by omega) (by omega))
theorem one_lt_pow : 1 < 10 ^ 200 := Nat.lt_of_lt_of_le (show 1 < 10 ^ 1 by omega) (Nat.pow_le_pow_right (by omega) (by omega))
theorem rdPow_fit {l : List UInt8} {n : Nat} (h : l.length ≤ 200) : (rdPow l n).2.1 < 10 ^ 200 := by
  unfold rdPow
  split
  · split
    · exact rdNum_fit h
    · exact one_lt_pow
  · exact Nat.lt_of_lt_of_le (show 0 < 1 by omega) (Nat.le_of_lt one_lt_pow)
theorem rdTerm_fit {l : List UInt8} {n : Nat} (h : l.length ≤ 200) : (rdTerm l n).2.1 < 10 ^ 200 ∧ (rdTerm l n).2.2.1 < 10 ^ 200 := by
  unfold rdTerm
  split
  · split
    · exact ⟨rdNum_fit h, rdPow_fit h⟩
    · exact ⟨rdNum_fit h, Nat.lt_of_lt_of_le (show 0 < 1 by omega) (Nat.le_of_lt one_lt_pow)⟩
  · exact ⟨one_lt_pow, rdPow_fit h⟩

def termsOf (l : List UInt8) (m : Bool) (n : Nat) (ts : List (Int × Nat)) : List (Int × Nat) :=
  if (rdTerm l n).1 then addT (sgn m (rdTerm l n).2.1) (rdTerm l n).2.2.1 ts else ts

theorem OwnT.box {B : Nat} {w : World} {v : Value} {ts : List (Int × Nat)} (h : OwnT B w v ts) {k : Nat} {a b : Value} (hk : Bx w k a b) (a' b' : Value) : OwnT B ((w.setCell ⟨k, 0, none⟩ a').setCell ⟨k, 1, none⟩ b') v ts := by
  have hne : ∀ j, v.ownBlock = some j → j ≠ k := by
    intro j hj e
    obtain ⟨cur, hc⟩ := h.typ j hj
    unfold Bx at hk
    rw [e, hk] at hc
    simp at hc
  have hs : ∀ j, v.ownBlock = some j → ((w.setCell ⟨k, 0, none⟩ a').setCell ⟨k, 1, none⟩ b').heap[j]? = w.heap[j]? := by
    intro j hj
    rw [Below.heap_setCell _ _ _ _ (hne j hj), Below.heap_setCell _ _ _ _ (hne j hj)]
  obtain ⟨cs, h1, h2, h3⟩ := h
  refine ⟨cs, h1, ⟨h2.1, ?_⟩, fun i p hp => ⟨(h3 i p hp).1.set2 hk _ _, (h3 i p hp).2.set2 hk _ _⟩⟩
  rcases h2.2 with h | ⟨g, cap, cur, hv, hB, hg, r⟩
  · exact .inl h
  · exact .inr ⟨g, cap, cur, hv, hB, by rw [hs g (by rw [hv]; rfl)]; exact hg, r⟩

set_option maxHeartbeats 4000000 in
theorem readTerm_any (m : Bool) (s : ByteArray) (n rb : Nat) (tv : Value) (ts : List (Int × Nat)) (w : World) (B : Nat) (hR : Rd w rb s n tv) (hO : OwnT B w tv ts) (hn : n ≤ s.size) (hs : s.size ≤ 200) (ft : ∀ i, i < ts.length → Fit (ts.getD i (0, 0)).1 ∧ Fit ((ts.getD i (0, 0)).2 : Int)) (hl : ts.length ≤ 1000) (hB : B ≤ rb) (hBw : B ≤ w.heap.size) :
    Calls Tryz.prog 54 #[.pointer (some ⟨rb, 0, none⟩), .bool m] w fun e w' => e = .returned (.bool (rdTerm s.data.toList n).1) ∧ (∃ tv', Rd w' rb s (rdTerm s.data.toList n).2.2.2 tv' ∧ OwnT B w' tv' (termsOf s.data.toList m n ts)) ∧ Kp B w w' := by
  have hlt0 := hR.lt
  have hll := toList_len s
  have hfit := rdTerm_fit (l := s.data.toList) (n := n) (by omega)
  have HF : Hid _ := hfit
  clear hfit
  have h1 := rdNum_le (l := s.data.toList) (n := n) (by omega)
  have h2 := tak_le (l := s.data.toList) (c := 42) h1
  have hNm := fun (W : World) (g : Rd W rb s n tv) (g2 : B ≤ W.heap.size) => readNumber_any s n rb tv W B g hn hs hB g2
  have hTk := fun (W : World) (g : Rd W rb s (rdNum s.data.toList n).2.2 tv) => take_any s _ rb tv 42 42 rfl W B g (by omega) hs hB
  have hP1 := fun (W : World) (g : Rd W rb s (rdNum s.data.toList n).2.2 tv) (g2 : B ≤ W.heap.size) => readPower_any s _ rb tv W B g (by omega) hs hB g2
  have hP2 := fun (W : World) (g : Rd W rb s (tak s.data.toList 42 (rdNum s.data.toList n).2.2).2 tv) (g2 : B ≤ W.heap.size) => readPower_any s _ rb tv W B g (by omega) hs hB g2
  obtain ⟨T, HT⟩ : ∃ T, Hid (rdTerm s.data.toList n = T) := ⟨_, rfl⟩
  have hTT := HT.out
  unfold rdTerm at hTT
  unfold termsOf
  rw [HT.out] at HF ⊢
  generalize (rdNum s.data.toList n).2.2 = n1 at *
  generalize rdPow s.data.toList n1 = q1 at *
  generalize (tak s.data.toList 42 n1).2 = n2 at *
  generalize rdPow s.data.toList n2 = q2 at *
  generalize (tak s.data.toList 42 n1).1 = tk at *
  generalize (rdNum s.data.toList n).1 = ok at *
  generalize (rdNum s.data.toList n).2.1 = num at *
  have HNm : Hid _ := hNm; have HTk : Hid _ := hTk; have HP1 : Hid _ := hP1; have HP2 : Hid _ := hP2; have HTT : Hid _ := hTT
  clear hNm hTk hP1 hP2 hTT hll HT
  go_enter Tryz.func54, Tryz.ntmps54
  go_wp2_with fail
  generalize hW : w.alloc (Obj.cells #[Value.bool false, Value.slice none 0 0] 70) = W0
  obtain ⟨hb0, X0⟩ := one_new hW
  clear hW
  have hI5 : IsB W0 w.heap.size 0 := ⟨_, _, X0, IsI.zero _⟩
  refine (HNm.out W0 (hR.below hb0) (Nat.le_trans hBw hb0.size)).mono ?_
  rintro e w1 ⟨v1, rfl, hI1, hR1, hK1⟩
  obtain ⟨nb, na, nn, nc, rfl⟩ := hI1.form
  have hO1 := (hO.below hb0).kr hK1
  have hI51 := hI5.kp hK1
  have hKw1 : Kr B w w1 := (Kg.of hb0 hBw).trans hK1
  have hz1 : w.heap.size < w1.heap.size := Nat.lt_of_lt_of_le X0.lt hK1.bel.size
  clear X0 hI5 hR hO hK1 hb0
  go_upto_if 15 with (fail)
  generalize hW : w1.alloc (Obj.cells #[Value.bool nb, Value.slice na nn nc] 70) = W2
  obtain ⟨hb2, X2⟩ := one_new hW
  clear hW
  have hI6 : IsB W2 w1.heap.size (num : Int) := ⟨_, _, X2, hI1.below hb2⟩
  have hI5 := hI51.below hb2
  have hR2 := hR1.below hb2
  have hO2 := hO1.below hb2
  have hK2 := hKw1.step hb2 hBw
  clear hI1 hI51 hR1 hO1 hKw1 X2 hb2
  generalize w1.heap.size = b6 at *
  go_cut [7] from 8 (fun s7 wc => s7 = .bool T.1 ∧ Rd wc rb s T.2.2.2 tv ∧ OwnT B wc tv ts ∧ IsB wc w.heap.size (T.2.2.1 : Int) ∧ IsB wc b6 (T.2.1 : Int) ∧ Kr B w wc)
  case first =>
    cases ok
    · have hT : (q1.1, 1, q1.2.1, q1.2.2) = T := by have := HTT.out; simpa using this
      obtain ⟨nb', na', nn', nc', N6, J6⟩ := hI6.open
      have hb6w : w.heap.size < b6 := hz1
      go_wp2_with fail
      refine (small_any 1 (by omega) (by omega) W2).mono ?_
      rintro e w3 ⟨v3, rfl, hI3, hb3⟩
      obtain ⟨ob, oa, on, oc, rfl⟩ := hI3.form
      have N6' := N6.below hb3
      have x0 := N6'.c0; have x1 := N6'.c1; have x2 := N6'.f0; have x3 := N6'.f1
      go_wp2_with fail
      have hI6' := IsB.stored N6' hI3
      have hI5' := (hI5.below hb3).other N6' (by omega) (.bool ob) (.slice oa on oc)
      have hR3 := (hR2.below hb3).other (j := b6) (by omega) (.bool ob) (.slice oa on oc)
      have hK3 : Kr B w ((w3.setCell ⟨b6, 0, none⟩ (.bool ob)).setCell ⟨b6, 1, none⟩ (.slice oa on oc)) := ((hK2.step hb3 hBw).setNew hBw (by omega)).setNew hBw (by omega)
      have hO3 : OwnT B ((w3.setCell ⟨b6, 0, none⟩ (.bool ob)).setCell ⟨b6, 1, none⟩ (.slice oa on oc)) tv ts := (hO2.below hb3).box N6' _ _
      clear hI3 N6 J6 N6' x0 x1 x2 x3 hI6 hI5 hR2 hO2 hK2 hb3
      generalize (w3.setCell ⟨b6, 0, none⟩ (.bool ob)).setCell ⟨b6, 1, none⟩ (.slice oa on oc) = W4 at *
      refine (HP1.out W4 hR3 (Nat.le_trans hBw hK3.bel.size)).mono ?_
      rintro e w5 ⟨v5, rfl, hIp, hR5, hK5⟩
      obtain ⟨pb, pa, pn, pc, rfl⟩ := hIp.form
      obtain ⟨zb, za, zn, zc, Z5, _⟩ := (hI5'.kp hK5).open
      have x0 := Z5.c0; have x1 := Z5.c1; have x2 := Z5.f0; have x3 := Z5.f1
      go_wp2_with fail
      go_meet
      case rel =>
        subst hT
        exact ⟨rfl, hR5.other (by omega) _ _, (hO3.kr hK5).box Z5 _ _, IsB.stored Z5 hIp, (hI6'.kp hK5).other Z5 (by omega) _ _, ((hK3.trans hK5).setNew hBw (Nat.le_refl _)).setNew hBw (Nat.le_refl _)⟩
    · cases tk
      · have hT : (true, num, 0, n2) = T := by have := HTT.out; simpa using this
        go_wp2_with fail
        refine (HTk.out W2 hR2).mono ?_
        rintro e w3 ⟨rfl, hR3, hK3⟩
        go_wp2_with fail
        go_meet
        case rel =>
          subst hT
          exact ⟨rfl, hR3, hO2.kr hK3, hI5.kp hK3, hI6.kp hK3, hK2.trans hK3⟩
      · have hT : (q2.1, num, q2.2.1, q2.2.2) = T := by have := HTT.out; simpa using this
        go_wp2_with fail
        refine (HTk.out W2 hR2).mono ?_
        rintro e w3 ⟨rfl, hR3, hK3⟩
        have hK3' := hK2.trans hK3
        go_wp2_with fail
        refine (HP2.out w3 hR3 (Nat.le_trans hBw hK3'.bel.size)).mono ?_
        rintro e w5 ⟨v5, rfl, hIp, hR5, hK5⟩
        obtain ⟨pb, pa, pn, pc, rfl⟩ := hIp.form
        obtain ⟨zb, za, zn, zc, Z5, _⟩ := ((hI5.kp hK3).kp hK5).open
        have x0 := Z5.c0; have x1 := Z5.c1; have x2 := Z5.f0; have x3 := Z5.f1
        go_wp2_with fail
        go_meet
        case rel =>
          subst hT
          exact ⟨rfl, hR5.other (by omega) _ _, ((hO2.kr hK3).kr hK5).box Z5 _ _, IsB.stored Z5 hIp, ((hI6.kp hK3).kp hK5).other Z5 (by omega) _ _, ((hK3'.trans hK5).setNew hBw (Nat.le_refl _)).setNew hBw (Nat.le_refl _)⟩
  case rest =>
    obtain ⟨rfl, hRc, hOc, hI5c, hI6c, hKc⟩ := hcut
    clear hR2 hO2 hI5 hI6 hK2 HTT HP1 HP2 HNm HTk
    obtain ⟨T1, T2, T3, T4⟩ := T
    have fN : Fit (T2 : Int) := fit_nat HF.out.1 (by omega)
    have fP : Fit (T3 : Int) := fit_nat HF.out.2 (by omega)
    have fNn : Fit (-(T2 : Int)) := by
      obtain ⟨q, h1, h2⟩ := fN
      exact ⟨q, h1, by rw [Int.natAbs_neg]; exact h2⟩
    clear HF
    have hBc := Nat.le_trans hBw hKc.bel.size
    obtain ⟨nb1, na1, nn1, nc1, N6, J6⟩ := hI6c.open
    obtain ⟨pb1, pa1, pn1, pc1, P5, J5⟩ := hI5c.open
    have x0 := N6.c0; have x1 := N6.c1; have x2 := N6.f0; have x3 := N6.f1
    have y0 := P5.c0; have y1 := P5.c1
    cases T1
    · go_wp2
      go_ret
      exact ⟨rfl, ⟨tv, hRc, hOc⟩, hKc.kp⟩
    · cases m
      · go_wp2_with fail
        refine (addTerm_any s _ rb tv ts _ _ (T2 : Int) T3 wc B hRc hOc J6 J5 fN fP ft hl hB hBc).mono ?_
        rintro e w6 ⟨rfl, ⟨tv6, hR6, hO6⟩, hK6⟩
        go_wp2
        go_ret
        exact ⟨rfl, ⟨tv6, hR6, hO6⟩, hKc.kp.trans hK6⟩
      · go_wp2_with fail
        refine (neg_any _ (T2 : Int) wc J6 fN).mono ?_
        rintro e w5 ⟨v5, rfl, hI5', hb5⟩
        obtain ⟨mb, ma, mn, mc, rfl⟩ := hI5'.form
        have N6' := N6.below hb5
        have P5' := P5.below hb5
        have z0 := N6'.c0; have z1 := N6'.c1; have z2 := N6'.f0; have z3 := N6'.f1
        have z4 := P5'.c0; have z5 := P5'.c1
        have hne : ¬ w.heap.size = b6 := by omega
        have J6' := hI5'.set2 N6' (.bool mb) (.slice ma mn mc)
        have J5' := (J5.below hb5).set2 N6' (.bool mb) (.slice ma mn mc)
        have hR6 := (hRc.below hb5).other (j := b6) (by omega) (.bool mb) (.slice ma mn mc)
        have hO6 := (hOc.below hb5).box N6' (.bool mb) (.slice ma mn mc)
        have hK6 : Kr B w ((w5.setCell ⟨b6, 0, none⟩ (.bool mb)).setCell ⟨b6, 1, none⟩ (.slice ma mn mc)) := ((hKc.step hb5 hBw).setNew hBw (by omega)).setNew hBw (by omega)
        have HJ6 : Hid _ := J6'; have HJ5 : Hid _ := J5'; have HR6 : Hid _ := hR6; have HO6 : Hid _ := hO6; have HK6 : Hid _ := hK6
        clear J6' J5' hR6 hO6 hK6 x0 x1 x2 x3 y0 y1
        go_wp2_with fail
        refine (addTerm_any s _ rb tv ts _ _ (-(T2 : Int)) T3 _ B HR6.out HO6.out HJ6.out HJ5.out fNn fP ft hl hB (Nat.le_trans hBw HK6.out.bel.size)).mono ?_
        rintro e w7 ⟨rfl, ⟨tv7, hR7, hO7⟩, hK7⟩
        go_wp2
        go_ret
        exact ⟨rfl, ⟨tv7, hR7, hO7⟩, HK6.out.kp.trans hK7⟩

end Go.Proofs.YtldcjkhbiffdoabGreatDoor

namespace Go.Proofs.YtldcjkhbiffdoabGreatDoor
open Go.RowKit

def rdSum (l : List UInt8) : Nat → Bool → Nat → List (Int × Nat) → Bool × Nat × List (Int × Nat)
  | 0, _, n, ts => (false, n, ts)
  | f + 1, m, n, ts =>
    if (rdTerm l n).1 then
      if l.length ≤ skp l (rdTerm l n).2.2.2 then (true, skp l (rdTerm l n).2.2.2, termsOf l m n ts)
      else if (tak l 45 (skp l (rdTerm l n).2.2.2)).1 then rdSum l f true (tak l 45 (skp l (rdTerm l n).2.2.2)).2 (termsOf l m n ts)
      else if (tak l 43 (tak l 45 (skp l (rdTerm l n).2.2.2)).2).1 then rdSum l f false (tak l 43 (tak l 45 (skp l (rdTerm l n).2.2.2)).2).2 (termsOf l m n ts)
      else (false, (tak l 43 (tak l 45 (skp l (rdTerm l n).2.2.2)).2).2, termsOf l m n ts)
    else (false, (rdTerm l n).2.2.2, termsOf l m n ts)

def TsOk (ts : List (Int × Nat)) (k : Nat) : Prop := ts.length ≤ k ∧ ∀ i, i < ts.length → (ts.getD i (0, 0)).1.natAbs ≤ k * 10 ^ 200 ∧ (ts.getD i (0, 0)).2 < 10 ^ 200

theorem addT_mem {c : Int} {p : Nat} : ∀ {ts : List (Int × Nat)} {q : Int × Nat}, q ∈ addT c p ts → q ∈ ts ∨ q = (c, p) ∨ ∃ d, (d, p) ∈ ts ∧ q = (d + c, p)
  | [], q, h => by simp [addT] at h; exact .inr (.inl h)
  | (d, r) :: ts, q, h => by
    unfold addT at h
    split at h
    · rename_i hr
      subst hr
      rcases List.mem_cons.1 h with h | h
      · exact .inr (.inr ⟨d, List.mem_cons_self .., h⟩)
      · exact .inl (List.mem_cons_of_mem _ h)
    · rcases List.mem_cons.1 h with h | h
      · exact .inl (h ▸ List.mem_cons_self ..)
      · rcases addT_mem h with h | h | ⟨e, h1, h2⟩
        · exact .inl (List.mem_cons_of_mem _ h)
        · exact .inr (.inl h)
        · exact .inr (.inr ⟨e, List.mem_cons_of_mem _ h1, h2⟩)
theorem addT_length {c : Int} {p : Nat} : ∀ {ts : List (Int × Nat)}, (addT c p ts).length ≤ ts.length + 1
  | [] => by simp [addT]
  | (d, r) :: ts => by
    unfold addT
    split
    · simp
    · have := addT_length (c := c) (p := p) (ts := ts); simp; omega

theorem mem_getD {α : Type} {ts : List α} {i : Nat} {z : α} (h : i < ts.length) : ts.getD i z ∈ ts := by
  have : ts.getD i z = ts[i] := by simp [List.getD, h]
  rw [this]; exact List.getElem_mem h
theorem getD_mem {α : Type} {ts : List α} {q z : α} (h : q ∈ ts) : ∃ i, i < ts.length ∧ ts.getD i z = q := by
  obtain ⟨i, hi, e⟩ := List.getElem_of_mem h
  exact ⟨i, hi, by simp [List.getD, hi, e]⟩

theorem TsOk.add {ts : List (Int × Nat)} {k : Nat} (h : TsOk ts k) {c : Int} {p : Nat} (hc : c.natAbs < 10 ^ 200) (hp : p < 10 ^ 200) : TsOk (addT c p ts) (k + 1) := by
  obtain ⟨ha, hb⟩ := h
  refine ⟨Nat.le_trans addT_length (by omega), fun i hi => ?_⟩
  have hm := mem_getD (z := (0, 0)) hi
  generalize (addT c p ts).getD i (0, 0) = q at *
  have hk : (k + 1) * 10 ^ 200 = k * 10 ^ 200 + 10 ^ 200 := Nat.succ_mul ..
  rw [hk]
  clear hk
  generalize 10 ^ 200 = M at *
  rcases addT_mem hm with h1 | h1 | ⟨d, h1, h2⟩
  · obtain ⟨j, hj, e⟩ := getD_mem (z := (0, 0)) h1
    have h3 := hb j hj
    rw [e] at h3
    exact ⟨by omega, h3.2⟩
  · rw [h1]
    exact ⟨by show c.natAbs ≤ _; omega, hp⟩
  · obtain ⟨j, hj, e⟩ := getD_mem (z := (0, 0)) h1
    have h3 := hb j hj
    rw [e] at h3
    rw [h2]
    refine ⟨?_, h3.2⟩
    have h5 : d.natAbs ≤ k * M := h3.1
    show (d + c).natAbs ≤ _
    omega
theorem TsOk.mono {ts : List (Int × Nat)} {k j : Nat} (h : TsOk ts k) (hk : k ≤ j) : TsOk ts j :=
  ⟨Nat.le_trans h.1 hk, fun i hi => ⟨Nat.le_trans (h.2 i hi).1 (Nat.mul_le_mul_right _ hk), (h.2 i hi).2⟩⟩
theorem TsOk.terms {l : List UInt8} {m : Bool} {n : Nat} {ts : List (Int × Nat)} {k : Nat} (h : TsOk ts k) (hl : l.length ≤ 200) : TsOk (termsOf l m n ts) (k + 1) := by
  unfold termsOf
  have hf := rdTerm_fit (n := n) hl
  split
  · refine h.add ?_ hf.2
    have : (sgn m (rdTerm l n).2.1).natAbs = (rdTerm l n).2.1 := by unfold sgn; split <;> simp
    rw [this]; exact hf.1
  · exact h.mono (by omega)
theorem TsOk.fit {ts : List (Int × Nat)} {k : Nat} (h : TsOk ts k) (hk : k ≤ 1000) : ∀ i, i < ts.length → Fit (ts.getD i (0, 0)).1 ∧ Fit ((ts.getD i (0, 0)).2 : Int) := by
  intro i hi
  obtain ⟨h1, h2⟩ := h.2 i hi
  refine ⟨⟨204, by omega, ?_⟩, fit_nat h2 (by omega)⟩
  have h3 : k * 10 ^ 200 < 10 ^ 204 := by
    have : 10 ^ 204 = 10 ^ 4 * 10 ^ 200 := by rw [← Nat.pow_add]
    rw [this]
    exact Nat.mul_lt_mul_of_pos_right (by omega) (Nat.pow_pos (by omega))
  have h4 : 10 ^ 204 ≤ 1000000000 ^ 204 := Nat.pow_le_pow_left (by omega) 204
  exact Nat.lt_of_le_of_lt h1 (Nat.lt_of_lt_of_le h3 h4)

theorem tak_ge (l : List UInt8) (c : UInt8) (n : Nat) : n ≤ (tak l c n).2 := by
  have := skp_ge l n
  unfold tak; split
  · show n ≤ skp l n + 1; omega
  · exact this
theorem tak_gt {l : List UInt8} {c : UInt8} {n : Nat} (h : (tak l c n).1 = true) : n < (tak l c n).2 := by
  have := skp_ge l n
  unfold tak at h ⊢; split at h
  · rename_i hc
    rw [if_pos hc]
    show n < skp l n + 1; omega
  · simp at h
theorem rdNum_ge (l : List UInt8) (n : Nat) : n ≤ (rdNum l n).2.2 := by
  have := skp_ge l n
  show n ≤ skp l n + _; omega
theorem rdPow_ge (l : List UInt8) (n : Nat) : n ≤ (rdPow l n).2.2 := by
  have h1 := tak_ge l 120 n
  have h2 := tak_ge l 94 (tak l 120 n).2
  have h3 := rdNum_ge l (tak l 94 (tak l 120 n).2).2
  unfold rdPow; split
  · split
    · omega
    · show n ≤ (tak l 94 (tak l 120 n).2).2; omega
  · exact h1
theorem rdTerm_ge (l : List UInt8) (n : Nat) : n ≤ (rdTerm l n).2.2.2 := by
  have h1 := rdNum_ge l n
  have h2 := tak_ge l 42 (rdNum l n).2.2
  have h3 := rdPow_ge l (tak l 42 (rdNum l n).2.2).2
  have h4 := rdPow_ge l (rdNum l n).2.2
  unfold rdTerm; split
  · split
    · show n ≤ (rdPow l (tak l 42 (rdNum l n).2.2).2).2.2; omega
    · show n ≤ (tak l 42 (rdNum l n).2.2).2; omega
  · show n ≤ (rdPow l (rdNum l n).2.2).2.2; omega

set_option maxHeartbeats 4000000 in
theorem readSum_any (s : ByteArray) (rb : Nat) (tv : Value) (w : World) (B : Nat) (hR : Rd w rb s 0 tv) (hO : OwnT B w tv []) (hs : s.size ≤ 200) (hB : B ≤ rb) (hBw : B ≤ w.heap.size) :
    Calls Tryz.prog 34 #[.pointer (some ⟨rb, 0, none⟩)] w fun e w' => ∃ R, R = rdSum s.data.toList (s.size + 1) (tak s.data.toList 45 0).1 (tak s.data.toList 45 0).2 [] ∧ e = .returned (.bool R.1) ∧ R.2.1 ≤ s.size ∧ TsOk R.2.2 201 ∧ (∃ tv', Rd w' rb s R.2.1 tv' ∧ OwnT B w' tv' R.2.2) ∧ Kp B w w' := by
  have hll := toList_len s
  obtain ⟨R, HR⟩ : ∃ R, Hid (R = rdSum s.data.toList (s.size + 1) (tak s.data.toList 45 0).1 (tak s.data.toList 45 0).2 []) := ⟨_, rfl⟩
  have h0 := tak_le (l := s.data.toList) (c := 45) (n := 0) (by omega)
  have HL : Hid _ := hll
  clear hll
  rw [HL.out] at h0
  go_enter Tryz.func34, Tryz.ntmps34
  go_wp2_with fail
  refine (take_any s 0 rb tv 45 45 rfl w B hR (Nat.zero_le _) hs hB).mono ?_
  rintro e w1 ⟨rfl, hR1, hK1⟩
  have hO1 := hO.kr hK1
  obtain ⟨m0, HM0⟩ : ∃ m0, Hid ((tak s.data.toList 45 0).1 = m0) := ⟨_, rfl⟩
  obtain ⟨n0, HN0⟩ : ∃ n0, Hid ((tak s.data.toList 45 0).2 = n0) := ⟨_, rfl⟩
  rw [HM0.out]
  rw [HN0.out] at hR1 h0
  have HR2 : Hid (rdSum s.data.toList (s.size + 1) m0 n0 [] = R) := by
    have := HR.out
    rw [HM0.out, HN0.out] at this
    exact this.symm
  go_wp2_with fail
  go_loopw [3] (fun m wr => ∃ (mm : Bool) (f n : Nat) (ts : List (Int × Nat)) (tq : Value), m = .bool mm ∧ n ≤ s.size ∧ s.size < n + f ∧ TsOk ts n ∧ Rd wr rb s n tq ∧ OwnT B wr tq ts ∧ Hid (rdSum s.data.toList f mm n ts = R) ∧ Kp B w wr) (fun _ wr => s.size - rdAt rb wr)
  case atStart => exact ⟨m0, s.size + 1, n0, [], tv, rfl, h0, by omega, ⟨Nat.zero_le _, fun i hi => by simp at hi⟩, hR1, hO1, HR2, hK1.kp⟩
  case round =>
    clear hR1 hO1 HR2 hK1 hR hO
    obtain ⟨m, f, n, ts, tq, rfl, hn, hf, hts, hRk, hOk, HE, hKp⟩ := hrel
    cases f with
    | zero => omega
    | succ f =>
      have hBr := Nat.le_trans hBw hKp.bel.size
      have hTm := readTerm_any m s n rb tq ts wr B hRk hOk hn hs (hts.fit (by omega)) (Nat.le_trans hts.1 (by omega)) hB hBr
      have hge := rdTerm_ge s.data.toList n
      have hle := rdTerm_le (l := s.data.toList) (n := n) (by rw [HL.out]; exact hn)
      rw [HL.out] at hle
      have hts1 := hts.terms (l := s.data.toList) (m := m) (n := n) (by rw [HL.out]; exact hs)
      have hE := HE.out
      unfold rdSum at hE
      rw [HL.out] at hE
      have hmeas : rdAt rb wr = n := hRk.at
      have HM : Hid _ := hmeas
      generalize termsOf s.data.toList m n ts = ts1 at *
      generalize hn1 : (rdTerm s.data.toList n).2.2.2 = n1 at *
      generalize (rdTerm s.data.toList n).1 = ok at *
      clear hn1 HE hmeas
      cases ok
      · rw [if_neg (by simp)] at hE
        have HE2 : Hid _ := hE
        clear hE
        go_wp2_with fail
        refine hTm.mono ?_
        rintro e w2 ⟨rfl, ⟨tv2, hR2, hO2⟩, hK2⟩
        go_wp2
        go_ret
        refine ⟨R, HR.out, ?_⟩
        rw [← HE2.out]
        exact ⟨rfl, hle, hts1.mono (by omega), ⟨tv2, hR2, hO2⟩, hKp.trans hK2⟩
      · rw [if_pos rfl] at hE
        have hsg := skp_ge s.data.toList n1
        have hsl := skp_le (l := s.data.toList) (n := n1) (by rw [HL.out]; exact hle)
        rw [HL.out] at hsl
        have hSk := fun (W : World) (tv' : Value) (g : Rd W rb s n1 tv') => skip_any s n1 rb tv' W B g hle hs hB
        generalize skp s.data.toList n1 = n2 at *
        have HSk : Hid _ := hSk
        clear hSk
        by_cases hend : s.size ≤ n2
        · rw [if_pos hend] at hE
          have HE2 : Hid _ := hE
          clear hE
          have hd : decide ((s.size : Int) ≤ (n2 : Int)) = true := by simp; omega
          go_wp2_with fail
          refine hTm.mono ?_
          rintro e w2 ⟨rfl, ⟨tv2, hR2, hO2⟩, hK2⟩
          go_wp2_with fail
          refine (HSk.out w2 tv2 hR2).mono ?_
          rintro e w3 ⟨rfl, hR3, hK3⟩
          have hO3 := hO2.kr hK3
          have c0 := hR3.c0; have c1 := hR3.c1
          go_wp2_with fail
          go_quiet (fail)
          go_wp2
          go_ret
          refine ⟨R, HR.out, ?_⟩
          rw [← HE2.out]
          exact ⟨rfl, hsl, hts1.mono (by omega), ⟨tv2, hR3, hO3⟩, (hKp.trans (hK2.trans hK3.kp)).drewN nq⟩
        · rw [if_neg hend] at hE
          have hd : decide ((s.size : Int) ≤ (n2 : Int)) = false := by simp; omega
          have hT1 := fun (W : World) (tv' : Value) (g : Rd W rb s n2 tv') => take_any s n2 rb tv' 45 45 rfl W B g hsl hs hB
          have hg1 := tak_ge s.data.toList 45 n2
          have hl1 := tak_le (l := s.data.toList) (c := 45) (n := n2) (by rw [HL.out]; exact hsl)
          rw [HL.out] at hl1
          have hgt1 := tak_gt (l := s.data.toList) (c := 45) (n := n2)
          generalize (tak s.data.toList 45 n2).2 = n3 at *
          generalize (tak s.data.toList 45 n2).1 = t1 at *
          have HT1 : Hid _ := hT1
          clear hT1
          cases t1
          · rw [if_neg (by simp)] at hE
            have hT2 := fun (W : World) (tv' : Value) (g : Rd W rb s n3 tv') => take_any s n3 rb tv' 43 43 rfl W B g hl1 hs hB
            have hl2 := tak_le (l := s.data.toList) (c := 43) (n := n3) (by rw [HL.out]; exact hl1)
            rw [HL.out] at hl2
            have hgt2 := tak_gt (l := s.data.toList) (c := 43) (n := n3)
            generalize (tak s.data.toList 43 n3).2 = n4 at *
            generalize (tak s.data.toList 43 n3).1 = t2 at *
            have HT2 : Hid _ := hT2
            clear hT2 hgt1
            cases t2
            · rw [if_neg (by simp)] at hE
              have HE2 : Hid _ := hE
              clear hE hgt2
              go_wp2_with fail
              refine hTm.mono ?_
              rintro e w2 ⟨rfl, ⟨tv2, hR2, hO2⟩, hK2⟩
              go_wp2_with fail
              refine (HSk.out w2 tv2 hR2).mono ?_
              rintro e w3 ⟨rfl, hR3, hK3⟩
              have hO3 := hO2.kr hK3
              have c0 := hR3.c0; have c1 := hR3.c1
              go_wp2_with fail
              go_quiet (fail)
              go_wp2_with fail
              refine (HT1.out (w3.drewN nq) tv2 hR3).mono ?_
              rintro e w4 ⟨rfl, hR4, hK4⟩
              have hO4 := OwnT.kr (w := w3.drewN nq) hO3 hK4
              go_wp2_with fail
              refine (HT2.out w4 tv2 hR4).mono ?_
              rintro e w5 ⟨rfl, hR5, hK5⟩
              have hO5 := hO4.kr hK5
              go_wp2
              go_ret
              refine ⟨R, HR.out, ?_⟩
              rw [← HE2.out]
              exact ⟨rfl, hl2, hts1.mono (by omega), ⟨tv2, hR5, hO5⟩, ((hKp.trans (hK2.trans hK3.kp)).drewN nq).trans (hK4.kp.trans hK5.kp)⟩
            · rw [if_pos rfl] at hE
              have HE2 : Hid _ := hE
              have hgt3 := hgt2 rfl
              clear hE hgt2
              go_wp2_with fail
              refine hTm.mono ?_
              rintro e w2 ⟨rfl, ⟨tv2, hR2, hO2⟩, hK2⟩
              go_wp2_with fail
              refine (HSk.out w2 tv2 hR2).mono ?_
              rintro e w3 ⟨rfl, hR3, hK3⟩
              have hO3 := hO2.kr hK3
              have c0 := hR3.c0; have c1 := hR3.c1
              go_wp2_with fail
              go_quiet (fail)
              go_wp2_with fail
              refine (HT1.out (w3.drewN nq) tv2 hR3).mono ?_
              rintro e w4 ⟨rfl, hR4, hK4⟩
              have hO4 := OwnT.kr (w := w3.drewN nq) hO3 hK4
              go_wp2_with fail
              refine (HT2.out w4 tv2 hR4).mono ?_
              rintro e w5 ⟨rfl, hR5, hK5⟩
              have hO5 := hO4.kr hK5
              go_wp2_with fail
              refine ⟨⟨false, f, n4, ts1, tv2, rfl, hl2, by omega, hts1.mono (by omega), hR5, hO5, HE2, ((hKp.trans (hK2.trans hK3.kp)).drewN nq).trans (hK4.kp.trans hK5.kp)⟩, ?_⟩
              rw [hR5.at, HM.out]; omega
          · rw [if_pos rfl] at hE
            have HE2 : Hid _ := hE
            have hgt3 := hgt1 rfl
            clear hE hgt1
            go_wp2_with fail
            refine hTm.mono ?_
            rintro e w2 ⟨rfl, ⟨tv2, hR2, hO2⟩, hK2⟩
            go_wp2_with fail
            refine (HSk.out w2 tv2 hR2).mono ?_
            rintro e w3 ⟨rfl, hR3, hK3⟩
            have hO3 := hO2.kr hK3
            have c0 := hR3.c0; have c1 := hR3.c1
            go_wp2_with fail
            go_quiet (fail)
            go_wp2_with fail
            refine (HT1.out (w3.drewN nq) tv2 hR3).mono ?_
            rintro e w4 ⟨rfl, hR4, hK4⟩
            have hO4 := OwnT.kr (w := w3.drewN nq) hO3 hK4
            go_wp2_with fail
            refine ⟨⟨true, f, n3, ts1, tv2, rfl, hl1, by omega, hts1.mono (by omega), hR4, hO4, HE2, ((hKp.trans (hK2.trans hK3.kp)).drewN nq).trans hK4.kp⟩, ?_⟩
            rw [hR4.at, HM.out]; omega

end Go.Proofs.YtldcjkhbiffdoabGreatDoor

namespace Go.Proofs.YtldcjkhbiffdoabGreatDoor
open Go.RowKit

def nAt (p : Nat) : List (Int × Nat) → Int
  | [] => 0
  | (d, q) :: l => if q = p then d else nAt p l

theorem nAt_drop {p : Nat} {ts : List (Int × Nat)} {i : Nat} (hi : i < ts.length) : nAt p (ts.drop i) = if (ts.getD i (0, 0)).2 = p then (ts.getD i (0, 0)).1 else nAt p (ts.drop (i + 1)) := by
  have hg : ts.getD i (0, 0) = ts[i] := by simp [List.getD, hi]
  rw [hg, List.drop_eq_getElem_cons hi]
  generalize ts[i] = q
  obtain ⟨d, r⟩ := q
  rfl

set_option maxHeartbeats 2000000 in
theorem numberOf_any (tv : Value) (ts : List (Int × Nat)) (v : Value) (p : Nat) (w : World) (B : Nat) (hO : OwnT B w tv ts) (hv : IsI w v (p : Int)) (fp : Fit (p : Int)) (ft : ∀ i, i < ts.length → Fit (ts.getD i (0, 0)).1 ∧ Fit ((ts.getD i (0, 0)).2 : Int)) (hl : ts.length ≤ 1000) :
    Calls Tryz.prog 58 #[tv, v] w fun e w' => ∃ u, e = .returned u ∧ IsI w' u (nAt p ts) ∧ Below w.heap.size w w' := by
  obtain ⟨ta, tcp, rfl⟩ := hO.val
  obtain ⟨vb, va, vn, vc, rfl⟩ := hv.form
  obtain ⟨R, HRes⟩ : ∃ R, Hid (nAt p ts = R) := ⟨_, rfl⟩
  rw [HRes.out]
  go_enter Tryz.func58, Tryz.ntmps58
  go_wp2_with fail
  generalize hW : (w.alloc (Obj.cells #[Value.bool vb, Value.slice va vn vc] 70)).alloc (Obj.cells #[Value.bool false, Value.slice none 0 0] 70) = W0
  obtain ⟨hz0, hb0, X0, X1⟩ := two_new hW
  clear hW
  have hI0 : IsB W0 w.heap.size (p : Int) := ⟨_, _, X0, hv.below hb0⟩
  have hO0 := hO.below hb0
  clear X0 hv hO
  go_loopw [5] (fun i wr => ∃ (k : Nat), k ≤ ts.length ∧ i = .int .i64 k ∧ OwnT B wr (.slice ta ts.length tcp) ts ∧ IsB wr w.heap.size (p : Int) ∧ Bx wr (w.heap.size + 1) (.bool false) (.slice none 0 0) ∧ Hid (nAt p (ts.drop k) = R) ∧ Below w.heap.size w wr) (fun i _ => ts.length - (intOf i).toNat)
  case atStart => exact ⟨0, Nat.zero_le _, rfl, hO0, hI0, X1, HRes, hb0⟩
  case round =>
    clear hO0 hI0 X1
    obtain ⟨k, hk, rfl, hOk, hI0, X1, HE, hbel⟩ := hrel
    by_cases hlt : k < ts.length
    · obtain ⟨g, b, xa, xn, xc, d, ya, yn, yc, rfl, hc1, hc2, hg, hBg, e0, e1, e2, e3, ef, hIx, hIy⟩ := hOk.at k hlt
      obtain ⟨qb, qa, qn, qc, Q1, J1⟩ := hI0.open
      have q0 := Q1.c0; have q1 := Q1.c1
      have hft := ft k hlt
      have hE := HE.out
      rw [nAt_drop hlt] at hE
      generalize (ts.getD k (0, 0)).2 = pw at *
      generalize (ts.getD k (0, 0)).1 = nm at *
      have hC := fun (W : World) (g1 : IsI W (.agg #[.bool d, .slice ya yn yc]) (pw : Int)) (g2 : IsI W (.agg #[.bool qb, .slice qa qn qc]) (p : Int)) => compare_any _ _ (pw : Int) (p : Int) W g1 g2 hft.2 fp
      by_cases hpw : pw = p
      · have hz : cmp3 (pw : Int) (p : Int) = 0 := by rw [hpw]; exact cmp3_eq _
        simp only [hz] at hC
        rw [if_pos hpw] at hE
        have HC : Hid _ := hC; have HE2 : Hid _ := hE
        clear hC hz HE hE
        go_wp2_with fail
        go_region_held3 (fun w' => w'.cell? ⟨g, k * 4 + 2, none⟩ = some (.bool d) ∧ w'.cell? ⟨g, k * 4 + 3, none⟩ = some (.slice ya yn yc) ∧ w'.cell? ⟨w.heap.size, 0, none⟩ = some (.bool qb) ∧ w'.cell? ⟨w.heap.size, 1, none⟩ = some (.slice qa qn qc))
          (first | exact ⟨e2, e3, q0, q1⟩ | exact ⟨t2, t3, u0, u1⟩)
          (first | (go_at_call 57; refine (HC.out _ (by exact hIy) (by exact J1)).mono ?_; rintro e w1 ⟨rfl, hb1'⟩; have hb1 := of_drew hb1'; clear hb1'; have t2 := (hb1.cell (p := ⟨g, k * 4 + 2, none⟩) hg).trans e2; have t3 := (hb1.cell (p := ⟨g, k * 4 + 3, none⟩) hg).trans e3; have u0 := (hb1.cell (p := ⟨w.heap.size, 0, none⟩) Q1.lt).trans q0; have u1 := (hb1.cell (p := ⟨w.heap.size, 1, none⟩) Q1.lt).trans q1))
        have t0 := (hb1.cell (p := ⟨g, k * 4, none⟩) hg).trans e0
        have t1 := (hb1.cell (p := ⟨g, k * 4 + 1, none⟩) hg).trans e1
        have X1' := X1.below hb1
        have x0 := X1'.c0; have x1 := X1'.c1; have x2 := X1'.f0; have x3 := X1'.f1
        go_wp2
        have hbw := hbel.trans (hb1.mono hbel.size)
        refine bodyPost_ret (v := .agg #[.bool b, .slice xa xn xc]) (by simp [results, Tryz.results58, go_sem, x0, x1]) rfl ⟨_, rfl, ?_, below_set2 hbw (by omega) _ _⟩
        rw [← HE2.out]
        exact (hIx.below hb1).set2 X1' _ _
      · have hz : (cmp3 (pw : Int) (p : Int) == 0) = false := by
          rcases (show (pw : Int) < p ∨ (p : Int) < pw by omega) with h | h
          · rw [cmp3_lt h]; rfl
          · rw [cmp3_gt h]; rfl
        generalize cmp3 (pw : Int) (p : Int) = cz at *
        rw [if_neg hpw] at hE
        have HC : Hid _ := hC; have HE2 : Hid _ := hE
        clear hC HE hE
        go_wp2_with fail
        go_region_held3 (fun w' => w'.cell? ⟨g, k * 4 + 2, none⟩ = some (.bool d) ∧ w'.cell? ⟨g, k * 4 + 3, none⟩ = some (.slice ya yn yc) ∧ w'.cell? ⟨w.heap.size, 0, none⟩ = some (.bool qb) ∧ w'.cell? ⟨w.heap.size, 1, none⟩ = some (.slice qa qn qc))
          (first | exact ⟨e2, e3, q0, q1⟩ | exact ⟨t2, t3, u0, u1⟩)
          (first | (go_at_call 57; refine (HC.out _ (by exact hIy) (by exact J1)).mono ?_; rintro e w1 ⟨rfl, hb1'⟩; have hb1 := of_drew hb1'; clear hb1'; have t2 := (hb1.cell (p := ⟨g, k * 4 + 2, none⟩) hg).trans e2; have t3 := (hb1.cell (p := ⟨g, k * 4 + 3, none⟩) hg).trans e3; have u0 := (hb1.cell (p := ⟨w.heap.size, 0, none⟩) Q1.lt).trans q0; have u1 := (hb1.cell (p := ⟨w.heap.size, 1, none⟩) Q1.lt).trans q1))
        all_goals go_wp2_with fail
        go_roundw
        case rel => exact ⟨k + 1, by omega, by go_num, hOk.below hb1, hI0.below hb1, X1.below hb1, HE2, hbel.trans (hb1.mono hbel.size)⟩
        case measure => simp [intOf]; omega
    · obtain rfl : k = ts.length := by omega
      have hE := HE.out
      rw [List.drop_length] at hE
      have HE2 : Hid _ := hE
      clear HE hE
      have x0 := X1.c0; have x1 := X1.c1; have x2 := X1.f0; have x3 := X1.f1
      go_wp2
      refine bodyPost_ret (v := .agg #[.bool false, .slice none 0 0]) (by simp [results, Tryz.results58, go_sem, x0, x1]) rfl ⟨_, rfl, ?_, below_set2 hbel (by omega) _ _⟩
      rw [← HE2.out]
      exact IsI.zero _

end Go.Proofs.YtldcjkhbiffdoabGreatDoor

namespace Go.Proofs.YtldcjkhbiffdoabGreatDoor
open Go.RowKit

def bigQ (q : Int × Nat) : Bool := decide (q.1 ≠ 0) && decide (10 < q.2)
def coefsT (ts : List (Int × Nat)) (n : Nat) : List Int := (List.range n).map (fun k => nAt k ts)

theorem nAt_bound {p k : Nat} : ∀ {ts : List (Int × Nat)}, (∀ q, q ∈ ts → q.1.natAbs ≤ k) → (nAt p ts).natAbs ≤ k
  | [], _ => by simp [nAt]
  | (d, q) :: l, h => by
    unfold nAt
    split
    · exact h _ (List.mem_cons_self ..)
    · exact nAt_bound (fun r hr => h r (List.mem_cons_of_mem _ hr))

theorem TsOk.nAt {ts : List (Int × Nat)} {k : Nat} (h : TsOk ts k) (hk : k ≤ 1000) (p : Nat) : Fit (nAt p ts) := by
  have h1 : (Go.Proofs.YtldcjkhbiffdoabGreatDoor.nAt p ts).natAbs ≤ k * 10 ^ 200 := nAt_bound (fun q hq => by
    obtain ⟨j, hj, e⟩ := getD_mem (z := (0, 0)) hq
    have := (h.2 j hj).1
    rw [e] at this
    exact this)
  refine ⟨204, by omega, ?_⟩
  have h3 : k * 10 ^ 200 < 10 ^ 204 := by
    have : 10 ^ 204 = 10 ^ 4 * 10 ^ 200 := by rw [← Nat.pow_add]
    rw [this]
    exact Nat.mul_lt_mul_of_pos_right (by omega) (Nat.pow_pos (by omega))
  have h4 : 10 ^ 204 ≤ 1000000000 ^ 204 := Nat.pow_le_pow_left (by omega) 204
  exact Nat.lt_of_le_of_lt h1 (Nat.lt_of_lt_of_le h3 h4)

theorem any_take {α : Type} (f : α → Bool) (ts : List α) (z : α) {k : Nat} (hk : k < ts.length) : (ts.take (k + 1)).any f = ((ts.take k).any f || f (ts.getD k z)) := by
  rw [List.take_succ_eq_append_getElem hk, List.any_append]
  simp [List.getD, hk]
theorem any_true {α : Type} (f : α → Bool) (ts : List α) (z : α) {k : Nat} (hk : k < ts.length) (h : f (ts.getD k z) = true) : ts.any f = true := by
  rw [List.any_eq_true]
  exact ⟨_, mem_getD hk, h⟩

def Gathered (w' : World) (ts : List (Int × Nat)) (e : Ending) : Prop :=
  (ts.any bigQ = true ∧ e = .returned (.tuple #[.pointer none, .int .i64 3])) ∨ (ts.any bigQ = false ∧ Bounded w' (tz (coefsT ts 11)) e)

section
variable {P : Program} {ops : Array Oper} {C : World → Prop} {Q : Act → Prop} {o : Oper} {rest : List Oper} {a : Act}
theorem q_run {v : Value} (hw : Region.wanted o (yielded ops a.tmps) = true) (hv : ∀ w, C w → (execOp a.eval o).run P w = .ok (.value v) w) (h : wpQuiet P ops C Q rest (a.put o.dst v)) : wpQuiet P ops C Q (o :: rest) a := by
  unfold wpQuiet
  rw [if_pos hw]
  refine ⟨v, fun w hc => ?_, h⟩
  unfold Oper.quietAt
  rw [hv w hc]
  exact ⟨rfl, rfl⟩
theorem q_not (hw : Region.wanted o (yielded ops a.tmps) = false) (h : wpQuiet P ops C Q rest (a.put o.dst undef)) : wpQuiet P ops C Q (o :: rest) a := by
  unfold wpQuiet
  rw [if_neg (by rw [hw]; simp)]
  exact h
theorem q_call {v : Value} {f : Nat} {args : Array Value} (hw : Region.wanted o (yielded ops a.tmps) = true) (hv : ∀ w, (execOp a.eval o).run P w = .ok (.enter f args) w) (hc : ∀ w, C w → Calls P f args w (fun e w'' => e = .returned v ∧ C w'')) (h : wpQuiet P ops C Q rest (a.put o.dst v)) : wpQuiet P ops C Q (o :: rest) a := by
  unfold wpQuiet
  rw [if_pos hw]
  refine ⟨v, fun w hC => ?_, h⟩
  unfold Oper.quietAt
  rw [hv w]
  exact ⟨rfl, hc w hC⟩
end
theorem wanted_no {o : Oper} {ops : Array Oper} {tmps : Array Value} {g d : Nat} {b want : Bool} (hg : o.guard = some (g, want)) (hd : (ops[g]?).bind (·.dst) = some d) (ht : tmps[d]? = some (.bool b)) (hne : b ≠ want) : Region.wanted o (yielded ops tmps) = false := by
  simp [Region.wanted, hg, yielded, hd, ht, hne]
theorem q_skips {P : Program} {ops : Array Oper} {C : World → Prop} {Q : Act → Prop} {g d : Nat} (hd : (ops[g]?).bind (·.dst) = some d) (rest : List Oper) : ∀ (os : List Oper) (a : Act), a.tmps[d]? = some (.bool false) → (∀ o, o ∈ os → o.guard = some (g, true) ∧ o.dst ≠ some d) →
    wpQuiet P ops C Q rest (os.foldl (fun a o => a.put o.dst undef) a) → wpQuiet P ops C Q (os ++ rest) a
  | [], _, _, _, h => h
  | o :: os, a, ht, hg, h => by
    have h1 := hg o (List.mem_cons_self ..)
    refine q_not (wanted_no h1.1 hd ht (by decide)) (q_skips hd rest os _ ?_ (fun x hx => hg x (List.mem_cons_of_mem _ hx)) h)
    cases ho : o.dst with
    | none => exact ht
    | some t =>
      have hne : t ≠ d := fun e => h1.2 (by rw [ho, e])
      show (a.tmps.setIfInBounds t undef)[d]? = _
      rw [Array.getElem?_setIfInBounds_ne hne]
      exact ht
theorem q_run_skip {P : Program} {ops : Array Oper} {C : World → Prop} {Q : Act → Prop} {o : Oper} {l : List Oper} {a : Act} {v : Value} (n g d : Nat) (hw : Region.wanted o (yielded ops a.tmps) = true) (hv : ∀ w, C w → (execOp a.eval o).run P w = .ok (.value v) w) (hd : (ops[g]?).bind (·.dst) = some d)
    (ht : (a.put o.dst v).tmps[d]? = some (.bool false)) (hg : ∀ o', o' ∈ l.take n → o'.guard = some (g, true) ∧ o'.dst ≠ some d) (h : wpQuiet P ops C Q (l.drop n) ((l.take n).foldl (fun a o => a.put o.dst undef) (a.put o.dst v))) : wpQuiet P ops C Q (o :: l) a := by
  refine q_run hw hv ?_
  have := q_skips (P := P) (C := C) (Q := Q) hd (l.drop n) (l.take n) _ ht hg h
  rwa [List.take_append_drop] at this
theorem wanted_yes {o : Oper} {ops : Array Oper} {tmps : Array Value} {g d : Nat} {b : Bool} (hg : o.guard = some (g, b)) (hd : (ops[g]?).bind (·.dst) = some d) (ht : tmps[d]? = some (.bool b)) : Region.wanted o (yielded ops tmps) = true := by
  simp [Region.wanted, hg, yielded, hd, ht]
theorem wp_region_below {P : Program} {id : Nat} {Q : Exit → Act → World → Prop} {a : Act} {w : World} {l : List Oper} (hm : P.follows .mixedOrders = true) (hB : Region.lexB .any l.toArray = true)
    (h : wpQuiet P l.toArray (fun w' => Below w.heap.size w w') (fun a' => ∀ w', Below w.heap.size w w' → Q .normal a' w') l a) : (Code.region id l.toArray true).wp P Q a w :=
  wp_region_quiet (C := fun w' => Below w.heap.size w w') hm hB ⟨rfl, rfl, rfl, Nat.le_refl _, fun _ _ => rfl⟩ (by simpa using h)

set_option maxHeartbeats 1000000 in
theorem gather_any (tv : Value) (ts : List (Int × Nat)) (w : World) (B : Nat) (hO : OwnT B w tv ts) (hts : TsOk ts 201) (ht : Tab w) :
    Calls Tryz.prog 35 #[tv] w fun e w' => Gathered w' ts e ∧ Below w.heap.size w w' := by
  have hl := hts.1
  have ft := hts.fit (by omega)
  obtain ⟨ta, tcp, rfl⟩ := hO.val
  go_enter Tryz.func35, Tryz.ntmps35
  go_wp2_with fail
  refine (small_any 10 (by omega) (by omega) w).mono ?_
  rintro e w1 ⟨v1, rfl, hI1, hb1⟩
  obtain ⟨gb, ga, gn, gc, rfl⟩ := hI1.form
  go_wp2_with fail
  generalize hW : w1.alloc (Obj.cells #[Value.bool gb, Value.slice ga gn gc] 70) = W2
  obtain ⟨hb2, X2⟩ := one_new hW
  clear hW
  have hb02 : Below w.heap.size w W2 := hb1.trans (hb2.mono hb1.size)
  have hI4 : IsB W2 w1.heap.size 10 := ⟨_, _, X2, hI1.below hb2⟩
  have hO2 := hO.below hb02
  have hw1 := hb1.size
  clear X2 hI1 hb1 hb2
  generalize w1.heap.size = b4 at *
  go_loopw [5] (fun i wr => ∃ (k : Nat), k ≤ ts.length ∧ i = .int .i64 k ∧ IsB wr b4 10 ∧ Hid ((ts.take k).any bigQ = false) ∧ Below w.heap.size w wr) (fun i _ => ts.length - (intOf i).toNat)
  case atStart => exact ⟨0, Nat.zero_le _, rfl, hI4, rfl, hb02⟩
  case round =>
    clear hO2 hI4 hb02
    obtain ⟨k, hk, rfl, hI4, HE, hbel⟩ := hrel
    have hOk := hO.below hbel
    by_cases hlt : k < ts.length
    · obtain ⟨g, b, xa, xn, xc, d, ya, yn, yc, rfl, hc1, hc2, hg, hBg, e0, e1, e2, e3, ef, hIx, hIy⟩ := hOk.at k hlt
      obtain ⟨qb, qa, qn, qc, Q1, J1⟩ := hI4.open
      have q0 := Q1.c0; have q1 := Q1.c1
      have hq := Q1.lt
      have hft := ft k hlt
      have hany := any_take bigQ ts (0, 0) hlt
      have htrue := any_true bigQ ts (0, 0) hlt
      rw [HE.out] at hany
      generalize ts.getD k (0, 0) = q at *
      obtain ⟨nm, pw⟩ := q
      have hS := fun (W : World) (g1 : IsI W (.agg #[.bool b, .slice xa xn xc]) nm) => sign_any _ nm W g1 hft.1
      have hC := fun (W : World) (g1 : IsI W (.agg #[.bool d, .slice ya yn yc]) (pw : Int)) (g2 : IsI W (.agg #[.bool qb, .slice qa qn qc]) 10) => compare_any _ _ (pw : Int) 10 W g1 g2 hft.2 (fit_nat (n := 10) (k := 2) (by omega) (by omega))
      by_cases hz : nm = 0
      · subst hz
        have h0 : sgn3 0 = 0 := rfl
        simp only [h0] at hS
        have HE2 : Hid ((ts.take (k + 1)).any bigQ = false) := by rw [hany]; rfl
        have HS : Hid _ := hS
        clear hS hC hany htrue h0 HE
        go_wp2_with fail
        refine wp_region_below (by kernel_rfl) (by kernel_rfl) ?_
        refine q_run (v := .slice (some ⟨g, 0, none⟩) ts.length tcp) rfl (fun _ _ => rfl) ?_
        refine q_run (v := .int .i64 (k : Int)) rfl (fun _ _ => rfl) ?_
        refine q_run (v := .pointer (some ⟨g, k * 4, none⟩)) rfl (fun w' hw' => by go_simp) ?_
        refine q_run (v := .pointer (some ⟨g, k * 4, none⟩)) rfl (fun w' hw' => by go_simp) ?_
        refine q_run (v := .agg #[.bool b, .slice xa xn xc]) rfl (fun w' hw' => by have t0 := (hw'.cell (p := ⟨g, k * 4, none⟩) hg).trans e0; have t1 := (hw'.cell (p := ⟨g, k * 4 + 1, none⟩) hg).trans e1; go_simp) ?_
        refine q_call (v := .int .i64 0) (f := 56) (args := #[.agg #[.bool b, .slice xa xn xc]]) rfl (fun w' => by go_simp) (fun w' hw' => ?_) ?_
        · refine (HS.out w' (hIx.below hw')).mono ?_
          rintro e w3 ⟨rfl, hb3⟩
          exact ⟨rfl, hw'.trans (hb3.mono hw'.size)⟩
        simp only [Act.put, tA, tB, tC]
        refine q_run (v := .bool false) rfl (fun w' hw' => by go_simp) ?_
        simp only [Act.put, tA, tB, tC]
        refine q_run_skip (v := .bool false) 8 7 22 rfl (fun _ _ => rfl) rfl rfl ?_ ?_
        · intro o' ho'
          simp at ho'
          rcases ho' with rfl | rfl | rfl | rfl | rfl | rfl | rfl | rfl <;> exact ⟨rfl, by simp⟩
        simp only [List.drop_succ_cons, List.drop_zero, List.take_succ_cons, List.take_zero, List.foldl_cons, List.foldl_nil, Act.put, List.setIfInBounds_toArray, List.set_cons_succ, List.set_cons_zero]
        refine q_run (v := .bool false) rfl (fun w' hw' => by go_simp) ?_
        simp only [Act.put, tA, tB, tC]
        refine wpQuiet_nil ?_
        intro w3 hb3
        go_wp2_with fail
        go_roundw
        case rel => exact ⟨k + 1, by omega, by go_num, hI4.below hb3, HE2, hbel.trans (hb3.mono hbel.size)⟩
        case measure => simp [intOf]; omega
      · have hsz : (sgn3 nm != 0) = true := by
          unfold sgn3
          rcases (show nm < 0 ∨ 0 < nm by omega) with h | h
          · rw [if_pos h]; rfl
          · rw [if_neg (by omega), if_neg (by omega)]; rfl
        generalize sgn3 nm = sz at *
        have HS : Hid _ := hS
        by_cases hp : 10 < pw
        · have h1 : cmp3 (pw : Int) 10 = 1 := cmp3_gt (by omega)
          simp only [h1] at hC
          have HC : Hid _ := hC
          have hT : Hid (ts.any bigQ = true) := htrue (by simp [bigQ, hz, hp])
          clear hS hC hany htrue h1 HE
          go_wp2_with fail
          refine wp_region_below (by kernel_rfl) (by kernel_rfl) ?_
          refine q_run (v := .slice (some ⟨g, 0, none⟩) ts.length tcp) rfl (fun _ _ => rfl) ?_
          refine q_run (v := .int .i64 (k : Int)) rfl (fun _ _ => rfl) ?_
          refine q_run (v := .pointer (some ⟨g, k * 4, none⟩)) rfl (fun w' hw' => by go_simp) ?_
          refine q_run (v := .pointer (some ⟨g, k * 4, none⟩)) rfl (fun w' hw' => by go_simp) ?_
          refine q_run (v := .agg #[.bool b, .slice xa xn xc]) rfl (fun w' hw' => by have t0 := (hw'.cell (p := ⟨g, k * 4, none⟩) hg).trans e0; have t1 := (hw'.cell (p := ⟨g, k * 4 + 1, none⟩) hg).trans e1; go_simp) ?_
          refine q_call (v := .int .i64 sz) (f := 56) (args := #[.agg #[.bool b, .slice xa xn xc]]) rfl (fun w' => by go_simp) (fun w' hw' => ?_) ?_
          · refine (HS.out w' (hIx.below hw')).mono ?_
            rintro e w3 ⟨rfl, hb3⟩
            exact ⟨rfl, hw'.trans (hb3.mono hw'.size)⟩
          refine q_run (v := .bool true) rfl (fun w' hw' => by go_simp) ?_
          simp only [Act.put, tA, tB, tC]
          refine q_run (v := .bool true) rfl (fun _ _ => rfl) ?_
          simp only [Act.put, tA, tB, tC]
          refine q_run (v := .slice (some ⟨g, 0, none⟩) ts.length tcp) ?_ (fun _ _ => rfl) ?_
          · exact wanted_yes (g := 7) (d := 22) (b := true) rfl rfl rfl
          simp only [Act.put, tA, tB, tC]
          refine q_run (v := .int .i64 (k : Int)) ?_ (fun _ _ => rfl) ?_
          · exact wanted_yes (g := 7) (d := 22) (b := true) rfl rfl rfl
          simp only [Act.put, tA, tB, tC]
          refine q_run (v := .pointer (some ⟨g, k * 4, none⟩)) ?_ (fun w' hw' => by go_simp) ?_
          · exact wanted_yes (g := 7) (d := 22) (b := true) rfl rfl rfl
          simp only [Act.put, tA, tB, tC]
          refine q_run (v := .pointer (some ⟨g, k * 4 + 2, none⟩)) ?_ (fun w' hw' => by go_simp) ?_
          · exact wanted_yes (g := 7) (d := 22) (b := true) rfl rfl rfl
          simp only [Act.put, tA, tB, tC]
          refine q_run (v := .agg #[.bool d, .slice ya yn yc]) ?_ (fun w' hw' => by have t0 := (hw'.cell (p := ⟨g, k * 4 + 2, none⟩) hg).trans e2; have t1 := (hw'.cell (p := ⟨g, k * 4 + 2 + 1, none⟩) hg).trans e3; go_simp) ?_
          · exact wanted_yes (g := 7) (d := 22) (b := true) rfl rfl rfl
          simp only [Act.put, tA, tB, tC]
          refine q_run (v := .agg #[.bool qb, .slice qa qn qc]) ?_ (fun w' hw' => by have t0 := (hw'.cell (p := ⟨b4, 0, none⟩) hq).trans q0; have t1 := (hw'.cell (p := ⟨b4, 1, none⟩) hq).trans q1; go_simp) ?_
          · exact wanted_yes (g := 7) (d := 22) (b := true) rfl rfl rfl
          simp only [Act.put, tA, tB, tC]
          refine q_call (v := .int .i64 1) (f := 57) (args := #[.agg #[.bool d, .slice ya yn yc], .agg #[.bool qb, .slice qa qn qc]]) ?_ (fun w' => by go_simp) (fun w' hw' => ?_) ?_
          · exact wanted_yes (g := 7) (d := 22) (b := true) rfl rfl rfl
          · refine (HC.out w' (hIy.below hw') (J1.below hw')).mono ?_
            rintro e w3 ⟨rfl, hb3⟩
            exact ⟨rfl, hw'.trans (hb3.mono hw'.size)⟩
          simp only [Act.put, tA, tB, tC]
          refine q_run (v := .bool true) ?_ (fun w' hw' => by go_simp) ?_
          · exact wanted_yes (g := 7) (d := 22) (b := true) rfl rfl rfl
          simp only [Act.put, tA, tB, tC]
          refine q_run (v := .bool true) rfl (fun w' hw' => by go_simp) ?_
          simp only [Act.put, tA, tB, tC]
          refine wpQuiet_nil ?_
          intro w3 hb3

          go_wp2_with fail
          go_ret2
          exact ⟨.inl ⟨hT.out, rfl⟩, hbel.trans (hb3.mono hbel.size)⟩
        · have h1 : ¬ 0 < cmp3 (pw : Int) 10 := by
            unfold cmp3
            split
            · omega
            · rw [if_neg (by omega)]; omega
          generalize cmp3 (pw : Int) 10 = cz at *
          have HC : Hid _ := hC
          have HE2 : Hid ((ts.take (k + 1)).any bigQ = false) := by
            rw [hany]
            simp only [Bool.false_or, bigQ, hp, decide_false, Bool.and_false]
            exact trivial
          clear hS hC hany htrue HE
          go_wp2_with fail
          refine wp_region_below (by kernel_rfl) (by kernel_rfl) ?_
          refine q_run (v := .slice (some ⟨g, 0, none⟩) ts.length tcp) rfl (fun _ _ => rfl) ?_
          refine q_run (v := .int .i64 (k : Int)) rfl (fun _ _ => rfl) ?_
          refine q_run (v := .pointer (some ⟨g, k * 4, none⟩)) rfl (fun w' hw' => by go_simp) ?_
          refine q_run (v := .pointer (some ⟨g, k * 4, none⟩)) rfl (fun w' hw' => by go_simp) ?_
          refine q_run (v := .agg #[.bool b, .slice xa xn xc]) rfl (fun w' hw' => by have t0 := (hw'.cell (p := ⟨g, k * 4, none⟩) hg).trans e0; have t1 := (hw'.cell (p := ⟨g, k * 4 + 1, none⟩) hg).trans e1; go_simp) ?_
          refine q_call (v := .int .i64 sz) (f := 56) (args := #[.agg #[.bool b, .slice xa xn xc]]) rfl (fun w' => by go_simp) (fun w' hw' => ?_) ?_
          · refine (HS.out w' (hIx.below hw')).mono ?_
            rintro e w3 ⟨rfl, hb3⟩
            exact ⟨rfl, hw'.trans (hb3.mono hw'.size)⟩
          refine q_run (v := .bool true) rfl (fun w' hw' => by go_simp) ?_
          simp only [Act.put, tA, tB, tC]
          refine q_run (v := .bool true) rfl (fun _ _ => rfl) ?_
          simp only [Act.put, tA, tB, tC]
          refine q_run (v := .slice (some ⟨g, 0, none⟩) ts.length tcp) ?_ (fun _ _ => rfl) ?_
          · exact wanted_yes (g := 7) (d := 22) (b := true) rfl rfl rfl
          simp only [Act.put, tA, tB, tC]
          refine q_run (v := .int .i64 (k : Int)) ?_ (fun _ _ => rfl) ?_
          · exact wanted_yes (g := 7) (d := 22) (b := true) rfl rfl rfl
          simp only [Act.put, tA, tB, tC]
          refine q_run (v := .pointer (some ⟨g, k * 4, none⟩)) ?_ (fun w' hw' => by go_simp) ?_
          · exact wanted_yes (g := 7) (d := 22) (b := true) rfl rfl rfl
          simp only [Act.put, tA, tB, tC]
          refine q_run (v := .pointer (some ⟨g, k * 4 + 2, none⟩)) ?_ (fun w' hw' => by go_simp) ?_
          · exact wanted_yes (g := 7) (d := 22) (b := true) rfl rfl rfl
          simp only [Act.put, tA, tB, tC]
          refine q_run (v := .agg #[.bool d, .slice ya yn yc]) ?_ (fun w' hw' => by have t0 := (hw'.cell (p := ⟨g, k * 4 + 2, none⟩) hg).trans e2; have t1 := (hw'.cell (p := ⟨g, k * 4 + 2 + 1, none⟩) hg).trans e3; go_simp) ?_
          · exact wanted_yes (g := 7) (d := 22) (b := true) rfl rfl rfl
          simp only [Act.put, tA, tB, tC]
          refine q_run (v := .agg #[.bool qb, .slice qa qn qc]) ?_ (fun w' hw' => by have t0 := (hw'.cell (p := ⟨b4, 0, none⟩) hq).trans q0; have t1 := (hw'.cell (p := ⟨b4, 1, none⟩) hq).trans q1; go_simp) ?_
          · exact wanted_yes (g := 7) (d := 22) (b := true) rfl rfl rfl
          simp only [Act.put, tA, tB, tC]
          refine q_call (v := .int .i64 cz) (f := 57) (args := #[.agg #[.bool d, .slice ya yn yc], .agg #[.bool qb, .slice qa qn qc]]) ?_ (fun w' => by go_simp) (fun w' hw' => ?_) ?_
          · exact wanted_yes (g := 7) (d := 22) (b := true) rfl rfl rfl
          · refine (HC.out w' (hIy.below hw') (J1.below hw')).mono ?_
            rintro e w3 ⟨rfl, hb3⟩
            exact ⟨rfl, hw'.trans (hb3.mono hw'.size)⟩
          simp only [Act.put, tA, tB, tC]
          refine q_run (v := .bool false) ?_ (fun w' hw' => by go_simp) ?_
          · exact wanted_yes (g := 7) (d := 22) (b := true) rfl rfl rfl
          simp only [Act.put, tA, tB, tC]
          refine q_run (v := .bool false) rfl (fun w' hw' => by go_simp) ?_
          simp only [Act.put, tA, tB, tC]
          refine wpQuiet_nil ?_
          intro w3 hb3

          go_wp2_with fail
          go_roundw
          case rel => exact ⟨k + 1, by omega, by go_num, hI4.below hb3, HE2, hbel.trans (hb3.mono hbel.size)⟩
          case measure => simp [intOf]; omega
    · obtain rfl : k = ts.length := by omega
      have hE := HE.out
      rw [List.take_length] at hE
      have HE2 : Hid _ := hE
      clear HE hE hI4
      obtain ⟨B2, HB2⟩ : ∃ b, Hid (wr.heap.size = b) := ⟨_, rfl⟩
      have hwB : w.heap.size ≤ B2 := by rw [← HB2.out]; exact hbel.size
      go_wp2_with fail
      go_loopw [6, 7] (fun s i wq => ∃ (k : Nat), k ≤ 11 ∧ i = .int .i64 k ∧ OwnL B2 wq s (coefsT ts k) ∧ B2 ≤ wq.heap.size ∧ Below w.heap.size w wq) (fun _ i _ => 11 - (intOf i).toNat)
      case atStart => exact ⟨0, by omega, rfl, by rw [HB2.out]; exact OwnL.lit HB2.out, by simp [HB2.out], hbel.alloc hbel.size _⟩
      case round =>
        obtain ⟨k, hk2, rfl, hown, hbs, hbw⟩ := hrel
        have hOq := hO.below hbw
        have hlen : (coefsT ts k).length = k := by simp [coefsT]
        by_cases hlt2 : k < 11
        · have hN := fun (W : World) (u : Value) (g1 : OwnT B W (.slice ta ts.length tcp) ts) (g2 : IsI W u (k : Int)) => numberOf_any (.slice ta ts.length tcp) ts u k W B g1 g2 (fit_nat (n := k) (k := 2) (by omega) (by omega)) ft (by omega)
          have hstep : coefsT ts (k + 1) = coefsT ts k ++ [nAt k ts] := by unfold coefsT; rw [List.range_succ, List.map_append]; rfl
          generalize nAt k ts = z at *
          have HN : Hid _ := hN; have HST : Hid _ := hstep
          clear hN hstep
          go_wp2_with fail
          refine (small_any (k : Int) (by omega) (by omega) _).mono ?_
          rintro e w3 ⟨v3, rfl, hI3, hb3⟩
          go_wp2_with fail
          refine (HN.out w3 v3 (hOq.below hb3) hI3).mono ?_
          rintro e w4 ⟨v4, rfl, hI4', hb4⟩
          obtain ⟨zb, za, zn, zc, rfl⟩ := hI4'.form
          have hown4 := (hown.below hb3).below hb4
          have hs4 := Nat.le_trans (Nat.le_trans hbs hb3.size) hb4.size
          go_wp2_with (at_builtin; refine wpList_pushI rfl (.tmp 37) (.tmp 42) rfl B2 _ (coefsT ts k) _ _ z rfl hown4 hI4' rfl (by omega) hs4 ?_)
          intro v' w5 hown5 hb5 _
          rw [← HST.out] at hown5
          go_wp2
          go_roundw
          case rel => exact ⟨k + 1, by omega, by go_num, hown5, Nat.le_trans hs4 hb5.size, ((hbw.trans (hb3.mono hbw.size)).trans (hb4.mono (Nat.le_trans hbw.size hb3.size))).trans (hb5.mono hwB)⟩
          case measure => simp [intOf]; omega
        · obtain rfl : k = 11 := by omega
          have hBd := bounded_any (coefsT ts 11) _ _ hown.isL (by omega) (fun i hi => by
            have : (coefsT ts 11).getD i 0 = nAt i ts := by
              have hi' : i < 11 := by omega
              simp [coefsT, List.getD, hi']
            rw [this]
            exact hts.nAt (by omega) i) (ht.below hbw)
          go_wp2_with fail
          refine hBd.mono ?_
          rintro e w3 ⟨hB3, hb3⟩
          have hbf := hbw.trans (hb3.mono hbw.size)
          have hB4 : Bounded w3 (tz (coefsT ts 11)) e := hB3
          rcases hB3 with ⟨hin, p, rfl, hp⟩ | ⟨hin, rfl⟩
          · obtain ⟨pk, pv, rfl, _⟩ := id hp
            go_wp2
            go_ret2
            exact ⟨.inr ⟨HE2.out, hB4⟩, hbf⟩
          · go_wp2
            go_ret2
            exact ⟨.inr ⟨HE2.out, hB4⟩, hbf⟩

end Go.Proofs.YtldcjkhbiffdoabGreatDoor
