/-
  readTerm.
-/
import Derived.Test.YtldcjkhbiffdoabDoorAddTerm
namespace Go.Proofs.YtldcjkhbiffdoabDoor
open Go.RowKit

theorem rdTerm_le {l : List UInt8} {n : Nat} (h : n ≤ l.length) : (rdTerm l n).2.2.2 ≤ l.length := by
  have h1 := rdNum_le h
  have h2 := tak_le (c := 42) h1
  unfold rdTerm
  split
  · split
    · exact rdPow_le h2
    · exact h2
  · exact rdPow_le h1

/-- The numbers that are read are not too great. -/
theorem rdNum_fit {l : List UInt8} {n : Nat} (h : l.length ≤ 200) : (rdNum l n).2.1 < 10 ^ 200 := by
  show numOf 0 (digs (l.drop (skp l n))) < _
  have h1 := numOf_lt (digs (l.drop (skp l n))) 0 0 (by simp) (fun c hc => digs_all _ c hc)
  have h2 := digs_le (l.drop (skp l n))
  rw [List.length_drop] at h2
  exact Nat.lt_of_lt_of_le h1 (Nat.pow_le_pow_right (by omega) (by omega))
theorem one_lt_pow : 1 < 10 ^ 200 := Nat.lt_of_lt_of_le (show 1 < 10 ^ 1 by omega) (Nat.pow_le_pow_right (by omega) (by omega))
theorem rdPow_fit {l : List UInt8} {n : Nat} (h : l.length ≤ 200) : (rdPow l n).2.1 < 10 ^ 200 := by
  unfold rdPow
  split
  · split
    · exact rdNum_fit h
    · exact one_lt_pow
  · exact Nat.lt_of_lt_of_le (show 0 < 1 by omega) (Nat.le_of_lt one_lt_pow)
theorem rdTerm_fit {l : List UInt8} {n : Nat} (h : l.length ≤ 200) : (rdTerm l n).2.1 < 10 ^ 200 ∧ (rdTerm l n).2.2.1 < 10 ^ 200 := by
  unfold rdTerm
  split
  · split
    · exact ⟨rdNum_fit h, rdPow_fit h⟩
    · exact ⟨rdNum_fit h, Nat.lt_of_lt_of_le (show 0 < 1 by omega) (Nat.le_of_lt one_lt_pow)⟩
  · exact ⟨one_lt_pow, rdPow_fit h⟩

/-- The terms behind a term. -/
def termsOf (l : List UInt8) (m : Bool) (n : Nat) (ts : List (Int × Nat)) : List (Int × Nat) :=
  if (rdTerm l n).1 then addT (sgn m (rdTerm l n).2.1) (rdTerm l n).2.2.1 ts else ts

/-- A store into a box leaves the terms. -/
theorem OwnT.box {B : Nat} {w : World} {v : Value} {ts : List (Int × Nat)} (h : OwnT B w v ts) {k : Nat} {a b : Value} (hk : Bx w k a b) (a' b' : Value) : OwnT B ((w.setCell ⟨k, 0, none⟩ a').setCell ⟨k, 1, none⟩ b') v ts := by
  have hne : ∀ j, v.ownBlock = some j → j ≠ k := by
    intro j hj e
    obtain ⟨cur, hc⟩ := h.typ j hj
    unfold Bx at hk
    rw [e, hk] at hc
    simp at hc
  have hs : ∀ j, v.ownBlock = some j → ((w.setCell ⟨k, 0, none⟩ a').setCell ⟨k, 1, none⟩ b').heap[j]? = w.heap[j]? := by
    intro j hj
    rw [Below.heap_setCell _ _ _ _ (hne j hj), Below.heap_setCell _ _ _ _ (hne j hj)]
  obtain ⟨cs, h1, h2, h3⟩ := h
  refine ⟨cs, h1, ⟨h2.1, ?_⟩, fun i p hp => ⟨(h3 i p hp).1.set2 hk _ _, (h3 i p hp).2.set2 hk _ _⟩⟩
  rcases h2.2 with h | ⟨g, cap, cur, hv, hB, hg, r⟩
  · exact .inl h
  · exact .inr ⟨g, cap, cur, hv, hB, by rw [hs g (by rw [hv]; rfl)]; exact hg, r⟩

set_option maxHeartbeats 4000000 in
theorem readTerm_any (m : Bool) (s : ByteArray) (n rb : Nat) (tv : Value) (ts : List (Int × Nat)) (w : World) (B : Nat) (hR : Rd w rb s n tv) (hO : OwnT B w tv ts) (hn : n ≤ s.size) (hs : s.size ≤ 200) (ft : ∀ i, i < ts.length → Fit (ts.getD i (0, 0)).1 ∧ Fit ((ts.getD i (0, 0)).2 : Int)) (hl : ts.length ≤ 1000) (hB : B ≤ rb) (hBw : B ≤ w.heap.size) :
    Calls Tryd.prog 11 #[.pointer (some ⟨rb, 0, none⟩), .bool m] w fun e w' => e = .returned (.bool (rdTerm s.data.toList n).1) ∧ (∃ tv', Rd w' rb s (rdTerm s.data.toList n).2.2.2 tv' ∧ OwnT B w' tv' (termsOf s.data.toList m n ts)) ∧ Kp B w w' := by
  have hlt0 := hR.lt
  have hll := toList_len s
  have hfit := rdTerm_fit (l := s.data.toList) (n := n) (by omega)
  have HF : Hid _ := hfit
  clear hfit
  have h1 := rdNum_le (l := s.data.toList) (n := n) (by omega)
  have h2 := tak_le (l := s.data.toList) (c := 42) h1
  have hNm := fun (W : World) (g : Rd W rb s n tv) (g2 : B ≤ W.heap.size) => readNumber_any s n rb tv W B g hn hs hB g2
  have hTk := fun (W : World) (g : Rd W rb s (rdNum s.data.toList n).2.2 tv) => take_any s _ rb tv 42 42 rfl W B g (by omega) hs hB
  have hP1 := fun (W : World) (g : Rd W rb s (rdNum s.data.toList n).2.2 tv) (g2 : B ≤ W.heap.size) => readPower_any s _ rb tv W B g (by omega) hs hB g2
  have hP2 := fun (W : World) (g : Rd W rb s (tak s.data.toList 42 (rdNum s.data.toList n).2.2).2 tv) (g2 : B ≤ W.heap.size) => readPower_any s _ rb tv W B g (by omega) hs hB g2
  obtain ⟨T, HT⟩ : ∃ T, Hid (rdTerm s.data.toList n = T) := ⟨_, rfl⟩
  have hTT := HT.out
  unfold rdTerm at hTT
  unfold termsOf
  rw [HT.out] at HF ⊢
  generalize (rdNum s.data.toList n).2.2 = n1 at *
  generalize rdPow s.data.toList n1 = q1 at *
  generalize (tak s.data.toList 42 n1).2 = n2 at *
  generalize rdPow s.data.toList n2 = q2 at *
  generalize (tak s.data.toList 42 n1).1 = tk at *
  generalize (rdNum s.data.toList n).1 = ok at *
  generalize (rdNum s.data.toList n).2.1 = num at *
  have HNm : Hid _ := hNm; have HTk : Hid _ := hTk; have HP1 : Hid _ := hP1; have HP2 : Hid _ := hP2; have HTT : Hid _ := hTT
  clear hNm hTk hP1 hP2 hTT hll HT
  go_enter Tryd.func11, Tryd.ntmps11
  go_wp2_with fail
  generalize hW : w.alloc (Obj.cells #[Value.bool false, Value.slice none 0 0] 43) = W0
  obtain ⟨hb0, X0⟩ := one_new hW
  clear hW
  have hI5 : IsB W0 w.heap.size 0 := ⟨_, _, X0, IsI.zero _⟩
  refine (HNm.out W0 (hR.below hb0) (Nat.le_trans hBw hb0.size)).mono ?_
  rintro e w1 ⟨v1, rfl, hI1, hR1, hK1⟩
  obtain ⟨nb, na, nn, nc, rfl⟩ := hI1.form
  have hO1 := (hO.below hb0).kr hK1
  have hI51 := hI5.kp hK1
  have hKw1 : Kr B w w1 := (Kg.of hb0 hBw).trans hK1
  have hz1 : w.heap.size < w1.heap.size := Nat.lt_of_lt_of_le X0.lt hK1.bel.size
  clear X0 hI5 hR hO hK1 hb0
  go_upto_if 15 with (fail)
  generalize hW : w1.alloc (Obj.cells #[Value.bool nb, Value.slice na nn nc] 43) = W2
  obtain ⟨hb2, X2⟩ := one_new hW
  clear hW
  have hI6 : IsB W2 w1.heap.size (num : Int) := ⟨_, _, X2, hI1.below hb2⟩
  have hI5 := hI51.below hb2
  have hR2 := hR1.below hb2
  have hO2 := hO1.below hb2
  have hK2 := hKw1.step hb2 hBw
  clear hI1 hI51 hR1 hO1 hKw1 X2 hb2
  generalize w1.heap.size = b6 at *
  go_cut [7] from 8 (fun s7 wc => s7 = .bool T.1 ∧ Rd wc rb s T.2.2.2 tv ∧ OwnT B wc tv ts ∧ IsB wc w.heap.size (T.2.2.1 : Int) ∧ IsB wc b6 (T.2.1 : Int) ∧ Kr B w wc)
  case first =>
    cases ok
    · have hT : (q1.1, 1, q1.2.1, q1.2.2) = T := by have := HTT.out; simpa using this
      obtain ⟨nb', na', nn', nc', N6, J6⟩ := hI6.open
      have hb6w : w.heap.size < b6 := hz1
      go_wp2_with fail
      refine (small_any 1 (by omega) (by omega) W2).mono ?_
      rintro e w3 ⟨v3, rfl, hI3, hb3⟩
      obtain ⟨ob, oa, on, oc, rfl⟩ := hI3.form
      have N6' := N6.below hb3
      have x0 := N6'.c0; have x1 := N6'.c1; have x2 := N6'.f0; have x3 := N6'.f1
      go_wp2_with fail
      have hI6' := IsB.stored N6' hI3
      have hI5' := (hI5.below hb3).other N6' (by omega) (.bool ob) (.slice oa on oc)
      have hR3 := (hR2.below hb3).other (j := b6) (by omega) (.bool ob) (.slice oa on oc)
      have hK3 : Kr B w ((w3.setCell ⟨b6, 0, none⟩ (.bool ob)).setCell ⟨b6, 1, none⟩ (.slice oa on oc)) := ((hK2.step hb3 hBw).setNew hBw (by omega)).setNew hBw (by omega)
      have hO3 : OwnT B ((w3.setCell ⟨b6, 0, none⟩ (.bool ob)).setCell ⟨b6, 1, none⟩ (.slice oa on oc)) tv ts := (hO2.below hb3).box N6' _ _
      clear hI3 N6 J6 N6' x0 x1 x2 x3 hI6 hI5 hR2 hO2 hK2 hb3
      generalize (w3.setCell ⟨b6, 0, none⟩ (.bool ob)).setCell ⟨b6, 1, none⟩ (.slice oa on oc) = W4 at *
      refine (HP1.out W4 hR3 (Nat.le_trans hBw hK3.bel.size)).mono ?_
      rintro e w5 ⟨v5, rfl, hIp, hR5, hK5⟩
      obtain ⟨pb, pa, pn, pc, rfl⟩ := hIp.form
      obtain ⟨zb, za, zn, zc, Z5, _⟩ := (hI5'.kp hK5).open
      have x0 := Z5.c0; have x1 := Z5.c1; have x2 := Z5.f0; have x3 := Z5.f1
      go_wp2_with fail
      go_meet
      case rel =>
        subst hT
        exact ⟨rfl, hR5.other (by omega) _ _, (hO3.kr hK5).box Z5 _ _, IsB.stored Z5 hIp, (hI6'.kp hK5).other Z5 (by omega) _ _, ((hK3.trans hK5).setNew hBw (Nat.le_refl _)).setNew hBw (Nat.le_refl _)⟩
    · cases tk
      · have hT : (true, num, 0, n2) = T := by have := HTT.out; simpa using this
        go_wp2_with fail
        refine (HTk.out W2 hR2).mono ?_
        rintro e w3 ⟨rfl, hR3, hK3⟩
        go_wp2_with fail
        go_meet
        case rel =>
          subst hT
          exact ⟨rfl, hR3, hO2.kr hK3, hI5.kp hK3, hI6.kp hK3, hK2.trans hK3⟩
      · have hT : (q2.1, num, q2.2.1, q2.2.2) = T := by have := HTT.out; simpa using this
        go_wp2_with fail
        refine (HTk.out W2 hR2).mono ?_
        rintro e w3 ⟨rfl, hR3, hK3⟩
        have hK3' := hK2.trans hK3
        go_wp2_with fail
        refine (HP2.out w3 hR3 (Nat.le_trans hBw hK3'.bel.size)).mono ?_
        rintro e w5 ⟨v5, rfl, hIp, hR5, hK5⟩
        obtain ⟨pb, pa, pn, pc, rfl⟩ := hIp.form
        obtain ⟨zb, za, zn, zc, Z5, _⟩ := ((hI5.kp hK3).kp hK5).open
        have x0 := Z5.c0; have x1 := Z5.c1; have x2 := Z5.f0; have x3 := Z5.f1
        go_wp2_with fail
        go_meet
        case rel =>
          subst hT
          exact ⟨rfl, hR5.other (by omega) _ _, ((hO2.kr hK3).kr hK5).box Z5 _ _, IsB.stored Z5 hIp, ((hI6.kp hK3).kp hK5).other Z5 (by omega) _ _, ((hK3'.trans hK5).setNew hBw (Nat.le_refl _)).setNew hBw (Nat.le_refl _)⟩
  case rest =>
    obtain ⟨rfl, hRc, hOc, hI5c, hI6c, hKc⟩ := hcut
    clear hR2 hO2 hI5 hI6 hK2 HTT HP1 HP2 HNm HTk
    obtain ⟨T1, T2, T3, T4⟩ := T
    have fN : Fit (T2 : Int) := fit_nat HF.out.1 (by omega)
    have fP : Fit (T3 : Int) := fit_nat HF.out.2 (by omega)
    have fNn : Fit (-(T2 : Int)) := by
      obtain ⟨q, h1, h2⟩ := fN
      exact ⟨q, h1, by rw [Int.natAbs_neg]; exact h2⟩
    clear HF
    have hBc := Nat.le_trans hBw hKc.bel.size
    obtain ⟨nb1, na1, nn1, nc1, N6, J6⟩ := hI6c.open
    obtain ⟨pb1, pa1, pn1, pc1, P5, J5⟩ := hI5c.open
    have x0 := N6.c0; have x1 := N6.c1; have x2 := N6.f0; have x3 := N6.f1
    have y0 := P5.c0; have y1 := P5.c1
    cases T1
    · go_wp2
      go_ret
      exact ⟨rfl, ⟨tv, hRc, hOc⟩, hKc.kp⟩
    · cases m
      · go_wp2_with fail
        refine (addTerm_any s _ rb tv ts _ _ (T2 : Int) T3 wc B hRc hOc J6 J5 fN fP ft hl hB hBc).mono ?_
        rintro e w6 ⟨rfl, ⟨tv6, hR6, hO6⟩, hK6⟩
        go_wp2
        go_ret
        exact ⟨rfl, ⟨tv6, hR6, hO6⟩, hKc.kp.trans hK6⟩
      · go_wp2_with fail
        refine (neg_any _ (T2 : Int) wc J6 fN).mono ?_
        rintro e w5 ⟨v5, rfl, hI5', hb5⟩
        obtain ⟨mb, ma, mn, mc, rfl⟩ := hI5'.form
        have N6' := N6.below hb5
        have P5' := P5.below hb5
        have z0 := N6'.c0; have z1 := N6'.c1; have z2 := N6'.f0; have z3 := N6'.f1
        have z4 := P5'.c0; have z5 := P5'.c1
        have hne : ¬ w.heap.size = b6 := by omega
        have J6' := hI5'.set2 N6' (.bool mb) (.slice ma mn mc)
        have J5' := (J5.below hb5).set2 N6' (.bool mb) (.slice ma mn mc)
        have hR6 := (hRc.below hb5).other (j := b6) (by omega) (.bool mb) (.slice ma mn mc)
        have hO6 := (hOc.below hb5).box N6' (.bool mb) (.slice ma mn mc)
        have hK6 : Kr B w ((w5.setCell ⟨b6, 0, none⟩ (.bool mb)).setCell ⟨b6, 1, none⟩ (.slice ma mn mc)) := ((hKc.step hb5 hBw).setNew hBw (by omega)).setNew hBw (by omega)
        have HJ6 : Hid _ := J6'; have HJ5 : Hid _ := J5'; have HR6 : Hid _ := hR6; have HO6 : Hid _ := hO6; have HK6 : Hid _ := hK6
        clear J6' J5' hR6 hO6 hK6 x0 x1 x2 x3 y0 y1
        go_wp2_with fail
        refine (addTerm_any s _ rb tv ts _ _ (-(T2 : Int)) T3 _ B HR6.out HO6.out HJ6.out HJ5.out fNn fP ft hl hB (Nat.le_trans hBw HK6.out.bel.size)).mono ?_
        rintro e w7 ⟨rfl, ⟨tv7, hR7, hO7⟩, hK7⟩
        go_wp2
        go_ret
        exact ⟨rfl, ⟨tv7, hR7, hO7⟩, HK6.out.kp.trans hK7⟩

end Go.Proofs.YtldcjkhbiffdoabDoor
