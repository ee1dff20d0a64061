/-
  readPower.
-/
import Derived.Test.YtldcjkhbiffdoabDoorReadNum2
namespace Go.Proofs.YtldcjkhbiffdoabDoor
open Go.RowKit

theorem tak_le {l : List UInt8} {c : UInt8} {n : Nat} (h : n ≤ l.length) : (tak l c n).2 ≤ l.length := by
  have h1 := skp_le h
  unfold tak
  split
  · rename_i hc
    have := (List.getElem?_eq_some_iff.1 hc).1
    show skp l n + 1 ≤ _; omega
  · exact h1
theorem rdNum_le {l : List UInt8} {n : Nat} (h : n ≤ l.length) : (rdNum l n).2.2 ≤ l.length := by
  have h1 := skp_le h
  have h2 := digs_le (l.drop (skp l n))
  rw [List.length_drop] at h2
  show skp l n + (digs (l.drop (skp l n))).length ≤ _
  omega
theorem rdPow_le {l : List UInt8} {n : Nat} (h : n ≤ l.length) : (rdPow l n).2.2 ≤ l.length := by
  have h1 := tak_le (c := 120) h
  have h2 := tak_le (c := 94) h1
  unfold rdPow
  split
  · split
    · exact rdNum_le h2
    · exact h2
  · exact h1

set_option maxHeartbeats 1000000 in
theorem readPower_any (s : ByteArray) (n rb : Nat) (tv : Value) (w : World) (B : Nat) (hR : Rd w rb s n tv) (hn : n ≤ s.size) (hs : s.size ≤ 200) (hB : B ≤ rb) (hBw : B ≤ w.heap.size) :
    Calls Tryd.prog 22 #[.pointer (some ⟨rb, 0, none⟩)] w fun e w' => ∃ v, e = .returned (.tuple #[v, .bool (rdPow s.data.toList n).1]) ∧ IsI w' v ((rdPow s.data.toList n).2.1 : Int) ∧ Rd w' rb s (rdPow s.data.toList n).2.2 tv ∧ Kr B w w' := by
  have hlt0 := hR.lt
  have hl := toList_len s
  have h1 := tak_le (l := s.data.toList) (c := 120) (n := n) (by omega)
  have h2 := tak_le (l := s.data.toList) (c := 94) h1
  have hT1 := fun (W : World) (g : Rd W rb s n tv) => take_any s n rb tv 120 120 rfl W B g hn hs hB
  have hT2 := fun (W : World) (g : Rd W rb s (tak s.data.toList 120 n).2 tv) => take_any s _ rb tv 94 94 rfl W B g (by omega) hs hB
  have hN := fun (W : World) (g : Rd W rb s (tak s.data.toList 94 (tak s.data.toList 120 n).2).2 tv) (g2 : B ≤ W.heap.size) => readNumber_any s _ rb tv W B g (by omega) hs hB g2
  unfold rdPow
  generalize (tak s.data.toList 120 n).2 = n1 at *
  generalize (tak s.data.toList 94 n1).2 = n2 at *
  generalize rdNum s.data.toList n2 = rn at *
  generalize (tak s.data.toList 120 n).1 = t1 at *
  generalize (tak s.data.toList 94 n1).1 = t2 at *
  have HT1 : Hid _ := hT1; have HT2 : Hid _ := hT2; have HN : Hid _ := hN
  clear hT1 hT2 hN hl
  cases t1
  · rw [if_neg (by simp)]
    go_enter Tryd.func22, Tryd.ntmps22
    go_wp2_with fail
    generalize hW : w.alloc (Obj.cells #[Value.bool false, Value.slice none 0 0] 43) = W0
    obtain ⟨hb0, X0⟩ := one_new hW
    clear hW
    refine (HT1.out W0 (hR.below hb0)).mono ?_
    rintro e w1 ⟨rfl, hR1, hK1⟩
    have X1 := X0.kp hK1
    have x0 := X1.c0; have x1 := X1.c1; have x2 := X1.f0; have x3 := X1.f1
    have hK := (Kg.of hb0 hBw).trans hK1
    go_wp2
    refine bodyPost_ret (v := .tuple #[.agg #[.bool false, .slice none 0 0], .bool false]) (by simp [results, Tryd.results22, go_sem, x0, x1]) rfl ⟨_, rfl, IsI.zero _, hR1.other (by omega) _ _, (hK.setNew hBw (Nat.le_refl _)).setNew hBw (Nat.le_refl _)⟩
  · rw [if_pos rfl]
    cases t2
    · rw [if_neg (by simp)]
      go_enter Tryd.func22, Tryd.ntmps22
      go_wp2_with fail
      generalize hW : w.alloc (Obj.cells #[Value.bool false, Value.slice none 0 0] 43) = W0
      obtain ⟨hb0, X0⟩ := one_new hW
      clear hW
      refine (HT1.out W0 (hR.below hb0)).mono ?_
      rintro e w1 ⟨rfl, hR1, hK1⟩
      go_wp2_with fail
      refine (HT2.out w1 hR1).mono ?_
      rintro e w2 ⟨rfl, hR2, hK2⟩
      have hK := ((Kg.of hb0 hBw).trans hK1).trans hK2
      have X2 := (X0.kp hK1).kp hK2
      go_wp2_with fail
      refine (small_any 1 (by omega) (by omega) w2).mono ?_
      rintro e w3 ⟨v3, rfl, hI3, hb3⟩
      obtain ⟨vb, va, vn, vc, rfl⟩ := hI3.form
      have X3 := X2.below hb3
      have x0 := X3.c0; have x1 := X3.c1; have x2 := X3.f0; have x3 := X3.f1
      have hR3 := hR2.below hb3
      have hK3 := hK.step hb3 hBw
      go_wp2
      refine bodyPost_ret (v := .tuple #[.agg #[.bool vb, .slice va vn vc], .bool true]) (by simp [results, Tryd.results22, go_sem, x0, x1]) rfl ⟨_, rfl, hI3.set2 X3 _ _, hR3.other (by omega) _ _, (hK3.setNew hBw (Nat.le_refl _)).setNew hBw (Nat.le_refl _)⟩
    · rw [if_pos rfl]
      go_enter Tryd.func22, Tryd.ntmps22
      go_wp2_with fail
      generalize hW : w.alloc (Obj.cells #[Value.bool false, Value.slice none 0 0] 43) = W0
      obtain ⟨hb0, X0⟩ := one_new hW
      clear hW
      refine (HT1.out W0 (hR.below hb0)).mono ?_
      rintro e w1 ⟨rfl, hR1, hK1⟩
      go_wp2_with fail
      refine (HT2.out w1 hR1).mono ?_
      rintro e w2 ⟨rfl, hR2, hK2⟩
      have hK := ((Kg.of hb0 hBw).trans hK1).trans hK2
      have X2 := (X0.kp hK1).kp hK2
      go_wp2_with fail
      refine (HN.out w2 hR2 (Nat.le_trans hBw hK.bel.size)).mono ?_
      rintro e w3 ⟨v3, rfl, hI3, hR3, hK3'⟩
      obtain ⟨vb, va, vn, vc, rfl⟩ := hI3.form
      have X3 := X2.kp hK3'
      have x0 := X3.c0; have x1 := X3.c1; have x2 := X3.f0; have x3 := X3.f1
      have hK3 := hK.trans hK3'
      go_wp2
      refine bodyPost_ret (v := .tuple #[.agg #[.bool vb, .slice va vn vc], .bool rn.1]) (by simp [results, Tryd.results22, go_sem, x0, x1]) rfl ⟨_, rfl, hI3.set2 X3 _ _, hR3.other (by omega) _ _, (hK3.setNew hBw (Nat.le_refl _)).setNew hBw (Nat.le_refl _)⟩

end Go.Proofs.YtldcjkhbiffdoabDoor
