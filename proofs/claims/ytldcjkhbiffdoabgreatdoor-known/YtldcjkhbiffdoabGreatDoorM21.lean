import Derived.Test.YtldcjkhbiffdoabGreatDoorM19
import Derived.Test.YtldcjkhbiffdoabGreatDoorM20
import Derived.Test.YtldcjkhbiffdoabGreatDoorM17

namespace Go.Proofs.YtldcjkhbiffdoabGreatDoor
open Go.RowKit

theorem box_a {W w5 : World} {db : Bool} {x : Value} {z : Int} {n : Nat} (hb : Below W.drew.heap.size W.drew w5) (hI : IsI w5 (.agg #[.bool db, x]) z) (hn : n < W.heap.size) :
    ∃ b7, Value.pointer (some ⟨w5.heap.size, 0, none⟩) = .pointer (some ⟨b7, 0, none⟩) ∧ n < b7 ∧ IsB (w5.alloc (.cells #[.bool db, x] 70)) b7 z ∧ Below W.heap.size W (w5.alloc (.cells #[.bool db, x] 70)) := by
  have h := of_drew hb
  exact ⟨_, rfl, Nat.lt_of_lt_of_le hn h.size, IsB.new hI, h.alloc h.size _⟩
theorem box_b {W w5 : World} {db : Bool} {x a b : Value} {z : Int} {n : Nat} (hb : Below (W.alloc (.cells #[a, b] 70)).drew.heap.size (W.alloc (.cells #[a, b] 70)).drew w5) (hI : IsI w5 (.agg #[.bool db, x]) z) (hn : n < W.heap.size) :
    ∃ b7, Value.pointer (some ⟨W.heap.size, 0, none⟩) = .pointer (some ⟨b7, 0, none⟩) ∧ n < b7 ∧ IsB ((w5.setCell ⟨W.heap.size, 0, none⟩ (.bool db)).setCell ⟨W.heap.size, 1, none⟩ x) b7 z ∧ Below W.heap.size W ((w5.setCell ⟨W.heap.size, 0, none⟩ (.bool db)).setCell ⟨W.heap.size, 1, none⟩ x) := by
  have h := of_drew hb
  have hX := (Bx.alloc W a b).below h
  have h0 : Below W.heap.size W (W.alloc (.cells #[a, b] 70)) := (Below.refl _ _).alloc (Nat.le_refl _) _
  exact ⟨_, rfl, hn, IsB.stored hX hI, below_set2 (h0.trans (h.mono (by simp))) (Nat.le_refl _) _ _⟩

set_option maxHeartbeats 2000000 in
theorem readNumber_any (s : ByteArray) (n rb : Nat) (tv : Value) (w : World) (B : Nat) (hR : Rd w rb s n tv) (hn : n ≤ s.size) (hs : s.size ≤ 200) (hB : B ≤ rb) (hBw : B ≤ w.heap.size) :
    Calls Tryz.prog 81 #[.pointer (some ⟨rb, 0, none⟩)] w fun e w' => ∃ v, e = .returned (.tuple #[v, .bool (rdNum s.data.toList n).1]) ∧ IsI w' v ((rdNum s.data.toList n).2.1 : Int) ∧ Rd w' rb s (rdNum s.data.toList n).2.2 tv ∧ Kr B w w' := by
  have hlt0 := hR.lt
  go_enter Tryz.func81, Tryz.ntmps81
  go_wp2_with fail
  generalize hW : w.alloc (Obj.cells #[Value.bool false, Value.slice none 0 0] 70) = W0
  obtain ⟨hb0, X0⟩ := one_new hW
  have hz0 : w.heap.size < W0.heap.size := by rw [← hW]; simp
  clear hW
  have hK0 : Kr B w W0 := Kg.of hb0 hBw
  refine (skip_any s n rb tv W0 B (hR.below hb0) hn hs hB).mono ?_
  rintro e w1 ⟨rfl, hR1, hK1'⟩
  have hK1 := hK0.trans hK1'
  have X1 := X0.kp hK1'
  have hz1 := hK1'.bel.size
  obtain ⟨k0, HK0⟩ : ∃ k0, Hid (skp s.data.toList n = k0) := ⟨_, rfl⟩
  have hk0 : k0 ≤ s.size := by rw [← HK0.out, ← toList_len]; exact skp_le (by rw [toList_len]; exact hn)
  rw [HK0.out] at hR1
  have c1 := hR1.c1
  go_wp2_with fail
  refine (small_any 10 (by omega) (by omega) w1).mono ?_
  rintro e w2 ⟨v2, rfl, hI2, hb2⟩
  obtain ⟨tb, ta, tn, tc, rfl⟩ := hI2.form
  go_wp2_with fail
  generalize hW : (w2.alloc (Obj.cells #[Value.bool tb, Value.slice ta tn tc] 70)).alloc (Obj.cells #[Value.bool false, Value.slice none 0 0] 70) = W3
  have hI5 : IsB W3 w2.heap.size 10 := by rw [← hW]; exact (IsB.new hI2).below ((Below.refl _ _).alloc (Nat.le_refl _) _)
  have hI6 : IsB W3 (w2.heap.size + 1) 0 := by
    rw [← hW]
    have := IsB.new (IsI.zero (w2.alloc (Obj.cells #[Value.bool tb, Value.slice ta tn tc] 70)))
    simpa using this
  have hb3 : Below w2.heap.size w2 W3 := by rw [← hW]; exact ((Below.refl _ _).alloc (Nat.le_refl _) _).alloc (by simp) _
  clear hW
  have hz2 := hb2.size
  have hK3 : Kr B w W3 := (hK1.step hb2 hBw).step hb3 hBw
  have X3 := (X1.below hb2).below hb3
  have hR3 := (hR1.below hb2).below hb3
  have hw5 : w.heap.size < w2.heap.size := by omega
  clear hI2 hb2 hb3 hR1 hK1 hK1' X1 hz1 hz2 hK0 X0 hb0 hz0 c1
  generalize w2.heap.size = b5 at *
  go_loopw [] (fun wr => ∃ (k num : Nat), k0 ≤ k ∧ k ≤ s.size ∧ Rd wr rb s k tv ∧ IsB wr b5 10 ∧ IsB wr (b5 + 1) (num : Int) ∧ Bx wr w.heap.size (.bool false) (.slice none 0 0) ∧ Hid (NumAt s.data.toList k0 k num) ∧ Kr B w wr) (fun wr => s.size - rdAt rb wr)
  case atStart => exact ⟨k0, 0, Nat.le_refl _, hk0, hR3, hI5, hI6, X3, NumAt.start _ _, hK3⟩
  case round =>
    clear hR3 hI5 hI6 X3 hK3
    obtain ⟨k, num, hkk, hk, hRk, hI5, hI6, X3, HN, hKp⟩ := hrel
    have c0 := hRk.c0; have c1 := hRk.c1
    by_cases hdg : ∃ h : k < s.size, isDig s[k] = true
    · obtain ⟨hlt, hdig⟩ := hdg
      have hD := fun W => isDigit_any s[k] (s[k].toNat : Int) rfl W
      simp only [hdig] at hD
      have hki : (k : Int) < (s.size : Int) := by omega
      go_wp2_with fail
      go_quiet ((go_at_call 106; exact Calls.quiet_of_same (hD _)))
      go_wp2_with fail
      have hRq : Rd (wr.drewN nq) rb s k tv := hRk
      have hI5q : IsB (wr.drewN nq) b5 10 := hI5
      have hI6q : IsB (wr.drewN nq) (b5 + 1) (num : Int) := hI6
      have X3q : Bx (wr.drewN nq) w.heap.size (.bool false) (.slice none 0 0) := X3
      have hKq := hKp.drewN nq
      have hmeas : rdAt rb wr = k := hRk.at
      have HM : Hid _ := hmeas
      clear hRk hI5 hI6 X3 hKp c0 c1 hmeas hD
      generalize wr.drewN nq = wq at *
      have c0 := hRq.c0; have c1 := hRq.c1
      have hrq := hRq.lt
      have h6q := hI6q.lt
      have hnq : rb ≠ wq.heap.size := by omega
      have hc48 : 48 ≤ (s[k].toNat : Int) ∧ (s[k].toNat : Int) ≤ 57 := by
        have h2 := isDig_le hdig
        unfold isDig at hdig
        simp [UInt8.le_iff_toNat_le] at hdig
        omega
      obtain ⟨h48, h57⟩ := hc48
      go_cut [7] from 16 to 62 (fun s7 wc => ∃ b7, s7 = .pointer (some ⟨b7, 0, none⟩) ∧ b5 + 1 < b7 ∧ IsB wc b7 ((s[k].toNat : Int) - 48) ∧ Below wq.heap.size wq wc)
      case first =>
        go_region_held3 (fun w' => w'.cell? ⟨rb, 0, none⟩ = some (.string s) ∧ w'.cell? ⟨rb, 1, none⟩ = some (.int .i64 (k : Int)))
          (first | exact ⟨c0, c1⟩ | exact ⟨q0, q1⟩ | exact ⟨cell_set2 q0 hnq _ _, cell_set2 q1 hnq _ _⟩ | go_keep)
          (first | (go_at_call 50; rw [digit_wrap _ h48 h57]; refine (small_any _ ?_ ?_ _).mono ?_; (omega); (omega); rintro e w5 ⟨v5, rfl, hI5', hb5⟩; obtain ⟨db, da, dn, dc, rfl⟩ := hI5'.form; have q0 : w5.cell? ⟨rb, 0, none⟩ = some (.string s) := by { rw [hb5.cell (by simp; omega)]; simp [go_sem, World.cell?_alloc_past, c0, hrq] }; have q1 : w5.cell? ⟨rb, 1, none⟩ = some (.int .i64 (k : Int)) := by { rw [hb5.cell (by simp; omega)]; simp [go_sem, World.cell?_alloc_past, c1, hrq] }; obtain ⟨hcc, hff⟩ := bcell hb5))
        all_goals go_wp2
        all_goals go_meet
        all_goals first | exact box_a hb5 hI5' h6q | exact box_b hb5 hI5' h6q
      case rest =>
        obtain ⟨b7, rfl, hb7, hI7, hbc⟩ := hcut
        have hRc := hRq.below hbc
        have hI5c := hI5q.below hbc
        have hI6c := hI6q.below hbc
        have X3c := X3q.below hbc
        have hKc := hKq.step hbc hBw
        clear hRq hI5q hI6q X3q hKq c0 c1 hrq hnq
        obtain ⟨nb, na, nn, nc, Y6, J6⟩ := hI6c.open
        obtain ⟨tb', ta', tn', tc', Y5, J5⟩ := hI5c.open
        have y0 := Y6.c0; have y1 := Y6.c1; have y2 := Y5.c0; have y3 := Y5.c1
        have hnum : num < 10 ^ 200 := by
          have := HN.out.2.2
          exact Nat.lt_of_lt_of_le this (Nat.pow_le_pow_right (by omega) (by omega))
        have hf6 := fit_nat hnum (by omega)
        have HNM : Hid _ := hnum
        clear hnum
        go_wp2_with fail
        refine (mul_any _ _ (num : Int) 10 _ J6 J5 hf6 (fit_nat (n := 10) (k := 2) (by omega) (by omega))).mono ?_
        rintro e w6 ⟨v6, rfl, hI6', hb6⟩
        obtain ⟨mb, ma, mn, mc, rfl⟩ := hI6'.form
        have Y6' := Y6.below hb6
        obtain ⟨db, da, dn, dc, Y7, J7⟩ := (hI7.below hb6).open
        have z0 := Y6'.c0; have z1 := Y6'.c1; have z2 := Y6'.f0; have z3 := Y6'.f1
        have z4 := Y7.c0; have z5 := Y7.c1
        have hne7 : ¬ b7 = b5 + 1 := by omega
        have hR6 := hRc.below hb6
        have hI56 := hI5c.below hb6
        have X36 := X3c.below hb6
        have hK6 := hKc.step hb6 hBw
        have hf6' : Fit ((num : Int) * 10) := by
          have h1 := HNM.out
          have : (num * 10 : Nat) < 10 ^ 201 := by rw [Nat.pow_succ]; omega
          have := fit_nat this (by omega)
          rwa [Int.natCast_mul] at this
        clear hRc hI5c hI6c X3c hKc Y6 Y5 J5 J6 y0 y1 y2 y3 hI7
        go_wp2_with fail
        have J6' := hI6'.set2 Y6' (.bool mb) (.slice ma mn mc)
        have J7' := J7.set2 Y6' (.bool mb) (.slice ma mn mc)
        have Z6 := Y6'.set (.bool mb) (.slice ma mn mc)
        have hR7 := hR6.other (j := b5 + 1) (by omega) (.bool mb) (.slice ma mn mc)
        have hI57 := hI56.other Y6' (by omega) (.bool mb) (.slice ma mn mc)
        have X37 := X36.other (j := b5 + 1) (by omega) (.bool mb) (.slice ma mn mc)
        have hK7 : Kr B w ((w6.setCell ⟨b5 + 1, 0, none⟩ (.bool mb)).setCell ⟨b5 + 1, 1, none⟩ (.slice ma mn mc)) := (hK6.setNew hBw (by omega)).setNew hBw (by omega)
        clear hI6' Y6' Y7 J7 z0 z1 z2 z3 z4 z5 hR6 hI56 X36 hK6
        generalize (w6.setCell ⟨b5 + 1, 0, none⟩ (.bool mb)).setCell ⟨b5 + 1, 1, none⟩ (.slice ma mn mc) = W7 at *
        refine (add_any _ _ ((num : Int) * 10) ((s[k].toNat : Int) - 48) _ J6' J7' hf6' ?_).mono ?_
        · have h1 := fit_nat (n := s[k].toNat - 48) (k := 2) (by omega) (by omega)
          rwa [show ((s[k].toNat - 48 : Nat) : Int) = (s[k].toNat : Int) - 48 by omega] at h1
        rintro e w8 ⟨v8, rfl, hI8, hb8⟩
        obtain ⟨eb, ea, en, ec, rfl⟩ := hI8.form
        have Z8 := Z6.below hb8
        have z0 := Z8.c0; have z1 := Z8.c1; have z2 := Z8.f0; have z3 := Z8.f1
        have hR8 := hR7.below hb8
        have hI58 := hI57.below hb8
        have X38 := X37.below hb8
        have hK8 := hK7.step hb8 hBw
        have c1 := hR8.c1; have f1 := hR8.f1 1
        have hrn : ¬ rb = b5 + 1 := by omega
        clear Z6 hR7 hI57 X37 hK7 J6' J7'
        have HST : Hid _ := NumAt.step HN.out hkk (byte_at hlt) hdig
        go_wp2_with fail
        have J8 := hI8.set2 Z8 (.bool eb) (.slice ea en ec)
        have hI9 := IsB.stored Z8 hI8
        have hR9 := hR8.other (j := b5 + 1) (by omega) (.bool eb) (.slice ea en ec)
        have hI59 := hI58.other Z8 (by omega) (.bool eb) (.slice ea en ec)
        have X39 := X38.other (j := b5 + 1) (by omega) (.bool eb) (.slice ea en ec)
        have hK9 : Kr B w ((w8.setCell ⟨b5 + 1, 0, none⟩ (.bool eb)).setCell ⟨b5 + 1, 1, none⟩ (.slice ea en ec)) := (hK8.setNew hBw (by omega)).setNew hBw (by omega)
        have hcast : (num : Int) * 10 + ((s[k].toNat : Int) - 48) = ((10 * num + (s[k].toNat - 48) : Nat) : Int) := by omega
        rw [hcast] at hI9
        clear J8 Z8 hI8 hR8 hI58 X38 hK8 z0 z1 z2 z3 c1 f1 hcast hb8
        generalize (w8.setCell ⟨b5 + 1, 0, none⟩ (.bool eb)).setCell ⟨b5 + 1, 1, none⟩ (.slice ea en ec) = W9 at *
        have hR10 : Rd (W9.setCell ⟨rb, 1, none⟩ (.int .i64 ((k : Int) + 1))) rb s (k + 1) tv := hR9.set1 (by omega)
        have hKs : Kr 0 W9 (W9.setCell ⟨rb, 1, none⟩ (.int .i64 ((k : Int) + 1))) := (Kg.refl 0 W9).set (Nat.zero_le _) hR9.typ
        refine ⟨⟨k + 1, _, by omega, by omega, hR10, hI59.kp hKs, hI9.kp hKs, X39.kp hKs, HST, hK9.set hB hR9.typ⟩, ?_⟩
        rw [hR10.at, HM.out]; omega
    · by_cases hlt : k < s.size
      · have hdig : isDig s[k] = false := by
          cases h : isDig s[k] with
          | true => exact absurd ⟨hlt, h⟩ hdg
          | false => rfl
        have hD := fun W => isDigit_any s[k] (s[k].toNat : Int) rfl W
        simp only [hdig] at hD
        have hki : (k : Int) < (s.size : Int) := by omega
        have hst := NumAt.stop HN.out (fun c hc => by rw [byte_at hlt] at hc; rw [← Option.some.inj hc]; exact hdig)
        have hok : (rdNum s.data.toList n).1 = decide (k0 < k) := by
          show (!(digs (s.data.toList.drop (skp s.data.toList n))).isEmpty) = _
          rw [HK0.out, Bool.eq_iff_iff]
          have h2 := hst.2
          cases hdd : digs (s.data.toList.drop k0) with
          | nil => rw [hdd] at h2; simp at h2 ⊢; omega
          | cons a b => rw [hdd] at h2; simp at h2 ⊢; omega
        have hnm : (rdNum s.data.toList n).2.1 = num := by
          show numOf 0 (digs (s.data.toList.drop (skp s.data.toList n))) = _
          rw [HK0.out]; exact hst.1.symm
        have hpos : (rdNum s.data.toList n).2.2 = k := by
          show skp s.data.toList n + (digs (s.data.toList.drop (skp s.data.toList n))).length = _
          rw [HK0.out]; exact hst.2.symm
        have HOK : Hid _ := hok; have HNM : Hid _ := hnm; have HPS : Hid _ := hpos
        clear hok hnm hpos hst
        obtain ⟨nb, na, nn, nc, Y6, J6⟩ := hI6.open
        have y0 := Y6.c0; have y1 := Y6.c1
        have x0 := X3.c0; have x1 := X3.c1; have x2 := X3.f0; have x3 := X3.f1
        have hne : ¬ w.heap.size = b5 + 1 := by omega
        have hner : ¬ w.heap.size = rb := by omega
        go_wp2_with fail
        go_quiet ((go_at_call 106; exact Calls.quiet_of_same (hD _)))
        go_wp2_with fail
        go_region
        all_goals go_wp2
        have hRn : Rd (wr.drewN (nq + 1)) rb s k tv := hRk
        have Xn : Bx (wr.drewN (nq + 1)) w.heap.size (.bool false) (.slice none 0 0) := X3
        have Jn : IsI (wr.drewN (nq + 1)) (.agg #[.bool nb, .slice na nn nc]) (num : Int) := J6
        refine bodyPost_ret (v := .tuple #[.agg #[.bool nb, .slice na nn nc], .bool (decide (k0 < k))]) (by simp [results, Tryz.results81, go_sem, x0, x1]) rfl ⟨_, by rw [HOK.out], ?_, ?_, ?_⟩
        · rw [HNM.out]; exact Jn.set2 Xn _ _
        · rw [HPS.out]; exact hRn.other (by omega) _ _
        · exact ((hKp.drewN (nq + 1)).setNew hBw (Nat.le_refl _)).setNew hBw (Nat.le_refl _)
      · have hd : decide ((k : Int) < (s.size : Int)) = false := by simp; omega
        have hst := NumAt.stop HN.out (fun c hc => by rw [byte_none hlt] at hc; simp at hc)
        have hok : (rdNum s.data.toList n).1 = decide (k0 < k) := by
          show (!(digs (s.data.toList.drop (skp s.data.toList n))).isEmpty) = _
          rw [HK0.out, Bool.eq_iff_iff]
          have h2 := hst.2
          cases hdd : digs (s.data.toList.drop k0) with
          | nil => rw [hdd] at h2; simp at h2 ⊢; omega
          | cons a b => rw [hdd] at h2; simp at h2 ⊢; omega
        have hnm : (rdNum s.data.toList n).2.1 = num := by
          show numOf 0 (digs (s.data.toList.drop (skp s.data.toList n))) = _
          rw [HK0.out]; exact hst.1.symm
        have hpos : (rdNum s.data.toList n).2.2 = k := by
          show skp s.data.toList n + (digs (s.data.toList.drop (skp s.data.toList n))).length = _
          rw [HK0.out]; exact hst.2.symm
        have HOK : Hid _ := hok; have HNM : Hid _ := hnm; have HPS : Hid _ := hpos
        clear hok hnm hpos hst
        obtain ⟨nb, na, nn, nc, Y6, J6⟩ := hI6.open
        have y0 := Y6.c0; have y1 := Y6.c1
        have x0 := X3.c0; have x1 := X3.c1; have x2 := X3.f0; have x3 := X3.f1
        have hne : ¬ w.heap.size = b5 + 1 := by omega
        have hner : ¬ w.heap.size = rb := by omega
        go_wp2_with fail
        go_quiet (fail)
        go_wp2_with fail
        go_region
        all_goals go_wp2
        have hRn : Rd (wr.drewN (nq + 1)) rb s k tv := hRk
        have Xn : Bx (wr.drewN (nq + 1)) w.heap.size (.bool false) (.slice none 0 0) := X3
        have Jn : IsI (wr.drewN (nq + 1)) (.agg #[.bool nb, .slice na nn nc]) (num : Int) := J6
        refine bodyPost_ret (v := .tuple #[.agg #[.bool nb, .slice na nn nc], .bool (decide (k0 < k))]) (by simp [results, Tryz.results81, go_sem, x0, x1]) rfl ⟨_, by rw [HOK.out], ?_, ?_, ?_⟩
        · rw [HNM.out]; exact Jn.set2 Xn _ _
        · rw [HPS.out]; exact hRn.other (by omega) _ _
        · exact ((hKp.drewN (nq + 1)).setNew hBw (Nat.le_refl _)).setNew hBw (Nat.le_refl _)

end Go.Proofs.YtldcjkhbiffdoabGreatDoor

namespace Go.Proofs.YtldcjkhbiffdoabGreatDoor
open Go.RowKit

theorem tak_le {l : List UInt8} {c : UInt8} {n : Nat} (h : n ≤ l.length) : (tak l c n).2 ≤ l.length := by
  have h1 := skp_le h
  unfold tak
  split
  · rename_i hc
    have := (List.getElem?_eq_some_iff.1 hc).1
    show skp l n + 1 ≤ _; omega
  · exact h1
theorem rdNum_le {l : List UInt8} {n : Nat} (h : n ≤ l.length) : (rdNum l n).2.2 ≤ l.length := by
  have h1 := skp_le h
  have h2 := digs_le (l.drop (skp l n))
  rw [List.length_drop] at h2
  show skp l n + (digs (l.drop (skp l n))).length ≤ _
  omega
theorem rdPow_le {l : List UInt8} {n : Nat} (h : n ≤ l.length) : (rdPow l n).2.2 ≤ l.length := by
  have h1 := tak_le (c := 120) h
  have h2 := tak_le (c := 94) h1
  unfold rdPow
  split
  · split
    · exact rdNum_le h2
    · exact h2
  · exact h1

set_option maxHeartbeats 1000000 in
theorem readPower_any (s : ByteArray) (n rb : Nat) (tv : Value) (w : World) (B : Nat) (hR : Rd w rb s n tv) (hn : n ≤ s.size) (hs : s.size ≤ 200) (hB : B ≤ rb) (hBw : B ≤ w.heap.size) :
    Calls Tryz.prog 82 #[.pointer (some ⟨rb, 0, none⟩)] w fun e w' => ∃ v, e = .returned (.tuple #[v, .bool (rdPow s.data.toList n).1]) ∧ IsI w' v ((rdPow s.data.toList n).2.1 : Int) ∧ Rd w' rb s (rdPow s.data.toList n).2.2 tv ∧ Kr B w w' := by
  have hlt0 := hR.lt
  have hl := toList_len s
  have h1 := tak_le (l := s.data.toList) (c := 120) (n := n) (by omega)
  have h2 := tak_le (l := s.data.toList) (c := 94) h1
  have hT1 := fun (W : World) (g : Rd W rb s n tv) => take_any s n rb tv 120 120 rfl W B g hn hs hB
  have hT2 := fun (W : World) (g : Rd W rb s (tak s.data.toList 120 n).2 tv) => take_any s _ rb tv 94 94 rfl W B g (by omega) hs hB
  have hN := fun (W : World) (g : Rd W rb s (tak s.data.toList 94 (tak s.data.toList 120 n).2).2 tv) (g2 : B ≤ W.heap.size) => readNumber_any s _ rb tv W B g (by omega) hs hB g2
  unfold rdPow
  generalize (tak s.data.toList 120 n).2 = n1 at *
  generalize (tak s.data.toList 94 n1).2 = n2 at *
  generalize rdNum s.data.toList n2 = rn at *
  generalize (tak s.data.toList 120 n).1 = t1 at *
  generalize (tak s.data.toList 94 n1).1 = t2 at *
  have HT1 : Hid _ := hT1; have HT2 : Hid _ := hT2; have HN : Hid _ := hN
  clear hT1 hT2 hN hl
  cases t1
  · rw [if_neg (by simp)]
    go_enter Tryz.func82, Tryz.ntmps82
    go_wp2_with fail
    generalize hW : w.alloc (Obj.cells #[Value.bool false, Value.slice none 0 0] 70) = W0
    obtain ⟨hb0, X0⟩ := one_new hW
    clear hW
    refine (HT1.out W0 (hR.below hb0)).mono ?_
    rintro e w1 ⟨rfl, hR1, hK1⟩
    have X1 := X0.kp hK1
    have x0 := X1.c0; have x1 := X1.c1; have x2 := X1.f0; have x3 := X1.f1
    have hK := (Kg.of hb0 hBw).trans hK1
    go_wp2
    refine bodyPost_ret (v := .tuple #[.agg #[.bool false, .slice none 0 0], .bool false]) (by simp [results, Tryz.results82, go_sem, x0, x1]) rfl ⟨_, rfl, IsI.zero _, hR1.other (by omega) _ _, (hK.setNew hBw (Nat.le_refl _)).setNew hBw (Nat.le_refl _)⟩
  · rw [if_pos rfl]
    cases t2
    · rw [if_neg (by simp)]
      go_enter Tryz.func82, Tryz.ntmps82
      go_wp2_with fail
      generalize hW : w.alloc (Obj.cells #[Value.bool false, Value.slice none 0 0] 70) = W0
      obtain ⟨hb0, X0⟩ := one_new hW
      clear hW
      refine (HT1.out W0 (hR.below hb0)).mono ?_
      rintro e w1 ⟨rfl, hR1, hK1⟩
      go_wp2_with fail
      refine (HT2.out w1 hR1).mono ?_
      rintro e w2 ⟨rfl, hR2, hK2⟩
      have hK := ((Kg.of hb0 hBw).trans hK1).trans hK2
      have X2 := (X0.kp hK1).kp hK2
      go_wp2_with fail
      refine (small_any 1 (by omega) (by omega) w2).mono ?_
      rintro e w3 ⟨v3, rfl, hI3, hb3⟩
      obtain ⟨vb, va, vn, vc, rfl⟩ := hI3.form
      have X3 := X2.below hb3
      have x0 := X3.c0; have x1 := X3.c1; have x2 := X3.f0; have x3 := X3.f1
      have hR3 := hR2.below hb3
      have hK3 := hK.step hb3 hBw
      go_wp2
      refine bodyPost_ret (v := .tuple #[.agg #[.bool vb, .slice va vn vc], .bool true]) (by simp [results, Tryz.results82, go_sem, x0, x1]) rfl ⟨_, rfl, hI3.set2 X3 _ _, hR3.other (by omega) _ _, (hK3.setNew hBw (Nat.le_refl _)).setNew hBw (Nat.le_refl _)⟩
    · rw [if_pos rfl]
      go_enter Tryz.func82, Tryz.ntmps82
      go_wp2_with fail
      generalize hW : w.alloc (Obj.cells #[Value.bool false, Value.slice none 0 0] 70) = W0
      obtain ⟨hb0, X0⟩ := one_new hW
      clear hW
      refine (HT1.out W0 (hR.below hb0)).mono ?_
      rintro e w1 ⟨rfl, hR1, hK1⟩
      go_wp2_with fail
      refine (HT2.out w1 hR1).mono ?_
      rintro e w2 ⟨rfl, hR2, hK2⟩
      have hK := ((Kg.of hb0 hBw).trans hK1).trans hK2
      have X2 := (X0.kp hK1).kp hK2
      go_wp2_with fail
      refine (HN.out w2 hR2 (Nat.le_trans hBw hK.bel.size)).mono ?_
      rintro e w3 ⟨v3, rfl, hI3, hR3, hK3'⟩
      obtain ⟨vb, va, vn, vc, rfl⟩ := hI3.form
      have X3 := X2.kp hK3'
      have x0 := X3.c0; have x1 := X3.c1; have x2 := X3.f0; have x3 := X3.f1
      have hK3 := hK.trans hK3'
      go_wp2
      refine bodyPost_ret (v := .tuple #[.agg #[.bool vb, .slice va vn vc], .bool rn.1]) (by simp [results, Tryz.results82, go_sem, x0, x1]) rfl ⟨_, rfl, hI3.set2 X3 _ _, hR3.other (by omega) _ _, (hK3.setNew hBw (Nat.le_refl _)).setNew hBw (Nat.le_refl _)⟩

end Go.Proofs.YtldcjkhbiffdoabGreatDoor

namespace Go.Proofs.YtldcjkhbiffdoabGreatDoor
open Go.RowKit

structure TC where
  a : Bool
  x : Value
  b : Bool
  y : Value

def flat4 : List TC → List Value
  | [] => []
  | p :: l => .bool p.a :: p.x :: .bool p.b :: p.y :: flat4 l

theorem flat4_append (a b : List TC) : flat4 (a ++ b) = flat4 a ++ flat4 b := by
  induction a with
  | nil => rfl
  | cons p a ih => simp [flat4, ih]

theorem flat4_at : ∀ (a : List TC) (i : Nat) (p : TC), a[i]? = some p → (flat4 a)[i * 4]? = some (.bool p.a) ∧ (flat4 a)[i * 4 + 1]? = some p.x ∧ (flat4 a)[i * 4 + 2]? = some (.bool p.b) ∧ (flat4 a)[i * 4 + 3]? = some p.y
  | [], i, p, h => by simp at h
  | q :: a, 0, p, h => by simp at h; subst h; simp [flat4]
  | q :: a, i + 1, p, h => by
    have := flat4_at a i p (by simpa using h)
    rw [show (i + 1) * 4 = i * 4 + 1 + 1 + 1 + 1 by omega]
    simpa [flat4] using this

theorem flat4_set : ∀ (a : List TC) (i : Nat) (p : TC) (u : Bool) (x : Value), a[i]? = some p → flat4 (a.set i ⟨u, x, p.b, p.y⟩) = ((flat4 a).set (i * 4) (.bool u)).set (i * 4 + 1) x
  | [], i, p, u, x, h => by simp at h
  | q :: a, 0, p, u, x, h => by simp at h; subst h; simp [flat4]
  | q :: a, i + 1, p, u, x, h => by
    have := flat4_set a i p u x (by simpa using h)
    rw [show (i + 1) * 4 = i * 4 + 1 + 1 + 1 + 1 by omega]
    simp [flat4, this]

def OwnT (B : Nat) (w : World) (v : Value) (ts : List (Int × Nat)) : Prop :=
  ∃ cs : List TC, cs.length = ts.length ∧ w.ownsRow B 90 4 v ts.length (flat4 cs) ∧
    ∀ i p, cs[i]? = some p → IsI w (.agg #[.bool p.a, p.x]) (ts.getD i (0, 0)).1 ∧ IsI w (.agg #[.bool p.b, p.y]) ((ts.getD i (0, 0)).2 : Int)

theorem OwnT.nil (B : Nat) (w : World) : OwnT B w (.slice none 0 0) [] := ⟨[], rfl, World.ownsRow_nil w B _ _, fun i p hp => by simp at hp⟩

theorem OwnT.block {B : Nat} {w : World} {v : Value} {ts : List (Int × Nat)} (h : OwnT B w v ts) : ∀ k, v.ownBlock = some k → B ≤ k := by
  obtain ⟨cs, h1, h2, h3⟩ := h
  exact fun k hk => (World.ownsRow.lt h2 k hk).1

theorem OwnT.typ {B : Nat} {w : World} {v : Value} {ts : List (Int × Nat)} (h : OwnT B w v ts) : ∀ k, v.ownBlock = some k → ∃ cur, w.heap[k]? = some (.cells cur 90 (0, 0)) := by
  obtain ⟨cs, h1, h2, h3⟩ := h
  intro k hk
  rcases h2.2 with ⟨hn, _⟩ | ⟨g, cap, cur, hv, _, hg, _⟩
  · rw [hn] at hk; simp [Value.ownBlock] at hk
  · rw [hv] at hk; simp [Value.ownBlock] at hk; subst hk; exact ⟨cur, hg⟩

theorem OwnT.val {B : Nat} {w : World} {v : Value} {ts : List (Int × Nat)} (h : OwnT B w v ts) : ∃ a c, v = .slice a ts.length c := by
  obtain ⟨cs, h1, h2, h3⟩ := h
  rcases h2.2 with ⟨h, h'⟩ | ⟨g, cap, cur, hv, _⟩
  · exact ⟨none, 0, by rw [h']; exact h⟩
  · exact ⟨_, _, hv⟩

theorem OwnT.stays {B B' : Nat} {w w' : World} {v : Value} {ts : List (Int × Nat)} (h : OwnT B w v ts) (hk : Kp B' w w') (hs : ∀ k, v.ownBlock = some k → w'.heap[k]? = w.heap[k]?) : OwnT B w' v ts := by
  obtain ⟨cs, h1, h2, h3⟩ := h
  refine ⟨cs, h1, ⟨h2.1, ?_⟩, fun i p hp => ⟨(h3 i p hp).1.kp hk, (h3 i p hp).2.kp hk⟩⟩
  rcases h2.2 with h | ⟨g, cap, cur, hv, hB, hg, r⟩
  · exact .inl h
  · exact .inr ⟨g, cap, cur, hv, hB, by rw [hs g (by rw [hv]; rfl)]; exact hg, r⟩
theorem OwnT.below {B : Nat} {w w' : World} {v : Value} {ts : List (Int × Nat)} (h : OwnT B w v ts) (hb : Below w.heap.size w w') : OwnT B w' v ts := by
  refine h.stays (Kg.of hb (Nat.le_refl _)) (fun k hk => ?_)
  obtain ⟨cur, hc⟩ := h.typ k hk
  exact hb.block k (lt_of_block hc)
theorem OwnT.kr {B B' : Nat} {w w' : World} {v : Value} {ts : List (Int × Nat)} (h : OwnT B w v ts) (hk : Kr B' w w') : OwnT B w' v ts := by
  refine h.stays hk.kp (fun k hv => ?_)
  obtain ⟨cur, hc⟩ := h.typ k hv
  rw [hk.keep k _ _ _ hc (by unfold isR; decide), hc]
theorem OwnT.set {B : Nat} {w : World} {v : Value} {ts : List (Int × Nat)} (h : OwnT B w v ts) {k o : Nat} {u : Value} (hk : ∃ (c : Array Value) (e : TypeId) (f : Nat × Nat), w.heap[k]? = some (Obj.cells c e f) ∧ e = 61) : OwnT B (w.setCell ⟨k, o, none⟩ u) v ts := by
  obtain ⟨c, e, f, hc, rfl⟩ := hk
  refine h.stays ((Kg.refl 0 w).set (Nat.zero_le _) ⟨c, _, f, hc, .inl rfl⟩) (fun j hj => ?_)
  obtain ⟨cur, hcu⟩ := h.typ j hj
  refine Below.heap_setCell _ _ _ _ (fun e => ?_)
  rw [show j = k from e, hc] at hcu
  simp at hcu

theorem OwnT.at {B : Nat} {w : World} {a : Option Addr} {c : Nat} {ts : List (Int × Nat)} (h : OwnT B w (.slice a ts.length c) ts) (i : Nat) (hi : i < ts.length) :
    ∃ g b xa xn xc d ya yn yc, a = some ⟨g, 0, none⟩ ∧ ts.length ≤ c ∧ c ≤ maxLen ∧ g < w.heap.size ∧ B ≤ g ∧ w.cell? ⟨g, i * 4, none⟩ = some (.bool b) ∧ w.cell? ⟨g, i * 4 + 1, none⟩ = some (.slice xa xn xc) ∧ w.cell? ⟨g, i * 4 + 2, none⟩ = some (.bool d) ∧ w.cell? ⟨g, i * 4 + 3, none⟩ = some (.slice ya yn yc) ∧
      (∀ o, w.frozen? ⟨g, o, none⟩ = false) ∧ IsI w (.agg #[.bool b, .slice xa xn xc]) (ts.getD i (0, 0)).1 ∧ IsI w (.agg #[.bool d, .slice ya yn yc]) ((ts.getD i (0, 0)).2 : Int) := by
  obtain ⟨cs, h1, h2, h3⟩ := h
  rcases h2.2 with ⟨_, h'⟩ | ⟨g, cap, cur, hv, hB, hg, hnc, hcm, _⟩
  · omega
  · simp only [Value.slice.injEq, true_and] at hv
    obtain ⟨rfl, rfl⟩ := hv
    have hp : cs[i]? = some cs[i] := List.getElem?_eq_getElem (by omega)
    obtain ⟨e1, e2, e3, e4⟩ := flat4_at cs i _ hp
    obtain ⟨hI, hJ⟩ := h3 i _ hp
    obtain ⟨b', xa, xn, xc, hx⟩ := hI.form
    obtain ⟨d', ya, yn, yc, hy⟩ := hJ.form
    simp at hx hy
    rw [hx.2] at hI e2
    rw [hy.2] at hJ e4
    refine ⟨g, cs[i].a, xa, xn, xc, cs[i].b, ya, yn, yc, rfl, hnc, hcm, (Array.getElem?_eq_some_iff.1 hg).1, hB, ?_, ?_, ?_, ?_, fun o => h2.frozenAt o, hI, hJ⟩
    · rw [h2.cellAt (i * 4) (by omega)]; exact e1
    · rw [h2.cellAt (i * 4 + 1) (by omega)]; exact e2
    · rw [h2.cellAt (i * 4 + 2) (by omega)]; exact e3
    · rw [h2.cellAt (i * 4 + 3) (by omega)]; exact e4

theorem OwnT.store {B : Nat} {w : World} {g c : Nat} {ts : List (Int × Nat)} (h : OwnT B w (.slice (some ⟨g, 0, none⟩) ts.length c) ts) (i : Nat) (hi : i < ts.length) {b : Bool} {x : Value} {z : Int} (hz : IsI w (.agg #[.bool b, x]) z) :
    OwnT B ((w.setCell ⟨g, i * 4, none⟩ (.bool b)).setCell ⟨g, i * 4 + 1, none⟩ x) (.slice (some ⟨g, 0, none⟩) ts.length c) (ts.set i (z, (ts.getD i (0, 0)).2)) := by
  obtain ⟨cur, htyp⟩ := h.typ g rfl
  obtain ⟨cs, h1, h2, h3⟩ := h
  have hp : cs[i]? = some cs[i] := List.getElem?_eq_getElem (by omega)
  have hk1 : Kp 0 w (w.setCell ⟨g, i * 4, none⟩ (.bool b)) := (Kg.refl 0 w).set (Nat.zero_le _) ⟨_, _, _, htyp, .inr rfl⟩
  have hk2 : Kp 0 w ((w.setCell ⟨g, i * 4, none⟩ (.bool b)).setCell ⟨g, i * 4 + 1, none⟩ x) := hk1.set (Nat.zero_le _) ⟨_, _, _, heap_setCell_same w g (i * 4) cur _ _ htyp, .inr rfl⟩
  refine ⟨cs.set i ⟨b, x, cs[i].b, cs[i].y⟩, by simpa using h1, ?_, ?_⟩
  · rw [flat4_set cs i _ b x hp, List.length_set]
    exact ((h2.stored _ _).1.stored _ _).1
  · intro j p hj
    by_cases hij : i = j
    · subst hij
      rw [List.getElem?_set_self (by omega)] at hj
      have hj := Option.some.inj hj
      subst hj
      have e : (ts.set i (z, (ts.getD i (0, 0)).2)).getD i (0, 0) = (z, (ts.getD i (0, 0)).2) := by simp [List.getD, hi]
      rw [e]
      exact ⟨hz.kp hk2, (h3 i _ hp).2.kp hk2⟩
    · rw [List.getElem?_set_ne hij] at hj
      have e : (ts.set i (z, (ts.getD i (0, 0)).2)).getD j (0, 0) = ts.getD j (0, 0) := by simp [List.getD, List.getElem?_set_ne hij]
      rw [e]
      exact ⟨(h3 j p hj).1.kp hk2, (h3 j p hj).2.kp hk2⟩

theorem Tryz.infoTerm : (Tryz.prog.info? 90).map (fun i => (i.zero, i.size, i.bytes)) = some (some (.agg #[.bool false, .slice none 0 0, .bool false, .slice none 0 0]), 4, 64) := by kernel_rfl
theorem Tryz.sliceTerm : Tryz.prog.underlying 59 = some (.slice 90) := by kernel_rfl

theorem Kg.grownT {w w' : World} {g : Option Nat} (hg : w.grownBy w' g) (ht : ∀ k, g = some k → ∃ cur, w.heap[k]? = some (.cells cur 90 (0, 0))) : ∀ (k : Nat) (c : Array Value) (e : TypeId) (f : Nat × Nat), w.heap[k]? = some (Obj.cells c e f) → ¬ isRT e → w'.heap[k]? = some (Obj.cells c e f) := by
  intro k c e f h0 h2
  rw [hg.block k (lt_of_block h0) (fun e0 => ?_)]
  · exact h0
  · obtain ⟨cur, hc⟩ := ht k e0.symm
    rw [h0] at hc
    simp at hc
    exact h2 (.inr hc.2.1)

theorem wp_pushT {o : Oper} {a : Act} {K : Act → World → Prop} {Q : Exit → Act → World → Prop} {W : World} (s x : Operand)
    (ho : o.op = .call { callee := .builtin .append, args := #[s, x], argTypes := #[59, 59] })
    (B : Nat) (v : Value) (ts : List (Int × Nat)) (b d : Bool) (y u : Value) (z : Int) (p : Nat) (ad : Nat) (hs : a.eval s = v) (hx : a.eval x = .slice (some ⟨ad, 0, none⟩) 1 1) (hown : OwnT B W v ts) (hz : IsI W (.agg #[.bool b, y]) z) (hp : IsI W (.agg #[.bool d, u]) (p : Int))
    (hc : ∀ j q, [.bool b, y, .bool d, u][j]? = some q → W.cell? ((⟨ad, 0, none⟩ : Addr).add j) = some q)
    (hlen : ts.length ≤ 1000000) (hB : B ≤ W.heap.size)
    (h : ∀ v' w', OwnT B w' v' (ts ++ [(z, p)]) → Kp B W w' → W.grownBy w' v.ownBlock → K (a.put o.dst v') w') :
    o.wp Tryz.prog a W K Q := by
  obtain ⟨i, hi, hz0, hz1, hz2⟩ := info_parts Tryz.infoTerm
  have htyp := hown.typ
  have hblk := hown.block
  obtain ⟨cs, h1, h2, h3⟩ := hown
  obtain ⟨_, xa, xn, xc, ey⟩ := hz.form
  obtain ⟨_, ya, yn, yc, eu⟩ := hp.form
  simp at ey eu
  obtain ⟨_, rfl⟩ := ey
  obtain ⟨_, rfl⟩ := eu
  refine wp_append_own _ s x 59 ho B 90 i (.agg #[.bool false, .slice none 0 0, .bool false, .slice none 0 0]) 4 64 Tryz.sliceTerm hi hz0 hz1 hz2 rfl (by decide) v ts.length (flat4 cs) hs h2 ⟨ad, 0, none⟩ 1 1 [.bool b, .slice xa xn xc, .bool d, .slice ya yn yc] hx rfl hc ?_ ?_ ?_ hB ?_
  · intro q hq
    simp at hq
    rcases hq with rfl | rfl | rfl | rfl <;> rfl
  · unfold maxLen; omega
  · omega
  · intro v' w' g1 g2 _
    have hkp : Kp B W w' := ⟨(Below.refl _ _).grown g2 hB hblk, Kg.grownT g2 htyp⟩
    refine h v' w' ⟨cs ++ [⟨b, .slice xa xn xc, d, .slice ya yn yc⟩], by simp [h1], ?_, ?_⟩ hkp g2
    · rw [flat4_append]
      simpa [flat4] using g1
    · intro j q hj
      by_cases hjl : j < cs.length
      · rw [List.getElem?_append_left hjl] at hj
        have hj2 : (ts ++ [(z, p)]).getD j (0, 0) = ts.getD j (0, 0) := by simp [List.getD, List.getElem?_append_left (show j < ts.length by omega)]
        rw [hj2]
        exact ⟨(h3 j q hj).1.kp hkp, (h3 j q hj).2.kp hkp⟩
      · rw [List.getElem?_append_right (by omega)] at hj
        have hj0 : j - cs.length = 0 := by
          rcases Nat.eq_zero_or_pos (j - cs.length) with h0 | h0
          · exact h0
          · rw [List.getElem?_eq_none (by simp; omega)] at hj; simp at hj
        rw [hj0] at hj
        simp at hj
        subst hj
        have hj2 : (ts ++ [(z, p)]).getD j (0, 0) = (z, p) := by
          rw [show j = ts.length by omega]; simp [List.getD]
        rw [hj2]
        exact ⟨hz.kp hkp, hp.kp hkp⟩

theorem step_pushT {ops : Array Oper} {o : Oper} {a : Act} {K : Act → World → Prop} {Q : Exit → Act → World → Prop} {E : Prop} {W : World} (hg : o.guard = none) (s x : Operand)
    (ho : o.op = .call { callee := .builtin .append, args := #[s, x], argTypes := #[59, 59] })
    (B : Nat) (v : Value) (ts : List (Int × Nat)) (b d : Bool) (y u : Value) (z : Int) (p : Nat) (ad : Nat) (hs : a.eval s = v) (hx : a.eval x = .slice (some ⟨ad, 0, none⟩) 1 1) (hown : OwnT B W v ts) (hz : IsI W (.agg #[.bool b, y]) z) (hp : IsI W (.agg #[.bool d, u]) (p : Int))
    (hc : ∀ j q, [.bool b, y, .bool d, u][j]? = some q → W.cell? ((⟨ad, 0, none⟩ : Addr).add j) = some q)
    (hlen : ts.length ≤ 1000000) (hB : B ≤ W.heap.size)
    (h : ∀ v' w', OwnT B w' v' (ts ++ [(z, p)]) → Kp B W w' → W.grownBy w' v.ownBlock → K (a.put o.dst v') w') :
    if Region.wanted o (yielded ops a.tmps) = true then Oper.wp Tryz.prog o a W K Q else E := by
  have hw : Region.wanted o (yielded ops a.tmps) = true := by simp [Region.wanted, hg]
  rw [if_pos hw]
  exact wp_pushT s x ho B v ts b d y u z p ad hs hx hown hz hp hc hlen hB h

end Go.Proofs.YtldcjkhbiffdoabGreatDoor

namespace Go.Proofs.YtldcjkhbiffdoabGreatDoor
open Go.RowKit

theorem Fit.neg' {z : Int} (h : Fit z) : Fit (-z) := by
  obtain ⟨n, hn, h1⟩ := h
  exact ⟨n, hn, by simpa using h1⟩

set_option maxHeartbeats 1000000 in
theorem wsub_any (u v : Value) (z1 z2 : Int) (w : World) (hu : IsI w u z1) (hv : IsI w v z2) (f1 : Fit z1) (f2 : Fit z2) :
    Calls Tryz.prog 103 #[u, v] w fun e w' => ∃ v, e = .returned v ∧ IsI w' v (z1 - z2) ∧ Below w.heap.size w w' := by
  obtain ⟨b1, ua, un, uc, rfl⟩ := hu.form
  obtain ⟨b2, va, vn, vc, rfl⟩ := hv.form
  go_enter Tryz.func103, Tryz.ntmps103
  go_wp2_with fail
  generalize hW : ((w.alloc (Obj.cells #[Value.bool b1, Value.slice ua un uc] 70)).alloc (Obj.cells #[Value.bool b2, Value.slice va vn vc] 70)).alloc (Obj.cells #[Value.bool false, Value.slice none 0 0] 70) = W0
  obtain ⟨hz0, hb0, X0, X1, X2⟩ := three_new hW
  clear hW
  refine (neg_any _ z2 W0 (hv.below hb0) f2).mono ?_
  rintro e w1 ⟨v1, rfl, hI1, hb1⟩
  obtain ⟨b3, xa, xn, xc, rfl⟩ := hI1.form
  have Y0 := X0.below hb1; have Y2 := X2.below hb1
  have p0 := Y0.c0; have p1 := Y0.c1; have hl0 := Y0.lt; have hl2 := Y2.lt
  go_wp2_with fail
  generalize hW4 : w1.alloc (Obj.cells #[Value.bool b3, Value.slice xa xn xc] 70) = W4
  obtain ⟨hb4, _⟩ := one_new hW4
  clear hW4
  have Z2 := Y2.below hb4
  refine (add_any _ _ z1 (-z2) W4 (((hu.below hb0).below hb1).below hb4) (hI1.below hb4) f1 f2.neg').mono ?_
  rintro e w5 ⟨v5, rfl, hI5, hb5⟩
  obtain ⟨b5, ya, yn, yc, rfl⟩ := hI5.form
  have V2 := Z2.below hb5
  have r0 := V2.c0; have r1 := V2.c1; have r2 := V2.f0; have r3 := V2.f1
  have hbw : Below w.heap.size w w5 := ((hb0.trans (hb1.mono hb0.size)).trans (hb4.mono (by have := hb0.size; have := hb1.size; omega))).trans (hb5.mono (by have := hb0.size; have := hb1.size; have := hb4.size; omega))
  rw [show z1 + -z2 = z1 - z2 by omega] at hI5
  go_wp2
  refine bodyPost_ret (v := .agg #[.bool b5, .slice ya yn yc]) (by simp [results, Tryz.results103, go_sem, r0, r1]) rfl ⟨_, rfl, hI5.set2 V2 _ _, below_set2 hbw (by omega) _ _⟩

set_option maxHeartbeats 1000000 in
theorem pdiff_any (xs ys : List Int) (u v : Value) (w : World) (hu : IsL w u xs) (hv : IsL w v ys) (hl : xs.length ≤ 1000000) (hm : ys.length ≤ 1000000) (fx : FitW xs) (fy : FitW ys) :
    Calls Tryz.prog 78 #[u, v] w fun e w' => ∃ x, e = .returned x ∧ OwnL w.heap.size w' x (tab (max xs.length ys.length) fun k => xs.getD k 0 - ys.getD k 0) ∧ Below w.heap.size w w' := by
  obtain ⟨ua, uc, rfl⟩ := OwnL.val hu
  obtain ⟨va, vc, rfl⟩ := OwnL.val hv
  obtain ⟨f, HF⟩ : ∃ f : Nat → Int, Hid (f = fun k => xs.getD k 0 - ys.getD k 0) := ⟨_, rfl⟩
  rw [← HF.out]
  go_enter Tryz.func78, Tryz.ntmps78
  go_wp2_with fail
  go_loopw [5, 6] (fun o i wr => ∃ (k : Nat), k ≤ max xs.length ys.length ∧ i = .int .i64 k ∧ OwnL w.heap.size wr o (tab k f) ∧ Below w.heap.size w wr) (fun _ i _ => max xs.length ys.length - (intOf i).toNat)
  case atStart => exact ⟨0, Nat.zero_le _, rfl, OwnL.lit rfl, (Below.refl _ _).alloc (Nat.le_refl _) _⟩
  case round =>
    obtain ⟨k, hk, rfl, hown, hbel⟩ := hrel
    have hlen := tab_len k f
    by_cases hlt : k < max xs.length ys.length
    · have hc1 := numberAt_any xs (.slice ua xs.length uc) k wr (OwnL.below hu hbel)
      have hc2 := fun (W : World) (g : IsL W (.slice va ys.length vc) ys) => numberAt_any ys (.slice va ys.length vc) k W g
      have hsu := tab_succ k f
      have hfk : f k = xs.getD k 0 - ys.getD k 0 := by rw [HF.out]
      rw [hfk] at hsu
      have f1 := fx k
      have f2 := fy k
      generalize xs.getD k 0 = x at *
      generalize ys.getD k 0 = y at *
      have HSU : Hid _ := hsu
      clear hsu hfk
      obtain ⟨L, HL⟩ : ∃ L, Hid (tab k f = L) := ⟨_, rfl⟩
      rw [HL.out] at hown hlen
      have hll : L.length ≤ 1000000 := by omega
      clear hlen
      have hA := fun (W : World) (u1 u2 : Value) (g1 : IsI W u1 x) (g2 : IsI W u2 y) => wsub_any u1 u2 x y W g1 g2 f1 f2
      have HA : Hid _ := hA
      have HC2 : Hid _ := hc2
      clear hA hc2
      have hcase : k < xs.length ∨ (¬ k < xs.length ∧ k < ys.length) := by omega
      rcases hcase with h5 | ⟨h5, h6⟩
      all_goals
        go_wp2_with fail
        refine hc1.mono ?_
        rintro e w1 ⟨x1, rfl, hI1, hb1⟩
        obtain ⟨b1, a1, n1, c1, rfl⟩ := hI1.form
        have hbw1 := hbel.trans (hb1.mono hbel.size)
        go_wp2_with fail
        generalize hW2 : w1.alloc (Obj.cells #[Value.bool b1, Value.slice a1 n1 c1] 70) = W2
        obtain ⟨hb2, X2⟩ := one_new hW2
        clear hW2
        have hbw2 := hbw1.trans (hb2.mono hbw1.size)
        refine (HC2.out W2 (OwnL.below hv hbw2)).mono ?_
        rintro e w3 ⟨x3, rfl, hI3, hb3⟩
        obtain ⟨b3, a3, n3, c3, rfl⟩ := hI3.form
        have hbw3 := hbw2.trans (hb3.mono hbw2.size)
        have X3 := X2.below hb3
        have q0 := X3.c0; have q1 := X3.c1; have q2 := X3.lt
        have hI13 := (hI1.below hb2).below hb3
        go_wp2_with fail
        generalize hW4 : w3.alloc (Obj.cells #[Value.bool b3, Value.slice a3 n3 c3] 70) = W4
        obtain ⟨hb4, X4⟩ := one_new hW4
        clear hW4
        have hbw4 := hbw3.trans (hb4.mono hbw3.size)
        refine (HA.out W4 _ _ (hI13.below hb4) (hI3.below hb4)).mono ?_
        rintro e w5 ⟨x5, rfl, hI5, hb5⟩
        obtain ⟨b5, a5, n5, c5, rfl⟩ := hI5.form
        have hbw5 := hbw4.trans (hb5.mono hbw4.size)
        have hown5 := OwnL.below (OwnL.below (OwnL.below (OwnL.below (OwnL.below hown hb1) hb2) hb3) hb4) hb5
        go_wp2_with (at_builtin; refine wpList_pushI rfl (.tmp 28) (.tmp 32) rfl w.heap.size _ L _ _ (x - y) rfl hown5 hI5 rfl (by omega) hbw5.size ?_)
        intro v6 w6 hown6 hb6 _
        rw [← HL.out, ← HSU.out] at hown6
        go_wp2
        go_roundw
        case rel => exact ⟨k + 1, by omega, by go_num, hown6, hbw5.trans hb6⟩
        case measure => simp [intOf]; omega
    · obtain rfl : k = max xs.length ys.length := by omega
      have h5 : ¬ max xs.length ys.length < xs.length := by omega
      have h6 : ¬ max xs.length ys.length < ys.length := by omega
      obtain ⟨oa, oc, rfl⟩ := OwnL.val hown
      go_wp2
      go_ret
      exact ⟨_, rfl, hown, hbel⟩

end Go.Proofs.YtldcjkhbiffdoabGreatDoor

namespace Go.Proofs.YtldcjkhbiffdoabGreatDoor
open Go.RowKit

set_option maxHeartbeats 1000000 in
theorem valueOf_any (p : Nat) (a m : List Int) (u v : Value) (w : World) (hu : RowN w u a) (hv : RowN w v m) (hl : a.length ≤ 900) (hm : m.length ≤ 900) (hp2 : 2 ≤ p) (hp1 : p < 1000) (ra : Red p a) (rm : Red p m) :
    Calls Tryz.prog 127 #[u, v, .int .i64 p] w fun e w' => e = .returned (.int .i64 (dot a m % p)) ∧ w' = w := by
  obtain ⟨ua, uc, rfl⟩ := hu.val
  obtain ⟨va, vc, rfl⟩ := hv.val
  have hM := fun (n : Int) (W : World) (h0 : 0 ≤ n) (h1 : n < 10000000) => modulo_any n p W h0 (by omega) (by omega) (by omega)
  have HM : Hid _ := hM
  have HE : Hid (dot (a.take a.length) m % p = dot a m % p) := by show _ = _; rw [List.take_length]
  obtain ⟨r, HR⟩ : ∃ r, Hid (dot a m % p = r) := ⟨_, rfl⟩
  rw [HR.out] at HE ⊢
  clear hM HR
  go_enter Tryz.func127, Tryz.ntmps127
  go_wp2_with fail
  go_loopw [7, 8] (fun o i wr => ∃ (k : Nat) (z : Int), k ≤ a.length ∧ i = .int .i64 k ∧ o = .int .i64 z ∧ 0 ≤ z ∧ z < p ∧ Hid (z = dot (a.take k) m % p) ∧ wr = w) (fun _ i _ => a.length - (intOf i).toNat)
  case atStart => exact ⟨0, 0, Nat.zero_le _, rfl, rfl, by omega, by omega, by show (0 : Int) = _; rw [List.take_zero]; simp [dot], rfl⟩
  case round =>
    obtain ⟨k, z, hk, rfl, rfl, hz0, hz1, HZ, rfl⟩ := hrel
    by_cases hlt : k < a.length
    · have hst := val_step p a m k
      rw [← HZ.out] at hst
      have hc := atN_any m (.slice va m.length vc) k wr hv (by omega) (by omega)
      obtain ⟨ga, rfl, hu1, hu2, hu3, hcx⟩ := hu.at k hlt
      obtain ⟨hx0, hx1⟩ := ra k
      obtain ⟨hy0, hy1⟩ := rm k
      generalize a.getD k 0 = x at *
      generalize m.getD k 0 = y at *
      have HST : Hid _ := hst
      clear hst HZ
      have hm0 : 0 ≤ x * y := Int.mul_nonneg hx0 hy0
      have hm1 : x * y ≤ 1000 * 1000 := Int.mul_le_mul (by omega) (by omega) hy0 (by omega)
      have hq0 : 0 ≤ (z + x * y) % p := Int.emod_nonneg _ (by omega)
      have hq1 : (z + x * y) % p < p := Int.emod_lt_of_pos _ (by omega)
      have hw1 : IntKind.i64.wrap (x * y) = x * y := by rw [IntKind.wrap_i64]; omega
      have hw2 : IntKind.i64.wrap (z + x * y) = z + x * y := by rw [IntKind.wrap_i64]; omega
      go_wp2_with fail
      refine hc.mono ?_
      rintro e w1 ⟨rfl, rfl⟩
      go_wp2_with fail
      refine (HM.out _ _ (by omega) (by omega)).mono ?_
      rintro e w1 ⟨rfl, rfl⟩
      go_wp2
      go_roundw
      case rel => exact ⟨k + 1, _, by omega, by go_num, rfl, hq0, hq1, HST, trivial⟩
      case measure => simp [intOf]; omega
    · obtain rfl : k = a.length := by omega
      have hz : Hid (z = r) := by show z = r; rw [HZ.out]; exact HE.out
      clear HZ HE
      go_wp2
      go_ret
      exact ⟨by rw [hz.out]; rfl, rfl⟩

set_option maxHeartbeats 2000000 in
theorem equation_any (p : Nat) (R : List (List Int)) (k : Nat) (u : Value) (w : World) (hu : OwnVN 0 w u R) (hl : R.length ≤ 900) (hR : ∀ r, r ∈ R → Nrm p r ∧ r.length ≤ 900) (hk : k < 900) (hp2 : 2 ≤ p) (hp1 : p < 1000) :
    Calls Tryz.prog 117 #[u, .int .i64 k, .int .i64 p] w fun e w' => ∃ x, e = .returned x ∧ OwnN w.heap.size w' x (eqn p R k) ∧ Below w.heap.size w w' := by
  obtain ⟨ua, uc, rfl⟩ := hu.val
  have hM := fun (n : Int) (W : World) (h0 : 0 ≤ n) (h1 : n < 10000000) => modulo_any n p W h0 (by omega) (by omega) (by omega)
  have HM : Hid _ := hM
  obtain ⟨f, HF⟩ : ∃ f : Nat → Int, Hid (f = fun i => ((R.getD i []).getD k 0 + if i = k then (p : Int) - 1 else 0) % p) := ⟨_, rfl⟩
  have HT : Hid (eqn p R k = tab R.length f) := by rw [HF.out]; rfl
  rw [HT.out]
  have HR : Hid _ := hR
  clear hM HT hR
  go_enter Tryz.func117, Tryz.ntmps117
  go_wp2_with fail
  go_loopw [7, 8] (fun o i wr => ∃ (j : Nat), j ≤ R.length ∧ i = .int .i64 j ∧ OwnN w.heap.size wr o (tab j f) ∧ Below w.heap.size w wr) (fun _ i _ => R.length - (intOf i).toNat)
  case atStart => exact ⟨0, Nat.zero_le _, rfl, OwnN.lit rfl, (Below.refl _ _).alloc (Nat.le_refl _) _⟩
  case round =>
    obtain ⟨j, hj, rfl, hown, hbel⟩ := hrel
    have hlen : (tab j f).length ≤ 900 := by rw [tab_len]; omega
    by_cases hlt : j < R.length
    · have hsu := tab_succ j f
      obtain ⟨g, xa, xn, xc, r, rfl, hc1, hc2, hg1, _, hcell, hr, hrow⟩ := OwnV.at vecN hu j hlt
      have hcell' : wr.cell? ⟨g, j, none⟩ = some (.slice xa xn xc) := (hbel.cell (p := ⟨g, j, none⟩) hg1).trans hcell
      have hrd : R.getD j [] = r := by simp [List.getD, hr]
      have hfk : f j = (r.getD k 0 + if j = k then (p : Int) - 1 else 0) % p := by rw [HF.out, ← hrd]
      rw [hfk] at hsu
      obtain ⟨hrn, hrl⟩ := HR.out r (List.mem_of_getElem? hr)
      obtain ⟨hx0, hx1⟩ := hrn.1 k
      have hc := atN_any r _ k wr (hrow.below hbel) (by omega) (by omega)
      generalize r.getD k 0 = x at *
      have HSU : Hid _ := hsu
      clear hsu hfk hrd hrn hr hrow
      obtain ⟨L, HL⟩ : ∃ L, Hid (tab j f = L) := ⟨_, rfl⟩
      rw [HL.out] at hown hlen
      by_cases hjk : j = k
      · subst hjk
        have HSU2 : Hid (tab (j + 1) f = tab j f ++ [(x + (p : Int) - 1) % p]) := by
          have := HSU.out
          rw [if_pos rfl] at this
          rwa [show x + ((p : Int) - 1) = x + p - 1 by omega] at this
        clear HSU
        have hq0 : 0 ≤ (x + (p : Int) - 1) % p := Int.emod_nonneg _ (by omega)
        have hq1 : (x + (p : Int) - 1) % p < p := Int.emod_lt_of_pos _ (by omega)
        go_wp2_with fail
        refine hc.mono ?_
        rintro e w1 ⟨rfl, rfl⟩
        go_wp2_with fail
        refine (HM.out _ _ (by omega) (by omega)).mono ?_
        rintro e w1 ⟨rfl, rfl⟩
        go_wp2_with (at_builtin; refine wpList_pushN rfl (.tmp 30) (.tmp 34) rfl w.heap.size _ L _ rfl hown rfl (by omega) hbel.size ?_)
        intro v4 w4 hown4 hb4 _
        rw [← HL.out, ← HSU2.out] at hown4
        go_wp2
        go_roundw
        case rel => exact ⟨j + 1, by omega, by go_num, hown4, hbel.trans hb4⟩
        case measure => simp [intOf]; omega
      · have hjk' : ¬ (j : Int) = k := by omega
        have HSU2 : Hid (tab (j + 1) f = tab j f ++ [x % p]) := by
          have := HSU.out
          rwa [if_neg hjk, Int.add_zero] at this
        clear HSU
        have hq0 : 0 ≤ x % p := Int.emod_nonneg _ (by omega)
        have hq1 : x % p < p := Int.emod_lt_of_pos _ (by omega)
        go_wp2_with fail
        refine hc.mono ?_
        rintro e w1 ⟨rfl, rfl⟩
        go_wp2_with fail
        refine (HM.out _ _ (by omega) (by omega)).mono ?_
        rintro e w1 ⟨rfl, rfl⟩
        go_wp2_with (at_builtin; refine wpList_pushN rfl (.tmp 30) (.tmp 34) rfl w.heap.size _ L _ rfl hown rfl (by omega) hbel.size ?_)
        intro v4 w4 hown4 hb4 _
        rw [← HL.out, ← HSU2.out] at hown4
        go_wp2
        go_roundw
        case rel => exact ⟨j + 1, by omega, by go_num, hown4, hbel.trans hb4⟩
        case measure => simp [intOf]; omega
    · obtain rfl : j = R.length := by omega
      obtain ⟨oa, oc, hoe⟩ := hown.row.val
      subst hoe
      clear hlen
      go_wp2
      go_ret
      exact ⟨_, rfl, hown, hbel⟩

set_option maxRecDepth 100000 in
set_option maxHeartbeats 4000000 in
theorem narrowed_any (p n : Nat) (E : Nat → List Int) (k : Nat) (Bs : List (List Int)) (u v : Value) (w : World) (hu : OwnVN 0 w u Bs) (hv : RowN w v (E k)) (hB : Bas p n E k Bs) (hE : Red p (E k)) (hEl : (E k).length ≤ 900) (hn : n ≤ 900) (hp2 : 2 ≤ p) (hp1 : p < 1000) (hp : Dom (p : Int)) :
    Calls Tryz.prog 116 #[u, v, .int .i64 p] w fun e w' => ∃ x K, e = .returned x ∧ OwnVN w.heap.size w' x K ∧ Bas p n E (k + 1) K ∧ Below w.heap.size w w' := by
  obtain ⟨ua, uc, rfl⟩ := hu.val
  obtain ⟨va, vc, rfl⟩ := hv.val
  have hM := fun (n : Int) (W : World) (h0 : 0 ≤ n) (h1 : n < 10000000) => modulo_any n p W h0 (by omega) (by omega) (by omega)
  have HM : Hid _ := hM
  have hBl := hB.len
  have HEND : Hid _ := fun (K : List (List Int)) (sp : List Int) (s : Int) (h : NrO p n E k Bs Bs.length K sp s) => NrO.ends hp hB h
  have HMEM : Hid _ := hB.mem
  have HSP : Hid _ := fun (i : Nat) (K : List (List Int)) (sp b : List Int) (s : Int) (h : NrO p n E k Bs i K sp 0) (hb : Bs[i]? = some b) (hs : (p : Int) ∣ dot b (E k) * s - 1) => NrO.spend hp h hb (hB.mem b (List.mem_of_getElem? hb)) hs
  have HKP : Hid _ := fun (i : Nat) (K : List (List Int)) (sp b : List Int) (s : Int) (h : NrO p n E k Bs i K sp s) (hb : Bs[i]? = some b) (hv : dot b (E k) % p = 0 ∨ s ≠ 0) => NrO.keep (by omega) h hb (hB.mem b (List.mem_of_getElem? hb)) hv
  have HV : Hid _ := fun (W : World) (b : List Int) (x : Value) (hW : Below w.heap.size w W) (hx : RowN W x b) (hb : b ∈ Bs) => valueOf_any p b (E k) x _ W hx (hv.below hW) (by have := (hB.mem b hb).2.1; omega) hEl hp2 hp1 (hB.mem b hb).1.1 hE
  have HIN : Hid _ := fun (W : World) (z : Int) (h0 : 0 < z) (h1 : z < p) => (show ∀ (m : Nat), (m : Int) = z → Calls Tryz.prog 114 #[.int .i64 z, .int .i64 p] W fun e w' => ∃ k : Nat, e = .returned (.int .i64 k) ∧ k < p ∧ (p : Int) ∣ z * k - 1 ∧ w' = W from fun m hm => by
    subst hm
    exact inverse_any p m W hp2 hp1 hp (by omega) (fun hd => by
      have := Int.eq_zero_of_dvd_of_natAbs_lt_natAbs hd (by rw [Int.natAbs_natCast, Int.natAbs_natCast]; omega)
      omega)) z.toNat (by omega)
  clear hB hM hp
  go_enter Tryz.func116, Tryz.ntmps116
  go_wp2_with fail
  go_loopw [7, 8, 9, 10] (fun o s c i wr => ∃ (j : Nat) (K : List (List Int)) (sp : List Int) (sc : Nat), j ≤ Bs.length ∧ i = .int .i64 j ∧ c = .int .i64 sc ∧ sc < p ∧ OwnVN w.heap.size wr o K ∧ RowN wr s sp ∧ Hid (NrO p n E k Bs j K sp sc) ∧ Below w.heap.size w wr) (fun _ _ _ i _ => Bs.length - (intOf i).toNat)
  case atStart =>
    have h1 := (Below.refl w.heap.size w).alloc (Nat.le_refl _) (Obj.cells #[] 42)
    refine ⟨0, [], [], 0, Nat.zero_le _, rfl, rfl, by omega, OwnV.below vecN (OwnV.lit rfl) ((Below.refl _ _).alloc (Nat.le_refl _) _), (OwnN.lit (w := w.alloc (Obj.cells #[] 42)) (by simp)).row, NrO.start p n E k Bs, ?_⟩
    exact h1.alloc h1.size _
  case round =>
    obtain ⟨j, K, sp, sc, hj, rfl, rfl, hsc, hown, hsp, HN, hbel⟩ := hrel
    obtain ⟨oa, oc, rfl⟩ := hown.val
    obtain ⟨sa, s2, rfl⟩ := hsp.val
    by_cases hlt : j < Bs.length
    · obtain ⟨g, xa, xn, xc, b, rfl, hc1, hc2, hg1, _, hcell, hb, hrow⟩ := OwnV.at vecN hu j hlt
      have hcell' : wr.cell? ⟨g, j, none⟩ = some (.slice xa xn xc) := (hbel.cell (p := ⟨g, j, none⟩) hg1).trans hcell
      have hrow' := hrow.below hbel
      have hval := HV.out wr b _ hbel hrow' (List.mem_of_getElem? hb)
      obtain ⟨hbn, hbl, _⟩ := HMEM.out b (List.mem_of_getElem? hb)
      have hKl := HN.out.kl
      have hspr := HN.out.spr (by omega)
      have hkeep := HKP.out j K sp b (sc : Int) HN.out hb
      have hspend := fun (s : Int) (h0 : (sc : Int) = 0) => HSP.out j K sp b s (by have := HN.out; rwa [h0] at this) hb
      have hz0 : 0 ≤ dot b (E k) % p := Int.emod_nonneg _ (by omega)
      have hz1 : dot b (E k) % p < p := Int.emod_lt_of_pos _ (by omega)
      have hsd : ∀ s : Int, (p : Int) ∣ dot b (E k) % p * s - 1 → (p : Int) ∣ dot b (E k) * s - 1 := fun s h => by
        have h1 := Int.dvd_sub h (Int.dvd_trans (emod_alike (dot b (E k)) p) (Int.dvd_mul_right _ s))
        rwa [Int.sub_mul, show dot b (E k) % ↑p * s - 1 - (dot b (E k) % ↑p * s - dot b (E k) * s) = dot b (E k) * s - 1 by omega] at h1
      generalize dot b (E k) % p = z at *
      have HSD : Hid _ := fun (s : Int) (h0 : (sc : Int) = 0) (h : (p : Int) ∣ z * s - 1) => hspend s h0 (hsd s h)
      have HK : Hid _ := hkeep
      clear hsd hspend hkeep HN hb hcell
      by_cases hcase : z ≠ 0 ∧ sc = 0
      · obtain ⟨hzn, rfl⟩ := hcase
        have hzb : (z == 0) = false := by simpa using hzn
        have hin := HIN.out wr z (by omega) hz1
        clear HK
        go_wp2_with fail
        refine hval.mono ?_
        rintro e w1 ⟨rfl, rfl⟩
        go_wp2_with fail
        refine hin.mono ?_
        rintro e w1 ⟨s, rfl, hs, hdv, rfl⟩
        have HX : Hid _ := HSD.out s rfl hdv
        clear hdv HSD
        go_wp2
        go_roundw
        case rel => exact ⟨j + 1, K, b, s, by omega, by go_num, rfl, hs, hown, hrow', HX, hbel⟩
        case measure => simp [intOf]; omega
      · have hzs : z = 0 ∨ (sc : Int) ≠ 0 := by omega
        have HX : Hid _ := HK.out hzs
        clear HK HSD
        have hm0 : 0 ≤ z * (sc : Int) := Int.mul_nonneg hz0 (by omega)
        have hm1 : z * (sc : Int) ≤ 1000 * 1000 := Int.mul_le_mul (by omega) (by omega) (by omega) (by omega)
        have hq0 : 0 ≤ z * (sc : Int) % p := Int.emod_nonneg _ (by omega)
        have hq1 : z * (sc : Int) % p < p := Int.emod_lt_of_pos _ (by omega)
        have hww : IntKind.i64.wrap (z * (sc : Int)) = z * sc := by rw [IntKind.wrap_i64]; omega
        have hmod := HM.out (z * (sc : Int)) wr hm0 (by omega)
        obtain ⟨c, HC⟩ : ∃ c : Nat, Hid ((c : Int) = z * (sc : Int) % p) := ⟨(z * (sc : Int) % p).toNat, by show _ = _; omega⟩
        rw [← HC.out] at HX hq0 hq1 hmod
        have hlt2 := lessM_any p b sp c _ _ wr hrow' hsp (by omega) (by omega) (by omega) hp1 (by omega) hbn.1 hspr.1.1
        have hzc : (z = 0) ∨ (z ≠ 0 ∧ sc ≠ 0) := by omega
        rcases hzc with rfl | ⟨hzn, hsn⟩
        · obtain rfl : c = 0 := by
            have := HC.out
            rw [Int.zero_mul, Int.zero_emod] at this
            omega
          clear HC
          simp only [Int.natCast_zero, Int.zero_mul] at HX hlt2 hmod
          obtain ⟨L2, HL2⟩ : ∃ L2, Hid (ltm p b sp 0 = L2) := ⟨_, rfl⟩
          rw [HL2.out] at HX hlt2
          go_wp2_with fail
          refine hval.mono ?_
          rintro e w1 ⟨rfl, rfl⟩
          go_wp2_with fail
          refine hmod.mono ?_
          rintro e w1 ⟨rfl, rfl⟩
          go_wp2_with fail
          refine hlt2.mono ?_
          rintro e w2 ⟨x2, rfl, hI2, hb2⟩
          obtain ⟨ya, yc, rfl⟩ := hI2.row.val
          have hown2 := OwnV.below vecN hown hb2
          have hb2w := hbel.trans (hb2.mono hbel.size)
          go_wp2_with (at_builtin; refine wpList_pushV vecN Tryz.infoVN Tryz.sliceVN rfl (.tmp 46) (.tmp 55) rfl w.heap.size _ K _ L2 rfl hown2 hI2.row rfl (by omega) hb2w.size ?_)
          intro v3 w3 hown3 hb3 hg3
          have hsp3 := vecN.kept (hsp.below hb2) hg3 hown2.typ
          go_wp2
          go_roundw
          case rel => exact ⟨j + 1, K ++ [L2], sp, sc, by omega, by go_num, rfl, hsc, hown3, hsp3, HX, hb2w.trans hb3⟩
          case measure => simp [intOf]; omega
        · have hzb : (z == 0) = false := by simpa using hzn
          have hsb : ((sc : Int) == 0) = false := by simpa using hsn
          clear HC
          obtain ⟨L2, HL2⟩ : ∃ L2, Hid (ltm p b sp (c : Int) = L2) := ⟨_, rfl⟩
          rw [HL2.out] at HX hlt2
          go_wp2_with fail
          refine hval.mono ?_
          rintro e w1 ⟨rfl, rfl⟩
          go_wp2_with fail
          refine hmod.mono ?_
          rintro e w1 ⟨rfl, rfl⟩
          go_wp2_with fail
          refine hlt2.mono ?_
          rintro e w2 ⟨x2, rfl, hI2, hb2⟩
          obtain ⟨ya, yc, rfl⟩ := hI2.row.val
          have hown2 := OwnV.below vecN hown hb2
          have hb2w := hbel.trans (hb2.mono hbel.size)
          go_wp2_with (at_builtin; refine wpList_pushV vecN Tryz.infoVN Tryz.sliceVN rfl (.tmp 46) (.tmp 55) rfl w.heap.size _ K _ L2 rfl hown2 hI2.row rfl (by omega) hb2w.size ?_)
          intro v3 w3 hown3 hb3 hg3
          have hsp3 := vecN.kept (hsp.below hb2) hg3 hown2.typ
          go_wp2
          go_roundw
          case rel => exact ⟨j + 1, K ++ [L2], sp, sc, by omega, by go_num, rfl, hsc, hown3, hsp3, HX, hb2w.trans hb3⟩
          case measure => simp [intOf]; omega
    · obtain rfl : j = Bs.length := by omega
      have HX : Hid _ := HEND.out K sp sc HN.out
      clear HN HEND
      go_wp2
      go_ret
      exact ⟨_, K, rfl, hown, HX.out, hbel⟩

end Go.Proofs.YtldcjkhbiffdoabGreatDoor
