/-
  readNumber.
-/
import Derived.Test.YtldcjkhbiffdoabDoorReadNum
namespace Go.Proofs.YtldcjkhbiffdoabDoor
open Go.RowKit

/-- A number in a new box, whichever is made first. -/
theorem box_a {W w5 : World} {db : Bool} {x : Value} {z : Int} {n : Nat} (hb : Below W.drew.heap.size W.drew w5) (hI : IsI w5 (.agg #[.bool db, x]) z) (hn : n < W.heap.size) :
    ∃ b7, Value.pointer (some ⟨w5.heap.size, 0, none⟩) = .pointer (some ⟨b7, 0, none⟩) ∧ n < b7 ∧ IsB (w5.alloc (.cells #[.bool db, x] 43)) b7 z ∧ Below W.heap.size W (w5.alloc (.cells #[.bool db, x] 43)) := by
  have h := of_drew hb
  exact ⟨_, rfl, Nat.lt_of_lt_of_le hn h.size, IsB.new hI, h.alloc h.size _⟩
theorem box_b {W w5 : World} {db : Bool} {x a b : Value} {z : Int} {n : Nat} (hb : Below (W.alloc (.cells #[a, b] 43)).drew.heap.size (W.alloc (.cells #[a, b] 43)).drew w5) (hI : IsI w5 (.agg #[.bool db, x]) z) (hn : n < W.heap.size) :
    ∃ b7, Value.pointer (some ⟨W.heap.size, 0, none⟩) = .pointer (some ⟨b7, 0, none⟩) ∧ n < b7 ∧ IsB ((w5.setCell ⟨W.heap.size, 0, none⟩ (.bool db)).setCell ⟨W.heap.size, 1, none⟩ x) b7 z ∧ Below W.heap.size W ((w5.setCell ⟨W.heap.size, 0, none⟩ (.bool db)).setCell ⟨W.heap.size, 1, none⟩ x) := by
  have h := of_drew hb
  have hX := (Bx.alloc W a b).below h
  have h0 : Below W.heap.size W (W.alloc (.cells #[a, b] 43)) := (Below.refl _ _).alloc (Nat.le_refl _) _
  exact ⟨_, rfl, hn, IsB.stored hX hI, below_set2 (h0.trans (h.mono (by simp))) (Nat.le_refl _) _ _⟩

set_option maxHeartbeats 2000000 in
theorem readNumber_any (s : ByteArray) (n rb : Nat) (tv : Value) (w : World) (B : Nat) (hR : Rd w rb s n tv) (hn : n ≤ s.size) (hs : s.size ≤ 200) (hB : B ≤ rb) (hBw : B ≤ w.heap.size) :
    Calls Tryd.prog 21 #[.pointer (some ⟨rb, 0, none⟩)] w fun e w' => ∃ v, e = .returned (.tuple #[v, .bool (rdNum s.data.toList n).1]) ∧ IsI w' v ((rdNum s.data.toList n).2.1 : Int) ∧ Rd w' rb s (rdNum s.data.toList n).2.2 tv ∧ Kr B w w' := by
  have hlt0 := hR.lt
  go_enter Tryd.func21, Tryd.ntmps21
  go_wp2_with fail
  generalize hW : w.alloc (Obj.cells #[Value.bool false, Value.slice none 0 0] 43) = W0
  obtain ⟨hb0, X0⟩ := one_new hW
  have hz0 : w.heap.size < W0.heap.size := by rw [← hW]; simp
  clear hW
  have hK0 : Kr B w W0 := Kg.of hb0 hBw
  refine (skip_any s n rb tv W0 B (hR.below hb0) hn hs hB).mono ?_
  rintro e w1 ⟨rfl, hR1, hK1'⟩
  have hK1 := hK0.trans hK1'
  have X1 := X0.kp hK1'
  have hz1 := hK1'.bel.size
  obtain ⟨k0, HK0⟩ : ∃ k0, Hid (skp s.data.toList n = k0) := ⟨_, rfl⟩
  have hk0 : k0 ≤ s.size := by rw [← HK0.out, ← toList_len]; exact skp_le (by rw [toList_len]; exact hn)
  rw [HK0.out] at hR1
  have c1 := hR1.c1
  go_wp2_with fail
  refine (small_any 10 (by omega) (by omega) w1).mono ?_
  rintro e w2 ⟨v2, rfl, hI2, hb2⟩
  obtain ⟨tb, ta, tn, tc, rfl⟩ := hI2.form
  go_wp2_with fail
  generalize hW : (w2.alloc (Obj.cells #[Value.bool tb, Value.slice ta tn tc] 43)).alloc (Obj.cells #[Value.bool false, Value.slice none 0 0] 43) = W3
  have hI5 : IsB W3 w2.heap.size 10 := by rw [← hW]; exact (IsB.new hI2).below ((Below.refl _ _).alloc (Nat.le_refl _) _)
  have hI6 : IsB W3 (w2.heap.size + 1) 0 := by
    rw [← hW]
    have := IsB.new (IsI.zero (w2.alloc (Obj.cells #[Value.bool tb, Value.slice ta tn tc] 43)))
    simpa using this
  have hb3 : Below w2.heap.size w2 W3 := by rw [← hW]; exact ((Below.refl _ _).alloc (Nat.le_refl _) _).alloc (by simp) _
  clear hW
  have hz2 := hb2.size
  have hK3 : Kr B w W3 := (hK1.step hb2 hBw).step hb3 hBw
  have X3 := (X1.below hb2).below hb3
  have hR3 := (hR1.below hb2).below hb3
  have hw5 : w.heap.size < w2.heap.size := by omega
  clear hI2 hb2 hb3 hR1 hK1 hK1' X1 hz1 hz2 hK0 X0 hb0 hz0 c1
  generalize w2.heap.size = b5 at *
  go_loopw [] (fun wr => ∃ (k num : Nat), k0 ≤ k ∧ k ≤ s.size ∧ Rd wr rb s k tv ∧ IsB wr b5 10 ∧ IsB wr (b5 + 1) (num : Int) ∧ Bx wr w.heap.size (.bool false) (.slice none 0 0) ∧ Hid (NumAt s.data.toList k0 k num) ∧ Kr B w wr) (fun wr => s.size - rdAt rb wr)
  case atStart => exact ⟨k0, 0, Nat.le_refl _, hk0, hR3, hI5, hI6, X3, NumAt.start _ _, hK3⟩
  case round =>
    clear hR3 hI5 hI6 X3 hK3
    obtain ⟨k, num, hkk, hk, hRk, hI5, hI6, X3, HN, hKp⟩ := hrel
    have c0 := hRk.c0; have c1 := hRk.c1
    by_cases hdg : ∃ h : k < s.size, isDig s[k] = true
    · obtain ⟨hlt, hdig⟩ := hdg
      have hD := fun W => isDigit_any s[k] (s[k].toNat : Int) rfl W
      simp only [hdig] at hD
      have hki : (k : Int) < (s.size : Int) := by omega
      go_wp2_with fail
      go_quiet ((go_at_call 31; exact Calls.quiet_of_same (hD _)))
      go_wp2_with fail
      have hRq : Rd (wr.drewN nq) rb s k tv := hRk
      have hI5q : IsB (wr.drewN nq) b5 10 := hI5
      have hI6q : IsB (wr.drewN nq) (b5 + 1) (num : Int) := hI6
      have X3q : Bx (wr.drewN nq) w.heap.size (.bool false) (.slice none 0 0) := X3
      have hKq := hKp.drewN nq
      have hmeas : rdAt rb wr = k := hRk.at
      have HM : Hid _ := hmeas
      clear hRk hI5 hI6 X3 hKp c0 c1 hmeas hD
      generalize wr.drewN nq = wq at *
      have c0 := hRq.c0; have c1 := hRq.c1
      have hrq := hRq.lt
      have h6q := hI6q.lt
      have hnq : rb ≠ wq.heap.size := by omega
      have hc48 : 48 ≤ (s[k].toNat : Int) ∧ (s[k].toNat : Int) ≤ 57 := by
        have h2 := isDig_le hdig
        unfold isDig at hdig
        simp [UInt8.le_iff_toNat_le] at hdig
        omega
      obtain ⟨h48, h57⟩ := hc48
      go_cut [7] from 16 to 62 (fun s7 wc => ∃ b7, s7 = .pointer (some ⟨b7, 0, none⟩) ∧ b5 + 1 < b7 ∧ IsB wc b7 ((s[k].toNat : Int) - 48) ∧ Below wq.heap.size wq wc)
      case first =>
        go_region_held3 (fun w' => w'.cell? ⟨rb, 0, none⟩ = some (.string s) ∧ w'.cell? ⟨rb, 1, none⟩ = some (.int .i64 (k : Int)))
          (first | exact ⟨c0, c1⟩ | exact ⟨q0, q1⟩ | exact ⟨cell_set2 q0 hnq _ _, cell_set2 q1 hnq _ _⟩ | go_keep)
          (first | (go_at_call 13; rw [digit_wrap _ h48 h57]; refine (small_any _ ?_ ?_ _).mono ?_; (omega); (omega); rintro e w5 ⟨v5, rfl, hI5', hb5⟩; obtain ⟨db, da, dn, dc, rfl⟩ := hI5'.form; have q0 : w5.cell? ⟨rb, 0, none⟩ = some (.string s) := by { rw [hb5.cell (by simp; omega)]; simp [go_sem, World.cell?_alloc_past, c0, hrq] }; have q1 : w5.cell? ⟨rb, 1, none⟩ = some (.int .i64 (k : Int)) := by { rw [hb5.cell (by simp; omega)]; simp [go_sem, World.cell?_alloc_past, c1, hrq] }; obtain ⟨hcc, hff⟩ := bcell hb5))
        all_goals go_wp2
        all_goals go_meet
        all_goals first | exact box_a hb5 hI5' h6q | exact box_b hb5 hI5' h6q
      case rest =>
        obtain ⟨b7, rfl, hb7, hI7, hbc⟩ := hcut
        have hRc := hRq.below hbc
        have hI5c := hI5q.below hbc
        have hI6c := hI6q.below hbc
        have X3c := X3q.below hbc
        have hKc := hKq.step hbc hBw
        clear hRq hI5q hI6q X3q hKq c0 c1 hrq hnq
        obtain ⟨nb, na, nn, nc, Y6, J6⟩ := hI6c.open
        obtain ⟨tb', ta', tn', tc', Y5, J5⟩ := hI5c.open
        have y0 := Y6.c0; have y1 := Y6.c1; have y2 := Y5.c0; have y3 := Y5.c1
        have hnum : num < 10 ^ 200 := by
          have := HN.out.2.2
          exact Nat.lt_of_lt_of_le this (Nat.pow_le_pow_right (by omega) (by omega))
        have hf6 := fit_nat hnum (by omega)
        have HNM : Hid _ := hnum
        clear hnum
        go_wp2_with fail
        refine (mul_any _ _ (num : Int) 10 _ J6 J5 hf6 (fit_nat (n := 10) (k := 2) (by omega) (by omega))).mono ?_
        rintro e w6 ⟨v6, rfl, hI6', hb6⟩
        obtain ⟨mb, ma, mn, mc, rfl⟩ := hI6'.form
        have Y6' := Y6.below hb6
        obtain ⟨db, da, dn, dc, Y7, J7⟩ := (hI7.below hb6).open
        have z0 := Y6'.c0; have z1 := Y6'.c1; have z2 := Y6'.f0; have z3 := Y6'.f1
        have z4 := Y7.c0; have z5 := Y7.c1
        have hne7 : ¬ b7 = b5 + 1 := by omega
        have hR6 := hRc.below hb6
        have hI56 := hI5c.below hb6
        have X36 := X3c.below hb6
        have hK6 := hKc.step hb6 hBw
        have hf6' : Fit ((num : Int) * 10) := by
          have h1 := HNM.out
          have : (num * 10 : Nat) < 10 ^ 201 := by rw [Nat.pow_succ]; omega
          have := fit_nat this (by omega)
          rwa [Int.natCast_mul] at this
        clear hRc hI5c hI6c X3c hKc Y6 Y5 J5 J6 y0 y1 y2 y3 hI7
        go_wp2_with fail
        have J6' := hI6'.set2 Y6' (.bool mb) (.slice ma mn mc)
        have J7' := J7.set2 Y6' (.bool mb) (.slice ma mn mc)
        have Z6 := Y6'.set (.bool mb) (.slice ma mn mc)
        have hR7 := hR6.other (j := b5 + 1) (by omega) (.bool mb) (.slice ma mn mc)
        have hI57 := hI56.other Y6' (by omega) (.bool mb) (.slice ma mn mc)
        have X37 := X36.other (j := b5 + 1) (by omega) (.bool mb) (.slice ma mn mc)
        have hK7 : Kr B w ((w6.setCell ⟨b5 + 1, 0, none⟩ (.bool mb)).setCell ⟨b5 + 1, 1, none⟩ (.slice ma mn mc)) := (hK6.setNew hBw (by omega)).setNew hBw (by omega)
        clear hI6' Y6' Y7 J7 z0 z1 z2 z3 z4 z5 hR6 hI56 X36 hK6
        generalize (w6.setCell ⟨b5 + 1, 0, none⟩ (.bool mb)).setCell ⟨b5 + 1, 1, none⟩ (.slice ma mn mc) = W7 at *
        refine (add_any _ _ ((num : Int) * 10) ((s[k].toNat : Int) - 48) _ J6' J7' hf6' ?_).mono ?_
        · have h1 := fit_nat (n := s[k].toNat - 48) (k := 2) (by omega) (by omega)
          rwa [show ((s[k].toNat - 48 : Nat) : Int) = (s[k].toNat : Int) - 48 by omega] at h1
        rintro e w8 ⟨v8, rfl, hI8, hb8⟩
        obtain ⟨eb, ea, en, ec, rfl⟩ := hI8.form
        have Z8 := Z6.below hb8
        have z0 := Z8.c0; have z1 := Z8.c1; have z2 := Z8.f0; have z3 := Z8.f1
        have hR8 := hR7.below hb8
        have hI58 := hI57.below hb8
        have X38 := X37.below hb8
        have hK8 := hK7.step hb8 hBw
        have c1 := hR8.c1; have f1 := hR8.f1 1
        have hrn : ¬ rb = b5 + 1 := by omega
        clear Z6 hR7 hI57 X37 hK7 J6' J7'
        have HST : Hid _ := NumAt.step HN.out hkk (byte_at hlt) hdig
        go_wp2_with fail
        have J8 := hI8.set2 Z8 (.bool eb) (.slice ea en ec)
        have hI9 := IsB.stored Z8 hI8
        have hR9 := hR8.other (j := b5 + 1) (by omega) (.bool eb) (.slice ea en ec)
        have hI59 := hI58.other Z8 (by omega) (.bool eb) (.slice ea en ec)
        have X39 := X38.other (j := b5 + 1) (by omega) (.bool eb) (.slice ea en ec)
        have hK9 : Kr B w ((w8.setCell ⟨b5 + 1, 0, none⟩ (.bool eb)).setCell ⟨b5 + 1, 1, none⟩ (.slice ea en ec)) := (hK8.setNew hBw (by omega)).setNew hBw (by omega)
        have hcast : (num : Int) * 10 + ((s[k].toNat : Int) - 48) = ((10 * num + (s[k].toNat - 48) : Nat) : Int) := by omega
        rw [hcast] at hI9
        clear J8 Z8 hI8 hR8 hI58 X38 hK8 z0 z1 z2 z3 c1 f1 hcast hb8
        generalize (w8.setCell ⟨b5 + 1, 0, none⟩ (.bool eb)).setCell ⟨b5 + 1, 1, none⟩ (.slice ea en ec) = W9 at *
        have hR10 : Rd (W9.setCell ⟨rb, 1, none⟩ (.int .i64 ((k : Int) + 1))) rb s (k + 1) tv := hR9.set1 (by omega)
        have hKs : Kr 0 W9 (W9.setCell ⟨rb, 1, none⟩ (.int .i64 ((k : Int) + 1))) := (Kg.refl 0 W9).set (Nat.zero_le _) hR9.typ
        refine ⟨⟨k + 1, _, by omega, by omega, hR10, hI59.kp hKs, hI9.kp hKs, X39.kp hKs, HST, hK9.set hB hR9.typ⟩, ?_⟩
        rw [hR10.at, HM.out]; omega
    · by_cases hlt : k < s.size
      · have hdig : isDig s[k] = false := by
          cases h : isDig s[k] with
          | true => exact absurd ⟨hlt, h⟩ hdg
          | false => rfl
        have hD := fun W => isDigit_any s[k] (s[k].toNat : Int) rfl W
        simp only [hdig] at hD
        have hki : (k : Int) < (s.size : Int) := by omega
        have hst := NumAt.stop HN.out (fun c hc => by rw [byte_at hlt] at hc; rw [← Option.some.inj hc]; exact hdig)
        have hok : (rdNum s.data.toList n).1 = decide (k0 < k) := by
          show (!(digs (s.data.toList.drop (skp s.data.toList n))).isEmpty) = _
          rw [HK0.out, Bool.eq_iff_iff]
          have h2 := hst.2
          cases hdd : digs (s.data.toList.drop k0) with
          | nil => rw [hdd] at h2; simp at h2 ⊢; omega
          | cons a b => rw [hdd] at h2; simp at h2 ⊢; omega
        have hnm : (rdNum s.data.toList n).2.1 = num := by
          show numOf 0 (digs (s.data.toList.drop (skp s.data.toList n))) = _
          rw [HK0.out]; exact hst.1.symm
        have hpos : (rdNum s.data.toList n).2.2 = k := by
          show skp s.data.toList n + (digs (s.data.toList.drop (skp s.data.toList n))).length = _
          rw [HK0.out]; exact hst.2.symm
        have HOK : Hid _ := hok; have HNM : Hid _ := hnm; have HPS : Hid _ := hpos
        clear hok hnm hpos hst
        obtain ⟨nb, na, nn, nc, Y6, J6⟩ := hI6.open
        have y0 := Y6.c0; have y1 := Y6.c1
        have x0 := X3.c0; have x1 := X3.c1; have x2 := X3.f0; have x3 := X3.f1
        have hne : ¬ w.heap.size = b5 + 1 := by omega
        have hner : ¬ w.heap.size = rb := by omega
        go_wp2_with fail
        go_quiet ((go_at_call 31; exact Calls.quiet_of_same (hD _)))
        go_wp2_with fail
        go_region
        all_goals go_wp2
        have hRn : Rd (wr.drewN (nq + 1)) rb s k tv := hRk
        have Xn : Bx (wr.drewN (nq + 1)) w.heap.size (.bool false) (.slice none 0 0) := X3
        have Jn : IsI (wr.drewN (nq + 1)) (.agg #[.bool nb, .slice na nn nc]) (num : Int) := J6
        refine bodyPost_ret (v := .tuple #[.agg #[.bool nb, .slice na nn nc], .bool (decide (k0 < k))]) (by simp [results, Tryd.results21, go_sem, x0, x1]) rfl ⟨_, by rw [HOK.out], ?_, ?_, ?_⟩
        · rw [HNM.out]; exact Jn.set2 Xn _ _
        · rw [HPS.out]; exact hRn.other (by omega) _ _
        · exact ((hKp.drewN (nq + 1)).setNew hBw (Nat.le_refl _)).setNew hBw (Nat.le_refl _)
      · have hd : decide ((k : Int) < (s.size : Int)) = false := by simp; omega
        have hst := NumAt.stop HN.out (fun c hc => by rw [byte_none hlt] at hc; simp at hc)
        have hok : (rdNum s.data.toList n).1 = decide (k0 < k) := by
          show (!(digs (s.data.toList.drop (skp s.data.toList n))).isEmpty) = _
          rw [HK0.out, Bool.eq_iff_iff]
          have h2 := hst.2
          cases hdd : digs (s.data.toList.drop k0) with
          | nil => rw [hdd] at h2; simp at h2 ⊢; omega
          | cons a b => rw [hdd] at h2; simp at h2 ⊢; omega
        have hnm : (rdNum s.data.toList n).2.1 = num := by
          show numOf 0 (digs (s.data.toList.drop (skp s.data.toList n))) = _
          rw [HK0.out]; exact hst.1.symm
        have hpos : (rdNum s.data.toList n).2.2 = k := by
          show skp s.data.toList n + (digs (s.data.toList.drop (skp s.data.toList n))).length = _
          rw [HK0.out]; exact hst.2.symm
        have HOK : Hid _ := hok; have HNM : Hid _ := hnm; have HPS : Hid _ := hpos
        clear hok hnm hpos hst
        obtain ⟨nb, na, nn, nc, Y6, J6⟩ := hI6.open
        have y0 := Y6.c0; have y1 := Y6.c1
        have x0 := X3.c0; have x1 := X3.c1; have x2 := X3.f0; have x3 := X3.f1
        have hne : ¬ w.heap.size = b5 + 1 := by omega
        have hner : ¬ w.heap.size = rb := by omega
        go_wp2_with fail
        go_quiet (fail)
        go_wp2_with fail
        go_region
        all_goals go_wp2
        have hRn : Rd (wr.drewN (nq + 1)) rb s k tv := hRk
        have Xn : Bx (wr.drewN (nq + 1)) w.heap.size (.bool false) (.slice none 0 0) := X3
        have Jn : IsI (wr.drewN (nq + 1)) (.agg #[.bool nb, .slice na nn nc]) (num : Int) := J6
        refine bodyPost_ret (v := .tuple #[.agg #[.bool nb, .slice na nn nc], .bool (decide (k0 < k))]) (by simp [results, Tryd.results21, go_sem, x0, x1]) rfl ⟨_, by rw [HOK.out], ?_, ?_, ?_⟩
        · rw [HNM.out]; exact Jn.set2 Xn _ _
        · rw [HPS.out]; exact hRn.other (by omega) _ _
        · exact ((hKp.drewN (nq + 1)).setNew hBw (Nat.le_refl _)).setNew hBw (Nat.le_refl _)

end Go.Proofs.YtldcjkhbiffdoabDoor
