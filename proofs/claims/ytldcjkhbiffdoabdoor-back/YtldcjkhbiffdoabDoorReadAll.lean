/-
  poly.Read.
-/
import Derived.Test.YtldcjkhbiffdoabDoorGather
namespace Go.Proofs.YtldcjkhbiffdoabDoor
open Go.RowKit

/-- The sum of a text: is it one; where the reader stands; the terms. -/
def rsum (l : List UInt8) : Bool × Nat × List (Int × Nat) := rdSum l (l.length + 1) (tak l 45 0).1 (tak l 45 0).2 []

/-- What Read answers: the error, the place, the coefficients. -/
def pread (l : List UInt8) : Nat × Nat × List Int :=
  if 200 < l.length then (1, 0, [])
  else if (rsum l).1 then
    if (rsum l).2.2.any bigQ then (3, 0, [])
    else if inB (tz (coefsT (rsum l).2.2 11)) then (0, 0, tz (coefsT (rsum l).2.2 11)) else (3, 0, [])
  else (2, (rsum l).2.1, [])

/-- An answer of Read's. -/
def Answer (w' : World) (r : Nat × Nat × List Int) (e : Ending) : Prop :=
  (r.1 = 0 ∧ inB r.2.2 = true ∧ ∃ p, e = .returned (.tuple #[p, .int .i64 0, .int .i64 0]) ∧ IsP w' p r.2.2) ∨ (r.1 ≠ 0 ∧ e = .returned (.tuple #[.pointer none, .int .i64 (r.1 : Int), .int .i64 (r.2.1 : Int)]))

theorem pread_bd (l : List UInt8) (h : (rsum l).2.1 ≤ l.length) : (pread l).1 ≤ 3 ∧ (pread l).2.1 ≤ l.length ∧ ((pread l).1 = 2 ∨ (pread l).2.1 = 0) := by
  unfold pread
  split
  · exact ⟨by show 1 ≤ 3; omega, Nat.zero_le _, .inr rfl⟩
  · split
    · split
      · exact ⟨Nat.le_refl _, Nat.zero_le _, .inr rfl⟩
      · split
        · exact ⟨Nat.zero_le _, Nat.zero_le _, .inr rfl⟩
        · exact ⟨Nat.le_refl _, Nat.zero_le _, .inr rfl⟩
    · exact ⟨by show 2 ≤ 3; omega, h, .inl rfl⟩

theorem rdSum_le (l : List UInt8) : ∀ (f : Nat) (m : Bool) (n : Nat) (ts : List (Int × Nat)), n ≤ l.length → (rdSum l f m n ts).2.1 ≤ l.length
  | 0, _, n, _, h => h
  | f + 1, m, n, ts, h => by
    have h1 := rdTerm_le (n := n) h
    have h2 := skp_le h1
    have h3 := tak_le (c := 45) h2
    have h4 := tak_le (c := 43) h3
    unfold rdSum
    split
    · split
      · exact h2
      · split
        · exact rdSum_le l f _ _ _ h3
        · split
          · exact rdSum_le l f _ _ _ h4
          · exact h4
    · exact h1
theorem rsum_le (l : List UInt8) : (rsum l).2.1 ≤ l.length := rdSum_le l _ _ _ _ (tak_le (Nat.zero_le _))

set_option maxHeartbeats 1000000 in
theorem read_any (s : ByteArray) (w : World) (ht : Tab w) (hs0 : s.size ≤ 9223372036854775807) :
    Calls Tryd.prog 5 #[.string s] w fun e w' => Answer w' (pread s.data.toList) e ∧ Below w.heap.size w w' := by
  have hll := toList_len s
  obtain ⟨r, HRr⟩ : ∃ r, Hid (pread s.data.toList = r) := ⟨_, rfl⟩
  rw [HRr.out]
  by_cases hlong : 200 < s.size
  · have hp : r = (1, 0, []) := by rw [← HRr.out]; unfold pread; rw [if_pos (by omega)]
    subst hp
    clear HRr hll
    go_enter Tryd.func5, Tryd.ntmps5
    go_wp2
    go_ret3
    exact ⟨.inr ⟨by decide, rfl⟩, Below.refl _ _⟩
  · have hs : s.size ≤ 200 := by omega
    have hp : (if (rsum s.data.toList).1 then (if (rsum s.data.toList).2.2.any bigQ then (3, 0, []) else if inB (tz (coefsT (rsum s.data.toList).2.2 11)) then (0, 0, tz (coefsT (rsum s.data.toList).2.2 11)) else (3, 0, [])) else (2, (rsum s.data.toList).2.1, [])) = r := by
      rw [← HRr.out]
      unfold pread
      rw [if_neg (c := 200 < s.data.toList.length) (by omega)]
    have hrs : rdSum s.data.toList (s.size + 1) (tak s.data.toList 45 0).1 (tak s.data.toList 45 0).2 [] = rsum s.data.toList := by unfold rsum; rw [hll]
    have hSum := fun (W : World) (rb : Nat) (g1 : Rd W rb s 0 (.slice none 0 0)) (g2 : w.heap.size ≤ rb) (g3 : w.heap.size ≤ W.heap.size) => readSum_any s rb (.slice none 0 0) W w.heap.size g1 (OwnT.nil _ _) hs g2 g3
    simp only [hrs, exists_eq_left] at hSum
    generalize rsum s.data.toList = R at *
    obtain ⟨ok, pos, ts⟩ := R
    have HSum : Hid _ := hSum
    have HP : Hid _ := hp
    clear hSum hp hrs hll HRr
    go_enter Tryd.func5, Tryd.ntmps5
    go_wp2_with fail
    generalize hW : w.alloc (Obj.cells #[Value.string s, Value.int IntKind.i64 0, Value.slice none 0 0] 31) = W0
    have hR0 : Rd W0 w.heap.size s 0 (.slice none 0 0) := by rw [← hW]; exact heap_alloc_new w _
    have hb0 : Below w.heap.size w W0 := by rw [← hW]; exact (Below.refl _ _).alloc (Nat.le_refl _) _
    clear hW
    refine (HSum.out W0 w.heap.size hR0 (Nat.le_refl _) hb0.size).mono ?_
    rintro e w1 ⟨rfl, hpos, hts, ⟨tv, hR1, hO1⟩, hK1⟩
    have hbw : Below w.heap.size w w1 := hb0.trans hK1.bel
    have c1 := hR1.c1; have c2 := hR1.c2
    cases ok
    · have hr : r = (2, pos, []) := by rw [← HP.out]; rfl
      clear HP
      go_wp2_with fail
      go_quiet (fail)
      go_wp2
      go_ret3
      subst hr
      exact ⟨.inr ⟨by show (2 : Nat) ≠ 0; omega, rfl⟩, below_drewN hbw nq⟩
    · go_wp2_with fail
      refine (gather_any tv ts w1 w.heap.size hO1 hts (ht.below hbw)).mono ?_
      rintro e w2 ⟨hG, hb2⟩
      have hbf := hbw.trans (hb2.mono hbw.size)
      rcases hG with ⟨hbig, rfl⟩ | ⟨hbig, ⟨hin, p, rfl, hp⟩ | ⟨hin, rfl⟩⟩
      · have HB : Hid _ := hbig
        clear hbig
        go_wp2
        go_ret3
        have hr : r = (3, 0, []) := by rw [← HP.out]; simp [HB.out]
        subst hr
        exact ⟨.inr ⟨by show (3 : Nat) ≠ 0; omega, rfl⟩, hbf⟩
      · have HB : Hid _ := hbig; have HI : Hid _ := hin
        clear hbig hin
        obtain ⟨pk, pv, rfl, _⟩ := id hp
        go_wp2
        go_ret3
        have hr : r = (0, 0, tz (coefsT ts 11)) := by rw [← HP.out]; simp [HB.out, HI.out]
        subst hr
        exact ⟨.inl ⟨rfl, HI.out, _, rfl, hp⟩, hbf⟩
      · have HB : Hid _ := hbig; have HI : Hid _ := hin
        clear hbig hin
        go_wp2
        go_ret3
        have hr : r = (3, 0, []) := by rw [← HP.out]; simp [HB.out, HI.out]
        subst hr
        exact ⟨.inr ⟨by show (3 : Nat) ≠ 0; omega, rfl⟩, hbf⟩

end Go.Proofs.YtldcjkhbiffdoabDoor
