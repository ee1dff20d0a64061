import Derived.Test.YtkomofjdbcjdnaaGreatDoorM12
import Derived.Test.YtkomofjdbcjdnaaGreatDoorM02
import Derived.Deep.CutRange
import Derived.Test.YtkomofjdbcjdnaaGreatDoorM03

/-
  The reader in memory; skipBlanks, take.
-/
namespace Go.Proofs.YtkomofjdbcjdnaaGreatDoor
open Go.RowKit

/-- The reader's block: the text, how far it is read, its terms. -/
def Rd (w : World) (rb : Nat) (s : ByteArray) (n : Nat) (tv : Value) : Prop := w.heap[rb]? = some (.cells #[.string s, .int .i64 (n : Int), tv] 82 (0, 0))

theorem Rd.c0 {w : World} {rb n : Nat} {s : ByteArray} {tv : Value} (h : Rd w rb s n tv) : w.cell? ⟨rb, 0, none⟩ = some (.string s) := by unfold Rd at h; simp [World.cell?, h]
theorem Rd.c1 {w : World} {rb n : Nat} {s : ByteArray} {tv : Value} (h : Rd w rb s n tv) : w.cell? ⟨rb, 1, none⟩ = some (.int .i64 (n : Int)) := by unfold Rd at h; simp [World.cell?, h]
theorem Rd.c2 {w : World} {rb n : Nat} {s : ByteArray} {tv : Value} (h : Rd w rb s n tv) : w.cell? ⟨rb, 2, none⟩ = some tv := by unfold Rd at h; simp [World.cell?, h]
theorem Rd.f1 {w : World} {rb n : Nat} {s : ByteArray} {tv : Value} (h : Rd w rb s n tv) (o : Nat) : w.frozen? ⟨rb, o, none⟩ = false := by unfold Rd at h; simp [World.frozen?, h]
theorem Rd.lt {w : World} {rb n : Nat} {s : ByteArray} {tv : Value} (h : Rd w rb s n tv) : rb < w.heap.size := lt_of_block h
theorem Rd.set1 {w : World} {rb n : Nat} {s : ByteArray} {tv : Value} (h : Rd w rb s n tv) {m : Int} {m' : Nat} (hm : m = m') : Rd (w.setCell ⟨rb, 1, none⟩ (.int .i64 m)) rb s m' tv := by
  subst hm
  unfold Rd at h ⊢
  rw [heap_setCell_same w rb 1 _ _ _ h]; rfl
theorem Rd.set2 {w : World} {rb n : Nat} {s : ByteArray} {tv : Value} (h : Rd w rb s n tv) (tv' : Value) : Rd (w.setCell ⟨rb, 2, none⟩ tv') rb s n tv' := by
  unfold Rd at h ⊢
  rw [heap_setCell_same w rb 2 _ _ _ h]; rfl
theorem Rd.below {w w' : World} {rb n : Nat} {s : ByteArray} {tv : Value} (h : Rd w rb s n tv) (hb : Below w.heap.size w w') : Rd w' rb s n tv := by unfold Rd; rw [hb.block rb h.lt]; exact h

/-- Below B nothing has turned; from B on nothing but blocks of the types X. -/
structure Kg (X : TypeId → Prop) (B : Nat) (w w' : World) : Prop where
  bel : Below B w w'
  keep : ∀ (k : Nat) (c : Array Value) (e : TypeId) (f : Nat × Nat), w.heap[k]? = some (Obj.cells c e f) → ¬ X e → w'.heap[k]? = some (Obj.cells c e f)

/-- Readers; readers and terms. -/
def isR (e : TypeId) : Prop := e = 82
def isRT (e : TypeId) : Prop := e = 82 ∨ e = 127
abbrev Kr := Kg isR
abbrev Kp := Kg isRT
/-- Neither limbs nor numbers. -/
def Okx (X : TypeId → Prop) : Prop := ¬ X 2 ∧ ¬ X 105
theorem okR : Okx isR := by unfold Okx isR; decide
theorem okRT : Okx isRT := by unfold Okx isRT; decide
theorem Kg.kp {B : Nat} {w w' : World} (h : Kr B w w') : Kp B w w' := ⟨h.bel, fun k c e f h0 h1 => h.keep k c e f h0 (fun e0 => h1 (.inl e0))⟩

section
variable {X : TypeId → Prop}
theorem Kg.refl (B : Nat) (w : World) : Kg X B w w := ⟨Below.refl _ _, fun _ _ _ _ h _ => h⟩
theorem Kg.trans {B : Nat} {a b c : World} (h : Kg X B a b) (k : Kg X B b c) : Kg X B a c := ⟨h.bel.trans k.bel, fun i x e f h0 h1 => k.keep i x e f (h.keep i x e f h0 h1) h1⟩
theorem Kg.of {B : Nat} {w w' : World} (h : Below w.heap.size w w') (hB : B ≤ w.heap.size) : Kg X B w w' := ⟨h.mono hB, fun k c e f h0 _ => by rw [h.block k (lt_of_block h0)]; exact h0⟩
theorem Kg.step {B : Nat} {a w w' : World} (h : Kg X B a w) (hb : Below w.heap.size w w') (hB : B ≤ a.heap.size) : Kg X B a w' := h.trans (Kg.of hb (Nat.le_trans hB h.bel.size))
theorem Kg.drewN {B : Nat} {a w : World} (h : Kg X B a w) (n : Nat) : Kg X B a (w.drewN n) := ⟨below_drewN h.bel n, h.keep⟩
theorem Kg.drew {B : Nat} {a w : World} (h : Kg X B a w) : Kg X B a w.drew := ⟨h.bel.drew, h.keep⟩

/-- A store into such a block. -/
theorem Kg.set {B : Nat} {a w : World} (h : Kg X B a w) {k o : Nat} {v : Value} (hB : B ≤ k) (hk : ∃ (c : Array Value) (e : TypeId) (f : Nat × Nat), w.heap[k]? = some (Obj.cells c e f) ∧ X e) : Kg X B a (w.setCell ⟨k, o, none⟩ v) := by
  refine ⟨h.bel.setCell hB v, fun i c e f h0 h1 => ?_⟩
  have h3 := h.keep i c e f h0 h1
  obtain ⟨c', e', f', hk', he⟩ := hk
  have : i ≠ k := by
    intro e0
    subst e0
    rw [h3] at hk'
    simp at hk'
    obtain ⟨_, rfl, _⟩ := hk'
    exact h1 he
  rw [Below.heap_setCell _ _ _ _ this]
  exact h3
/-- A store into what is new. -/
theorem Kg.setNew {B : Nat} {a w : World} (h : Kg X B a w) {k o : Nat} {v : Value} (hB : B ≤ a.heap.size) (hk : a.heap.size ≤ k) : Kg X B a (w.setCell ⟨k, o, none⟩ v) := by
  refine ⟨h.bel.setCell (Nat.le_trans hB hk) v, fun i c e f h0 h1 => ?_⟩
  have h3 := h.keep i c e f h0 h1
  have hi := lt_of_block h0
  rw [Below.heap_setCell _ _ _ _ (by show i ≠ k; omega)]
  exact h3

theorem Row.kp {B : Nat} {w w' : World} {v : Value} {l : List Int} (h : Row w v l) (hk : Kg X B w w') (hX : Okx X := by first | exact okR | exact okRT) : Row w' v l := by
  refine ⟨h.1, ?_⟩
  rcases h.2 with h1 | ⟨g, cap, cur, hv, hb0, hg, r⟩
  · exact .inl h1
  · exact .inr ⟨g, cap, cur, hv, hb0, hk.keep g _ _ _ hg hX.1, r⟩
theorem IsI.kp {B : Nat} {w w' : World} {v : Value} {z : Int} (h : IsI w v z) (hk : Kg X B w w') (hX : Okx X := by first | exact okR | exact okRT) : IsI w' v z := by
  obtain ⟨b, x, l, h1, h2, h3⟩ := h
  exact ⟨b, x, l, h1, h2.kp hk hX, h3⟩
theorem Bx.kp {B : Nat} {w w' : World} {k : Nat} {a b : Value} (h : Bx w k a b) (hk : Kg X B w w') (hX : Okx X := by first | exact okR | exact okRT) : Bx w' k a b := hk.keep k _ _ _ h hX.2
end

theorem Rd.typ {X : TypeId → Prop} {w : World} {rb n : Nat} {s : ByteArray} {tv : Value} (h : Rd w rb s n tv) (hX : X 82 := by first | exact rfl | exact Or.inl rfl) : ∃ (c : Array Value) (e : TypeId) (f : Nat × Nat), w.heap[rb]? = some (Obj.cells c e f) ∧ X e := ⟨_, _, _, h, hX⟩

theorem byte_at {s : ByteArray} {k : Nat} (h : k < s.size) : s.data.toList[k]? = some s[k] := by
  rw [List.getElem?_eq_getElem (by simpa using h)]; rfl
theorem byte_none {s : ByteArray} {k : Nat} (h : ¬ k < s.size) : s.data.toList[k]? = none := List.getElem?_eq_none (by simpa using h)

/-- How far the reader has read. -/
def rdAt (rb : Nat) (w : World) : Nat := match w.cell? ⟨rb, 1, none⟩ with
  | some (.int _ q) => q.toNat
  | _ => 0
theorem Rd.at {w : World} {rb n : Nat} {s : ByteArray} {tv : Value} (h : Rd w rb s n tv) : rdAt rb w = n := by unfold rdAt; rw [h.c1]; simp

theorem toList_len (s : ByteArray) : s.data.toList.length = s.size := by rw [Array.length_toList]; rfl

set_option maxHeartbeats 1000000 in
theorem skip_any (s : ByteArray) (n rb : Nat) (tv : Value) (w : World) (B : Nat) (hR : Rd w rb s n tv) (hn : n ≤ s.size) (hs : s.size ≤ 200) (hB : B ≤ rb) :
    Calls Tryz.prog 89 #[.pointer (some ⟨rb, 0, none⟩)] w fun e w' => e = .returned (.tuple #[]) ∧ Rd w' rb s (skp s.data.toList n) tv ∧ Kr B w w' := by
  go_enter Tryz.func89, Tryz.ntmps89
  go_wp2_with fail
  go_loopw [] (fun wr => ∃ k : Nat, k ≤ s.size ∧ Rd wr rb s k tv ∧ Hid (skp s.data.toList k = skp s.data.toList n) ∧ Kr B w wr) (fun wr => s.size - rdAt rb wr)
  case atStart => exact ⟨n, hn, hR, rfl, Kg.refl _ _⟩
  case round =>
    obtain ⟨k, hk, hRk, HE, hKp⟩ := hrel
    have c0 := hRk.c0; have c1 := hRk.c1; have f1 := hRk.f1 1
    by_cases hlt : k < s.size
    · have hki : (k : Int) < (s.size : Int) := by omega
      by_cases hb : s[k] = 32
      · have hbb : ((s[k].toNat : Int) == 32) = true := by rw [hb]; rfl
        go_wp2_with fail
        go_quiet (fail)
        go_wp2
        have hRn : Rd (wr.drewN nq) rb s k tv := hRk
        have hR2 : Rd ((wr.drewN nq).setCell ⟨rb, 1, none⟩ (.int .i64 ((k : Int) + 1))) rb s (k + 1) tv := hRn.set1 (by omega)
        refine ⟨⟨k + 1, by omega, hR2, ?_, (hKp.drewN nq).set hB hRn.typ⟩, ?_⟩
        · have h1 := HE.out
          rw [skp_step (by rw [byte_at hlt, hb])] at h1
          exact h1
        · rw [hR2.at, hRk.at]; omega
      · have hbb : ((s[k].toNat : Int) == 32) = false := by
          simp only [beq_eq_false_iff_ne, ne_eq]
          intro h
          exact hb (UInt8.toNat_inj.1 (by have : (32 : UInt8).toNat = 32 := rfl; omega))
        have hsk : skp s.data.toList n = k := by
          rw [← HE.out]; exact skp_stop (by rw [byte_at hlt]; intro h; exact hb (Option.some.inj h))
        go_wp2_with fail
        go_quiet (fail)
        go_wp2
        go_end0
        exact ⟨rfl, by rw [hsk]; exact hRk, hKp.drewN nq⟩
    · have hd : decide ((k : Int) < (s.size : Int)) = false := by simp; omega
      have hsk : skp s.data.toList n = k := by
        rw [← HE.out]; exact skp_stop (by rw [byte_none hlt]; simp)
      go_wp2_with fail
      go_quiet (fail)
      go_wp2
      go_end0
      exact ⟨rfl, by rw [hsk]; exact hRk, hKp.drewN nq⟩

set_option maxHeartbeats 1000000 in
theorem take_any (s : ByteArray) (n rb : Nat) (tv : Value) (c : UInt8) (ci : Int) (hc : ci = (c.toNat : Int)) (w : World) (B : Nat) (hR : Rd w rb s n tv) (hn : n ≤ s.size) (hs : s.size ≤ 200) (hB : B ≤ rb) :
    Calls Tryz.prog 87 #[.pointer (some ⟨rb, 0, none⟩), .int .u8 ci] w fun e w' => e = .returned (.bool (tak s.data.toList c n).1) ∧ Rd w' rb s (tak s.data.toList c n).2 tv ∧ Kr B w w' := by
  have hS := skip_any s n rb tv w B hR hn hs hB
  have hsl := skp_le (l := s.data.toList) (n := n) (by simpa using hn)
  unfold tak
  have hl := toList_len s
  rw [hl] at hsl
  generalize skp s.data.toList n = k at *
  subst hc
  by_cases hlt : k < s.size
  · by_cases hb : s[k] = c
    · rw [if_pos (by rw [byte_at hlt, hb])]
      have hbb : ((s[k].toNat : Int) != (c.toNat : Int)) = false := by rw [hb]; simp
      have hki : (k : Int) < (s.size : Int) := by omega
      have hd : decide ((s.size : Int) ≤ (k : Int)) = false := by simp; omega
      go_enter Tryz.func87, Tryz.ntmps87
      go_wp2_with fail
      refine hS.mono ?_
      rintro e w1 ⟨rfl, hR1, hK1⟩
      have c0 := hR1.c0; have c1 := hR1.c1; have f1 := hR1.f1 1
      go_wp2_with fail
      go_quiet (fail)
      go_wp2
      go_ret
      have hRn : Rd (w1.drewN nq) rb s k tv := hR1
      exact ⟨rfl, hRn.set1 (by omega), (hK1.drewN nq).set hB hRn.typ⟩
    · rw [if_neg (by rw [byte_at hlt]; intro h; exact hb (Option.some.inj h))]
      have hbb : ((s[k].toNat : Int) != (c.toNat : Int)) = true := by
        rw [bne_iff_ne]
        intro h
        exact hb (UInt8.toNat_inj.1 (by omega))
      have hki : (k : Int) < (s.size : Int) := by omega
      have hd : decide ((s.size : Int) ≤ (k : Int)) = false := by simp; omega
      go_enter Tryz.func87, Tryz.ntmps87
      go_wp2_with fail
      refine hS.mono ?_
      rintro e w1 ⟨rfl, hR1, hK1⟩
      have c0 := hR1.c0; have c1 := hR1.c1; have f1 := hR1.f1 1
      go_wp2_with fail
      go_quiet (fail)
      go_wp2
      go_ret
      exact ⟨rfl, hR1, hK1.drewN nq⟩
  · rw [if_neg (by rw [byte_none hlt]; simp)]
    have hd : decide ((s.size : Int) ≤ (k : Int)) = true := by simp; omega
    go_enter Tryz.func87, Tryz.ntmps87
    go_wp2_with fail
    refine hS.mono ?_
    rintro e w1 ⟨rfl, hR1, hK1⟩
    have c0 := hR1.c0; have c1 := hR1.c1
    go_wp2_with fail
    go_quiet (fail)
    go_wp2
    go_ret
    exact ⟨rfl, hR1, hK1.drewN nq⟩

end Go.Proofs.YtkomofjdbcjdnaaGreatDoor

/-
  isDigit, readNumber.
-/
namespace Go.Proofs.YtkomofjdbcjdnaaGreatDoor
open Go.RowKit

theorem fit_nat {n k : Nat} (h : n < 10 ^ k) (hk : k ≤ 10000000) : Fit (n : Int) := by
  refine ⟨k, hk, ?_⟩
  have h3 : 10 ^ k ≤ 1000000000 ^ k := Nat.pow_le_pow_left (by omega) k
  have : ((n : Int)).natAbs = n := by simp
  omega

/-- Box k holds the number z. -/
def IsB (w : World) (k : Nat) (z : Int) : Prop := ∃ b x, Bx w k (.bool b) x ∧ IsI w (.agg #[.bool b, x]) z

theorem IsB.open {w : World} {k : Nat} {z : Int} (h : IsB w k z) : ∃ b xa xn xc, Bx w k (.bool b) (.slice xa xn xc) ∧ IsI w (.agg #[.bool b, .slice xa xn xc]) z := by
  obtain ⟨b, x, h1, h2⟩ := h
  obtain ⟨b', x', l, e, hr, hl⟩ := id h2
  obtain ⟨xa, xc, hx⟩ := hr.val
  simp at e
  obtain ⟨rfl, rfl⟩ := e
  subst hx
  exact ⟨b, xa, _, xc, h1, h2⟩
theorem IsB.below {w w' : World} {k : Nat} {z : Int} (h : IsB w k z) (hb : Below w.heap.size w w') : IsB w' k z := by
  obtain ⟨b, x, h1, h2⟩ := h
  exact ⟨b, x, h1.below hb, h2.below hb⟩
theorem IsB.kp {X : TypeId → Prop} {B : Nat} {w w' : World} {k : Nat} {z : Int} (h : IsB w k z) (hb : Kg X B w w') (hX : Okx X := by first | exact okR | exact okRT) : IsB w' k z := by
  obtain ⟨b, x, h1, h2⟩ := h
  exact ⟨b, x, h1.kp hb hX, h2.kp hb hX⟩
theorem IsB.lt {w : World} {k : Nat} {z : Int} (h : IsB w k z) : k < w.heap.size := by
  obtain ⟨b, x, h1, h2⟩ := h
  exact h1.lt

theorem cell_set2 {w : World} {p : Addr} {v : Value} (h : w.cell? p = some v) {j : Nat} (hne : p.block ≠ j) (a b : Value) : ((w.setCell ⟨j, 0, none⟩ a).setCell ⟨j, 1, none⟩ b).cell? p = some v := by
  rw [World.cell?_of_block (w := w) (by rw [Below.heap_setCell _ _ _ _ hne, Below.heap_setCell _ _ _ _ hne])]
  exact h

theorem Bx.other {w : World} {k j : Nat} {a b : Value} (h : Bx w k a b) (hne : k ≠ j) (u v : Value) : Bx ((w.setCell ⟨j, 0, none⟩ u).setCell ⟨j, 1, none⟩ v) k a b := by
  unfold Bx at h ⊢
  rw [Below.heap_setCell _ _ _ _ hne, Below.heap_setCell _ _ _ _ hne]
  exact h
theorem Rd.other {w : World} {rb n j : Nat} {s : ByteArray} {tv : Value} (h : Rd w rb s n tv) (hne : rb ≠ j) (u v : Value) : Rd ((w.setCell ⟨j, 0, none⟩ u).setCell ⟨j, 1, none⟩ v) rb s n tv := by
  unfold Rd at h ⊢
  rw [Below.heap_setCell _ _ _ _ hne, Below.heap_setCell _ _ _ _ hne]
  exact h
theorem IsI.set2 {w : World} {u : Value} {z : Int} (h : IsI w u z) {k : Nat} {a b : Value} (hk : Bx w k a b) (a' b' : Value) : IsI ((w.setCell ⟨k, 0, none⟩ a').setCell ⟨k, 1, none⟩ b') u z := by
  obtain ⟨b1, x, l, h1, h2, h3⟩ := h
  exact ⟨b1, x, l, h1, h2.set2 hk a' b', h3⟩
theorem IsB.other {w : World} {k j : Nat} {z : Int} (h : IsB w k z) {a b : Value} (hj : Bx w j a b) (hne : k ≠ j) (u v : Value) : IsB ((w.setCell ⟨j, 0, none⟩ u).setCell ⟨j, 1, none⟩ v) k z := by
  obtain ⟨b1, x, h1, h2⟩ := h
  exact ⟨b1, x, h1.other hne u v, h2.set2 hj u v⟩
theorem IsB.stored {w : World} {j : Nat} {a b : Value} (hj : Bx w j a b) {b1 : Bool} {x : Value} {z : Int} (h : IsI w (.agg #[.bool b1, x]) z) : IsB ((w.setCell ⟨j, 0, none⟩ (.bool b1)).setCell ⟨j, 1, none⟩ x) j z :=
  ⟨b1, x, hj.set _ _, h.set2 hj _ _⟩
theorem IsB.new {w : World} {b1 : Bool} {x : Value} {z : Int} (h : IsI w (.agg #[.bool b1, x]) z) : IsB (w.alloc (.cells #[.bool b1, x] 105)) w.heap.size z :=
  ⟨b1, x, Bx.alloc w _ _, h.below ((Below.refl _ _).alloc (Nat.le_refl _) _)⟩
theorem IsI.form {w : World} {v : Value} {z : Int} (h : IsI w v z) : ∃ b xa xn xc, v = .agg #[.bool b, .slice xa xn xc] := by
  obtain ⟨b, x, l, h1, h2, h3⟩ := h
  obtain ⟨xa, xc, rfl⟩ := h2.val
  exact ⟨b, xa, _, xc, h1⟩
theorem IsI.zero (w : World) : IsI w (.agg #[.bool false, .slice none 0 0]) 0 :=
  ⟨false, _, [], rfl, ⟨rfl, .inl ⟨rfl, rfl⟩⟩, Dig.nil _, (fun x h => by simp at h), (fun h => by simp at h), by simp [sv, ev]⟩

set_option maxHeartbeats 400000 in
theorem isDigit_any (c : UInt8) (ci : Int) (hc : ci = (c.toNat : Int)) (w : World) :
    Calls Tryz.prog 152 #[.int .u8 ci] w fun e w' => e = .returned (.bool (isDig c)) ∧ w' = w := by
  have hd : isDig c = (decide (48 ≤ ci) && decide (ci ≤ 57)) := by
    subst hc
    unfold isDig
    rw [Bool.eq_iff_iff]
    simp [UInt8.le_iff_toNat_le]
    omega
  rw [hd]
  clear hd hc
  by_cases h1 : 48 ≤ ci
  · by_cases h2 : ci ≤ 57
    · rw [decide_eq_true h1, decide_eq_true h2]
      go_enter Tryz.func152, Tryz.ntmps152
      go_wp2
      go_ret
      exact ⟨rfl, rfl⟩
    · rw [decide_eq_true h1, decide_eq_false h2]
      go_enter Tryz.func152, Tryz.ntmps152
      go_wp2
      go_ret
      exact ⟨rfl, rfl⟩
  · rw [decide_eq_false h1]
    go_enter Tryz.func152, Tryz.ntmps152
    go_wp2
    go_ret
    exact ⟨rfl, rfl⟩

theorem digit_wrap (c : Int) (h1 : 48 ≤ c) (h2 : c ≤ 57) : IntKind.i64.wrap (IntKind.u8.wrap (c - 48)) = c - 48 := by
  rw [IntKind.wrap_i64, IntKind.wrap_u8]; omega

/-- The number, as far as it is read. -/
def NumAt (l : List UInt8) (k0 k num : Nat) : Prop := numOf num (digs (l.drop k)) = numOf 0 (digs (l.drop k0)) ∧ k + (digs (l.drop k)).length = k0 + (digs (l.drop k0)).length ∧ num < 10 ^ (k - k0)

theorem NumAt.start (l : List UInt8) (k0 : Nat) : NumAt l k0 k0 0 := ⟨rfl, rfl, by simp⟩
theorem NumAt.step {l : List UInt8} {k0 k num : Nat} {c : UInt8} (h : NumAt l k0 k num) (hk : k0 ≤ k) (hc : l[k]? = some c) (hd : isDig c = true) : NumAt l k0 (k + 1) (10 * num + (c.toNat - 48)) := by
  obtain ⟨h1, h2, h3⟩ := h
  rw [digs_step hc hd] at h1 h2
  have h4 := isDig_le hd
  refine ⟨h1, by simp at h2; omega, ?_⟩
  rw [show k + 1 - k0 = (k - k0) + 1 by omega, Nat.pow_succ]
  omega
theorem NumAt.stop {l : List UInt8} {k0 k num : Nat} (h : NumAt l k0 k num) (hd : ∀ c, l[k]? = some c → isDig c = false) : num = numOf 0 (digs (l.drop k0)) ∧ k = k0 + (digs (l.drop k0)).length := by
  obtain ⟨h1, h2, h3⟩ := h
  rw [digs_stop hd] at h1 h2
  exact ⟨h1, h2⟩

end Go.Proofs.YtkomofjdbcjdnaaGreatDoor

/-
  poly.numberAt, whole.Sub, poly.sum, poly.difference.
-/
namespace Go.Proofs.YtkomofjdbcjdnaaGreatDoor
open Go.RowKit

theorem zeroInt {w : World} : IsI w (.agg #[.bool false, .slice none 0 0]) 0 :=
  ⟨_, _, [], rfl, ⟨rfl, .inl ⟨rfl, rfl⟩⟩, ⟨Dig.nil _, (fun x h => by simp at h), (fun h => by cases h), by simp [sv, ev]⟩⟩

/-- All are not too great. -/
def FitW (zs : List Int) : Prop := ∀ k, Fit (zs.getD k 0)

theorem fitW_of {z : Int} {e : Nat} (h : z.natAbs < 10 ^ e) (he : e ≤ 80000000) : Fit z := by
  refine ⟨e / 9 + 1, by omega, Nat.lt_of_lt_of_le h ?_⟩
  have h1 : (1000000000 : Nat) = 10 ^ 9 := by decide
  rw [h1, ← Nat.pow_mul]
  exact Nat.pow_le_pow_right (by omega) (by omega)
theorem Bd.fitW {l : List Int} {e : Nat} (h : Bd l e) (he : e ≤ 80000000) : FitW l := fun k => fitW_of (h k) he

set_option maxHeartbeats 1000000 in
theorem numberAt_any (zs : List Int) (v : Value) (k : Nat) (w : World) (hv : IsL w v zs) :
    Calls Tryz.prog 98 #[v, .int .i64 k] w fun e w' => ∃ x, e = .returned x ∧ IsI w' x (zs.getD k 0) ∧ Below w.heap.size w w' := by
  obtain ⟨va, vc, rfl⟩ := OwnL.val hv
  by_cases hlt : k < zs.length
  · obtain ⟨g, b, xa, xn, xc, rfl, hc1, hc2, hg, _, hc0, hcx, hI⟩ := OwnL.at hv k hlt
    generalize zs.getD k 0 = z at *
    go_enter Tryz.func98, Tryz.ntmps98
    go_wp2
    refine bodyPost_ret (v := .agg #[.bool b, .slice xa xn xc]) (by simp [results, Tryz.results98, go_sem]) rfl ⟨_, rfl, hI.below ((Below.refl _ _).alloc (Nat.le_refl _) _), (Below.refl _ _).alloc (Nat.le_refl _) _⟩
  · have hz : zs.getD k 0 = 0 := getD_out (by omega)
    rw [hz]
    clear hz
    go_enter Tryz.func98, Tryz.ntmps98
    go_wp2
    refine bodyPost_ret (v := .agg #[.bool false, .slice none 0 0]) (by simp [results, Tryz.results98, go_sem]) rfl ⟨_, rfl, zeroInt, (Below.refl _ _).alloc (Nat.le_refl _) _⟩

set_option maxHeartbeats 1000000 in
theorem psum_any (xs ys : List Int) (u v : Value) (w : World) (hu : IsL w u xs) (hv : IsL w v ys) (hl : xs.length ≤ 1000000) (hm : ys.length ≤ 1000000) (fx : FitW xs) (fy : FitW ys) :
    Calls Tryz.prog 57 #[u, v] w fun e w' => ∃ x, e = .returned x ∧ OwnL w.heap.size w' x (tab (max xs.length ys.length) fun k => xs.getD k 0 + ys.getD k 0) ∧ Below w.heap.size w w' := by
  obtain ⟨ua, uc, rfl⟩ := OwnL.val hu
  obtain ⟨va, vc, rfl⟩ := OwnL.val hv
  obtain ⟨f, HF⟩ : ∃ f : Nat → Int, Hid (f = fun k => xs.getD k 0 + ys.getD k 0) := ⟨_, rfl⟩
  rw [← HF.out]
  go_enter Tryz.func57, Tryz.ntmps57
  go_wp2_with fail
  go_loopw [5, 6] (fun o i wr => ∃ (k : Nat), k ≤ max xs.length ys.length ∧ i = .int .i64 k ∧ OwnL w.heap.size wr o (tab k f) ∧ Below w.heap.size w wr) (fun _ i _ => max xs.length ys.length - (intOf i).toNat)
  case atStart => exact ⟨0, Nat.zero_le _, rfl, OwnL.lit rfl, (Below.refl _ _).alloc (Nat.le_refl _) _⟩
  case round =>
    obtain ⟨k, hk, rfl, hown, hbel⟩ := hrel
    have hlen := tab_len k f
    by_cases hlt : k < max xs.length ys.length
    · have hc1 := numberAt_any xs (.slice ua xs.length uc) k wr (OwnL.below hu hbel)
      have hc2 := fun (W : World) (g : IsL W (.slice va ys.length vc) ys) => numberAt_any ys (.slice va ys.length vc) k W g
      have hsu := tab_succ k f
      have hfk : f k = xs.getD k 0 + ys.getD k 0 := by rw [HF.out]
      rw [hfk] at hsu
      have f1 := fx k
      have f2 := fy k
      generalize xs.getD k 0 = x at *
      generalize ys.getD k 0 = y at *
      have HSU : Hid _ := hsu
      clear hsu hfk
      obtain ⟨L, HL⟩ : ∃ L, Hid (tab k f = L) := ⟨_, rfl⟩
      rw [HL.out] at hown hlen
      have hll : L.length ≤ 1000000 := by omega
      clear hlen
      have hA := fun (W : World) (u1 u2 : Value) (g1 : IsI W u1 x) (g2 : IsI W u2 y) => add_any u1 u2 x y W g1 g2 f1 f2
      have HA : Hid _ := hA
      have HC2 : Hid _ := hc2
      clear hA hc2
      have hcase : k < xs.length ∨ (¬ k < xs.length ∧ k < ys.length) := by omega
      rcases hcase with h5 | ⟨h5, h6⟩
      all_goals
        go_wp2_with fail
        refine hc1.mono ?_
        rintro e w1 ⟨x1, rfl, hI1, hb1⟩
        obtain ⟨b1, a1, n1, c1, rfl⟩ := hI1.form
        have hbw1 := hbel.trans (hb1.mono hbel.size)
        go_wp2_with fail
        generalize hW2 : w1.alloc (Obj.cells #[Value.bool b1, Value.slice a1 n1 c1] 105) = W2
        obtain ⟨hb2, X2⟩ := one_new hW2
        clear hW2
        have hbw2 := hbw1.trans (hb2.mono hbw1.size)
        refine (HC2.out W2 (OwnL.below hv hbw2)).mono ?_
        rintro e w3 ⟨x3, rfl, hI3, hb3⟩
        obtain ⟨b3, a3, n3, c3, rfl⟩ := hI3.form
        have hbw3 := hbw2.trans (hb3.mono hbw2.size)
        have X3 := X2.below hb3
        have q0 := X3.c0; have q1 := X3.c1; have q2 := X3.lt
        have hI13 := (hI1.below hb2).below hb3
        go_wp2_with fail
        generalize hW4 : w3.alloc (Obj.cells #[Value.bool b3, Value.slice a3 n3 c3] 105) = W4
        obtain ⟨hb4, X4⟩ := one_new hW4
        clear hW4
        have hbw4 := hbw3.trans (hb4.mono hbw3.size)
        refine (HA.out W4 _ _ (hI13.below hb4) (hI3.below hb4)).mono ?_
        rintro e w5 ⟨x5, rfl, hI5, hb5⟩
        obtain ⟨b5, a5, n5, c5, rfl⟩ := hI5.form
        have hbw5 := hbw4.trans (hb5.mono hbw4.size)
        have hown5 := OwnL.below (OwnL.below (OwnL.below (OwnL.below (OwnL.below hown hb1) hb2) hb3) hb4) hb5
        go_wp2_with (at_builtin; refine wpList_pushI rfl (.tmp 28) (.tmp 32) rfl w.heap.size _ L _ _ (x + y) rfl hown5 hI5 rfl (by omega) hbw5.size ?_)
        intro v6 w6 hown6 hb6 _
        rw [← HL.out, ← HSU.out] at hown6
        go_wp2
        go_roundw
        case rel => exact ⟨k + 1, by omega, by go_num, hown6, hbw5.trans hb6⟩
        case measure => simp [intOf]; omega
    · obtain rfl : k = max xs.length ys.length := by omega
      have h5 : ¬ max xs.length ys.length < xs.length := by omega
      have h6 : ¬ max xs.length ys.length < ys.length := by omega
      obtain ⟨oa, oc, rfl⟩ := OwnL.val hown
      go_wp2
      go_ret
      exact ⟨_, rfl, hown, hbel⟩

end Go.Proofs.YtkomofjdbcjdnaaGreatDoor

/-
  whole.Sub, poly.difference.
-/
namespace Go.Proofs.YtkomofjdbcjdnaaGreatDoor
open Go.RowKit

theorem Fit.neg' {z : Int} (h : Fit z) : Fit (-z) := by
  obtain ⟨n, hn, h1⟩ := h
  exact ⟨n, hn, by simpa using h1⟩

set_option maxHeartbeats 1000000 in
theorem wsub_any (u v : Value) (z1 z2 : Int) (w : World) (hu : IsI w u z1) (hv : IsI w v z2) (f1 : Fit z1) (f2 : Fit z2) :
    Calls Tryz.prog 103 #[u, v] w fun e w' => ∃ v, e = .returned v ∧ IsI w' v (z1 - z2) ∧ Below w.heap.size w w' := by
  obtain ⟨b1, ua, un, uc, rfl⟩ := hu.form
  obtain ⟨b2, va, vn, vc, rfl⟩ := hv.form
  go_enter Tryz.func103, Tryz.ntmps103
  go_wp2_with fail
  generalize hW : ((w.alloc (Obj.cells #[Value.bool b1, Value.slice ua un uc] 105)).alloc (Obj.cells #[Value.bool b2, Value.slice va vn vc] 105)).alloc (Obj.cells #[Value.bool false, Value.slice none 0 0] 105) = W0
  obtain ⟨hz0, hb0, X0, X1, X2⟩ := three_new hW
  clear hW
  refine (neg_any _ z2 W0 (hv.below hb0) f2).mono ?_
  rintro e w1 ⟨v1, rfl, hI1, hb1⟩
  obtain ⟨b3, xa, xn, xc, rfl⟩ := hI1.form
  have Y0 := X0.below hb1; have Y2 := X2.below hb1
  have p0 := Y0.c0; have p1 := Y0.c1; have hl0 := Y0.lt; have hl2 := Y2.lt
  go_wp2_with fail
  generalize hW4 : w1.alloc (Obj.cells #[Value.bool b3, Value.slice xa xn xc] 105) = W4
  obtain ⟨hb4, _⟩ := one_new hW4
  clear hW4
  have Z2 := Y2.below hb4
  refine (add_any _ _ z1 (-z2) W4 (((hu.below hb0).below hb1).below hb4) (hI1.below hb4) f1 f2.neg').mono ?_
  rintro e w5 ⟨v5, rfl, hI5, hb5⟩
  obtain ⟨b5, ya, yn, yc, rfl⟩ := hI5.form
  have V2 := Z2.below hb5
  have r0 := V2.c0; have r1 := V2.c1; have r2 := V2.f0; have r3 := V2.f1
  have hbw : Below w.heap.size w w5 := ((hb0.trans (hb1.mono hb0.size)).trans (hb4.mono (by have := hb0.size; have := hb1.size; omega))).trans (hb5.mono (by have := hb0.size; have := hb1.size; have := hb4.size; omega))
  rw [show z1 + -z2 = z1 - z2 by omega] at hI5
  go_wp2
  refine bodyPost_ret (v := .agg #[.bool b5, .slice ya yn yc]) (by simp [results, Tryz.results103, go_sem, r0, r1]) rfl ⟨_, rfl, hI5.set2 V2 _ _, below_set2 hbw (by omega) _ _⟩

set_option maxHeartbeats 1000000 in
theorem pdiff_any (xs ys : List Int) (u v : Value) (w : World) (hu : IsL w u xs) (hv : IsL w v ys) (hl : xs.length ≤ 1000000) (hm : ys.length ≤ 1000000) (fx : FitW xs) (fy : FitW ys) :
    Calls Tryz.prog 61 #[u, v] w fun e w' => ∃ x, e = .returned x ∧ OwnL w.heap.size w' x (tab (max xs.length ys.length) fun k => xs.getD k 0 - ys.getD k 0) ∧ Below w.heap.size w w' := by
  obtain ⟨ua, uc, rfl⟩ := OwnL.val hu
  obtain ⟨va, vc, rfl⟩ := OwnL.val hv
  obtain ⟨f, HF⟩ : ∃ f : Nat → Int, Hid (f = fun k => xs.getD k 0 - ys.getD k 0) := ⟨_, rfl⟩
  rw [← HF.out]
  go_enter Tryz.func61, Tryz.ntmps61
  go_wp2_with fail
  go_loopw [5, 6] (fun o i wr => ∃ (k : Nat), k ≤ max xs.length ys.length ∧ i = .int .i64 k ∧ OwnL w.heap.size wr o (tab k f) ∧ Below w.heap.size w wr) (fun _ i _ => max xs.length ys.length - (intOf i).toNat)
  case atStart => exact ⟨0, Nat.zero_le _, rfl, OwnL.lit rfl, (Below.refl _ _).alloc (Nat.le_refl _) _⟩
  case round =>
    obtain ⟨k, hk, rfl, hown, hbel⟩ := hrel
    have hlen := tab_len k f
    by_cases hlt : k < max xs.length ys.length
    · have hc1 := numberAt_any xs (.slice ua xs.length uc) k wr (OwnL.below hu hbel)
      have hc2 := fun (W : World) (g : IsL W (.slice va ys.length vc) ys) => numberAt_any ys (.slice va ys.length vc) k W g
      have hsu := tab_succ k f
      have hfk : f k = xs.getD k 0 - ys.getD k 0 := by rw [HF.out]
      rw [hfk] at hsu
      have f1 := fx k
      have f2 := fy k
      generalize xs.getD k 0 = x at *
      generalize ys.getD k 0 = y at *
      have HSU : Hid _ := hsu
      clear hsu hfk
      obtain ⟨L, HL⟩ : ∃ L, Hid (tab k f = L) := ⟨_, rfl⟩
      rw [HL.out] at hown hlen
      have hll : L.length ≤ 1000000 := by omega
      clear hlen
      have hA := fun (W : World) (u1 u2 : Value) (g1 : IsI W u1 x) (g2 : IsI W u2 y) => wsub_any u1 u2 x y W g1 g2 f1 f2
      have HA : Hid _ := hA
      have HC2 : Hid _ := hc2
      clear hA hc2
      have hcase : k < xs.length ∨ (¬ k < xs.length ∧ k < ys.length) := by omega
      rcases hcase with h5 | ⟨h5, h6⟩
      all_goals
        go_wp2_with fail
        refine hc1.mono ?_
        rintro e w1 ⟨x1, rfl, hI1, hb1⟩
        obtain ⟨b1, a1, n1, c1, rfl⟩ := hI1.form
        have hbw1 := hbel.trans (hb1.mono hbel.size)
        go_wp2_with fail
        generalize hW2 : w1.alloc (Obj.cells #[Value.bool b1, Value.slice a1 n1 c1] 105) = W2
        obtain ⟨hb2, X2⟩ := one_new hW2
        clear hW2
        have hbw2 := hbw1.trans (hb2.mono hbw1.size)
        refine (HC2.out W2 (OwnL.below hv hbw2)).mono ?_
        rintro e w3 ⟨x3, rfl, hI3, hb3⟩
        obtain ⟨b3, a3, n3, c3, rfl⟩ := hI3.form
        have hbw3 := hbw2.trans (hb3.mono hbw2.size)
        have X3 := X2.below hb3
        have q0 := X3.c0; have q1 := X3.c1; have q2 := X3.lt
        have hI13 := (hI1.below hb2).below hb3
        go_wp2_with fail
        generalize hW4 : w3.alloc (Obj.cells #[Value.bool b3, Value.slice a3 n3 c3] 105) = W4
        obtain ⟨hb4, X4⟩ := one_new hW4
        clear hW4
        have hbw4 := hbw3.trans (hb4.mono hbw3.size)
        refine (HA.out W4 _ _ (hI13.below hb4) (hI3.below hb4)).mono ?_
        rintro e w5 ⟨x5, rfl, hI5, hb5⟩
        obtain ⟨b5, a5, n5, c5, rfl⟩ := hI5.form
        have hbw5 := hbw4.trans (hb5.mono hbw4.size)
        have hown5 := OwnL.below (OwnL.below (OwnL.below (OwnL.below (OwnL.below hown hb1) hb2) hb3) hb4) hb5
        go_wp2_with (at_builtin; refine wpList_pushI rfl (.tmp 28) (.tmp 32) rfl w.heap.size _ L _ _ (x - y) rfl hown5 hI5 rfl (by omega) hbw5.size ?_)
        intro v6 w6 hown6 hb6 _
        rw [← HL.out, ← HSU.out] at hown6
        go_wp2
        go_roundw
        case rel => exact ⟨k + 1, by omega, by go_num, hown6, hbw5.trans hb6⟩
        case measure => simp [intOf]; omega
    · obtain rfl : k = max xs.length ys.length := by omega
      have h5 : ¬ max xs.length ys.length < xs.length := by omega
      have h6 : ¬ max xs.length ys.length < ys.length := by omega
      obtain ⟨oa, oc, rfl⟩ := OwnL.val hown
      go_wp2
      go_ret
      exact ⟨_, rfl, hown, hbel⟩

end Go.Proofs.YtkomofjdbcjdnaaGreatDoor

/-
  poly.productAt, poly.product.
-/
namespace Go.Proofs.YtkomofjdbcjdnaaGreatDoor
open Go.RowKit

theorem pAtW_bd {xs ys : List Int} {e f : Nat} (hx : Bd xs e) (hy : Bd ys f) (k : Nat) : ∀ n, (pAt xs ys k n).natAbs ≤ n * 10 ^ (e + f)
  | 0 => by simp [pAt]
  | n + 1 => by
    have h1 := pAtW_bd hx hy k n
    have h2 : (xs.getD n 0 * ys.getD (k - n) 0).natAbs ≤ 10 ^ (e + f) := by
      rw [Int.natAbs_mul, Nat.pow_add]
      exact Nat.mul_le_mul (Nat.le_of_lt (hx n)) (Nat.le_of_lt (hy (k - n)))
    have h3 := Int.natAbs_add_le (pAt xs ys k n) (xs.getD n 0 * ys.getD (k - n) 0)
    show (pAt xs ys k n + xs.getD n 0 * ys.getD (k - n) 0).natAbs ≤ _
    rw [Nat.succ_mul]
    omega
theorem pAtW_lt {xs ys : List Int} {e f : Nat} (hx : Bd xs e) (hy : Bd ys f) (k : Nat) {n : Nat} (hn : n < 10000) : (pAt xs ys k n).natAbs < 10 ^ (e + f + 4) := by
  have h1 := pAtW_bd hx hy k n
  have h2 : 0 < 10 ^ (e + f) := Nat.pow_pos (by omega)
  have h3 : n * 10 ^ (e + f) < 10000 * 10 ^ (e + f) := Nat.mul_lt_mul_of_pos_right hn h2
  rw [Nat.pow_add, Nat.mul_comm]
  exact Nat.lt_of_le_of_lt h1 h3

set_option maxRecDepth 100000 in
set_option maxHeartbeats 4000000 in
theorem productAt_any (xs ys : List Int) (e f : Nat) (u v : Value) (k : Nat) (w : World) (hu : IsL w u xs) (hv : IsL w v ys) (hk : k ≤ 2000) (fx : Bd xs e) (fy : Bd ys f) (hef : e + f ≤ 70000000) :
    Calls Tryz.prog 104 #[u, v, .int .i64 k] w fun en w' => ∃ x, en = .returned x ∧ IsI w' x (pk xs ys k) ∧ Below w.heap.size w w' := by
  obtain ⟨ua, uc, rfl⟩ := OwnL.val hu
  obtain ⟨va, vc, rfl⟩ := OwnL.val hv
  obtain ⟨S, HS⟩ : ∃ S, Hid (pk xs ys k = S) := ⟨_, rfl⟩
  rw [HS.out]
  go_enter Tryz.func104, Tryz.ntmps104
  go_wp2_with fail
  generalize hW : (w.alloc (Obj.cells #[Value.bool false, Value.slice none 0 0] 105)).alloc (Obj.cells #[Value.bool false, Value.slice none 0 0] 105) = W0
  obtain ⟨hz0, hb0, X0, X1⟩ := two_new hW
  clear hW
  have K1 : IsB W0 (w.heap.size + 1) (pAt xs ys k 0) := ⟨_, _, X1, zeroInt⟩
  clear X1
  go_loopw [8] (fun i wr => ∃ (n : Nat), n ≤ k + 1 ∧ i = .int .i64 n ∧ IsB wr (w.heap.size + 1) (pAt xs ys k n) ∧ Bx wr w.heap.size (.bool false) (.slice none 0 0) ∧ Below w.heap.size w wr) (fun i _ => k + 1 - (intOf i).toNat)
  case atStart => exact ⟨0, Nat.zero_le _, rfl, K1, X0, hb0⟩
  case round =>
    clear K1 X0 hb0
    obtain ⟨n, hn, rfl, hK, B0, hbel⟩ := hrel
    obtain ⟨kb, ka, kn, kc, G0, hG⟩ := hK.open
    have hszw := G0.lt
    by_cases hlt : n < k + 1
    · have hc1 := numberAt_any xs (.slice ua xs.length uc) n wr (OwnL.below hu hbel)
      have hc2 := fun (W : World) (g : IsL W (.slice va ys.length vc) ys) => numberAt_any ys (.slice va ys.length vc) (k - n) W g
      rw [show (((k - n : Nat) : Int)) = (k : Int) - n by omega] at hc2
      have f1 : Fit (xs.getD n 0) := fitW_of (fx n) (by omega)
      have f2 : Fit (ys.getD (k - n) 0) := fitW_of (fy (k - n)) (by omega)
      have f3 : Fit (pAt xs ys k n) := fitW_of (pAtW_lt fx fy k (by omega)) (by omega)
      have f4 : Fit (xs.getD n 0 * ys.getD (k - n) 0) := by
        refine fitW_of (e := e + f) ?_ (by omega)
        rw [Int.natAbs_mul, Nat.pow_add]
        exact Nat.mul_lt_mul'' (fx n) (fy (k - n))
      have hstep : pAt xs ys k (n + 1) = pAt xs ys k n + xs.getD n 0 * ys.getD (k - n) 0 := rfl
      have HSTEP : Hid _ := hstep
      clear hstep
      generalize xs.getD n 0 = x at *
      generalize ys.getD (k - n) 0 = y at *
      generalize pAt xs ys k n = p at *
      have hM := fun (W : World) (u1 u2 : Value) (g1 : IsI W u1 x) (g2 : IsI W u2 y) => mul_any u1 u2 x y W g1 g2 f1 f2
      have hA := fun (W : World) (u1 u2 : Value) (g1 : IsI W u1 p) (g2 : IsI W u2 (x * y)) => add_any u1 u2 p (x * y) W g1 g2 f3 f4
      have HM : Hid _ := hM
      have HA : Hid _ := hA
      have HC2 : Hid _ := hc2
      clear hM hA hc2
      go_wp2_with fail
      refine hc1.mono ?_
      rintro en w1 ⟨x1, rfl, hI1, hb1⟩
      obtain ⟨b1, a1, n1, c1, rfl⟩ := hI1.form
      have hbw1 := hbel.trans (hb1.mono hbel.size)
      have G1 := G0.below hb1
      go_wp2_with fail
      generalize hW2 : w1.alloc (Obj.cells #[Value.bool b1, Value.slice a1 n1 c1] 105) = W2
      obtain ⟨hb2, X2⟩ := one_new hW2
      clear hW2
      have hbw2 := hbw1.trans (hb2.mono hbw1.size)
      refine (HC2.out W2 (OwnL.below hv hbw2)).mono ?_
      rintro en w3 ⟨x3, rfl, hI3, hb3⟩
      obtain ⟨b3, a3, n3, c3, rfl⟩ := hI3.form
      have hbw3 := hbw2.trans (hb3.mono hbw2.size)
      have X3 := X2.below hb3
      have q0 := X3.c0; have q1 := X3.c1; have q2 := X3.lt
      have G3 := (G1.below hb2).below hb3
      have hI13 := (hI1.below hb2).below hb3
      go_wp2_with fail
      generalize hW4 : w3.alloc (Obj.cells #[Value.bool b3, Value.slice a3 n3 c3] 105) = W4
      obtain ⟨hb4, _⟩ := one_new hW4
      clear hW4
      have hbw4 := hbw3.trans (hb4.mono hbw3.size)
      refine (HM.out W4 _ _ (hI13.below hb4) (hI3.below hb4)).mono ?_
      rintro en w5 ⟨x5, rfl, hI5, hb5⟩
      obtain ⟨b5, a5, n5, c5, rfl⟩ := hI5.form
      have hbw5 := hbw4.trans (hb5.mono hbw4.size)
      have G5 := (G3.below hb4).below hb5
      have r0 := G5.c0; have r1 := G5.c1; have r2 := G5.lt
      have hG5 := ((((hG.below hb1).below hb2).below hb3).below hb4).below hb5
      go_wp2_with fail
      generalize hW6 : w5.alloc (Obj.cells #[Value.bool b5, Value.slice a5 n5 c5] 105) = W6
      obtain ⟨hb6, _⟩ := one_new hW6
      clear hW6
      have hbw6 := hbw5.trans (hb6.mono hbw5.size)
      refine (HA.out W6 _ _ (hG5.below hb6) (hI5.below hb6)).mono ?_
      rintro en w7 ⟨x7, rfl, hI7, hb7⟩
      obtain ⟨b7, a7, n7, c7, rfl⟩ := hI7.form
      have hbw7 := hbw6.trans (hb7.mono hbw6.size)
      have G7 := (G5.below hb6).below hb7
      have s0 := G7.c0; have s1 := G7.c1; have s2 := G7.f0; have s3 := G7.f1
      have B7 := ((((((B0.below hb1).below hb2).below hb3).below hb4).below hb5).below hb6).below hb7
      have hK7 := IsB.stored G7 hI7
      rw [← HSTEP.out] at hK7
      have hB7 := B7.other (show w.heap.size ≠ w.heap.size + 1 by omega) (.bool b7) (.slice a7 n7 c7)
      have HALL : Hid _ := (⟨hK7, hB7⟩ : _ ∧ _)
      clear hK7 hB7
      go_wp2
      go_roundw
      case rel => exact ⟨n + 1, by omega, by go_num, HALL.out.1, HALL.out.2, below_set2 hbw7 (by omega) _ _⟩
      case measure => simp [intOf]; omega
    · obtain rfl : n = k + 1 := by omega
      have hG' : IsI wr (.agg #[.bool kb, .slice ka kn kc]) S := by rw [← HS.out]; exact hG
      have c0 := G0.c0; have c1 := G0.c1; have d0 := B0.c0; have d1 := B0.c1; have d2 := B0.f0; have d3 := B0.f1
      go_wp2
      refine bodyPost_ret (v := .agg #[.bool kb, .slice ka kn kc]) (by simp [results, Tryz.results104, go_sem, d0, d1]) rfl ⟨_, rfl, hG'.set2 B0 _ _, below_set2 hbel (Nat.le_refl _) _ _⟩

set_option maxHeartbeats 1000000 in
theorem product_any (xs ys : List Int) (e f : Nat) (u v : Value) (w : World) (hu : IsL w u xs) (hv : IsL w v ys) (hl : xs.length ≤ 1000) (hm : ys.length ≤ 1000) (fx : Bd xs e) (fy : Bd ys f) (hef : e + f ≤ 70000000) :
    Calls Tryz.prog 62 #[u, v] w fun en w' => ∃ x, en = .returned x ∧ OwnL w.heap.size w' x (prodTo xs ys (xs.length + ys.length - 1)) ∧ Below w.heap.size w w' := by
  obtain ⟨ua, uc, rfl⟩ := OwnL.val hu
  obtain ⟨va, vc, rfl⟩ := OwnL.val hv
  obtain ⟨N, HN⟩ : ∃ N, Hid (xs.length + ys.length - 1 = N) := ⟨_, rfl⟩
  rw [HN.out]
  have hN1 : N ≤ 2000 := by have := HN.out; omega
  have hN2 : ((xs.length : Int) + ys.length - 1 = N) ∨ (N = 0 ∧ (xs.length : Int) + ys.length - 1 = -1) := by have := HN.out; omega
  go_enter Tryz.func62, Tryz.ntmps62
  go_wp2_with fail
  go_loopw [5, 6] (fun o i wr => ∃ (k : Nat), k ≤ N ∧ i = .int .i64 k ∧ OwnL w.heap.size wr o (prodTo xs ys k) ∧ Below w.heap.size w wr) (fun _ i _ => N - (intOf i).toNat)
  case atStart => exact ⟨0, Nat.zero_le _, rfl, OwnL.lit rfl, (Below.refl _ _).alloc (Nat.le_refl _) _⟩
  case round =>
    obtain ⟨k, hk, rfl, hown, hbel⟩ := hrel
    by_cases hlt : k < N
    · have hN3 : (xs.length : Int) + ys.length - 1 = N := by omega
      have hP := productAt_any xs ys e f _ _ k wr (OwnL.below hu hbel) (OwnL.below hv hbel) (by omega) fx fy hef
      have hsu : prodTo xs ys (k + 1) = prodTo xs ys k ++ [pk xs ys k] := tab_succ k _
      have HSU : Hid _ := hsu
      have hlen : (prodTo xs ys k).length = k := tab_len _ _
      obtain ⟨L, HL⟩ : ∃ L, Hid (prodTo xs ys k = L) := ⟨_, rfl⟩
      rw [HL.out] at hown hlen
      have hll : L.length ≤ 2000 := by omega
      clear hsu hlen
      generalize pk xs ys k = z at *
      go_wp2_with fail
      refine hP.mono ?_
      rintro en w1 ⟨x1, rfl, hI1, hb1⟩
      obtain ⟨b1, a1, n1, c1, rfl⟩ := hI1.form
      have hbw1 := hbel.trans (hb1.mono hbel.size)
      have hown1 := OwnL.below hown hb1
      go_wp2_with (at_builtin; refine wpList_pushI rfl (.tmp 18) (.tmp 23) rfl w.heap.size _ L _ _ z rfl hown1 hI1 rfl (by omega) hbw1.size ?_)
      intro v6 w6 hown6 hb6 _
      rw [← HL.out, ← HSU.out] at hown6
      go_wp2
      go_roundw
      case rel => exact ⟨k + 1, by omega, by go_num, hown6, hbw1.trans hb6⟩
      case measure => simp [intOf]; omega
    · obtain rfl : k = N := by omega
      have h5 : ¬ ((k : Int) < (xs.length : Int) + ys.length - 1) := by omega
      obtain ⟨oa, oc, rfl⟩ := OwnL.val hown
      go_wp2
      go_ret
      exact ⟨_, rfl, hown, hbel⟩

end Go.Proofs.YtkomofjdbcjdnaaGreatDoor
