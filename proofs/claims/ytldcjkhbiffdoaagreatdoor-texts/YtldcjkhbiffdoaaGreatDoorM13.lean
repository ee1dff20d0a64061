import Derived.Test.YtldcjkhbiffdoaaGreatDoorM12
import Derived.Test.YtldcjkhbiffdoaaGreatDoorM02
import Derived.Deep.CutRange
import Derived.Test.YtldcjkhbiffdoaaGreatDoorM03

/-
  poly.textOf, Text.
-/
namespace Go.Proofs.YtldcjkhbiffdoaaGreatDoor
open Go.RowKit

/-- The text, one term more. -/
def stepT (t : List UInt8) (c : Int) (k : Nat) : List UInt8 := if c = 0 then t else t ++ signT (decide (c < 0)) t.isEmpty ++ termT c.natAbs k

/-- The text of the terms from the power k on, of n in all: m = n - k. -/
def ptm (zs : List Int) (n : Nat) : Nat → List UInt8
  | 0 => []
  | m + 1 => stepT (ptm zs n m) (zs.getD (n - 1 - m) 0) (n - 1 - m)

def ptext (zs : List Int) : List UInt8 := if ptm zs zs.length zs.length = [] then [48] else ptm zs zs.length zs.length

theorem signT_len (a b : Bool) : (signT a b).length ≤ 3 := by cases a <;> cases b <;> simp [signT]
theorem varT_len {k : Nat} (hk : k < 100) : (varT k).length ≤ 4 := by
  unfold varT
  split
  · have : (Lib.decDigits k).length ≤ 2 := by rw [Lib.decDigits_length]; exact nDigits_le (by omega) (by omega)
    simp; omega
  · simp
theorem termT_len {n k : Nat} (hk : k < 100) (hn : Lib.nDigits n ≤ 12) : (termT n k).length ≤ 17 := by
  have h1 := varT_len hk
  have h2 := Lib.decDigits_length n
  unfold termT
  split
  · omega
  · split
    · omega
    · simp; omega
theorem stepT_len {t : List UInt8} {c : Int} {k : Nat} (hk : k < 100) (hn : Lib.nDigits c.natAbs ≤ 12) : (stepT t c k).length ≤ t.length + 20 := by
  have h1 := termT_len (n := c.natAbs) hk hn
  have h2 := signT_len (decide (c < 0)) t.isEmpty
  unfold stepT
  split
  · omega
  · simp; omega

theorem termT_lenW {n k : Nat} (hk : k < 100) (hn : Lib.nDigits n ≤ 30) : (termT n k).length ≤ 35 := by
  have h1 := varT_len hk
  have h2 := Lib.decDigits_length n
  unfold termT
  split
  · omega
  · split
    · omega
    · simp; omega
theorem stepT_lenW {t : List UInt8} {c : Int} {k : Nat} (hk : k < 100) (hn : Lib.nDigits c.natAbs ≤ 30) : (stepT t c k).length ≤ t.length + 40 := by
  have h1 := termT_lenW (n := c.natAbs) hk hn
  have h2 := signT_len (decide (c < 0)) t.isEmpty
  unfold stepT
  split
  · omega
  · simp; omega

theorem fit_of_digits {z : Int} (h : Lib.nDigits z.natAbs ≤ 30) : Fit z := by
  refine ⟨30, by omega, ?_⟩
  have h1 := Lib.lt_pow_nDigits z.natAbs
  have h2 : 10 ^ Lib.nDigits z.natAbs ≤ 10 ^ 30 := Nat.pow_le_pow_right (by omega) h
  have h3 : 10 ^ 30 ≤ 1000000000 ^ 30 := Nat.pow_le_pow_left (by omega) 30
  omega

theorem inB_at {zs : List Int} (h : inB zs = true) {i : Nat} (hi : i < zs.length) : Lib.nDigits (zs.getD i 0).natAbs ≤ 12 := by
  unfold inB at h
  rw [Bool.and_eq_true, List.all_eq_true] at h
  have := h.2 _ (List.getElem_mem hi)
  rw [getD_lt hi]
  simpa [okD] using this
theorem inB_len {zs : List Int} (h : inB zs = true) : zs.length ≤ 11 := by
  unfold inB at h
  rw [Bool.and_eq_true] at h
  simpa using h.1

set_option maxHeartbeats 1000000 in
theorem textOf_all (zs : List Int) (v : Value) (w : World) (hv : IsL w v zs) (hl : zs.length ≤ 11) (hB : ∀ i, i < zs.length → Lib.nDigits (zs.getD i 0).natAbs ≤ 30) (ht : Tab w) :
    Calls Tryz.prog 79 #[v] w fun e w' => e = .returned (.string ⟨(ptext zs).toArray⟩) ∧ Below w.heap.size w w' := by
  obtain ⟨va, vc, rfl⟩ := OwnL.val hv
  have HB : Hid _ := hB
  clear hB
  obtain ⟨T, HTX⟩ : ∃ T, Hid (ptext zs = T) := ⟨_, rfl⟩
  rw [HTX.out]
  go_enter Tryz.func79, Tryz.ntmps79
  go_wp2_with fail
  go_loopw [3, 4] (fun t i wr => ∃ (k m : Nat) (d : List UInt8), k + m = zs.length ∧ i = .int .i64 ((k : Int) - 1) ∧ t = .string ⟨d.toArray⟩ ∧ d.length ≤ 40 * m ∧ Hid (ptm zs zs.length m = d) ∧ Below w.heap.size w wr) (fun _ i _ => (intOf i + 1).toNat)
  case atStart => exact ⟨zs.length, 0, [], by omega, rfl, rfl, by simp, rfl, Below.refl _ _⟩
  case round =>
    obtain ⟨k, m, d, hkm, rfl, rfl, hdl, HE, hbel⟩ := hrel
    cases k with
    | zero =>
      obtain rfl : m = zs.length := by omega
      have hT : T = if d = [] then [48] else d := by
        rw [← HTX.out]; unfold ptext; rw [HE.out]
      by_cases hd : d = []
      · subst hd
        rw [if_pos rfl] at hT
        subst hT
        clear HE HTX
        go_wp2
        go_ret
        exact ⟨rfl, hbel⟩
      · rw [if_neg hd] at hT
        subst hT
        have hdb : T.isEmpty = false := by cases T with | nil => exact absurd rfl hd | cons a b => rfl
        clear HE HTX
        go_wp2
        go_ret
        exact ⟨rfl, hbel⟩
    | succ j =>
      rw [show (((j + 1 : Nat) : Int) - 1) = (j : Int) by omega]
      have hjm : zs.length - 1 - m = j := by omega
      obtain ⟨g, b, xa, xn, xc, rfl, hc1, hc2, hg, _, hc0, hcx, hI⟩ := OwnL.at (OwnL.below hv hbel) j (by omega)
      obtain ⟨z, HZ⟩ : ∃ z, Hid (zs.getD j 0 = z) := ⟨_, rfl⟩
      have hnd := HB.out j (show j < zs.length by omega)
      rw [HZ.out] at hI hnd
      have hfz := fit_of_digits hnd
      have hstep : Hid (ptm zs zs.length (m + 1) = stepT d z j) := by
        show stepT (ptm zs zs.length m) (zs.getD (zs.length - 1 - m) 0) (zs.length - 1 - m) = _
        rw [hjm, HE.out, HZ.out]
      have hsl := stepT_lenW (t := d) (c := z) (k := j) (by omega) hnd
      have hS := sign_any _ z wr hI hfz
      by_cases hz : z = 0
      · subst hz
        have hS' : sgn3 0 = 0 := rfl
        rw [hS'] at hS
        have hs2 : stepT d 0 j = d := by simp [stepT]
        rw [hs2] at hstep hsl
        clear HE HZ hs2 hS' hjm
        go_wp2_with fail
        refine hS.mono ?_
        rintro e w1 ⟨rfl, hb1⟩
        go_wp2_with fail
        go_roundw
        case rel => exact ⟨j, m + 1, d, by omega, rfl, rfl, by omega, hstep, hbel.trans (hb1.mono hbel.size)⟩
        case measure => simp [intOf]
      · have hsz : (sgn3 z == 0) = false := by
          unfold sgn3
          rcases (show z < 0 ∨ 0 < z by omega) with h | h
          · rw [if_pos h]; rfl
          · rw [if_neg (by omega), if_neg (by omega)]; rfl
        have hneg : decide (sgn3 z < 0) = decide (z < 0) := by
          unfold sgn3
          rcases (show z < 0 ∨ 0 < z by omega) with h | h
          · rw [if_pos h]; simp [h]
          · rw [if_neg (by omega), if_neg (by omega)]; simp; omega
        have hA := fun (W : World) (g : IsI W (.agg #[.bool b, .slice xa xn xc]) z) => abs_any _ z W g hfz
        have hnl : (Lib.decDigits z.natAbs).length ≤ 1000 := by rw [Lib.decDigits_length]; omega
        have hT := fun (W : World) (u : Value) (g : IsI W u (z.natAbs : Int)) (g2 : Tab W) => termText_any u z.natAbs j W g (fit_of_digits (by simpa using hnd)) (by omega) hnl g2
        have hG := fun (W : World) => signText_any (sgn3 z) d.isEmpty W
        have hst2 : stepT d z j = d ++ signT (decide (z < 0)) d.isEmpty ++ termT z.natAbs j := by unfold stepT; rw [if_neg hz]
        rw [hst2] at hstep hsl
        rw [hneg] at hG
        generalize sgn3 z = sz at *
        have hgl := signT_len (decide (z < 0)) d.isEmpty
        have htl := termT_lenW (n := z.natAbs) (k := j) (by omega) hnd
        generalize signT (decide (z < 0)) d.isEmpty = sg at *
        generalize termT z.natAbs j = tt at *
        have HA : Hid _ := hA
        have HT : Hid _ := hT
        have HG : Hid _ := hG
        clear hA hT hG hneg hst2 HE HZ hjm hnl
        go_wp2_with fail
        refine hS.mono ?_
        rintro e w1 ⟨rfl, hb1⟩
        have hc0' : w1.cell? ⟨g, j * 2, none⟩ = _ := (hb1.cell (by exact hg)).trans hc0
        have hcx' : w1.cell? ⟨g, j * 2 + 1, none⟩ = _ := (hb1.cell (by exact hg)).trans hcx
        clear hc0 hcx
        go_wp2_with fail
        refine (HA.out _ (hI.below hb1)).mono ?_
        rintro e w2 ⟨u, rfl, hu, hb2⟩
        have hbw2 := (hbel.trans (hb1.mono hbel.size)).trans (hb2.mono (Nat.le_trans hbel.size hb1.size))
        go_wp2_with fail
        refine (HT.out w2 u hu (ht.below hbw2)).mono ?_
        rintro e w3 ⟨rfl, hb3⟩
        go_wp2_with fail
        refine (HG.out w3).mono ?_
        rintro e w4 ⟨rfl, rfl⟩
        go_wp2_with fail
        rw [str_app, str_app]
        go_roundw
        case rel => exact ⟨j, m + 1, d ++ sg ++ tt, by omega, rfl, rfl, by omega, hstep, hbw2.trans (hb3.mono hbw2.size)⟩
        case measure => simp [intOf]

theorem textOf_any (zs : List Int) (v : Value) (w : World) (hv : IsL w v zs) (hB : inB zs = true) (ht : Tab w) :
    Calls Tryz.prog 79 #[v] w fun e w' => e = .returned (.string ⟨(ptext zs).toArray⟩) ∧ Below w.heap.size w w' :=
  textOf_all zs v w hv (inB_len hB) (fun _ hi => Nat.le_trans (inB_at hB hi) (by omega)) ht

set_option maxHeartbeats 400000 in
/-- Text: the one text. -/
theorem polyText_any (zs : List Int) (p : Value) (w : World) (hp : IsP w p zs) (hB : inB zs = true) (ht : Tab w) :
    Calls Tryz.prog 48 #[p] w fun e w' => e = .returned (.string ⟨(ptext zs).toArray⟩) ∧ Below w.heap.size w w' := by
  obtain ⟨k, v, rfl, hk, hv⟩ := hp
  have hT := textOf_any zs v w hv hB ht
  have hc := cell_of_one hk
  obtain ⟨va, vc, rfl⟩ := OwnL.val hv
  generalize ptext zs = T at *
  clear hk hB
  go_enter Tryz.func48, Tryz.ntmps48
  go_wp2_with fail
  refine hT.mono ?_
  rintro e w1 ⟨rfl, hb1⟩
  go_wp2
  go_ret
  exact ⟨rfl, hb1⟩

end Go.Proofs.YtldcjkhbiffdoaaGreatDoor

/-
  The reader in memory; skipBlanks, take.
-/
namespace Go.Proofs.YtldcjkhbiffdoaaGreatDoor
open Go.RowKit

/-- The reader's block: the text, how far it is read, its terms. -/
def Rd (w : World) (rb : Nat) (s : ByteArray) (n : Nat) (tv : Value) : Prop := w.heap[rb]? = some (.cells #[.string s, .int .i64 (n : Int), tv] 82 (0, 0))

theorem Rd.c0 {w : World} {rb n : Nat} {s : ByteArray} {tv : Value} (h : Rd w rb s n tv) : w.cell? ⟨rb, 0, none⟩ = some (.string s) := by unfold Rd at h; simp [World.cell?, h]
theorem Rd.c1 {w : World} {rb n : Nat} {s : ByteArray} {tv : Value} (h : Rd w rb s n tv) : w.cell? ⟨rb, 1, none⟩ = some (.int .i64 (n : Int)) := by unfold Rd at h; simp [World.cell?, h]
theorem Rd.c2 {w : World} {rb n : Nat} {s : ByteArray} {tv : Value} (h : Rd w rb s n tv) : w.cell? ⟨rb, 2, none⟩ = some tv := by unfold Rd at h; simp [World.cell?, h]
theorem Rd.f1 {w : World} {rb n : Nat} {s : ByteArray} {tv : Value} (h : Rd w rb s n tv) (o : Nat) : w.frozen? ⟨rb, o, none⟩ = false := by unfold Rd at h; simp [World.frozen?, h]
theorem Rd.lt {w : World} {rb n : Nat} {s : ByteArray} {tv : Value} (h : Rd w rb s n tv) : rb < w.heap.size := lt_of_block h
theorem Rd.set1 {w : World} {rb n : Nat} {s : ByteArray} {tv : Value} (h : Rd w rb s n tv) {m : Int} {m' : Nat} (hm : m = m') : Rd (w.setCell ⟨rb, 1, none⟩ (.int .i64 m)) rb s m' tv := by
  subst hm
  unfold Rd at h ⊢
  rw [heap_setCell_same w rb 1 _ _ _ h]; rfl
theorem Rd.set2 {w : World} {rb n : Nat} {s : ByteArray} {tv : Value} (h : Rd w rb s n tv) (tv' : Value) : Rd (w.setCell ⟨rb, 2, none⟩ tv') rb s n tv' := by
  unfold Rd at h ⊢
  rw [heap_setCell_same w rb 2 _ _ _ h]; rfl
theorem Rd.below {w w' : World} {rb n : Nat} {s : ByteArray} {tv : Value} (h : Rd w rb s n tv) (hb : Below w.heap.size w w') : Rd w' rb s n tv := by unfold Rd; rw [hb.block rb h.lt]; exact h

/-- Below B nothing has turned; from B on nothing but blocks of the types X. -/
structure Kg (X : TypeId → Prop) (B : Nat) (w w' : World) : Prop where
  bel : Below B w w'
  keep : ∀ (k : Nat) (c : Array Value) (e : TypeId) (f : Nat × Nat), w.heap[k]? = some (Obj.cells c e f) → ¬ X e → w'.heap[k]? = some (Obj.cells c e f)

/-- Readers; readers and terms. -/
def isR (e : TypeId) : Prop := e = 82
def isRT (e : TypeId) : Prop := e = 82 ∨ e = 127
abbrev Kr := Kg isR
abbrev Kp := Kg isRT
/-- Neither limbs nor numbers. -/
def Okx (X : TypeId → Prop) : Prop := ¬ X 2 ∧ ¬ X 105
theorem okR : Okx isR := by unfold Okx isR; decide
theorem okRT : Okx isRT := by unfold Okx isRT; decide
theorem Kg.kp {B : Nat} {w w' : World} (h : Kr B w w') : Kp B w w' := ⟨h.bel, fun k c e f h0 h1 => h.keep k c e f h0 (fun e0 => h1 (.inl e0))⟩

section
variable {X : TypeId → Prop}
theorem Kg.refl (B : Nat) (w : World) : Kg X B w w := ⟨Below.refl _ _, fun _ _ _ _ h _ => h⟩
theorem Kg.trans {B : Nat} {a b c : World} (h : Kg X B a b) (k : Kg X B b c) : Kg X B a c := ⟨h.bel.trans k.bel, fun i x e f h0 h1 => k.keep i x e f (h.keep i x e f h0 h1) h1⟩
theorem Kg.of {B : Nat} {w w' : World} (h : Below w.heap.size w w') (hB : B ≤ w.heap.size) : Kg X B w w' := ⟨h.mono hB, fun k c e f h0 _ => by rw [h.block k (lt_of_block h0)]; exact h0⟩
theorem Kg.step {B : Nat} {a w w' : World} (h : Kg X B a w) (hb : Below w.heap.size w w') (hB : B ≤ a.heap.size) : Kg X B a w' := h.trans (Kg.of hb (Nat.le_trans hB h.bel.size))
theorem Kg.drewN {B : Nat} {a w : World} (h : Kg X B a w) (n : Nat) : Kg X B a (w.drewN n) := ⟨below_drewN h.bel n, h.keep⟩
theorem Kg.drew {B : Nat} {a w : World} (h : Kg X B a w) : Kg X B a w.drew := ⟨h.bel.drew, h.keep⟩

/-- A store into such a block. -/
theorem Kg.set {B : Nat} {a w : World} (h : Kg X B a w) {k o : Nat} {v : Value} (hB : B ≤ k) (hk : ∃ (c : Array Value) (e : TypeId) (f : Nat × Nat), w.heap[k]? = some (Obj.cells c e f) ∧ X e) : Kg X B a (w.setCell ⟨k, o, none⟩ v) := by
  refine ⟨h.bel.setCell hB v, fun i c e f h0 h1 => ?_⟩
  have h3 := h.keep i c e f h0 h1
  obtain ⟨c', e', f', hk', he⟩ := hk
  have : i ≠ k := by
    intro e0
    subst e0
    rw [h3] at hk'
    simp at hk'
    obtain ⟨_, rfl, _⟩ := hk'
    exact h1 he
  rw [Below.heap_setCell _ _ _ _ this]
  exact h3
/-- A store into what is new. -/
theorem Kg.setNew {B : Nat} {a w : World} (h : Kg X B a w) {k o : Nat} {v : Value} (hB : B ≤ a.heap.size) (hk : a.heap.size ≤ k) : Kg X B a (w.setCell ⟨k, o, none⟩ v) := by
  refine ⟨h.bel.setCell (Nat.le_trans hB hk) v, fun i c e f h0 h1 => ?_⟩
  have h3 := h.keep i c e f h0 h1
  have hi := lt_of_block h0
  rw [Below.heap_setCell _ _ _ _ (by show i ≠ k; omega)]
  exact h3

theorem Row.kp {B : Nat} {w w' : World} {v : Value} {l : List Int} (h : Row w v l) (hk : Kg X B w w') (hX : Okx X := by first | exact okR | exact okRT) : Row w' v l := by
  refine ⟨h.1, ?_⟩
  rcases h.2 with h1 | ⟨g, cap, cur, hv, hb0, hg, r⟩
  · exact .inl h1
  · exact .inr ⟨g, cap, cur, hv, hb0, hk.keep g _ _ _ hg hX.1, r⟩
theorem IsI.kp {B : Nat} {w w' : World} {v : Value} {z : Int} (h : IsI w v z) (hk : Kg X B w w') (hX : Okx X := by first | exact okR | exact okRT) : IsI w' v z := by
  obtain ⟨b, x, l, h1, h2, h3⟩ := h
  exact ⟨b, x, l, h1, h2.kp hk hX, h3⟩
theorem Bx.kp {B : Nat} {w w' : World} {k : Nat} {a b : Value} (h : Bx w k a b) (hk : Kg X B w w') (hX : Okx X := by first | exact okR | exact okRT) : Bx w' k a b := hk.keep k _ _ _ h hX.2
end

theorem Rd.typ {X : TypeId → Prop} {w : World} {rb n : Nat} {s : ByteArray} {tv : Value} (h : Rd w rb s n tv) (hX : X 82 := by first | exact rfl | exact Or.inl rfl) : ∃ (c : Array Value) (e : TypeId) (f : Nat × Nat), w.heap[rb]? = some (Obj.cells c e f) ∧ X e := ⟨_, _, _, h, hX⟩

theorem byte_at {s : ByteArray} {k : Nat} (h : k < s.size) : s.data.toList[k]? = some s[k] := by
  rw [List.getElem?_eq_getElem (by simpa using h)]; rfl
theorem byte_none {s : ByteArray} {k : Nat} (h : ¬ k < s.size) : s.data.toList[k]? = none := List.getElem?_eq_none (by simpa using h)

/-- How far the reader has read. -/
def rdAt (rb : Nat) (w : World) : Nat := match w.cell? ⟨rb, 1, none⟩ with
  | some (.int _ q) => q.toNat
  | _ => 0
theorem Rd.at {w : World} {rb n : Nat} {s : ByteArray} {tv : Value} (h : Rd w rb s n tv) : rdAt rb w = n := by unfold rdAt; rw [h.c1]; simp

theorem toList_len (s : ByteArray) : s.data.toList.length = s.size := by rw [Array.length_toList]; rfl

set_option maxHeartbeats 1000000 in
theorem skip_any (s : ByteArray) (n rb : Nat) (tv : Value) (w : World) (B : Nat) (hR : Rd w rb s n tv) (hn : n ≤ s.size) (hs : s.size ≤ 200) (hB : B ≤ rb) :
    Calls Tryz.prog 89 #[.pointer (some ⟨rb, 0, none⟩)] w fun e w' => e = .returned (.tuple #[]) ∧ Rd w' rb s (skp s.data.toList n) tv ∧ Kr B w w' := by
  go_enter Tryz.func89, Tryz.ntmps89
  go_wp2_with fail
  go_loopw [] (fun wr => ∃ k : Nat, k ≤ s.size ∧ Rd wr rb s k tv ∧ Hid (skp s.data.toList k = skp s.data.toList n) ∧ Kr B w wr) (fun wr => s.size - rdAt rb wr)
  case atStart => exact ⟨n, hn, hR, rfl, Kg.refl _ _⟩
  case round =>
    obtain ⟨k, hk, hRk, HE, hKp⟩ := hrel
    have c0 := hRk.c0; have c1 := hRk.c1; have f1 := hRk.f1 1
    by_cases hlt : k < s.size
    · have hki : (k : Int) < (s.size : Int) := by omega
      by_cases hb : s[k] = 32
      · have hbb : ((s[k].toNat : Int) == 32) = true := by rw [hb]; rfl
        go_wp2_with fail
        go_quiet (fail)
        go_wp2
        have hRn : Rd (wr.drewN nq) rb s k tv := hRk
        have hR2 : Rd ((wr.drewN nq).setCell ⟨rb, 1, none⟩ (.int .i64 ((k : Int) + 1))) rb s (k + 1) tv := hRn.set1 (by omega)
        refine ⟨⟨k + 1, by omega, hR2, ?_, (hKp.drewN nq).set hB hRn.typ⟩, ?_⟩
        · have h1 := HE.out
          rw [skp_step (by rw [byte_at hlt, hb])] at h1
          exact h1
        · rw [hR2.at, hRk.at]; omega
      · have hbb : ((s[k].toNat : Int) == 32) = false := by
          simp only [beq_eq_false_iff_ne, ne_eq]
          intro h
          exact hb (UInt8.toNat_inj.1 (by have : (32 : UInt8).toNat = 32 := rfl; omega))
        have hsk : skp s.data.toList n = k := by
          rw [← HE.out]; exact skp_stop (by rw [byte_at hlt]; intro h; exact hb (Option.some.inj h))
        go_wp2_with fail
        go_quiet (fail)
        go_wp2
        go_end0
        exact ⟨rfl, by rw [hsk]; exact hRk, hKp.drewN nq⟩
    · have hd : decide ((k : Int) < (s.size : Int)) = false := by simp; omega
      have hsk : skp s.data.toList n = k := by
        rw [← HE.out]; exact skp_stop (by rw [byte_none hlt]; simp)
      go_wp2_with fail
      go_quiet (fail)
      go_wp2
      go_end0
      exact ⟨rfl, by rw [hsk]; exact hRk, hKp.drewN nq⟩

set_option maxHeartbeats 1000000 in
theorem take_any (s : ByteArray) (n rb : Nat) (tv : Value) (c : UInt8) (ci : Int) (hc : ci = (c.toNat : Int)) (w : World) (B : Nat) (hR : Rd w rb s n tv) (hn : n ≤ s.size) (hs : s.size ≤ 200) (hB : B ≤ rb) :
    Calls Tryz.prog 87 #[.pointer (some ⟨rb, 0, none⟩), .int .u8 ci] w fun e w' => e = .returned (.bool (tak s.data.toList c n).1) ∧ Rd w' rb s (tak s.data.toList c n).2 tv ∧ Kr B w w' := by
  have hS := skip_any s n rb tv w B hR hn hs hB
  have hsl := skp_le (l := s.data.toList) (n := n) (by simpa using hn)
  unfold tak
  have hl := toList_len s
  rw [hl] at hsl
  generalize skp s.data.toList n = k at *
  subst hc
  by_cases hlt : k < s.size
  · by_cases hb : s[k] = c
    · rw [if_pos (by rw [byte_at hlt, hb])]
      have hbb : ((s[k].toNat : Int) != (c.toNat : Int)) = false := by rw [hb]; simp
      have hki : (k : Int) < (s.size : Int) := by omega
      have hd : decide ((s.size : Int) ≤ (k : Int)) = false := by simp; omega
      go_enter Tryz.func87, Tryz.ntmps87
      go_wp2_with fail
      refine hS.mono ?_
      rintro e w1 ⟨rfl, hR1, hK1⟩
      have c0 := hR1.c0; have c1 := hR1.c1; have f1 := hR1.f1 1
      go_wp2_with fail
      go_quiet (fail)
      go_wp2
      go_ret
      have hRn : Rd (w1.drewN nq) rb s k tv := hR1
      exact ⟨rfl, hRn.set1 (by omega), (hK1.drewN nq).set hB hRn.typ⟩
    · rw [if_neg (by rw [byte_at hlt]; intro h; exact hb (Option.some.inj h))]
      have hbb : ((s[k].toNat : Int) != (c.toNat : Int)) = true := by
        rw [bne_iff_ne]
        intro h
        exact hb (UInt8.toNat_inj.1 (by omega))
      have hki : (k : Int) < (s.size : Int) := by omega
      have hd : decide ((s.size : Int) ≤ (k : Int)) = false := by simp; omega
      go_enter Tryz.func87, Tryz.ntmps87
      go_wp2_with fail
      refine hS.mono ?_
      rintro e w1 ⟨rfl, hR1, hK1⟩
      have c0 := hR1.c0; have c1 := hR1.c1; have f1 := hR1.f1 1
      go_wp2_with fail
      go_quiet (fail)
      go_wp2
      go_ret
      exact ⟨rfl, hR1, hK1.drewN nq⟩
  · rw [if_neg (by rw [byte_none hlt]; simp)]
    have hd : decide ((s.size : Int) ≤ (k : Int)) = true := by simp; omega
    go_enter Tryz.func87, Tryz.ntmps87
    go_wp2_with fail
    refine hS.mono ?_
    rintro e w1 ⟨rfl, hR1, hK1⟩
    have c0 := hR1.c0; have c1 := hR1.c1
    go_wp2_with fail
    go_quiet (fail)
    go_wp2
    go_ret
    exact ⟨rfl, hR1, hK1.drewN nq⟩

end Go.Proofs.YtldcjkhbiffdoaaGreatDoor

/-
  isDigit, readNumber.
-/
namespace Go.Proofs.YtldcjkhbiffdoaaGreatDoor
open Go.RowKit

theorem fit_nat {n k : Nat} (h : n < 10 ^ k) (hk : k ≤ 10000000) : Fit (n : Int) := by
  refine ⟨k, hk, ?_⟩
  have h3 : 10 ^ k ≤ 1000000000 ^ k := Nat.pow_le_pow_left (by omega) k
  have : ((n : Int)).natAbs = n := by simp
  omega

/-- Box k holds the number z. -/
def IsB (w : World) (k : Nat) (z : Int) : Prop := ∃ b x, Bx w k (.bool b) x ∧ IsI w (.agg #[.bool b, x]) z

theorem IsB.open {w : World} {k : Nat} {z : Int} (h : IsB w k z) : ∃ b xa xn xc, Bx w k (.bool b) (.slice xa xn xc) ∧ IsI w (.agg #[.bool b, .slice xa xn xc]) z := by
  obtain ⟨b, x, h1, h2⟩ := h
  obtain ⟨b', x', l, e, hr, hl⟩ := id h2
  obtain ⟨xa, xc, hx⟩ := hr.val
  simp at e
  obtain ⟨rfl, rfl⟩ := e
  subst hx
  exact ⟨b, xa, _, xc, h1, h2⟩
theorem IsB.below {w w' : World} {k : Nat} {z : Int} (h : IsB w k z) (hb : Below w.heap.size w w') : IsB w' k z := by
  obtain ⟨b, x, h1, h2⟩ := h
  exact ⟨b, x, h1.below hb, h2.below hb⟩
theorem IsB.kp {X : TypeId → Prop} {B : Nat} {w w' : World} {k : Nat} {z : Int} (h : IsB w k z) (hb : Kg X B w w') (hX : Okx X := by first | exact okR | exact okRT) : IsB w' k z := by
  obtain ⟨b, x, h1, h2⟩ := h
  exact ⟨b, x, h1.kp hb hX, h2.kp hb hX⟩
theorem IsB.lt {w : World} {k : Nat} {z : Int} (h : IsB w k z) : k < w.heap.size := by
  obtain ⟨b, x, h1, h2⟩ := h
  exact h1.lt

theorem cell_set2 {w : World} {p : Addr} {v : Value} (h : w.cell? p = some v) {j : Nat} (hne : p.block ≠ j) (a b : Value) : ((w.setCell ⟨j, 0, none⟩ a).setCell ⟨j, 1, none⟩ b).cell? p = some v := by
  rw [World.cell?_of_block (w := w) (by rw [Below.heap_setCell _ _ _ _ hne, Below.heap_setCell _ _ _ _ hne])]
  exact h

theorem Bx.other {w : World} {k j : Nat} {a b : Value} (h : Bx w k a b) (hne : k ≠ j) (u v : Value) : Bx ((w.setCell ⟨j, 0, none⟩ u).setCell ⟨j, 1, none⟩ v) k a b := by
  unfold Bx at h ⊢
  rw [Below.heap_setCell _ _ _ _ hne, Below.heap_setCell _ _ _ _ hne]
  exact h
theorem Rd.other {w : World} {rb n j : Nat} {s : ByteArray} {tv : Value} (h : Rd w rb s n tv) (hne : rb ≠ j) (u v : Value) : Rd ((w.setCell ⟨j, 0, none⟩ u).setCell ⟨j, 1, none⟩ v) rb s n tv := by
  unfold Rd at h ⊢
  rw [Below.heap_setCell _ _ _ _ hne, Below.heap_setCell _ _ _ _ hne]
  exact h
theorem IsI.set2 {w : World} {u : Value} {z : Int} (h : IsI w u z) {k : Nat} {a b : Value} (hk : Bx w k a b) (a' b' : Value) : IsI ((w.setCell ⟨k, 0, none⟩ a').setCell ⟨k, 1, none⟩ b') u z := by
  obtain ⟨b1, x, l, h1, h2, h3⟩ := h
  exact ⟨b1, x, l, h1, h2.set2 hk a' b', h3⟩
theorem IsB.other {w : World} {k j : Nat} {z : Int} (h : IsB w k z) {a b : Value} (hj : Bx w j a b) (hne : k ≠ j) (u v : Value) : IsB ((w.setCell ⟨j, 0, none⟩ u).setCell ⟨j, 1, none⟩ v) k z := by
  obtain ⟨b1, x, h1, h2⟩ := h
  exact ⟨b1, x, h1.other hne u v, h2.set2 hj u v⟩
theorem IsB.stored {w : World} {j : Nat} {a b : Value} (hj : Bx w j a b) {b1 : Bool} {x : Value} {z : Int} (h : IsI w (.agg #[.bool b1, x]) z) : IsB ((w.setCell ⟨j, 0, none⟩ (.bool b1)).setCell ⟨j, 1, none⟩ x) j z :=
  ⟨b1, x, hj.set _ _, h.set2 hj _ _⟩
theorem IsB.new {w : World} {b1 : Bool} {x : Value} {z : Int} (h : IsI w (.agg #[.bool b1, x]) z) : IsB (w.alloc (.cells #[.bool b1, x] 105)) w.heap.size z :=
  ⟨b1, x, Bx.alloc w _ _, h.below ((Below.refl _ _).alloc (Nat.le_refl _) _)⟩
theorem IsI.form {w : World} {v : Value} {z : Int} (h : IsI w v z) : ∃ b xa xn xc, v = .agg #[.bool b, .slice xa xn xc] := by
  obtain ⟨b, x, l, h1, h2, h3⟩ := h
  obtain ⟨xa, xc, rfl⟩ := h2.val
  exact ⟨b, xa, _, xc, h1⟩
theorem IsI.zero (w : World) : IsI w (.agg #[.bool false, .slice none 0 0]) 0 :=
  ⟨false, _, [], rfl, ⟨rfl, .inl ⟨rfl, rfl⟩⟩, Dig.nil _, (fun x h => by simp at h), (fun h => by simp at h), by simp [sv, ev]⟩

set_option maxHeartbeats 400000 in
theorem isDigit_any (c : UInt8) (ci : Int) (hc : ci = (c.toNat : Int)) (w : World) :
    Calls Tryz.prog 152 #[.int .u8 ci] w fun e w' => e = .returned (.bool (isDig c)) ∧ w' = w := by
  have hd : isDig c = (decide (48 ≤ ci) && decide (ci ≤ 57)) := by
    subst hc
    unfold isDig
    rw [Bool.eq_iff_iff]
    simp [UInt8.le_iff_toNat_le]
    omega
  rw [hd]
  clear hd hc
  by_cases h1 : 48 ≤ ci
  · by_cases h2 : ci ≤ 57
    · rw [decide_eq_true h1, decide_eq_true h2]
      go_enter Tryz.func152, Tryz.ntmps152
      go_wp2
      go_ret
      exact ⟨rfl, rfl⟩
    · rw [decide_eq_true h1, decide_eq_false h2]
      go_enter Tryz.func152, Tryz.ntmps152
      go_wp2
      go_ret
      exact ⟨rfl, rfl⟩
  · rw [decide_eq_false h1]
    go_enter Tryz.func152, Tryz.ntmps152
    go_wp2
    go_ret
    exact ⟨rfl, rfl⟩

theorem digit_wrap (c : Int) (h1 : 48 ≤ c) (h2 : c ≤ 57) : IntKind.i64.wrap (IntKind.u8.wrap (c - 48)) = c - 48 := by
  rw [IntKind.wrap_i64, IntKind.wrap_u8]; omega

/-- The number, as far as it is read. -/
def NumAt (l : List UInt8) (k0 k num : Nat) : Prop := numOf num (digs (l.drop k)) = numOf 0 (digs (l.drop k0)) ∧ k + (digs (l.drop k)).length = k0 + (digs (l.drop k0)).length ∧ num < 10 ^ (k - k0)

theorem NumAt.start (l : List UInt8) (k0 : Nat) : NumAt l k0 k0 0 := ⟨rfl, rfl, by simp⟩
theorem NumAt.step {l : List UInt8} {k0 k num : Nat} {c : UInt8} (h : NumAt l k0 k num) (hk : k0 ≤ k) (hc : l[k]? = some c) (hd : isDig c = true) : NumAt l k0 (k + 1) (10 * num + (c.toNat - 48)) := by
  obtain ⟨h1, h2, h3⟩ := h
  rw [digs_step hc hd] at h1 h2
  have h4 := isDig_le hd
  refine ⟨h1, by simp at h2; omega, ?_⟩
  rw [show k + 1 - k0 = (k - k0) + 1 by omega, Nat.pow_succ]
  omega
theorem NumAt.stop {l : List UInt8} {k0 k num : Nat} (h : NumAt l k0 k num) (hd : ∀ c, l[k]? = some c → isDig c = false) : num = numOf 0 (digs (l.drop k0)) ∧ k = k0 + (digs (l.drop k0)).length := by
  obtain ⟨h1, h2, h3⟩ := h
  rw [digs_stop hd] at h1 h2
  exact ⟨h1, h2⟩

end Go.Proofs.YtldcjkhbiffdoaaGreatDoor

/-
  poly.numberAt, whole.Sub, poly.sum, poly.difference.
-/
namespace Go.Proofs.YtldcjkhbiffdoaaGreatDoor
open Go.RowKit

theorem zeroInt {w : World} : IsI w (.agg #[.bool false, .slice none 0 0]) 0 :=
  ⟨_, _, [], rfl, ⟨rfl, .inl ⟨rfl, rfl⟩⟩, ⟨Dig.nil _, (fun x h => by simp at h), (fun h => by cases h), by simp [sv, ev]⟩⟩

/-- All are not too great. -/
def FitW (zs : List Int) : Prop := ∀ k, Fit (zs.getD k 0)

theorem fitW_of {z : Int} {e : Nat} (h : z.natAbs < 10 ^ e) (he : e ≤ 80000000) : Fit z := by
  refine ⟨e / 9 + 1, by omega, Nat.lt_of_lt_of_le h ?_⟩
  have h1 : (1000000000 : Nat) = 10 ^ 9 := by decide
  rw [h1, ← Nat.pow_mul]
  exact Nat.pow_le_pow_right (by omega) (by omega)
theorem Bd.fitW {l : List Int} {e : Nat} (h : Bd l e) (he : e ≤ 80000000) : FitW l := fun k => fitW_of (h k) he

set_option maxHeartbeats 1000000 in
theorem numberAt_any (zs : List Int) (v : Value) (k : Nat) (w : World) (hv : IsL w v zs) :
    Calls Tryz.prog 98 #[v, .int .i64 k] w fun e w' => ∃ x, e = .returned x ∧ IsI w' x (zs.getD k 0) ∧ Below w.heap.size w w' := by
  obtain ⟨va, vc, rfl⟩ := OwnL.val hv
  by_cases hlt : k < zs.length
  · obtain ⟨g, b, xa, xn, xc, rfl, hc1, hc2, hg, _, hc0, hcx, hI⟩ := OwnL.at hv k hlt
    generalize zs.getD k 0 = z at *
    go_enter Tryz.func98, Tryz.ntmps98
    go_wp2
    refine bodyPost_ret (v := .agg #[.bool b, .slice xa xn xc]) (by simp [results, Tryz.results98, go_sem]) rfl ⟨_, rfl, hI.below ((Below.refl _ _).alloc (Nat.le_refl _) _), (Below.refl _ _).alloc (Nat.le_refl _) _⟩
  · have hz : zs.getD k 0 = 0 := getD_out (by omega)
    rw [hz]
    clear hz
    go_enter Tryz.func98, Tryz.ntmps98
    go_wp2
    refine bodyPost_ret (v := .agg #[.bool false, .slice none 0 0]) (by simp [results, Tryz.results98, go_sem]) rfl ⟨_, rfl, zeroInt, (Below.refl _ _).alloc (Nat.le_refl _) _⟩

set_option maxHeartbeats 1000000 in
theorem psum_any (xs ys : List Int) (u v : Value) (w : World) (hu : IsL w u xs) (hv : IsL w v ys) (hl : xs.length ≤ 1000000) (hm : ys.length ≤ 1000000) (fx : FitW xs) (fy : FitW ys) :
    Calls Tryz.prog 57 #[u, v] w fun e w' => ∃ x, e = .returned x ∧ OwnL w.heap.size w' x (tab (max xs.length ys.length) fun k => xs.getD k 0 + ys.getD k 0) ∧ Below w.heap.size w w' := by
  obtain ⟨ua, uc, rfl⟩ := OwnL.val hu
  obtain ⟨va, vc, rfl⟩ := OwnL.val hv
  obtain ⟨f, HF⟩ : ∃ f : Nat → Int, Hid (f = fun k => xs.getD k 0 + ys.getD k 0) := ⟨_, rfl⟩
  rw [← HF.out]
  go_enter Tryz.func57, Tryz.ntmps57
  go_wp2_with fail
  go_loopw [5, 6] (fun o i wr => ∃ (k : Nat), k ≤ max xs.length ys.length ∧ i = .int .i64 k ∧ OwnL w.heap.size wr o (tab k f) ∧ Below w.heap.size w wr) (fun _ i _ => max xs.length ys.length - (intOf i).toNat)
  case atStart => exact ⟨0, Nat.zero_le _, rfl, OwnL.lit rfl, (Below.refl _ _).alloc (Nat.le_refl _) _⟩
  case round =>
    obtain ⟨k, hk, rfl, hown, hbel⟩ := hrel
    have hlen := tab_len k f
    by_cases hlt : k < max xs.length ys.length
    · have hc1 := numberAt_any xs (.slice ua xs.length uc) k wr (OwnL.below hu hbel)
      have hc2 := fun (W : World) (g : IsL W (.slice va ys.length vc) ys) => numberAt_any ys (.slice va ys.length vc) k W g
      have hsu := tab_succ k f
      have hfk : f k = xs.getD k 0 + ys.getD k 0 := by rw [HF.out]
      rw [hfk] at hsu
      have f1 := fx k
      have f2 := fy k
      generalize xs.getD k 0 = x at *
      generalize ys.getD k 0 = y at *
      have HSU : Hid _ := hsu
      clear hsu hfk
      obtain ⟨L, HL⟩ : ∃ L, Hid (tab k f = L) := ⟨_, rfl⟩
      rw [HL.out] at hown hlen
      have hll : L.length ≤ 1000000 := by omega
      clear hlen
      have hA := fun (W : World) (u1 u2 : Value) (g1 : IsI W u1 x) (g2 : IsI W u2 y) => add_any u1 u2 x y W g1 g2 f1 f2
      have HA : Hid _ := hA
      have HC2 : Hid _ := hc2
      clear hA hc2
      have hcase : k < xs.length ∨ (¬ k < xs.length ∧ k < ys.length) := by omega
      rcases hcase with h5 | ⟨h5, h6⟩
      all_goals
        go_wp2_with fail
        refine hc1.mono ?_
        rintro e w1 ⟨x1, rfl, hI1, hb1⟩
        obtain ⟨b1, a1, n1, c1, rfl⟩ := hI1.form
        have hbw1 := hbel.trans (hb1.mono hbel.size)
        go_wp2_with fail
        generalize hW2 : w1.alloc (Obj.cells #[Value.bool b1, Value.slice a1 n1 c1] 105) = W2
        obtain ⟨hb2, X2⟩ := one_new hW2
        clear hW2
        have hbw2 := hbw1.trans (hb2.mono hbw1.size)
        refine (HC2.out W2 (OwnL.below hv hbw2)).mono ?_
        rintro e w3 ⟨x3, rfl, hI3, hb3⟩
        obtain ⟨b3, a3, n3, c3, rfl⟩ := hI3.form
        have hbw3 := hbw2.trans (hb3.mono hbw2.size)
        have X3 := X2.below hb3
        have q0 := X3.c0; have q1 := X3.c1; have q2 := X3.lt
        have hI13 := (hI1.below hb2).below hb3
        go_wp2_with fail
        generalize hW4 : w3.alloc (Obj.cells #[Value.bool b3, Value.slice a3 n3 c3] 105) = W4
        obtain ⟨hb4, X4⟩ := one_new hW4
        clear hW4
        have hbw4 := hbw3.trans (hb4.mono hbw3.size)
        refine (HA.out W4 _ _ (hI13.below hb4) (hI3.below hb4)).mono ?_
        rintro e w5 ⟨x5, rfl, hI5, hb5⟩
        obtain ⟨b5, a5, n5, c5, rfl⟩ := hI5.form
        have hbw5 := hbw4.trans (hb5.mono hbw4.size)
        have hown5 := OwnL.below (OwnL.below (OwnL.below (OwnL.below (OwnL.below hown hb1) hb2) hb3) hb4) hb5
        go_wp2_with (at_builtin; refine wpList_pushI rfl (.tmp 28) (.tmp 32) rfl w.heap.size _ L _ _ (x + y) rfl hown5 hI5 rfl (by omega) hbw5.size ?_)
        intro v6 w6 hown6 hb6 _
        rw [← HL.out, ← HSU.out] at hown6
        go_wp2
        go_roundw
        case rel => exact ⟨k + 1, by omega, by go_num, hown6, hbw5.trans hb6⟩
        case measure => simp [intOf]; omega
    · obtain rfl : k = max xs.length ys.length := by omega
      have h5 : ¬ max xs.length ys.length < xs.length := by omega
      have h6 : ¬ max xs.length ys.length < ys.length := by omega
      obtain ⟨oa, oc, rfl⟩ := OwnL.val hown
      go_wp2
      go_ret
      exact ⟨_, rfl, hown, hbel⟩

end Go.Proofs.YtldcjkhbiffdoaaGreatDoor

/-
  whole.Sub, poly.difference.
-/
namespace Go.Proofs.YtldcjkhbiffdoaaGreatDoor
open Go.RowKit

theorem Fit.neg' {z : Int} (h : Fit z) : Fit (-z) := by
  obtain ⟨n, hn, h1⟩ := h
  exact ⟨n, hn, by simpa using h1⟩

set_option maxHeartbeats 1000000 in
theorem wsub_any (u v : Value) (z1 z2 : Int) (w : World) (hu : IsI w u z1) (hv : IsI w v z2) (f1 : Fit z1) (f2 : Fit z2) :
    Calls Tryz.prog 103 #[u, v] w fun e w' => ∃ v, e = .returned v ∧ IsI w' v (z1 - z2) ∧ Below w.heap.size w w' := by
  obtain ⟨b1, ua, un, uc, rfl⟩ := hu.form
  obtain ⟨b2, va, vn, vc, rfl⟩ := hv.form
  go_enter Tryz.func103, Tryz.ntmps103
  go_wp2_with fail
  generalize hW : ((w.alloc (Obj.cells #[Value.bool b1, Value.slice ua un uc] 105)).alloc (Obj.cells #[Value.bool b2, Value.slice va vn vc] 105)).alloc (Obj.cells #[Value.bool false, Value.slice none 0 0] 105) = W0
  obtain ⟨hz0, hb0, X0, X1, X2⟩ := three_new hW
  clear hW
  refine (neg_any _ z2 W0 (hv.below hb0) f2).mono ?_
  rintro e w1 ⟨v1, rfl, hI1, hb1⟩
  obtain ⟨b3, xa, xn, xc, rfl⟩ := hI1.form
  have Y0 := X0.below hb1; have Y2 := X2.below hb1
  have p0 := Y0.c0; have p1 := Y0.c1; have hl0 := Y0.lt; have hl2 := Y2.lt
  go_wp2_with fail
  generalize hW4 : w1.alloc (Obj.cells #[Value.bool b3, Value.slice xa xn xc] 105) = W4
  obtain ⟨hb4, _⟩ := one_new hW4
  clear hW4
  have Z2 := Y2.below hb4
  refine (add_any _ _ z1 (-z2) W4 (((hu.below hb0).below hb1).below hb4) (hI1.below hb4) f1 f2.neg').mono ?_
  rintro e w5 ⟨v5, rfl, hI5, hb5⟩
  obtain ⟨b5, ya, yn, yc, rfl⟩ := hI5.form
  have V2 := Z2.below hb5
  have r0 := V2.c0; have r1 := V2.c1; have r2 := V2.f0; have r3 := V2.f1
  have hbw : Below w.heap.size w w5 := ((hb0.trans (hb1.mono hb0.size)).trans (hb4.mono (by have := hb0.size; have := hb1.size; omega))).trans (hb5.mono (by have := hb0.size; have := hb1.size; have := hb4.size; omega))
  rw [show z1 + -z2 = z1 - z2 by omega] at hI5
  go_wp2
  refine bodyPost_ret (v := .agg #[.bool b5, .slice ya yn yc]) (by simp [results, Tryz.results103, go_sem, r0, r1]) rfl ⟨_, rfl, hI5.set2 V2 _ _, below_set2 hbw (by omega) _ _⟩

set_option maxHeartbeats 1000000 in
theorem pdiff_any (xs ys : List Int) (u v : Value) (w : World) (hu : IsL w u xs) (hv : IsL w v ys) (hl : xs.length ≤ 1000000) (hm : ys.length ≤ 1000000) (fx : FitW xs) (fy : FitW ys) :
    Calls Tryz.prog 61 #[u, v] w fun e w' => ∃ x, e = .returned x ∧ OwnL w.heap.size w' x (tab (max xs.length ys.length) fun k => xs.getD k 0 - ys.getD k 0) ∧ Below w.heap.size w w' := by
  obtain ⟨ua, uc, rfl⟩ := OwnL.val hu
  obtain ⟨va, vc, rfl⟩ := OwnL.val hv
  obtain ⟨f, HF⟩ : ∃ f : Nat → Int, Hid (f = fun k => xs.getD k 0 - ys.getD k 0) := ⟨_, rfl⟩
  rw [← HF.out]
  go_enter Tryz.func61, Tryz.ntmps61
  go_wp2_with fail
  go_loopw [5, 6] (fun o i wr => ∃ (k : Nat), k ≤ max xs.length ys.length ∧ i = .int .i64 k ∧ OwnL w.heap.size wr o (tab k f) ∧ Below w.heap.size w wr) (fun _ i _ => max xs.length ys.length - (intOf i).toNat)
  case atStart => exact ⟨0, Nat.zero_le _, rfl, OwnL.lit rfl, (Below.refl _ _).alloc (Nat.le_refl _) _⟩
  case round =>
    obtain ⟨k, hk, rfl, hown, hbel⟩ := hrel
    have hlen := tab_len k f
    by_cases hlt : k < max xs.length ys.length
    · have hc1 := numberAt_any xs (.slice ua xs.length uc) k wr (OwnL.below hu hbel)
      have hc2 := fun (W : World) (g : IsL W (.slice va ys.length vc) ys) => numberAt_any ys (.slice va ys.length vc) k W g
      have hsu := tab_succ k f
      have hfk : f k = xs.getD k 0 - ys.getD k 0 := by rw [HF.out]
      rw [hfk] at hsu
      have f1 := fx k
      have f2 := fy k
      generalize xs.getD k 0 = x at *
      generalize ys.getD k 0 = y at *
      have HSU : Hid _ := hsu
      clear hsu hfk
      obtain ⟨L, HL⟩ : ∃ L, Hid (tab k f = L) := ⟨_, rfl⟩
      rw [HL.out] at hown hlen
      have hll : L.length ≤ 1000000 := by omega
      clear hlen
      have hA := fun (W : World) (u1 u2 : Value) (g1 : IsI W u1 x) (g2 : IsI W u2 y) => wsub_any u1 u2 x y W g1 g2 f1 f2
      have HA : Hid _ := hA
      have HC2 : Hid _ := hc2
      clear hA hc2
      have hcase : k < xs.length ∨ (¬ k < xs.length ∧ k < ys.length) := by omega
      rcases hcase with h5 | ⟨h5, h6⟩
      all_goals
        go_wp2_with fail
        refine hc1.mono ?_
        rintro e w1 ⟨x1, rfl, hI1, hb1⟩
        obtain ⟨b1, a1, n1, c1, rfl⟩ := hI1.form
        have hbw1 := hbel.trans (hb1.mono hbel.size)
        go_wp2_with fail
        generalize hW2 : w1.alloc (Obj.cells #[Value.bool b1, Value.slice a1 n1 c1] 105) = W2
        obtain ⟨hb2, X2⟩ := one_new hW2
        clear hW2
        have hbw2 := hbw1.trans (hb2.mono hbw1.size)
        refine (HC2.out W2 (OwnL.below hv hbw2)).mono ?_
        rintro e w3 ⟨x3, rfl, hI3, hb3⟩
        obtain ⟨b3, a3, n3, c3, rfl⟩ := hI3.form
        have hbw3 := hbw2.trans (hb3.mono hbw2.size)
        have X3 := X2.below hb3
        have q0 := X3.c0; have q1 := X3.c1; have q2 := X3.lt
        have hI13 := (hI1.below hb2).below hb3
        go_wp2_with fail
        generalize hW4 : w3.alloc (Obj.cells #[Value.bool b3, Value.slice a3 n3 c3] 105) = W4
        obtain ⟨hb4, X4⟩ := one_new hW4
        clear hW4
        have hbw4 := hbw3.trans (hb4.mono hbw3.size)
        refine (HA.out W4 _ _ (hI13.below hb4) (hI3.below hb4)).mono ?_
        rintro e w5 ⟨x5, rfl, hI5, hb5⟩
        obtain ⟨b5, a5, n5, c5, rfl⟩ := hI5.form
        have hbw5 := hbw4.trans (hb5.mono hbw4.size)
        have hown5 := OwnL.below (OwnL.below (OwnL.below (OwnL.below (OwnL.below hown hb1) hb2) hb3) hb4) hb5
        go_wp2_with (at_builtin; refine wpList_pushI rfl (.tmp 28) (.tmp 32) rfl w.heap.size _ L _ _ (x - y) rfl hown5 hI5 rfl (by omega) hbw5.size ?_)
        intro v6 w6 hown6 hb6 _
        rw [← HL.out, ← HSU.out] at hown6
        go_wp2
        go_roundw
        case rel => exact ⟨k + 1, by omega, by go_num, hown6, hbw5.trans hb6⟩
        case measure => simp [intOf]; omega
    · obtain rfl : k = max xs.length ys.length := by omega
      have h5 : ¬ max xs.length ys.length < xs.length := by omega
      have h6 : ¬ max xs.length ys.length < ys.length := by omega
      obtain ⟨oa, oc, rfl⟩ := OwnL.val hown
      go_wp2
      go_ret
      exact ⟨_, rfl, hown, hbel⟩

end Go.Proofs.YtldcjkhbiffdoaaGreatDoor
