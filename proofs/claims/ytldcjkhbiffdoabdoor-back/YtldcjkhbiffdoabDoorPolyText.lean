/-
  poly.textOf, Text.
-/
import Derived.Test.YtldcjkhbiffdoabDoorTermText
namespace Go.Proofs.YtldcjkhbiffdoabDoor
open Go.RowKit

/-- The text, one term more. -/
def stepT (t : List UInt8) (c : Int) (k : Nat) : List UInt8 := if c = 0 then t else t ++ signT (decide (c < 0)) t.isEmpty ++ termT c.natAbs k

/-- The text of the terms from the power k on, of n in all: m = n - k. -/
def ptm (zs : List Int) (n : Nat) : Nat → List UInt8
  | 0 => []
  | m + 1 => stepT (ptm zs n m) (zs.getD (n - 1 - m) 0) (n - 1 - m)

def ptext (zs : List Int) : List UInt8 := if ptm zs zs.length zs.length = [] then [48] else ptm zs zs.length zs.length

theorem signT_len (a b : Bool) : (signT a b).length ≤ 3 := by cases a <;> cases b <;> simp [signT]
theorem varT_len {k : Nat} (hk : k < 100) : (varT k).length ≤ 4 := by
  unfold varT
  split
  · have : (Lib.decDigits k).length ≤ 2 := by rw [Lib.decDigits_length]; exact nDigits_le (by omega) (by omega)
    simp; omega
  · simp
theorem termT_len {n k : Nat} (hk : k < 100) (hn : Lib.nDigits n ≤ 12) : (termT n k).length ≤ 17 := by
  have h1 := varT_len hk
  have h2 := Lib.decDigits_length n
  unfold termT
  split
  · omega
  · split
    · omega
    · simp; omega
theorem stepT_len {t : List UInt8} {c : Int} {k : Nat} (hk : k < 100) (hn : Lib.nDigits c.natAbs ≤ 12) : (stepT t c k).length ≤ t.length + 20 := by
  have h1 := termT_len (n := c.natAbs) hk hn
  have h2 := signT_len (decide (c < 0)) t.isEmpty
  unfold stepT
  split
  · omega
  · simp; omega

theorem termT_lenW {n k : Nat} (hk : k < 100) (hn : Lib.nDigits n ≤ 30) : (termT n k).length ≤ 35 := by
  have h1 := varT_len hk
  have h2 := Lib.decDigits_length n
  unfold termT
  split
  · omega
  · split
    · omega
    · simp; omega
theorem stepT_lenW {t : List UInt8} {c : Int} {k : Nat} (hk : k < 100) (hn : Lib.nDigits c.natAbs ≤ 30) : (stepT t c k).length ≤ t.length + 40 := by
  have h1 := termT_lenW (n := c.natAbs) hk hn
  have h2 := signT_len (decide (c < 0)) t.isEmpty
  unfold stepT
  split
  · omega
  · simp; omega

theorem fit_of_digits {z : Int} (h : Lib.nDigits z.natAbs ≤ 30) : Fit z := by
  refine ⟨30, by omega, ?_⟩
  have h1 := Lib.lt_pow_nDigits z.natAbs
  have h2 : 10 ^ Lib.nDigits z.natAbs ≤ 10 ^ 30 := Nat.pow_le_pow_right (by omega) h
  have h3 : 10 ^ 30 ≤ 1000000000 ^ 30 := Nat.pow_le_pow_left (by omega) 30
  omega

theorem inB_at {zs : List Int} (h : inB zs = true) {i : Nat} (hi : i < zs.length) : Lib.nDigits (zs.getD i 0).natAbs ≤ 12 := by
  unfold inB at h
  rw [Bool.and_eq_true, List.all_eq_true] at h
  have := h.2 _ (List.getElem_mem hi)
  rw [getD_lt hi]
  simpa [okD] using this
theorem inB_len {zs : List Int} (h : inB zs = true) : zs.length ≤ 11 := by
  unfold inB at h
  rw [Bool.and_eq_true] at h
  simpa using h.1

set_option maxHeartbeats 1000000 in
theorem textOf_all (zs : List Int) (v : Value) (w : World) (hv : IsL w v zs) (hl : zs.length ≤ 11) (hB : ∀ i, i < zs.length → Lib.nDigits (zs.getD i 0).natAbs ≤ 30) (ht : Tab w) :
    Calls Tryd.prog 9 #[v] w fun e w' => e = .returned (.string ⟨(ptext zs).toArray⟩) ∧ Below w.heap.size w w' := by
  obtain ⟨va, vc, rfl⟩ := OwnL.val hv
  have HB : Hid _ := hB
  clear hB
  obtain ⟨T, HTX⟩ : ∃ T, Hid (ptext zs = T) := ⟨_, rfl⟩
  rw [HTX.out]
  go_enter Tryd.func9, Tryd.ntmps9
  go_wp2_with fail
  go_loopw [3, 4] (fun t i wr => ∃ (k m : Nat) (d : List UInt8), k + m = zs.length ∧ i = .int .i64 ((k : Int) - 1) ∧ t = .string ⟨d.toArray⟩ ∧ d.length ≤ 40 * m ∧ Hid (ptm zs zs.length m = d) ∧ Below w.heap.size w wr) (fun _ i _ => (intOf i + 1).toNat)
  case atStart => exact ⟨zs.length, 0, [], by omega, rfl, rfl, by simp, rfl, Below.refl _ _⟩
  case round =>
    obtain ⟨k, m, d, hkm, rfl, rfl, hdl, HE, hbel⟩ := hrel
    cases k with
    | zero =>
      obtain rfl : m = zs.length := by omega
      have hT : T = if d = [] then [48] else d := by
        rw [← HTX.out]; unfold ptext; rw [HE.out]
      by_cases hd : d = []
      · subst hd
        rw [if_pos rfl] at hT
        subst hT
        clear HE HTX
        go_wp2
        go_ret
        exact ⟨rfl, hbel⟩
      · rw [if_neg hd] at hT
        subst hT
        have hdb : T.isEmpty = false := by cases T with | nil => exact absurd rfl hd | cons a b => rfl
        clear HE HTX
        go_wp2
        go_ret
        exact ⟨rfl, hbel⟩
    | succ j =>
      rw [show (((j + 1 : Nat) : Int) - 1) = (j : Int) by omega]
      have hjm : zs.length - 1 - m = j := by omega
      obtain ⟨g, b, xa, xn, xc, rfl, hc1, hc2, hg, _, hc0, hcx, hI⟩ := OwnL.at (OwnL.below hv hbel) j (by omega)
      obtain ⟨z, HZ⟩ : ∃ z, Hid (zs.getD j 0 = z) := ⟨_, rfl⟩
      have hnd := HB.out j (show j < zs.length by omega)
      rw [HZ.out] at hI hnd
      have hfz := fit_of_digits hnd
      have hstep : Hid (ptm zs zs.length (m + 1) = stepT d z j) := by
        show stepT (ptm zs zs.length m) (zs.getD (zs.length - 1 - m) 0) (zs.length - 1 - m) = _
        rw [hjm, HE.out, HZ.out]
      have hsl := stepT_lenW (t := d) (c := z) (k := j) (by omega) hnd
      have hS := sign_any _ z wr hI hfz
      by_cases hz : z = 0
      · subst hz
        have hS' : sgn3 0 = 0 := rfl
        rw [hS'] at hS
        have hs2 : stepT d 0 j = d := by simp [stepT]
        rw [hs2] at hstep hsl
        clear HE HZ hs2 hS' hjm
        go_wp2_with fail
        refine hS.mono ?_
        rintro e w1 ⟨rfl, hb1⟩
        go_wp2_with fail
        go_roundw
        case rel => exact ⟨j, m + 1, d, by omega, rfl, rfl, by omega, hstep, hbel.trans (hb1.mono hbel.size)⟩
        case measure => simp [intOf]
      · have hsz : (sgn3 z == 0) = false := by
          unfold sgn3
          rcases (show z < 0 ∨ 0 < z by omega) with h | h
          · rw [if_pos h]; rfl
          · rw [if_neg (by omega), if_neg (by omega)]; rfl
        have hneg : decide (sgn3 z < 0) = decide (z < 0) := by
          unfold sgn3
          rcases (show z < 0 ∨ 0 < z by omega) with h | h
          · rw [if_pos h]; simp [h]
          · rw [if_neg (by omega), if_neg (by omega)]; simp; omega
        have hA := fun (W : World) (g : IsI W (.agg #[.bool b, .slice xa xn xc]) z) => abs_any _ z W g hfz
        have hnl : (Lib.decDigits z.natAbs).length ≤ 1000 := by rw [Lib.decDigits_length]; omega
        have hT := fun (W : World) (u : Value) (g : IsI W u (z.natAbs : Int)) (g2 : Tab W) => termText_any u z.natAbs j W g (fit_of_digits (by simpa using hnd)) (by omega) hnl g2
        have hG := fun (W : World) => signText_any (sgn3 z) d.isEmpty W
        have hst2 : stepT d z j = d ++ signT (decide (z < 0)) d.isEmpty ++ termT z.natAbs j := by unfold stepT; rw [if_neg hz]
        rw [hst2] at hstep hsl
        rw [hneg] at hG
        generalize sgn3 z = sz at *
        have hgl := signT_len (decide (z < 0)) d.isEmpty
        have htl := termT_lenW (n := z.natAbs) (k := j) (by omega) hnd
        generalize signT (decide (z < 0)) d.isEmpty = sg at *
        generalize termT z.natAbs j = tt at *
        have HA : Hid _ := hA
        have HT : Hid _ := hT
        have HG : Hid _ := hG
        clear hA hT hG hneg hst2 HE HZ hjm hnl
        go_wp2_with fail
        refine hS.mono ?_
        rintro e w1 ⟨rfl, hb1⟩
        have hc0' : w1.cell? ⟨g, j * 2, none⟩ = _ := (hb1.cell (by exact hg)).trans hc0
        have hcx' : w1.cell? ⟨g, j * 2 + 1, none⟩ = _ := (hb1.cell (by exact hg)).trans hcx
        clear hc0 hcx
        go_wp2_with fail
        refine (HA.out _ (hI.below hb1)).mono ?_
        rintro e w2 ⟨u, rfl, hu, hb2⟩
        have hbw2 := (hbel.trans (hb1.mono hbel.size)).trans (hb2.mono (Nat.le_trans hbel.size hb1.size))
        go_wp2_with fail
        refine (HT.out w2 u hu (ht.below hbw2)).mono ?_
        rintro e w3 ⟨rfl, hb3⟩
        go_wp2_with fail
        refine (HG.out w3).mono ?_
        rintro e w4 ⟨rfl, rfl⟩
        go_wp2_with fail
        rw [str_app, str_app]
        go_roundw
        case rel => exact ⟨j, m + 1, d ++ sg ++ tt, by omega, rfl, rfl, by omega, hstep, hbw2.trans (hb3.mono hbw2.size)⟩
        case measure => simp [intOf]

theorem textOf_any (zs : List Int) (v : Value) (w : World) (hv : IsL w v zs) (hB : inB zs = true) (ht : Tab w) :
    Calls Tryd.prog 9 #[v] w fun e w' => e = .returned (.string ⟨(ptext zs).toArray⟩) ∧ Below w.heap.size w w' :=
  textOf_all zs v w hv (inB_len hB) (fun _ hi => Nat.le_trans (inB_at hB hi) (by omega)) ht

set_option maxHeartbeats 400000 in
/-- Text: the one text. -/
theorem polyText_any (zs : List Int) (p : Value) (w : World) (hp : IsP w p zs) (hB : inB zs = true) (ht : Tab w) :
    Calls Tryd.prog 6 #[p] w fun e w' => e = .returned (.string ⟨(ptext zs).toArray⟩) ∧ Below w.heap.size w w' := by
  obtain ⟨k, v, rfl, hk, hv⟩ := hp
  have hT := textOf_any zs v w hv hB ht
  have hc := cell_of_one hk
  obtain ⟨va, vc, rfl⟩ := OwnL.val hv
  generalize ptext zs = T at *
  clear hk hB
  go_enter Tryd.func6, Tryd.ntmps6
  go_wp2_with fail
  refine hT.mono ?_
  rintro e w1 ⟨rfl, hb1⟩
  go_wp2
  go_ret
  exact ⟨rfl, hb1⟩

end Go.Proofs.YtldcjkhbiffdoabDoor
