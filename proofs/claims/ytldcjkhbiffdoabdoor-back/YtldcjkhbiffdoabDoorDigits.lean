/-
  whole.padded, whole.digits, whole.Text, whole.Digits.
-/
import Derived.Test.YtldcjkhbiffdoabDoorShelf
import Derived.Test.YtldcjkhbiffdoabDoorDec
import Derived.Test.YtldcjkhbiffdoabDoorIntSmall
namespace Go.Proofs.YtldcjkhbiffdoabDoor
open Go.RowKit

/-- The table of the powers of ten lies as it was laid. -/
def Tab (w : World) : Prop := Lib.TabIs Tryd.prog w "internal/strconv.uint64pow10" .u64 Lib.pow10Tab ∧ ∃ g, Tryd.prog.globalNamed "internal/strconv.uint64pow10" = some g ∧ g < w.heap.size

theorem Tab.later {B : Nat} {w w' : World} (h : Tab w) (hb : Below B w w') (hB : w.heap.size ≤ B) : Tab w' := by
  obtain ⟨h1, g, h2, h3⟩ := h
  exact ⟨var?_below hb h2 (Nat.lt_of_lt_of_le h3 hB) h1, g, h2, Nat.lt_of_lt_of_le h3 hb.size⟩
theorem Tab.below {w w' : World} (h : Tab w) (hb : Below w.heap.size w w') : Tab w' := h.later hb (Nat.le_refl _)

theorem below_grow (w : World) (k : Nat) (os : Array Obj) : Below w.heap.size w (Sort.grow (w.drewN k) os) :=
  ⟨rfl, rfl, rfl, by simp [Sort.grow, World.drewN], fun i hi => by show (w.heap ++ os)[i]? = _; rw [Array.getElem?_append_left hi]⟩

theorem format_any (n : Int) (h0 : 0 ≤ n) (h1 : n < 1000000000) (w : World) (ht : Tab w) :
    Calls Tryd.prog 41 #[.int .i64 n, .int .i64 10] w fun e w' => e = .returned (.string ⟨(Lib.decDigits n.toNat).toArray⟩) ∧ Below w.heap.size w w' := by
  refine (Tryd.strconv_FormatInt_10 n (by omega) (by omega) w ht.1).mono ?_
  rintro e w' ⟨rfl, k, os, rfl⟩
  exact ⟨by rw [itoa_nonneg h0], below_grow w k os⟩

set_option maxHeartbeats 1000000 in
theorem padded_any (n : Int) (h0 : 0 ≤ n) (h1 : n < 1000000000) (w : World) (ht : Tab w) :
    Calls Tryd.prog 42 #[.int .i64 n] w fun e w' => e = .returned (.string ⟨(padk 9 n.toNat).toArray⟩) ∧ Below w.heap.size w w' := by
  have hF := format_any n h0 h1 w ht
  rw [← pad9 n h0 h1]
  have hlen := Lib.decDigits_length n.toNat
  have h9 := nDigits_le9 n h1
  rw [← hlen] at h9 ⊢
  clear hlen
  generalize Lib.decDigits n.toNat = d at *
  go_enter Tryd.func42, Tryd.ntmps42
  go_wp2_with fail
  refine hF.mono ?_
  rintro e w1 ⟨rfl, hb1⟩
  go_wp2_with fail
  go_loop [3] (fun t => ∃ q : Nat, q + d.length ≤ 9 ∧ t = .string ⟨(List.replicate q 48 ++ d).toArray⟩) (fun t => match t with | .string s => 9 - s.size | _ => 0)
  case atStart => exact ⟨0, by omega, rfl⟩
  case round =>
    obtain ⟨q, hq, rfl⟩ := hrel
    by_cases hlt : q + d.length < 9
    · go_wp2
      have he : ((⟨#[48]⟩ : ByteArray) ++ ⟨(List.replicate q 48 ++ d).toArray⟩) = ⟨(List.replicate (q + 1) 48 ++ d).toArray⟩ := str_app [48] _
      rw [he]
      go_round
      case rel => exact ⟨q + 1, by omega, rfl⟩
      case measure => simp [ByteArray.size]; omega
    · obtain rfl : q = 9 - d.length := by omega
      go_wp2
      go_ret
      exact ⟨rfl, hb1⟩

set_option maxHeartbeats 1000000 in
/-- whole.digits: the decimal digits. -/
theorem digits_any (l : List Int) (u : Value) (w : World) (hu : Row w u l) (hl : l.length ≤ 10000000) (dl : Dig 1000000000 l) (tl : Trim l) (ht : Tab w) :
    Calls Tryd.prog 35 #[u] w fun e w' => e = .returned (.string ⟨(Lib.decDigits (ev 1000000000 l).toNat).toArray⟩) ∧ Below w.heap.size w w' := by
  obtain ⟨ua, uc, rfl⟩ := hu.val
  obtain ⟨D, HD⟩ : ∃ D, Hid (Lib.decDigits (ev 1000000000 l).toNat = D) := ⟨_, rfl⟩
  rw [HD.out]
  by_cases hne : l = []
  · subst hne
    have hD : D = [48] := by rw [← HD.out]; simp [ev, Lib.decDigits_one]
    subst hD
    clear HD
    go_enter Tryd.func35, Tryd.ntmps35
    go_wp2
    go_ret
    exact ⟨rfl, Below.refl _ _⟩
  · obtain ⟨n, hn⟩ : ∃ n, l.length = n + 1 := ⟨l.length - 1, by cases l with | nil => exact absurd rfl hne | cons a b => simp⟩
    obtain ⟨g, rfl, hu1, hu2, hu3, hcell⟩ := hu.at n (by omega)
    obtain ⟨x, HX⟩ : ∃ x, Hid (l.getD n 0 = x) := ⟨_, rfl⟩
    have hx := Dig.getD (by omega) dl n
    rw [HX.out] at hcell hx
    obtain ⟨hx0, hx1⟩ := hx
    have hF := format_any x hx0 hx1 w ht
    have HN : Hid (l.length = n + 1) := hn
    have hn2 : n < 10000000 := by omega
    have hn3 : n + 1 ≤ uc := by omega
    have hd0 : Hid (0 < ev 1000000000 (l.drop n) ∧ Lib.decDigits (ev 1000000000 (l.drop n)).toNat = Lib.decDigits x.toNat) := by
      have hxl : l.drop n = [x] := by
        rw [List.drop_eq_getElem_cons (by omega), ← getD_lt (by omega), HX.out, List.drop_of_length_le (by omega)]
      have hx2 : x ≠ 0 := tl x (by rw [← List.take_append_drop n l, hxl]; simp)
      rw [hxl]
      simp only [ev]
      exact ⟨by omega, by simp⟩
    rw [hn]
    clear hn hl
    go_enter Tryd.func35, Tryd.ntmps35
    go_wp2_with fail
    refine hF.mono ?_
    rintro e w1 ⟨rfl, hb1⟩
    have hnd : (Lib.decDigits x.toNat).length ≤ 9 := by rw [Lib.decDigits_length]; exact nDigits_le9 x hx1
    go_wp2_with fail
    go_loopw [4, 5] (fun t i wr => ∃ (k : Nat) (d : List UInt8), k ≤ n ∧ i = .int .i64 ((k : Int) - 1) ∧ t = .string ⟨d.toArray⟩ ∧ d.length + 9 * k ≤ 9 * (n + 1) ∧ Hid (0 < ev 1000000000 (l.drop k) ∧ Lib.decDigits (ev 1000000000 (l.drop k)).toNat = d) ∧ Below w.heap.size w wr) (fun _ i _ => (intOf i + 1).toNat)
    case atStart => exact ⟨n, _, Nat.le_refl _, rfl, rfl, by omega, hd0, hb1⟩
    case round =>
      obtain ⟨k, d, hk, rfl, rfl, hdl, HE, hbel⟩ := hrel
      cases k with
      | zero =>
        have hd : d = D := by
          have := HE.out.2
          rw [List.drop_zero, HD.out] at this
          exact this.symm
        subst hd
        clear HE HD hd0
        go_wp2
        go_ret
        exact ⟨rfl, hbel⟩
      | succ j =>
        rw [show (((j + 1 : Nat) : Int) - 1) = (j : Int) by omega]
        obtain ⟨g', hgg, _, _, _, hcj⟩ := hu.at j (by have := HN.out; omega)
        simp at hgg
        subst hgg
        obtain ⟨y, HY⟩ : ∃ y, Hid (l.getD j 0 = y) := ⟨_, rfl⟩
        have hy := Dig.getD (by omega) dl j
        rw [HY.out] at hcj hy
        obtain ⟨hy0, hy1⟩ := hy
        have hcj' : wr.cell? ⟨g, j, none⟩ = some (.int .i64 y) := (hbel.cell (by exact hu3)).trans hcj
        have hP := padded_any y hy0 hy1 wr (ht.below hbel)
        have hst : Hid (0 < ev 1000000000 (l.drop j) ∧ Lib.decDigits (ev 1000000000 (l.drop j)).toNat = d ++ padk 9 y.toNat) := by
          have hjl : j < l.length := by have := HN.out; omega
          obtain ⟨h1, h2⟩ := HE.out
          rw [List.drop_eq_getElem_cons hjl, ← getD_lt hjl, HY.out]
          simp only [ev]
          exact ⟨by omega, by rw [dec_limb _ _ h1 hy0 hy1, h2]⟩
        have hpl : (padk 9 y.toNat).length = 9 := by simp [padk]
        generalize padk 9 y.toNat = pd at *
        clear hcell hcj HE HY HD hd0
        go_wp2_with fail
        refine hP.mono ?_
        rintro e w2 ⟨rfl, hb2⟩
        go_wp2_with fail
        rw [str_app]
        go_roundw
        case rel => exact ⟨j, d ++ pd, by omega, rfl, rfl, by simp; omega, hst, hbel.trans (hb2.mono hbel.size)⟩
        case measure => simp [intOf]

set_option maxHeartbeats 1000000 in
/-- whole.Int.Digits: how many. -/
theorem intDigits_any (u : Value) (z : Int) (w : World) (hu : IsI w u z) (f : Fit z) (ht : Tab w) :
    Calls Tryd.prog 27 #[u] w fun e w' => e = .returned (.int .i64 (Lib.nDigits z.natAbs : Int)) ∧ Below w.heap.size w w' := by
  obtain ⟨b, x, l, rfl, hx, h1⟩ := hu
  have hl := h1.len f
  obtain ⟨ua, uc, rfl⟩ := hx.val
  have hz : z.natAbs = (ev 1000000000 l).toNat := by
    have h2 := natAbs_sv b h1.nonneg
    rw [← h1.val] at h2
    omega
  rw [hz, ← Lib.decDigits_length]
  have hd := dec_len h1.dig
  have hD := fun (W : World) (g1 : Row W (.slice ua l.length uc) l) (g2 : Tab W) => digits_any l _ W g1 hl h1.dig h1.trim g2
  generalize Lib.decDigits (ev 1000000000 l).toNat = d at *
  have HDD : Hid _ := hD
  clear hD hz
  go_enter Tryd.func27, Tryd.ntmps27
  go_wp2_with fail
  have hb0 : Below w.heap.size w (w.alloc (Obj.cells #[Value.bool b, Value.slice ua l.length uc] 43)) := (Below.refl _ _).alloc (Nat.le_refl _) _
  refine (HDD.out _ (hx.below hb0) (ht.below hb0)).mono ?_
  rintro e w1 ⟨rfl, hb1⟩
  go_wp2
  go_ret
  exact ⟨rfl, hb0.trans (hb1.mono hb0.size)⟩

set_option maxHeartbeats 1000000 in
/-- whole.Int.Text. -/
theorem intText_any (u : Value) (z : Int) (w : World) (hu : IsI w u z) (f : Fit z) (ht : Tab w) :
    Calls Tryd.prog 28 #[u] w fun e w' => e = .returned (.string ⟨(Lib.itoa z).toArray⟩) ∧ Below w.heap.size w w' := by
  obtain ⟨b, x, l, rfl, hx, h1⟩ := hu
  have hl := h1.len f
  obtain ⟨ua, uc, rfl⟩ := hx.val
  have hz : Lib.itoa z = if b then 45 :: Lib.decDigits (ev 1000000000 l).toNat else Lib.decDigits (ev 1000000000 l).toNat := by
    have h0 := h1.nonneg
    cases b with
    | true =>
      have h3 := ev_ne h1.dig h1.trim (h1.neg rfl)
      rw [h1.val]; unfold Lib.itoa sv
      rw [if_pos rfl, if_pos (by omega), if_pos rfl]
      congr 2; omega
    | false =>
      rw [h1.val]; show Lib.itoa (ev 1000000000 l) = _
      rw [itoa_nonneg h0]; rfl
  rw [hz]
  have hd := dec_len h1.dig
  have hD := fun (W : World) (g1 : Row W (.slice ua l.length uc) l) (g2 : Tab W) => digits_any l _ W g1 hl h1.dig h1.trim g2
  generalize Lib.decDigits (ev 1000000000 l).toNat = d at *
  have HDD : Hid _ := hD
  clear hD hz
  cases b
  all_goals
    go_enter Tryd.func28, Tryd.ntmps28
    go_wp2_with fail
    generalize hW : w.alloc (Obj.cells #[Value.bool _, Value.slice ua l.length uc] 43) = W0
    obtain ⟨hb0, X0⟩ := one_new hW
    clear hW
    refine (HDD.out _ (hx.below hb0) (ht.below hb0)).mono ?_
    rintro e w1 ⟨rfl, hb1⟩
    have r0 := (X0.below hb1).c0
    go_wp2
    go_ret
    exact ⟨by first | rfl | exact congrArg (fun s => Ending.returned (.string s)) (str_app [45] d), hb0.trans (hb1.mono hb0.size)⟩

end Go.Proofs.YtldcjkhbiffdoabDoor
