import Derived.Test.YtldcjkhbiffdoabGreatDoorCShelf
import Derived.Test.YtldcjkhbiffdoabGreatDoorM09
import Derived.Test.YtldcjkhbiffdoabGreatDoorM00
import Derived.Deep.CutRange

namespace Go.Proofs.YtldcjkhbiffdoabGreatDoor
open Go.RowKit

def Tab (w : World) : Prop := Lib.TabIs Tryz.prog w "internal/strconv.uint64pow10" .u64 Lib.pow10Tab ∧ ∃ g, Tryz.prog.globalNamed "internal/strconv.uint64pow10" = some g ∧ g < w.heap.size

theorem Tab.later {B : Nat} {w w' : World} (h : Tab w) (hb : Below B w w') (hB : w.heap.size ≤ B) : Tab w' := by
  obtain ⟨h1, g, h2, h3⟩ := h
  exact ⟨var?_below hb h2 (Nat.lt_of_lt_of_le h3 hB) h1, g, h2, Nat.lt_of_lt_of_le h3 hb.size⟩
theorem Tab.below {w w' : World} (h : Tab w) (hb : Below w.heap.size w w') : Tab w' := h.later hb (Nat.le_refl _)

theorem below_grow (w : World) (k : Nat) (os : Array Obj) : Below w.heap.size w (Sort.grow (w.drewN k) os) :=
  ⟨rfl, rfl, rfl, by simp [Sort.grow, World.drewN], fun i hi => by show (w.heap ++ os)[i]? = _; rw [Array.getElem?_append_left hi]⟩

theorem format_any (n : Int) (h0 : 0 ≤ n) (h1 : n < 1000000000) (w : World) (ht : Tab w) :
    Calls Tryz.prog 101 #[.int .i64 n, .int .i64 10] w fun e w' => e = .returned (.string ⟨(Lib.decDigits n.toNat).toArray⟩) ∧ Below w.heap.size w w' := by
  refine (Tryz.strconv_FormatInt_10 n (by omega) (by omega) w ht.1).mono ?_
  rintro e w' ⟨rfl, k, os, rfl⟩
  exact ⟨by rw [itoa_nonneg h0], below_grow w k os⟩

set_option maxHeartbeats 1000000 in
theorem padded_any (n : Int) (h0 : 0 ≤ n) (h1 : n < 1000000000) (w : World) (ht : Tab w) :
    Calls Tryz.prog 102 #[.int .i64 n] w fun e w' => e = .returned (.string ⟨(padk 9 n.toNat).toArray⟩) ∧ Below w.heap.size w w' := by
  have hF := format_any n h0 h1 w ht
  rw [← pad9 n h0 h1]
  have hlen := Lib.decDigits_length n.toNat
  have h9 := nDigits_le9 n h1
  rw [← hlen] at h9 ⊢
  clear hlen
  generalize Lib.decDigits n.toNat = d at *
  go_enter Tryz.func102, Tryz.ntmps102
  go_wp2_with fail
  refine hF.mono ?_
  rintro e w1 ⟨rfl, hb1⟩
  go_wp2_with fail
  go_loop [3] (fun t => ∃ q : Nat, q + d.length ≤ 9 ∧ t = .string ⟨(List.replicate q 48 ++ d).toArray⟩) (fun t => match t with | .string s => 9 - s.size | _ => 0)
  case atStart => exact ⟨0, by omega, rfl⟩
  case round =>
    obtain ⟨q, hq, rfl⟩ := hrel
    by_cases hlt : q + d.length < 9
    · go_wp2
      have he : ((⟨#[48]⟩ : ByteArray) ++ ⟨(List.replicate q 48 ++ d).toArray⟩) = ⟨(List.replicate (q + 1) 48 ++ d).toArray⟩ := str_app [48] _
      rw [he]
      go_round
      case rel => exact ⟨q + 1, by omega, rfl⟩
      case measure => simp [ByteArray.size]; omega
    · obtain rfl : q = 9 - d.length := by omega
      go_wp2
      go_ret
      exact ⟨rfl, hb1⟩

set_option maxHeartbeats 1000000 in
theorem digits_any (l : List Int) (u : Value) (w : World) (hu : Row w u l) (hl : l.length ≤ 10000000) (dl : Dig 1000000000 l) (tl : Trim l) (ht : Tab w) :
    Calls Tryz.prog 75 #[u] w fun e w' => e = .returned (.string ⟨(Lib.decDigits (ev 1000000000 l).toNat).toArray⟩) ∧ Below w.heap.size w w' := by
  obtain ⟨ua, uc, rfl⟩ := hu.val
  obtain ⟨D, HD⟩ : ∃ D, Hid (Lib.decDigits (ev 1000000000 l).toNat = D) := ⟨_, rfl⟩
  rw [HD.out]
  by_cases hne : l = []
  · subst hne
    have hD : D = [48] := by rw [← HD.out]; simp [ev, Lib.decDigits_one]
    subst hD
    clear HD
    go_enter Tryz.func75, Tryz.ntmps75
    go_wp2
    go_ret
    exact ⟨rfl, Below.refl _ _⟩
  · obtain ⟨n, hn⟩ : ∃ n, l.length = n + 1 := ⟨l.length - 1, by cases l with | nil => exact absurd rfl hne | cons a b => simp⟩
    obtain ⟨g, rfl, hu1, hu2, hu3, hcell⟩ := hu.at n (by omega)
    obtain ⟨x, HX⟩ : ∃ x, Hid (l.getD n 0 = x) := ⟨_, rfl⟩
    have hx := Dig.getD (by omega) dl n
    rw [HX.out] at hcell hx
    obtain ⟨hx0, hx1⟩ := hx
    have hF := format_any x hx0 hx1 w ht
    have HN : Hid (l.length = n + 1) := hn
    have hn2 : n < 10000000 := by omega
    have hn3 : n + 1 ≤ uc := by omega
    have hd0 : Hid (0 < ev 1000000000 (l.drop n) ∧ Lib.decDigits (ev 1000000000 (l.drop n)).toNat = Lib.decDigits x.toNat) := by
      have hxl : l.drop n = [x] := by
        rw [List.drop_eq_getElem_cons (by omega), ← getD_lt (by omega), HX.out, List.drop_of_length_le (by omega)]
      have hx2 : x ≠ 0 := tl x (by rw [← List.take_append_drop n l, hxl]; simp)
      rw [hxl]
      simp only [ev]
      exact ⟨by omega, by simp⟩
    rw [hn]
    clear hn hl
    go_enter Tryz.func75, Tryz.ntmps75
    go_wp2_with fail
    refine hF.mono ?_
    rintro e w1 ⟨rfl, hb1⟩
    have hnd : (Lib.decDigits x.toNat).length ≤ 9 := by rw [Lib.decDigits_length]; exact nDigits_le9 x hx1
    go_wp2_with fail
    go_loopw [4, 5] (fun t i wr => ∃ (k : Nat) (d : List UInt8), k ≤ n ∧ i = .int .i64 ((k : Int) - 1) ∧ t = .string ⟨d.toArray⟩ ∧ d.length + 9 * k ≤ 9 * (n + 1) ∧ Hid (0 < ev 1000000000 (l.drop k) ∧ Lib.decDigits (ev 1000000000 (l.drop k)).toNat = d) ∧ Below w.heap.size w wr) (fun _ i _ => (intOf i + 1).toNat)
    case atStart => exact ⟨n, _, Nat.le_refl _, rfl, rfl, by omega, hd0, hb1⟩
    case round =>
      obtain ⟨k, d, hk, rfl, rfl, hdl, HE, hbel⟩ := hrel
      cases k with
      | zero =>
        have hd : d = D := by
          have := HE.out.2
          rw [List.drop_zero, HD.out] at this
          exact this.symm
        subst hd
        clear HE HD hd0
        go_wp2
        go_ret
        exact ⟨rfl, hbel⟩
      | succ j =>
        rw [show (((j + 1 : Nat) : Int) - 1) = (j : Int) by omega]
        obtain ⟨g', hgg, _, _, _, hcj⟩ := hu.at j (by have := HN.out; omega)
        simp at hgg
        subst hgg
        obtain ⟨y, HY⟩ : ∃ y, Hid (l.getD j 0 = y) := ⟨_, rfl⟩
        have hy := Dig.getD (by omega) dl j
        rw [HY.out] at hcj hy
        obtain ⟨hy0, hy1⟩ := hy
        have hcj' : wr.cell? ⟨g, j, none⟩ = some (.int .i64 y) := (hbel.cell (by exact hu3)).trans hcj
        have hP := padded_any y hy0 hy1 wr (ht.below hbel)
        have hst : Hid (0 < ev 1000000000 (l.drop j) ∧ Lib.decDigits (ev 1000000000 (l.drop j)).toNat = d ++ padk 9 y.toNat) := by
          have hjl : j < l.length := by have := HN.out; omega
          obtain ⟨h1, h2⟩ := HE.out
          rw [List.drop_eq_getElem_cons hjl, ← getD_lt hjl, HY.out]
          simp only [ev]
          exact ⟨by omega, by rw [dec_limb _ _ h1 hy0 hy1, h2]⟩
        have hpl : (padk 9 y.toNat).length = 9 := by simp [padk]
        generalize padk 9 y.toNat = pd at *
        clear hcell hcj HE HY HD hd0
        go_wp2_with fail
        refine hP.mono ?_
        rintro e w2 ⟨rfl, hb2⟩
        go_wp2_with fail
        rw [str_app]
        go_roundw
        case rel => exact ⟨j, d ++ pd, by omega, rfl, rfl, by simp; omega, hst, hbel.trans (hb2.mono hbel.size)⟩
        case measure => simp [intOf]

set_option maxHeartbeats 1000000 in
theorem intDigits_any (u : Value) (z : Int) (w : World) (hu : IsI w u z) (f : Fit z) (ht : Tab w) :
    Calls Tryz.prog 76 #[u] w fun e w' => e = .returned (.int .i64 (Lib.nDigits z.natAbs : Int)) ∧ Below w.heap.size w w' := by
  obtain ⟨b, x, l, rfl, hx, h1⟩ := hu
  have hl := h1.len f
  obtain ⟨ua, uc, rfl⟩ := hx.val
  have hz : z.natAbs = (ev 1000000000 l).toNat := by
    have h2 := natAbs_sv b h1.nonneg
    rw [← h1.val] at h2
    omega
  rw [hz, ← Lib.decDigits_length]
  have hd := dec_len h1.dig
  have hD := fun (W : World) (g1 : Row W (.slice ua l.length uc) l) (g2 : Tab W) => digits_any l _ W g1 hl h1.dig h1.trim g2
  generalize Lib.decDigits (ev 1000000000 l).toNat = d at *
  have HDD : Hid _ := hD
  clear hD hz
  go_enter Tryz.func76, Tryz.ntmps76
  go_wp2_with fail
  have hb0 : Below w.heap.size w (w.alloc (Obj.cells #[Value.bool b, Value.slice ua l.length uc] 70)) := (Below.refl _ _).alloc (Nat.le_refl _) _
  refine (HDD.out _ (hx.below hb0) (ht.below hb0)).mono ?_
  rintro e w1 ⟨rfl, hb1⟩
  go_wp2
  go_ret
  exact ⟨rfl, hb0.trans (hb1.mono hb0.size)⟩

set_option maxHeartbeats 1000000 in
theorem intText_any (u : Value) (z : Int) (w : World) (hu : IsI w u z) (f : Fit z) (ht : Tab w) :
    Calls Tryz.prog 43 #[u] w fun e w' => e = .returned (.string ⟨(Lib.itoa z).toArray⟩) ∧ Below w.heap.size w w' := by
  obtain ⟨b, x, l, rfl, hx, h1⟩ := hu
  have hl := h1.len f
  obtain ⟨ua, uc, rfl⟩ := hx.val
  have hz : Lib.itoa z = if b then 45 :: Lib.decDigits (ev 1000000000 l).toNat else Lib.decDigits (ev 1000000000 l).toNat := by
    have h0 := h1.nonneg
    cases b with
    | true =>
      have h3 := ev_ne h1.dig h1.trim (h1.neg rfl)
      rw [h1.val]; unfold Lib.itoa sv
      rw [if_pos rfl, if_pos (by omega), if_pos rfl]
      congr 2; omega
    | false =>
      rw [h1.val]; show Lib.itoa (ev 1000000000 l) = _
      rw [itoa_nonneg h0]; rfl
  rw [hz]
  have hd := dec_len h1.dig
  have hD := fun (W : World) (g1 : Row W (.slice ua l.length uc) l) (g2 : Tab W) => digits_any l _ W g1 hl h1.dig h1.trim g2
  generalize Lib.decDigits (ev 1000000000 l).toNat = d at *
  have HDD : Hid _ := hD
  clear hD hz
  cases b
  all_goals
    go_enter Tryz.func43, Tryz.ntmps43
    go_wp2_with fail
    generalize hW : w.alloc (Obj.cells #[Value.bool _, Value.slice ua l.length uc] 70) = W0
    obtain ⟨hb0, X0⟩ := one_new hW
    clear hW
    refine (HDD.out _ (hx.below hb0) (ht.below hb0)).mono ?_
    rintro e w1 ⟨rfl, hb1⟩
    have r0 := (X0.below hb1).c0
    go_wp2
    go_ret
    exact ⟨by first | rfl | exact congrArg (fun s => Ending.returned (.string s)) (str_app [45] d), hb0.trans (hb1.mono hb0.size)⟩

end Go.Proofs.YtldcjkhbiffdoabGreatDoor

namespace Go.Proofs.YtldcjkhbiffdoabGreatDoor
open Go.RowKit

def flat : List (Bool × Value) → List Value
  | [] => []
  | p :: l => .bool p.1 :: p.2 :: flat l

theorem flat_append (a b : List (Bool × Value)) : flat (a ++ b) = flat a ++ flat b := by
  induction a with
  | nil => rfl
  | cons p a ih => simp [flat, ih]

theorem flat_length (a : List (Bool × Value)) : (flat a).length = a.length * 2 := by
  induction a with
  | nil => rfl
  | cons p a ih => simp [flat, ih]; omega

theorem flat_at : ∀ (a : List (Bool × Value)) (i : Nat) (p : Bool × Value), a[i]? = some p → (flat a)[i * 2]? = some (.bool p.1) ∧ (flat a)[i * 2 + 1]? = some p.2
  | [], i, p, h => by simp at h
  | q :: a, 0, p, h => by simp at h; subst h; simp [flat]
  | q :: a, i + 1, p, h => by
    have := flat_at a i p (by simpa using h)
    rw [show (i + 1) * 2 = i * 2 + 1 + 1 by omega]
    simpa [flat] using this

def vOf (p : Bool × Value) : Value := .agg #[.bool p.1, p.2]

def OwnL (B : Nat) (w : World) (v : Value) (zs : List Int) : Prop :=
  ∃ cs : List (Bool × Value), cs.length = zs.length ∧ w.ownsRow B 70 2 v zs.length (flat cs) ∧ ∀ i p, cs[i]? = some p → IsI w (vOf p) (zs.getD i 0)

def IsL (w : World) (v : Value) (zs : List Int) : Prop := OwnL 0 w v zs

theorem OwnL.isL {B : Nat} {w : World} {v : Value} {zs : List Int} (h : OwnL B w v zs) : IsL w v zs := by
  obtain ⟨cs, h1, h2, h3⟩ := h
  refine ⟨cs, h1, ⟨h2.1, ?_⟩, h3⟩
  rcases h2.2 with h | ⟨g, cap, cur, hv, _, r⟩
  · exact .inl h
  · exact .inr ⟨g, cap, cur, hv, Nat.zero_le _, r⟩

theorem OwnL.lower {B C : Nat} {w : World} {v : Value} {zs : List Int} (h : OwnL B w v zs) (hC : C ≤ B) : OwnL C w v zs := by
  obtain ⟨cs, h1, h2, h3⟩ := h
  refine ⟨cs, h1, ⟨h2.1, ?_⟩, h3⟩
  rcases h2.2 with h | ⟨g, cap, cur, hv, hb, r⟩
  · exact .inl h
  · exact .inr ⟨g, cap, cur, hv, Nat.le_trans hC hb, r⟩

theorem OwnL.block {B : Nat} {w : World} {v : Value} {zs : List Int} (h : OwnL B w v zs) : ∀ k, v.ownBlock = some k → B ≤ k := by
  obtain ⟨cs, h1, h2, h3⟩ := h
  exact fun k hk => (World.ownsRow.lt h2 k hk).1

theorem OwnL.below {B : Nat} {w w' : World} {v : Value} {zs : List Int} (h : OwnL B w v zs) (hb : Below w.heap.size w w') : OwnL B w' v zs := by
  obtain ⟨cs, h1, h2, h3⟩ := h
  refine ⟨cs, h1, ⟨h2.1, ?_⟩, fun i p hp => (h3 i p hp).below hb⟩
  rcases h2.2 with h | ⟨g, cap, cur, hv, hB, hg, r⟩
  · exact .inl h
  · exact .inr ⟨g, cap, cur, hv, hB, by rw [hb.block g (Array.getElem?_eq_some_iff.1 hg).1]; exact hg, r⟩

theorem OwnL.val {B : Nat} {w : World} {v : Value} {zs : List Int} (h : OwnL B w v zs) : ∃ a c, v = .slice a zs.length c := by
  obtain ⟨cs, h1, h2, h3⟩ := h
  rcases h2.2 with ⟨h, h'⟩ | ⟨g, cap, cur, hv, _⟩
  · exact ⟨none, 0, by rw [h']; exact h⟩
  · exact ⟨_, _, hv⟩

theorem OwnL.at {B : Nat} {w : World} {a : Option Addr} {c : Nat} {zs : List Int} (h : OwnL B w (.slice a zs.length c) zs) (i : Nat) (hi : i < zs.length) :
    ∃ g b xa xn xc, a = some ⟨g, 0, none⟩ ∧ zs.length ≤ c ∧ c ≤ maxLen ∧ g < w.heap.size ∧ B ≤ g ∧ w.cell? ⟨g, i * 2, none⟩ = some (.bool b) ∧ w.cell? ⟨g, i * 2 + 1, none⟩ = some (.slice xa xn xc) ∧ IsI w (.agg #[.bool b, .slice xa xn xc]) (zs.getD i 0) := by
  obtain ⟨cs, h1, h2, h3⟩ := h
  rcases h2.2 with ⟨_, h'⟩ | ⟨g, cap, cur, hv, hB, hg, hnc, hcm, _⟩
  · omega
  · simp only [Value.slice.injEq, true_and] at hv
    obtain ⟨rfl, rfl⟩ := hv
    have hp : cs[i]? = some cs[i] := List.getElem?_eq_getElem (by omega)
    obtain ⟨e1, e2⟩ := flat_at cs i _ hp
    have hI := h3 i _ hp
    obtain ⟨xa, xn, xc, hx⟩ : ∃ xa xn xc, cs[i].2 = .slice xa xn xc := by
      obtain ⟨b', x', l, e, hr, _⟩ := hI
      obtain ⟨xa, xc, hx⟩ := hr.val
      simp [vOf] at e
      exact ⟨xa, _, xc, e.2.trans hx⟩
    unfold vOf at hI
    rw [hx] at hI e2
    refine ⟨g, cs[i].1, xa, xn, xc, rfl, hnc, hcm, (Array.getElem?_eq_some_iff.1 hg).1, hB, ?_, ?_, hI⟩
    · rw [h2.cellAt (i * 2) (by omega)]; exact e1
    · rw [h2.cellAt (i * 2 + 1) (by omega)]; exact e2

theorem OwnL.lit {w : World} {n : Nat} (h : w.heap.size = n) : OwnL n (w.alloc (.cells #[] 70)) (.slice (some ⟨n, 0, none⟩) 0 0) [] := by
  subst h
  exact ⟨[], rfl, World.ownsRow_made w #[] 0 (Nat.le_refl _) (by simp [maxLen]) rfl, fun i p hp => by simp at hp⟩

theorem Tryz.infoInt : (Tryz.prog.info? 70).map (fun i => (i.zero, i.size, i.bytes)) = some (some (.agg #[.bool false, .slice none 0 0]), 2, 32) := by kernel_rfl
theorem Tryz.sliceInt : Tryz.prog.underlying 65 = some (.slice 70) := by kernel_rfl

theorem IsI.kept {w w' : World} {v : Value} {z : Int} {g : Option Nat} (h : IsI w v z) (hg : w.grownBy w' g) (ht : ∀ k, g = some k → ∃ cur, w.heap[k]? = some (.cells cur 70 (0, 0))) : IsI w' v z := by
  obtain ⟨b, x, l, h1, h2, h3⟩ := h
  refine ⟨b, x, l, h1, World.ownsRow.kept h2 hg ?_, h3⟩
  rcases h2.2 with ⟨hn, _⟩ | ⟨k, cap, cur, hv, _, hk, _⟩
  · left; rw [hn]; rfl
  · right
    rw [hv]
    show some k ≠ g
    intro e
    obtain ⟨cur', hc⟩ := ht k e.symm
    rw [hk] at hc
    simp at hc

theorem OwnL.typ {B : Nat} {w : World} {v : Value} {zs : List Int} (h : OwnL B w v zs) : ∀ k, v.ownBlock = some k → ∃ cur, w.heap[k]? = some (.cells cur 70 (0, 0)) := by
  obtain ⟨cs, h1, h2, h3⟩ := h
  intro k hk
  rcases h2.2 with ⟨hn, _⟩ | ⟨g, cap, cur, hv, _, hg, _⟩
  · rw [hn] at hk; simp [Value.ownBlock] at hk
  · rw [hv] at hk; simp [Value.ownBlock] at hk; subst hk; exact ⟨cur, hg⟩

theorem wpList_pushI {ops : Array Oper} {rest : List Oper} {o : Oper} {a : Act} {Q : Exit → Act → World → Prop} {wr : World} (hgd : o.guard = none) (s x : Operand)
    (ho : o.op = .call { callee := .builtin .append, args := #[s, x], argTypes := #[65, 65] })
    (B : Nat) (v : Value) (zs : List Int) (b : Bool) (y : Value) (z : Int) (hs : a.eval s = v) (hown : OwnL B wr v zs) (hz : IsI wr (.agg #[.bool b, y]) z) (hx : a.eval x = .slice (some ⟨wr.heap.size, 0, none⟩) 1 1)
    (hlen : zs.length ≤ 1000000000) (hB : B ≤ wr.heap.size)
    (h : ∀ v' w', OwnL B w' v' (zs ++ [z]) → Below B wr w' → wr.grownBy w' v.ownBlock → wpList Tryz.prog ops Q rest (a.put o.dst v') w') :
    wpList Tryz.prog ops Q (o :: rest) a (wr.alloc (.cells #[.bool b, y] 70)) := by
  obtain ⟨i, hi, hz0, hz1, hz2⟩ := info_parts Tryz.infoInt
  have htyp := hown.typ
  have hblk := hown.block
  obtain ⟨cs, h1, h2, h3⟩ := hown
  have hy1 : y.oneCell' = true := by
    obtain ⟨b', x', l, e, hr, _⟩ := hz
    simp at e
    obtain ⟨_, rfl⟩ := e
    obtain ⟨xa, xc, rfl⟩ := hr.val
    rfl
  refine wpList_append_own _ hgd s x 65 ho B 70 i (.agg #[.bool false, .slice none 0 0]) 2 32 Tryz.sliceInt hi hz0 hz1 hz2 rfl (by decide) v zs.length (flat cs) hs (World.ownsRow.alloc h2 _) ⟨wr.heap.size, 0, none⟩ 1 1 [.bool b, y] hx rfl ?_ ?_ ?_ ?_ ?_ ?_
  · exact cell_two_new wr (.bool b) y 70
  · intro u hu
    simp at hu
    rcases hu with rfl | rfl
    · rfl
    · exact hy1
  · unfold maxLen; omega
  · omega
  · simp; omega
  · intro v' w' g1 g2 _
    have hg : wr.grownBy w' v.ownBlock := by
      have h0 := World.grownBy_alloc wr (.cells #[.bool b, y] 70) v.ownBlock
      exact ⟨g2.os.trans h0.os, g2.tape.trans h0.tape, g2.output.trans h0.output, Nat.le_trans h0.size g2.size, fun k hk hne => (g2.block k (by simp; omega) hne).trans (h0.block k hk hne)⟩
    refine h v' w' ⟨cs ++ [(b, y)], by simp [h1], ?_, ?_⟩ ((Below.refl _ _).grown hg hB hblk) hg
    · rw [flat_append]
      simpa [flat] using g1
    · intro j p hj
      by_cases hjl : j < cs.length
      · rw [List.getElem?_append_left hjl] at hj
        have hj2 : (zs ++ [z]).getD j 0 = zs.getD j 0 := by simp [List.getD, List.getElem?_append_left (show j < zs.length by omega)]
        rw [hj2]
        exact (h3 j p hj).kept hg htyp
      · rw [List.getElem?_append_right (by omega)] at hj
        have hj0 : j - cs.length = 0 := by
          rcases Nat.eq_zero_or_pos (j - cs.length) with h0 | h0
          · exact h0
          · rw [List.getElem?_eq_none (by simp; omega)] at hj; simp at hj
        rw [hj0] at hj
        simp at hj
        subst hj
        have hj2 : (zs ++ [z]).getD j 0 = z := by
          rw [show j = zs.length by omega]; simp [List.getD]
        rw [hj2]
        exact hz.kept hg htyp

end Go.Proofs.YtldcjkhbiffdoabGreatDoor

namespace Go.Proofs.YtldcjkhbiffdoabGreatDoor
open Go.RowKit

set_option maxHeartbeats 1000000 in
theorem ptrimmed_any (zs : List Int) (v : Value) (w : World) (hv : IsL w v zs) (hl : zs.length ≤ 1000000) (hf : ∀ i, i < zs.length → Fit (zs.getD i 0)) :
    Calls Tryz.prog 74 #[v] w fun e w' => ∃ x, e = .returned x ∧ OwnL w.heap.size w' x (tz zs) ∧ Below w.heap.size w w' := by
  obtain ⟨va, vc, rfl⟩ := OwnL.val hv
  obtain ⟨n, HN⟩ : ∃ n, Hid (tzn zs zs.length = n) := ⟨_, rfl⟩
  unfold tz
  rw [HN.out]
  go_enter Tryz.func74, Tryz.ntmps74
  go_wp2_with fail
  go_loopw [3] (fun c wr => ∃ (k : Nat), k ≤ zs.length ∧ c = .int .i64 k ∧ Hid (tzn zs k = n) ∧ Below w.heap.size w wr) (fun c _ => (intOf c).toNat)
  case atStart => exact ⟨zs.length, Nat.le_refl _, rfl, HN, Below.refl _ _⟩
  case round =>
    obtain ⟨k, hk, rfl, HT, hbel⟩ := hrel
    cases k with
    | zero =>
      have hn : n = 0 := HT.out.symm
      subst hn
      go_wp2_with fail
      refine wp_loop_rounds 1 ?_; rw [rounds_succ]
      go_wp2
      go_ret
      refine ⟨_, rfl, ?_, hbel.alloc hbel.size _⟩
      have := OwnL.lit (w := wr) rfl
      exact (OwnL.lower this hbel.size)
    | succ j =>
      obtain ⟨g, b, xa, xn, xc, rfl, hc1, hc2, hg, _, hc0, hcx, hI⟩ := OwnL.at (OwnL.below hv hbel) j (by omega)
      obtain ⟨z, HZ⟩ : ∃ z, Hid (zs.getD j 0 = z) := ⟨_, rfl⟩
      rw [HZ.out] at hI
      have hfz := hf j (by omega)
      rw [HZ.out] at hfz
      have hS := sign_any _ z wr hI hfz
      have hsz : (z = 0 ∧ sgn3 z = 0) ∨ (z ≠ 0 ∧ (sgn3 z == 0) = false) := by
        unfold sgn3
        rcases (show z = 0 ∨ z < 0 ∨ 0 < z by omega) with h | h | h
        · left; subst h; simp
        · right; exact ⟨by omega, by rw [if_pos h]; rfl⟩
        · right; exact ⟨by omega, by rw [if_neg (by omega), if_neg (by omega)]; rfl⟩
      generalize sgn3 z = sz at *
      rcases hsz with ⟨hz0, rfl⟩ | ⟨hz0, hsz⟩
      · have HT2 : Hid (tzn zs j = n) := by
          have := HT.out
          rw [tzn, if_pos (by rw [HZ.out]; exact hz0)] at this
          exact this
        clear HT HZ hz0
        go_wp2_with fail
        refine hS.mono ?_
        rintro e w1 ⟨rfl, hb1⟩
        go_wp2_with fail
        go_roundw
        case rel => exact ⟨j, by omega, by go_num, HT2, hbel.trans (hb1.mono hbel.size)⟩
        case measure => simp [intOf]
      · have hn : n = j + 1 := by
          have := HT.out
          rw [tzn, if_neg (by rw [HZ.out]; exact hz0)] at this
          exact this.symm
        subst hn
        clear HT HZ hz0
        go_wp2_with fail
        refine hS.mono ?_
        rintro e w1 ⟨rfl, hb1⟩
        have hbw := hbel.trans (hb1.mono hbel.size)
        have hszw := hbw.size
        go_wp2_with fail
        go_loopw [4, 5] (fun s i wq => ∃ (k : Nat), k ≤ j + 1 ∧ i = .int .i64 k ∧ OwnL w1.heap.size wq s (zs.take k) ∧ Below w1.heap.size w1 wq) (fun _ i _ => j + 1 - (intOf i).toNat)
        case atStart => exact ⟨0, Nat.zero_le _, rfl, OwnL.lit rfl, (Below.refl _ _).alloc (Nat.le_refl _) _⟩
        case round =>
          clear hc0 hcx hS
          obtain ⟨k, hk2, rfl, hown, hbel2⟩ := hrel
          have hbq : Below w.heap.size w wr := hbw.trans (hbel2.mono hbw.size)
          by_cases hlt : k < j + 1
          · obtain ⟨g', b', ya, yn, yc, hgg, _, _, hg', _, hc0, hcx, hIk⟩ := OwnL.at (OwnL.below hv hbq) k (by omega)
            simp at hgg
            subst hgg
            obtain ⟨z2, HZ2⟩ : ∃ z2, Hid (zs.getD k 0 = z2) := ⟨_, rfl⟩
            rw [HZ2.out] at hIk
            have htk : zs.take (k + 1) = zs.take k ++ [z2] := by
              rw [List.take_succ_eq_append_getElem (by omega), ← getD_lt (by omega), HZ2.out]
            have HTK : Hid _ := htk
            clear htk HZ2
            go_wp2_with (at_builtin; refine wpList_pushI rfl (.tmp 27) (.tmp 32) rfl w1.heap.size _ (zs.take k) _ _ z2 rfl hown hIk rfl (by rw [List.length_take]; omega) hbel2.size ?_)
            intro v' w3 hown3 hb3 _
            rw [← HTK.out] at hown3
            go_wp2
            go_roundw
            case rel => exact ⟨k + 1, by omega, by go_num, hown3, hbel2.trans hb3⟩
            case measure => simp [intOf]; omega
          · obtain rfl : k = j + 1 := by omega
            obtain ⟨sa, sc, hsl⟩ := hown.val
            subst hsl
            go_wp2
            go_ret
            exact ⟨_, rfl, OwnL.lower hown hszw, hbq⟩

end Go.Proofs.YtldcjkhbiffdoabGreatDoor

namespace Go.Proofs.YtldcjkhbiffdoabGreatDoor
open Go.RowKit

def okD (z : Int) : Bool := decide (Lib.nDigits z.natAbs ≤ 12)
def inB (l : List Int) : Bool := decide (l.length ≤ 11) && l.all okD

def IsP (w : World) (p : Value) (zs : List Int) : Prop := ∃ k v, p = .pointer (some ⟨k, 0, none⟩) ∧ w.heap[k]? = some (.cells #[v] 67 (0, 0)) ∧ IsL w v zs

theorem IsP.below {w w' : World} {p : Value} {zs : List Int} (h : IsP w p zs) (hb : Below w.heap.size w w') : IsP w' p zs := by
  obtain ⟨k, v, h1, h2, h3⟩ := h
  exact ⟨k, v, h1, by rw [hb.block k (lt_of_block h2)]; exact h2, OwnL.below h3 hb⟩

def Bounded (w' : World) (t : List Int) (e : Ending) : Prop :=
  (inB t = true ∧ ∃ p, e = .returned (.tuple #[p, .int .i64 0]) ∧ IsP w' p t) ∨ (inB t = false ∧ e = .returned (.tuple #[.pointer none, .int .i64 3]))

set_option maxHeartbeats 1000000 in
theorem bounded_any (zs : List Int) (v : Value) (w : World) (hv : IsL w v zs) (hl : zs.length ≤ 1000000) (hf : ∀ i, i < zs.length → Fit (zs.getD i 0)) (ht : Tab w) :
    Calls Tryz.prog 44 #[v] w fun e w' => Bounded w' (tz zs) e ∧ Below w.heap.size w w' := by
  obtain ⟨va, vc, rfl⟩ := OwnL.val hv
  have hT := ptrimmed_any zs _ w hv hl hf
  have hft : ∀ i, i < (tz zs).length → Fit ((tz zs).getD i 0) := by
    intro i hi
    rw [tz_getD]
    have := tzn_le zs zs.length
    rw [tz_length] at hi
    exact hf i (by omega)
  have htl : (tz zs).length ≤ 1000000 := by
    have := tzn_le zs zs.length
    rw [tz_length]; omega
  generalize tz zs = t at *
  clear hv hf hl
  go_enter Tryz.func44, Tryz.ntmps44
  go_wp2_with fail
  refine hT.mono ?_
  rintro e w1 ⟨x, rfl, hown, hb1⟩
  clear hT
  obtain ⟨ta, tc, rfl⟩ := hown.val
  by_cases h11 : 11 < t.length
  · go_wp2
    go_ret2
    refine ⟨.inr ⟨?_, rfl⟩, hb1⟩
    unfold inB
    rw [decide_eq_false (by omega)]; rfl
  · go_wp2_with fail
    go_loopw [5] (fun i wr => ∃ (k : Nat), k ≤ t.length ∧ i = .int .i64 k ∧ Hid ((t.take k).all okD = true) ∧ Below w1.heap.size w1 wr) (fun i _ => t.length - (intOf i).toNat)
    case atStart => exact ⟨0, Nat.zero_le _, rfl, rfl, Below.refl _ _⟩
    case round =>
      obtain ⟨k, hk, rfl, HA, hbel⟩ := hrel
      have hbq : Below w.heap.size w wr := hb1.trans (hbel.mono hb1.size)
      by_cases hlt : k < t.length
      · obtain ⟨g, b, ya, yn, yc, rfl, hc1, hc2, hg, _, hc0, hcx, hIk⟩ := OwnL.at (OwnL.below hown hbel) k hlt
        have hf2 := hft k hlt
        obtain ⟨z2, HZ2⟩ : ∃ z2, Hid (t.getD k 0 = z2) := ⟨_, rfl⟩
        rw [HZ2.out] at hIk hf2
        have hD := intDigits_any _ z2 wr hIk hf2 (ht.below hbq)
        have htk : t.take (k + 1) = t.take k ++ [z2] := by
          rw [List.take_succ_eq_append_getElem hlt, ← getD_lt hlt, HZ2.out]
        by_cases hd12 : Lib.nDigits z2.natAbs ≤ 12
        · have HA2 : Hid ((t.take (k + 1)).all okD = true) := by
            rw [htk, List.all_append, HA.out]
            show (true && [z2].all okD) = true
            simp [okD, hd12]
          clear htk HA HZ2
          generalize Lib.nDigits z2.natAbs = nd at *
          go_wp2_with fail
          refine hD.mono ?_
          rintro e w2 ⟨rfl, hb2⟩
          go_wp2
          go_roundw
          case rel => exact ⟨k + 1, by omega, by go_num, HA2, hbel.trans (hb2.mono hbel.size)⟩
          case measure => simp [intOf]; omega
        · have hno : inB t = false := by
            unfold inB
            rw [Bool.and_eq_false_iff]
            right
            rw [List.all_eq_false]
            refine ⟨z2, ?_, by simp [okD, hd12]⟩
            rw [← HZ2.out, getD_lt hlt]
            exact List.getElem_mem hlt
          have HNO : Hid _ := hno
          clear htk HA HZ2 hno
          generalize Lib.nDigits z2.natAbs = nd at *
          go_wp2_with fail
          refine hD.mono ?_
          rintro e w2 ⟨rfl, hb2⟩
          go_wp2
          go_ret2
          exact ⟨.inr ⟨HNO.out, rfl⟩, hbq.trans (hb2.mono hbq.size)⟩
      · obtain rfl : k = t.length := by omega
        have hyes : Hid (inB t = true) := by
          have := HA.out
          rw [List.take_length] at this
          unfold inB
          rw [this, decide_eq_true (by omega)]; rfl
        clear HA
        have hownr := OwnL.below hown hbel
        go_wp2
        go_ret2
        refine ⟨.inl ⟨hyes.out, _, rfl, _, _, rfl, heap_alloc_new wr _, ?_⟩, hbq.alloc hbq.size _⟩
        exact (hownr.below ((Below.refl _ _).alloc (Nat.le_refl _) _)).isL

end Go.Proofs.YtldcjkhbiffdoabGreatDoor

namespace Go.Proofs.YtldcjkhbiffdoabGreatDoor
open Go.RowKit

def signT (neg first : Bool) : List UInt8 := if first then (if neg then [45] else []) else (if neg then [32, 45, 32] else [32, 43, 32])

set_option maxHeartbeats 400000 in
theorem signText_any (s : Int) (first : Bool) (w : World) :
    Calls Tryz.prog 61 #[.int .i64 s, .bool first] w fun e w' => e = .returned (.string ⟨(signT (decide (s < 0)) first).toArray⟩) ∧ w' = w := by
  by_cases hs : s < 0
  · rw [decide_eq_true hs]
    cases first
    all_goals
      go_enter Tryz.func61, Tryz.ntmps61
      go_wp2
      go_ret
      exact ⟨rfl, rfl⟩
  · rw [decide_eq_false hs]
    cases first
    all_goals
      go_enter Tryz.func61, Tryz.ntmps61
      go_wp2
      go_ret
      exact ⟨rfl, rfl⟩

def varT (k : Nat) : List UInt8 := if 1 < k then [120, 94] ++ Lib.decDigits k else [120]
def termT (n k : Nat) : List UInt8 :=
  if k = 0 then Lib.decDigits n else if Lib.decDigits n = [49] then varT k else Lib.decDigits n ++ [42] ++ varT k

set_option maxHeartbeats 1000000 in
theorem termText_any (v : Value) (n k : Nat) (w : World) (hv : IsI w v (n : Int)) (hf : Fit (n : Int)) (hk : k < 100) (hd : (Lib.decDigits n).length ≤ 1000) (ht : Tab w) :
    Calls Tryz.prog 59 #[v, .int .i64 k] w fun e w' => e = .returned (.string ⟨(termT n k).toArray⟩) ∧ Below w.heap.size w w' := by
  obtain ⟨b, x, l, rfl, hx, h1⟩ := id hv
  obtain ⟨xa, xc, rfl⟩ := hx.val
  have hT := fun (W : World) (g : IsI W (.agg #[.bool b, .slice xa l.length xc]) (n : Int)) (g2 : Tab W) => intText_any _ (n : Int) W g hf g2
  have hi : Lib.itoa (n : Int) = Lib.decDigits n := by rw [itoa_nonneg (by omega)]; simp
  rw [hi] at hT
  have hK := fun (W : World) => Tryz.strconv_Itoa_small k hk W
  have hkl : (Lib.decDigits k).length ≤ 2 := by rw [Lib.decDigits_length]; exact nDigits_le (by omega) (by omega)
  unfold termT varT
  generalize Lib.decDigits n = d at *
  generalize Lib.decDigits k = dk at *
  have HT : Hid _ := hT
  have HK : Hid _ := hK
  clear hT hK hi
  by_cases hk0 : k = 0
  · subst hk0
    rw [if_pos rfl]
    go_enter Tryz.func59, Tryz.ntmps59
    go_wp2_with fail
    generalize hW : w.alloc (Obj.cells #[Value.bool b, Value.slice xa l.length xc] 70) = W0
    obtain ⟨hb0, X0⟩ := one_new hW
    clear hW
    refine (HT.out W0 (hv.below hb0) (ht.below hb0)).mono ?_
    rintro e w1 ⟨rfl, hb1⟩
    go_wp2
    go_ret
    exact ⟨rfl, hb0.trans (hb1.mono hb0.size)⟩
  · rw [if_neg hk0]
    have hk0' : ((k : Int) == 0) = false := by simp [hk0]
    by_cases hd1 : d = [49]
    · subst hd1
      rw [if_pos rfl]
      by_cases hk1 : 1 < k
      · rw [if_pos hk1]
        go_enter Tryz.func59, Tryz.ntmps59
        go_wp2_with fail
        generalize hW : w.alloc (Obj.cells #[Value.bool b, Value.slice xa l.length xc] 70) = W0
        obtain ⟨hb0, X0⟩ := one_new hW
        clear hW
        refine (HT.out W0 (hv.below hb0) (ht.below hb0)).mono ?_
        rintro e w1 ⟨rfl, hb1⟩
        go_wp2_with fail
        refine (HK.out _).mono ?_
        rintro e w2 ⟨rfl, rfl⟩
        go_wp2
        go_ret
        exact ⟨congrArg (fun s => Ending.returned (.string s)) (str_app [120, 94] dk), hb0.trans (hb1.mono hb0.size)⟩
      · rw [if_neg hk1]
        go_enter Tryz.func59, Tryz.ntmps59
        go_wp2_with fail
        generalize hW : w.alloc (Obj.cells #[Value.bool b, Value.slice xa l.length xc] 70) = W0
        obtain ⟨hb0, X0⟩ := one_new hW
        clear hW
        refine (HT.out W0 (hv.below hb0) (ht.below hb0)).mono ?_
        rintro e w1 ⟨rfl, hb1⟩
        go_wp2
        go_ret
        exact ⟨rfl, hb0.trans (hb1.mono hb0.size)⟩
    · rw [if_neg hd1]
      have hdb : (d == [49]) = false := by simp [hd1]
      by_cases hk1 : 1 < k
      · rw [if_pos hk1]
        go_enter Tryz.func59, Tryz.ntmps59
        go_wp2_with fail
        generalize hW : w.alloc (Obj.cells #[Value.bool b, Value.slice xa l.length xc] 70) = W0
        obtain ⟨hb0, X0⟩ := one_new hW
        clear hW
        refine (HT.out W0 (hv.below hb0) (ht.below hb0)).mono ?_
        rintro e w1 ⟨rfl, hb1⟩
        go_wp2_with fail
        refine (HK.out _).mono ?_
        rintro e w2 ⟨rfl, rfl⟩
        go_wp2
        go_ret
        exact ⟨congrArg (fun s => Ending.returned (.string s)) (by rw [← str_app, ← str_app]; congr 1), hb0.trans (hb1.mono hb0.size)⟩
      · rw [if_neg hk1]
        go_enter Tryz.func59, Tryz.ntmps59
        go_wp2_with fail
        generalize hW : w.alloc (Obj.cells #[Value.bool b, Value.slice xa l.length xc] 70) = W0
        obtain ⟨hb0, X0⟩ := one_new hW
        clear hW
        refine (HT.out W0 (hv.below hb0) (ht.below hb0)).mono ?_
        rintro e w1 ⟨rfl, hb1⟩
        go_wp2
        go_ret
        exact ⟨congrArg (fun s => Ending.returned (.string s)) (by rw [← str_app, ← str_app]), hb0.trans (hb1.mono hb0.size)⟩

end Go.Proofs.YtldcjkhbiffdoabGreatDoor

namespace Go.Proofs.YtldcjkhbiffdoabGreatDoor
open Go.RowKit

def stepT (t : List UInt8) (c : Int) (k : Nat) : List UInt8 := if c = 0 then t else t ++ signT (decide (c < 0)) t.isEmpty ++ termT c.natAbs k

def ptm (zs : List Int) (n : Nat) : Nat → List UInt8
  | 0 => []
  | m + 1 => stepT (ptm zs n m) (zs.getD (n - 1 - m) 0) (n - 1 - m)

def ptext (zs : List Int) : List UInt8 := if ptm zs zs.length zs.length = [] then [48] else ptm zs zs.length zs.length

theorem signT_len (a b : Bool) : (signT a b).length ≤ 3 := by cases a <;> cases b <;> simp [signT]
theorem varT_len {k : Nat} (hk : k < 100) : (varT k).length ≤ 4 := by
  unfold varT
  split
  · have : (Lib.decDigits k).length ≤ 2 := by rw [Lib.decDigits_length]; exact nDigits_le (by omega) (by omega)
    simp; omega
  · simp
theorem termT_lenW {n k : Nat} (hk : k < 100) (hn : Lib.nDigits n ≤ 30) : (termT n k).length ≤ 35 := by
  have h1 := varT_len hk
  have h2 := Lib.decDigits_length n
  unfold termT
  split
  · omega
  · split
    · omega
    · simp; omega
theorem stepT_lenW {t : List UInt8} {c : Int} {k : Nat} (hk : k < 100) (hn : Lib.nDigits c.natAbs ≤ 30) : (stepT t c k).length ≤ t.length + 40 := by
  have h1 := termT_lenW (n := c.natAbs) hk hn
  have h2 := signT_len (decide (c < 0)) t.isEmpty
  unfold stepT
  split
  · omega
  · simp; omega

theorem fit_of_digits {z : Int} (h : Lib.nDigits z.natAbs ≤ 30) : Fit z := by
  refine ⟨30, by omega, ?_⟩
  have h1 := Lib.lt_pow_nDigits z.natAbs
  have h2 : 10 ^ Lib.nDigits z.natAbs ≤ 10 ^ 30 := Nat.pow_le_pow_right (by omega) h
  have h3 : 10 ^ 30 ≤ 1000000000 ^ 30 := Nat.pow_le_pow_left (by omega) 30
  omega

theorem inB_at {zs : List Int} (h : inB zs = true) {i : Nat} (hi : i < zs.length) : Lib.nDigits (zs.getD i 0).natAbs ≤ 12 := by
  unfold inB at h
  rw [Bool.and_eq_true, List.all_eq_true] at h
  have := h.2 _ (List.getElem_mem hi)
  rw [getD_lt hi]
  simpa [okD] using this
theorem inB_len {zs : List Int} (h : inB zs = true) : zs.length ≤ 11 := by
  unfold inB at h
  rw [Bool.and_eq_true] at h
  simpa using h.1

set_option maxHeartbeats 1000000 in
theorem textOf_all (zs : List Int) (v : Value) (w : World) (hv : IsL w v zs) (hl : zs.length ≤ 11) (hB : ∀ i, i < zs.length → Lib.nDigits (zs.getD i 0).natAbs ≤ 30) (ht : Tab w) :
    Calls Tryz.prog 36 #[v] w fun e w' => e = .returned (.string ⟨(ptext zs).toArray⟩) ∧ Below w.heap.size w w' := by
  obtain ⟨va, vc, rfl⟩ := OwnL.val hv
  have HB : Hid _ := hB
  clear hB
  obtain ⟨T, HTX⟩ : ∃ T, Hid (ptext zs = T) := ⟨_, rfl⟩
  rw [HTX.out]
  go_enter Tryz.func36, Tryz.ntmps36
  go_wp2_with fail
  go_loopw [3, 4] (fun t i wr => ∃ (k m : Nat) (d : List UInt8), k + m = zs.length ∧ i = .int .i64 ((k : Int) - 1) ∧ t = .string ⟨d.toArray⟩ ∧ d.length ≤ 40 * m ∧ Hid (ptm zs zs.length m = d) ∧ Below w.heap.size w wr) (fun _ i _ => (intOf i + 1).toNat)
  case atStart => exact ⟨zs.length, 0, [], by omega, rfl, rfl, by simp, rfl, Below.refl _ _⟩
  case round =>
    obtain ⟨k, m, d, hkm, rfl, rfl, hdl, HE, hbel⟩ := hrel
    cases k with
    | zero =>
      obtain rfl : m = zs.length := by omega
      have hT : T = if d = [] then [48] else d := by
        rw [← HTX.out]; unfold ptext; rw [HE.out]
      by_cases hd : d = []
      · subst hd
        rw [if_pos rfl] at hT
        subst hT
        clear HE HTX
        go_wp2
        go_ret
        exact ⟨rfl, hbel⟩
      · rw [if_neg hd] at hT
        subst hT
        have hdb : T.isEmpty = false := by cases T with | nil => exact absurd rfl hd | cons a b => rfl
        clear HE HTX
        go_wp2
        go_ret
        exact ⟨rfl, hbel⟩
    | succ j =>
      rw [show (((j + 1 : Nat) : Int) - 1) = (j : Int) by omega]
      have hjm : zs.length - 1 - m = j := by omega
      obtain ⟨g, b, xa, xn, xc, rfl, hc1, hc2, hg, _, hc0, hcx, hI⟩ := OwnL.at (OwnL.below hv hbel) j (by omega)
      obtain ⟨z, HZ⟩ : ∃ z, Hid (zs.getD j 0 = z) := ⟨_, rfl⟩
      have hnd := HB.out j (show j < zs.length by omega)
      rw [HZ.out] at hI hnd
      have hfz := fit_of_digits hnd
      have hstep : Hid (ptm zs zs.length (m + 1) = stepT d z j) := by
        show stepT (ptm zs zs.length m) (zs.getD (zs.length - 1 - m) 0) (zs.length - 1 - m) = _
        rw [hjm, HE.out, HZ.out]
      have hsl := stepT_lenW (t := d) (c := z) (k := j) (by omega) hnd
      have hS := sign_any _ z wr hI hfz
      by_cases hz : z = 0
      · subst hz
        have hS' : sgn3 0 = 0 := rfl
        rw [hS'] at hS
        have hs2 : stepT d 0 j = d := by simp [stepT]
        rw [hs2] at hstep hsl
        clear HE HZ hs2 hS' hjm
        go_wp2_with fail
        refine hS.mono ?_
        rintro e w1 ⟨rfl, hb1⟩
        go_wp2_with fail
        go_roundw
        case rel => exact ⟨j, m + 1, d, by omega, rfl, rfl, by omega, hstep, hbel.trans (hb1.mono hbel.size)⟩
        case measure => simp [intOf]
      · have hsz : (sgn3 z == 0) = false := by
          unfold sgn3
          rcases (show z < 0 ∨ 0 < z by omega) with h | h
          · rw [if_pos h]; rfl
          · rw [if_neg (by omega), if_neg (by omega)]; rfl
        have hneg : decide (sgn3 z < 0) = decide (z < 0) := by
          unfold sgn3
          rcases (show z < 0 ∨ 0 < z by omega) with h | h
          · rw [if_pos h]; simp [h]
          · rw [if_neg (by omega), if_neg (by omega)]; simp; omega
        have hA := fun (W : World) (g : IsI W (.agg #[.bool b, .slice xa xn xc]) z) => abs_any _ z W g hfz
        have hnl : (Lib.decDigits z.natAbs).length ≤ 1000 := by rw [Lib.decDigits_length]; omega
        have hT := fun (W : World) (u : Value) (g : IsI W u (z.natAbs : Int)) (g2 : Tab W) => termText_any u z.natAbs j W g (fit_of_digits (by simpa using hnd)) (by omega) hnl g2
        have hG := fun (W : World) => signText_any (sgn3 z) d.isEmpty W
        have hst2 : stepT d z j = d ++ signT (decide (z < 0)) d.isEmpty ++ termT z.natAbs j := by unfold stepT; rw [if_neg hz]
        rw [hst2] at hstep hsl
        rw [hneg] at hG
        generalize sgn3 z = sz at *
        have hgl := signT_len (decide (z < 0)) d.isEmpty
        have htl := termT_lenW (n := z.natAbs) (k := j) (by omega) hnd
        generalize signT (decide (z < 0)) d.isEmpty = sg at *
        generalize termT z.natAbs j = tt at *
        have HA : Hid _ := hA
        have HT : Hid _ := hT
        have HG : Hid _ := hG
        clear hA hT hG hneg hst2 HE HZ hjm hnl
        go_wp2_with fail
        refine hS.mono ?_
        rintro e w1 ⟨rfl, hb1⟩
        have hc0' : w1.cell? ⟨g, j * 2, none⟩ = _ := (hb1.cell (by exact hg)).trans hc0
        have hcx' : w1.cell? ⟨g, j * 2 + 1, none⟩ = _ := (hb1.cell (by exact hg)).trans hcx
        clear hc0 hcx
        go_wp2_with fail
        refine (HA.out _ (hI.below hb1)).mono ?_
        rintro e w2 ⟨u, rfl, hu, hb2⟩
        have hbw2 := (hbel.trans (hb1.mono hbel.size)).trans (hb2.mono (Nat.le_trans hbel.size hb1.size))
        go_wp2_with fail
        refine (HT.out w2 u hu (ht.below hbw2)).mono ?_
        rintro e w3 ⟨rfl, hb3⟩
        go_wp2_with fail
        refine (HG.out w3).mono ?_
        rintro e w4 ⟨rfl, rfl⟩
        go_wp2_with fail
        rw [str_app, str_app]
        go_roundw
        case rel => exact ⟨j, m + 1, d ++ sg ++ tt, by omega, rfl, rfl, by omega, hstep, hbw2.trans (hb3.mono hbw2.size)⟩
        case measure => simp [intOf]

theorem textOf_any (zs : List Int) (v : Value) (w : World) (hv : IsL w v zs) (hB : inB zs = true) (ht : Tab w) :
    Calls Tryz.prog 36 #[v] w fun e w' => e = .returned (.string ⟨(ptext zs).toArray⟩) ∧ Below w.heap.size w w' :=
  textOf_all zs v w hv (inB_len hB) (fun _ hi => Nat.le_trans (inB_at hB hi) (by omega)) ht

set_option maxHeartbeats 400000 in
theorem polyText_any (zs : List Int) (p : Value) (w : World) (hp : IsP w p zs) (hB : inB zs = true) (ht : Tab w) :
    Calls Tryz.prog 17 #[p] w fun e w' => e = .returned (.string ⟨(ptext zs).toArray⟩) ∧ Below w.heap.size w w' := by
  obtain ⟨k, v, rfl, hk, hv⟩ := hp
  have hT := textOf_any zs v w hv hB ht
  have hc := cell_of_one hk
  obtain ⟨va, vc, rfl⟩ := OwnL.val hv
  generalize ptext zs = T at *
  clear hk hB
  go_enter Tryz.func17, Tryz.ntmps17
  go_wp2_with fail
  refine hT.mono ?_
  rintro e w1 ⟨rfl, hb1⟩
  go_wp2
  go_ret
  exact ⟨rfl, hb1⟩

end Go.Proofs.YtldcjkhbiffdoabGreatDoor

namespace Go.Proofs.YtldcjkhbiffdoabGreatDoor
open Go.RowKit

def Rd (w : World) (rb : Nat) (s : ByteArray) (n : Nat) (tv : Value) : Prop := w.heap[rb]? = some (.cells #[.string s, .int .i64 (n : Int), tv] 61 (0, 0))

theorem Rd.c0 {w : World} {rb n : Nat} {s : ByteArray} {tv : Value} (h : Rd w rb s n tv) : w.cell? ⟨rb, 0, none⟩ = some (.string s) := by unfold Rd at h; simp [World.cell?, h]
theorem Rd.c1 {w : World} {rb n : Nat} {s : ByteArray} {tv : Value} (h : Rd w rb s n tv) : w.cell? ⟨rb, 1, none⟩ = some (.int .i64 (n : Int)) := by unfold Rd at h; simp [World.cell?, h]
theorem Rd.c2 {w : World} {rb n : Nat} {s : ByteArray} {tv : Value} (h : Rd w rb s n tv) : w.cell? ⟨rb, 2, none⟩ = some tv := by unfold Rd at h; simp [World.cell?, h]
theorem Rd.f1 {w : World} {rb n : Nat} {s : ByteArray} {tv : Value} (h : Rd w rb s n tv) (o : Nat) : w.frozen? ⟨rb, o, none⟩ = false := by unfold Rd at h; simp [World.frozen?, h]
theorem Rd.lt {w : World} {rb n : Nat} {s : ByteArray} {tv : Value} (h : Rd w rb s n tv) : rb < w.heap.size := lt_of_block h
theorem Rd.set1 {w : World} {rb n : Nat} {s : ByteArray} {tv : Value} (h : Rd w rb s n tv) {m : Int} {m' : Nat} (hm : m = m') : Rd (w.setCell ⟨rb, 1, none⟩ (.int .i64 m)) rb s m' tv := by
  subst hm
  unfold Rd at h ⊢
  rw [heap_setCell_same w rb 1 _ _ _ h]; rfl
theorem Rd.set2 {w : World} {rb n : Nat} {s : ByteArray} {tv : Value} (h : Rd w rb s n tv) (tv' : Value) : Rd (w.setCell ⟨rb, 2, none⟩ tv') rb s n tv' := by
  unfold Rd at h ⊢
  rw [heap_setCell_same w rb 2 _ _ _ h]; rfl
theorem Rd.below {w w' : World} {rb n : Nat} {s : ByteArray} {tv : Value} (h : Rd w rb s n tv) (hb : Below w.heap.size w w') : Rd w' rb s n tv := by unfold Rd; rw [hb.block rb h.lt]; exact h

structure Kg (X : TypeId → Prop) (B : Nat) (w w' : World) : Prop where
  bel : Below B w w'
  keep : ∀ (k : Nat) (c : Array Value) (e : TypeId) (f : Nat × Nat), w.heap[k]? = some (Obj.cells c e f) → ¬ X e → w'.heap[k]? = some (Obj.cells c e f)

def isR (e : TypeId) : Prop := e = 61
def isRT (e : TypeId) : Prop := e = 61 ∨ e = 90
abbrev Kr := Kg isR
abbrev Kp := Kg isRT
def Okx (X : TypeId → Prop) : Prop := ¬ X 2 ∧ ¬ X 70
theorem okR : Okx isR := by unfold Okx isR; decide
theorem okRT : Okx isRT := by unfold Okx isRT; decide
theorem Kg.kp {B : Nat} {w w' : World} (h : Kr B w w') : Kp B w w' := ⟨h.bel, fun k c e f h0 h1 => h.keep k c e f h0 (fun e0 => h1 (.inl e0))⟩

section
variable {X : TypeId → Prop}
theorem Kg.refl (B : Nat) (w : World) : Kg X B w w := ⟨Below.refl _ _, fun _ _ _ _ h _ => h⟩
theorem Kg.trans {B : Nat} {a b c : World} (h : Kg X B a b) (k : Kg X B b c) : Kg X B a c := ⟨h.bel.trans k.bel, fun i x e f h0 h1 => k.keep i x e f (h.keep i x e f h0 h1) h1⟩
theorem Kg.of {B : Nat} {w w' : World} (h : Below w.heap.size w w') (hB : B ≤ w.heap.size) : Kg X B w w' := ⟨h.mono hB, fun k c e f h0 _ => by rw [h.block k (lt_of_block h0)]; exact h0⟩
theorem Kg.step {B : Nat} {a w w' : World} (h : Kg X B a w) (hb : Below w.heap.size w w') (hB : B ≤ a.heap.size) : Kg X B a w' := h.trans (Kg.of hb (Nat.le_trans hB h.bel.size))
theorem Kg.drewN {B : Nat} {a w : World} (h : Kg X B a w) (n : Nat) : Kg X B a (w.drewN n) := ⟨below_drewN h.bel n, h.keep⟩
theorem Kg.drew {B : Nat} {a w : World} (h : Kg X B a w) : Kg X B a w.drew := ⟨h.bel.drew, h.keep⟩

theorem Kg.set {B : Nat} {a w : World} (h : Kg X B a w) {k o : Nat} {v : Value} (hB : B ≤ k) (hk : ∃ (c : Array Value) (e : TypeId) (f : Nat × Nat), w.heap[k]? = some (Obj.cells c e f) ∧ X e) : Kg X B a (w.setCell ⟨k, o, none⟩ v) := by
  refine ⟨h.bel.setCell hB v, fun i c e f h0 h1 => ?_⟩
  have h3 := h.keep i c e f h0 h1
  obtain ⟨c', e', f', hk', he⟩ := hk
  have : i ≠ k := by
    intro e0
    subst e0
    rw [h3] at hk'
    simp at hk'
    obtain ⟨_, rfl, _⟩ := hk'
    exact h1 he
  rw [Below.heap_setCell _ _ _ _ this]
  exact h3
theorem Kg.setNew {B : Nat} {a w : World} (h : Kg X B a w) {k o : Nat} {v : Value} (hB : B ≤ a.heap.size) (hk : a.heap.size ≤ k) : Kg X B a (w.setCell ⟨k, o, none⟩ v) := by
  refine ⟨h.bel.setCell (Nat.le_trans hB hk) v, fun i c e f h0 h1 => ?_⟩
  have h3 := h.keep i c e f h0 h1
  have hi := lt_of_block h0
  rw [Below.heap_setCell _ _ _ _ (by show i ≠ k; omega)]
  exact h3

theorem Row.kp {B : Nat} {w w' : World} {v : Value} {l : List Int} (h : Row w v l) (hk : Kg X B w w') (hX : Okx X := by first | exact okR | exact okRT) : Row w' v l := by
  refine ⟨h.1, ?_⟩
  rcases h.2 with h1 | ⟨g, cap, cur, hv, hb0, hg, r⟩
  · exact .inl h1
  · exact .inr ⟨g, cap, cur, hv, hb0, hk.keep g _ _ _ hg hX.1, r⟩
theorem IsI.kp {B : Nat} {w w' : World} {v : Value} {z : Int} (h : IsI w v z) (hk : Kg X B w w') (hX : Okx X := by first | exact okR | exact okRT) : IsI w' v z := by
  obtain ⟨b, x, l, h1, h2, h3⟩ := h
  exact ⟨b, x, l, h1, h2.kp hk hX, h3⟩
theorem Bx.kp {B : Nat} {w w' : World} {k : Nat} {a b : Value} (h : Bx w k a b) (hk : Kg X B w w') (hX : Okx X := by first | exact okR | exact okRT) : Bx w' k a b := hk.keep k _ _ _ h hX.2
end

theorem Rd.typ {X : TypeId → Prop} {w : World} {rb n : Nat} {s : ByteArray} {tv : Value} (h : Rd w rb s n tv) (hX : X 61 := by first | exact rfl | exact Or.inl rfl) : ∃ (c : Array Value) (e : TypeId) (f : Nat × Nat), w.heap[rb]? = some (Obj.cells c e f) ∧ X e := ⟨_, _, _, h, hX⟩

theorem byte_at {s : ByteArray} {k : Nat} (h : k < s.size) : s.data.toList[k]? = some s[k] := by
  rw [List.getElem?_eq_getElem (by simpa using h)]; rfl
theorem byte_none {s : ByteArray} {k : Nat} (h : ¬ k < s.size) : s.data.toList[k]? = none := List.getElem?_eq_none (by simpa using h)

def rdAt (rb : Nat) (w : World) : Nat := match w.cell? ⟨rb, 1, none⟩ with
  | some (.int _ q) => q.toNat
  | _ => 0
theorem Rd.at {w : World} {rb n : Nat} {s : ByteArray} {tv : Value} (h : Rd w rb s n tv) : rdAt rb w = n := by unfold rdAt; rw [h.c1]; simp

theorem toList_len (s : ByteArray) : s.data.toList.length = s.size := by rw [Array.length_toList]; rfl

set_option maxHeartbeats 1000000 in
theorem skip_any (s : ByteArray) (n rb : Nat) (tv : Value) (w : World) (B : Nat) (hR : Rd w rb s n tv) (hn : n ≤ s.size) (hs : s.size ≤ 200) (hB : B ≤ rb) :
    Calls Tryz.prog 55 #[.pointer (some ⟨rb, 0, none⟩)] w fun e w' => e = .returned (.tuple #[]) ∧ Rd w' rb s (skp s.data.toList n) tv ∧ Kr B w w' := by
  go_enter Tryz.func55, Tryz.ntmps55
  go_wp2_with fail
  go_loopw [] (fun wr => ∃ k : Nat, k ≤ s.size ∧ Rd wr rb s k tv ∧ Hid (skp s.data.toList k = skp s.data.toList n) ∧ Kr B w wr) (fun wr => s.size - rdAt rb wr)
  case atStart => exact ⟨n, hn, hR, rfl, Kg.refl _ _⟩
  case round =>
    obtain ⟨k, hk, hRk, HE, hKp⟩ := hrel
    have c0 := hRk.c0; have c1 := hRk.c1; have f1 := hRk.f1 1
    by_cases hlt : k < s.size
    · have hki : (k : Int) < (s.size : Int) := by omega
      by_cases hb : s[k] = 32
      · have hbb : ((s[k].toNat : Int) == 32) = true := by rw [hb]; rfl
        go_wp2_with fail
        go_quiet (fail)
        go_wp2
        have hRn : Rd (wr.drewN nq) rb s k tv := hRk
        have hR2 : Rd ((wr.drewN nq).setCell ⟨rb, 1, none⟩ (.int .i64 ((k : Int) + 1))) rb s (k + 1) tv := hRn.set1 (by omega)
        refine ⟨⟨k + 1, by omega, hR2, ?_, (hKp.drewN nq).set hB hRn.typ⟩, ?_⟩
        · have h1 := HE.out
          rw [skp_step (by rw [byte_at hlt, hb])] at h1
          exact h1
        · rw [hR2.at, hRk.at]; omega
      · have hbb : ((s[k].toNat : Int) == 32) = false := by
          simp only [beq_eq_false_iff_ne, ne_eq]
          intro h
          exact hb (UInt8.toNat_inj.1 (by have : (32 : UInt8).toNat = 32 := rfl; omega))
        have hsk : skp s.data.toList n = k := by
          rw [← HE.out]; exact skp_stop (by rw [byte_at hlt]; intro h; exact hb (Option.some.inj h))
        go_wp2_with fail
        go_quiet (fail)
        go_wp2
        go_end0
        exact ⟨rfl, by rw [hsk]; exact hRk, hKp.drewN nq⟩
    · have hd : decide ((k : Int) < (s.size : Int)) = false := by simp; omega
      have hsk : skp s.data.toList n = k := by
        rw [← HE.out]; exact skp_stop (by rw [byte_none hlt]; simp)
      go_wp2_with fail
      go_quiet (fail)
      go_wp2
      go_end0
      exact ⟨rfl, by rw [hsk]; exact hRk, hKp.drewN nq⟩

set_option maxHeartbeats 1000000 in
theorem take_any (s : ByteArray) (n rb : Nat) (tv : Value) (c : UInt8) (ci : Int) (hc : ci = (c.toNat : Int)) (w : World) (B : Nat) (hR : Rd w rb s n tv) (hn : n ≤ s.size) (hs : s.size ≤ 200) (hB : B ≤ rb) :
    Calls Tryz.prog 53 #[.pointer (some ⟨rb, 0, none⟩), .int .u8 ci] w fun e w' => e = .returned (.bool (tak s.data.toList c n).1) ∧ Rd w' rb s (tak s.data.toList c n).2 tv ∧ Kr B w w' := by
  have hS := skip_any s n rb tv w B hR hn hs hB
  have hsl := skp_le (l := s.data.toList) (n := n) (by simpa using hn)
  unfold tak
  have hl := toList_len s
  rw [hl] at hsl
  generalize skp s.data.toList n = k at *
  subst hc
  by_cases hlt : k < s.size
  · by_cases hb : s[k] = c
    · rw [if_pos (by rw [byte_at hlt, hb])]
      have hbb : ((s[k].toNat : Int) != (c.toNat : Int)) = false := by rw [hb]; simp
      have hki : (k : Int) < (s.size : Int) := by omega
      have hd : decide ((s.size : Int) ≤ (k : Int)) = false := by simp; omega
      go_enter Tryz.func53, Tryz.ntmps53
      go_wp2_with fail
      refine hS.mono ?_
      rintro e w1 ⟨rfl, hR1, hK1⟩
      have c0 := hR1.c0; have c1 := hR1.c1; have f1 := hR1.f1 1
      go_wp2_with fail
      go_quiet (fail)
      go_wp2
      go_ret
      have hRn : Rd (w1.drewN nq) rb s k tv := hR1
      exact ⟨rfl, hRn.set1 (by omega), (hK1.drewN nq).set hB hRn.typ⟩
    · rw [if_neg (by rw [byte_at hlt]; intro h; exact hb (Option.some.inj h))]
      have hbb : ((s[k].toNat : Int) != (c.toNat : Int)) = true := by
        rw [bne_iff_ne]
        intro h
        exact hb (UInt8.toNat_inj.1 (by omega))
      have hki : (k : Int) < (s.size : Int) := by omega
      have hd : decide ((s.size : Int) ≤ (k : Int)) = false := by simp; omega
      go_enter Tryz.func53, Tryz.ntmps53
      go_wp2_with fail
      refine hS.mono ?_
      rintro e w1 ⟨rfl, hR1, hK1⟩
      have c0 := hR1.c0; have c1 := hR1.c1; have f1 := hR1.f1 1
      go_wp2_with fail
      go_quiet (fail)
      go_wp2
      go_ret
      exact ⟨rfl, hR1, hK1.drewN nq⟩
  · rw [if_neg (by rw [byte_none hlt]; simp)]
    have hd : decide ((s.size : Int) ≤ (k : Int)) = true := by simp; omega
    go_enter Tryz.func53, Tryz.ntmps53
    go_wp2_with fail
    refine hS.mono ?_
    rintro e w1 ⟨rfl, hR1, hK1⟩
    have c0 := hR1.c0; have c1 := hR1.c1
    go_wp2_with fail
    go_quiet (fail)
    go_wp2
    go_ret
    exact ⟨rfl, hR1, hK1.drewN nq⟩

end Go.Proofs.YtldcjkhbiffdoabGreatDoor

namespace Go.Proofs.YtldcjkhbiffdoabGreatDoor
open Go.RowKit

theorem fit_nat {n k : Nat} (h : n < 10 ^ k) (hk : k ≤ 10000000) : Fit (n : Int) := by
  refine ⟨k, hk, ?_⟩
  have h3 : 10 ^ k ≤ 1000000000 ^ k := Nat.pow_le_pow_left (by omega) k
  have : ((n : Int)).natAbs = n := by simp
  omega

def IsB (w : World) (k : Nat) (z : Int) : Prop := ∃ b x, Bx w k (.bool b) x ∧ IsI w (.agg #[.bool b, x]) z

theorem IsB.open {w : World} {k : Nat} {z : Int} (h : IsB w k z) : ∃ b xa xn xc, Bx w k (.bool b) (.slice xa xn xc) ∧ IsI w (.agg #[.bool b, .slice xa xn xc]) z := by
  obtain ⟨b, x, h1, h2⟩ := h
  obtain ⟨b', x', l, e, hr, hl⟩ := id h2
  obtain ⟨xa, xc, hx⟩ := hr.val
  simp at e
  obtain ⟨rfl, rfl⟩ := e
  subst hx
  exact ⟨b, xa, _, xc, h1, h2⟩
theorem IsB.below {w w' : World} {k : Nat} {z : Int} (h : IsB w k z) (hb : Below w.heap.size w w') : IsB w' k z := by
  obtain ⟨b, x, h1, h2⟩ := h
  exact ⟨b, x, h1.below hb, h2.below hb⟩
theorem IsB.kp {X : TypeId → Prop} {B : Nat} {w w' : World} {k : Nat} {z : Int} (h : IsB w k z) (hb : Kg X B w w') (hX : Okx X := by first | exact okR | exact okRT) : IsB w' k z := by
  obtain ⟨b, x, h1, h2⟩ := h
  exact ⟨b, x, h1.kp hb hX, h2.kp hb hX⟩
theorem IsB.lt {w : World} {k : Nat} {z : Int} (h : IsB w k z) : k < w.heap.size := by
  obtain ⟨b, x, h1, h2⟩ := h
  exact h1.lt

theorem cell_set2 {w : World} {p : Addr} {v : Value} (h : w.cell? p = some v) {j : Nat} (hne : p.block ≠ j) (a b : Value) : ((w.setCell ⟨j, 0, none⟩ a).setCell ⟨j, 1, none⟩ b).cell? p = some v := by
  rw [World.cell?_of_block (w := w) (by rw [Below.heap_setCell _ _ _ _ hne, Below.heap_setCell _ _ _ _ hne])]
  exact h

theorem Bx.other {w : World} {k j : Nat} {a b : Value} (h : Bx w k a b) (hne : k ≠ j) (u v : Value) : Bx ((w.setCell ⟨j, 0, none⟩ u).setCell ⟨j, 1, none⟩ v) k a b := by
  unfold Bx at h ⊢
  rw [Below.heap_setCell _ _ _ _ hne, Below.heap_setCell _ _ _ _ hne]
  exact h
theorem Rd.other {w : World} {rb n j : Nat} {s : ByteArray} {tv : Value} (h : Rd w rb s n tv) (hne : rb ≠ j) (u v : Value) : Rd ((w.setCell ⟨j, 0, none⟩ u).setCell ⟨j, 1, none⟩ v) rb s n tv := by
  unfold Rd at h ⊢
  rw [Below.heap_setCell _ _ _ _ hne, Below.heap_setCell _ _ _ _ hne]
  exact h
theorem IsI.set2 {w : World} {u : Value} {z : Int} (h : IsI w u z) {k : Nat} {a b : Value} (hk : Bx w k a b) (a' b' : Value) : IsI ((w.setCell ⟨k, 0, none⟩ a').setCell ⟨k, 1, none⟩ b') u z := by
  obtain ⟨b1, x, l, h1, h2, h3⟩ := h
  exact ⟨b1, x, l, h1, h2.set2 hk a' b', h3⟩
theorem IsB.other {w : World} {k j : Nat} {z : Int} (h : IsB w k z) {a b : Value} (hj : Bx w j a b) (hne : k ≠ j) (u v : Value) : IsB ((w.setCell ⟨j, 0, none⟩ u).setCell ⟨j, 1, none⟩ v) k z := by
  obtain ⟨b1, x, h1, h2⟩ := h
  exact ⟨b1, x, h1.other hne u v, h2.set2 hj u v⟩
theorem IsB.stored {w : World} {j : Nat} {a b : Value} (hj : Bx w j a b) {b1 : Bool} {x : Value} {z : Int} (h : IsI w (.agg #[.bool b1, x]) z) : IsB ((w.setCell ⟨j, 0, none⟩ (.bool b1)).setCell ⟨j, 1, none⟩ x) j z :=
  ⟨b1, x, hj.set _ _, h.set2 hj _ _⟩
theorem IsB.new {w : World} {b1 : Bool} {x : Value} {z : Int} (h : IsI w (.agg #[.bool b1, x]) z) : IsB (w.alloc (.cells #[.bool b1, x] 70)) w.heap.size z :=
  ⟨b1, x, Bx.alloc w _ _, h.below ((Below.refl _ _).alloc (Nat.le_refl _) _)⟩
theorem IsI.form {w : World} {v : Value} {z : Int} (h : IsI w v z) : ∃ b xa xn xc, v = .agg #[.bool b, .slice xa xn xc] := by
  obtain ⟨b, x, l, h1, h2, h3⟩ := h
  obtain ⟨xa, xc, rfl⟩ := h2.val
  exact ⟨b, xa, _, xc, h1⟩
theorem IsI.zero (w : World) : IsI w (.agg #[.bool false, .slice none 0 0]) 0 :=
  ⟨false, _, [], rfl, ⟨rfl, .inl ⟨rfl, rfl⟩⟩, Dig.nil _, (fun x h => by simp at h), (fun h => by simp at h), by simp [sv, ev]⟩

set_option maxHeartbeats 400000 in
theorem isDigit_any (c : UInt8) (ci : Int) (hc : ci = (c.toNat : Int)) (w : World) :
    Calls Tryz.prog 106 #[.int .u8 ci] w fun e w' => e = .returned (.bool (isDig c)) ∧ w' = w := by
  have hd : isDig c = (decide (48 ≤ ci) && decide (ci ≤ 57)) := by
    subst hc
    unfold isDig
    rw [Bool.eq_iff_iff]
    simp [UInt8.le_iff_toNat_le]
    omega
  rw [hd]
  clear hd hc
  by_cases h1 : 48 ≤ ci
  · by_cases h2 : ci ≤ 57
    · rw [decide_eq_true h1, decide_eq_true h2]
      go_enter Tryz.func106, Tryz.ntmps106
      go_wp2
      go_ret
      exact ⟨rfl, rfl⟩
    · rw [decide_eq_true h1, decide_eq_false h2]
      go_enter Tryz.func106, Tryz.ntmps106
      go_wp2
      go_ret
      exact ⟨rfl, rfl⟩
  · rw [decide_eq_false h1]
    go_enter Tryz.func106, Tryz.ntmps106
    go_wp2
    go_ret
    exact ⟨rfl, rfl⟩

theorem digit_wrap (c : Int) (h1 : 48 ≤ c) (h2 : c ≤ 57) : IntKind.i64.wrap (IntKind.u8.wrap (c - 48)) = c - 48 := by
  rw [IntKind.wrap_i64, IntKind.wrap_u8]; omega

def NumAt (l : List UInt8) (k0 k num : Nat) : Prop := numOf num (digs (l.drop k)) = numOf 0 (digs (l.drop k0)) ∧ k + (digs (l.drop k)).length = k0 + (digs (l.drop k0)).length ∧ num < 10 ^ (k - k0)

theorem NumAt.start (l : List UInt8) (k0 : Nat) : NumAt l k0 k0 0 := ⟨rfl, rfl, by simp⟩
theorem NumAt.step {l : List UInt8} {k0 k num : Nat} {c : UInt8} (h : NumAt l k0 k num) (hk : k0 ≤ k) (hc : l[k]? = some c) (hd : isDig c = true) : NumAt l k0 (k + 1) (10 * num + (c.toNat - 48)) := by
  obtain ⟨h1, h2, h3⟩ := h
  rw [digs_step hc hd] at h1 h2
  have h4 := isDig_le hd
  refine ⟨h1, by simp at h2; omega, ?_⟩
  rw [show k + 1 - k0 = (k - k0) + 1 by omega, Nat.pow_succ]
  omega
theorem NumAt.stop {l : List UInt8} {k0 k num : Nat} (h : NumAt l k0 k num) (hd : ∀ c, l[k]? = some c → isDig c = false) : num = numOf 0 (digs (l.drop k0)) ∧ k = k0 + (digs (l.drop k0)).length := by
  obtain ⟨h1, h2, h3⟩ := h
  rw [digs_stop hd] at h1 h2
  exact ⟨h1, h2⟩

end Go.Proofs.YtldcjkhbiffdoabGreatDoor
