import Derived.Test.YtldcjkhbiffdoaaGreatDoorM19
import Derived.Test.YtldcjkhbiffdoaaGreatDoorM13
import Derived.Test.YtldcjkhbiffdoaaGreatDoorM20
import Derived.Test.YtldcjkhbiffdoaaGreatDoorM21
import Derived.Test.YtldcjkhbiffdoaaGreatDoorM18
import Derived.Deep.RegionHeld3
import Derived.Test.YtldcjkhbiffdoaaGreatDoorM03
import Derived.Test.YtldcjkhbiffdoaaGreatDoorM14

/-
  factorlaw: pick, bounded, divided, keep.
-/
namespace Go.Proofs.YtldcjkhbiffdoaaGreatDoor
open Go.RowKit

/-- The table, below B. -/
def TabB (B : Nat) (w : World) : Prop := Lib.TabIs Tryz.prog w "internal/strconv.uint64pow10" .u64 Lib.pow10Tab ∧ ∃ g, Tryz.prog.globalNamed "internal/strconv.uint64pow10" = some g ∧ g < B
theorem TabB.tab {B : Nat} {w : World} (h : TabB B w) (hB : B ≤ w.heap.size) : Tab w := by
  obtain ⟨h1, g, h2, h3⟩ := h
  exact ⟨h1, g, h2, by omega⟩
theorem TabB.bel {B : Nat} {w w' : World} (h : TabB B w) (hb : Below B w w') : TabB B w' := by
  obtain ⟨h1, g, h2, h3⟩ := h
  exact ⟨var?_below hb h2 h3 h1, g, h2, h3⟩
theorem TabB.below {B : Nat} {w w' : World} (h : TabB B w) (hb : Below w.heap.size w w') (hB : B ≤ w.heap.size) : TabB B w' := h.bel (hb.mono hB)
theorem Tab.tabB {w : World} (h : Tab w) : TabB w.heap.size w := h

section
variable {w : World} {k : Nat} {a b c : Value} {e : TypeId}
theorem w3_0 (h : w.heap[k]? = some (.cells #[a, b, c] e (0, 0))) : w.cell? ⟨k, 0, none⟩ = some a := by simp [World.cell?, h]
theorem w3_1 (h : w.heap[k]? = some (.cells #[a, b, c] e (0, 0))) : w.cell? ⟨k, 1, none⟩ = some b := by simp [World.cell?, h]
theorem w3_2 (h : w.heap[k]? = some (.cells #[a, b, c] e (0, 0))) : w.cell? ⟨k, 2, none⟩ = some c := by simp [World.cell?, h]
theorem w3_f (h : w.heap[k]? = some (.cells #[a, b, c] e (0, 0))) (o : Nat) : w.frozen? ⟨k, o, none⟩ = false := by simp [World.frozen?, h]
end

theorem wpList_pushQ {ops : Array Oper} {rest : List Oper} {o : Oper} {a : Act} {Q : Exit → Act → World → Prop} {W : World} (hgd : o.guard = none) (s x : Operand)
    (ho : o.op = .call { callee := .builtin .append, args := #[s, x], argTypes := #[26, 26] })
    (B : Nat) (v : Value) (ps : List (List Int)) (y u : Value) (zs : List Int) (ad : Nat) (hs : a.eval s = v) (hx : a.eval x = .slice (some ⟨ad, 0, none⟩) 1 1) (hown : OwnQ B W v ps) (hz : PairOK W y u zs)
    (hc : ∀ j q, [y, u][j]? = some q → W.cell? ((⟨ad, 0, none⟩ : Addr).add j) = some q)
    (hlen : ps.length ≤ 100000000) (hB : B ≤ W.heap.size)
    (h : ∀ v' w', OwnQ B w' v' (ps ++ [zs]) → Kq B W w' → W.grownBy w' v.ownBlock → wpList Tryz.prog ops Q rest (a.put o.dst v') w') :
    wpList Tryz.prog ops Q (o :: rest) a W := by
  obtain ⟨i, hi, hz0, hz1, hz2⟩ := info_parts Tryz.infoPair
  have htyp := hown.typ
  have hblk := hown.block
  obtain ⟨cs, h1, h2, h3⟩ := hown
  obtain ⟨yk, yv, rfl, _, _⟩ := hz.p
  obtain ⟨ua, uc, rfl⟩ := OwnLN.val hz.n
  refine wpList_append_own _ hgd s x 26 ho B 35 i (.agg #[.pointer none, .slice none 0 0]) 2 32 Tryz.slicePair hi hz0 hz1 hz2 rfl (by decide) v ps.length (flatP cs) hs h2 ⟨ad, 0, none⟩ 1 1 [.pointer (some ⟨yk, 0, none⟩), .slice ua zs.length uc] hx rfl hc ?_ ?_ ?_ hB ?_
  · intro q hq
    simp at hq
    rcases hq with rfl | rfl <;> rfl
  · unfold maxLen; omega
  · omega
  · intro v' w' g1 g2 _
    have hkp : Kq B W w' := ⟨(Below.refl _ _).grown g2 hB hblk, Kg.grownQ g2 htyp⟩
    refine h v' w' ⟨cs ++ [(.pointer (some ⟨yk, 0, none⟩), .slice ua zs.length uc)], by simp [h1], ?_, ?_⟩ hkp g2
    · rw [flatP_append]
      simpa [flatP] using g1
    · intro j q hj
      by_cases hjl : j < cs.length
      · rw [List.getElem?_append_left hjl] at hj
        have hj2 : (ps ++ [zs]).getD j [] = ps.getD j [] := by simp [List.getD, List.getElem?_append_left (show j < ps.length by omega)]
        rw [hj2]
        exact (h3 j q hj).kq hkp
      · rw [List.getElem?_append_right (by omega)] at hj
        have hj0 : j - cs.length = 0 := by
          rcases Nat.eq_zero_or_pos (j - cs.length) with h0 | h0
          · exact h0
          · rw [List.getElem?_eq_none (by simp; omega)] at hj; simp at hj
        rw [hj0] at hj
        simp at hj
        subst hj
        have hj2 : (ps ++ [zs]).getD j [] = zs := by
          rw [show j = ps.length by omega]; simp [List.getD]
        rw [hj2]
        exact hz.kq hkp

/-- Which of n things. -/
def pck (c : Int) (n : Nat) : Nat := ((if c < 0 then -(c + 1) else c) % (n : Int)).toNat

theorem pck_lt (c : Int) {n : Nat} (h : 0 < n) : pck c n < n := by
  unfold pck
  have h1 := Int.emod_nonneg (if c < 0 then -(c + 1) else c) (show (n : Int) ≠ 0 by omega)
  have h2 := Int.emod_lt_of_pos (if c < 0 then -(c + 1) else c) (show (0 : Int) < n by omega)
  omega

theorem pck_val (c : Int) {n : Nat} (h : 0 < n) : ((pck c n : Nat) : Int) = (if c < 0 then -(c + 1) else c).tmod (n : Int) := by
  unfold pck
  have h1 := Int.emod_nonneg (if c < 0 then -(c + 1) else c) (show (n : Int) ≠ 0 by omega)
  rw [Int.toNat_of_nonneg h1, Int.tmod_eq_emod_of_nonneg (by split <;> omega)]

set_option maxHeartbeats 1000000 in
theorem pick_any (c : Int) (n : Nat) (w : World) (hc0 : -9223372036854775808 ≤ c) (hc1 : c ≤ 9223372036854775807) (hn : 0 < n) (hn1 : n ≤ 1000000000) :
    Calls Tryz.prog 47 #[.int .i64 c, .int .i64 (n : Int)] w fun e w' => e = .returned (.int .i64 ((pck c n : Nat) : Int)) ∧ w' = w := by
  have hv := pck_val c hn
  have hlt := pck_lt c hn
  generalize pck c n = r at *
  have hr0 : (r : Int) < 9223372036854775808 := by omega
  have hn0 : ¬ (n : Int) = 0 := by omega
  have hw : IntKind.i64.wrap (r : Int) = r := by rw [IntKind.wrap_i64]; omega
  by_cases h : c < 0
  · rw [if_pos h, Int.neg_tmod] at hv
    have HV : Hid _ := hv
    have h1 : IntKind.i64.wrap (c + 1) = c + 1 := by rw [IntKind.wrap_i64]; omega
    have h2 : IntKind.i64.wrap (-(c + 1)) = -(c + 1) := by rw [IntKind.wrap_i64]; omega
    clear hv
    go_enter Tryz.func47, Tryz.ntmps47
    go_wp2
    go_ret
    rw [HV.out]
    exact ⟨rfl, rfl⟩
  · rw [if_neg h, Int.tmod_eq_emod_of_nonneg (by omega)] at hv
    have HV : Hid _ := hv
    clear hv
    go_enter Tryz.func47, Tryz.ntmps47
    go_wp2
    go_ret
    rw [HV.out]
    exact ⟨rfl, rfl⟩

/-- What 'bounded' of the document's side gives. -/
def RB (w' : World) (t : List Int) (m : Value) (f : Int) : Prop := (inB t = true ∧ f = 0 ∧ IsLN w' m t) ∨ (inB t = false ∧ f = 3 ∧ m = .slice none 0 0)

theorem boundedL_any (zs : List Int) (u : Value) (w : World) (hu : IsLN w u zs) (hl : zs.length ≤ 1000000) :
    Calls Tryz.prog 27 #[u] w fun e w' => ∃ m f, e = .returned (.tuple #[m, .int .i64 f]) ∧ RB w' zs m f ∧ Below w.heap.size w w' := by
  obtain ⟨ua, uc, rfl⟩ := OwnLN.val hu
  have hB := boundR_any zs _ w hu hl
  cases hi : inB zs with
  | true =>
    rw [hi] at hB
    have HI : Hid _ := hi
    clear hi
    go_enter Tryz.func27, Tryz.ntmps27
    go_wp2_with fail
    refine hB.mono ?_
    rintro e w1 ⟨rfl, hb1⟩
    go_wp2
    go_ret2
    exact ⟨_, _, rfl, .inl ⟨HI.out, rfl, OwnLN.below hu hb1⟩, hb1⟩
  | false =>
    rw [hi] at hB
    have HI : Hid _ := hi
    clear hi
    go_enter Tryz.func27, Tryz.ntmps27
    go_wp2_with fail
    refine hB.mono ?_
    rintro e w1 ⟨rfl, hb1⟩
    go_wp2
    go_ret2
    exact ⟨_, _, rfl, .inr ⟨HI.out, rfl, rfl⟩, hb1⟩

/-- What 'divided' gives. -/
def RD (w' : World) (b a0 : List Int) (m : Value) (f : Int) : Prop :=
  (b = [] ∧ f = 4) ∨ (b ≠ [] ∧ dvs b (a0.length + 1 - b.length) a0 = none ∧ f = 5) ∨ (b ≠ [] ∧ ∃ Q, dvs b (a0.length + 1 - b.length) a0 = some Q ∧ RB w' (tz Q) m f)

set_option maxHeartbeats 1000000 in
theorem divided_any (a b : List Int) (u v : Value) (w : World) (hu : IsLN w u a) (hv : IsLN w v b) (hx : inB a = true) (hy : inB b = true) (ta : Tr a) (tb : Tr b) :
    Calls Tryz.prog 34 #[u, v] w fun e w' => ∃ m f, e = .returned (.tuple #[m, .int .i64 f]) ∧ RD w' b a m f ∧ Below w.heap.size w w' := by
  obtain ⟨ua, uc, rfl⟩ := OwnLN.val hu
  obtain ⟨va, vc, rfl⟩ := OwnLN.val hv
  have lx := inB_len hx
  have ly := inB_len hy
  by_cases h0 : b = []
  · subst h0
    have hl0 : ([] : List Int).length = 0 := rfl
    clear hu hv ta tb hx hy
    go_enter Tryz.func34, Tryz.ntmps34
    go_wp2
    go_ret2
    exact ⟨_, _, rfl, .inl ⟨rfl, rfl⟩, Below.refl _ _⟩
  · have hpos := List.length_pos_iff.2 h0
    have hne : ¬ b.length = 0 := by omega
    have hD := divR_any a b 12 12 _ _ w hu hv (by omega) (by omega) (inB_bd hx) (inB_bd hy) (by omega) (by omega) ta tb h0
    obtain ⟨T, HT⟩ : ∃ T : World → Value → Int → Prop, Hid (T = fun w' m f => RD w' b a m f) := ⟨_, rfl⟩
    have hgoal : (fun (e : Ending) (w' : World) => ∃ m f, e = .returned (.tuple #[m, .int .i64 f]) ∧ RD w' b a m f ∧ Below w.heap.size w w') = fun e w' => ∃ m f, e = .returned (.tuple #[m, .int .i64 f]) ∧ T w' m f ∧ Below w.heap.size w w' := by rw [HT.out]
    rw [hgoal]
    clear hgoal ta tb hx hy
    go_enter Tryz.func34, Tryz.ntmps34
    go_wp2_with fail
    refine hD.mono ?_
    rintro e w1 ⟨hd, hb1⟩
    rcases hd with ⟨Q, x, hd, rfl, hI⟩ | ⟨q, x, hd, rfl, hI⟩
    · have hB := boundedL_any (tz Q) x w1 hI (by rw [tz_length]; have := tzn_le Q Q.length; rw [dvs_len hd] at this; rw [dvs_len hd]; omega)
      have HD : Hid _ := hd
      clear hd
      obtain ⟨xa, xc, rfl⟩ := OwnLN.val hI
      obtain ⟨tQ, HTQ⟩ : ∃ tQ, Hid (tz Q = tQ) := ⟨_, rfl⟩
      rw [HTQ.out] at hI hB ⊢
      go_wp2_with fail
      refine hB.mono ?_
      rintro e w2 ⟨m, f, rfl, hRB, hb2⟩
      go_wp2
      go_ret2
      refine ⟨_, _, rfl, ?_, hb1.trans (hb2.mono hb1.size)⟩
      rw [HT.out]
      exact .inr (.inr ⟨h0, Q, HD.out, by rw [HTQ.out]; exact hRB⟩)
    · have HD : Hid _ := hd
      clear hd
      obtain ⟨xa, xc, rfl⟩ := OwnLN.val hI
      go_wp2
      go_ret2
      refine ⟨_, _, rfl, ?_, hb1⟩
      rw [HT.out]
      exact .inr (.inl ⟨h0, HD.out, rfl⟩)

/-- What came out on both sides. -/
def BothV (w : World) (x : Value) (e : Int) (m : Value) (f : Int) : Prop := (e = 0 ∧ f = 0 ∧ ∃ zs, PairOK w x m zs) ∨ (e ≠ 0 ∧ f = e ∧ x = .pointer none)

set_option maxRecDepth 100000 in
set_option maxHeartbeats 4000000 in
theorem keep_any (B k : Nat) (ps : List (List Int)) (x m : Value) (e f : Int) (w : World) (hW : IsW B w k ps) (hV : BothV w x e m f) (hlen : ps.length ≤ 10000000) (hB : B ≤ k) (ht : TabB B w) :
    Calls Tryz.prog 25 #[.pointer (some ⟨k, 0, none⟩), x, .int .i64 e, m, .int .i64 f] w fun en w' => en = .returned (.bool true) ∧ (∃ ps', IsW B w' k ps' ∧ ps'.length ≤ ps.length + 1) ∧ Kq B w w' := by
  have hW' := hW
  obtain ⟨a, c, hh, hq⟩ := hW
  have hkl := lt_of_block hh
  rcases hV with ⟨rfl, rfl, zs, hP⟩ | ⟨he, rfl, rfl⟩
  · have c0 := w3_0 hh
    have f0 := w3_f hh 0
    obtain ⟨xk, xv, rfl, hx1, hx2⟩ := id hP.p
    obtain ⟨ma, mc, rfl⟩ := OwnLN.val hP.n
    have hb0 := below_one w (Obj.cells #[Value.pointer (some ⟨xk, 0, none⟩), Value.slice ma zs.length mc] 35)
    have hh1 : (w.alloc (Obj.cells #[Value.pointer (some ⟨xk, 0, none⟩), Value.slice ma zs.length mc] 35)).heap[k]? = some (.cells #[.slice a ps.length c, .slice none 0 0, .bool false] 29 (0, 0)) := by rw [hb0.block k hkl]; exact hh
    have hcell := cell_two_new w (Value.pointer (some ⟨xk, 0, none⟩)) (Value.slice ma zs.length mc) 35
    have hq1 := hq.below hb0
    have hP1 := hP.below hb0
    have hs1 : B ≤ (w.alloc (Obj.cells #[Value.pointer (some ⟨xk, 0, none⟩), Value.slice ma zs.length mc] 35)).heap.size := by simp; omega
    have HQ1 : Hid _ := (⟨hh1, hcell, hq1, hP1, hs1, hb0⟩ : _ ∧ _ ∧ _ ∧ _ ∧ _ ∧ _)
    clear hh1 hcell hq1 hP1 hs1 hb0
    go_enter Tryz.func25, Tryz.ntmps25
    go_wp2_with (at_builtin; refine wpList_pushQ rfl (.tmp 27) (.tmp 31) rfl B (.slice a ps.length c) ps _ _ zs w.heap.size rfl rfl HQ1.out.2.2.1 HQ1.out.2.2.2.1 HQ1.out.2.1 (by omega) HQ1.out.2.2.2.2.1 ?_)
    intro v' w1 hq1 hk1 hg1
    obtain ⟨hh1, _, hq0, hP1, hs1, hb0⟩ := HQ1.out
    have hne : some k ≠ (Value.slice a ps.length c).ownBlock := fun e => by
      obtain ⟨cur, hc⟩ := hq0.typ k e.symm
      rw [hh1] at hc
      simp at hc
    have hh2 : w1.heap[k]? = some (.cells #[.slice a ps.length c, .slice none 0 0, .bool false] 29 (0, 0)) := by rw [hg1.block k (lt_of_block hh1) hne]; exact hh1
    have c2 := w3_0 hh2
    have f2 := w3_f hh2 0
    obtain ⟨va, vc, rfl⟩ := hq1.val
    have hW2 : IsW B (w1.setCell ⟨k, 0, none⟩ (.slice va (ps ++ [zs]).length vc)) k (ps ++ [zs]) := IsW.pushed hh2 hq1
    have hk2 : Kq B w (w1.setCell ⟨k, 0, none⟩ (.slice va (ps ++ [zs]).length vc)) := ((Kg.of hb0 (by omega)).trans hk1).set hB ⟨_, _, _, hh2, .inl rfl⟩
    have hsz2 : B ≤ (w1.setCell ⟨k, 0, none⟩ (.slice va (ps ++ [zs]).length vc)).heap.size := by have := hk2.bel.size; omega
    have hpl : (ps ++ [zs]).length ≤ ps.length + 1 := by simp
    have HW2 : Hid _ := (⟨hW2, hk2, hsz2, hpl⟩ : _ ∧ _ ∧ _ ∧ _)
    clear hW2 hk2 hsz2 hpl HQ1 hh1 hq0 hP1 hs1 hb0 hq1 hne
    generalize (ps ++ [zs]).length = pl at *
    go_wp2_with fail
    obtain ⟨hW2, hk2, hsz2, hpl⟩ := HW2.out
    clear HW2
    have hP2 := hP.kq hk2
    have ht2 := ht.bel hk2.bel
    have hib := hP.ib
    clear c2 f2 c0 f0 hh2 hk1 hg1
    generalize w1.setCell ⟨k, 0, none⟩ (.slice va pl vc) = W2 at *
    refine (polyText_any zs _ W2 hP2.p hib (ht2.tab hsz2)).mono ?_
    rintro en w3 ⟨rfl, hb3⟩
    go_wp2_with fail
    refine (textR_any zs _ w3 (OwnLN.below hP2.n hb3) hib).mono ?_
    rintro en w4 ⟨rfl, hb4⟩
    have hb4w := hb3.trans (hb4.mono hb3.size)
    go_wp2
    go_ret
    exact ⟨by simp, ⟨ps ++ [zs], hW2.below hb4w, by simp⟩, hk2.step hb4w (by omega)⟩
  · have hfn : (f != 0) = true := by simpa using he
    go_enter Tryz.func25, Tryz.ntmps25
    go_wp2
    go_ret
    exact ⟨rfl, ⟨ps, hW', by omega⟩, Kg.refl _ _⟩

end Go.Proofs.YtldcjkhbiffdoaaGreatDoor

/-
  factorref: Gcd.
-/
namespace Go.Proofs.YtldcjkhbiffdoaaGreatDoor
open Go.RowKit

theorem elim_same (A B : List Int) : padd (pmul A [lead B]) ((pmul (mono (A.length - B.length) (lead A)) B).map fun z => -z) = elim A B :=
  (padd_tr _ _).ext (elim_tr _ _) fun k => by
    rw [padd_getD, negs_getD, pmul_getD, pmul_getD, pk_mono, pk_num, elim_getD]
    omega

theorem Bd.monoN {d : Nat} {c : Int} {e : Nat} (h : c.natAbs < 10 ^ e) : Bd (Go.Proofs.YtldcjkhbiffdoaaGreatDoor.mono d c) e := by
  intro k
  rw [mono_getD]
  split
  · exact h
  · exact Nat.pow_pos (by omega)
theorem Bd.negsN {xs : List Int} {e : Nat} (hx : Bd xs e) : Bd (xs.map fun z => -z) e := by
  intro k
  rw [negs_getD]
  simpa using hx k
theorem Bd.monoMul {d : Nat} {c : Int} {ys : List Int} {e f : Nat} (hc : c.natAbs < 10 ^ e) (hy : Bd ys f) : Bd (pmul (Go.Proofs.YtldcjkhbiffdoaaGreatDoor.mono d c) ys) (e + f) := by
  intro k
  rw [pmul_getD, pk_mono]
  split
  · rw [Int.natAbs_mul, Nat.pow_add]
    exact Nat.mul_lt_mul'' hc (hy _)
  · exact Nat.pow_pos (by omega)
theorem Bd.oneMul {c : Int} {xs : List Int} {e f : Nat} (hx : Bd xs e) (hc : c.natAbs < 10 ^ f) : Bd (pmul xs [c]) (e + f) := by
  intro k
  rw [pmul_getD, pk_num, Int.natAbs_mul, Nat.pow_add]
  exact Nat.mul_lt_mul'' (hx k) hc
theorem Bd.one {c : Int} {e : Nat} (h : c.natAbs < 10 ^ e) : Bd [c] e := by
  intro k
  rw [single_getD]
  split
  · exact h
  · exact Nat.pow_pos (by omega)

/-- How many digits there may be, by the degrees that are left. -/
theorem grow_step {e F F' : Nat} (h : e + 1 ≤ 13 * 2 ^ (22 - F)) (hF : F' < F) (hF2 : F ≤ 22) : e + e + 1 + 1 ≤ 13 * 2 ^ (22 - F') := by
  have h1 : 2 ^ (22 - F + 1) ≤ 2 ^ (22 - F') := Nat.pow_le_pow_right (by omega) (by omega)
  rw [Nat.pow_succ] at h1
  omega
theorem grow_top {e F : Nat} (h : e + 1 ≤ 13 * 2 ^ (22 - F)) : e < 54525952 := by
  have h1 : 2 ^ (22 - F) ≤ 2 ^ 22 := Nat.pow_le_pow_right (by omega) (by omega)
  have h2 : 2 ^ 22 = 4194304 := by decide
  omega

/-- Where the loop stands. -/
structure GS (G A B : List Int) (F : Nat) : Prop where
  ta : Tr A
  tb : Tr B
  res : gfun F A B = G
  len : A.length + B.length ≤ F
  bd : ∃ e, e + 1 ≤ 13 * 2 ^ (22 - (A.length + B.length)) ∧ Bd A e ∧ Bd B e

theorem GS.elim {G X Y : List Int} {F : Nat} (h : GS G X Y F) (hF : F ≤ 22) (hY : Y ≠ []) (hle : Y.length ≤ X.length) : GS G (prim (elim X Y)) Y F ∧ (prim (elim X Y)).length < X.length := by
  obtain ⟨ta, tb, hr, hlen, e, he, hx, hy⟩ := h
  have hY1 := List.length_pos_iff.2 hY
  have hl := elim_len hY1 hle
  have hl2 : (prim (Go.Proofs.YtldcjkhbiffdoaaGreatDoor.elim X Y)).length < X.length := by rw [prim_len]; exact hl
  refine ⟨⟨(elim_tr _ _).prim, tb, ?_, by omega, e + e + 1, grow_step he (by omega) (by omega), (hx.elim hy).prim, hy.mono (by omega)⟩, hl2⟩
  obtain ⟨f, rfl⟩ : ∃ f, F = f + 1 := ⟨F - 1, by omega⟩
  rw [← hr, gfun_ge f hY hle]
  exact gfun_more f (by omega)

theorem GS.swap {G X Y : List Int} {F : Nat} (h : GS G X Y F) (hne : X.length ≠ Y.length) : GS G Y X F := by
  obtain ⟨ta, tb, hr, hlen, e, he, hx, hy⟩ := h
  exact ⟨tb, ta, by rw [← hr, gfun_swap F (fun h => hne h.symm) (by omega)], by omega, e, by rw [Nat.add_comm Y.length]; exact he, hy, hx⟩

theorem padd_nil_right {A : List Int} (h : Tr A) : padd A [] = A := (padd_tr _ _).ext h fun k => by rw [padd_getD]; simp
theorem padd_nil_left {A : List Int} (h : Tr A) : padd [] A = A := (padd_tr _ _).ext h fun k => by rw [padd_getD]; simp

theorem GS.ends {G A B : List Int} {F : Nat} (h : GS G A B F) (h0 : A = [] ∨ B = []) : padd A B = G := by
  obtain ⟨ta, tb, hr, _⟩ := h
  rcases h0 with rfl | rfl
  · rw [padd_nil_left tb, ← hr, gfun_left]
  · rw [padd_nil_right ta, ← hr, gfun_right]

theorem Bd.cont {zs : List Int} {e : Nat} (h : Bd zs e) : ∀ k, k ≤ zs.length → Go.Proofs.YtldcjkhbiffdoaaGreatDoor.cont (zs.take k) < 10 ^ e
  | 0, _ => Nat.pow_pos (by omega)
  | k + 1, hk => by
    rw [cont_take (by omega)]
    have ih := h.cont k (by omega)
    by_cases h0 : Go.Proofs.YtldcjkhbiffdoaaGreatDoor.cont (zs.take k) = 0
    · rw [h0]
      show Int.gcd 0 _ < _
      rw [Int.gcd_zero_left]
      exact h k
    · refine Nat.lt_of_le_of_lt ?_ ih
      unfold Int.gcd
      rw [Int.natAbs_natCast]
      exact Nat.gcd_le_left _ (by omega)
theorem Bd.cont' {zs : List Int} {e : Nat} (h : Bd zs e) : Go.Proofs.YtldcjkhbiffdoaaGreatDoor.cont zs < 10 ^ e := by
  have := h.cont zs.length (Nat.le_refl _)
  rwa [List.take_length] at this

theorem gcd_lt {x y e : Nat} (hx : x < 10 ^ e) (hy : y < 10 ^ e) : Nat.gcd x y < 10 ^ e := by
  by_cases h : x = 0
  · subst h; rw [Nat.gcd_zero_left]; exact hy
  · exact Nat.lt_of_le_of_lt (Nat.gcd_le_left _ (by omega)) hx

/-- The greatest common divisor, with its content. -/
def fgcd (a b : List Int) : List Int := pmul (pgcd a b) [(Nat.gcd (cont a) (cont b) : Int)]

end Go.Proofs.YtldcjkhbiffdoaaGreatDoor

/-
  The program's way to the greatest common divisor: where its loop stands.
-/
namespace Go.Proofs.YtldcjkhbiffdoaaGreatDoor

theorem three_one : ∀ d : Nat, d + 2 ≤ 3 ^ (d + 1)
  | 0 => by decide
  | d + 1 => by have := three_one d; rw [Nat.pow_succ]; omega

theorem three_zero {d : Nat} (h : 0 < d) : d + 2 ≤ 3 ^ d := by
  obtain ⟨c, rfl⟩ : ∃ c, d = c + 1 := ⟨d - 1, by omega⟩
  have := three_one c
  cases c with
  | zero => decide
  | succ c => have := three_one c; rw [Nat.pow_succ] at *; omega

/-- Where the loop stands. -/
structure PS (G A B : List Int) (e : Nat) : Prop where
  ta : Tr A
  tb : Tr B
  pa : prim A = A
  pb : prim B = B
  res : gfun (A.length + B.length) A B = G
  la : A.length ≤ 11
  lb : B.length ≤ 11
  ba : Bd A e
  bb : Bd B e
  gr : e + 1 ≤ 13 ∨ (B.length < A.length ∧ e + 1 ≤ 26 * 3 ^ (12 - A.length))

/-- How many digits a rest has. -/
def pse (A B : List Int) (e : Nat) : Nat := e + (A.length + 1 - B.length) * (e + 1)

theorem PS.grow {G A B : List Int} {e : Nat} (h : PS G A B e) (hb : B ≠ []) : pse A B e + 1 ≤ 26 * 3 ^ (12 - B.length) := by
  obtain ⟨ta, tb, pa, pb, res, la, lb, ba, bb, gr⟩ := h
  have hb1 := List.length_pos_iff.2 hb
  unfold pse
  have h3 : ∀ n, 1 ≤ 3 ^ n := fun n => Nat.pow_pos (by omega)
  rcases gr with h1 | ⟨h1, h2⟩
  · by_cases hl : A.length < B.length
    · rw [show A.length + 1 - B.length = 0 by omega]
      have := h3 (12 - B.length)
      omega
    · obtain ⟨d, hd⟩ : ∃ d, A.length = B.length + d := ⟨A.length - B.length, by omega⟩
      rw [show A.length + 1 - B.length = d + 1 by omega]
      have h4 := three_one d
      have h5 : 3 ^ (d + 1) ≤ 3 ^ (12 - B.length) := Nat.pow_le_pow_right (by omega) (by omega)
      have h6 : (d + 1) * (e + 1) ≤ (d + 1) * 13 := Nat.mul_le_mul (Nat.le_refl _) h1
      omega
  · obtain ⟨d, hd⟩ : ∃ d, A.length = B.length + d := ⟨A.length - B.length, by omega⟩
    rw [show A.length + 1 - B.length = d + 1 by omega]
    have h4 := three_zero (d := d) (by omega)
    have h5 : 3 ^ (12 - B.length) = 3 ^ (12 - A.length) * 3 ^ d := by rw [← Nat.pow_add]; congr 1; omega
    have h6 : (d + 2) * (e + 1) ≤ 3 ^ d * (26 * 3 ^ (12 - A.length)) := Nat.mul_le_mul h4 h2
    have h7 : (d + 2) * (e + 1) = e + (d + 1) * (e + 1) + 1 := by rw [show d + 2 = (d + 1) + 1 from rfl, Nat.succ_mul (d + 1)]; omega
    have h8 : 3 ^ d * (26 * 3 ^ (12 - A.length)) = 26 * (3 ^ (12 - A.length) * 3 ^ d) := by
      rw [Nat.mul_left_comm, Nat.mul_comm (3 ^ d)]
    rw [← h7, h5, ← h8]
    exact h6

theorem PS.top {G A B : List Int} {e : Nat} (h : PS G A B e) (hb : B ≠ []) : pse A B e ≤ 5000000 ∧ e ≤ 5000000 := by
  have h1 := h.grow hb
  have hb1 := List.length_pos_iff.2 hb
  have h2 : 3 ^ (12 - B.length) ≤ 3 ^ 11 := Nat.pow_le_pow_right (by omega) (by omega)
  have h3 : 3 ^ 11 = 177147 := by decide
  have h4 : e ≤ pse A B e := by unfold pse; omega
  omega

theorem PS.small {G A B : List Int} {e : Nat} (h : PS G A B e) : e ≤ 5000000 := by
  rcases h.gr with h1 | ⟨h1, h2⟩
  · omega
  · have h3 : 3 ^ (12 - A.length) ≤ 3 ^ 11 := Nat.pow_le_pow_right (by omega) (by omega)
    have h4 : 3 ^ 11 = 177147 := by decide
    omega

theorem PS.next {G A B R : List Int} {e : Nat} (h : PS G A B e) (hb : B ≠ []) (hr : RO B A R 0) (hR : Bd R (pse A B e)) : PS G B (prim (tz R)) (pse A B e) ∧ (prim (tz R)).length < B.length := by
  have hg := h.grow hb
  obtain ⟨ta, tb, pa, pb, res, la, lb, ba, bb, gr⟩ := h
  obtain ⟨h1, h2, h3, h4⟩ := hr.ends hb
  have h5 : e ≤ pse A B e := by unfold pse; omega
  refine ⟨⟨tb, h2, pb, h3, ?_, lb, by omega, bb.mono h5, Bd.prim (fun k => by rw [tz_getD]; exact hR k), .inr ⟨h1, hg⟩⟩, h1⟩
  rw [← res, h4]
  by_cases hl : A.length + B.length ≤ B.length + (prim (tz R)).length
  · exact gfun_eq (Nat.le_refl _) (by
      have : A.length ≤ (prim (tz R)).length := by omega
      obtain ⟨A', c, hc, hR', hA, hpA, hlen, hle, _⟩ := hr
      have h1' : prim (tz R) = A' := by rw [prim_of_mul hc hA (tr_tz R) fun k => by rw [tz_getD, hR'], hpA]
      rw [h1']; omega)
  · exact gfun_eq (Nat.le_refl _) (by omega)

theorem PS.ends {G A : List Int} {e : Nat} (h : PS G A [] e) : A = G := by
  have := h.res
  rw [gfun_right] at this
  exact this

theorem PS.start {a b : List Int} (ta : Tr a) (tb : Tr b) (la : a.length ≤ 11) (lb : b.length ≤ 11) (ba : Bd a 12) (bb : Bd b 12) : PS (pgcd a b) (prim a) (prim b) 12 :=
  ⟨ta.prim, tb.prim, prim_prim ta, prim_prim tb, by unfold pgcd; rw [prim_len, prim_len], by rw [prim_len]; exact la, by rw [prim_len]; exact lb, ba.prim, bb.prim, .inl (by omega)⟩

theorem scont_abs (l : List Int) : (scont l).natAbs = cont l := by
  unfold scont
  split
  · simp
  · simp

theorem gcd_scont (a b : List Int) : Int.gcd (scont a) (scont b) = Nat.gcd (cont a) (cont b) := by
  unfold Int.gcd
  rw [scont_abs, scont_abs]

end Go.Proofs.YtldcjkhbiffdoaaGreatDoor

/-
  factorref: Shift.
-/
namespace Go.Proofs.YtldcjkhbiffdoaaGreatDoor
open Go.RowKit

/-- The sum so far, and the power so far. -/
def oS (s : Int) (zs : List Int) (k : Nat) : List Int := tz (tab k (shS s zs k))
def oP (s : Int) (k : Nat) : List Int := tz (tab (k + 1) (shP s k))

theorem oS_getD (s : Int) (zs : List Int) (k j : Nat) : (oS s zs k).getD j 0 = shS s zs k j := by
  unfold oS
  rw [tz_getD, tab_getD]
  split
  · rfl
  · rw [shS_out _ _ _ _ (by omega)]
theorem oP_getD (s : Int) (k j : Nat) : (oP s k).getD j 0 = shP s k j := by
  unfold oP
  rw [tz_getD, tab_getD]
  split
  · rfl
  · rw [shP_out _ _ _ (by omega)]
theorem oS_tr (s : Int) (zs : List Int) (k : Nat) : Tr (oS s zs k) := tr_tz _
theorem oP_tr (s : Int) (k : Nat) : Tr (oP s k) := tr_tz _
theorem oS_len (s : Int) (zs : List Int) (k : Nat) : (oS s zs k).length ≤ k := tz_len_le fun j hj => by rw [tab_getD, if_neg (by omega)]
theorem oP_len (s : Int) (k : Nat) : (oP s k).length ≤ k + 1 := tz_len_le fun j hj => by rw [tab_getD, if_neg (by omega)]

theorem oS_next (s : Int) (zs : List Int) (k : Nat) : padd (oS s zs k) (pmul (oP s k) [zs.getD k 0]) = oS s zs (k + 1) :=
  (padd_tr _ _).ext (oS_tr _ _ _) fun j => by
    rw [padd_getD, pmul_getD, pk_num, oS_getD, oS_getD, oP_getD]
    rfl
theorem oP_next (s : Int) (k : Nat) : pmul (oP s k) [s, 1] = oP s (k + 1) :=
  (pmul_tr _ _).ext (oP_tr _ _) fun j => by
    rw [pmul_getD, pk_lin, oP_getD, oP_getD, oP_getD]
    rfl
theorem oP_zero (s : Int) : oP s 0 = [1] :=
  (oP_tr _ _).ext (fun _ => by decide) fun j => by
    rw [oP_getD, single_getD]
    rfl
theorem oS_zero (s : Int) (zs : List Int) : oS s zs 0 = [] := rfl

theorem oP_bd {s : Int} (hs : s.natAbs ≤ 99) {k : Nat} (hk : k ≤ 11) : Bd (oP s k) 23 := by
  intro j
  rw [oP_getD]
  have h1 := shP_bd hs k j
  have h2 : 100 ^ k ≤ 100 ^ 11 := Nat.pow_le_pow_right (by omega) hk
  have h3 : (100 : Nat) ^ 11 < 10 ^ 23 := by decide
  exact Nat.lt_of_le_of_lt h1 (Nat.lt_of_le_of_lt h2 h3)
theorem oS_bd {s : Int} (hs : s.natAbs ≤ 99) {zs : List Int} (hz : Bd zs 12) {k : Nat} (hk : k ≤ 11) : Bd (oS s zs k) 36 := by
  intro j
  rw [oS_getD]
  have h1 := shS_bd hs (M := 10 ^ 12) (fun i => Nat.le_of_lt (hz i)) k j
  have h2 : 100 ^ k ≤ 100 ^ 11 := Nat.pow_le_pow_right (by omega) hk
  have h3 : k * (100 ^ k * 10 ^ 12) ≤ 11 * (100 ^ 11 * 10 ^ 12) := Nat.mul_le_mul hk (Nat.mul_le_mul h2 (Nat.le_refl _))
  have h4 : 11 * (100 ^ 11 * 10 ^ 12) < 10 ^ 36 := by decide
  exact Nat.lt_of_le_of_lt h1 (Nat.lt_of_le_of_lt h3 h4)

theorem pair_bd {s : Int} (hs : s.natAbs ≤ 99) : Bd [s, 1] 2 := by
  intro j
  rw [pair_getD]
  split
  · show s.natAbs < 100; omega
  · split <;> decide

set_option maxRecDepth 100000 in
set_option maxHeartbeats 4000000 in
theorem shiftR_any (zs : List Int) (s : Int) (u : Value) (w : World) (hu : IsLN w u zs) (hl : zs.length ≤ 11) (fx : Bd zs 12) (hs : s.natAbs ≤ 99) :
    Calls Tryz.prog 38 #[u, .int .i64 s] w fun en w' => ∃ x, en = .returned x ∧ IsLN w' x (oS s zs zs.length) ∧ Below w.heap.size w w' := by
  obtain ⟨ua, uc, rfl⟩ := OwnLN.val hu
  have hO1 := fun (W : World) => ofN_any 1 W (by decide)
  have hO2 := fun (W : World) => ofN_any s W (by omega)
  have HO1 : Hid _ := hO1
  have HO2 : Hid _ := hO2
  clear hO1 hO2
  go_enter Tryz.func38, Tryz.ntmps38
  go_wp2_with fail
  refine (HO1.out w).mono ?_
  rintro en w1 ⟨x1, rfl, hI1, hb1⟩
  obtain ⟨b1, a1, n1, c1, _, rfl, _, _⟩ := id hI1.open
  go_wp2_with fail
  generalize hW : w1.alloc (Obj.cells #[Value.bool b1, Value.slice a1 n1 c1] 74) = W2
  obtain ⟨hb2, hL2⟩ := one_listN hW hI1
  clear hW
  have hbw2 := hb1.trans (hb2.mono hb1.size)
  rw [← oP_zero s] at hL2
  go_loopw [5, 6, 13] (fun o p i wr => ∃ (k : Nat), k ≤ zs.length ∧ i = .int .i64 k ∧ IsLN wr o (oS s zs k) ∧ IsLN wr p (oP s k) ∧ Below w.heap.size w wr) (fun _ _ i _ => zs.length - (intOf i).toNat)
  case atStart => exact ⟨0, Nat.zero_le _, rfl, OwnLN.isL (OwnLN.nil0 0 _), hL2, hbw2⟩
  case round =>
    clear hL2 hbw2 hI1 hb1 hb2
    obtain ⟨k, hk, rfl, hO, hP, hbel⟩ := hrel
    obtain ⟨oa, oc, rfl⟩ := OwnLN.val hO
    obtain ⟨pa, pc, rfl⟩ := OwnLN.val hP
    by_cases hlt : k < zs.length
    · obtain ⟨g, b, xa, xn, xc, rfl, hc1, hc2, hg, _, hc0, hcx, hI⟩ := OwnLN.at (OwnLN.below hu hbel) k hlt
      have n1' := oS_next s zs k
      have n2' := oP_next s k
      have bO := oS_bd hs fx (k := k) (by omega)
      have bP := oP_bd hs (k := k) (by omega)
      have lO := oS_len s zs k
      have lP := oP_len s k
      have fz := fx k
      have hmul1 := fun (W : World) (u1 u2 : Value) (g1 : IsLN W u1 (oP s k)) (g2 : IsLN W u2 [zs.getD k 0]) => mulR_any (oP s k) [zs.getD k 0] 23 12 u1 u2 W g1 g2 (by omega) (by simp) bP (by
        intro j
        rw [single_getD]
        split
        · exact fz
        · exact Nat.pow_pos (by omega)) (by omega)
      have bM : Bd (pmul (oP s k) [zs.getD k 0]) 35 := by
        intro j
        rw [pmul_getD, pk_num, Int.natAbs_mul, show (35 : Nat) = 23 + 12 from rfl, Nat.pow_add]
        exact Nat.mul_lt_mul'' (bP j) fz
      have lM : (pmul (oP s k) [zs.getD k 0]).length ≤ 20 := Nat.le_trans (pmul_len _ _) (by simp; omega)
      have hadd := fun (W : World) (u1 u2 : Value) (g1 : IsLN W u1 (oS s zs k)) (g2 : IsLN W u2 (pmul (oP s k) [zs.getD k 0])) => addR_any _ _ u1 u2 W g1 g2 (by omega) (by omega) (bO.fitL (by omega)) (bM.fitL (by omega))
      rw [show tz (sumTo (oS s zs k) (pmul (oP s k) [zs.getD k 0]) (max (oS s zs k).length (pmul (oP s k) [zs.getD k 0]).length)) = oS s zs (k + 1) from n1'] at hadd
      have hmul2 := fun (W : World) (u1 u2 : Value) (g1 : IsLN W u1 (oP s k)) (g2 : IsLN W u2 [s, 1]) => mulR_any (oP s k) [s, 1] 23 2 u1 u2 W g1 g2 (by omega) (by simp) bP (pair_bd hs) (by omega)
      rw [n2'] at hmul2
      have HM1 : Hid _ := hmul1
      have HM2 : Hid _ := hmul2
      have HADD : Hid _ := hadd
      clear hmul1 hmul2 hadd n1' n2' bO bP lO lP bM lM fz
      obtain ⟨O2, HO2e⟩ : ∃ O2, Hid (oS s zs (k + 1) = O2) := ⟨_, rfl⟩
      obtain ⟨P2, HP2e⟩ : ∃ P2, Hid (oP s (k + 1) = P2) := ⟨_, rfl⟩
      rw [HO2e.out] at HADD
      rw [HP2e.out] at HM2
      generalize pmul (oP s k) [zs.getD k 0] = PM at *
      generalize oS s zs k = O1 at *
      generalize oP s k = P1 at *
      generalize zs.getD k 0 = z at *
      go_wp2_with fail
      generalize hW3 : wr.alloc (Obj.cells #[Value.bool b, Value.slice xa xn xc] 74) = W3
      obtain ⟨hb3, _⟩ := one_newN hW3
      have hs3 : W3.heap.size = wr.heap.size + 1 := by rw [← hW3]; simp
      clear hW3
      have hbw3 := hb3
      generalize hW4 : W3.alloc (Obj.cells #[Value.bool b, Value.slice xa xn xc] 74) = W4
      obtain ⟨hb4, hL4⟩ := one_listN hW4 (hI.below hb3)
      rw [hs3] at hL4
      clear hW4
      have hb4w : Below wr.heap.size wr W4 := hb3.trans (hb4.mono hb3.size)
      refine (HM1.out W4 _ _ (OwnLN.below hP hb4w) hL4).mono ?_
      rintro en w5 ⟨x5, rfl, hI5, hb5⟩
      obtain ⟨a5, c5, rfl⟩ := OwnLN.val hI5
      have hb5w : Below wr.heap.size wr w5 := hb4w.trans (hb5.mono hb4w.size)
      go_wp2_with fail
      refine (HADD.out w5 _ _ (OwnLN.below hO hb5w) hI5).mono ?_
      rintro en w6 ⟨x6, rfl, hI6, hb6⟩
      obtain ⟨a6, c6, rfl⟩ := OwnLN.val hI6
      have hb6w : Below wr.heap.size wr w6 := hb5w.trans (hb6.mono hb5w.size)
      go_wp2_with fail
      refine (HO2.out w6).mono ?_
      rintro en w7 ⟨x7, rfl, hI7, hb7⟩
      obtain ⟨b7, a7, n7, c7, _, rfl, _, _⟩ := id hI7.open
      have hb7w : Below wr.heap.size wr w7 := hb6w.trans (hb7.mono hb6w.size)
      go_wp2_with fail
      refine (HO1.out w7).mono ?_
      rintro en w8 ⟨x8, rfl, hI8, hb8⟩
      obtain ⟨b8, a8, n8, c8, _, rfl, _, _⟩ := id hI8.open
      have hb8w : Below wr.heap.size wr w8 := hb7w.trans (hb8.mono hb7w.size)
      go_wp2_with fail
      generalize hW9 : w8.alloc (Obj.cells #[Value.bool b7, Value.slice a7 n7 c7, Value.bool b8, Value.slice a8 n8 c8] 74) = W9
      obtain ⟨hb9, hL9⟩ := two_listN hW9 (hI7.below hb8) hI8
      clear hW9
      have hb9w : Below wr.heap.size wr W9 := hb8w.trans (hb9.mono hb8w.size)
      refine (HM2.out W9 _ _ (OwnLN.below hP hb9w) hL9).mono ?_
      rintro en w10 ⟨x10, rfl, hI10, hb10⟩
      obtain ⟨a10, c10, rfl⟩ := OwnLN.val hI10
      have hb10w : Below wr.heap.size wr w10 := hb9w.trans (hb10.mono hb9w.size)
      have hO10 := OwnLN.below (OwnLN.below (OwnLN.below (OwnLN.below hI6 hb7) hb8) hb9) hb10
      go_wp2
      go_roundw
      case rel => exact ⟨k + 1, by omega, by go_num, by rw [HO2e.out]; exact hO10, by rw [HP2e.out]; exact hI10, hbel.trans (hb10w.mono hbel.size)⟩
      case measure => simp [intOf]; omega
    · obtain rfl : k = zs.length := by omega
      go_wp2
      go_ret
      exact ⟨_, rfl, hO, hbel⟩

end Go.Proofs.YtldcjkhbiffdoaaGreatDoor
