import Derived.Test.YtldcjkhbiffdoaaGreatDoorM18
import Derived.Test.YtldcjkhbiffdoaaGreatDoorM03
import Derived.Test.YtldcjkhbiffdoaaGreatDoorM13
import Derived.Test.YtldcjkhbiffdoaaGreatDoorM14
import Derived.Test.YtldcjkhbiffdoaaGreatDoorM12
import Derived.Deep.RegionHeld3

/-
  factorref: polynomials that a call makes: of one number, of two, and by 'make' with one number written in.
-/
namespace Go.Proofs.YtldcjkhbiffdoaaGreatDoor
open Go.RowKit

theorem num_oneCell {w : World} {b : Bool} {y : Value} {z : Int} (hz : IsN w (.agg #[.bool b, y]) z) : ∃ a n c, y = .slice a n c := by
  obtain ⟨b', x', l, e, hr, _⟩ := hz
  simp at e
  obtain ⟨_, rfl⟩ := e
  obtain ⟨xa, xc, rfl⟩ := hr.val
  exact ⟨_, _, _, rfl⟩

/-- 'Poly{c}'. -/
theorem one_listN {w W : World} {b : Bool} {y : Value} {z : Int} (h : w.alloc (.cells #[.bool b, y] 74) = W) (hz : IsN w (.agg #[.bool b, y]) z) :
    Below w.heap.size w W ∧ IsLN W (.slice (some ⟨w.heap.size, 0, none⟩) 1 1) [z] := by
  subst h
  have hb := below_one w (.cells #[.bool b, y] 74)
  refine ⟨hb, [(b, y)], rfl, ⟨rfl, .inr ⟨w.heap.size, 1, #[.bool b, y], rfl, Nat.zero_le _, heap_alloc_new w _, Nat.le_refl _, by simp [maxLen], rfl, rfl⟩⟩, fun i p hp => ?_⟩
  cases i with
  | zero => simp at hp; subst hp; exact hz.below hb
  | succ i => simp at hp

/-- 'Poly{c, d}'. -/
theorem two_listN {w W : World} {b b2 : Bool} {y y2 : Value} {z z2 : Int} (h : w.alloc (.cells #[.bool b, y, .bool b2, y2] 74) = W) (hz : IsN w (.agg #[.bool b, y]) z) (hz2 : IsN w (.agg #[.bool b2, y2]) z2) :
    Below w.heap.size w W ∧ IsLN W (.slice (some ⟨w.heap.size, 0, none⟩) 2 2) [z, z2] := by
  subst h
  have hb := below_one w (.cells #[.bool b, y, .bool b2, y2] 74)
  refine ⟨hb, [(b, y), (b2, y2)], rfl, ⟨rfl, .inr ⟨w.heap.size, 2, #[.bool b, y, .bool b2, y2], rfl, Nat.zero_le _, heap_alloc_new w _, Nat.le_refl _, by simp [maxLen], rfl, rfl⟩⟩, fun i p hp => ?_⟩
  match i, hp with
  | 0, hp => simp at hp; subst hp; exact hz.below hb
  | 1, hp => simp at hp; subst hp; exact hz2.below hb
  | i + 2, hp => simp at hp

theorem made_nums (n : Nat) : (madeCells (Value.agg #[.bool false, .slice none 0 0]).cells (n * 2)).toList = flat (List.replicate n (false, .slice none 0 0)) := by
  have hz : (Value.agg #[.bool false, .slice none 0 0]).cells = #[.bool false, .slice none 0 0] := by rfl
  rw [hz]
  refine List.ext_getElem? fun i => ?_
  rcases Nat.lt_or_ge i (n * 2) with h | h
  · have h1 : (madeCells #[Value.bool false, .slice none 0 0] (n * 2)).toList[i]? = some ((#[Value.bool false, .slice none 0 0] : Array Value)[i % 2]!) := by
      simp [madeCells, h]
    rw [h1]
    obtain ⟨e1, e2⟩ := flat_at (List.replicate n (false, Value.slice none 0 0)) (i / 2) (false, .slice none 0 0) (by rw [List.getElem?_replicate, if_pos (by omega)])
    rcases Nat.mod_two_eq_zero_or_one i with h2 | h2
    · rw [h2]
      rw [show i / 2 * 2 = i by omega] at e1
      rw [e1]; rfl
    · rw [h2]
      rw [show i / 2 * 2 + 1 = i by omega] at e2
      rw [e2]; rfl
  · rw [List.getElem?_eq_none (by rw [Array.length_toList, size_madeCells]; exact h), List.getElem?_eq_none (by rw [flat_length]; simpa using h)]

theorem flat_set : ∀ (cs : List (Bool × Value)) (i : Nat) (b : Bool) (y : Value), ((flat cs).set (i * 2) (.bool b)).set (i * 2 + 1) y = flat (cs.set i (b, y))
  | [], i, b, y => by simp [flat]
  | p :: cs, 0, b, y => by simp [flat]
  | p :: cs, i + 1, b, y => by
    rw [show (i + 1) * 2 = i * 2 + 1 + 1 by omega]
    simp only [flat, List.set_cons_succ, flat_set cs i b y]

/-- 'make(Poly, n)'. -/
theorem wpList_makeP {ops : Array Oper} {rest : List Oper} {o : Oper} {a : Act} {Q : Exit → Act → World → Prop} {w : World} (hg : o.guard = none) (l c : Operand) (hop : o.op = Op.makeSlice 33 l c)
    (L C : Int) (n : Nat) (hl : a.eval l = .int .i64 L) (hc : a.eval c = .int .i64 C) (hL : L = (n : Int)) (hC : C = (n : Int)) (hn : n ≤ 1000000000)
    (hK : ∀ w' xs, Hid (xs = flat (List.replicate n (false, .slice none 0 0))) → w'.ownsRow w.heap.size 74 2 (.slice (some ⟨w.heap.size, 0, none⟩) n n) n xs → Below w.heap.size w w' → wpList Tryz.prog ops Q rest (a.put o.dst (.slice (some ⟨w.heap.size, 0, none⟩) n n)) w') :
    wpList Tryz.prog ops Q (o :: rest) a w := by
  obtain ⟨i, hi, hz0, hz1, hz2⟩ := info_parts Tryz.infoNum
  refine wpList_make_full w hg l c 33 hop w.heap.size 74 i (.agg #[.bool false, .slice none 0 0]) 2 Tryz.slicePoly hi hz0 hz1 .i64 .i64 L C n hl hc hL hC (by rw [hz2]; omega) (by unfold maxLen; omega) (Nat.le_refl _) ?_
  intro w' h1 h2
  rw [made_nums] at h1
  exact hK w' _ rfl h1 ((Below.refl _ _).grown h2 (Nat.le_refl _) (fun k hk => by cases hk))

/-- What the cells of a made list are, ahead of the store. -/
theorem made_cells {w : World} {B g n : Nat} {xs : List Value} (H : Hid (xs = flat (List.replicate n (false, .slice none 0 0)))) (h : w.ownsRow B 74 2 (.slice (some ⟨g, 0, none⟩) n n) n xs) {i : Nat} (hi : i < n) :
    w.cell? ⟨g, i * 2, none⟩ = some (.bool false) ∧ w.cell? ⟨g, i * 2 + 1, none⟩ = some (.slice none 0 0) := by
  obtain ⟨e1, e2⟩ := flat_at (List.replicate n (false, Value.slice none 0 0)) i (false, .slice none 0 0) (by rw [List.getElem?_replicate, if_pos hi])
  rw [← H.out] at e1 e2
  exact ⟨by rw [h.cellAt (i * 2) (by omega)]; exact e1, by rw [h.cellAt (i * 2 + 1) (by omega)]; exact e2⟩

/-- 'make(Poly, n)' with a number written at the end. -/
theorem made_mono {w : World} {B g d : Nat} {xs : List Value} (H : Hid (xs = flat (List.replicate (d + 1) (false, .slice none 0 0)))) (h : w.ownsRow B 74 2 (.slice (some ⟨g, 0, none⟩) (d + 1) (d + 1)) (d + 1) xs) {b : Bool} {a : Option Addr} {n c : Nat} {z : Int} (hz : IsN w (.agg #[.bool b, .slice a n c]) z) :
    IsLN ((w.setCell ⟨g, d * 2, none⟩ (.bool b)).setCell ⟨g, d * 2 + 1, none⟩ (.slice a n c)) (.slice (some ⟨g, 0, none⟩) (d + 1) (d + 1)) (mono d z) ∧ Below B w ((w.setCell ⟨g, d * 2, none⟩ (.bool b)).setCell ⟨g, d * 2 + 1, none⟩ (.slice a n c)) := by
  have h1 := (World.ownsRow.stored h (d * 2) (.bool b)).1
  have h2 := (World.ownsRow.stored h1 (d * 2 + 1) (.slice a n c)).1
  rw [H.out, flat_set] at h2
  have hB : B ≤ g := (World.ownsRow.lt h g rfl).1
  have hty : ∃ cur, w.heap[g]? = some (.cells cur 74 (0, 0)) := by
    rcases h.2 with ⟨h0, _⟩ | ⟨g', cap, cur, hv, _, hg, _⟩
    · cases h0
    · simp at hv
      obtain ⟨rfl, _⟩ := hv
      exact ⟨cur, hg⟩
  refine ⟨⟨(List.replicate (d + 1) (false, .slice none 0 0)).set d (b, .slice a n c), by simp [mono_len], ?_, fun i p hp => ?_⟩, ((Below.refl _ _).setCell hB _).setCell hB _⟩
  · rw [mono_len]
    refine ⟨h2.1, ?_⟩
    rcases h2.2 with h | ⟨g', cap, cur, hv, hb, r⟩
    · exact .inl h
    · exact .inr ⟨g', cap, cur, hv, Nat.zero_le _, r⟩
  · rw [mono_getD]
    by_cases hi : i = d
    · subst hi
      rw [if_pos rfl]
      have hp2 : p = (b, .slice a n c) := by
        rw [List.getElem?_set_self (by simp)] at hp
        exact (Option.some.inj hp).symm
      rw [hp2]
      obtain ⟨b', x', l, e, hr, hl⟩ := hz
      simp at e
      obtain ⟨rfl, rfl⟩ := e
      refine ⟨_, _, l, rfl, ?_, hl⟩
      have hne : ∀ k, (Value.slice a n c).ownBlock = some k → k ≠ g := by
        intro k hk e
        obtain ⟨cur, hc⟩ := hty
        rcases hr.2 with ⟨hn, _⟩ | ⟨k', cap, cur', hv, _, hk', _⟩
        · rw [hn] at hk; simp [Value.ownBlock] at hk
        · rw [hv] at hk
          simp [Value.ownBlock] at hk
          rw [hk, e, hc] at hk'
          simp at hk'
      exact ownsRow_setCell_other (ownsRow_setCell_other hr (fun e => hne g e rfl) _) (fun e => hne g e rfl) _
    · rw [if_neg hi]
      have hp2 : p = (false, .slice none 0 0) := by
        rw [List.getElem?_set_ne (fun e => hi e.symm), List.getElem?_replicate] at hp
        split at hp
        · exact (Option.some.inj hp).symm
        · cases hp
      rw [hp2]
      exact zeroNum

/-- 'l = append(l, y)', the place of the one number given by a word of its own. -/
theorem wpList_pushNumE {ops : Array Oper} {rest : List Oper} {o : Oper} {a : Act} {Q : Exit → Act → World → Prop} {wr : World} (hgd : o.guard = none) (s x : Operand)
    (ho : o.op = .call { callee := .builtin .append, args := #[s, x], argTypes := #[33, 33] })
    (B : Nat) (v : Value) (zs : List Int) (b : Bool) (y : Value) (z : Int) (q : Nat) (hq : q = wr.heap.size) (hs : a.eval s = v) (hown : OwnLN B wr v zs) (hz : IsN wr (.agg #[.bool b, y]) z) (hx : a.eval x = .slice (some ⟨q, 0, none⟩) 1 1)
    (hlen : zs.length ≤ 1000000000) (hB : B ≤ wr.heap.size)
    (h : ∀ v' w', OwnLN B w' v' (zs ++ [z]) → Below B wr w' → wr.grownBy w' v.ownBlock → wpList Tryz.prog ops Q rest (a.put o.dst v') w') :
    wpList Tryz.prog ops Q (o :: rest) a (wr.alloc (.cells #[.bool b, y] 74)) := by
  subst hq
  exact wpList_pushNum hgd s x ho B v zs b y z hs hown hz hx hlen hB h

/-- A number in a box, behind an append to a list that is younger than the box. -/
theorem IsK.grown {B k : Nat} {w w' : World} {v : Value} {zs : List Int} {z : Int} (h : IsK w k z) (hown : OwnLN B w v zs) (hk : k < B) (hg : w.grownBy w' v.ownBlock) : IsK w' k z := by
  obtain ⟨b, a, n, c, hx, hI⟩ := h
  refine ⟨b, a, n, c, ?_, hI.kept hg hown.typ⟩
  have hlt := hx.lt
  unfold BxN at hx ⊢
  rw [hg.block k hlt ?_]
  · exact hx
  · intro e
    have := hown.block k e.symm
    omega

/-- The sum, without noughts at the end. -/
def padd (xs ys : List Int) : List Int := tz (sumTo xs ys (max xs.length ys.length))
theorem padd_getD (xs ys : List Int) (k : Nat) : (padd xs ys).getD k 0 = xs.getD k 0 + ys.getD k 0 := by
  unfold padd
  rw [tz_getD, show sumTo xs ys (max xs.length ys.length) = tab (max xs.length ys.length) fun k => xs.getD k 0 + ys.getD k 0 from rfl, tab_getD]
  split
  · rfl
  · rw [getD_out (show xs.length ≤ k by omega), getD_out (show ys.length ≤ k by omega)]; rfl
theorem padd_tr (xs ys : List Int) : Tr (padd xs ys) := tr_tz _
theorem padd_len (xs ys : List Int) : (padd xs ys).length ≤ max xs.length ys.length :=
  (padd_tr xs ys).lenN fun k hk => by rw [padd_getD, getD_out (show xs.length ≤ k by omega), getD_out (show ys.length ≤ k by omega)]; rfl

theorem negs_getD (zs : List Int) (k : Nat) : (zs.map fun z => -z).getD k 0 = -(zs.getD k 0) := by
  rcases Nat.lt_or_ge k zs.length with h | h
  · simp [List.getD, List.getElem?_map, List.getElem?_eq_getElem h]
  · rw [getD_out (by simpa using h), getD_out h]; rfl

end Go.Proofs.YtldcjkhbiffdoaaGreatDoor

/-
  poly.Add, Sub, Mul.
-/
namespace Go.Proofs.YtldcjkhbiffdoaaGreatDoor
open Go.RowKit

/-- What a call that ends in 'bounded' answers: the polynomial, the error. -/
def BoundedV (w : World) (t : List Int) (p : Value) (er : Int) : Prop := (inB t = true ∧ er = 0 ∧ IsP w p t) ∨ (inB t = false ∧ er = 3 ∧ p = .pointer none)

theorem bounded2_any (zs : List Int) (v : Value) (w : World) (hv : IsL w v zs) (hl : zs.length ≤ 1000000) (hf : FitW zs) (ht : Tab w) :
    Calls Tryz.prog 56 #[v] w fun e w' => ∃ p er, e = .returned (.tuple #[p, .int .i64 er]) ∧ BoundedV w' (tz zs) p er ∧ Below w.heap.size w w' := by
  refine (bounded_any zs v w hv hl (fun i _ => hf i) ht).mono ?_
  rintro e w' ⟨h, hb⟩
  rcases h with ⟨h1, p, rfl, hp⟩ | ⟨h1, rfl⟩
  · exact ⟨p, 0, rfl, .inl ⟨h1, rfl, hp⟩, hb⟩
  · exact ⟨_, 3, rfl, .inr ⟨h1, rfl, rfl⟩, hb⟩

theorem inB_bd {zs : List Int} (h : inB zs = true) : Bd zs 12 := by
  intro k
  rcases Nat.lt_or_ge k zs.length with h1 | h1
  · have h2 := inB_at h h1
    have h3 := Lib.lt_pow_nDigits (zs.getD k 0).natAbs
    exact Nat.lt_of_lt_of_le h3 (Nat.pow_le_pow_right (by omega) h2)
  · rw [getD_out h1]; exact Nat.pow_pos (by omega)

theorem IsP.open {w : World} {p : Value} {zs : List Int} (h : IsP w p zs) : ∃ k a c, p = .pointer (some ⟨k, 0, none⟩) ∧ k < w.heap.size ∧ w.cell? ⟨k, 0, none⟩ = some (.slice a zs.length c) ∧ IsL w (.slice a zs.length c) zs := by
  obtain ⟨k, v, rfl, h2, h3⟩ := h
  obtain ⟨a, c, rfl⟩ := OwnL.val h3
  exact ⟨k, a, c, rfl, lt_of_block h2, by simp [World.cell?, h2], h3⟩

theorem psub_getD (xs ys : List Int) (k : Nat) : (tab (max xs.length ys.length) fun k => xs.getD k 0 - ys.getD k 0).getD k 0 = xs.getD k 0 - ys.getD k 0 := by
  rw [tab_getD]
  split
  · rfl
  · rw [getD_out (show xs.length ≤ k by omega), getD_out (show ys.length ≤ k by omega)]; rfl
theorem psum_getD (xs ys : List Int) (k : Nat) : (tab (max xs.length ys.length) fun k => xs.getD k 0 + ys.getD k 0).getD k 0 = xs.getD k 0 + ys.getD k 0 := by
  rw [tab_getD]
  split
  · rfl
  · rw [getD_out (show xs.length ≤ k by omega), getD_out (show ys.length ≤ k by omega)]; rfl

set_option maxHeartbeats 2000000 in
theorem addP_any (xs ys : List Int) (u v : Value) (w : World) (hu : IsP w u xs) (hv : IsP w v ys) (hx : inB xs = true) (hy : inB ys = true) (ht : Tab w) :
    Calls Tryz.prog 26 #[u, v] w fun e w' => ∃ p er, e = .returned (.tuple #[p, .int .i64 er]) ∧ BoundedV w' (padd xs ys) p er ∧ Below w.heap.size w w' := by
  obtain ⟨k1, a1, c1, rfl, hk1, q1, hL1⟩ := hu.open
  obtain ⟨k2, a2, c2, rfl, hk2, q2, hL2⟩ := hv.open
  have lx := inB_len hx
  have ly := inB_len hy
  have hS := fun (W : World) (h : Below w.heap.size w W) => psum_any xs ys _ _ W (OwnL.below hL1 h) (OwnL.below hL2 h) (by omega) (by omega) ((inB_bd hx).fitW (by omega)) ((inB_bd hy).fitW (by omega))
  have hB := fun (W : World) (u1 : Value) (g : IsL W u1 (tab (max xs.length ys.length) fun k => xs.getD k 0 + ys.getD k 0)) (g2 : Tab W) => bounded2_any _ u1 W g (by rw [tab_len]; omega) (fun k => by
    rw [psum_getD]
    refine fitW_of (e := 13) ?_ (by omega)
    have := inB_bd hx k
    have := inB_bd hy k
    rw [Nat.pow_succ]
    omega) g2
  rw [show tz (tab (max xs.length ys.length) fun k => xs.getD k 0 + ys.getD k 0) = padd xs ys from rfl] at hB
  generalize (tab (max xs.length ys.length) fun k => xs.getD k 0 + ys.getD k 0) = L at *
  generalize padd xs ys = P at *
  have HS : Hid _ := hS
  have HB : Hid _ := hB
  clear hS hB hx hy
  have hbd : Below w.heap.size w w.drew := ⟨rfl, rfl, rfl, Nat.le_refl _, fun _ _ => rfl⟩
  go_enter Tryz.func26, Tryz.ntmps26
  go_wp2_with fail
  go_region_held3 (fun w' => w'.cell? ⟨k1, 0, none⟩ = some (.slice a1 xs.length c1) ∧ w'.cell? ⟨k2, 0, none⟩ = some (.slice a2 ys.length c2))
    (first | exact ⟨q1, q2⟩ | exact ⟨r1, r2⟩ | exact ⟨s1, s2⟩)
    (first
      | (go_at_call 57; refine (HS.out _ hbd).mono ?_; rintro e w1 ⟨x1, rfl, hI1, hb1⟩; obtain ⟨oa, oc, rfl⟩ := OwnL.val hI1; have hb1w : Below w.heap.size w w1 := hbd.trans hb1; have r1 := (hb1w.cell (p := ⟨k1, 0, none⟩) hk1).trans q1; have r2 := (hb1w.cell (p := ⟨k2, 0, none⟩) hk2).trans q2)
      | (go_at_call 56; refine (HB.out _ _ hI1.isL (ht.below hb1w)).mono ?_; rintro e w2 ⟨p, er, rfl, hBV, hb2⟩; have hb2w : Below w.heap.size w w2 := hb1w.trans (hb2.mono hb1w.size); have s1 := (hb2w.cell (p := ⟨k1, 0, none⟩) hk1).trans q1; have s2 := (hb2w.cell (p := ⟨k2, 0, none⟩) hk2).trans q2))
  all_goals
    go_wp2
    go_ret2
    exact ⟨_, _, rfl, hBV, hb2w⟩

theorem psub_same (xs ys : List Int) : tz (tab (max xs.length ys.length) fun k => xs.getD k 0 - ys.getD k 0) = padd xs (ys.map fun z => -z) :=
  tz_eq (padd_tr _ _) fun k => by rw [psub_getD, padd_getD, negs_getD]; omega

set_option maxHeartbeats 2000000 in
theorem subP_any (xs ys : List Int) (u v : Value) (w : World) (hu : IsP w u xs) (hv : IsP w v ys) (hx : inB xs = true) (hy : inB ys = true) (ht : Tab w) :
    Calls Tryz.prog 29 #[u, v] w fun e w' => ∃ p er, e = .returned (.tuple #[p, .int .i64 er]) ∧ BoundedV w' (padd xs (ys.map fun z => -z)) p er ∧ Below w.heap.size w w' := by
  obtain ⟨k1, a1, c1, rfl, hk1, q1, hL1⟩ := hu.open
  obtain ⟨k2, a2, c2, rfl, hk2, q2, hL2⟩ := hv.open
  have lx := inB_len hx
  have ly := inB_len hy
  have hS := fun (W : World) (h : Below w.heap.size w W) => pdiff_any xs ys _ _ W (OwnL.below hL1 h) (OwnL.below hL2 h) (by omega) (by omega) ((inB_bd hx).fitW (by omega)) ((inB_bd hy).fitW (by omega))
  have hB := fun (W : World) (u1 : Value) (g : IsL W u1 (tab (max xs.length ys.length) fun k => xs.getD k 0 - ys.getD k 0)) (g2 : Tab W) => bounded2_any _ u1 W g (by rw [tab_len]; omega) (fun k => by
    rw [psub_getD]
    refine fitW_of (e := 13) ?_ (by omega)
    have := inB_bd hx k
    have := inB_bd hy k
    rw [Nat.pow_succ]
    omega) g2
  rw [show tz (tab (max xs.length ys.length) fun k => xs.getD k 0 - ys.getD k 0) = padd xs (ys.map fun z => -z) from psub_same xs ys] at hB
  generalize (tab (max xs.length ys.length) fun k => xs.getD k 0 - ys.getD k 0) = L at *
  generalize padd xs (ys.map fun z => -z) = P at *
  have HS : Hid _ := hS
  have HB : Hid _ := hB
  clear hS hB hx hy
  have hbd : Below w.heap.size w w.drew := ⟨rfl, rfl, rfl, Nat.le_refl _, fun _ _ => rfl⟩
  go_enter Tryz.func29, Tryz.ntmps29
  go_wp2_with fail
  go_region_held3 (fun w' => w'.cell? ⟨k1, 0, none⟩ = some (.slice a1 xs.length c1) ∧ w'.cell? ⟨k2, 0, none⟩ = some (.slice a2 ys.length c2))
    (first | exact ⟨q1, q2⟩ | exact ⟨r1, r2⟩ | exact ⟨s1, s2⟩)
    (first
      | (go_at_call 61; refine (HS.out _ hbd).mono ?_; rintro e w1 ⟨x1, rfl, hI1, hb1⟩; obtain ⟨oa, oc, rfl⟩ := OwnL.val hI1; have hb1w : Below w.heap.size w w1 := hbd.trans hb1; have r1 := (hb1w.cell (p := ⟨k1, 0, none⟩) hk1).trans q1; have r2 := (hb1w.cell (p := ⟨k2, 0, none⟩) hk2).trans q2)
      | (go_at_call 56; refine (HB.out _ _ hI1.isL (ht.below hb1w)).mono ?_; rintro e w2 ⟨p, er, rfl, hBV, hb2⟩; have hb2w : Below w.heap.size w w2 := hb1w.trans (hb2.mono hb1w.size); have s1 := (hb2w.cell (p := ⟨k1, 0, none⟩) hk1).trans q1; have s2 := (hb2w.cell (p := ⟨k2, 0, none⟩) hk2).trans q2))
  all_goals
    go_wp2
    go_ret2
    exact ⟨_, _, rfl, hBV, hb2w⟩


set_option maxHeartbeats 2000000 in
theorem mulP_any (xs ys : List Int) (u v : Value) (w : World) (hu : IsP w u xs) (hv : IsP w v ys) (hx : inB xs = true) (hy : inB ys = true) (ht : Tab w) :
    Calls Tryz.prog 31 #[u, v] w fun e w' => ∃ p er, e = .returned (.tuple #[p, .int .i64 er]) ∧ BoundedV w' (pmul xs ys) p er ∧ Below w.heap.size w w' := by
  obtain ⟨k1, a1, c1, rfl, hk1, q1, hL1⟩ := hu.open
  obtain ⟨k2, a2, c2, rfl, hk2, q2, hL2⟩ := hv.open
  have lx := inB_len hx
  have ly := inB_len hy
  have hS := fun (W : World) (h : Below w.heap.size w W) => product_any xs ys 12 12 _ _ W (OwnL.below hL1 h) (OwnL.below hL2 h) (by omega) (by omega) (inB_bd hx) (inB_bd hy) (by omega)
  have hB := fun (W : World) (u1 : Value) (g : IsL W u1 (prodTo xs ys (xs.length + ys.length - 1))) (g2 : Tab W) => bounded2_any _ u1 W g (by unfold prodTo; rw [tab_len]; omega) (fun k => by
    rw [prodTo_getD]
    rcases Nat.lt_or_ge k 1000 with h | h
    · exact fitW_of (pk_lt (inB_bd hx) (inB_bd hy) (by omega)) (by omega)
    · rw [pk_out _ _ _ (by omega)]; exact fitW_of (e := 1) (by decide) (by omega)) g2
  rw [show tz (prodTo xs ys (xs.length + ys.length - 1)) = pmul xs ys from rfl] at hB
  generalize prodTo xs ys (xs.length + ys.length - 1) = L at *
  generalize pmul xs ys = P at *
  have HS : Hid _ := hS
  have HB : Hid _ := hB
  clear hS hB hx hy
  have hbd : Below w.heap.size w w.drew := ⟨rfl, rfl, rfl, Nat.le_refl _, fun _ _ => rfl⟩
  go_enter Tryz.func31, Tryz.ntmps31
  go_wp2_with fail
  go_region_held3 (fun w' => w'.cell? ⟨k1, 0, none⟩ = some (.slice a1 xs.length c1) ∧ w'.cell? ⟨k2, 0, none⟩ = some (.slice a2 ys.length c2))
    (first | exact ⟨q1, q2⟩ | exact ⟨r1, r2⟩ | exact ⟨s1, s2⟩)
    (first
      | (go_at_call 62; refine (HS.out _ hbd).mono ?_; rintro e w1 ⟨x1, rfl, hI1, hb1⟩; obtain ⟨oa, oc, rfl⟩ := OwnL.val hI1; have hb1w : Below w.heap.size w w1 := hbd.trans hb1; have r1 := (hb1w.cell (p := ⟨k1, 0, none⟩) hk1).trans q1; have r2 := (hb1w.cell (p := ⟨k2, 0, none⟩) hk2).trans q2)
      | (go_at_call 56; refine (HB.out _ _ hI1.isL (ht.below hb1w)).mono ?_; rintro e w2 ⟨p, er, rfl, hBV, hb2⟩; have hb2w : Below w.heap.size w w2 := hb1w.trans (hb2.mono hb1w.size); have s1 := (hb2w.cell (p := ⟨k1, 0, none⟩) hk1).trans q1; have s2 := (hb2w.cell (p := ⟨k2, 0, none⟩) hk2).trans q2))
  all_goals
    go_wp2
    go_ret2
    exact ⟨_, _, rfl, hBV, hb2w⟩

end Go.Proofs.YtldcjkhbiffdoaaGreatDoor

/-
  The law's World in memory: pairs, each the program's polynomial and the document's, of the same coefficients.
-/
namespace Go.Proofs.YtldcjkhbiffdoaaGreatDoor
open Go.RowKit

/-- Blocks of the law's own: its World and its pairs. -/
def isQ (e : TypeId) : Prop := e = 29 ∨ e = 35
abbrev Kq := Kg isQ
theorem okQ : Okx isQ := by unfold Okx isQ; decide

theorem RowN.kq {B : Nat} {w w' : World} {v : Value} {l : List Int} (h : RowN w v l) (hk : Kq B w w') : RowN w' v l := by
  refine ⟨h.1, ?_⟩
  rcases h.2 with h1 | ⟨g, cap, cur, hv, hb0, hg, r⟩
  · exact .inl h1
  · exact .inr ⟨g, cap, cur, hv, hb0, hk.keep g _ _ _ hg (by unfold isQ; decide), r⟩
theorem IsN.kq {B : Nat} {w w' : World} {v : Value} {z : Int} (h : IsN w v z) (hk : Kq B w w') : IsN w' v z := by
  obtain ⟨b, x, l, h1, h2, h3⟩ := h
  exact ⟨b, x, l, h1, h2.kq hk, h3⟩
theorem IsLN.kq {B : Nat} {w w' : World} {v : Value} {zs : List Int} (h : IsLN w v zs) (hk : Kq B w w') : IsLN w' v zs := by
  obtain ⟨cs, h1, h2, h3⟩ := h
  refine ⟨cs, h1, ⟨h2.1, ?_⟩, fun i p hp => (h3 i p hp).kq hk⟩
  rcases h2.2 with h | ⟨g, cap, cur, hv, hB, hg, r⟩
  · exact .inl h
  · exact .inr ⟨g, cap, cur, hv, hB, hk.keep g _ _ _ hg (by unfold isQ; decide), r⟩
theorem IsL.kq {B : Nat} {w w' : World} {v : Value} {zs : List Int} (h : IsL w v zs) (hk : Kq B w w') : IsL w' v zs := by
  obtain ⟨cs, h1, h2, h3⟩ := h
  refine ⟨cs, h1, ⟨h2.1, ?_⟩, fun i p hp => (h3 i p hp).kp hk okQ⟩
  rcases h2.2 with h | ⟨g, cap, cur, hv, hB, hg, r⟩
  · exact .inl h
  · exact .inr ⟨g, cap, cur, hv, hB, hk.keep g _ _ _ hg (by unfold isQ; decide), r⟩
theorem IsP.kq {B : Nat} {w w' : World} {v : Value} {zs : List Int} (h : IsP w v zs) (hk : Kq B w w') : IsP w' v zs := by
  obtain ⟨k, v, rfl, h2, h3⟩ := h
  exact ⟨k, v, rfl, hk.keep k _ _ _ h2 (by unfold isQ; decide), h3.kq hk⟩

/-- A pair: of the same coefficients, in the bounds. -/
structure PairOK (w : World) (x m : Value) (zs : List Int) : Prop where
  p : IsP w x zs
  n : IsLN w m zs
  tr : Tr zs
  ib : inB zs = true

theorem PairOK.kq {B : Nat} {w w' : World} {x m : Value} {zs : List Int} (h : PairOK w x m zs) (hk : Kq B w w') : PairOK w' x m zs := ⟨h.p.kq hk, h.n.kq hk, h.tr, h.ib⟩
theorem PairOK.below {w w' : World} {x m : Value} {zs : List Int} (h : PairOK w x m zs) (hb : Below w.heap.size w w') : PairOK w' x m zs := ⟨h.p.below hb, OwnLN.below h.n hb, h.tr, h.ib⟩

def flatP : List (Value × Value) → List Value
  | [] => []
  | p :: l => p.1 :: p.2 :: flatP l

theorem flatP_append (a b : List (Value × Value)) : flatP (a ++ b) = flatP a ++ flatP b := by
  induction a with
  | nil => rfl
  | cons p a ih => simp [flatP, ih]

theorem flatP_at : ∀ (a : List (Value × Value)) (i : Nat) (p : Value × Value), a[i]? = some p → (flatP a)[i * 2]? = some p.1 ∧ (flatP a)[i * 2 + 1]? = some p.2
  | [], i, p, h => by simp at h
  | q :: a, 0, p, h => by simp at h; subst h; simp [flatP]
  | q :: a, i + 1, p, h => by
    have := flatP_at a i p (by simpa using h)
    rw [show (i + 1) * 2 = i * 2 + 1 + 1 by omega]
    simpa [flatP] using this

def OwnQ (B : Nat) (w : World) (v : Value) (ps : List (List Int)) : Prop :=
  ∃ cs : List (Value × Value), cs.length = ps.length ∧ w.ownsRow B 35 2 v ps.length (flatP cs) ∧ ∀ i p, cs[i]? = some p → PairOK w p.1 p.2 (ps.getD i [])

theorem OwnQ.nil (B : Nat) (w : World) : OwnQ B w (.slice none 0 0) [] := ⟨[], rfl, World.ownsRow_nil w B _ _, fun i p hp => by simp at hp⟩

theorem OwnQ.block {B : Nat} {w : World} {v : Value} {ps : List (List Int)} (h : OwnQ B w v ps) : ∀ k, v.ownBlock = some k → B ≤ k := by
  obtain ⟨cs, h1, h2, h3⟩ := h
  exact fun k hk => (World.ownsRow.lt h2 k hk).1

theorem OwnQ.typ {B : Nat} {w : World} {v : Value} {ps : List (List Int)} (h : OwnQ B w v ps) : ∀ k, v.ownBlock = some k → ∃ cur, w.heap[k]? = some (.cells cur 35 (0, 0)) := by
  obtain ⟨cs, h1, h2, h3⟩ := h
  intro k hk
  rcases h2.2 with ⟨hn, _⟩ | ⟨g, cap, cur, hv, _, hg, _⟩
  · rw [hn] at hk; simp [Value.ownBlock] at hk
  · rw [hv] at hk; simp [Value.ownBlock] at hk; subst hk; exact ⟨cur, hg⟩

theorem OwnQ.val {B : Nat} {w : World} {v : Value} {ps : List (List Int)} (h : OwnQ B w v ps) : ∃ a c, v = .slice a ps.length c := by
  obtain ⟨cs, h1, h2, h3⟩ := h
  rcases h2.2 with ⟨h, h'⟩ | ⟨g, cap, cur, hv, _⟩
  · exact ⟨none, 0, by rw [h']; exact h⟩
  · exact ⟨_, _, hv⟩

/-- While its own block stays. -/
theorem OwnQ.stays {B B' : Nat} {w w' : World} {v : Value} {ps : List (List Int)} (h : OwnQ B w v ps) (hk : Kq B' w w') (hs : ∀ k, v.ownBlock = some k → w'.heap[k]? = w.heap[k]?) : OwnQ B w' v ps := by
  obtain ⟨cs, h1, h2, h3⟩ := h
  refine ⟨cs, h1, ⟨h2.1, ?_⟩, fun i p hp => (h3 i p hp).kq hk⟩
  rcases h2.2 with h | ⟨g, cap, cur, hv, hB, hg, r⟩
  · exact .inl h
  · exact .inr ⟨g, cap, cur, hv, hB, by rw [hs g (by rw [hv]; rfl)]; exact hg, r⟩
theorem OwnQ.below {B : Nat} {w w' : World} {v : Value} {ps : List (List Int)} (h : OwnQ B w v ps) (hb : Below w.heap.size w w') : OwnQ B w' v ps := by
  refine h.stays (Kg.of hb (Nat.le_refl _)) (fun k hk => ?_)
  obtain ⟨cur, hc⟩ := h.typ k hk
  exact hb.block k (lt_of_block hc)
/-- A store into the World. -/
theorem OwnQ.set {B : Nat} {w : World} {v : Value} {ps : List (List Int)} (h : OwnQ B w v ps) {k o : Nat} {u : Value} {c : Array Value} (hc : w.heap[k]? = some (Obj.cells c 29 (0, 0))) : OwnQ B (w.setCell ⟨k, o, none⟩ u) v ps := by
  refine h.stays ((Kg.refl 0 w).set (Nat.zero_le _) ⟨c, _, _, hc, .inl rfl⟩) (fun j hj => ?_)
  obtain ⟨cur, hcu⟩ := h.typ j hj
  refine Below.heap_setCell _ _ _ _ (fun e => ?_)
  rw [show j = k from e, hc] at hcu
  simp at hcu

/-- A pair of it: its two cells. -/
theorem OwnQ.at {B : Nat} {w : World} {a : Option Addr} {c : Nat} {ps : List (List Int)} (h : OwnQ B w (.slice a ps.length c) ps) (i : Nat) (hi : i < ps.length) :
    ∃ g x m, a = some ⟨g, 0, none⟩ ∧ ps.length ≤ c ∧ c ≤ maxLen ∧ g < w.heap.size ∧ B ≤ g ∧ w.cell? ⟨g, i * 2, none⟩ = some x ∧ w.cell? ⟨g, i * 2 + 1, none⟩ = some m ∧ PairOK w x m (ps.getD i []) := by
  obtain ⟨cs, h1, h2, h3⟩ := h
  rcases h2.2 with ⟨_, h'⟩ | ⟨g, cap, cur, hv, hB, hg, hnc, hcm, _⟩
  · omega
  · simp only [Value.slice.injEq, true_and] at hv
    obtain ⟨rfl, rfl⟩ := hv
    have hp : cs[i]? = some cs[i] := List.getElem?_eq_getElem (by omega)
    obtain ⟨e1, e2⟩ := flatP_at cs i _ hp
    refine ⟨g, cs[i].1, cs[i].2, rfl, hnc, hcm, (Array.getElem?_eq_some_iff.1 hg).1, hB, ?_, ?_, h3 i _ hp⟩
    · rw [h2.cellAt (i * 2) (by omega)]; exact e1
    · rw [h2.cellAt (i * 2 + 1) (by omega)]; exact e2

/-- The World at the block k. -/
def IsW (B : Nat) (w : World) (k : Nat) (ps : List (List Int)) : Prop :=
  ∃ a c, w.heap[k]? = some (.cells #[.slice a ps.length c, .slice none 0 0, .bool false] 29 (0, 0)) ∧ OwnQ B w (.slice a ps.length c) ps

theorem IsW.below {B : Nat} {w w' : World} {k : Nat} {ps : List (List Int)} (h : IsW B w k ps) (hb : Below w.heap.size w w') : IsW B w' k ps := by
  obtain ⟨a, c, h1, h2⟩ := h
  exact ⟨a, c, by rw [hb.block k (lt_of_block h1)]; exact h1, h2.below hb⟩

theorem IsW.lack {B : Nat} {w : World} {k : Nat} {ps : List (List Int)} (h : IsW B w k ps) : IsW B (w.setCell ⟨k, 2, none⟩ (.bool false)) k ps := by
  obtain ⟨a, c, h1, h2⟩ := h
  refine ⟨a, c, ?_, h2.set h1⟩
  rw [heap_setCell_same w k 2 _ _ _ h1]; rfl

theorem IsW.pushed {B : Nat} {w : World} {k : Nat} {u v : Value} {ps : List (List Int)} (h : w.heap[k]? = some (.cells #[u, .slice none 0 0, .bool false] 29 (0, 0))) (hq : OwnQ B w v ps) : IsW B (w.setCell ⟨k, 0, none⟩ v) k ps := by
  obtain ⟨a, c, rfl⟩ := hq.val
  refine ⟨a, c, ?_, hq.set h⟩
  rw [heap_setCell_same w k 0 _ _ _ h]; rfl

theorem Tryz.infoPair : (Tryz.prog.info? 35).map (fun i => (i.zero, i.size, i.bytes)) = some (some (.agg #[.pointer none, .slice none 0 0]), 2, 32) := by kernel_rfl
theorem Tryz.slicePair : Tryz.prog.underlying 26 = some (.slice 35) := by kernel_rfl

theorem Kg.grownQ {w w' : World} {g : Option Nat} (hg : w.grownBy w' g) (ht : ∀ k, g = some k → ∃ cur, w.heap[k]? = some (.cells cur 35 (0, 0))) : ∀ (k : Nat) (c : Array Value) (e : TypeId) (f : Nat × Nat), w.heap[k]? = some (Obj.cells c e f) → ¬ isQ e → w'.heap[k]? = some (Obj.cells c e f) := by
  intro k c e f h0 h2
  rw [hg.block k (lt_of_block h0) (fun e0 => ?_)]
  · exact h0
  · obtain ⟨cur, hc⟩ := ht k e0.symm
    rw [h0] at hc
    simp at hc
    exact h2 (.inr hc.2.1)

/-- 'w.ps = append(w.ps, p)', as a step. -/
theorem wp_pushQ {o : Oper} {a : Act} {K : Act → World → Prop} {Q : Exit → Act → World → Prop} {W : World} (s x : Operand)
    (ho : o.op = .call { callee := .builtin .append, args := #[s, x], argTypes := #[26, 26] })
    (B : Nat) (v : Value) (ps : List (List Int)) (y u : Value) (zs : List Int) (ad : Nat) (hs : a.eval s = v) (hx : a.eval x = .slice (some ⟨ad, 0, none⟩) 1 1) (hown : OwnQ B W v ps) (hz : PairOK W y u zs)
    (hc : ∀ j q, [y, u][j]? = some q → W.cell? ((⟨ad, 0, none⟩ : Addr).add j) = some q)
    (hlen : ps.length ≤ 100000000) (hB : B ≤ W.heap.size)
    (h : ∀ v' w', OwnQ B w' v' (ps ++ [zs]) → Kq B W w' → W.grownBy w' v.ownBlock → K (a.put o.dst v') w') :
    o.wp Tryz.prog a W K Q := by
  obtain ⟨i, hi, hz0, hz1, hz2⟩ := info_parts Tryz.infoPair
  have htyp := hown.typ
  have hblk := hown.block
  obtain ⟨cs, h1, h2, h3⟩ := hown
  obtain ⟨yk, yv, rfl, _, _⟩ := hz.p
  obtain ⟨ua, uc, rfl⟩ := OwnLN.val hz.n
  refine wp_append_own _ s x 26 ho B 35 i (.agg #[.pointer none, .slice none 0 0]) 2 32 Tryz.slicePair hi hz0 hz1 hz2 rfl (by decide) v ps.length (flatP cs) hs h2 ⟨ad, 0, none⟩ 1 1 [.pointer (some ⟨yk, 0, none⟩), .slice ua zs.length uc] hx rfl hc ?_ ?_ ?_ hB ?_
  · intro q hq
    simp at hq
    rcases hq with rfl | rfl <;> rfl
  · unfold maxLen; omega
  · omega
  · intro v' w' g1 g2 _
    have hkp : Kq B W w' := ⟨(Below.refl _ _).grown g2 hB hblk, Kg.grownQ g2 htyp⟩
    refine h v' w' ⟨cs ++ [(.pointer (some ⟨yk, 0, none⟩), .slice ua zs.length uc)], by simp [h1], ?_, ?_⟩ hkp g2
    · rw [flatP_append]
      simpa [flatP] using g1
    · intro j q hj
      by_cases hjl : j < cs.length
      · rw [List.getElem?_append_left hjl] at hj
        have hj2 : (ps ++ [zs]).getD j [] = ps.getD j [] := by simp [List.getD, List.getElem?_append_left (show j < ps.length by omega)]
        rw [hj2]
        exact (h3 j q hj).kq hkp
      · rw [List.getElem?_append_right (by omega)] at hj
        have hj0 : j - cs.length = 0 := by
          rcases Nat.eq_zero_or_pos (j - cs.length) with h0 | h0
          · exact h0
          · rw [List.getElem?_eq_none (by simp; omega)] at hj; simp at hj
        rw [hj0] at hj
        simp at hj
        subst hj
        have hj2 : (ps ++ [zs]).getD j [] = zs := by
          rw [show j = ps.length by omega]; simp [List.getD]
        rw [hj2]
        exact hz.kq hkp

end Go.Proofs.YtldcjkhbiffdoaaGreatDoor

/-
  factorref: Content.
-/
namespace Go.Proofs.YtldcjkhbiffdoaaGreatDoor
open Go.RowKit

theorem FitN.gcd {g c : Int} (hg : FitN g) (hc : FitN c) : FitN (Int.gcd g c : Int) := by
  by_cases h : g = 0
  · subst h
    obtain ⟨n, hn, h1⟩ := hc
    refine ⟨n, hn, ?_⟩
    rw [Int.gcd_zero_left]
    simpa using h1
  · obtain ⟨n, hn, h1⟩ := hg
    refine ⟨n, hn, Nat.lt_of_le_of_lt ?_ h1⟩
    have := Nat.gcd_le_left c.natAbs (show 0 < g.natAbs by omega)
    unfold Int.gcd
    simpa using this

theorem cont_take {zs : List Int} {k : Nat} (h : k < zs.length) : cont (zs.take (k + 1)) = Int.gcd (cont (zs.take k) : Int) (zs.getD k 0) := by
  unfold cont
  rw [List.take_succ_eq_append_getElem h, List.foldl_append, ← getD_lt h]
  rfl

set_option maxHeartbeats 2000000 in
theorem contentR_any (zs : List Int) (u : Value) (w : World) (hu : IsLN w u zs) (hl : zs.length ≤ 1000000) (fx : FitL zs) :
    Calls Tryz.prog 72 #[u] w fun e w' => ∃ x, e = .returned x ∧ IsN w' x (cont zs : Int) ∧ Below w.heap.size w w' := by
  obtain ⟨ua, uc, rfl⟩ := OwnLN.val hu
  obtain ⟨S, HS⟩ : ∃ S, Hid (cont zs = S) := ⟨_, rfl⟩
  rw [HS.out]
  go_enter Tryz.func72, Tryz.ntmps72
  go_wp2_with fail
  generalize hW : (w.alloc (Obj.cells #[Value.bool false, Value.slice none 0 0] 74)).alloc (Obj.cells #[Value.bool false, Value.slice none 0 0] 74) = W0
  obtain ⟨hz0, hb0, X0, X1⟩ := two_newN hW
  clear hW
  have K1 : IsK W0 (w.heap.size + 1) ((cont (zs.take 0) : Nat) : Int) := ⟨_, _, _, _, X1, zeroNum⟩
  have F1 : FitN ((cont (zs.take 0) : Nat) : Int) := ⟨1, by omega, by simp [cont]⟩
  clear X1
  go_loopw [9] (fun i wr => ∃ (k : Nat), k ≤ zs.length ∧ i = .int .i64 k ∧ IsK wr (w.heap.size + 1) ((cont (zs.take k) : Nat) : Int) ∧ FitN ((cont (zs.take k) : Nat) : Int) ∧ BxN wr w.heap.size (.bool false) (.slice none 0 0) ∧ Below w.heap.size w wr) (fun i _ => zs.length - (intOf i).toNat)
  case atStart => exact ⟨0, Nat.zero_le _, rfl, K1, F1, X0, hb0⟩
  case round =>
    clear K1 F1 X0 hb0
    obtain ⟨k, hk, rfl, hK, fK, B0, hbel⟩ := hrel
    obtain ⟨gb, ga, gn, gc, G0, hG⟩ := id hK
    have hszw := G0.lt
    by_cases hlt : k < zs.length
    · obtain ⟨g, b, xa, xn, xc, rfl, hc1, hc2, hg, _, hc0, hcx, hI⟩ := OwnLN.at (OwnLN.below hu hbel) k hlt
      have hct := cont_take hlt
      have f1 := fx k
      have fK2 := fK.gcd f1
      rw [← hct] at fK2
      generalize zs.getD k 0 = z at *
      have HCT : Hid _ := hct
      clear hct
      generalize ((cont (zs.take k) : Nat) : Int) = cg at *
      have hM := fun (W : World) (g1 : IsN W (.agg #[.bool gb, .slice ga gn gc]) cg) (g2 : IsN W (.agg #[.bool b, .slice xa xn xc]) z) => gcdN_any _ _ cg z W g1 g2 fK f1
      have q0 := G0.c0; have q1 := G0.c1
      go_wp2_with fail
      generalize hW1 : wr.alloc (Obj.cells #[Value.bool b, Value.slice xa xn xc] 74) = W1
      obtain ⟨hb1, _⟩ := one_newN hW1
      clear hW1
      have G1 := G0.below hb1; have B1 := B0.below hb1
      refine (hM W1 (hG.below hb1) (hI.below hb1)).mono ?_
      rintro e w3 ⟨x3, rfl, hI3, hb3⟩
      obtain ⟨b3, a3, n3, c3, _, rfl, _, _⟩ := id hI3.open
      have G3 := G1.below hb3; have B3 := B1.below hb3
      have r0 := G3.c0; have r1 := G3.c1; have r2 := G3.f0; have r3 := G3.f1
      have hbw3 : Below w.heap.size w w3 := (hbel.trans (hb1.mono hbel.size)).trans (hb3.mono (by have := hbel.size; have := hb1.size; omega))
      have hK3 := IsK.stored G3 hI3
      rw [← HCT.out] at hK3
      have hB3 := B3.other (show w.heap.size ≠ w.heap.size + 1 by omega) (.bool b3) (.slice a3 n3 c3)
      have HALL : Hid _ := (⟨hK3, hB3⟩ : _ ∧ _)
      clear hK3 hB3
      go_wp2
      go_roundw
      case rel => exact ⟨k + 1, by omega, by go_num, HALL.out.1, fK2, HALL.out.2, below_set2 hbw3 (by omega) _ _⟩
      case measure => simp [intOf]; omega
    · obtain rfl : k = zs.length := by omega
      rw [List.take_length, HS.out] at hG
      have c0 := G0.c0; have c1 := G0.c1; have d0 := B0.c0; have d1 := B0.c1; have d2 := B0.f0; have d3 := B0.f1
      go_wp2
      refine bodyPost_ret (v := .agg #[.bool gb, .slice ga gn gc]) (by simp [results, Tryz.results72, go_sem, d0, d1]) rfl ⟨_, rfl, hG.set2 B0 _ _, below_set2 hbel (Nat.le_refl _) _ _⟩

end Go.Proofs.YtldcjkhbiffdoaaGreatDoor
