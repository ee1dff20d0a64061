import Derived.Test.YtldcjkhbiffdoabGreatDoorM00

namespace Go.Proofs.YtldcjkhbiffdoabGreatDoor
open Go.RowKit

theorem two_new {w W0 : World} {a b c d : Value} (h : (w.alloc (.cells #[a, b] 70)).alloc (.cells #[c, d] 70) = W0) :
    w.heap.size + 1 < W0.heap.size ∧ Below w.heap.size w W0 ∧ Bx W0 w.heap.size a b ∧ Bx W0 (w.heap.size + 1) c d := by
  subst h
  refine ⟨by simp, ((Below.refl _ _).alloc (Nat.le_refl _) _).alloc (by simp) _, (Bx.alloc w a b).alloc_old _, ?_⟩
  have := Bx.alloc (w.alloc (.cells #[a, b] 70)) c d
  simpa using this

set_option maxHeartbeats 1000000 in
theorem neg_any (u : Value) (z : Int) (w : World) (hu : IsI w u z) (f : Fit z) :
    Calls Tryz.prog 63 #[u] w fun e w' => ∃ v, e = .returned v ∧ IsI w' v (-z) ∧ Below w.heap.size w w' := by
  obtain ⟨b, x, l, rfl, hx, h1⟩ := hu
  have hl := h1.len f
  obtain ⟨ua, uc, rfl⟩ := hx.val
  go_enter Tryz.func63, Tryz.ntmps63
  go_wp2_with fail
  generalize hW : (w.alloc (Obj.cells #[Value.bool b, Value.slice ua l.length uc] 70)).alloc (Obj.cells #[Value.bool false, Value.slice none 0 0] 70) = W0
  obtain ⟨hz0, hb0, X0, X1⟩ := two_new hW
  clear hW
  refine (signed_any (!b) l _ W0 (hx.below hb0) (by omega) h1.dig).mono ?_
  rintro e w1 ⟨t, x2, rfl, hr2, hd2, ht2, hv2, hlen2, hb2⟩
  have HV2 : Hid _ := hv2
  clear hv2
  obtain ⟨xa, xc, rfl⟩ := hr2.val
  have X1' := X1.below hb2
  have r3 := X1'.c0; have r4 := X1'.c1; have g3 := X1'.f0; have g4 := X1'.f1
  go_wp2
  refine bodyPost_ret (v := .agg #[.bool (!b && !t.isEmpty), .slice xa t.length xc]) (by simp [results, Tryz.results63, go_sem, r3, r4]) rfl ⟨_, rfl, ⟨_, _, t, rfl, hr2.set2 X1' _ _, ?_⟩, below_set2 (hb0.trans (hb2.mono hb0.size)) (by omega) _ _⟩
  have := Lim.signed (b := !b) hd2 ht2
  rw [HV2.out] at this
  rw [h1.val]
  have e : -sv b (ev 1000000000 l) = sv (!b) (ev 1000000000 l) := by cases b <;> simp [sv]
  rw [e]
  exact this

set_option maxHeartbeats 1000000 in
theorem abs_any (u : Value) (z : Int) (w : World) (hu : IsI w u z) (f : Fit z) :
    Calls Tryz.prog 60 #[u] w fun e w' => ∃ v, e = .returned v ∧ IsI w' v (z.natAbs : Int) ∧ Below w.heap.size w w' := by
  obtain ⟨b, x, l, rfl, hx, h1⟩ := hu
  have hl := h1.len f
  obtain ⟨ua, uc, rfl⟩ := hx.val
  go_enter Tryz.func60, Tryz.ntmps60
  go_wp2_with fail
  generalize hW : (w.alloc (Obj.cells #[Value.bool b, Value.slice ua l.length uc] 70)).alloc (Obj.cells #[Value.bool false, Value.slice none 0 0] 70) = W0
  obtain ⟨hz0, hb0, X0, X1⟩ := two_new hW
  clear hW
  refine (signed_any false l _ W0 (hx.below hb0) (by omega) h1.dig).mono ?_
  rintro e w1 ⟨t, x2, rfl, hr2, hd2, ht2, hv2, hlen2, hb2⟩
  have HV2 : Hid _ := hv2
  clear hv2
  obtain ⟨xa, xc, rfl⟩ := hr2.val
  have X1' := X1.below hb2
  have r3 := X1'.c0; have r4 := X1'.c1; have g3 := X1'.f0; have g4 := X1'.f1
  go_wp2
  refine bodyPost_ret (v := .agg #[.bool (false && !t.isEmpty), .slice xa t.length xc]) (by simp [results, Tryz.results60, go_sem, r3, r4]) rfl ⟨_, rfl, ⟨_, _, t, rfl, hr2.set2 X1' _ _, ?_⟩, below_set2 (hb0.trans (hb2.mono hb0.size)) (by omega) _ _⟩
  have := Lim.signed (b := false) hd2 ht2
  rw [HV2.out] at this
  rw [h1.val, natAbs_sv b h1.nonneg]
  exact this

def sgn3 (z : Int) : Int := if z < 0 then -1 else if z = 0 then 0 else 1

set_option maxHeartbeats 1000000 in
theorem sign_any (u : Value) (z : Int) (w : World) (hu : IsI w u z) (f : Fit z) :
    Calls Tryz.prog 56 #[u] w fun e w' => e = .returned (.int .i64 (sgn3 z)) ∧ Below w.heap.size w w' := by
  obtain ⟨b, x, l, rfl, hx, h1⟩ := hu
  have hl := h1.len f
  obtain ⟨ua, uc, rfl⟩ := hx.val
  have hs : (l.length = 0 ∧ sgn3 z = 0) ∨ (0 < l.length ∧ b = true ∧ sgn3 z = -1) ∨ (0 < l.length ∧ b = false ∧ sgn3 z = 1) := by
    cases l with
    | nil =>
      refine .inl ⟨rfl, ?_⟩
      rw [h1.val]
      cases b <;> simp [sv, ev, sgn3]
    | cons a l =>
      have := ev_ne h1.dig h1.trim (by simp)
      cases b with
      | true => exact .inr (.inl ⟨by simp, rfl, by rw [h1.val]; unfold sgn3 sv; rw [if_pos rfl, if_pos (by omega)]⟩)
      | false => exact .inr (.inr ⟨by simp, rfl, by rw [h1.val]; show sgn3 (ev 1000000000 (a :: l)) = 1; unfold sgn3; rw [if_neg (by omega), if_neg (by omega)]⟩)
  generalize sgn3 z = g at *
  rcases hs with ⟨h0, rfl⟩ | ⟨h0, rfl, rfl⟩ | ⟨h0, rfl, rfl⟩
  all_goals
    go_enter Tryz.func56, Tryz.ntmps56
    go_wp2
    go_ret
    exact ⟨rfl, (Below.refl _ _).alloc (Nat.le_refl _) _⟩

set_option maxHeartbeats 1000000 in
theorem compare_any (u v : Value) (z1 z2 : Int) (w : World) (hu : IsI w u z1) (hv : IsI w v z2) (f1 : Fit z1) (f2 : Fit z2) :
    Calls Tryz.prog 57 #[u, v] w fun e w' => e = .returned (.int .i64 (cmp3 z1 z2)) ∧ Below w.heap.size w w' := by
  obtain ⟨b1, x, l, rfl, hx, h1⟩ := hu
  obtain ⟨b2, y, m, rfl, hy, h2⟩ := hv
  have hl := h1.len f1
  have hm := h2.len f2
  obtain ⟨ua, uc, rfl⟩ := hx.val
  obtain ⟨va, vc, rfl⟩ := hy.val
  have n1 := h1.nonneg
  have n2 := h2.nonneg
  have p1 : b1 = true → 0 < ev 1000000000 l := fun h => ev_ne h1.dig h1.trim (h1.neg h)
  have p2 : b2 = true → 0 < ev 1000000000 m := fun h => ev_ne h2.dig h2.trim (h2.neg h)
  have e1 := h1.val
  have e2 := h2.val
  have hcmp := cmp3_bd (ev 1000000000 l) (ev 1000000000 m)
  cases b1 <;> cases b2
  · have he : cmp3 z1 z2 = cmp3 (ev 1000000000 l) (ev 1000000000 m) := by rw [e1, e2]; rfl
    rw [he]
    clear he e1 e2 p1 p2 n1 n2
    have hC := fun (W0 : World) (g1 : Row W0 (.slice ua l.length uc) l) (g2 : Row W0 (.slice va m.length vc) m) => compareLimbs_any l m _ _ W0 g1 g2 (by omega) h1.dig h2.dig h1.trim h2.trim
    generalize cmp3 (ev 1000000000 l) (ev 1000000000 m) = c at *
    obtain ⟨hcl, hcu⟩ := hcmp
    have HC : Hid _ := hC
    clear hC
    go_enter Tryz.func57, Tryz.ntmps57
    go_wp2_with fail
    generalize hW : (w.alloc (Obj.cells #[Value.bool false, Value.slice ua l.length uc] 70)).alloc (Obj.cells #[Value.bool false, Value.slice va m.length vc] 70) = W0
    obtain ⟨hz0, hb0, X0, X1⟩ := two_new hW
    clear hW
    refine (HC.out W0 (hx.below hb0) (hy.below hb0)).mono ?_
    rintro e w' ⟨rfl, rfl⟩
    have r3 := X0.c0
    go_wp2
    go_ret
    exact ⟨rfl, hb0⟩
  · have he : cmp3 z1 z2 = 1 := by
      have := p2 rfl
      apply cmp3_gt
      rw [e1, e2]; unfold sv; rw [if_pos rfl, if_neg (by simp)]; omega
    rw [he]
    clear he e1 e2 p1 p2 n1 n2 hcmp
    go_enter Tryz.func57, Tryz.ntmps57
    go_wp2
    go_ret
    exact ⟨rfl, ((Below.refl _ _).alloc (Nat.le_refl _) _).alloc (by simp) _⟩
  · have he : cmp3 z1 z2 = -1 := by
      have := p1 rfl
      apply cmp3_lt
      rw [e1, e2]; unfold sv; rw [if_pos rfl, if_neg (by simp)]; omega
    rw [he]
    clear he e1 e2 p1 p2 n1 n2 hcmp
    go_enter Tryz.func57, Tryz.ntmps57
    go_wp2
    go_ret
    exact ⟨rfl, ((Below.refl _ _).alloc (Nat.le_refl _) _).alloc (by simp) _⟩
  · have he : cmp3 z1 z2 = -cmp3 (ev 1000000000 l) (ev 1000000000 m) := by
      rw [e1, e2]; unfold sv cmp3; rw [if_pos rfl, if_pos rfl]
      split
      · rw [if_neg (by omega), if_pos (by omega)]
      · split
        · rw [if_pos (by omega)]
          omega
        · rw [if_neg (by omega), if_neg (by omega)]; rfl
    rw [he]
    clear he e1 e2 p1 p2 n1 n2
    have hC := fun (W0 : World) (g1 : Row W0 (.slice ua l.length uc) l) (g2 : Row W0 (.slice va m.length vc) m) => compareLimbs_any l m _ _ W0 g1 g2 (by omega) h1.dig h2.dig h1.trim h2.trim
    generalize cmp3 (ev 1000000000 l) (ev 1000000000 m) = c at *
    obtain ⟨hcl, hcu⟩ := hcmp
    have HC : Hid _ := hC
    clear hC
    go_enter Tryz.func57, Tryz.ntmps57
    go_wp2_with fail
    generalize hW : (w.alloc (Obj.cells #[Value.bool true, Value.slice ua l.length uc] 70)).alloc (Obj.cells #[Value.bool true, Value.slice va m.length vc] 70) = W0
    obtain ⟨hz0, hb0, X0, X1⟩ := two_new hW
    clear hW
    refine (HC.out W0 (hx.below hb0) (hy.below hb0)).mono ?_
    rintro e w' ⟨rfl, rfl⟩
    have r3 := X0.c0
    go_wp2
    go_ret
    exact ⟨rfl, hb0⟩

end Go.Proofs.YtldcjkhbiffdoabGreatDoor

namespace Go.Proofs.YtldcjkhbiffdoabGreatDoor

def tzn (l : List Int) : Nat → Nat
  | 0 => 0
  | k + 1 => if l.getD k 0 = 0 then tzn l k else k + 1

theorem tzn_le (l : List Int) : ∀ k, tzn l k ≤ k
  | 0 => Nat.le_refl _
  | k + 1 => by
    unfold tzn
    split
    · exact Nat.le_succ_of_le (tzn_le l k)
    · exact Nat.le_refl _

def tz (l : List Int) : List Int := l.take (tzn l l.length)

theorem tzn_zero (l : List Int) : ∀ k i, tzn l k ≤ i → i < k → l.getD i 0 = 0
  | 0, i, _, h => by omega
  | k + 1, i, h1, h2 => by
    unfold tzn at h1
    split at h1
    · rcases (show i = k ∨ i < k by omega) with rfl | h3
      · assumption
      · exact tzn_zero l k i h1 h3
    · omega

theorem getD_out {l : List Int} {k : Nat} (h : l.length ≤ k) : l.getD k 0 = 0 := by
  simp [List.getD, List.getElem?_eq_none h]

theorem tz_getD (L : List Int) (k : Nat) : (tz L).getD k 0 = L.getD k 0 := by
  have hle := tzn_le L L.length
  rcases Nat.lt_or_ge k (tzn L L.length) with h | h
  · unfold tz
    simp [List.getD, List.getElem?_take_of_lt h]
  · rw [getD_out (by unfold tz; rw [List.length_take]; omega)]
    rcases Nat.lt_or_ge k L.length with h2 | h2
    · rw [tzn_zero L _ k h h2]
    · rw [getD_out h2]

theorem tz_length (l : List Int) : (tz l).length = tzn l l.length := by
  have := tzn_le l l.length
  unfold tz; rw [List.length_take]; omega

theorem tzn_last (l : List Int) : ∀ k, 0 < tzn l k → l.getD (tzn l k - 1) 0 ≠ 0
  | 0, h => by simp [tzn] at h
  | k + 1, h => by
    unfold tzn at h ⊢
    split
    · rename_i h0
      rw [if_pos h0] at h
      exact tzn_last l k h
    · assumption

def Tr (l : List Int) : Prop := l ≠ [] → l.getD (l.length - 1) 0 ≠ 0

theorem tr_tz (l : List Int) : Tr (tz l) := by
  intro h
  rw [tz_getD, tz_length]
  refine tzn_last l _ ?_
  rw [← tz_length]
  exact List.length_pos_iff.2 h

theorem Tr.nil : Tr [] := fun h => absurd rfl h

theorem Tr.len {l m : List Int} (hl : Tr l) (h : ∀ k, m.length ≤ k → l.getD k 0 = 0) : l.length ≤ m.length := by
  rcases Nat.lt_or_ge m.length l.length with h1 | h1
  · have hne : l ≠ [] := by intro e; subst e; simp at h1
    exact absurd (h (l.length - 1) (by omega)) (hl hne)
  · exact h1

theorem Tr.lenN {l : List Int} {n : Nat} (hl : Tr l) (h : ∀ k, n ≤ k → l.getD k 0 = 0) : l.length ≤ n := by
  rcases Nat.lt_or_ge n l.length with h1 | h1
  · have hne : l ≠ [] := by intro e; subst e; simp at h1
    exact absurd (h (l.length - 1) (by omega)) (hl hne)
  · exact h1

theorem ext_getD {l m : List Int} (hlen : l.length = m.length) (h : ∀ k, l.getD k 0 = m.getD k 0) : l = m := by
  refine List.ext_getElem hlen fun i h1 h2 => ?_
  have := h i
  simpa [List.getD, List.getElem?_eq_getElem h1, List.getElem?_eq_getElem h2] using this

theorem Tr.ext {l m : List Int} (hl : Tr l) (hm : Tr m) (h : ∀ k, l.getD k 0 = m.getD k 0) : l = m := by
  refine ext_getD ?_ h
  have h1 := hl.len (m := m) fun k hk => by rw [h, getD_out hk]
  have h2 := hm.len (m := l) fun k hk => by rw [← h, getD_out hk]
  omega

theorem tz_ext {l m : List Int} (h : ∀ k, l.getD k 0 = m.getD k 0) : tz l = tz m :=
  (tr_tz l).ext (tr_tz m) fun k => by rw [tz_getD, tz_getD, h]

theorem tz_of_tr {l : List Int} (h : Tr l) : tz l = l := (tr_tz l).ext h fun k => tz_getD l k

theorem tz_eq {l m : List Int} (hm : Tr m) (h : ∀ k, l.getD k 0 = m.getD k 0) : tz l = m :=
  (tr_tz l).ext hm fun k => by rw [tz_getD, h]

theorem tz_len_le {l : List Int} {n : Nat} (h : ∀ k, n ≤ k → l.getD k 0 = 0) : (tz l).length ≤ n :=
  (tr_tz l).lenN fun k hk => by rw [tz_getD]; exact h k hk

def tab (n : Nat) (f : Nat → Int) : List Int := (List.range n).map f
theorem tab_succ (n : Nat) (f : Nat → Int) : tab (n + 1) f = tab n f ++ [f n] := by
  unfold tab; rw [List.range_succ, List.map_append]; rfl
theorem tab_len (n : Nat) (f : Nat → Int) : (tab n f).length = n := by simp [tab]
theorem tab_getD (n : Nat) (f : Nat → Int) (k : Nat) : (tab n f).getD k 0 = if k < n then f k else 0 := by
  split
  · rename_i h; simp [tab, List.getD, List.getElem?_map, List.getElem?_range h]
  · rename_i h; rw [getD_out (by rw [tab_len]; omega)]
def pAt (xs ys : List Int) (k : Nat) : Nat → Int
  | 0 => 0
  | n + 1 => pAt xs ys k n + xs.getD n 0 * ys.getD (k - n) 0

def pk (xs ys : List Int) (k : Nat) : Int := pAt xs ys k (k + 1)
def prodTo (xs ys : List Int) (n : Nat) : List Int := tab n (pk xs ys)

theorem pAt_one (xs ys : List Int) (k d : Nat) : ∀ n, (∀ i, i < n → i ≠ d → xs.getD i 0 * ys.getD (k - i) 0 = 0) → pAt xs ys k n = if d < n then xs.getD d 0 * ys.getD (k - d) 0 else 0
  | 0, _ => by simp [pAt]
  | n + 1, h => by
    unfold pAt
    rw [pAt_one xs ys k d n fun i h1 h2 => h i (by omega) h2]
    by_cases hd : d = n
    · subst hd; simp
    · rw [h n (by omega) (fun e => hd e.symm)]
      by_cases h1 : d < n
      · rw [if_pos h1, if_pos (by omega)]; omega
      · rw [if_neg h1, if_neg (by omega)]; omega

theorem pk_out (xs ys : List Int) (k : Nat) (h : xs.length + ys.length - 1 ≤ k) : pk xs ys k = 0 := by
  unfold pk
  have hz : ∀ i, i < k + 1 → xs.getD i 0 * ys.getD (k - i) 0 = 0 := by
    intro i hi
    rcases Nat.lt_or_ge i xs.length with h1 | h1
    · rw [getD_out (show ys.length ≤ k - i by omega)]; simp
    · rw [getD_out h1]; simp
  rw [pAt_one xs ys k (k + 1) (k + 1) fun i h1 _ => hz i h1]
  simp

theorem prodTo_getD (xs ys : List Int) (k : Nat) : (prodTo xs ys (xs.length + ys.length - 1)).getD k 0 = pk xs ys k := by
  unfold prodTo
  rw [tab_getD]
  split
  · rfl
  · rw [pk_out]; omega

def mono (d : Nat) (c : Int) : List Int := List.replicate d 0 ++ [c]
theorem mono_getD (d : Nat) (c : Int) (k : Nat) : (mono d c).getD k 0 = if k = d then c else 0 := by
  unfold mono
  rcases Nat.lt_trichotomy k d with h | h | h
  · rw [if_neg (by omega)]
    simp [List.getD, List.getElem?_append_left (show k < (List.replicate d (0 : Int)).length by simpa using h), h]
  · subst h
    simp [List.getD]
  · rw [if_neg (by omega), getD_out]
    simp; omega
theorem single_getD (c : Int) (k : Nat) : [c].getD k 0 = if k = 0 then c else 0 := by
  cases k with
  | zero => rfl
  | succ k => simp [List.getD]

theorem pair_getD (s t : Int) (k : Nat) : [s, t].getD k 0 = if k = 0 then s else if k = 1 then t else 0 := by
  rcases k with _ | _ | k
  · rfl
  · rfl
  · simp [List.getD]

theorem pk_lin (xs : List Int) (s : Int) (k : Nat) : pk xs [s, 1] k = xs.getD k 0 * s + (if k = 0 then 0 else xs.getD (k - 1) 0) := by
  unfold pk
  cases k with
  | zero => simp [pAt]
  | succ j =>
    show pAt xs [s, 1] (j + 1) (j + 1) + xs.getD (j + 1) 0 * [s, 1].getD (j + 1 - (j + 1)) 0 = _
    rw [pAt_one _ _ (j + 1) j (j + 1)]
    · rw [if_pos (by omega), pair_getD, pair_getD, if_neg (by omega), if_pos (by omega), if_pos (by omega), if_neg (by omega)]
      simp
      omega
    · intro i h1 h2
      rw [pair_getD, if_neg (by omega), if_neg (by omega)]; simp

end Go.Proofs.YtldcjkhbiffdoabGreatDoor

namespace Go.Proofs.YtldcjkhbiffdoabGreatDoor


def blanks : List UInt8 → Nat
  | [] => 0
  | c :: l => if c == 32 then blanks l + 1 else 0

def isDig (c : UInt8) : Bool := 48 ≤ c && c ≤ 57

def digs : List UInt8 → List UInt8
  | [] => []
  | c :: l => if isDig c then c :: digs l else []

def numOf (n : Nat) : List UInt8 → Nat
  | [] => n
  | c :: l => numOf (10 * n + (c.toNat - 48)) l

def skp (s : List UInt8) (n : Nat) : Nat := n + blanks (s.drop n)

def tak (s : List UInt8) (c : UInt8) (n : Nat) : Bool × Nat :=
  if s[skp s n]? = some c then (true, skp s n + 1) else (false, skp s n)

def rdNum (s : List UInt8) (n : Nat) : Bool × Nat × Nat :=
  (!(digs (s.drop (skp s n))).isEmpty, numOf 0 (digs (s.drop (skp s n))), skp s n + (digs (s.drop (skp s n))).length)

def rdPow (s : List UInt8) (n : Nat) : Bool × Nat × Nat :=
  if (tak s 120 n).1 then
    if (tak s 94 (tak s 120 n).2).1 then rdNum s (tak s 94 (tak s 120 n).2).2
    else (true, 1, (tak s 94 (tak s 120 n).2).2)
  else (false, 0, (tak s 120 n).2)

def rdTerm (s : List UInt8) (n : Nat) : Bool × Nat × Nat × Nat :=
  if (rdNum s n).1 then
    if (tak s 42 (rdNum s n).2.2).1 then
      ((rdPow s (tak s 42 (rdNum s n).2.2).2).1, (rdNum s n).2.1, (rdPow s (tak s 42 (rdNum s n).2.2).2).2.1, (rdPow s (tak s 42 (rdNum s n).2.2).2).2.2)
    else (true, (rdNum s n).2.1, 0, (tak s 42 (rdNum s n).2.2).2)
  else ((rdPow s (rdNum s n).2.2).1, 1, (rdPow s (rdNum s n).2.2).2.1, (rdPow s (rdNum s n).2.2).2.2)

def addT (c : Int) (p : Nat) : List (Int × Nat) → List (Int × Nat)
  | [] => [(c, p)]
  | (d, q) :: l => if q = p then (d + c, q) :: l else (d, q) :: addT c p l

def sgn (m : Bool) (c : Nat) : Int := if m then -(c : Int) else c


theorem drop_at {l : List UInt8} {k : Nat} {c : UInt8} (h : l[k]? = some c) : l.drop k = c :: l.drop (k + 1) := by
  obtain ⟨hk, rfl⟩ := List.getElem?_eq_some_iff.1 h
  exact List.drop_eq_getElem_cons hk

theorem skp_step {l : List UInt8} {k : Nat} (h : l[k]? = some 32) : skp l k = skp l (k + 1) := by
  unfold skp
  rw [drop_at h]
  simp [blanks]; omega

theorem skp_stop {l : List UInt8} {k : Nat} (h : l[k]? ≠ some 32) : skp l k = k := by
  unfold skp
  cases hd : l.drop k with
  | nil => rfl
  | cons c r =>
    have hc : l[k]? = some c := by
      have := List.getElem?_drop (xs := l) (i := k) (j := 0)
      rw [hd] at this
      simpa using this.symm
    have : ¬ c = 32 := by intro e; subst e; exact h hc
    simp [blanks, this]

theorem blanks_le : ∀ l : List UInt8, blanks l ≤ l.length
  | [] => Nat.le_refl _
  | c :: l => by
    unfold blanks
    split
    · have := blanks_le l; simp; omega
    · simp

theorem skp_le {l : List UInt8} {n : Nat} (h : n ≤ l.length) : skp l n ≤ l.length := by
  have := blanks_le (l.drop n)
  rw [List.length_drop] at this
  unfold skp; omega

theorem skp_ge (l : List UInt8) (n : Nat) : n ≤ skp l n := by unfold skp; omega

theorem digs_le : ∀ l : List UInt8, (digs l).length ≤ l.length
  | [] => Nat.le_refl _
  | c :: l => by
    unfold digs
    split
    · have := digs_le l; simp; omega
    · simp

theorem digs_step {l : List UInt8} {k : Nat} {c : UInt8} (h : l[k]? = some c) (hc : isDig c = true) : digs (l.drop k) = c :: digs (l.drop (k + 1)) := by
  rw [drop_at h]; simp [digs, hc]

theorem digs_stop {l : List UInt8} {k : Nat} (h : ∀ c, l[k]? = some c → isDig c = false) : digs (l.drop k) = [] := by
  cases hd : l.drop k with
  | nil => rfl
  | cons c r =>
    have hc : l[k]? = some c := by
      have := List.getElem?_drop (xs := l) (i := k) (j := 0)
      rw [hd] at this
      simpa using this.symm
    simp [digs, h c hc]

theorem isDig_le {c : UInt8} (h : isDig c = true) : c.toNat ≤ 57 := by
  unfold isDig at h
  simp [UInt8.le_iff_toNat_le] at h
  exact h.2

theorem numOf_lt (l : List UInt8) : ∀ (n k : Nat), n < 10 ^ k → (∀ c, c ∈ l → isDig c = true) → numOf n l < 10 ^ (k + l.length) := by
  induction l with
  | nil =>
    intro n k h _
    unfold numOf
    exact h
  | cons c l ih =>
    intro n k h hc
    have h2 := isDig_le (hc c (List.mem_cons_self ..))
    generalize hm : 10 * n + (c.toNat - 48) = m
    have h3 : m < 10 ^ (k + 1) := by rw [Nat.pow_succ]; omega
    have h4 := ih m (k + 1) h3 (fun d hd => hc d (List.mem_cons_of_mem _ hd))
    unfold numOf
    have h5 : k + (c :: l).length = k + 1 + l.length := by simp; omega
    rw [h5, hm]
    exact h4

theorem digs_all : ∀ (l : List UInt8) (c : UInt8), c ∈ digs l → isDig c = true
  | [], c, h => by simp [digs] at h
  | d :: l, c, h => by
    unfold digs at h
    split at h
    · rename_i hd
      rcases List.mem_cons.1 h with h | h
      · rw [h]; exact hd
      · exact digs_all l c h
    · simp at h

end Go.Proofs.YtldcjkhbiffdoabGreatDoor

namespace Go.Proofs.YtldcjkhbiffdoabGreatDoor
open Go.RowKit

theorem three_new {w W0 : World} {a b c d e f : Value} (h : ((w.alloc (.cells #[a, b] 70)).alloc (.cells #[c, d] 70)).alloc (.cells #[e, f] 70) = W0) :
    w.heap.size + 1 + 1 < W0.heap.size ∧ Below w.heap.size w W0 ∧ Bx W0 w.heap.size a b ∧ Bx W0 (w.heap.size + 1) c d ∧ Bx W0 (w.heap.size + 1 + 1) e f := by
  subst h
  refine ⟨by simp, (((Below.refl _ _).alloc (Nat.le_refl _) _).alloc (by simp) _).alloc (by simp; omega) _, ((Bx.alloc w a b).alloc_old _).alloc_old _, ?_, ?_⟩
  · have := (Bx.alloc (w.alloc (.cells #[a, b] 70)) c d).alloc_old (.cells #[e, f] 70)
    simpa using this
  · have := Bx.alloc ((w.alloc (.cells #[a, b] 70)).alloc (.cells #[c, d] 70)) e f
    simpa using this

set_option maxHeartbeats 2000000 in
theorem add_same (b : Bool) (x y : Value) (l m : List Int) (z1 z2 : Int) (w : World) (hx : Row w x l) (hy : Row w y m) (h1 : Lim b l z1) (h2 : Lim b m z2) (hl : l.length ≤ 10000000) (hm : m.length ≤ 10000000) :
    Calls Tryz.prog 80 #[.agg #[.bool b, x], .agg #[.bool b, y]] w fun e w' => ∃ v, e = .returned v ∧ IsI w' v (z1 + z2) ∧ Below w.heap.size w w' := by
  obtain ⟨ua, uc, rfl⟩ := hx.val
  obtain ⟨va, vc, rfl⟩ := hy.val
  go_enter Tryz.func80, Tryz.ntmps80
  go_wp2
  generalize hW : ((w.alloc (Obj.cells #[Value.bool b, Value.slice ua l.length uc] 70)).alloc (Obj.cells #[Value.bool b, Value.slice va m.length vc] 70)).alloc (Obj.cells #[Value.bool false, Value.slice none 0 0] 70) = W0
  obtain ⟨hz0, hb0, X0, X1, X2⟩ := three_new hW
  clear hW
  have c0 := X0.c0; have c1 := X0.c1; have c2 := X1.c1
  have hx0 := hx.below hb0
  have hy0 := hy.below hb0
  go_region_held3 (fun w' => w'.cell? ⟨w.heap.size, 0, none⟩ = some (.bool b) ∧ w'.cell? ⟨w.heap.size, 1, none⟩ = some (.slice ua l.length uc) ∧ w'.cell? ⟨w.heap.size + 1, 1, none⟩ = some (.slice va m.length vc))
    (first | exact ⟨c0, c1, c2⟩ | exact ⟨q0, q1, q2⟩ | exact ⟨r0, r1, r2⟩ | simp [go_sem, r0, r1, r2])
    (first
      | (go_at_call 104; refine (addLimbs_any l m _ _ _ (by exact hx0) (by exact hy0) (by omega) (by omega) h1.dig h2.dig).mono ?_; rintro e w1 ⟨s, x1, rfl, hr1, hd1, hv1, hlen1, hb1'⟩; have hb1 := of_drew hb1'; clear hb1'; have HV1 : Hid _ := hv1; clear hv1; have X0' : Bx w1 _ _ _ := X0.below hb1; have X1' : Bx w1 _ _ _ := X1.below hb1; have X2' : Bx w1 _ _ _ := X2.below hb1; have q0 := X0'.c0; have q1 := X0'.c1; have q2 := X1'.c1)
      | (go_at_call 86; refine (signed_any b s x1 w1 hr1 (by omega) hd1).mono ?_; rintro e w2 ⟨t, x2, rfl, hr2, hd2, ht2, hv2, hlen2, hb2⟩; have HV2 : Hid _ := hv2; clear hv2; obtain ⟨xa, xc, rfl⟩ := hr2.val; have X0'' := X0'.below hb2; have X1'' := X1'.below hb2; have X2'' := X2'.below hb2; have r0 := X0''.c0; have r1 := X0''.c1; have r2 := X1''.c1; have r3 := X2''.c0; have r4 := X2''.c1; have g3 := X2''.f0; have g4 := X2''.f1))
  all_goals go_wp2
  refine bodyPost_ret (v := .agg #[.bool (b && !t.isEmpty), .slice xa t.length xc]) (by simp [results, Tryz.results80, go_sem, r3, r4]) rfl ⟨_, rfl, ⟨_, _, t, rfl, hr2.set2 X2'' _ _, ?_⟩, ?_⟩
  · have := Lim.signed (b := b) hd2 ht2
    rw [HV2.out, HV1.out] at this
    rw [h1.val, h2.val]
    have e : sv b (ev 1000000000 l) + sv b (ev 1000000000 m) = sv b (ev 1000000000 l + ev 1000000000 m) := by unfold sv; split <;> omega
    rw [e]
    exact this
  · exact below_set2 (hb0.trans ((hb1.mono hb0.size).trans (hb2.mono (by have := hb0.size; have := hb1.size; omega)))) (by omega) _ _

set_option maxHeartbeats 2000000 in
theorem add_ge (b1 b2 : Bool) (hne : (b1 == b2) = false) (x y : Value) (l m : List Int) (z1 z2 : Int) (w : World) (hx : Row w x l) (hy : Row w y m) (h1 : Lim b1 l z1) (h2 : Lim b2 m z2) (hl : l.length ≤ 10000000) (_hm : m.length ≤ 10000000) (hle : ev 1000000000 m ≤ ev 1000000000 l) :
    Calls Tryz.prog 80 #[.agg #[.bool b1, x], .agg #[.bool b2, y]] w fun e w' => ∃ v, e = .returned v ∧ IsI w' v (z1 + z2) ∧ Below w.heap.size w w' := by
  obtain ⟨ua, uc, rfl⟩ := hx.val
  obtain ⟨va, vc, rfl⟩ := hy.val
  have hlen : m.length ≤ l.length := by
    rcases Nat.lt_or_ge l.length m.length with h | h
    · have := ev_lt_of_length (by omega) h1.dig h2.dig h2.trim h; omega
    · exact h
  have hcmp : 0 ≤ cmp3 (ev 1000000000 l) (ev 1000000000 m) := by unfold cmp3; rw [if_neg (by omega)]; split <;> omega
  have HLE : Hid _ := hle
  clear hle
  go_enter Tryz.func80, Tryz.ntmps80
  go_wp2_with fail
  generalize hW : ((w.alloc (Obj.cells #[Value.bool b1, Value.slice ua l.length uc] 70)).alloc (Obj.cells #[Value.bool b2, Value.slice va m.length vc] 70)).alloc (Obj.cells #[Value.bool false, Value.slice none 0 0] 70) = W0
  obtain ⟨hz0, hb0, X0, X1, X2⟩ := three_new hW
  clear hW
  have hx0 := hx.below hb0
  have hy0 := hy.below hb0
  refine (compareLimbs_any l m _ _ W0 hx0 hy0 (by omega) h1.dig h2.dig h1.trim h2.trim).mono ?_
  rintro e w' ⟨rfl, rfl⟩
  generalize cmp3 (ev 1000000000 l) (ev 1000000000 m) = c at *
  go_wp2_with fail
  have c0 := X0.c0; have c1 := X0.c1; have c2 := X1.c1
  have hle := HLE.out
  go_region_held3 (fun w' => w'.cell? ⟨w.heap.size, 0, none⟩ = some (.bool b1) ∧ w'.cell? ⟨w.heap.size, 1, none⟩ = some (.slice ua l.length uc) ∧ w'.cell? ⟨w.heap.size + 1, 1, none⟩ = some (.slice va m.length vc))
    (first | exact ⟨c0, c1, c2⟩ | exact ⟨q0, q1, q2⟩ | exact ⟨r0, r1, r2⟩ | simp [go_sem, r0, r1, r2])
    (first
      | (go_at_call 105; refine (subLimbs_any l m _ _ _ (by exact hx0) (by exact hy0) (by omega) hlen h1.dig h2.dig hle).mono ?_; rintro e w1 ⟨s, x1, rfl, hr1, hd1, hv1, hlen1, hb1'⟩; have hb1 := of_drew hb1'; clear hb1'; have HV1 : Hid _ := hv1; clear hv1; have X0' : Bx w1 _ _ _ := X0.below hb1; have X1' : Bx w1 _ _ _ := X1.below hb1; have X2' : Bx w1 _ _ _ := X2.below hb1; have q0 := X0'.c0; have q1 := X0'.c1; have q2 := X1'.c1)
      | (go_at_call 86; refine (signed_any b1 s x1 w1 hr1 (by omega) hd1).mono ?_; rintro e w2 ⟨t, x2, rfl, hr2, hd2, ht2, hv2, hlen2, hb2⟩; have HV2 : Hid _ := hv2; clear hv2; obtain ⟨xa, xc, rfl⟩ := hr2.val; have X0'' := X0'.below hb2; have X1'' := X1'.below hb2; have X2'' := X2'.below hb2; have r0 := X0''.c0; have r1 := X0''.c1; have r2 := X1''.c1; have r3 := X2''.c0; have r4 := X2''.c1; have g3 := X2''.f0; have g4 := X2''.f1))
  all_goals go_wp2
  refine bodyPost_ret (v := .agg #[.bool (b1 && !t.isEmpty), .slice xa t.length xc]) (by simp [results, Tryz.results80, go_sem, r3, r4]) rfl ⟨_, rfl, ⟨_, _, t, rfl, hr2.set2 X2'' _ _, ?_⟩, ?_⟩
  · have := Lim.signed (b := b1) hd2 ht2
    rw [HV2.out, HV1.out] at this
    rw [h1.val, h2.val]
    have e : sv b1 (ev 1000000000 l) + sv b2 (ev 1000000000 m) = sv b1 (ev 1000000000 l - ev 1000000000 m) := by cases b1 <;> cases b2 <;> simp_all [sv] <;> omega
    rw [e]
    exact this
  · exact below_set2 (hb0.trans ((hb1.mono hb0.size).trans (hb2.mono (by have := hb0.size; have := hb1.size; omega)))) (by omega) _ _

set_option maxHeartbeats 2000000 in
theorem add_lt (b1 b2 : Bool) (hne : (b1 == b2) = false) (x y : Value) (l m : List Int) (z1 z2 : Int) (w : World) (hx : Row w x l) (hy : Row w y m) (h1 : Lim b1 l z1) (h2 : Lim b2 m z2) (hl : l.length ≤ 10000000) (hm : m.length ≤ 10000000) (hle : ev 1000000000 l < ev 1000000000 m) :
    Calls Tryz.prog 80 #[.agg #[.bool b1, x], .agg #[.bool b2, y]] w fun e w' => ∃ v, e = .returned v ∧ IsI w' v (z1 + z2) ∧ Below w.heap.size w w' := by
  obtain ⟨ua, uc, rfl⟩ := hx.val
  obtain ⟨va, vc, rfl⟩ := hy.val
  have hlen : l.length ≤ m.length := by
    rcases Nat.lt_or_ge m.length l.length with h | h
    · have := ev_lt_of_length (by omega) h2.dig h1.dig h1.trim h; omega
    · exact h
  have hcmp : cmp3 (ev 1000000000 l) (ev 1000000000 m) < 0 := by rw [cmp3_lt hle]; omega
  have HLE : Hid _ := hle
  clear hle
  go_enter Tryz.func80, Tryz.ntmps80
  go_wp2_with fail
  generalize hW : ((w.alloc (Obj.cells #[Value.bool b1, Value.slice ua l.length uc] 70)).alloc (Obj.cells #[Value.bool b2, Value.slice va m.length vc] 70)).alloc (Obj.cells #[Value.bool false, Value.slice none 0 0] 70) = W0
  obtain ⟨hz0, hb0, X0, X1, X2⟩ := three_new hW
  clear hW
  have hx0 := hx.below hb0
  have hy0 := hy.below hb0
  refine (compareLimbs_any l m _ _ W0 hx0 hy0 (by omega) h1.dig h2.dig h1.trim h2.trim).mono ?_
  rintro e w' ⟨rfl, rfl⟩
  generalize cmp3 (ev 1000000000 l) (ev 1000000000 m) = c at *
  go_wp2_with fail
  have c0 := X1.c0; have c1 := X0.c1; have c2 := X1.c1
  have hle := HLE.out
  go_region_held3 (fun w' => w'.cell? ⟨w.heap.size + 1, 0, none⟩ = some (.bool b2) ∧ w'.cell? ⟨w.heap.size, 1, none⟩ = some (.slice ua l.length uc) ∧ w'.cell? ⟨w.heap.size + 1, 1, none⟩ = some (.slice va m.length vc))
    (first | exact ⟨c0, c1, c2⟩ | exact ⟨q0, q1, q2⟩ | exact ⟨r0, r1, r2⟩ | simp [go_sem, r0, r1, r2])
    (first
      | (go_at_call 105; refine (subLimbs_any m l _ _ _ (by exact hy0) (by exact hx0) (by omega) hlen h2.dig h1.dig (by omega)).mono ?_; rintro e w1 ⟨s, x1, rfl, hr1, hd1, hv1, hlen1, hb1'⟩; have hb1 := of_drew hb1'; clear hb1'; have HV1 : Hid _ := hv1; clear hv1; have X0' : Bx w1 _ _ _ := X0.below hb1; have X1' : Bx w1 _ _ _ := X1.below hb1; have X2' : Bx w1 _ _ _ := X2.below hb1; have q0 := X1'.c0; have q1 := X0'.c1; have q2 := X1'.c1)
      | (go_at_call 86; refine (signed_any b2 s x1 w1 hr1 (by omega) hd1).mono ?_; rintro e w2 ⟨t, x2, rfl, hr2, hd2, ht2, hv2, hlen2, hb2⟩; have HV2 : Hid _ := hv2; clear hv2; obtain ⟨xa, xc, rfl⟩ := hr2.val; have X0'' := X0'.below hb2; have X1'' := X1'.below hb2; have X2'' := X2'.below hb2; have r0 := X1''.c0; have r1 := X0''.c1; have r2 := X1''.c1; have r3 := X2''.c0; have r4 := X2''.c1; have g3 := X2''.f0; have g4 := X2''.f1))
  all_goals go_wp2
  refine bodyPost_ret (v := .agg #[.bool (b2 && !t.isEmpty), .slice xa t.length xc]) (by simp [results, Tryz.results80, go_sem, r3, r4]) rfl ⟨_, rfl, ⟨_, _, t, rfl, hr2.set2 X2'' _ _, ?_⟩, ?_⟩
  · have := Lim.signed (b := b2) hd2 ht2
    rw [HV2.out, HV1.out] at this
    rw [h1.val, h2.val]
    have e : sv b1 (ev 1000000000 l) + sv b2 (ev 1000000000 m) = sv b2 (ev 1000000000 m - ev 1000000000 l) := by cases b1 <;> cases b2 <;> simp_all [sv] <;> omega
    rw [e]
    exact this
  · exact below_set2 (hb0.trans ((hb1.mono hb0.size).trans (hb2.mono (by have := hb0.size; have := hb1.size; omega)))) (by omega) _ _

theorem add_any (u v : Value) (z1 z2 : Int) (w : World) (hu : IsI w u z1) (hv : IsI w v z2) (f1 : Fit z1) (f2 : Fit z2) :
    Calls Tryz.prog 80 #[u, v] w fun e w' => ∃ v, e = .returned v ∧ IsI w' v (z1 + z2) ∧ Below w.heap.size w w' := by
  obtain ⟨b1, x, l, rfl, hx, h1⟩ := hu
  obtain ⟨b2, y, m, rfl, hy, h2⟩ := hv
  have hl := h1.len f1
  have hm := h2.len f2
  by_cases hb : b1 = b2
  · subst hb
    exact add_same b1 x y l m z1 z2 w hx hy h1 h2 hl hm
  · rcases (show ev 1000000000 l < ev 1000000000 m ∨ ev 1000000000 m ≤ ev 1000000000 l by omega) with h | h
    · exact add_lt b1 b2 (by simp [hb]) x y l m z1 z2 w hx hy h1 h2 hl hm h
    · exact add_ge b1 b2 (by simp [hb]) x y l m z1 z2 w hx hy h1 h2 hl hm h

end Go.Proofs.YtldcjkhbiffdoabGreatDoor

namespace Go.Proofs.YtldcjkhbiffdoabGreatDoor
open Go.RowKit

theorem dig_sq {t : Int} (h : 0 ≤ t ∧ t < 1000000000 * 1000000000) : (0 ≤ t % 1000000000 ∧ t % 1000000000 < 1000000000) ∧ 0 ≤ t / 1000000000 ∧ t / 1000000000 < 1000000000 := by omega

def MIn (l m P : List Int) (i j : Nat) (c : Int) : Prop :=
  Dig 1000000000 P ∧ ev 1000000000 P + c * 1000000000 ^ (i + j) = ev 1000000000 (l.take i) * ev 1000000000 m + l.getD i 0 * ev 1000000000 (m.take j) * 1000000000 ^ i ∧ ∀ k, i + m.length ≤ k → P.getD k 0 = 0

def MOut (l m P : List Int) (i : Nat) : Prop := Dig 1000000000 P ∧ ev 1000000000 P = ev 1000000000 (l.take i) * ev 1000000000 m ∧ ∀ k, i + m.length ≤ k → P.getD k 0 = 0

theorem getD_set_ne {P : List Int} {i k : Nat} (y : Int) (h : i ≠ k) : (P.set i y).getD k 0 = P.getD k 0 := by
  simp [List.getD, List.getElem?_set_ne h]

theorem MIn.step {l m P : List Int} {i j : Nat} {c p x y : Int} (h : MIn l m P i j c) (hk : i + j < P.length) (hj : j < m.length) (hp : P.getD (i + j) 0 = p) (hx : l.getD i 0 = x) (hy : m.getD j 0 = y)
    (hb : 0 ≤ p + x * y + c ∧ p + x * y + c < 1000000000 * 1000000000) : MIn l m (P.set (i + j) ((p + x * y + c) % 1000000000)) i (j + 1) ((p + x * y + c) / 1000000000) := by
  obtain ⟨h1, h2, h3⟩ := h
  have hd := dig_sq hb
  refine ⟨h1.set _ hd.1.1 hd.1.2, ?_, fun k hk' => ?_⟩
  · rw [ev_take, hy, hx]
    rw [hx] at h2
    exact mul_round P i j hk x y c (p + x * y + c) _ _ h2 (by rw [hp])
  · rw [getD_set_ne _ (by omega)]; exact h3 k hk'

theorem MOut.into {l m P : List Int} {i : Nat} (h : MOut l m P i) : MIn l m P i 0 0 := by
  refine ⟨h.1, ?_, h.2.2⟩
  rw [h.2.1]; simp [ev]

theorem MIn.out {l m P : List Int} {i : Nat} {c : Int} (h : MIn l m P i m.length c) (hc : 0 ≤ c ∧ c < 1000000000) (hk : i + m.length < P.length) : MOut l m (P.set (i + m.length) c) (i + 1) := by
  obtain ⟨h1, h2, h3⟩ := h
  refine ⟨h1.set _ hc.1 hc.2, ?_, fun k hk' => ?_⟩
  · rw [ev_set _ _ _ _ hk, h3 _ (Nat.le_refl _), ev_take]
    rw [List.take_length] at h2
    simp only [Int.sub_zero]
    rw [h2, Int.add_mul]
    congr 1
    rw [Int.mul_assoc, Int.mul_comm (ev 1000000000 m), ← Int.mul_assoc]
  · rw [getD_set_ne _ (by omega)]; exact h3 k (by omega)

theorem getD_zeros (n k : Nat) : (List.replicate n (0 : Int)).getD k 0 = 0 := by
  simp only [List.getD, List.getElem?_replicate]; split <;> rfl

set_option maxHeartbeats 2000000 in
theorem mulLimbs_any (l m : List Int) (u v : Value) (w : World) (hu : Row w u l) (hv : Row w v m) (hl : l.length ≤ 10000000) (hm : m.length ≤ 10000000) (dl : Dig 1000000000 l) (dm : Dig 1000000000 m) :
    Calls Tryz.prog 94 #[u, v] w fun e w' => ∃ s x, e = .returned x ∧ Row w' x s ∧ Dig 1000000000 s ∧ ev 1000000000 s = ev 1000000000 l * ev 1000000000 m ∧ s.length ≤ l.length + m.length ∧ Below w.heap.size w w' := by
  obtain ⟨ua, uc, rfl⟩ := hu.val
  obtain ⟨va, vc, rfl⟩ := hv.val
  obtain ⟨n, HN⟩ : ∃ n, Hid (n = l.length + m.length) := ⟨_, rfl⟩
  have hna : n ≤ l.length + m.length := by have := HN.out; omega
  have hnb : l.length + m.length ≤ n := by have := HN.out; omega
  go_enter Tryz.func94, Tryz.ntmps94
  go_wp2_with (at_make; refine wpList_make64 rfl (.tmp 14) (.tmp 14) rfl _ _ n rfl rfl (by omega) (by omega) (by omega) ?_)
  intro w1 P0 HP0 hown1 hb1
  go_wp2_with fail
  go_loopw [6] (fun i wq => ∃ (k : Nat) (P : List Int), k ≤ l.length ∧ i = .int .i64 k ∧ P.length = n ∧ wq.ownsRow w.heap.size 2 1 (.slice (some ⟨w.heap.size, 0, none⟩) n n) n (P.map (Value.int .i64)) ∧ Hid (MOut l m P k) ∧ Below w.heap.size w wq) (fun i _ => l.length - (intOf i).toNat)
  case atStart => exact ⟨0, P0, Nat.zero_le _, rfl, by rw [HP0.out]; simp, hown1, by rw [HP0.out]; exact ⟨Dig.zeros (by omega) _, by simp [ev, ev_zeros], fun k _ => getD_zeros n k⟩, hb1⟩
  case round =>
    clear hown1 hb1 HP0
    obtain ⟨i, P, hi, rfl, hPl, hown, HM, hbel⟩ := hrel
    by_cases hlt2 : i < l.length
    · have hn : n = l.length + m.length := HN.out
      have hn1 : l.length + m.length ≤ n := by omega
      have hn2 : n ≤ l.length + m.length := by omega
      clear hn
      have hBg := Nat.le_refl w.heap.size
      obtain ⟨ga, rfl, hu1, hu2, hu3, hcu⟩ := hu.at i hlt2
      obtain ⟨x, HX⟩ : ∃ x, Hid (l.getD i 0 = x) := ⟨_, rfl⟩
      have hx := Dig.getD (by omega) dl i
      rw [HX.out] at hcu hx
      obtain ⟨hx0, hx1⟩ := hx
      go_wp2_with fail
      go_loopw [7, 8] (fun c j wp => ∃ (q : Nat) (cy : Int) (P : List Int), q ≤ m.length ∧ j = .int .i64 q ∧ c = .int .i64 cy ∧ 0 ≤ cy ∧ cy < 1000000000 ∧ P.length = n ∧ wp.ownsRow w.heap.size 2 1 (.slice (some ⟨w.heap.size, 0, none⟩) n n) n (P.map (Value.int .i64)) ∧ Hid (MIn l m P i q cy) ∧ Below w.heap.size w wp) (fun _ j _ => m.length - (intOf j).toNat)
      case atStart => exact ⟨0, 0, P, Nat.zero_le _, rfl, rfl, by omega, by omega, hPl, hown, MOut.into HM.out, hbel⟩
      case round =>
        clear hown hbel HM hPl P
        obtain ⟨j, cy, P, hj, rfl, rfl, hc0, hcB, hPl, hown, HM, hbel⟩ := hrel
        have hcu' : wr.cell? ⟨ga, i, none⟩ = some (.int .i64 x) := (hbel.cell (by exact hu3)).trans hcu
        by_cases hlt3 : j < m.length
        · obtain ⟨gb, rfl, hv1, hv2, hv3, hcv⟩ := hv.at j hlt3
          obtain ⟨y, HY⟩ : ∃ y, Hid (m.getD j 0 = y) := ⟨_, rfl⟩
          have hy := Dig.getD (by omega) dm j
          rw [HY.out] at hcv hy
          obtain ⟨hy0, hy1⟩ := hy
          have hcv' : wr.cell? ⟨gb, j, none⟩ = some (.int .i64 y) := (hbel.cell (by exact hv3)).trans hcv
          obtain ⟨p, HP⟩ : ∃ p, Hid (P.getD (i + j) 0 = p) := ⟨_, rfl⟩
          have hp := Dig.getD (by omega) HM.out.1 (i + j)
          rw [HP.out] at hp
          have hcp : wr.cell? ⟨w.heap.size, i + j, none⟩ = some (.int .i64 p) := by
            rw [hown.cellAt (i + j) (by omega), ← HP.out]
            simp [List.getD, show i + j < P.length by omega]
          have hfp := hown.frozenAt (i + j)
          have hb := mul_bound (B := 1000000000) (by omega) p x y cy hp ⟨hx0, hx1⟩ ⟨hy0, hy1⟩ ⟨hc0, hcB⟩
          have hst := MIn.step HM.out (by omega) hlt3 HP.out HX.out HY.out hb
          have HST : Hid _ := hst
          have hd := dig_sq hb
          have hxy : 0 ≤ x * y := Int.mul_nonneg hx0 hy0
          obtain ⟨hp0, hp1⟩ := hp
          obtain ⟨hb1, hb2⟩ := hb
          clear hst HM HP HY hcv hcu hd
          go_wp2_with fail
          go_quiet (fail)
          go_wp2
          go_roundw
          case rel =>
            refine ⟨j + 1, _, P.set (i + j) ((p + x * y + cy) % 1000000000), by omega, by go_num, rfl, by omega, by omega, by simpa using hPl, ?_, HST, (below_drewN hbel nq).setCell hBg _⟩
            rw [← map_set]
            exact (World.ownsRow.stored (w := wr.drewN nq) hown _ _).1
          case measure => simp [intOf]; omega
        · obtain rfl : j = m.length := by omega
          obtain ⟨p, HP⟩ : ∃ p, Hid (P.getD (i + m.length) 0 = p) := ⟨_, rfl⟩
          have hcp : wr.cell? ⟨w.heap.size, i + m.length, none⟩ = some (.int .i64 p) := by
            rw [hown.cellAt (i + m.length) (by omega), ← HP.out]
            simp [List.getD, show i + m.length < P.length by omega]
          have hfp := hown.frozenAt (i + m.length)
          have hst := MIn.out HM.out ⟨hc0, hcB⟩ (by omega)
          have HST : Hid _ := hst
          clear hst HM HP hcu
          go_wp2
          go_roundw
          case rel =>
            refine ⟨i + 1, P.set (i + m.length) cy, by omega, by go_num, by simpa using hPl, ?_, HST, hbel.setCell hBg _⟩
            rw [← map_set]
            exact (World.ownsRow.stored hown _ _).1
          case measure => simp [intOf]; omega
    · obtain rfl : i = l.length := by omega
      have hM := HM.out
      unfold MOut at hM
      rw [List.take_length] at hM
      have HM2 : Hid _ := hM
      have hn : n = l.length + m.length := HN.out
      have hPn : P.length ≤ l.length + m.length := by omega
      clear hM HM hn
      go_wp2
      go_ret
      refine ⟨P, _, rfl, Own.row (B := w.heap.size) (by unfold Own; rw [hPl]; exact hown), HM2.out.1, HM2.out.2.1, hPn, hbel⟩

end Go.Proofs.YtldcjkhbiffdoabGreatDoor

namespace Go.Proofs.YtldcjkhbiffdoabGreatDoor
open Go.RowKit

set_option maxHeartbeats 2000000 in
theorem mul_any (u v : Value) (z1 z2 : Int) (w : World) (hu : IsI w u z1) (hv : IsI w v z2) (f1 : Fit z1) (f2 : Fit z2) :
    Calls Tryz.prog 69 #[u, v] w fun e w' => ∃ v, e = .returned v ∧ IsI w' v (z1 * z2) ∧ Below w.heap.size w w' := by
  obtain ⟨b1, x, l, rfl, hx, h1⟩ := hu
  obtain ⟨b2, y, m, rfl, hy, h2⟩ := hv
  have hl := h1.len f1
  have hm := h2.len f2
  obtain ⟨ua, uc, rfl⟩ := hx.val
  obtain ⟨va, vc, rfl⟩ := hy.val
  go_enter Tryz.func69, Tryz.ntmps69
  go_wp2
  generalize hW : ((w.alloc (Obj.cells #[Value.bool b1, Value.slice ua l.length uc] 70)).alloc (Obj.cells #[Value.bool b2, Value.slice va m.length vc] 70)).alloc (Obj.cells #[Value.bool false, Value.slice none 0 0] 70) = W0
  obtain ⟨hz0, hb0, X0, X1, X2⟩ := three_new hW
  clear hW
  have c0 := X0.c0; have c1 := X0.c1; have c2 := X1.c1; have c3 := X1.c0
  have hx0 := hx.below hb0
  have hy0 := hy.below hb0
  go_region_held3 (fun w' => w'.cell? ⟨w.heap.size, 0, none⟩ = some (.bool b1) ∧ w'.cell? ⟨w.heap.size, 1, none⟩ = some (.slice ua l.length uc) ∧ w'.cell? ⟨w.heap.size + 1, 1, none⟩ = some (.slice va m.length vc) ∧ w'.cell? ⟨w.heap.size + 1, 0, none⟩ = some (.bool b2))
    (first | exact ⟨c0, c1, c2, c3⟩ | exact ⟨q0, q1, q2, q3⟩ | exact ⟨r0, r1, r2, r5⟩ | simp [go_sem, r0, r1, r2, r5])
    (first
      | (go_at_call 94; refine (mulLimbs_any l m _ _ _ (by exact hx0) (by exact hy0) (by omega) (by omega) h1.dig h2.dig).mono ?_; rintro e w1 ⟨s, x1, rfl, hr1, hd1, hv1, hlen1, hb1'⟩; have hb1 := of_drew hb1'; clear hb1'; have HV1 : Hid _ := hv1; clear hv1; have X0' : Bx w1 _ _ _ := X0.below hb1; have X1' : Bx w1 _ _ _ := X1.below hb1; have X2' : Bx w1 _ _ _ := X2.below hb1; have q0 := X0'.c0; have q1 := X0'.c1; have q2 := X1'.c1; have q3 := X1'.c0)
      | (go_at_call 86; refine (signed_any _ s x1 w1 hr1 (by omega) hd1).mono ?_; rintro e w2 ⟨t, x2, rfl, hr2, hd2, ht2, hv2, hlen2, hb2⟩; have HV2 : Hid _ := hv2; clear hv2; obtain ⟨xa, xc, rfl⟩ := hr2.val; have X0'' := X0'.below hb2; have X1'' := X1'.below hb2; have X2'' := X2'.below hb2; have r0 := X0''.c0; have r1 := X0''.c1; have r2 := X1''.c1; have r3 := X2''.c0; have r4 := X2''.c1; have r5 := X1''.c0; have g3 := X2''.f0; have g4 := X2''.f1))
  all_goals go_wp2
  refine bodyPost_ret (v := .agg #[.bool (!(b1 == b2) && !t.isEmpty), .slice xa t.length xc]) (by simp [results, Tryz.results69, go_sem, r3, r4]) rfl ⟨_, rfl, ⟨_, _, t, rfl, hr2.set2 X2'' _ _, ?_⟩, ?_⟩
  · have := Lim.signed (b := !(b1 == b2)) hd2 ht2
    rw [HV2.out, HV1.out] at this
    rw [h1.val, h2.val]
    have e : sv b1 (ev 1000000000 l) * sv b2 (ev 1000000000 m) = sv (!(b1 == b2)) (ev 1000000000 l * ev 1000000000 m) := by
      cases b1 <;> cases b2 <;> simp [sv, Int.neg_mul, Int.mul_neg]
    rw [e]
    exact this
  · exact below_set2 (hb0.trans ((hb1.mono hb0.size).trans (hb2.mono (by have := hb0.size; have := hb1.size; omega)))) (by omega) _ _

end Go.Proofs.YtldcjkhbiffdoabGreatDoor

namespace Go.Proofs.YtldcjkhbiffdoabGreatDoor
open Go.RowKit

set_option maxHeartbeats 1000000 in
theorem small_zero (w : World) : Calls Tryz.prog 50 #[.int .i64 0] w fun e w' => ∃ v, e = .returned v ∧ IsI w' v 0 ∧ Below w.heap.size w w' := by
  go_enter Tryz.func50, Tryz.ntmps50
  go_wp2_with fail
  refine wp_loop_rounds 1 ?_; rw [rounds_succ]
  go_wp2
  refine bodyPost_ret (v := .agg #[.bool false, .slice (some ⟨w.heap.size + 1, 0, none⟩) 0 0]) (by simp [results, Tryz.results50, go_sem]) rfl ⟨_, rfl, ⟨_, _, [], rfl, (Own.lit (by simp)).row, Dig.nil _, (fun x h => by simp at h), (fun h => by simp at h), by simp [sv, ev]⟩, ?_⟩
  exact ((Below.refl _ _).alloc (Nat.le_refl _) _).alloc (by simp) _

theorem tmod_small {n : Int} (h0 : n < 0) (h1 : -1000000000 < n) : n.tmod 1000000000 = n := by
  have : n = -(-n) := by omega
  rw [this, Int.neg_tmod, Int.tmod_eq_emod_of_nonneg (by omega)]; omega
theorem tdiv_small {n : Int} (h0 : n < 0) (h1 : -1000000000 < n) : n.tdiv 1000000000 = 0 := by
  have : n = -(-n) := by omega
  rw [this, Int.neg_tdiv, Int.tdiv_eq_ediv_of_nonneg (by omega)]; omega

set_option maxHeartbeats 1000000 in
theorem small_pos (n : Int) (h0 : 0 < n) (h1 : n < 1000000000) (w : World) : Calls Tryz.prog 50 #[.int .i64 n] w fun e w' => ∃ v, e = .returned v ∧ IsI w' v n ∧ Below w.heap.size w w' := by
  obtain ⟨q, HQ⟩ : ∃ q, Hid (n % 1000000000 = q) := ⟨_, rfl⟩
  have hq : q = n := by rw [← HQ.out]; omega
  have e1 : n % 1000000000 = n := by rw [HQ.out]; exact hq
  have e2 : n / 1000000000 = 0 := by omega
  clear hq HQ
  go_enter Tryz.func50, Tryz.ntmps50
  go_wp2_with fail
  generalize hW : (w.alloc (Obj.cells #[Value.bool false, Value.slice none 0 0] 70)).alloc (Obj.cells #[] 2) = W1
  have hown0 : Own (w.heap.size + 1) W1 (.slice (some ⟨w.heap.size + 1, 0, none⟩) 0 0) [] := by rw [← hW]; exact Own.lit (by simp)
  have X0 : Bx W1 w.heap.size (.bool false) (.slice none 0 0) := by rw [← hW]; exact (Bx.alloc w _ _).alloc_old _
  have hsz : w.heap.size + 1 ≤ W1.heap.size := by rw [← hW]; simp
  have hb0 : Below w.heap.size w W1 := by rw [← hW]; exact ((Below.refl _ _).alloc (Nat.le_refl _) _).alloc (by simp) _
  clear hW
  refine wp_loop_rounds 2 ?_; rw [rounds_succ]
  go_wp2_with (at_builtin; refine wpList_push rfl (.tmp 19) (.tmp 21) rfl (w.heap.size + 1) _ [] _ rfl hown0 rfl (by simp) hsz ?_)
  intro v' w1 hown1 hb1 _
  obtain ⟨xa, xc, rfl⟩ := hown1.row.val
  have X1 : Bx w1 w.heap.size (.bool false) (.slice none 0 0) := by unfold Bx; rw [hb1.block _ (by omega)]; exact X0
  have r3 := X1.c0; have r4 := X1.c1; have g3 := X1.f0; have g4 := X1.f1
  go_wp2
  rw [rounds_succ]
  go_wp2
  refine bodyPost_ret (v := .agg #[.bool false, .slice xa 1 xc]) (by simp [results, Tryz.results50, go_sem, r3, r4]; omega) rfl ⟨_, rfl, ⟨_, _, [n], rfl, hown1.row.set2 X1 _ _, ?_⟩, ?_⟩
  · refine ⟨?_, ?_, ?_, ?_⟩
    · intro x hx; simp at hx; omega
    · intro x hx; simp at hx; omega
    · intro _; simp
    · simp [sv, ev]
  · exact below_set2 (hb0.trans (hb1.mono (by omega))) (Nat.le_refl _) _ _

set_option maxHeartbeats 1000000 in
theorem small_neg (n : Int) (h0 : n < 0) (h1 : -1000000000 < n) (w : World) : Calls Tryz.prog 50 #[.int .i64 n] w fun e w' => ∃ v, e = .returned v ∧ IsI w' v n ∧ Below w.heap.size w w' := by
  obtain ⟨q, HQ⟩ : ∃ q, Hid (n.tmod 1000000000 = q) := ⟨_, rfl⟩
  have hq : q = n := by rw [← HQ.out]; exact tmod_small h0 h1
  have e1 : n.tmod 1000000000 = n := by rw [HQ.out]; exact hq
  have e2 : n.tdiv 1000000000 = 0 := by exact tdiv_small h0 h1
  clear hq HQ
  go_enter Tryz.func50, Tryz.ntmps50
  go_wp2_with fail
  generalize hW : (w.alloc (Obj.cells #[Value.bool false, Value.slice none 0 0] 70)).alloc (Obj.cells #[] 2) = W1
  have hown0 : Own (w.heap.size + 1) W1 (.slice (some ⟨w.heap.size + 1, 0, none⟩) 0 0) [] := by rw [← hW]; exact Own.lit (by simp)
  have X0 : Bx W1 w.heap.size (.bool false) (.slice none 0 0) := by rw [← hW]; exact (Bx.alloc w _ _).alloc_old _
  have hsz : w.heap.size + 1 ≤ W1.heap.size := by rw [← hW]; simp
  have hb0 : Below w.heap.size w W1 := by rw [← hW]; exact ((Below.refl _ _).alloc (Nat.le_refl _) _).alloc (by simp) _
  clear hW
  refine wp_loop_rounds 2 ?_; rw [rounds_succ]
  go_wp2_with (at_builtin; refine wpList_push rfl (.tmp 19) (.tmp 21) rfl (w.heap.size + 1) _ [] _ rfl hown0 rfl (by simp) hsz ?_)
  intro v' w1 hown1 hb1 _
  obtain ⟨xa, xc, rfl⟩ := hown1.row.val
  have X1 : Bx w1 w.heap.size (.bool false) (.slice none 0 0) := by unfold Bx; rw [hb1.block _ (by omega)]; exact X0
  have r3 := X1.c0; have r4 := X1.c1; have g3 := X1.f0; have g4 := X1.f1
  go_wp2
  rw [rounds_succ]
  go_wp2
  refine bodyPost_ret (v := .agg #[.bool true, .slice xa 1 xc]) (by simp [results, Tryz.results50, go_sem, r3, r4]) rfl ⟨_, rfl, ⟨_, _, [-n], rfl, hown1.row.set2 X1 _ _, ?_⟩, ?_⟩
  · refine ⟨?_, ?_, ?_, ?_⟩
    · intro x hx; simp at hx; omega
    · intro x hx; simp at hx; omega
    · intro _; simp
    · simp [sv, ev]
  · exact below_set2 (hb0.trans (hb1.mono (by omega))) (Nat.le_refl _) _ _

theorem small_any (n : Int) (h0 : -1000000000 < n) (h1 : n < 1000000000) (w : World) : Calls Tryz.prog 50 #[.int .i64 n] w fun e w' => ∃ v, e = .returned v ∧ IsI w' v n ∧ Below w.heap.size w w' := by
  rcases (show n = 0 ∨ 0 < n ∨ n < 0 by omega) with rfl | h | h
  · exact small_zero w
  · exact small_pos n h h1 w
  · exact small_neg n h h0 w

end Go.Proofs.YtldcjkhbiffdoabGreatDoor

namespace Go.Proofs.YtldcjkhbiffdoabGreatDoor
open Go.RowKit

def RowN (w : World) (v : Value) (l : List Int) : Prop := w.ownsRow 0 3 1 v l.length (l.map (Value.int .i64))

theorem RowN.form {w : World} {v : Value} {l : List Int} (h : RowN w v l) :
    (v = .slice none 0 0 ∧ l = []) ∨ ∃ g cap, v = .slice (some ⟨g, 0, none⟩) l.length cap ∧ l.length ≤ cap ∧ cap ≤ maxLen ∧ g < w.heap.size ∧ (∀ i, i < l.length → w.cell? ⟨g, i, none⟩ = some (.int .i64 (l.getD i 0))) := by
  rcases h.2 with ⟨h1, h2⟩ | ⟨g, cap, cur, hv, hb, hg, hnc, hcm, hcs, ht⟩
  · exact .inl ⟨h1, List.eq_nil_of_length_eq_zero h2⟩
  · refine .inr ⟨g, cap, hv, hnc, hcm, (Array.getElem?_eq_some_iff.1 hg).1, fun i hi => ?_⟩
    have h' : w.ownsRow 0 3 1 (.slice (some ⟨g, 0, none⟩) l.length cap) l.length (l.map (Value.int .i64)) := hv ▸ h
    rw [h'.cellAt i (by omega)]
    simp [hi, List.getD]

theorem RowN.val {w : World} {v : Value} {l : List Int} (h : RowN w v l) : ∃ a c, v = .slice a l.length c := by
  rcases h.form with ⟨rfl, rfl⟩ | ⟨g, cap, rfl, _⟩
  · exact ⟨_, _, rfl⟩
  · exact ⟨_, _, rfl⟩

theorem RowN.at {w : World} {a : Option Addr} {c : Nat} {l : List Int} (h : RowN w (.slice a l.length c) l) (i : Nat) (hi : i < l.length) : ∃ g, a = some ⟨g, 0, none⟩ ∧ l.length ≤ c ∧ c ≤ maxLen ∧ g < w.heap.size ∧ w.cell? ⟨g, i, none⟩ = some (.int .i64 (l.getD i 0)) := by
  rcases h.form with ⟨h1, rfl⟩ | ⟨g, cap, h1, h2, h3, h5, h4⟩
  · simp at hi
  · simp only [Value.slice.injEq] at h1
    obtain ⟨rfl, _, rfl⟩ := h1
    exact ⟨g, rfl, h2, h3, h5, h4 i hi⟩

theorem RowN.below {w w' : World} {v : Value} {l : List Int} (h : RowN w v l) (hb : Below w.heap.size w w') : RowN w' v l := by
  refine ⟨h.1, ?_⟩
  rcases h.2 with h1 | ⟨g, cap, cur, hv, hb0, hg, r⟩
  · exact .inl h1
  · exact .inr ⟨g, cap, cur, hv, hb0, by rw [hb.block g (Array.getElem?_eq_some_iff.1 hg).1]; exact hg, r⟩

theorem RowN.alloc {w : World} {v : Value} {l : List Int} (h : RowN w v l) (o : Obj) : RowN (w.alloc o) v l := h.below ((Below.refl _ _).alloc (Nat.le_refl _) _)

def OwnN (B : Nat) (w : World) (v : Value) (l : List Int) : Prop := w.ownsRow B 3 1 v l.length (l.map (Value.int .i64))

theorem OwnN.row {B : Nat} {w : World} {v : Value} {l : List Int} (h : OwnN B w v l) : RowN w v l := by
  refine ⟨h.1, ?_⟩
  rcases h.2 with h1 | ⟨g, cap, cur, hv, hb0, r⟩
  · exact .inl h1
  · exact .inr ⟨g, cap, cur, hv, Nat.zero_le _, r⟩

theorem OwnN.block {B : Nat} {w : World} {v : Value} {l : List Int} (h : OwnN B w v l) : ∀ k, v.ownBlock = some k → B ≤ k := fun k hk => (World.ownsRow.lt h k hk).1

theorem OwnN.lit {w : World} {n : Nat} (h : w.heap.size = n) : OwnN n (w.alloc (.cells #[] 3)) (.slice (some ⟨n, 0, none⟩) 0 0) [] := by
  subst h
  exact World.ownsRow_made w #[] 0 (Nat.le_refl _) (by simp [maxLen]) rfl

theorem Tryz.infoIntN : (Tryz.prog.info? 3).map (fun i => (i.zero, i.size, i.bytes)) = some (some (.int .i64 0), 1, 8) := by kernel_rfl
theorem Tryz.sliceIntN : Tryz.prog.underlying 42 = some (.slice 3) := by kernel_rfl

theorem wpList_pushN {ops : Array Oper} {rest : List Oper} {o : Oper} {a : Act} {Q : Exit → Act → World → Prop} {wr : World} (hgd : o.guard = none) (s x : Operand)
    (ho : o.op = .call { callee := .builtin .append, args := #[s, x], argTypes := #[42, 42] })
    (B : Nat) (v : Value) (l : List Int) (y : Int) (hs : a.eval s = v) (hown : OwnN B wr v l) (hx : a.eval x = .slice (some ⟨wr.heap.size, 0, none⟩) 1 1)
    (hlen : l.length ≤ 1000000000000) (hB : B ≤ wr.heap.size)
    (h : ∀ v' w', OwnN B w' v' (l ++ [y]) → Below B wr w' → wr.grownBy w' v.ownBlock → wpList Tryz.prog ops Q rest (a.put o.dst v') w') :
    wpList Tryz.prog ops Q (o :: rest) a (wr.alloc (.cells #[.int .i64 y] 3)) := by
  obtain ⟨i, hi, hz0, hz1, hz2⟩ := info_parts Tryz.infoIntN
  refine wpList_append_own _ hgd s x 42 ho B 3 i (.int .i64 0) 1 8 Tryz.sliceIntN hi hz0 hz1 hz2 rfl (by decide) v l.length (l.map (Value.int .i64)) hs (World.ownsRow.alloc hown _) ⟨wr.heap.size, 0, none⟩ 1 1 [.int .i64 y] hx rfl ?_ ?_ ?_ ?_ ?_ ?_
  · intro j u hj
    match j, hj with
    | 0, hj => simp at hj; subst hj; simp [Addr.add]
  · intro u hu; simp at hu; subst hu; rfl
  · unfold maxLen; omega
  · omega
  · simp; omega
  · intro v' w' h1 h2 _
    have hg : wr.grownBy w' v.ownBlock := by
      have h0 := World.grownBy_alloc wr (.cells #[.int .i64 y] 3) v.ownBlock
      exact ⟨h2.os.trans h0.os, h2.tape.trans h0.tape, h2.output.trans h0.output, Nat.le_trans h0.size h2.size, fun k hk hne => (h2.block k (by simp; omega) hne).trans (h0.block k hk hne)⟩
    refine h v' w' ?_ ((Below.refl _ _).grown hg hB hown.block) hg
    unfold OwnN
    simpa using h1


def lenV : Value → Nat
  | .slice _ n _ => n
  | _ => 0

theorem OwnN.take {B : Nat} {w : World} {a : Option Addr} {c : Nat} {l : List Int} (h : OwnN B w (.slice a l.length c) l) {n : Nat} (hn : n ≤ l.length) : OwnN B w (.slice a n c) (l.take n) := by
  have hlen : (l.take n).length = n := by rw [List.length_take]; omega
  unfold OwnN
  rw [hlen]
  refine ⟨by simp; omega, ?_⟩
  rcases h.2 with ⟨h1, h2⟩ | ⟨g, cap, cur, hv, hb, hg, hnc, hcm, hcs, ht⟩
  · simp only [Value.slice.injEq] at h1
    obtain ⟨rfl, _, rfl⟩ := h1
    obtain rfl : n = 0 := by omega
    exact .inl ⟨rfl, rfl⟩
  · simp only [Value.slice.injEq, true_and] at hv
    obtain ⟨rfl, rfl⟩ := hv
    refine .inr ⟨g, c, cur, rfl, hb, hg, by omega, hcm, hcs, ?_⟩
    have : cur.toList.take (n * 1) = (cur.toList.take (l.length * 1)).take (n * 1) := by rw [List.take_take]; congr 1; omega
    rw [this, ht, Nat.mul_one, List.map_take]

theorem OwnN.below {B : Nat} {w w' : World} {v : Value} {l : List Int} (h : OwnN B w v l) (hb : Below w.heap.size w w') : OwnN B w' v l := by
  refine ⟨h.1, ?_⟩
  rcases h.2 with h1 | ⟨g, cap, cur, hv, hb0, hg, r⟩
  · exact .inl h1
  · exact .inr ⟨g, cap, cur, hv, hb0, by rw [hb.block g (Array.getElem?_eq_some_iff.1 hg).1]; exact hg, r⟩

theorem OwnN.mono {B B' : Nat} {w : World} {v : Value} {l : List Int} (h : OwnN B w v l) (hB : B' ≤ B) : OwnN B' w v l :=
  ⟨h.1, h.2.elim Or.inl (fun ⟨g, cap, cur, hv, hg, r⟩ => Or.inr ⟨g, cap, cur, hv, Nat.le_trans hB hg, r⟩)⟩

end Go.Proofs.YtldcjkhbiffdoabGreatDoor
