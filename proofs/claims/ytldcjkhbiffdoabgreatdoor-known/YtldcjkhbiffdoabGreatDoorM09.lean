import Derived.Lib.ItoaNum
import Derived.Test.YtldcjkhbiffdoabGreatDoorM00
import Derived.Test.YtldcjkhbiffdoabGreatDoorM08

namespace Go.Proofs.YtldcjkhbiffdoabGreatDoor
open Go

def padk : Nat → Nat → List UInt8
  | 0, _ => []
  | k + 1, n => padk k (n / 10) ++ [UInt8.ofNat (48 + n % 10)]

theorem dec_big {n : Nat} (h : ¬ n < 10) : Lib.decDigits n = Lib.decDigits (n / 10) ++ [UInt8.ofNat (48 + n % 10)] := by rw [Lib.decDigits, dif_neg h]

theorem dec_pad (q : Nat) (hq : 0 < q) : ∀ (k x : Nat), x < 10 ^ k → Lib.decDigits (q * 10 ^ k + x) = Lib.decDigits q ++ padk k x
  | 0, x, h => by
    have : x = 0 := by simp at h; exact h
    subst this; simp [padk]
  | k + 1, x, h => by
    rw [Nat.pow_succ] at h
    have h1 : 0 < 10 ^ k := Nat.pow_pos (by omega)
    have h2 : q * 10 ^ (k + 1) = q * 10 ^ k * 10 := by rw [Nat.pow_succ, Nat.mul_assoc]
    have h3 : 1 * 1 ≤ q * 10 ^ k := Nat.mul_le_mul hq h1
    rw [h2]
    generalize hp : q * 10 ^ k = p at *
    rw [dec_big (by omega), show (p * 10 + x) / 10 = p + x / 10 by omega, show (p * 10 + x) % 10 = x % 10 by omega, ← hp, dec_pad q hq k (x / 10) (by omega)]
    simp [padk]

theorem pad_eq : ∀ (k n : Nat), n < 10 ^ (k + 1) → padk (k + 1) n = List.replicate (k + 1 - Lib.nDigits n) 48 ++ Lib.decDigits n
  | 0, n, h => by
    have h : n < 10 := by simpa using h
    rw [Lib.nDigits_small h, Lib.decDigits_one h]
    simp [padk, Nat.mod_eq_of_lt h]
  | k + 1, n, h => by
    rw [Nat.pow_succ] at h
    show padk (k + 1) (n / 10) ++ [UInt8.ofNat (48 + n % 10)] = _
    rw [pad_eq k (n / 10) (by omega)]
    by_cases hn : n < 10
    · have h0 : n / 10 = 0 := by omega
      rw [h0, Lib.nDigits_small hn, Lib.nDigits_small (by omega), Lib.decDigits_one hn, Lib.decDigits_one (by omega), Nat.mod_eq_of_lt hn]
      rw [show k + 1 + 1 - 1 = (k + 1 - 1) + 1 by omega, List.replicate_succ']
      rfl
    · rw [Lib.nDigits_big hn, dec_big hn, show k + 1 + 1 - (Lib.nDigits (n / 10) + 1) = k + 1 - Lib.nDigits (n / 10) by omega, List.append_assoc]

theorem dec_limb (q x : Int) (hq : 0 < q) (h0 : 0 ≤ x) (h1 : x < 1000000000) : Lib.decDigits (x + 1000000000 * q).toNat = Lib.decDigits q.toNat ++ padk 9 x.toNat := by
  rw [show (x + 1000000000 * q).toNat = q.toNat * 10 ^ 9 + x.toNat by omega]
  exact dec_pad q.toNat (by omega) 9 x.toNat (by omega)

theorem pad9 (x : Int) (h0 : 0 ≤ x) (h1 : x < 1000000000) : List.replicate (9 - Lib.nDigits x.toNat) 48 ++ Lib.decDigits x.toNat = padk 9 x.toNat := (pad_eq 8 x.toNat (by omega)).symm

theorem pow_nDigits (u : Nat) : 10 ^ (Lib.nDigits u - 1) ≤ u ∨ u = 0 := by
  induction u using Nat.strongRecOn with
  | _ u ih =>
    by_cases hu : u < 10
    · rw [Lib.nDigits_small hu]; simp; omega
    · left
      rw [Lib.nDigits_big hu]
      rcases ih (u / 10) (by omega) with h3 | h3
      · have := Lib.nDigits_pos (u / 10)
        rw [show Lib.nDigits (u / 10) + 1 - 1 = (Lib.nDigits (u / 10) - 1) + 1 by omega, Nat.pow_succ]
        omega
      · omega

theorem nDigits_le {u k : Nat} (h : u < 10 ^ k) (hk : 1 ≤ k) : Lib.nDigits u ≤ k := by
  rcases Nat.lt_or_ge k (Lib.nDigits u) with h1 | h1
  · exfalso
    rcases pow_nDigits u with h3 | h3
    · have h4 : 10 ^ k ≤ 10 ^ (Lib.nDigits u - 1) := Nat.pow_le_pow_right (by omega) (by omega)
      omega
    · rw [h3, Lib.nDigits_small (by omega)] at h1; omega
  · exact h1

theorem nDigits_le9 (x : Int) (h1 : x < 1000000000) : Lib.nDigits x.toNat ≤ 9 := nDigits_le (by omega) (by omega)

theorem ev_toNat_lt {l : List Int} (d : Dig 1000000000 l) : (ev 1000000000 l).toNat < 10 ^ (9 * l.length) := by
  have h := ev_lt (by omega) d
  have h0 := ev_nonneg (by omega) d
  have h1 : ((10 ^ (9 * l.length) : Nat) : Int) = 1000000000 ^ l.length := by rw [Nat.pow_mul, Int.natCast_pow]; rfl
  omega

theorem dec_len {l : List Int} (d : Dig 1000000000 l) : (Lib.decDigits (ev 1000000000 l).toNat).length ≤ 9 * l.length + 1 := by
  rw [Lib.decDigits_length]
  refine nDigits_le (Nat.lt_of_lt_of_le (ev_toNat_lt d) (Nat.pow_le_pow_right (by omega) (by omega))) (by omega)

theorem str_app (a b : List UInt8) : ((⟨a.toArray⟩ : ByteArray) ++ ⟨b.toArray⟩) = ⟨(a ++ b).toArray⟩ := by
  apply ByteArray.ext
  simp
theorem itoa_nonneg {x : Int} (h : 0 ≤ x) : Lib.itoa x = Lib.decDigits x.toNat := by unfold Lib.itoa; rw [if_neg (by omega)]

end Go.Proofs.YtldcjkhbiffdoabGreatDoor

namespace Go.Proofs.YtldcjkhbiffdoabGreatDoor
open Go.RowKit

theorem two_new {w W0 : World} {a b c d : Value} (h : (w.alloc (.cells #[a, b] 70)).alloc (.cells #[c, d] 70) = W0) :
    w.heap.size + 1 < W0.heap.size ∧ Below w.heap.size w W0 ∧ Bx W0 w.heap.size a b ∧ Bx W0 (w.heap.size + 1) c d := by
  subst h
  refine ⟨by simp, ((Below.refl _ _).alloc (Nat.le_refl _) _).alloc (by simp) _, (Bx.alloc w a b).alloc_old _, ?_⟩
  have := Bx.alloc (w.alloc (.cells #[a, b] 70)) c d
  simpa using this

set_option maxHeartbeats 1000000 in
theorem neg_any (u : Value) (z : Int) (w : World) (hu : IsI w u z) (f : Fit z) :
    Calls Tryz.prog 63 #[u] w fun e w' => ∃ v, e = .returned v ∧ IsI w' v (-z) ∧ Below w.heap.size w w' := by
  obtain ⟨b, x, l, rfl, hx, h1⟩ := hu
  have hl := h1.len f
  obtain ⟨ua, uc, rfl⟩ := hx.val
  go_enter Tryz.func63, Tryz.ntmps63
  go_wp2_with fail
  generalize hW : (w.alloc (Obj.cells #[Value.bool b, Value.slice ua l.length uc] 70)).alloc (Obj.cells #[Value.bool false, Value.slice none 0 0] 70) = W0
  obtain ⟨hz0, hb0, X0, X1⟩ := two_new hW
  clear hW
  refine (signed_any (!b) l _ W0 (hx.below hb0) (by omega) h1.dig).mono ?_
  rintro e w1 ⟨t, x2, rfl, hr2, hd2, ht2, hv2, hlen2, hb2⟩
  have HV2 : Hid _ := hv2
  clear hv2
  obtain ⟨xa, xc, rfl⟩ := hr2.val
  have X1' := X1.below hb2
  have r3 := X1'.c0; have r4 := X1'.c1; have g3 := X1'.f0; have g4 := X1'.f1
  go_wp2
  refine bodyPost_ret (v := .agg #[.bool (!b && !t.isEmpty), .slice xa t.length xc]) (by simp [results, Tryz.results63, go_sem, r3, r4]) rfl ⟨_, rfl, ⟨_, _, t, rfl, hr2.set2 X1' _ _, ?_⟩, below_set2 (hb0.trans (hb2.mono hb0.size)) (by omega) _ _⟩
  have := Lim.signed (b := !b) hd2 ht2
  rw [HV2.out] at this
  rw [h1.val]
  have e : -sv b (ev 1000000000 l) = sv (!b) (ev 1000000000 l) := by cases b <;> simp [sv]
  rw [e]
  exact this

set_option maxHeartbeats 1000000 in
theorem abs_any (u : Value) (z : Int) (w : World) (hu : IsI w u z) (f : Fit z) :
    Calls Tryz.prog 60 #[u] w fun e w' => ∃ v, e = .returned v ∧ IsI w' v (z.natAbs : Int) ∧ Below w.heap.size w w' := by
  obtain ⟨b, x, l, rfl, hx, h1⟩ := hu
  have hl := h1.len f
  obtain ⟨ua, uc, rfl⟩ := hx.val
  go_enter Tryz.func60, Tryz.ntmps60
  go_wp2_with fail
  generalize hW : (w.alloc (Obj.cells #[Value.bool b, Value.slice ua l.length uc] 70)).alloc (Obj.cells #[Value.bool false, Value.slice none 0 0] 70) = W0
  obtain ⟨hz0, hb0, X0, X1⟩ := two_new hW
  clear hW
  refine (signed_any false l _ W0 (hx.below hb0) (by omega) h1.dig).mono ?_
  rintro e w1 ⟨t, x2, rfl, hr2, hd2, ht2, hv2, hlen2, hb2⟩
  have HV2 : Hid _ := hv2
  clear hv2
  obtain ⟨xa, xc, rfl⟩ := hr2.val
  have X1' := X1.below hb2
  have r3 := X1'.c0; have r4 := X1'.c1; have g3 := X1'.f0; have g4 := X1'.f1
  go_wp2
  refine bodyPost_ret (v := .agg #[.bool (false && !t.isEmpty), .slice xa t.length xc]) (by simp [results, Tryz.results60, go_sem, r3, r4]) rfl ⟨_, rfl, ⟨_, _, t, rfl, hr2.set2 X1' _ _, ?_⟩, below_set2 (hb0.trans (hb2.mono hb0.size)) (by omega) _ _⟩
  have := Lim.signed (b := false) hd2 ht2
  rw [HV2.out] at this
  rw [h1.val, natAbs_sv b h1.nonneg]
  exact this

def sgn3 (z : Int) : Int := if z < 0 then -1 else if z = 0 then 0 else 1

set_option maxHeartbeats 1000000 in
theorem sign_any (u : Value) (z : Int) (w : World) (hu : IsI w u z) (f : Fit z) :
    Calls Tryz.prog 56 #[u] w fun e w' => e = .returned (.int .i64 (sgn3 z)) ∧ Below w.heap.size w w' := by
  obtain ⟨b, x, l, rfl, hx, h1⟩ := hu
  have hl := h1.len f
  obtain ⟨ua, uc, rfl⟩ := hx.val
  have hs : (l.length = 0 ∧ sgn3 z = 0) ∨ (0 < l.length ∧ b = true ∧ sgn3 z = -1) ∨ (0 < l.length ∧ b = false ∧ sgn3 z = 1) := by
    cases l with
    | nil =>
      refine .inl ⟨rfl, ?_⟩
      rw [h1.val]
      cases b <;> simp [sv, ev, sgn3]
    | cons a l =>
      have := ev_ne h1.dig h1.trim (by simp)
      cases b with
      | true => exact .inr (.inl ⟨by simp, rfl, by rw [h1.val]; unfold sgn3 sv; rw [if_pos rfl, if_pos (by omega)]⟩)
      | false => exact .inr (.inr ⟨by simp, rfl, by rw [h1.val]; show sgn3 (ev 1000000000 (a :: l)) = 1; unfold sgn3; rw [if_neg (by omega), if_neg (by omega)]⟩)
  generalize sgn3 z = g at *
  rcases hs with ⟨h0, rfl⟩ | ⟨h0, rfl, rfl⟩ | ⟨h0, rfl, rfl⟩
  all_goals
    go_enter Tryz.func56, Tryz.ntmps56
    go_wp2
    go_ret
    exact ⟨rfl, (Below.refl _ _).alloc (Nat.le_refl _) _⟩

set_option maxHeartbeats 1000000 in
theorem compare_any (u v : Value) (z1 z2 : Int) (w : World) (hu : IsI w u z1) (hv : IsI w v z2) (f1 : Fit z1) (f2 : Fit z2) :
    Calls Tryz.prog 57 #[u, v] w fun e w' => e = .returned (.int .i64 (cmp3 z1 z2)) ∧ Below w.heap.size w w' := by
  obtain ⟨b1, x, l, rfl, hx, h1⟩ := hu
  obtain ⟨b2, y, m, rfl, hy, h2⟩ := hv
  have hl := h1.len f1
  have hm := h2.len f2
  obtain ⟨ua, uc, rfl⟩ := hx.val
  obtain ⟨va, vc, rfl⟩ := hy.val
  have n1 := h1.nonneg
  have n2 := h2.nonneg
  have p1 : b1 = true → 0 < ev 1000000000 l := fun h => ev_ne h1.dig h1.trim (h1.neg h)
  have p2 : b2 = true → 0 < ev 1000000000 m := fun h => ev_ne h2.dig h2.trim (h2.neg h)
  have e1 := h1.val
  have e2 := h2.val
  have hcmp := cmp3_bd (ev 1000000000 l) (ev 1000000000 m)
  cases b1 <;> cases b2
  · have he : cmp3 z1 z2 = cmp3 (ev 1000000000 l) (ev 1000000000 m) := by rw [e1, e2]; rfl
    rw [he]
    clear he e1 e2 p1 p2 n1 n2
    have hC := fun (W0 : World) (g1 : Row W0 (.slice ua l.length uc) l) (g2 : Row W0 (.slice va m.length vc) m) => compareLimbs_any l m _ _ W0 g1 g2 (by omega) h1.dig h2.dig h1.trim h2.trim
    generalize cmp3 (ev 1000000000 l) (ev 1000000000 m) = c at *
    obtain ⟨hcl, hcu⟩ := hcmp
    have HC : Hid _ := hC
    clear hC
    go_enter Tryz.func57, Tryz.ntmps57
    go_wp2_with fail
    generalize hW : (w.alloc (Obj.cells #[Value.bool false, Value.slice ua l.length uc] 70)).alloc (Obj.cells #[Value.bool false, Value.slice va m.length vc] 70) = W0
    obtain ⟨hz0, hb0, X0, X1⟩ := two_new hW
    clear hW
    refine (HC.out W0 (hx.below hb0) (hy.below hb0)).mono ?_
    rintro e w' ⟨rfl, rfl⟩
    have r3 := X0.c0
    go_wp2
    go_ret
    exact ⟨rfl, hb0⟩
  · have he : cmp3 z1 z2 = 1 := by
      have := p2 rfl
      apply cmp3_gt
      rw [e1, e2]; unfold sv; rw [if_pos rfl, if_neg (by simp)]; omega
    rw [he]
    clear he e1 e2 p1 p2 n1 n2 hcmp
    go_enter Tryz.func57, Tryz.ntmps57
    go_wp2
    go_ret
    exact ⟨rfl, ((Below.refl _ _).alloc (Nat.le_refl _) _).alloc (by simp) _⟩
  · have he : cmp3 z1 z2 = -1 := by
      have := p1 rfl
      apply cmp3_lt
      rw [e1, e2]; unfold sv; rw [if_pos rfl, if_neg (by simp)]; omega
    rw [he]
    clear he e1 e2 p1 p2 n1 n2 hcmp
    go_enter Tryz.func57, Tryz.ntmps57
    go_wp2
    go_ret
    exact ⟨rfl, ((Below.refl _ _).alloc (Nat.le_refl _) _).alloc (by simp) _⟩
  · have he : cmp3 z1 z2 = -cmp3 (ev 1000000000 l) (ev 1000000000 m) := by
      rw [e1, e2]; unfold sv cmp3; rw [if_pos rfl, if_pos rfl]
      split
      · rw [if_neg (by omega), if_pos (by omega)]
      · split
        · rw [if_pos (by omega)]
          omega
        · rw [if_neg (by omega), if_neg (by omega)]; rfl
    rw [he]
    clear he e1 e2 p1 p2 n1 n2
    have hC := fun (W0 : World) (g1 : Row W0 (.slice ua l.length uc) l) (g2 : Row W0 (.slice va m.length vc) m) => compareLimbs_any l m _ _ W0 g1 g2 (by omega) h1.dig h2.dig h1.trim h2.trim
    generalize cmp3 (ev 1000000000 l) (ev 1000000000 m) = c at *
    obtain ⟨hcl, hcu⟩ := hcmp
    have HC : Hid _ := hC
    clear hC
    go_enter Tryz.func57, Tryz.ntmps57
    go_wp2_with fail
    generalize hW : (w.alloc (Obj.cells #[Value.bool true, Value.slice ua l.length uc] 70)).alloc (Obj.cells #[Value.bool true, Value.slice va m.length vc] 70) = W0
    obtain ⟨hz0, hb0, X0, X1⟩ := two_new hW
    clear hW
    refine (HC.out W0 (hx.below hb0) (hy.below hb0)).mono ?_
    rintro e w' ⟨rfl, rfl⟩
    have r3 := X0.c0
    go_wp2
    go_ret
    exact ⟨rfl, hb0⟩

end Go.Proofs.YtldcjkhbiffdoabGreatDoor

namespace Go.Proofs.YtldcjkhbiffdoabGreatDoor
open Go.RowKit

theorem three_new {w W0 : World} {a b c d e f : Value} (h : ((w.alloc (.cells #[a, b] 70)).alloc (.cells #[c, d] 70)).alloc (.cells #[e, f] 70) = W0) :
    w.heap.size + 1 + 1 < W0.heap.size ∧ Below w.heap.size w W0 ∧ Bx W0 w.heap.size a b ∧ Bx W0 (w.heap.size + 1) c d ∧ Bx W0 (w.heap.size + 1 + 1) e f := by
  subst h
  refine ⟨by simp, (((Below.refl _ _).alloc (Nat.le_refl _) _).alloc (by simp) _).alloc (by simp; omega) _, ((Bx.alloc w a b).alloc_old _).alloc_old _, ?_, ?_⟩
  · have := (Bx.alloc (w.alloc (.cells #[a, b] 70)) c d).alloc_old (.cells #[e, f] 70)
    simpa using this
  · have := Bx.alloc ((w.alloc (.cells #[a, b] 70)).alloc (.cells #[c, d] 70)) e f
    simpa using this

set_option maxHeartbeats 2000000 in
theorem add_same (b : Bool) (x y : Value) (l m : List Int) (z1 z2 : Int) (w : World) (hx : Row w x l) (hy : Row w y m) (h1 : Lim b l z1) (h2 : Lim b m z2) (hl : l.length ≤ 10000000) (hm : m.length ≤ 10000000) :
    Calls Tryz.prog 80 #[.agg #[.bool b, x], .agg #[.bool b, y]] w fun e w' => ∃ v, e = .returned v ∧ IsI w' v (z1 + z2) ∧ Below w.heap.size w w' := by
  obtain ⟨ua, uc, rfl⟩ := hx.val
  obtain ⟨va, vc, rfl⟩ := hy.val
  go_enter Tryz.func80, Tryz.ntmps80
  go_wp2
  generalize hW : ((w.alloc (Obj.cells #[Value.bool b, Value.slice ua l.length uc] 70)).alloc (Obj.cells #[Value.bool b, Value.slice va m.length vc] 70)).alloc (Obj.cells #[Value.bool false, Value.slice none 0 0] 70) = W0
  obtain ⟨hz0, hb0, X0, X1, X2⟩ := three_new hW
  clear hW
  have c0 := X0.c0; have c1 := X0.c1; have c2 := X1.c1
  have hx0 := hx.below hb0
  have hy0 := hy.below hb0
  go_region_held3 (fun w' => w'.cell? ⟨w.heap.size, 0, none⟩ = some (.bool b) ∧ w'.cell? ⟨w.heap.size, 1, none⟩ = some (.slice ua l.length uc) ∧ w'.cell? ⟨w.heap.size + 1, 1, none⟩ = some (.slice va m.length vc))
    (first | exact ⟨c0, c1, c2⟩ | exact ⟨q0, q1, q2⟩ | exact ⟨r0, r1, r2⟩ | simp [go_sem, r0, r1, r2])
    (first
      | (go_at_call 104; refine (addLimbs_any l m _ _ _ (by exact hx0) (by exact hy0) (by omega) (by omega) h1.dig h2.dig).mono ?_; rintro e w1 ⟨s, x1, rfl, hr1, hd1, hv1, hlen1, hb1'⟩; have hb1 := of_drew hb1'; clear hb1'; have HV1 : Hid _ := hv1; clear hv1; have X0' : Bx w1 _ _ _ := X0.below hb1; have X1' : Bx w1 _ _ _ := X1.below hb1; have X2' : Bx w1 _ _ _ := X2.below hb1; have q0 := X0'.c0; have q1 := X0'.c1; have q2 := X1'.c1)
      | (go_at_call 86; refine (signed_any b s x1 w1 hr1 (by omega) hd1).mono ?_; rintro e w2 ⟨t, x2, rfl, hr2, hd2, ht2, hv2, hlen2, hb2⟩; have HV2 : Hid _ := hv2; clear hv2; obtain ⟨xa, xc, rfl⟩ := hr2.val; have X0'' := X0'.below hb2; have X1'' := X1'.below hb2; have X2'' := X2'.below hb2; have r0 := X0''.c0; have r1 := X0''.c1; have r2 := X1''.c1; have r3 := X2''.c0; have r4 := X2''.c1; have g3 := X2''.f0; have g4 := X2''.f1))
  all_goals go_wp2
  refine bodyPost_ret (v := .agg #[.bool (b && !t.isEmpty), .slice xa t.length xc]) (by simp [results, Tryz.results80, go_sem, r3, r4]) rfl ⟨_, rfl, ⟨_, _, t, rfl, hr2.set2 X2'' _ _, ?_⟩, ?_⟩
  · have := Lim.signed (b := b) hd2 ht2
    rw [HV2.out, HV1.out] at this
    rw [h1.val, h2.val]
    have e : sv b (ev 1000000000 l) + sv b (ev 1000000000 m) = sv b (ev 1000000000 l + ev 1000000000 m) := by unfold sv; split <;> omega
    rw [e]
    exact this
  · exact below_set2 (hb0.trans ((hb1.mono hb0.size).trans (hb2.mono (by have := hb0.size; have := hb1.size; omega)))) (by omega) _ _

set_option maxHeartbeats 2000000 in
theorem add_ge (b1 b2 : Bool) (hne : (b1 == b2) = false) (x y : Value) (l m : List Int) (z1 z2 : Int) (w : World) (hx : Row w x l) (hy : Row w y m) (h1 : Lim b1 l z1) (h2 : Lim b2 m z2) (hl : l.length ≤ 10000000) (_hm : m.length ≤ 10000000) (hle : ev 1000000000 m ≤ ev 1000000000 l) :
    Calls Tryz.prog 80 #[.agg #[.bool b1, x], .agg #[.bool b2, y]] w fun e w' => ∃ v, e = .returned v ∧ IsI w' v (z1 + z2) ∧ Below w.heap.size w w' := by
  obtain ⟨ua, uc, rfl⟩ := hx.val
  obtain ⟨va, vc, rfl⟩ := hy.val
  have hlen : m.length ≤ l.length := by
    rcases Nat.lt_or_ge l.length m.length with h | h
    · have := ev_lt_of_length (by omega) h1.dig h2.dig h2.trim h; omega
    · exact h
  have hcmp : 0 ≤ cmp3 (ev 1000000000 l) (ev 1000000000 m) := by unfold cmp3; rw [if_neg (by omega)]; split <;> omega
  have HLE : Hid _ := hle
  clear hle
  go_enter Tryz.func80, Tryz.ntmps80
  go_wp2_with fail
  generalize hW : ((w.alloc (Obj.cells #[Value.bool b1, Value.slice ua l.length uc] 70)).alloc (Obj.cells #[Value.bool b2, Value.slice va m.length vc] 70)).alloc (Obj.cells #[Value.bool false, Value.slice none 0 0] 70) = W0
  obtain ⟨hz0, hb0, X0, X1, X2⟩ := three_new hW
  clear hW
  have hx0 := hx.below hb0
  have hy0 := hy.below hb0
  refine (compareLimbs_any l m _ _ W0 hx0 hy0 (by omega) h1.dig h2.dig h1.trim h2.trim).mono ?_
  rintro e w' ⟨rfl, rfl⟩
  generalize cmp3 (ev 1000000000 l) (ev 1000000000 m) = c at *
  go_wp2_with fail
  have c0 := X0.c0; have c1 := X0.c1; have c2 := X1.c1
  have hle := HLE.out
  go_region_held3 (fun w' => w'.cell? ⟨w.heap.size, 0, none⟩ = some (.bool b1) ∧ w'.cell? ⟨w.heap.size, 1, none⟩ = some (.slice ua l.length uc) ∧ w'.cell? ⟨w.heap.size + 1, 1, none⟩ = some (.slice va m.length vc))
    (first | exact ⟨c0, c1, c2⟩ | exact ⟨q0, q1, q2⟩ | exact ⟨r0, r1, r2⟩ | simp [go_sem, r0, r1, r2])
    (first
      | (go_at_call 105; refine (subLimbs_any l m _ _ _ (by exact hx0) (by exact hy0) (by omega) hlen h1.dig h2.dig hle).mono ?_; rintro e w1 ⟨s, x1, rfl, hr1, hd1, hv1, hlen1, hb1'⟩; have hb1 := of_drew hb1'; clear hb1'; have HV1 : Hid _ := hv1; clear hv1; have X0' : Bx w1 _ _ _ := X0.below hb1; have X1' : Bx w1 _ _ _ := X1.below hb1; have X2' : Bx w1 _ _ _ := X2.below hb1; have q0 := X0'.c0; have q1 := X0'.c1; have q2 := X1'.c1)
      | (go_at_call 86; refine (signed_any b1 s x1 w1 hr1 (by omega) hd1).mono ?_; rintro e w2 ⟨t, x2, rfl, hr2, hd2, ht2, hv2, hlen2, hb2⟩; have HV2 : Hid _ := hv2; clear hv2; obtain ⟨xa, xc, rfl⟩ := hr2.val; have X0'' := X0'.below hb2; have X1'' := X1'.below hb2; have X2'' := X2'.below hb2; have r0 := X0''.c0; have r1 := X0''.c1; have r2 := X1''.c1; have r3 := X2''.c0; have r4 := X2''.c1; have g3 := X2''.f0; have g4 := X2''.f1))
  all_goals go_wp2
  refine bodyPost_ret (v := .agg #[.bool (b1 && !t.isEmpty), .slice xa t.length xc]) (by simp [results, Tryz.results80, go_sem, r3, r4]) rfl ⟨_, rfl, ⟨_, _, t, rfl, hr2.set2 X2'' _ _, ?_⟩, ?_⟩
  · have := Lim.signed (b := b1) hd2 ht2
    rw [HV2.out, HV1.out] at this
    rw [h1.val, h2.val]
    have e : sv b1 (ev 1000000000 l) + sv b2 (ev 1000000000 m) = sv b1 (ev 1000000000 l - ev 1000000000 m) := by cases b1 <;> cases b2 <;> simp_all [sv] <;> omega
    rw [e]
    exact this
  · exact below_set2 (hb0.trans ((hb1.mono hb0.size).trans (hb2.mono (by have := hb0.size; have := hb1.size; omega)))) (by omega) _ _

set_option maxHeartbeats 2000000 in
theorem add_lt (b1 b2 : Bool) (hne : (b1 == b2) = false) (x y : Value) (l m : List Int) (z1 z2 : Int) (w : World) (hx : Row w x l) (hy : Row w y m) (h1 : Lim b1 l z1) (h2 : Lim b2 m z2) (hl : l.length ≤ 10000000) (hm : m.length ≤ 10000000) (hle : ev 1000000000 l < ev 1000000000 m) :
    Calls Tryz.prog 80 #[.agg #[.bool b1, x], .agg #[.bool b2, y]] w fun e w' => ∃ v, e = .returned v ∧ IsI w' v (z1 + z2) ∧ Below w.heap.size w w' := by
  obtain ⟨ua, uc, rfl⟩ := hx.val
  obtain ⟨va, vc, rfl⟩ := hy.val
  have hlen : l.length ≤ m.length := by
    rcases Nat.lt_or_ge m.length l.length with h | h
    · have := ev_lt_of_length (by omega) h2.dig h1.dig h1.trim h; omega
    · exact h
  have hcmp : cmp3 (ev 1000000000 l) (ev 1000000000 m) < 0 := by rw [cmp3_lt hle]; omega
  have HLE : Hid _ := hle
  clear hle
  go_enter Tryz.func80, Tryz.ntmps80
  go_wp2_with fail
  generalize hW : ((w.alloc (Obj.cells #[Value.bool b1, Value.slice ua l.length uc] 70)).alloc (Obj.cells #[Value.bool b2, Value.slice va m.length vc] 70)).alloc (Obj.cells #[Value.bool false, Value.slice none 0 0] 70) = W0
  obtain ⟨hz0, hb0, X0, X1, X2⟩ := three_new hW
  clear hW
  have hx0 := hx.below hb0
  have hy0 := hy.below hb0
  refine (compareLimbs_any l m _ _ W0 hx0 hy0 (by omega) h1.dig h2.dig h1.trim h2.trim).mono ?_
  rintro e w' ⟨rfl, rfl⟩
  generalize cmp3 (ev 1000000000 l) (ev 1000000000 m) = c at *
  go_wp2_with fail
  have c0 := X1.c0; have c1 := X0.c1; have c2 := X1.c1
  have hle := HLE.out
  go_region_held3 (fun w' => w'.cell? ⟨w.heap.size + 1, 0, none⟩ = some (.bool b2) ∧ w'.cell? ⟨w.heap.size, 1, none⟩ = some (.slice ua l.length uc) ∧ w'.cell? ⟨w.heap.size + 1, 1, none⟩ = some (.slice va m.length vc))
    (first | exact ⟨c0, c1, c2⟩ | exact ⟨q0, q1, q2⟩ | exact ⟨r0, r1, r2⟩ | simp [go_sem, r0, r1, r2])
    (first
      | (go_at_call 105; refine (subLimbs_any m l _ _ _ (by exact hy0) (by exact hx0) (by omega) hlen h2.dig h1.dig (by omega)).mono ?_; rintro e w1 ⟨s, x1, rfl, hr1, hd1, hv1, hlen1, hb1'⟩; have hb1 := of_drew hb1'; clear hb1'; have HV1 : Hid _ := hv1; clear hv1; have X0' : Bx w1 _ _ _ := X0.below hb1; have X1' : Bx w1 _ _ _ := X1.below hb1; have X2' : Bx w1 _ _ _ := X2.below hb1; have q0 := X1'.c0; have q1 := X0'.c1; have q2 := X1'.c1)
      | (go_at_call 86; refine (signed_any b2 s x1 w1 hr1 (by omega) hd1).mono ?_; rintro e w2 ⟨t, x2, rfl, hr2, hd2, ht2, hv2, hlen2, hb2⟩; have HV2 : Hid _ := hv2; clear hv2; obtain ⟨xa, xc, rfl⟩ := hr2.val; have X0'' := X0'.below hb2; have X1'' := X1'.below hb2; have X2'' := X2'.below hb2; have r0 := X1''.c0; have r1 := X0''.c1; have r2 := X1''.c1; have r3 := X2''.c0; have r4 := X2''.c1; have g3 := X2''.f0; have g4 := X2''.f1))
  all_goals go_wp2
  refine bodyPost_ret (v := .agg #[.bool (b2 && !t.isEmpty), .slice xa t.length xc]) (by simp [results, Tryz.results80, go_sem, r3, r4]) rfl ⟨_, rfl, ⟨_, _, t, rfl, hr2.set2 X2'' _ _, ?_⟩, ?_⟩
  · have := Lim.signed (b := b2) hd2 ht2
    rw [HV2.out, HV1.out] at this
    rw [h1.val, h2.val]
    have e : sv b1 (ev 1000000000 l) + sv b2 (ev 1000000000 m) = sv b2 (ev 1000000000 m - ev 1000000000 l) := by cases b1 <;> cases b2 <;> simp_all [sv] <;> omega
    rw [e]
    exact this
  · exact below_set2 (hb0.trans ((hb1.mono hb0.size).trans (hb2.mono (by have := hb0.size; have := hb1.size; omega)))) (by omega) _ _

theorem add_any (u v : Value) (z1 z2 : Int) (w : World) (hu : IsI w u z1) (hv : IsI w v z2) (f1 : Fit z1) (f2 : Fit z2) :
    Calls Tryz.prog 80 #[u, v] w fun e w' => ∃ v, e = .returned v ∧ IsI w' v (z1 + z2) ∧ Below w.heap.size w w' := by
  obtain ⟨b1, x, l, rfl, hx, h1⟩ := hu
  obtain ⟨b2, y, m, rfl, hy, h2⟩ := hv
  have hl := h1.len f1
  have hm := h2.len f2
  by_cases hb : b1 = b2
  · subst hb
    exact add_same b1 x y l m z1 z2 w hx hy h1 h2 hl hm
  · rcases (show ev 1000000000 l < ev 1000000000 m ∨ ev 1000000000 m ≤ ev 1000000000 l by omega) with h | h
    · exact add_lt b1 b2 (by simp [hb]) x y l m z1 z2 w hx hy h1 h2 hl hm h
    · exact add_ge b1 b2 (by simp [hb]) x y l m z1 z2 w hx hy h1 h2 hl hm h

end Go.Proofs.YtldcjkhbiffdoabGreatDoor

namespace Go.Proofs.YtldcjkhbiffdoabGreatDoor
open Go.RowKit

set_option maxHeartbeats 2000000 in
theorem mul_any (u v : Value) (z1 z2 : Int) (w : World) (hu : IsI w u z1) (hv : IsI w v z2) (f1 : Fit z1) (f2 : Fit z2) :
    Calls Tryz.prog 69 #[u, v] w fun e w' => ∃ v, e = .returned v ∧ IsI w' v (z1 * z2) ∧ Below w.heap.size w w' := by
  obtain ⟨b1, x, l, rfl, hx, h1⟩ := hu
  obtain ⟨b2, y, m, rfl, hy, h2⟩ := hv
  have hl := h1.len f1
  have hm := h2.len f2
  obtain ⟨ua, uc, rfl⟩ := hx.val
  obtain ⟨va, vc, rfl⟩ := hy.val
  go_enter Tryz.func69, Tryz.ntmps69
  go_wp2
  generalize hW : ((w.alloc (Obj.cells #[Value.bool b1, Value.slice ua l.length uc] 70)).alloc (Obj.cells #[Value.bool b2, Value.slice va m.length vc] 70)).alloc (Obj.cells #[Value.bool false, Value.slice none 0 0] 70) = W0
  obtain ⟨hz0, hb0, X0, X1, X2⟩ := three_new hW
  clear hW
  have c0 := X0.c0; have c1 := X0.c1; have c2 := X1.c1; have c3 := X1.c0
  have hx0 := hx.below hb0
  have hy0 := hy.below hb0
  go_region_held3 (fun w' => w'.cell? ⟨w.heap.size, 0, none⟩ = some (.bool b1) ∧ w'.cell? ⟨w.heap.size, 1, none⟩ = some (.slice ua l.length uc) ∧ w'.cell? ⟨w.heap.size + 1, 1, none⟩ = some (.slice va m.length vc) ∧ w'.cell? ⟨w.heap.size + 1, 0, none⟩ = some (.bool b2))
    (first | exact ⟨c0, c1, c2, c3⟩ | exact ⟨q0, q1, q2, q3⟩ | exact ⟨r0, r1, r2, r5⟩ | simp [go_sem, r0, r1, r2, r5])
    (first
      | (go_at_call 94; refine (mulLimbs_any l m _ _ _ (by exact hx0) (by exact hy0) (by omega) (by omega) h1.dig h2.dig).mono ?_; rintro e w1 ⟨s, x1, rfl, hr1, hd1, hv1, hlen1, hb1'⟩; have hb1 := of_drew hb1'; clear hb1'; have HV1 : Hid _ := hv1; clear hv1; have X0' : Bx w1 _ _ _ := X0.below hb1; have X1' : Bx w1 _ _ _ := X1.below hb1; have X2' : Bx w1 _ _ _ := X2.below hb1; have q0 := X0'.c0; have q1 := X0'.c1; have q2 := X1'.c1; have q3 := X1'.c0)
      | (go_at_call 86; refine (signed_any _ s x1 w1 hr1 (by omega) hd1).mono ?_; rintro e w2 ⟨t, x2, rfl, hr2, hd2, ht2, hv2, hlen2, hb2⟩; have HV2 : Hid _ := hv2; clear hv2; obtain ⟨xa, xc, rfl⟩ := hr2.val; have X0'' := X0'.below hb2; have X1'' := X1'.below hb2; have X2'' := X2'.below hb2; have r0 := X0''.c0; have r1 := X0''.c1; have r2 := X1''.c1; have r3 := X2''.c0; have r4 := X2''.c1; have r5 := X1''.c0; have g3 := X2''.f0; have g4 := X2''.f1))
  all_goals go_wp2
  refine bodyPost_ret (v := .agg #[.bool (!(b1 == b2) && !t.isEmpty), .slice xa t.length xc]) (by simp [results, Tryz.results69, go_sem, r3, r4]) rfl ⟨_, rfl, ⟨_, _, t, rfl, hr2.set2 X2'' _ _, ?_⟩, ?_⟩
  · have := Lim.signed (b := !(b1 == b2)) hd2 ht2
    rw [HV2.out, HV1.out] at this
    rw [h1.val, h2.val]
    have e : sv b1 (ev 1000000000 l) * sv b2 (ev 1000000000 m) = sv (!(b1 == b2)) (ev 1000000000 l * ev 1000000000 m) := by
      cases b1 <;> cases b2 <;> simp [sv, Int.neg_mul, Int.mul_neg]
    rw [e]
    exact this
  · exact below_set2 (hb0.trans ((hb1.mono hb0.size).trans (hb2.mono (by have := hb0.size; have := hb1.size; omega)))) (by omega) _ _

end Go.Proofs.YtldcjkhbiffdoabGreatDoor

namespace Go.Proofs.YtldcjkhbiffdoabGreatDoor


def blanks : List UInt8 → Nat
  | [] => 0
  | c :: l => if c == 32 then blanks l + 1 else 0

def isDig (c : UInt8) : Bool := 48 ≤ c && c ≤ 57

def digs : List UInt8 → List UInt8
  | [] => []
  | c :: l => if isDig c then c :: digs l else []

def numOf (n : Nat) : List UInt8 → Nat
  | [] => n
  | c :: l => numOf (10 * n + (c.toNat - 48)) l

def skp (s : List UInt8) (n : Nat) : Nat := n + blanks (s.drop n)

def tak (s : List UInt8) (c : UInt8) (n : Nat) : Bool × Nat :=
  if s[skp s n]? = some c then (true, skp s n + 1) else (false, skp s n)

def rdNum (s : List UInt8) (n : Nat) : Bool × Nat × Nat :=
  (!(digs (s.drop (skp s n))).isEmpty, numOf 0 (digs (s.drop (skp s n))), skp s n + (digs (s.drop (skp s n))).length)

def rdPow (s : List UInt8) (n : Nat) : Bool × Nat × Nat :=
  if (tak s 120 n).1 then
    if (tak s 94 (tak s 120 n).2).1 then rdNum s (tak s 94 (tak s 120 n).2).2
    else (true, 1, (tak s 94 (tak s 120 n).2).2)
  else (false, 0, (tak s 120 n).2)

def rdTerm (s : List UInt8) (n : Nat) : Bool × Nat × Nat × Nat :=
  if (rdNum s n).1 then
    if (tak s 42 (rdNum s n).2.2).1 then
      ((rdPow s (tak s 42 (rdNum s n).2.2).2).1, (rdNum s n).2.1, (rdPow s (tak s 42 (rdNum s n).2.2).2).2.1, (rdPow s (tak s 42 (rdNum s n).2.2).2).2.2)
    else (true, (rdNum s n).2.1, 0, (tak s 42 (rdNum s n).2.2).2)
  else ((rdPow s (rdNum s n).2.2).1, 1, (rdPow s (rdNum s n).2.2).2.1, (rdPow s (rdNum s n).2.2).2.2)

def addT (c : Int) (p : Nat) : List (Int × Nat) → List (Int × Nat)
  | [] => [(c, p)]
  | (d, q) :: l => if q = p then (d + c, q) :: l else (d, q) :: addT c p l

def sgn (m : Bool) (c : Nat) : Int := if m then -(c : Int) else c


theorem drop_at {l : List UInt8} {k : Nat} {c : UInt8} (h : l[k]? = some c) : l.drop k = c :: l.drop (k + 1) := by
  obtain ⟨hk, rfl⟩ := List.getElem?_eq_some_iff.1 h
  exact List.drop_eq_getElem_cons hk

theorem skp_step {l : List UInt8} {k : Nat} (h : l[k]? = some 32) : skp l k = skp l (k + 1) := by
  unfold skp
  rw [drop_at h]
  simp [blanks]; omega

theorem skp_stop {l : List UInt8} {k : Nat} (h : l[k]? ≠ some 32) : skp l k = k := by
  unfold skp
  cases hd : l.drop k with
  | nil => rfl
  | cons c r =>
    have hc : l[k]? = some c := by
      have := List.getElem?_drop (xs := l) (i := k) (j := 0)
      rw [hd] at this
      simpa using this.symm
    have : ¬ c = 32 := by intro e; subst e; exact h hc
    simp [blanks, this]

theorem blanks_le : ∀ l : List UInt8, blanks l ≤ l.length
  | [] => Nat.le_refl _
  | c :: l => by
    unfold blanks
    split
    · have := blanks_le l; simp; omega
    · simp

theorem skp_le {l : List UInt8} {n : Nat} (h : n ≤ l.length) : skp l n ≤ l.length := by
  have := blanks_le (l.drop n)
  rw [List.length_drop] at this
  unfold skp; omega

theorem skp_ge (l : List UInt8) (n : Nat) : n ≤ skp l n := by unfold skp; omega

theorem digs_le : ∀ l : List UInt8, (digs l).length ≤ l.length
  | [] => Nat.le_refl _
  | c :: l => by
    unfold digs
    split
    · have := digs_le l; simp; omega
    · simp

theorem digs_step {l : List UInt8} {k : Nat} {c : UInt8} (h : l[k]? = some c) (hc : isDig c = true) : digs (l.drop k) = c :: digs (l.drop (k + 1)) := by
  rw [drop_at h]; simp [digs, hc]

theorem digs_stop {l : List UInt8} {k : Nat} (h : ∀ c, l[k]? = some c → isDig c = false) : digs (l.drop k) = [] := by
  cases hd : l.drop k with
  | nil => rfl
  | cons c r =>
    have hc : l[k]? = some c := by
      have := List.getElem?_drop (xs := l) (i := k) (j := 0)
      rw [hd] at this
      simpa using this.symm
    simp [digs, h c hc]

theorem isDig_le {c : UInt8} (h : isDig c = true) : c.toNat ≤ 57 := by
  unfold isDig at h
  simp [UInt8.le_iff_toNat_le] at h
  exact h.2

theorem numOf_lt (l : List UInt8) : ∀ (n k : Nat), n < 10 ^ k → (∀ c, c ∈ l → isDig c = true) → numOf n l < 10 ^ (k + l.length) := by
  induction l with
  | nil =>
    intro n k h _
    unfold numOf
    exact h
  | cons c l ih =>
    intro n k h hc
    have h2 := isDig_le (hc c (List.mem_cons_self ..))
    generalize hm : 10 * n + (c.toNat - 48) = m
    have h3 : m < 10 ^ (k + 1) := by rw [Nat.pow_succ]; omega
    have h4 := ih m (k + 1) h3 (fun d hd => hc d (List.mem_cons_of_mem _ hd))
    unfold numOf
    have h5 : k + (c :: l).length = k + 1 + l.length := by simp; omega
    rw [h5, hm]
    exact h4

theorem digs_all : ∀ (l : List UInt8) (c : UInt8), c ∈ digs l → isDig c = true
  | [], c, h => by simp [digs] at h
  | d :: l, c, h => by
    unfold digs at h
    split at h
    · rename_i hd
      rcases List.mem_cons.1 h with h | h
      · rw [h]; exact hd
      · exact digs_all l c h
    · simp at h

end Go.Proofs.YtldcjkhbiffdoabGreatDoor

namespace Go.Proofs.YtldcjkhbiffdoabGreatDoor
open Go.RowKit

set_option maxHeartbeats 1000000 in
theorem small_zero (w : World) : Calls Tryz.prog 50 #[.int .i64 0] w fun e w' => ∃ v, e = .returned v ∧ IsI w' v 0 ∧ Below w.heap.size w w' := by
  go_enter Tryz.func50, Tryz.ntmps50
  go_wp2_with fail
  refine wp_loop_rounds 1 ?_; rw [rounds_succ]
  go_wp2
  refine bodyPost_ret (v := .agg #[.bool false, .slice (some ⟨w.heap.size + 1, 0, none⟩) 0 0]) (by simp [results, Tryz.results50, go_sem]) rfl ⟨_, rfl, ⟨_, _, [], rfl, (Own.lit (by simp)).row, Dig.nil _, (fun x h => by simp at h), (fun h => by simp at h), by simp [sv, ev]⟩, ?_⟩
  exact ((Below.refl _ _).alloc (Nat.le_refl _) _).alloc (by simp) _

theorem tmod_small {n : Int} (h0 : n < 0) (h1 : -1000000000 < n) : n.tmod 1000000000 = n := by
  have : n = -(-n) := by omega
  rw [this, Int.neg_tmod, Int.tmod_eq_emod_of_nonneg (by omega)]; omega
theorem tdiv_small {n : Int} (h0 : n < 0) (h1 : -1000000000 < n) : n.tdiv 1000000000 = 0 := by
  have : n = -(-n) := by omega
  rw [this, Int.neg_tdiv, Int.tdiv_eq_ediv_of_nonneg (by omega)]; omega

set_option maxHeartbeats 1000000 in
theorem small_pos (n : Int) (h0 : 0 < n) (h1 : n < 1000000000) (w : World) : Calls Tryz.prog 50 #[.int .i64 n] w fun e w' => ∃ v, e = .returned v ∧ IsI w' v n ∧ Below w.heap.size w w' := by
  obtain ⟨q, HQ⟩ : ∃ q, Hid (n % 1000000000 = q) := ⟨_, rfl⟩
  have hq : q = n := by rw [← HQ.out]; omega
  have e1 : n % 1000000000 = n := by rw [HQ.out]; exact hq
  have e2 : n / 1000000000 = 0 := by omega
  clear hq HQ
  go_enter Tryz.func50, Tryz.ntmps50
  go_wp2_with fail
  generalize hW : (w.alloc (Obj.cells #[Value.bool false, Value.slice none 0 0] 70)).alloc (Obj.cells #[] 2) = W1
  have hown0 : Own (w.heap.size + 1) W1 (.slice (some ⟨w.heap.size + 1, 0, none⟩) 0 0) [] := by rw [← hW]; exact Own.lit (by simp)
  have X0 : Bx W1 w.heap.size (.bool false) (.slice none 0 0) := by rw [← hW]; exact (Bx.alloc w _ _).alloc_old _
  have hsz : w.heap.size + 1 ≤ W1.heap.size := by rw [← hW]; simp
  have hb0 : Below w.heap.size w W1 := by rw [← hW]; exact ((Below.refl _ _).alloc (Nat.le_refl _) _).alloc (by simp) _
  clear hW
  refine wp_loop_rounds 2 ?_; rw [rounds_succ]
  go_wp2_with (at_builtin; refine wpList_push rfl (.tmp 19) (.tmp 21) rfl (w.heap.size + 1) _ [] _ rfl hown0 rfl (by simp) hsz ?_)
  intro v' w1 hown1 hb1 _
  obtain ⟨xa, xc, rfl⟩ := hown1.row.val
  have X1 : Bx w1 w.heap.size (.bool false) (.slice none 0 0) := by unfold Bx; rw [hb1.block _ (by omega)]; exact X0
  have r3 := X1.c0; have r4 := X1.c1; have g3 := X1.f0; have g4 := X1.f1
  go_wp2
  rw [rounds_succ]
  go_wp2
  refine bodyPost_ret (v := .agg #[.bool false, .slice xa 1 xc]) (by simp [results, Tryz.results50, go_sem, r3, r4]; omega) rfl ⟨_, rfl, ⟨_, _, [n], rfl, hown1.row.set2 X1 _ _, ?_⟩, ?_⟩
  · refine ⟨?_, ?_, ?_, ?_⟩
    · intro x hx; simp at hx; omega
    · intro x hx; simp at hx; omega
    · intro _; simp
    · simp [sv, ev]
  · exact below_set2 (hb0.trans (hb1.mono (by omega))) (Nat.le_refl _) _ _

set_option maxHeartbeats 1000000 in
theorem small_neg (n : Int) (h0 : n < 0) (h1 : -1000000000 < n) (w : World) : Calls Tryz.prog 50 #[.int .i64 n] w fun e w' => ∃ v, e = .returned v ∧ IsI w' v n ∧ Below w.heap.size w w' := by
  obtain ⟨q, HQ⟩ : ∃ q, Hid (n.tmod 1000000000 = q) := ⟨_, rfl⟩
  have hq : q = n := by rw [← HQ.out]; exact tmod_small h0 h1
  have e1 : n.tmod 1000000000 = n := by rw [HQ.out]; exact hq
  have e2 : n.tdiv 1000000000 = 0 := by exact tdiv_small h0 h1
  clear hq HQ
  go_enter Tryz.func50, Tryz.ntmps50
  go_wp2_with fail
  generalize hW : (w.alloc (Obj.cells #[Value.bool false, Value.slice none 0 0] 70)).alloc (Obj.cells #[] 2) = W1
  have hown0 : Own (w.heap.size + 1) W1 (.slice (some ⟨w.heap.size + 1, 0, none⟩) 0 0) [] := by rw [← hW]; exact Own.lit (by simp)
  have X0 : Bx W1 w.heap.size (.bool false) (.slice none 0 0) := by rw [← hW]; exact (Bx.alloc w _ _).alloc_old _
  have hsz : w.heap.size + 1 ≤ W1.heap.size := by rw [← hW]; simp
  have hb0 : Below w.heap.size w W1 := by rw [← hW]; exact ((Below.refl _ _).alloc (Nat.le_refl _) _).alloc (by simp) _
  clear hW
  refine wp_loop_rounds 2 ?_; rw [rounds_succ]
  go_wp2_with (at_builtin; refine wpList_push rfl (.tmp 19) (.tmp 21) rfl (w.heap.size + 1) _ [] _ rfl hown0 rfl (by simp) hsz ?_)
  intro v' w1 hown1 hb1 _
  obtain ⟨xa, xc, rfl⟩ := hown1.row.val
  have X1 : Bx w1 w.heap.size (.bool false) (.slice none 0 0) := by unfold Bx; rw [hb1.block _ (by omega)]; exact X0
  have r3 := X1.c0; have r4 := X1.c1; have g3 := X1.f0; have g4 := X1.f1
  go_wp2
  rw [rounds_succ]
  go_wp2
  refine bodyPost_ret (v := .agg #[.bool true, .slice xa 1 xc]) (by simp [results, Tryz.results50, go_sem, r3, r4]) rfl ⟨_, rfl, ⟨_, _, [-n], rfl, hown1.row.set2 X1 _ _, ?_⟩, ?_⟩
  · refine ⟨?_, ?_, ?_, ?_⟩
    · intro x hx; simp at hx; omega
    · intro x hx; simp at hx; omega
    · intro _; simp
    · simp [sv, ev]
  · exact below_set2 (hb0.trans (hb1.mono (by omega))) (Nat.le_refl _) _ _

theorem small_any (n : Int) (h0 : -1000000000 < n) (h1 : n < 1000000000) (w : World) : Calls Tryz.prog 50 #[.int .i64 n] w fun e w' => ∃ v, e = .returned v ∧ IsI w' v n ∧ Below w.heap.size w w' := by
  rcases (show n = 0 ∨ 0 < n ∨ n < 0 by omega) with rfl | h | h
  · exact small_zero w
  · exact small_pos n h h1 w
  · exact small_neg n h h0 w

end Go.Proofs.YtldcjkhbiffdoabGreatDoor

namespace Go.Proofs.YtldcjkhbiffdoabGreatDoor

def rest1 (R b : List Int) (n : Nat) : List Int :=
  tab (max R.length (n + b.length)) fun k => R.getD k 0 * lead b - (if n ≤ k then b.getD (k - n) 0 * R.getD (n + b.length - 1) 0 else 0)

theorem rest1_getD (R b : List Int) (n k : Nat) : (rest1 R b n).getD k 0 = R.getD k 0 * lead b - (if n ≤ k then b.getD (k - n) 0 * R.getD (n + b.length - 1) 0 else 0) := by
  unfold rest1
  rw [tab_getD]
  split
  · rfl
  · rw [getD_out (show R.length ≤ k by omega), if_pos (show n ≤ k by omega), getD_out (show b.length ≤ k - n by omega)]
    simp

def RO (b A0 R : List Int) (n : Nat) : Prop :=
  ∃ A c, c ≠ 0 ∧ (∀ k, R.getD k 0 = c * A.getD k 0) ∧ Tr A ∧ prim A = A ∧ A.length ≤ n + b.length - 1 ∧ A.length ≤ A0.length ∧ gfun (A0.length + b.length) A0 b = gfun (A0.length + b.length) A b

theorem RO.start {b A0 : List Int} (h : Tr A0) (hp : prim A0 = A0) : RO b A0 A0 (A0.length + 1 - b.length) :=
  ⟨A0, 1, by omega, fun k => by rw [Int.one_mul], h, hp, by omega, Nat.le_refl _, rfl⟩

theorem RO.next {b A0 R : List Int} {n : Nat} (h : RO b A0 R (n + 1)) (hb : Tr b) (hb0 : b ≠ []) : RO b A0 (rest1 R b n) n := by
  obtain ⟨A, c, hc, hR, hA, hpA, hlen, hle, hg⟩ := h
  have hb1 := List.length_pos_iff.2 hb0
  have hlb : lead b ≠ 0 := hb hb0
  by_cases h0 : A.getD (n + b.length - 1) 0 = 0
  · refine ⟨A, c * lead b, Int.mul_ne_zero hc hlb, fun k => ?_, hA, hpA, ?_, hle, hg⟩
    · rw [rest1_getD, hR (n + b.length - 1), h0, Int.mul_zero]
      simp only [Int.mul_zero, ite_self, Int.sub_zero]
      rw [hR k, Int.mul_assoc, Int.mul_assoc, Int.mul_comm (lead b)]
    · refine hA.lenN fun k hk => ?_
      rcases (show k = n + b.length - 1 ∨ n + b.length ≤ k by omega) with rfl | h1
      · exact h0
      · exact getD_out (by omega)
  · have hAl : A.length = n + b.length := by
      rcases Nat.lt_or_ge (n + b.length - 1) A.length with h1 | h1
      · omega
      · exact absurd (getD_out h1) h0
    have hlA : A.getD (n + b.length - 1) 0 = lead A := by unfold lead; rw [hAl]
    have hR2 : ∀ k, (rest1 R b n).getD k 0 = c * (elim A b).getD k 0 := by
      intro k
      rw [rest1_getD, elim_getD, hR k, hR (n + b.length - 1), hlA, show A.length - b.length = n by omega]
      split
      · rw [Int.mul_sub, Int.mul_assoc]
        congr 1
        rw [Int.mul_left_comm, Int.mul_comm (b.getD (k - n) 0)]
      · rw [Int.sub_zero, Int.sub_zero, Int.mul_assoc]
    have hel := elim_len hb1 (show b.length ≤ A.length by omega)
    have hg2 : gfun (A0.length + b.length) A0 b = gfun (A0.length + b.length) (prim (elim A b)) b := by
      rw [hg]
      obtain ⟨f, hf⟩ : ∃ f, A0.length + b.length = f + 1 := ⟨A0.length + b.length - 1, by omega⟩
      rw [hf, gfun_ge f hb0 (by omega)]
      exact (gfun_more f (by rw [prim_len]; omega)).symm
    by_cases he : elim A b = []
    · refine ⟨[], 1, by omega, fun k => ?_, Tr.nil, rfl, by simp, by simp, ?_⟩
      · rw [hR2, he]; simp
      · rw [hg2, he]; rfl
    · refine ⟨prim (elim A b), c * scont (elim A b), Int.mul_ne_zero hc (scont_ne (elim_tr _ _) he), fun k => ?_, (elim_tr _ _).prim, prim_prim (elim_tr _ _), ?_, ?_, hg2⟩
      · rw [hR2, Int.mul_assoc, ← prim_mul]
      · rw [prim_len]; omega
      · rw [prim_len]; omega

theorem RO.ends {b A0 R : List Int} (h : RO b A0 R 0) (hb0 : b ≠ []) :
    (prim (tz R)).length < b.length ∧ Tr (prim (tz R)) ∧ prim (prim (tz R)) = prim (tz R) ∧ gfun (A0.length + b.length) A0 b = gfun (A0.length + b.length) b (prim (tz R)) := by
  obtain ⟨A, c, hc, hR, hA, hpA, hlen, hle, hg⟩ := h
  have hb1 := List.length_pos_iff.2 hb0
  have h1 : prim (tz R) = A := by
    rw [prim_of_mul hc hA (tr_tz R) fun k => by rw [tz_getD, hR], hpA]
  rw [h1]
  refine ⟨by omega, hA, hpA, ?_⟩
  rw [hg]
  exact gfun_swap _ (by omega) (by omega)

theorem Bd.rest1 {R b : List Int} {e f : Nat} (hR : Bd R e) (hb : Bd b f) (n : Nat) : Bd (rest1 R b n) (e + f + 1) := by
  intro k
  rw [rest1_getD]
  split
  · rw [Int.mul_comm (b.getD (k - n) 0)]
    exact lt_two_mul (hR k) (hb _) (hR _) hb.lead
  · have := lt_two_mul (y := 0) (hR k) (by have := hb 0; omega) (hR 0) hb.lead
    rwa [Int.mul_zero] at this

theorem gfun_eq {m n : Nat} {A B : List Int} (hm : A.length + B.length ≤ m) (hn : A.length + B.length ≤ n) : gfun m A B = gfun n A B := by
  have : ∀ d, gfun (A.length + B.length + d) A B = gfun (A.length + B.length) A B := by
    intro d
    induction d with
    | zero => rfl
    | succ d ih => rw [← Nat.add_assoc, gfun_more _ (by omega), ih]
  obtain ⟨d, rfl⟩ : ∃ d, m = A.length + B.length + d := ⟨m - (A.length + B.length), by omega⟩
  obtain ⟨d', rfl⟩ : ∃ d', n = A.length + B.length + d' := ⟨n - (A.length + B.length), by omega⟩
  rw [this, this]


end Go.Proofs.YtldcjkhbiffdoabGreatDoor

namespace Go.Proofs.YtldcjkhbiffdoabGreatDoor

theorem ev_cut {B : Int} (a : List Int) (n : Nat) : ev B a = ev B (a.take n) + ev B (a.drop n) * B ^ n := by
  induction n generalizing a with
  | zero => simp [ev]
  | succ n ih =>
    cases a with
    | nil => simp [ev]
    | cons x a =>
      simp only [List.take_succ_cons, List.drop_succ_cons, ev]
      rw [ih a, Int.pow_succ, Int.mul_add]
      have : B * (ev B (a.drop n) * B ^ n) = ev B (a.drop n) * (B ^ n * B) := by
        rw [Int.mul_comm B, Int.mul_assoc]
      omega

theorem ev_two {B : Int} {a : List Int} {n : Nat} (h : a.length ≤ n + 2) : ev B (a.drop n) = a.getD n 0 + B * a.getD (n + 1) 0 := by
  have h1 : a.getD n 0 = (a.drop n).getD 0 0 := by simp [List.getD, List.getElem?_drop]
  have h2 : a.getD (n + 1) 0 = (a.drop n).getD 1 0 := by simp [List.getD, List.getElem?_drop]
  have h3 : (a.drop n).length ≤ 2 := by rw [List.length_drop]; omega
  rw [h1, h2]
  match a.drop n, h3 with
  | [], _ => simp [ev]
  | [x], _ => simp [ev]
  | [x, y], _ => simp [ev]
  | x :: y :: z :: t, h => simp at h

theorem guess_ge {B q : Int} {a b : List Int} (hB : 0 < B) (da : Dig B a) (db : Dig B b) {n : Nat} (hb : b.length = n + 1) (ha : a.length ≤ n + 2) (hd : 0 < b.getD n 0) (hq : 0 ≤ q) (hle : q * ev B b ≤ ev B a) :
    q ≤ (a.getD (n + 1) 0 * B + a.getD n 0) / b.getD n 0 := by
  have hp : 0 < B ^ n := pow_pos hB n
  have h1 := ev_cut (B := B) a n
  rw [ev_two ha] at h1
  have h2 := ev_cut (B := B) b n
  rw [ev_two (show b.length ≤ n + 2 by omega), show b.getD (n + 1) 0 = 0 by simp [List.getD, List.getElem?_eq_none (show b.length ≤ n + 1 by omega)], Int.mul_zero, Int.add_zero] at h2
  have h3 := ev_lt (by omega) (da.take n)
  have h4 := ev_nonneg (by omega) (db.take n)
  have h5 : B ^ (a.take n).length ≤ B ^ n := by
    obtain ⟨k, hk⟩ : ∃ k, n = (a.take n).length + k := ⟨n - (a.take n).length, by rw [List.length_take]; omega⟩
    rw [hk, Int.pow_add, ← hk]
    have h6 : 0 < B ^ k := pow_pos hB k
    have h7 : 0 < B ^ (a.take n).length := pow_pos hB _
    have := Int.mul_le_mul_of_nonneg_left (show 1 ≤ B ^ k by omega) (Int.le_of_lt h7)
    omega
  generalize hA : a.getD n 0 + B * a.getD (n + 1) 0 = X at h1
  have hX : a.getD (n + 1) 0 * B + a.getD n 0 = X := by rw [← hA, Int.mul_comm]; omega
  rw [hX]
  generalize b.getD n 0 = d at *
  rw [Int.le_ediv_iff_mul_le hd]
  rcases Int.lt_or_le X (q * d) with h8 | h8
  · exfalso
    have e1 : (X + 1) * B ^ n ≤ q * d * B ^ n := Int.mul_le_mul_of_nonneg_right (by omega) (Int.le_of_lt hp)
    have e2 : q * ev B b = q * ev B (b.take n) + q * d * B ^ n := by rw [h2, Int.mul_add, Int.mul_assoc]
    have e3 : 0 ≤ q * ev B (b.take n) := Int.mul_nonneg hq h4
    rw [Int.add_mul, Int.one_mul] at e1
    omega
  · exact h8

theorem less_step {B q bo x y t bo' : Int} {a b s : List Int} {k : Nat} (hs : s.length = k) (h : ev B s - bo * B ^ k = ev B (a.take k) - q * ev B (b.take k)) (hx : a.getD k 0 = x) (hy : b.getD k 0 = y) (ht : t - bo' * B = x - q * y - bo) :
    ev B (s ++ [t]) - bo' * B ^ (k + 1) = ev B (a.take (k + 1)) - q * ev B (b.take (k + 1)) := by
  rw [ev_take, ev_take, hx, hy, Int.mul_add, ← Int.mul_assoc]
  exact sub_round s k hs bo x (q * y) _ _ t bo' h ht

theorem less_all {B q bo : Int} {a b s : List Int} (ha : a.length ≤ b.length + 1) (h : ev B s - bo * B ^ b.length = ev B (a.take b.length) - q * ev B (b.take b.length)) :
    ev B a - q * ev B b = ev B s + (a.getD b.length 0 - bo) * B ^ b.length := by
  rw [List.take_length] at h
  have h1 := ev_take B a b.length
  rw [List.take_of_length_le ha] at h1
  rw [Int.sub_mul, h1]
  omega

theorem less_enough {B q bo : Int} (hB : 0 < B) {a b s : List Int} (hs : s.length = b.length) (ds : Dig B s) (h : ev B a - q * ev B b = ev B s + (a.getD b.length 0 - bo) * B ^ b.length) :
    (bo ≤ a.getD b.length 0 ↔ q * ev B b ≤ ev B a) ∧ (q * ev B b ≤ ev B a → ev B a < q * ev B b + ev B b → Dig B b → ev B s = ev B a - q * ev B b) := by
  have h1 := ev_nonneg hB ds
  have h2 := ev_lt hB ds
  rw [hs] at h2
  have hp : 0 < B ^ b.length := pow_pos hB _
  have key : (bo ≤ a.getD b.length 0 ↔ q * ev B b ≤ ev B a) := by
    constructor
    · intro h3
      have := Int.mul_nonneg (show 0 ≤ a.getD b.length 0 - bo by omega) (Int.le_of_lt hp)
      omega
    · intro h3
      rcases Int.lt_or_le (a.getD b.length 0) bo with h4 | h4
      · have := Int.mul_le_mul_of_nonneg_right (show a.getD b.length 0 - bo ≤ -1 by omega) (Int.le_of_lt hp)
        omega
      · exact h4
  refine ⟨key, fun h3 h4 db => ?_⟩
  have h5 := key.2 h3
  have h6 := ev_lt hB db
  have h7 : a.getD b.length 0 - bo = 0 := by
    rcases Int.lt_or_le 0 (a.getD b.length 0 - bo) with h8 | h8
    · have := Int.mul_le_mul_of_nonneg_right (show 1 ≤ a.getD b.length 0 - bo by omega) (Int.le_of_lt hp)
      omega
    · omega
  rw [h7, Int.zero_mul] at h
  omega

end Go.Proofs.YtldcjkhbiffdoabGreatDoor

namespace Go.Proofs.YtldcjkhbiffdoabGreatDoor
open Go.RowKit

def RowO (w : World) (v : Value) (l : List Int) : Prop :=
  ∃ a c, v = .slice a l.length c ∧ ∀ i, i < l.length → ∃ g o, a = some ⟨g, o, none⟩ ∧ l.length ≤ c ∧ c ≤ maxLen ∧ g < w.heap.size ∧ w.cell? ⟨g, o + i, none⟩ = some (.int .i64 (l.getD i 0))

theorem Row.rowO {w : World} {v : Value} {l : List Int} (h : Row w v l) : RowO w v l := by
  obtain ⟨a, c, rfl⟩ := h.val
  refine ⟨a, c, rfl, fun i hi => ?_⟩
  obtain ⟨g, rfl, h1, h2, h3, h4⟩ := h.at i hi
  exact ⟨g, 0, rfl, h1, h2, h3, by rw [Nat.zero_add]; exact h4⟩

theorem RowO.below {w w' : World} {v : Value} {l : List Int} (h : RowO w v l) (hb : Below w.heap.size w w') : RowO w' v l := by
  obtain ⟨a, c, rfl, h⟩ := h
  refine ⟨a, c, rfl, fun i hi => ?_⟩
  obtain ⟨g, o, e, h1, h2, h3, h4⟩ := h i hi
  exact ⟨g, o, e, h1, h2, Nat.lt_of_lt_of_le h3 hb.size, (hb.cell (p := ⟨g, o + i, none⟩) h3).trans h4⟩

theorem low_next {P l : List Int} {x : Int} {k : Nat} (h : P.take (k + 1) = x :: l.take k) (hk : k < l.length) (hP : k + 1 < P.length) : (P.set (k + 1) (l.getD k 0)).take (k + 1 + 1) = x :: l.take (k + 1) := by
  rw [take_set hP, h, List.take_succ_eq_append_getElem hk, ← getD_lt hk]
  simp

set_option maxHeartbeats 1000000 in
theorem withLowest_any (l : List Int) (x : Int) (u : Value) (w : World) (hu : RowO w u l) (hl : l.length ≤ 1000000000) :
    Calls Tryz.prog 124 #[u, .int .i64 x] w fun e w' => ∃ v, e = .returned v ∧ Own w.heap.size w' v (x :: l) ∧ Below w.heap.size w w' := by
  obtain ⟨ua, uc, rfl, hcells⟩ := hu
  obtain ⟨n, HN⟩ : ∃ n, Hid (n = l.length + 1) := ⟨_, rfl⟩
  have hn1 : l.length < n := by have := HN.out; omega
  have hn2 : n ≤ l.length + 1 := by have := HN.out; omega
  have HCE : Hid _ := hcells
  clear hcells
  go_enter Tryz.func124, Tryz.ntmps124
  go_wp2_with (at_make; refine wpList_make64 rfl (.tmp 9) (.tmp 9) rfl _ _ n rfl rfl (by omega) (by omega) (by omega) ?_)
  intro w1 P0 HP0 hown1 hb1
  have hP0l : P0.length = n := by rw [HP0.out]; simp
  have f0 := hown1.frozenAt 0
  have hc0 : w1.cell? ⟨w.heap.size, 0, none⟩ = some (.int .i64 (P0.getD 0 0)) := by
    rw [hown1.cellAt 0 (by omega)]
    simp [List.getD, show 0 < P0.length by omega]
  generalize P0.getD 0 0 = y0 at hc0
  have hn0 : (0 : Int) < (n : Int) := by omega
  go_wp2_with fail
  have hown2 : (w1.setCell ⟨w.heap.size, 0, none⟩ (.int .i64 x)).ownsRow w.heap.size 2 1 (.slice (some ⟨w.heap.size, 0, none⟩) n n) n ((P0.set 0 x).map (Value.int .i64)) := by
    rw [← map_set]
    exact (World.ownsRow.stored (w := w1) hown1 _ _).1
  go_loopw [6] (fun i wr => ∃ (k : Nat) (P : List Int), k ≤ l.length ∧ i = .int .i64 k ∧ P.length = n ∧ wr.ownsRow w.heap.size 2 1 (.slice (some ⟨w.heap.size, 0, none⟩) n n) n (P.map (Value.int .i64)) ∧ Hid (P.take (k + 1) = x :: l.take k) ∧ Below w.heap.size w wr) (fun i _ => l.length - (intOf i).toNat)
  case atStart => exact ⟨0, P0.set 0 x, Nat.zero_le _, rfl, by simpa using hP0l, hown2, by show _ = _; rw [take_set (by omega)]; simp, hb1.setCell (Nat.le_refl _) _⟩
  case round =>
    clear hown1 hown2 hb1 HP0 f0 hc0
    obtain ⟨k, P, hk, rfl, hP, hown, HE, hbel⟩ := hrel
    by_cases hlt : k < l.length
    · obtain ⟨g, o, rfl, hc1, hc2, hg, hcell⟩ := HCE.out k hlt
      have HE2 : Hid _ := low_next HE.out hlt (by omega)
      have hcell2 : wr.cell? ⟨g, o + k, none⟩ = some (.int .i64 (l.getD k 0)) := (hbel.cell (p := ⟨g, o + k, none⟩) hg).trans hcell
      have hfp := hown.frozenAt (k + 1)
      have hcp : wr.cell? ⟨w.heap.size, k + 1, none⟩ = some (.int .i64 (P.getD (k + 1) 0)) := by
        rw [hown.cellAt (k + 1) (by omega)]
        simp [List.getD, show k + 1 < P.length by omega]
      generalize P.getD (k + 1) 0 = p at hcp
      have hst := (World.ownsRow.stored (w := wr) hown (k + 1) (.int .i64 (l.getD k 0))).1
      rw [map_set] at hst
      have HST : Hid _ := hst
      clear hst HE hcell
      generalize l.getD k 0 = y at *
      go_wp2
      go_roundw
      case rel => exact ⟨k + 1, P.set (k + 1) y, by omega, by go_num, by simpa using hP, HST.out, HE2, hbel.setCell (Nat.le_refl _) _⟩
      case measure => simp [intOf]; omega
    · obtain rfl : k = l.length := by omega
      have hfin : P = x :: l := by
        have := HE.out
        rw [List.take_length, List.take_of_length_le (by omega)] at this
        exact this
      have hown' := made_own hown hP
      rw [hfin] at hown'
      clear HE hfin
      go_wp2
      go_ret
      exact ⟨_, rfl, hown', hbel⟩

def gs (a b : List Int) : Int :=
  if b.getD (b.length - 1) 0 ≤ 0 then 0
  else if 1000000000 ≤ (a.getD (b.length - 1 + 1) 0 * 1000000000 + a.getD (b.length - 1) 0) / b.getD (b.length - 1) 0 then 999999999
  else (a.getD (b.length - 1 + 1) 0 * 1000000000 + a.getD (b.length - 1) 0) / b.getD (b.length - 1) 0

set_option maxHeartbeats 1000000 in
theorem guess_any (a b : List Int) (u v : Value) (w : World) (hu : Row w u a) (hv : Row w v b) (ha : a.length ≤ 1000000000) (hb : b.length ≤ 1000000000) (hb0 : 0 < b.length) (da : Dig 1000000000 a) (db : Dig 1000000000 b) :
    Calls Tryz.prog 125 #[u, v] w fun e w' => e = .returned (.int .i64 (gs a b)) ∧ w' = w := by
  obtain ⟨ua, uc, rfl⟩ := hu.val
  obtain ⟨va, vc, rfl⟩ := hv.val
  obtain ⟨n, HN⟩ : ∃ n, Hid (b.length - 1 = n) := ⟨_, rfl⟩
  have hn1 : (b.length : Int) - 1 = n := by have := HN.out; omega
  have hn2 : n ≤ 1000000000 := by have := HN.out; omega
  unfold gs
  rw [HN.out]
  have h1 := limbAt_any b (.slice va b.length vc) n w hv (by omega) (by omega)
  have h2 := limbAt_any a (.slice ua a.length uc) (n + 1) w hu (by omega) (by omega)
  have h3 := limbAt_any a (.slice ua a.length uc) n w hu (by omega) (by omega)
  have d1 := Dig.getD (by omega) db n
  have d2 := Dig.getD (by omega) da (n + 1)
  have d3 := Dig.getD (by omega) da n
  rw [show (((n + 1 : Nat) : Int)) = (n : Int) + 1 by omega] at h2
  generalize b.getD n 0 = d at *
  generalize a.getD (n + 1) 0 = hi at *
  generalize a.getD n 0 = lo at *
  obtain ⟨d1a, d1b⟩ := d1
  obtain ⟨d2a, d2b⟩ := d2
  obtain ⟨d3a, d3b⟩ := d3
  by_cases hd : d ≤ 0
  · rw [if_pos hd]
    go_enter Tryz.func125, Tryz.ntmps125
    go_wp2_with fail
    refine h1.mono ?_
    rintro e w' ⟨rfl, rfl⟩
    go_wp2
    go_ret
    exact ⟨rfl, rfl⟩
  · rw [if_neg hd]
    have hq0 : 0 ≤ (hi * 1000000000 + lo) / d := Int.ediv_nonneg (by omega) (by omega)
    have hq1 : (hi * 1000000000 + lo) / d ≤ hi * 1000000000 + lo := Int.ediv_le_self _ (by omega)
    have hdd : 1 ≤ d := by omega
    obtain ⟨q, HQ⟩ : ∃ q, Hid ((hi * 1000000000 + lo) / d = q) := ⟨_, rfl⟩
    rw [HQ.out] at hq0 hq1 ⊢
    have hne : ¬ d = 0 := by omega
    have hqq : IntKind.i64.wrap ((hi * 1000000000 + lo).tdiv d) = q := by
      rw [Int.tdiv_eq_ediv_of_nonneg (by omega), HQ.out, IntKind.wrap_i64]
      omega
    by_cases hbig : 1000000000 ≤ q
    · rw [if_pos hbig]
      go_enter Tryz.func125, Tryz.ntmps125
      go_wp2_with fail
      refine h1.mono ?_
      rintro e w' ⟨rfl, rfl⟩
      go_wp2_with fail
      refine h2.mono ?_
      rintro e w' ⟨rfl, rfl⟩
      go_wp2_with fail
      refine h3.mono ?_
      rintro e w' ⟨rfl, rfl⟩
      go_wp2
      go_ret
      exact ⟨rfl, rfl⟩
    · rw [if_neg hbig]
      go_enter Tryz.func125, Tryz.ntmps125
      go_wp2_with fail
      refine h1.mono ?_
      rintro e w' ⟨rfl, rfl⟩
      go_wp2_with fail
      refine h2.mono ?_
      rintro e w' ⟨rfl, rfl⟩
      go_wp2_with fail
      refine h3.mono ?_
      rintro e w' ⟨rfl, rfl⟩
      go_wp2
      go_ret
      exact ⟨rfl, rfl⟩

end Go.Proofs.YtldcjkhbiffdoabGreatDoor
