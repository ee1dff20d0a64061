import Derived.Test.YtldcjkhbiffdoabGreatDoorM08
import Derived.Test.YtldcjkhbiffdoabGreatDoorM00
import Derived.Test.YtldcjkhbiffdoabGreatDoorM04
import Derived.Deep.RegionHeld3
import Derived.Test.YtldcjkhbiffdoabGreatDoorM01

namespace Go.Proofs.YtldcjkhbiffdoabGreatDoor
open Go.RowKit

theorem three_new {w W0 : World} {a b c d e f : Value} (h : ((w.alloc (.cells #[a, b] 70)).alloc (.cells #[c, d] 70)).alloc (.cells #[e, f] 70) = W0) :
    w.heap.size + 1 + 1 < W0.heap.size ∧ Below w.heap.size w W0 ∧ Bx W0 w.heap.size a b ∧ Bx W0 (w.heap.size + 1) c d ∧ Bx W0 (w.heap.size + 1 + 1) e f := by
  subst h
  refine ⟨by simp, (((Below.refl _ _).alloc (Nat.le_refl _) _).alloc (by simp) _).alloc (by simp; omega) _, ((Bx.alloc w a b).alloc_old _).alloc_old _, ?_, ?_⟩
  · have := (Bx.alloc (w.alloc (.cells #[a, b] 70)) c d).alloc_old (.cells #[e, f] 70)
    simpa using this
  · have := Bx.alloc ((w.alloc (.cells #[a, b] 70)).alloc (.cells #[c, d] 70)) e f
    simpa using this

set_option maxHeartbeats 2000000 in
theorem add_same (b : Bool) (x y : Value) (l m : List Int) (z1 z2 : Int) (w : World) (hx : Row w x l) (hy : Row w y m) (h1 : Lim b l z1) (h2 : Lim b m z2) (hl : l.length ≤ 10000000) (hm : m.length ≤ 10000000) :
    Calls Tryz.prog 80 #[.agg #[.bool b, x], .agg #[.bool b, y]] w fun e w' => ∃ v, e = .returned v ∧ IsI w' v (z1 + z2) ∧ Below w.heap.size w w' := by
  obtain ⟨ua, uc, rfl⟩ := hx.val
  obtain ⟨va, vc, rfl⟩ := hy.val
  go_enter Tryz.func80, Tryz.ntmps80
  go_wp2
  generalize hW : ((w.alloc (Obj.cells #[Value.bool b, Value.slice ua l.length uc] 70)).alloc (Obj.cells #[Value.bool b, Value.slice va m.length vc] 70)).alloc (Obj.cells #[Value.bool false, Value.slice none 0 0] 70) = W0
  obtain ⟨hz0, hb0, X0, X1, X2⟩ := three_new hW
  clear hW
  have c0 := X0.c0; have c1 := X0.c1; have c2 := X1.c1
  have hx0 := hx.below hb0
  have hy0 := hy.below hb0
  go_region_held3 (fun w' => w'.cell? ⟨w.heap.size, 0, none⟩ = some (.bool b) ∧ w'.cell? ⟨w.heap.size, 1, none⟩ = some (.slice ua l.length uc) ∧ w'.cell? ⟨w.heap.size + 1, 1, none⟩ = some (.slice va m.length vc))
    (first | exact ⟨c0, c1, c2⟩ | exact ⟨q0, q1, q2⟩ | exact ⟨r0, r1, r2⟩ | simp [go_sem, r0, r1, r2])
    (first
      | (go_at_call 104; refine (addLimbs_any l m _ _ _ (by exact hx0) (by exact hy0) (by omega) (by omega) h1.dig h2.dig).mono ?_; rintro e w1 ⟨s, x1, rfl, hr1, hd1, hv1, hlen1, hb1'⟩; have hb1 := of_drew hb1'; clear hb1'; have HV1 : Hid _ := hv1; clear hv1; have X0' : Bx w1 _ _ _ := X0.below hb1; have X1' : Bx w1 _ _ _ := X1.below hb1; have X2' : Bx w1 _ _ _ := X2.below hb1; have q0 := X0'.c0; have q1 := X0'.c1; have q2 := X1'.c1)
      | (go_at_call 86; refine (signed_any b s x1 w1 hr1 (by omega) hd1).mono ?_; rintro e w2 ⟨t, x2, rfl, hr2, hd2, ht2, hv2, hlen2, hb2⟩; have HV2 : Hid _ := hv2; clear hv2; obtain ⟨xa, xc, rfl⟩ := hr2.val; have X0'' := X0'.below hb2; have X1'' := X1'.below hb2; have X2'' := X2'.below hb2; have r0 := X0''.c0; have r1 := X0''.c1; have r2 := X1''.c1; have r3 := X2''.c0; have r4 := X2''.c1; have g3 := X2''.f0; have g4 := X2''.f1))
  all_goals go_wp2
  refine bodyPost_ret (v := .agg #[.bool (b && !t.isEmpty), .slice xa t.length xc]) (by simp [results, Tryz.results80, go_sem, r3, r4]) rfl ⟨_, rfl, ⟨_, _, t, rfl, hr2.set2 X2'' _ _, ?_⟩, ?_⟩
  · have := Lim.signed (b := b) hd2 ht2
    rw [HV2.out, HV1.out] at this
    rw [h1.val, h2.val]
    have e : sv b (ev 1000000000 l) + sv b (ev 1000000000 m) = sv b (ev 1000000000 l + ev 1000000000 m) := by unfold sv; split <;> omega
    rw [e]
    exact this
  · exact below_set2 (hb0.trans ((hb1.mono hb0.size).trans (hb2.mono (by have := hb0.size; have := hb1.size; omega)))) (by omega) _ _

set_option maxHeartbeats 2000000 in
theorem add_ge (b1 b2 : Bool) (hne : (b1 == b2) = false) (x y : Value) (l m : List Int) (z1 z2 : Int) (w : World) (hx : Row w x l) (hy : Row w y m) (h1 : Lim b1 l z1) (h2 : Lim b2 m z2) (hl : l.length ≤ 10000000) (_hm : m.length ≤ 10000000) (hle : ev 1000000000 m ≤ ev 1000000000 l) :
    Calls Tryz.prog 80 #[.agg #[.bool b1, x], .agg #[.bool b2, y]] w fun e w' => ∃ v, e = .returned v ∧ IsI w' v (z1 + z2) ∧ Below w.heap.size w w' := by
  obtain ⟨ua, uc, rfl⟩ := hx.val
  obtain ⟨va, vc, rfl⟩ := hy.val
  have hlen : m.length ≤ l.length := by
    rcases Nat.lt_or_ge l.length m.length with h | h
    · have := ev_lt_of_length (by omega) h1.dig h2.dig h2.trim h; omega
    · exact h
  have hcmp : 0 ≤ cmp3 (ev 1000000000 l) (ev 1000000000 m) := by unfold cmp3; rw [if_neg (by omega)]; split <;> omega
  have HLE : Hid _ := hle
  clear hle
  go_enter Tryz.func80, Tryz.ntmps80
  go_wp2_with fail
  generalize hW : ((w.alloc (Obj.cells #[Value.bool b1, Value.slice ua l.length uc] 70)).alloc (Obj.cells #[Value.bool b2, Value.slice va m.length vc] 70)).alloc (Obj.cells #[Value.bool false, Value.slice none 0 0] 70) = W0
  obtain ⟨hz0, hb0, X0, X1, X2⟩ := three_new hW
  clear hW
  have hx0 := hx.below hb0
  have hy0 := hy.below hb0
  refine (compareLimbs_any l m _ _ W0 hx0 hy0 (by omega) h1.dig h2.dig h1.trim h2.trim).mono ?_
  rintro e w' ⟨rfl, rfl⟩
  generalize cmp3 (ev 1000000000 l) (ev 1000000000 m) = c at *
  go_wp2_with fail
  have c0 := X0.c0; have c1 := X0.c1; have c2 := X1.c1
  have hle := HLE.out
  go_region_held3 (fun w' => w'.cell? ⟨w.heap.size, 0, none⟩ = some (.bool b1) ∧ w'.cell? ⟨w.heap.size, 1, none⟩ = some (.slice ua l.length uc) ∧ w'.cell? ⟨w.heap.size + 1, 1, none⟩ = some (.slice va m.length vc))
    (first | exact ⟨c0, c1, c2⟩ | exact ⟨q0, q1, q2⟩ | exact ⟨r0, r1, r2⟩ | simp [go_sem, r0, r1, r2])
    (first
      | (go_at_call 105; refine (subLimbs_any l m _ _ _ (by exact hx0) (by exact hy0) (by omega) hlen h1.dig h2.dig hle).mono ?_; rintro e w1 ⟨s, x1, rfl, hr1, hd1, hv1, hlen1, hb1'⟩; have hb1 := of_drew hb1'; clear hb1'; have HV1 : Hid _ := hv1; clear hv1; have X0' : Bx w1 _ _ _ := X0.below hb1; have X1' : Bx w1 _ _ _ := X1.below hb1; have X2' : Bx w1 _ _ _ := X2.below hb1; have q0 := X0'.c0; have q1 := X0'.c1; have q2 := X1'.c1)
      | (go_at_call 86; refine (signed_any b1 s x1 w1 hr1 (by omega) hd1).mono ?_; rintro e w2 ⟨t, x2, rfl, hr2, hd2, ht2, hv2, hlen2, hb2⟩; have HV2 : Hid _ := hv2; clear hv2; obtain ⟨xa, xc, rfl⟩ := hr2.val; have X0'' := X0'.below hb2; have X1'' := X1'.below hb2; have X2'' := X2'.below hb2; have r0 := X0''.c0; have r1 := X0''.c1; have r2 := X1''.c1; have r3 := X2''.c0; have r4 := X2''.c1; have g3 := X2''.f0; have g4 := X2''.f1))
  all_goals go_wp2
  refine bodyPost_ret (v := .agg #[.bool (b1 && !t.isEmpty), .slice xa t.length xc]) (by simp [results, Tryz.results80, go_sem, r3, r4]) rfl ⟨_, rfl, ⟨_, _, t, rfl, hr2.set2 X2'' _ _, ?_⟩, ?_⟩
  · have := Lim.signed (b := b1) hd2 ht2
    rw [HV2.out, HV1.out] at this
    rw [h1.val, h2.val]
    have e : sv b1 (ev 1000000000 l) + sv b2 (ev 1000000000 m) = sv b1 (ev 1000000000 l - ev 1000000000 m) := by cases b1 <;> cases b2 <;> simp_all [sv] <;> omega
    rw [e]
    exact this
  · exact below_set2 (hb0.trans ((hb1.mono hb0.size).trans (hb2.mono (by have := hb0.size; have := hb1.size; omega)))) (by omega) _ _

set_option maxHeartbeats 2000000 in
theorem add_lt (b1 b2 : Bool) (hne : (b1 == b2) = false) (x y : Value) (l m : List Int) (z1 z2 : Int) (w : World) (hx : Row w x l) (hy : Row w y m) (h1 : Lim b1 l z1) (h2 : Lim b2 m z2) (hl : l.length ≤ 10000000) (hm : m.length ≤ 10000000) (hle : ev 1000000000 l < ev 1000000000 m) :
    Calls Tryz.prog 80 #[.agg #[.bool b1, x], .agg #[.bool b2, y]] w fun e w' => ∃ v, e = .returned v ∧ IsI w' v (z1 + z2) ∧ Below w.heap.size w w' := by
  obtain ⟨ua, uc, rfl⟩ := hx.val
  obtain ⟨va, vc, rfl⟩ := hy.val
  have hlen : l.length ≤ m.length := by
    rcases Nat.lt_or_ge m.length l.length with h | h
    · have := ev_lt_of_length (by omega) h2.dig h1.dig h1.trim h; omega
    · exact h
  have hcmp : cmp3 (ev 1000000000 l) (ev 1000000000 m) < 0 := by rw [cmp3_lt hle]; omega
  have HLE : Hid _ := hle
  clear hle
  go_enter Tryz.func80, Tryz.ntmps80
  go_wp2_with fail
  generalize hW : ((w.alloc (Obj.cells #[Value.bool b1, Value.slice ua l.length uc] 70)).alloc (Obj.cells #[Value.bool b2, Value.slice va m.length vc] 70)).alloc (Obj.cells #[Value.bool false, Value.slice none 0 0] 70) = W0
  obtain ⟨hz0, hb0, X0, X1, X2⟩ := three_new hW
  clear hW
  have hx0 := hx.below hb0
  have hy0 := hy.below hb0
  refine (compareLimbs_any l m _ _ W0 hx0 hy0 (by omega) h1.dig h2.dig h1.trim h2.trim).mono ?_
  rintro e w' ⟨rfl, rfl⟩
  generalize cmp3 (ev 1000000000 l) (ev 1000000000 m) = c at *
  go_wp2_with fail
  have c0 := X1.c0; have c1 := X0.c1; have c2 := X1.c1
  have hle := HLE.out
  go_region_held3 (fun w' => w'.cell? ⟨w.heap.size + 1, 0, none⟩ = some (.bool b2) ∧ w'.cell? ⟨w.heap.size, 1, none⟩ = some (.slice ua l.length uc) ∧ w'.cell? ⟨w.heap.size + 1, 1, none⟩ = some (.slice va m.length vc))
    (first | exact ⟨c0, c1, c2⟩ | exact ⟨q0, q1, q2⟩ | exact ⟨r0, r1, r2⟩ | simp [go_sem, r0, r1, r2])
    (first
      | (go_at_call 105; refine (subLimbs_any m l _ _ _ (by exact hy0) (by exact hx0) (by omega) hlen h2.dig h1.dig (by omega)).mono ?_; rintro e w1 ⟨s, x1, rfl, hr1, hd1, hv1, hlen1, hb1'⟩; have hb1 := of_drew hb1'; clear hb1'; have HV1 : Hid _ := hv1; clear hv1; have X0' : Bx w1 _ _ _ := X0.below hb1; have X1' : Bx w1 _ _ _ := X1.below hb1; have X2' : Bx w1 _ _ _ := X2.below hb1; have q0 := X1'.c0; have q1 := X0'.c1; have q2 := X1'.c1)
      | (go_at_call 86; refine (signed_any b2 s x1 w1 hr1 (by omega) hd1).mono ?_; rintro e w2 ⟨t, x2, rfl, hr2, hd2, ht2, hv2, hlen2, hb2⟩; have HV2 : Hid _ := hv2; clear hv2; obtain ⟨xa, xc, rfl⟩ := hr2.val; have X0'' := X0'.below hb2; have X1'' := X1'.below hb2; have X2'' := X2'.below hb2; have r0 := X1''.c0; have r1 := X0''.c1; have r2 := X1''.c1; have r3 := X2''.c0; have r4 := X2''.c1; have g3 := X2''.f0; have g4 := X2''.f1))
  all_goals go_wp2
  refine bodyPost_ret (v := .agg #[.bool (b2 && !t.isEmpty), .slice xa t.length xc]) (by simp [results, Tryz.results80, go_sem, r3, r4]) rfl ⟨_, rfl, ⟨_, _, t, rfl, hr2.set2 X2'' _ _, ?_⟩, ?_⟩
  · have := Lim.signed (b := b2) hd2 ht2
    rw [HV2.out, HV1.out] at this
    rw [h1.val, h2.val]
    have e : sv b1 (ev 1000000000 l) + sv b2 (ev 1000000000 m) = sv b2 (ev 1000000000 m - ev 1000000000 l) := by cases b1 <;> cases b2 <;> simp_all [sv] <;> omega
    rw [e]
    exact this
  · exact below_set2 (hb0.trans ((hb1.mono hb0.size).trans (hb2.mono (by have := hb0.size; have := hb1.size; omega)))) (by omega) _ _

theorem add_any (u v : Value) (z1 z2 : Int) (w : World) (hu : IsI w u z1) (hv : IsI w v z2) (f1 : Fit z1) (f2 : Fit z2) :
    Calls Tryz.prog 80 #[u, v] w fun e w' => ∃ v, e = .returned v ∧ IsI w' v (z1 + z2) ∧ Below w.heap.size w w' := by
  obtain ⟨b1, x, l, rfl, hx, h1⟩ := hu
  obtain ⟨b2, y, m, rfl, hy, h2⟩ := hv
  have hl := h1.len f1
  have hm := h2.len f2
  by_cases hb : b1 = b2
  · subst hb
    exact add_same b1 x y l m z1 z2 w hx hy h1 h2 hl hm
  · rcases (show ev 1000000000 l < ev 1000000000 m ∨ ev 1000000000 m ≤ ev 1000000000 l by omega) with h | h
    · exact add_lt b1 b2 (by simp [hb]) x y l m z1 z2 w hx hy h1 h2 hl hm h
    · exact add_ge b1 b2 (by simp [hb]) x y l m z1 z2 w hx hy h1 h2 hl hm h

end Go.Proofs.YtldcjkhbiffdoabGreatDoor

namespace Go.Proofs.YtldcjkhbiffdoabGreatDoor
open Go.RowKit

theorem dig_sq {t : Int} (h : 0 ≤ t ∧ t < 1000000000 * 1000000000) : (0 ≤ t % 1000000000 ∧ t % 1000000000 < 1000000000) ∧ 0 ≤ t / 1000000000 ∧ t / 1000000000 < 1000000000 := by omega

def MIn (l m P : List Int) (i j : Nat) (c : Int) : Prop :=
  Dig 1000000000 P ∧ ev 1000000000 P + c * 1000000000 ^ (i + j) = ev 1000000000 (l.take i) * ev 1000000000 m + l.getD i 0 * ev 1000000000 (m.take j) * 1000000000 ^ i ∧ ∀ k, i + m.length ≤ k → P.getD k 0 = 0

def MOut (l m P : List Int) (i : Nat) : Prop := Dig 1000000000 P ∧ ev 1000000000 P = ev 1000000000 (l.take i) * ev 1000000000 m ∧ ∀ k, i + m.length ≤ k → P.getD k 0 = 0

theorem getD_set_ne {P : List Int} {i k : Nat} (y : Int) (h : i ≠ k) : (P.set i y).getD k 0 = P.getD k 0 := by
  simp [List.getD, List.getElem?_set_ne h]

theorem MIn.step {l m P : List Int} {i j : Nat} {c p x y : Int} (h : MIn l m P i j c) (hk : i + j < P.length) (hj : j < m.length) (hp : P.getD (i + j) 0 = p) (hx : l.getD i 0 = x) (hy : m.getD j 0 = y)
    (hb : 0 ≤ p + x * y + c ∧ p + x * y + c < 1000000000 * 1000000000) : MIn l m (P.set (i + j) ((p + x * y + c) % 1000000000)) i (j + 1) ((p + x * y + c) / 1000000000) := by
  obtain ⟨h1, h2, h3⟩ := h
  have hd := dig_sq hb
  refine ⟨h1.set _ hd.1.1 hd.1.2, ?_, fun k hk' => ?_⟩
  · rw [ev_take, hy, hx]
    rw [hx] at h2
    exact mul_round P i j hk x y c (p + x * y + c) _ _ h2 (by rw [hp])
  · rw [getD_set_ne _ (by omega)]; exact h3 k hk'

theorem MOut.into {l m P : List Int} {i : Nat} (h : MOut l m P i) : MIn l m P i 0 0 := by
  refine ⟨h.1, ?_, h.2.2⟩
  rw [h.2.1]; simp [ev]

theorem MIn.out {l m P : List Int} {i : Nat} {c : Int} (h : MIn l m P i m.length c) (hc : 0 ≤ c ∧ c < 1000000000) (hk : i + m.length < P.length) : MOut l m (P.set (i + m.length) c) (i + 1) := by
  obtain ⟨h1, h2, h3⟩ := h
  refine ⟨h1.set _ hc.1 hc.2, ?_, fun k hk' => ?_⟩
  · rw [ev_set _ _ _ _ hk, h3 _ (Nat.le_refl _), ev_take]
    rw [List.take_length] at h2
    simp only [Int.sub_zero]
    rw [h2, Int.add_mul]
    congr 1
    rw [Int.mul_assoc, Int.mul_comm (ev 1000000000 m), ← Int.mul_assoc]
  · rw [getD_set_ne _ (by omega)]; exact h3 k (by omega)

theorem getD_zeros (n k : Nat) : (List.replicate n (0 : Int)).getD k 0 = 0 := by
  simp only [List.getD, List.getElem?_replicate]; split <;> rfl

set_option maxHeartbeats 2000000 in
theorem mulLimbs_any (l m : List Int) (u v : Value) (w : World) (hu : Row w u l) (hv : Row w v m) (hl : l.length ≤ 10000000) (hm : m.length ≤ 10000000) (dl : Dig 1000000000 l) (dm : Dig 1000000000 m) :
    Calls Tryz.prog 94 #[u, v] w fun e w' => ∃ s x, e = .returned x ∧ Row w' x s ∧ Dig 1000000000 s ∧ ev 1000000000 s = ev 1000000000 l * ev 1000000000 m ∧ s.length ≤ l.length + m.length ∧ Below w.heap.size w w' := by
  obtain ⟨ua, uc, rfl⟩ := hu.val
  obtain ⟨va, vc, rfl⟩ := hv.val
  obtain ⟨n, HN⟩ : ∃ n, Hid (n = l.length + m.length) := ⟨_, rfl⟩
  have hna : n ≤ l.length + m.length := by have := HN.out; omega
  have hnb : l.length + m.length ≤ n := by have := HN.out; omega
  go_enter Tryz.func94, Tryz.ntmps94
  go_wp2_with (at_make; refine wpList_make64 rfl (.tmp 14) (.tmp 14) rfl _ _ n rfl rfl (by omega) (by omega) (by omega) ?_)
  intro w1 P0 HP0 hown1 hb1
  go_wp2_with fail
  go_loopw [6] (fun i wq => ∃ (k : Nat) (P : List Int), k ≤ l.length ∧ i = .int .i64 k ∧ P.length = n ∧ wq.ownsRow w.heap.size 2 1 (.slice (some ⟨w.heap.size, 0, none⟩) n n) n (P.map (Value.int .i64)) ∧ Hid (MOut l m P k) ∧ Below w.heap.size w wq) (fun i _ => l.length - (intOf i).toNat)
  case atStart => exact ⟨0, P0, Nat.zero_le _, rfl, by rw [HP0.out]; simp, hown1, by rw [HP0.out]; exact ⟨Dig.zeros (by omega) _, by simp [ev, ev_zeros], fun k _ => getD_zeros n k⟩, hb1⟩
  case round =>
    clear hown1 hb1 HP0
    obtain ⟨i, P, hi, rfl, hPl, hown, HM, hbel⟩ := hrel
    by_cases hlt2 : i < l.length
    · have hn : n = l.length + m.length := HN.out
      have hn1 : l.length + m.length ≤ n := by omega
      have hn2 : n ≤ l.length + m.length := by omega
      clear hn
      have hBg := Nat.le_refl w.heap.size
      obtain ⟨ga, rfl, hu1, hu2, hu3, hcu⟩ := hu.at i hlt2
      obtain ⟨x, HX⟩ : ∃ x, Hid (l.getD i 0 = x) := ⟨_, rfl⟩
      have hx := Dig.getD (by omega) dl i
      rw [HX.out] at hcu hx
      obtain ⟨hx0, hx1⟩ := hx
      go_wp2_with fail
      go_loopw [7, 8] (fun c j wp => ∃ (q : Nat) (cy : Int) (P : List Int), q ≤ m.length ∧ j = .int .i64 q ∧ c = .int .i64 cy ∧ 0 ≤ cy ∧ cy < 1000000000 ∧ P.length = n ∧ wp.ownsRow w.heap.size 2 1 (.slice (some ⟨w.heap.size, 0, none⟩) n n) n (P.map (Value.int .i64)) ∧ Hid (MIn l m P i q cy) ∧ Below w.heap.size w wp) (fun _ j _ => m.length - (intOf j).toNat)
      case atStart => exact ⟨0, 0, P, Nat.zero_le _, rfl, rfl, by omega, by omega, hPl, hown, MOut.into HM.out, hbel⟩
      case round =>
        clear hown hbel HM hPl P
        obtain ⟨j, cy, P, hj, rfl, rfl, hc0, hcB, hPl, hown, HM, hbel⟩ := hrel
        have hcu' : wr.cell? ⟨ga, i, none⟩ = some (.int .i64 x) := (hbel.cell (by exact hu3)).trans hcu
        by_cases hlt3 : j < m.length
        · obtain ⟨gb, rfl, hv1, hv2, hv3, hcv⟩ := hv.at j hlt3
          obtain ⟨y, HY⟩ : ∃ y, Hid (m.getD j 0 = y) := ⟨_, rfl⟩
          have hy := Dig.getD (by omega) dm j
          rw [HY.out] at hcv hy
          obtain ⟨hy0, hy1⟩ := hy
          have hcv' : wr.cell? ⟨gb, j, none⟩ = some (.int .i64 y) := (hbel.cell (by exact hv3)).trans hcv
          obtain ⟨p, HP⟩ : ∃ p, Hid (P.getD (i + j) 0 = p) := ⟨_, rfl⟩
          have hp := Dig.getD (by omega) HM.out.1 (i + j)
          rw [HP.out] at hp
          have hcp : wr.cell? ⟨w.heap.size, i + j, none⟩ = some (.int .i64 p) := by
            rw [hown.cellAt (i + j) (by omega), ← HP.out]
            simp [List.getD, show i + j < P.length by omega]
          have hfp := hown.frozenAt (i + j)
          have hb := mul_bound (B := 1000000000) (by omega) p x y cy hp ⟨hx0, hx1⟩ ⟨hy0, hy1⟩ ⟨hc0, hcB⟩
          have hst := MIn.step HM.out (by omega) hlt3 HP.out HX.out HY.out hb
          have HST : Hid _ := hst
          have hd := dig_sq hb
          have hxy : 0 ≤ x * y := Int.mul_nonneg hx0 hy0
          obtain ⟨hp0, hp1⟩ := hp
          obtain ⟨hb1, hb2⟩ := hb
          clear hst HM HP HY hcv hcu hd
          go_wp2_with fail
          go_quiet (fail)
          go_wp2
          go_roundw
          case rel =>
            refine ⟨j + 1, _, P.set (i + j) ((p + x * y + cy) % 1000000000), by omega, by go_num, rfl, by omega, by omega, by simpa using hPl, ?_, HST, (below_drewN hbel nq).setCell hBg _⟩
            rw [← map_set]
            exact (World.ownsRow.stored (w := wr.drewN nq) hown _ _).1
          case measure => simp [intOf]; omega
        · obtain rfl : j = m.length := by omega
          obtain ⟨p, HP⟩ : ∃ p, Hid (P.getD (i + m.length) 0 = p) := ⟨_, rfl⟩
          have hcp : wr.cell? ⟨w.heap.size, i + m.length, none⟩ = some (.int .i64 p) := by
            rw [hown.cellAt (i + m.length) (by omega), ← HP.out]
            simp [List.getD, show i + m.length < P.length by omega]
          have hfp := hown.frozenAt (i + m.length)
          have hst := MIn.out HM.out ⟨hc0, hcB⟩ (by omega)
          have HST : Hid _ := hst
          clear hst HM HP hcu
          go_wp2
          go_roundw
          case rel =>
            refine ⟨i + 1, P.set (i + m.length) cy, by omega, by go_num, by simpa using hPl, ?_, HST, hbel.setCell hBg _⟩
            rw [← map_set]
            exact (World.ownsRow.stored hown _ _).1
          case measure => simp [intOf]; omega
    · obtain rfl : i = l.length := by omega
      have hM := HM.out
      unfold MOut at hM
      rw [List.take_length] at hM
      have HM2 : Hid _ := hM
      have hn : n = l.length + m.length := HN.out
      have hPn : P.length ≤ l.length + m.length := by omega
      clear hM HM hn
      go_wp2
      go_ret
      refine ⟨P, _, rfl, Own.row (B := w.heap.size) (by unfold Own; rw [hPl]; exact hown), HM2.out.1, HM2.out.2.1, hPn, hbel⟩

end Go.Proofs.YtldcjkhbiffdoabGreatDoor

namespace Go.Proofs.YtldcjkhbiffdoabGreatDoor
open Go.RowKit

set_option maxHeartbeats 2000000 in
theorem mul_any (u v : Value) (z1 z2 : Int) (w : World) (hu : IsI w u z1) (hv : IsI w v z2) (f1 : Fit z1) (f2 : Fit z2) :
    Calls Tryz.prog 69 #[u, v] w fun e w' => ∃ v, e = .returned v ∧ IsI w' v (z1 * z2) ∧ Below w.heap.size w w' := by
  obtain ⟨b1, x, l, rfl, hx, h1⟩ := hu
  obtain ⟨b2, y, m, rfl, hy, h2⟩ := hv
  have hl := h1.len f1
  have hm := h2.len f2
  obtain ⟨ua, uc, rfl⟩ := hx.val
  obtain ⟨va, vc, rfl⟩ := hy.val
  go_enter Tryz.func69, Tryz.ntmps69
  go_wp2
  generalize hW : ((w.alloc (Obj.cells #[Value.bool b1, Value.slice ua l.length uc] 70)).alloc (Obj.cells #[Value.bool b2, Value.slice va m.length vc] 70)).alloc (Obj.cells #[Value.bool false, Value.slice none 0 0] 70) = W0
  obtain ⟨hz0, hb0, X0, X1, X2⟩ := three_new hW
  clear hW
  have c0 := X0.c0; have c1 := X0.c1; have c2 := X1.c1; have c3 := X1.c0
  have hx0 := hx.below hb0
  have hy0 := hy.below hb0
  go_region_held3 (fun w' => w'.cell? ⟨w.heap.size, 0, none⟩ = some (.bool b1) ∧ w'.cell? ⟨w.heap.size, 1, none⟩ = some (.slice ua l.length uc) ∧ w'.cell? ⟨w.heap.size + 1, 1, none⟩ = some (.slice va m.length vc) ∧ w'.cell? ⟨w.heap.size + 1, 0, none⟩ = some (.bool b2))
    (first | exact ⟨c0, c1, c2, c3⟩ | exact ⟨q0, q1, q2, q3⟩ | exact ⟨r0, r1, r2, r5⟩ | simp [go_sem, r0, r1, r2, r5])
    (first
      | (go_at_call 94; refine (mulLimbs_any l m _ _ _ (by exact hx0) (by exact hy0) (by omega) (by omega) h1.dig h2.dig).mono ?_; rintro e w1 ⟨s, x1, rfl, hr1, hd1, hv1, hlen1, hb1'⟩; have hb1 := of_drew hb1'; clear hb1'; have HV1 : Hid _ := hv1; clear hv1; have X0' : Bx w1 _ _ _ := X0.below hb1; have X1' : Bx w1 _ _ _ := X1.below hb1; have X2' : Bx w1 _ _ _ := X2.below hb1; have q0 := X0'.c0; have q1 := X0'.c1; have q2 := X1'.c1; have q3 := X1'.c0)
      | (go_at_call 86; refine (signed_any _ s x1 w1 hr1 (by omega) hd1).mono ?_; rintro e w2 ⟨t, x2, rfl, hr2, hd2, ht2, hv2, hlen2, hb2⟩; have HV2 : Hid _ := hv2; clear hv2; obtain ⟨xa, xc, rfl⟩ := hr2.val; have X0'' := X0'.below hb2; have X1'' := X1'.below hb2; have X2'' := X2'.below hb2; have r0 := X0''.c0; have r1 := X0''.c1; have r2 := X1''.c1; have r3 := X2''.c0; have r4 := X2''.c1; have r5 := X1''.c0; have g3 := X2''.f0; have g4 := X2''.f1))
  all_goals go_wp2
  refine bodyPost_ret (v := .agg #[.bool (!(b1 == b2) && !t.isEmpty), .slice xa t.length xc]) (by simp [results, Tryz.results69, go_sem, r3, r4]) rfl ⟨_, rfl, ⟨_, _, t, rfl, hr2.set2 X2'' _ _, ?_⟩, ?_⟩
  · have := Lim.signed (b := !(b1 == b2)) hd2 ht2
    rw [HV2.out, HV1.out] at this
    rw [h1.val, h2.val]
    have e : sv b1 (ev 1000000000 l) * sv b2 (ev 1000000000 m) = sv (!(b1 == b2)) (ev 1000000000 l * ev 1000000000 m) := by
      cases b1 <;> cases b2 <;> simp [sv, Int.neg_mul, Int.mul_neg]
    rw [e]
    exact this
  · exact below_set2 (hb0.trans ((hb1.mono hb0.size).trans (hb2.mono (by have := hb0.size; have := hb1.size; omega)))) (by omega) _ _

end Go.Proofs.YtldcjkhbiffdoabGreatDoor

namespace Go.Proofs.YtldcjkhbiffdoabGreatDoor
open Go.RowKit

set_option maxHeartbeats 1000000 in
theorem small_zero (w : World) : Calls Tryz.prog 50 #[.int .i64 0] w fun e w' => ∃ v, e = .returned v ∧ IsI w' v 0 ∧ Below w.heap.size w w' := by
  go_enter Tryz.func50, Tryz.ntmps50
  go_wp2_with fail
  refine wp_loop_rounds 1 ?_; rw [rounds_succ]
  go_wp2
  refine bodyPost_ret (v := .agg #[.bool false, .slice (some ⟨w.heap.size + 1, 0, none⟩) 0 0]) (by simp [results, Tryz.results50, go_sem]) rfl ⟨_, rfl, ⟨_, _, [], rfl, (Own.lit (by simp)).row, Dig.nil _, (fun x h => by simp at h), (fun h => by simp at h), by simp [sv, ev]⟩, ?_⟩
  exact ((Below.refl _ _).alloc (Nat.le_refl _) _).alloc (by simp) _

theorem tmod_small {n : Int} (h0 : n < 0) (h1 : -1000000000 < n) : n.tmod 1000000000 = n := by
  have : n = -(-n) := by omega
  rw [this, Int.neg_tmod, Int.tmod_eq_emod_of_nonneg (by omega)]; omega
theorem tdiv_small {n : Int} (h0 : n < 0) (h1 : -1000000000 < n) : n.tdiv 1000000000 = 0 := by
  have : n = -(-n) := by omega
  rw [this, Int.neg_tdiv, Int.tdiv_eq_ediv_of_nonneg (by omega)]; omega

set_option maxHeartbeats 1000000 in
theorem small_pos (n : Int) (h0 : 0 < n) (h1 : n < 1000000000) (w : World) : Calls Tryz.prog 50 #[.int .i64 n] w fun e w' => ∃ v, e = .returned v ∧ IsI w' v n ∧ Below w.heap.size w w' := by
  obtain ⟨q, HQ⟩ : ∃ q, Hid (n % 1000000000 = q) := ⟨_, rfl⟩
  have hq : q = n := by rw [← HQ.out]; omega
  have e1 : n % 1000000000 = n := by rw [HQ.out]; exact hq
  have e2 : n / 1000000000 = 0 := by omega
  clear hq HQ
  go_enter Tryz.func50, Tryz.ntmps50
  go_wp2_with fail
  generalize hW : (w.alloc (Obj.cells #[Value.bool false, Value.slice none 0 0] 70)).alloc (Obj.cells #[] 2) = W1
  have hown0 : Own (w.heap.size + 1) W1 (.slice (some ⟨w.heap.size + 1, 0, none⟩) 0 0) [] := by rw [← hW]; exact Own.lit (by simp)
  have X0 : Bx W1 w.heap.size (.bool false) (.slice none 0 0) := by rw [← hW]; exact (Bx.alloc w _ _).alloc_old _
  have hsz : w.heap.size + 1 ≤ W1.heap.size := by rw [← hW]; simp
  have hb0 : Below w.heap.size w W1 := by rw [← hW]; exact ((Below.refl _ _).alloc (Nat.le_refl _) _).alloc (by simp) _
  clear hW
  refine wp_loop_rounds 2 ?_; rw [rounds_succ]
  go_wp2_with (at_builtin; refine wpList_push rfl (.tmp 19) (.tmp 21) rfl (w.heap.size + 1) _ [] _ rfl hown0 rfl (by simp) hsz ?_)
  intro v' w1 hown1 hb1 _
  obtain ⟨xa, xc, rfl⟩ := hown1.row.val
  have X1 : Bx w1 w.heap.size (.bool false) (.slice none 0 0) := by unfold Bx; rw [hb1.block _ (by omega)]; exact X0
  have r3 := X1.c0; have r4 := X1.c1; have g3 := X1.f0; have g4 := X1.f1
  go_wp2
  rw [rounds_succ]
  go_wp2
  refine bodyPost_ret (v := .agg #[.bool false, .slice xa 1 xc]) (by simp [results, Tryz.results50, go_sem, r3, r4]; omega) rfl ⟨_, rfl, ⟨_, _, [n], rfl, hown1.row.set2 X1 _ _, ?_⟩, ?_⟩
  · refine ⟨?_, ?_, ?_, ?_⟩
    · intro x hx; simp at hx; omega
    · intro x hx; simp at hx; omega
    · intro _; simp
    · simp [sv, ev]
  · exact below_set2 (hb0.trans (hb1.mono (by omega))) (Nat.le_refl _) _ _

set_option maxHeartbeats 1000000 in
theorem small_neg (n : Int) (h0 : n < 0) (h1 : -1000000000 < n) (w : World) : Calls Tryz.prog 50 #[.int .i64 n] w fun e w' => ∃ v, e = .returned v ∧ IsI w' v n ∧ Below w.heap.size w w' := by
  obtain ⟨q, HQ⟩ : ∃ q, Hid (n.tmod 1000000000 = q) := ⟨_, rfl⟩
  have hq : q = n := by rw [← HQ.out]; exact tmod_small h0 h1
  have e1 : n.tmod 1000000000 = n := by rw [HQ.out]; exact hq
  have e2 : n.tdiv 1000000000 = 0 := by exact tdiv_small h0 h1
  clear hq HQ
  go_enter Tryz.func50, Tryz.ntmps50
  go_wp2_with fail
  generalize hW : (w.alloc (Obj.cells #[Value.bool false, Value.slice none 0 0] 70)).alloc (Obj.cells #[] 2) = W1
  have hown0 : Own (w.heap.size + 1) W1 (.slice (some ⟨w.heap.size + 1, 0, none⟩) 0 0) [] := by rw [← hW]; exact Own.lit (by simp)
  have X0 : Bx W1 w.heap.size (.bool false) (.slice none 0 0) := by rw [← hW]; exact (Bx.alloc w _ _).alloc_old _
  have hsz : w.heap.size + 1 ≤ W1.heap.size := by rw [← hW]; simp
  have hb0 : Below w.heap.size w W1 := by rw [← hW]; exact ((Below.refl _ _).alloc (Nat.le_refl _) _).alloc (by simp) _
  clear hW
  refine wp_loop_rounds 2 ?_; rw [rounds_succ]
  go_wp2_with (at_builtin; refine wpList_push rfl (.tmp 19) (.tmp 21) rfl (w.heap.size + 1) _ [] _ rfl hown0 rfl (by simp) hsz ?_)
  intro v' w1 hown1 hb1 _
  obtain ⟨xa, xc, rfl⟩ := hown1.row.val
  have X1 : Bx w1 w.heap.size (.bool false) (.slice none 0 0) := by unfold Bx; rw [hb1.block _ (by omega)]; exact X0
  have r3 := X1.c0; have r4 := X1.c1; have g3 := X1.f0; have g4 := X1.f1
  go_wp2
  rw [rounds_succ]
  go_wp2
  refine bodyPost_ret (v := .agg #[.bool true, .slice xa 1 xc]) (by simp [results, Tryz.results50, go_sem, r3, r4]) rfl ⟨_, rfl, ⟨_, _, [-n], rfl, hown1.row.set2 X1 _ _, ?_⟩, ?_⟩
  · refine ⟨?_, ?_, ?_, ?_⟩
    · intro x hx; simp at hx; omega
    · intro x hx; simp at hx; omega
    · intro _; simp
    · simp [sv, ev]
  · exact below_set2 (hb0.trans (hb1.mono (by omega))) (Nat.le_refl _) _ _

theorem small_any (n : Int) (h0 : -1000000000 < n) (h1 : n < 1000000000) (w : World) : Calls Tryz.prog 50 #[.int .i64 n] w fun e w' => ∃ v, e = .returned v ∧ IsI w' v n ∧ Below w.heap.size w w' := by
  rcases (show n = 0 ∨ 0 < n ∨ n < 0 by omega) with rfl | h | h
  · exact small_zero w
  · exact small_pos n h h1 w
  · exact small_neg n h h0 w

end Go.Proofs.YtldcjkhbiffdoabGreatDoor

namespace Go.Proofs.YtldcjkhbiffdoabGreatDoor
open Go.RowKit

theorem wpList_makeZ {ops : Array Oper} {rest : List Oper} {o : Oper} {a : Act} {Q : Exit → Act → World → Prop} {w : World} (hg : o.guard = none) (l c : Operand) (hop : o.op = Op.makeSlice 42 l c)
    (L C : Int) (n : Nat) (hl : a.eval l = .int .i64 L) (hc : a.eval c = .int .i64 C) (hL : L = (n : Int)) (hC : C = (n : Int)) (hn : n ≤ 1000000000000)
    (hK : ∀ w' P, Hid (P = List.replicate n 0) → w'.ownsRow w.heap.size 3 1 (.slice (some ⟨w.heap.size, 0, none⟩) n n) n (P.map (Value.int .i64)) → Below w.heap.size w w' → wpList Tryz.prog ops Q rest (a.put o.dst (.slice (some ⟨w.heap.size, 0, none⟩) n n)) w') :
    wpList Tryz.prog ops Q (o :: rest) a w := by
  obtain ⟨i, hi, hz0, hz1, hz2⟩ := info_parts Tryz.infoIntN
  refine wpList_make_full w hg l c 42 hop w.heap.size 3 i (.int .i64 0) 1 Tryz.sliceIntN hi hz0 hz1 .i64 .i64 L C n hl hc hL hC (by rw [hz2]; omega) (by unfold maxLen; omega) (Nat.le_refl _) ?_
  intro w' h1 h2
  rw [made_zeros] at h1
  exact hK w' _ rfl h1 ((Below.refl _ _).grown h2 (Nat.le_refl _) (fun k hk => by cases hk))

theorem made_ownN {B n g : Nat} {w : World} {P : List Int} (h : w.ownsRow B 3 1 (.slice (some ⟨g, 0, none⟩) n n) n (P.map (Value.int .i64))) (hP : P.length = n) : OwnN B w (.slice (some ⟨g, 0, none⟩) n n) P := by
  unfold OwnN; rw [hP]; exact h

theorem owned_blockN {w : World} {B n g c : Nat} {xs : List Value} (h : w.ownsRow B 3 1 (.slice (some ⟨g, 0, none⟩) n c) n xs) : ∃ cur, w.heap[g]? = some (.cells cur 3 (0, 0)) ∧ cur.size = c ∧ B ≤ g ∧ n ≤ c ∧ c ≤ maxLen ∧ cur.toList.take n = xs := by
  rcases h.2 with ⟨h1, _⟩ | ⟨g', cap, cur, hv, hb, hg, hnc, hcm, hcs, ht⟩
  · cases h1
  · simp only [Value.slice.injEq, true_and, Option.some.injEq, Addr.mk.injEq, and_true] at hv
    obtain ⟨rfl, rfl⟩ := hv
    exact ⟨cur, hg, by simpa using hcs, hb, hnc, hcm, by simpa using ht⟩

theorem copyN_run {w : World} (B g n : Nat) (P l : List Int) (ua : Option Addr) (uc : Nat) (hr : RowN w (.slice ua l.length uc) l) (hn : n ≤ l.length)
    (hown : w.ownsRow B 3 1 (.slice (some ⟨g, 0, none⟩) n n) n (P.map (Value.int .i64))) :
    ∃ w2, (Builtin.copy_ #[42, 42] 3 #[.slice (some ⟨g, 0, none⟩) n n, .slice ua l.length uc]).run Tryz.prog w = .ok (goInt n) w2 ∧ OwnN B w2 (.slice (some ⟨g, 0, none⟩) n n) (l.take n) ∧ Below B w w2 := by
  obtain ⟨i, hi, hz0, hz1, hz2⟩ := info_parts Tryz.infoIntN
  obtain ⟨cur, hg, hcs, hB, _, hcm, _⟩ := owned_blockN hown
  have hlt : (l.take n).length = n := by rw [List.length_take]; omega
  have hlen : ((l.take n).map (Value.int .i64)).length = n := by rw [List.length_map, hlt]
  by_cases h0 : n = 0
  · subst h0
    refine ⟨w, run_copy_none (P := Tryz.prog) w 42 42 3 3 (some ⟨g, 0, none⟩) ua 0 0 l.length uc Tryz.sliceIntN (by rw [hi]; simp [hz1]) (by simp), ?_, Below.refl _ _⟩
    refine ⟨by simp, .inr ⟨g, 0, cur, by simp, hB, hg, by simp, by simp [maxLen], by simpa using hcs, by simp⟩⟩
  · obtain ⟨ga, rfl, _⟩ := hr.at 0 (by omega)
    have hrun := run_copy_row (P := Tryz.prog) w 42 42 3 3 g 0 n n ⟨ga, 0, none⟩ l.length uc cur 3 ((l.take n).map (Value.int .i64)) Tryz.sliceIntN (by rw [hi]; simp [hz1]) hg (by rw [hlen]; exact (Nat.min_eq_right hn).symm) ?_ (by rw [hlen]; omega) ?_
    · rw [hlen] at hrun
      refine ⟨_, hrun, ?_, below_setRow (Below.refl _ _) hB _⟩
      have hg2 := setRow_heap w g cur (cur.toList.take 0 ++ (l.take n).map (Value.int .i64) ++ cur.toList.drop (0 + n)).toArray 3 (0, 0) hg
      have hsp : cur.toList.take 0 ++ (l.take n).map (Value.int .i64) ++ cur.toList.drop (0 + n) = (l.take n).map (Value.int .i64) := by
        rw [List.drop_eq_nil_of_le (by rw [Array.length_toList, hcs]; omega)]
        simp
      rw [hsp] at hg2 ⊢
      unfold OwnN
      rw [hlt]
      refine ⟨by rw [hlen]; omega, .inr ⟨g, n, _, rfl, hB, hg2, Nat.le_refl _, hcm, ?_, ?_⟩⟩
      · simp; omega
      · rw [List.take_of_length_le]
        simp; omega
    · intro j v hj
      have hj' : j < n := by
        have := (List.getElem?_eq_some_iff.1 hj).1
        omega
      obtain ⟨ga', e, _, _, _, hc⟩ := hr.at j (by omega)
      simp at e
      subst e
      have hv : v = .int .i64 (l.getD j 0) := by
        rw [getD_lt (show j < l.length by omega)]
        simp [List.getElem?_take_of_lt hj', List.getElem?_eq_getElem (show j < l.length by omega)] at hj
        exact hj.symm
      have ha : (⟨ga, 0, none⟩ : Addr).add j = ⟨ga, j, none⟩ := by cases j <;> simp [Addr.add]
      rw [hv, ha]
      exact hc
    · intro v hv
      obtain ⟨z, _, rfl⟩ := List.mem_map.1 hv
      rfl


end Go.Proofs.YtldcjkhbiffdoabGreatDoor

namespace Go.Proofs.YtldcjkhbiffdoabGreatDoor
open Go.RowKit

set_option maxHeartbeats 400000 in
theorem modulo_any (n p : Int) (w : World) (hn : 0 ≤ n) (hn1 : n < 1000000000000000) (hp : 0 < p) (hp1 : p < 1000000000000000) :
    Calls Tryz.prog 121 #[.int .i64 n, .int .i64 p] w fun e w' => e = .returned (.int .i64 (n % p)) ∧ w' = w := by
  have h2 : 0 ≤ n % p := Int.emod_nonneg _ (by omega)
  have h3 : n % p < p := Int.emod_lt_of_pos _ hp
  have hlt : ¬ p < 1 := by omega
  have hp0 : ¬ p = 0 := by omega
  go_enter Tryz.func121, Tryz.ntmps121
  go_wp2
  go_ret
  exact ⟨rfl, rfl⟩

set_option maxHeartbeats 400000 in
theorem atN_any (l : List Int) (v : Value) (i : Nat) (w : World) (h : RowN w v l) (hi : i ≤ 1000000000000) (hl : l.length ≤ 1000000000000) :
    Calls Tryz.prog 113 #[v, .int .i64 i] w fun e w' => e = .returned (.int .i64 (l.getD i 0)) ∧ w' = w := by
  rcases h.form with ⟨rfl, rfl⟩ | ⟨g, cap, rfl, hc, hm, _, hcell⟩
  · go_enter Tryz.func113, Tryz.ntmps113
    go_wp2
    go_ret
    exact ⟨rfl, rfl⟩
  · by_cases hlt : i < l.length
    · have hg := hcell i hlt
      clear hcell
      generalize l.getD i 0 = x at *
      go_enter Tryz.func113, Tryz.ntmps113
      go_wp2
      go_ret
      exact ⟨rfl, rfl⟩
    · have hz : l.getD i 0 = 0 := by simp [List.getD, List.getElem?_eq_none (Nat.le_of_not_lt hlt)]
      clear hcell
      rw [hz]
      clear hz
      go_enter Tryz.func113, Tryz.ntmps113
      go_wp2
      go_ret
      exact ⟨rfl, rfl⟩

def InvO (p : Nat) (n : Int) (pw sq : Int) (lf : Nat) : Prop := (p : Int) ∣ pw * sq ^ lf - n ^ (p - 2)

theorem InvO.even {p : Nat} {n pw sq : Int} {lf : Nat} (h : InvO p n pw sq lf) (he : lf % 2 = 0) : InvO p n pw (sq * sq % p) (lf / 2) := by
  unfold InvO at *
  have h1 : sq ^ lf = (sq * sq) ^ (lf / 2) := by
    rw [Int.mul_pow, ← Int.pow_add]; congr 1; omega
  rw [h1] at h
  have h2 : ∀ (a : Int) (k : Nat), (p : Int) ∣ (a % p) ^ k - a ^ k := by
    intro a k
    induction k with
    | zero => simp
    | succ k ih =>
      rw [Int.pow_succ, Int.pow_succ]
      have h3 : (p : Int) ∣ a % p - a := ⟨-(a / p), by rw [Int.mul_neg]; have := Int.mul_ediv_add_emod a p; omega⟩
      have h4 : (a % p) ^ k * (a % p) - a ^ k * a = ((a % p) ^ k - a ^ k) * (a % p) + a ^ k * (a % p - a) := by rw [Int.sub_mul, Int.mul_sub]; omega
      rw [h4]
      exact Int.dvd_add (Int.dvd_trans ih (Int.dvd_mul_right ..)) (Int.dvd_trans h3 (Int.dvd_mul_left ..))
  have h5 := Int.dvd_add (Int.dvd_trans (h2 (sq * sq) (lf / 2)) (Int.dvd_mul_left pw _)) h
  rwa [Int.mul_sub, show pw * (sq * sq % ↑p) ^ (lf / 2) - pw * (sq * sq) ^ (lf / 2) + (pw * (sq * sq) ^ (lf / 2) - n ^ (p - 2)) = pw * (sq * sq % ↑p) ^ (lf / 2) - n ^ (p - 2) by omega] at h5
theorem InvO.odd {p : Nat} {n pw sq : Int} {lf : Nat} (h : InvO p n pw sq lf) (he : lf % 2 = 1) : InvO p n (pw * sq % p) sq (lf - 1) := by
  unfold InvO at *
  obtain ⟨k, rfl⟩ : ∃ k, lf = k + 1 := ⟨lf - 1, by omega⟩
  rw [Nat.add_sub_cancel]
  rw [Int.pow_succ] at h
  have h3 : (p : Int) ∣ pw * sq % p - pw * sq := ⟨-(pw * sq / p), by rw [Int.mul_neg]; have := Int.mul_ediv_add_emod (pw * sq) p; omega⟩
  have h4 := Int.dvd_add (Int.dvd_trans h3 (Int.dvd_mul_right _ (sq ^ k))) h
  rwa [Int.sub_mul, show pw * sq * sq ^ k = pw * (sq ^ k * sq) by rw [Int.mul_assoc, Int.mul_comm sq], show pw * sq % ↑p * sq ^ k - pw * (sq ^ k * sq) + (pw * (sq ^ k * sq) - n ^ (p - 2)) = pw * sq % ↑p * sq ^ k - n ^ (p - 2) by omega] at h4
theorem InvO.ends {p : Nat} (hp2 : 2 ≤ p) (hp : Dom (p : Int)) {n : Nat} (hn : ¬ (p : Int) ∣ n) {pw sq : Int} (h : InvO p n pw sq 0) : (p : Int) ∣ n * (pw % p) - 1 := by
  unfold InvO at h
  rw [Int.pow_zero, Int.mul_one] at h
  have h1 := fermat hp2 hp n
  obtain ⟨q, hq⟩ : ∃ q, p = q + 2 := ⟨p - 2, by omega⟩
  rw [show p - 2 = q by omega] at h
  have h2 : (p : Int) ∣ n * (n * (n : Int) ^ q - 1) := by
    have : (n : Int) ^ p - n = n * (n * (n : Int) ^ q - 1) := by
      rw [hq, show q + 2 = (q + 1) + 1 from rfl, Int.pow_succ, Int.pow_succ, Int.mul_sub, Int.mul_one, Int.mul_comm ((n : Int) ^ q), Int.mul_comm _ (n : Int)]
    rwa [this] at h1
  have h3 := (hp.1 _ _ h2).resolve_left hn
  have h4 : (p : Int) ∣ pw % p - pw := ⟨-(pw / p), by rw [Int.mul_neg]; have := Int.mul_ediv_add_emod pw p; omega⟩
  have h5 := Int.dvd_add (Int.dvd_trans (Int.dvd_add h4 h) (Int.dvd_mul_left (n : Int) _)) h3
  rwa [show pw % ↑p - pw + (pw - ↑n ^ q) = pw % ↑p - ↑n ^ q by omega, Int.mul_sub, show (n : Int) * (pw % ↑p) - ↑n * ↑n ^ q + (↑n * ↑n ^ q - 1) = ↑n * (pw % ↑p) - 1 by omega] at h5

set_option maxHeartbeats 1000000 in
theorem inverse_any (p n : Nat) (w : World) (hp2 : 2 ≤ p) (hp1 : p < 1000) (hp : Dom (p : Int)) (hn : n < p) (hn0 : ¬ (p : Int) ∣ n) :
    Calls Tryz.prog 114 #[.int .i64 n, .int .i64 p] w fun e w' => ∃ k : Nat, e = .returned (.int .i64 k) ∧ k < p ∧ (p : Int) ∣ n * k - 1 ∧ w' = w := by
  have hM := fun (a : Int) (W : World) (h0 : 0 ≤ a) (h1 : a < 1000000) => modulo_any a p W h0 (by omega) (by omega) (by omega)
  have HM : Hid _ := hM
  clear hM
  go_enter Tryz.func114, Tryz.ntmps114
  go_wp2_with fail
  go_loopw [5, 6, 7] (fun a b c wr => ∃ (pw sq lf : Nat), a = .int .i64 pw ∧ b = .int .i64 sq ∧ c = .int .i64 lf ∧ pw < p ∧ sq < p ∧ lf < p ∧ Hid (InvO p n pw sq lf) ∧ wr = w) (fun _ _ c _ => (intOf c).toNat)
  case atStart => exact ⟨1, n, p - 2, rfl, rfl, by go_num, by omega, hn, by omega, by unfold InvO; show Hid _; exact ⟨0, by rw [Int.natCast_one, Int.one_mul]; omega⟩, rfl⟩
  case round =>
    obtain ⟨pw, sq, lf, rfl, rfl, rfl, h1, h2, h3, HI, rfl⟩ := hrel
    have hmul : ∀ a b : Nat, a < p → b < p → 0 ≤ (a : Int) * b ∧ (a : Int) * b < 1000000 := by
      intro a b ha hb
      have h5 : a * b ≤ 999 * 999 := Nat.mul_le_mul (by omega) (by omega)
      have h6 : (a : Int) * b = ((a * b : Nat) : Int) := (Int.natCast_mul a b).symm
      omega
    obtain ⟨m1, m2⟩ := hmul pw sq h1 h2
    obtain ⟨m3, m4⟩ := hmul sq sq h2 h2
    have hmod : ∀ a : Int, 0 ≤ a % p ∧ a % p < p := fun a => ⟨Int.emod_nonneg _ (by omega), Int.emod_lt_of_pos _ (by omega)⟩
    rcases Nat.eq_zero_or_pos lf with rfl | hl
    · have HE : Hid _ := InvO.ends hp2 hp hn0 HI.out
      clear HI hmul
      go_wp2_with fail
      refine (HM.out _ _ (by omega) (by omega)).mono ?_
      rintro e w' ⟨rfl, rfl⟩
      go_wp2
      go_ret
      obtain ⟨q1, q2⟩ := hmod pw
      refine ⟨((pw : Int) % p).toNat, by rw [show ((((pw : Int) % p).toNat : Nat) : Int) = (pw : Int) % p by omega]; rfl, by omega, ?_, rfl⟩
      rw [show ((((pw : Int) % p).toNat : Nat) : Int) = (pw : Int) % p by omega]
      exact HE.out
    · have hlf : 0 < (lf : Int) := by omega
      by_cases hodd : lf % 2 = 1
      · have hodd' : (lf : Int) % 2 = 1 := by omega
        have HE : Hid _ := (HI.out.odd hodd).even (by omega)
        clear HI hmul
        go_wp2_with fail
        refine (HM.out _ _ m1 (by omega)).mono ?_
        rintro e w' ⟨rfl, rfl⟩
        go_wp2_with fail
        refine (HM.out _ _ m3 (by omega)).mono ?_
        rintro e w' ⟨rfl, rfl⟩
        go_wp2
        go_roundw
        case rel =>
          obtain ⟨q1, q2⟩ := hmod (pw * sq)
          obtain ⟨q3, q4⟩ := hmod (sq * sq)
          refine ⟨((pw : Int) * sq % p).toNat, ((sq : Int) * sq % p).toNat, lf / 2, by congr 1 <;> omega, by congr 1 <;> omega, by go_num, by omega, by omega, by omega, ?_, trivial⟩
          rw [show ((((pw : Int) * sq % p).toNat : Nat) : Int) = (pw : Int) * sq % p by omega, show ((((sq : Int) * sq % p).toNat : Nat) : Int) = (sq : Int) * sq % p by omega, show lf / 2 = (lf - 1) / 2 by omega]
          exact HE
        case measure => simp [intOf]; omega
      · have hodd' : (lf : Int) % 2 = 0 := by omega
        have HE : Hid _ := HI.out.even (by omega)
        clear HI hmul
        go_wp2_with fail
        refine (HM.out _ _ m3 (by omega)).mono ?_
        rintro e w' ⟨rfl, rfl⟩
        go_wp2
        go_roundw
        case rel =>
          obtain ⟨q3, q4⟩ := hmod (sq * sq)
          refine ⟨pw, ((sq : Int) * sq % p).toNat, lf / 2, rfl, by congr 1 <;> omega, by go_num, by omega, by omega, by omega, ?_, trivial⟩
          rw [show ((((sq : Int) * sq % p).toNat : Nat) : Int) = (sq : Int) * sq % p by omega]
          exact HE
        case measure => simp [intOf]; omega

def isP (n : Nat) : Prop := 2 ≤ n ∧ Dom (n : Int)

set_option maxHeartbeats 1000000 in
theorem isPrime_any (n : Nat) (w : World) (hn : 2 ≤ n) (hn1 : n < 1001) (b : Bool) (HB : Hid (b = true ↔ isP n)) :
    Calls Tryz.prog 111 #[.int .i64 n] w fun e w' => e = .returned (.bool b) ∧ w' = w := by
  go_enter Tryz.func111, Tryz.ntmps111
  go_wp2_with fail
  go_loopw [3] (fun a wr => ∃ d : Nat, a = .int .i64 d ∧ 2 ≤ d ∧ d ≤ n + 2 ∧ Hid (∀ e, 2 ≤ e → e < d → ¬ e ∣ n) ∧ wr = w) (fun a _ => n + 2 - (intOf a).toNat)
  case atStart => exact ⟨2, rfl, by omega, by omega, fun e h1 h2 => by omega, rfl⟩
  case round =>
    obtain ⟨d, rfl, h1, h2, HD, rfl⟩ := hrel
    have hd0 : ¬ (d : Int) = 0 := by omega
    have hdiv : (n : Int) / d = ((n / d : Nat) : Int) := by rw [Int.natCast_ediv]
    have hmod : (n : Int) % d = ((n % d : Nat) : Int) := by rw [Int.natCast_emod]
    have hle : n / d ≤ n := Nat.div_le_self _ _
    have hmle : n % d ≤ n := Nat.mod_le _ _
    by_cases hc : d ≤ n / d
    · have hc' : (d : Int) ≤ (n : Int) / d := by omega
      have hq0 : 0 ≤ (n : Int) / d := Int.ediv_nonneg (by omega) (by omega)
      have hq1 : (n : Int) / d ≤ 1001 := by omega
      have hr0 : 0 ≤ (n : Int) % d := Int.emod_nonneg _ (by omega)
      have hr1 : (n : Int) % d ≤ 1001 := by omega
      have hdn : d ≤ n := by omega
      by_cases hz : n % d = 0
      · have hz' : (n : Int) % d = 0 := by omega
        have hdd : d * d ≤ n := by
          have := Nat.div_mul_le_self n d
          have h5 := Nat.mul_le_mul_right d hc
          omega
        have hnp : ¬ isP n := by
          intro h
          rcases h.2.only hn (Nat.dvd_of_mod_eq_zero hz) with h5 | h5
          · omega
          · have : 2 * d ≤ d * d := Nat.mul_le_mul_right d h1
            omega
        have HN : Hid _ := hnp
        clear hnp HD hdd hdiv hmod hle hmle hc hz
        go_wp2
        go_ret
        refine ⟨?_, rfl⟩
        cases b with
        | false => rfl
        | true => exact absurd (HB.out.1 rfl) HN.out
      · have hz' : ¬ (n : Int) % d = 0 := by omega
        have HN : Hid (∀ e, 2 ≤ e → e < d + 1 → ¬ e ∣ n) := by
          intro e h5 h6 h7
          rcases (show e < d ∨ e = d by omega) with h8 | rfl
          · exact HD.out e h5 h8 h7
          · exact hz (Nat.mod_eq_zero_of_dvd h7)
        clear HD hdiv hmod hle hmle hc hz
        go_wp2
        go_roundw
        case rel => exact ⟨d + 1, by go_num, by omega, by omega, HN, trivial⟩
        case measure => simp [intOf]; omega
    · have hc' : ¬ (d : Int) ≤ (n : Int) / d := by omega
      have hq0 : 0 ≤ (n : Int) / d := Int.ediv_nonneg (by omega) (by omega)
      have hq1 : (n : Int) / d ≤ 1001 := by omega
      have HN : Hid (isP n) := by
        refine ⟨hn, Dom.of_trial hn fun e h5 h6 h7 => ?_⟩
        rcases Nat.lt_or_ge e d with h8 | h8
        · exact HD.out e h5 h8 h7
        · have h9 : d * d ≤ n := Nat.le_trans (Nat.mul_le_mul h8 h8) h6
          have h10 : d ≤ n / d := (Nat.le_div_iff_mul_le (by omega)).2 h9
          omega
      clear HD hdiv hmod hle hmle hc
      go_wp2
      go_ret
      refine ⟨?_, rfl⟩
      rw [HB.out.2 HN.out]
      show Ending.returned (Value.bool (decide (1 < (n : Int)))) = _
      rw [decide_eq_true (by omega)]

set_option maxRecDepth 100000 in
set_option maxHeartbeats 1000000 in
theorem trimN_any (l : List Int) (u : Value) (w : World) (hu : RowN w u l) (hl : l.length ≤ 1000000000) :
    Calls Tryz.prog 93 #[u] w fun e w' => ∃ x, e = .returned x ∧ OwnN w.heap.size w' x (tz l) ∧ Below w.heap.size w w' := by
  obtain ⟨ua, uc, rfl⟩ := hu.val
  go_enter Tryz.func93, Tryz.ntmps93
  go_wp2_with fail
  go_loop [3] (fun n => ∃ (k : Nat), k ≤ l.length ∧ n = .int .i64 k ∧ Hid (tzn l l.length = tzn l k)) (fun n => (intOf n).toNat)
  case atStart => exact ⟨l.length, Nat.le_refl _, rfl, rfl⟩
  case round =>
    obtain ⟨k, hk, rfl, HE⟩ := hrel
    cases k with
    | zero =>
      have HT : Hid (tz l = l.take 0) := by unfold tz; rw [HE.out]; rfl
      clear HE
      go_wp2_with (at_make; refine wpList_makeZ rfl (.tmp 19) (.tmp 19) rfl _ _ 0 rfl rfl (by omega) (by omega) (by omega) ?_)
      intro w1 P0 _ hown hb1
      obtain ⟨w2, hrun, hown2, hb2⟩ := copyN_run w.heap.size w.heap.size 0 P0 l ua uc (hu.below hb1) (by omega) hown
      go_wp2
      go_ret
      rw [HT.out]
      exact ⟨_, rfl, hown2, hb1.trans hb2⟩
    | succ j =>
      obtain ⟨g, rfl, hc1, hc2, hg, hcell⟩ := hu.at j (by omega)
      obtain ⟨x, HX⟩ : ∃ x, Hid (l.getD j 0 = x) := ⟨_, rfl⟩
      rw [HX.out] at hcell
      by_cases hx : x = 0
      · subst hx
        have he : Hid (tzn l l.length = tzn l j) := by
          rw [HE.out]
          show (if l.getD j 0 = 0 then tzn l j else j + 1) = tzn l j
          rw [if_pos HX.out]
        clear HE HX
        go_wp2_with fail
        go_round
        case rel => exact ⟨j, by omega, by go_num, he⟩
        case measure => simp [intOf]
      · have HT : Hid (tz l = l.take (j + 1)) := by
          unfold tz
          rw [HE.out]
          show l.take (if l.getD j 0 = 0 then tzn l j else j + 1) = l.take (j + 1)
          rw [if_neg (by rw [HX.out]; exact hx)]
        have hxb : (x == 0) = false := by simp [hx]
        clear HE HX
        go_wp2_with (at_make; refine wpList_makeZ rfl (.tmp 19) (.tmp 19) rfl _ _ (j + 1) rfl rfl (by omega) (by omega) (by omega) ?_)
        intro w1 P0 _ hown hb1
        obtain ⟨w2, hrun, hown2, hb2⟩ := copyN_run w.heap.size w.heap.size (j + 1) P0 l _ uc (hu.below hb1) (by omega) hown
        go_wp2
        go_ret
        rw [HT.out]
        exact ⟨_, rfl, hown2, hb1.trans hb2⟩

end Go.Proofs.YtldcjkhbiffdoabGreatDoor

namespace Go.Proofs.YtldcjkhbiffdoabGreatDoor
open Go.RowKit

theorem op_call {P : Program} {o : Oper} {a : Act} {w : World} {K : Act → World → Prop} {Q : Exit → Act → World → Prop} {b : Bool} {E : Prop} (f : Nat) (args : Array Value) (hb : b = true) (hv : (execOp a.eval o).run P w = .ok (.enter f args) w)
    (hc : Calls P f args w fun e w' => ∃ v, e = .returned v ∧ K (a.put o.dst v) w') : if b = true then Oper.wp P o a w K Q else E := by
  rw [if_pos hb]
  unfold Oper.wp
  rw [hv]
  simp only [Oper.upon]
  refine hc.mono ?_
  rintro e w' ⟨v, rfl, h⟩
  exact h

theorem op_val {P : Program} {o : Oper} {a : Act} {w w' : World} {K : Act → World → Prop} {Q : Exit → Act → World → Prop} {b : Bool} {E : Prop} (v : Value) (hb : b = true) (hv : (execOp a.eval o).run P w = .ok (.value v) w')
    (h : K (a.put o.dst v) w') : if b = true then Oper.wp P o a w K Q else E := by
  rw [if_pos hb]
  unfold Oper.wp
  rw [hv]
  simp only [Oper.upon]
  exact h

section
variable {P : Program} {ops : Array Oper} {Q : Exit → Act → World → Prop} {S : World → Prop} {fuel : Nat} {listed : Array Bool} {a : Act} {w : World}

theorem h_take (i : Nat) (d : Tmp) (v : Value) {o : Oper} (ho : ops[i]? = some o) (hd : o.dst = some d) (hs : Region.noSelect ops = true) (hf : Region.free .any ops listed i = true) (hr : (Region.ready .any ops listed).contains i = true)
    (hQ : ∀ c a w, Q (.panic c) (a.put (some d) v) w → Q (.panic c) a w) (hb : Region.wanted o (yielded ops a.tmps) = true) (hv : ∀ w, S w → (execOp a.eval o).run P w = .ok (.value v) w) (hS : S w)
    (h : wpAnyH P .any ops Q S fuel (listed.setIfInBounds i true) (a.put (some d) v) w) : wpAnyH P .any ops Q S (fuel + 1) listed a w := by
  refine wpAnyH_take ho hs hf hr (v := v) (by rw [hd]; exact hQ) (.inl ⟨hb, hv⟩) hS ?_
  rw [hd]; exact h

theorem h_call (i : Nat) (d : Tmp) {o : Oper} (f : Nat) (args : Array Value) (ho : ops[i]? = some o) (hd : o.dst = some d) (hr : Region.ready .any ops listed = [i]) (hb : Region.wanted o (yielded ops a.tmps) = true) (hv : (execOp a.eval o).run P w = .ok (.enter f args) w)
    (hc : Calls P f args w fun e w' => ∃ v, e = .returned v ∧ S w' ∧ wpAnyH P .any ops Q S fuel (listed.setIfInBounds i true) (a.put (some d) v) w') : wpAnyH P .any ops Q S (fuel + 1) listed a w :=
  wpAnyH_ready hr (by simp) (AllReadyH.cons ho (fun K' hK => op_call f args hb hv (hc.mono (by
    rintro e w' ⟨v, rfl, hS, h⟩
    rw [hd]
    exact ⟨v, rfl, hK.out _ _ hS fun _ => h⟩))) AllReadyH.nil)

theorem h_val (i : Nat) (d : Tmp) {o : Oper} {w' : World} (v : Value) (ho : ops[i]? = some o) (hd : o.dst = some d) (hr : Region.ready .any ops listed = [i]) (hb : Region.wanted o (yielded ops a.tmps) = true) (hv : (execOp a.eval o).run P w = .ok (.value v) w') (hS : S w')
    (h : wpAnyH P .any ops Q S fuel (listed.setIfInBounds i true) (a.put (some d) v) w') : wpAnyH P .any ops Q S (fuel + 1) listed a w :=
  wpAnyH_ready hr (by simp) (AllReadyH.cons ho (fun _ hK => op_val v hb hv (by rw [hd]; exact hK.out _ _ hS fun _ => h)) AllReadyH.nil)

theorem ar_call (i : Nat) (d : Tmp) {o : Oper} {rs : List Nat} (f : Nat) (args : Array Value) (ho : ops[i]? = some o) (hd : o.dst = some d) (hb : Region.wanted o (yielded ops a.tmps) = true) (hv : (execOp a.eval o).run P w = .ok (.enter f args) w)
    (hc : Calls P f args w fun e w' => ∃ v, e = .returned v ∧ S w' ∧ wpAnyH P .any ops Q S fuel (listed.setIfInBounds i true) (a.put (some d) v) w')
    (hs : AllReadyH P .any ops Q S fuel listed a w rs) : AllReadyH P .any ops Q S fuel listed a w (i :: rs) :=
  AllReadyH.cons ho (fun K' hK => op_call f args hb hv (hc.mono (by
    rintro e w' ⟨v, rfl, hS, h⟩
    rw [hd]
    exact ⟨v, rfl, hK.out _ _ hS fun _ => h⟩))) hs

theorem ar_val (i : Nat) (d : Tmp) {o : Oper} {rs : List Nat} {w' : World} (v : Value) (ho : ops[i]? = some o) (hd : o.dst = some d) (hb : Region.wanted o (yielded ops a.tmps) = true) (hv : (execOp a.eval o).run P w = .ok (.value v) w') (hS : S w')
    (h : wpAnyH P .any ops Q S fuel (listed.setIfInBounds i true) (a.put (some d) v) w')
    (hs : AllReadyH P .any ops Q S fuel listed a w rs) : AllReadyH P .any ops Q S fuel listed a w (i :: rs) :=
  AllReadyH.cons ho (fun _ hK => op_val v hb hv (by rw [hd]; exact hK.out _ _ hS fun _ => h)) hs

theorem op_skip {P : Program} {o : Oper} {a : Act} {w w' : World} {K : Act → World → Prop} {Q : Exit → Act → World → Prop} {b : Bool} {E : Prop} (hb : b = true) (hv : (execOp a.eval o).run P w = .ok .skip w')
    (h : K (a.put o.dst undef) w') : if b = true then Oper.wp P o a w K Q else E := by
  rw [if_pos hb]
  unfold Oper.wp
  rw [hv]
  simp only [Oper.upon]
  exact h

theorem h_store (i : Nat) {o : Oper} {w' : World} (ho : ops[i]? = some o) (hd : o.dst = none) (hr : Region.ready .any ops listed = [i]) (hb : Region.wanted o (yielded ops a.tmps) = true) (hv : (execOp a.eval o).run P w = .ok .skip w') (hS : S w')
    (h : wpAnyH P .any ops Q S fuel (listed.setIfInBounds i true) a w') : wpAnyH P .any ops Q S (fuel + 1) listed a w :=
  wpAnyH_ready hr (by simp) (AllReadyH.cons ho (fun _ hK => op_skip hb hv (by rw [hd]; exact hK.out _ _ hS fun _ => h)) AllReadyH.nil)

end

end Go.Proofs.YtldcjkhbiffdoabGreatDoor

namespace Go.Proofs.YtldcjkhbiffdoabGreatDoor

def rest1 (R b : List Int) (n : Nat) : List Int :=
  tab (max R.length (n + b.length)) fun k => R.getD k 0 * lead b - (if n ≤ k then b.getD (k - n) 0 * R.getD (n + b.length - 1) 0 else 0)

theorem rest1_getD (R b : List Int) (n k : Nat) : (rest1 R b n).getD k 0 = R.getD k 0 * lead b - (if n ≤ k then b.getD (k - n) 0 * R.getD (n + b.length - 1) 0 else 0) := by
  unfold rest1
  rw [tab_getD]
  split
  · rfl
  · rw [getD_out (show R.length ≤ k by omega), if_pos (show n ≤ k by omega), getD_out (show b.length ≤ k - n by omega)]
    simp

def RO (b A0 R : List Int) (n : Nat) : Prop :=
  ∃ A c, c ≠ 0 ∧ (∀ k, R.getD k 0 = c * A.getD k 0) ∧ Tr A ∧ prim A = A ∧ A.length ≤ n + b.length - 1 ∧ A.length ≤ A0.length ∧ gfun (A0.length + b.length) A0 b = gfun (A0.length + b.length) A b

theorem RO.start {b A0 : List Int} (h : Tr A0) (hp : prim A0 = A0) : RO b A0 A0 (A0.length + 1 - b.length) :=
  ⟨A0, 1, by omega, fun k => by rw [Int.one_mul], h, hp, by omega, Nat.le_refl _, rfl⟩

theorem RO.next {b A0 R : List Int} {n : Nat} (h : RO b A0 R (n + 1)) (hb : Tr b) (hb0 : b ≠ []) : RO b A0 (rest1 R b n) n := by
  obtain ⟨A, c, hc, hR, hA, hpA, hlen, hle, hg⟩ := h
  have hb1 := List.length_pos_iff.2 hb0
  have hlb : lead b ≠ 0 := hb hb0
  by_cases h0 : A.getD (n + b.length - 1) 0 = 0
  · refine ⟨A, c * lead b, Int.mul_ne_zero hc hlb, fun k => ?_, hA, hpA, ?_, hle, hg⟩
    · rw [rest1_getD, hR (n + b.length - 1), h0, Int.mul_zero]
      simp only [Int.mul_zero, ite_self, Int.sub_zero]
      rw [hR k, Int.mul_assoc, Int.mul_assoc, Int.mul_comm (lead b)]
    · refine hA.lenN fun k hk => ?_
      rcases (show k = n + b.length - 1 ∨ n + b.length ≤ k by omega) with rfl | h1
      · exact h0
      · exact getD_out (by omega)
  · have hAl : A.length = n + b.length := by
      rcases Nat.lt_or_ge (n + b.length - 1) A.length with h1 | h1
      · omega
      · exact absurd (getD_out h1) h0
    have hlA : A.getD (n + b.length - 1) 0 = lead A := by unfold lead; rw [hAl]
    have hR2 : ∀ k, (rest1 R b n).getD k 0 = c * (elim A b).getD k 0 := by
      intro k
      rw [rest1_getD, elim_getD, hR k, hR (n + b.length - 1), hlA, show A.length - b.length = n by omega]
      split
      · rw [Int.mul_sub, Int.mul_assoc]
        congr 1
        rw [Int.mul_left_comm, Int.mul_comm (b.getD (k - n) 0)]
      · rw [Int.sub_zero, Int.sub_zero, Int.mul_assoc]
    have hel := elim_len hb1 (show b.length ≤ A.length by omega)
    have hg2 : gfun (A0.length + b.length) A0 b = gfun (A0.length + b.length) (prim (elim A b)) b := by
      rw [hg]
      obtain ⟨f, hf⟩ : ∃ f, A0.length + b.length = f + 1 := ⟨A0.length + b.length - 1, by omega⟩
      rw [hf, gfun_ge f hb0 (by omega)]
      exact (gfun_more f (by rw [prim_len]; omega)).symm
    by_cases he : elim A b = []
    · refine ⟨[], 1, by omega, fun k => ?_, Tr.nil, rfl, by simp, by simp, ?_⟩
      · rw [hR2, he]; simp
      · rw [hg2, he]; rfl
    · refine ⟨prim (elim A b), c * scont (elim A b), Int.mul_ne_zero hc (scont_ne (elim_tr _ _) he), fun k => ?_, (elim_tr _ _).prim, prim_prim (elim_tr _ _), ?_, ?_, hg2⟩
      · rw [hR2, Int.mul_assoc, ← prim_mul]
      · rw [prim_len]; omega
      · rw [prim_len]; omega

theorem RO.ends {b A0 R : List Int} (h : RO b A0 R 0) (hb0 : b ≠ []) :
    (prim (tz R)).length < b.length ∧ Tr (prim (tz R)) ∧ prim (prim (tz R)) = prim (tz R) ∧ gfun (A0.length + b.length) A0 b = gfun (A0.length + b.length) b (prim (tz R)) := by
  obtain ⟨A, c, hc, hR, hA, hpA, hlen, hle, hg⟩ := h
  have hb1 := List.length_pos_iff.2 hb0
  have h1 : prim (tz R) = A := by
    rw [prim_of_mul hc hA (tr_tz R) fun k => by rw [tz_getD, hR], hpA]
  rw [h1]
  refine ⟨by omega, hA, hpA, ?_⟩
  rw [hg]
  exact gfun_swap _ (by omega) (by omega)

theorem Bd.rest1 {R b : List Int} {e f : Nat} (hR : Bd R e) (hb : Bd b f) (n : Nat) : Bd (rest1 R b n) (e + f + 1) := by
  intro k
  rw [rest1_getD]
  split
  · rw [Int.mul_comm (b.getD (k - n) 0)]
    exact lt_two_mul (hR k) (hb _) (hR _) hb.lead
  · have := lt_two_mul (y := 0) (hR k) (by have := hb 0; omega) (hR 0) hb.lead
    rwa [Int.mul_zero] at this

theorem gfun_eq {m n : Nat} {A B : List Int} (hm : A.length + B.length ≤ m) (hn : A.length + B.length ≤ n) : gfun m A B = gfun n A B := by
  have : ∀ d, gfun (A.length + B.length + d) A B = gfun (A.length + B.length) A B := by
    intro d
    induction d with
    | zero => rfl
    | succ d ih => rw [← Nat.add_assoc, gfun_more _ (by omega), ih]
  obtain ⟨d, rfl⟩ : ∃ d, m = A.length + B.length + d := ⟨m - (A.length + B.length), by omega⟩
  obtain ⟨d', rfl⟩ : ∃ d', n = A.length + B.length + d' := ⟨n - (A.length + B.length), by omega⟩
  rw [this, this]


end Go.Proofs.YtldcjkhbiffdoabGreatDoor
