import Derived.Test.YtldcjkhbiffdoaaGreatDoorM04
import Derived.Test.YtldcjkhbiffdoaaGreatDoorM02
import Derived.OwnWalk
import Derived.Test.YtldcjkhbiffdoaaGreatDoorM00
import Derived.Laws.IdiomStrings
import Derived.Deep.RegionHeld3

/-
  factornum.Mul.
-/
namespace Go.Proofs.YtldcjkhbiffdoaaGreatDoor
open Go.RowKit

/-- 'make([]int, n)'. -/
theorem wpList_makeN {ops : Array Oper} {rest : List Oper} {o : Oper} {a : Act} {Q : Exit → Act → World → Prop} {w : World} (hg : o.guard = none) (l c : Operand) (hop : o.op = Op.makeSlice 72 l c)
    (L C : Int) (n : Nat) (hl : a.eval l = .int .i64 L) (hc : a.eval c = .int .i64 C) (hL : L = (n : Int)) (hC : C = (n : Int)) (hn : n ≤ 1000000000000)
    (hK : ∀ w', w'.ownsRow w.heap.size 3 1 (.slice (some ⟨w.heap.size, 0, none⟩) n n) n ((List.replicate n 0).map (Value.int .i64)) → Below w.heap.size w w' → wpList Tryz.prog ops Q rest (a.put o.dst (.slice (some ⟨w.heap.size, 0, none⟩) n n)) w') :
    wpList Tryz.prog ops Q (o :: rest) a w := by
  obtain ⟨i, hi, hz0, hz1, hz2⟩ := info_parts Tryz.infoIntN
  refine wpList_make_full w hg l c 72 hop w.heap.size 3 i (.int .i64 0) 1 Tryz.sliceIntN hi hz0 hz1 .i64 .i64 L C n hl hc hL hC (by rw [hz2]; omega) (by unfold maxLen; omega) (Nat.le_refl _) ?_
  intro w' h1 h2
  rw [made_zeros] at h1
  exact hK w' h1 ((Below.refl _ _).grown h2 (Nat.le_refl _) (fun k hk => by cases hk))

def MInN (l m P : List Int) (i j : Nat) (c : Int) : Prop :=
  Dig 10 P ∧ ev 10 P + c * 10 ^ (i + j) = ev 10 (l.take i) * ev 10 m + l.getD i 0 * ev 10 (m.take j) * 10 ^ i ∧ ∀ k, i + m.length ≤ k → i + j ≤ k → P.getD k 0 = 0
def MOutN (l m P : List Int) (i : Nat) : Prop := Dig 10 P ∧ ev 10 P = ev 10 (l.take i) * ev 10 m ∧ ∀ k, i + m.length ≤ k → P.getD k 0 = 0

theorem MInN.step {l m P : List Int} {i j : Nat} {c p x y t : Int} (h : MInN l m P i j c) (hk : i + j < P.length) (hp : P.getD (i + j) 0 = p) (hx : l.getD i 0 = x) (hy : m.getD j 0 = y)
    (ht : t = p + x * y + c) (_h0 : 0 ≤ t) (_h9 : t < 100) : MInN l m (P.set (i + j) (t % 10)) i (j + 1) (t / 10) := by
  obtain ⟨h1, h2, h3⟩ := h
  refine ⟨h1.set _ (by omega) (by omega), ?_, fun k hk' hk2 => ?_⟩
  · rw [ev_take, hy, hx]
    rw [hx] at h2
    exact mul_round P i j hk x y c t _ _ h2 (by rw [hp]; exact ht)
  · rw [getD_set_ne _ (by omega)]; exact h3 k hk' (by omega)

theorem MOutN.into {l m P : List Int} {i : Nat} (h : MOutN l m P i) : MInN l m P i 0 0 := by
  refine ⟨h.1, ?_, fun k hk _ => h.2.2 k hk⟩
  rw [h.2.1]; simp [ev]

theorem MInN.out {l m P : List Int} {i j : Nat} (h : MInN l m P i j 0) (hj : m.length ≤ j) (hj2 : j ≤ m.length + 1) : MOutN l m P (i + 1) := by
  obtain ⟨h1, h2, h3⟩ := h
  refine ⟨h1, ?_, fun k hk' => h3 k (by omega) (by omega)⟩
  rw [List.take_of_length_le hj] at h2
  rw [ev_take, Int.add_mul]
  simp only [Int.zero_mul, Int.add_zero] at h2
  rw [h2]
  congr 1
  rw [Int.mul_assoc, Int.mul_comm (ev 10 m), ← Int.mul_assoc]

theorem mul_bd {p x y c : Int} (hp : 0 ≤ p ∧ p < 10) (hx : 0 ≤ x ∧ x < 10) (hy : 0 ≤ y ∧ y < 10) (hc : 0 ≤ c ∧ c < 10) : 0 ≤ c + p + x * y ∧ c + p + x * y < 100 ∧ 0 ≤ x * y ∧ x * y < 82 := by
  have h1 : x * y ≤ 9 * 9 := Int.mul_le_mul (by omega) (by omega) hy.1 (by omega)
  have h3 := Int.mul_nonneg hx.1 hy.1
  omega

theorem own_addrN {w : World} {B n sc : Nat} {sa : Option Addr} {xs : List Value} (h : w.ownsRow B 3 1 (.slice sa n sc) n xs) (hn : 0 < n) : ∃ g, sa = some ⟨g, 0, none⟩ ∧ n ≤ sc ∧ sc ≤ maxLen ∧ B ≤ g := by
  rcases h.2 with ⟨_, h1⟩ | ⟨g, cap, cur, hv, hb, hg, hnc, hcm, _⟩
  · omega
  · simp only [Value.slice.injEq, true_and] at hv
    obtain ⟨rfl, rfl⟩ := hv
    exact ⟨g, rfl, hnc, hcm, hb⟩

set_option maxHeartbeats 2000000 in
theorem mulN_any (u v : Value) (z1 z2 : Int) (w : World) (hu : IsN w u z1) (hv : IsN w v z2) (f1 : FitN z1) (f2 : FitN z2) :
    Calls Tryz.prog 63 #[u, v] w fun e w' => ∃ v, e = .returned v ∧ IsN w' v (z1 * z2) ∧ Below w.heap.size w w' := by
  obtain ⟨b1, x, l, rfl, hx, h1⟩ := hu
  obtain ⟨b2, y, m, rfl, hy, h2⟩ := hv
  have hl := h1.fit f1
  have hm := h2.fit f2
  obtain ⟨ua, uc, rfl⟩ := hx.val
  obtain ⟨va, vc, rfl⟩ := hy.val
  have dl := h1.dig
  have dm := h2.dig
  obtain ⟨n, HN⟩ : ∃ n, Hid (n = l.length + m.length + 1) := ⟨_, rfl⟩
  have hn1 : l.length + m.length + 1 ≤ n := by have := HN.out; omega
  have hn2 : n ≤ l.length + m.length + 1 := by have := HN.out; omega
  go_enter Tryz.func63, Tryz.ntmps63
  go_wp2_with (at_make; refine wpList_makeN rfl (.tmp 16) (.tmp 16) rfl _ _ n rfl rfl (by omega) (by omega) (by omega) ?_)
  generalize hW : ((w.alloc (Obj.cells #[Value.bool b1, Value.slice ua l.length uc] 74)).alloc (Obj.cells #[Value.bool b2, Value.slice va m.length vc] 74)).alloc (Obj.cells #[Value.bool false, Value.slice none 0 0] 74) = W0
  have hsz : W0.heap.size = w.heap.size + 1 + 1 + 1 := by rw [← hW]; simp
  obtain ⟨hz0, hb0, X0, X1, X2⟩ := three_newN hW
  clear hW
  have hx0 := hx.below hb0
  have hy0 := hy.below hb0
  intro w1 hown0 hb1
  have hown : w1.ownsRow (w.heap.size + 1 + 1 + 1) 3 1 (.slice (some ⟨w.heap.size + 1 + 1 + 1, 0, none⟩) n n) n ((List.replicate n 0).map (Value.int .i64)) := by simpa using hown0
  clear hown0
  have hbox : ∀ W, Below (w.heap.size + 1 + 1 + 1) W0 W → Below W0.heap.size W0 W := fun W h => by rw [hsz]; exact h
  have hc01 : w1.cell? ⟨w.heap.size, 1, none⟩ = some (.slice ua l.length uc) := (X0.below (hbox _ hb1)).c1
  go_wp2_with fail
  go_loopw [21] (fun i wq => ∃ (k : Nat) (P : List Int), k ≤ l.length ∧ i = .int .i64 k ∧ P.length = n ∧ wq.ownsRow (w.heap.size + 1 + 1 + 1) 3 1 (.slice (some ⟨w.heap.size + 1 + 1 + 1, 0, none⟩) n n) n (P.map (Value.int .i64)) ∧ Hid (MOutN l m P k) ∧ Below (w.heap.size + 1 + 1 + 1) W0 wq) (fun i _ => l.length - (intOf i).toNat)
  case atStart => exact ⟨0, _, Nat.zero_le _, rfl, by simp, hown, ⟨Dig.zeros (by omega) _, by simp [ev, ev_zeros], fun k _ => getD_zeros n k⟩, hb1⟩
  case round =>
    clear hown hb1 hc01
    obtain ⟨i, P, hi, rfl, hPl, hown, HM, hbel⟩ := hrel
    by_cases hlt2 : i < l.length
    · obtain ⟨ga, rfl, hu1, hu2, hu3, hcu⟩ := hx0.at i hlt2
      obtain ⟨x, HX⟩ : ∃ x, Hid (l.getD i 0 = x) := ⟨_, rfl⟩
      have hxd := Dig.getD (by omega) dl i
      rw [HX.out] at hcu hxd
      go_wp2_with fail
      go_loopw [7, 8] (fun c j wp => ∃ (q : Nat) (cy : Int) (P : List Int), q ≤ m.length + 1 ∧ j = .int .i64 q ∧ c = .int .i64 cy ∧ 0 ≤ cy ∧ cy < 10 ∧ (m.length + 1 ≤ q → cy = 0) ∧ P.length = n ∧ wp.ownsRow (w.heap.size + 1 + 1 + 1) 3 1 (.slice (some ⟨w.heap.size + 1 + 1 + 1, 0, none⟩) n n) n (P.map (Value.int .i64)) ∧ Hid (MInN l m P i q cy) ∧ Below (w.heap.size + 1 + 1 + 1) W0 wp) (fun _ j _ => m.length + 1 - (intOf j).toNat)
      case atStart => exact ⟨0, 0, P, Nat.zero_le _, rfl, rfl, by omega, by omega, fun h => rfl, hPl, hown, MOutN.into HM.out, hbel⟩
      case round =>
        clear hown hbel HM hPl P
        obtain ⟨j, cy, P, hj, rfl, rfl, hc0, hcB, hce, hPl, hown, HM, hbel⟩ := hrel
        have hB := hbox _ hbel
        have hcu' : wr.cell? ⟨ga, i, none⟩ = some (.int .i64 x) := (hB.cell (by exact hu3)).trans hcu
        have c01 : wr.cell? ⟨w.heap.size, 1, none⟩ = _ := (X0.below hB).c1
        have c11 : wr.cell? ⟨w.heap.size + 1, 1, none⟩ = _ := (X1.below hB).c1
        have hgo : (j < m.length ∨ 0 < cy) ∨ (¬ j < m.length ∧ cy = 0) := by omega
        rcases hgo with hgo | ⟨hj3, hcz⟩
        · have hj4 : j < m.length + 1 := by
            rcases hgo with h | h
            · omega
            · rcases Nat.lt_or_ge j (m.length + 1) with h5 | h5
              · exact h5
              · have := hce h5; omega
          have hyr := hy0.below hB
          have hD := fun (W : World) (h : RowN W (.slice va m.length vc) m) => digitN_any m (.slice va m.length vc) j W h (by omega)
          have hyd := Dig.getD (by omega) dm j
          have hye : m.length ≤ j → m.getD j 0 = 0 := fun h => by simp [List.getD, List.getElem?_eq_none h]
          obtain ⟨y, HY⟩ : ∃ y, Hid (m.getD j 0 = y) := ⟨_, rfl⟩
          rw [HY.out] at hyd hD hye
          obtain ⟨p, HP⟩ : ∃ p, Hid (P.getD (i + j) 0 = p) := ⟨_, rfl⟩
          have hp := Dig.getD (by omega) HM.out.1 (i + j)
          have hpe : m.length ≤ j → P.getD (i + j) 0 = 0 := fun h => HM.out.2.2 (i + j) (by omega) (by omega)
          rw [HP.out] at hp hpe
          have hcp : wr.cell? ⟨w.heap.size + 1 + 1 + 1, i + j, none⟩ = some (.int .i64 p) := by
            rw [hown.cellAt (i + j) (by omega), ← HP.out]
            simp [List.getD, show i + j < P.length by omega]
          have hfp := hown.frozenAt (i + j)
          have hb := mul_bd hp hxd hyd ⟨hc0, hcB⟩
          have hst := MInN.step (t := cy + p + x * y) HM.out (by omega) HP.out HX.out HY.out (by omega) hb.1 hb.2.1
          have HST : Hid _ := hst
          have hend : m.length + 1 ≤ j + 1 → (cy + p + x * y) / 10 = 0 := by
            intro h
            have e1 := hye (by omega)
            have e2 := hpe (by omega)
            subst e1 e2
            rw [Int.mul_zero]
            omega
          obtain ⟨hb2, hb3, hb4, hb5⟩ := hb
          obtain ⟨hp0, hp1⟩ := hp
          obtain ⟨hx2, hx3⟩ := hxd
          obtain ⟨hy2, hy3⟩ := hyd
          clear hst HM HP HY hcu hye hpe hce
          have hcase : j < m.length ∨ (¬ j < m.length ∧ 0 < cy) := by omega
          clear hgo
          rcases hcase with h5 | ⟨h5, h6⟩
          all_goals
            go_wp2_with fail
            go_quiet ((go_at_call 105; exact Calls.quiet_of_same (hD _ (by exact hyr))))
            go_wp2
            go_roundw
            case rel =>
              refine ⟨j + 1, _, P.set (i + j) ((cy + p + x * y) % 10), by omega, by go_num, rfl, by omega, by omega, hend, by simpa using hPl, ?_, HST, (below_drewN hbel nq).setCell (Nat.le_refl _) _⟩
              rw [← map_set]
              exact (World.ownsRow.stored (w := wr.drewN nq) hown _ _).1
            case measure => simp [intOf]; omega
        · subst hcz
          have hst := MInN.out HM.out (by omega) hj
          have HST : Hid _ := hst
          clear hst HM hcu
          go_wp2
          go_roundw
          case rel => exact ⟨i + 1, P, by omega, by go_num, hPl, hown, HST, hbel⟩
          case measure => simp [intOf]; omega
    · obtain rfl : i = l.length := by omega
      have hM := HM.out
      unfold MOutN at hM
      rw [List.take_length] at hM
      have HM2 : Hid _ := hM
      clear hM HM
      have hB := hbox _ hbel
      have X0' := X0.below hB; have X1' := X1.below hB; have X2' := X2.below hB
      have c00 := X0'.c0; have c10 := X1'.c0
      have hr : RowN wr (.slice (some ⟨w.heap.size + 1 + 1 + 1, 0, none⟩) n n) P := OwnN.row (B := w.heap.size + 1 + 1 + 1) (by unfold OwnN; rw [hPl]; exact hown)
      have hxor : (b1 != b2) = (b1 ^^ b2) := by cases b1 <;> cases b2 <;> rfl
      go_wp2_with fail
      refine (tidyN_any (b1 != b2) P _ wr hr (by omega) HM2.out.1).mono ?_
      rintro e w2 ⟨t, x2, rfl, hr2, hd2, ht2, hv2, hlen2, hb2⟩
      have HV2 : Hid _ := hv2
      clear hv2
      obtain ⟨xa, xc, rfl⟩ := hr2.val
      have X2'' := X2'.below hb2
      have r3 := X2''.c0; have r4 := X2''.c1; have g3 := X2''.f0; have g4 := X2''.f1
      go_wp2
      refine bodyPost_ret (v := .agg #[.bool ((b1 != b2) && !t.isEmpty), .slice xa t.length xc]) (by simp [results, Tryz.results63, go_sem, r3, r4]) rfl ⟨_, rfl, ⟨_, _, t, rfl, hr2.set2 X2'' _ _, ?_⟩, ?_⟩
      · have := LimN.signed (b := b1 != b2) hd2 ht2
        rw [HV2.out, HM2.out.2.1] at this
        rw [h1.val, h2.val]
        have e : sv b1 (ev 10 l) * sv b2 (ev 10 m) = sv (b1 != b2) (ev 10 l * ev 10 m) := by cases b1 <;> cases b2 <;> simp [sv, Int.neg_mul, Int.mul_neg]
        rw [e]
        exact this
      · exact below_set2 (hb0.trans ((hbel.mono (by omega)).trans (hb2.mono (by have := hbel.size; omega)))) (by omega) _ _

end Go.Proofs.YtldcjkhbiffdoaaGreatDoor

/-
  factornum.Sub, Cmp.
-/
namespace Go.Proofs.YtldcjkhbiffdoaaGreatDoor
open Go.RowKit

theorem FitN.neg {z : Int} (h : FitN z) : FitN (-z) := by
  obtain ⟨n, h1, h2⟩ := h
  exact ⟨n, h1, by rw [Int.natAbs_neg]; exact h2⟩

/-- A number, opened. -/
theorem IsN.open {w : World} {v : Value} {z : Int} (h : IsN w v z) : ∃ b a n c l, v = .agg #[.bool b, .slice a n c] ∧ RowN w (.slice a n c) l ∧ LimN b l z := by
  obtain ⟨b, x, l, rfl, hr, hl⟩ := h
  obtain ⟨a, c, rfl⟩ := hr.val
  exact ⟨b, a, _, c, l, rfl, hr, hl⟩

set_option maxHeartbeats 2000000 in
theorem subN_any (u v : Value) (z1 z2 : Int) (w : World) (hu : IsN w u z1) (hv : IsN w v z2) (f1 : FitN z1) (f2 : FitN z2) :
    Calls Tryz.prog 130 #[u, v] w fun e w' => ∃ v, e = .returned v ∧ IsN w' v (z1 - z2) ∧ Below w.heap.size w w' := by
  obtain ⟨b1, ua, un, uc, l, rfl, hx, h1⟩ := id hu.open
  obtain ⟨b2, va, vn, vc, m, rfl, hy, h2⟩ := id hv.open
  have hM := fun (W : World) (g : IsN W (.agg #[.bool b2, .slice va vn vc]) z2) => minusN_any _ z2 W g f2
  have hA := fun (W : World) (v' : Value) (g1 : IsN W (.agg #[.bool b1, .slice ua un uc]) z1) (g2 : IsN W v' (-z2)) => addN_any _ v' z1 (-z2) W g1 g2 f1 f2.neg
  rw [show z1 + -z2 = z1 - z2 by omega] at hA
  have HM : Hid _ := hM
  have HA : Hid _ := hA
  clear hM hA hx hy h1 h2
  generalize z1 - z2 = z at *
  go_enter Tryz.func130, Tryz.ntmps130
  go_wp2_with fail
  generalize hW : ((w.alloc (Obj.cells #[Value.bool b1, Value.slice ua un uc] 74)).alloc (Obj.cells #[Value.bool b2, Value.slice va vn vc] 74)).alloc (Obj.cells #[Value.bool false, Value.slice none 0 0] 74) = W0
  obtain ⟨hz0, hb0, X0, X1, X2⟩ := three_newN hW
  clear hW
  have c0 := X0.c0; have c1 := X0.c1; have c2 := X1.c0; have c3 := X1.c1
  have hu0 := hu.below hb0
  have hv0 := hv.below hb0
  go_region_held3 (fun w' => w'.cell? ⟨w.heap.size, 0, none⟩ = some (.bool b1) ∧ w'.cell? ⟨w.heap.size, 1, none⟩ = some (.slice ua un uc) ∧ w'.cell? ⟨w.heap.size + 1, 0, none⟩ = some (.bool b2) ∧ w'.cell? ⟨w.heap.size + 1, 1, none⟩ = some (.slice va vn vc))
    (first | exact ⟨c0, c1, c2, c3⟩ | exact ⟨q0, q1, q2, q3⟩ | exact ⟨r0, r1, r2, r3⟩ | simp [go_sem, r0, r1, r2, r3])
    (first
      | (go_at_call 54; refine (HM.out _ (by exact hv0)).mono ?_; rintro e w1 ⟨v1, rfl, hI1, hb1'⟩; have hb1 := of_drew hb1'; clear hb1'; have X0' : BxN w1 _ _ _ := X0.below hb1; have X1' : BxN w1 _ _ _ := X1.below hb1; have X2' : BxN w1 _ _ _ := X2.below hb1; have hu1 := hu0.below hb1; have q0 := X0'.c0; have q1 := X0'.c1; have q2 := X1'.c0; have q3 := X1'.c1)
      | (go_at_call 58; refine (HA.out w1 v1 hu1 hI1).mono ?_; rintro e w2 ⟨v2, rfl, hI2, hb2⟩; obtain ⟨b3, xa, xn, xc, t, rfl, hr2, hl2⟩ := hI2.open; have X0'' := X0'.below hb2; have X1'' := X1'.below hb2; have X2'' := X2'.below hb2; have r0 := X0''.c0; have r1 := X0''.c1; have r2 := X1''.c0; have r3 := X1''.c1; have r4 := X2''.c0; have r5 := X2''.c1; have g3 := X2''.f0; have g4 := X2''.f1))
  all_goals go_wp2
  refine bodyPost_ret (v := .agg #[.bool b3, .slice xa xn xc]) (by simp [results, Tryz.results130, go_sem, r4, r5]) rfl ⟨_, rfl, ⟨_, _, t, rfl, hr2.set2 X2'' _ _, hl2⟩, ?_⟩
  exact below_set2 (hb0.trans ((hb1.mono hb0.size).trans (hb2.mono (by have := hb0.size; have := hb1.size; omega)))) (by omega) _ _

theorem cmp3_sub (a b : Int) : (a - b = 0 → cmp3 a b = 0) ∧ (a - b < 0 → cmp3 a b = -1) ∧ (0 < a - b → cmp3 a b = 1) := by
  refine ⟨fun h => ?_, fun h => cmp3_lt (by omega), fun h => cmp3_gt (by omega)⟩
  rw [show a = b by omega]
  exact cmp3_eq b

theorem LimN.sign {b : Bool} {l : List Int} {z : Int} (h : LimN b l z) (hz : z ≠ 0) : b = decide (z < 0) := by
  have h0 := h.nonneg
  have hv := h.val
  cases b
  · rw [decide_eq_false]; simp [sv] at hv; omega
  · rw [decide_eq_true]; simp [sv] at hv; omega

set_option maxHeartbeats 2000000 in
theorem cmpN_any (u v : Value) (z1 z2 : Int) (w : World) (hu : IsN w u z1) (hv : IsN w v z2) (f1 : FitN z1) (f2 : FitN z2) :
    Calls Tryz.prog 94 #[u, v] w fun e w' => e = .returned (.int .i64 (cmp3 z1 z2)) ∧ Below w.heap.size w w' := by
  obtain ⟨b1, ua, un, uc, l, rfl, hx, h1⟩ := id hu.open
  obtain ⟨b2, va, vn, vc, m, rfl, hy, h2⟩ := id hv.open
  have hS := fun (W : World) (g1 : IsN W (.agg #[.bool b1, .slice ua un uc]) z1) (g2 : IsN W (.agg #[.bool b2, .slice va vn vc]) z2) => subN_any _ _ z1 z2 W g1 g2 f1 f2
  have hc := cmp3_sub z1 z2
  have HS : Hid _ := hS
  clear hS hx hy h1 h2
  generalize cmp3 z1 z2 = c at *
  go_enter Tryz.func94, Tryz.ntmps94
  go_wp2_with fail
  generalize hW : (w.alloc (Obj.cells #[Value.bool b1, Value.slice ua un uc] 74)).alloc (Obj.cells #[Value.bool b2, Value.slice va vn vc] 74) = W0
  obtain ⟨hz0, hb0, X0, X1⟩ := two_newN hW
  clear hW
  refine (HS.out W0 (hu.below hb0) (hv.below hb0)).mono ?_
  rintro e w1 ⟨v1, rfl, hI1, hb1⟩
  generalize z1 - z2 = z at *
  obtain ⟨b3, xa, xn, xc, t, rfl, hr1, hl1⟩ := id hI1.open
  have hZ := fun (W : World) (g : IsN W (.agg #[.bool b3, .slice xa xn xc]) z) => zeroN_any _ z W g
  have hbw := hb0.trans (hb1.mono hb0.size)
  rcases (show z = 0 ∨ z < 0 ∨ 0 < z by omega) with hz | hz | hz
  · obtain rfl := hc.1 hz
    rw [decide_eq_true hz] at hZ
    clear hc
    go_wp2_with fail
    generalize hW1 : w1.alloc (Obj.cells #[Value.bool b3, Value.slice xa xn xc] 74) = W1
    obtain ⟨hb2, X3⟩ := one_newN hW1
    clear hW1
    refine (hZ W1 (hI1.below hb2)).mono ?_
    rintro e w2 ⟨rfl, hb3⟩
    have X3' := X3.below hb3
    have r0 := X3'.c0
    go_wp2
    go_ret
    exact ⟨rfl, (hbw.trans (hb2.mono hbw.size)).trans (hb3.mono (by have := hbw.size; have := hb2.size; omega))⟩
  · obtain rfl := hc.2.1 hz
    rw [decide_eq_false (by omega)] at hZ
    have hb3 := hl1.sign (by omega)
    rw [decide_eq_true hz] at hb3
    subst hb3
    clear hc
    go_wp2_with fail
    generalize hW1 : w1.alloc (Obj.cells #[Value.bool true, Value.slice xa xn xc] 74) = W1
    obtain ⟨hb2, X3⟩ := one_newN hW1
    clear hW1
    refine (hZ W1 (hI1.below hb2)).mono ?_
    rintro e w2 ⟨rfl, hb3⟩
    have X3' := X3.below hb3
    have r0 := X3'.c0
    go_wp2
    go_ret
    exact ⟨rfl, (hbw.trans (hb2.mono hbw.size)).trans (hb3.mono (by have := hbw.size; have := hb2.size; omega))⟩
  · obtain rfl := hc.2.2 hz
    rw [decide_eq_false (by omega)] at hZ
    have hb3 := hl1.sign (by omega)
    rw [decide_eq_false (by omega)] at hb3
    subst hb3
    clear hc
    go_wp2_with fail
    generalize hW1 : w1.alloc (Obj.cells #[Value.bool false, Value.slice xa xn xc] 74) = W1
    obtain ⟨hb2, X3⟩ := one_newN hW1
    clear hW1
    refine (hZ W1 (hI1.below hb2)).mono ?_
    rintro e w2 ⟨rfl, hb3⟩
    have X3' := X3.below hb3
    have r0 := X3'.c0
    go_wp2
    go_ret
    exact ⟨rfl, (hbw.trans (hb2.mono hbw.size)).trans (hb3.mono (by have := hbw.size; have := hb2.size; omega))⟩

end Go.Proofs.YtldcjkhbiffdoaaGreatDoor

/-
  factornum.Num.Text.
-/
namespace Go.Proofs.YtldcjkhbiffdoaaGreatDoor
open Go.RowKit

/-- The sign of a digit. -/
def ds (x : Int) : UInt8 := UInt8.ofNat (48 + x.toNat)

theorem dec_ev : ∀ {l : List Int}, Dig 10 l → Trim l → l ≠ [] → Lib.decDigits (ev 10 l).toNat = l.reverse.map ds
  | [], _, _, h => absurd rfl h
  | [a], d, _, _ => by
    have := d.head
    rw [Lib.decDigits_one (by simp [ev]; omega)]
    simp [ev, ds]
  | a :: b :: l, d, t, _ => by
    have ha := d.head
    have ht : Trim (b :: l) := fun x hx => t x (by rw [List.getLast?_cons_cons]; exact hx)
    have hp := ev_neN d.tail ht (by simp)
    have he : ev 10 (a :: b :: l) = a + 10 * ev 10 (b :: l) := rfl
    have ih := dec_ev d.tail ht (by simp)
    generalize ev 10 (b :: l) = e at *
    rw [he, dec_big (by omega), show (a + 10 * e).toNat / 10 = e.toNat by omega, show (a + 10 * e).toNat % 10 = a.toNat by omega, ih, List.reverse_cons (a := a), List.map_append]
    rfl

/-- The text of a number. -/
theorem itoa_lim {b : Bool} {l : List Int} {z : Int} (h : LimN b l z) : Lib.itoa z = if l = [] then [48] else if b then 45 :: l.reverse.map ds else l.reverse.map ds := by
  have hv := h.val
  by_cases hl : l = []
  · subst hl
    have hb : b = false := by
      cases b
      · rfl
      · exact absurd rfl (h.neg rfl)
    subst hb
    rw [if_pos rfl, hv]
    simp [sv, ev, Lib.itoa]
    rw [Lib.decDigits_one (by omega)]
    rfl
  · have hp := ev_neN h.dig h.trim hl
    have hd := dec_ev h.dig h.trim hl
    rw [if_neg hl]
    cases b
    · have e : z = ev 10 l := by simpa [sv] using hv
      unfold Lib.itoa
      rw [if_neg (by omega), if_neg (by decide), e, hd]
    · have e : z = -ev 10 l := by simpa [sv] using hv
      unfold Lib.itoa
      rw [if_pos (by omega), if_pos rfl, e, show (-ev 10 l).natAbs = (ev 10 l).toNat by omega, hd]

/-- 'string([]byte{byte(48 + y)})'. -/
theorem one_text (W : World) (y : Int) (h0 : 0 ≤ y) (h1 : y < 10) (g : Nat) (hg : g = W.heap.size) :
    (convert 120 9 (.slice (some ⟨g, 0, none⟩) 1 1)).run Tryz.prog (W.alloc (.cells #[.int .u8 (48 + y)] 5)) = .ok (.string ⟨[ds y].toArray⟩) (W.alloc (.cells #[.int .u8 (48 + y)] 5)) := by
  subst hg
  refine run_convert_bytes_back _ 120 9 5 ⟨W.heap.size, 0, none⟩ 1 [ds y] (by kernel_rfl) (by kernel_rfl) (by kernel_rfl) (fun j hj => ?_)
  obtain rfl : j = 0 := by simp at hj; omega
  have : (ds y).toNat = 48 + y.toNat := by
    unfold ds
    simp [UInt8.toNat_ofNat']
    omega
  show _ = some (Value.int .u8 ((ds y).toNat : Int))
  rw [this]
  simp [Addr.add]
  omega

set_option maxRecDepth 100000 in
set_option maxHeartbeats 2000000 in
theorem textN_any (u : Value) (z : Int) (w : World) (hu : IsN w u z) (f : FitN z) :
    Calls Tryz.prog 45 #[u] w fun e w' => e = .returned (.string ⟨(Lib.itoa z).toArray⟩) ∧ Below w.heap.size w w' := by
  obtain ⟨b, x, l, rfl, hx, h1⟩ := hu
  have hl := h1.fit f
  have hi := itoa_lim h1
  obtain ⟨ua, uc, rfl⟩ := hx.val
  obtain ⟨T, HT⟩ : ∃ T, Hid (Lib.itoa z = T) := ⟨_, rfl⟩
  rw [HT.out]
  rw [HT.out] at hi
  have HI : Hid _ := hi
  have dl := h1.dig
  have hneg := h1.neg
  clear hi h1
  go_enter Tryz.func45, Tryz.ntmps45
  go_wp2_with fail
  generalize hW : w.alloc (Obj.cells #[Value.bool b, Value.slice ua l.length uc] 74) = W0
  obtain ⟨hb0, X0⟩ := one_newN hW
  clear hW
  have hx0 := hx.below hb0
  go_loopw [3, 9] (fun t i wr => ∃ (k : Nat), k ≤ l.length ∧ i = .int .i64 k ∧ t = .string ⟨((l.take k).reverse.map ds).toArray⟩ ∧ Below W0.heap.size W0 wr) (fun _ i _ => l.length - (intOf i).toNat)
  case atStart => exact ⟨0, Nat.zero_le _, rfl, rfl, Below.refl _ _⟩
  case round =>
    obtain ⟨k, hk, rfl, rfl, hbel⟩ := hrel
    by_cases hlt : k < l.length
    · obtain ⟨g, rfl, hc1, hc2, hg, hcell⟩ := hx0.at k hlt
      have hcell' : wr.cell? ⟨g, k, none⟩ = some (.int .i64 (l.getD k 0)) := (hbel.cell (by exact hg)).trans hcell
      have hd := Dig.getD (by omega) dl k
      obtain ⟨y, HY⟩ : ∃ y, Hid (l.getD k 0 = y) := ⟨_, rfl⟩
      rw [HY.out] at hcell' hd
      obtain ⟨hd0, hd1⟩ := hd
      clear hcell
      have hcv := one_text wr y hd0 hd1 _ rfl
      have htk : [ds y] ++ (List.take k (List.map ds l)).reverse = List.map ds (List.take (k + 1) l).reverse := by
        rw [List.take_succ_eq_append_getElem hlt, ← getD_lt hlt, HY.out]
        simp [List.map_take]
      have HTK : Hid _ := htk
      clear htk
      go_wp2_with fail
      refine ⟨⟨k + 1, by omega, by go_num, congrArg Value.string ((str_app [ds y] _).trans (by rw [HTK.out])), hbel.alloc hbel.size _⟩, by simp [intOf]; omega⟩
    · obtain rfl : k = l.length := by omega
      have X0' := X0.below hbel
      have r0 := X0'.c0
      have hbw := hb0.trans (hbel.mono hb0.size)
      by_cases hnil : l = []
      · have hT := HI.out
        rw [if_pos hnil] at hT
        subst hT
        subst hnil
        have hb : b = false := by
          cases b
          · rfl
          · exact absurd rfl (hneg rfl)
        subst hb
        clear HI HT
        go_wp2
        go_ret
        exact ⟨rfl, hbw⟩
      · have hL : ∃ c r, l.reverse.map ds = c :: r := by
          cases h : l.reverse.map ds with
          | nil => simp at h; exact absurd h hnil
          | cons c r => exact ⟨c, r, rfl⟩
        obtain ⟨c, r, hL⟩ := hL
        have hT := HI.out
        rw [if_neg hnil, hL] at hT
        rw [List.take_length, hL]
        have hlen : (c :: r).length ≤ 10000000000 := by rw [← hL]; simp; omega
        clear HI HT hL hneg
        cases b
        · rw [if_neg (by decide)] at hT
          subst hT
          go_wp2
          go_ret
          exact ⟨rfl, hbw⟩
        · rw [if_pos rfl] at hT
          subst hT
          have hcat : (⟨#[45]⟩ : ByteArray) ++ ⟨(c :: r).toArray⟩ = ⟨(45 :: c :: r).toArray⟩ := str_app [45] (c :: r)
          have hs1 : (⟨(c :: r).toArray⟩ : ByteArray).size ≤ 10000000000 := hlen
          have hs2 : (⟨#[45]⟩ : ByteArray).size = 1 := rfl
          go_wp2
          go_ret
          exact ⟨rfl, hbw⟩

end Go.Proofs.YtldcjkhbiffdoaaGreatDoor

/-
  A region that draws its order, stepped by hand (Derived/Deep/RegionHeld.lean's moves).
-/
namespace Go.Proofs.YtldcjkhbiffdoaaGreatDoor
open Go.RowKit

theorem op_call {P : Program} {o : Oper} {a : Act} {w : World} {K : Act → World → Prop} {Q : Exit → Act → World → Prop} {b : Bool} {E : Prop} (f : Nat) (args : Array Value) (hb : b = true) (hv : (execOp a.eval o).run P w = .ok (.enter f args) w)
    (hc : Calls P f args w fun e w' => ∃ v, e = .returned v ∧ K (a.put o.dst v) w') : if b = true then Oper.wp P o a w K Q else E := by
  rw [if_pos hb]
  unfold Oper.wp
  rw [hv]
  simp only [Oper.upon]
  refine hc.mono ?_
  rintro e w' ⟨v, rfl, h⟩
  exact h

theorem op_val {P : Program} {o : Oper} {a : Act} {w w' : World} {K : Act → World → Prop} {Q : Exit → Act → World → Prop} {b : Bool} {E : Prop} (v : Value) (hb : b = true) (hv : (execOp a.eval o).run P w = .ok (.value v) w')
    (h : K (a.put o.dst v) w') : if b = true then Oper.wp P o a w K Q else E := by
  rw [if_pos hb]
  unfold Oper.wp
  rw [hv]
  simp only [Oper.upon]
  exact h

section
variable {P : Program} {ops : Array Oper} {Q : Exit → Act → World → Prop} {S : World → Prop} {fuel : Nat} {listed : Array Bool} {a : Act} {w : World}

/-- An operation that yields its value in every world at hand is taken first. -/
theorem h_take (i : Nat) (d : Tmp) (v : Value) {o : Oper} (ho : ops[i]? = some o) (hd : o.dst = some d) (hs : Region.noSelect ops = true) (hf : Region.free .any ops listed i = true) (hr : (Region.ready .any ops listed).contains i = true)
    (hQ : ∀ c a w, Q (.panic c) (a.put (some d) v) w → Q (.panic c) a w) (hb : Region.wanted o (yielded ops a.tmps) = true) (hv : ∀ w, S w → (execOp a.eval o).run P w = .ok (.value v) w) (hS : S w)
    (h : wpAnyH P .any ops Q S fuel (listed.setIfInBounds i true) (a.put (some d) v) w) : wpAnyH P .any ops Q S (fuel + 1) listed a w := by
  refine wpAnyH_take ho hs hf hr (v := v) (by rw [hd]; exact hQ) (.inl ⟨hb, hv⟩) hS ?_
  rw [hd]; exact h

/-- One operation alone may come next: a call. -/
theorem h_call (i : Nat) (d : Tmp) {o : Oper} (f : Nat) (args : Array Value) (ho : ops[i]? = some o) (hd : o.dst = some d) (hr : Region.ready .any ops listed = [i]) (hb : Region.wanted o (yielded ops a.tmps) = true) (hv : (execOp a.eval o).run P w = .ok (.enter f args) w)
    (hc : Calls P f args w fun e w' => ∃ v, e = .returned v ∧ S w' ∧ wpAnyH P .any ops Q S fuel (listed.setIfInBounds i true) (a.put (some d) v) w') : wpAnyH P .any ops Q S (fuel + 1) listed a w :=
  wpAnyH_ready hr (by simp) (AllReadyH.cons ho (fun K' hK => op_call f args hb hv (hc.mono (by
    rintro e w' ⟨v, rfl, hS, h⟩
    rw [hd]
    exact ⟨v, rfl, hK.out _ _ hS fun _ => h⟩))) AllReadyH.nil)

/-- One operation alone may come next: it yields a value, and perhaps a new world. -/
theorem h_val (i : Nat) (d : Tmp) {o : Oper} {w' : World} (v : Value) (ho : ops[i]? = some o) (hd : o.dst = some d) (hr : Region.ready .any ops listed = [i]) (hb : Region.wanted o (yielded ops a.tmps) = true) (hv : (execOp a.eval o).run P w = .ok (.value v) w') (hS : S w')
    (h : wpAnyH P .any ops Q S fuel (listed.setIfInBounds i true) (a.put (some d) v) w') : wpAnyH P .any ops Q S (fuel + 1) listed a w :=
  wpAnyH_ready hr (by simp) (AllReadyH.cons ho (fun _ hK => op_val v hb hv (by rw [hd]; exact hK.out _ _ hS fun _ => h)) AllReadyH.nil)

/-- Two may come next: a call, or another that makes memory. -/
theorem h_two (i j : Nat) (d d2 : Tmp) {o o2 : Oper} {w2 : World} (f : Nat) (args : Array Value) (v2 : Value) (ho : ops[i]? = some o) (ho2 : ops[j]? = some o2) (hd : o.dst = some d) (hd2 : o2.dst = some d2) (hr : Region.ready .any ops listed = [i, j]) (hb : Region.wanted o (yielded ops a.tmps) = true) (hb2 : Region.wanted o2 (yielded ops a.tmps) = true)
    (hv : (execOp a.eval o).run P w = .ok (.enter f args) w) (hv2 : (execOp a.eval o2).run P w = .ok (.value v2) w2) (hS2 : S w2)
    (hc : Calls P f args w fun e w' => ∃ v, e = .returned v ∧ S w' ∧ wpAnyH P .any ops Q S fuel (listed.setIfInBounds i true) (a.put (some d) v) w')
    (h2 : wpAnyH P .any ops Q S fuel (listed.setIfInBounds j true) (a.put (some d2) v2) w2) : wpAnyH P .any ops Q S (fuel + 1) listed a w :=
  wpAnyH_ready hr (by simp) (AllReadyH.cons ho (fun K' hK => op_call f args hb hv (hc.mono (by
    rintro e w' ⟨v, rfl, hS, h⟩
    rw [hd]
    exact ⟨v, rfl, hK.out _ _ hS fun _ => h⟩))) (AllReadyH.cons ho2 (fun _ hK => op_val v2 hb2 hv2 (by rw [hd2]; exact hK.out _ _ hS2 fun _ => h2)) AllReadyH.nil))

/-- Among others: a call. -/
theorem ar_call (i : Nat) (d : Tmp) {o : Oper} {rs : List Nat} (f : Nat) (args : Array Value) (ho : ops[i]? = some o) (hd : o.dst = some d) (hb : Region.wanted o (yielded ops a.tmps) = true) (hv : (execOp a.eval o).run P w = .ok (.enter f args) w)
    (hc : Calls P f args w fun e w' => ∃ v, e = .returned v ∧ S w' ∧ wpAnyH P .any ops Q S fuel (listed.setIfInBounds i true) (a.put (some d) v) w')
    (hs : AllReadyH P .any ops Q S fuel listed a w rs) : AllReadyH P .any ops Q S fuel listed a w (i :: rs) :=
  AllReadyH.cons ho (fun K' hK => op_call f args hb hv (hc.mono (by
    rintro e w' ⟨v, rfl, hS, h⟩
    rw [hd]
    exact ⟨v, rfl, hK.out _ _ hS fun _ => h⟩))) hs

/-- Among others: what yields a value, and perhaps a new world. -/
theorem ar_val (i : Nat) (d : Tmp) {o : Oper} {rs : List Nat} {w' : World} (v : Value) (ho : ops[i]? = some o) (hd : o.dst = some d) (hb : Region.wanted o (yielded ops a.tmps) = true) (hv : (execOp a.eval o).run P w = .ok (.value v) w') (hS : S w')
    (h : wpAnyH P .any ops Q S fuel (listed.setIfInBounds i true) (a.put (some d) v) w')
    (hs : AllReadyH P .any ops Q S fuel listed a w rs) : AllReadyH P .any ops Q S fuel listed a w (i :: rs) :=
  AllReadyH.cons ho (fun _ hK => op_val v hb hv (by rw [hd]; exact hK.out _ _ hS fun _ => h)) hs

theorem op_skip {P : Program} {o : Oper} {a : Act} {w w' : World} {K : Act → World → Prop} {Q : Exit → Act → World → Prop} {b : Bool} {E : Prop} (hb : b = true) (hv : (execOp a.eval o).run P w = .ok .skip w')
    (h : K (a.put o.dst undef) w') : if b = true then Oper.wp P o a w K Q else E := by
  rw [if_pos hb]
  unfold Oper.wp
  rw [hv]
  simp only [Oper.upon]
  exact h

/-- A store, alone. -/
theorem h_store (i : Nat) {o : Oper} {w' : World} (ho : ops[i]? = some o) (hd : o.dst = none) (hr : Region.ready .any ops listed = [i]) (hb : Region.wanted o (yielded ops a.tmps) = true) (hv : (execOp a.eval o).run P w = .ok .skip w') (hS : S w')
    (h : wpAnyH P .any ops Q S fuel (listed.setIfInBounds i true) a w') : wpAnyH P .any ops Q S (fuel + 1) listed a w :=
  wpAnyH_ready hr (by simp) (AllReadyH.cons ho (fun _ hK => op_skip hb hv (by rw [hd]; exact hK.out _ _ hS fun _ => h)) AllReadyH.nil)

end

end Go.Proofs.YtldcjkhbiffdoaaGreatDoor

/-
  Long division of limbs: plain facts.
-/
namespace Go.Proofs.YtldcjkhbiffdoaaGreatDoor

/-- Limbs and the highest two. -/
theorem ev_cut {B : Int} (a : List Int) (n : Nat) : ev B a = ev B (a.take n) + ev B (a.drop n) * B ^ n := by
  induction n generalizing a with
  | zero => simp [ev]
  | succ n ih =>
    cases a with
    | nil => simp [ev]
    | cons x a =>
      simp only [List.take_succ_cons, List.drop_succ_cons, ev]
      rw [ih a, Int.pow_succ, Int.mul_add]
      have : B * (ev B (a.drop n) * B ^ n) = ev B (a.drop n) * (B ^ n * B) := by
        rw [Int.mul_comm B, Int.mul_assoc]
      omega

theorem ev_two {B : Int} {a : List Int} {n : Nat} (h : a.length ≤ n + 2) : ev B (a.drop n) = a.getD n 0 + B * a.getD (n + 1) 0 := by
  have h1 : a.getD n 0 = (a.drop n).getD 0 0 := by simp [List.getD, List.getElem?_drop]
  have h2 : a.getD (n + 1) 0 = (a.drop n).getD 1 0 := by simp [List.getD, List.getElem?_drop]
  have h3 : (a.drop n).length ≤ 2 := by rw [List.length_drop]; omega
  rw [h1, h2]
  match a.drop n, h3 with
  | [], _ => simp [ev]
  | [x], _ => simp [ev]
  | [x, y], _ => simp [ev]
  | x :: y :: z :: t, h => simp at h

/-- The guess is never too small. -/
theorem guess_ge {B q : Int} {a b : List Int} (hB : 0 < B) (da : Dig B a) (db : Dig B b) {n : Nat} (hb : b.length = n + 1) (ha : a.length ≤ n + 2) (hd : 0 < b.getD n 0) (hq : 0 ≤ q) (hle : q * ev B b ≤ ev B a) :
    q ≤ (a.getD (n + 1) 0 * B + a.getD n 0) / b.getD n 0 := by
  have hp : 0 < B ^ n := pow_pos hB n
  have h1 := ev_cut (B := B) a n
  rw [ev_two ha] at h1
  have h2 := ev_cut (B := B) b n
  rw [ev_two (show b.length ≤ n + 2 by omega), show b.getD (n + 1) 0 = 0 by simp [List.getD, List.getElem?_eq_none (show b.length ≤ n + 1 by omega)], Int.mul_zero, Int.add_zero] at h2
  have h3 := ev_lt (by omega) (da.take n)
  have h4 := ev_nonneg (by omega) (db.take n)
  have h5 : B ^ (a.take n).length ≤ B ^ n := by
    obtain ⟨k, hk⟩ : ∃ k, n = (a.take n).length + k := ⟨n - (a.take n).length, by rw [List.length_take]; omega⟩
    rw [hk, Int.pow_add, ← hk]
    have h6 : 0 < B ^ k := pow_pos hB k
    have h7 : 0 < B ^ (a.take n).length := pow_pos hB _
    have := Int.mul_le_mul_of_nonneg_left (show 1 ≤ B ^ k by omega) (Int.le_of_lt h7)
    omega
  generalize hA : a.getD n 0 + B * a.getD (n + 1) 0 = X at h1
  have hX : a.getD (n + 1) 0 * B + a.getD n 0 = X := by rw [← hA, Int.mul_comm]; omega
  rw [hX]
  generalize b.getD n 0 = d at *
  rw [Int.le_ediv_iff_mul_le hd]
  rcases Int.lt_or_le X (q * d) with h8 | h8
  · exfalso
    have e1 : (X + 1) * B ^ n ≤ q * d * B ^ n := Int.mul_le_mul_of_nonneg_right (by omega) (Int.le_of_lt hp)
    have e2 : q * ev B b = q * ev B (b.take n) + q * d * B ^ n := by rw [h2, Int.mul_add, Int.mul_assoc]
    have e3 : 0 ≤ q * ev B (b.take n) := Int.mul_nonneg hq h4
    rw [Int.add_mul, Int.one_mul] at e1
    omega
  · exact h8

/-- A limb of 'a less a limb times b'. -/
theorem less_step {B q bo x y t bo' : Int} {a b s : List Int} {k : Nat} (hs : s.length = k) (h : ev B s - bo * B ^ k = ev B (a.take k) - q * ev B (b.take k)) (hx : a.getD k 0 = x) (hy : b.getD k 0 = y) (ht : t - bo' * B = x - q * y - bo) :
    ev B (s ++ [t]) - bo' * B ^ (k + 1) = ev B (a.take (k + 1)) - q * ev B (b.take (k + 1)) := by
  rw [ev_take, ev_take, hx, hy, Int.mul_add, ← Int.mul_assoc]
  exact sub_round s k hs bo x (q * y) _ _ t bo' h ht

/-- Of all limbs. -/
theorem less_all {B q bo : Int} {a b s : List Int} (ha : a.length ≤ b.length + 1) (h : ev B s - bo * B ^ b.length = ev B (a.take b.length) - q * ev B (b.take b.length)) :
    ev B a - q * ev B b = ev B s + (a.getD b.length 0 - bo) * B ^ b.length := by
  rw [List.take_length] at h
  have h1 := ev_take B a b.length
  rw [List.take_of_length_le ha] at h1
  rw [Int.sub_mul, h1]
  omega

/-- Enough: exactly where the limb is not too great. -/
theorem less_enough {B q bo : Int} (hB : 0 < B) {a b s : List Int} (hs : s.length = b.length) (ds : Dig B s) (h : ev B a - q * ev B b = ev B s + (a.getD b.length 0 - bo) * B ^ b.length) :
    (bo ≤ a.getD b.length 0 ↔ q * ev B b ≤ ev B a) ∧ (q * ev B b ≤ ev B a → ev B a < q * ev B b + ev B b → Dig B b → ev B s = ev B a - q * ev B b) := by
  have h1 := ev_nonneg hB ds
  have h2 := ev_lt hB ds
  rw [hs] at h2
  have hp : 0 < B ^ b.length := pow_pos hB _
  have key : (bo ≤ a.getD b.length 0 ↔ q * ev B b ≤ ev B a) := by
    constructor
    · intro h3
      have := Int.mul_nonneg (show 0 ≤ a.getD b.length 0 - bo by omega) (Int.le_of_lt hp)
      omega
    · intro h3
      rcases Int.lt_or_le (a.getD b.length 0) bo with h4 | h4
      · have := Int.mul_le_mul_of_nonneg_right (show a.getD b.length 0 - bo ≤ -1 by omega) (Int.le_of_lt hp)
        omega
      · exact h4
  refine ⟨key, fun h3 h4 db => ?_⟩
  have h5 := key.2 h3
  have h6 := ev_lt hB db
  have h7 : a.getD b.length 0 - bo = 0 := by
    rcases Int.lt_or_le 0 (a.getD b.length 0 - bo) with h8 | h8
    · have := Int.mul_le_mul_of_nonneg_right (show 1 ≤ a.getD b.length 0 - bo by omega) (Int.le_of_lt hp)
      omega
    · omega
  rw [h7, Int.zero_mul] at h
  omega

end Go.Proofs.YtldcjkhbiffdoaaGreatDoor
