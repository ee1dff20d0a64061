import Derived.Test.YtldcjkhbiffdoabGreatDoorM08
import Derived.Test.YtldcjkhbiffdoabGreatDoorM05

namespace Go.Proofs.YtldcjkhbiffdoabGreatDoor
open Go.RowKit

theorem OwnN.lower {B C : Nat} {w : World} {v : Value} {l : List Int} (h : OwnN B w v l) (hC : C ≤ B) : OwnN C w v l := by
  refine ⟨h.1, ?_⟩
  rcases h.2 with h1 | ⟨g, cap, cur, hv, hb, r⟩
  · exact .inl h1
  · exact .inr ⟨g, cap, cur, hv, Nat.le_trans hC hb, r⟩

set_option maxHeartbeats 1000000 in
theorem lessM_any (p : Nat) (a b : List Int) (c : Nat) (u v : Value) (w : World) (hu : RowN w u a) (hv : RowN w v b) (hl : a.length ≤ 1000) (hm : b.length ≤ 1000) (hp : 0 < p) (hp1 : p < 1000) (hc : c ≤ p) (ra : Red p a) (rb : Red p b) :
    Calls Tryz.prog 118 #[u, v, .int .i64 c, .int .i64 p] w fun e w' => ∃ x, e = .returned x ∧ OwnN w.heap.size w' x (ltm p a b c) ∧ Below w.heap.size w w' := by
  obtain ⟨ua, uc, rfl⟩ := hu.val
  obtain ⟨va, vc, rfl⟩ := hv.val
  obtain ⟨f, HF⟩ : ∃ f : Nat → Int, Hid (f = fun k => (a.getD k 0 + ((p : Int) - c) * b.getD k 0) % p) := ⟨_, rfl⟩
  have HT : Hid (ltm p a b c = tz (tab (max a.length b.length) f)) := by rw [HF.out]; rfl
  rw [HT.out]
  have hM := fun (n : Int) (W : World) (h0 : 0 ≤ n) (h1 : n < 10000000) => modulo_any n p W h0 (by omega) (by omega) (by omega)
  have HM : Hid _ := hM
  clear hM HT
  go_enter Tryz.func118, Tryz.ntmps118
  go_wp2_with fail
  go_loopw [9, 10] (fun o i wr => ∃ (k : Nat), k ≤ max a.length b.length ∧ i = .int .i64 k ∧ OwnN w.heap.size wr o (tab k f) ∧ Below w.heap.size w wr) (fun _ i _ => max a.length b.length - (intOf i).toNat)
  case atStart => exact ⟨0, Nat.zero_le _, rfl, OwnN.lit rfl, (Below.refl _ _).alloc (Nat.le_refl _) _⟩
  case round =>
    obtain ⟨k, hk, rfl, hown, hbel⟩ := hrel
    have hlen := tab_len k f
    by_cases hlt : k < max a.length b.length
    · have hc1 := atN_any a (.slice ua a.length uc) k wr (hu.below hbel) (by omega) (by omega)
      have hc2 := atN_any b (.slice va b.length vc) k wr (hv.below hbel) (by omega) (by omega)
      have hsu := tab_succ k f
      have hfk : f k = (a.getD k 0 + ((p : Int) - c) * b.getD k 0) % p := by rw [HF.out]
      rw [hfk] at hsu
      obtain ⟨hx0, hx1⟩ := ra k
      obtain ⟨hy0, hy1⟩ := rb k
      generalize a.getD k 0 = x at *
      generalize b.getD k 0 = y at *
      have HSU : Hid _ := hsu
      clear hsu hfk
      obtain ⟨L, HL⟩ : ∃ L, Hid (tab k f = L) := ⟨_, rfl⟩
      rw [HL.out] at hown hlen
      have hm0 : 0 ≤ ((p : Int) - c) * y := Int.mul_nonneg (by omega) hy0
      have hm1 : ((p : Int) - c) * y ≤ 1000 * 1000 := Int.mul_le_mul (by omega) (by omega) hy0 (by omega)
      have hq0 : 0 ≤ (x + ((p : Int) - c) * y) % p := Int.emod_nonneg _ (by omega)
      have hq1 : (x + ((p : Int) - c) * y) % p < p := Int.emod_lt_of_pos _ (by omega)
      have hcase : k < a.length ∨ (¬ k < a.length ∧ k < b.length) := by omega
      rcases hcase with h5 | ⟨h5, h6⟩
      all_goals
        go_wp2_with fail
        refine hc1.mono ?_
        rintro e w1 ⟨rfl, rfl⟩
        go_wp2_with fail
        refine hc2.mono ?_
        rintro e w1 ⟨rfl, rfl⟩
        go_wp2_with fail
        refine (HM.out _ _ (by omega) (by omega)).mono ?_
        rintro e w1 ⟨rfl, rfl⟩
        go_wp2_with (at_builtin; refine wpList_pushN rfl (.tmp 32) (.tmp 42) rfl w.heap.size _ L _ rfl hown rfl (by omega) hbel.size ?_)
        intro v4 w4 hown4 hb4 _
        rw [← HL.out, ← HSU.out] at hown4
        go_wp2
        go_roundw
        case rel => exact ⟨k + 1, by omega, by go_num, hown4, hbel.trans hb4⟩
        case measure => simp [intOf]; omega
    · obtain rfl : k = max a.length b.length := by omega
      have hT := trimN_any _ _ wr hown.row (by omega)
      have h5 : ¬ max a.length b.length < a.length := by omega
      have h6 : ¬ max a.length b.length < b.length := by omega
      go_wp2_with fail
      refine hT.mono ?_
      rintro e w1 ⟨x1, rfl, hI1, hb1⟩
      obtain ⟨a1, c1, rfl⟩ := hI1.row.val
      go_wp2
      go_ret
      exact ⟨_, rfl, hI1.lower hbel.size, hbel.trans (hb1.mono hbel.size)⟩

set_option maxHeartbeats 2000000 in
theorem mulM_any (p : Nat) (a b : List Int) (u v : Value) (w : World) (hu : RowN w u a) (hv : RowN w v b) (hl : a.length ≤ 1000) (hm : b.length ≤ 1000) (hp : 0 < p) (hp1 : p < 1000) (ra : Red p a) (rb : Red p b) :
    Calls Tryz.prog 98 #[u, v, .int .i64 p] w fun e w' => ∃ l x, e = .returned x ∧ OwnN w.heap.size w' x l ∧ Nrm p l ∧ Zm p (fun t => ev t l - ev t a * ev t b) ∧ l.length ≤ a.length + b.length ∧ Below w.heap.size w w' := by
  obtain ⟨ua, uc, rfl⟩ := hu.val
  obtain ⟨va, vc, rfl⟩ := hv.val
  obtain ⟨n, HN⟩ : ∃ n, Hid (n = a.length + b.length) := ⟨_, rfl⟩
  have hna : n ≤ a.length + b.length := by have := HN.out; omega
  have hnb : a.length + b.length ≤ n := by have := HN.out; omega
  have hM := fun (n : Int) (W : World) (h0 : 0 ≤ n) (h1 : n < 10000000) => modulo_any n p W h0 (by omega) (by omega) (by omega)
  have HM : Hid _ := hM
  clear hM
  go_enter Tryz.func98, Tryz.ntmps98
  go_wp2_with (at_make; refine wpList_makeZ rfl (.tmp 14) (.tmp 14) rfl _ _ n rfl rfl (by omega) (by omega) (by omega) ?_)
  intro w1 P0 HP0 hown1 hb1
  go_wp2_with fail
  go_loopw [8] (fun i wq => ∃ (k : Nat) (P : List Int), k ≤ a.length ∧ i = .int .i64 k ∧ P.length = n ∧ wq.ownsRow w.heap.size 3 1 (.slice (some ⟨w.heap.size, 0, none⟩) n n) n (P.map (Value.int .i64)) ∧ Hid (PrO p a b P k 0) ∧ Below w.heap.size w wq) (fun i _ => a.length - (intOf i).toNat)
  case atStart => exact ⟨0, P0, Nat.zero_le _, rfl, by rw [HP0.out]; simp, hown1, by rw [HP0.out]; exact PrO.start hp a b n, hb1⟩
  case round =>
    clear hown1 hb1 HP0
    obtain ⟨i, P, hi, rfl, hPl, hown, HO, hbel⟩ := hrel
    by_cases hlt2 : i < a.length
    · obtain ⟨ga, rfl, hu1, hu2, hu3, hcu⟩ := hu.at i hlt2
      obtain ⟨x, HX⟩ : ∃ x, Hid (a.getD i 0 = x) := ⟨_, rfl⟩
      have hx := ra i
      rw [HX.out] at hcu hx
      obtain ⟨hx0, hx1⟩ := hx
      have hBg := Nat.le_refl w.heap.size
      go_wp2_with fail
      go_loopw [9] (fun j wp => ∃ (q : Nat) (P : List Int), q ≤ b.length ∧ j = .int .i64 q ∧ P.length = n ∧ wp.ownsRow w.heap.size 3 1 (.slice (some ⟨w.heap.size, 0, none⟩) n n) n (P.map (Value.int .i64)) ∧ Hid (PrO p a b P i q) ∧ Below w.heap.size w wp) (fun j _ => b.length - (intOf j).toNat)
      case atStart => exact ⟨0, P, Nat.zero_le _, rfl, hPl, hown, HO, hbel⟩
      case round =>
        clear hown hbel HO hPl P
        obtain ⟨j, P, hj, rfl, hPl, hown, HO, hbel⟩ := hrel
        have hcu' : wr.cell? ⟨ga, i, none⟩ = some (.int .i64 x) := (hbel.cell (by exact hu3)).trans hcu
        by_cases hlt3 : j < b.length
        · obtain ⟨gb, rfl, hv1, hv2, hv3, hcv⟩ := hv.at j hlt3
          obtain ⟨y, HY⟩ : ∃ y, Hid (b.getD j 0 = y) := ⟨_, rfl⟩
          have hy := rb j
          rw [HY.out] at hcv hy
          obtain ⟨hy0, hy1⟩ := hy
          have hcv' : wr.cell? ⟨gb, j, none⟩ = some (.int .i64 y) := (hbel.cell (by exact hv3)).trans hcv
          obtain ⟨z, HZ⟩ : ∃ z, Hid (P.getD (i + j) 0 = z) := ⟨_, rfl⟩
          have hz := HO.out.1 (i + j)
          rw [HZ.out] at hz
          obtain ⟨hz0, hz1⟩ := hz
          have hcp : wr.cell? ⟨w.heap.size, i + j, none⟩ = some (.int .i64 z) := by
            rw [hown.cellAt (i + j) (by omega), ← HZ.out]
            simp [List.getD, show i + j < P.length by omega]
          have hfp := hown.frozenAt (i + j)
          have HST : Hid _ := HO.out.step hp (by omega) HZ.out HX.out HY.out
          have hxy : 0 ≤ x * y := Int.mul_nonneg hx0 hy0
          have hxy1 : x * y ≤ 1000 * 1000 := Int.mul_le_mul (by omega) (by omega) hy0 (by omega)
          have hq0 : 0 ≤ (z + x * y) % p := Int.emod_nonneg _ (by omega)
          have hq1 : (z + x * y) % p < p := Int.emod_lt_of_pos _ (by omega)
          have hij : i + j < n := by omega
          have hij1 : (i : Int) + j < n := by omega
          have hij0 : 0 ≤ (i : Int) + j := by omega
          have hwr : ∀ q : Int, 0 ≤ q → q < 10000000 → IntKind.i64.wrap q = q := fun q h0 h1 => by rw [IntKind.wrap_i64]; omega
          have hw1 := hwr ((i : Int) + j) (by omega) (by omega)
          have hw2 := hwr (x * y) (by omega) (by omega)
          have hw3 := hwr (z + x * y) (by omega) (by omega)
          clear hwr
          have htn : ((i : Int) + j).toNat = i + j := by omega
          have hq2 : 0 ≤ z + x * y := by omega
          have hq3 : z + x * y < 10000000 := by omega
          clear HO HZ HY hcv hcu
          go_wp2_with fail
          go_region_with (go_at_call 121; refine (HM.out _ _ (by exact hq2) (by exact hq3)).mono ?_; rintro e w2 ⟨rfl, rfl⟩)
          all_goals
            go_wp2
            go_roundw
            case rel =>
              refine ⟨j + 1, P.set (i + j) ((z + x * y) % p), by omega, by go_num, by simpa using hPl, ?_, HST, (hbel.setCell hBg _).drew⟩
              rw [← map_set]
              exact (World.ownsRow.stored hown _ _).1.drew
            case measure => simp [intOf]; omega
        · obtain rfl : j = b.length := by omega
          have HST : Hid _ := HO.out.out
          clear HO hcu
          go_wp2
          go_roundw
          case rel => exact ⟨i + 1, P, by omega, by go_num, hPl, hown, HST, hbel⟩
          case measure => simp [intOf]; omega
    · obtain rfl : i = a.length := by omega
      have HE : Hid _ := HO.out.ends
      clear HO
      have hT := trimN_any _ _ wr (made_ownN hown hPl).row (by omega)
      have hlen : (tz P).length ≤ a.length + b.length := by rw [tz_length]; have := tzn_le P P.length; omega
      generalize tz P = T at *
      go_wp2_with fail
      refine hT.mono ?_
      rintro e w1 ⟨x1, rfl, hI1, hb1⟩
      obtain ⟨a1, c1, rfl⟩ := hI1.row.val
      go_wp2
      go_ret
      exact ⟨T, _, rfl, hI1.lower hbel.size, HE.out.1, HE.out.2, hlen, hbel.trans (hb1.mono hbel.size)⟩

end Go.Proofs.YtldcjkhbiffdoabGreatDoor
