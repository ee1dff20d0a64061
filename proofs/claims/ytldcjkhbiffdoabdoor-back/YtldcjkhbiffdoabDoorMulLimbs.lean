/-
  whole.mulLimbs.
-/
import Derived.Test.YtldcjkhbiffdoabDoorInts
namespace Go.Proofs.YtldcjkhbiffdoabDoor
open Go.RowKit

theorem dig_sq {t : Int} (h : 0 ≤ t ∧ t < 1000000000 * 1000000000) : (0 ≤ t % 1000000000 ∧ t % 1000000000 < 1000000000) ∧ 0 ≤ t / 1000000000 ∧ t / 1000000000 < 1000000000 := by omega

/-- What holds of the limbs of the product within the inner loop. -/
def MIn (l m P : List Int) (i j : Nat) (c : Int) : Prop :=
  Dig 1000000000 P ∧ ev 1000000000 P + c * 1000000000 ^ (i + j) = ev 1000000000 (l.take i) * ev 1000000000 m + l.getD i 0 * ev 1000000000 (m.take j) * 1000000000 ^ i ∧ ∀ k, i + m.length ≤ k → P.getD k 0 = 0

def MOut (l m P : List Int) (i : Nat) : Prop := Dig 1000000000 P ∧ ev 1000000000 P = ev 1000000000 (l.take i) * ev 1000000000 m ∧ ∀ k, i + m.length ≤ k → P.getD k 0 = 0

theorem getD_set_ne {P : List Int} {i k : Nat} (y : Int) (h : i ≠ k) : (P.set i y).getD k 0 = P.getD k 0 := by
  simp [List.getD, List.getElem?_set_ne h]

theorem MIn.step {l m P : List Int} {i j : Nat} {c p x y : Int} (h : MIn l m P i j c) (hk : i + j < P.length) (hj : j < m.length) (hp : P.getD (i + j) 0 = p) (hx : l.getD i 0 = x) (hy : m.getD j 0 = y)
    (hb : 0 ≤ p + x * y + c ∧ p + x * y + c < 1000000000 * 1000000000) : MIn l m (P.set (i + j) ((p + x * y + c) % 1000000000)) i (j + 1) ((p + x * y + c) / 1000000000) := by
  obtain ⟨h1, h2, h3⟩ := h
  have hd := dig_sq hb
  refine ⟨h1.set _ hd.1.1 hd.1.2, ?_, fun k hk' => ?_⟩
  · rw [ev_take, hy, hx]
    rw [hx] at h2
    exact mul_round P i j hk x y c (p + x * y + c) _ _ h2 (by rw [hp])
  · rw [getD_set_ne _ (by omega)]; exact h3 k hk'

theorem MOut.into {l m P : List Int} {i : Nat} (h : MOut l m P i) : MIn l m P i 0 0 := by
  refine ⟨h.1, ?_, h.2.2⟩
  rw [h.2.1]; simp [ev]

theorem MIn.out {l m P : List Int} {i : Nat} {c : Int} (h : MIn l m P i m.length c) (hc : 0 ≤ c ∧ c < 1000000000) (hk : i + m.length < P.length) : MOut l m (P.set (i + m.length) c) (i + 1) := by
  obtain ⟨h1, h2, h3⟩ := h
  refine ⟨h1.set _ hc.1 hc.2, ?_, fun k hk' => ?_⟩
  · rw [ev_set _ _ _ _ hk, h3 _ (Nat.le_refl _), ev_take]
    rw [List.take_length] at h2
    simp only [Int.sub_zero]
    rw [h2, Int.add_mul]
    congr 1
    rw [Int.mul_assoc, Int.mul_comm (ev 1000000000 m), ← Int.mul_assoc]
  · rw [getD_set_ne _ (by omega)]; exact h3 k (by omega)

theorem getD_zeros (n k : Nat) : (List.replicate n (0 : Int)).getD k 0 = 0 := by
  simp only [List.getD, List.getElem?_replicate]; split <;> rfl

theorem own_addr {w : World} {B n sc : Nat} {sa : Option Addr} {xs : List Value} (h : w.ownsRow B 2 1 (.slice sa n sc) n xs) (hn : 0 < n) : ∃ g, sa = some ⟨g, 0, none⟩ ∧ n ≤ sc ∧ sc ≤ maxLen ∧ B ≤ g := by
  rcases h.2 with ⟨_, h1⟩ | ⟨g, cap, cur, hv, hb, hg, hnc, hcm, _⟩
  · omega
  · simp only [Value.slice.injEq, true_and] at hv
    obtain ⟨rfl, rfl⟩ := hv
    exact ⟨g, rfl, hnc, hcm, hb⟩

set_option maxHeartbeats 2000000 in
theorem mulLimbs_any (l m : List Int) (u v : Value) (w : World) (hu : Row w u l) (hv : Row w v m) (hl : l.length ≤ 10000000) (hm : m.length ≤ 10000000) (dl : Dig 1000000000 l) (dm : Dig 1000000000 m) :
    Calls Tryd.prog 38 #[u, v] w fun e w' => ∃ s x, e = .returned x ∧ Row w' x s ∧ Dig 1000000000 s ∧ ev 1000000000 s = ev 1000000000 l * ev 1000000000 m ∧ s.length ≤ l.length + m.length ∧ Below w.heap.size w w' := by
  obtain ⟨ua, uc, rfl⟩ := hu.val
  obtain ⟨va, vc, rfl⟩ := hv.val
  obtain ⟨n, HN⟩ : ∃ n, Hid (n = l.length + m.length) := ⟨_, rfl⟩
  have hna : n ≤ l.length + m.length := by have := HN.out; omega
  have hnb : l.length + m.length ≤ n := by have := HN.out; omega
  go_enter Tryd.func38, Tryd.ntmps38
  go_wp2_with (at_make; refine wpList_make64 rfl (.tmp 14) (.tmp 14) rfl _ _ n rfl rfl (by omega) (by omega) (by omega) ?_)
  intro w1 P0 HP0 hown1 hb1
  go_wp2_with fail
  go_loopw [6] (fun i wq => ∃ (k : Nat) (P : List Int), k ≤ l.length ∧ i = .int .i64 k ∧ P.length = n ∧ wq.ownsRow w.heap.size 2 1 (.slice (some ⟨w.heap.size, 0, none⟩) n n) n (P.map (Value.int .i64)) ∧ Hid (MOut l m P k) ∧ Below w.heap.size w wq) (fun i _ => l.length - (intOf i).toNat)
  case atStart => exact ⟨0, P0, Nat.zero_le _, rfl, by rw [HP0.out]; simp, hown1, by rw [HP0.out]; exact ⟨Dig.zeros (by omega) _, by simp [ev, ev_zeros], fun k _ => getD_zeros n k⟩, hb1⟩
  case round =>
    clear hown1 hb1 HP0
    obtain ⟨i, P, hi, rfl, hPl, hown, HM, hbel⟩ := hrel
    by_cases hlt2 : i < l.length
    · have hn : n = l.length + m.length := HN.out
      have hn1 : l.length + m.length ≤ n := by omega
      have hn2 : n ≤ l.length + m.length := by omega
      clear hn
      have hBg := Nat.le_refl w.heap.size
      obtain ⟨ga, rfl, hu1, hu2, hu3, hcu⟩ := hu.at i hlt2
      obtain ⟨x, HX⟩ : ∃ x, Hid (l.getD i 0 = x) := ⟨_, rfl⟩
      have hx := Dig.getD (by omega) dl i
      rw [HX.out] at hcu hx
      obtain ⟨hx0, hx1⟩ := hx
      go_wp2_with fail
      go_loopw [7, 8] (fun c j wp => ∃ (q : Nat) (cy : Int) (P : List Int), q ≤ m.length ∧ j = .int .i64 q ∧ c = .int .i64 cy ∧ 0 ≤ cy ∧ cy < 1000000000 ∧ P.length = n ∧ wp.ownsRow w.heap.size 2 1 (.slice (some ⟨w.heap.size, 0, none⟩) n n) n (P.map (Value.int .i64)) ∧ Hid (MIn l m P i q cy) ∧ Below w.heap.size w wp) (fun _ j _ => m.length - (intOf j).toNat)
      case atStart => exact ⟨0, 0, P, Nat.zero_le _, rfl, rfl, by omega, by omega, hPl, hown, MOut.into HM.out, hbel⟩
      case round =>
        clear hown hbel HM hPl P
        obtain ⟨j, cy, P, hj, rfl, rfl, hc0, hcB, hPl, hown, HM, hbel⟩ := hrel
        have hcu' : wr.cell? ⟨ga, i, none⟩ = some (.int .i64 x) := (hbel.cell (by exact hu3)).trans hcu
        by_cases hlt3 : j < m.length
        · obtain ⟨gb, rfl, hv1, hv2, hv3, hcv⟩ := hv.at j hlt3
          obtain ⟨y, HY⟩ : ∃ y, Hid (m.getD j 0 = y) := ⟨_, rfl⟩
          have hy := Dig.getD (by omega) dm j
          rw [HY.out] at hcv hy
          obtain ⟨hy0, hy1⟩ := hy
          have hcv' : wr.cell? ⟨gb, j, none⟩ = some (.int .i64 y) := (hbel.cell (by exact hv3)).trans hcv
          obtain ⟨p, HP⟩ : ∃ p, Hid (P.getD (i + j) 0 = p) := ⟨_, rfl⟩
          have hp := Dig.getD (by omega) HM.out.1 (i + j)
          rw [HP.out] at hp
          have hcp : wr.cell? ⟨w.heap.size, i + j, none⟩ = some (.int .i64 p) := by
            rw [hown.cellAt (i + j) (by omega), ← HP.out]
            simp [List.getD, show i + j < P.length by omega]
          have hfp := hown.frozenAt (i + j)
          have hb := mul_bound (B := 1000000000) (by omega) p x y cy hp ⟨hx0, hx1⟩ ⟨hy0, hy1⟩ ⟨hc0, hcB⟩
          have hst := MIn.step HM.out (by omega) hlt3 HP.out HX.out HY.out hb
          have HST : Hid _ := hst
          have hd := dig_sq hb
          have hxy : 0 ≤ x * y := Int.mul_nonneg hx0 hy0
          obtain ⟨hp0, hp1⟩ := hp
          obtain ⟨hb1, hb2⟩ := hb
          clear hst HM HP HY hcv hcu hd
          go_wp2_with fail
          go_quiet (fail)
          go_wp2
          go_roundw
          case rel =>
            refine ⟨j + 1, _, P.set (i + j) ((p + x * y + cy) % 1000000000), by omega, by go_num, rfl, by omega, by omega, by simpa using hPl, ?_, HST, (below_drewN hbel nq).setCell hBg _⟩
            rw [← map_set]
            exact (World.ownsRow.stored (w := wr.drewN nq) hown _ _).1
          case measure => simp [intOf]; omega
        · obtain rfl : j = m.length := by omega
          obtain ⟨p, HP⟩ : ∃ p, Hid (P.getD (i + m.length) 0 = p) := ⟨_, rfl⟩
          have hcp : wr.cell? ⟨w.heap.size, i + m.length, none⟩ = some (.int .i64 p) := by
            rw [hown.cellAt (i + m.length) (by omega), ← HP.out]
            simp [List.getD, show i + m.length < P.length by omega]
          have hfp := hown.frozenAt (i + m.length)
          have hst := MIn.out HM.out ⟨hc0, hcB⟩ (by omega)
          have HST : Hid _ := hst
          clear hst HM HP hcu
          go_wp2
          go_roundw
          case rel =>
            refine ⟨i + 1, P.set (i + m.length) cy, by omega, by go_num, by simpa using hPl, ?_, HST, hbel.setCell hBg _⟩
            rw [← map_set]
            exact (World.ownsRow.stored hown _ _).1
          case measure => simp [intOf]; omega
    · obtain rfl : i = l.length := by omega
      have hM := HM.out
      unfold MOut at hM
      rw [List.take_length] at hM
      have HM2 : Hid _ := hM
      have hn : n = l.length + m.length := HN.out
      have hPn : P.length ≤ l.length + m.length := by omega
      clear hM HM hn
      go_wp2
      go_ret
      refine ⟨P, _, rfl, Own.row (B := w.heap.size) (by unfold Own; rw [hPl]; exact hown), HM2.out.1, HM2.out.2.1, hPn, hbel⟩

end Go.Proofs.YtldcjkhbiffdoabDoor
