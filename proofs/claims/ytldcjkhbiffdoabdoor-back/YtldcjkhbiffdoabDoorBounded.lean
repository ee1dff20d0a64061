/-
  poly.bounded.
-/
import Derived.Test.YtldcjkhbiffdoabDoorPTrim
namespace Go.Proofs.YtldcjkhbiffdoabDoor
open Go.RowKit

def okD (z : Int) : Bool := decide (Lib.nDigits z.natAbs ≤ 12)
def inB (l : List Int) : Bool := decide (l.length ≤ 11) && l.all okD

/-- A polynomial: its coefficients, the lowest first. -/
def IsP (w : World) (p : Value) (zs : List Int) : Prop := ∃ k v, p = .pointer (some ⟨k, 0, none⟩) ∧ w.heap[k]? = some (.cells #[v] 38 (0, 0)) ∧ IsL w v zs

theorem IsP.below {w w' : World} {p : Value} {zs : List Int} (h : IsP w p zs) (hb : Below w.heap.size w w') : IsP w' p zs := by
  obtain ⟨k, v, h1, h2, h3⟩ := h
  exact ⟨k, v, h1, by rw [hb.block k (lt_of_block h2)]; exact h2, OwnL.below h3 hb⟩

/-- What 'bounded' answers. -/
def Bounded (w' : World) (t : List Int) (e : Ending) : Prop :=
  (inB t = true ∧ ∃ p, e = .returned (.tuple #[p, .int .i64 0]) ∧ IsP w' p t) ∨ (inB t = false ∧ e = .returned (.tuple #[.pointer none, .int .i64 3]))

set_option maxHeartbeats 1000000 in
theorem bounded_any (zs : List Int) (v : Value) (w : World) (hv : IsL w v zs) (hl : zs.length ≤ 1000000) (hf : ∀ i, i < zs.length → Fit (zs.getD i 0)) (ht : Tab w) :
    Calls Tryd.prog 17 #[v] w fun e w' => Bounded w' (tz zs) e ∧ Below w.heap.size w w' := by
  obtain ⟨va, vc, rfl⟩ := OwnL.val hv
  have hT := ptrimmed_any zs _ w hv hl hf
  have hft : ∀ i, i < (tz zs).length → Fit ((tz zs).getD i 0) := by
    intro i hi
    rw [tz_getD]
    have := tzn_le zs zs.length
    rw [tz_length] at hi
    exact hf i (by omega)
  have htl : (tz zs).length ≤ 1000000 := by
    have := tzn_le zs zs.length
    rw [tz_length]; omega
  generalize tz zs = t at *
  clear hv hf hl
  go_enter Tryd.func17, Tryd.ntmps17
  go_wp2_with fail
  refine hT.mono ?_
  rintro e w1 ⟨x, rfl, hown, hb1⟩
  clear hT
  obtain ⟨ta, tc, rfl⟩ := hown.val
  by_cases h11 : 11 < t.length
  · go_wp2
    go_ret2
    refine ⟨.inr ⟨?_, rfl⟩, hb1⟩
    unfold inB
    rw [decide_eq_false (by omega)]; rfl
  · go_wp2_with fail
    go_loopw [5] (fun i wr => ∃ (k : Nat), k ≤ t.length ∧ i = .int .i64 k ∧ Hid ((t.take k).all okD = true) ∧ Below w1.heap.size w1 wr) (fun i _ => t.length - (intOf i).toNat)
    case atStart => exact ⟨0, Nat.zero_le _, rfl, rfl, Below.refl _ _⟩
    case round =>
      obtain ⟨k, hk, rfl, HA, hbel⟩ := hrel
      have hbq : Below w.heap.size w wr := hb1.trans (hbel.mono hb1.size)
      by_cases hlt : k < t.length
      · obtain ⟨g, b, ya, yn, yc, rfl, hc1, hc2, hg, _, hc0, hcx, hIk⟩ := OwnL.at (OwnL.below hown hbel) k hlt
        have hf2 := hft k hlt
        obtain ⟨z2, HZ2⟩ : ∃ z2, Hid (t.getD k 0 = z2) := ⟨_, rfl⟩
        rw [HZ2.out] at hIk hf2
        have hD := intDigits_any _ z2 wr hIk hf2 (ht.below hbq)
        have htk : t.take (k + 1) = t.take k ++ [z2] := by
          rw [List.take_succ_eq_append_getElem hlt, ← getD_lt hlt, HZ2.out]
        by_cases hd12 : Lib.nDigits z2.natAbs ≤ 12
        · have HA2 : Hid ((t.take (k + 1)).all okD = true) := by
            rw [htk, List.all_append, HA.out]
            show (true && [z2].all okD) = true
            simp [okD, hd12]
          clear htk HA HZ2
          generalize Lib.nDigits z2.natAbs = nd at *
          go_wp2_with fail
          refine hD.mono ?_
          rintro e w2 ⟨rfl, hb2⟩
          go_wp2
          go_roundw
          case rel => exact ⟨k + 1, by omega, by go_num, HA2, hbel.trans (hb2.mono hbel.size)⟩
          case measure => simp [intOf]; omega
        · have hno : inB t = false := by
            unfold inB
            rw [Bool.and_eq_false_iff]
            right
            rw [List.all_eq_false]
            refine ⟨z2, ?_, by simp [okD, hd12]⟩
            rw [← HZ2.out, getD_lt hlt]
            exact List.getElem_mem hlt
          have HNO : Hid _ := hno
          clear htk HA HZ2 hno
          generalize Lib.nDigits z2.natAbs = nd at *
          go_wp2_with fail
          refine hD.mono ?_
          rintro e w2 ⟨rfl, hb2⟩
          go_wp2
          go_ret2
          exact ⟨.inr ⟨HNO.out, rfl⟩, hbq.trans (hb2.mono hbq.size)⟩
      · obtain rfl : k = t.length := by omega
        have hyes : Hid (inB t = true) := by
          have := HA.out
          rw [List.take_length] at this
          unfold inB
          rw [this, decide_eq_true (by omega)]; rfl
        clear HA
        have hownr := OwnL.below hown hbel
        go_wp2
        go_ret2
        refine ⟨.inl ⟨hyes.out, _, rfl, _, _, rfl, heap_alloc_new wr _, ?_⟩, hbq.alloc hbq.size _⟩
        exact (hownr.below ((Below.refl _ _).alloc (Nat.le_refl _) _)).isL

end Go.Proofs.YtldcjkhbiffdoabDoor
