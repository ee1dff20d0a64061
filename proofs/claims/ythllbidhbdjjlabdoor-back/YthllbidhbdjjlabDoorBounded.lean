/-
  poly.bounded.
-/
import Derived.Test.YthllbidhbdjjlabDoorLists
namespace Go.Proofs.YthllbidhbdjjlabDoor
open Go.RowKit

/-- How many are left without the noughts at the end, of the first k. -/
def tzn (l : List Int) : Nat → Nat
  | 0 => 0
  | k + 1 => if l.getD k 0 = 0 then tzn l k else k + 1

theorem tzn_le (l : List Int) : ∀ k, tzn l k ≤ k
  | 0 => Nat.le_refl _
  | k + 1 => by
    unfold tzn
    split
    · exact Nat.le_succ_of_le (tzn_le l k)
    · exact Nat.le_refl _

def tz (l : List Int) : List Int := l.take (tzn l l.length)

def okD (z : Int) : Bool := decide (Lib.nDigits z.natAbs ≤ 12)
def inB (l : List Int) : Bool := decide (l.length ≤ 11) && l.all okD

/-- A polynomial: its coefficients, the lowest first. -/
def IsP (w : World) (p : Value) (zs : List Int) : Prop := ∃ k v, p = .pointer (some ⟨k, 0, none⟩) ∧ w.heap[k]? = some (.cells #[v] 57 (0, 0)) ∧ IsL w v zs

theorem IsP.below {w w' : World} {p : Value} {zs : List Int} (h : IsP w p zs) (hb : Below w.heap.size w w') : IsP w' p zs := by
  obtain ⟨k, v, h1, h2, h3⟩ := h
  exact ⟨k, v, h1, by rw [hb.block k (lt_of_block h2)]; exact h2, OwnL.below h3 hb⟩

/-- What 'bounded' answers. -/
def Bounded (w' : World) (t : List Int) (e : Ending) : Prop :=
  (inB t = true ∧ ∃ p, e = .returned (.tuple #[p, .int .i64 0]) ∧ IsP w' p t) ∨ (inB t = false ∧ e = .returned (.tuple #[.pointer none, .int .i64 3]))

set_option maxHeartbeats 1000000 in
theorem bounded_any (zs : List Int) (v : Value) (w : World) (hv : IsL w v zs) (hl : zs.length ≤ 1000000) (hf : ∀ i, i < zs.length → Fit (zs.getD i 0)) (ht : Tab w) :
    Calls Tryd.prog 26 #[v] w fun e w' => Bounded w' (tz zs) e ∧ Below w.heap.size w w' := by
  obtain ⟨va, vc, rfl⟩ := OwnL.val hv
  obtain ⟨n, HN⟩ : ∃ n, Hid (tzn zs zs.length = n) := ⟨_, rfl⟩
  unfold tz
  rw [HN.out]
  go_enter Tryd.func26, Tryd.ntmps26
  go_wp2_with fail
  go_loopw [4] (fun c wr => ∃ (k : Nat), k ≤ zs.length ∧ c = .int .i64 k ∧ Hid (tzn zs k = n) ∧ Below w.heap.size w wr) (fun c _ => (intOf c).toNat)
  case atStart => exact ⟨zs.length, Nat.le_refl _, rfl, HN, Below.refl _ _⟩
  case round =>
    obtain ⟨k, hk, rfl, HT, hbel⟩ := hrel
    cases k with
    | zero =>
      have hn : n = 0 := HT.out.symm
      subst hn
      go_wp2_with fail
      refine wp_loop_rounds 1 ?_; rw [rounds_succ]
      go_wp2
      go_ret2
      refine ⟨.inl ⟨rfl, _, rfl, wr.heap.size + 1, .slice (some ⟨wr.heap.size, 0, none⟩) 0 0, rfl, ?_, ?_⟩, (hbel.alloc hbel.size _).alloc (by have := hbel.size; simp; omega) _⟩
      · have := heap_alloc_new (wr.alloc (.cells #[] 60)) (.cells #[.slice (some ⟨wr.heap.size, 0, none⟩) 0 0] 57)
        simpa using this
      · exact ((OwnL.lit rfl).below ((Below.refl _ _).alloc (Nat.le_refl _) _)).isL
    | succ j =>
      obtain ⟨g, b, xa, xn, xc, rfl, hc1, hc2, hg, _, hc0, hcx, hI⟩ := OwnL.at (OwnL.below hv hbel) j (by omega)
      obtain ⟨z, HZ⟩ : ∃ z, Hid (zs.getD j 0 = z) := ⟨_, rfl⟩
      rw [HZ.out] at hI
      have hfz := hf j (by omega)
      rw [HZ.out] at hfz
      have hS := sign_any _ z wr hI hfz
      have hsz : (z = 0 ∧ sgn3 z = 0) ∨ (z ≠ 0 ∧ (sgn3 z == 0) = false) := by
        unfold sgn3
        rcases (show z = 0 ∨ z < 0 ∨ 0 < z by omega) with h | h | h
        · left; subst h; simp
        · right; exact ⟨by omega, by rw [if_pos h]; rfl⟩
        · right; exact ⟨by omega, by rw [if_neg (by omega), if_neg (by omega)]; rfl⟩
      generalize sgn3 z = sz at *
      rcases hsz with ⟨hz0, rfl⟩ | ⟨hz0, hsz⟩
      · have HT2 : Hid (tzn zs j = n) := by
          have := HT.out
          rw [tzn, if_pos (by rw [HZ.out]; exact hz0)] at this
          exact this
        clear HT HZ hz0
        go_wp2_with fail
        refine hS.mono ?_
        rintro e w1 ⟨rfl, hb1⟩
        go_wp2_with fail
        go_roundw
        case rel => exact ⟨j, by omega, by go_num, HT2, hbel.trans (hb1.mono hbel.size)⟩
        case measure => simp [intOf]
      · have hn : n = j + 1 := by
          have := HT.out
          rw [tzn, if_neg (by rw [HZ.out]; exact hz0)] at this
          exact this.symm
        subst hn
        clear HT HZ hz0
        by_cases h11 : 11 < j + 1
        · go_wp2_with fail
          refine hS.mono ?_
          rintro e w1 ⟨rfl, hb1⟩
          go_wp2_with fail
          go_ret2
          refine ⟨.inr ⟨?_, rfl⟩, hbel.trans (hb1.mono hbel.size)⟩
          unfold inB
          rw [decide_eq_false (by rw [List.length_take]; omega)]; rfl
        · go_wp2_with fail
          refine hS.mono ?_
          rintro e w1 ⟨rfl, hb1⟩
          go_wp2_with fail
          go_loopw [5, 6] (fun s i wq => ∃ (k : Nat), k ≤ j + 1 ∧ i = .int .i64 k ∧ OwnL w1.heap.size wq s (zs.take k) ∧ Hid ((zs.take k).all okD = true) ∧ Below w1.heap.size w1 wq) (fun _ i _ => j + 1 - (intOf i).toNat)
          case atStart => exact ⟨0, Nat.zero_le _, rfl, OwnL.lit rfl, rfl, (Below.refl _ _).alloc (Nat.le_refl _) _⟩
          case round =>
            have hbw := hbel.trans (hb1.mono hbel.size)
            have hszw := hbw.size
            clear hc0 hcx hS
            obtain ⟨k, hk2, rfl, hown, HA, hbel2⟩ := hrel
            have hbq : Below w.heap.size w wr := hbw.trans (hbel2.mono hbw.size)
            by_cases hlt : k < j + 1
            · obtain ⟨g', b', ya, yn, yc, hgg, _, _, hg', _, hc0, hcx, hIk⟩ := OwnL.at (OwnL.below hv hbq) k (by omega)
              simp at hgg
              subst hgg
              obtain ⟨z2, HZ2⟩ : ∃ z2, Hid (zs.getD k 0 = z2) := ⟨_, rfl⟩
              rw [HZ2.out] at hIk
              have hfz2 := hf k (by omega)
              rw [HZ2.out] at hfz2
              have hD := intDigits_any _ z2 wr hIk hfz2 (ht.below hbq)
              have htk : zs.take (k + 1) = zs.take k ++ [z2] := by
                rw [List.take_succ_eq_append_getElem (by omega), ← getD_lt (by omega), HZ2.out]
              by_cases hd12 : Lib.nDigits z2.natAbs ≤ 12
              · have HA2 : Hid ((zs.take (k + 1)).all okD = true) := by
                  rw [htk, List.all_append, HA.out]
                  show (true && [z2].all okD) = true
                  simp [okD, hd12]
                have HTK : Hid _ := htk
                clear htk HA HZ2
                generalize Lib.nDigits z2.natAbs = nd at *
                go_wp2_with fail
                refine hD.mono ?_
                rintro e w2 ⟨rfl, hb2⟩
                have hc0' : w2.cell? ⟨g, k * 2, none⟩ = _ := (hb2.cell (by exact hg')).trans hc0
                have hcx' : w2.cell? ⟨g, k * 2 + 1, none⟩ = _ := (hb2.cell (by exact hg')).trans hcx
                have hown2 := hown.below hb2
                have hI2 := hIk.below hb2
                have hs2 : w1.heap.size ≤ w2.heap.size := Nat.le_trans hbel2.size hb2.size
                go_wp2_with (at_builtin; refine wpList_pushI rfl (.tmp 36) (.tmp 41) rfl w1.heap.size _ (zs.take k) _ _ z2 rfl hown2 hI2 rfl (by rw [List.length_take]; omega) hs2 ?_)
                intro v' w3 hown3 hb3 _
                rw [← HTK.out] at hown3
                go_wp2
                go_roundw
                case rel => exact ⟨k + 1, by omega, by go_num, hown3, HA2, (hbel2.trans (hb2.mono hbel2.size)).trans hb3⟩
                case measure => simp [intOf]; omega
              · have hno : inB (zs.take (j + 1)) = false := by
                  unfold inB
                  rw [Bool.and_eq_false_iff]
                  right
                  rw [List.all_eq_false]
                  refine ⟨z2, ?_, by simp [okD, hd12]⟩
                  rw [← HZ2.out, getD_lt (by omega)]
                  exact List.mem_take_iff_getElem.2 ⟨k, by omega, rfl⟩
                have HNO : Hid _ := hno
                clear htk HA HZ2 hno
                generalize Lib.nDigits z2.natAbs = nd at *
                go_wp2_with fail
                refine hD.mono ?_
                rintro e w2 ⟨rfl, hb2⟩
                go_wp2_with fail
                go_ret2
                exact ⟨.inr ⟨HNO.out, rfl⟩, hbq.trans (hb2.mono hbq.size)⟩
            · obtain rfl : k = j + 1 := by omega
              have hyes : Hid (inB (zs.take (j + 1)) = true) := by
                unfold inB
                rw [HA.out, decide_eq_true (by rw [List.length_take]; omega)]; rfl
              obtain ⟨t, HTT⟩ : ∃ t, Hid (zs.take (j + 1) = t) := ⟨_, rfl⟩
              rw [HTT.out] at hown
              obtain ⟨sa, sc, rfl⟩ := hown.val
              clear HA
              go_wp2
              go_ret2
              rw [HTT.out] at hyes ⊢
              refine ⟨.inl ⟨hyes.out, _, rfl, _, _, rfl, heap_alloc_new wr _, ?_⟩, hbq.alloc hbq.size _⟩
              exact (hown.below ((Below.refl _ _).alloc (Nat.le_refl _) _)).isL

end Go.Proofs.YthllbidhbdjjlabDoor
