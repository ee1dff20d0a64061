import Derived.Test.YtldcjkhbiffdoabGreatDoorCMTwo
import Derived.Test.YtldcjkhbiffdoabGreatDoorM08

namespace Go.Proofs.YtldcjkhbiffdoabGreatDoor
open Go.RowKit

theorem owns_belowN {w w' : World} {B s n : Nat} {e : TypeId} {v : Value} {xs : List Value} (h : w.ownsRow B e s v n xs) (hb : Below w.heap.size w w') : w'.ownsRow B e s v n xs := by
  refine ⟨h.1, ?_⟩
  rcases h.2 with h1 | ⟨g, cap, cur, hv, hb0, hg, r⟩
  · exact .inl h1
  · exact .inr ⟨g, cap, cur, hv, hb0, by rw [hb.block g (Array.getElem?_eq_some_iff.1 hg).1]; exact hg, r⟩

def DivA (p : Nat) (a b : List Int) (B : Nat) (w' : World) (x y : Value) : Prop := ∃ q r, OwnN B w' x q ∧ OwnN B w' y r ∧ DM p a b q r

set_option maxRecDepth 100000 in
set_option maxHeartbeats 4000000 in
theorem divM_any (p : Nat) (a b : List Int) (u v : Value) (w : World) (hu : RowN w u a) (hv : RowN w v b) (hl : a.length ≤ 1000) (hm : b.length ≤ 1000) (hp2 : 2 ≤ p) (hp1 : p < 1000) (hp : Dom (p : Int)) (ra : Red p a) (nb : Nrm p b) (hb : b ≠ []) :
    Calls Tryz.prog 99 #[u, v, .int .i64 p] w fun e w' => ∃ x y, e = .returned (.tuple #[x, y]) ∧ DivA p a b w.heap.size w' x y ∧ Below w.heap.size w w' := by
  obtain ⟨PO, HPO⟩ : ∃ PO : World → Value → Value → Prop, Hid (PO = fun w' x y => DivA p a b w.heap.size w' x y) := ⟨_, rfl⟩
  have hgoal : (fun (e : Ending) (w' : World) => ∃ x y, e = .returned (.tuple #[x, y]) ∧ DivA p a b w.heap.size w' x y ∧ Below w.heap.size w w') = fun e w' => ∃ x y, e = .returned (.tuple #[x, y]) ∧ PO w' x y ∧ Below w.heap.size w w' := by rw [HPO.out]
  rw [hgoal]
  clear hgoal
  obtain ⟨ua, uc, rfl⟩ := hu.val
  obtain ⟨va, vc, rfl⟩ := hv.val
  have hb0 := List.length_pos_iff.2 hb
  obtain ⟨la, hla1, hla2⟩ : ∃ la : Nat, b.length ≤ la + 1 ∧ la + 1 ≤ b.length := ⟨b.length - 1, by omega, by omega⟩
  have HNB : Hid _ := nb
  have HRA : Hid _ := ra
  have HHB : Hid _ := hb
  have HP : Hid _ := hp
  clear nb ra hp hb
  by_cases hshort : a.length < b.length
  · have HS : Hid _ := DM.short (b := b) (by omega) HRA.out hshort
    go_enter Tryz.func99, Tryz.ntmps99
    go_wp2_with fail
    have hb1 := (Below.refl w.heap.size w).alloc (Nat.le_refl _) (Obj.cells #[] 3)
    have hlit := OwnN.lit (w := w) rfl
    have hu1 := hu.below hb1
    generalize w.alloc (Obj.cells #[] 3) = W1 at *
    refine (trimN_any a _ W1 hu1 (by omega)).mono ?_
    rintro e w2 ⟨x2, rfl, hI2, hb2⟩
    obtain ⟨xa, xc, rfl⟩ := hI2.row.val
    go_wp2
    go_ret2
    refine ⟨_, _, rfl, ?_, hb1.trans (hb2.mono hb1.size)⟩
    rw [HPO.out]
    exact ⟨[], tz a, hlit.below hb2, hI2.lower hb1.size, HS.out⟩
  · have HST : Hid _ := DvL.start (p := p) (by omega) HRA.out HHB.out (show b.length ≤ a.length by omega)
    obtain ⟨st, HSt⟩ : ∃ st, Hid (a.length + 1 - b.length = st) := ⟨_, rfl⟩
    rw [HSt.out] at HST
    have hst1 : a.length ≤ st + la := by have := HSt.out; omega
    have hst2 : st + la ≤ a.length := by have := HSt.out; omega
    have hst0 : 0 < st := by have := HSt.out; omega
    have hM := fun (n : Int) (W : World) (h0 : 0 ≤ n) (h1 : n < 10000000) => modulo_any n p W h0 (by omega) (by omega) (by omega)
    have HM : Hid _ := hM
    clear hM
    obtain ⟨ga, rfl, hu1, hu2, hu3, _⟩ := hu.at 0 (by omega)
    obtain ⟨gb, rfl, hv1, hv2, hv3, hcb⟩ := hv.at la (by omega)
    obtain ⟨z, HZ⟩ : ∃ z, Hid (b.getD la 0 = z) := ⟨_, rfl⟩
    rw [HZ.out] at hcb
    have hlead : lead b = z := by unfold lead; rw [show b.length - 1 = la by omega]; exact HZ.out
    obtain ⟨_, hz0, hz1, hz2⟩ := Nrm.ld HNB.out HHB.out
    rw [hlead] at hz0 hz1 hz2
    have hwr : ∀ q : Int, 0 ≤ q → q < 10000000 → IntKind.i64.wrap q = q := fun q h0 h1 => by rw [IntKind.wrap_i64]; omega
    have HLD : Hid _ := hlead
    clear hlead HZ
    have hini : 0 ≤ (z : Int) := by omega
    have hinv := inverse_any p z.toNat
    rw [show ((z.toNat : Nat) : Int) = z by omega] at hinv
    have HIN : Hid _ := hinv
    clear hinv
    go_enter Tryz.func99, Tryz.ntmps99
    go_wp2_with (at_make; refine wpList_makeZ rfl (.tmp 33) (.tmp 33) rfl _ _ a.length rfl rfl (by omega) (by omega) (by omega) ?_)
    intro w1 P0 _ hown1 hb1
    obtain ⟨w2, hrun, hown2, hb2⟩ := copyN_run w.heap.size w.heap.size a.length P0 a _ uc (hu.below hb1) (Nat.le_refl _) hown1
    rw [List.take_length] at hown2
    have hbw2 := hb1.trans hb2
    go_wp2_with (at_make; refine wpList_makeZ rfl (.tmp 38) (.tmp 38) rfl _ _ st rfl rfl (by omega) (by omega) (by omega) ?_)
    intro w3 Q0 HQ0 hown3 hb3
    rw [show (b.length : Int) - 1 = la by omega, show (a.length : Int) - la = st by omega]
    have hbw3 := hbw2.trans (hb3.mono hbw2.size)
    have hcb3 : w3.cell? ⟨gb, la, none⟩ = some (.int .i64 z) := (hbw3.cell (p := ⟨gb, la, none⟩) hv3).trans hcb
    have hG : w.heap.size < w2.heap.size := (World.ownsRow.lt hown2 _ rfl).2
    have hownR := owns_belowN hown2 hb3
    obtain ⟨G, HG⟩ : ∃ G, Hid (w2.heap.size = G) := ⟨_, rfl⟩
    rw [HG.out] at hown3 hG hb3 ⊢
    have hlaN : la < b.length := by omega
    have hpi : (2 : Int) ≤ p := by omega
    have hpi1 : (p : Int) < 1000 := by omega
    have HST2 : Hid (DvL p a b a Q0 st) := by rw [HQ0.out]; exact HST.out
    have hQ0 : Q0.length = st := by rw [HQ0.out]; simp
    clear HST HQ0 hown1 hb1 hb2 hrun hown2 hbw2 hb3
    go_wp2_with fail
    refine (HIN.out w3 hp2 hp1 HP.out (by omega) hz2).mono ?_
    rintro e w4 ⟨s, rfl, hs1, hs2, rfl⟩
    have HS2 : Hid _ := hs2
    clear hs2 hcb3
    go_wp2_with fail
    have hle0 : G < w4.heap.size := (World.ownsRow.lt hown3 _ rfl).2
    go_loopw [13] (fun i wq => ∃ (k : Nat) (R Q : List Int), i = .int .i64 ((k : Int) - 1) ∧ k ≤ st ∧ R.length = a.length ∧ Q.length = st ∧ wq.ownsRow w.heap.size 3 1 (.slice (some ⟨w.heap.size, 0, none⟩) a.length a.length) a.length (R.map (Value.int .i64)) ∧ wq.ownsRow G 3 1 (.slice (some ⟨G, 0, none⟩) st st) st (Q.map (Value.int .i64)) ∧ Hid (DvL p a b R Q k) ∧ Below w.heap.size w wq) (fun i _ => (intOf i + 1).toNat)
    case atStart => exact ⟨st, a, Q0, rfl, Nat.le_refl _, rfl, hQ0, hownR, hown3, HST2, hbw3⟩
    case round =>
      clear hown3 hownR HST2 hbw3 hQ0 hle0
      obtain ⟨k, R, Q, rfl, hk, hRl, hQl, hoR, hoQ, HL, hbel⟩ := hrel
      cases k with
      | zero =>
        have HE : Hid _ := HL.out.ends (by omega) HHB.out (by have := HSt.out; omega)
        clear HL
        have hT1 := trimN_any Q _ wr.drew (made_ownN (hoQ.drew) hQl).row (by omega)
        have hrow := made_ownN (hoR.drew) hRl
        rw [← hRl] at hrow
        have hrow2 := hrow.take (n := la) (by omega)
        rw [hRl] at hrow2
        have hlt : (R.take la).length ≤ 1000 := by rw [List.length_take]; omega
        have hbd : Below w.heap.size w wr.drew := ⟨hbel.os, hbel.tape, hbel.output, hbel.size, hbel.block⟩
        have hTR := fun (W : World) (h : Below wr.drew.heap.size wr.drew W) => trimN_any (R.take la) _ W (hrow2.row.below h) (by omega)
        have hTQ := fun (W : World) (h : Below wr.drew.heap.size wr.drew W) => trimN_any Q _ W ((made_ownN (hoQ.drew) hQl).row.below h) (by omega)
        rw [show b.length - 1 = la by omega] at HE
        have HTR : Hid _ := hTR
        have HTQ : Hid _ := hTQ
        clear hT1 hTR hTQ hrow hrow2
        have hla0 : (la : Int) ≤ a.length := by omega
        go_wp2_with fail
        refine wp_region_held_drew (S := fun _ => True) (by kernel_rfl) trivial fun hS => ?_
        generalize wr.drew = W0 at *
        refine h_take 0 93 (.slice (some ⟨G, 0, none⟩) st st) rfl rfl (by kernel_rfl) (by kernel_rfl) (by kernel_rfl) (fun _ _ _ h => h) rfl (fun _ _ => by first | rfl | go_simp) hS ?_
        simp only [Act.put, tA, tB, tC]
        refine h_take 2 95 (.slice (some ⟨w.heap.size, 0, none⟩) a.length a.length) rfl rfl (by kernel_rfl) (by kernel_rfl) (by kernel_rfl) (fun _ _ _ h => h) rfl (fun _ _ => by first | rfl | go_simp) hS ?_
        simp only [Act.put, tA, tB, tC]
        refine h_take 3 96 (.int .i64 (la : Int)) rfl rfl (by kernel_rfl) (by kernel_rfl) (by kernel_rfl) (fun _ _ _ h => h) rfl (fun _ _ => by first | rfl | go_simp) hS ?_
        simp only [Act.put, tA, tB, tC]
        refine h_take 4 97 (.slice (some ⟨w.heap.size, 0, none⟩) la a.length) rfl rfl (by kernel_rfl) (by kernel_rfl) (by kernel_rfl) (fun _ _ _ h => h) rfl (fun _ _ => by first | rfl | go_simp) hS ?_
        simp only [Act.put, tA, tB, tC]
        refine h_call 1 94 93 #[.slice (some ⟨G, 0, none⟩) st st] rfl rfl (by kernel_rfl) rfl (by go_simp) ?_
        refine (HTQ.out _ (Below.refl _ _)).mono ?_
        rintro e w5 ⟨x5, rfl, hI5, hb5⟩
        refine ⟨_, rfl, trivial, ?_⟩
        simp only [Act.put, tA, tB, tC]
        refine h_call 5 98 93 #[.slice (some ⟨w.heap.size, 0, none⟩) la a.length] rfl rfl (by kernel_rfl) rfl (by go_simp) ?_
        refine (HTR.out _ hb5).mono ?_
        rintro e w6 ⟨x6, rfl, hI6, hb6⟩
        refine ⟨_, rfl, trivial, ?_⟩
        simp only [Act.put, tA, tB, tC]
        have hI56 := hI5.below hb6
        obtain ⟨xa, xc, rfl⟩ := hI5.row.val
        obtain ⟨ya, yc, rfl⟩ := hI6.row.val
        refine h_take 6 6 (.slice xa (tz Q).length xc) rfl rfl (by kernel_rfl) (by kernel_rfl) (by kernel_rfl) (fun _ _ _ h => h) rfl (fun _ _ => by first | rfl | go_simp) hS ?_
        simp only [Act.put, tA, tB, tC]
        refine h_take 7 7 (.slice ya (tz (R.take la)).length yc) rfl rfl (by kernel_rfl) (by kernel_rfl) (by kernel_rfl) (fun _ _ _ h => h) rfl (fun _ _ => by first | rfl | go_simp) hS ?_
        simp only [Act.put, tA, tB, tC]
        refine wpAnyH_done (by kernel_rfl) ?_ _
        have hb56 := hb5.trans (hb6.mono hb5.size)
        have hPO : PO w6 (.slice xa (tz Q).length xc) (.slice ya (tz (R.take la)).length yc) := by
          rw [HPO.out]
          exact ⟨_, _, hI56.lower hbd.size, hI6.lower (Nat.le_trans hbd.size hb5.size), HE.out⟩
        generalize (tz Q).length = n1 at *
        generalize (tz (R.take la)).length = n2 at *
        go_wp2
        go_ret2
        exact ⟨_, _, rfl, hPO, hbd.trans (hb56.mono hbd.size)⟩
      | succ k =>
        rw [show (((k + 1 : Nat) : Int) - 1) = (k : Int) by omega]
        obtain ⟨x, HX⟩ : ∃ x, Hid (R.getD (k + la) 0 = x) := ⟨_, rfl⟩
        have hx := HL.out.rr (k + la)
        rw [HX.out] at hx
        obtain ⟨hx0, hx1⟩ := hx
        have hcx : wr.cell? ⟨w.heap.size, k + la, none⟩ = some (.int .i64 x) := by
          rw [hoR.cellAt (k + la) (by omega), ← HX.out]
          simp [List.getD, show k + la < R.length by omega]
        have hxs0 : 0 ≤ x * (s : Int) := Int.mul_nonneg hx0 (by omega)
        have hxs1 : x * (s : Int) ≤ 1000 * 1000 := Int.mul_le_mul (by omega) (by omega) (by omega) (by omega)
        have hq0 : 0 ≤ x * (s : Int) % p := Int.emod_nonneg _ (by omega)
        have hq1 : x * (s : Int) % p < p := Int.emod_lt_of_pos _ (by omega)
        have hkl1 : (k : Int) + la < a.length := by omega
        have hkl0 : 0 ≤ (k : Int) + la := by omega
        have hw1 := hwr ((k : Int) + la) (by omega) (by omega)
        have hw2 := hwr (x * (s : Int)) (by omega) (by omega)
        have htn : ((k : Int) + la).toNat = k + la := by omega
        have HLV : Hid (DvO p a b R (Q.set k (x * s % p)) k 0 (x * s % p) x) := HL.out.level (by omega) HHB.out (by omega) s x (by rw [show k + b.length - 1 = k + la by omega]; exact HX.out)
        obtain ⟨y, HY⟩ : ∃ y, Hid (Q.getD k 0 = y) := ⟨_, rfl⟩
        have hcq : wr.cell? ⟨G, k, none⟩ = some (.int .i64 y) := by
          rw [hoQ.cellAt k (by omega), ← HY.out]
          simp [List.getD, show k < Q.length by omega]
        have hfq := hoQ.frozenAt k
        clear HL HX HY
        go_wp2_with fail
        refine (HM.out _ _ (by exact hxs0) (by omega)).mono ?_
        rintro e w5 ⟨rfl, rfl⟩
        obtain ⟨c, HC⟩ : ∃ c, Hid (x * (s : Int) % p = c) := ⟨_, rfl⟩
        rw [HC.out] at HLV hq0 hq1 ⊢
        have hst := (World.ownsRow.stored (w := w5) hoQ k (.int .i64 c)).1
        rw [map_set] at hst
        have hoR2 := ownsRow_setCell_other hoR (a := ⟨G, k, none⟩) (by simp [Value.ownBlock]; omega) (.int .i64 c)
        have hb5 := hbel.setCell (p := ⟨G, k, none⟩) (show w.heap.size ≤ G by omega) (.int .i64 c)
        go_wp2_with fail
        clear hcx hcq hfq hoR hoQ hbel
        generalize w5.setCell ⟨G, k, none⟩ (.int .i64 c) = W5 at *
        have hQl2 : (Q.set k c).length = st := by simpa using hQl
        have HLV0 : Hid _ := HLV.out
        clear HLV
        generalize Q.set k c = Q2 at *
        go_loopw [15] (fun i wq => ∃ (j : Nat) (R : List Int), i = .int .i64 j ∧ j ≤ la + 1 ∧ R.length = a.length ∧ wq.ownsRow w.heap.size 3 1 (.slice (some ⟨w.heap.size, 0, none⟩) a.length a.length) a.length (R.map (Value.int .i64)) ∧ wq.ownsRow G 3 1 (.slice (some ⟨G, 0, none⟩) st st) st (Q2.map (Value.int .i64)) ∧ Hid (DvO p a b R Q2 k j c x) ∧ Below w.heap.size w wq) (fun i _ => la + 1 - (intOf i).toNat)
        case atStart => exact ⟨0, R, rfl, by omega, hRl, hoR2, hst, HLV0, hb5⟩
        case round =>
          clear hst hoR2 HLV0 hb5 hRl R hxs0 hxs1 hw2
          obtain ⟨j, R, rfl, hj, hRl, hoR, hoQ, HO, hbel⟩ := hrel
          by_cases hlt : j ≤ la
          · obtain ⟨g', hge, _, _, _, hcv⟩ := hv.at j (by omega)
            simp at hge
            subst hge
            obtain ⟨y, HY⟩ : ∃ y, Hid (b.getD j 0 = y) := ⟨_, rfl⟩
            have hy := HNB.out.1 j
            rw [HY.out] at hcv hy
            obtain ⟨hy0, hy1⟩ := hy
            have hcv' : wr.cell? ⟨gb, j, none⟩ = some (.int .i64 y) := (hbel.cell (p := ⟨gb, j, none⟩) hv3).trans hcv
            obtain ⟨r, HR⟩ : ∃ r, Hid (R.getD (k + j) 0 = r) := ⟨_, rfl⟩
            have hr := HO.out.rr (k + j)
            rw [HR.out] at hr
            obtain ⟨hr0, hr1⟩ := hr
            have hcp : wr.cell? ⟨w.heap.size, k + j, none⟩ = some (.int .i64 r) := by
              rw [hoR.cellAt (k + j) (by omega), ← HR.out]
              simp [List.getD, show k + j < R.length by omega]
            have hfp := hoR.frozenAt (k + j)
            have HSTP : Hid _ := HO.out.step (by omega) (show j < b.length by omega) (by omega) HR.out HY.out HC.out.symm (by rw [HLD.out]; exact HS2.out)
            have hm0 : 0 ≤ ((p : Int) - c) * y := Int.mul_nonneg (by omega) hy0
            have hm1 : ((p : Int) - c) * y ≤ 1000 * 1000 := Int.mul_le_mul (by omega) (by omega) hy0 (by omega)
            have hij1 : (k : Int) + j < a.length := by omega
            have hij0 : 0 ≤ (k : Int) + j := by omega
            have hw1' := hwr ((k : Int) + j) (by omega) (by omega)
            have hw2 := hwr ((p : Int) - c) (by omega) (by omega)
            have hw3 := hwr (((p : Int) - c) * y) (by omega) (by omega)
            have hw4 := hwr (r + ((p : Int) - c) * y) (by omega) (by omega)
            have htn' : ((k : Int) + j).toNat = k + j := by omega
            have hq2 : 0 ≤ r + ((p : Int) - c) * y := by omega
            have hq3 : r + ((p : Int) - c) * y < 10000000 := by omega
            have hBg := Nat.le_refl w.heap.size
            have hne : w.heap.size ≠ G := by omega
            clear HO HR HY hcv hcb
            go_wp2_with fail
            go_region_with (go_at_call 121; refine (HM.out _ _ (by exact hq2) (by exact hq3)).mono ?_; rintro e w6 ⟨rfl, rfl⟩)
            all_goals
              go_wp2
              go_roundw
              case rel =>
                refine ⟨j + 1, R.set (k + j) ((r + ((p : Int) - c) * y) % p), by go_num, by omega, by simpa using hRl, ?_, ?_, HSTP, (hbel.setCell hBg _).drew⟩
                · rw [← map_set]
                  exact (World.ownsRow.stored hoR _ _).1.drew
                · exact (ownsRow_setCell_other hoQ (by simp [Value.ownBlock]; omega) _).drew
              case measure => simp [intOf]; omega
          · obtain rfl : j = b.length := by omega
            have HEN : Hid _ := HO.out.out HHB.out
            clear HO
            go_wp2
            go_roundw
            case rel => exact ⟨k, R, Q2, by go_num, by omega, hRl, hQl2, hoR, hoQ, HEN, hbel⟩
            case measure => simp [intOf]

end Go.Proofs.YtldcjkhbiffdoabGreatDoor
