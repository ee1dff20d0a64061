import Derived.Test.YtldcjkhbiffdoaaGreatDoorCRefReadS0
import Derived.Test.YtldcjkhbiffdoaaGreatDoorCRefReadS1
import Derived.Test.YtldcjkhbiffdoaaGreatDoorCRefReadS2
import Derived.Test.YtldcjkhbiffdoaaGreatDoorCRefReadS3
import Derived.Test.YtldcjkhbiffdoaaGreatDoorCRefReadS4
import Derived.Test.YtldcjkhbiffdoaaGreatDoorCRefReadS5
import Derived.Test.YtldcjkhbiffdoaaGreatDoorCRefReadS6

/-
  factorref.Read. (Written by wip/gen_split.py.)
-/
namespace Go.Proofs.YtldcjkhbiffdoaaGreatDoor
open Go.RowKit

set_option maxRecDepth 100000 in
set_option maxHeartbeats 40000000 in
theorem readR_any (s : ByteArray) (w : World) (hs0 : s.size ≤ 9223372036854775807) :
    Calls Tryz.prog 24 #[.string s] w fun en w' => RAns w' (rread s.data.toList) en ∧ Below w.heap.size w w' := by
  have hll := toList_len s
  obtain ⟨T, HT⟩ : ∃ T : World → Ending → Prop, Hid (T = fun w' en => RAns w' (rread s.data.toList) en) := ⟨_, rfl⟩
  have hgoal : (fun en w' => RAns w' (rread s.data.toList) en ∧ Below w.heap.size w w') = fun en w' => T w' en ∧ Below w.heap.size w w' := by rw [HT.out]
  rw [hgoal]
  clear hgoal
  by_cases hlong : 200 < s.size
  · have hr : rread s.data.toList = (1, 0, []) := by unfold rread; rw [if_pos (by omega)]
    go_enter Tryz.func24, Tryz.ntmps24
    go_wp2
    go_ret3
    refine ⟨?_, Below.refl _ _⟩
    rw [HT.out]
    exact .inr ⟨by rw [hr]; decide, by rw [hr]; rfl⟩
  · have hO := fun (W : World) => ofN_any 1 W (by decide)
    have hWd := fun (W : World) => words_any s W (by omega)
    have hwl := wds_len s.data.toList
    have hwok := fun (p : Wd) (h : p ∈ wds s.data.toList 0) => wds_ok h
    rw [hll] at hwl hwok
    have hrr : rread s.data.toList = match rrun s.size (wds s.data.toList 0) ⟨[], 1, 0, false, 0⟩ with
        | .inl p => (2, p, [])
        | .inr ms => match smv ms ms [] with
          | none => (3, 0, [])
          | some P => if inB P then (0, 0, P) else (3, 0, []) := by
      unfold rread RR
      rw [if_neg (by omega), hll]
      rfl
    obtain ⟨R, HRr⟩ : ∃ R, Hid (rrun s.size (wds s.data.toList 0) ⟨[], 1, 0, false, 0⟩ = R) := ⟨_, rfl⟩
    rw [HRr.out] at hrr
    have HRR : Hid _ := hrr
    have HO : Hid _ := hO
    have HWd : Hid _ := hWd
    have HWOK : Hid _ := hwok
    clear hrr hO hWd hwok
    generalize wds s.data.toList 0 = ws at *
    go_enter Tryz.func24, Tryz.ntmps24
    go_wp2_with fail
    refine (HO.out w).mono ?_
    rintro en w1 ⟨x1, rfl, hI1, hb1⟩
    obtain ⟨b1, a1, n1, c1, _, rfl, _, _⟩ := id hI1.open
    go_wp2_with fail
    generalize hW : w1.alloc (Obj.cells #[Value.bool b1, Value.slice a1 n1 c1, Value.bool false, Value.slice none 0 0] 87) = W2
    have X2 : BxM W2 w1.heap.size (.bool b1) (.slice a1 n1 c1) (.bool false) (.slice none 0 0) := by rw [← hW]; exact BxM.alloc _ _ _ _ _
    have hb2 : Below w1.heap.size w1 W2 := by rw [← hW]; exact below_one _ _
    clear hW
    have hM2 : IsM W2 w1.heap.size 1 0 := ⟨_, _, _, _, _, _, _, _, X2, hI1.below hb2, zeroNum⟩
    have hbw2 := hb1.trans (hb2.mono hb1.size)
    have hkm := hb1.size
    have hkl := X2.lt
    clear X2 hI1 hb1 hb2
    generalize w1.heap.size = km at *
    refine (HWd.out W2).mono ?_
    rintro en w3 ⟨x3, rfl, hI3, hb3⟩
    obtain ⟨wa, wc, rfl⟩ := OwnW.val hI3
    have hbw3 := hbw2.trans (hb3.mono hbw2.size)
    have hR3 : Rdg W2.heap.size km (.slice wa ws.length wc) (.slice none 0 0) ws w3 ⟨[], 1, 0, false, 0⟩ := ⟨hI3, OwnM.nil _ _, hM2.below hb3, ⟨by simp, fun i => by simp⟩, one_small, Nat.pow_pos (by omega)⟩
    have hk3 : km < w3.heap.size := by have := hb3.size; omega
    clear hI3 hM2 hb3 hbw2 HWd
    generalize W2.heap.size = B2 at *
    go_wp2_with fail
    go_loopw [5, 7, 8, 21] (fun l ng st i wr => ∃ (k : Nat) (S : St), k ≤ ws.length ∧ i = .int .i64 k ∧ ng = .bool S.neg ∧ st = .int .i64 (S.st : Int) ∧ S.st ≤ 6 ∧ S.ms.length ≤ k ∧ Rdg B2 km (.slice wa ws.length wc) l ws wr S ∧ Hid (rrun s.size (ws.drop k) S = R) ∧ Below w.heap.size w wr) (fun _ _ _ i _ => ws.length - (intOf i).toNat)
    case atStart => exact ⟨0, ⟨[], 1, 0, false, 0⟩, Nat.zero_le _, rfl, rfl, rfl, by simp, by simp, hR3, HRr, hbw3⟩
    case round =>
      clear hR3 HRr hbw3 hk3
      obtain ⟨k, S, hk, rfl, rfl, rfl, hst6, hmsl, hRd, HE, hbel⟩ := hrel
      obtain ⟨la, lc, rfl⟩ := OwnM.val hRd.list
      by_cases hlt : k < ws.length
      · obtain ⟨ms, c, e, neg, st⟩ := S
        have hst : st = 0 ∨ st = 1 ∨ st = 2 ∨ st = 3 ∨ st = 4 ∨ st = 5 ∨ st = 6 := by simp only at hst6; omega
        simp only at hmsl
        rcases hst with rfl | rfl | rfl | rfl | rfl | rfl | rfl
        · exact roundR0 s w wr R ws km B2 k _ _ _ _ ms c e neg _ _ _ _ _ _ _ _ _ _ _ _ _ _ _ _ _ _ _ _ _ _ _ _ _ _ _ _ _ _ _ _ _ _ _ _ _ _ _ _ _ _ _ _ _ _ _ _ _ _ _ _ _ _ _ _ _ _ _ _ _ _ _ _ _ _ _ _ _ _ _ _ _ _ _ _ _ _ _ _ _ _ _ _ _ _ _ _ _ _ _ _ _ _ _ _ _ _ _ _ _ _ _ _ _ _ _ _ _ _ _ _ _ _ _ _ _ _ _ _ _ _ _ _ _ _ _ _ _ _ _ _ _ _ _ _ _ _ _ _ _ hlong hwl HWOK hkm hkl hlt hmsl hRd HE hbel _
            (fun h1 h2 => by go_roundw; (case rel => exact ⟨_, _, _, _, _, _, _, _, _, _, _, _, _, _, _, _, _, _, _, _, _, _, _, _, _, _, _, _, _, _, _, _, _, _, _, _, _, _, _, _, _, _, _, _, _, _, _, _, _, _, _, _, _, _, _, _, _, _, _, _, _, _, _, _, _, _, _, _, _, _, _, _, _, _, _, _, _, _, _, _, _, _, _, _, _, _, _, _, _, _, _, _, _, _, _, _, _, _, _, _, _, _, _, _, _, _, _, _, _, _, _, _, _, _, _, _, _, _, _, _, _, _, _, _, _, _, _, _, _, _, _, _, h1, rfl⟩); (case measure => simpa [intOf] using h2))
            (fun h1 h2 => by go_ret3; refine ⟨?_, h2⟩; rw [HT.out]; refine .inr ⟨by rw [HRR.out, h1]; show (2 : Nat) ≠ 0; decide, by rw [HRR.out, h1]; rfl⟩)
        · exact roundR1 s w wr R ws km B2 k _ _ _ _ ms c e neg _ _ _ _ _ _ _ _ _ _ _ _ _ _ _ _ _ _ _ _ _ _ _ _ _ _ _ _ _ _ _ _ _ _ _ _ _ _ _ _ _ _ _ _ _ _ _ _ _ _ _ _ _ _ _ _ _ _ _ _ _ _ _ _ _ _ _ _ _ _ _ _ _ _ _ _ _ _ _ _ _ _ _ _ _ _ _ _ _ _ _ _ _ _ _ _ _ _ _ _ _ _ _ _ _ _ _ _ _ _ _ _ _ _ _ _ _ _ _ _ _ _ _ _ _ _ _ _ _ _ _ _ _ _ _ _ _ _ _ _ _ hlong hwl HWOK hkm hkl hlt hmsl hRd HE hbel _
            (fun h1 h2 => by go_roundw; (case rel => exact ⟨_, _, _, _, _, _, _, _, _, _, _, _, _, _, _, _, _, _, _, _, _, _, _, _, _, _, _, _, _, _, _, _, _, _, _, _, _, _, _, _, _, _, _, _, _, _, _, _, _, _, _, _, _, _, _, _, _, _, _, _, _, _, _, _, _, _, _, _, _, _, _, _, _, _, _, _, _, _, _, _, _, _, _, _, _, _, _, _, _, _, _, _, _, _, _, _, _, _, _, _, _, _, _, _, _, _, _, _, _, _, _, _, _, _, _, _, _, _, _, _, _, _, _, _, _, _, _, _, _, _, _, _, h1, rfl⟩); (case measure => simpa [intOf] using h2))
            (fun h1 h2 => by go_ret3; refine ⟨?_, h2⟩; rw [HT.out]; refine .inr ⟨by rw [HRR.out, h1]; show (2 : Nat) ≠ 0; decide, by rw [HRR.out, h1]; rfl⟩)
        · exact roundR2 s w wr R ws km B2 k _ _ _ _ ms c e neg _ _ _ _ _ _ _ _ _ _ _ _ _ _ _ _ _ _ _ _ _ _ _ _ _ _ _ _ _ _ _ _ _ _ _ _ _ _ _ _ _ _ _ _ _ _ _ _ _ _ _ _ _ _ _ _ _ _ _ _ _ _ _ _ _ _ _ _ _ _ _ _ _ _ _ _ _ _ _ _ _ _ _ _ _ _ _ _ _ _ _ _ _ _ _ _ _ _ _ _ _ _ _ _ _ _ _ _ _ _ _ _ _ _ _ _ _ _ _ _ _ _ _ _ _ _ _ _ _ _ _ _ _ _ _ _ _ _ _ _ _ hlong hwl HWOK hkm hkl hlt hmsl hRd HE hbel _
            (fun h1 h2 => by go_roundw; (case rel => exact ⟨_, _, _, _, _, _, _, _, _, _, _, _, _, _, _, _, _, _, _, _, _, _, _, _, _, _, _, _, _, _, _, _, _, _, _, _, _, _, _, _, _, _, _, _, _, _, _, _, _, _, _, _, _, _, _, _, _, _, _, _, _, _, _, _, _, _, _, _, _, _, _, _, _, _, _, _, _, _, _, _, _, _, _, _, _, _, _, _, _, _, _, _, _, _, _, _, _, _, _, _, _, _, _, _, _, _, _, _, _, _, _, _, _, _, _, _, _, _, _, _, _, _, _, _, _, _, _, _, _, _, _, _, h1, rfl⟩); (case measure => simpa [intOf] using h2))
            (fun h1 h2 => by go_ret3; refine ⟨?_, h2⟩; rw [HT.out]; refine .inr ⟨by rw [HRR.out, h1]; show (2 : Nat) ≠ 0; decide, by rw [HRR.out, h1]; rfl⟩)
        · exact roundR3 s w wr R ws km B2 k _ _ _ _ ms c e neg _ _ _ _ _ _ _ _ _ _ _ _ _ _ _ _ _ _ _ _ _ _ _ _ _ _ _ _ _ _ _ _ _ _ _ _ _ _ _ _ _ _ _ _ _ _ _ _ _ _ _ _ _ _ _ _ _ _ _ _ _ _ _ _ _ _ _ _ _ _ _ _ _ _ _ _ _ _ _ _ _ _ _ _ _ _ _ _ _ _ _ _ _ _ _ _ _ _ _ _ _ _ _ _ _ _ _ _ _ _ _ _ _ _ _ _ _ _ _ _ _ _ _ _ _ _ _ _ _ _ _ _ _ _ _ _ _ _ _ _ _ hlong hwl HWOK hkm hkl hlt hmsl hRd HE hbel _
            (fun h1 h2 => by go_roundw; (case rel => exact ⟨_, _, _, _, _, _, _, _, _, _, _, _, _, _, _, _, _, _, _, _, _, _, _, _, _, _, _, _, _, _, _, _, _, _, _, _, _, _, _, _, _, _, _, _, _, _, _, _, _, _, _, _, _, _, _, _, _, _, _, _, _, _, _, _, _, _, _, _, _, _, _, _, _, _, _, _, _, _, _, _, _, _, _, _, _, _, _, _, _, _, _, _, _, _, _, _, _, _, _, _, _, _, _, _, _, _, _, _, _, _, _, _, _, _, _, _, _, _, _, _, _, _, _, _, _, _, _, _, _, _, _, _, h1, rfl⟩); (case measure => simpa [intOf] using h2))
            (fun h1 h2 => by go_ret3; refine ⟨?_, h2⟩; rw [HT.out]; refine .inr ⟨by rw [HRR.out, h1]; show (2 : Nat) ≠ 0; decide, by rw [HRR.out, h1]; rfl⟩)
        · exact roundR4 s w wr R ws km B2 k _ _ _ _ ms c e neg _ _ _ _ _ _ _ _ _ _ _ _ _ _ _ _ _ _ _ _ _ _ _ _ _ _ _ _ _ _ _ _ _ _ _ _ _ _ _ _ _ _ _ _ _ _ _ _ _ _ _ _ _ _ _ _ _ _ _ _ _ _ _ _ _ _ _ _ _ _ _ _ _ _ _ _ _ _ _ _ _ _ _ _ _ _ _ _ _ _ _ _ _ _ _ _ _ _ _ _ _ _ _ _ _ _ _ _ _ _ _ _ _ _ _ _ _ _ _ _ _ _ _ _ _ _ _ _ _ _ _ _ _ _ _ _ _ _ _ _ _ hlong hwl HWOK hkm hkl hlt hmsl hRd HE hbel _
            (fun h1 h2 => by go_roundw; (case rel => exact ⟨_, _, _, _, _, _, _, _, _, _, _, _, _, _, _, _, _, _, _, _, _, _, _, _, _, _, _, _, _, _, _, _, _, _, _, _, _, _, _, _, _, _, _, _, _, _, _, _, _, _, _, _, _, _, _, _, _, _, _, _, _, _, _, _, _, _, _, _, _, _, _, _, _, _, _, _, _, _, _, _, _, _, _, _, _, _, _, _, _, _, _, _, _, _, _, _, _, _, _, _, _, _, _, _, _, _, _, _, _, _, _, _, _, _, _, _, _, _, _, _, _, _, _, _, _, _, _, _, _, _, _, _, h1, rfl⟩); (case measure => simpa [intOf] using h2))
            (fun h1 h2 => by go_ret3; refine ⟨?_, h2⟩; rw [HT.out]; refine .inr ⟨by rw [HRR.out, h1]; show (2 : Nat) ≠ 0; decide, by rw [HRR.out, h1]; rfl⟩)
        · exact roundR5 s w wr R ws km B2 k _ _ _ _ ms c e neg _ _ _ _ _ _ _ _ _ _ _ _ _ _ _ _ _ _ _ _ _ _ _ _ _ _ _ _ _ _ _ _ _ _ _ _ _ _ _ _ _ _ _ _ _ _ _ _ _ _ _ _ _ _ _ _ _ _ _ _ _ _ _ _ _ _ _ _ _ _ _ _ _ _ _ _ _ _ _ _ _ _ _ _ _ _ _ _ _ _ _ _ _ _ _ _ _ _ _ _ _ _ _ _ _ _ _ _ _ _ _ _ _ _ _ _ _ _ _ _ _ _ _ _ _ _ _ _ _ _ _ _ _ _ _ _ _ _ _ _ _ hlong hwl HWOK hkm hkl hlt hmsl hRd HE hbel _
            (fun h1 h2 => by go_roundw; (case rel => exact ⟨_, _, _, _, _, _, _, _, _, _, _, _, _, _, _, _, _, _, _, _, _, _, _, _, _, _, _, _, _, _, _, _, _, _, _, _, _, _, _, _, _, _, _, _, _, _, _, _, _, _, _, _, _, _, _, _, _, _, _, _, _, _, _, _, _, _, _, _, _, _, _, _, _, _, _, _, _, _, _, _, _, _, _, _, _, _, _, _, _, _, _, _, _, _, _, _, _, _, _, _, _, _, _, _, _, _, _, _, _, _, _, _, _, _, _, _, _, _, _, _, _, _, _, _, _, _, _, _, _, _, _, _, h1, rfl⟩); (case measure => simpa [intOf] using h2))
            (fun h1 h2 => by go_ret3; refine ⟨?_, h2⟩; rw [HT.out]; refine .inr ⟨by rw [HRR.out, h1]; show (2 : Nat) ≠ 0; decide, by rw [HRR.out, h1]; rfl⟩)
        · exact roundR6 s w wr R ws km B2 k _ _ _ _ ms c e neg _ _ _ _ _ _ _ _ _ _ _ _ _ _ _ _ _ _ _ _ _ _ _ _ _ _ _ _ _ _ _ _ _ _ _ _ _ _ _ _ _ _ _ _ _ _ _ _ _ _ _ _ _ _ _ _ _ _ _ _ _ _ _ _ _ _ _ _ _ _ _ _ _ _ _ _ _ _ _ _ _ _ _ _ _ _ _ _ _ _ _ _ _ _ _ _ _ _ _ _ _ _ _ _ _ _ _ _ _ _ _ _ _ _ _ _ _ _ _ _ _ _ _ _ _ _ _ _ _ _ _ _ _ _ _ _ _ _ _ _ _ hlong hwl HWOK hkm hkl hlt hmsl hRd HE hbel _
            (fun h1 h2 => by go_roundw; (case rel => exact ⟨_, _, _, _, _, _, _, _, _, _, _, _, _, _, _, _, _, _, _, _, _, _, _, _, _, _, _, _, _, _, _, _, _, _, _, _, _, _, _, _, _, _, _, _, _, _, _, _, _, _, _, _, _, _, _, _, _, _, _, _, _, _, _, _, _, _, _, _, _, _, _, _, _, _, _, _, _, _, _, _, _, _, _, _, _, _, _, _, _, _, _, _, _, _, _, _, _, _, _, _, _, _, _, _, _, _, _, _, _, _, _, _, _, _, _, _, _, _, _, _, _, _, _, _, _, _, _, _, _, _, _, _, h1, rfl⟩); (case measure => simpa [intOf] using h2))
            (fun h1 h2 => by go_ret3; refine ⟨?_, h2⟩; rw [HT.out]; refine .inr ⟨by rw [HRR.out, h1]; show (2 : Nat) ≠ 0; decide, by rw [HRR.out, h1]; rfl⟩)
      · obtain rfl : k = ws.length := by omega
        have hR : R = .inr S.ms := by
          have := HE.out
          rw [List.drop_length] at this
          exact this.symm
        have hsum := fun (W : World) (h : OwnM (km + 1) W (.slice la S.ms.length lc) S.ms) => sumR_any S.ms (km + 1) _ W h hRd.small
        have hlist := hRd.list
        have HRF : Hid (rread s.data.toList = match smv S.ms S.ms [] with
          | none => (3, 0, [])
          | some P => if inB P then (0, 0, P) else (3, 0, [])) := by rw [HRR.out, hR]; rfl
        clear HE HRR hR
        generalize S.ms = ms at *
        go_wp2_with fail
        refine (hsum wr hlist).mono ?_
        rintro en w6 ⟨hS, hb6⟩
        rcases hS with ⟨P, x, h1, h2, rfl, h3⟩ | ⟨h1, rfl⟩
        · go_wp2
          go_ret3
          refine ⟨?_, hbel.trans (hb6.mono hbel.size)⟩
          rw [HT.out, HRF.out, h1]
          refine .inl ⟨by simp [h2], by simp [h2], ?_⟩
          refine ⟨x, rfl, ?_⟩
          simpa [h2] using h3
        · go_wp2
          go_ret3
          refine ⟨?_, hbel.trans (hb6.mono hbel.size)⟩
          rw [HT.out, HRF.out]
          rcases h1 with h1 | ⟨P, h1, h2⟩
          · rw [h1]; exact .inr ⟨by decide, rfl⟩
          · rw [h1]; exact .inr ⟨by simp [h2], by simp [h2]⟩

end Go.Proofs.YtldcjkhbiffdoaaGreatDoor
