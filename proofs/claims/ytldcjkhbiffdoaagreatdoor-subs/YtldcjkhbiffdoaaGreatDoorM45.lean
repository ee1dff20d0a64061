import Derived.Test.YtldcjkhbiffdoaaGreatDoorM29
import Derived.Test.YtldcjkhbiffdoaaGreatDoorM32
import Derived.Test.YtldcjkhbiffdoaaGreatDoorCRefRead

/-
  factorlaw.read.
-/
namespace Go.Proofs.YtldcjkhbiffdoaaGreatDoor
open Go.RowKit

theorem pread_tr (l : List UInt8) : Tr (pread l).2.2 := by
  unfold pread
  split
  · exact Tr.nil
  · split
    · split
      · exact Tr.nil
      · split
        · exact tr_tz _
        · exact Tr.nil
    · exact Tr.nil

set_option maxRecDepth 100000 in
set_option maxHeartbeats 4000000 in
theorem readW_any (B k : Nat) (ps : List (List Int)) (s : ByteArray) (w : World) (hW : IsW B w k ps) (hlen : ps.length ≤ 10000000) (hB : B ≤ k) (ht : TabB B w) (hs : s.size ≤ 9223372036854775807) :
    Calls Tryz.prog 17 #[.pointer (some ⟨k, 0, none⟩), .string s] w fun en w' => StepOK B k ps w en w' := by
  have hkw : B ≤ w.heap.size := by obtain ⟨a, c, hh, _⟩ := hW; have := lt_of_block hh; omega
  have hP := read_any s w (ht.tab hkw) hs
  have hR := fun (W : World) => readR_any s W hs
  simp only [rread_pread] at hR
  have htr := pread_tr s.data.toList
  generalize pread s.data.toList = r at *
  obtain ⟨r1, r2, zs⟩ := r
  have HR : Hid _ := hR
  clear hR
  obtain ⟨PO, HPO⟩ : ∃ PO : Ending → World → Prop, Hid (PO = fun en w' => StepOK B k ps w en w') := ⟨_, rfl⟩
  have HK : Hid (∀ (W : World) (x m : Value) (e f : Int), Kq B w W → IsW B W k ps → BothV W x e m f → Calls Tryz.prog 25 #[.pointer (some ⟨k, 0, none⟩), x, .int .i64 e, m, .int .i64 f] W PO) := fun W x m e f h h2 hV => by
    rw [HPO.out]
    exact (keepS_any B k ps x m e f W h2 hV hlen hB (ht.bel h.bel)).mono (fun en w' hs => ⟨hs.1, hs.2.1, h.trans hs.2.2⟩)
  rw [← HPO.out]
  have HTR : Hid (Tr zs) := htr
  clear htr
  go_enter Tryz.func17, Tryz.ntmps17
  go_wp2_with fail
  refine hP.mono ?_
  rintro en w1 ⟨hA, hb1⟩
  rcases hA with ⟨h0, hin, p, rfl, hp⟩ | ⟨hne, rfl⟩
  · obtain ⟨pk, pv, rfl, _, _⟩ := id hp
    go_wp2_with fail
    refine (HR.out w1).mono ?_
    rintro en w2 ⟨hA2, hb2⟩
    rcases hA2 with ⟨_, _, y, rfl, hy⟩ | ⟨hne, _⟩
    · obtain ⟨ya, yc, rfl⟩ := OwnLN.val hy
      have hb2w := hb1.trans (hb2.mono hb1.size)
      have hW2 := hW.below hb2w
      obtain ⟨a, c, hh, hq⟩ := id hW2
      have c2 := w3_2 hh
      have f2 := w3_f hh 2
      have hk2 := lt_of_block hh
      have hKq : Kq B w (w2.setCell ⟨k, 2, none⟩ (.bool false)) := (Kg.of hb2w hkw).set hB ⟨_, _, _, hh, .inl rfl⟩
      have hKq2 : Kq B w2 (w2.setCell ⟨k, 2, none⟩ (.bool false)) := (Kg.refl B w2).set hB ⟨_, _, _, hh, .inl rfl⟩
      have hW3 := hW2.lack
      have hpair : PairOK (w2.setCell ⟨k, 2, none⟩ (.bool false)) (.pointer (some ⟨pk, 0, none⟩)) (.slice ya zs.length yc) zs := (⟨hp.below hb2, hy, HTR.out, hin⟩ : PairOK w2 _ _ zs).kq hKq2
      have HALL : Hid _ := (⟨hKq, hW3, hpair⟩ : _ ∧ _ ∧ _)
      clear hKq hKq2 hW3 hpair hq hh hy hp
      go_wp2_with fail
      refine (HK.out _ _ _ 0 0 HALL.out.1 HALL.out.2.1 (.inl ⟨rfl, rfl, zs, HALL.out.2.2⟩)).mono ?_
      rintro en w4 hpo
      have hpo' := hpo
      rw [HPO.out] at hpo'
      obtain ⟨rfl, _⟩ := hpo'
      go_wp2
      exact hpo
    · exact absurd h0 hne
  · have hr1 : ((r1 : Nat) : Int) ≠ 0 := by
      have : r1 ≠ 0 := hne
      omega
    go_wp2_with fail
    refine (HR.out w1).mono ?_
    rintro en w2 ⟨hA2, hb2⟩
    rcases hA2 with ⟨h0, _⟩ | ⟨_, rfl⟩
    · exact absurd h0 hne
    · have hb2w := hb1.trans (hb2.mono hb1.size)
      have hW2 := hW.below hb2w
      obtain ⟨a, c, hh, hq⟩ := id hW2
      have c2 := w3_2 hh
      have f2 := w3_f hh 2
      have hk2 := lt_of_block hh
      have hKq : Kq B w (w2.setCell ⟨k, 2, none⟩ (.bool false)) := (Kg.of hb2w hkw).set hB ⟨_, _, _, hh, .inl rfl⟩
      have hW3 := hW2.lack
      have HALL : Hid _ := (⟨hKq, hW3⟩ : _ ∧ _)
      clear hKq hW3 hq hh
      have hr1' : ((r1 : Int) == 0) = false := by simpa using hr1
      go_wp2_with fail
      refine (HK.out _ _ _ (r1 : Int) (r1 : Int) HALL.out.1 HALL.out.2 (.inr ⟨hr1, rfl, rfl⟩)).mono ?_
      rintro en w4 hpo
      have hpo' := hpo
      rw [HPO.out] at hpo'
      obtain ⟨rfl, _⟩ := hpo'
      go_wp2
      exact hpo

end Go.Proofs.YtldcjkhbiffdoaaGreatDoor
