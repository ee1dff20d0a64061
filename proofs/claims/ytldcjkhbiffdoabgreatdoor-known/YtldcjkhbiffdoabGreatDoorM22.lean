import Derived.Test.YtldcjkhbiffdoabGreatDoorM21
import Derived.Test.YtldcjkhbiffdoabGreatDoorM05
import Derived.Test.YtldcjkhbiffdoabGreatDoorM20

namespace Go.Proofs.YtldcjkhbiffdoabGreatDoor
open Go.RowKit

theorem lit2 {w : World} {a b : Int} : OwnN w.heap.size (w.alloc (.cells #[.int .i64 a, .int .i64 b] 3)) (.slice (some ⟨w.heap.size, 0, none⟩) 2 2) [a, b] ∧ Below w.heap.size w (w.alloc (.cells #[.int .i64 a, .int .i64 b] 3)) :=
  ⟨World.ownsRow_lit w #[.int .i64 a, .int .i64 b] 2 (Nat.le_refl _) (by simp [maxLen]) rfl, (Below.refl _ _).alloc (Nat.le_refl _) _⟩

theorem red01 {p : Nat} (h : 2 ≤ p) : Red p [(0 : Int), 1] := by
  refine Red.of_mem (by omega) fun a ha => ?_
  simp at ha
  omega
theorem nrm1 {p : Nat} (h : 2 ≤ p) : Nrm p [(1 : Int)] := ⟨Red.of_mem (by omega) (fun a ha => by simp at ha; omega), fun _ => by simp⟩

set_option maxRecDepth 100000 in
set_option maxHeartbeats 4000000 in
theorem powers_any (p : Nat) (f : List Int) (u : Value) (w : World) (hu : RowN w u f) (hl : f.length ≤ 400) (hl2 : 2 ≤ f.length) (hp2 : 2 ≤ p) (hp1 : p < 1000) (hp : Dom (p : Int)) (nf : Nrm p f) :
    Calls Tryz.prog 115 #[u, .int .i64 p] w fun e w' => ∃ x R, e = .returned x ∧ OwnVN w.heap.size w' x R ∧ RowsOK p (f.length - 1) (fun t => ev t f) R ∧ Below w.heap.size w w' := by
  obtain ⟨ua, uc, rfl⟩ := hu.val
  have hfn : f ≠ [] := by intro e; subst e; simp at hl2
  obtain ⟨st, HST⟩ : ∃ st : Nat → List Int → Prop, Hid (st = fun k s => Di p (fun t => ev t f) (fun t => t ^ k - ev t s)) := ⟨_, rfl⟩
  have HMU : Hid _ := fun (W : World) (a b : List Int) (x y : Value) (ha : Nrm p a) (hb : Red p b) (hx : RowN W x a) (hy : RowN W y b) (h1 : a.length ≤ 900) (h2 : b.length ≤ 900) => mulM_any p a b x y W hx hy (by omega) (by omega) (by omega) hp1 ha.1 hb
  have HDI : Hid _ := fun (W : World) (a : List Int) (x : Value) (ha : Nrm p a) (hx : RowN W x a) (hW : Below w.heap.size w W) (h1 : a.length ≤ 1000) => divM_any p a f x _ W hx (hu.below hW) h1 (by omega) hp2 hp1 hp ha.1 nf hfn
  have HS0 : Hid (st 0 [1]) := by show st 0 [1]; rw [HST.out]; exact Di.of_zm (Zm.of_zero _ fun t => by simp [ev])
  have HS1 : Hid (∀ k s m q r, st k s → Zm p (fun t => ev t m - ev t s * ev t [0, 1]) → DM p m f q r → st (k + 1) r) := fun k s m q r h1 h2 h3 => by
    rw [HST.out] at h1 ⊢
    exact step_pow h1 h2 h3
  have HS2 : Hid (∀ i s v m q r, st (p * i) v → st p s → Zm p (fun t => ev t m - ev t v * ev t s) → DM p m f q r → st (p * (i + 1)) r) := fun i s v m q r h1 h2 h3 h4 => by
    rw [HST.out] at h1 h2 ⊢
    exact row_pow h1 h2 h3 h4
  have HEND : Hid (∀ R : List (List Int), R.length = f.length - 1 → (∀ r, r ∈ R → Nrm p r ∧ r.length ≤ f.length - 1) → (∀ (i : Nat) (r : List Int), R[i]? = some r → st (p * i) r) → RowsOK p (f.length - 1) (fun t => ev t f) R) := fun R h1 h2 h3 => ⟨h1, h2, fun i r hr => by have := h3 i r hr; rwa [HST.out] at this⟩
  clear nf hp hfn
  go_enter Tryz.func115, Tryz.ntmps115
  go_wp2_with fail
  obtain ⟨hlit, hb0⟩ := lit1 (w := w) (k := 1)
  generalize w.alloc (Obj.cells #[Value.int .i64 1] 3) = W0 at *
  go_loopw [5, 6] (fun x i wr => ∃ (k : Nat) (s : List Int), k ≤ p ∧ i = .int .i64 k ∧ RowN wr x s ∧ Nrm p s ∧ s.length ≤ f.length - 1 ∧ Hid (st k s) ∧ Below w.heap.size w wr) (fun _ i _ => p - (intOf i).toNat)
  case atStart => exact ⟨0, [1], Nat.zero_le _, rfl, hlit.row, nrm1 hp2, by simp; omega, HS0, hb0⟩
  case round =>
    clear hlit hb0
    obtain ⟨k, s, hk, rfl, hrow, hns, hsl, HK, hbel⟩ := hrel
    obtain ⟨xa, xc, rfl⟩ := hrow.val
    have hns' : Hid _ := hns
    clear hns
    by_cases hlt : k < p
    · go_wp2_with fail
      obtain ⟨hlit, hb1⟩ := lit2 (w := wr) (a := 0) (b := 1)
      generalize wr.alloc (Obj.cells #[Value.int .i64 0, Value.int .i64 1] 3) = W1 at *
      refine (HMU.out W1 s [0, 1] _ _ hns'.out (red01 hp2) (hrow.below hb1) hlit.row (by omega) (by simp)).mono ?_
      rintro e w2 ⟨m, x2, rfl, hI2, hn2, hz2, hl2', hb2⟩
      obtain ⟨ya, yc, rfl⟩ := hI2.row.val
      have hz2' : Hid _ := hz2
      have hl2'' : m.length ≤ f.length + 1 := by simp at hl2'; omega
      clear hz2 hl2'
      have hbw2 := hbel.trans ((hb1.trans (hb2.mono hb1.size)).mono hbel.size)
      go_wp2_with fail
      refine (HDI.out w2 m _ hn2 hI2.row hbw2 (by omega)).mono ?_
      rintro e w3 ⟨x3, y3, rfl, ⟨q, r, hq, hr, hdm⟩, hb3⟩
      have hrl := hdm.lt
      have hnr := hdm.nr
      have HN : Hid _ := HS1.out k s m q r HK.out hz2'.out hdm
      clear hdm
      obtain ⟨qa, qc, rfl⟩ := hq.row.val
      obtain ⟨ra, rc, rfl⟩ := hr.row.val
      go_wp2
      go_roundw
      case rel => exact ⟨k + 1, r, by omega, by go_num, hr.row, hnr, by omega, HN, hbw2.trans (hb3.mono hbw2.size)⟩
      case measure => simp [intOf]; omega
    · obtain rfl : p = k := by omega
      go_wp2_with fail
      have hbA := (Below.refl wr.heap.size wr).alloc (Nat.le_refl _) (Obj.cells #[] 42)
      have hlitA : OwnVN wr.heap.size (wr.alloc (Obj.cells #[] 42)) (.slice (some ⟨wr.heap.size, 0, none⟩) 0 0) [] := OwnV.lit rfl
      have hsz : (wr.alloc (Obj.cells #[] 42)).heap.size = wr.heap.size + 1 := by simp
      generalize wr.alloc (Obj.cells #[] 42) = W1 at *
      obtain ⟨hlitB, hbB⟩ := lit1 (w := W1) (k := 1)
      rw [hsz] at hlitB
      generalize W1.alloc (Obj.cells #[Value.int .i64 1] 3) = W2 at *
      have hlitA2 := OwnV.below vecN hlitA hbB
      have hbAB := hbA.trans (hbB.mono hbA.size)
      have hwo : ∃ wo : World, wo = wr := ⟨_, rfl⟩
      obtain ⟨wo, rfl⟩ := hwo
      go_loopw [10, 11, 12] (fun o y i wq => ∃ (j : Nat) (R : List (List Int)) (r : List Int), j ≤ f.length - 1 ∧ i = .int .i64 ((j : Int) + 1) ∧ OwnVN wo.heap.size wq o R ∧ RowN wq y r ∧ Nrm p r ∧ r.length ≤ f.length - 1 ∧ Hid (st (p * j) r) ∧ R.length ≤ j ∧ Hid (R.length = j) ∧ Hid (∀ r, r ∈ R → Nrm p r ∧ r.length ≤ f.length - 1) ∧ Hid (∀ (i : Nat) (r : List Int), R[i]? = some r → st (p * i) r) ∧ Below wo.heap.size wo wq) (fun _ _ i _ => f.length - (intOf i).toNat)
      case atStart => exact ⟨0, [], [1], Nat.zero_le _, rfl, hlitA2, hlitB.row, nrm1 hp2, by simp; omega, by show st (p * 0) [1]; rw [Nat.mul_zero]; exact HS0.out, Nat.le_refl _, rfl, fun r h => (by cases h), fun i r h => (by simp at h), hbAB⟩
      case round =>
        clear hlitA2 hlitB hbAB hlitA hbA hbB hsz
        obtain ⟨j, R, r, hj, rfl, hown, hr, hnr, hrl, HR, hRl, HRl, HRm, HRs, hbq⟩ := hrel
        obtain ⟨oa, oc, rfl⟩ := hown.val
        obtain ⟨ya, yc, rfl⟩ := hr.val
        have hbw := hbel.trans (hbq.mono hbel.size)
        have hnr' : Hid _ := hnr
        clear hnr
        by_cases hlt : j < f.length - 1
        · have hji : (j : Int) + 1 < (f.length : Int) := by omega
          go_wp2_with (at_builtin; refine wpList_pushV vecN Tryz.infoVN Tryz.sliceVN rfl (.tmp 42) (.tmp 44) rfl wo.heap.size _ R _ r rfl hown hr rfl (by omega) hbq.size ?_)
          intro v3 w3 hown3 hb3 hg3
          have hr3 := vecN.kept hr hg3 hown.typ
          have hs3 : RowN w3 _ s := vecN.kept (hrow.below hbq) hg3 hown.typ
          obtain ⟨o3, c3, rfl⟩ := hown3.val
          have hb3q : Below wo.heap.size wo w3 := hbq.trans hb3
          have hb3w := hbel.trans (hb3q.mono hbel.size)
          have hpl : (R ++ [r]).length ≤ j + 1 := by simp; omega
          have HRl' : Hid ((R ++ [r]).length = j + 1) := by show _ = _; have := HRl.out; simp; omega
          have HRm' : Hid (∀ r', r' ∈ R ++ [r] → Nrm p r' ∧ r'.length ≤ f.length - 1) := fun r' h' => by
            rcases List.mem_append.1 h' with h' | h'
            · exact HRm.out r' h'
            · obtain rfl : r' = r := by simpa using h'
              exact ⟨hnr'.out, hrl⟩
          have HRs' : Hid (∀ (i : Nat) (r' : List Int), (R ++ [r])[i]? = some r' → st (p * i) r') := fun i r' h' => by
            by_cases hi : i < R.length
            · rw [List.getElem?_append_left hi] at h'
              exact HRs.out i r' h'
            · rw [List.getElem?_append_right (by omega)] at h'
              have h0 : i - R.length = 0 := by
                rcases Nat.eq_zero_or_pos (i - R.length) with h0 | h0
                · exact h0
                · rw [List.getElem?_eq_none (by simp; omega)] at h'; simp at h'
              rw [h0] at h'
              simp at h'
              subst h'
              have : i = j := by have := HRl.out; omega
              rw [this]
              exact HR.out
          clear HRl HRm HRs hr hown hbq hrow hbw hg3 hb3
          generalize R ++ [r] = R' at *
          go_wp2_with fail
          refine (HMU.out w3 r s _ _ hnr'.out hns'.out.1 hr3 hs3 (by omega) (by omega)).mono ?_
          rintro e w4 ⟨m, x4, rfl, hI4, hn4, hz4, hl4, hb4⟩
          obtain ⟨ma, mc, rfl⟩ := hI4.row.val
          have hz4' : Hid _ := hz4
          clear hz4
          have hb4w := hb3w.trans (hb4.mono hb3w.size)
          go_wp2_with fail
          refine (HDI.out w4 m _ hn4 hI4.row hb4w (by omega)).mono ?_
          rintro e w5 ⟨x5, y5, rfl, ⟨q, r5, hq, hr5, hdm⟩, hb5⟩
          have hr5l := hdm.lt
          have hnr5 := hdm.nr
          have HN : Hid _ := HS2.out j s r m q r5 HR.out HK.out hz4'.out hdm
          clear hdm
          obtain ⟨qa, qc, rfl⟩ := hq.row.val
          obtain ⟨ra, rc, rfl⟩ := hr5.row.val
          have hb45 := hb4.trans (hb5.mono hb4.size)
          go_wp2
          go_roundw
          case rel => exact ⟨j + 1, R', r5, by omega, by go_num, OwnV.below vecN hown3 hb45, hr5.row, hnr5, by omega, HN, hpl, HRl', HRm', HRs', hb3q.trans (hb45.mono hb3q.size)⟩
          case measure => simp [intOf]; omega
        · obtain rfl : j = f.length - 1 := by omega
          have hge : ¬ ((f.length - 1 : Nat) : Int) + 1 < (f.length : Int) := by omega
          have HE : Hid _ := HEND.out R HRl.out HRm.out HRs.out
          clear HRl HRm HRs
          rw [show ((f.length - 1 : Nat) : Int) + 1 = (f.length : Int) by omega] at *
          go_wp2
          go_ret
          exact ⟨_, rfl, R, hown.lower hbel.size, HE.out, hbw⟩

set_option maxRecDepth 100000 in
set_option maxHeartbeats 4000000 in
theorem fixedBasis_any (p : Nat) (f : List Int) (u : Value) (w : World) (hu : RowN w u f) (hl : f.length ≤ 400) (hl2 : 2 ≤ f.length) (hp2 : 2 ≤ p) (hp1 : p < 1000) (hp : Dom (p : Int)) (nf : Nrm p f) :
    Calls Tryz.prog 90 #[u, .int .i64 p] w fun e w' => ∃ x K, e = .returned x ∧ OwnVN w.heap.size w' x K ∧ FixB p (f.length - 1) (fun t => ev t f) K ∧ Below w.heap.size w w' := by
  obtain ⟨ua, uc, rfl⟩ := hu.val
  have hfn : f ≠ [] := by intro e; subst e; simp at hl2
  have HPW := powers_any p f _ w hu hl hl2 hp2 hp1 hp nf
  have HFX : Hid _ := fun (R K : List (List Int)) (hR : RowsOK p (f.length - 1) (fun t => ev t f) R) (h : Bas p (f.length - 1) (eqn p R) (f.length - 1) K) => Bas.fix (by omega) hp (nf.dm hfn) hR h
  have HP : Hid _ := hp
  clear nf hfn hp
  go_enter Tryz.func90, Tryz.ntmps90
  go_wp2_with fail
  refine HPW.mono ?_
  rintro e w1 ⟨x1, R, rfl, hR1, hRok, hb1⟩
  obtain ⟨ra, rc, rfl⟩ := hR1.val
  have hRl := hRok.len
  have hRl1 : R.length ≤ f.length - 1 := by omega
  have hRl2 : f.length - 1 ≤ R.length := by omega
  have HRO : Hid _ := hRok
  clear hRok hRl HPW
  go_wp2_with fail
  have hbA := (Below.refl w1.heap.size w1).alloc (Nat.le_refl _) (Obj.cells #[] 42)
  have hlitA : OwnVN w1.heap.size (w1.alloc (Obj.cells #[] 42)) (.slice (some ⟨w1.heap.size, 0, none⟩) 0 0) [] := OwnV.lit rfl
  generalize w1.alloc (Obj.cells #[] 42) = W1 at *
  go_loopw [6, 7] (fun o i wr => ∃ (k : Nat), k ≤ R.length ∧ i = .int .i64 k ∧ OwnVN w1.heap.size wr o (units k) ∧ Below w1.heap.size w1 wr) (fun _ i _ => R.length - (intOf i).toNat)
  case atStart => exact ⟨0, Nat.zero_le _, rfl, hlitA, hbA⟩
  case round =>
    clear hlitA hbA
    obtain ⟨k, hk, rfl, hown, hbel⟩ := hrel
    obtain ⟨oa, oc, rfl⟩ := hown.val
    have hul : (units k).length ≤ 900 := by rw [units_len]; omega
    by_cases hlt : k < R.length
    · have HSU : Hid _ := units_succ k
      obtain ⟨L, HL⟩ : ∃ L, Hid (units k = L) := ⟨_, rfl⟩
      rw [HL.out] at hown hul ⊢
      go_wp2_with (at_make; refine wpList_makeZ rfl (.tmp 21) (.tmp 21) rfl _ _ (k + 1) rfl rfl (by omega) (by omega) (by omega) ?_)
      intro w2 P0 HP0 hown2 hb2
      have hP0l : P0.length = k + 1 := by rw [HP0.out]; simp
      have hcp : w2.cell? ⟨wr.heap.size, k, none⟩ = some (.int .i64 (P0.getD k 0)) := by
        rw [hown2.cellAt k (by omega)]
        simp [List.getD, show k < P0.length by omega]
      generalize P0.getD k 0 = y at hcp
      have hfp := hown2.frozenAt k
      have hst := (World.ownsRow.stored (w := w2) hown2 k (.int .i64 1)).1
      rw [map_set, HP0.out] at hst
      have hb3 := hb2.setCell (p := ⟨wr.heap.size, k, none⟩) (Nat.le_refl _) (.int .i64 1)
      have hun : OwnN wr.heap.size (w2.setCell ⟨wr.heap.size, k, none⟩ (.int .i64 1)) (.slice (some ⟨wr.heap.size, 0, none⟩) (k + 1) (k + 1)) (unitL k) := by
        unfold OwnN
        rw [unitL_len]
        exact hst
      have hown3 := OwnV.below vecN hown hb3
      have hb3w := hbel.trans (hb3.mono hbel.size)
      have HU3 : Hid _ := (⟨hun, hown3, hb3w⟩ : _ ∧ _ ∧ _)
      clear hst hun hown3 hb3w hown2 hb3 HP0 hP0l
      go_wp2_with (at_builtin; refine wpList_pushV vecN Tryz.infoVN Tryz.sliceVN rfl (.tmp 26) (.tmp 28) rfl w1.heap.size _ L _ (unitL k) rfl HU3.out.2.1 HU3.out.1.row (by rw [show (w2.setCell ⟨wr.heap.size, k, none⟩ (.int .i64 1)).heap.size = w2.heap.size by simp [World.setCell]]; rfl) (by omega) HU3.out.2.2.size ?_)
      intro v4 w4 hown4 hb4 hg4
      rw [← HL.out, ← HSU.out] at hown4
      have hb4w := HU3.out.2.2.trans hb4
      clear HU3 hcp hfp
      go_wp2
      go_roundw
      case rel => exact ⟨k + 1, by omega, by go_num, hown4, hb4w⟩
      case measure => simp [intOf]; omega
    · obtain rfl : k = R.length := by omega
      have hbw := hb1.trans (hbel.mono hb1.size)
      have HB0 : Hid (Bas p (f.length - 1) (eqn p R) 0 (units R.length)) := by
        rw [show R.length = f.length - 1 by omega]
        exact Bas.start hp2 _ _
      obtain ⟨U, HU⟩ : ∃ U, Hid (units R.length = U) := ⟨_, rfl⟩
      rw [HU.out] at hown hul HB0 ⊢
      go_wp2_with fail
      have hwo : ∃ wo : World, wo = wr := ⟨_, rfl⟩
      obtain ⟨wo, rfl⟩ := hwo
      go_loopw [6, 9] (fun o i wq => ∃ (k : Nat) (K : List (List Int)), k ≤ R.length ∧ i = .int .i64 k ∧ OwnVN w1.heap.size wq o K ∧ Hid (Bas p (f.length - 1) (eqn p R) k K) ∧ Below w1.heap.size w1 wq) (fun _ i _ => R.length - (intOf i).toNat)
      case atStart => exact ⟨0, U, Nat.zero_le _, rfl, hown, HB0, hbel⟩
      case round =>
        clear hown HB0 hul hbw hbel
        obtain ⟨k, K, hk, rfl, hown, HB, hbel⟩ := hrel
        obtain ⟨ka, kc, rfl⟩ := hown.val
        have hbw := hb1.trans (hbel.mono hb1.size)
        by_cases hlt : k < R.length
        · have hEq := equation_any p R k _ wr (OwnV.below vecN (hR1.lower (Nat.zero_le _)) hbel) (by omega) (fun r hr => by have := HRO.out.mem r hr; exact ⟨this.1, by omega⟩) (by omega) hp2 hp1
          have hel : (eqn p R k).length ≤ 900 := by unfold eqn; rw [tab_len]; omega
          have hred : Red p (eqn p R k) := Red.tab (by omega) _ _
          have HNA : Hid (∀ (W : World) (v : Value), Below wr.heap.size wr W → RowN W v (eqn p R k) → _) := fun W v hW hv => narrowed_any p (f.length - 1) (eqn p R) k K _ v W (OwnV.below vecN (hown.lower (Nat.zero_le _)) hW) hv HB.out hred hel (by omega) hp2 hp1 HP.out
          clear hred HB
          generalize eqn p R k = L at *
          go_wp2_with fail
          refine hEq.mono ?_
          rintro e w2 ⟨x2, rfl, hI2, hb2⟩
          obtain ⟨ya, yc, rfl⟩ := hI2.row.val
          go_wp2_with fail
          refine (HNA.out w2 _ hb2 hI2.row).mono ?_
          rintro e w3 ⟨x3, K3, rfl, hown3, hB3, hb3⟩
          have HB3 : Hid _ := hB3
          clear hB3
          obtain ⟨za, zc, rfl⟩ := hown3.val
          have hb23 := hb2.trans (hb3.mono hb2.size)
          go_wp2
          go_roundw
          case rel => exact ⟨k + 1, K3, by omega, by go_num, hown3.lower (Nat.le_trans hbel.size hb2.size), HB3, hbel.trans (hb23.mono hbel.size)⟩
          case measure => simp [intOf]; omega
        · obtain rfl : k = R.length := by omega
          have HE : Hid _ := HFX.out R K HRO.out (by have := HB.out; rwa [show R.length = f.length - 1 by omega] at this)
          clear HB
          go_wp2
          go_ret
          exact ⟨_, K, rfl, hown.lower hb1.size, HE.out, hbw⟩

end Go.Proofs.YtldcjkhbiffdoabGreatDoor

namespace Go.Proofs.YtldcjkhbiffdoabGreatDoor
open Go.RowKit

set_option maxRecDepth 100000 in
set_option maxHeartbeats 4000000 in
theorem inverseModulo_any (p : Nat) (a b : List Int) (u v : Value) (w : World) (hu : RowN w u a) (hv : RowN w v b) (hal : a.length ≤ 20) (hbl : b.length ≤ 20) (na : Nrm p a) (nb : Nrm p b) (hbn : b ≠ []) (hp2 : 2 ≤ p) (hp1 : p < 1000) (hp : Dom (p : Int)) (hc : Cop p (fun t => ev t a) (fun t => ev t b)) :
    Calls Tryz.prog 120 #[u, v, .int .i64 p] w fun e w' => ∃ x r, e = .returned x ∧ OwnN w.heap.size w' x r ∧ (Nrm p r ∧ r.length < b.length ∧ Di p (fun t => ev t b) (fun t => ev t r * ev t a - 1)) ∧ Below w.heap.size w w' := by
  obtain ⟨ua, uc, rfl⟩ := hu.val
  obtain ⟨va, vc, rfl⟩ := hv.val
  obtain ⟨PO, HPO⟩ : ∃ PO : List Int → Prop, Hid (PO = fun r => Nrm p r ∧ r.length < b.length ∧ Di p (fun t => ev t b) (fun t => ev t r * ev t a - 1)) := ⟨_, rfl⟩
  have hgoal : (fun (e : Ending) (w' : World) => ∃ x r, e = .returned x ∧ OwnN w.heap.size w' x r ∧ (Nrm p r ∧ r.length < b.length ∧ Di p (fun t => ev t b) (fun t => ev t r * ev t a - 1)) ∧ Below w.heap.size w w') = fun e w' => ∃ x r, e = .returned x ∧ OwnN w.heap.size w' x r ∧ PO r ∧ Below w.heap.size w w' := by rw [HPO.out]
  rw [hgoal]
  clear hgoal
  have HI0 : Hid _ := IvO.start hp2 na nb hbn hbl
  have HDI : Hid _ := fun (W : World) (A C : List Int) (x y : Value) (hA : Nrm p A) (hC : Nrm p C) (hCn : C ≠ []) (h1 : A.length ≤ 900) (h2 : C.length ≤ 900) (hx : RowN W x A) (hy : RowN W y C) => divM_any p A C x y W hx hy (by omega) (by omega) hp2 hp1 hp hA.1 hC hCn
  have HMU : Hid _ := fun (W : World) (A C : List Int) (x y : Value) (hA : Nrm p A) (hC : Red p C) (h1 : A.length ≤ 900) (h2 : C.length ≤ 900) (hx : RowN W x A) (hy : RowN W y C) => mulM_any p A C x y W hx hy (by omega) (by omega) (by omega) hp1 hA.1 hC
  have HLT : Hid _ := fun (W : World) (A C : List Int) (x y : Value) (hA : Nrm p A) (hC : Nrm p C) (h1 : A.length ≤ 900) (h2 : C.length ≤ 900) (hx : RowN W x A) (hy : RowN W y C) => lessM_any p A C 1 x y W hx hy (by omega) (by omega) (by omega) hp1 (by omega) hA.1 hC.1
  have HIN : Hid _ := fun (W : World) (n : Nat) (hn : n < p) (hn0 : ¬ (p : Int) ∣ n) => inverse_any p n W hp2 hp1 hp hn hn0
  have HNX : Hid _ := fun (G L gs ls q r tk : List Int) (h : IvO p a b G L gs ls) (hL : L ≠ []) (hd : DM p G L q r) (ht : Zm p (fun t => ev t tk - ev t q * ev t ls)) (htl : tk.length ≤ q.length + ls.length) => IvO.next (sh := ltm p gs tk 1) h hL hal hd ht htl rfl (by omega)
  have HEN : Hid (∀ (G gs ls m q r : List Int) (s : Int), IvO p a b G [] gs ls → (p : Int) ∣ G.getD 0 0 * s - 1 → Zm p (fun t => ev t m - ev t gs * ev t [s]) → DM p m b q r → PO r) := fun G gs ls m q r s h1 h2 h3 h4 => by
    rw [HPO.out]
    exact IvO.ends hp h1 hc h2 h3 h4
  have HG1 : Hid (∀ (G gs ls : List Int), IvO p a b G [] gs ls → ¬ (p : Int) ∣ G.getD 0 0 ∧ 0 ≤ G.getD 0 0 ∧ G.getD 0 0 < p) := fun G gs ls h => by
    refine ⟨?_, h.gc.nA.1 0⟩
    have hne : G ≠ [] := h.gc.ne.elim id fun h => absurd rfl h
    have hG : G.length = 1 := by
      have g0 := List.length_pos_iff.2 hne
      refine Classical.byContradiction fun hl => ?_
      obtain ⟨x, y, c, h1, h2, h3, h4⟩ := hc
      have h0 : Di p (fun t => ev t G) (fun t => ev t ([] : List Int)) := Di.of_zm (Zm.of_zero _ fun _ => rfl)
      have hr : Di p (fun t => ev t G) (fun t => ev t G) := Di.of_eq (s := fun _ => 1) (Po.const 1) fun t => by simp
      have d1 := h.gc.g2.di hr h0
      have d2 := h.gc.g1.di hr h0
      have hdc : Di p (fun t => ev t G) (fun _ => c) := ((d1.mul h1).add (d2.mul h2)).alike (h4.neg.congr fun t => by dsimp only; omega)
      refine h3 (not_di_const hp (Po.ev G) (fun hd0 => ?_) hdc)
      have := (h.gc.nA.dm hne).uniq hd0
      omega
    have := (h.gc.nA.ld hne).2.2.2
    unfold lead at this
    rwa [hG] at this
  have HNB : Hid _ := nb
  have HBN : Hid _ := hbn
  clear hc hp na nb hbn
  go_enter Tryz.func120, Tryz.ntmps120
  go_wp2_with fail
  have hbA := (Below.refl w.heap.size w).alloc (Nat.le_refl _) (Obj.cells #[] 3)
  have hlitA : OwnN w.heap.size (w.alloc (Obj.cells #[] 3)) (.slice (some ⟨w.heap.size, 0, none⟩) 0 0) [] := OwnN.lit rfl
  have hsz : (w.alloc (Obj.cells #[] 3)).heap.size = w.heap.size + 1 := by simp
  generalize w.alloc (Obj.cells #[] 3) = W1 at *
  obtain ⟨hlitB, hbB⟩ := lit1 (w := W1) (k := 1)
  rw [hsz] at hlitB
  generalize W1.alloc (Obj.cells #[Value.int .i64 1] 3) = W2 at *
  have hbAB := hbA.trans (hbB.mono hbA.size)
  go_loopw [7, 8, 9, 10] (fun x y z t wr => ∃ (G L gs ls : List Int), RowN wr x G ∧ RowN wr y L ∧ RowN wr z gs ∧ RowN wr t ls ∧ Hid (IvO p a b G L gs ls) ∧ Below w.heap.size w wr) (fun _ y _ _ _ => lenV y)
  case atStart => exact ⟨b, a, [], [1], hv.below hbAB, hu.below hbAB, (hlitA.below hbB).row, hlitB.row, HI0, hbAB⟩
  case round =>
    clear hlitA hlitB hbA hbB hbAB hsz HI0
    obtain ⟨G, L, gs, ls, hG, hL, hgs, hls, HI, hbel⟩ := hrel
    obtain ⟨ga, gc, rfl⟩ := hG.val
    obtain ⟨la, lc, rfl⟩ := hL.val
    obtain ⟨sa, sc, rfl⟩ := hgs.val
    obtain ⟨ta, tc, rfl⟩ := hls.val
    have hGl := HI.out.gl
    have hLl := HI.out.ll
    have hlg := HI.out.lg
    have hl2 := HI.out.l2
    by_cases h0 : L = []
    · subst h0
      have hl0 : ([] : List Int).length = 0 := rfl
      obtain ⟨g1, g2, g3⟩ := HG1.out G gs ls HI.out
      have hat := atN_any G (.slice ga G.length gc) 0 wr hG (by omega) (by omega)
      have HFIN : Hid _ := fun (m q r : List Int) (s : Int) (h2 : (p : Int) ∣ G.getD 0 0 * s - 1) (h3 : Zm p (fun t => ev t m - ev t gs * ev t [s])) (h4 : DM p m b q r) => HEN.out G gs ls m q r s HI.out h2 h3 h4
      have hngs : Hid _ := HI.out.ng
      obtain ⟨z, HZ⟩ : ∃ z : Nat, Hid (G.getD 0 0 = (z : Int)) := ⟨(G.getD 0 0).toNat, by show _ = _; omega⟩
      rw [HZ.out] at hat HFIN g1 g2 g3
      have hzin := fun W => HIN.out W z (by omega) g1
      simp only [Int.natCast_zero] at hat
      have HZI : Hid _ := hzin
      clear hzin HI HEN HG1 HNX g1
      go_wp2_with fail
      refine hat.mono ?_
      rintro e w1 ⟨rfl, rfl⟩
      go_wp2_with fail
      refine (HZI.out w1).mono ?_
      rintro e w2 ⟨s, rfl, hs, hdv, rfl⟩
      have HDV : Hid _ := hdv
      clear hdv HZI
      go_wp2_with fail
      obtain ⟨hlit, hb3⟩ := lit1 (w := w2) (k := (s : Int))
      generalize w2.alloc (Obj.cells #[Value.int .i64 (s : Int)] 3) = W3 at *
      refine (HMU.out W3 gs [(s : Int)] _ _ hngs.out (red1 hs) (by omega) (by simp) (hgs.below hb3) hlit.row).mono ?_
      rintro e w4 ⟨m, x4, rfl, hI4, hn4, hz4, hl4, hb4⟩
      have HZ4 : Hid _ := hz4
      clear hz4
      obtain ⟨ma, mc, rfl⟩ := hI4.row.val
      have hb34 := hb3.trans (hb4.mono hb3.size)
      have hb4w := hbel.trans (hb34.mono hbel.size)
      have hml : m.length ≤ 900 := by simp at hl4; omega
      clear hl4
      go_wp2_with fail
      refine (HDI.out w4 m b _ _ hn4 HNB.out HBN.out hml (by omega) hI4.row (hv.below hb4w)).mono ?_
      rintro e w5 ⟨x5, y5, rfl, ⟨q, r, hq, hr, hdm⟩, hb5⟩
      have HP : Hid _ := HFIN.out m q r s HDV.out HZ4.out hdm
      clear hdm HFIN
      obtain ⟨qa, qc, rfl⟩ := hq.row.val
      obtain ⟨ra, rc, rfl⟩ := hr.row.val
      go_wp2
      go_ret
      first | exact ⟨_, r, rfl, hr.lower hb4w.size, HP.out, hb4w.trans (hb5.mono hb4w.size)⟩ | exact ⟨_, rfl, r, hr.lower hb4w.size, HP.out, hb4w.trans (hb5.mono hb4w.size)⟩
    · have hpos := List.length_pos_iff.2 h0
      have hnG := HI.out.gc.nA
      have hnL := HI.out.gc.nB
      have hng := HI.out.ng
      have hnl := HI.out.nl
      have hD := HDI.out wr G L _ _ hnG hnL h0 (by omega) (by omega) hG hL
      have HNX2 : Hid _ := fun (q r tk : List Int) (hd : DM p G L q r) (ht : Zm p (fun t => ev t tk - ev t q * ev t ls)) (htl : tk.length ≤ q.length + ls.length) => HNX.out G L gs ls q r tk HI.out h0 hd ht htl
      have hng' : Hid _ := hng
      have hnl' : Hid _ := hnl
      clear HI hnG hnL hng hnl HEN HG1
      go_wp2_with fail
      refine hD.mono ?_
      rintro e w2 ⟨x2, y2, rfl, ⟨q, r, hq, hr, hdm⟩, hb2⟩
      have hql := hdm.ql
      have hrl := hdm.lt
      have hnq := hdm.nq
      have HNX3 : Hid _ := fun (tk : List Int) (ht : Zm p (fun t => ev t tk - ev t q * ev t ls)) (htl : tk.length ≤ q.length + ls.length) => HNX2.out q r tk hdm ht htl
      clear hdm HNX2
      obtain ⟨qa, qc, rfl⟩ := hq.row.val
      obtain ⟨ra, rc, rfl⟩ := hr.row.val
      go_wp2_with fail
      refine (HMU.out w2 q ls _ _ hnq hnl'.out.1 (by omega) (by omega) hq.row (hls.below hb2)).mono ?_
      rintro e w3 ⟨tk, x3, rfl, hI3, hn3, hz3, hl3, hb3⟩
      have HN3 : Hid _ := HNX3.out tk hz3 hl3
      clear hz3 HNX3
      obtain ⟨ka, kc, rfl⟩ := hI3.row.val
      have hb23 := hb2.trans (hb3.mono hb2.size)
      go_wp2_with fail
      refine (HLT.out w3 gs tk _ _ hng'.out hn3 (by omega) (by omega) (hgs.below hb23) hI3.row).mono ?_
      rintro e w4 ⟨x4, rfl, hI4, hb4⟩
      simp only [Int.natCast_one] at hI4
      obtain ⟨sh, HSH⟩ : ∃ sh, Hid (ltm p gs tk 1 = sh) := ⟨_, rfl⟩
      rw [HSH.out] at hI4 HN3
      obtain ⟨ha, hcc, rfl⟩ := hI4.row.val
      have hb234 := hb23.trans (hb4.mono hb23.size)
      go_wp2
      go_roundw
      case rel => exact ⟨L, r, ls, sh, hL.below hb234, (hr.below (hb3.trans (hb4.mono hb3.size))).row, hls.below hb234, hI4.row, HN3, hbel.trans (hb234.mono hbel.size)⟩
      case measure => simp [lenV]; omega

set_option maxRecDepth 100000 in
set_option maxHeartbeats 4000000 in
theorem cofactors_any (p n : Nat) (F : List Int) (U : List (List Int)) (u v : Value) (w : World) (hu : RowN w u F) (hv : OwnVN 0 w v U) (hFl : F.length ≤ 11) (nF : Nrm p F) (hs : SpR p (fun t => ev t F) (lead F) n U) (hsq : Sq p (fun t => ev t F)) (hUl : U.length ≤ 11) (hUe : ∀ x, x ∈ U → x.length ≤ 11) (hp2 : 2 ≤ p) (hp1 : p < 1000) (hp : Dom (p : Int)) :
    Calls Tryz.prog 95 #[u, v, .int .i64 p] w fun e w' => ∃ x C, e = .returned x ∧ OwnVN w.heap.size w' x C ∧ C.length = U.length ∧ (∀ (i : Nat) (u c : List Int), U[i]? = some u → C[i]? = some c → CofR p (fun t => ev t F) u c) ∧ Below w.heap.size w w' := by
  obtain ⟨ua, uc, rfl⟩ := hu.val
  obtain ⟨va, vc, rfl⟩ := hv.val
  obtain ⟨CO, HCO⟩ : ∃ CO : List Int → List Int → Prop, Hid (CO = fun u c => CofR p (fun t => ev t F) u c) := ⟨_, rfl⟩
  have hgoal : (fun (e : Ending) (w' : World) => ∃ x C, e = .returned x ∧ OwnVN w.heap.size w' x C ∧ C.length = U.length ∧ (∀ (i : Nat) (u c : List Int), U[i]? = some u → C[i]? = some c → CofR p (fun t => ev t F) u c) ∧ Below w.heap.size w w') = fun e w' => ∃ x C, e = .returned x ∧ OwnVN w.heap.size w' x C ∧ C.length = U.length ∧ (∀ (i : Nat) (u c : List Int), U[i]? = some u → C[i]? = some c → CO u c) ∧ Below w.heap.size w w' := by rw [HCO.out]
  rw [hgoal]
  clear hgoal
  have HDI : Hid _ := fun (W : World) (b : List Int) (y : Value) (hb : b ∈ U) (hW : Below w.heap.size w W) (hy : RowN W y b) => divM_any p F b _ y W (hu.below hW) hy (by omega) (by have := hUe b hb; omega) hp2 hp1 hp nF.1 (hs.mem b hb).1.nrm (hs.mem b hb).1.ne
  have HIM : Hid (∀ (W : World) (b q r : List Int) (x y : Value), b ∈ U → DM p F b q r → RowN W x q → RowN W y b → Calls Tryz.prog 120 #[x, y, .int .i64 p] W fun e w' => ∃ x r, e = .returned x ∧ OwnN W.heap.size w' x r ∧ CO b r ∧ Below W.heap.size W w') := fun W b q r x y hb hd hx hy => by
    obtain ⟨h1, h2⟩ := hs.others hp hsq hb hd
    have hql := hd.ql
    refine (inverseModulo_any p q b x y W hx hy (by omega) (by have := hUe b hb; omega) hd.nq (hs.mem b hb).1.nrm (hs.mem b hb).1.ne hp2 hp1 hp h2).mono ?_
    rintro e w' ⟨x', r', rfl, h3, h4, h5⟩
    refine ⟨x', r', rfl, h3, ?_, h5⟩
    rw [HCO.out]
    exact CofR.of h1 h4
  clear hs hsq hp nF
  go_enter Tryz.func95, Tryz.ntmps95
  go_wp2_with fail
  have hbA := (Below.refl w.heap.size w).alloc (Nat.le_refl _) (Obj.cells #[] 42)
  have hlitA : OwnVN w.heap.size (w.alloc (Obj.cells #[] 42)) (.slice (some ⟨w.heap.size, 0, none⟩) 0 0) [] := OwnV.lit rfl
  generalize w.alloc (Obj.cells #[] 42) = W0 at *
  go_loopw [7, 8] (fun o i wr => ∃ (j : Nat) (C : List (List Int)), j ≤ U.length ∧ i = .int .i64 j ∧ OwnVN w.heap.size wr o C ∧ C.length ≤ j ∧ Hid (C.length = j) ∧ Hid (∀ (i : Nat) (u c : List Int), U[i]? = some u → C[i]? = some c → CO u c) ∧ Below w.heap.size w wr) (fun _ i _ => U.length - (intOf i).toNat)
  case atStart => exact ⟨0, [], Nat.zero_le _, rfl, hlitA, Nat.le_refl _, rfl, fun i u c h1 h2 => (by simp at h2), hbA⟩
  case round =>
    clear hlitA hbA
    obtain ⟨j, C, hj, rfl, hown, hCl, HCl, HC, hbel⟩ := hrel
    obtain ⟨oa, oc, rfl⟩ := hown.val
    by_cases hlt : j < U.length
    · obtain ⟨g, xa, xn, xc, b, rfl, hc1, hc2, hg1, _, hcell, hbm, hrow⟩ := OwnV.at vecN hv j hlt
      have hcell' : wr.cell? ⟨g, j, none⟩ = some (.slice xa xn xc) := (hbel.cell (p := ⟨g, j, none⟩) hg1).trans hcell
      have hb := List.mem_of_getElem? hbm
      have hD := HDI.out wr b _ hb hbel (hrow.below hbel)
      have HIM2 : Hid _ := fun (W : World) (q r : List Int) (x y : Value) => HIM.out W b q r x y hb
      have HBM : Hid _ := hbm
      clear hb hbm
      go_wp2_with fail
      refine hD.mono ?_
      rintro e w2 ⟨x2, y2, rfl, ⟨q, r, hq, hr, hdm⟩, hb2⟩
      obtain ⟨qa, qc, rfl⟩ := hq.row.val
      obtain ⟨ra, rc, rfl⟩ := hr.row.val
      have hb2w := hbel.trans (hb2.mono hbel.size)
      have hI2 := HIM2.out w2 q r _ _ hdm hq.row (hrow.below hb2w)
      clear hdm HIM2
      have hcell2 : w2.cell? ⟨g, j, none⟩ = some (.slice xa xn xc) := (hb2w.cell (p := ⟨g, j, none⟩) hg1).trans hcell
      go_wp2_with fail
      refine hI2.mono ?_
      rintro e w3 ⟨x3, c, rfl, hI3, hco, hb3⟩
      have HCOc : Hid _ := hco
      clear hco
      obtain ⟨ca, cc, rfl⟩ := hI3.row.val
      have hb23 := hb2.trans (hb3.mono hb2.size)
      have hb3w := hbel.trans (hb23.mono hbel.size)
      go_wp2_with (at_builtin; refine wpList_pushV vecN Tryz.infoVN Tryz.sliceVN rfl (.tmp 28) (.tmp 36) rfl w.heap.size _ C _ c rfl (OwnV.below vecN hown hb23) hI3.row rfl (by omega) hb3w.size ?_)
      intro v4 w4 hown4 hb4 hg4
      have HC' : Hid (∀ (i : Nat) (u c' : List Int), U[i]? = some u → (C ++ [c])[i]? = some c' → CO u c') := fun i u c' h1 h2 => by
        by_cases hi : i < C.length
        · rw [List.getElem?_append_left hi] at h2
          exact HC.out i u c' h1 h2
        · rw [List.getElem?_append_right (by omega)] at h2
          have h0 : i - C.length = 0 := by
            rcases Nat.eq_zero_or_pos (i - C.length) with h0 | h0
            · exact h0
            · rw [List.getElem?_eq_none (by simp; omega)] at h2; simp at h2
          rw [h0] at h2
          simp at h2
          subst h2
          have : i = j := by have := HCl.out; omega
          subst this
          obtain rfl : b = u := Option.some.inj (HBM.out.symm.trans h1)
          exact HCOc.out
      have HCl' : Hid ((C ++ [c]).length = j + 1) := by show _ = _; have := HCl.out; simp; omega
      have hCl' : (C ++ [c]).length ≤ j + 1 := by simp; omega
      clear HC HCl HBM
      go_wp2
      go_roundw
      case rel => exact ⟨j + 1, C ++ [c], by omega, by go_num, hown4, hCl', HCl', HC', hb3w.trans hb4⟩
      case measure => simp [intOf]; omega
    · obtain rfl : j = U.length := by omega
      go_wp2
      go_ret
      first | exact ⟨_, C, rfl, hown, HCl.out, HC.out, hbel⟩ | exact ⟨_, rfl, C, hown, HCl.out, HC.out, hbel⟩

end Go.Proofs.YtldcjkhbiffdoabGreatDoor

namespace Go.Proofs.YtldcjkhbiffdoabGreatDoor
open Go.RowKit

set_option maxRecDepth 100000 in
set_option maxHeartbeats 4000000 in
theorem splitBy_any (p : Nat) (U : List (List Int)) (b : List Int) (u v : Value) (w : World) (hu : OwnVN 0 w u U) (hv : RowN w v b) (hUl : U.length ≤ 900) (hU : ∀ x, x ∈ U → Prt p x ∧ x.length ≤ 400) (hb : Nrm p b) (hbl : b.length ≤ 400) (hp2 : 2 ≤ p) (hp1 : p < 1000) (hp : Dom (p : Int)) (hfix : ∀ x, x ∈ U → Di p (fun t => ev t x) (fun t => ev (t ^ p) b - ev t b)) :
    Calls Tryz.prog 91 #[u, v, .int .i64 p] w fun e w' => ∃ x V, e = .returned x ∧ OwnVN w.heap.size w' x V ∧ SbO p U b U.length V ∧ Below w.heap.size w w' := by
  obtain ⟨ua, uc, rfl⟩ := hu.val
  obtain ⟨va, vc, rfl⟩ := hv.val
  have HLT : Hid _ := fun (W : World) (k : Nat) (y : Value) (hk : k ≤ p) (hW : Below w.heap.size w W) (hy : RowN W y [1]) => lessM_any p b [1] k _ y W (hv.below hW) hy (by omega) (by simp) (by omega) hp1 hk hb.1 (nrm1 hp2).1
  have HGC : Hid _ := fun (W : World) (a c : List Int) (x y : Value) (ha : Prt p a) (hal : a.length ≤ 400) (hc : Nrm p c) (hcl : c.length ≤ 400) (hx : RowN W x a) (hy : RowN W y c) => gcdM_any p a c x y W hx hy (by omega) (by omega) hp2 hp1 hp ha.nrm hc (.inl ha.ne)
  have HST : Hid _ := fun (x g : List Int) (F : List (List Int)) (n : Nat) (h : SbI p x b F n) (hg : GM p x (ltm p b [1] (n : Int)) g) => SbI.step h (ltm_zm b [1] (n : Int)) hg
  have HEN : Hid _ := fun (i : Nat) (V F : List (List Int)) (x : List Int) (h : SbO p U b i V) (hx : U[i]? = some x) (hF : SbI p x b F p) => SbO.step h hx hF (SbI.ends hp2 hp hF (hU x (List.mem_of_getElem? hx)).1 hb (hfix x (List.mem_of_getElem? hx)))
  have HNR : Hid _ := fun (k : Int) => ltm_nrm (p := p) (by omega) b [1] k
  have HLN : Hid (∀ k : Int, (ltm p b [1] k).length ≤ 400 ∨ b = []) := fun k => by
    by_cases h : b = []
    · exact .inr h
    · left
      have := ltm_len p b [1] k
      have := List.length_pos_iff.2 h
      simp at *
      omega
  have HLN2 : Hid (∀ k : Int, (ltm p b [1] k).length ≤ 400) := fun k => by
    have := ltm_len p b [1] k
    simp at this
    omega
  have HU : Hid _ := hU
  clear hp hfix hU hb HLN
  go_enter Tryz.func91, Tryz.ntmps91
  go_wp2_with fail
  have hbA := (Below.refl w.heap.size w).alloc (Nat.le_refl _) (Obj.cells #[] 42)
  have hlitA : OwnVN w.heap.size (w.alloc (Obj.cells #[] 42)) (.slice (some ⟨w.heap.size, 0, none⟩) 0 0) [] := OwnV.lit rfl
  generalize w.alloc (Obj.cells #[] 42) = W0 at *
  go_loopw [7, 8] (fun o i wr => ∃ (j : Nat) (V : List (List Int)), j ≤ U.length ∧ i = .int .i64 j ∧ OwnVN w.heap.size wr o V ∧ Hid (SbO p U b j V) ∧ Below w.heap.size w wr) (fun _ i _ => U.length - (intOf i).toNat)
  case atStart => exact ⟨0, [], Nat.zero_le _, rfl, hlitA, SbO.start p U b, hbA⟩
  case round =>
    clear hlitA hbA
    obtain ⟨j, V, hj, rfl, hown, HO, hbel⟩ := hrel
    obtain ⟨oa, oc, rfl⟩ := hown.val
    by_cases hlt : j < U.length
    · obtain ⟨g, xa, xn, xc, x, rfl, hc1, hc2, hg1, _, hcell, hx, hrow⟩ := OwnV.at vecN hu j hlt
      obtain ⟨hxp, hxl⟩ := HU.out x (List.mem_of_getElem? hx)
      have HXP : Hid _ := hxp
      have hVl : V.length ≤ 900000 := by
        have h1 := HO.out.len
        have h2 : p * j ≤ 999 * 900 := Nat.mul_le_mul (by omega) (by omega)
        omega
      have HEX : Hid _ := fun (F : List (List Int)) (hF : SbI p x b F p) => HEN.out j V F x HO.out hx hF
      clear hxp HO hx
      go_wp2_with fail
      have hwo : ∃ wo : World, wo = wr := ⟨_, rfl⟩
      obtain ⟨wo, rfl⟩ := hwo
      go_loopw [7, 9] (fun o i wq => ∃ (k : Nat) (F : List (List Int)), k ≤ p ∧ i = .int .i64 k ∧ F.length ≤ k ∧ OwnVN w.heap.size wq o (V ++ F) ∧ Hid (SbI p x b F k) ∧ Below w.heap.size w wq) (fun _ i _ => p - (intOf i).toNat)
      case atStart => exact ⟨0, [], Nat.zero_le _, rfl, Nat.zero_le _, by rw [List.append_nil]; exact hown, SbI.start p x b, hbel⟩
      case round =>
        clear hown hbel
        obtain ⟨k, F, hk, rfl, hFl, hown, HF, hbel⟩ := hrel
        obtain ⟨oa', oc', hoe⟩ := hown.val
        subst hoe
        have hcell' : wr.cell? ⟨g, j, none⟩ = some (.slice xa xn xc) := (hbel.cell (p := ⟨g, j, none⟩) hg1).trans hcell
        have hrow' := hrow.below hbel
        by_cases hlt2 : k < p
        · have HSX : Hid _ := fun (g : List Int) (hg : GM p x (ltm p b [1] (k : Int)) g) => HST.out x g F k HF.out hg
          have hnr := HNR.out (k : Int)
          have hln := HLN2.out (k : Int)
          have HLT2 : Hid _ := fun (W : World) (y : Value) (hW : Below w.heap.size w W) (hy : RowN W y [1]) => HLT.out W k y (by omega) hW hy
          obtain ⟨M, HM⟩ : ∃ M, Hid (ltm p b [1] (k : Int) = M) := ⟨_, rfl⟩
          rw [HM.out] at HSX hnr hln HLT2
          have hnr' : Hid _ := hnr
          have hVFl : (V ++ F).length ≤ 1000000 := by rw [List.length_append]; omega
          obtain ⟨VF, HVF⟩ : ∃ VF, Hid (V ++ F = VF) := ⟨_, rfl⟩
          rw [HVF.out] at hown hVFl ⊢
          clear HF hnr HM
          go_wp2_with fail
          obtain ⟨hlit, hb1⟩ := lit1 (w := wr) (k := 1)
          generalize wr.alloc (Obj.cells #[Value.int .i64 1] 3) = W1 at *
          have hb1w := hbel.trans (hb1.mono hbel.size)
          refine (HLT2.out W1 _ hb1w hlit.row).mono ?_
          rintro e w2 ⟨x2, rfl, hI2, hb2⟩
          obtain ⟨ya, yc, rfl⟩ := hI2.row.val
          have hb12 := hb1.trans (hb2.mono hb1.size)
          have hcell2 : w2.cell? ⟨g, j, none⟩ = some (.slice xa xn xc) := ((hbel.trans (hb12.mono hbel.size)).cell (p := ⟨g, j, none⟩) hg1).trans hcell
          go_wp2_with fail
          refine (HGC.out w2 x M _ _ HXP.out hxl hnr'.out hln (hrow'.below hb12) hI2.row).mono ?_
          rintro e w3 ⟨gg, x3, rfl, hI3, hgm, hgl, hb3⟩
          obtain ⟨za, zc, rfl⟩ := hI3.row.val
          have HN := HSX.out gg hgm
          have hb123 := hb12.trans (hb3.mono hb12.size)
          have hb3w := hbel.trans (hb123.mono hbel.size)
          have hown3 := OwnV.below vecN hown hb123
          clear hgm
          by_cases hg2 : 1 < gg.length
          · rw [if_pos hg2] at HN
            have HN' : Hid _ := HN
            clear HN
            go_wp2_with (at_builtin; refine wpList_pushV vecN Tryz.infoVN Tryz.sliceVN rfl (.tmp 39) (.tmp 41) rfl w.heap.size _ VF _ gg rfl hown3 hI3.row rfl (by omega) hb3w.size ?_)
            intro v4 w4 hown4 hb4 hg4
            rw [← HVF.out, List.append_assoc] at hown4
            go_wp2
            go_roundw
            case rel => exact ⟨k + 1, F ++ [gg], by omega, by go_num, by simp; omega, hown4, HN', hb3w.trans hb4⟩
            case measure => simp [intOf]; omega
          · rw [if_neg hg2] at HN
            have HN' : Hid _ := HN
            clear HN
            rw [← HVF.out] at hown3
            have hg2' : ¬ (1 : Int) < (gg.length : Int) := by omega
            go_wp2
            go_roundw
            case rel => exact ⟨k + 1, F, by omega, by go_num, by omega, by rw [HVF.out] at hown3 ⊢; exact hown3, HN', hb3w⟩
            case measure => simp [intOf]; omega
        · obtain rfl : p = k := by omega
          have HE : Hid _ := HEX.out F HF.out
          clear HF
          go_wp2
          go_roundw
          case rel => exact ⟨j + 1, V ++ F, by omega, by go_num, hown, HE, hbel⟩
          case measure => simp [intOf]; omega
    · obtain rfl : j = U.length := by omega
      go_wp2
      go_ret
      exact ⟨_, V, rfl, hown, HO.out, hbel⟩

set_option maxRecDepth 100000 in
set_option maxHeartbeats 4000000 in
theorem split_any (p : Nat) (f : List Int) (u : Value) (w : World) (hu : RowN w u f) (hl : f.length ≤ 400) (hl2 : 2 ≤ f.length) (hp2 : 2 ≤ p) (hp1 : p < 1000) (hp : Dom (p : Int)) (nf : Nrm p f) (hsq : Sq p (fun t => ev t f)) :
    Calls Tryz.prog 67 #[u, .int .i64 p] w fun e w' => ∃ x U, e = .returned x ∧ OwnVN w.heap.size w' x U ∧ SpR p (fun t => ev t f) (lead f) (f.length - 1) U ∧ U ≠ [] ∧ Below w.heap.size w w' := by
  obtain ⟨ua, uc, rfl⟩ := hu.val
  have hfn : f ≠ [] := by intro e; subst e; simp at hl2
  obtain ⟨_, _, _, hnc⟩ := nf.ld hfn
  have hfd := nf.dm hfn
  have HMO := monic_any p f _ w hu (by omega) hp2 hp1 hp nf hfn
  have HFB : Hid _ := fun (W : World) (hW : Below w.heap.size w W) => fixedBasis_any p f _ W (hu.below hW) hl hl2 hp2 hp1 hp nf
  have HST : Hid _ := fun (B : List (List Int)) (g : List Int) (hm : MonO p f g) => SplO.start B nf (by omega) hm
  have HSB : Hid _ := fun (W : World) (B U : List (List Int)) (i : Nat) (b : List Int) (x y : Value) (hB : FixB p (f.length - 1) (fun t => ev t f) B) (h : SplO p (fun t => ev t f) (lead f) B i U) (hb : b ∈ B) (hx : OwnVN 0 W x U) (hy : RowN W y b) (hUl : U.length ≤ 900) (hUe : ∀ z, z ∈ U → z.length ≤ 400) => splitBy_any p U b x y W hx hy hUl (fun z hz => ⟨(h.mem z hz).1, hUe z hz⟩) (hB.mem b hb).1 (by have := (hB.mem b hb).2.1; omega) hp2 hp1 hp (fun z hz => h.fix hB hz hb)
  have HEND : Hid _ := fun (B U : List (List Int)) (i : Nat) (hB : FixB p (f.length - 1) (fun t => ev t f) B) (h : SplO p (fun t => ev t f) (lead f) B i U) (he : B.length ≤ i ∨ B.length ≤ U.length) => SplO.ends hp2 hp h hfd hsq hB hnc he
  have HCNT : Hid _ := fun (B U : List (List Int)) (i : Nat) (hB : FixB p (f.length - 1) (fun t => ev t f) B) (h : SplO p (fun t => ev t f) (lead f) B i U) => SplO.count hp2 hp h hfd hsq hB hnc
  have HLEN : Hid (∀ (B U : List (List Int)) (i : Nat) (z : List Int), SplO p (fun t => ev t f) (lead f) B i U → z ∈ U → z.length ≤ 400) := fun B U i z h hz => by
    obtain ⟨_, _, j, _, _, e, _⟩ := ((h.di hz).dv hp).deg hp ((h.mem z hz).1.nrm.dm (h.mem z hz).1.ne) hfd
    omega
  have HNE : Hid (∀ (B U : List (List Int)) (i : Nat), SplO p (fun t => ev t f) (lead f) B i U → U ≠ []) := fun B U i h e => by
    subst e
    have h1 : Zm p (fun t => ev t f - lead f) := h.eq.congr fun t => by simp [fs, pA]
    have h2 := (Dm.of_ld (Ld.const (lead f)) hnc).alike h1
    have := hfd.uniq h2
    omega
  clear hfd hnc hsq nf hfn hp
  go_enter Tryz.func67, Tryz.ntmps67
  go_wp2_with fail
  refine HMO.mono ?_
  rintro e w1 ⟨g, x1, rfl, hI1, hm1, hb1⟩
  have HS0 : Hid _ := fun (B : List (List Int)) => HST.out B g hm1
  clear hm1 HMO
  obtain ⟨xa, xc, rfl⟩ := hI1.row.val
  go_wp2_with fail
  have hone := OwnV.one vecN (w := w1) rfl hI1.row
  have hbA := (Below.refl w1.heap.size w1).alloc (Nat.le_refl _) (Obj.cells #[Value.slice xa g.length xc] 42)
  generalize w1.alloc (Obj.cells #[Value.slice xa g.length xc] 42) = W1 at *
  have hbA1 := hb1.trans (hbA.mono hb1.size)
  refine (HFB.out W1 hbA1).mono ?_
  rintro e w2 ⟨x2, B, rfl, hB2, hfb, hb2⟩
  obtain ⟨ya, yc, rfl⟩ := hB2.val
  have hBl := hfb.len
  have HB : Hid _ := hfb
  clear hfb
  have hb2w := hbA1.trans (hb2.mono hbA1.size)
  have hone2 := OwnV.below vecN hone hb2
  go_wp2_with fail
  go_loopw [5, 7] (fun o i wr => ∃ (j : Nat) (U : List (List Int)), j ≤ B.length ∧ i = .int .i64 j ∧ OwnVN w.heap.size wr o U ∧ Hid (SplO p (fun t => ev t f) (lead f) B j U) ∧ Below w2.heap.size w2 wr) (fun _ i _ => B.length - (intOf i).toNat)
  case atStart => exact ⟨0, [g], Nat.zero_le _, rfl, hone2.lower hb1.size, HS0.out B, Below.refl _ _⟩
  case round =>
    clear hone2 hone
    obtain ⟨j, U, hj, rfl, hown, HO, hbel⟩ := hrel
    obtain ⟨oa, oc, rfl⟩ := hown.val
    have hcnt := HCNT.out B U j HB.out HO.out
    have hbw := hb2w.trans (hbel.mono hb2w.size)
    by_cases hlt : j < B.length ∧ U.length < B.length
    · obtain ⟨hlt1, hlt2⟩ := hlt
      obtain ⟨gb, ba, bn, bc, b, rfl, hc1, hc2, hg1, _, hcell, hbm, hrow⟩ := OwnV.at vecN hB2 j hlt1
      have hcell' : wr.cell? ⟨gb, j, none⟩ = some (.slice ba bn bc) := (hbel.cell (p := ⟨gb, j, none⟩) hg1).trans hcell
      have hS := HSB.out wr B U j b _ _ HB.out HO.out (List.mem_of_getElem? hbm) (hown.lower (Nat.zero_le _)) (hrow.below hbel) (by omega) (fun z hz => HLEN.out B U j z HO.out hz)
      have HNX : Hid _ := fun (V : List (List Int)) (h : SbO p U b U.length V) => SplO.next HO.out hbm h
      clear HO hbm
      go_wp2_with fail
      refine hS.mono ?_
      rintro e w3 ⟨x3, V, rfl, hown3, hV, hb3⟩
      have HN : Hid _ := HNX.out V hV
      clear hV HNX
      obtain ⟨za, zc, rfl⟩ := hown3.val
      go_wp2
      go_roundw
      case rel => exact ⟨j + 1, V, by omega, by go_num, hown3.lower hbw.size, HN, hbel.trans (hb3.mono hbel.size)⟩
      case measure => simp [intOf]; omega
    · have hE : SpR p (fun t => ev t f) (lead f) (f.length - 1) U := HEND.out B U j HB.out HO.out (by omega)
      have HE : Hid _ := hE
      have HN : Hid _ := HNE.out B U j HO.out
      clear hE HO
      by_cases hj2 : j < B.length
      · have hlt2 : ¬ (U.length : Int) < (B.length : Int) := by omega
        go_wp2
        go_ret
        first | exact ⟨_, U, rfl, hown, HE.out, HN.out, hbw⟩ | exact ⟨_, rfl, U, hown, HE.out, HN.out, hbw⟩
      · obtain rfl : j = B.length := by omega
        go_wp2
        go_ret
        first | exact ⟨_, U, rfl, hown, HE.out, HN.out, hbw⟩ | exact ⟨_, rfl, U, hown, HE.out, HN.out, hbw⟩

end Go.Proofs.YtldcjkhbiffdoabGreatDoor

namespace Go.Proofs.YtldcjkhbiffdoabGreatDoor
open Go.RowKit

theorem map_mul_getD (zs : List Int) (z : Int) (k : Nat) : (zs.map fun x => x * z).getD k 0 = zs.getD k 0 * z := by
  rcases Nat.lt_or_ge k zs.length with h | h
  · simp [List.getD, List.getElem?_map, List.getElem?_eq_getElem h]
  · rw [getD_out (by simpa using h), getD_out h]; simp

theorem rest1_same (R b : List Int) (n : Nat) :
    (tab (max (List.replicate 0 0 ++ R.map fun x => x * lead b).length (List.replicate n 0 ++ b.map fun x => x * R.getD (n + b.length - 1) 0).length) fun k => (List.replicate 0 0 ++ R.map fun x => x * lead b).getD k 0 - (List.replicate n 0 ++ b.map fun x => x * R.getD (n + b.length - 1) 0).getD k 0) = rest1 R b n := by
  have h1 : (List.replicate 0 0 ++ R.map fun x => x * lead b).length = R.length := by simp
  have h2 : (List.replicate n 0 ++ b.map fun x => x * R.getD (n + b.length - 1) 0).length = n + b.length := by simp
  unfold rest1
  rw [h1, h2]
  unfold tab
  refine List.map_congr_left fun k _ => ?_
  rw [getD_rep_app, getD_rep_app, map_mul_getD, map_mul_getD]
  simp only [Nat.not_lt_zero, if_false, Nat.sub_zero]
  by_cases h : k < n
  · rw [if_pos h, if_neg (by omega)]
  · rw [if_neg h, if_pos (by omega)]

theorem Bd.timesW {zs : List Int} {z : Int} {e f n : Nat} (h : Bd zs e) (hz : z.natAbs < 10 ^ f) : Bd (List.replicate n 0 ++ zs.map fun x => x * z) (e + f) := by
  intro k
  rw [getD_rep_app]
  split
  · exact Nat.pow_pos (by omega)
  · rw [map_mul_getD, Int.natAbs_mul, Nat.pow_add]
    exact Nat.mul_lt_mul'' (h _) hz

set_option maxRecDepth 100000 in
set_option maxHeartbeats 4000000 in
theorem restOf_any (A0 b : List Int) (e f : Nat) (u v : Value) (w : World) (hu : IsL w u A0) (hv : IsL w v b) (hl : A0.length ≤ 100) (hm : b.length ≤ 100) (fx : Bd A0 e) (fy : Bd b f) (he : e + (A0.length + 1 - b.length) * (f + 1) + f ≤ 70000000) (ta : Tr A0) (tb : Tr b) (hb0 : b ≠ []) (hp : prim A0 = A0) :
    Calls Tryz.prog 79 #[u, v] w fun en w' => ∃ x R, en = .returned x ∧ IsL w' x R ∧ R.length ≤ A0.length ∧ RO b A0 R 0 ∧ Bd R (e + (A0.length + 1 - b.length) * (f + 1)) ∧ Below w.heap.size w w' := by
  obtain ⟨ua, uc, rfl⟩ := OwnL.val hu
  obtain ⟨va, vc, rfl⟩ := OwnL.val hv
  have hbl := List.length_pos_iff.2 hb0
  obtain ⟨N, HN⟩ : ∃ N, Hid (A0.length + 1 - b.length = N) := ⟨_, rfl⟩
  have hstart := RO.start (b := b) ta hp
  rw [HN.out] at hstart he ⊢
  have hNl : N ≤ A0.length := by have := HN.out; omega
  have hNa : 0 < N → N + b.length = A0.length + 1 := by have := HN.out; omega
  have hNb : N = 0 → A0.length < b.length := by have := HN.out; omega
  have HST : Hid (RO b A0 A0 N ∧ Bd A0 (e + (N - N) * (f + 1))) := ⟨hstart, fx.mono (by omega)⟩
  obtain ⟨T, HT⟩ : ∃ T : World → Value → Prop, Hid (T = fun w' x => ∃ R, IsL w' x R ∧ R.length ≤ A0.length ∧ RO b A0 R 0 ∧ Bd R (e + N * (f + 1))) := ⟨_, rfl⟩
  have hgoal : (fun en w' => ∃ x R, en = Ending.returned x ∧ IsL w' x R ∧ R.length ≤ A0.length ∧ RO b A0 R 0 ∧ Bd R (e + N * (f + 1)) ∧ Below w.heap.size w w') = fun en w' => ∃ x, en = Ending.returned x ∧ T w' x ∧ Below w.heap.size w w' := by
    funext en w'
    rw [HT.out]
    apply propext
    constructor
    · rintro ⟨x, R, h1, h2, h3, h4, h5, h6⟩; exact ⟨x, h1, ⟨R, h2, h3, h4, h5⟩, h6⟩
    · rintro ⟨x, h1, ⟨R, h2, h3, h4, h5⟩, h6⟩; exact ⟨x, R, h1, h2, h3, h4, h5, h6⟩
  rw [hgoal]
  clear hgoal hstart
  have hN1 := numberAt_any b (.slice va b.length vc) (b.length - 1) w hv
  obtain ⟨m2, HM2⟩ : ∃ m, Hid (b.length - 1 = m) := ⟨_, rfl⟩
  have hm2 : (b.length : Int) - 1 = m2 := by have := HM2.out; omega
  have hlead : b.getD (b.length - 1) 0 = lead b := rfl
  rw [hlead, HM2.out] at hN1
  have flb : (lead b).natAbs < 10 ^ f := fy.lead
  clear hlead
  go_enter Tryz.func79, Tryz.ntmps79
  go_wp2_with fail
  refine hN1.mono ?_
  rintro en w1 ⟨x1, rfl, hI1, hb1⟩
  obtain ⟨b1, a1, n1, c1, rfl⟩ := hI1.form
  go_wp2_with fail
  generalize hW2 : w1.alloc (Obj.cells #[Value.bool b1, Value.slice a1 n1 c1] 70) = W2
  obtain ⟨hb2, X2⟩ := one_new hW2
  clear hW2
  have hbw2 := hb1.trans (hb2.mono hb1.size)
  have K2 : IsB W2 w1.heap.size (lead b) := ⟨_, _, X2, hI1.below hb2⟩
  have hkm := hb1.size
  clear X2 hI1 hb1 hb2 hN1
  generalize w1.heap.size = kb at *
  go_loopw [6, 7] (fun r i wr => ∃ (n : Nat) (R : List Int) (ii : Int), i = .int .i64 ii ∧ (0 < n → ii = (n : Int) - 1) ∧ (n = 0 → ii < 0) ∧ -1000 ≤ ii ∧ n ≤ N ∧ IsL wr r R ∧ R.length ≤ A0.length ∧ Hid (RO b A0 R n ∧ Bd R (e + (N - n) * (f + 1))) ∧ IsB wr kb (lead b) ∧ Below w.heap.size w wr) (fun _ i _ => (intOf i + 1).toNat)
  case atStart => exact ⟨N, A0, (A0.length : Int) - b.length, rfl, fun h => by have := hNa h; omega, fun h => by have := hNb h; omega, by omega, Nat.le_refl _, OwnL.below hu hbw2, Nat.le_refl _, HST, K2, hbw2⟩
  case round =>
    clear K2 hbw2 HST
    obtain ⟨n, R, ii, rfl, hi1, hi2, hi3, hn, hR, hRl, HRO, hK, hbel⟩ := hrel
    obtain ⟨ra, rc, rfl⟩ := OwnL.val hR
    cases n with
    | zero =>
      have hneg := hi2 rfl
      have hro := HRO.out
      rw [Nat.sub_zero] at hro
      have HRO2 : Hid _ := hro
      clear HRO hro hi1 hi2
      go_wp2
      go_ret
      refine ⟨_, rfl, ?_, hbel⟩
      rw [HT.out]
      exact ⟨R, hR, hRl, HRO2.out.1, HRO2.out.2⟩
    | succ n =>
      obtain rfl : ii = (n : Int) := by have := hi1 (by omega); omega
      obtain ⟨E, HE⟩ : ∃ E, Hid (e + (N - (n + 1)) * (f + 1) = E) := ⟨_, rfl⟩
      have hbR := HRO.out.2
      rw [HE.out] at hbR
      have hE1 : E + (f + 1) ≤ e + N * (f + 1) := by
        have h1 : (N - (n + 1) + 1) * (f + 1) ≤ N * (f + 1) := Nat.mul_le_mul (by omega) (Nat.le_refl _)
        rw [Nat.succ_mul] at h1
        have := HE.out
        omega
      have hE2 : E + f + 1 = e + (N - n) * (f + 1) := by
        have h1 : N - n = N - (n + 1) + 1 := by omega
        rw [h1, Nat.succ_mul]
        have := HE.out
        omega
      have hnb : n + b.length ≤ A0.length := by have := hNa (by omega); omega
      have hnx : RO b A0 (rest1 R b n) n ∧ Bd (rest1 R b n) (e + (N - n) * (f + 1)) := ⟨HRO.out.1.next tb hb0, by rw [← hE2]; exact hbR.rest1 fy n⟩
      have hsame := rest1_same R b n
      have hlen1 : (rest1 R b n).length ≤ A0.length := by unfold rest1; rw [tab_len]; omega
      obtain ⟨q, HQ⟩ : ∃ q, Hid (n + b.length - 1 = q) := ⟨_, rfl⟩
      have hq1 : (n : Int) + b.length - 1 = q := by have := HQ.out; omega
      rw [HQ.out] at hsame
      have htop := numberAt_any R (.slice ra R.length rc) q wr hR
      have ftop := hbR q
      generalize R.getD q 0 = top at *
      have ht1 := fun (W : World) (v1 : Value) (g1 : IsL W (.slice va b.length vc) b) (g2 : IsI W v1 top) => times_any b top f E n (.slice va b.length vc) v1 W g1 g2 (by omega) (by omega) fy ftop (by omega) (by omega)
      have ht2 := fun (W : World) (v1 : Value) (g1 : IsL W (.slice ra R.length rc) R) (g2 : IsI W v1 (lead b)) => times_any R (lead b) E f 0 (.slice ra R.length rc) v1 W g1 g2 (by omega) (by omega) hbR flb (by omega) (by omega)
      have hdf := fun (W : World) (u1 u2 : Value) (g1 : IsL W u1 (List.replicate 0 0 ++ R.map fun x => x * lead b)) (g2 : IsL W u2 (List.replicate n 0 ++ b.map fun x => x * top)) => pdiff_any _ _ u1 u2 W g1 g2 (by simp; omega) (by simp; omega) ((hbR.timesW flb).fitW (by omega)) ((fy.timesW ftop).fitW (by omega))
      rw [hsame] at hdf
      have HT1 : Hid _ := ht1
      have HT2 : Hid _ := ht2
      have HDF : Hid _ := hdf
      have HNX : Hid _ := hnx
      clear ht1 ht2 hdf hnx hsame HRO hbR hE1 hE2 ftop hi1 hi2 hi3
      generalize rest1 R b n = R2 at *
      generalize (List.replicate 0 0 ++ R.map fun x => x * lead b) = L1 at *
      generalize (List.replicate n 0 ++ b.map fun x => x * top) = L2 at *
      obtain ⟨lb, la, ln, lc, K0, hKI⟩ := hK.open
      go_wp2_with fail
      refine htop.mono ?_
      rintro en w3 ⟨x3, rfl, hI3, hb3⟩
      obtain ⟨b3, a3, n3, c3, rfl⟩ := hI3.form
      go_wp2_with fail
      generalize hW4 : w3.alloc (Obj.cells #[Value.bool b3, Value.slice a3 n3 c3] 70) = W4
      obtain ⟨hb4, _⟩ := one_new hW4
      clear hW4
      have hb4w := hb3.trans (hb4.mono hb3.size)
      have hbw4 := hbel.trans (hb4w.mono hbel.size)
      refine (HT1.out W4 _ (OwnL.below hv hbw4) (hI3.below hb4)).mono ?_
      rintro en w5 ⟨x5, rfl, hI5, hb5⟩
      obtain ⟨a5, c5, rfl⟩ := OwnL.val hI5
      have hb5w := hb4w.trans (hb5.mono hb4w.size)
      have K5 := K0.below hb5w
      have k0 := K5.c0; have k1 := K5.c1
      go_wp2_with fail
      refine (HT2.out w5 _ (OwnL.below hR hb5w) (hKI.below hb5w)).mono ?_
      rintro en w6 ⟨x6, rfl, hI6, hb6⟩
      obtain ⟨a6, c6, rfl⟩ := OwnL.val hI6
      have hb6w := hb5w.trans (hb6.mono hb5w.size)
      clear k0 k1
      go_wp2_with fail
      refine (HDF.out w6 _ _ hI6.isL (OwnL.below hI5 hb6).isL).mono ?_
      rintro en w7 ⟨x7, rfl, hI7, hb7⟩
      obtain ⟨a7, c7, rfl⟩ := OwnL.val hI7
      have hb7w := hb6w.trans (hb7.mono hb6w.size)
      have hK7 := hK.below hb7w
      go_wp2
      go_roundw
      case rel => exact ⟨n, R2, (n : Int) - 1, by go_num, fun _ => rfl, fun h => by omega, by omega, by omega, hI7.isL, hlen1, HNX, hK7, hbel.trans (hb7w.mono hbel.size)⟩
      case measure => simp [intOf]

end Go.Proofs.YtldcjkhbiffdoabGreatDoor
