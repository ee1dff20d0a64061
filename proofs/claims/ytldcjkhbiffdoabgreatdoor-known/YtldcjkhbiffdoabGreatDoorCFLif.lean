import Derived.Test.YtldcjkhbiffdoabGreatDoorCFMis
import Derived.Test.YtldcjkhbiffdoabGreatDoorM22
import Derived.Test.YtldcjkhbiffdoabGreatDoorM25
import Derived.Test.YtldcjkhbiffdoabGreatDoorM20

set_option linter.unusedSimpArgs false
namespace Go.Proofs.YtldcjkhbiffdoabGreatDoor
open Go.RowKit

theorem ups_snoc {A R : List (List Int)} {l r : List Int} {M : Int} (h : A.length = R.length) : ups (A ++ [l]) (R ++ [r]) M = ups A R M ++ [up l r M] := by
  unfold ups
  rw [List.zipWith_append h]
  rfl

theorem ev_exact {M : Int} (hM : M ≠ 0) {l : List Int} {g : Int → Int} (hg : Po g) (h : ∀ t, ev t l = M * g t) : ∀ t, ev t l = M * ev t (l.map fun z => z.tdiv M) := by
  intro t
  obtain ⟨n, G, _, h2⟩ := hg
  have h3 : ∀ k, l.getD k 0 = M * G.getD k 0 := fun k => by
    rw [← scal_getD]
    exact ev_ext 0 (fun t _ => by rw [h, ev_scal, h2]) k
  rw [← ev_scal]
  refine ev_of_getD (fun k => ?_) t
  rw [scal_getD]
  have h4 : (l.map fun z => z.tdiv M).getD k 0 = (l.getD k 0).tdiv M := by
    rcases Nat.lt_or_ge k l.length with hk | hk
    · simp [List.getD, List.getElem?_eq_getElem hk]
    · rw [getD_out (by simpa using hk), getD_out hk]; simp
  rw [h4, h3, Int.mul_tdiv_cancel_left _ hM]

def misL (F : List Int) (Λ : List (List Int)) (M : Int) : List Int := (tab (max F.length (prS (lead F) Λ Λ.length).length) fun k => F.getD k 0 - (prS (lead F) Λ Λ.length).getD k 0).map fun z => z.tdiv M

theorem LiO.miss {p n k : Nat} (hp2 : 2 ≤ p) (hp : Dom (p : Int)) {F : List Int} {U Λ : List (List Int)} (h : LiO p F U k Λ) (hs : SpR p (fun t => ev t F) (lead F) n U) (hF : F ≠ []) (hnc : ¬ (p : Int) ∣ lead F) :
    (∀ t, ev t F - lead F * pA (fs Λ) t = (p : Int) ^ k * ev t (misL F Λ ((p : Int) ^ k))) ∧ (redL p (misL F Λ ((p : Int) ^ k))).length ≤ F.length - 1 := by
  have hpk : (p : Int) ^ k ≠ 0 := Int.pow_ne_zero (by omega)
  have hF0 := List.length_pos_iff.2 hF
  have hex : ∀ t, ev t (tab (max F.length (prS (lead F) Λ Λ.length).length) fun k => F.getD k 0 - (prS (lead F) Λ Λ.length).getD k 0) = ev t F - lead F * pA (fs Λ) t := fun t => by
    have h1 := prS_ev (lead F) Λ t Λ.length (Nat.le_refl _)
    rw [List.take_length] at h1
    rw [← h1]
    have h2 : ev t F - ev t (prS (lead F) Λ Λ.length) = ev t (ladd F ((prS (lead F) Λ Λ.length).map fun x => -1 * x)) := by rw [ev_ladd, ev_scal]; omega
    rw [h2]
    exact ev_of_getD (fun k => by rw [psub_getD, ladd_getD, scal_getD]; omega) t
  obtain ⟨g, h1, h2⟩ := h.eq
  have h3 := ev_exact hpk h1 (l := tab (max F.length (prS (lead F) Λ Λ.length).length) fun k => F.getD k 0 - (prS (lead F) Λ Λ.length).getD k 0) (fun t => by rw [hex]; exact h2 t)
  refine ⟨fun t => by rw [← hex]; exact h3 t, ?_⟩
  have hl : ∀ l, l ∈ Λ → lead l = 1 ∧ 0 < l.length := fun l hl => by
    obtain ⟨i, hi⟩ := List.getElem?_of_mem hl
    have hlt : i < U.length := by rw [← h.len]; exact (List.getElem?_eq_some_iff.1 hi).1
    obtain ⟨q1, q2, _⟩ := h.mon i l _ hi (List.getElem?_eq_getElem hlt)
    have hul := (hs.mem U[i] (List.getElem_mem hlt)).1.len
    exact ⟨q2, by omega⟩
  have hd := LiO.dsum hp h hs hF hnc
  have hpl : Pl (F.length - 1) (fun t => ev t F - lead F * pA (fs Λ) t) := by
    have h5 := (dsum_ld Λ hl).scal (lead F)
    rw [hd, Int.mul_one] at h5
    have h6 : Ld (F.length - 1) (lead F) (fun t => ev t F) := Ld.of_list (by omega)
    have h7 := h6.sub h5
    rw [Int.sub_self] at h7
    exact h7.to_pl
  obtain ⟨G, h8, h9⟩ := hpl
  have hz : ∀ j, F.length - 1 ≤ j → (misL F Λ ((p : Int) ^ k)).getD j 0 = 0 := fun j hj => by
    have h10 : (p : Int) ^ k * (misL F Λ ((p : Int) ^ k)).getD j 0 = 0 := by
      rw [← scal_getD, ev_ext (m := G) 0 (fun t _ => by rw [ev_scal, ← h9]; unfold misL; rw [← h3, hex]) j]
      exact getD_out (by omega)
    rcases Int.mul_eq_zero.1 h10 with h | h
    · exact absurd h hpk
    · exact h
  unfold redL
  refine tz_len_le fun j hj => ?_
  rw [tab_getD]
  split
  · rw [hz j hj]; simp
  · rfl

theorem misL_bd {F : List Int} {Λ : List (List Int)} {M : Int} {f : Nat} (hF : Bd F f) (hL : ∀ l, l ∈ Λ → l.length ≤ 11 ∧ Bd l f) (hl : Λ.length ≤ 12) : Bd (misL F Λ M) (f + 13 * (f + 4)) ∧ (misL F Λ M).length ≤ max F.length 130 := by
  have hpl : ∀ i, i ≤ Λ.length → (prS (lead F) Λ i).length ≤ 121 := fun i hi => by
    have := prS_len (lead F) Λ (fun l hl => (hL l hl).1) i hi
    omega
  have hpb := prS_bd (c := lead F) hF.lead (fun l hl => (hL l hl).2) Λ.length (Nat.le_refl _) hl (fun j hj => by have := hpl j hj; omega) (fun l hl => (hL l hl).1)
  refine ⟨fun k => ?_, ?_⟩
  · unfold misL
    have h4 : ∀ l : List Int, (l.map fun z => z.tdiv M).getD k 0 = (l.getD k 0).tdiv M := fun l => by
      rcases Nat.lt_or_ge k l.length with hk | hk
      · simp [List.getD, List.getElem?_eq_getElem hk]
      · rw [getD_out (by simpa using hk), getD_out hk]; simp
    rw [h4, psub_getD]
    have h5 := natAbs_tdiv_le (F.getD k 0 - (prS (lead F) Λ Λ.length).getD k 0) M
    have h1 := hF k
    have h2 := hpb k
    have h3 : 10 ^ f ≤ 10 ^ (f + 12 * (f + 4)) := Nat.pow_le_pow_right (by omega) (by omega)
    have h6 : 10 ^ (f + Λ.length * (f + 4)) ≤ 10 ^ (f + 12 * (f + 4)) := Nat.pow_le_pow_right (by omega) (by have := Nat.mul_le_mul_right (f + 4) hl; omega)
    have h7 : 10 ^ (f + 12 * (f + 4)) * 10 ≤ 10 ^ (f + 13 * (f + 4)) := by
      rw [← Nat.pow_succ]
      exact Nat.pow_le_pow_right (by omega) (by omega)
    omega
  · unfold misL
    rw [List.length_map, tab_len]
    have := hpl Λ.length (Nat.le_refl _)
    omega

theorem SpR.alike {p n : Nat} {f g : Int → Int} {c d : Int} {U : List (List Int)} (h : SpR p f c n U) (hz : Zm p (fun t => g t - f t)) (hc : (p : Int) ∣ d - c) : SpR p g d n U :=
  ⟨h.mem, ((h.eq.add hz).sub (Zm.of_dvd (pA_po _ (fs_po U)) hc)).congr fun t => by rw [Int.sub_mul]; omega, h.len⟩
theorem CofR.alike {p : Nat} {f g : Int → Int} {u c : List Int} (h : CofR p f u c) (hz : Zm p (fun t => g t - f t)) : CofR p g u c := by
  obtain ⟨h1, h2, O, h3, h4, h5⟩ := h
  exact ⟨h1, h2, O, h3, (h4.add hz).congr fun t => by omega, h5⟩

theorem LiO.lbd {p k : Nat} {F : List Int} {U Λ : List (List Int)} (h : LiO p F U k Λ) (hU : ∀ x, x ∈ U → x.length ≤ 11) {f : Nat} (hM : ((p : Int) ^ k).natAbs < 10 ^ f) : ∀ l, l ∈ Λ → l.length ≤ 11 ∧ Bd l f := fun l hl => by
  obtain ⟨i, hi⟩ := List.getElem?_of_mem hl
  have hlt : i < U.length := by rw [← h.len]; exact (List.getElem?_eq_some_iff.1 hi).1
  obtain ⟨q1, _, _, q4⟩ := h.mon i l _ hi (List.getElem?_eq_getElem hlt)
  have := hU U[i] (List.getElem_mem hlt)
  exact ⟨by omega, fun j => by have := q4 j; omega⟩

theorem vecB (B : Nat) : VecP 65 (OwnL B) where
  val := fun h => by obtain ⟨a, c, rfl⟩ := OwnL.val h; exact ⟨_, _, _, rfl⟩
  below := fun h hb => OwnL.below h hb
  kept := fun {w w' c a g} h hg ht => by
    have hne : ∀ (k : Nat) (cur : Array Value) (e : TypeId) (f : Nat × Nat), w.heap[k]? = some (Obj.cells cur e f) → e ≠ 65 → w'.heap[k]? = some (Obj.cells cur e f) := fun k cur e f hk he => by
      rw [hg.block k (Array.getElem?_eq_some_iff.1 hk).1 (fun e' => ?_)]
      · exact hk
      · obtain ⟨cur', hc⟩ := ht k e'.symm
        rw [hk] at hc
        simp at hc
        exact he hc.2.1
    obtain ⟨cs, h1, h2, h3⟩ := h
    refine ⟨cs, h1, ⟨h2.1, ?_⟩, fun i p hp => ?_⟩
    · rcases h2.2 with h1 | ⟨k, cap, cur, hv, hb0, hk, r⟩
      · exact .inl h1
      · exact .inr ⟨k, cap, cur, hv, hb0, hne k _ _ _ hk (by decide), r⟩
    · obtain ⟨b, x, l, e, hr, hl⟩ := h3 i p hp
      refine ⟨b, x, l, e, ⟨hr.1, ?_⟩, hl⟩
      rcases hr.2 with h1 | ⟨k, cap, cur, hv, hb0, hk, r⟩
      · exact .inl h1
      · exact .inr ⟨k, cap, cur, hv, hb0, hne k _ _ _ hk (by decide), r⟩

abbrev OwnVB (B : Nat) := OwnV 65 (OwnL B) B

theorem OwnVB.vl {B : Nat} {w : World} {v : Value} {L : List (List Int)} (h : OwnVB B w v L) : OwnVL B w v L := by
  obtain ⟨cs, h1, h2, h3⟩ := h
  exact ⟨cs, h1, h2, fun i c a hc ha => (h3 i c a hc ha).isL⟩
theorem OwnVB.lower {B C : Nat} {w : World} {v : Value} {L : List (List Int)} (h : OwnVB B w v L) (hC : C ≤ B) : OwnVB C w v L := by
  have h' := OwnV.lower h hC
  obtain ⟨cs, h1, h2, h3⟩ := h'
  exact ⟨cs, h1, h2, fun i c a hc ha => (h3 i c a hc ha).lower hC⟩
theorem OwnVB.boxed {B : Nat} {w : World} {v : Value} {L : List (List Int)} (h : OwnVB B w v L) {k : Nat} {a b : Value} (hk : Bx w k a b) (hlt : k < B) (u x : Value) : OwnVB B ((w.setCell ⟨k, 0, none⟩ u).setCell ⟨k, 1, none⟩ x) v L := by
  have hb := h.block
  obtain ⟨cs, h1, h2, h3⟩ := h
  have hne : v.ownBlock ≠ some k := fun e => by have := hb k e; omega
  refine ⟨cs, h1, ownsRow_setCell_other (ownsRow_setCell_other h2 hne u) hne x, fun i c a hc ha => ?_⟩
  have h4 := h3 i c a hc ha
  exact h4.boxed hk (fun q hq => by have := h4.block q hq; omega) u x

set_option maxRecDepth 100000 in
set_option maxHeartbeats 8000000 in
theorem lift_any (p n : Nat) (F : List Int) (U : List (List Int)) (by0 : Int) (f : Nat) (u v y : Value) (w : World) (hu : IsL w u F) (hv : OwnVN 0 w v U) (hy : IsI w y by0) (hF : F ≠ []) (hFl : F.length ≤ 11) (hUl : U.length ≤ 10) (hUe : ∀ x, x ∈ U → x.length ≤ 11) (fF : Bd F f) (hb1 : 0 < by0) (fB : by0.natAbs * 1000 < 10 ^ f) (hf0 : 4 ≤ f) (hf : f ≤ 1000)
    (hs : SpR p (fun t => ev t F) (lead F) n U) (hsq : Sq p (fun t => ev t F)) (hnc : ¬ (p : Int) ∣ lead F) (hp2 : 2 ≤ p) (hp1 : p < 1000) (hp : Dom (p : Int)) :
    Calls Tryz.prog 71 #[u, v, .int .i64 p, y] w fun en w' => ∃ x z Λ k, en = .returned (.tuple #[x, z]) ∧ OwnVL w.heap.size w' x Λ ∧ IsI w' z ((p : Int) ^ k) ∧ LiO p F U k Λ ∧ by0 < (p : Int) ^ k ∧ ((p : Int) ^ k).natAbs < 10 ^ f ∧ Below w.heap.size w w' := by
  obtain ⟨ua, uc, rfl⟩ := OwnL.val hu
  obtain ⟨va, vc, rfl⟩ := hv.val
  obtain ⟨yb, ya, yn, yc, rfl⟩ := hy.form
  obtain ⟨LI, HLI⟩ : ∃ LI : Nat → List (List Int) → Prop, Hid (LI = LiO p F U) := ⟨_, rfl⟩
  -- the reduced polynomial
  have hz := redL_zm p F
  have hre := redL_nrm (p := p) (by omega) F
  have hrn : redL p F ≠ [] := by
    have h1 := (redL_eq (p := p) (by omega) hF).2 hnc
    intro e
    rw [e] at h1
    have := List.length_pos_iff.2 hF
    simp at h1
    omega
  have hleadr : (p : Int) ∣ lead (redL p F) - lead F := by
    have h1 := (redL_eq (p := p) (by omega) hF).2 hnc
    have h2 := List.length_pos_iff.2 hF
    unfold lead
    rw [h1, redL_getD (by omega)]
    exact emod_alike _ p
  have hsr : SpR p (fun t => ev t (redL p F)) (lead (redL p F)) n U := hs.alike hz hleadr
  have hsqr : Sq p (fun t => ev t (redL p F)) := by
    obtain ⟨f', a, b, e, g1, g2, g3, g4, g5⟩ := hsq
    obtain ⟨r', hr'⟩ := (Po.ev (redL p F)).dr
    have hd := Zm.dr (hz.congr (g := fun t => ev t (redL p F) + -1 * ev t F) fun t => by omega) (hr'.add ((Dr.const (-1)).mul g1))
    refine ⟨r', a, b, e, hr', g2, g3, g4, ((g5.add (hz.mul g2)).add (hd.mul g3)).congr fun t => ?_⟩
    simp only [rA, rB, rC, rD, rE, rF, rG, rH, rI, rJ, rK]
    omega
  have hRD := fun (W : World) (hW : IsL W (.slice ua F.length uc) F) => reduced_any F p _ W hW (fF.fitW (by omega)) (by omega) (by omega) hp1
  have HCF : Hid (∀ (W : World) (x : Value), RowN W x (redL p F) → Below w.heap.size w W → Calls Tryz.prog 95 #[x, .slice va U.length vc, .int .i64 p] W fun e w' => ∃ x C, e = .returned x ∧ OwnVN W.heap.size w' x C ∧ C.length = U.length ∧ (∀ (i : Nat) (u c : List Int), U[i]? = some u → C[i]? = some c → CofR p (fun t => ev t F) u c) ∧ Below W.heap.size W w') := fun W x hx hW => by
    refine (cofactors_any p n (redL p F) U x _ W hx (OwnV.below vecN hv hW) (by have := redL_len p F; omega) hre hsr hsqr (by omega) hUe hp2 hp1 hp).mono ?_
    rintro e w' ⟨x', C, rfl, h1, h2, h3, h4⟩
    exact ⟨x', C, rfl, h1, h2, fun i u c hu hc => (h3 i u c hu hc).alike (hz.neg.congr fun t => by omega), h4⟩
  have HL0 : Hid (LI 1 U) := by show LI 1 U; rw [HLI.out]; exact LiO.start hs
  have HLM : Hid (∀ k Λ, LI k Λ → (∀ t, ev t F - lead F * pA (fs Λ) t = (p : Int) ^ k * ev t (misL F Λ ((p : Int) ^ k))) ∧ (redL p (misL F Λ ((p : Int) ^ k))).length ≤ F.length - 1) := fun k Λ h => by
    rw [HLI.out] at h
    exact h.miss hp2 hp hs hF hnc
  have HLB : Hid (∀ k Λ, LI k Λ → ((p : Int) ^ k).natAbs < 10 ^ f → Λ.length = U.length ∧ ∀ l, l ∈ Λ → l.length ≤ 11 ∧ Bd l f) := fun k Λ h hM => by
    rw [HLI.out] at h
    exact ⟨h.len, h.lbd hUe hM⟩
  have HLN : Hid (∀ (k : Nat) (Λ C R : List (List Int)) (ms : List Int), LI k Λ → C.length = U.length → (∀ (i : Nat) (u c : List Int), U[i]? = some u → C[i]? = some c → CofR p (fun t => ev t F) u c) → ms = redL p (misL F Λ ((p : Int) ^ k)) → R.length = U.length → (∀ (i : Nat) (u c r : List Int), U[i]? = some u → C[i]? = some c → R[i]? = some r → Nrm p r ∧ r.length < u.length ∧ Di p (fun t => ev t u) (fun t => ev t ms * ev t c - ev t r)) → LI (k + 1) (ups Λ R ((p : Int) ^ k))) := fun k Λ C R ms h hCl hC hms hRl hR => by
    have hm := HLM.out k Λ h
    rw [HLI.out] at h ⊢
    subst hms
    exact h.next hp2 hp hs hsq hF hnc hC hCl hm.1 (redL_zm p _) hm.2 hRl hR
  have HMI : Hid (∀ (W : World) (k : Nat) (Λ : List (List Int)) (x z : Value), LI k Λ → ((p : Int) ^ k).natAbs < 10 ^ f → IsL W (.slice ua F.length uc) F → OwnVL 0 W x Λ → IsI W z ((p : Int) ^ k) → Calls Tryz.prog 97 #[.slice ua F.length uc, x, z] W fun en w' => ∃ x, en = .returned x ∧ IsL w' x (misL F Λ ((p : Int) ^ k)) ∧ Below W.heap.size W w') := fun W k Λ x z h hM hW hx hz' => by
    have hb := HLB.out k Λ h hM
    exact missingOf_any F Λ _ f f _ x z W hW hx hz' hFl (by omega) hb.2 fF hM (by omega)
  have HRM : Hid (∀ (W : World) (k : Nat) (Λ : List (List Int)) (x : Value), LI k Λ → ((p : Int) ^ k).natAbs < 10 ^ f → IsL W x (misL F Λ ((p : Int) ^ k)) → Calls Tryz.prog 68 #[x, .int .i64 p] W fun e w' => ∃ x, e = .returned x ∧ OwnN W.heap.size w' x (redL p (misL F Λ ((p : Int) ^ k))) ∧ Below W.heap.size W w') := fun W k Λ x h hM hx => by
    have hb := HLB.out k Λ h hM
    have hm := misL_bd (M := (p : Int) ^ k) fF hb.2 (by omega)
    exact reduced_any _ p x W hx (hm.1.fitW (by omega)) (by omega) (by omega) hp1
  have HPK : Hid (∀ k, 0 < (p : Int) ^ k) := fun k => Int.pow_pos (by omega)
  have HPS : Hid (∀ k, (p : Int) ^ (k + 1) = (p : Int) ^ k * p) := fun k => Int.pow_succ ..
  have HPRT : Hid _ := fun (x : List Int) (hx : x ∈ U) => (hs.mem x hx).1
  have HUE : Hid _ := hUe
  have HP : Hid _ := hp
  rw [← HLI.out]
  have HRD : Hid _ := hRD
  obtain ⟨Fr, HFr⟩ : ∃ Fr, Hid (redL p F = Fr) := ⟨_, rfl⟩
  rw [HFr.out] at HRD HCF
  clear hRD hz hre hrn hleadr hsr hsqr HLI hs hsq hnc hUe hp HFr
  have fBi : Fit by0 := fitW_of (e := f) (by omega) (by omega)
  go_enter Tryz.func71, Tryz.ntmps71
  go_wp2_with fail
  generalize hW : (w.alloc (Obj.cells #[Value.bool yb, Value.slice ya yn yc] 70)).alloc (Obj.cells #[Value.bool false, Value.slice none 0 0] 70) = W0
  obtain ⟨hz0, hb0, X0, X1⟩ := two_new hW
  have hs0 : W0.heap.size = w.heap.size + 2 := by rw [← hW]; simp
  clear hW
  refine (HRD.out W0 (OwnL.below hu hb0)).mono ?_
  rintro en w1 ⟨x1, rfl, hI1, hb1⟩
  obtain ⟨ra, rc, rfl⟩ := hI1.row.val
  have hb1w := hb0.trans (hb1.mono hb0.size)
  go_wp2_with fail
  refine (HCF.out w1 _ hI1.row hb1w).mono ?_
  rintro en w2 ⟨x2, C, rfl, hC2, hCl, hCR, hb2⟩
  have HCl : Hid _ := hCl
  have HCR : Hid _ := hCR
  have hCl1 : C.length ≤ U.length := by omega
  have hCl2 : U.length ≤ C.length := by omega
  clear hCl hCR HCF HRD
  obtain ⟨ca, cc, rfl⟩ := hC2.val
  have hb12 := hb1.trans (hb2.mono hb1.size)
  have hb2w := hb1w.trans (hb2.mono hb1w.size)
  go_wp2_with fail
  refine (small_any (p : Int) (by omega) (by omega) w2).mono ?_
  rintro en w3 ⟨x3, rfl, hI3, hb3⟩
  obtain ⟨b3, a3, n3, c3, rfl⟩ := hI3.form
  have hb123 := hb12.trans (hb3.mono hb12.size)
  have hb3w := hb2w.trans (hb3.mono hb2w.size)
  have hC3 := OwnV.below vecN hC2 hb3
  go_wp2_with fail
  have hu3 := OwnL.below hu hb3w
  have hv3 := OwnV.below vecN hv hb3w
  have hy3 := hy.below hb3w
  have X03 := X0.below hb123
  have X13 := X1.below hb123
  have hs3 : w.heap.size + 2 ≤ w3.heap.size := by have := hb123.size; omega
  have K3 : Bx (w3.alloc (Obj.cells #[Value.bool b3, Value.slice a3 n3 c3] 70)) w3.heap.size (.bool b3) (.slice a3 n3 c3) := Bx.alloc w3 _ _
  have hbA := below_one w3 (Obj.cells #[Value.bool b3, Value.slice a3 n3 c3] 70)
  have hszA : (w3.alloc (Obj.cells #[Value.bool b3, Value.slice a3 n3 c3] 70)).heap.size = w3.heap.size + 1 := by simp
  generalize w3.alloc (Obj.cells #[Value.bool b3, Value.slice a3 n3 c3] 70) = W4 at *
  have hbB := below_one W4 (Obj.cells #[] 65)
  have hlitB : OwnVB (w3.heap.size + 1) (W4.alloc (Obj.cells #[] 65)) (.slice (some ⟨w3.heap.size + 1, 0, none⟩) 0 0) [] := OwnV.lit hszA
  have K4 := K3.below hbB
  generalize W4.alloc (Obj.cells #[] 65) = W5 at *
  have hbAB := hbA.trans (hbB.mono hbA.size)
  have hs5 : w3.heap.size + 1 ≤ W5.heap.size := by have := hbB.size; omega
  clear K3 hC2 hI1 hbA hbB hb1 hb2 hb3 hb12 hb123 hb1w hb2w X0 X1 hb0 hszA hu hv hy
  have hwo0 : ∃ wo : World, wo = w3 := ⟨_, rfl⟩
  go_loopw [12, 13] (fun o i wr => ∃ (j : Nat), j ≤ U.length ∧ i = .int .i64 j ∧ OwnVB (w3.heap.size + 1) wr o (U.take j) ∧ Below (w3.heap.size + 1) W5 wr) (fun _ i _ => U.length - (intOf i).toNat)
  case atStart => exact ⟨0, Nat.zero_le _, rfl, by simpa using hlitB, Below.refl _ _⟩
  case round =>
    clear hlitB
    obtain ⟨j, hj, rfl, hown, hbel⟩ := hrel
    have hswr : w3.heap.size + 1 ≤ wr.heap.size := by have := hbel.size; omega
    have hbel3 : Below w3.heap.size w3 wr := hbAB.trans (hbel.mono (by omega))
    by_cases hlt : j < U.length
    · obtain ⟨g, xa, xn, xc, x, rfl, hc1, hc2, hg1, _, hcell, hx, hrow⟩ := OwnV.at vecN hv3 j hlt
      have hcell' : wr.cell? ⟨g, j, none⟩ = some (.slice xa xn xc) := (hbel3.cell (p := ⟨g, j, none⟩) hg1).trans hcell
      have hxm := List.mem_of_getElem? hx
      have hW := wholeNumbers_any x _ wr (hrow.below hbel3) (by have := HUE.out x hxm; omega) (fun k => by have := (HPRT.out x hxm).nrm.1 k; omega)
      have HSU : Hid (U.take (j + 1) = U.take j ++ [x]) := by show _ = _; rw [List.take_add_one, hx]; rfl
      have hlen : (U.take j).length ≤ 20 := by rw [List.length_take]; omega
      obtain ⟨LL, HL⟩ : ∃ LL, Hid (U.take j = LL) := ⟨_, rfl⟩
      rw [HL.out] at hown hlen HSU
      obtain ⟨oa, oc, rfl⟩ := hown.val
      clear hx hxm
      go_wp2_with fail
      refine hW.mono ?_
      rintro en w6 ⟨x6, rfl, hI6, hb6⟩
      obtain ⟨ta, tc, rfl⟩ := OwnL.val hI6
      have hown6 := OwnV.below (vecB _) hown hb6
      have hbel6 := hbel.trans (hb6.mono hswr)
      have hI6' := hI6.lower hswr
      go_wp2_with (at_builtin; refine wpList_pushV (vecB (w3.heap.size + 1)) Tryz.infoVL Tryz.sliceVL rfl (.tmp 36) (.tmp 42) rfl (w3.heap.size + 1) _ LL _ x rfl hown6 hI6' rfl (by omega) (Nat.le_trans hswr hb6.size) ?_)
      intro v7 w7 hown7 hb7 hg7
      rw [← HSU.out] at hown7
      go_wp2
      go_roundw
      case rel => exact ⟨j + 1, by omega, by go_num, hown7, hbel6.trans hb7⟩
      case measure => simp [intOf]; omega
    · obtain rfl : j = U.length := by omega
      rw [List.take_length] at hown
      have hK0 : IsB wr w3.heap.size ((p : Int) ^ 1) := by
        rw [Int.pow_one]
        exact ⟨_, _, by unfold Bx; rw [hbel.block _ (by omega)]; exact K4, hI3.below hbel3⟩
      have hp10 : ((p : Int) ^ 1).natAbs < 10 ^ f := by
        rw [Int.pow_one, Int.natAbs_natCast]
        have : 10 ^ 4 ≤ 10 ^ f := Nat.pow_le_pow_right (by omega) hf0
        omega
      clear K4 hbel hbAB hs5 hI3
      obtain ⟨oa, oc, rfl⟩ := hown.val
      go_wp2_with fail
      have hwo : ∃ wo : World, wo = wr := ⟨_, rfl⟩
      obtain ⟨wo, rfl⟩ := hwo
      go_loopw [12] (fun o wq => ∃ (k : Nat) (Λ : List (List Int)), OwnVB (w3.heap.size + 1) wq o Λ ∧ IsB wq w3.heap.size ((p : Int) ^ k) ∧ Hid (LI k Λ) ∧ ((p : Int) ^ k).natAbs < 10 ^ f ∧ Below w3.heap.size w3 wq) (fun _ wq => by0.natAbs + 1 - bAt w3.heap.size wq)
      case atStart => exact ⟨1, U, hown, hK0, HL0, hp10, hbel3⟩
      case round =>
        clear hown hK0 hp10 hbel3
        obtain ⟨k, Λ, hown, hK, HL, hMf, hbel⟩ := hrel
        obtain ⟨wo2, hwo2⟩ : ∃ wo2 : World, wo2 = wr := ⟨_, rfl⟩
        have hMp := HPK.out k
        have hMs := HPS.out k
        have HMS : Hid _ := hMs
        clear hMs
        have hatK : bAt w3.heap.size wo2 = ((p : Int) ^ k).natAbs := by rw [hwo2]; exact hK.at
        have HWO2 : Hid _ := hwo2
        clear hwo2
        obtain ⟨gb, ga, gn, gc, G0, hG⟩ := hK.open
        have X0 := X03.below hbel
        have X1 := X13.below hbel
        have q0 := X0.c0; have q1 := X0.c1; have q2 := G0.c0; have q3 := G0.c1
        have hy1 := hy3.below hbel
        have hszw := G0.lt
        have fMi : Fit ((p : Int) ^ k) := fitW_of hMf (by omega)
        obtain ⟨M, HM⟩ : ∃ M, Hid ((p : Int) ^ k = M) := ⟨_, rfl⟩
        have hcmp := compare_any _ _ ((p : Int) ^ k) by0 wr hG hy1 fMi fBi
        rw [HM.out] at hcmp
        obtain ⟨oa, oc, rfl⟩ := hown.val
        by_cases hle : M ≤ by0
        · have hc1 : cmp3 M by0 ≤ 0 := by
            unfold cmp3
            by_cases h : M < by0
            · rw [if_pos h]; omega
            · rw [if_neg h, if_neg (by omega)]; omega
          generalize cmp3 M by0 = cc at *
          have hlenL := (HLB.out k Λ HL.out hMf).1
          have hLe := (HLB.out k Λ HL.out hMf).2
          have hl1 : Λ.length ≤ U.length := by omega
          have hl2 : U.length ≤ Λ.length := by omega
          have HLEN : Hid _ := hlenL
          have HLE : Hid _ := hLe
          clear hlenL hLe
          rw [HM.out] at hG
          go_wp2_with fail
          refine hcmp.mono ?_
          rintro en w6 ⟨rfl, hb6⟩
          have G6 := G0.below hb6
          have hown6 := OwnV.below (vecB _) hown hb6
          have hG6 := hG.below hb6
          have hbel6 := hbel.trans (hb6.mono hbel.size)
          have hMI := HMI.out w6 k Λ _ _ HL.out hMf (OwnL.below hu3 hbel6) (OwnV.lower (OwnVB.vl hown6) (Nat.zero_le _)) (by rw [HM.out]; exact hG6)
          have hRM := fun (V : World) (x : Value) => HRM.out V k Λ x HL.out hMf
          have HNX : Hid _ := fun (R : List (List Int)) (ms : List Int) => HLN.out k Λ C R ms HL.out HCl.out HCR.out
          have hmsl := (HLM.out k Λ HL.out).2
          have hmsn := redL_nrm (p := p) (by omega) (misL F Λ ((p : Int) ^ k))
          obtain ⟨ms, HMSD⟩ : ∃ ms, Hid (ms = redL p (misL F Λ ((p : Int) ^ k))) := ⟨_, rfl⟩
          rw [← HMSD.out] at hRM hmsl hmsn
          rw [HM.out] at HNX HMSD hMI hRM
          obtain ⟨mw, HMW⟩ : ∃ mw, Hid (misL F Λ M = mw) := ⟨_, rfl⟩
          rw [HMW.out] at hMI hRM
          have HRMV : Hid _ := hRM
          clear q0 q1 q2 q3 hRM hcmp
          have q2 := G6.c0; have q3 := G6.c1
          go_wp2_with fail
          refine hMI.mono ?_
          rintro en w7 ⟨x7, rfl, hI7, hb7⟩
          obtain ⟨ma, mc, rfl⟩ := OwnL.val hI7
          go_wp2_with fail
          refine (HRMV.out w7 _ hI7).mono ?_
          rintro en w8 ⟨x8, rfl, hI8, hb8⟩
          obtain ⟨na, nc, rfl⟩ := hI8.row.val
          have hb678 := hb6.trans ((hb7.trans (hb8.mono hb7.size)).mono hb6.size)
          have hb78 := hb7.trans (hb8.mono hb7.size)
          have hown8 := OwnV.below (vecB _) hown6 hb78
          have G8 := G6.below hb78
          have hG8 := hG6.below hb78
          have hbel8 := hbel6.trans (hb78.mono hbel6.size)
          have hs8 : w3.heap.size + 1 ≤ w8.heap.size := by have := G8.lt; omega
          clear q2 q3 hI7 hb7 hb8 hb78 hb678 hown6 G6 hG6 hbel6 hMI HRMV hown hG G0 hb6
          go_wp2_with fail
          have hbA := below_one w8 (Obj.cells #[] 65)
          have hlitA : OwnVB w8.heap.size (w8.alloc (Obj.cells #[] 65)) (.slice (some ⟨w8.heap.size, 0, none⟩) 0 0) [] := OwnV.lit rfl
          generalize w8.alloc (Obj.cells #[] 65) = W9 at *
          go_loopw [15, 16] (fun o i wq => ∃ (j : Nat) (R : List (List Int)), j ≤ U.length ∧ i = .int .i64 j ∧ R.length ≤ j ∧ Hid (R.length = j) ∧ OwnVB w8.heap.size wq o (ups (Λ.take j) R M) ∧ Hid (∀ (i : Nat) (u c r : List Int), U[i]? = some u → C[i]? = some c → R[i]? = some r → Nrm p r ∧ r.length < u.length ∧ Di p (fun t => ev t u) (fun t => ev t ms * ev t c - ev t r)) ∧ Below w8.heap.size w8 wq) (fun _ i _ => U.length - (intOf i).toNat)
          case atStart => exact ⟨0, [], Nat.zero_le _, rfl, Nat.le_refl _, by show _ = _; rfl, by simpa [ups] using hlitA, fun i u c r h1 h2 h3 => (by simp at h3), hbA⟩
          case round =>
            clear hlitA hbA
            obtain ⟨j, R, hj, rfl, hRl, HRl, hhi, HR, hbq⟩ := hrel
            have hbq3 : Below w3.heap.size w3 wr := hbel8.trans (hbq.mono hbel8.size)
            have hsq : w8.heap.size ≤ wr.heap.size := hbq.size
            have hup : (ups (Λ.take j) R M).length ≤ 20 := by unfold ups; rw [List.length_zipWith, List.length_take]; omega
            by_cases hlt3 : j < U.length
            · obtain ⟨gC, ca', cn', cc', c, hce, _, _, hgC, _, hcellC, hcC, hrowC⟩ := OwnV.at vecN hC3 j (by omega)
              obtain ⟨gU, xa, xn, xc, x, hxe, _, _, hgU, _, hcellU, hxU, hrowU⟩ := OwnV.at vecN hv3 j hlt3
              obtain ⟨gL, la, ln, lc, l, hle', _, _, hgL, hgL2, hcellL, hlL, hrowL⟩ := OwnV.at (vecB _) hown8 j (by omega)
              subst hce hxe hle'
              have hce : ∀ V, Below w8.heap.size w8 V → V.cell? ⟨gC, j, none⟩ = some (.slice ca' cn' cc') ∧ V.cell? ⟨gU, j, none⟩ = some (.slice xa xn xc) ∧ V.cell? ⟨gL, j, none⟩ = some (.slice la ln lc) ∧ V.cell? ⟨w3.heap.size, 0, none⟩ = some (.bool gb) ∧ V.cell? ⟨w3.heap.size, 1, none⟩ = some (.slice ga gn gc) := fun V h => by
                have h3 := hbel8.trans (h.mono hbel8.size)
                exact ⟨(h3.cell (p := ⟨gC, j, none⟩) hgC).trans hcellC, (h3.cell (p := ⟨gU, j, none⟩) hgU).trans hcellU, (h.cell (p := ⟨gL, j, none⟩) hgL).trans hcellL, (G8.below h).c0, (G8.below h).c1⟩
              have HCE : Hid _ := hce
              clear hce
              have hxm := List.mem_of_getElem? hxU
              have hxl := HUE.out x hxm
              have hxp : Hid _ := HPRT.out x hxm
              have HCc : Hid _ := HCR.out j x c hxU hcC
              have hcn := HCc.out.1
              have hcl := HCc.out.2.1
              have hll := (HLE.out l (List.mem_of_getElem? hlL)).1
              have hlb := (HLE.out l (List.mem_of_getElem? hlL)).2
              have HXU : Hid _ := hxU
              have HLLj : Hid _ := hlL
              have HCCj : Hid _ := hcC
              have hMU := mulM_any p ms c _ _ wr (hI8.row.below hbq) (hrowC.below hbq3) (by omega) (by omega) (by omega) hp1 hmsn.1 hcn.1
              have HDV : Hid _ := fun (V : World) (a : List Int) (y : Value) (h1 : Below w8.heap.size w8 V) (h2 : Nrm p a) (h3 : a.length ≤ 900) (h4 : RowN V y a) => divM_any p a x y _ V h4 (hrowU.below (hbel8.trans (h1.mono hbel8.size))) (by omega) (by omega) hp2 hp1 HP.out h2.1 hxp.out.nrm hxp.out.ne
              have hMb : M.natAbs < 10 ^ f := by rw [← HM.out]; exact hMf
              have HTI : Hid _ := fun (V : World) (r : List Int) (y z : Value) (h1 : IsL V y r) (h2 : IsI V z M) (h3 : r.length ≤ 11) (h4 : Bd r 4) => times_any r M 4 f 0 y z V h1 h2 (by omega) (by omega) h4 hMb (by omega) (by omega)
              have HSM : Hid _ := fun (V : World) (r : List Int) (y : Value) (h1 : IsL V y (List.replicate 0 0 ++ r.map fun z => z * M)) (h2 : Below w8.heap.size w8 V) (h3 : r.length ≤ 11) (h4 : Bd r 4) => psum_any l (List.replicate 0 0 ++ r.map fun z => z * M) _ y V (OwnL.below hrowL.isL h2) h1 (by omega) (by simp; omega) (hlb.fitW (by omega)) ((Bd.timesW (n := 0) h4 hMb).fitW (by omega))
              obtain ⟨UP, HUP⟩ : ∃ UP, Hid (ups (Λ.take j) R M = UP) := ⟨_, rfl⟩
              rw [HUP.out] at hhi hup
              obtain ⟨ha, hc, rfl⟩ := hhi.val
              obtain ⟨k1, k2, k3, k4, k5⟩ := HCE.out wr hbq
              have hci1 : (j : Int) < (C.length : Int) := by omega
              have hli1 : (j : Int) < (Λ.length : Int) := by omega
              clear hxU hcC hlL hxm hcellC hcellU hcellL
              go_wp2_with fail
              refine hMU.mono ?_
              rintro en w10 ⟨sh, x10, rfl, hI10, hn10, hz10, hl10, hb10⟩
              obtain ⟨sa, sc, rfl⟩ := hI10.row.val
              have HZ10 : Hid _ := hz10
              have hbq10 := hbq.trans (hb10.mono hbq.size)
              clear hz10 k1 k2 k3 k4 k5 hMU
              obtain ⟨k1, k2, k3, k4, k5⟩ := HCE.out w10 hbq10
              go_wp2_with fail
              refine (HDV.out w10 sh _ hbq10 hn10 (by omega) hI10.row).mono ?_
              rintro en w11 ⟨x11, y11, rfl, ⟨q, r, hq, hr, hdm⟩, hb11⟩
              have hrl := hdm.lt
              have hnr := hdm.nr
              have hrd : Di p (fun t => ev t x) (fun t => ev t ms * ev t c - ev t r) := (Di.rest hdm).alike ((Zm.neg HZ10.out).congr fun t => by omega)
              have HRD2 : Hid _ := (⟨hnr, hrl, hrd⟩ : Nrm p r ∧ r.length < x.length ∧ _)
              have hrb : Bd r 4 := fun i => by have := hnr.1 i; omega
              have hrr : ∀ i, 0 ≤ r.getD i 0 ∧ r.getD i 0 < 1000 := fun i => by have := hnr.1 i; omega
              have HRB : Hid _ := hrb
              have HRR : Hid _ := hrr
              clear hdm hrd hnr hrb hrr HZ10 HDV
              obtain ⟨qa, qc, rfl⟩ := hq.row.val
              obtain ⟨rra, rrc, rfl⟩ := hr.row.val
              have hbq11 := hbq10.trans (hb11.mono hbq10.size)
              clear k1 k2 k3 k4 k5
              have hb1011 := hb10.trans (hb11.mono hb10.size)
              have hhi11 := OwnV.below (vecB _) hhi hb1011
              go_wp2_with fail
              have hbd : Below w8.heap.size w8 w11.drew := ⟨hbq11.os, hbq11.tape, hbq11.output, hbq11.size, hbq11.block⟩
              have hbdw : Below w11.heap.size w11 w11.drew := ⟨rfl, rfl, rfl, Nat.le_refl _, fun _ _ => rfl⟩
              have hrd := hr.row.below hbdw
              have hhid := OwnV.below (vecB _) hhi11 hbdw
              refine wp_region_held_drew (S := fun V => V.cell? ⟨gC, j, none⟩ = some (.slice ca' cn' cc') ∧ V.cell? ⟨gU, j, none⟩ = some (.slice xa xn xc) ∧ V.cell? ⟨gL, j, none⟩ = some (.slice la ln lc) ∧ V.cell? ⟨w3.heap.size, 0, none⟩ = some (.bool gb) ∧ V.cell? ⟨w3.heap.size, 1, none⟩ = some (.slice ga gn gc)) (by kernel_rfl) (HCE.out _ hbd) fun hS => ?_
              generalize w11.drew = V0 at *
              refine h_take 0 78 (.slice rra r.length rrc) rfl rfl (by kernel_rfl) (by kernel_rfl) (by kernel_rfl) (fun _ _ _ h => h) rfl (fun _ _ => by first | rfl | go_simp) hS ?_
              simp only [Act.put, tA, tB, tC]
              refine h_take 2 80 (.agg #[.bool gb, .slice ga gn gc]) rfl rfl (by kernel_rfl) (by kernel_rfl) (by kernel_rfl) (fun _ _ _ h => h) rfl (fun w' hw' => by obtain ⟨y0, y1, y2, y3, y4⟩ := hw'; go_simp) hS ?_
              simp only [Act.put, tA, tB, tC]
              refine h_call 1 79 96 #[.slice rra r.length rrc] rfl rfl (by kernel_rfl) rfl (by go_simp) ?_
              refine (wholeNumbers_any r _ V0 hrd (by omega) HRR.out).mono ?_
              rintro en w12 ⟨x12, rfl, hI12, hb12⟩
              obtain ⟨wa, wc2, rfl⟩ := OwnL.val hI12
              have hbq12 := hbd.trans (hb12.mono hbd.size)
              refine ⟨_, rfl, HCE.out _ hbq12, ?_⟩
              simp only [Act.put, tA, tB, tC]
              refine h_call 3 81 49 #[.slice wa r.length wc2, .agg #[.bool gb, .slice ga gn gc], .int .i64 0] rfl rfl (by kernel_rfl) rfl (by go_simp) ?_
              refine (HTI.out w12 r _ _ hI12.isL (hG8.below hbq12) (by omega) HRB.out).mono ?_
              rintro en w13 ⟨x13, rfl, hI13, hb13⟩
              have hbq13 := hbq12.trans (hb13.mono hbq12.size)
              have hSM := HSM.out w13 r x13 hI13.isL hbq13 (by omega) HRB.out
              obtain ⟨STP, HSTP⟩ : ∃ STP, Hid ((List.replicate 0 (0 : Int) ++ r.map fun z => z * M) = STP) := ⟨_, rfl⟩
              have HUPR : Hid ((tab (max l.length STP.length) fun k => l.getD k 0 + STP.getD k 0) = up l r M) := by show _ = _; rw [← HSTP.out]; rfl
              rw [HSTP.out] at hI13 hSM
              rw [HUPR.out] at hSM
              obtain ⟨ta, tc, rfl⟩ := OwnL.val hI13
              refine ⟨_, rfl, HCE.out _ hbq13, ?_⟩
              simp only [Act.put, tA, tB, tC]
              refine h_val 4 20 (.slice ta STP.length tc) (w' := w13) rfl rfl (by kernel_rfl) rfl rfl (HCE.out _ hbq13) ?_
              simp only [Act.put, tA, tB, tC]
              refine wpAnyH_done (by kernel_rfl) ?_ _
              have hhi13 := OwnV.below (vecB _) (OwnV.below (vecB _) hhid hb12) hb13
              obtain ⟨k1, k2, k3, k4, k5⟩ := HCE.out w13 hbq13
              clear hS
              go_wp2_with fail
              refine hSM.mono ?_
              rintro en w14 ⟨x14, rfl, hI14, hb14⟩
              have hbq14 := hbq13.trans (hb14.mono hbq13.size)
              have hhi14 := OwnV.below (vecB _) hhi13 hb14
              obtain ⟨va2, vc2, hve⟩ := OwnL.val hI14
              subst hve
              have hI14' := hI14.lower hbq13.size
              obtain ⟨nl, HNL⟩ : ∃ nl, Hid (up l r M = nl) := ⟨_, rfl⟩
              rw [HNL.out] at hI14' ⊢
              clear k1 k2 k3 k4 k5
              go_wp2_with (at_builtin; refine wpList_pushV (vecB w8.heap.size) Tryz.infoVL Tryz.sliceVL rfl (.tmp 82) (.tmp 89) rfl w8.heap.size _ UP _ nl rfl hhi14 hI14' rfl (by omega) hbq14.size ?_)
              intro v15 w15 hown15 hb15 hg15
              have HUPN : Hid (UP ++ [nl] = ups (Λ.take (j + 1)) (R ++ [r]) M) := by
                show _ = _
                rw [List.take_add_one, HLLj.out, ← HUP.out, ← HNL.out]
                exact (ups_snoc (by rw [List.length_take]; have := HRl.out; omega)).symm
              rw [HUPN.out] at hown15
              have HRl' : Hid ((R ++ [r]).length = j + 1) := by show _ = _; have := HRl.out; simp; omega
              have hRl' : (R ++ [r]).length ≤ j + 1 := by simp; omega
              have HR' : Hid (∀ (i : Nat) (u c r' : List Int), U[i]? = some u → C[i]? = some c → (R ++ [r])[i]? = some r' → Nrm p r' ∧ r'.length < u.length ∧ Di p (fun t => ev t u) (fun t => ev t ms * ev t c - ev t r')) := fun i u' c' r' h1 h2 h3 => by
                by_cases hi : i < R.length
                · rw [List.getElem?_append_left hi] at h3
                  exact HR.out i u' c' r' h1 h2 h3
                · rw [List.getElem?_append_right (by omega)] at h3
                  have h0 : i - R.length = 0 := by
                    rcases Nat.eq_zero_or_pos (i - R.length) with h0 | h0
                    · exact h0
                    · rw [List.getElem?_eq_none (by simp; omega)] at h3; simp at h3
                  rw [h0] at h3
                  simp at h3
                  subst h3
                  obtain rfl : i = j := by have := HRl.out; omega
                  obtain rfl : x = u' := Option.some.inj (HXU.out.symm.trans h1)
                  obtain rfl : c = c' := Option.some.inj (HCCj.out.symm.trans h2)
                  exact HRD2.out
              obtain ⟨R', HRR'⟩ : ∃ R', Hid (R ++ [r] = R') := ⟨_, rfl⟩
              rw [HRR'.out] at hown15 HRl' hRl' HR'
              clear HR HRl
              go_wp2
              go_roundw
              case rel => exact ⟨j + 1, R', by omega, by go_num, hRl', HRl', hown15, HR', hbq14.trans hb15⟩
              case measure => simp [intOf]; omega
            · obtain rfl : j = U.length := by omega
              have HNL : Hid (LI (k + 1) (ups Λ R M)) := HNX.out R ms HMSD.out HRl.out HR.out
              rw [show Λ.take U.length = Λ from List.take_of_length_le (by omega)] at hhi
              clear HR HRl HNX HMSD hup
              obtain ⟨UP, HUP⟩ : ∃ UP, Hid (ups Λ R M = UP) := ⟨_, rfl⟩
              rw [HUP.out] at hhi HNL
              obtain ⟨ha, hc, rfl⟩ := hhi.val
              have hMb : M.natAbs < 10 ^ f := by rw [← HM.out]; exact hMf
              have hM3 : (M * (p : Int)).natAbs < 10 ^ f := by
                rw [Int.natAbs_mul, Int.natAbs_natCast]
                have h1 : M.natAbs ≤ by0.natAbs := by rw [HM.out] at hMp; omega
                have h2 : M.natAbs * p ≤ by0.natAbs * 1000 := Nat.mul_le_mul h1 (by omega)
                omega
              have fMM : Fit M := fitW_of hMb (by omega)
              have fpp : Fit (p : Int) := fitW_of (e := 4) (by rw [Int.natAbs_natCast]; omega) (by omega)
              have hbd : Below w8.heap.size w8 wr.drew := ⟨hbq.os, hbq.tape, hbq.output, hbq.size, hbq.block⟩
              have hbdw : Below wr.heap.size wr wr.drew := ⟨rfl, rfl, rfl, Nat.le_refl _, fun _ _ => rfl⟩
              have hhid := OwnV.below (vecB _) hhi hbdw
              go_wp2_with fail
              refine wp_region_held_drew (S := fun _ => True) (by kernel_rfl) trivial fun hS => ?_
              generalize wr.drew = V0 at *
              have Gd := G8.below hbd
              have hGd := hG8.below hbd
              have q0 := Gd.c0; have q1 := Gd.c1
              refine h_take 1 93 (.int .i64 (p : Int)) rfl rfl (by kernel_rfl) (by kernel_rfl) (by kernel_rfl) (fun _ _ _ h => h) rfl (fun _ _ => by first | rfl | go_simp) hS ?_
              simp only [Act.put, tA, tB, tC]
              refine wpAnyH_ready (rs := [0, 2]) (by kernel_rfl) (by simp) (ar_val 0 92 (.agg #[.bool gb, .slice ga gn gc]) (w' := V0) rfl rfl rfl (by go_simp) trivial ?_ (ar_call 2 94 50 #[.int .i64 (p : Int)] rfl rfl rfl (by go_simp) ?_ AllReadyH.nil))
              · simp only [Act.put, tA, tB, tC]
                clear q0 q1
                refine h_call 2 94 50 #[.int .i64 (p : Int)] rfl rfl (by kernel_rfl) rfl (by go_simp) ?_
                refine (small_any (p : Int) (by omega) (by omega) V0).mono ?_
                rintro en w12 ⟨x12, rfl, hI12, hb12⟩
                obtain ⟨b12, a12, n12, c12, rfl⟩ := hI12.form
                have hbq12 := hbd.trans (hb12.mono hbd.size)
                refine ⟨_, rfl, trivial, ?_⟩
                simp only [Act.put, tA, tB, tC]
                refine h_call 3 95 69 #[.agg #[.bool gb, .slice ga gn gc], .agg #[.bool b12, .slice a12 n12 c12]] rfl rfl (by kernel_rfl) rfl (by go_simp) ?_
                refine (mul_any _ _ M (p : Int) w12 (hGd.below hb12) hI12 fMM fpp).mono ?_
                rintro en w13 ⟨x13, rfl, hI13, hb13⟩
                obtain ⟨b13, a13, n13, c13, rfl⟩ := hI13.form
                have hbq13 := hbq12.trans (hb13.mono hbq12.size)
                have G13 := G8.below hbq13
                have r0 := G13.c0; have r1 := G13.c1; have r2 := G13.f0; have r3 := G13.f1
                have hK13 := IsB.stored G13 hI13
                have hown13 := OwnVB.boxed (OwnVB.lower (OwnV.below (vecB _) (OwnV.below (vecB _) hhid hb12) hb13) hs8) G13 (by omega) (.bool b13) (.slice a13 n13 c13)
                have hbel13 := below_set2 (hbel8.trans (hbq13.mono hbel8.size)) (Nat.le_refl _) (.bool b13) (.slice a13 n13 c13)
                have hat13 := hK13.at
                refine ⟨_, rfl, trivial, ?_⟩
                simp only [Act.put, tA, tB, tC]
                refine h_store 4 (w' := (w13.setCell ⟨w3.heap.size, 0, none⟩ (.bool b13)).setCell ⟨w3.heap.size, 1, none⟩ (.slice a13 n13 c13)) rfl rfl (by kernel_rfl) rfl (by go_simp) trivial ?_
                clear r0 r1 r2 r3 G13
                generalize (w13.setCell ⟨w3.heap.size, 0, none⟩ (.bool b13)).setCell ⟨w3.heap.size, 1, none⟩ (.slice a13 n13 c13) = V4 at *
                refine wpAnyH_done (by kernel_rfl) ?_ _
                have hPW : (p : Int) ^ (k + 1) = M * p := by rw [HMS.out, HM.out]
                rw [← hPW] at hK13 hM3 hat13
                have hdec : by0.natAbs + 1 - bAt w3.heap.size V4 < by0.natAbs + 1 - bAt w3.heap.size wo2 := by
                  rw [hat13, hatK]
                  have h1 : ((p : Int) ^ (k + 1)).natAbs = ((p : Int) ^ k).natAbs * p := by rw [HMS.out, Int.natAbs_mul, Int.natAbs_natCast]
                  have h2 : 1 ≤ ((p : Int) ^ k).natAbs := by omega
                  have h3 : ((p : Int) ^ k).natAbs * 2 ≤ ((p : Int) ^ k).natAbs * p := Nat.mul_le_mul_left _ hp2
                  have h4 : ((p : Int) ^ k).natAbs ≤ by0.natAbs := by rw [HM.out]; rw [HM.out] at hMp; omega
                  omega
                have HDEC : Hid _ := hdec
                have HK13 : Hid _ := (⟨hK13, hM3⟩ : _ ∧ _)
                clear hdec hat13 hPW hK13 hM3
                go_wp2
                go_roundw
                case rel => exact ⟨k + 1, UP, hown13, HK13.out.1, HNL, HK13.out.2, hbel13⟩
                case measure => rw [← HWO2.out]; exact HDEC.out
              · refine (small_any (p : Int) (by omega) (by omega) V0).mono ?_
                rintro en w12 ⟨x12, rfl, hI12, hb12⟩
                obtain ⟨b12, a12, n12, c12, rfl⟩ := hI12.form
                have hbq12 := hbd.trans (hb12.mono hbd.size)
                refine ⟨_, rfl, trivial, ?_⟩
                simp only [Act.put, tA, tB, tC]
                clear q0 q1
                have Gd2 := Gd.below hb12
                have q0 := Gd2.c0; have q1 := Gd2.c1
                refine h_val 0 92 (.agg #[.bool gb, .slice ga gn gc]) (w' := w12) rfl rfl (by kernel_rfl) rfl (by go_simp) trivial ?_
                simp only [Act.put, tA, tB, tC]
                clear q0 q1
                refine h_call 3 95 69 #[.agg #[.bool gb, .slice ga gn gc], .agg #[.bool b12, .slice a12 n12 c12]] rfl rfl (by kernel_rfl) rfl (by go_simp) ?_
                refine (mul_any _ _ M (p : Int) w12 (hGd.below hb12) hI12 fMM fpp).mono ?_
                rintro en w13 ⟨x13, rfl, hI13, hb13⟩
                obtain ⟨b13, a13, n13, c13, rfl⟩ := hI13.form
                have hbq13 := hbq12.trans (hb13.mono hbq12.size)
                have G13 := G8.below hbq13
                have r0 := G13.c0; have r1 := G13.c1; have r2 := G13.f0; have r3 := G13.f1
                have hK13 := IsB.stored G13 hI13
                have hown13 := OwnVB.boxed (OwnVB.lower (OwnV.below (vecB _) (OwnV.below (vecB _) hhid hb12) hb13) hs8) G13 (by omega) (.bool b13) (.slice a13 n13 c13)
                have hbel13 := below_set2 (hbel8.trans (hbq13.mono hbel8.size)) (Nat.le_refl _) (.bool b13) (.slice a13 n13 c13)
                have hat13 := hK13.at
                refine ⟨_, rfl, trivial, ?_⟩
                simp only [Act.put, tA, tB, tC]
                refine h_store 4 (w' := (w13.setCell ⟨w3.heap.size, 0, none⟩ (.bool b13)).setCell ⟨w3.heap.size, 1, none⟩ (.slice a13 n13 c13)) rfl rfl (by kernel_rfl) rfl (by go_simp) trivial ?_
                clear r0 r1 r2 r3 G13
                generalize (w13.setCell ⟨w3.heap.size, 0, none⟩ (.bool b13)).setCell ⟨w3.heap.size, 1, none⟩ (.slice a13 n13 c13) = V4 at *
                refine wpAnyH_done (by kernel_rfl) ?_ _
                have hPW : (p : Int) ^ (k + 1) = M * p := by rw [HMS.out, HM.out]
                rw [← hPW] at hK13 hM3 hat13
                have hdec : by0.natAbs + 1 - bAt w3.heap.size V4 < by0.natAbs + 1 - bAt w3.heap.size wo2 := by
                  rw [hat13, hatK]
                  have h1 : ((p : Int) ^ (k + 1)).natAbs = ((p : Int) ^ k).natAbs * p := by rw [HMS.out, Int.natAbs_mul, Int.natAbs_natCast]
                  have h2 : 1 ≤ ((p : Int) ^ k).natAbs := by omega
                  have h3 : ((p : Int) ^ k).natAbs * 2 ≤ ((p : Int) ^ k).natAbs * p := Nat.mul_le_mul_left _ hp2
                  have h4 : ((p : Int) ^ k).natAbs ≤ by0.natAbs := by rw [HM.out]; rw [HM.out] at hMp; omega
                  omega
                have HDEC : Hid _ := hdec
                have HK13 : Hid _ := (⟨hK13, hM3⟩ : _ ∧ _)
                clear hdec hat13 hPW hK13 hM3
                go_wp2
                go_roundw
                case rel => exact ⟨k + 1, UP, hown13, HK13.out.1, HNL, HK13.out.2, hbel13⟩
                case measure => rw [← HWO2.out]; exact HDEC.out
        · have hc1 : ¬ cmp3 M by0 ≤ 0 := by rw [cmp3_gt (by omega)]; omega
          generalize cmp3 M by0 = cc at *
          have hgt : by0 < M := by omega
          have HRES : Hid (by0 < (p : Int) ^ k) := by show _ < _; rw [HM.out]; exact hgt
          go_wp2_with fail
          refine hcmp.mono ?_
          rintro en w6 ⟨rfl, hb6⟩
          have G6 := G0.below hb6
          have hown6 := OwnV.below (vecB _) hown hb6
          have hG6 := hG.below hb6
          have hbel6 := hbel.trans (hb6.mono hbel.size)
          have X6 := X13.below hbel6
          clear q0 q1 q2 q3
          go_wp2_with fail
          have hbd : Below w6.heap.size w6 w6.drew := ⟨rfl, rfl, rfl, Nat.le_refl _, fun _ _ => rfl⟩
          have Gd := G6.below hbd
          have hGd := hG6.below hbd
          have Xd := X6.below hbd
          have hownd := OwnV.below (vecB _) hown6 hbd
          have hbeld := hbel6.trans (hbd.mono hbel6.size)
          refine wp_region_held_drew (S := fun V => V.cell? ⟨w3.heap.size, 0, none⟩ = some (.bool gb) ∧ V.cell? ⟨w3.heap.size, 1, none⟩ = some (.slice ga gn gc)) (by kernel_rfl) ⟨Gd.c0, Gd.c1⟩ fun hS => ?_
          generalize w6.drew = V0 at *
          refine h_take 0 96 (.slice oa Λ.length oc) rfl rfl (by kernel_rfl) (by kernel_rfl) (by kernel_rfl) (fun _ _ _ h => h) rfl (fun _ _ => by first | rfl | go_simp) hS ?_
          simp only [Act.put, tA, tB, tC]
          refine h_take 1 97 (.agg #[.bool gb, .slice ga gn gc]) rfl rfl (by kernel_rfl) (by kernel_rfl) (by kernel_rfl) (fun _ _ _ h => h) rfl (fun w' hw' => by obtain ⟨y0, y1⟩ := hw'; go_simp) hS ?_
          simp only [Act.put, tA, tB, tC]
          refine h_take 2 8 (.slice oa Λ.length oc) rfl rfl (by kernel_rfl) (by kernel_rfl) (by kernel_rfl) (fun _ _ _ h => h) rfl (fun _ _ => by first | rfl | go_simp) hS ?_
          simp only [Act.put, tA, tB, tC]
          have r0 := Xd.c0; have r1 := Xd.c1; have r2 := Xd.f0; have r3 := Xd.f1
          have Ge := Gd.other (show w3.heap.size ≠ w.heap.size + 1 by omega) (.bool gb) (.slice ga gn gc)
          refine h_store 3 (w' := (V0.setCell ⟨w.heap.size + 1, 0, none⟩ (.bool gb)).setCell ⟨w.heap.size + 1, 1, none⟩ (.slice ga gn gc)) rfl rfl (by kernel_rfl) rfl (by go_simp) ⟨Ge.c0, Ge.c1⟩ ?_
          refine wpAnyH_done (by kernel_rfl) ?_ _
          have Xe := Xd.set (.bool gb) (.slice ga gn gc)
          have hGe := hGd.set2 Xd (.bool gb) (.slice ga gn gc)
          have howne := OwnVB.boxed hownd Xd (by omega) (.bool gb) (.slice ga gn gc)
          have hbe : Below w.heap.size w ((V0.setCell ⟨w.heap.size + 1, 0, none⟩ (.bool gb)).setCell ⟨w.heap.size + 1, 1, none⟩ (.slice ga gn gc)) := below_set2 (hb3w.trans (hbeld.mono hb3w.size)) (by omega) _ _
          clear r0 r1 r2 r3
          have r0 := Xe.c0; have r1 := Xe.c1
          have HFIN : Hid _ := (⟨hGe, howne, hbe⟩ : _ ∧ _ ∧ _)
          clear hGe howne hbe
          generalize (V0.setCell ⟨w.heap.size + 1, 0, none⟩ (.bool gb)).setCell ⟨w.heap.size + 1, 1, none⟩ (.slice ga gn gc) = V1 at *
          go_wp2
          refine bodyPost_ret (v := .tuple #[.slice oa Λ.length oc, .agg #[.bool gb, .slice ga gn gc]]) (by simp [results, Tryz.results71, go_sem, r0, r1]) rfl ⟨_, _, Λ, k, rfl, (OwnVB.vl HFIN.out.2.1).lower (by omega), HFIN.out.1, HL.out, HRES.out, hMf, HFIN.out.2.2⟩

end Go.Proofs.YtldcjkhbiffdoabGreatDoor
