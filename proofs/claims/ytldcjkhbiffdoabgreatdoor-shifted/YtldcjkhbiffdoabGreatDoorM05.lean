import Derived.Test.YtldcjkhbiffdoabGreatDoorM04

set_option linter.unusedSimpArgs false
namespace Go.Proofs.YtldcjkhbiffdoabGreatDoor

theorem pigeon : ∀ (N : Nat) (f : Nat → Nat), (∀ i, i ≤ N → f i < N) → ∃ i j, i < j ∧ j ≤ N ∧ f i = f j
  | 0, f, h => by have := h 0 (Nat.le_refl _); omega
  | N + 1, f, h => by
    by_cases h1 : ∃ i, i ≤ N ∧ f i = f (N + 1)
    · obtain ⟨i, h2, h3⟩ := h1
      exact ⟨i, N + 1, by omega, Nat.le_refl _, h3⟩
    · have h2 : ∀ i, i ≤ N → f i ≠ f (N + 1) := fun i hi e => h1 ⟨i, hi, e⟩
      have hN := h (N + 1) (Nat.le_refl _)
      obtain ⟨i, j, h3, h4, h5⟩ := pigeon N (fun i => if f (N + 1) < f i then f i - 1 else f i) (fun i hi => by
        have h3 := h i (by omega)
        have h4 := h2 i hi
        show (if f (N + 1) < f i then f i - 1 else f i) < N
        split <;> omega)
      refine ⟨i, j, h3, by omega, ?_⟩
      have h6 := h2 i (by omega)
      have h7 := h2 j (by omega)
      have h5' : (if f (N + 1) < f i then f i - 1 else f i) = (if f (N + 1) < f j then f j - 1 else f j) := h5
      split at h5' <;> split at h5' <;> omega

theorem Dom.of_trial {n : Nat} (hn : 2 ≤ n) (h : ∀ d, 2 ≤ d → d * d ≤ n → ¬ d ∣ n) : Dom (n : Int) := by
  obtain ⟨p, h1, h2, h3⟩ := prime_of n hn
  obtain ⟨m, hm⟩ := h2
  have hpm : p = n := by
    rcases Nat.lt_or_ge m 2 with h4 | h4
    · rcases (show m = 0 ∨ m = 1 by omega) with rfl | rfl
      · omega
      · omega
    · exfalso
      rcases Nat.le_total p m with h5 | h5
      · exact h p h1 (by rw [hm]; exact Nat.mul_le_mul_left _ h5) ⟨m, hm⟩
      · exact h m h4 (by rw [hm]; exact Nat.mul_le_mul_right _ h5) ⟨p, by rw [hm, Nat.mul_comm]⟩
  rw [← hpm]; exact h3

theorem Dom.only {n : Nat} (hn : 2 ≤ n) (h : Dom (n : Int)) {d : Nat} (hd : d ∣ n) : d = 1 ∨ d = n := by
  obtain ⟨m, hm⟩ := hd
  have h1 : (n : Int) ∣ (d : Int) * (m : Int) := by rw [← Int.natCast_mul, ← hm]; exact Int.dvd_refl _
  have hd0 : 0 < d := by rcases Nat.eq_zero_or_pos d with rfl | h; (· simp at hm; omega); exact h
  have hm0 : 0 < m := by rcases Nat.eq_zero_or_pos m with rfl | h; (· simp at hm; omega); exact h
  rcases h.1 _ _ h1 with h2 | h2
  · right
    have h3 := Nat.le_of_dvd hd0 (Int.natCast_dvd_natCast.1 h2)
    have h4 := Nat.le_of_dvd (by omega) (show d ∣ n from ⟨m, hm⟩)
    omega
  · left
    have h3 := Nat.le_of_dvd hm0 (Int.natCast_dvd_natCast.1 h2)
    rcases Nat.lt_or_ge d 2 with h4 | h4
    · omega
    · exfalso
      have : 2 * m ≤ d * m := Nat.mul_le_mul_right _ h4
      omega

theorem Dom.not_dvd {p q : Nat} (hp : 2 ≤ p) (hq : 2 ≤ q) (hdq : Dom (q : Int)) (hne : p ≠ q) : ¬ (p : Int) ∣ (q : Int) := fun h => by
  rcases hdq.only hq (Int.natCast_dvd_natCast.1 h) with h1 | h1 <;> omega

def prd : List Nat → Nat
  | [] => 1
  | p :: l => p * prd l

theorem prd_not {p : Nat} (hp : 2 ≤ p) (hd : Dom (p : Int)) : ∀ l : List Nat, (∀ q, q ∈ l → 2 ≤ q ∧ Dom (q : Int) ∧ q ≠ p) → ¬ (p : Int) ∣ (prd l : Int)
  | [], _ => by simpa [prd] using hd.2
  | q :: l, h => by
    obtain ⟨h1, h2, h3⟩ := h q (List.mem_cons_self ..)
    simp only [prd, Int.natCast_mul]
    exact hd.mul (Dom.not_dvd hp h1 h2 (fun e => h3 e.symm)) (prd_not hp hd l fun x hx => h x (List.mem_cons_of_mem _ hx))

def Asc : List Nat → Prop
  | [] => True
  | p :: l => (∀ q, q ∈ l → p < q) ∧ Asc l

theorem prd_dvd : ∀ (l : List Nat), Asc l → (∀ q, q ∈ l → 2 ≤ q ∧ Dom (q : Int)) → ∀ z : Int, (∀ q, q ∈ l → (q : Int) ∣ z) → (prd l : Int) ∣ z
  | [], _, _, z, _ => by simp [prd]
  | p :: l, ha, h, z, hz => by
    obtain ⟨y, rfl⟩ := prd_dvd l ha.2 (fun q hq => h q (List.mem_cons_of_mem _ hq)) z (fun q hq => hz q (List.mem_cons_of_mem _ hq))
    obtain ⟨h1, h2⟩ := h p (List.mem_cons_self ..)
    have h3 := prd_not h1 h2 l fun q hq => ⟨(h q (List.mem_cons_of_mem _ hq)).1, (h q (List.mem_cons_of_mem _ hq)).2, by have := ha.1 q hq; omega⟩
    obtain ⟨x, rfl⟩ := (h2.1 _ _ (hz p (List.mem_cons_self ..))).resolve_left h3
    exact ⟨x, by simp only [prd, Int.natCast_mul]; simp only [rA, rB, rC, rD, rE, rF, rG, rH, rI, rJ, rK]⟩

def code (K M : Nat) (z : Int) : List Int → Nat
  | [] => 0
  | a :: l => ((z * a % M) * K / M).toNat + K * code K M z l

theorem box_lt {K M : Nat} (hK : 0 < K) (hM : 0 < M) (x : Int) : 0 ≤ x % M * K / M ∧ (x % M * K / M).toNat < K := by
  have h1 : 0 ≤ x % M := Int.emod_nonneg _ (by omega)
  have h2 : x % M < M := Int.emod_lt_of_pos _ (by omega)
  have h3 : 0 ≤ x % M * K := Int.mul_nonneg h1 (by omega)
  have h4 : 0 ≤ x % M * K / M := Int.ediv_nonneg h3 (by omega)
  have h5 : x % M * K / M < K := Int.ediv_lt_of_lt_mul (by omega) (by rw [Int.mul_comm (K : Int)]; exact Int.mul_lt_mul_of_pos_right h2 (by omega))
  exact ⟨h4, by omega⟩

theorem code_lt {K M : Nat} (hK : 0 < K) (hM : 0 < M) (z : Int) : ∀ l, code K M z l < K ^ l.length
  | [] => by simp [code]
  | a :: l => by
    have h1 := code_lt hK hM z l
    have h2 := (box_lt hK hM (z * a)).2
    simp only [code, List.length_cons, Nat.pow_succ]
    have h3 : K * (code K M z l + 1) ≤ K * K ^ l.length := Nat.mul_le_mul_left _ h1
    rw [Nat.mul_add, Nat.mul_one] at h3
    rw [Nat.mul_comm (K ^ l.length)]
    omega

theorem code_eq {K M : Nat} (hK : 0 < K) (hM : 0 < M) (y z : Int) : ∀ l, code K M y l = code K M z l → ∀ a, a ∈ l → (((z * a % M) - (y * a % M)) * K).natAbs < M
  | [], _, a, h => by cases h
  | b :: l, e, a, ha => by
    simp only [code] at e
    have h1 := box_lt hK hM (y * b)
    have h2 := box_lt hK hM (z * b)
    have h3 : (y * b % M * K / M).toNat = (z * b % M * K / M).toNat ∧ code K M y l = code K M z l := by
      have e1 : ((y * b % M * K / M).toNat + K * code K M y l) % K = ((z * b % M * K / M).toNat + K * code K M z l) % K := by rw [e]
      rw [Nat.add_mul_mod_self_left, Nat.add_mul_mod_self_left, Nat.mod_eq_of_lt h1.2, Nat.mod_eq_of_lt h2.2] at e1
      refine ⟨e1, ?_⟩
      rw [e1] at e
      exact Nat.eq_of_mul_eq_mul_left hK (Nat.add_left_cancel e)
    rcases List.mem_cons.1 ha with rfl | ha
    · have h4 : y * a % M * K / M = z * a % M * K / M := by have := h3.1; omega
      have h5 := Int.mul_ediv_add_emod (y * a % M * K) M
      have h6 := Int.mul_ediv_add_emod (z * a % M * K) M
      have h7 := Int.emod_nonneg (y * a % M * K) (show (M : Int) ≠ 0 by omega)
      have h8 := Int.emod_nonneg (z * a % M * K) (show (M : Int) ≠ 0 by omega)
      have h9 := Int.emod_lt_of_pos (y * a % M * K) (show (0 : Int) < M by omega)
      have h10 := Int.emod_lt_of_pos (z * a % M * K) (show (0 : Int) < M by omega)
      rw [h4] at h5
      rw [Int.sub_mul]
      generalize y * a % M * K = Y at *
      generalize z * a % M * K = Z at *
      generalize Z / M = q at *
      omega
    · exact code_eq hK hM y z l h3.2 a ha

theorem ev_map2 (t w : Int) (M : Int) (E : Int → Int) : ∀ l : List Int, ev t (l.map fun a => w * a + M * E a) = w * ev t l + M * ev t (l.map E)
  | [] => by simp [ev]
  | a :: l => by
    simp only [List.map_cons, ev, ev_map2 t w M E l]
    simp only [rA, rB, rC, rD, rE, rF, rG, rH, rI, rJ, rK]
    omega

theorem lmul_bd {K M : Int} (hK : 0 ≤ K) (A : List Int) (hA : ∀ k, ((A.getD k 0).natAbs : Int) * K ≤ M) : ∀ (F : List Int) (k : Nat), (((lmul F A).getD k 0).natAbs : Int) * K ≤ M * nrm F
  | [], k => by simp [lmul, nrm]
  | f :: F, k => by
    have hM : 0 ≤ M := Int.le_trans (Int.mul_nonneg (by omega) hK) (hA 0)
    simp only [lmul, ladd_getD, scal_getD, nrm]
    have h1 : ((0 :: lmul F A).getD k 0).natAbs * K ≤ M * nrm F := by
      cases k with
      | zero => simp; exact Int.mul_nonneg hM (by omega)
      | succ k => simpa using lmul_bd hK A hA F k
    have h2 : ((f * A.getD k 0).natAbs : Int) * K ≤ M * f.natAbs := by
      rw [Int.natAbs_mul, Int.natCast_mul, Int.mul_assoc, Int.mul_comm M]
      exact Int.mul_le_mul_of_nonneg_left (hA k) (by omega)
    have h3 : ((f * A.getD k 0 + (0 :: lmul F A).getD k 0).natAbs : Int) ≤ (f * A.getD k 0).natAbs + ((0 :: lmul F A).getD k 0).natAbs := by omega
    have h4 := Int.mul_le_mul_of_nonneg_right h3 hK
    rw [Int.add_mul] at h4
    rw [Int.natCast_add, Int.mul_add]
    omega

theorem thue {K M : Nat} (hK : 0 < K) {A B : List Int} (hM : K ^ (A.length + B.length) < M) : ∃ (w : Int) (A' B' E1 E2 : List Int), 0 < w ∧ w < M ∧ A'.length = A.length ∧ B'.length = B.length ∧ (∀ t, ev t A' = w * ev t A + M * ev t E1) ∧ (∀ t, ev t B' = w * ev t B + M * ev t E2) ∧
    (∀ k, ((A'.getD k 0).natAbs : Int) * K ≤ M) ∧ ∀ k, ((B'.getD k 0).natAbs : Int) * K ≤ M := by
  have hM0 : 0 < M := by omega
  obtain ⟨y, z, h1, h2, h3⟩ := pigeon (K ^ (A ++ B).length) (fun i => code K M (i : Int) (A ++ B)) (fun i _ => code_lt hK hM0 _ _)
  rw [List.length_append] at h2
  have hc := code_eq hK hM0 _ _ _ h3
  have hD : ∀ a : Int, ((z : Int) * a % M) - ((y : Int) * a % M) = ((z : Int) - y) * a + M * ((y : Int) * a / M - (z : Int) * a / M) := by
    intro a
    have h4 := Int.mul_ediv_add_emod ((z : Int) * a) M
    have h5 := Int.mul_ediv_add_emod ((y : Int) * a) M
    rw [Int.sub_mul, Int.mul_sub]
    omega
  have hb : ∀ l : List Int, (∀ a, a ∈ l → a ∈ A ++ B) → ∀ k, (((l.map fun a => ((z : Int) - y) * a + M * ((y : Int) * a / M - (z : Int) * a / M)).getD k 0).natAbs : Int) * K ≤ M := by
    intro l hl k
    rcases Nat.lt_or_ge k l.length with h | h
    · have h4 := hc _ (hl _ (List.getElem_mem h))
      rw [Int.natAbs_mul, hD] at h4
      rw [List.getD, List.getElem?_map, List.getElem?_eq_getElem h]
      simp only [Option.map_some, Option.getD_some]
      rw [← Int.natCast_mul]
      have : ((K : Nat) : Int).natAbs = K := Int.natAbs_natCast K
      rw [this] at h4
      omega
    · rw [getD_out (by simpa using h)]; simp
  exact ⟨(z : Int) - y, _, _, _, _, by omega, by omega, by rw [List.length_map], by rw [List.length_map], fun t => ev_map2 t _ _ _ A, fun t => ev_map2 t _ _ _ B, hb A fun a h => List.mem_append_left _ h, hb B fun a h => List.mem_append_right _ h⟩

def BadP (F F' : Int → Int) (n p : Nat) : Prop := ∃ A B : List Int, A.length ≤ n - 1 ∧ B.length ≤ n ∧ Zm p (fun t => ev t A * F t + ev t B * F' t) ∧ ¬ (Zm p (fun t => ev t A) ∧ Zm p (fun t => ev t B))

theorem bad_of {F F' : Int → Int} {n p : Nat} {c : Int} (hn : 0 < n) (hp : Dom (p : Int)) (hF : Ld n c F) (hF' : Ld (n - 1) (n * c) F') (hz : ¬ Zm p F) (h : ¬ (¬ (p : Int) ∣ c ∧ Cop p F F')) : BadP F F' n p := by
  by_cases hc : (p : Int) ∣ c
  · obtain ⟨g, ⟨G, h1, h1'⟩, h2⟩ := hF
    obtain ⟨g', ⟨G', h3, h3'⟩, h4⟩ := hF'
    have e1 : Zm p (fun t => F t - g t) := (Zm.of_dvd (Po.xpow n) hc).congr fun t => by rw [h2]; omega
    have e2 : Zm p (fun t => F' t - g' t) := (Zm.of_dvd (c := n * c) (Po.xpow (n - 1)) (Int.dvd_trans hc (Int.dvd_mul_left ..))).congr fun t => by rw [h4]; omega
    have pg : Po g := ⟨_, G, h1, h1'⟩
    have pg' : Po g' := ⟨_, G', h3, h3'⟩
    refine ⟨G', G.map fun x => -1 * x, h3, by simpa using h1, ?_, fun h => hz ?_⟩
    · refine ((e1.mul pg').sub (e2.mul pg)).congr fun t => ?_
      show ev t G' * F t + ev t (G.map fun x => -1 * x) * F' t = g' t * (F t - g t) - g t * (F' t - g' t)
      rw [ev_scal, ← h1', ← h3']
      simp only [rA, rB, rC, rD, rE, rF, rG, rH, rI, rJ, rK]
      omega
    · refine (e1.sub h.2).congr fun t => ?_
      show F t = F t - g t - ev t (G.map fun x => -1 * x)
      rw [ev_scal, ← h1']; omega
  · have hcop : ¬ Cop p F F' := fun h' => h ⟨hc, h'⟩
    have hFd : Dm p n F := Dm.of_ld hF hc
    have hpl' : Pl n F' := by have := hF'.pl; rwa [show n - 1 + 1 = n by omega] at this
    obtain ⟨u, v, d, k, a', b', g1, g2, ⟨N, g3⟩, ⟨N1, g4⟩, ⟨N2, g5⟩, g6, g7, g8, g9, g10⟩ := bezout hp n hF.po hpl' (fun h => hz h.1)
    rcases Zm.or_dm (m := p) g3 with q1 | ⟨e, _, q1⟩
    · exact absurd q1 g6
    · have he : 0 < e := by
        rcases Nat.eq_zero_or_pos e with rfl | h'
        · obtain ⟨k0, q2, q3⟩ := q1.zero
          exact absurd ⟨u, v, k0, g1, g2, q2, (g8.add q3).congr fun t => by omega⟩ hcop
        · exact h'
      rcases Zm.or_dm (m := p) g4 with q2 | ⟨j, _, q2⟩
      · exact absurd ((g9.add (q2.mul g3.po)).congr (g := fun t => k * F t) fun t => by omega) (hFd.scal hp g7).not
      · have q3 := ((q1.mul hp q2).alike (g := fun t => k * F t) g9).uniq (hFd.scal hp g7)
        have ⟨_, a0, _, z3, q5⟩ := q2
        have ha0 : Pl n a0 := z3.pl.mono (by omega)
        have hb0 : ∃ b0, Pl (n - 1) b0 ∧ Zm p (fun t => b' t - b0 t) := by
          rcases Zm.or_dm (m := p) g5 with w1 | ⟨i, _, d0, b0, w1, w2, w3⟩
          · exact ⟨fun _ => 0, Pl.zero _, w1.congr fun t => Int.sub_zero _⟩
          · refine ⟨b0, ?_, w3⟩
            have w4 : Dm p i b' := ⟨d0, b0, w1, w2, w3⟩
            have w5 := (q1.mul hp w4).le (n := n) (g := fun t => k * F' t) (hpl'.scal k) (g10.neg.congr fun t => by omega)
            exact w2.pl.mono (by omega)
        obtain ⟨b0, hb1, hb2⟩ := hb0
        obtain ⟨B0, x1, x2⟩ := ha0
        obtain ⟨B1, x3, x4⟩ := hb1
        have pa0 : Po a0 := ⟨_, B0, x1, x2⟩
        have pb0 : Po b0 := ⟨_, B1, x3, x4⟩
        refine ⟨B1, B0.map fun x => -1 * x, x3, by simpa using x1, ?_, fun hh => q2.not ?_⟩
        · refine Zm.of_scal hp g7 ((pb0.mul hF.po).add ((Po.ev (B0.map fun x => -1 * x)).mul hF'.po) |>.congr fun t => by rw [← x4]) ?_
          refine (((g9.mul pb0).sub (g10.mul pa0)).add (((q5.mul pb0).sub (hb2.mul pa0)).mul g3.po)).congr fun t => ?_
          show k * (ev t B1 * F t + ev t (B0.map fun x => -1 * x) * F' t) = b0 t * (k * F t - d t * a' t) - a0 t * (k * F' t - d t * b' t) + d t * (b0 t * (a' t - a0 t) - a0 t * (b' t - b0 t))
          rw [ev_scal, ← x2, ← x4]
          simp only [rA, rB, rC, rD, rE, rF, rG, rH, rI, rJ, rK]
          omega
        · refine (q5.sub hh.2).congr fun t => ?_
          show a' t = a' t - a0 t - ev t (B0.map fun x => -1 * x)
          rw [ev_scal, ← x2]; omega

theorem bad_all {F F' : Int → Int} {n : Nat} (hF : Po F) (hF' : Po F') : ∀ l : List Nat, Asc l → (∀ q, q ∈ l → 2 ≤ q ∧ Dom (q : Int) ∧ BadP F F' n q) →
    ∃ A B : List Int, A.length ≤ n - 1 ∧ B.length ≤ n ∧ Zm (prd l) (fun t => ev t A * F t + ev t B * F' t) ∧ ∀ q, q ∈ l → ¬ (Zm q (fun t => ev t A) ∧ Zm q (fun t => ev t B))
  | [], _, _ => ⟨[], [], by simp, by simp, Zm.of_zero _ fun t => by simp [ev], fun q hq => by cases hq⟩
  | p :: l, ha, h => by
    obtain ⟨A, B, h1, h2, h3, h4⟩ := bad_all hF hF' l ha.2 fun q hq => h q (List.mem_cons_of_mem _ hq)
    obtain ⟨hp, hd, A', B', h5, h6, h7, h8⟩ := h p (List.mem_cons_self ..)
    have hnp := prd_not hp hd l fun q hq => ⟨(h q (List.mem_cons_of_mem _ hq)).1, (h q (List.mem_cons_of_mem _ hq)).2.1, by have := ha.1 q hq; omega⟩
    refine ⟨ladd (A.map fun x => (p : Int) * x) (A'.map fun x => (prd l : Int) * x), ladd (B.map fun x => (p : Int) * x) (B'.map fun x => (prd l : Int) * x), ladd_len _ _ _ (by simpa using h1) (by simpa using h5), ladd_len _ _ _ (by simpa using h2) (by simpa using h6), ?_, fun q hq hz => ?_⟩
    · obtain ⟨g, g1, g2⟩ := h3
      obtain ⟨g', g3, g4⟩ := h7
      refine ⟨fun t => g t + g' t, g1.add g3, fun t => ?_⟩
      have e1 : ev t A * F t + ev t B * F' t = (prd l : Int) * g t := g2 t
      have e2 : ev t A' * F t + ev t B' * F' t = (p : Int) * g' t := g4 t
      show ev t (ladd (A.map fun x => (p : Int) * x) (A'.map fun x => (prd l : Int) * x)) * F t + ev t (ladd (B.map fun x => (p : Int) * x) (B'.map fun x => (prd l : Int) * x)) * F' t = (prd (p :: l) : Int) * (g t + g' t)
      rw [ev_ladd, ev_ladd, ev_scal, ev_scal, ev_scal, ev_scal]
      simp only [prd, Int.natCast_mul]
      have e3 := congrArg (fun z => (p : Int) * z) e1
      have e4 := congrArg (fun z => (prd l : Int) * z) e2
      revert e3 e4
      generalize (prd l : Int) = P
      simp only [rA, rB, rC, rD, rE, rF, rG, rH, rI, rJ, rK]
      omega
    · rcases List.mem_cons.1 hq with rfl | hq
      · refine h8 ⟨Zm.of_scal hd hnp (Po.ev _) ?_, Zm.of_scal hd hnp (Po.ev _) ?_⟩
        · exact (hz.1.sub (Zm.of_dvd (Po.ev A) (Int.dvd_refl _))).congr fun t => by simp only [ev_ladd, ev_scal]; omega
        · exact (hz.2.sub (Zm.of_dvd (Po.ev B) (Int.dvd_refl _))).congr fun t => by simp only [ev_ladd, ev_scal]; omega
      · obtain ⟨q2, qd, _⟩ := h q (List.mem_cons_of_mem _ hq)
        have hne : ¬ (q : Int) ∣ (p : Int) := Dom.not_dvd q2 hp hd (by have := ha.1 q hq; omega)
        have hdv : (q : Int) ∣ (prd l : Int) := by
          have : ∀ l : List Nat, q ∈ l → (q : Int) ∣ (prd l : Int) := by
            intro l
            induction l with
            | nil => intro h; cases h
            | cons x l ih =>
              intro h
              simp only [prd, Int.natCast_mul]
              rcases List.mem_cons.1 h with rfl | h
              · exact Int.dvd_mul_right ..
              · exact Int.dvd_trans (ih h) (Int.dvd_mul_left ..)
          exact this l hq
        refine h4 q hq ⟨Zm.of_scal qd hne (Po.ev _) ?_, Zm.of_scal qd hne (Po.ev _) ?_⟩
        · exact (hz.1.sub (Zm.of_dvd (Po.ev A') hdv)).congr fun t => by simp only [ev_ladd, ev_scal]; omega
        · exact (hz.2.sub (Zm.of_dvd (Po.ev B') hdv)).congr fun t => by simp only [ev_ladd, ev_scal]; omega

theorem dvd_prd {q : Nat} : ∀ l : List Nat, q ∈ l → ∃ r, prd l = q * r
  | [], h => by cases h
  | x :: l, h => by
    rcases List.mem_cons.1 h with rfl | h
    · exact ⟨prd l, rfl⟩
    · obtain ⟨r, hr⟩ := dvd_prd l h
      exact ⟨x * r, by simp only [prd, hr]; rw [Nat.mul_left_comm]⟩

theorem not_all_bad {F F' : List Int} {n : Nat} {c : Int} {K : Nat} {l : List Nat} (hn : 0 < n) (hF : Ld n c (fun t => ev t F)) (hc : c ≠ 0) (hcop : Cop 0 (fun t => ev t F) (fun t => ev t F')) (hK : 2 * (nrm F + nrm F') ≤ K) (hK0 : 0 < K)
    (ha : Asc l) (hM : K ^ (2 * n - 1) < prd l) (h : ∀ q, q ∈ l → 2 ≤ q ∧ Dom (q : Int) ∧ BadP (fun t => ev t F) (fun t => ev t F') n q) : False := by
  obtain ⟨A, B, h1, h2, h3, h4⟩ := bad_all (Po.ev F) (Po.ev F') l ha h
  have hM' : K ^ (A.length + B.length) < prd l := Nat.lt_of_le_of_lt (Nat.pow_le_pow_right hK0 (by omega)) hM
  obtain ⟨w, A', B', E1, E2, g1, g2, g3, g4, g5, g6, g7, g8⟩ := thue hK0 hM'
  have hM0 : 0 < prd l := by omega
  -- the combination is 0
  have z1 : Zm (prd l) (fun t => ev t (ladd (lmul F A') (lmul F' B')) - ev t []) := by
    refine (((h3.scal w).add (Zm.of_dvd ((Po.ev E1).mul (Po.ev F)) (Int.dvd_refl _))).add (Zm.of_dvd ((Po.ev E2).mul (Po.ev F')) (Int.dvd_refl _))).congr fun t => ?_
    show ev t (ladd (lmul F A') (lmul F' B')) - ev t [] = w * (ev t A * ev t F + ev t B * ev t F') + (prd l : Int) * (ev t E1 * ev t F) + (prd l : Int) * (ev t E2 * ev t F')
    rw [ev_ladd, ev_lmul, ev_lmul, g5, g6]
    simp only [ev]
    generalize (prd l : Int) = P
    simp only [rA, rB, rC, rD, rE, rF, rG, rH, rI, rJ, rK]
    omega
  have bd : ∀ k, 2 * (((ladd (lmul F A') (lmul F' B')).getD k 0).natAbs : Int) ≤ (prd l : Int) := by
    intro k
    have b1 := lmul_bd (K := (K : Int)) (by omega) A' g7 F k
    have b2 := lmul_bd (K := (K : Int)) (by omega) B' g8 F' k
    rw [ladd_getD]
    have b3 : (((lmul F A').getD k 0 + (lmul F' B').getD k 0).natAbs : Int) ≤ ((lmul F A').getD k 0).natAbs + ((lmul F' B').getD k 0).natAbs := by omega
    have b4 := Int.mul_le_mul_of_nonneg_right b3 (show (0 : Int) ≤ K by omega)
    rw [Int.add_mul] at b4
    have b5 : (prd l : Int) * nrm F + (prd l : Int) * nrm F' = (prd l : Int) * ((nrm F + nrm F' : Nat) : Int) := by rw [← Int.mul_add, Int.natCast_add]
    have b6 : (prd l : Int) * (2 * ((nrm F + nrm F' : Nat) : Int)) ≤ (prd l : Int) * K := Int.mul_le_mul_of_nonneg_left (by omega) (by omega)
    refine Int.le_of_mul_le_mul_right (a := (K : Int)) ?_ (by omega)
    rw [Int.mul_assoc]
    rw [Int.mul_left_comm] at b6
    omega
  have z2 : ∀ t, ev t F * ev t A' + ev t F' * ev t B' = 0 := by
    intro t
    have := near_eq z1 bd (fun k => by simp; omega) t
    rw [ev_ladd, ev_lmul, ev_lmul] at this
    exact this
  have hFd : Dm 0 n (fun t => ev t F) := ld_dm0 hF hc
  have z3 : Zm 0 (fun t => ev t B') := by
    have d1 : Dv 0 (fun t => ev t F) (fun t => ev t F' * ev t B') := ⟨1, fun t => - ev t A', Dom.zero.2, (Po.ev A').neg, Zm.of_zero _ fun t => by
      have := z2 t
      show 1 * (ev t F' * ev t B') - ev t F * - ev t A' = 0
      rw [Int.mul_neg]; omega⟩
    have d2 := hcop.dv Dom.zero (Po.ev B') d1
    rcases Zm.or_dm (m := 0) (Pl.ev B') with h' | ⟨e, he, h'⟩
    · exact h'
    · obtain ⟨_, _, j, _, _, q, _⟩ := d2.deg Dom.zero hFd h'
      omega
  have z4 : Zm 0 (fun t => ev t A') := by
    have : Zm 0 (fun t => ev t F * ev t A') := Zm.of_zero _ fun t => by
      have q1 := z2 t
      have q2 : ev t B' = 0 := z3.eq0 t
      rw [q2] at q1; omega
    exact (Zm.or Dom.zero (Po.ev F) (Po.ev A') this).resolve_left hFd.not
  have hw : ∀ q, q ∈ l → (q : Int) ∣ w := by
    intro q hq
    obtain ⟨q2, qd, _⟩ := h q hq
    refine Classical.byContradiction fun hnw => ?_
    obtain ⟨r, hr⟩ := dvd_prd l hq
    refine h4 q hq ⟨Zm.of_scal qd hnw (Po.ev A) ⟨_, (Po.ev E1).scal (-(r : Int)), fun t => ?_⟩, Zm.of_scal qd hnw (Po.ev B) ⟨_, (Po.ev E2).scal (-(r : Int)), fun t => ?_⟩⟩
    · have q1 := g5 t
      have q3 : ev t A' = 0 := z4.eq0 t
      rw [q3, hr, Int.natCast_mul, Int.mul_assoc] at q1
      show w * ev t A = (q : Int) * (-(r : Int) * ev t E1)
      rw [Int.neg_mul, Int.mul_neg]; omega
    · have q1 := g6 t
      have q3 : ev t B' = 0 := z3.eq0 t
      rw [q3, hr, Int.natCast_mul, Int.mul_assoc] at q1
      show w * ev t B = (q : Int) * (-(r : Int) * ev t E2)
      rw [Int.neg_mul, Int.mul_neg]; omega
  have := prd_dvd l ha (fun q hq => ⟨(h q hq).1, (h q hq).2.1⟩) w hw
  have := Int.le_of_dvd g1 this
  omega

def tp (n : Nat) : Bool := decide (2 ≤ n) && (List.range 32).all fun d => decide (d < 2) || decide (n < d * d) || decide (n % d ≠ 0)
def ps : List Nat := (List.range 1000).filter tp
def asc : List Nat → Bool
  | [] => true
  | p :: l => l.all (fun q => decide (p < q)) && asc l
theorem asc_Asc : ∀ l, asc l = true → Asc l
  | [], _ => trivial
  | p :: l, h => by
    simp only [asc, Bool.and_eq_true, List.all_eq_true, decide_eq_true_eq] at h
    exact ⟨h.1, asc_Asc l h.2⟩
theorem ps_asc : asc ps = true := by decide +kernel
theorem ps_prd : (10 ^ 19) ^ 19 < prd ps := by decide +kernel
theorem ps_mem {q : Nat} (h : q ∈ ps) : 2 ≤ q ∧ q < 1000 ∧ Dom (q : Int) := by
  unfold ps at h
  rw [List.mem_filter] at h
  obtain ⟨h1, h2⟩ := h
  have h1 := List.mem_range.1 h1
  simp only [tp, Bool.and_eq_true, List.all_eq_true, decide_eq_true_eq, Bool.or_eq_true] at h2
  refine ⟨h2.1, h1, Dom.of_trial h2.1 fun d hd hdd hdv => ?_⟩
  have hd32 : d < 32 := by
    rcases Nat.lt_or_ge d 32 with h | h
    · exact h
    · have := Nat.mul_le_mul h h; omega
  rcases h2.2 d (List.mem_range.2 hd32) with (h3 | h3) | h3
  · omega
  · omega
  · exact h3 (Nat.mod_eq_zero_of_dvd hdv)

theorem ps_all : ∃ l : List Nat, (∀ q, q ∈ l → 2 ≤ q ∧ q < 1000 ∧ Dom (q : Int)) ∧ Asc l ∧ (10 ^ 19) ^ 19 < prd l := by
  have h : ∀ l, l = ps → (∀ q, q ∈ l → 2 ≤ q ∧ q < 1000 ∧ Dom (q : Int)) ∧ Asc l ∧ (10 ^ 19) ^ 19 < prd l :=
    fun l e => ⟨fun q hq => ps_mem (by rw [← e]; exact hq), asc_Asc l (by rw [e]; exact ps_asc), by rw [e]; exact ps_prd⟩
  exact ⟨ps, h ps rfl⟩

theorem fits {F F' : List Int} {n : Nat} {c : Int} (hn : 0 < n) (hn10 : n ≤ 10) (hF : Ld n c (fun t => ev t F)) (hc : c ≠ 0) (hF' : Ld (n - 1) (n * c) (fun t => ev t F')) (hprm : Prm (fun t => ev t F)) (hcop : Cop 0 (fun t => ev t F) (fun t => ev t F')) (hK : 2 * (nrm F + nrm F') ≤ 10 ^ 19) :
    ∃ p : Nat, 2 ≤ p ∧ p < 1000 ∧ Dom (p : Int) ∧ ¬ (p : Int) ∣ c ∧ Cop p (fun t => ev t F) (fun t => ev t F') := by
  refine Classical.byContradiction fun hno => ?_
  obtain ⟨l, hl, hA, hM⟩ := ps_all
  have h0 : 0 < 10 ^ 19 := Nat.pow_pos (by decide)
  generalize 10 ^ 19 = K at hM hK h0
  have hP : K ^ (2 * n - 1) < prd l := Nat.lt_of_le_of_lt (Nat.pow_le_pow_right h0 (by omega)) hM
  refine not_all_bad (l := l) hn hF hc hcop hK h0 hA hP fun q hq => ?_
  obtain ⟨h1, h2, h3⟩ := hl q hq
  exact ⟨h1, h3, bad_of hn h3 hF hF' (hprm.2 q h1 h3) fun h => hno ⟨q, h1, h2, h3, h⟩⟩

end Go.Proofs.YtldcjkhbiffdoabGreatDoor

set_option linter.unusedSimpArgs false
namespace Go.Proofs.YtldcjkhbiffdoabGreatDoor

def chs : Nat → Nat → Nat
  | _, 0 => 1
  | 0, _ + 1 => 0
  | n + 1, k + 1 => chs n k + chs n (k + 1)

theorem chs_big : ∀ n k, n < k → chs n k = 0
  | 0, 0, h => by omega
  | 0, k + 1, _ => rfl
  | n + 1, 0, h => by omega
  | n + 1, k + 1, h => by simp only [chs, chs_big n k (by omega), chs_big n (k + 1) (by omega)]
theorem chs_zero (n : Nat) : chs n 0 = 1 := by cases n <;> rfl
theorem chs_self : ∀ n, chs n n = 1
  | 0 => rfl
  | n + 1 => by simp only [chs, chs_self n, chs_big n (n + 1) (by omega)]
theorem chs_mul : ∀ n k, (k + 1) * chs (n + 1) (k + 1) = (n + 1) * chs n k
  | 0, 0 => rfl
  | 0, k + 1 => by simp [chs]
  | n + 1, 0 => by
    have h1 := chs_mul n 0
    simp only [chs, chs_zero] at h1 ⊢
    omega
  | n + 1, k + 1 => by
    have h1 := chs_mul n k
    have h2 := chs_mul n (k + 1)
    have h3 : chs (n + 1 + 1) (k + 1 + 1) = chs (n + 1) (k + 1) + chs (n + 1) (k + 1 + 1) := rfl
    have h4 : chs (n + 1) (k + 1) = chs n k + chs n (k + 1) := rfl
    rw [h3, Nat.mul_add, h2]
    have h5 : (k + 1 + 1) * chs (n + 1) (k + 1) = (k + 1) * chs (n + 1) (k + 1) + chs (n + 1) (k + 1) := Nat.succ_mul ..
    rw [h5, h1]
    have h6 : (n + 1 + 1) * chs (n + 1) (k + 1) = (n + 1) * chs (n + 1) (k + 1) + chs (n + 1) (k + 1) := Nat.succ_mul ..
    rw [h6]
    have h7 : (n + 1) * chs (n + 1) (k + 1) = (n + 1) * chs n k + (n + 1) * chs n (k + 1) := by rw [h4, Nat.mul_add]
    omega

theorem chs_dvd {p : Nat} (hp2 : 2 ≤ p) (hp : Dom (p : Int)) {k : Nat} (h0 : 0 < k) (hk : k < p) : (p : Int) ∣ (chs p k : Int) := by
  obtain ⟨n, rfl⟩ : ∃ n, p = n + 1 := ⟨p - 1, by omega⟩
  obtain ⟨j, rfl⟩ : ∃ j, k = j + 1 := ⟨k - 1, by omega⟩
  have h := chs_mul n j
  have h1 : ((n + 1 : Nat) : Int) ∣ ((j + 1 : Nat) : Int) * (chs (n + 1) (j + 1) : Int) := by
    rw [← Int.natCast_mul, h, Int.natCast_mul]
    exact Int.dvd_mul_right ..
  refine (hp.1 _ _ h1).resolve_left fun h2 => ?_
  have := Nat.le_of_dvd (by omega) (Int.natCast_dvd_natCast.1 h2)
  omega

theorem binom (x y : Int) : ∀ n, (x + y) ^ n = sm (fun k => (chs n k : Int) * (x ^ k * y ^ (n - k))) (n + 1)
  | 0 => by simp [sm, chs]
  | n + 1 => by
    rw [Int.pow_succ, binom x y n, Int.mul_add, Int.mul_comm _ x, Int.mul_comm _ y, ← sm_scal, ← sm_scal]
    have e1 : sm (fun k => x * ((chs n k : Int) * (x ^ k * y ^ (n - k)))) (n + 1) = sm (fun k => (chs n k : Int) * (x ^ (k + 1) * y ^ (n - k))) (n + 1) := by
      refine sm_congr _ fun k _ => ?_
      rw [Int.pow_succ]
      generalize x ^ k = a
      simp only [rA, rB, rC, rD, rE, rF, rG, rH, rI, rJ, rK]
    have e2 : sm (fun k => y * ((chs n k : Int) * (x ^ k * y ^ (n - k)))) (n + 1) = y ^ (n + 1) + sm (fun k => (chs n (k + 1) : Int) * (x ^ (k + 1) * y ^ (n - k))) (n + 1) := by
      have : sm (fun k => y * ((chs n k : Int) * (x ^ k * y ^ (n - k)))) (n + 1) = sm (fun k => (chs n k : Int) * (x ^ k * y ^ (n + 1 - k))) (n + 1) := by
        refine sm_congr _ fun k hk => ?_
        rw [show n + 1 - k = (n - k) + 1 by omega, Int.pow_succ]
        generalize y ^ (n - k) = a
        simp only [rA, rB, rC, rD, rE, rF, rG, rH, rI, rJ, rK]
      rw [this, sm_first]
      simp only [sm, chs_zero, Nat.sub_zero, Int.pow_zero, Int.one_mul, Int.natCast_one]
      rw [chs_big n (n + 1) (by omega)]
      have : sm (fun k => (chs n (k + 1) : Int) * (x ^ (k + 1) * y ^ (n + 1 - (k + 1)))) n = sm (fun k => (chs n (k + 1) : Int) * (x ^ (k + 1) * y ^ (n - k))) n := by
        refine sm_congr _ fun k _ => ?_
        rw [show n + 1 - (k + 1) = n - k by omega]
      rw [this]; simp
    rw [e1, e2, sm_first _ (n + 1)]
    have e3 : sm (fun k => (chs (n + 1) (k + 1) : Int) * (x ^ (k + 1) * y ^ (n + 1 - (k + 1)))) (n + 1) = sm (fun k => (chs n k : Int) * (x ^ (k + 1) * y ^ (n - k))) (n + 1) + sm (fun k => (chs n (k + 1) : Int) * (x ^ (k + 1) * y ^ (n - k))) (n + 1) := by
      rw [← sm_add]
      refine sm_congr _ fun k _ => ?_
      rw [show n + 1 - (k + 1) = n - k by omega, show chs (n + 1) (k + 1) = chs n k + chs n (k + 1) from rfl, Int.natCast_add, Int.add_mul]
    rw [e3]
    simp [chs_zero]
    omega

theorem Po.sm {F : Nat → Int → Int} : ∀ n, (∀ k, k < n → Po (F k)) → Po (fun t => Go.Proofs.YtldcjkhbiffdoabGreatDoor.sm (fun k => F k t) n)
  | 0, _ => Po.zero
  | n + 1, h => (Po.sm n fun k hk => h k (by omega)).add (h n (by omega))
theorem Zm.sm {m : Int} {F : Nat → Int → Int} : ∀ n, (∀ k, k < n → Zm m (F k)) → Zm m (fun t => Go.Proofs.YtldcjkhbiffdoabGreatDoor.sm (fun k => F k t) n)
  | 0, _ => Zm.of_zero m fun _ => rfl
  | n + 1, h => (Zm.sm n fun k hk => h k (by omega)).add (h n (by omega))

theorem frob_add {p : Nat} (hp2 : 2 ≤ p) (hp : Dom (p : Int)) {f g : Int → Int} (hf : Po f) (hg : Po g) : Zm p (fun t => (f t + g t) ^ p - (f t ^ p + g t ^ p)) := by
  obtain ⟨n, hn⟩ : ∃ n, p = n + 1 := ⟨p - 1, by omega⟩
  have h1 : Zm p (fun t => sm (fun k => (chs p (k + 1) : Int) * (f t ^ (k + 1) * g t ^ (p - (k + 1)))) n) :=
    Zm.sm n fun k hk => Zm.of_dvd ((hf.pow _).mul (hg.pow _)) (chs_dvd hp2 hp (by omega) (by omega))
  refine h1.congr fun t => ?_
  rw [binom, sm_first]
  have h2 : sm (fun k => (chs p (k + 1) : Int) * (f t ^ (k + 1) * g t ^ (p - (k + 1)))) p = sm (fun k => (chs p (k + 1) : Int) * (f t ^ (k + 1) * g t ^ (p - (k + 1)))) n + f t ^ p := by
    conv => lhs; arg 2; rw [hn]
    simp only [sm]
    congr 1
    rw [← hn, chs_self, Nat.sub_self]; simp
  rw [h2, chs_zero]
  simp
  omega

theorem fermat {p : Nat} (hp2 : 2 ≤ p) (hp : Dom (p : Int)) : ∀ a : Nat, (p : Int) ∣ (a : Int) ^ p - a
  | 0 => by
    obtain ⟨n, rfl⟩ : ∃ n, p = n + 1 := ⟨p - 1, by omega⟩
    rw [Int.pow_succ]; simp
  | a + 1 => by
    have h1 := (frob_add hp2 hp (Po.const (a : Int)) (Po.const 1)).const
    have h2 := fermat hp2 hp a
    have h3 := Int.dvd_add h1 h2
    rw [Int.one_pow] at h3
    rw [show ((a + 1 : Nat) : Int) = (a : Int) + 1 by omega]
    have h4 : ((a : Int) + 1) ^ p - ((a : Int) ^ p + 1) + ((a : Int) ^ p - a) = ((a : Int) + 1) ^ p - ((a : Int) + 1) := by omega
    rwa [h4] at h3

theorem frob {p : Nat} (hp2 : 2 ≤ p) (hp : Dom (p : Int)) : ∀ l : List Int, (∀ a, a ∈ l → 0 ≤ a) → Zm p (fun t => ev t l ^ p - ev (t ^ p) l)
  | [], _ => Zm.of_zero _ fun t => by
    obtain ⟨n, rfl⟩ : ∃ n, p = n + 1 := ⟨p - 1, by omega⟩
    simp only [ev]; rw [Int.pow_succ]; simp
  | a :: l, h => by
    have ih := frob hp2 hp l fun x hx => h x (List.mem_cons_of_mem _ hx)
    have ha : 0 ≤ a := h a (List.mem_cons_self ..)
    have h1 := frob_add hp2 hp (Po.const a) ((Po.xpow 1).mul (Po.ev l))
    have h2 := fermat hp2 hp a.toNat
    rw [show ((a.toNat : Nat) : Int) = a by omega] at h2
    have h3 : Zm p (fun _ => (a ^ p - a) * 1) := Zm.of_dvd (Po.const 1) h2
    refine ((h1.add h3).add (ih.mul (Po.xpow p))).congr fun t => ?_
    simp only [ev]
    show (a + t * ev t l) ^ p - (a + t ^ p * ev (t ^ p) l) = (a + t ^ 1 * ev t l) ^ p - (a ^ p + (t ^ 1 * ev t l) ^ p) + (a ^ p - a) * 1 + t ^ p * (ev t l ^ p - ev (t ^ p) l)
    rw [Int.pow_one, Int.mul_pow, Int.mul_sub]
    omega

theorem root_div (a : Int) : ∀ l : List Int, ∃ m : List Int, m.length ≤ l.length - 1 ∧ ∀ t, ev t l = ev a l + (t - a) * ev t m
  | [] => ⟨[], by simp, fun t => by simp [ev]⟩
  | c :: l => by
    obtain ⟨m, h1, h2⟩ := root_div a l
    cases l with
    | nil => exact ⟨[], by simp, fun t => by simp [ev]⟩
    | cons b l =>
      refine ⟨ev a (b :: l) :: m, by simp at h1 ⊢; omega, fun t => ?_⟩
      simp only [ev] at h2 ⊢
      have h3 := h2 t
      rw [h3]
      simp only [rA, rB, rC, rD, rE, rF, rG, rH, rI, rJ, rK]
      omega

theorem lagrange {p : Nat} (hp2 : 2 ≤ p) (hp : Dom (p : Int)) : ∀ n, n ≤ p → ∀ l : List Int, l.length ≤ n → (∀ a : Nat, a < n → (p : Int) ∣ ev a l) → Zm p (fun t => ev t l)
  | 0, _, l, h, _ => by
    obtain rfl : l = [] := List.length_eq_zero_iff.1 (by omega)
    exact Zm.of_zero _ fun _ => rfl
  | n + 1, hn, l, h, ha => by
    obtain ⟨m, h1, h2⟩ := root_div (n : Int) l
    have h3 := lagrange hp2 hp n (by omega) m (by omega) (fun a han => by
      have h4 := ha a (by omega)
      have h5 := ha n (by omega)
      rw [h2 a] at h4
      have h6 : (p : Int) ∣ ((a : Int) - n) * ev a m := (Int.dvd_add_right h5).1 h4
      refine (hp.1 _ _ h6).resolve_left fun h7 => ?_
      have h8 := Int.eq_zero_of_dvd_of_natAbs_lt_natAbs h7 (by rw [Int.natAbs_natCast]; omega)
      omega)
    obtain ⟨c, hc⟩ := ha n (by omega)
    have h4 : Zm p (fun _ => (p : Int) * c) := ⟨fun _ => c, Po.const c, fun _ => rfl⟩
    refine (h4.add (h3.mul ((Po.xpow 1).sub (Po.const n)))).congr fun t => ?_
    rw [h2 t, hc, Int.pow_one]

def less : Nat → Int → Int
  | 0 => fun _ => 1
  | n + 1 => fun y => less n y * (y - n)

theorem less_ld : ∀ n, Ld n 1 (less n)
  | 0 => Ld.const 1
  | n + 1 => by
    have h1 : Ld 1 1 (fun y : Int => y - n) := ⟨fun _ => -(n : Int), Pl.const _, fun t => by show t - n = 1 * t ^ 1 + -(n : Int); rw [Int.pow_one]; omega⟩
    exact (less_ld n).mul h1
theorem less_root : ∀ n (a : Nat), a < n → less n a = 0
  | 0, a, h => by omega
  | n + 1, a, h => by
    show less n a * ((a : Int) - n) = 0
    rcases (show a = n ∨ a < n by omega) with rfl | h1
    · rw [Int.sub_self, Int.mul_zero]
    · rw [less_root n a h1, Int.zero_mul]

theorem less_p {p : Nat} (hp2 : 2 ≤ p) (hp : Dom (p : Int)) : Zm p (fun y => less p y - (y ^ p - y)) := by
  have h1 : Pl p (fun y => less p y - (y ^ p - y)) := by
    have h2 : Ld p (1 - (1 - 0)) (fun y => less p y - (y ^ p - y)) := by
      refine (less_ld p).sub (Ld.one_pow.sub (Ld.of_pl ?_))
      exact ((Pl.xpow 1).mono (by omega)).congr fun t => (Int.pow_one t).symm
    exact h2.to_pl
  obtain ⟨l, h3, h4⟩ := h1
  refine (lagrange hp2 hp p (Nat.le_refl _) l h3 fun a ha => ?_).congr h4
  rw [← h4]
  show (p : Int) ∣ less p a - ((a : Int) ^ p - a)
  rw [less_root p a ha, Int.zero_sub]
  exact Int.dvd_neg.2 (fermat hp2 hp a)

theorem Po.comp {f : Int → Int} (hf : Po f) {v : Int → Int} (hv : Po v) : Po (fun t => f (v t)) := by
  obtain ⟨n, l, _, h2⟩ := hf
  have : ∀ l : List Int, Po (fun t => Go.Proofs.YtldcjkhbiffdoabGreatDoor.ev (v t) l) := by
    intro l
    induction l with
    | nil => exact Po.zero
    | cons a l ih => exact (Po.const a).add (hv.mul ih)
  exact (this l).congr fun t => h2 (v t)
theorem Zm.comp {m : Int} {f : Int → Int} (hf : Zm m f) {v : Int → Int} (hv : Po v) : Zm m (fun t => f (v t)) := by
  obtain ⟨g, h1, h2⟩ := hf
  exact ⟨_, h1.comp hv, fun t => h2 (v t)⟩

theorem berl_prod {p : Nat} (hp2 : 2 ≤ p) (hp : Dom (p : Int)) {l : List Int} (hl : ∀ a, a ∈ l → 0 ≤ a) : Zm p (fun t => less p (ev t l) - (ev (t ^ p) l - ev t l)) :=
  (((less_p hp2 hp).comp (Po.ev l)).add (frob hp2 hp l hl)).congr fun t => by omega

end Go.Proofs.YtldcjkhbiffdoabGreatDoor
