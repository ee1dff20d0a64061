import Derived.Test.YtldcjkhbiffdoabGreatDoorM05

set_option linter.unusedSimpArgs false
namespace Go.Proofs.YtldcjkhbiffdoabGreatDoor

def sP : List ((Int → Int) × (Int → Int)) → Int → Int
  | [] => fun _ => 0
  | x :: L => fun t => x.2 t * pA (L.map Prod.fst) t + x.1 t * sP L t

theorem sP_po : ∀ L : List ((Int → Int) × (Int → Int)), (∀ x, x ∈ L → Po x.1 ∧ Po x.2) → Po (sP L) ∧ Po (pA (L.map Prod.fst))
  | [], _ => ⟨Po.zero, Po.const 1⟩
  | x :: L, h => by
    obtain ⟨h1, h2⟩ := sP_po L fun y hy => h y (List.mem_cons_of_mem _ hy)
    obtain ⟨h3, h4⟩ := h x (List.mem_cons_self ..)
    exact ⟨(h4.mul h2).add (h3.mul h1), h3.mul h2⟩

theorem sP_prod (M : Int) : ∀ L : List ((Int → Int) × (Int → Int)), (∀ x, x ∈ L → Po x.1 ∧ Po x.2) → ∃ Q, Po Q ∧ ∀ t, pA (L.map fun x t => x.1 t + M * x.2 t) t = pA (L.map Prod.fst) t + M * sP L t + M * M * Q t
  | [], _ => ⟨fun _ => 0, Po.zero, fun t => by simp [pA, sP]⟩
  | x :: L, h => by
    have hL : ∀ y, y ∈ L → Po y.1 ∧ Po y.2 := fun y hy => h y (List.mem_cons_of_mem _ hy)
    obtain ⟨Q, h1, h2⟩ := sP_prod M L hL
    obtain ⟨h3, h4⟩ := h x (List.mem_cons_self ..)
    obtain ⟨h5, h6⟩ := sP_po L hL
    refine ⟨fun t => x.1 t * Q t + x.2 t * sP L t + M * (x.2 t * Q t), ((h3.mul h1).add (h4.mul h5)).add ((h4.mul h1).scal M), fun t => ?_⟩
    show (x.1 t + M * x.2 t) * pA (L.map fun x t => x.1 t + M * x.2 t) t = x.1 t * pA (L.map Prod.fst) t + M * (x.2 t * pA (L.map Prod.fst) t + x.1 t * sP L t) + M * M * (x.1 t * Q t + x.2 t * sP L t + M * (x.2 t * Q t))
    rw [h2]
    simp only [rA, rB, rC, rD, rE, rF, rG, rH, rI, rJ, rK]
    omega

theorem sP_app : ∀ (L1 L2 : List ((Int → Int) × (Int → Int))) (t : Int), sP (L1 ++ L2) t = sP L1 t * pA (L2.map Prod.fst) t + pA (L1.map Prod.fst) t * sP L2 t
  | [], L2, t => by simp [sP, pA]
  | x :: L1, L2, t => by
    show x.2 t * pA ((L1 ++ L2).map Prod.fst) t + x.1 t * sP (L1 ++ L2) t = (x.2 t * pA (L1.map Prod.fst) t + x.1 t * sP L1 t) * pA (L2.map Prod.fst) t + x.1 t * pA (L1.map Prod.fst) t * sP L2 t
    rw [sP_app L1 L2 t, List.map_append, pA_app]
    simp only [rA, rB, rC, rD, rE, rF, rG, rH, rI, rJ, rK]
    omega

theorem sP_alike {m : Int} : ∀ (L M : List ((Int → Int) × (Int → Int))), L.length = M.length → (∀ x, x ∈ L → Po x.1 ∧ Po x.2) → (∀ x, x ∈ M → Po x.1 ∧ Po x.2) → (∀ (i : Nat) (x y : (Int → Int) × (Int → Int)), L[i]? = some x → M[i]? = some y → Zm m (fun t => x.1 t - y.1 t) ∧ ∀ t, x.2 t = y.2 t) →
    Zm m (fun t => pA (L.map Prod.fst) t - pA (M.map Prod.fst) t) ∧ Zm m (fun t => sP L t - sP M t)
  | [], [], _, _, _, _ => ⟨Zm.of_zero _ fun t => by simp, Zm.of_zero _ fun t => by simp⟩
  | [], y :: M, h, _, _, _ => by simp at h
  | x :: L, [], h, _, _, _ => by simp at h
  | x :: L, y :: M, h, hL, hM, he => by
    have hL' : ∀ z, z ∈ L → Po z.1 ∧ Po z.2 := fun z hz => hL z (List.mem_cons_of_mem _ hz)
    have hM' : ∀ z, z ∈ M → Po z.1 ∧ Po z.2 := fun z hz => hM z (List.mem_cons_of_mem _ hz)
    obtain ⟨h1, h2⟩ := sP_alike L M (by simpa using h) hL' hM' fun i a b ha hb => he (i + 1) a b (by simpa using ha) (by simpa using hb)
    obtain ⟨h3, h4⟩ := he 0 x y rfl rfl
    obtain ⟨x1, x2⟩ := hL x (List.mem_cons_self ..)
    obtain ⟨m1, m2⟩ := sP_po M hM'
    refine ⟨((h1.mul x1).add (h3.mul m2)).congr fun t => ?_, (((h1.mul x2).add (h2.mul x1)).add (h3.mul m1)).congr fun t => ?_⟩
    · show x.1 t * pA (L.map Prod.fst) t - y.1 t * pA (M.map Prod.fst) t = x.1 t * (pA (L.map Prod.fst) t - pA (M.map Prod.fst) t) + pA (M.map Prod.fst) t * (x.1 t - y.1 t)
      simp only [rA, rB, rC, rD, rE, rF, rG, rH, rI, rJ, rK]
      omega
    · show x.2 t * pA (L.map Prod.fst) t + x.1 t * sP L t - (y.2 t * pA (M.map Prod.fst) t + y.1 t * sP M t) = x.2 t * (pA (L.map Prod.fst) t - pA (M.map Prod.fst) t) + x.1 t * (sP L t - sP M t) + sP M t * (x.1 t - y.1 t)
      rw [← h4]
      simp only [rA, rB, rC, rD, rE, rF, rG, rH, rI, rJ, rK]
      omega

theorem sP_deg : ∀ L : List ((Int → Int) × (Int → Int)), (∀ x, x ∈ L → ∃ d, Ld d 1 x.1 ∧ Pl d x.2) → ∃ N, Ld N 1 (pA (L.map Prod.fst)) ∧ Pl N (sP L)
  | [], _ => ⟨0, Ld.const 1, Pl.zero 0⟩
  | x :: L, h => by
    obtain ⟨N, h1, h2⟩ := sP_deg L fun y hy => h y (List.mem_cons_of_mem _ hy)
    obtain ⟨d, h3, h4⟩ := h x (List.mem_cons_self ..)
    refine ⟨d + N, ?_, ?_⟩
    · have := h3.mul h1
      rwa [Int.one_mul] at this
    · have h5 : Pl (d + N) (fun t => x.2 t * pA (L.map Prod.fst) t) := h4.mul h1.pl
      have h6 : Pl (N + d) (fun t => sP L t * x.1 t) := h2.mul h3.pl
      exact h5.add ((h6.mono (by omega)).congr fun t => Int.mul_comm _ _)

theorem Cop.right {m : Int} {a b e : Int → Int} (he : Po e) (h : Cop m a (fun t => b t * e t)) : Cop m a b := by
  obtain ⟨u, v, c, h1, h2, h3, h4⟩ := h
  exact ⟨u, fun t => v t * e t, c, h1, h2.mul he, h3, h4.congr fun t => by
    show u t * a t + v t * e t * b t - c = u t * a t + v t * (b t * e t) - c
    rw [Int.mul_assoc, Int.mul_comm (e t)]⟩

theorem crt {p : Nat} (hp0 : 0 < p) (hp : Dom (p : Int)) {f D : Int → Int} {c : Int} {U : List (Int → Int)} (hsq : Sq p f) (hU : ∀ u, u ∈ U → Po u) (hz : Zm p (fun t => f t - c * pA U t)) (hD : Po D) (h : ∀ u, u ∈ U → Di p u D) : Di p (pA U) D := by
  have : ∀ (A B : List (Int → Int)), U = A ++ B → Di p (pA A) D → Di p (pA (A ++ B)) D := by
    intro A B
    induction B generalizing A with
    | nil => intro _ hA; rwa [List.append_nil]
    | cons u B ih =>
      intro hAB hA
      have hmem : ∀ x, x ∈ A ++ (u :: B) → Po x := fun x hx => hU x (by rw [hAB]; exact hx)
      have hPA : Po (pA A) := pA_po A fun x hx => hmem x (by simp [hx])
      have hPB : Po (pA B) := pA_po B fun x hx => hmem x (by simp [hx])
      have hu : Po u := hmem u (by simp)
      have hcop : Cop p (pA A) u := Cop.right hPB (hsq.cop (c := c) hPA (hu.mul hPB) (hz.congr fun t => by
        rw [hAB, pA_app]; rfl))
      have h1 := Di.both hp0 hp hu hcop hA (h u (by rw [hAB]; simp))
      have h2 := ih (A ++ [u]) (by rw [hAB]; simp) (by
        obtain ⟨s, q1, q2⟩ := h1
        exact ⟨s, q1, q2.congr fun t => by rw [pA_snoc]⟩)
      rwa [List.append_assoc] at h2
  exact this [] U rfl (Di.of_eq hD fun t => by simp [pA])

theorem Di.zm_of_deg {p n : Nat} (hp : Dom (p : Int)) {A D : Int → Int} (hA : Dm p n A) (hD : Pl n D) (h : Di p A D) : Zm p D := by
  rcases Zm.or_dm (m := p) hD with h4 | ⟨e, he, h4⟩
  · exact h4
  · obtain ⟨_, _, j, _, _, h5, _⟩ := (h.dv hp).deg hp hA h4
    omega

theorem partial_fractions {p n : Nat} (hp0 : 0 < p) (hp : Dom (p : Int)) {f e : Int → Int} {c : Int} (hsq : Sq p f) (hf : Dm p n f) (hc : ¬ (p : Int) ∣ c) (he : Pl n e) {L : List ((Int → Int) × (Int → Int))} (hL : ∀ x, x ∈ L → ∃ d, Ld d 1 x.1 ∧ Pl d x.2)
    (hz : Zm p (fun t => f t - c * pA (L.map Prod.fst) t))
    (hcof : ∀ x, x ∈ L → ∃ O k, Po O ∧ Po k ∧ Zm p (fun t => f t - O t * x.1 t) ∧ Di p x.1 (fun t => k t * O t - 1) ∧ Di p x.1 (fun t => e t * k t - x.2 t)) : Zm p (fun t => c * sP L t - e t) := by
  obtain ⟨N, h1, h2⟩ := sP_deg L hL
  have hN : N = n := by
    have h3 : Dm p N (fun t => c * pA (L.map Prod.fst) t) := (Dm.of_ld h1 hp.2).scal hp hc
    exact (h3.alike hz).uniq hf
  subst hN
  have hLp : ∀ x, x ∈ L → Po x.1 ∧ Po x.2 := fun x hx => by
    obtain ⟨d, q1, q2⟩ := hL x hx
    exact ⟨q1.po, q2.po⟩
  have hPl : Pl N (fun t => c * sP L t - e t) := (h2.scal c).sub he
  refine Di.zm_of_deg hp (Dm.of_ld h1 hp.2) hPl (crt hp0 hp hsq (fun u hu => ?_) hz hPl.po fun u hu => ?_)
  · obtain ⟨x, hx, rfl⟩ := List.mem_map.1 hu
    exact (hLp x hx).1
  · obtain ⟨x, hx, rfl⟩ := List.mem_map.1 hu
    obtain ⟨O, k, g1, g2, g3, g4, g5⟩ := hcof x hx
    obtain ⟨L1, L2, rfl⟩ := List.append_of_mem hx
    obtain ⟨hx1, hx2⟩ := hLp x hx
    have m1 := sP_po L1 fun y hy => hLp y (by simp [hy])
    have m2 := sP_po L2 fun y hy => hLp y (by simp [hy])
    have hPP : Po (fun t => pA (L1.map Prod.fst) t * pA (L2.map Prod.fst) t) := m1.2.mul m2.2
    -- the others are O
    have k1 : Zm p (fun t => O t - c * (pA (L1.map Prod.fst) t * pA (L2.map Prod.fst) t)) := by
      have k2 : Zm p (fun t => x.1 t * (O t - c * (pA (L1.map Prod.fst) t * pA (L2.map Prod.fst) t))) := (hz.sub g3).congr fun t => by
        rw [List.map_append, pA_app]
        show x.1 t * (O t - c * (pA (L1.map Prod.fst) t * pA (L2.map Prod.fst) t)) = f t - c * (pA (L1.map Prod.fst) t * (x.1 t * pA (L2.map Prod.fst) t)) - (f t - O t * x.1 t)
        simp only [rA, rB, rC, rD, rE, rF, rG, rH, rI, rJ, rK]
        omega
      refine (Zm.or hp hx1 (g1.sub (hPP.scal c)) k2).resolve_left fun hzz => ?_
      obtain ⟨d, q1, _⟩ := hL x hx
      have := hzz.lead q1
      exact hp.2 this
    -- all together
    have a1 : Di p x.1 (fun t => c * sP (L1 ++ x :: L2) t - x.2 t * (c * (pA (L1.map Prod.fst) t * pA (L2.map Prod.fst) t))) := by
      refine Di.of_eq (s := fun t => c * (sP L1 t * pA (L2.map Prod.fst) t + pA (L1.map Prod.fst) t * sP L2 t)) (((m1.1.mul m2.2).add (m1.2.mul m2.1)).scal c) fun t => ?_
      rw [sP_app]
      show c * (sP L1 t * (x.1 t * pA (L2.map Prod.fst) t) + pA (L1.map Prod.fst) t * (x.2 t * pA (L2.map Prod.fst) t + x.1 t * sP L2 t)) - x.2 t * (c * (pA (L1.map Prod.fst) t * pA (L2.map Prod.fst) t)) = x.1 t * (c * (sP L1 t * pA (L2.map Prod.fst) t + pA (L1.map Prod.fst) t * sP L2 t))
      simp only [rA, rB, rC, rD, rE, rF, rG, rH, rI, rJ, rK]
      omega
    refine ((a1.sub (g5.mul g1)).add (g4.mul he.po)).alike ((k1.mul hx2).neg.congr fun t => ?_)
    show c * sP (L1 ++ x :: L2) t - e t - (c * sP (L1 ++ x :: L2) t - x.2 t * (c * (pA (L1.map Prod.fst) t * pA (L2.map Prod.fst) t)) - O t * (e t * k t - x.2 t) + e t * (k t * O t - 1)) = -(x.2 t * (O t - c * (pA (L1.map Prod.fst) t * pA (L2.map Prod.fst) t)))
    simp only [rA, rB, rC, rD, rE, rF, rG, rH, rI, rJ, rK]
    omega

theorem lift_alike {p k : Nat} {f ms mw : Int → Int} {c : Int} (hk : 1 ≤ k) {L : List ((Int → Int) × (Int → Int))} (hL : ∀ x, x ∈ L → Po x.1 ∧ Po x.2) (hex : ∀ t, f t - c * pA (L.map Prod.fst) t = (p : Int) ^ k * mw t) (hms : Zm p (fun t => ms t - mw t))
    (hpf : Zm p (fun t => c * sP L t - ms t)) : Zm ((p : Int) ^ (k + 1)) (fun t => f t - c * pA (L.map fun x t => x.1 t + (p : Int) ^ k * x.2 t) t) := by
  obtain ⟨Q, h1, h2⟩ := sP_prod ((p : Int) ^ k) L hL
  obtain ⟨g, h3, h4⟩ := hpf.add hms
  obtain ⟨j, rfl⟩ : ∃ j, k = j + 1 := ⟨k - 1, by omega⟩
  refine ⟨fun t => - g t - c * ((p : Int) ^ j * Q t), h3.neg.sub ((h1.scal ((p : Int) ^ j)).scal c), fun t => ?_⟩
  have h5 : c * sP L t - ms t + (ms t - mw t) = p * g t := h4 t
  have h6 := hex t
  show f t - c * pA (L.map fun x t => x.1 t + (p : Int) ^ (j + 1) * x.2 t) t = (p : Int) ^ (j + 1 + 1) * (- g t - c * ((p : Int) ^ j * Q t))
  rw [h2]
  have e1 : (p : Int) ^ (j + 1 + 1) = (p : Int) ^ (j + 1) * p := Int.pow_succ ..
  have e2 : (p : Int) ^ (j + 1) = (p : Int) ^ j * p := Int.pow_succ ..
  have h7 : (p : Int) ^ (j + 1) * mw t = (p : Int) ^ (j + 1) * (c * sP L t - p * g t) := by congr 1; omega
  have h8 : (p : Int) ^ (j + 1) * (p : Int) ^ (j + 1) * Q t = (p : Int) ^ (j + 1) * p * ((p : Int) ^ j * Q t) := by
    conv => lhs; rw [Int.mul_assoc]; rhs; rw [e2]
    simp only [rA, rB, rC, rD, rE, rF, rG, rH, rI, rJ, rK]
  rw [e1, h8]
  revert h6 h7
  generalize (p : Int) ^ (j + 1) = M
  generalize (p : Int) ^ j * Q t = q
  generalize pA (L.map Prod.fst) t = P
  intro h6 h7
  rw [h7] at h6
  have h9 : f t = c * P + M * (c * sP L t - p * g t) := by omega
  rw [h9]
  simp only [rA, rB, rC, rD, rE, rF, rG, rH, rI, rJ, rK]
  omega

def up (l r : List Int) (M : Int) : List Int := tab (max l.length (List.replicate 0 0 ++ r.map fun x => x * M).length) fun k => l.getD k 0 + (List.replicate 0 0 ++ r.map fun x => x * M).getD k 0

theorem up_getD (l r : List Int) (M : Int) (k : Nat) : (up l r M).getD k 0 = l.getD k 0 + M * r.getD k 0 := by
  have h : (List.replicate 0 0 ++ r.map fun x => x * M).getD k 0 = M * r.getD k 0 := by
    rw [List.replicate_zero, List.nil_append, show (fun x : Int => x * M) = fun x => M * x from funext fun x => Int.mul_comm x M, scal_getD]
  unfold up
  rw [tab_getD, h]
  split
  · rfl
  · next hk =>
    have hr : (List.replicate 0 0 ++ r.map fun x => x * M).length = r.length := by simp
    rw [getD_out (show l.length ≤ k by omega), getD_out (show r.length ≤ k by omega)]
    simp
theorem up_ev (l r : List Int) (M t : Int) : ev t (up l r M) = ev t l + M * ev t r := by
  rw [← ev_scal, ← ev_ladd]
  exact ev_of_getD (fun k => by rw [up_getD, ladd_getD, scal_getD]) t
theorem up_len {l r : List Int} (M : Int) (h : r.length ≤ l.length) : (up l r M).length = l.length := by
  unfold up
  rw [tab_len]
  have : (List.replicate 0 0 ++ r.map fun x => x * M).length = r.length := by simp
  omega

structure LiO (p : Nat) (F : List Int) (U : List (List Int)) (k : Nat) (Λ : List (List Int)) : Prop where
  one : 1 ≤ k
  len : Λ.length = U.length
  mon : ∀ (i : Nat) (l u : List Int), Λ[i]? = some l → U[i]? = some u → l.length = u.length ∧ lead l = 1 ∧ Zm p (fun t => ev t l - ev t u) ∧ ∀ j, 0 ≤ l.getD j 0 ∧ l.getD j 0 < (p : Int) ^ k
  eq : Zm ((p : Int) ^ k) (fun t => ev t F - lead F * pA (fs Λ) t)

theorem LiO.start {p n : Nat} {F : List Int} {U : List (List Int)} (h : SpR p (fun t => ev t F) (lead F) n U) : LiO p F U 1 U where
  one := Nat.le_refl _
  len := rfl
  mon := fun i l u hl hu => by
    obtain rfl : l = u := Option.some.inj (hl.symm.trans hu)
    have := h.mem l (List.mem_of_getElem? hl)
    exact ⟨rfl, this.1.l1, Zm.of_zero _ fun t => by omega, fun j => by rw [Int.pow_one]; exact this.1.nrm.1 j⟩
  eq := by rw [Int.pow_one]; exact h.eq

def ups (Λ R : List (List Int)) (M : Int) : List (List Int) := List.zipWith (fun l r => up l r M) Λ R

theorem ups_at {Λ R : List (List Int)} {M : Int} {i : Nat} {x : List Int} (h : (ups Λ R M)[i]? = some x) : ∃ l r, Λ[i]? = some l ∧ R[i]? = some r ∧ x = up l r M := by
  unfold ups at h
  rw [List.getElem?_zipWith] at h
  cases h1 : Λ[i]? with
  | none => rw [h1] at h; simp at h
  | some l =>
    cases h2 : R[i]? with
    | none => rw [h1, h2] at h; simp at h
    | some r => rw [h1, h2] at h; simp at h; exact ⟨l, r, rfl, rfl, h.symm⟩

theorem zip_fst : ∀ (A B : List (List Int)), A.length = B.length → (List.zipWith (fun l r => ((fun t => ev t l : Int → Int), (fun t => ev t r : Int → Int))) A B).map Prod.fst = fs A
  | [], B, _ => by simp [fs]
  | a :: A, [], h => by simp at h
  | a :: A, b :: B, h => by
    have := zip_fst A B (by simpa using h)
    simp only [List.zipWith_cons_cons, List.map_cons, this]; rfl
theorem zip_up (M : Int) : ∀ (A B : List (List Int)) (t : Int), A.length = B.length → pA ((List.zipWith (fun l r => ((fun t => ev t l : Int → Int), (fun t => ev t r : Int → Int))) A B).map fun x t => x.1 t + M * x.2 t) t = pA (fs (ups A B M)) t
  | [], B, t, _ => by simp [fs, ups]
  | a :: A, [], t, h => by simp at h
  | a :: A, b :: B, t, h => by
    have := zip_up M A B t (by simpa using h)
    simp only [List.zipWith_cons_cons, List.map_cons, ups, fs] at this ⊢
    show (ev t a + M * ev t b) * _ = ev t (up a b M) * _
    rw [this, up_ev]
theorem zip_mem {A B : List (List Int)} {x : (Int → Int) × (Int → Int)} (h : x ∈ List.zipWith (fun l r => ((fun t => ev t l : Int → Int), (fun t => ev t r : Int → Int))) A B) : ∃ (i : Nat) (a b : List Int), A[i]? = some a ∧ B[i]? = some b ∧ x = ((fun t => ev t a), fun t => ev t b) := by
  obtain ⟨i, hi⟩ := List.getElem?_of_mem h
  rw [List.getElem?_zipWith] at hi
  cases h1 : A[i]? with
  | none => rw [h1] at hi; simp at hi
  | some l =>
    cases h2 : B[i]? with
    | none => rw [h1, h2] at hi; simp at hi
    | some r => rw [h1, h2] at hi; simp at hi; exact ⟨i, l, r, h1, h2, hi.symm⟩

theorem LiO.next {p n k : Nat} (hp2 : 2 ≤ p) (hp : Dom (p : Int)) {F : List Int} {U Λ C R : List (List Int)} {mw ms : List Int} (h : LiO p F U k Λ) (hs : SpR p (fun t => ev t F) (lead F) n U) (hsq : Sq p (fun t => ev t F)) (hF : F ≠ []) (hnc : ¬ (p : Int) ∣ lead F)
    (hC : ∀ (i : Nat) (u c : List Int), U[i]? = some u → C[i]? = some c → CofR p (fun t => ev t F) u c) (hCl : C.length = U.length)
    (hex : ∀ t, ev t F - lead F * pA (fs Λ) t = (p : Int) ^ k * ev t mw) (hmz : Zm p (fun t => ev t ms - ev t mw)) (hml : ms.length ≤ F.length - 1)
    (hRl : R.length = U.length) (hR : ∀ (i : Nat) (u c r : List Int), U[i]? = some u → C[i]? = some c → R[i]? = some r → Nrm p r ∧ r.length < u.length ∧ Di p (fun t => ev t u) (fun t => ev t ms * ev t c - ev t r)) :
    LiO p F U (k + 1) (ups Λ R ((p : Int) ^ k)) := by
  have hlen := h.len
  have hF0 := List.length_pos_iff.2 hF
  have getU : ∀ i, i < U.length → ∃ u c r l, U[i]? = some u ∧ C[i]? = some c ∧ R[i]? = some r ∧ Λ[i]? = some l := fun i hi =>
    ⟨_, _, _, _, List.getElem?_eq_getElem hi, List.getElem?_eq_getElem (by omega), List.getElem?_eq_getElem (by omega), List.getElem?_eq_getElem (by omega)⟩
  have hdm : Dm p (F.length - 1) (fun t => ev t F) := Dm.of_ld (Ld.of_list (by omega)) hnc
  refine ⟨by omega, by unfold ups; rw [List.length_zipWith]; omega, fun i x u hx hu => ?_, ?_⟩
  · obtain ⟨l, r, h1, h2, rfl⟩ := ups_at hx
    have hi : i < U.length := (List.getElem?_eq_some_iff.1 hu).1
    obtain ⟨u', c, r', l', q1, q2, q3, q4⟩ := getU i hi
    obtain rfl : u = u' := Option.some.inj (hu.symm.trans q1)
    obtain rfl : r = r' := Option.some.inj (h2.symm.trans q3)
    obtain ⟨g1, g2, g3, g4⟩ := h.mon i l u h1 hu
    obtain ⟨r1, r2, _⟩ := hR i u c r hu q2 h2
    have hul := (hs.mem u (List.mem_of_getElem? hu)).1.len
    have hl := up_len (l := l) (r := r) ((p : Int) ^ k) (by omega)
    refine ⟨by rw [hl]; exact g1, ?_, ?_, fun j => ?_⟩
    · unfold lead
      rw [hl, up_getD, getD_out (show r.length ≤ l.length - 1 by omega)]
      have : l.getD (l.length - 1) 0 = 1 := g2
      omega
    · obtain ⟨j, rfl⟩ : ∃ j, k = j + 1 := ⟨k - 1, by have := h.one; omega⟩
      refine (g3.add (Zm.of_dvd (c := (p : Int) ^ (j + 1)) (Po.ev r) (by rw [Int.pow_succ]; exact Int.dvd_mul_left ..))).congr fun t => ?_
      rw [up_ev]; omega
    · obtain ⟨a1, a2⟩ := g4 j
      obtain ⟨b1, b2⟩ := r1.1 j
      have hpk : 0 < (p : Int) ^ k := Int.pow_pos (by omega)
      have c1 := Int.mul_nonneg (Int.le_of_lt hpk) b1
      have c2 : (p : Int) ^ k * r.getD j 0 ≤ (p : Int) ^ k * (p - 1) := Int.mul_le_mul_of_nonneg_left (by omega) (Int.le_of_lt hpk)
      rw [up_getD, Int.pow_succ]
      rw [Int.mul_sub, Int.mul_one] at c2
      omega
  · have hz1 := zip_fst Λ R (by omega)
    have hz2 := zip_fst U R (by omega)
    have hpf : Zm p (fun t => lead F * sP (List.zipWith (fun l r => ((fun t => ev t l : Int → Int), (fun t => ev t r : Int → Int))) U R) t - ev t ms) := by
      refine partial_fractions (n := F.length - 1) (by omega) hp hsq hdm hnc ⟨ms, hml, fun _ => rfl⟩ (fun x hx => ?_) (by rw [hz2]; exact hs.eq) fun x hx => ?_
      · obtain ⟨i, u, r, h1, h2, rfl⟩ := zip_mem hx
        obtain ⟨_, c, _, _, _, q2, _, _⟩ := getU i (List.getElem?_eq_some_iff.1 h1).1
        obtain ⟨r1, r2, _⟩ := hR i u c r h1 q2 h2
        have hu := (hs.mem u (List.mem_of_getElem? h1)).1
        exact ⟨u.length - 1, hu.ld, ⟨r, by omega, fun _ => rfl⟩⟩
      · obtain ⟨i, u, r, h1, h2, rfl⟩ := zip_mem hx
        obtain ⟨_, c, _, _, _, q2, _, _⟩ := getU i (List.getElem?_eq_some_iff.1 h1).1
        obtain ⟨r1, r2, r3⟩ := hR i u c r h1 q2 h2
        obtain ⟨_, _, O, o1, o2, o3⟩ := hC i u c h1 q2
        exact ⟨O, fun t => ev t c, o1, Po.ev c, o2, o3, r3⟩
    have hal := sP_alike (m := (p : Int)) (List.zipWith (fun l r => ((fun t => ev t l : Int → Int), (fun t => ev t r : Int → Int))) Λ R) (List.zipWith (fun l r => ((fun t => ev t l : Int → Int), (fun t => ev t r : Int → Int))) U R) (by simp; omega) (fun x hx => by
      obtain ⟨i, a, b, _, _, rfl⟩ := zip_mem hx; exact ⟨Po.ev a, Po.ev b⟩) (fun x hx => by
      obtain ⟨i, a, b, _, _, rfl⟩ := zip_mem hx; exact ⟨Po.ev a, Po.ev b⟩) (fun i x y hx hy => by
      rw [List.getElem?_zipWith] at hx hy
      cases h1 : Λ[i]? with
      | none => rw [h1] at hx; simp at hx
      | some l =>
        cases h2 : R[i]? with
        | none => rw [h1, h2] at hx; simp at hx
        | some r =>
          cases h3 : U[i]? with
          | none => rw [h3] at hy; simp at hy
          | some u =>
            rw [h1, h2] at hx
            rw [h3, h2] at hy
            simp at hx hy
            subst hx
            subst hy
            exact ⟨(h.mon i l u h1 h3).2.2.1, fun _ => rfl⟩)
    have := lift_alike (p := p) (k := k) (f := fun t => ev t F) (ms := fun t => ev t ms) (mw := fun t => ev t mw) (c := lead F) h.one (L := List.zipWith (fun l r => ((fun t => ev t l : Int → Int), (fun t => ev t r : Int → Int))) Λ R) (fun x hx => by
      obtain ⟨i, a, b, _, _, rfl⟩ := zip_mem hx; exact ⟨Po.ev a, Po.ev b⟩) (fun t => by rw [hz1]; exact hex t) hmz ((hpf.add (hal.2.scal (lead F))).congr fun t => by rw [Int.mul_sub]; omega)
    exact this.congr fun t => by rw [zip_up _ Λ R t (by omega)]

theorem LiO.zas {p n k : Nat} (hp2 : 2 ≤ p) (hp : Dom (p : Int)) {F : List Int} {U Λ : List (List Int)} (h : LiO p F U k Λ) (hs : SpR p (fun t => ev t F) (lead F) n U) (hsq : Sq p (fun t => ev t F)) (hF : F ≠ []) (hnc : ¬ (p : Int) ∣ lead F) : Zas p k (fs Λ) (fun t => ev t F) (lead F) (F.length - 1) where
  two := hp2
  dom := hp
  one := h.one
  irr := fun g hg => by
    obtain ⟨l, h1, rfl⟩ := fs_mem hg
    obtain ⟨i, hi⟩ := List.getElem?_of_mem h1
    have hlt : i < U.length := by rw [← h.len]; exact (List.getElem?_eq_some_iff.1 hi).1
    obtain ⟨q1, q2, q3, _⟩ := h.mon i l _ hi (List.getElem?_eq_getElem hlt)
    have hu := (hs.mem U[i] (List.getElem_mem hlt)).2
    obtain ⟨a1, a2, a3, a4⟩ := hu
    refine ⟨Po.ev l, fun hz => a2 ((hz.sub q3).congr fun t => by omega), fun hd => a3 (hd.alike (q3.neg.congr fun t => by omega)), fun a b c ha hb hc hz => a4 a b c ha hb hc ((hz.sub (q3.scal c)).congr fun t => by dsimp only; rw [Int.mul_sub]; omega)⟩
  mon := fun g hg => by
    obtain ⟨l, h1, rfl⟩ := fs_mem hg
    obtain ⟨i, hi⟩ := List.getElem?_of_mem h1
    have hlt : i < U.length := by rw [← h.len]; exact (List.getElem?_eq_some_iff.1 hi).1
    obtain ⟨q1, q2, q3, _⟩ := h.mon i l _ hi (List.getElem?_eq_getElem hlt)
    have hul := (hs.mem U[i] (List.getElem_mem hlt)).1.len
    refine ⟨l.length - 1, ?_⟩
    have := Ld.of_list (l := l) (n := l.length - 1) (by omega)
    rwa [show l.getD (l.length - 1) 0 = 1 from q2] at this
  sq := hsq
  hc := hnc
  ld := Ld.of_list (by have := List.length_pos_iff.2 hF; omega)
  alike := h.eq

def near (M z : Int) : Int :=
  if M < ((z.tmod M + z.tmod M).natAbs : Int) then (if 0 < z.tmod M then z.tmod M - M else z.tmod M + M) else z.tmod M

theorem near_dvd (M z : Int) : M ∣ near M z - z := by
  have h := Int.mul_tdiv_add_tmod z M
  unfold near
  split
  · split
    · exact ⟨-(z.tdiv M) - 1, by rw [Int.mul_sub, Int.mul_neg, Int.mul_one]; omega⟩
    · exact ⟨-(z.tdiv M) + 1, by rw [Int.mul_add, Int.mul_neg, Int.mul_one]; omega⟩
  · exact ⟨-(z.tdiv M), by rw [Int.mul_neg]; omega⟩
theorem near_le {M : Int} (hM : 0 < M) (z : Int) : 2 * ((near M z).natAbs : Int) ≤ M := by
  have h1 : ((z.tmod M).natAbs : Int) < M := by
    have := Int.natAbs_tmod z M
    have h2 := Nat.mod_lt z.natAbs (show 0 < M.natAbs by omega)
    omega
  unfold near
  split
  · split <;> omega
  · omega

theorem near_map {M : Int} (l : List Int) : Zm M (fun t => ev t (l.map (near M)) - ev t l) := by
  induction l with
  | nil => exact Zm.of_zero _ fun _ => rfl
  | cons a l ih =>
    obtain ⟨g, h1, h2⟩ := ih
    obtain ⟨q, hq⟩ := near_dvd M a
    refine ⟨fun t => q + t ^ 1 * g t, (Po.const q).add ((Po.xpow 1).mul h1), fun t => ?_⟩
    have h3 : ev t (l.map (near M)) - ev t l = M * g t := h2 t
    show near M a + t * ev t (l.map (near M)) - (a + t * ev t l) = M * (q + t ^ 1 * g t)
    rw [Int.pow_one, Int.mul_add, ← hq, Int.mul_left_comm, ← h3, Int.mul_sub]
    omega

def dsum : List (List Int) → Nat
  | [] => 0
  | l :: L => (l.length - 1) + dsum L
theorem dsum_app : ∀ A B : List (List Int), dsum (A ++ B) = dsum A + dsum B
  | [], B => by simp [dsum]
  | a :: A, B => by simp only [List.cons_append, dsum, dsum_app A B]; omega
theorem dsum_take {L : List (List Int)} {i : Nat} {l : List Int} (h : L[i]? = some l) : dsum (L.take (i + 1)) = dsum (L.take i) + (l.length - 1) := by
  rw [List.take_add_one, h, dsum_app]
  simp [dsum]
theorem dsum_ld : ∀ L : List (List Int), (∀ l, l ∈ L → lead l = 1 ∧ 0 < l.length) → Ld (dsum L) 1 (pA (fs L))
  | [], _ => Ld.const 1
  | l :: L, h => by
    obtain ⟨h1, h2⟩ := h l (List.mem_cons_self ..)
    have h3 : Ld (l.length - 1) 1 (fun t => ev t l) := by
      have := Ld.of_list (l := l) (n := l.length - 1) (by omega)
      rwa [show l.getD (l.length - 1) 0 = 1 from h1] at this
    have := h3.mul (dsum_ld L fun x hx => h x (List.mem_cons_of_mem _ hx))
    rw [Int.one_mul] at this
    exact this
theorem LiO.dsum {p n k : Nat} (hp : Dom (p : Int)) {F : List Int} {U Λ : List (List Int)} (h : LiO p F U k Λ) (hs : SpR p (fun t => ev t F) (lead F) n U) (hF : F ≠ []) (hnc : ¬ (p : Int) ∣ lead F) : Go.Proofs.YtldcjkhbiffdoabGreatDoor.dsum Λ = F.length - 1 := by
  have hl : ∀ l, l ∈ Λ → lead l = 1 ∧ 0 < l.length := fun l hl => by
    obtain ⟨i, hi⟩ := List.getElem?_of_mem hl
    have hlt : i < U.length := by rw [← h.len]; exact (List.getElem?_eq_some_iff.1 hi).1
    obtain ⟨q1, q2, _⟩ := h.mon i l _ hi (List.getElem?_eq_getElem hlt)
    have hul := (hs.mem U[i] (List.getElem_mem hlt)).1.len
    exact ⟨q2, by omega⟩
  have h1 : Dm p (Go.Proofs.YtldcjkhbiffdoabGreatDoor.dsum Λ) (fun t => lead F * pA (fs Λ) t) := (Dm.of_ld (dsum_ld Λ hl) hp.2).scal hp hnc
  have h2 : Dm p (F.length - 1) (fun t => ev t F) := Dm.of_ld (Ld.of_list (by have := List.length_pos_iff.2 hF; omega)) hnc
  exact (h1.alike (h.eq.of_pow h.one)).uniq h2

structure ChO (M cl : Int) (L : List (List Int)) (s : Nat) (i bits : Nat) (W : List Int) : Prop where
  eq : Zm M (fun t => cl * pS (fs L) s t - ev t W * pS (fs (L.drop i)) bits t)
  bd : ∀ k, 2 * ((W.getD k 0).natAbs : Int) ≤ M
  len : W.length ≤ 1 + dsum (L.take i)
  bl : bits ≤ s

theorem ChO.start {M cl : Int} (L : List (List Int)) (s : Nat) (h : 2 * (cl.natAbs : Int) ≤ M) : ChO M cl L s 0 s [cl] where
  eq := Zm.of_zero _ fun t => by simp [ev]
  bd := fun k => by
    rw [single_getD]
    split
    · exact h
    · simp; omega
  len := by simp [dsum]
  bl := Nat.le_refl _

theorem drop_fs {L : List (List Int)} {i : Nat} {l : List Int} (h : L[i]? = some l) : fs (L.drop i) = (fun t => ev t l) :: fs (L.drop (i + 1)) := by
  have hi : i < L.length := by
    rcases Nat.lt_or_ge i L.length with h1 | h1
    · exact h1
    · rw [List.getElem?_eq_none h1] at h; cases h
  rw [List.drop_eq_getElem_cons hi]
  have : L[i] = l := by rw [List.getElem?_eq_getElem hi] at h; exact Option.some.inj h
  rw [this]; rfl

theorem ChO.zero {M cl : Int} {L : List (List Int)} {s i bits : Nat} {W l : List Int} (h : ChO M cl L s i bits W) (hl : L[i]? = some l) (hb : bits % 2 = 0) : ChO M cl L s (i + 1) (bits / 2) W where
  eq := h.eq.congr fun t => by
    rw [drop_fs hl]
    conv => rhs; rw [show bits = 2 * (bits / 2) by omega, pS_two]
  bd := h.bd
  len := by have := h.len; rw [dsum_take hl]; omega
  bl := by have := h.bl; omega

theorem ChO.one {M cl : Int} (hM : 0 < M) {L : List (List Int)} {s i bits : Nat} {W l P : List Int} (h : ChO M cl L s i bits W) (hl : L[i]? = some l) (hb : bits % 2 = 1) (hP : ∀ t, ev t P = ev t W * ev t l) (hlen : P.length ≤ W.length + (l.length - 1)) : ChO M cl L s (i + 1) (bits / 2) (P.map (near M)) where
  eq := by
    have hS : Po (pS (fs (L.drop (i + 1))) (bits / 2)) := pS_po _ (fs_po _) _
    refine (h.eq.sub ((near_map (M := M) P).mul hS)).congr fun t => ?_
    rw [drop_fs hl]
    conv => rhs; lhs; rw [show bits = 1 + 2 * (bits / 2) by omega, pS_one]
    rw [hP]
    generalize ev t (P.map (near M)) = x
    generalize pS (fs (L.drop (i + 1))) (bits / 2) t = y
    simp only [rA, rB, rC, rD, rE, rF, rG, rH, rI, rJ, rK]
    omega
  bd := fun k => by
    have : (P.map (near M)).getD k 0 = if k < P.length then near M (P.getD k 0) else 0 := by
      rcases Nat.lt_or_ge k P.length with h1 | h1
      · rw [if_pos h1]; simp [List.getD, List.getElem?_eq_getElem h1]
      · rw [if_neg (by omega), getD_out (by simpa using h1)]
    rw [this]
    split
    · exact near_le hM _
    · simp; omega
  len := by have := h.len; rw [dsum_take hl, List.length_map]; omega
  bl := by have := h.bl; omega

theorem ChO.ends {M cl : Int} {L : List (List Int)} {s bits : Nat} {W : List Int} (h : ChO M cl L s L.length bits W) : Zm M (fun t => ev t W - cl * pS (fs L) s t) := by
  refine h.eq.neg.congr fun t => ?_
  rw [List.drop_length]
  show _ = -(cl * pS (fs L) s t - ev t W * 1)
  omega

end Go.Proofs.YtldcjkhbiffdoabGreatDoor

set_option linter.unusedSimpArgs false
namespace Go.Proofs.YtldcjkhbiffdoabGreatDoor

theorem take1_ev (R b : List Int) (c : Int) (n : Nat) (t : Int) : ev t (take1 R b c n) = ev t R - c * (t ^ n * ev t b) := by
  have h : ∀ k, (take1 R b c n).getD k 0 = (ladd R ((List.replicate n 0 ++ b).map fun x => -c * x)).getD k 0 := fun k => by
    rw [take1_getD, ladd_getD, scal_getD, getD_rep_app]
    by_cases hk : n ≤ k
    · rw [if_pos hk, if_neg (by omega), Int.neg_mul]; omega
    · rw [if_neg hk, if_pos (by omega)]; simp
  rw [ev_of_getD h, ev_ladd, ev_scal, ev_rep, Int.neg_mul]; omega

theorem dvs_some {b : List Int} : ∀ {n : Nat} {R Q : List Int}, dvs b n R = some Q → ∀ t, ev t R = ev t b * ev t Q
  | 0, R, Q, h => fun t => by
    unfold dvs at h
    split at h
    · next hR => cases h; subst hR; simp [ev]
    · cases h
  | n + 1, R, Q, h => fun t => by
    by_cases h1 : (R.getD (n + b.length - 1) 0).tmod (lead b) = 0
    · rw [dvs_step h1] at h
      cases h2 : dvs b n (take1 R b ((R.getD (n + b.length - 1) 0).tdiv (lead b)) n) with
      | none => rw [h2] at h; cases h
      | some q =>
        rw [h2] at h
        cases h
        have h3 := dvs_some h2 t
        rw [take1_ev] at h3
        rw [ev_snoc, dvs_len h2, Int.mul_add, ← h3]
        generalize (R.getD (n + b.length - 1) 0).tdiv (lead b) = c
        rw [Int.mul_left_comm (ev t b), Int.mul_comm (ev t b) (t ^ n)]
        omega
    · rw [dvs_fail h1] at h; cases h

theorem Tr.zero {R : List Int} (h : Tr R) (e : ∀ t, ev t R = 0) : R = [] :=
  h.ext Tr.nil fun k => by rw [ev_ext (m := []) 0 (fun t _ => by rw [e]; rfl) k]

theorem lead_ne {b : List Int} (h : Tr b) (hb : b ≠ []) : lead b ≠ 0 := h hb

theorem dvs_none {b : List Int} (tb : Tr b) (hb : b ≠ []) : ∀ (n : Nat) {R S : List Int}, Tr R → S.length ≤ n → (∀ t, ev t R = ev t b * ev t S) → dvs b n R ≠ none
  | 0, R, S, hR, hS, e => by
    obtain rfl : S = [] := List.length_eq_zero_iff.1 (by omega)
    have : R = [] := hR.zero fun t => by rw [e]; simp [ev]
    subst this
    simp [dvs]
  | n + 1, R, S, hR, hS, e => by
    have h0 := List.length_pos_iff.2 hb
    have hl := lead_ne tb hb
    have hB : Ld (b.length - 1) (lead b) (fun t => ev t b) := Ld.of_list (by omega)
    have hSl : Ld n (S.getD n 0) (fun t => ev t S) := Ld.of_list hS
    have hM := hB.mul hSl
    obtain ⟨l, q1, q2, q3⟩ := hM.list
    have hc : ∀ k, R.getD k 0 = l.getD k 0 := ev_ext 0 fun t _ => by rw [e, ← q3]
    have h1 : R.getD (n + b.length - 1) 0 = lead b * S.getD n 0 := by
      rw [hc, show n + b.length - 1 = b.length - 1 + n by omega]; exact q2
    have h2 : (R.getD (n + b.length - 1) 0).tmod (lead b) = 0 := by rw [h1]; exact Int.mul_tmod_right ..
    have h3 : (R.getD (n + b.length - 1) 0).tdiv (lead b) = S.getD n 0 := by rw [h1]; exact Int.mul_tdiv_cancel_left _ hl
    rw [dvs_step h2, h3]
    have ih := dvs_none tb hb n (R := take1 R b (S.getD n 0) n) (S := S.take n) (take1_tr _ _ _ _) (by rw [List.length_take]; omega) fun t => by
      have h4 := ev_take t S n
      rw [List.take_of_length_le hS] at h4
      rw [take1_ev, e, h4, Int.mul_add, Int.mul_left_comm (ev t b) (S.getD n 0), Int.mul_comm (ev t b) (t ^ n)]
      omega
    cases h5 : dvs b n (take1 R b (S.getD n 0) n) with
    | none => exact absurd h5 ih
    | some q => simp

theorem Po.list {f : Int → Int} (h : Po f) : ∃ l : List Int, Tr l ∧ ∀ t, f t = Go.Proofs.YtldcjkhbiffdoabGreatDoor.ev t l := by
  obtain ⟨n, l, _, h2⟩ := h
  exact ⟨tz l, tr_tz l, fun t => by rw [ev_tz]; exact h2 t⟩

theorem Tr.dm {l : List Int} (h : Tr l) (hne : l ≠ []) : Dm 0 (l.length - 1) (fun t => ev t l) := by
  have := List.length_pos_iff.2 hne
  exact ld_dm0 (Ld.of_list (by omega)) (lead_ne h hne)

theorem mul_len {a b s : List Int} (ta : Tr a) (tb : Tr b) (ts : Tr s) (hb : b ≠ []) (hs : s ≠ []) (e : ∀ t, ev t a = ev t b * ev t s) : a ≠ [] ∧ a.length + 1 = b.length + s.length ∧ lead a = lead b * lead s := by
  have b0 := List.length_pos_iff.2 hb
  have s0 := List.length_pos_iff.2 hs
  have h1 := ((tb.dm hb).mul Dom.zero (ts.dm hs)).alike (g := fun t => ev t a) (Zm.of_zero _ fun t => by rw [e]; omega)
  have ha : a ≠ [] := fun h => h1.not (Zm.of_zero _ fun t => by rw [h]; rfl)
  have a0 := List.length_pos_iff.2 ha
  have h2 := (ta.dm ha).uniq h1
  have hA : Ld (a.length - 1) (lead a) (fun t => ev t a) := Ld.of_list (by omega)
  have hB : Ld (b.length - 1) (lead b) (fun t => ev t b) := Ld.of_list (by omega)
  have hS : Ld (s.length - 1) (lead s) (fun t => ev t s) := Ld.of_list (by omega)
  refine ⟨ha, by omega, ?_⟩
  rw [h2] at hA
  exact hA.uniq (hB.mul hS) e

theorem dvs_of {a b : List Int} (ta : Tr a) (tb : Tr b) (hb : b ≠ []) {s : Int → Int} (hs : Po s) (e : ∀ t, ev t a = ev t b * s t) : ∃ Q, dvs b (a.length + 1 - b.length) a = some Q := by
  obtain ⟨S, h1, h2⟩ := hs.list
  have e' : ∀ t, ev t a = ev t b * ev t S := fun t => by rw [e, h2]
  have hl : S.length ≤ a.length + 1 - b.length := by
    by_cases hS : S = []
    · subst hS; simp
    · have := (mul_len ta tb h1 hb hS e').2.1
      omega
  have := dvs_none tb hb _ ta hl e'
  cases h : dvs b (a.length + 1 - b.length) a with
  | none => exact absurd h this
  | some Q => exact ⟨Q, rfl⟩

theorem dvd_foldl_gcd (d : Nat) : ∀ (l : List Int) (g : Nat), d ∣ g → (∀ c, c ∈ l → (d : Int) ∣ c) → d ∣ l.foldl (fun g c => Int.gcd g c) g
  | [], g, h, _ => h
  | a :: l, g, h, hl => by
    refine dvd_foldl_gcd d l _ ?_ fun c hc => hl c (List.mem_cons_of_mem _ hc)
    exact Nat.dvd_gcd (by simpa using h) (Int.ofNat_dvd_left.1 (hl a (List.mem_cons_self ..)))
theorem dvd_cont {d : Nat} {l : List Int} (h : ∀ c, c ∈ l → (d : Int) ∣ c) : d ∣ cont l := dvd_foldl_gcd d l 0 (Nat.dvd_zero _) h

theorem zm_cont {p : Nat} {l : List Int} (h : Zm p (fun t => ev t l)) : p ∣ cont l := by
  refine dvd_cont fun c hc => ?_
  obtain ⟨i, hi⟩ := List.getElem?_of_mem hc
  have := coef_alike (l := l) (m := []) (h.congr fun t => by simp [ev]) i
  rw [List.getD, hi] at this
  simpa using this
theorem cont_zm {p : Nat} {l : List Int} (h : p ∣ cont l) : Zm p (fun t => ev t l) := by
  have := Zm.of_getD (p := p) (l := l) (m := []) fun k => by
    have := cont_dvd_getD l k
    simp only [List.getD_nil, Int.sub_zero]
    exact Int.dvd_trans (Int.natCast_dvd_natCast.2 h) this
  exact this.congr fun t => by simp [ev]

theorem ev_prim (l : List Int) (t : Int) : ev t l = scont l * ev t (prim l) := by
  rw [← ev_scal]
  exact ev_of_getD (fun k => by rw [scal_getD]; exact prim_mul l k) t

theorem lead_prim (l : List Int) : lead l = scont l * lead (prim l) := by
  unfold lead
  rw [prim_len]
  exact prim_mul l _

theorem scont_sign {l : List Int} (h : Tr l) (hne : l ≠ []) : 0 < lead (prim l) := by
  have h1 := lead_prim l
  have h2 := lead_ne h hne
  have hc : 0 < cont l := cont_pos h2
  unfold scont at h1
  split at h1
  · next hl =>
    rcases Int.lt_or_le 0 (lead (prim l)) with h3 | h3
    · exact h3
    · have := Int.mul_nonneg_of_nonpos_of_nonpos (show (-(cont l : Int)) ≤ 0 by omega) h3
      omega
  · next hl =>
    rcases Int.lt_or_le 0 (lead (prim l)) with h3 | h3
    · exact h3
    · have h4 := Int.mul_le_mul_of_nonneg_left h3 (show 0 ≤ (cont l : Int) by omega)
      rw [Int.mul_zero] at h4
      omega

theorem cont_one {l : List Int} (h : Tr l) (hne : l ≠ []) (hp : prim l = l) : cont l = 1 ∧ 0 < lead l := by
  have h1 := lead_prim l
  have h0 := scont_sign h hne
  rw [hp] at h1 h0
  have h2 : scont l = 1 := by
    have : (scont l - 1) * lead l = 0 := by rw [Int.sub_mul, Int.one_mul]; omega
    rcases Int.mul_eq_zero.1 this with h | h <;> omega
  unfold scont at h2
  rw [if_neg (by omega)] at h2
  exact ⟨by omega, h0⟩

theorem prim_prm {l : List Int} (h : Tr l) (hne : l ≠ []) (hp : prim l = l) : Prm (fun t => ev t l) := by
  refine ⟨Po.ev l, fun p h1 _ hz => ?_⟩
  have := zm_cont hz
  rw [(cont_one h hne hp).1] at this
  have := Nat.le_of_dvd (by omega) this
  omega

theorem prim_one {l : List Int} (hc : cont l = 1) (hl : 0 < lead l) : prim l = l := by
  have hs : scont l = 1 := by unfold scont; rw [if_neg (by omega), hc]; rfl
  unfold prim
  rw [hs]
  simp

theorem prm_prim {l : List Int} (h : Prm (fun t => ev t l)) (hl : 0 < lead l) : prim l = l := by
  refine prim_one ?_ hl
  have hc : 0 < cont l := cont_pos (k := l.length - 1) (by show lead l ≠ 0; omega)
  refine Classical.byContradiction fun hne => ?_
  obtain ⟨p, h1, h2, h3⟩ := prime_of (cont l) (by omega)
  exact h.2 p h1 h3 (cont_zm h2)

structure Pp (l : List Int) : Prop where
  tr : Tr l
  ne : l ≠ []
  pr : prim l = l

theorem Pp.prm {l : List Int} (h : Pp l) : Prm (fun t => ev t l) := prim_prm h.tr h.ne h.pr
theorem Pp.lead {l : List Int} (h : Pp l) : 0 < lead l := (cont_one h.tr h.ne h.pr).2
theorem Pp.of {l : List Int} (h : Tr l) (hl : 0 < Go.Proofs.YtldcjkhbiffdoabGreatDoor.lead l) (hp : Prm (fun t => ev t l)) : Pp l :=
  ⟨h, fun e => by subst e; simp [Go.Proofs.YtldcjkhbiffdoabGreatDoor.lead] at hl, prm_prim hp hl⟩
theorem Pp.prim {l : List Int} (h : Tr l) (hne : l ≠ []) : Pp (prim l) :=
  ⟨h.prim, fun e => hne (List.length_eq_zero_iff.1 (by rw [← prim_len l, e]; rfl)), prim_prim h⟩
theorem Pp.ext {l m : List Int} (hl : Tr l) (hm : Tr m) (e : ∀ t, ev t l = ev t m) : l = m := hl.ext hm (ev_ext 0 fun t _ => e t)

theorem Pp.quot {a b s : List Int} (ha : Pp a) (hb : Pp b) (ts : Tr s) (e : ∀ t, ev t a = ev t b * ev t s) : Pp s := by
  have hs : s ≠ [] := fun h => ha.ne (ha.tr.zero fun t => by rw [e, h]; simp [ev])
  obtain ⟨_, _, h3⟩ := mul_len ha.tr hb.tr ts hb.ne hs e
  refine Pp.of ts ?_ (Prm.left (Po.ev s) (Po.ev b) (ha.prm.congr fun t => by rw [e, Int.mul_comm]))
  have h1 := ha.lead
  have h2 := hb.lead
  rw [h3] at h1
  rcases Int.lt_or_le 0 (Go.Proofs.YtldcjkhbiffdoabGreatDoor.lead s) with h | h
  · exact h
  · have h4 := Int.mul_le_mul_of_nonneg_left h (Int.le_of_lt h2)
    rw [Int.mul_zero] at h4
    omega

theorem elim_ev {A B : List Int} (h : B.length ≤ A.length) (t : Int) : ev t (elim A B) = lead B * ev t A - lead A * (t ^ (A.length - B.length) * ev t B) := by
  have e : ∀ k, (elim A B).getD k 0 = (ladd (A.map fun x => lead B * x) ((List.replicate (A.length - B.length) 0 ++ B).map fun x => -lead A * x)).getD k 0 := fun k => by
    rw [elim_getD, ladd_getD, scal_getD, scal_getD, getD_rep_app]
    by_cases hk : A.length - B.length ≤ k
    · rw [if_pos hk, if_neg (by omega), Int.neg_mul, Int.mul_comm (A.getD k 0)]; omega
    · rw [if_neg hk, if_pos (by omega), Int.mul_comm (A.getD k 0)]; simp
  have := h
  rw [ev_of_getD e, ev_ladd, ev_scal, ev_scal, ev_rep, Int.neg_mul]; omega

theorem dv_prim {r : Int → Int} {l : List Int} (h : Tr l) : Dv 0 r (fun t => ev t (prim l)) ↔ Dv 0 r (fun t => ev t l) := by
  by_cases hne : l = []
  · subst hne; exact Iff.rfl
  · have hs := scont_ne h hne
    constructor
    · intro hd
      exact (hd.mul (Po.const (scont l))).alike (Zm.of_zero _ fun t => by rw [ev_prim l t]; omega)
    · intro hd
      exact Dv.unscal Dom.zero (not_dvd_zero.2 hs) (hd.alike (Zm.of_zero _ fun t => by rw [ev_prim l t]; omega))

theorem dv_elim {r : Int → Int} {A B : List Int} (hB : Tr B) (hb : B ≠ []) (h : B.length ≤ A.length) : (Dv 0 r (fun t => ev t A) ∧ Dv 0 r (fun t => ev t B)) ↔ (Dv 0 r (fun t => ev t (prim (elim A B))) ∧ Dv 0 r (fun t => ev t B)) := by
  rw [dv_prim (elim_tr A B)]
  have hz := Dom.zero
  constructor
  · rintro ⟨h1, h2⟩
    refine ⟨((h1.mul (Po.const (lead B))).add hz (h2.mul ((Po.xpow (A.length - B.length)).scal (-lead A)))).alike (Zm.of_zero _ fun t => ?_), h2⟩
    rw [elim_ev h, Int.neg_mul, Int.neg_mul, Int.mul_assoc]; omega
  · rintro ⟨h1, h2⟩
    refine ⟨Dv.unscal hz (not_dvd_zero.2 (lead_ne hB hb)) ((h1.add hz (h2.mul ((Po.xpow (A.length - B.length)).scal (lead A)))).alike (Zm.of_zero _ fun t => ?_)), h2⟩
    rw [elim_ev h, Int.mul_assoc]; omega

theorem gfun_dv : ∀ (n : Nat) {A B : List Int}, Tr A → Tr B → A.length + B.length ≤ n → ∀ r : Int → Int, (Dv 0 r (fun t => ev t A) ∧ Dv 0 r (fun t => ev t B)) ↔ Dv 0 r (fun t => ev t (gfun n A B))
  | 0, A, B, _, _, h, r => by
    obtain rfl : A = [] := List.length_eq_zero_iff.1 (by omega)
    obtain rfl : B = [] := List.length_eq_zero_iff.1 (by omega)
    rw [gfun_left]
    exact ⟨fun h => h.1, fun h => ⟨h, h⟩⟩
  | n + 1, A, B, tA, tB, h, r => by
    have hnil : Dv 0 r (fun t => ev t ([] : List Int)) := Dv.of_zm Dom.zero (Zm.of_zero _ fun _ => rfl)
    by_cases hA : A = []
    · subst hA; rw [gfun_left]; exact ⟨fun h => h.2, fun h => ⟨hnil, h⟩⟩
    · by_cases hB : B = []
      · subst hB; rw [gfun_right]; exact ⟨fun h => h.1, fun h => ⟨h, hnil⟩⟩
      · have a0 := List.length_pos_iff.2 hA
        have b0 := List.length_pos_iff.2 hB
        rcases Nat.lt_or_ge A.length B.length with hl | hl
        · rw [gfun_lt n hA hl, and_comm, dv_elim tA hA (by omega)]
          have hle := elim_len a0 (show A.length ≤ B.length by omega)
          exact gfun_dv n (elim_tr _ _).prim tA (by rw [prim_len]; omega) r
        · rw [gfun_ge n hB hl, dv_elim tB hB hl]
          have hle := elim_len b0 hl
          exact gfun_dv n (elim_tr _ _).prim tB (by rw [prim_len]; omega) r

theorem gfun_pp : ∀ (n : Nat) {A B : List Int}, Tr A → Tr B → prim A = A → prim B = B → A.length + B.length ≤ n → (A ≠ [] ∨ B ≠ []) → Pp (gfun n A B)
  | 0, A, B, _, _, _, _, h, hne => by
    obtain rfl : A = [] := List.length_eq_zero_iff.1 (by omega)
    obtain rfl : B = [] := List.length_eq_zero_iff.1 (by omega)
    exact hne.elim (fun h => absurd rfl h) (fun h => absurd rfl h)
  | n + 1, A, B, tA, tB, pA, pB, h, hne => by
    by_cases hA : A = []
    · subst hA; rw [gfun_left]; exact ⟨tB, hne.resolve_left (fun h => absurd rfl h), pB⟩
    · by_cases hB : B = []
      · subst hB; rw [gfun_right]; exact ⟨tA, hA, pA⟩
      · have a0 := List.length_pos_iff.2 hA
        have b0 := List.length_pos_iff.2 hB
        rcases Nat.lt_or_ge A.length B.length with hl | hl
        · rw [gfun_lt n hA hl]
          have hle := elim_len a0 (show A.length ≤ B.length by omega)
          exact gfun_pp n (elim_tr _ _).prim tA (prim_prim (elim_tr _ _)) pA (by rw [prim_len]; omega) (.inr hA)
        · rw [gfun_ge n hB hl]
          have hle := elim_len b0 hl
          exact gfun_pp n (elim_tr _ _).prim tB (prim_prim (elim_tr _ _)) pB (by rw [prim_len]; omega) (.inr hB)

end Go.Proofs.YtldcjkhbiffdoabGreatDoor
