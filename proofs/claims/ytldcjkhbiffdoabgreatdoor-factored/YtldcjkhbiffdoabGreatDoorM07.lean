import Derived.Test.YtldcjkhbiffdoabGreatDoorM06

set_option linter.unusedSimpArgs false
namespace Go.Proofs.YtldcjkhbiffdoabGreatDoor

structure CO (p : Nat) (F : List Int) (Λ found : List (List Int)) (left : List Int) (taken choice : Nat) : Prop where
  cb : CB p (fs Λ) (fun t => ev t F) (fs found) (fun t => ev t left) taken choice
  fp : ∀ g, g ∈ found → Pp g
  lp : Pp left

theorem CO.start {p k n : Nat} {F : List Int} {Λ : List (List Int)} {c : Int} (Z : Zas p k (fs Λ) (fun t => ev t F) c n) (hF : Pp F) : CO p F Λ [] F 0 1 :=
  ⟨CB.start Z, fun g h => (by cases h), hF⟩

theorem CO.skip {p : Nat} {F : List Int} {Λ found : List (List Int)} {left : List Int} {taken choice : Nat} (h : CO p F Λ found left taken choice) (hs : choice &&& taken ≠ 0) : CO p F Λ found left taken (choice + 1) :=
  ⟨h.cb.skip hs, h.fp, h.lp⟩

theorem CO.eq {p : Nat} {F : List Int} {Λ found : List (List Int)} {left : List Int} {taken choice : Nat} (h : CO p F Λ found left taken choice) (t : Int) : ev t F = ev t left * pA (fs found) t := by
  rw [h.cb.eq t, Int.mul_comm]

theorem CO.nd {p k n : Nat} {F : List Int} {Λ found : List (List Int)} {left : List Int} {taken choice : Nat} {c : Int} (Z : Zas p k (fs Λ) (fun t => ev t F) c n) (h : CO p F Λ found left taken choice) : ¬ (p : Int) ∣ lead left ∧ (lead left).natAbs ≤ c.natAbs := by
  have l0 := List.length_pos_iff.2 h.lp.ne
  obtain ⟨a, b, cg, ch, h1, h2, h3, h4⟩ := lds Z.ld Z.cne (Po.ev left) (pA_po _ (fs_po found)) h.eq
  have h5 : Ld (left.length - 1) (lead left) (fun t => ev t left) := Ld.of_list (by omega)
  have hcg : cg ≠ 0 := fun e => Z.cne (by rw [h4, e, Int.zero_mul])
  have hch : ch ≠ 0 := fun e => Z.cne (by rw [h4, e, Int.mul_zero])
  have e1 := (ld_dm0 h1 hcg).uniq (h.lp.tr.dm h.lp.ne)
  subst e1
  have e2 : cg = lead left := h1.uniq h5 fun _ => rfl
  subst e2
  refine ⟨fun hd => Z.hc (by rw [h4]; exact Int.dvd_trans hd (Int.dvd_mul_right ..)), ?_⟩
  rw [h4, Int.natAbs_mul]
  exact Nat.le_mul_of_pos_right _ (by omega)

theorem cand_ne {p k n : Nat} {F : List Int} {Λ : List (List Int)} {c cl : Int} {W : List Int} {s : Nat} (Z : Zas p k (fs Λ) (fun t => ev t F) c n) (hcl : ¬ (p : Int) ∣ cl) (hW : Zm ((p : Int) ^ k) (fun t => ev t W - cl * pS (fs Λ) s t)) : tz W ≠ [] := by
  intro e
  have h0 : ∀ t, ev t W = 0 := fun t => by rw [← ev_tz, e]; rfl
  obtain ⟨d, h1⟩ := pS_ld (fs Λ) Z.mon s
  have h2 : Zm p (fun t => cl * pS (fs Λ) s t) := (hW.of_pow Z.one).neg.congr fun t => by rw [h0]; omega
  have := h2.lead (h1.scal cl)
  rw [Int.mul_one] at this
  exact hcl this

theorem CO.hit {p k n : Nat} {F : List Int} {Λ found : List (List Int)} {left : List Int} {taken choice : Nat} {c : Int} (Z : Zas p k (fs Λ) (fun t => ev t F) c n) (h : CO p F Λ found left taken choice) (h0 : 0 < choice) (hl : choice < 2 ^ (Λ.length - 1))
    {W Q : List Int} (hW : Zm ((p : Int) ^ k) (fun t => ev t W - lead left * pS (fs Λ) choice t)) {m : Nat} (hQ : dvs (prim (tz W)) m left = some Q) : CO p F Λ (found ++ [prim (tz W)]) (tz Q) (taken ||| choice) (choice + 1) := by
  obtain ⟨hnd, _⟩ := h.nd Z
  have hne := cand_ne Z hnd hW
  have hpp : Pp (prim (tz W)) := Pp.prim (tr_tz W) hne
  have he : ∀ t, ev t left = ev t (prim (tz W)) * ev t (tz Q) := fun t => by rw [ev_tz]; exact dvs_some hQ t
  have hs : choice < 2 ^ (fs Λ).length := by
    rw [fs_len]
    exact Nat.lt_of_lt_of_le hl (Nat.pow_le_pow_right (by decide) (by omega))
  have hm : Mk p (fs Λ) (fun t => ev t (prim (tz W))) choice := Z.mask_cand (w := fun t => ev t W) (κ := scont (tz W)) (Po.ev _) hs hnd (fun t => by rw [← ev_tz, ev_prim (tz W)]) hW
  have := h.cb.hit Z h0 (by rw [fs_len]; exact hl) (Po.ev _) (Po.ev (tz Q)) he hm
  refine ⟨by rw [fs_app]; exact this, fun g hg => ?_, h.lp.quot hpp (tr_tz Q) he⟩
  rcases List.mem_append.1 hg with hg | hg
  · exact h.fp g hg
  · obtain rfl : g = prim (tz W) := by simpa using hg
    exact hpp

theorem CO.miss {p k n : Nat} {F : List Int} {Λ found : List (List Int)} {left : List Int} {taken choice : Nat} {c : Int} (Z : Zas p k (fs Λ) (fun t => ev t F) c n) (hn : n ≤ 10) (h : CO p F Λ found left taken choice) (hM : 2 * (2 ^ n * (nrm F : Int)) < (p : Int) ^ k)
    {W : List Int} (hb : ∀ k', 2 * ((W.getD k' 0).natAbs : Int) ≤ (p : Int) ^ k) (hW : Zm ((p : Int) ^ k) (fun t => ev t W - lead left * pS (fs Λ) choice t)) (hQ : dvs (prim (tz W)) (left.length + 1 - (prim (tz W)).length) left = none) : CO p F Λ found left taken (choice + 1) := by
  refine ⟨h.cb.miss fun g q hg hq e hm => ?_, h.fp, h.lp⟩
  have l0 := List.length_pos_iff.2 h.lp.ne
  obtain ⟨hnd, _⟩ := h.nd Z
  have hl : Ld (left.length - 1) (lead left) (fun t => ev t left) := Ld.of_list (by omega)
  obtain ⟨a, b, cg, ch, h1, h2, h3, h4, h5, h6, h7, H', e0, b', h8, h9, h10, h11⟩ := h.cb.near Z hg hq e hm hl (lead_ne h.lp.tr h.lp.ne)
  obtain ⟨G, g1, g2, g3⟩ := h1.list
  obtain ⟨Hl, k1, k2, k3⟩ := h8.list
  have hmig := fun j => mignotte (f := F) (g := G) (h := Hl) hn h10 (by omega) k1 (fun t => by rw [h11 t, g3, k3]) j
  have hV : ∀ j, 2 * (((G.map fun x => ch * x).getD j 0).natAbs : Int) < (p : Int) ^ k := fun j => by
    have h12 := hmig j
    rw [k2] at h12
    rw [scal_getD]
    have h13 : (ch * G.getD j 0).natAbs ≤ (ch * e0 * G.getD j 0).natAbs := by
      rw [show ch * e0 * G.getD j 0 = e0 * (ch * G.getD j 0) by simp only [rA, rB, rC, rD, rE, rF, rG, rH, rI, rJ, rK], Int.natAbs_mul e0]
      exact Nat.le_mul_of_pos_left _ (by omega)
    omega
  have hev := near_eq (M := (p : Int) ^ k) (W := W) (V := G.map fun x => ch * x) ((hW.sub h7).congr fun t => by
    rw [ev_scal, ← g3]; omega) hb hV
  have hpr : prim (tz W) = prim (tz G) := prim_of_mul h4 (tr_tz G) (tr_tz W) (ev_ext (m := (tz G).map fun x => ch * x) 0 (fun t _ => by
    rw [ev_tz, ev_scal, ev_tz, hev, ev_scal]) · |>.trans (scal_getD ..))
  have hne := cand_ne Z hnd hW
  have hpp : Pp (prim (tz W)) := Pp.prim (tr_tz W) hne
  obtain ⟨Q, hQ'⟩ := dvs_of h.lp.tr hpp.tr hpp.ne (hq.scal (scont (tz G))) (fun t => by
    have e1 : ev t left = g t * q t := e t
    rw [e1, g3, ← ev_tz, ev_prim (tz G), hpr]
    simp only [rA, rB, rC, rD, rE, rF, rG, rH, rI, rJ, rK])
  rw [hQ] at hQ'
  cases hQ'

structure PfR (F : List Int) (P : List (List Int)) : Prop where
  mem : ∀ g, g ∈ P → Pp g ∧ Iz (fun t => ev t g)
  eq : ∀ t, ev t F = pA (fs P) t

theorem CO.ends {p k n : Nat} {F : List Int} {Λ found : List (List Int)} {left : List Int} {taken choice : Nat} {c : Int} (Z : Zas p k (fs Λ) (fun t => ev t F) c n) (h : CO p F Λ found left taken choice) (hl : 2 ^ (Λ.length - 1) ≤ choice) (hL : 0 < Λ.length) : PfR F (found ++ [left]) := by
  have hi := h.cb.ends Z (by rw [fs_len]; exact hl) (by rw [fs_len]; exact hL)
  refine ⟨fun g hg => ?_, fun t => ?_⟩
  · rcases List.mem_append.1 hg with hg | hg
    · exact ⟨h.fp g hg, h.cb.iz _ (List.mem_map.2 ⟨g, hg, rfl⟩)⟩
    · obtain rfl : g = left := by simpa using hg
      exact ⟨h.lp, hi⟩
  · rw [fs_app, h.cb.eq t]
    exact (pA_snoc (fs found) (fun t => ev t left) t).symm

theorem Iz.len {g : List Int} (hp : Pp g) (h : Iz (fun t => ev t g)) : 2 ≤ g.length := by
  refine Classical.byContradiction fun hl => h.2.2.1 ?_
  have l0 := List.length_pos_iff.2 hp.ne
  have := hp.tr.dm hp.ne
  rwa [show g.length - 1 = 0 by omega] at this

theorem div_bd {F G S : List Int} (hF : F.length ≤ 11) (tF : Tr F) (tG : Tr G) (tS : Tr S) (hne : F ≠ []) (e : ∀ t, ev t F = ev t G * ev t S) (j : Nat) : ((G.getD j 0).natAbs : Int) ≤ 1024 * nrm F ∧ G.length ≤ F.length := by
  have hG : G ≠ [] := fun h => hne (tF.zero fun t => by rw [e, h]; simp [ev])
  have hS : S ≠ [] := fun h => hne (tF.zero fun t => by rw [e, h]; simp [ev])
  have g0 := List.length_pos_iff.2 hG
  have s0 := List.length_pos_iff.2 hS
  obtain ⟨_, h1, h2⟩ := mul_len tF tG tS hG hS e
  have h3 := mignotte (f := F) (g := G) (h := S) (n := F.length - 1) (m := G.length - 1) (d := S.length - 1) (by omega) (by omega) (by omega) (by omega) e j
  have h4 : S.getD (S.length - 1) 0 ≠ 0 := lead_ne tS hS
  have h5 : (G.getD j 0).natAbs ≤ (S.getD (S.length - 1) 0 * G.getD j 0).natAbs := by
    rw [Int.natAbs_mul]
    exact Nat.le_mul_of_pos_left _ (by omega)
  have h6 : (2 : Int) ^ (F.length - 1) ≤ 1024 := by
    have : (2 : Nat) ^ (F.length - 1) ≤ 2 ^ 10 := Nat.pow_le_pow_right (by decide) (by omega)
    have h7 : ((2 ^ (F.length - 1) : Nat) : Int) ≤ ((2 ^ 10 : Nat) : Int) := Int.ofNat_le.2 this
    rw [Int.natCast_pow] at h7
    exact h7
  have h7 := Int.mul_le_mul_of_nonneg_right h6 (show 0 ≤ (nrm F : Int) by omega)
  exact ⟨by omega, by omega⟩

theorem nrm_le {l : List Int} {B : Nat} (h : ∀ j, (l.getD j 0).natAbs ≤ B) : nrm l ≤ l.length * B := by
  induction l with
  | nil => simp [nrm]
  | cons a l ih =>
    have h1 := h 0
    have h2 := ih fun j => by have := h (j + 1); simpa using this
    simp only [nrm, List.length_cons, List.getD_cons_zero] at *
    rw [Nat.succ_mul]; omega

def slp (l : List Int) : List Int := tab (l.length - 1) fun k => l.getD (k + 1) 0 * ((k + 1 : Nat) : Int)

theorem slp_getD (l : List Int) (k : Nat) : (slp l).getD k 0 = (k + 1) * l.getD (k + 1) 0 := by
  unfold slp
  rw [tab_getD]
  split
  · rw [Int.mul_comm]; simp
  · rw [getD_out (show l.length ≤ k + 1 by omega)]; simp
theorem slp_dr (l : List Int) : Dr (fun t => ev t l) (fun t => ev t (slp l)) := Dr.of_getD (slp_getD l)
theorem slp_len (l : List Int) : (slp l).length = l.length - 1 := by unfold slp; rw [tab_len]
theorem slp_tr {l : List Int} (h : Tr l) : Tr (slp l) := by
  intro hne
  have h0 := List.length_pos_iff.2 hne
  rw [slp_len] at h0 ⊢
  rw [slp_getD]
  have hl : l ≠ [] := by intro e; subst e; simp at h0
  have h1 : l.getD (l.length - 1 - 1 + 1) 0 ≠ 0 := by
    rw [show l.length - 1 - 1 + 1 = l.length - 1 by omega]
    exact h hl
  exact Int.mul_ne_zero (by omega) h1

structure SqF (f q : List Int) : Prop where
  pp : Pp q
  div : ∃ G, Pp G ∧ ∀ t, ev t f = ev t G * ev t q
  all : ∀ r, Irr 0 r → Dv 0 r (fun t => ev t f) → Dv 0 r (fun t => ev t q)
  one : ∀ q', Dr (fun t => ev t q) q' → ∀ r, Irr 0 r → Dv 0 r (fun t => ev t q) → Dv 0 r q' → False

theorem SqF.of {f G : List Int} (hf : Pp f) (hG : G = gfun (f.length + (prim (slp f)).length) f (prim (slp f))) : Pp G ∧ ∃ Q, dvs G (f.length + 1 - G.length) f = some Q ∧ SqF f (tz Q) := by
  have ts := slp_tr hf.tr
  have hpp : Pp G := by rw [hG]; exact gfun_pp _ hf.tr ts.prim hf.pr (prim_prim ts) (Nat.le_refl _) (.inl hf.ne)
  have hdv : ∀ r : Int → Int, (Dv 0 r (fun t => ev t f) ∧ Dv 0 r (fun t => ev t (slp f))) ↔ Dv 0 r (fun t => ev t G) := fun r => by
    rw [hG, ← gfun_dv _ hf.tr ts.prim (Nat.le_refl _) r, dv_prim ts]
  have h1 := (hdv (fun t => ev t G)).2 (Dv.refl Dom.zero _)
  obtain ⟨s, h2, h3⟩ := hpp.prm.of_dv (Po.ev f) h1.1
  obtain ⟨Q, hQ⟩ := dvs_of hf.tr hpp.tr hpp.ne h2 h3
  have he : ∀ t, ev t f = ev t G * ev t (tz Q) := fun t => by rw [ev_tz]; exact dvs_some hQ t
  obtain ⟨q1, q2⟩ := sq_free (slp_dr f) (hf.tr.dm hf.ne) (Po.ev G) (Po.ev (tz Q)) (fun r _ => hdv r) he
  exact ⟨hpp, Q, hQ, hf.quot hpp (tr_tz Q) he, ⟨G, hpp, he⟩, q1, q2⟩

theorem SqF.cop {f q : List Int} (h : SqF f q) : Cop 0 (fun t => ev t q) (fun t => ev t (slp q)) :=
  cop_of Dom.zero (Po.ev q) (Po.ev _) (h.pp.tr.dm h.pp.ne).not fun r hr h1 h2 => h.one _ (slp_dr q) r hr h1 h2

theorem Cop.sq {p : Nat} {F : List Int} (h : Cop p (fun t => ev t F) (fun t => ev t (slp F))) : Sq p (fun t => ev t F) := by
  obtain ⟨u, v, c, h1, h2, h3, h4⟩ := h
  exact ⟨_, u, v, c, slp_dr F, h1, h2, h3, h4⟩

def pE : List (List Int × Nat) → Int → Int
  | [] => fun _ => 1
  | x :: l => fun t => ev t x.1 ^ x.2 * pE l t

theorem pE_snoc : ∀ (l : List (List Int × Nat)) (x : List Int × Nat) (t : Int), pE (l ++ [x]) t = pE l t * ev t x.1 ^ x.2
  | [], x, t => by simp [pE]
  | y :: l, x, t => by
    show ev t y.1 ^ y.2 * pE (l ++ [x]) t = ev t y.1 ^ y.2 * pE l t * ev t x.1 ^ x.2
    rw [pE_snoc l x t, Int.mul_assoc]
theorem pE_po : ∀ l : List (List Int × Nat), Po (pE l)
  | [] => Po.const 1
  | x :: l => ((Po.ev x.1).pow x.2).mul (pE_po l)

structure DoO (f g left : List Int) (c : Nat) : Prop where
  pp : Pp left
  eq : ∀ t, ev t f = ev t g ^ c * ev t left
  lt : left.length + c ≤ f.length

theorem DoO.start {f g : List Int} (h : Pp f) : DoO f g f 0 := ⟨h, fun t => by simp, by omega⟩
theorem DoO.next {f g left Q : List Int} {c m : Nat} (h : DoO f g left c) (hg : Pp g) (hl : 2 ≤ g.length) (hQ : dvs g m left = some Q) : DoO f g (tz Q) (c + 1) := by
  have he : ∀ t, ev t left = ev t g * ev t (tz Q) := fun t => by rw [ev_tz]; exact dvs_some hQ t
  have hq := h.pp.quot hg (tr_tz Q) he
  have := (mul_len h.pp.tr hg.tr hq.tr hg.ne hq.ne he).2.1
  have h1 := h.lt
  exact ⟨hq, fun t => by rw [h.eq, he, Int.pow_succ, Int.mul_assoc], by omega⟩
theorem DoO.ends {f g left : List Int} {c : Nat} (h : DoO f g left c) (hg : Pp g) (hQ : dvs g (left.length + 1 - g.length) left = none) : ¬ Dv 0 (fun t => ev t g) (fun t => ev t left) := fun hd => by
  obtain ⟨s, h1, h2⟩ := hg.prm.of_dv (Po.ev left) hd
  obtain ⟨Q, h3⟩ := dvs_of h.pp.tr hg.tr hg.ne h1 h2
  rw [hQ] at h3; cases h3

def Apart (P : List (List Int)) : Prop := P.Pairwise fun a b => ¬ Dv 0 (fun t => ev t a) (fun t => ev t b) ∧ ¬ Dv 0 (fun t => ev t b) (fun t => ev t a)

theorem Irr.back {m : Int} {r g : Int → Int} (hr : Irr m r) (hg : Irr m g) (h : Dv m r g) : Dv m g r := by
  obtain ⟨c, s, h1, h2, h3⟩ := h
  rcases hg.2.2.2 r s c hr.1 h2 h1 h3 with h4 | h4
  · exact absurd h4 hr.2.2.1
  · obtain ⟨k, h5, h6⟩ := h4.zero
    refine ⟨k, fun _ => c, h5, Po.const c, (h3.add (h6.mul hr.1)).neg.congr fun t => ?_⟩
    dsimp only
    rw [Int.mul_sub, Int.mul_comm (r t) k, Int.mul_comm (g t) c]
    omega

theorem sq_apart {q g h R : Int → Int} (hone : ∀ q', Dr q q' → ∀ r, Irr 0 r → Dv 0 r q → Dv 0 r q' → False) (hq : Po q) (hg : Irr 0 g) (hh : Po h) (hR : Po R) (e : ∀ t, q t = g t * (h t * R t)) : ¬ Dv 0 g h := by
  intro ⟨c, s, h1, h2, h3⟩
  obtain ⟨q', hd⟩ := hq.dr
  have h4 : ∀ t, c * h t = g t * s t := fun t => by have := h3.eq0 t; omega
  have hc : c ≠ 0 := not_dvd_zero.1 h1
  have h5 := (Irr.powers hg hd (e := 2) (k := c) (s := fun t => s t * R t) hc (h2.mul hR) (fun t => by
    rw [e, Int.pow_succ, Int.pow_one]
    have := h4 t
    rw [show c * (g t * (h t * R t)) = g t * (c * h t) * R t by simp only [rA, rB, rC, rD, rE, rF, rG, rH, rI, rJ, rK], this]
    simp only [rA, rB, rC, rD, rE, rF, rG, rH, rI, rJ, rK])).1 (by omega)
  refine hone q' hd g hg ?_ ?_
  · exact Dv.of_eq 0 Dom.zero (hh.mul hR) e
  · obtain ⟨k, s', k1, k2, k3⟩ := h5
    exact ⟨k, s', k1, k2, k3.congr fun t => by show _ = k * q' t - g t ^ 1 * s' t; rw [Int.pow_one]⟩

theorem PfR.apart {f q : List Int} {P : List (List Int)} (hs : SqF f q) (h : PfR q P) : Apart P := by
  have key : ∀ (A B C : List (List Int)) (a b : List Int), P = A ++ a :: (B ++ b :: C) → ¬ Dv 0 (fun t => ev t a) (fun t => ev t b) ∧ ¬ Dv 0 (fun t => ev t b) (fun t => ev t a) := by
    intro A B C a b e
    have ha := (h.mem a (by rw [e]; simp)).2
    have hb := (h.mem b (by rw [e]; simp)).2
    have hR : Po (fun t => pA (fs A) t * (pA (fs B) t * pA (fs C) t)) := (pA_po _ (fs_po A)).mul ((pA_po _ (fs_po B)).mul (pA_po _ (fs_po C)))
    have e0 : ∀ t, ev t q = pA (fs A) t * (ev t a * (pA (fs B) t * (ev t b * pA (fs C) t))) := fun t => by
      rw [h.eq, e]
      rw [fs_app, pA_app]
      show _ * (ev t a * pA (fs (B ++ b :: C)) t) = _
      rw [fs_app, pA_app]; rfl
    refine ⟨sq_apart hs.one (Po.ev q) ha.irr (Po.ev b) hR fun t => ?_, sq_apart hs.one (Po.ev q) hb.irr (Po.ev a) hR fun t => ?_⟩
    · rw [e0]; simp only [rA, rB, rC, rD, rE, rF, rG, rH, rI, rJ, rK]
    · rw [e0]; simp only [rA, rB, rC, rD, rE, rF, rG, rH, rI, rJ, rK]
  unfold Apart
  have : ∀ (A B : List (List Int)), P = A ++ B → B.Pairwise fun a b => ¬ Dv 0 (fun t => ev t a) (fun t => ev t b) ∧ ¬ Dv 0 (fun t => ev t b) (fun t => ev t a) := by
    intro A B
    induction B generalizing A with
    | nil => intro _; exact List.Pairwise.nil
    | cons a B ih =>
      intro e
      refine List.Pairwise.cons (fun b hb => ?_) (ih (A ++ [a]) (by rw [e]; simp))
      obtain ⟨B1, B2, rfl⟩ := List.append_of_mem hb
      exact key A B1 B2 a b e
  exact this [] P rfl

structure FaO (f : List Int) (P : List (List Int)) (i : Nat) (ps : List (List Int × Nat)) (left : List Int) : Prop where
  pp : Pp left
  eq : ∀ t, ev t f = pE ps t * ev t left
  map : ps.map Prod.fst = P.take i
  pos : ∀ x, x ∈ ps → 1 ≤ x.2 ∧ ¬ Dv 0 (fun t => ev t x.1) (fun t => ev t left)

theorem FaO.start {f : List Int} (P : List (List Int)) (h : Pp f) : FaO f P 0 [] f := ⟨h, fun t => by simp [pE], rfl, fun x hx => by cases hx⟩

theorem dv_pE {r : Int → Int} (hr : Irr 0 r) : ∀ ps : List (List Int × Nat), Dv 0 r (pE ps) → ∃ x, x ∈ ps ∧ Dv 0 r (fun t => ev t x.1)
  | [], h => by
    exfalso
    obtain ⟨k, s, h1, h2, h3⟩ := h
    obtain ⟨d, hd, h4⟩ := hr.deg
    have : Dv 0 r (fun _ => 1) := ⟨k, s, h1, h2, h3.congr fun t => by simp [pE]⟩
    obtain ⟨_, _, j, _, _, h5, _⟩ := this.deg Dom.zero h4 (Dm.of_ld (m := 0) (Ld.const 1) (by decide))
    omega
  | x :: ps, h => by
    rcases hr.prime Dom.zero ((Po.ev x.1).pow x.2) (pE_po ps) h with h1 | h1
    · refine ⟨x, List.mem_cons_self .., ?_⟩
      have : ∀ n, Dv 0 r (fun t => ev t x.1 ^ n) → Dv 0 r (fun t => ev t x.1) := by
        intro n
        induction n with
        | zero =>
          intro h
          obtain ⟨d, hd, h4⟩ := hr.deg
          obtain ⟨k, s, g1, g2, g3⟩ := h
          have : Dv 0 r (fun _ => 1) := ⟨k, s, g1, g2, g3.congr fun t => by simp⟩
          obtain ⟨_, _, j, _, _, h5, _⟩ := this.deg Dom.zero h4 (Dm.of_ld (m := 0) (Ld.const 1) (by decide))
          omega
        | succ n ih =>
          intro h
          have h' : Dv 0 r (fun t => ev t x.1 ^ n * ev t x.1) := h.alike (Zm.of_zero _ fun t => by rw [Int.pow_succ]; omega)
          rcases hr.prime Dom.zero ((Po.ev x.1).pow n) (Po.ev x.1) h' with h2 | h2
          · exact ih h2
          · exact h2
      exact this _ h1
    · obtain ⟨y, h2, h3⟩ := dv_pE hr ps h1
      exact ⟨y, List.mem_cons_of_mem _ h2, h3⟩

theorem dv_pA {r : Int → Int} (hr : Irr 0 r) : ∀ P : List (List Int), Dv 0 r (pA (fs P)) → ∃ g, g ∈ P ∧ Dv 0 r (fun t => ev t g) := by
  intro P h
  obtain ⟨x, h1, h2⟩ := dv_pE hr (P.map fun g => (g, 1)) (h.alike (Zm.of_zero _ fun t => by
    have : ∀ P : List (List Int), pE (P.map fun g => (g, 1)) t = pA (fs P) t := by
      intro P
      induction P with
      | nil => rfl
      | cons g P ih =>
        show ev t g ^ 1 * pE (P.map fun g => (g, 1)) t = ev t g * pA (fs P) t
        rw [ih, Int.pow_one]
    rw [this]; omega))
  obtain ⟨g, h3, rfl⟩ := List.mem_map.1 h1
  exact ⟨g, h3, h2⟩

theorem pA_dv {g : List Int} {P : List (List Int)} (h : g ∈ P) : Dv 0 (fun t => ev t g) (pA (fs P)) :=
  (di_pA (m := 0) (fs P) _ (fs_po P) (List.mem_map.2 ⟨g, h, rfl⟩)).dv Dom.zero

theorem FaO.next {f q : List Int} {P : List (List Int)} {i : Nat} {ps : List (List Int × Nat)} {left left' g : List Int} {c : Nat} (h : FaO f P i ps left) (hs : SqF f q) (hP : PfR q P) (hA : Apart P) (hg : P[i]? = some g) (hd : DoO left g left' c) (hn : ¬ Dv 0 (fun t => ev t g) (fun t => ev t left')) : FaO f P (i + 1) (ps ++ [(g, c)]) left' := by
  have hgm := List.mem_of_getElem? hg
  have hgi := (hP.mem g hgm).2.irr
  have hil : i < P.length := (List.getElem?_eq_some_iff.1 hg).1
  have hap : ∀ x, x ∈ ps → ¬ Dv 0 (fun t => ev t g) (fun t => ev t x.1) ∧ ¬ Dv 0 (fun t => ev t x.1) (fun t => ev t g) := fun x hx => by
    have h1 : x.1 ∈ P.take i := by rw [← h.map]; exact List.mem_map.2 ⟨x, hx, rfl⟩
    obtain ⟨j, hj⟩ := List.getElem?_of_mem h1
    have hji : j < i := by
      have := (List.getElem?_eq_some_iff.1 hj).1
      rw [List.length_take] at this; omega
    rw [List.getElem?_take_of_lt hji] at hj
    have h2 := List.pairwise_iff_getElem.1 hA j i (by omega) hil hji
    have e1 : P[j]'(by omega) = x.1 := (List.getElem?_eq_some_iff.1 hj).2
    have e2 : P[i] = g := (List.getElem?_eq_some_iff.1 hg).2
    rw [e1, e2] at h2
    exact ⟨h2.2, h2.1⟩
  refine ⟨hd.pp, fun t => by rw [pE_snoc, h.eq, hd.eq]; simp only [rA, rB, rC, rD, rE, rF, rG, rH, rI, rJ, rK], by rw [List.map_append, h.map, List.take_add_one, hg]; simp, fun x hx => ?_⟩
  rcases List.mem_append.1 hx with hx | hx
  · refine ⟨(h.pos x hx).1, fun hdv => (h.pos x hx).2 ?_⟩
    refine (hdv.mul ((Po.ev g).pow c)).alike (Zm.of_zero _ fun t => ?_)
    rw [hd.eq]; omega
  · obtain rfl : x = (g, c) := by simpa using hx
    refine ⟨?_, hn⟩
    refine Nat.one_le_iff_ne_zero.2 fun h0 => hn ?_
    have h0' : c = 0 := h0
    subst h0'
    have h1 : Dv 0 (fun t => ev t g) (fun t => ev t q) := (pA_dv hgm).alike (Zm.of_zero _ fun t => by rw [hP.eq]; omega)
    obtain ⟨G, hG, he⟩ := hs.div
    have h2 : Dv 0 (fun t => ev t g) (fun t => pE ps t * ev t left) := (h1.mul (Po.ev G)).alike (Zm.of_zero _ fun t => by rw [← h.eq, he]; omega)
    rcases hgi.prime Dom.zero (pE_po ps) (Po.ev left) h2 with h3 | h3
    · obtain ⟨x, hx, h4⟩ := dv_pE hgi ps h3
      exact absurd h4 (hap x hx).1
    · exact h3.alike (Zm.of_zero _ fun t => by rw [hd.eq]; simp)

theorem FaO.ends {f q : List Int} {P : List (List Int)} {ps : List (List Int × Nat)} {left : List Int} (h : FaO f P P.length ps left) (hs : SqF f q) (hP : PfR q P) (t : Int) : ev t f = pE ps t := by
  have hmap := h.map
  rw [List.take_length] at hmap
  have hl : left.length = 1 := by
    refine Classical.byContradiction fun hne => ?_
    have l0 := List.length_pos_iff.2 h.pp.ne
    obtain ⟨r, hr, h1⟩ := prime_dv Dom.zero _ (h.pp.tr.dm h.pp.ne) (by omega)
    have h2 : Dv 0 r (fun t => ev t f) := (h1.mul (pE_po ps)).alike (Zm.of_zero _ fun t => by rw [h.eq]; omega)
    have h3 := hs.all r hr h2
    obtain ⟨g, h4, h5⟩ := dv_pA hr P (h3.alike (Zm.of_zero _ fun t => by rw [hP.eq]; omega))
    have h6 := hr.back (hP.mem g h4).2.irr h5
    rw [← hmap] at h4
    obtain ⟨x, h7, rfl⟩ := List.mem_map.1 h4
    exact (h.pos x h7).2 (h6.trans Dom.zero h1)
  have hone : left = [1] := by
    have hp := h.pp.pr
    have hc := (cont_one h.pp.tr h.pp.ne h.pp.pr).1
    have hlead := h.pp.lead
    match left, hl, hc, hlead with
    | [x], _, hc, hlead =>
      have hx : 0 < x := hlead
      have : cont [x] = x.natAbs := by simp [cont]
      rw [this] at hc
      have : x = 1 := by omega
      rw [this]
  rw [h.eq, hone]; simp [ev]

end Go.Proofs.YtldcjkhbiffdoabGreatDoor

set_option linter.unusedSimpArgs false
namespace Go.Proofs.YtldcjkhbiffdoabGreatDoor

def lex (a b : List Int) : Nat → Bool
  | 0 => false
  | k + 1 => if a.getD k 0 = b.getD k 0 then lex a b k else decide (a.getD k 0 < b.getD k 0)

def bfr (a b : List Int) : Bool := if a.length = b.length then lex a b a.length else decide (a.length < b.length)

theorem lex_iff (a b : List Int) : ∀ n, lex a b n = true ↔ ∃ k, k < n ∧ a.getD k 0 < b.getD k 0 ∧ ∀ j, k < j → j < n → a.getD j 0 = b.getD j 0
  | 0 => by simp [lex]
  | n + 1 => by
    unfold lex
    by_cases h : a.getD n 0 = b.getD n 0
    · rw [if_pos h, lex_iff a b n]
      constructor
      · rintro ⟨k, h1, h2, h3⟩
        refine ⟨k, by omega, h2, fun j h4 h5 => ?_⟩
        rcases (show j = n ∨ j < n by omega) with rfl | h6
        · exact h
        · exact h3 j h4 h6
      · rintro ⟨k, h1, h2, h3⟩
        rcases (show k = n ∨ k < n by omega) with rfl | h6
        · omega
        · exact ⟨k, h6, h2, fun j h4 h5 => h3 j h4 (by omega)⟩
    · rw [if_neg h]
      constructor
      · intro h1
        exact ⟨n, by omega, of_decide_eq_true h1, fun j h4 h5 => by omega⟩
      · rintro ⟨k, h1, h2, h3⟩
        rcases (show k = n ∨ k < n by omega) with rfl | h6
        · exact decide_eq_true h2
        · exact absurd (h3 n h6 (by omega)) h

theorem bfr_iff (a b : List Int) : bfr a b = true ↔ a.length < b.length ∨ (a.length = b.length ∧ ∃ k, k < a.length ∧ a.getD k 0 < b.getD k 0 ∧ ∀ j, k < j → j < a.length → a.getD j 0 = b.getD j 0) := by
  unfold bfr
  by_cases h : a.length = b.length
  · rw [if_pos h, lex_iff]
    exact ⟨fun h1 => .inr ⟨h, h1⟩, fun h1 => h1.elim (fun h2 => by omega) fun h2 => h2.2⟩
  · rw [if_neg h, decide_eq_true_iff]
    exact ⟨fun h1 => .inl h1, fun h1 => h1.elim id fun h2 => absurd h2.1 h⟩

theorem bfr_irrefl (a : List Int) : bfr a a = false := by
  cases h : bfr a a with
  | false => rfl
  | true =>
    rcases (bfr_iff a a).1 h with h1 | ⟨_, k, _, h2, _⟩ <;> omega

theorem bfr_trans {a b c : List Int} (h1 : bfr a b = true) (h2 : bfr b c = true) : bfr a c = true := by
  rw [bfr_iff] at *
  rcases h1 with h1 | ⟨e1, k, k1, k2, k3⟩
  · rcases h2 with h2 | ⟨e2, _⟩
    · left; omega
    · left; omega
  · rcases h2 with h2 | ⟨e2, m, m1, m2, m3⟩
    · left; omega
    · right
      refine ⟨by omega, ?_⟩
      rcases (show k < m ∨ k = m ∨ m < k by omega) with h | rfl | h
      · exact ⟨m, by omega, by rw [k3 m h (by omega)]; exact m2, fun j h4 h5 => by rw [k3 j (by omega) h5, m3 j h4 (by omega)]⟩
      · exact ⟨k, by omega, by omega, fun j h4 h5 => by rw [k3 j h4 h5, m3 j h4 (by omega)]⟩
      · exact ⟨k, by omega, by rw [← m3 k h (by omega)]; exact k2, fun j h4 h5 => by rw [k3 j h4 h5, m3 j (by omega) (by omega)]⟩

theorem lex_tri (a b : List Int) : ∀ n, lex a b n = true ∨ lex b a n = true ∨ ∀ j, j < n → a.getD j 0 = b.getD j 0
  | 0 => .inr (.inr fun j h => by omega)
  | n + 1 => by
    unfold lex
    by_cases h : a.getD n 0 = b.getD n 0
    · rw [if_pos h, if_pos h.symm]
      rcases lex_tri a b n with h1 | h1 | h1
      · exact .inl h1
      · exact .inr (.inl h1)
      · refine .inr (.inr fun j hj => ?_)
        rcases (show j = n ∨ j < n by omega) with rfl | h6
        · exact h
        · exact h1 j h6
    · rw [if_neg h, if_neg (Ne.symm h), decide_eq_true_iff, decide_eq_true_iff]
      omega

theorem bfr_tri (a b : List Int) : bfr a b = true ∨ bfr b a = true ∨ a = b := by
  by_cases h : a.length = b.length
  · rcases lex_tri a b a.length with h1 | h1 | h1
    · left; unfold bfr; rw [if_pos h]; exact h1
    · right; left; unfold bfr; rw [if_pos h.symm, ← h]; exact h1
    · right; right
      refine ext_getD h fun k => ?_
      rcases Nat.lt_or_ge k a.length with hk | hk
      · exact h1 k hk
      · rw [getD_out hk, getD_out (by omega)]
  · rcases (show a.length < b.length ∨ b.length < a.length by omega) with h1 | h1
    · left; rw [bfr_iff]; exact .inl h1
    · right; left; rw [bfr_iff]; exact .inl h1

def nle (a b : List Int) : Prop := bfr b a = false
theorem nle_of {a b : List Int} (h : bfr a b = true) : nle a b := by
  cases h1 : bfr b a with
  | false => exact h1
  | true => have := bfr_trans h h1; rw [bfr_irrefl] at this; cases this
theorem nle_trans {a b c : List Int} (h1 : nle a b) (h2 : nle b c) : nle a c := by
  rcases bfr_tri a b with h | h | rfl
  · rcases bfr_tri b c with h' | h' | rfl
    · exact nle_of (bfr_trans h h')
    · rw [h2] at h'; cases h'
    · exact nle_of h
  · rw [h1] at h; cases h
  · exact h2

def Srt (L : List (List Int)) : Prop := L.Pairwise nle

theorem Srt.nil : Srt [] := List.Pairwise.nil

structure InsO (L0 : List (List Int)) (x : List Int) (k : Nat) (L : List (List Int)) : Prop where
  ex : ∃ A B, L = A ++ x :: B ∧ L0 = A ++ B ∧ A.length = k ∧ ∀ b, b ∈ B → nle x b

theorem InsO.start (L0 : List (List Int)) (x : List Int) : InsO L0 x L0.length (L0 ++ [x]) :=
  ⟨L0, [], rfl, by simp, rfl, fun b h => by cases h⟩

theorem InsO.at {L0 L : List (List Int)} {x : List Int} {k : Nat} (h : InsO L0 x (k + 1) L) : ∃ y, L[k]? = some y ∧ L[k + 1]? = some x ∧ L0[k]? = some y := by
  obtain ⟨A, B, rfl, rfl, h3, h4⟩ := h.ex
  have hk : k < A.length := by omega
  refine ⟨A[k], ?_, ?_, ?_⟩
  · rw [List.getElem?_append_left hk, List.getElem?_eq_getElem hk]
  · rw [List.getElem?_append_right (by omega), h3]; simp
  · rw [List.getElem?_append_left hk, List.getElem?_eq_getElem hk]

theorem InsO.next {L0 L : List (List Int)} {x y : List Int} {k : Nat} (h : InsO L0 x (k + 1) L) (hy : L[k]? = some y) (hb : bfr x y = true) : InsO L0 x k ((L.set (k + 1) y).set k x) := by
  obtain ⟨A, B, rfl, rfl, h3, h4⟩ := h.ex
  have hk : k < A.length := by omega
  obtain ⟨A', z, rfl⟩ : ∃ A' z, A = A' ++ [z] := ⟨A.dropLast, A.getLast (by intro e; subst e; simp at hk), (List.dropLast_concat_getLast _).symm⟩
  have hl : A'.length = k := by simp at h3; omega
  have hz : z = y := by
    rw [List.getElem?_append_left (by simp; omega), List.getElem?_append_right (by omega), hl] at hy
    simpa using hy
  subst hz
  refine ⟨A', z :: B, ?_, by simp, hl, fun b hbm => ?_⟩
  · subst hl
    simp [List.set_append]
  · rcases List.mem_cons.1 hbm with rfl | hbm
    · exact nle_of hb
    · exact h4 b hbm

theorem InsO.ends {L0 L : List (List Int)} {x : List Int} {k : Nat} (h : InsO L0 x k L) (hs : Srt L0) (he : k = 0 ∨ ∃ y, L0[k - 1]? = some y ∧ 0 < k ∧ bfr x y = false) : Srt L ∧ L.Perm (L0 ++ [x]) := by
  obtain ⟨A, B, rfl, rfl, h3, h4⟩ := h.ex
  refine ⟨?_, ?_⟩
  · obtain ⟨s1, s2, s3⟩ := List.pairwise_append.1 hs
    refine List.pairwise_append.2 ⟨s1, List.Pairwise.cons h4 s2, fun a ha b hb => ?_⟩
    rcases List.mem_cons.1 hb with rfl | hb
    · rcases he with he | ⟨y, e1, e2, e3⟩
      · have : A = [] := List.length_eq_zero_iff.1 (by omega)
        subst this; cases ha
      · have hk : k - 1 < A.length := by omega
        rw [List.getElem?_append_left hk] at e1
        obtain ⟨i, hi⟩ := List.getElem?_of_mem ha
        have hiA := (List.getElem?_eq_some_iff.1 hi).1
        rcases (show i = k - 1 ∨ i < k - 1 by omega) with rfl | h6
        · obtain rfl : a = y := Option.some.inj (hi.symm.trans e1)
          exact e3
        · have h7 := List.pairwise_iff_getElem.1 s1 i (k - 1) hiA hk h6
          rw [(List.getElem?_eq_some_iff.1 hi).2, (List.getElem?_eq_some_iff.1 e1).2] at h7
          exact nle_trans h7 e3
    · exact s3 a ha b hb
  · have h1 : (A ++ x :: B).Perm (x :: (A ++ B)) := List.perm_middle
    exact h1.trans (List.perm_append_comm (l₁ := [x]) (l₂ := A ++ B))

structure Fac (zs : List Int) (c : Int) (ps : List (List Int × Nat)) : Prop where
  cont : c = scont zs
  each : ∀ x, x ∈ ps → Pp x.1 ∧ Iz (fun t => ev t x.1) ∧ 1 ≤ x.2
  eq : ∀ t, ev t zs = c * pE ps t
  asc : ps.Pairwise fun a b => bfr a.1 b.1 = true

theorem PfR.perm {q : List Int} {P P' : List (List Int)} (h : PfR q P) (hp : P'.Perm P) : PfR q P' := by
  refine ⟨fun g hg => h.mem g (hp.mem_iff.1 hg), fun t => ?_⟩
  rw [h.eq]
  have : ∀ {A B : List (List Int)}, A.Perm B → pA (fs A) t = pA (fs B) t := by
    intro A B hAB
    induction hAB with
    | nil => rfl
    | cons x _ ih => exact congrArg (ev t x * ·) ih
    | swap x y l => show ev t y * (ev t x * pA (fs l) t) = ev t x * (ev t y * pA (fs l) t); rw [Int.mul_left_comm]
    | trans _ _ h1 h2 => exact h1.trans h2
  exact (this hp).symm

theorem Srt.asc {P : List (List Int)} (h : Srt P) (hA : Apart P) : P.Pairwise fun a b => bfr a b = true := by
  unfold Srt at h
  unfold Apart at hA
  refine List.Pairwise.imp₂ (fun a b h1 h2 => ?_) h hA
  rcases bfr_tri a b with h3 | h3 | rfl
  · exact h3
  · have : bfr b a = false := h1
    rw [this] at h3; cases h3
  · exact absurd (Dv.refl Dom.zero _) h2.1

theorem Fac.of {zs q : List Int} {P : List (List Int)} {ps : List (List Int × Nat)} {left : List Int} (hz : Tr zs) (hne : zs ≠ []) (hs : SqF (prim zs) q) (hP : PfR q P) (hS : Srt P) (h : FaO (prim zs) P P.length ps left) : Fac zs (scont zs) ps where
  cont := rfl
  each := fun x hx => by
    have hm := h.map
    rw [List.take_length] at hm
    have h1 : x.1 ∈ P := by rw [← hm]; exact List.mem_map.2 ⟨x, hx, rfl⟩
    exact ⟨(hP.mem _ h1).1, (hP.mem _ h1).2, (h.pos x hx).1⟩
  eq := fun t => by
    have := hz
    have := hne
    rw [ev_prim zs t, h.ends hs hP t]
  asc := by
    have hm := h.map
    rw [List.take_length] at hm
    have := hS.asc (hP.apart hs)
    rw [← hm] at this
    exact List.pairwise_map.1 this

end Go.Proofs.YtldcjkhbiffdoabGreatDoor

set_option linter.unusedSimpArgs false
namespace Go.Proofs.YtldcjkhbiffdoabGreatDoor

theorem Pp.one {l : List Int} (h : Pp l) (h1 : l.length = 1) : l = [1] := by
  have hc := (cont_one h.tr h.ne h.pr).1
  have hlead := h.lead
  match l, h1, hc, hlead with
  | [x], _, hc, hlead =>
    have hx : 0 < x := hlead
    have : cont [x] = x.natAbs := by simp [cont]
    rw [this] at hc
    have : x = 1 := by omega
    rw [this]

theorem Pp.same {p g : List Int} (hp : Pp p) (hg : Pp g) (ip : Iz (fun t => ev t p)) (ig : Iz (fun t => ev t g)) (h : Dv 0 (fun t => ev t p) (fun t => ev t g)) : p = g := by
  have h' := ip.irr.back ig.irr h
  obtain ⟨s, h1, h2⟩ := hp.prm.of_dv (Po.ev g) h
  obtain ⟨s', h3, h4⟩ := hg.prm.of_dv (Po.ev p) h'
  obtain ⟨S, tS, hS⟩ := h1.list
  obtain ⟨S', tS', hS'⟩ := h3.list
  have e1 : ∀ t, ev t g = ev t p * ev t S := fun t => by rw [h2, hS]
  have e2 : ∀ t, ev t p = ev t g * ev t S' := fun t => by rw [h4, hS']
  have q1 := hg.quot hp tS e1
  have q2 := hp.quot hg tS' e2
  have l1 := (mul_len hg.tr hp.tr q1.tr hp.ne q1.ne e1).2.1
  have l2 := (mul_len hp.tr hg.tr q2.tr hg.ne q2.ne e2).2.1
  have s1 := List.length_pos_iff.2 q1.ne
  have s2 := List.length_pos_iff.2 q2.ne
  have hone := q1.one (by omega)
  exact Pp.ext hp.tr hg.tr fun t => by rw [e1, hone]; simp [ev]

def oft : List (List Int × Nat) → List Int → Nat
  | [], _ => 0
  | x :: l, p => (if x.1 = p then x.2 else 0) + oft l p

theorem oft_mem : ∀ {l : List (List Int × Nat)} {x : List Int × Nat}, x ∈ l → x.2 ≤ oft l x.1
  | y :: l, x, h => by
    unfold oft
    rcases List.mem_cons.1 h with rfl | h
    · rw [if_pos rfl]; omega
    · have := oft_mem h; omega

def rst (l : List (List Int × Nat)) (p : List Int) : List (List Int × Nat) := l.filter fun x => decide (x.1 ≠ p)

theorem pE_oft (p : List Int) (t : Int) : ∀ l : List (List Int × Nat), pE l t = ev t p ^ oft l p * pE (rst l p) t
  | [] => by simp [pE, oft, rst]
  | x :: l => by
    have ih := pE_oft p t l
    by_cases h : x.1 = p
    · have e1 : rst (x :: l) p = rst l p := by simp [rst, h]
      have e2 : oft (x :: l) p = x.2 + oft l p := by simp [oft, h]
      rw [e1, e2, Int.pow_add, Int.mul_assoc, ← ih, ← h]
      rfl
    · have e1 : rst (x :: l) p = x :: rst l p := by simp [rst, h]
      have e2 : oft (x :: l) p = oft l p := by simp [oft, h]
      rw [e1, e2]
      show ev t x.1 ^ x.2 * pE l t = _ * (ev t x.1 ^ x.2 * pE (rst l p) t)
      rw [ih, Int.mul_left_comm]

theorem dv_oft {zs : List Int} {c : Int} {ps : List (List Int × Nat)} (heach : ∀ x, x ∈ ps → Pp x.1 ∧ Iz (fun t => ev t x.1)) (heq0 : ∀ t, ev t zs = c * pE ps t) (tz : Tr zs) (hne : zs ≠ []) {p : List Int} (hp : Pp p) (ip : Iz (fun t => ev t p)) (n : Nat) : Dv 0 (fun t => ev t p ^ n) (fun t => ev t zs) ↔ n ≤ oft ps p := by
  have hc : c ≠ 0 := fun e => hne (tz.zero fun t => by rw [heq0, e]; simp)
  have hnd : ¬ Dv 0 (fun t => ev t p) (pE (rst ps p)) := fun hd => by
    obtain ⟨x, hx, hxd⟩ := dv_pE ip.irr _ hd
    have hxp := (List.mem_filter.1 hx)
    have hxe := heach x hxp.1
    have := hp.same hxe.1 ip hxe.2 hxd
    simp at hxp
    exact hxp.2 this.symm
  have heq : ∀ t, ev t zs = c * (ev t p ^ oft ps p * pE (rst ps p) t) := fun t => by rw [heq0, pE_oft p t ps]
  constructor
  · intro ⟨k, s, h1, h2, h3⟩
    refine Classical.byContradiction fun hlt => ?_
    have hk : k ≠ 0 := not_dvd_zero.1 h1
    obtain ⟨d, rfl⟩ : ∃ d, n = oft ps p + (d + 1) := ⟨n - oft ps p - 1, by omega⟩
    have h4 : Zm 0 (fun t => ev t p ^ oft ps p * (k * c * pE (rst ps p) t - ev t p * (ev t p ^ d * s t))) := h3.congr fun t => by
      dsimp only
      rw [heq, Int.pow_add, Int.pow_succ]
      simp only [rA, rB, rC, rD, rE, rF, rG, rH, rI, rJ, rK]
    rcases Zm.or Dom.zero ((Po.ev p).pow _) (((pE_po _).scal (k * c)).sub ((Po.ev p).mul (((Po.ev p).pow d).mul h2))) h4 with h5 | h5
    · have : ∀ m, ¬ Zm 0 (fun t => ev t p ^ m) := by
        intro m
        induction m with
        | zero => intro hz; have := Zm.const (m := 0) (c := 1) (hz.congr fun t => by simp); exact absurd this (by decide)
        | succ m ih =>
          intro hz
          rcases Zm.or Dom.zero ((Po.ev p).pow m) (Po.ev p) (hz.congr fun t => by rw [Int.pow_succ]) with h6 | h6
          · exact ih h6
          · exact (hp.tr.dm hp.ne).not h6
      exact this _ h5
    · refine hnd ⟨k * c, fun t => ev t p ^ d * s t, not_dvd_zero.2 (Int.mul_ne_zero hk hc), ((Po.ev p).pow d).mul h2, h5⟩
  · intro hle
    obtain ⟨d, hd⟩ : ∃ d, oft ps p = n + d := ⟨oft ps p - n, by omega⟩
    refine Dv.of_eq 0 Dom.zero (s := fun t => c * (ev t p ^ d * pE (rst ps p) t)) ((((Po.ev p).pow d).mul (pE_po _)).scal c) fun t => ?_
    rw [heq, hd, Int.pow_add]
    simp only [rA, rB, rC, rD, rE, rF, rG, rH, rI, rJ, rK]

theorem Fac.dv {zs : List Int} {c : Int} {ps : List (List Int × Nat)} (h : Fac zs c ps) (tz : Tr zs) (hne : zs ≠ []) {p : List Int} (hp : Pp p) (ip : Iz (fun t => ev t p)) (n : Nat) : Dv 0 (fun t => ev t p ^ n) (fun t => ev t zs) ↔ n ≤ oft ps p :=
  dv_oft (fun x hx => ⟨(h.each x hx).1, (h.each x hx).2.1⟩) h.eq tz hne hp ip n

end Go.Proofs.YtldcjkhbiffdoabGreatDoor

set_option linter.unusedSimpArgs false
namespace Go.Proofs.YtldcjkhbiffdoabGreatDoor

theorem Pp.scont {l : List Int} (h : Pp l) : scont l = 1 := by
  obtain ⟨h1, h2⟩ := cont_one h.tr h.ne h.pr
  unfold Go.Proofs.YtldcjkhbiffdoabGreatDoor.scont
  rw [if_neg (by omega), h1]
  rfl

theorem Pp.mul {a b : List Int} (ha : Pp a) (hb : Pp b) : ∃ q, Pp q ∧ ∀ t, ev t q = ev t a * ev t b := by
  obtain ⟨q, tq, hq⟩ := ((Po.ev a).mul (Po.ev b)).list
  have h := mul_len tq ha.tr hb.tr ha.ne hb.ne fun t => (hq t).symm
  refine ⟨q, Pp.of tq ?_ ((ha.prm.mul hb.prm).congr fun t => (hq t).symm), fun t => (hq t).symm⟩
  rw [h.2.2]
  exact Int.mul_pos ha.lead hb.lead

theorem pp_one : Pp [1] := ⟨by intro _; decide, by decide, by decide⟩

theorem Pp.pow {a : List Int} (ha : Pp a) : ∀ n : Nat, ∃ q, Pp q ∧ ∀ t, ev t q = ev t a ^ n
  | 0 => ⟨[1], pp_one, fun t => by simp [ev]⟩
  | n + 1 => by
    obtain ⟨q, hq, e⟩ := Pp.pow ha n
    obtain ⟨r, hr, e'⟩ := hq.mul ha
    exact ⟨r, hr, fun t => by rw [e', e, Int.pow_succ]⟩

theorem oft_rst {p q : List Int} (h : p ≠ q) : ∀ l : List (List Int × Nat), oft (rst l q) p = oft l p
  | [] => rfl
  | x :: l => by
    by_cases hx : x.1 = q
    · have e1 : rst (x :: l) q = rst l q := by simp [rst, hx]
      rw [e1, oft_rst h l]
      show _ = (if x.1 = p then x.2 else 0) + oft l p
      rw [if_neg (by rw [hx]; exact Ne.symm h)]
      omega
    · have e1 : rst (x :: l) q = x :: rst l q := by simp [rst, hx]
      rw [e1]
      show (if x.1 = p then x.2 else 0) + oft (rst l q) p = (if x.1 = p then x.2 else 0) + oft l p
      rw [oft_rst h l]

theorem pE_dvd : ∀ {pb pa : List (List Int × Nat)}, (pb.Pairwise fun a b => bfr a.1 b.1 = true) → (∀ x, x ∈ pb → x.2 ≤ oft pa x.1) → ∃ s, Po s ∧ ∀ t, pE pa t = pE pb t * s t
  | [], pa, _, _ => ⟨pE pa, pE_po pa, fun t => by simp [pE]⟩
  | x :: pb, pa, h, hle => by
    obtain ⟨h1, h2⟩ := List.pairwise_cons.1 h
    obtain ⟨s, hs, e⟩ := pE_dvd (pa := rst pa x.1) h2 fun y hy => by
      rw [oft_rst fun e => ?_]
      · exact hle y (List.mem_cons_of_mem _ hy)
      · have := h1 y hy
        rw [e, bfr_irrefl] at this
        cases this
    obtain ⟨d, hd⟩ : ∃ d, oft pa x.1 = x.2 + d := ⟨oft pa x.1 - x.2, by have := hle x (List.mem_cons_self ..); omega⟩
    refine ⟨fun t => ev t x.1 ^ d * s t, ((Po.ev _).pow d).mul hs, fun t => ?_⟩
    rw [pE_oft x.1 t pa, e, hd, Int.pow_add]
    show _ = ev t x.1 ^ x.2 * pE pb t * _
    simp only [rA, rB, rC, rD, rE, rF, rG, rH, rI, rJ, rK]

theorem Fac.dvd {a b : List Int} {ca cb : Int} {pa pb : List (List Int × Nat)} (fa : Fac a ca pa) (fb : Fac b cb pb) (hc : cb ∣ ca) (h : ∀ x, x ∈ pb → x.2 ≤ oft pa x.1) : ∃ s, Po s ∧ ∀ t, ev t a = ev t b * s t := by
  obtain ⟨s, hs, e⟩ := pE_dvd fb.asc h
  obtain ⟨k, hk⟩ := hc
  refine ⟨fun t => k * s t, hs.scal k, fun t => ?_⟩
  rw [fa.eq, fb.eq, e, hk]
  simp only [rA, rB, rC, rD, rE, rF, rG, rH, rI, rJ, rK]

end Go.Proofs.YtldcjkhbiffdoabGreatDoor

set_option linter.unusedSimpArgs false
namespace Go.Proofs.YtldcjkhbiffdoabGreatDoor

def vst (cs : List Int) (p q m : Int) : Nat → Int × Int
  | 0 => (0, 1)
  | n + 1 => (((vst cs p q m n).1 * p + cs.getD (10 - n) 0 * (vst cs p q m n).2) % m, (vst cs p q m n).2 * q % m)

theorem vst_rng (cs : List Int) (p q : Int) {m : Int} (hm : 1 < m) : ∀ n, 0 ≤ (vst cs p q m n).1 ∧ (vst cs p q m n).1 < m ∧ 0 ≤ (vst cs p q m n).2 ∧ (vst cs p q m n).2 < m
  | 0 => by simp [vst]; omega
  | n + 1 => ⟨Int.emod_nonneg _ (by omega), Int.emod_lt_of_pos _ (by omega), Int.emod_nonneg _ (by omega), Int.emod_lt_of_pos _ (by omega)⟩

theorem mul_rng {a b m : Int} (ha : 0 ≤ a) (ha' : a < m) (hb : 0 ≤ b) (hb' : b < m) (hm : m ≤ 2147483647) : 0 ≤ a * b ∧ a * b ≤ 4611686009837453316 := by
  refine ⟨Int.mul_nonneg ha hb, ?_⟩
  have h1 : a * b ≤ 2147483646 * b := Int.mul_le_mul_of_nonneg_right (by omega) hb
  omega

def hev (p q : Int) : List Int → Int
  | [] => 0
  | c :: l => c * q ^ l.length + p * hev p q l

theorem hev_one (p : Int) : ∀ l : List Int, hev p 1 l = ev p l
  | [] => rfl
  | c :: l => by simp [hev, ev, hev_one p l, Int.one_pow]

theorem vst_hev (cs : List Int) (p q : Int) {m : Int} (hl : cs.length = 11) : ∀ n, n ≤ 11 → m ∣ (vst cs (p % m) q m n).1 - hev p q (cs.drop (11 - n)) ∧ m ∣ (vst cs (p % m) q m n).2 - q ^ n
  | 0, _ => by
    rw [List.drop_of_length_le (by omega)]
    simp [vst, hev]
  | n + 1, h => by
    obtain ⟨⟨x, hx⟩, ⟨y, hy⟩⟩ := vst_hev cs p q hl n (by omega)
    have hd : cs.drop (11 - (n + 1)) = cs.getD (10 - n) 0 :: cs.drop (11 - n) := by
      rw [show 11 - (n + 1) = 10 - n by omega, List.drop_eq_getElem_cons (show 10 - n < cs.length by omega), show 10 - n + 1 = 11 - n by omega, List.getD_eq_getElem?_getD, List.getElem?_eq_getElem (show 10 - n < cs.length by omega)]
      rfl
    have hlen : (cs.drop (11 - n)).length = n := by rw [List.length_drop]; omega
    have e1 : (vst cs (p % m) q m n).1 = hev p q (cs.drop (11 - n)) + m * x := by rw [← hx]; omega
    have e2 : (vst cs (p % m) q m n).2 = q ^ n + m * y := by rw [← hy]; omega
    have e3 : p % m = p + m * (-(p / m)) := by have := Int.emod_add_mul_ediv p m; rw [Int.mul_neg]; omega
    have key : ∀ z : Int, m ∣ z % m - z := fun z => ⟨-(z / m), by have := Int.emod_add_mul_ediv z m; rw [Int.mul_neg]; omega⟩
    rw [hd]
    show m ∣ ((vst cs (p % m) q m n).1 * (p % m) + cs.getD (10 - n) 0 * (vst cs (p % m) q m n).2) % m - (cs.getD (10 - n) 0 * q ^ (cs.drop (11 - n)).length + p * hev p q (cs.drop (11 - n))) ∧ m ∣ (vst cs (p % m) q m n).2 * q % m - q ^ (n + 1)
    rw [hlen, e1, e2, e3]
    generalize hev p q (cs.drop (11 - n)) = H
    generalize cs.getD (10 - n) 0 = c
    generalize -(p / m) = d
    constructor
    · obtain ⟨k, hk⟩ := key ((H + m * x) * (p + m * d) + c * (q ^ n + m * y))
      refine ⟨k + H * d + x * (p + m * d) + c * y, ?_⟩
      have : (H + m * x) * (p + m * d) + c * (q ^ n + m * y) = c * q ^ n + p * H + m * (H * d + x * (p + m * d) + c * y) := by
        simp only [Int.mul_add, Int.add_mul, Int.mul_assoc, Int.mul_comm, Int.mul_left_comm]
        omega
      rw [this] at hk ⊢
      simp only [Int.mul_add] at hk ⊢
      omega
    · obtain ⟨k, hk⟩ := key ((q ^ n + m * y) * q)
      refine ⟨k + y * q, ?_⟩
      have : (q ^ n + m * y) * q = q ^ (n + 1) + m * (y * q) := by
        rw [Int.add_mul, Int.pow_succ, Int.mul_assoc]
      rw [this] at hk ⊢
      simp only [Int.mul_add] at hk ⊢
      omega

theorem vst_ev (cs : List Int) (p : Int) {m : Int} (hm : 1 < m) (hl : cs.length = 11) : (vst cs (p % m) 1 m 11).1 = ev p cs % m := by
  obtain ⟨k, hk⟩ := (vst_hev cs p 1 hl 11 (by omega) (m := m)).1
  rw [hev_one] at hk
  have hr := vst_rng cs (p % m) 1 hm 11
  have e : cs.drop (11 - 11) = cs := rfl
  rw [e] at hk
  rw [show ev p cs = (vst cs (p % m) 1 m 11).1 + m * (-k) by rw [Int.mul_neg]; omega, Int.add_mul_emod_self_left, Int.emod_eq_of_lt hr.1 hr.2.1]


theorem hev_div (p q : Int) : ∀ l : List Int, ∃ s, Po s ∧ ∀ t, q ^ l.length * ev t l = q * hev p q l + (q * t - p) * s t
  | [] => ⟨fun _ => 0, Po.zero, fun t => by simp [ev, hev]⟩
  | c :: l => by
    obtain ⟨s, hs, e⟩ := hev_div p q l
    refine ⟨fun t => q * hev p q l + q * (t * s t), (Po.const _).add ((((Po.xpow 1).congr (g := fun t => t) fun t => (Int.pow_one t).symm).mul hs).scal q), fun t => ?_⟩
    show q ^ (l.length + 1) * (c + t * ev t l) = q * (c * q ^ l.length + p * hev p q l) + (q * t - p) * (q * hev p q l + q * (t * s t))
    have h1 : q ^ (l.length + 1) * (c + t * ev t l) = q * (c * q ^ l.length) + q * t * (q ^ l.length * ev t l) := by
      rw [Int.pow_succ]
      simp only [Int.mul_add, Int.add_mul, Int.mul_assoc, Int.mul_comm, Int.mul_left_comm]
    rw [h1, e]
    simp only [Int.mul_add, Int.add_mul, Int.sub_mul, Int.mul_sub, Int.mul_assoc, Int.mul_comm, Int.mul_left_comm]
    omega

theorem Iz.no_root {f : List Int} (hf : Pp f) (h : Iz (fun t => ev t f)) {p q : Int} (hq : q ≠ 0) {l : List Int} (hl : ∀ t, ev t l = ev t f) (h0 : hev p q l = 0) : f.length = 2 := by
  obtain ⟨s, hs, e⟩ := hev_div p q l
  rw [h0] at e
  have hqn : ∀ n : Nat, q ^ n ≠ 0 := fun n => by
    induction n with
    | zero => simp
    | succ n ih => rw [Int.pow_succ]; exact Int.mul_ne_zero ih hq
  have hlin : Ld 1 q (fun t => q * t - p) := ⟨fun _ => -p, (Pl.const _), fun t => by show q * t - p = q * t ^ 1 + -p; rw [Int.pow_one]; omega⟩
  have hD1 : Dm 0 1 (fun t => q * t - p) := Dm.of_ld hlin (not_dvd_zero.2 hq)
  have hz : Zm 0 (fun t => q ^ l.length * ev t f - (q * t - p) * s t) := Zm.of_zero 0 fun t => by
    have := e t
    rw [hl] at this
    omega
  rcases h.irr.2.2.2 _ _ _ hlin.po hs (not_dvd_zero.2 (hqn _)) hz with h1 | h1
  · exact absurd (hD1.uniq h1) (by decide)
  · have h2 := hD1.mul Dom.zero h1
    have h3 := (hf.tr.dm hf.ne).scal Dom.zero (not_dvd_zero.2 (hqn l.length))
    have h4 := h2.alike (g := fun t => q ^ l.length * ev t f) (hz.congr fun t => rfl)
    have h5 := h3.uniq h4
    have := List.length_pos_iff.2 hf.ne
    omega

theorem hev_cong {m : Int} (p q : Int) : ∀ {a b : List Int}, a.length = b.length → (∀ k, k < a.length → m ∣ a.getD k 0 - b.getD k 0) → m ∣ hev p q a - hev p q b
  | [], [], _, _ => by simp [hev]
  | c :: a, d :: b, hl, h => by
    obtain ⟨x, hx⟩ := hev_cong (m := m) p q (a := a) (b := b) (by simpa using hl) fun k hk => by simpa using h (k + 1) (by simpa using hk)
    obtain ⟨y, hy⟩ : m ∣ c - d := by simpa using h 0 (by simp)
    have hl' : a.length = b.length := by simpa using hl
    refine ⟨y * q ^ b.length + p * x, ?_⟩
    show c * q ^ a.length + p * hev p q a - (d * q ^ b.length + p * hev p q b) = _
    rw [hl', Int.mul_add, ← Int.mul_assoc, ← hy, Int.mul_left_comm, ← hx, Int.sub_mul, Int.mul_sub]
    omega

theorem hev_bd {p q : Int} (hp : p.natAbs ≤ 12) (hq : q.natAbs ≤ 12) {B : Nat} : ∀ {l : List Int}, (∀ k, (l.getD k 0).natAbs ≤ B) → (hev p q l).natAbs ≤ l.length * (12 ^ l.length * B)
  | [], _ => by simp [hev]
  | c :: l, h => by
    have ih := hev_bd hp hq (B := B) (l := l) fun k => by simpa using h (k + 1)
    have hc : c.natAbs ≤ B := by simpa using h 0
    have hqn : ∀ n : Nat, (q ^ n).natAbs ≤ 12 ^ n := fun n => by
      rw [Int.natAbs_pow]; exact Nat.pow_le_pow_left hq n
    show (c * q ^ l.length + p * hev p q l).natAbs ≤ (l.length + 1) * (12 ^ (l.length + 1) * B)
    have h1 : (c * q ^ l.length).natAbs ≤ B * 12 ^ l.length := by
      rw [Int.natAbs_mul]; exact Nat.mul_le_mul hc (hqn _)
    have h2 : (p * hev p q l).natAbs ≤ 12 * (l.length * (12 ^ l.length * B)) := by
      rw [Int.natAbs_mul]; exact Nat.mul_le_mul hp ih
    have h3 := Int.natAbs_add_le (c * q ^ l.length) (p * hev p q l)
    have h4 : (l.length + 1) * (12 ^ (l.length + 1) * B) = 12 * (l.length * (12 ^ l.length * B)) + 12 * (B * 12 ^ l.length) := by
      rw [Nat.pow_succ, Nat.add_mul, Nat.one_mul]
      simp only [Nat.mul_assoc, Nat.mul_comm, Nat.mul_left_comm]
    omega

def prs : List Int := [2147483647, 2147483629, 2147483587, 2147483579]


theorem dvd_nat {n : Nat} {z : Int} (h : (n : Int) ∣ z) : n ∣ z.natAbs := Int.ofNat_dvd_left.1 h

theorem four_zero {z : Int} (h : ∀ m, m ∈ prs → m ∣ z) (hz : z.natAbs < 10 ^ 37) : z = 0 := by
  have key : ∀ a b c d : Nat, Nat.gcd a b = 1 → Nat.gcd c d = 1 → Nat.gcd (a * b) (c * d) = 1 → (a : Int) ∣ z → (b : Int) ∣ z → (c : Int) ∣ z → (d : Int) ∣ z → z.natAbs < a * b * (c * d) → z = 0 := fun a b c d g1 g2 g3 h1 h2 h3 h4 hlt => by
    have h12 := Nat.Coprime.mul_dvd_of_dvd_of_dvd g1 (dvd_nat h1) (dvd_nat h2)
    have h34 := Nat.Coprime.mul_dvd_of_dvd_of_dvd g2 (dvd_nat h3) (dvd_nat h4)
    have hall := Nat.Coprime.mul_dvd_of_dvd_of_dvd g3 h12 h34
    refine Classical.byContradiction fun hn => ?_
    have := Nat.le_of_dvd (by omega) hall
    omega
  exact key 2147483647 2147483629 2147483587 2147483579 (by decide +kernel) (by decide +kernel) (by decide +kernel) (h _ (.head _)) (h _ (.tail _ (.head _))) (h _ (.tail _ (.tail _ (.head _)))) (h _ (.tail _ (.tail _ (.tail _ (.head _))))) (Nat.lt_of_lt_of_le hz (by decide +kernel))

def pad (l : List Int) : List Int := tab 11 fun k => l.getD k 0
theorem pad_len (l : List Int) : (pad l).length = 11 := tab_len _ _
theorem pad_getD {l : List Int} (hl : l.length ≤ 11) (k : Nat) : (pad l).getD k 0 = l.getD k 0 := by
  unfold pad
  rw [tab_getD]
  by_cases h : k < 11
  · rw [if_pos h]
  · rw [if_neg h, getD_out (by omega)]
theorem ev_pad {l : List Int} (hl : l.length ≤ 11) (t : Int) : ev t (pad l) = ev t l := ev_of_getD (pad_getD hl) t

def Cm (m : Int) (cs zs : List Int) : Prop := cs.length = 11 ∧ ∀ k, k < 11 → cs.getD k 0 = zs.getD k 0 % m

theorem mod_dvd (z m : Int) : m ∣ z % m - z := ⟨-(z / m), by have := Int.emod_add_mul_ediv z m; rw [Int.mul_neg]; omega⟩

theorem cm_hev {m : Int} {cs zs : List Int} (h : Cm m cs zs) (hl : zs.length ≤ 11) (p q : Int) : m ∣ hev p q cs - hev p q (pad zs) :=
  hev_cong p q (by rw [h.1, pad_len]) fun k hk => by
    rw [pad_getD hl, h.2 k (by rw [h.1] at hk; exact hk)]
    exact mod_dvd _ _

theorem cm_val {m : Int} {cs zs : List Int} (h : Cm m cs zs) (hm : 1 < m) (hl : zs.length ≤ 11) (x : Int) : (vst cs (x % m) 1 m 11).1 = ev x zs % m := by
  rw [vst_ev cs x hm h.1, ← ev_pad hl, ← hev_one, ← hev_one]
  obtain ⟨k, hk⟩ := cm_hev h hl x 1
  rw [show hev x 1 cs = hev x 1 (pad zs) + m * k by omega, Int.add_mul_emod_self_left]

theorem cm_zero {m : Int} {cs zs : List Int} (h : Cm m cs zs) (hm : 1 < m) (hl : zs.length ≤ 11) (p q : Int) : (vst cs (p % m) q m 11).1 = 0 ↔ m ∣ hev p q (pad zs) := by
  have h1 := (vst_hev cs p q h.1 11 (by omega) (m := m)).1
  have e : cs.drop (11 - 11) = cs := rfl
  rw [e] at h1
  have h2 := cm_hev h hl p q
  have hr := vst_rng cs (p % m) q hm 11
  constructor
  · intro h0
    rw [h0] at h1
    obtain ⟨a, ha⟩ := h1
    obtain ⟨b, hb⟩ := h2
    exact ⟨-a - b, by rw [Int.mul_sub, Int.mul_neg]; omega⟩
  · rintro ⟨c, hc⟩
    obtain ⟨a, ha⟩ := h1
    obtain ⟨b, hb⟩ := h2
    have : (vst cs (p % m) q m 11).1 = m * (a + b + c) := by rw [Int.mul_add, Int.mul_add]; omega
    have h3 : (vst cs (p % m) q m 11).1 % m = 0 := by rw [this]; exact Int.mul_emod_right _ _
    rwa [Int.emod_eq_of_lt hr.1 hr.2.1] at h3

end Go.Proofs.YtldcjkhbiffdoabGreatDoor
