import Derived.Test.YtldcjkhbiffdoabGreatDoorM06
import Derived.Test.YtldcjkhbiffdoabGreatDoorProg
import Derived.Test.YtldcjkhbiffdoabGreatDoorM00
import Derived.WalkKit
import Derived.WalkSpells
import Derived.WalkLawsBesides
import Derived.OwnWalk
import Derived.Laws.CopyOwn

set_option linter.unusedSimpArgs false
namespace Go.Proofs.YtldcjkhbiffdoabGreatDoor

structure CO (p : Nat) (F : List Int) (Λ found : List (List Int)) (left : List Int) (taken choice : Nat) : Prop where
  cb : CB p (fs Λ) (fun t => ev t F) (fs found) (fun t => ev t left) taken choice
  fp : ∀ g, g ∈ found → Pp g
  lp : Pp left

theorem CO.start {p k n : Nat} {F : List Int} {Λ : List (List Int)} {c : Int} (Z : Zas p k (fs Λ) (fun t => ev t F) c n) (hF : Pp F) : CO p F Λ [] F 0 1 :=
  ⟨CB.start Z, fun g h => (by cases h), hF⟩

theorem CO.skip {p : Nat} {F : List Int} {Λ found : List (List Int)} {left : List Int} {taken choice : Nat} (h : CO p F Λ found left taken choice) (hs : choice &&& taken ≠ 0) : CO p F Λ found left taken (choice + 1) :=
  ⟨h.cb.skip hs, h.fp, h.lp⟩

theorem CO.eq {p : Nat} {F : List Int} {Λ found : List (List Int)} {left : List Int} {taken choice : Nat} (h : CO p F Λ found left taken choice) (t : Int) : ev t F = ev t left * pA (fs found) t := by
  rw [h.cb.eq t, Int.mul_comm]

theorem CO.nd {p k n : Nat} {F : List Int} {Λ found : List (List Int)} {left : List Int} {taken choice : Nat} {c : Int} (Z : Zas p k (fs Λ) (fun t => ev t F) c n) (h : CO p F Λ found left taken choice) : ¬ (p : Int) ∣ lead left ∧ (lead left).natAbs ≤ c.natAbs := by
  have l0 := List.length_pos_iff.2 h.lp.ne
  obtain ⟨a, b, cg, ch, h1, h2, h3, h4⟩ := lds Z.ld Z.cne (Po.ev left) (pA_po _ (fs_po found)) h.eq
  have h5 : Ld (left.length - 1) (lead left) (fun t => ev t left) := Ld.of_list (by omega)
  have hcg : cg ≠ 0 := fun e => Z.cne (by rw [h4, e, Int.zero_mul])
  have hch : ch ≠ 0 := fun e => Z.cne (by rw [h4, e, Int.mul_zero])
  have e1 := (ld_dm0 h1 hcg).uniq (h.lp.tr.dm h.lp.ne)
  subst e1
  have e2 : cg = lead left := h1.uniq h5 fun _ => rfl
  subst e2
  refine ⟨fun hd => Z.hc (by rw [h4]; exact Int.dvd_trans hd (Int.dvd_mul_right ..)), ?_⟩
  rw [h4, Int.natAbs_mul]
  exact Nat.le_mul_of_pos_right _ (by omega)

theorem cand_ne {p k n : Nat} {F : List Int} {Λ : List (List Int)} {c cl : Int} {W : List Int} {s : Nat} (Z : Zas p k (fs Λ) (fun t => ev t F) c n) (hcl : ¬ (p : Int) ∣ cl) (hW : Zm ((p : Int) ^ k) (fun t => ev t W - cl * pS (fs Λ) s t)) : tz W ≠ [] := by
  intro e
  have h0 : ∀ t, ev t W = 0 := fun t => by rw [← ev_tz, e]; rfl
  obtain ⟨d, h1⟩ := pS_ld (fs Λ) Z.mon s
  have h2 : Zm p (fun t => cl * pS (fs Λ) s t) := (hW.of_pow Z.one).neg.congr fun t => by rw [h0]; omega
  have := h2.lead (h1.scal cl)
  rw [Int.mul_one] at this
  exact hcl this

theorem CO.hit {p k n : Nat} {F : List Int} {Λ found : List (List Int)} {left : List Int} {taken choice : Nat} {c : Int} (Z : Zas p k (fs Λ) (fun t => ev t F) c n) (h : CO p F Λ found left taken choice) (h0 : 0 < choice) (hl : choice < 2 ^ (Λ.length - 1))
    {W Q : List Int} (hW : Zm ((p : Int) ^ k) (fun t => ev t W - lead left * pS (fs Λ) choice t)) {m : Nat} (hQ : dvs (prim (tz W)) m left = some Q) : CO p F Λ (found ++ [prim (tz W)]) (tz Q) (taken ||| choice) (choice + 1) := by
  obtain ⟨hnd, _⟩ := h.nd Z
  have hne := cand_ne Z hnd hW
  have hpp : Pp (prim (tz W)) := Pp.prim (tr_tz W) hne
  have he : ∀ t, ev t left = ev t (prim (tz W)) * ev t (tz Q) := fun t => by rw [ev_tz]; exact dvs_some hQ t
  have hs : choice < 2 ^ (fs Λ).length := by
    rw [fs_len]
    exact Nat.lt_of_lt_of_le hl (Nat.pow_le_pow_right (by decide) (by omega))
  have hm : Mk p (fs Λ) (fun t => ev t (prim (tz W))) choice := Z.mask_cand (w := fun t => ev t W) (κ := scont (tz W)) (Po.ev _) hs hnd (fun t => by rw [← ev_tz, ev_prim (tz W)]) hW
  have := h.cb.hit Z h0 (by rw [fs_len]; exact hl) (Po.ev _) (Po.ev (tz Q)) he hm
  refine ⟨by rw [fs_app]; exact this, fun g hg => ?_, h.lp.quot hpp (tr_tz Q) he⟩
  rcases List.mem_append.1 hg with hg | hg
  · exact h.fp g hg
  · obtain rfl : g = prim (tz W) := by simpa using hg
    exact hpp

theorem CO.miss {p k n : Nat} {F : List Int} {Λ found : List (List Int)} {left : List Int} {taken choice : Nat} {c : Int} (Z : Zas p k (fs Λ) (fun t => ev t F) c n) (hn : n ≤ 10) (h : CO p F Λ found left taken choice) (hM : 2 * (2 ^ n * (nrm F : Int)) < (p : Int) ^ k)
    {W : List Int} (hb : ∀ k', 2 * ((W.getD k' 0).natAbs : Int) ≤ (p : Int) ^ k) (hW : Zm ((p : Int) ^ k) (fun t => ev t W - lead left * pS (fs Λ) choice t)) (hQ : dvs (prim (tz W)) (left.length + 1 - (prim (tz W)).length) left = none) : CO p F Λ found left taken (choice + 1) := by
  refine ⟨h.cb.miss fun g q hg hq e hm => ?_, h.fp, h.lp⟩
  have l0 := List.length_pos_iff.2 h.lp.ne
  obtain ⟨hnd, _⟩ := h.nd Z
  have hl : Ld (left.length - 1) (lead left) (fun t => ev t left) := Ld.of_list (by omega)
  obtain ⟨a, b, cg, ch, h1, h2, h3, h4, h5, h6, h7, H', e0, b', h8, h9, h10, h11⟩ := h.cb.near Z hg hq e hm hl (lead_ne h.lp.tr h.lp.ne)
  obtain ⟨G, g1, g2, g3⟩ := h1.list
  obtain ⟨Hl, k1, k2, k3⟩ := h8.list
  have hmig := fun j => mignotte (f := F) (g := G) (h := Hl) hn h10 (by omega) k1 (fun t => by rw [h11 t, g3, k3]) j
  have hV : ∀ j, 2 * (((G.map fun x => ch * x).getD j 0).natAbs : Int) < (p : Int) ^ k := fun j => by
    have h12 := hmig j
    rw [k2] at h12
    rw [scal_getD]
    have h13 : (ch * G.getD j 0).natAbs ≤ (ch * e0 * G.getD j 0).natAbs := by
      rw [show ch * e0 * G.getD j 0 = e0 * (ch * G.getD j 0) by simp only [rA, rB, rC, rD, rE, rF, rG, rH, rI, rJ, rK], Int.natAbs_mul e0]
      exact Nat.le_mul_of_pos_left _ (by omega)
    omega
  have hev := near_eq (M := (p : Int) ^ k) (W := W) (V := G.map fun x => ch * x) ((hW.sub h7).congr fun t => by
    rw [ev_scal, ← g3]; omega) hb hV
  have hpr : prim (tz W) = prim (tz G) := prim_of_mul h4 (tr_tz G) (tr_tz W) (ev_ext (m := (tz G).map fun x => ch * x) 0 (fun t _ => by
    rw [ev_tz, ev_scal, ev_tz, hev, ev_scal]) · |>.trans (scal_getD ..))
  have hne := cand_ne Z hnd hW
  have hpp : Pp (prim (tz W)) := Pp.prim (tr_tz W) hne
  obtain ⟨Q, hQ'⟩ := dvs_of h.lp.tr hpp.tr hpp.ne (hq.scal (scont (tz G))) (fun t => by
    have e1 : ev t left = g t * q t := e t
    rw [e1, g3, ← ev_tz, ev_prim (tz G), hpr]
    simp only [rA, rB, rC, rD, rE, rF, rG, rH, rI, rJ, rK])
  rw [hQ] at hQ'
  cases hQ'

structure PfR (F : List Int) (P : List (List Int)) : Prop where
  mem : ∀ g, g ∈ P → Pp g ∧ Iz (fun t => ev t g)
  eq : ∀ t, ev t F = pA (fs P) t

theorem CO.ends {p k n : Nat} {F : List Int} {Λ found : List (List Int)} {left : List Int} {taken choice : Nat} {c : Int} (Z : Zas p k (fs Λ) (fun t => ev t F) c n) (h : CO p F Λ found left taken choice) (hl : 2 ^ (Λ.length - 1) ≤ choice) (hL : 0 < Λ.length) : PfR F (found ++ [left]) := by
  have hi := h.cb.ends Z (by rw [fs_len]; exact hl) (by rw [fs_len]; exact hL)
  refine ⟨fun g hg => ?_, fun t => ?_⟩
  · rcases List.mem_append.1 hg with hg | hg
    · exact ⟨h.fp g hg, h.cb.iz _ (List.mem_map.2 ⟨g, hg, rfl⟩)⟩
    · obtain rfl : g = left := by simpa using hg
      exact ⟨h.lp, hi⟩
  · rw [fs_app, h.cb.eq t]
    exact (pA_snoc (fs found) (fun t => ev t left) t).symm

theorem Iz.len {g : List Int} (hp : Pp g) (h : Iz (fun t => ev t g)) : 2 ≤ g.length := by
  refine Classical.byContradiction fun hl => h.2.2.1 ?_
  have l0 := List.length_pos_iff.2 hp.ne
  have := hp.tr.dm hp.ne
  rwa [show g.length - 1 = 0 by omega] at this

theorem div_bd {F G S : List Int} (hF : F.length ≤ 11) (tF : Tr F) (tG : Tr G) (tS : Tr S) (hne : F ≠ []) (e : ∀ t, ev t F = ev t G * ev t S) (j : Nat) : ((G.getD j 0).natAbs : Int) ≤ 1024 * nrm F ∧ G.length ≤ F.length := by
  have hG : G ≠ [] := fun h => hne (tF.zero fun t => by rw [e, h]; simp [ev])
  have hS : S ≠ [] := fun h => hne (tF.zero fun t => by rw [e, h]; simp [ev])
  have g0 := List.length_pos_iff.2 hG
  have s0 := List.length_pos_iff.2 hS
  obtain ⟨_, h1, h2⟩ := mul_len tF tG tS hG hS e
  have h3 := mignotte (f := F) (g := G) (h := S) (n := F.length - 1) (m := G.length - 1) (d := S.length - 1) (by omega) (by omega) (by omega) (by omega) e j
  have h4 : S.getD (S.length - 1) 0 ≠ 0 := lead_ne tS hS
  have h5 : (G.getD j 0).natAbs ≤ (S.getD (S.length - 1) 0 * G.getD j 0).natAbs := by
    rw [Int.natAbs_mul]
    exact Nat.le_mul_of_pos_left _ (by omega)
  have h6 : (2 : Int) ^ (F.length - 1) ≤ 1024 := by
    have : (2 : Nat) ^ (F.length - 1) ≤ 2 ^ 10 := Nat.pow_le_pow_right (by decide) (by omega)
    have h7 : ((2 ^ (F.length - 1) : Nat) : Int) ≤ ((2 ^ 10 : Nat) : Int) := Int.ofNat_le.2 this
    rw [Int.natCast_pow] at h7
    exact h7
  have h7 := Int.mul_le_mul_of_nonneg_right h6 (show 0 ≤ (nrm F : Int) by omega)
  exact ⟨by omega, by omega⟩

theorem nrm_le {l : List Int} {B : Nat} (h : ∀ j, (l.getD j 0).natAbs ≤ B) : nrm l ≤ l.length * B := by
  induction l with
  | nil => simp [nrm]
  | cons a l ih =>
    have h1 := h 0
    have h2 := ih fun j => by have := h (j + 1); simpa using this
    simp only [nrm, List.length_cons, List.getD_cons_zero] at *
    rw [Nat.succ_mul]; omega

def slp (l : List Int) : List Int := tab (l.length - 1) fun k => l.getD (k + 1) 0 * ((k + 1 : Nat) : Int)

theorem slp_getD (l : List Int) (k : Nat) : (slp l).getD k 0 = (k + 1) * l.getD (k + 1) 0 := by
  unfold slp
  rw [tab_getD]
  split
  · rw [Int.mul_comm]; simp
  · rw [getD_out (show l.length ≤ k + 1 by omega)]; simp
theorem slp_dr (l : List Int) : Dr (fun t => ev t l) (fun t => ev t (slp l)) := Dr.of_getD (slp_getD l)
theorem slp_len (l : List Int) : (slp l).length = l.length - 1 := by unfold slp; rw [tab_len]
theorem slp_tr {l : List Int} (h : Tr l) : Tr (slp l) := by
  intro hne
  have h0 := List.length_pos_iff.2 hne
  rw [slp_len] at h0 ⊢
  rw [slp_getD]
  have hl : l ≠ [] := by intro e; subst e; simp at h0
  have h1 : l.getD (l.length - 1 - 1 + 1) 0 ≠ 0 := by
    rw [show l.length - 1 - 1 + 1 = l.length - 1 by omega]
    exact h hl
  exact Int.mul_ne_zero (by omega) h1

structure SqF (f q : List Int) : Prop where
  pp : Pp q
  div : ∃ G, Pp G ∧ ∀ t, ev t f = ev t G * ev t q
  all : ∀ r, Irr 0 r → Dv 0 r (fun t => ev t f) → Dv 0 r (fun t => ev t q)
  one : ∀ q', Dr (fun t => ev t q) q' → ∀ r, Irr 0 r → Dv 0 r (fun t => ev t q) → Dv 0 r q' → False

theorem SqF.of {f G : List Int} (hf : Pp f) (hG : G = gfun (f.length + (prim (slp f)).length) f (prim (slp f))) : Pp G ∧ ∃ Q, dvs G (f.length + 1 - G.length) f = some Q ∧ SqF f (tz Q) := by
  have ts := slp_tr hf.tr
  have hpp : Pp G := by rw [hG]; exact gfun_pp _ hf.tr ts.prim hf.pr (prim_prim ts) (Nat.le_refl _) (.inl hf.ne)
  have hdv : ∀ r : Int → Int, (Dv 0 r (fun t => ev t f) ∧ Dv 0 r (fun t => ev t (slp f))) ↔ Dv 0 r (fun t => ev t G) := fun r => by
    rw [hG, ← gfun_dv _ hf.tr ts.prim (Nat.le_refl _) r, dv_prim ts]
  have h1 := (hdv (fun t => ev t G)).2 (Dv.refl Dom.zero _)
  obtain ⟨s, h2, h3⟩ := hpp.prm.of_dv (Po.ev f) h1.1
  obtain ⟨Q, hQ⟩ := dvs_of hf.tr hpp.tr hpp.ne h2 h3
  have he : ∀ t, ev t f = ev t G * ev t (tz Q) := fun t => by rw [ev_tz]; exact dvs_some hQ t
  obtain ⟨q1, q2⟩ := sq_free (slp_dr f) (hf.tr.dm hf.ne) (Po.ev G) (Po.ev (tz Q)) (fun r _ => hdv r) he
  exact ⟨hpp, Q, hQ, hf.quot hpp (tr_tz Q) he, ⟨G, hpp, he⟩, q1, q2⟩

theorem SqF.cop {f q : List Int} (h : SqF f q) : Cop 0 (fun t => ev t q) (fun t => ev t (slp q)) :=
  cop_of Dom.zero (Po.ev q) (Po.ev _) (h.pp.tr.dm h.pp.ne).not fun r hr h1 h2 => h.one _ (slp_dr q) r hr h1 h2

theorem Cop.sq {p : Nat} {F : List Int} (h : Cop p (fun t => ev t F) (fun t => ev t (slp F))) : Sq p (fun t => ev t F) := by
  obtain ⟨u, v, c, h1, h2, h3, h4⟩ := h
  exact ⟨_, u, v, c, slp_dr F, h1, h2, h3, h4⟩

def pE : List (List Int × Nat) → Int → Int
  | [] => fun _ => 1
  | x :: l => fun t => ev t x.1 ^ x.2 * pE l t

theorem pE_snoc : ∀ (l : List (List Int × Nat)) (x : List Int × Nat) (t : Int), pE (l ++ [x]) t = pE l t * ev t x.1 ^ x.2
  | [], x, t => by simp [pE]
  | y :: l, x, t => by
    show ev t y.1 ^ y.2 * pE (l ++ [x]) t = ev t y.1 ^ y.2 * pE l t * ev t x.1 ^ x.2
    rw [pE_snoc l x t, Int.mul_assoc]
theorem pE_po : ∀ l : List (List Int × Nat), Po (pE l)
  | [] => Po.const 1
  | x :: l => ((Po.ev x.1).pow x.2).mul (pE_po l)

structure DoO (f g left : List Int) (c : Nat) : Prop where
  pp : Pp left
  eq : ∀ t, ev t f = ev t g ^ c * ev t left
  lt : left.length + c ≤ f.length

theorem DoO.start {f g : List Int} (h : Pp f) : DoO f g f 0 := ⟨h, fun t => by simp, by omega⟩
theorem DoO.next {f g left Q : List Int} {c m : Nat} (h : DoO f g left c) (hg : Pp g) (hl : 2 ≤ g.length) (hQ : dvs g m left = some Q) : DoO f g (tz Q) (c + 1) := by
  have he : ∀ t, ev t left = ev t g * ev t (tz Q) := fun t => by rw [ev_tz]; exact dvs_some hQ t
  have hq := h.pp.quot hg (tr_tz Q) he
  have := (mul_len h.pp.tr hg.tr hq.tr hg.ne hq.ne he).2.1
  have h1 := h.lt
  exact ⟨hq, fun t => by rw [h.eq, he, Int.pow_succ, Int.mul_assoc], by omega⟩
theorem DoO.ends {f g left : List Int} {c : Nat} (h : DoO f g left c) (hg : Pp g) (hQ : dvs g (left.length + 1 - g.length) left = none) : ¬ Dv 0 (fun t => ev t g) (fun t => ev t left) := fun hd => by
  obtain ⟨s, h1, h2⟩ := hg.prm.of_dv (Po.ev left) hd
  obtain ⟨Q, h3⟩ := dvs_of h.pp.tr hg.tr hg.ne h1 h2
  rw [hQ] at h3; cases h3

def Apart (P : List (List Int)) : Prop := P.Pairwise fun a b => ¬ Dv 0 (fun t => ev t a) (fun t => ev t b) ∧ ¬ Dv 0 (fun t => ev t b) (fun t => ev t a)

theorem Irr.back {m : Int} {r g : Int → Int} (hr : Irr m r) (hg : Irr m g) (h : Dv m r g) : Dv m g r := by
  obtain ⟨c, s, h1, h2, h3⟩ := h
  rcases hg.2.2.2 r s c hr.1 h2 h1 h3 with h4 | h4
  · exact absurd h4 hr.2.2.1
  · obtain ⟨k, h5, h6⟩ := h4.zero
    refine ⟨k, fun _ => c, h5, Po.const c, (h3.add (h6.mul hr.1)).neg.congr fun t => ?_⟩
    dsimp only
    rw [Int.mul_sub, Int.mul_comm (r t) k, Int.mul_comm (g t) c]
    omega

theorem sq_apart {q g h R : Int → Int} (hone : ∀ q', Dr q q' → ∀ r, Irr 0 r → Dv 0 r q → Dv 0 r q' → False) (hq : Po q) (hg : Irr 0 g) (hh : Po h) (hR : Po R) (e : ∀ t, q t = g t * (h t * R t)) : ¬ Dv 0 g h := by
  intro ⟨c, s, h1, h2, h3⟩
  obtain ⟨q', hd⟩ := hq.dr
  have h4 : ∀ t, c * h t = g t * s t := fun t => by have := h3.eq0 t; omega
  have hc : c ≠ 0 := not_dvd_zero.1 h1
  have h5 := (Irr.powers hg hd (e := 2) (k := c) (s := fun t => s t * R t) hc (h2.mul hR) (fun t => by
    rw [e, Int.pow_succ, Int.pow_one]
    have := h4 t
    rw [show c * (g t * (h t * R t)) = g t * (c * h t) * R t by simp only [rA, rB, rC, rD, rE, rF, rG, rH, rI, rJ, rK], this]
    simp only [rA, rB, rC, rD, rE, rF, rG, rH, rI, rJ, rK])).1 (by omega)
  refine hone q' hd g hg ?_ ?_
  · exact Dv.of_eq 0 Dom.zero (hh.mul hR) e
  · obtain ⟨k, s', k1, k2, k3⟩ := h5
    exact ⟨k, s', k1, k2, k3.congr fun t => by show _ = k * q' t - g t ^ 1 * s' t; rw [Int.pow_one]⟩

theorem PfR.apart {f q : List Int} {P : List (List Int)} (hs : SqF f q) (h : PfR q P) : Apart P := by
  have key : ∀ (A B C : List (List Int)) (a b : List Int), P = A ++ a :: (B ++ b :: C) → ¬ Dv 0 (fun t => ev t a) (fun t => ev t b) ∧ ¬ Dv 0 (fun t => ev t b) (fun t => ev t a) := by
    intro A B C a b e
    have ha := (h.mem a (by rw [e]; simp)).2
    have hb := (h.mem b (by rw [e]; simp)).2
    have hR : Po (fun t => pA (fs A) t * (pA (fs B) t * pA (fs C) t)) := (pA_po _ (fs_po A)).mul ((pA_po _ (fs_po B)).mul (pA_po _ (fs_po C)))
    have e0 : ∀ t, ev t q = pA (fs A) t * (ev t a * (pA (fs B) t * (ev t b * pA (fs C) t))) := fun t => by
      rw [h.eq, e]
      rw [fs_app, pA_app]
      show _ * (ev t a * pA (fs (B ++ b :: C)) t) = _
      rw [fs_app, pA_app]; rfl
    refine ⟨sq_apart hs.one (Po.ev q) ha.irr (Po.ev b) hR fun t => ?_, sq_apart hs.one (Po.ev q) hb.irr (Po.ev a) hR fun t => ?_⟩
    · rw [e0]; simp only [rA, rB, rC, rD, rE, rF, rG, rH, rI, rJ, rK]
    · rw [e0]; simp only [rA, rB, rC, rD, rE, rF, rG, rH, rI, rJ, rK]
  unfold Apart
  have : ∀ (A B : List (List Int)), P = A ++ B → B.Pairwise fun a b => ¬ Dv 0 (fun t => ev t a) (fun t => ev t b) ∧ ¬ Dv 0 (fun t => ev t b) (fun t => ev t a) := by
    intro A B
    induction B generalizing A with
    | nil => intro _; exact List.Pairwise.nil
    | cons a B ih =>
      intro e
      refine List.Pairwise.cons (fun b hb => ?_) (ih (A ++ [a]) (by rw [e]; simp))
      obtain ⟨B1, B2, rfl⟩ := List.append_of_mem hb
      exact key A B1 B2 a b e
  exact this [] P rfl

structure FaO (f : List Int) (P : List (List Int)) (i : Nat) (ps : List (List Int × Nat)) (left : List Int) : Prop where
  pp : Pp left
  eq : ∀ t, ev t f = pE ps t * ev t left
  map : ps.map Prod.fst = P.take i
  pos : ∀ x, x ∈ ps → 1 ≤ x.2 ∧ ¬ Dv 0 (fun t => ev t x.1) (fun t => ev t left)

theorem FaO.start {f : List Int} (P : List (List Int)) (h : Pp f) : FaO f P 0 [] f := ⟨h, fun t => by simp [pE], rfl, fun x hx => by cases hx⟩

theorem dv_pE {r : Int → Int} (hr : Irr 0 r) : ∀ ps : List (List Int × Nat), Dv 0 r (pE ps) → ∃ x, x ∈ ps ∧ Dv 0 r (fun t => ev t x.1)
  | [], h => by
    exfalso
    obtain ⟨k, s, h1, h2, h3⟩ := h
    obtain ⟨d, hd, h4⟩ := hr.deg
    have : Dv 0 r (fun _ => 1) := ⟨k, s, h1, h2, h3.congr fun t => by simp [pE]⟩
    obtain ⟨_, _, j, _, _, h5, _⟩ := this.deg Dom.zero h4 (Dm.of_ld (m := 0) (Ld.const 1) (by decide))
    omega
  | x :: ps, h => by
    rcases hr.prime Dom.zero ((Po.ev x.1).pow x.2) (pE_po ps) h with h1 | h1
    · refine ⟨x, List.mem_cons_self .., ?_⟩
      have : ∀ n, Dv 0 r (fun t => ev t x.1 ^ n) → Dv 0 r (fun t => ev t x.1) := by
        intro n
        induction n with
        | zero =>
          intro h
          obtain ⟨d, hd, h4⟩ := hr.deg
          obtain ⟨k, s, g1, g2, g3⟩ := h
          have : Dv 0 r (fun _ => 1) := ⟨k, s, g1, g2, g3.congr fun t => by simp⟩
          obtain ⟨_, _, j, _, _, h5, _⟩ := this.deg Dom.zero h4 (Dm.of_ld (m := 0) (Ld.const 1) (by decide))
          omega
        | succ n ih =>
          intro h
          have h' : Dv 0 r (fun t => ev t x.1 ^ n * ev t x.1) := h.alike (Zm.of_zero _ fun t => by rw [Int.pow_succ]; omega)
          rcases hr.prime Dom.zero ((Po.ev x.1).pow n) (Po.ev x.1) h' with h2 | h2
          · exact ih h2
          · exact h2
      exact this _ h1
    · obtain ⟨y, h2, h3⟩ := dv_pE hr ps h1
      exact ⟨y, List.mem_cons_of_mem _ h2, h3⟩

theorem dv_pA {r : Int → Int} (hr : Irr 0 r) : ∀ P : List (List Int), Dv 0 r (pA (fs P)) → ∃ g, g ∈ P ∧ Dv 0 r (fun t => ev t g) := by
  intro P h
  obtain ⟨x, h1, h2⟩ := dv_pE hr (P.map fun g => (g, 1)) (h.alike (Zm.of_zero _ fun t => by
    have : ∀ P : List (List Int), pE (P.map fun g => (g, 1)) t = pA (fs P) t := by
      intro P
      induction P with
      | nil => rfl
      | cons g P ih =>
        show ev t g ^ 1 * pE (P.map fun g => (g, 1)) t = ev t g * pA (fs P) t
        rw [ih, Int.pow_one]
    rw [this]; omega))
  obtain ⟨g, h3, rfl⟩ := List.mem_map.1 h1
  exact ⟨g, h3, h2⟩

theorem pA_dv {g : List Int} {P : List (List Int)} (h : g ∈ P) : Dv 0 (fun t => ev t g) (pA (fs P)) :=
  (di_pA (m := 0) (fs P) _ (fs_po P) (List.mem_map.2 ⟨g, h, rfl⟩)).dv Dom.zero

theorem FaO.next {f q : List Int} {P : List (List Int)} {i : Nat} {ps : List (List Int × Nat)} {left left' g : List Int} {c : Nat} (h : FaO f P i ps left) (hs : SqF f q) (hP : PfR q P) (hA : Apart P) (hg : P[i]? = some g) (hd : DoO left g left' c) (hn : ¬ Dv 0 (fun t => ev t g) (fun t => ev t left')) : FaO f P (i + 1) (ps ++ [(g, c)]) left' := by
  have hgm := List.mem_of_getElem? hg
  have hgi := (hP.mem g hgm).2.irr
  have hil : i < P.length := (List.getElem?_eq_some_iff.1 hg).1
  have hap : ∀ x, x ∈ ps → ¬ Dv 0 (fun t => ev t g) (fun t => ev t x.1) ∧ ¬ Dv 0 (fun t => ev t x.1) (fun t => ev t g) := fun x hx => by
    have h1 : x.1 ∈ P.take i := by rw [← h.map]; exact List.mem_map.2 ⟨x, hx, rfl⟩
    obtain ⟨j, hj⟩ := List.getElem?_of_mem h1
    have hji : j < i := by
      have := (List.getElem?_eq_some_iff.1 hj).1
      rw [List.length_take] at this; omega
    rw [List.getElem?_take_of_lt hji] at hj
    have h2 := List.pairwise_iff_getElem.1 hA j i (by omega) hil hji
    have e1 : P[j]'(by omega) = x.1 := (List.getElem?_eq_some_iff.1 hj).2
    have e2 : P[i] = g := (List.getElem?_eq_some_iff.1 hg).2
    rw [e1, e2] at h2
    exact ⟨h2.2, h2.1⟩
  refine ⟨hd.pp, fun t => by rw [pE_snoc, h.eq, hd.eq]; simp only [rA, rB, rC, rD, rE, rF, rG, rH, rI, rJ, rK], by rw [List.map_append, h.map, List.take_add_one, hg]; simp, fun x hx => ?_⟩
  rcases List.mem_append.1 hx with hx | hx
  · refine ⟨(h.pos x hx).1, fun hdv => (h.pos x hx).2 ?_⟩
    refine (hdv.mul ((Po.ev g).pow c)).alike (Zm.of_zero _ fun t => ?_)
    rw [hd.eq]; omega
  · obtain rfl : x = (g, c) := by simpa using hx
    refine ⟨?_, hn⟩
    refine Nat.one_le_iff_ne_zero.2 fun h0 => hn ?_
    have h0' : c = 0 := h0
    subst h0'
    have h1 : Dv 0 (fun t => ev t g) (fun t => ev t q) := (pA_dv hgm).alike (Zm.of_zero _ fun t => by rw [hP.eq]; omega)
    obtain ⟨G, hG, he⟩ := hs.div
    have h2 : Dv 0 (fun t => ev t g) (fun t => pE ps t * ev t left) := (h1.mul (Po.ev G)).alike (Zm.of_zero _ fun t => by rw [← h.eq, he]; omega)
    rcases hgi.prime Dom.zero (pE_po ps) (Po.ev left) h2 with h3 | h3
    · obtain ⟨x, hx, h4⟩ := dv_pE hgi ps h3
      exact absurd h4 (hap x hx).1
    · exact h3.alike (Zm.of_zero _ fun t => by rw [hd.eq]; simp)

theorem FaO.ends {f q : List Int} {P : List (List Int)} {ps : List (List Int × Nat)} {left : List Int} (h : FaO f P P.length ps left) (hs : SqF f q) (hP : PfR q P) (t : Int) : ev t f = pE ps t := by
  have hmap := h.map
  rw [List.take_length] at hmap
  have hl : left.length = 1 := by
    refine Classical.byContradiction fun hne => ?_
    have l0 := List.length_pos_iff.2 h.pp.ne
    obtain ⟨r, hr, h1⟩ := prime_dv Dom.zero _ (h.pp.tr.dm h.pp.ne) (by omega)
    have h2 : Dv 0 r (fun t => ev t f) := (h1.mul (pE_po ps)).alike (Zm.of_zero _ fun t => by rw [h.eq]; omega)
    have h3 := hs.all r hr h2
    obtain ⟨g, h4, h5⟩ := dv_pA hr P (h3.alike (Zm.of_zero _ fun t => by rw [hP.eq]; omega))
    have h6 := hr.back (hP.mem g h4).2.irr h5
    rw [← hmap] at h4
    obtain ⟨x, h7, rfl⟩ := List.mem_map.1 h4
    exact (h.pos x h7).2 (h6.trans Dom.zero h1)
  have hone : left = [1] := by
    have hp := h.pp.pr
    have hc := (cont_one h.pp.tr h.pp.ne h.pp.pr).1
    have hlead := h.pp.lead
    match left, hl, hc, hlead with
    | [x], _, hc, hlead =>
      have hx : 0 < x := hlead
      have : cont [x] = x.natAbs := by simp [cont]
      rw [this] at hc
      have : x = 1 := by omega
      rw [this]
  rw [h.eq, hone]; simp [ev]

end Go.Proofs.YtldcjkhbiffdoabGreatDoor

set_option linter.unusedSimpArgs false
namespace Go.Proofs.YtldcjkhbiffdoabGreatDoor

def lex (a b : List Int) : Nat → Bool
  | 0 => false
  | k + 1 => if a.getD k 0 = b.getD k 0 then lex a b k else decide (a.getD k 0 < b.getD k 0)

def bfr (a b : List Int) : Bool := if a.length = b.length then lex a b a.length else decide (a.length < b.length)

theorem lex_iff (a b : List Int) : ∀ n, lex a b n = true ↔ ∃ k, k < n ∧ a.getD k 0 < b.getD k 0 ∧ ∀ j, k < j → j < n → a.getD j 0 = b.getD j 0
  | 0 => by simp [lex]
  | n + 1 => by
    unfold lex
    by_cases h : a.getD n 0 = b.getD n 0
    · rw [if_pos h, lex_iff a b n]
      constructor
      · rintro ⟨k, h1, h2, h3⟩
        refine ⟨k, by omega, h2, fun j h4 h5 => ?_⟩
        rcases (show j = n ∨ j < n by omega) with rfl | h6
        · exact h
        · exact h3 j h4 h6
      · rintro ⟨k, h1, h2, h3⟩
        rcases (show k = n ∨ k < n by omega) with rfl | h6
        · omega
        · exact ⟨k, h6, h2, fun j h4 h5 => h3 j h4 (by omega)⟩
    · rw [if_neg h]
      constructor
      · intro h1
        exact ⟨n, by omega, of_decide_eq_true h1, fun j h4 h5 => by omega⟩
      · rintro ⟨k, h1, h2, h3⟩
        rcases (show k = n ∨ k < n by omega) with rfl | h6
        · exact decide_eq_true h2
        · exact absurd (h3 n h6 (by omega)) h

theorem bfr_iff (a b : List Int) : bfr a b = true ↔ a.length < b.length ∨ (a.length = b.length ∧ ∃ k, k < a.length ∧ a.getD k 0 < b.getD k 0 ∧ ∀ j, k < j → j < a.length → a.getD j 0 = b.getD j 0) := by
  unfold bfr
  by_cases h : a.length = b.length
  · rw [if_pos h, lex_iff]
    exact ⟨fun h1 => .inr ⟨h, h1⟩, fun h1 => h1.elim (fun h2 => by omega) fun h2 => h2.2⟩
  · rw [if_neg h, decide_eq_true_iff]
    exact ⟨fun h1 => .inl h1, fun h1 => h1.elim id fun h2 => absurd h2.1 h⟩

theorem bfr_irrefl (a : List Int) : bfr a a = false := by
  cases h : bfr a a with
  | false => rfl
  | true =>
    rcases (bfr_iff a a).1 h with h1 | ⟨_, k, _, h2, _⟩ <;> omega

theorem bfr_trans {a b c : List Int} (h1 : bfr a b = true) (h2 : bfr b c = true) : bfr a c = true := by
  rw [bfr_iff] at *
  rcases h1 with h1 | ⟨e1, k, k1, k2, k3⟩
  · rcases h2 with h2 | ⟨e2, _⟩
    · left; omega
    · left; omega
  · rcases h2 with h2 | ⟨e2, m, m1, m2, m3⟩
    · left; omega
    · right
      refine ⟨by omega, ?_⟩
      rcases (show k < m ∨ k = m ∨ m < k by omega) with h | rfl | h
      · exact ⟨m, by omega, by rw [k3 m h (by omega)]; exact m2, fun j h4 h5 => by rw [k3 j (by omega) h5, m3 j h4 (by omega)]⟩
      · exact ⟨k, by omega, by omega, fun j h4 h5 => by rw [k3 j h4 h5, m3 j h4 (by omega)]⟩
      · exact ⟨k, by omega, by rw [← m3 k h (by omega)]; exact k2, fun j h4 h5 => by rw [k3 j h4 h5, m3 j (by omega) (by omega)]⟩

theorem lex_tri (a b : List Int) : ∀ n, lex a b n = true ∨ lex b a n = true ∨ ∀ j, j < n → a.getD j 0 = b.getD j 0
  | 0 => .inr (.inr fun j h => by omega)
  | n + 1 => by
    unfold lex
    by_cases h : a.getD n 0 = b.getD n 0
    · rw [if_pos h, if_pos h.symm]
      rcases lex_tri a b n with h1 | h1 | h1
      · exact .inl h1
      · exact .inr (.inl h1)
      · refine .inr (.inr fun j hj => ?_)
        rcases (show j = n ∨ j < n by omega) with rfl | h6
        · exact h
        · exact h1 j h6
    · rw [if_neg h, if_neg (Ne.symm h), decide_eq_true_iff, decide_eq_true_iff]
      omega

theorem bfr_tri (a b : List Int) : bfr a b = true ∨ bfr b a = true ∨ a = b := by
  by_cases h : a.length = b.length
  · rcases lex_tri a b a.length with h1 | h1 | h1
    · left; unfold bfr; rw [if_pos h]; exact h1
    · right; left; unfold bfr; rw [if_pos h.symm, ← h]; exact h1
    · right; right
      refine ext_getD h fun k => ?_
      rcases Nat.lt_or_ge k a.length with hk | hk
      · exact h1 k hk
      · rw [getD_out hk, getD_out (by omega)]
  · rcases (show a.length < b.length ∨ b.length < a.length by omega) with h1 | h1
    · left; rw [bfr_iff]; exact .inl h1
    · right; left; rw [bfr_iff]; exact .inl h1

def nle (a b : List Int) : Prop := bfr b a = false
theorem nle_of {a b : List Int} (h : bfr a b = true) : nle a b := by
  cases h1 : bfr b a with
  | false => exact h1
  | true => have := bfr_trans h h1; rw [bfr_irrefl] at this; cases this
theorem nle_trans {a b c : List Int} (h1 : nle a b) (h2 : nle b c) : nle a c := by
  rcases bfr_tri a b with h | h | rfl
  · rcases bfr_tri b c with h' | h' | rfl
    · exact nle_of (bfr_trans h h')
    · rw [h2] at h'; cases h'
    · exact nle_of h
  · rw [h1] at h; cases h
  · exact h2

def Srt (L : List (List Int)) : Prop := L.Pairwise nle

theorem Srt.nil : Srt [] := List.Pairwise.nil

structure InsO (L0 : List (List Int)) (x : List Int) (k : Nat) (L : List (List Int)) : Prop where
  ex : ∃ A B, L = A ++ x :: B ∧ L0 = A ++ B ∧ A.length = k ∧ ∀ b, b ∈ B → nle x b

theorem InsO.start (L0 : List (List Int)) (x : List Int) : InsO L0 x L0.length (L0 ++ [x]) :=
  ⟨L0, [], rfl, by simp, rfl, fun b h => by cases h⟩

theorem InsO.at {L0 L : List (List Int)} {x : List Int} {k : Nat} (h : InsO L0 x (k + 1) L) : ∃ y, L[k]? = some y ∧ L[k + 1]? = some x ∧ L0[k]? = some y := by
  obtain ⟨A, B, rfl, rfl, h3, h4⟩ := h.ex
  have hk : k < A.length := by omega
  refine ⟨A[k], ?_, ?_, ?_⟩
  · rw [List.getElem?_append_left hk, List.getElem?_eq_getElem hk]
  · rw [List.getElem?_append_right (by omega), h3]; simp
  · rw [List.getElem?_append_left hk, List.getElem?_eq_getElem hk]

theorem InsO.next {L0 L : List (List Int)} {x y : List Int} {k : Nat} (h : InsO L0 x (k + 1) L) (hy : L[k]? = some y) (hb : bfr x y = true) : InsO L0 x k ((L.set (k + 1) y).set k x) := by
  obtain ⟨A, B, rfl, rfl, h3, h4⟩ := h.ex
  have hk : k < A.length := by omega
  obtain ⟨A', z, rfl⟩ : ∃ A' z, A = A' ++ [z] := ⟨A.dropLast, A.getLast (by intro e; subst e; simp at hk), (List.dropLast_concat_getLast _).symm⟩
  have hl : A'.length = k := by simp at h3; omega
  have hz : z = y := by
    rw [List.getElem?_append_left (by simp; omega), List.getElem?_append_right (by omega), hl] at hy
    simpa using hy
  subst hz
  refine ⟨A', z :: B, ?_, by simp, hl, fun b hbm => ?_⟩
  · subst hl
    simp [List.set_append]
  · rcases List.mem_cons.1 hbm with rfl | hbm
    · exact nle_of hb
    · exact h4 b hbm

theorem InsO.ends {L0 L : List (List Int)} {x : List Int} {k : Nat} (h : InsO L0 x k L) (hs : Srt L0) (he : k = 0 ∨ ∃ y, L0[k - 1]? = some y ∧ 0 < k ∧ bfr x y = false) : Srt L ∧ L.Perm (L0 ++ [x]) := by
  obtain ⟨A, B, rfl, rfl, h3, h4⟩ := h.ex
  refine ⟨?_, ?_⟩
  · obtain ⟨s1, s2, s3⟩ := List.pairwise_append.1 hs
    refine List.pairwise_append.2 ⟨s1, List.Pairwise.cons h4 s2, fun a ha b hb => ?_⟩
    rcases List.mem_cons.1 hb with rfl | hb
    · rcases he with he | ⟨y, e1, e2, e3⟩
      · have : A = [] := List.length_eq_zero_iff.1 (by omega)
        subst this; cases ha
      · have hk : k - 1 < A.length := by omega
        rw [List.getElem?_append_left hk] at e1
        obtain ⟨i, hi⟩ := List.getElem?_of_mem ha
        have hiA := (List.getElem?_eq_some_iff.1 hi).1
        rcases (show i = k - 1 ∨ i < k - 1 by omega) with rfl | h6
        · obtain rfl : a = y := Option.some.inj (hi.symm.trans e1)
          exact e3
        · have h7 := List.pairwise_iff_getElem.1 s1 i (k - 1) hiA hk h6
          rw [(List.getElem?_eq_some_iff.1 hi).2, (List.getElem?_eq_some_iff.1 e1).2] at h7
          exact nle_trans h7 e3
    · exact s3 a ha b hb
  · have h1 : (A ++ x :: B).Perm (x :: (A ++ B)) := List.perm_middle
    exact h1.trans (List.perm_append_comm (l₁ := [x]) (l₂ := A ++ B))

structure Fac (zs : List Int) (c : Int) (ps : List (List Int × Nat)) : Prop where
  cont : c = scont zs
  each : ∀ x, x ∈ ps → Pp x.1 ∧ Iz (fun t => ev t x.1) ∧ 1 ≤ x.2
  eq : ∀ t, ev t zs = c * pE ps t
  asc : ps.Pairwise fun a b => bfr a.1 b.1 = true

theorem PfR.perm {q : List Int} {P P' : List (List Int)} (h : PfR q P) (hp : P'.Perm P) : PfR q P' := by
  refine ⟨fun g hg => h.mem g (hp.mem_iff.1 hg), fun t => ?_⟩
  rw [h.eq]
  have : ∀ {A B : List (List Int)}, A.Perm B → pA (fs A) t = pA (fs B) t := by
    intro A B hAB
    induction hAB with
    | nil => rfl
    | cons x _ ih => exact congrArg (ev t x * ·) ih
    | swap x y l => show ev t y * (ev t x * pA (fs l) t) = ev t x * (ev t y * pA (fs l) t); rw [Int.mul_left_comm]
    | trans _ _ h1 h2 => exact h1.trans h2
  exact (this hp).symm

theorem Srt.asc {P : List (List Int)} (h : Srt P) (hA : Apart P) : P.Pairwise fun a b => bfr a b = true := by
  unfold Srt at h
  unfold Apart at hA
  refine List.Pairwise.imp₂ (fun a b h1 h2 => ?_) h hA
  rcases bfr_tri a b with h3 | h3 | rfl
  · exact h3
  · have : bfr b a = false := h1
    rw [this] at h3; cases h3
  · exact absurd (Dv.refl Dom.zero _) h2.1

theorem Fac.of {zs q : List Int} {P : List (List Int)} {ps : List (List Int × Nat)} {left : List Int} (hz : Tr zs) (hne : zs ≠ []) (hs : SqF (prim zs) q) (hP : PfR q P) (hS : Srt P) (h : FaO (prim zs) P P.length ps left) : Fac zs (scont zs) ps where
  cont := rfl
  each := fun x hx => by
    have hm := h.map
    rw [List.take_length] at hm
    have h1 : x.1 ∈ P := by rw [← hm]; exact List.mem_map.2 ⟨x, hx, rfl⟩
    exact ⟨(hP.mem _ h1).1, (hP.mem _ h1).2, (h.pos x hx).1⟩
  eq := fun t => by
    have := hz
    have := hne
    rw [ev_prim zs t, h.ends hs hP t]
  asc := by
    have hm := h.map
    rw [List.take_length] at hm
    have := hS.asc (hP.apart hs)
    rw [← hm] at this
    exact List.pairwise_map.1 this

end Go.Proofs.YtldcjkhbiffdoabGreatDoor

namespace Go.Proofs.YtldcjkhbiffdoabGreatDoor
open Go.RowKit

def Row (w : World) (v : Value) (l : List Int) : Prop := w.ownsRow 0 2 1 v l.length (l.map (Value.int .i64))

theorem Row.form {w : World} {v : Value} {l : List Int} (h : Row w v l) :
    (v = .slice none 0 0 ∧ l = []) ∨ ∃ g cap, v = .slice (some ⟨g, 0, none⟩) l.length cap ∧ l.length ≤ cap ∧ cap ≤ maxLen ∧ g < w.heap.size ∧ (∀ i, i < l.length → w.cell? ⟨g, i, none⟩ = some (.int .i64 (l.getD i 0))) := by
  rcases h.2 with ⟨h1, h2⟩ | ⟨g, cap, cur, hv, hb, hg, hnc, hcm, hcs, ht⟩
  · exact .inl ⟨h1, List.eq_nil_of_length_eq_zero h2⟩
  · refine .inr ⟨g, cap, hv, hnc, hcm, (Array.getElem?_eq_some_iff.1 hg).1, fun i hi => ?_⟩
    have h' : w.ownsRow 0 2 1 (.slice (some ⟨g, 0, none⟩) l.length cap) l.length (l.map (Value.int .i64)) := hv ▸ h
    rw [h'.cellAt i (by omega)]
    simp [hi, List.getD]

theorem Row.val {w : World} {v : Value} {l : List Int} (h : Row w v l) : ∃ a c, v = .slice a l.length c := by
  rcases h.form with ⟨rfl, rfl⟩ | ⟨g, cap, rfl, _⟩
  · exact ⟨_, _, rfl⟩
  · exact ⟨_, _, rfl⟩

theorem Row.at {w : World} {a : Option Addr} {c : Nat} {l : List Int} (h : Row w (.slice a l.length c) l) (i : Nat) (hi : i < l.length) : ∃ g, a = some ⟨g, 0, none⟩ ∧ l.length ≤ c ∧ c ≤ maxLen ∧ g < w.heap.size ∧ w.cell? ⟨g, i, none⟩ = some (.int .i64 (l.getD i 0)) := by
  rcases h.form with ⟨h1, rfl⟩ | ⟨g, cap, h1, h2, h3, h5, h4⟩
  · simp at hi
  · simp only [Value.slice.injEq] at h1
    obtain ⟨rfl, _, rfl⟩ := h1
    exact ⟨g, rfl, h2, h3, h5, h4 i hi⟩

theorem Row.below {w w' : World} {v : Value} {l : List Int} (h : Row w v l) (hb : Below w.heap.size w w') : Row w' v l := by
  refine ⟨h.1, ?_⟩
  rcases h.2 with h1 | ⟨g, cap, cur, hv, hb0, hg, r⟩
  · exact .inl h1
  · exact .inr ⟨g, cap, cur, hv, hb0, by rw [hb.block g (Array.getElem?_eq_some_iff.1 hg).1]; exact hg, r⟩

theorem Row.alloc {w : World} {v : Value} {l : List Int} (h : Row w v l) (o : Obj) : Row (w.alloc o) v l := h.below ((Below.refl _ _).alloc (Nat.le_refl _) _)

def Own (B : Nat) (w : World) (v : Value) (l : List Int) : Prop := w.ownsRow B 2 1 v l.length (l.map (Value.int .i64))

theorem Own.row {B : Nat} {w : World} {v : Value} {l : List Int} (h : Own B w v l) : Row w v l := by
  refine ⟨h.1, ?_⟩
  rcases h.2 with h1 | ⟨g, cap, cur, hv, hb0, r⟩
  · exact .inl h1
  · exact .inr ⟨g, cap, cur, hv, Nat.zero_le _, r⟩

theorem Own.block {B : Nat} {w : World} {v : Value} {l : List Int} (h : Own B w v l) : ∀ k, v.ownBlock = some k → B ≤ k := fun k hk => (World.ownsRow.lt h k hk).1

theorem Own.lit {w : World} {n : Nat} (h : w.heap.size = n) : Own n (w.alloc (.cells #[] 2)) (.slice (some ⟨n, 0, none⟩) 0 0) [] := by
  subst h
  exact World.ownsRow_made w #[] 0 (Nat.le_refl _) (by simp [maxLen]) rfl

theorem Tryz.infoI64 : (Tryz.prog.info? 2).map (fun i => (i.zero, i.size, i.bytes)) = some (some (.int .i64 0), 1, 8) := by kernel_rfl
theorem Tryz.sliceI64 : Tryz.prog.underlying 68 = some (.slice 2) := by kernel_rfl

theorem wpList_push {ops : Array Oper} {rest : List Oper} {o : Oper} {a : Act} {Q : Exit → Act → World → Prop} {wr : World} (hgd : o.guard = none) (s x : Operand)
    (ho : o.op = .call { callee := .builtin .append, args := #[s, x], argTypes := #[68, 68] })
    (B : Nat) (v : Value) (l : List Int) (y : Int) (hs : a.eval s = v) (hown : Own B wr v l) (hx : a.eval x = .slice (some ⟨wr.heap.size, 0, none⟩) 1 1)
    (hlen : l.length ≤ 1000000000000) (hB : B ≤ wr.heap.size)
    (h : ∀ v' w', Own B w' v' (l ++ [y]) → Below B wr w' → wr.grownBy w' v.ownBlock → wpList Tryz.prog ops Q rest (a.put o.dst v') w') :
    wpList Tryz.prog ops Q (o :: rest) a (wr.alloc (.cells #[.int .i64 y] 2)) := by
  obtain ⟨i, hi, hz0, hz1, hz2⟩ := info_parts Tryz.infoI64
  refine wpList_append_own _ hgd s x 68 ho B 2 i (.int .i64 0) 1 8 Tryz.sliceI64 hi hz0 hz1 hz2 rfl (by decide) v l.length (l.map (Value.int .i64)) hs (World.ownsRow.alloc hown _) ⟨wr.heap.size, 0, none⟩ 1 1 [.int .i64 y] hx rfl ?_ ?_ ?_ ?_ ?_ ?_
  · intro j u hj
    match j, hj with
    | 0, hj => simp at hj; subst hj; simp [Addr.add]
  · intro u hu; simp at hu; subst hu; rfl
  · unfold maxLen; omega
  · omega
  · simp; omega
  · intro v' w' h1 h2 _
    have hg : wr.grownBy w' v.ownBlock := by
      have h0 := World.grownBy_alloc wr (.cells #[.int .i64 y] 2) v.ownBlock
      exact ⟨h2.os.trans h0.os, h2.tape.trans h0.tape, h2.output.trans h0.output, Nat.le_trans h0.size h2.size, fun k hk hne => (h2.block k (by simp; omega) hne).trans (h0.block k hk hne)⟩
    refine h v' w' ?_ ((Below.refl _ _).grown hg hB hown.block) hg
    unfold Own
    simpa using h1

theorem made_zeros (n : Nat) : (madeCells (Value.int .i64 0).cells (n * 1)).toList = (List.replicate n (0 : Int)).map (Value.int .i64) := by
  rw [List.map_replicate, List.eq_replicate_iff]
  refine ⟨by simp [size_madeCells], fun b hb => ?_⟩
  obtain ⟨i, hi, rfl⟩ := List.mem_iff_getElem.1 hb
  simp [madeCells, Value.cells, Nat.mod_one]

theorem wpList_make64 {ops : Array Oper} {rest : List Oper} {o : Oper} {a : Act} {Q : Exit → Act → World → Prop} {w : World} (hg : o.guard = none) (l c : Operand) (hop : o.op = Op.makeSlice 68 l c)
    (L C : Int) (n : Nat) (hl : a.eval l = .int .i64 L) (hc : a.eval c = .int .i64 C) (hL : L = (n : Int)) (hC : C = (n : Int)) (hn : n ≤ 1000000000000)
    (hK : ∀ w' P, Hid (P = List.replicate n 0) → w'.ownsRow w.heap.size 2 1 (.slice (some ⟨w.heap.size, 0, none⟩) n n) n (P.map (Value.int .i64)) → Below w.heap.size w w' → wpList Tryz.prog ops Q rest (a.put o.dst (.slice (some ⟨w.heap.size, 0, none⟩) n n)) w') :
    wpList Tryz.prog ops Q (o :: rest) a w := by
  obtain ⟨i, hi, hz0, hz1, hz2⟩ := info_parts Tryz.infoI64
  refine wpList_make_full w hg l c 68 hop w.heap.size 2 i (.int .i64 0) 1 Tryz.sliceI64 hi hz0 hz1 .i64 .i64 L C n hl hc hL hC (by rw [hz2]; omega) (by unfold maxLen; omega) (Nat.le_refl _) ?_
  intro w' h1 h2
  rw [made_zeros] at h1
  exact hK w' _ rfl h1 ((Below.refl _ _).grown h2 (Nat.le_refl _) (fun k hk => by cases hk))

theorem made_own {B n g : Nat} {w : World} {P : List Int} (h : w.ownsRow B 2 1 (.slice (some ⟨g, 0, none⟩) n n) n (P.map (Value.int .i64))) (hP : P.length = n) : Own B w (.slice (some ⟨g, 0, none⟩) n n) P := by
  unfold Own; rw [hP]; exact h

theorem map_set (P : List Int) (k : Nat) (y : Int) : (P.map (Value.int .i64)).set k (.int .i64 y) = (P.set k y).map (Value.int .i64) := by
  rw [List.map_set]

theorem take_set {P : List Int} {k : Nat} (h : k < P.length) (t : Int) : (P.set k t).take (k + 1) = P.take k ++ [t] := by
  rw [List.take_succ_eq_append_getElem (by simpa using h)]
  congr 1
  · rw [List.take_set_of_le (Nat.le_refl _)]
  · simp

end Go.Proofs.YtldcjkhbiffdoabGreatDoor

namespace Go.Proofs.YtldcjkhbiffdoabGreatDoor
open Go.RowKit

set_option maxHeartbeats 400000 in
theorem limbAt_any (l : List Int) (v : Value) (i : Nat) (w : World) (h : Row w v l) (hi : i ≤ 1000000000000) (hl : l.length ≤ 1000000000000) :
    Calls Tryz.prog 107 #[v, .int .i64 i] w fun e w' => e = .returned (.int .i64 (l.getD i 0)) ∧ w' = w := by
  rcases h.form with ⟨rfl, rfl⟩ | ⟨g, cap, rfl, hc, hm, _, hcell⟩
  · go_enter Tryz.func107, Tryz.ntmps107
    go_wp2
    go_ret
    exact ⟨rfl, rfl⟩
  · by_cases hlt : i < l.length
    · have hg := hcell i hlt
      clear hcell
      generalize l.getD i 0 = x at *
      go_enter Tryz.func107, Tryz.ntmps107
      go_wp2
      go_ret
      exact ⟨rfl, rfl⟩
    · have hz : l.getD i 0 = 0 := by simp [List.getD, List.getElem?_eq_none (Nat.le_of_not_lt hlt)]
      clear hcell
      rw [hz]
      clear hz
      go_enter Tryz.func107, Tryz.ntmps107
      go_wp2
      go_ret
      exact ⟨rfl, rfl⟩

end Go.Proofs.YtldcjkhbiffdoabGreatDoor

namespace Go.Proofs.YtldcjkhbiffdoabGreatDoor
open Go.RowKit

theorem owned_block {w : World} {B n g c : Nat} {xs : List Value} (h : w.ownsRow B 2 1 (.slice (some ⟨g, 0, none⟩) n c) n xs) : ∃ cur, w.heap[g]? = some (.cells cur 2 (0, 0)) ∧ cur.size = c ∧ B ≤ g ∧ n ≤ c ∧ c ≤ maxLen ∧ cur.toList.take n = xs := by
  rcases h.2 with ⟨h1, _⟩ | ⟨g', cap, cur, hv, hb, hg, hnc, hcm, hcs, ht⟩
  · cases h1
  · simp only [Value.slice.injEq, true_and, Option.some.injEq, Addr.mk.injEq, and_true] at hv
    obtain ⟨rfl, rfl⟩ := hv
    exact ⟨cur, hg, by simpa using hcs, hb, hnc, hcm, by simpa using ht⟩

theorem copy64_run {w : World} (B g n : Nat) (P l : List Int) (ua : Option Addr) (uc : Nat) (hr : Row w (.slice ua l.length uc) l) (hn : n ≤ l.length)
    (hown : w.ownsRow B 2 1 (.slice (some ⟨g, 0, none⟩) n n) n (P.map (Value.int .i64))) :
    ∃ w2, (Builtin.copy_ #[68, 68] 3 #[.slice (some ⟨g, 0, none⟩) n n, .slice ua l.length uc]).run Tryz.prog w = .ok (goInt n) w2 ∧ Own B w2 (.slice (some ⟨g, 0, none⟩) n n) (l.take n) ∧ Below B w w2 := by
  obtain ⟨i, hi, hz0, hz1, hz2⟩ := info_parts Tryz.infoI64
  obtain ⟨cur, hg, hcs, hB, _, hcm, _⟩ := owned_block hown
  have hlt : (l.take n).length = n := by rw [List.length_take]; omega
  have hlen : ((l.take n).map (Value.int .i64)).length = n := by rw [List.length_map, hlt]
  by_cases h0 : n = 0
  · subst h0
    refine ⟨w, run_copy_none (P := Tryz.prog) w 68 68 3 2 (some ⟨g, 0, none⟩) ua 0 0 l.length uc Tryz.sliceI64 (by rw [hi]; simp [hz1]) (by simp), ?_, Below.refl _ _⟩
    refine ⟨by simp, .inr ⟨g, 0, cur, by simp, hB, hg, by simp, by simp [maxLen], by simpa using hcs, by simp⟩⟩
  · obtain ⟨ga, rfl, _⟩ := hr.at 0 (by omega)
    have hrun := run_copy_row (P := Tryz.prog) w 68 68 3 2 g 0 n n ⟨ga, 0, none⟩ l.length uc cur 2 ((l.take n).map (Value.int .i64)) Tryz.sliceI64 (by rw [hi]; simp [hz1]) hg (by rw [hlen]; exact (Nat.min_eq_right hn).symm) ?_ (by rw [hlen]; omega) ?_
    · rw [hlen] at hrun
      refine ⟨_, hrun, ?_, below_setRow (Below.refl _ _) hB _⟩
      have hg2 := setRow_heap w g cur (cur.toList.take 0 ++ (l.take n).map (Value.int .i64) ++ cur.toList.drop (0 + n)).toArray 2 (0, 0) hg
      have hsp : cur.toList.take 0 ++ (l.take n).map (Value.int .i64) ++ cur.toList.drop (0 + n) = (l.take n).map (Value.int .i64) := by
        rw [List.drop_eq_nil_of_le (by rw [Array.length_toList, hcs]; omega)]
        simp
      rw [hsp] at hg2 ⊢
      unfold Own
      rw [hlt]
      refine ⟨by rw [hlen]; omega, .inr ⟨g, n, _, rfl, hB, hg2, Nat.le_refl _, hcm, ?_, ?_⟩⟩
      · simp; omega
      · rw [List.take_of_length_le]
        simp; omega
    · intro j v hj
      have hj' : j < n := by
        have := (List.getElem?_eq_some_iff.1 hj).1
        omega
      obtain ⟨ga', e, _, _, _, hc⟩ := hr.at j (by omega)
      simp at e
      subst e
      have hv : v = .int .i64 (l.getD j 0) := by
        rw [getD_lt (show j < l.length by omega)]
        simp [List.getElem?_take_of_lt hj', List.getElem?_eq_getElem (show j < l.length by omega)] at hj
        exact hj.symm
      have ha : (⟨ga, 0, none⟩ : Addr).add j = ⟨ga, j, none⟩ := by cases j <;> simp [Addr.add]
      rw [hv, ha]
      exact hc
    · intro v hv
      obtain ⟨z, _, rfl⟩ := List.mem_map.1 hv
      rfl

structure Trims (l s : List Int) : Prop where
  dig : Dig 1000000000 s
  trim : Trim s
  val : ev 1000000000 s = ev 1000000000 l
  len : s.length ≤ l.length

set_option maxRecDepth 100000 in
set_option maxHeartbeats 1000000 in
theorem trimmed_any (l : List Int) (u : Value) (w : World) (hu : Row w u l) (hl : l.length ≤ 1000000000) (dl : Dig 1000000000 l) :
    Calls Tryz.prog 109 #[u] w fun e w' => ∃ s x, e = .returned x ∧ Own w.heap.size w' x s ∧ Trims l s ∧ Below w.heap.size w w' := by
  obtain ⟨ua, uc, rfl⟩ := hu.val
  go_enter Tryz.func109, Tryz.ntmps109
  go_wp2_with fail
  go_loop [3] (fun n => ∃ (k : Nat), k ≤ l.length ∧ n = .int .i64 k ∧ Hid (ev 1000000000 (l.take k) = ev 1000000000 l)) (fun n => (intOf n).toNat)
  case atStart => exact ⟨l.length, Nat.le_refl _, rfl, by rw [List.take_length]; rfl⟩
  case round =>
    obtain ⟨k, hk, rfl, HE⟩ := hrel
    have hfin : (k = 0 ∨ l.getD (k - 1) 0 ≠ 0) → Trims l (l.take k) := by
      intro h
      refine ⟨dl.take _, fun y hy => ?_, HE.out, by rw [List.length_take]; omega⟩
      rcases h with rfl | h
      · simp at hy
      · cases k with
        | zero => simp at hy
        | succ j =>
          rw [List.take_succ_eq_append_getElem (by omega), ← getD_lt (by omega)] at hy
          simp at hy
          simp at h
          rw [← hy]; exact h
    cases k with
    | zero =>
      have HT : Hid _ := hfin (.inl rfl)
      clear hfin HE
      go_wp2_with (at_make; refine wpList_make64 rfl (.tmp 19) (.tmp 19) rfl _ _ 0 rfl rfl (by omega) (by omega) (by omega) ?_)
      intro w1 P0 _ hown hb1
      obtain ⟨w2, hrun, hown2, hb2⟩ := copy64_run w.heap.size w.heap.size 0 P0 l ua uc (hu.below hb1) (by omega) hown
      go_wp2
      go_ret
      exact ⟨_, _, rfl, hown2, HT.out, hb1.trans hb2⟩
    | succ j =>
      obtain ⟨g, rfl, hc1, hc2, hg, hcell⟩ := hu.at j (by omega)
      obtain ⟨x, HX⟩ : ∃ x, Hid (l.getD j 0 = x) := ⟨_, rfl⟩
      rw [HX.out] at hcell
      by_cases hx : x = 0
      · subst hx
        have he : Hid (ev 1000000000 (l.take j) = ev 1000000000 l) := by
          have := HE.out
          rw [ev_take, HX.out] at this
          simp at this
          exact this
        clear HE HX hfin
        go_wp2_with fail
        go_round
        case rel => exact ⟨j, by omega, by go_num, he⟩
        case measure => simp [intOf]
      · have HT : Hid _ := hfin (.inr (by rw [Nat.add_sub_cancel, HX.out]; exact hx))
        have hxb : (x == 0) = false := by simp [hx]
        clear hfin HE HX
        go_wp2_with (at_make; refine wpList_make64 rfl (.tmp 19) (.tmp 19) rfl _ _ (j + 1) rfl rfl (by omega) (by omega) (by omega) ?_)
        intro w1 P0 _ hown hb1
        obtain ⟨w2, hrun, hown2, hb2⟩ := copy64_run w.heap.size w.heap.size (j + 1) P0 l _ uc (hu.below hb1) (by omega) hown
        go_wp2
        go_ret
        exact ⟨_, _, rfl, hown2, HT.out, hb1.trans hb2⟩

end Go.Proofs.YtldcjkhbiffdoabGreatDoor

namespace Go.Proofs.YtldcjkhbiffdoabGreatDoor
open Go.RowKit

def RowN (w : World) (v : Value) (l : List Int) : Prop := w.ownsRow 0 3 1 v l.length (l.map (Value.int .i64))

theorem RowN.form {w : World} {v : Value} {l : List Int} (h : RowN w v l) :
    (v = .slice none 0 0 ∧ l = []) ∨ ∃ g cap, v = .slice (some ⟨g, 0, none⟩) l.length cap ∧ l.length ≤ cap ∧ cap ≤ maxLen ∧ g < w.heap.size ∧ (∀ i, i < l.length → w.cell? ⟨g, i, none⟩ = some (.int .i64 (l.getD i 0))) := by
  rcases h.2 with ⟨h1, h2⟩ | ⟨g, cap, cur, hv, hb, hg, hnc, hcm, hcs, ht⟩
  · exact .inl ⟨h1, List.eq_nil_of_length_eq_zero h2⟩
  · refine .inr ⟨g, cap, hv, hnc, hcm, (Array.getElem?_eq_some_iff.1 hg).1, fun i hi => ?_⟩
    have h' : w.ownsRow 0 3 1 (.slice (some ⟨g, 0, none⟩) l.length cap) l.length (l.map (Value.int .i64)) := hv ▸ h
    rw [h'.cellAt i (by omega)]
    simp [hi, List.getD]

theorem RowN.val {w : World} {v : Value} {l : List Int} (h : RowN w v l) : ∃ a c, v = .slice a l.length c := by
  rcases h.form with ⟨rfl, rfl⟩ | ⟨g, cap, rfl, _⟩
  · exact ⟨_, _, rfl⟩
  · exact ⟨_, _, rfl⟩

theorem RowN.at {w : World} {a : Option Addr} {c : Nat} {l : List Int} (h : RowN w (.slice a l.length c) l) (i : Nat) (hi : i < l.length) : ∃ g, a = some ⟨g, 0, none⟩ ∧ l.length ≤ c ∧ c ≤ maxLen ∧ g < w.heap.size ∧ w.cell? ⟨g, i, none⟩ = some (.int .i64 (l.getD i 0)) := by
  rcases h.form with ⟨h1, rfl⟩ | ⟨g, cap, h1, h2, h3, h5, h4⟩
  · simp at hi
  · simp only [Value.slice.injEq] at h1
    obtain ⟨rfl, _, rfl⟩ := h1
    exact ⟨g, rfl, h2, h3, h5, h4 i hi⟩

theorem RowN.below {w w' : World} {v : Value} {l : List Int} (h : RowN w v l) (hb : Below w.heap.size w w') : RowN w' v l := by
  refine ⟨h.1, ?_⟩
  rcases h.2 with h1 | ⟨g, cap, cur, hv, hb0, hg, r⟩
  · exact .inl h1
  · exact .inr ⟨g, cap, cur, hv, hb0, by rw [hb.block g (Array.getElem?_eq_some_iff.1 hg).1]; exact hg, r⟩

theorem RowN.alloc {w : World} {v : Value} {l : List Int} (h : RowN w v l) (o : Obj) : RowN (w.alloc o) v l := h.below ((Below.refl _ _).alloc (Nat.le_refl _) _)

def OwnN (B : Nat) (w : World) (v : Value) (l : List Int) : Prop := w.ownsRow B 3 1 v l.length (l.map (Value.int .i64))

theorem OwnN.row {B : Nat} {w : World} {v : Value} {l : List Int} (h : OwnN B w v l) : RowN w v l := by
  refine ⟨h.1, ?_⟩
  rcases h.2 with h1 | ⟨g, cap, cur, hv, hb0, r⟩
  · exact .inl h1
  · exact .inr ⟨g, cap, cur, hv, Nat.zero_le _, r⟩

theorem OwnN.block {B : Nat} {w : World} {v : Value} {l : List Int} (h : OwnN B w v l) : ∀ k, v.ownBlock = some k → B ≤ k := fun k hk => (World.ownsRow.lt h k hk).1

theorem OwnN.lit {w : World} {n : Nat} (h : w.heap.size = n) : OwnN n (w.alloc (.cells #[] 3)) (.slice (some ⟨n, 0, none⟩) 0 0) [] := by
  subst h
  exact World.ownsRow_made w #[] 0 (Nat.le_refl _) (by simp [maxLen]) rfl

theorem Tryz.infoIntN : (Tryz.prog.info? 3).map (fun i => (i.zero, i.size, i.bytes)) = some (some (.int .i64 0), 1, 8) := by kernel_rfl
theorem Tryz.sliceIntN : Tryz.prog.underlying 42 = some (.slice 3) := by kernel_rfl

theorem wpList_pushN {ops : Array Oper} {rest : List Oper} {o : Oper} {a : Act} {Q : Exit → Act → World → Prop} {wr : World} (hgd : o.guard = none) (s x : Operand)
    (ho : o.op = .call { callee := .builtin .append, args := #[s, x], argTypes := #[42, 42] })
    (B : Nat) (v : Value) (l : List Int) (y : Int) (hs : a.eval s = v) (hown : OwnN B wr v l) (hx : a.eval x = .slice (some ⟨wr.heap.size, 0, none⟩) 1 1)
    (hlen : l.length ≤ 1000000000000) (hB : B ≤ wr.heap.size)
    (h : ∀ v' w', OwnN B w' v' (l ++ [y]) → Below B wr w' → wr.grownBy w' v.ownBlock → wpList Tryz.prog ops Q rest (a.put o.dst v') w') :
    wpList Tryz.prog ops Q (o :: rest) a (wr.alloc (.cells #[.int .i64 y] 3)) := by
  obtain ⟨i, hi, hz0, hz1, hz2⟩ := info_parts Tryz.infoIntN
  refine wpList_append_own _ hgd s x 42 ho B 3 i (.int .i64 0) 1 8 Tryz.sliceIntN hi hz0 hz1 hz2 rfl (by decide) v l.length (l.map (Value.int .i64)) hs (World.ownsRow.alloc hown _) ⟨wr.heap.size, 0, none⟩ 1 1 [.int .i64 y] hx rfl ?_ ?_ ?_ ?_ ?_ ?_
  · intro j u hj
    match j, hj with
    | 0, hj => simp at hj; subst hj; simp [Addr.add]
  · intro u hu; simp at hu; subst hu; rfl
  · unfold maxLen; omega
  · omega
  · simp; omega
  · intro v' w' h1 h2 _
    have hg : wr.grownBy w' v.ownBlock := by
      have h0 := World.grownBy_alloc wr (.cells #[.int .i64 y] 3) v.ownBlock
      exact ⟨h2.os.trans h0.os, h2.tape.trans h0.tape, h2.output.trans h0.output, Nat.le_trans h0.size h2.size, fun k hk hne => (h2.block k (by simp; omega) hne).trans (h0.block k hk hne)⟩
    refine h v' w' ?_ ((Below.refl _ _).grown hg hB hown.block) hg
    unfold OwnN
    simpa using h1


def lenV : Value → Nat
  | .slice _ n _ => n
  | _ => 0

theorem OwnN.take {B : Nat} {w : World} {a : Option Addr} {c : Nat} {l : List Int} (h : OwnN B w (.slice a l.length c) l) {n : Nat} (hn : n ≤ l.length) : OwnN B w (.slice a n c) (l.take n) := by
  have hlen : (l.take n).length = n := by rw [List.length_take]; omega
  unfold OwnN
  rw [hlen]
  refine ⟨by simp; omega, ?_⟩
  rcases h.2 with ⟨h1, h2⟩ | ⟨g, cap, cur, hv, hb, hg, hnc, hcm, hcs, ht⟩
  · simp only [Value.slice.injEq] at h1
    obtain ⟨rfl, _, rfl⟩ := h1
    obtain rfl : n = 0 := by omega
    exact .inl ⟨rfl, rfl⟩
  · simp only [Value.slice.injEq, true_and] at hv
    obtain ⟨rfl, rfl⟩ := hv
    refine .inr ⟨g, c, cur, rfl, hb, hg, by omega, hcm, hcs, ?_⟩
    have : cur.toList.take (n * 1) = (cur.toList.take (l.length * 1)).take (n * 1) := by rw [List.take_take]; congr 1; omega
    rw [this, ht, Nat.mul_one, List.map_take]

theorem OwnN.below {B : Nat} {w w' : World} {v : Value} {l : List Int} (h : OwnN B w v l) (hb : Below w.heap.size w w') : OwnN B w' v l := by
  refine ⟨h.1, ?_⟩
  rcases h.2 with h1 | ⟨g, cap, cur, hv, hb0, hg, r⟩
  · exact .inl h1
  · exact .inr ⟨g, cap, cur, hv, hb0, by rw [hb.block g (Array.getElem?_eq_some_iff.1 hg).1]; exact hg, r⟩

theorem OwnN.mono {B B' : Nat} {w : World} {v : Value} {l : List Int} (h : OwnN B w v l) (hB : B' ≤ B) : OwnN B' w v l :=
  ⟨h.1, h.2.elim Or.inl (fun ⟨g, cap, cur, hv, hg, r⟩ => Or.inr ⟨g, cap, cur, hv, Nat.le_trans hB hg, r⟩)⟩

end Go.Proofs.YtldcjkhbiffdoabGreatDoor
