import Derived.Test.YtldcjkhbiffdoabGreatDoorM03
import Derived.Test.YtldcjkhbiffdoabGreatDoorM02

set_option linter.unusedSimpArgs false
namespace Go.Proofs.YtldcjkhbiffdoabGreatDoor

theorem Cop.symm {m : Int} {a b : Int → Int} (h : Cop m a b) : Cop m b a := by
  obtain ⟨u, v, c, h1, h2, h3, h4⟩ := h
  exact ⟨v, u, c, h2, h1, h3, h4.congr fun t => by omega⟩
theorem Cop.mul {m : Int} (hm : Dom m) {a b q : Int → Int} (ha : Po a) (hb : Po b) (h : Cop m a q) (h' : Cop m b q) (hq : Po q) : Cop m (fun t => a t * b t) q := by
  obtain ⟨u, v, c, h1, h2, h3, h4⟩ := h
  obtain ⟨u', v', c', h1', h2', h3', h4'⟩ := h'
  refine ⟨fun t => u t * u' t, fun t => u t * a t * v' t + v t * (u' t * b t + v' t * q t), c * c', h1.mul h1', ((h1.mul ha).mul h2').add (h2.mul ((h1'.mul hb).add (h2'.mul hq))), hm.mul h3 h3', ?_⟩
  refine ((h4.mul ((h1'.mul hb).add (h2'.mul hq))).add (h4'.scal c)).congr fun t => ?_
  show u t * u' t * (a t * b t) + (u t * a t * v' t + v t * (u' t * b t + v' t * q t)) * q t - c * c' = (u' t * b t + v' t * q t) * (u t * a t + v t * q t - c) + c * (u' t * b t + v' t * q t - c')
  simp only [rA, rB, rC, rD, rE, rF, rG, rH, rI, rJ, rK]
  omega
theorem Cop.pow {m : Int} (hm : Dom m) {a q : Int → Int} (ha : Po a) (h : Cop m a q) (hq : Po q) : ∀ e, Cop m (fun t => a t ^ e) q
  | 0 => ⟨fun _ => 1, fun _ => 0, 1, Po.const 1, Po.zero, hm.2, Zm.of_zero _ fun t => by simp⟩
  | e + 1 => by
    obtain ⟨u, v, c, h1, h2, h3, h4⟩ := Cop.mul hm (ha.pow e) ha (Cop.pow hm ha h hq e) h hq
    exact ⟨u, v, c, h1, h2, h3, h4.congr fun t => by show u t * a t ^ (e + 1) + v t * q t - c = u t * (a t ^ e * a t) + v t * q t - c; rw [Int.pow_succ]⟩

theorem Irr.deg {m : Int} {r : Int → Int} (h : Irr m r) : ∃ d, 0 < d ∧ Dm m d r := by
  obtain ⟨h1, h2, h3, _⟩ := h
  obtain ⟨n, h1⟩ := h1
  rcases Zm.or_dm (m := m) h1 with h4 | ⟨d, _, h4⟩
  · exact absurd h4 h2
  · refine ⟨d, ?_, h4⟩
    rcases Nat.eq_zero_or_pos d with rfl | h5
    · exact absurd h4 h3
    · exact h5

theorem Dv.deg {m : Int} (hm : Dom m) {a b : Int → Int} {d e : Nat} (ha : Dm m d a) (hb : Dm m e b) (h : Dv m a b) : ∃ c s j, ¬ m ∣ c ∧ Dm m j s ∧ d + j = e ∧ Zm m (fun t => c * b t - a t * s t) := by
  obtain ⟨c, s, h1, ⟨N, h2⟩, h3⟩ := h
  rcases Zm.or_dm (m := m) h2 with h4 | ⟨j, _, h4⟩
  · exact absurd ((h3.add (h4.mul ha.po)).congr (g := fun t => c * b t) fun t => by omega) (hb.scal hm h1).not
  · exact ⟨c, s, j, h1, h4, ((ha.mul hm h4).alike (g := fun t => c * b t) h3).uniq (hb.scal hm h1), h3⟩

theorem mult {m : Int} (hm : Dom m) {r : Int → Int} (hr : Irr m r) : ∀ (n : Nat) {f : Int → Int}, Dm m n f → ∃ (e : Nat) (k : Int) (s : Int → Int), ¬ m ∣ k ∧ Po s ∧ ¬ Dv m r s ∧ Zm m (fun t => k * f t - r t ^ e * s t) := by
  obtain ⟨d, hd, hrd⟩ := hr.deg
  intro n
  induction n using Nat.strongRecOn with
  | ind n ih =>
    intro f hf
    by_cases h : Dv m r f
    · obtain ⟨c, s, j, h1, h2, h3, h4⟩ := h.deg hm hrd hf
      obtain ⟨e, k, s', g1, g2, g3, g4⟩ := ih j (by omega) h2
      refine ⟨e + 1, c * k, s', hm.mul h1 g1, g2, g3, ((h4.scal k).add (g4.mul hr.1)).congr fun t => ?_⟩
      show c * k * f t - r t ^ (e + 1) * s' t = k * (c * f t - r t * s t) + r t * (k * s t - r t ^ e * s' t)
      rw [Int.pow_succ]
      generalize r t ^ e = x
      simp only [rA, rB, rC, rD, rE, rF, rG, rH, rI, rJ, rK]
      omega
    · exact ⟨0, 1, f, hm.2, hf.po, h, Zm.of_zero _ fun t => by simp⟩

theorem prime_dv {m : Int} (hm : Dom m) : ∀ (n : Nat) {f : Int → Int}, Dm m n f → 0 < n → ∃ r, Irr m r ∧ Dv m r f := by
  intro n
  induction n using Nat.strongRecOn with
  | ind n ih =>
    intro f hf hn
    by_cases h : Irr m f
    · exact ⟨f, h, Dv.refl hm f⟩
    · have h1 : ∃ (a b : Int → Int) (c : Int), Po a ∧ Po b ∧ ¬ m ∣ c ∧ Zm m (fun t => c * f t - a t * b t) ∧ ¬ Dm m 0 a ∧ ¬ Dm m 0 b := by
        refine Classical.byContradiction fun hn' => h ⟨hf.po, hf.not, fun h0 => ?_, fun a b c h1 h2 h3 h4 => ?_⟩
        · have := hf.uniq h0; omega
        · refine Classical.byContradiction fun h5 => hn' ⟨a, b, c, h1, h2, h3, h4, fun h => h5 (Or.inl h), fun h => h5 (Or.inr h)⟩
      obtain ⟨a, b, c, ⟨N, h2⟩, ⟨M, h3⟩, h4, h5, h6, h7⟩ := h1
      have hcf := hf.scal hm h4
      rcases Zm.or_dm (m := m) h2 with h8 | ⟨i, _, h8⟩
      · exact absurd ((h5.add (h8.mul h3.po)).congr (g := fun t => c * f t) fun t => by rw [Int.mul_comm (b t)]; omega) hcf.not
      · rcases Zm.or_dm (m := m) h3 with h9 | ⟨j, _, h9⟩
        · exact absurd ((h5.add (h9.mul h2.po)).congr (g := fun t => c * f t) fun t => by omega) hcf.not
        · have h10 := ((h8.mul hm h9).alike (g := fun t => c * f t) h5).uniq hcf
          have hi : i ≠ 0 := fun h => h6 (by rw [← h]; exact h8)
          have hj : j ≠ 0 := fun h => h7 (by rw [← h]; exact h9)
          obtain ⟨r, h11, h12⟩ := ih i (by omega) h8 (by omega)
          refine ⟨r, h11, Dv.unscal hm h4 ((h12.mul h3.po).alike (h5.congr fun t => ?_))⟩
          rw [Int.mul_comm (b t)]

theorem cop_of {m : Int} (hm : Dom m) {a b : Int → Int} (ha : Po a) (hb : Po b) (hn : ¬ Zm m a) (h : ∀ r, Irr m r → Dv m r a → Dv m r b → False) : Cop m a b := by
  obtain ⟨n, hb'⟩ := hb
  obtain ⟨u, v, d, c, a', b', g1, g2, ⟨N, g3⟩, g4, g5, g6, g7, g8, g9, g10⟩ := bezout hm n ha hb' (fun h => hn h.1)
  rcases Zm.or_dm (m := m) g3 with h1 | ⟨e, _, h1⟩
  · exact absurd h1 g6
  · rcases Nat.eq_zero_or_pos e with rfl | h2
    · obtain ⟨k, h3, h4⟩ := h1.zero
      exact ⟨u, v, k, g1, g2, h3, (g8.add h4).congr fun t => by omega⟩
    · obtain ⟨r, h3, h4⟩ := prime_dv hm e h1 h2
      exact (h r h3 (h4.trans hm ⟨c, a', g7, g4, g9⟩) (h4.trans hm ⟨c, b', g7, g5, g10⟩)).elim


theorem Zm.eq0 {f : Int → Int} (h : Zm 0 f) (t : Int) : f t = 0 := by
  obtain ⟨g, _, h2⟩ := h
  rw [h2]; simp

theorem not_dvd_zero {c : Int} : ¬ (0 : Int) ∣ c ↔ c ≠ 0 := ⟨fun h e => h (by rw [e]; exact Int.dvd_refl _), fun h e => h (Int.zero_dvd.1 e)⟩

theorem Irr.slope {r r' : Int → Int} (hr : Irr 0 r) (hd : Dr r r') : ¬ Dv 0 r r' := by
  obtain ⟨d, h1, h2⟩ := hr.deg
  obtain ⟨c, h3, h4⟩ := dm0_ld h2
  obtain ⟨l, g1, g2, g3⟩ := h4.list
  have hd2 := (Dr.ev l).congr g3 fun _ => rfl
  have h5 : Ld (d - 1) (d * c) r' := by
    have h6 : (tz (der l)).length ≤ d := tz_len_le fun k hk => by rw [der_getD, getD_out (by omega)]; simp
    have h7 := Ld.of_list (l := tz (der l)) (n := d - 1) (by omega)
    rw [tz_getD, der_getD, show d - 1 + 1 = d by omega, g2, show ((d - 1 : Nat) : Int) + 1 = d by omega] at h7
    exact h7.congr fun t => by rw [hd.uniq hd2 t, ev_tz]
  intro h
  have h8 : Dm 0 (d - 1) r' := ld_dm0 h5 (Int.mul_ne_zero (by omega) h3)
  obtain ⟨_, _, j, _, _, h9, _⟩ := h.deg Dom.zero h2 h8
  omega

theorem Dr.pow {f f' : Int → Int} (h : Dr f f') : ∀ e : Nat, Dr (fun t => f t ^ e) (fun t => e * (f t ^ (e - 1) * f' t))
  | 0 => (Dr.const 1).congr (fun t => by simp) (fun t => by simp)
  | e + 1 => ((Dr.pow h e).mul h).congr (fun t => by rw [Int.pow_succ]) (fun t => by
      rw [Nat.add_sub_cancel, show ((e + 1 : Nat) : Int) = e + 1 by omega, Int.add_mul, Int.one_mul]
      congr 1
      cases e with
      | zero => simp
      | succ e =>
        rw [Nat.add_sub_cancel, Int.pow_succ]
        generalize f t ^ e = x
        simp only [rA, rB, rC, rD, rE, rF, rG, rH, rI, rJ, rK])

theorem Irr.powers {r f f' : Int → Int} (hr : Irr 0 r) (hf : Dr f f') {e : Nat} {k : Int} {s : Int → Int} (hk : k ≠ 0) (hs : Po s) (he : ∀ t, k * f t = r t ^ e * s t) :
    (0 < e → Dv 0 (fun t => r t ^ (e - 1)) f') ∧ (0 < e → ¬ Dv 0 r s → ¬ Dv 0 (fun t => r t ^ e) f') := by
  obtain ⟨r', hr'⟩ := hr.1.dr
  obtain ⟨s', hs'⟩ := hs.dr
  have h1 : ∀ t, k * f' t = e * (r t ^ (e - 1) * r' t) * s t + r t ^ e * s' t := by
    intro t
    have h2 := ((Dr.const k).mul hf).uniq (((hr'.pow e).mul hs').congr he fun _ => rfl) t
    simpa using h2
  refine ⟨fun h0 => ?_, fun h0 hns hdv => ?_⟩
  · refine ⟨k, fun t => e * r' t * s t + r t * s' t, not_dvd_zero.2 hk, ((hr'.2.1.scal e).mul hs).add (hr.1.mul hs'.2.1), Zm.of_zero _ fun t => ?_⟩
    obtain ⟨j, rfl⟩ : ∃ j, e = j + 1 := ⟨e - 1, by omega⟩
    show k * f' t - r t ^ (j + 1 - 1) * (((j + 1 : Nat) : Int) * r' t * s t + r t * s' t) = 0
    rw [h1, Nat.add_sub_cancel, Int.pow_succ]
    generalize r t ^ j = x
    generalize ((j + 1 : Nat) : Int) = y
    simp only [rA, rB, rC, rD, rE, rF, rG, rH, rI, rJ, rK]
    omega
  · obtain ⟨k2, w, h2, h3, h4⟩ := hdv
    obtain ⟨j, rfl⟩ : ∃ j, e = j + 1 := ⟨e - 1, by omega⟩
    have h5 : Zm 0 (fun t => r t ^ j * (k2 * ((j + 1 : Nat) : Int) * (r' t * s t) - r t * (k * w t - k2 * s' t))) := by
      refine Zm.of_zero _ fun t => ?_
      have h6 : k2 * f' t - r t ^ (j + 1) * w t = 0 := h4.eq0 t
      have h7 := h1 t
      rw [Nat.add_sub_cancel, Int.pow_succ] at h7
      rw [Int.pow_succ] at h6
      have h8 := congrArg (fun z => k2 * z) h7
      have h9 := congrArg (fun z => k * z) h6
      revert h8 h9
      generalize r t ^ j = x
      generalize ((j + 1 : Nat) : Int) = y
      simp only [rA, rB, rC, rD, rE, rF, rG, rH, rI, rJ, rK]
      omega
    have hpo : Po (fun t => k2 * ((j + 1 : Nat) : Int) * (r' t * s t) - r t * (k * w t - k2 * s' t)) := ((hr'.2.1.mul hs).scal _).sub (hr.1.mul ((h3.scal k).sub (hs'.2.1.scal k2)))
    rcases Zm.or Dom.zero (hr.1.pow j) hpo h5 with h6 | h6
    · have : ∀ j, ¬ Zm 0 (fun t => r t ^ j) := by
        intro j
        induction j with
        | zero => intro h; have := h.eq0 0; simp at this
        | succ j ih =>
          intro h
          rcases Zm.or Dom.zero (hr.1.pow j) hr.1 (h.congr fun t => by rw [Int.pow_succ]) with h | h
          · exact ih h
          · exact hr.2.1 h
      exact this j h6
    · have h7 : Dv 0 r (fun t => r' t * s t) := ⟨k2 * ((j + 1 : Nat) : Int), fun t => k * w t - k2 * s' t, Dom.zero.mul h2 (not_dvd_zero.2 (by omega)), (h3.scal k).sub (hs'.2.1.scal k2), h6⟩
      rcases hr.prime Dom.zero hr'.2.1 hs h7 with h8 | h8
      · exact hr.slope hr' h8
      · exact hns h8

theorem Dv.pow_le {m : Int} (hm : Dom m) {r : Int → Int} (hr : Po r) {f : Int → Int} {i j : Nat} (h : i ≤ j) (hd : Dv m (fun t => r t ^ j) f) : Dv m (fun t => r t ^ i) f := by
  refine Dv.trans hm (Dv.of_eq m hm (hr.pow (j - i)) fun t => ?_) hd
  rw [← Int.pow_add, show i + (j - i) = j by omega]

theorem sq_free {f f' G q : Int → Int} {n : Nat} (hf : Dr f f') (hd : Dm 0 n f) (hG : Po G) (hq : Po q) (hgcd : ∀ r, Po r → (Dv 0 r f ∧ Dv 0 r f' ↔ Dv 0 r G)) (e : ∀ t, f t = G t * q t) :
    (∀ r, Irr 0 r → Dv 0 r f → Dv 0 r q) ∧ ∀ q', Dr q q' → ∀ r, Irr 0 r → Dv 0 r q → Dv 0 r q' → False := by
  have hz := Dom.zero
  refine ⟨fun r hr hrf => ?_, fun q' hq' r hr hrq hrq' => ?_⟩
  · rcases hr.cop_or hz hq with h1 | h1
    · exfalso
      obtain ⟨d, k, s, h2, h3, h4, h5⟩ := mult hz hr n hd
      have h6 : ∀ t, k * f t = r t ^ d * s t := fun t => by have h7 : k * f t - r t ^ d * s t = 0 := h5.eq0 t; omega
      have hd0 : 0 < d := by
        rcases Nat.eq_zero_or_pos d with rfl | h
        · exfalso
          refine h4 ((hrf.mul (Po.const k)).alike (Zm.of_zero _ fun t => ?_))
          rw [h6]; simp
        · exact h
      have h7 : Dv 0 (fun t => r t ^ d) (fun t => q t * G t) := ⟨k, s, h2, h3, Zm.of_zero _ fun t => by
        show k * (q t * G t) - r t ^ d * s t = 0
        rw [Int.mul_comm (q t), ← e, h6]; omega⟩
      have h8 := (Cop.pow hz hr.1 h1 hq d).dv hz hG h7
      have h9 := ((hgcd _ (hr.1.pow d)).2 h8).2
      exact (hr.powers hf (not_dvd_zero.1 h2) h3 h6).2 hd0 h4 h9
    · exact h1
  · obtain ⟨d, k, s, h2, h3, h4, h5⟩ := mult hz hr n hd
    have h6 : ∀ t, k * f t = r t ^ d * s t := fun t => by have h7 : k * f t - r t ^ d * s t = 0 := h5.eq0 t; omega
    obtain ⟨k1, q1, g1, g2, g3⟩ := hrq
    have g4 : ∀ t, k1 * q t = r t * q1 t := fun t => by have h7 : k1 * q t - r t * q1 t = 0 := g3.eq0 t; omega
    obtain ⟨r', hr'⟩ := hr.1.dr
    obtain ⟨q1', hq1'⟩ := g2.dr
    have g5 : ∀ t, k1 * q' t = r' t * q1 t + r t * q1' t := by
      intro t
      have h7 := ((Dr.const k1).mul hq').uniq ((hr'.mul hq1').congr g4 fun _ => rfl) t
      simpa using h7
    have g6 : Dv 0 r (fun t => r' t * q1 t) := by
      refine ((hrq'.mul (Po.const k1)).add hz ((Dv.refl hz r).mul hq1'.2.1.neg)).alike (Zm.of_zero _ fun t => ?_)
      rw [g5, Int.neg_mul, Int.mul_comm (q1' t)]; omega
    have g7 : Dv 0 r q1 := (hr.prime hz hr'.2.1 g2 g6).resolve_left (hr.slope hr')
    obtain ⟨k3, q3, g8, g9, g10⟩ := g7
    have hd0 : 0 < d := by
      rcases Nat.eq_zero_or_pos d with rfl | h
      · exfalso
        refine h4 ?_
        have : Dv 0 r f := (Dv.mul hG ⟨k1, q1, g1, g2, g3⟩).alike (Zm.of_zero _ fun t => by rw [e]; omega)
        refine (this.mul (Po.const k)).alike (Zm.of_zero _ fun t => ?_)
        rw [h6]; simp
      · exact h
    have g11 : Dv 0 (fun t => r t ^ (d - 1)) G := by
      refine (hgcd _ (hr.1.pow _)).1 ⟨Dv.pow_le hz hr.1 (show d - 1 ≤ d by omega) ⟨k, s, h2, h3, h5⟩, (hr.powers hf (not_dvd_zero.1 h2) h3 h6).1 hd0⟩
    obtain ⟨k4, w, g12, g13, g14⟩ := g11
    -- r^(d+1) divides f
    obtain ⟨j, rfl⟩ : ∃ j, d = j + 1 := ⟨d - 1, by omega⟩
    have g15 : Zm 0 (fun t => r t ^ (j + 1) * (k4 * k3 * k1 * s t - k * (r t * (w t * q3 t)))) := by
      refine Zm.of_zero _ fun t => ?_
      have e1 := h6 t
      have e2 : k4 * G t - r t ^ (j + 1 - 1) * w t = 0 := g14.eq0 t
      have e3 : k3 * q1 t - r t * q3 t = 0 := g10.eq0 t
      have e4 := g4 t
      rw [Nat.add_sub_cancel] at e2
      rw [e] at e1
      rw [Int.pow_succ] at e1 ⊢
      have f1 := congrArg (fun z => k4 * k3 * k1 * z) e1
      have f2 : k4 * G t * (k3 * (k1 * q t)) = r t ^ j * w t * (r t * (r t * q3 t)) := by
        rw [e4, show k4 * G t = r t ^ j * w t by omega, Int.mul_left_comm k3, show k3 * q1 t = r t * q3 t by omega]
      have f3 := congrArg (fun z => k * z) f2
      revert f1 f3
      generalize r t ^ j = x
      simp only [rA, rB, rC, rD, rE, rF, rG, rH, rI, rJ, rK]
      omega
    have hne : ∀ j, ¬ Zm 0 (fun t => r t ^ j) := by
      intro j
      induction j with
      | zero => intro h; have := h.eq0 0; simp at this
      | succ j ih =>
        intro h
        rcases Zm.or hz (hr.1.pow j) hr.1 (h.congr fun t => by rw [Int.pow_succ]) with h | h
        · exact ih h
        · exact hr.2.1 h
    have hpo : Po (fun t => k4 * k3 * k1 * s t - k * (r t * (w t * q3 t))) := (h3.scal _).sub ((hr.1.mul (g13.mul g9)).scal k)
    have g16 := (Zm.or hz (hr.1.pow _) hpo g15).resolve_left (hne _)
    exact h4 ⟨k4 * k3 * k1, fun t => k * (w t * q3 t), hz.mul (hz.mul g12 g8) g1, (g13.mul g9).scal k, g16.congr fun t => by rw [Int.mul_left_comm (r t)]⟩

end Go.Proofs.YtldcjkhbiffdoabGreatDoor

set_option linter.unusedSimpArgs false
namespace Go.Proofs.YtldcjkhbiffdoabGreatDoor

def fac : Nat → Int
  | 0 => 1
  | n + 1 => (n + 1) * fac n
theorem fac_pos : ∀ n, 0 < fac n
  | 0 => by decide
  | n + 1 => Int.mul_pos (by omega) (fac_pos n)

def sm (F : Nat → Int) : Nat → Int
  | 0 => 0
  | n + 1 => sm F n + F n

theorem sm_add (F G : Nat → Int) : ∀ n, sm (fun k => F k + G k) n = sm F n + sm G n
  | 0 => rfl
  | n + 1 => by simp only [sm, sm_add F G n]; omega
theorem sm_scal (c : Int) (F : Nat → Int) : ∀ n, sm (fun k => c * F k) n = c * sm F n
  | 0 => by simp [sm]
  | n + 1 => by simp only [sm, sm_scal c F n, Int.mul_add]
theorem sm_congr {F G : Nat → Int} : ∀ n, (∀ k, k < n → F k = G k) → sm F n = sm G n
  | 0, _ => rfl
  | n + 1, h => by simp only [sm, sm_congr n fun k hk => h k (by omega), h n (by omega)]
theorem sm_zero : ∀ n, sm (fun _ => 0) n = 0
  | 0 => rfl
  | n + 1 => by simp only [sm, sm_zero n]; omega
theorem sm_le {F G : Nat → Int} : ∀ n, (∀ k, k < n → F k ≤ G k) → sm F n ≤ sm G n
  | 0, _ => Int.le_refl _
  | n + 1, h => by
    have h1 := sm_le n fun k hk => h k (by omega)
    have h2 := h n (by omega)
    simp only [sm]; omega
theorem sm_nonneg {F : Nat → Int} (n : Nat) (h : ∀ k, k < n → 0 ≤ F k) : 0 ≤ sm F n := by
  have := sm_le n h
  rwa [sm_zero] at this
theorem sm_one {F : Nat → Int} : ∀ {n j : Nat}, j < n → (∀ k, k < n → 0 ≤ F k) → F j ≤ sm F n
  | 0, j, h, _ => by omega
  | n + 1, j, h, hF => by
    simp only [sm]
    have h1 := sm_nonneg n fun k hk => hF k (by omega)
    have h2 := hF n (by omega)
    rcases (show j = n ∨ j < n by omega) with rfl | h3
    · omega
    · have := sm_one h3 fun k hk => hF k (by omega)
      omega
theorem sm_first (F : Nat → Int) : ∀ n, sm F (n + 1) = F 0 + sm (fun k => F (k + 1)) n
  | 0 => by simp [sm]
  | n + 1 => by
    have := sm_first F n
    simp only [sm] at this ⊢
    omega

def fp (N : Nat) (u v : Nat → Int) : Int := sm (fun k => fac k * (u k * v k)) N

theorem fp_comm (N : Nat) (u v : Nat → Int) : fp N u v = fp N v u := sm_congr N fun k _ => by rw [Int.mul_comm (u k)]
theorem fp_add (N : Nat) (u v w : Nat → Int) : fp N (fun k => u k + v k) w = fp N u w + fp N v w := by
  unfold fp
  rw [← sm_add]
  exact sm_congr N fun k _ => by rw [Int.add_mul, Int.mul_add]
theorem fp_scal (N : Nat) (c : Int) (u w : Nat → Int) : fp N (fun k => c * u k) w = c * fp N u w := by
  unfold fp
  rw [← sm_scal]
  exact sm_congr N fun k _ => by rw [Int.mul_assoc, Int.mul_left_comm]
theorem fp_add' (N : Nat) (u v w : Nat → Int) : fp N w (fun k => u k + v k) = fp N w u + fp N w v := by
  rw [fp_comm, fp_add, fp_comm N u, fp_comm N v]
theorem fp_scal' (N : Nat) (c : Int) (u w : Nat → Int) : fp N w (fun k => c * u k) = c * fp N w u := by
  rw [fp_comm, fp_scal, fp_comm]
theorem fp_zero' (N : Nat) (w : Nat → Int) : fp N w (fun _ => 0) = 0 := by
  unfold fp
  rw [sm_congr N (G := fun _ => 0) fun k _ => by simp, sm_zero]
theorem sq_nonneg (a : Int) : 0 ≤ a * a := by
  rcases Int.le_total 0 a with h | h
  · exact Int.mul_nonneg h h
  · exact Int.mul_nonneg_of_nonpos_of_nonpos h h
theorem fp_nonneg (N : Nat) (u : Nat → Int) : 0 ≤ fp N u u :=
  sm_nonneg N fun k _ => Int.mul_nonneg (Int.le_of_lt (fac_pos k)) (sq_nonneg _)

def cX (u : Nat → Int) : Nat → Int := fun k => if k = 0 then 0 else u (k - 1)
def cD (u : Nat → Int) : Nat → Int := fun k => (k + 1) * u (k + 1)

def Sp (n : Nat) (u : Nat → Int) : Prop := ∀ k, n ≤ k → u k = 0

theorem Sp.mono {n m : Nat} {u : Nat → Int} (h : Sp n u) (hm : n ≤ m) : Sp m u := fun k hk => h k (by omega)
theorem Sp.cD {n : Nat} {u : Nat → Int} (h : Sp n u) : Sp n (cD u) := fun k hk => by show (_ : Int) * u (k + 1) = 0; rw [h (k + 1) (by omega)]; simp
theorem Sp.cX {n : Nat} {u : Nat → Int} (h : Sp n u) : Sp (n + 1) (cX u) := fun k hk => by
  show (if k = 0 then 0 else u (k - 1)) = 0
  rw [if_neg (by omega), h (k - 1) (by omega)]

theorem cD_cX (u : Nat → Int) (k : Nat) : cD (cX u) k = cX (cD u) k + u k := by
  show ((k : Int) + 1) * (if k + 1 = 0 then 0 else u (k + 1 - 1)) = (if k = 0 then 0 else (((k - 1 : Nat) : Int) + 1) * u (k - 1 + 1)) + u k
  rw [if_neg (by omega), Nat.add_sub_cancel]
  cases k with
  | zero => simp
  | succ k =>
    rw [if_neg (by omega), Nat.add_sub_cancel, Int.add_mul, Int.one_mul]
    congr 1

theorem cD_add (u v : Nat → Int) (k : Nat) : cD (fun k => u k + v k) k = cD u k + cD v k := Int.mul_add ..
theorem cD_scal (c : Int) (u : Nat → Int) (k : Nat) : cD (fun k => c * u k) k = c * cD u k := by
  show (_ : Int) * (c * u (k + 1)) = c * (_ * u (k + 1))
  rw [Int.mul_left_comm]
theorem cX_add (u v : Nat → Int) (k : Nat) : cX (fun k => u k + v k) k = cX u k + cX v k := by
  show (if k = 0 then 0 else u (k - 1) + v (k - 1)) = (if k = 0 then 0 else u (k - 1)) + (if k = 0 then 0 else v (k - 1))
  split <;> simp
theorem fp_adj {N : Nat} (u : Nat → Int) {v : Nat → Int} (hv : Sp N v) : fp N (cX u) v = fp N u (cD v) := by
  cases N with
  | zero => rfl
  | succ n =>
    unfold fp
    rw [sm_first]
    show fac 0 * ((if (0 : Nat) = 0 then 0 else u (0 - 1)) * v 0) + sm (fun k => fac (k + 1) * ((if k + 1 = 0 then 0 else u (k + 1 - 1)) * v (k + 1))) n = sm (fun k => fac k * (u k * cD v k)) n + fac n * (u n * ((n + 1) * v (n + 1)))
    rw [hv (n + 1) (Nat.le_refl _)]
    simp only [if_true, Int.zero_mul, Int.mul_zero, Int.zero_add, Int.add_zero]
    refine sm_congr n fun k _ => ?_
    rw [if_neg (by omega), Nat.add_sub_cancel]
    show ((k : Int) + 1) * fac k * (u k * v (k + 1)) = fac k * (u k * (((k : Int) + 1) * v (k + 1)))
    generalize ((k : Int) + 1) = q
    simp only [rA, rB, rC, rD, rE, rF, rG, rH, rI, rJ, rK]

def mS : List Int → Nat → (Nat → Int) → Nat → Int
  | [], _, _ => fun _ => 0
  | a :: h, s, v => fun k => (if s = 0 then a else 0) * v k + (cX (mS h s v) k + s * mS h (s - 1) v k)
def aD : List Int → Nat → (Nat → Int) → Nat → Int
  | [], _, _ => fun _ => 0
  | a :: h, s, v => fun k => (if s = 0 then a else 0) * v k + (aD h s (cD v) k + s * aD h (s - 1) v k)

theorem Sp.mS : ∀ (h : List Int) (s : Nat) {n : Nat} {v : Nat → Int}, Sp n v → Sp (n + h.length) (mS h s v)
  | [], s, n, v, _ => fun k _ => rfl
  | a :: h, s, n, v, hv => fun k hk => by
    have h1 := (Sp.mS h s hv).cX k (by simp at hk; omega)
    have h2 := Sp.mS h (s - 1) hv k (by simp at hk; omega)
    simp only [Go.Proofs.YtldcjkhbiffdoabGreatDoor.mS]
    rw [hv k (by simp at hk; omega), h1, h2]; simp

theorem Sp.mS1 : ∀ (h : List Int) (s : Nat) {n : Nat} {v : Nat → Int}, Sp n v → 0 < n → Sp (n + h.length - 1) (Go.Proofs.YtldcjkhbiffdoabGreatDoor.mS h s v)
  | [], s, n, v, _, _ => fun k _ => rfl
  | a :: h, s, n, v, hv, hn => fun k hk => by
    have h1 := (Sp.mS1 h s hv hn).cX k (by simp at hk; omega)
    have h2 := Sp.mS1 h (s - 1) hv hn k (by simp at hk; omega)
    simp only [Go.Proofs.YtldcjkhbiffdoabGreatDoor.mS]
    rw [hv k (by simp at hk; omega), h1, h2]; simp

theorem cD_mS : ∀ (h : List Int) (s : Nat) (v : Nat → Int) (k : Nat), cD (mS h s v) k = mS h s (cD v) k + mS h (s + 1) v k
  | [], s, v, k => by show (_ : Int) * 0 = 0 + 0; simp
  | a :: h, s, v, k => by
    show cD (fun k => (if s = 0 then a else 0) * v k + (cX (mS h s v) k + s * mS h (s - 1) v k)) k = _
    rw [cD_add, cD_add, cD_scal, cD_scal, cD_cX]
    have e1 : cX (cD (mS h s v)) k = cX (fun k => mS h s (cD v) k + mS h (s + 1) v k) k := by
      congr 1; exact funext fun j => cD_mS h s v j
    rw [e1, cX_add]
    simp only [mS]
    rw [if_neg (show ¬ s + 1 = 0 by omega), Nat.add_sub_cancel]
    cases s with
    | zero => simp; omega
    | succ s =>
      rw [cD_mS h (s + 1 - 1) v k, show s + 1 - 1 + 1 = s + 1 by omega, Int.mul_add]
      rw [if_neg (by omega), show ((s + 1 + 1 : Nat) : Int) = ((s + 1 : Nat) : Int) + 1 by omega, Int.add_mul]
      omega

theorem fp_mS {N : Nat} : ∀ (h : List Int) (s : Nat) (u : Nat → Int) {v : Nat → Int}, Sp N v → fp N (mS h s u) v = fp N u (aD h s v)
  | [], s, u, v, _ => by
    show fp N (fun _ => 0) v = fp N u (fun _ => 0)
    rw [fp_comm, fp_zero', fp_zero']
  | a :: h, s, u, v, hv => by
    simp only [mS, aD]
    rw [fp_add, fp_add, fp_scal, fp_scal, fp_adj _ hv, fp_mS h s u hv.cD, fp_mS h (s - 1) u hv, fp_add', fp_add', fp_scal', fp_scal']

theorem fp_key {N : Nat} {W : Nat → Int} (h2 : List Int) (u : Nat → Int) (hu : Sp N u) : ∀ (h1 : List Int) (n s0 : Nat) {v : Nat → Int}, h1.length ≤ n → (∀ s, 0 < s → s < n → W s * s = W (s - 1)) → (∃ m, Sp m v ∧ m + h2.length ≤ N) →
    W 0 * fp N (mS h1 0 u) (mS h2 s0 v) = sm (fun s => W s * fp N (aD h2 (s0 + s) u) (aD h1 s v)) n
  | [], n, s0, v, _, _, _ => by
    have : ∀ w, fp N (mS [] 0 u) w = 0 := fun w => by rw [fp_comm]; exact fp_zero' N w
    rw [this, Int.mul_zero]
    refine ((sm_congr n fun s _ => ?_).trans (sm_zero n)).symm
    show W s * fp N _ (fun _ => 0) = 0
    rw [fp_zero']; simp
  | a :: k, n, s0, v, hn, hW, ⟨m, hv, hm⟩ => by
    obtain ⟨n, rfl⟩ : ∃ n', n = n' + 1 := ⟨n - 1, by simp at hn; omega⟩
    have hk : k.length ≤ n := by simpa using hn
    have hS : Sp N (mS h2 s0 v) := (Sp.mS h2 s0 hv).mono hm
    have l1 : mS (a :: k) 0 u = fun j => a * u j + cX (mS k 0 u) j := funext fun j => by simp [mS]
    have l2 : cD (mS h2 s0 v) = fun j => mS h2 s0 (cD v) j + mS h2 (s0 + 1) v j := funext fun j => cD_mS h2 s0 v j
    have l3 : fp N u (mS h2 s0 v) = fp N (aD h2 s0 u) v := by
      rw [fp_comm, fp_mS h2 s0 v hu, fp_comm]
    rw [l1, fp_add, fp_scal, fp_adj _ hS, l2, fp_add', l3, Int.mul_add, Int.mul_add]
    rw [fp_key h2 u hu k (n + 1) s0 (v := cD v) (by omega) hW ⟨m, hv.cD, hm⟩]
    rw [fp_key h2 u hu k n (s0 + 1) (v := v) hk (fun s h1 h2 => hW s h1 (by omega)) ⟨m, hv, hm⟩]
    have r1 : sm (fun s => W s * fp N (aD h2 (s0 + s) u) (aD (a :: k) s v)) (n + 1) =
        sm (fun s => (if s = 0 then W 0 * (a * fp N (aD h2 s0 u) v) else 0) + (W s * fp N (aD h2 (s0 + s) u) (aD k s (cD v)) + W s * s * fp N (aD h2 (s0 + s) u) (aD k (s - 1) v))) (n + 1) := by
      refine sm_congr _ fun s _ => ?_
      simp only [aD]
      rw [fp_add', fp_add', fp_scal', fp_scal', Int.mul_add, Int.mul_add, ← Int.mul_assoc (W s) (s : Int)]
      congr 1
      by_cases hs : s = 0
      · subst hs; simp
      · rw [if_neg hs, if_neg hs]; simp
    rw [r1, sm_add, sm_add]
    have r2 : sm (fun s => if s = 0 then W 0 * (a * fp N (aD h2 s0 u) v) else 0) (n + 1) = W 0 * (a * fp N (aD h2 s0 u) v) := by
      rw [sm_first, if_pos rfl, sm_congr n (G := fun _ => 0) fun s _ => by simp, sm_zero]; simp
    have r3 : sm (fun s => W s * (s : Int) * fp N (aD h2 (s0 + s) u) (aD k (s - 1) v)) (n + 1) = sm (fun s => W s * fp N (aD h2 (s0 + 1 + s) u) (aD k s v)) n := by
      rw [sm_first]
      simp only [Int.ofNat_zero, Int.mul_zero, Int.zero_mul, Int.zero_add, Int.natCast_zero]
      refine sm_congr n fun s hs => ?_
      rw [hW (s + 1) (by omega) (by omega), Nat.add_sub_cancel, show s0 + (s + 1) = s0 + 1 + s by omega]
    rw [r2, r3]
    try omega

theorem aD_short : ∀ (h : List Int) (s : Nat) (v : Nat → Int) (k : Nat), h.length ≤ s → aD h s v k = 0
  | [], s, v, k, _ => rfl
  | a :: h, s, v, k, hs => by
    simp only [List.length_cons] at hs
    simp only [aD]
    rw [if_neg (by omega), aD_short h s _ k (by omega), aD_short h (s - 1) v k (by omega)]; simp
theorem aD_top : ∀ (h : List Int) (s : Nat) (v : Nat → Int) (k : Nat), h.length = s + 1 → aD h s v k = fac s * (h.getD s 0 * v k)
  | [], s, v, k, h => by simp at h
  | a :: h, s, v, k, hs => by
    simp only [List.length_cons] at hs
    simp only [aD]
    rw [aD_short h s _ k (by omega)]
    cases s with
    | zero => simp [fac]
    | succ s =>
      rw [if_neg (by omega), Nat.add_sub_cancel, aD_top h s v k (by omega)]
      simp only [fac, List.getD_cons_succ, Int.zero_mul, Int.zero_add]
      rw [show ((s + 1 : Nat) : Int) = (s : Int) + 1 by omega, Int.mul_assoc]

def fall (d : Nat) : Nat → Int
  | 0 => 1
  | j + 1 => fall d j * ((d : Int) - j)

theorem fischer (h : List Int) (d : Nat) (hd : h.length = d + 1) (N m : Nat) (u : Nat → Int) (hu : Sp m u) (hN : m + (d + 1) ≤ N) : fac d * (h.getD d 0 * h.getD d 0) * fp N u u ≤ fp N (mS h 0 u) (mS h 0 u) := by
  have hW : ∀ s, 0 < s → s < d + 1 → fall d (d - s) * (s : Int) = fall d (d - (s - 1)) := by
    intro s h1 h2
    rw [show d - (s - 1) = (d - s) + 1 by omega]
    show _ = fall d (d - s) * ((d : Int) - ((d - s : Nat) : Int))
    congr 1; omega
  have hnn : ∀ j, j ≤ d → 0 ≤ fall d j := by
    intro j
    induction j with
    | zero => intro _; show (0 : Int) ≤ 1; decide
    | succ j ih => intro hj; exact Int.mul_nonneg (ih (by omega)) (by omega)
  have key := fp_key (W := fun s => fall d (d - s)) h u (hu.mono (show m ≤ N by omega)) h (d + 1) 0 (v := u) (by omega) hW ⟨m, hu, by omega⟩
  have h1 : ∀ s, s < d + 1 → 0 ≤ fall d (d - s) * fp N (aD h (0 + s) u) (aD h s u) := fun s _ => by
    rw [Nat.zero_add]; exact Int.mul_nonneg (hnn _ (by omega)) (fp_nonneg N _)
  have h2 := sm_one (j := d) (by omega) h1
  rw [← key] at h2
  have h3 : aD h d u = fun k => fac d * (h.getD d 0 * u k) := funext fun k => aD_top h d u k hd
  have h4 : fall d (d - 0) = fac d := by
    have : ∀ j, j ≤ d → fall d j * fac (d - j) = fac d := by
      intro j
      induction j with
      | zero => intro _; simp [fall]
      | succ j ih =>
        intro hj
        rw [← ih (by omega), show d - j = (d - (j + 1)) + 1 by omega]
        simp only [fall, fac]
        rw [Int.mul_assoc]
        congr 2; omega
    have h5 := this d (Nat.le_refl _)
    rw [Nat.sub_self] at h5
    rw [Nat.sub_zero, ← h5]; simp [fac]
  simp only [Nat.zero_add, Nat.sub_self] at h2
  rw [h3, fp_scal, fp_scal, fp_scal', fp_scal', h4] at h2
  have h6 : fall d 0 * (fac d * (h.getD d 0 * (fac d * (h.getD d 0 * fp N u u)))) = fac d * (fac d * (h.getD d 0 * h.getD d 0) * fp N u u) := by
    show 1 * _ = _
    simp only [rA, rB, rC, rD, rE, rF, rG, rH, rI, rJ, rK]
  rw [h6] at h2
  exact Int.le_of_mul_le_mul_left h2 (fac_pos d)

def lmul : List Int → List Int → List Int
  | [], _ => []
  | a :: h, m => ladd (m.map fun x => a * x) (0 :: lmul h m)
theorem ev_lmul (t : Int) : ∀ h m, ev t (lmul h m) = ev t h * ev t m
  | [], m => by simp [lmul, ev]
  | a :: h, m => by
    simp only [lmul, ev_ladd, ev_scal, ev, ev_lmul t h m, Int.add_mul, Int.zero_add, Int.mul_assoc]
theorem lmul_getD : ∀ (h m : List Int) (k : Nat), (lmul h m).getD k 0 = mS h 0 (fun j => m.getD j 0) k
  | [], m, k => by simp [lmul, mS]
  | a :: h, m, k => by
    simp only [lmul, ladd_getD, scal_getD, mS, if_true, Int.natCast_zero, Int.zero_mul, Int.add_zero]
    congr 1
    show _ = if k = 0 then 0 else mS h 0 (fun j => m.getD j 0) (k - 1)
    cases k with
    | zero => simp
    | succ k => rw [if_neg (by omega), Nat.add_sub_cancel, ← lmul_getD h m k]; simp

def nrm : List Int → Nat
  | [] => 0
  | a :: l => a.natAbs + nrm l

def sc (e : Nat) : List Int → List Int
  | [] => []
  | a :: l => (2 ^ e * a) :: sc (e - 1) l
theorem sc_getD : ∀ (e : Nat) (l : List Int) (k : Nat), (sc e l).getD k 0 = 2 ^ (e - k) * l.getD k 0
  | e, [], k => by simp [sc]
  | e, a :: l, 0 => by simp [sc]
  | e, a :: l, k + 1 => by
    simp only [sc, List.getD_cons_succ, sc_getD (e - 1) l k]
    rw [show e - 1 - k = e - (k + 1) by omega]
theorem sc_len : ∀ (e : Nat) (l : List Int), (sc e l).length = l.length
  | e, [] => rfl
  | e, a :: l => by simp [sc, sc_len (e - 1) l]

theorem mS_sc : ∀ (h : List Int) (d m : Nat) (u v : Nat → Int) (k : Nat), h.length = d + 1 → (∀ j, v j = 2 ^ (m - j) * u j) → Sp (m + 1) u → mS (sc d h) 0 v k = 2 ^ (d + m - k) * mS h 0 u k
  | [], d, m, u, v, k, hd, _, _ => by simp at hd
  | a :: h, d, m, u, v, k, hd, hv, hu => by
    simp only [sc, mS, if_true, Int.natCast_zero, Int.zero_mul, Int.add_zero]
    have h1 : 2 ^ d * a * v k = 2 ^ (d + m - k) * (a * u k) := by
      rw [hv]
      by_cases hk : k ≤ m
      · rw [show d + m - k = d + (m - k) by omega, Int.pow_add]
        generalize (2 : Int) ^ d = x
        generalize (2 : Int) ^ (m - k) = y
        simp only [rA, rB, rC, rD, rE, rF, rG, rH, rI, rJ, rK]
      · rw [hu k (by omega)]; simp
    rw [Int.mul_add, h1]
    congr 1
    show (if k = 0 then 0 else mS (sc (d - 1) h) 0 v (k - 1)) = 2 ^ (d + m - k) * (if k = 0 then 0 else mS h 0 u (k - 1))
    cases k with
    | zero => simp
    | succ k =>
      rw [if_neg (by omega), if_neg (by omega), Nat.add_sub_cancel]
      cases d with
      | zero =>
        obtain rfl : h = [] := List.length_eq_zero_iff.1 (by simpa using hd)
        simp [sc, mS]
      | succ d =>
        rw [Nat.add_sub_cancel, mS_sc h d m u v k (by simpa using hd) hv hu]
        rw [show d + 1 + m - (k + 1) = d + m - k by omega]

theorem weights : ∀ n, n < 11 → ∀ d, d < n + 1 → ∀ j, j < n - d + 1 → ∀ k, k < n + 1 → fac k * 4 ^ (n - k) ≤ 4 ^ n * (fac d * (fac j * 4 ^ (n - d - j))) := by decide +kernel

theorem sm_sq (F : Nat → Int) : ∀ n, sm (fun k => F k * F k) n ≤ sm (fun k => (F k).natAbs) n * sm (fun k => (F k).natAbs) n
  | 0 => by simp [sm]
  | n + 1 => by
    have ih := sm_sq F n
    have h0 : 0 ≤ sm (fun k => ((F k).natAbs : Int)) n := sm_nonneg n fun k _ => by omega
    simp only [sm]
    generalize sm (fun k => ((F k).natAbs : Int)) n = S at *
    have h1 : F n * F n = ((F n).natAbs : Int) * ((F n).natAbs : Int) := by
      rw [← Int.natCast_mul]; exact Int.natAbs_mul_self.symm
    have h2 := Int.mul_nonneg h0 (show (0 : Int) ≤ ((F n).natAbs : Int) by omega)
    rw [h1, Int.mul_add, Int.add_mul, Int.add_mul, Int.mul_comm ((F n).natAbs : Int) S]
    omega

theorem sm_nrm : ∀ (l : List Int) (n : Nat), sm (fun k => ((l.getD k 0).natAbs : Int)) n ≤ nrm l
  | [], n => by
    rw [sm_congr n (G := fun _ => 0) fun k _ => by simp, sm_zero]; simp [nrm]
  | a :: l, 0 => by simp [sm]
  | a :: l, n + 1 => by
    rw [sm_first]
    have := sm_nrm l n
    simp only [List.getD_cons_succ, List.getD_cons_zero, nrm]
    omega

theorem abs_le_of_sq {a b : Int} (hb : 0 ≤ b) (h : a * a ≤ b * b) : (a.natAbs : Int) ≤ b := by
  rcases (show b < (a.natAbs : Int) ∨ (a.natAbs : Int) ≤ b by omega) with h1 | h1
  · exfalso
    have h2 : b * b < (a.natAbs : Int) * (a.natAbs : Int) :=
      Int.lt_of_le_of_lt (Int.mul_le_mul_of_nonneg_left (Int.le_of_lt h1) hb) (Int.mul_lt_mul_of_pos_right h1 (by omega))
    rw [← Int.natCast_mul, Int.natAbs_mul_self] at h2
    omega
  · exact h1

theorem mignotte {f g h : List Int} {n m d : Nat} (hn : n ≤ 10) (hmd : m + d = n) (hg : g.length ≤ m + 1) (hh : h.length = d + 1) (hf : ∀ t, ev t f = ev t g * ev t h) (j : Nat) :
    ((h.getD d 0 * g.getD j 0).natAbs : Int) ≤ 2 ^ n * nrm f := by
  rcases Nat.lt_or_ge m j with hj | hj
  · rw [getD_out (show g.length ≤ j by omega)]
    simp only [Int.mul_zero, Int.natAbs_zero]
    exact Int.mul_nonneg (Int.le_of_lt (Int.pow_pos (by decide))) (by omega)
  · have hgs : Sp (m + 1) (fun k => g.getD k 0) := fun k hk => getD_out (by omega)
    have hgs' : Sp (m + 1) (fun k => (sc m g).getD k 0) := fun k hk => getD_out (by rw [sc_len]; omega)
    have hfk : ∀ k, f.getD k 0 = mS h 0 (fun k => g.getD k 0) k := by
      intro k
      rw [← lmul_getD]
      exact ev_ext 0 (fun t _ => by rw [ev_lmul, hf, Int.mul_comm]) k
    have key := fischer (sc d h) d (by rw [sc_len]; exact hh) (m + 1 + (d + 1)) (m + 1) _ hgs' (Nat.le_refl _)
    have h1 : (sc d h).getD d 0 = h.getD d 0 := by rw [sc_getD, Nat.sub_self]; simp
    rw [h1] at key
    have h2 : fac j * ((2 ^ (m - j) * g.getD j 0) * (2 ^ (m - j) * g.getD j 0)) ≤ fp (m + 1 + (d + 1)) (fun k => (sc m g).getD k 0) (fun k => (sc m g).getD k 0) := by
      have := sm_one (F := fun k => fac k * ((sc m g).getD k 0 * (sc m g).getD k 0)) (n := m + 1 + (d + 1)) (j := j) (by omega) (fun k _ => Int.mul_nonneg (Int.le_of_lt (fac_pos k)) (sq_nonneg _))
      simp only [sc_getD] at this ⊢
      exact this
    have h3 : fp (m + 1 + (d + 1)) (mS (sc d h) 0 fun k => (sc m g).getD k 0) (mS (sc d h) 0 fun k => (sc m g).getD k 0) = sm (fun k => fac k * 4 ^ (n - k) * (f.getD k 0 * f.getD k 0)) (m + 1 + (d + 1)) := by
      refine sm_congr _ fun k hk => ?_
      rw [mS_sc h d m (fun k => g.getD k 0) _ k hh (fun j => sc_getD m g j) hgs, ← hfk, show d + m - k = n - k by omega]
      have h4 : (4 : Int) ^ (n - k) = 2 ^ (n - k) * 2 ^ (n - k) := by rw [← Int.mul_pow]; rfl
      rw [h4]
      generalize (2 : Int) ^ (n - k) = x
      simp only [rA, rB, rC, rD, rE, rF, rG, rH, rI, rJ, rK]
    rw [h3] at key
    have hfo : ∀ k, n < k → f.getD k 0 = 0 := by
      intro k hk
      rw [hfk]
      exact Sp.mS1 h 0 hgs (by omega) k (by omega)
    have h5 : sm (fun k => fac k * 4 ^ (n - k) * (f.getD k 0 * f.getD k 0)) (m + 1 + (d + 1)) ≤ sm (fun k => 4 ^ n * (fac d * (fac j * 4 ^ (n - d - j))) * (f.getD k 0 * f.getD k 0)) (m + 1 + (d + 1)) := by
      refine sm_le _ fun k hk => ?_
      rcases Nat.lt_or_ge n k with h6 | h6
      · rw [hfo k h6]; simp
      · exact Int.mul_le_mul_of_nonneg_right (weights n (by omega) d (by omega) j (by omega) k (by omega)) (sq_nonneg _)
    rw [sm_scal] at h5
    have h6 := Int.le_trans (sm_sq (fun k => f.getD k 0) (m + 1 + (d + 1))) (Int.mul_le_mul (sm_nrm f _) (sm_nrm f _) (sm_nonneg _ fun k _ => by omega) (by omega))
    have hw : 0 < fac d * (fac j * 4 ^ (n - d - j)) := Int.mul_pos (fac_pos d) (Int.mul_pos (fac_pos j) (Int.pow_pos (by decide)))
    have h7 : fac d * (h.getD d 0 * h.getD d 0) * (fac j * ((2 ^ (m - j) * g.getD j 0) * (2 ^ (m - j) * g.getD j 0))) ≤ 4 ^ n * (fac d * (fac j * 4 ^ (n - d - j))) * ((nrm f : Int) * nrm f) := by
      refine Int.le_trans (Int.mul_le_mul_of_nonneg_left h2 (Int.mul_nonneg (Int.le_of_lt (fac_pos d)) (sq_nonneg _))) (Int.le_trans key (Int.le_trans h5 ?_))
      exact Int.mul_le_mul_of_nonneg_left h6 (Int.mul_nonneg (Int.le_of_lt (Int.pow_pos (by decide))) (Int.le_of_lt hw))
    have h8 : (4 : Int) ^ (n - d - j) = 2 ^ (m - j) * 2 ^ (m - j) := by rw [← Int.mul_pow, show n - d - j = m - j by omega]; rfl
    have h9 : (4 : Int) ^ n = 2 ^ n * 2 ^ n := by rw [← Int.mul_pow]; rfl
    refine abs_le_of_sq (Int.mul_nonneg (Int.le_of_lt (Int.pow_pos (by decide))) (by omega)) (Int.le_of_mul_le_mul_left (a := fac d * (fac j * 4 ^ (n - d - j))) ?_ hw)
    rw [h8, h9] at h7
    rw [h8]
    refine Int.le_trans (Int.le_of_eq ?_) (Int.le_trans h7 (Int.le_of_eq ?_))
    · generalize (2 : Int) ^ (m - j) = x
      simp only [rA, rB, rC, rD, rE, rF, rG, rH, rI, rJ, rK]
    · generalize (2 : Int) ^ (m - j) = x
      generalize (2 : Int) ^ n = y
      simp only [rA, rB, rC, rD, rE, rF, rG, rH, rI, rJ, rK]

end Go.Proofs.YtldcjkhbiffdoabGreatDoor
