import Derived.Test.YtldcjkhbiffdoabGreatDoorM00

set_option linter.unusedSimpArgs false
namespace Go.Proofs.YtldcjkhbiffdoabGreatDoor

def Dom (m : Int) : Prop := (∀ a b : Int, m ∣ a * b → m ∣ a ∨ m ∣ b) ∧ ¬ m ∣ 1

theorem Dom.mul {m a b : Int} (h : Dom m) (ha : ¬ m ∣ a) (hb : ¬ m ∣ b) : ¬ m ∣ a * b := fun h' => (h.1 a b h').elim ha hb
theorem Dom.pow {m a : Int} (h : Dom m) (ha : ¬ m ∣ a) : ∀ n : Nat, ¬ m ∣ a ^ n
  | 0 => by simpa using h.2
  | n + 1 => by rw [Int.pow_succ]; exact h.mul (h.pow ha n) ha
theorem Dom.zero : Dom 0 := ⟨fun a b h => by
  have := Int.zero_dvd.1 h
  rcases Int.mul_eq_zero.1 this with h | h
  · left; rw [h]; exact Int.dvd_refl _
  · right; rw [h]; exact Int.dvd_refl _, fun h => by have := Int.zero_dvd.1 h; omega⟩

def Zm (m : Int) (f : Int → Int) : Prop := ∃ g, Po g ∧ ∀ t, f t = m * g t

theorem Zm.po {m : Int} {f : Int → Int} (h : Zm m f) : Po f := by
  obtain ⟨g, h1, h2⟩ := h
  exact (h1.scal m).congr h2
theorem Zm.congr {m : Int} {f g : Int → Int} (h : Zm m f) (e : ∀ t, g t = f t) : Zm m g := by
  obtain ⟨a, h1, h2⟩ := h
  exact ⟨a, h1, fun t => by rw [e, h2]⟩
theorem Zm.of_zero (m : Int) {f : Int → Int} (h : ∀ t, f t = 0) : Zm m f := ⟨fun _ => 0, Po.zero, fun t => by rw [h]; simp⟩
theorem Zm.add {m : Int} {f g : Int → Int} (hf : Zm m f) (hg : Zm m g) : Zm m (fun t => f t + g t) := by
  obtain ⟨a, h1, h2⟩ := hf
  obtain ⟨b, h3, h4⟩ := hg
  exact ⟨_, h1.add h3, fun t => by simp only [h2, h4, Int.mul_add]⟩
theorem Zm.mul {m : Int} {f g : Int → Int} (hg : Po g) (hf : Zm m f) : Zm m (fun t => g t * f t) := by
  obtain ⟨a, h1, h2⟩ := hf
  exact ⟨_, hg.mul h1, fun t => by simp only [h2]; rw [Int.mul_left_comm]⟩
theorem Zm.scal {m : Int} {f : Int → Int} (c : Int) (hf : Zm m f) : Zm m (fun t => c * f t) := hf.mul (Po.const c)
theorem Zm.neg {m : Int} {f : Int → Int} (hf : Zm m f) : Zm m (fun t => - f t) := (hf.scal (-1)).congr fun t => by omega
theorem Zm.sub {m : Int} {f g : Int → Int} (hf : Zm m f) (hg : Zm m g) : Zm m (fun t => f t - g t) := (hf.add hg.neg).congr fun t => by omega
theorem Zm.of_dvd {m c : Int} {f : Int → Int} (hf : Po f) (h : m ∣ c) : Zm m (fun t => c * f t) := by
  obtain ⟨d, rfl⟩ := h
  exact ⟨_, hf.scal d, fun t => by simp only [Int.mul_assoc]⟩
theorem Zm.of_pow {p : Int} {k : Nat} {f : Int → Int} (hk : 0 < k) (h : Zm (p ^ k) f) : Zm p f := by
  obtain ⟨g, h1, h2⟩ := h
  obtain ⟨j, rfl⟩ : ∃ j, k = j + 1 := ⟨k - 1, by omega⟩
  exact ⟨_, h1.scal (p ^ j), fun t => by rw [h2, Int.pow_succ, Int.mul_comm (p ^ j), Int.mul_assoc]⟩

theorem Zm.lead {m : Int} {f : Int → Int} {n : Nat} {c : Int} (hz : Zm m f) (hl : Ld n c f) : m ∣ c := by
  obtain ⟨g, h1, h2⟩ := hz
  by_cases hm : m = 0
  · subst hm
    have h3 : Ld n 0 f := ⟨fun _ => 0, Pl.zero n, fun t => by rw [h2]; simp⟩
    rw [hl.uniq h3 fun _ => rfl]
    exact Int.dvd_refl _
  · have h3 : Pl (n + 1) g := Pl.of_scal hm h1 (hl.pl.congr fun t => (h2 t).symm)
    obtain ⟨e, h4⟩ := h3.ld
    rw [hl.uniq (h4.scal m) h2]
    exact ⟨e, rfl⟩

theorem Zm.const {m c : Int} (h : Zm m (fun _ => c)) : m ∣ c := h.lead (Ld.const c)

theorem Zm.gauss {m : Int} (hm : Dom m) : ∀ (N n k : Nat) (f g : Int → Int), n + k ≤ N → Pl n f → Pl k g → Zm m (fun t => f t * g t) → Zm m f ∨ Zm m g := by
  intro N
  induction N with
  | zero =>
    intro n k f g hN hf hg _
    left
    exact Zm.of_zero m fun t => Pl.zero0 (hf.mono (by omega)) t
  | succ N ih =>
    intro n k f g hN hf hg hz
    cases n with
    | zero => left; exact Zm.of_zero m fun t => Pl.zero0 hf t
    | succ n =>
      cases k with
      | zero => right; exact Zm.of_zero m fun t => Pl.zero0 hg t
      | succ k =>
        obtain ⟨c, hc⟩ := hf.ld
        obtain ⟨d, hd⟩ := hg.ld
        have h1 := hz.lead (hc.mul hd)
        rcases hm.1 c d h1 with h2 | h2
        · obtain ⟨f', h3, h4⟩ := hc
          have h5 : Zm m (fun t => c * t ^ n) := Zm.of_dvd (Po.xpow n) h2
          have h6 : Zm m (fun t => f' t * g t) := (hz.sub (h5.mul hg.po)).congr fun t => by
            show f' t * g t = f t * g t - g t * (c * t ^ n)
            rw [h4, Int.add_mul, Int.mul_comm (g t)]; omega
          rcases ih n (k + 1) f' g (by omega) h3 hg h6 with h7 | h7
          · left; exact (h5.add h7).congr h4
          · right; exact h7
        · obtain ⟨g', h3, h4⟩ := hd
          have h5 : Zm m (fun t => d * t ^ k) := Zm.of_dvd (Po.xpow k) h2
          have h6 : Zm m (fun t => f t * g' t) := (hz.sub (h5.mul hf.po)).congr fun t => by
            show f t * g' t = f t * g t - f t * (d * t ^ k)
            rw [h4, Int.mul_add]; omega
          rcases ih (n + 1) k f g' (by omega) hf h3 h6 with h7 | h7
          · left; exact h7
          · right; exact (h5.add h7).congr h4

theorem Zm.or {m : Int} (hm : Dom m) {f g : Int → Int} (hf : Po f) (hg : Po g) (h : Zm m (fun t => f t * g t)) : Zm m f ∨ Zm m g := by
  obtain ⟨n, hf⟩ := hf
  obtain ⟨k, hg⟩ := hg
  exact Zm.gauss hm (n + k) n k f g (Nat.le_refl _) hf hg h
theorem Zm.of_scal {m : Int} (hm : Dom m) {c : Int} (hc : ¬ m ∣ c) {f : Int → Int} (hf : Po f) (h : Zm m (fun t => c * f t)) : Zm m f :=
  (Zm.or hm (Po.const c) hf h).resolve_left fun h' => hc h'.const

def Dm (m : Int) (k : Nat) (f : Int → Int) : Prop := ∃ d f0, ¬ m ∣ d ∧ Ld k d f0 ∧ Zm m (fun t => f t - f0 t)

theorem Dm.po {m : Int} {k : Nat} {f : Int → Int} (h : Dm m k f) : Po f := by
  obtain ⟨d, f0, _, h2, h3⟩ := h
  exact (h2.po.add h3.po).congr fun t => by omega
theorem Dm.not {m : Int} {k : Nat} {f : Int → Int} (h : Dm m k f) : ¬ Zm m f := by
  obtain ⟨d, f0, h1, h2, h3⟩ := h
  intro h4
  exact h1 (((h4.sub h3).congr (g := f0) fun t => by omega).lead h2)
theorem Dm.of_ld {m : Int} {k : Nat} {d : Int} {f : Int → Int} (h : Ld k d f) (hd : ¬ m ∣ d) : Dm m k f :=
  ⟨d, f, hd, h, Zm.of_zero m fun t => by omega⟩
theorem Dm.alike {m : Int} {k : Nat} {f g : Int → Int} (h : Dm m k f) (hz : Zm m (fun t => g t - f t)) : Dm m k g := by
  obtain ⟨d, f0, h1, h2, h3⟩ := h
  exact ⟨d, f0, h1, h2, (hz.add h3).congr fun t => by omega⟩
theorem Dm.mul {m : Int} (hm : Dom m) {k l : Nat} {f g : Int → Int} (hf : Dm m k f) (hg : Dm m l g) : Dm m (k + l) (fun t => f t * g t) := by
  have hg0 := hg.po
  obtain ⟨d, f0, h1, h2, h3⟩ := hf
  obtain ⟨e, g0, h4, h5, h6⟩ := hg
  refine ⟨_, _, hm.mul h1 h4, h2.mul h5, ((h3.mul hg0).add (h6.mul h2.po)).congr fun t => ?_⟩
  show f t * g t - f0 t * g0 t = g t * (f t - f0 t) + f0 t * (g t - g0 t)
  simp only [rA, rB, rC, rD, rE, rF, rG, rH, rI, rJ, rK]; omega
theorem Dm.scal {m : Int} (hm : Dom m) {k : Nat} {c : Int} (hc : ¬ m ∣ c) {f : Int → Int} (hf : Dm m k f) : Dm m k (fun t => c * f t) := by
  have := (Dm.of_ld (Ld.const c) hc).mul hm hf
  rwa [Nat.zero_add] at this

theorem Zm.or_dm {m : Int} : ∀ {n : Nat} {f : Int → Int}, Pl n f → Zm m f ∨ ∃ k, k < n ∧ Dm m k f
  | 0, f, h => Or.inl (Zm.of_zero m fun t => h.zero0 t)
  | n + 1, f, h => by
    obtain ⟨c, hc⟩ := h.ld
    by_cases hd : m ∣ c
    · obtain ⟨g, h1, h2⟩ := hc
      have h5 : Zm m (fun t => c * t ^ n) := Zm.of_dvd (Po.xpow n) hd
      rcases Zm.or_dm (m := m) h1 with h3 | ⟨k, h3, h4⟩
      · left; exact (h5.add h3).congr h2
      · right
        exact ⟨k, by omega, h4.alike (h5.congr fun t => by rw [h2]; omega)⟩
    · exact Or.inr ⟨n, by omega, Dm.of_ld hc hd⟩

theorem Dm.le {m : Int} {k n : Nat} {f g : Int → Int} (h : Dm m k f) (hg : Pl n g) (hz : Zm m (fun t => f t - g t)) : k < n := by
  obtain ⟨d, f0, h1, h2, h3⟩ := h
  rcases Nat.lt_or_ge k n with h4 | h4
  · exact h4
  · exfalso
    have h5 := (hz.sub h3).congr (g := fun t => f0 t - g t) fun t => by omega
    have h6 := h5.lead (h2.sub (Ld.of_pl (hg.mono h4)))
    rw [Int.sub_zero] at h6
    exact h1 h6
theorem Dm.uniq {m : Int} {k l : Nat} {f : Int → Int} (h : Dm m k f) (h' : Dm m l f) : k = l := by
  have aux : ∀ {k l : Nat}, Dm m k f → Dm m l f → k ≤ l := by
    intro k l h h'
    obtain ⟨d, f0, h1, h2, h3⟩ := h'
    have := h.le h2.pl h3
    omega
  have := aux h h'
  have := aux h' h
  omega

theorem pdiv {k : Nat} {d : Int} {b : Int → Int} (hb : Ld k d b) : ∀ {n : Nat} {a : Int → Int}, Pl n a → ∃ (j : Nat) (q r : Int → Int), Po q ∧ Pl k r ∧ ∀ t, d ^ j * a t = q t * b t + r t
  | 0, a, ha => ⟨0, fun _ => 0, fun _ => 0, Po.zero, Pl.zero k, fun t => by rw [ha.zero0]; simp⟩
  | n + 1, a, ha => by
    rcases Nat.lt_or_ge n k with hk | hk
    · exact ⟨0, fun _ => 0, a, Po.zero, ha.mono (by omega), fun t => by simp⟩
    · obtain ⟨c, hc⟩ := ha.ld
      have h1 : Ld n (d * c - c * d) (fun t => d * a t - t ^ (n - k) * (c * b t)) := by
        refine (hc.scal d).sub ?_
        have := (Ld.one_pow (n := n - k)).mul (hb.scal c)
        rw [show n - k + k = n by omega, Int.one_mul] at this
        exact this
      rw [show d * c - c * d = 0 by rw [Int.mul_comm]; omega] at h1
      obtain ⟨j, q, r, h2, h3, h4⟩ := pdiv hb h1.to_pl
      refine ⟨j + 1, fun t => q t + d ^ j * (c * t ^ (n - k)), r, h2.add (((Po.xpow _).scal c).scal _), h3, fun t => ?_⟩
      have h5 := h4 t
      rw [Int.pow_succ]
      show d ^ j * d * a t = (q t + d ^ j * (c * t ^ (n - k))) * b t + r t
      revert h5
      simp only [rA, rB, rC, rD, rE, rF, rG, rH, rI, rJ, rK]
      omega

theorem bezout {m : Int} (hm : Dom m) : ∀ (n : Nat) {a b : Int → Int}, Po a → Pl n b → ¬ (Zm m a ∧ Zm m b) →
    ∃ (u v d : Int → Int) (c : Int) (a' b' : Int → Int), Po u ∧ Po v ∧ Po d ∧ Po a' ∧ Po b' ∧ ¬ Zm m d ∧ ¬ m ∣ c ∧
      Zm m (fun t => u t * a t + v t * b t - d t) ∧ Zm m (fun t => c * a t - d t * a' t) ∧ Zm m (fun t => c * b t - d t * b' t) := by
  intro n
  induction n using Nat.strongRecOn with
  | ind n ih =>
    intro a b ha hb hn
    rcases Zm.or_dm (m := m) hb with hz | ⟨k, hk, δ, b0, h1, h2, h3⟩
    · refine ⟨fun _ => 1, fun _ => 0, a, 1, fun _ => 1, fun _ => 0, Po.const 1, Po.zero, ha, Po.const 1, Po.zero, fun h => hn ⟨h, hz⟩, hm.2, Zm.of_zero m fun t => ?_, Zm.of_zero m fun t => ?_, hz.congr fun t => ?_⟩
      · simp
      · simp
      · simp
    · obtain ⟨N, ha'⟩ := ha
      obtain ⟨j, q, r, h4, h5, h6⟩ := pdiv h2 ha'
      have hnb : ¬ Zm m b0 := fun h => h1 (h.lead h2)
      obtain ⟨u, v, d, c, a1, b1, g1, g2, g3, g4, g5, g6, g7, g8, g9, g10⟩ := ih k hk h2.po h5 (fun h => hnb h.1)
      have hδ := hm.pow h1 j
      refine ⟨fun t => δ ^ j * v t, fun t => u t - v t * q t, d, c * δ ^ j, fun t => q t * a1 t + b1 t, fun t => δ ^ j * a1 t, g2.scal _, g1.sub (g2.mul h4), g3, (h4.mul g4).add g5, g4.scal _, g6, hm.mul g7 hδ, ?_, ?_, ?_⟩
      · refine (g8.add (h3.mul (g1.sub (g2.mul h4)))).congr fun t => ?_
        have h7 := congrArg (fun z => v t * z) (h6 t)
        show δ ^ j * v t * a t + (u t - v t * q t) * b t - d t = u t * b0 t + v t * r t - d t + (u t - v t * q t) * (b t - b0 t)
        revert h7
        simp only [rA, rB, rC, rD, rE, rF, rG, rH, rI, rJ, rK]
        omega
      · refine ((g9.mul h4).add g10).congr fun t => ?_
        have h7 := congrArg (fun z => c * z) (h6 t)
        show c * δ ^ j * a t - d t * (q t * a1 t + b1 t) = q t * (c * b0 t - d t * a1 t) + (c * r t - d t * b1 t)
        revert h7
        simp only [rA, rB, rC, rD, rE, rF, rG, rH, rI, rJ, rK]
        omega
      · refine ((g9.scal (δ ^ j)).add (h3.scal (c * δ ^ j))).congr fun t => ?_
        show c * δ ^ j * b t - d t * (δ ^ j * a1 t) = δ ^ j * (c * b0 t - d t * a1 t) + c * δ ^ j * (b t - b0 t)
        simp only [rA, rB, rC, rD, rE, rF, rG, rH, rI, rJ, rK]
        omega

def Cop (m : Int) (a b : Int → Int) : Prop := ∃ (u v : Int → Int) (c : Int), Po u ∧ Po v ∧ ¬ m ∣ c ∧ Zm m (fun t => u t * a t + v t * b t - c)

def Dv (m : Int) (a b : Int → Int) : Prop := ∃ (c : Int) (s : Int → Int), ¬ m ∣ c ∧ Po s ∧ Zm m (fun t => c * b t - a t * s t)

theorem Dv.mul {m : Int} {a b e : Int → Int} (he : Po e) (h : Dv m a b) : Dv m a (fun t => e t * b t) := by
  obtain ⟨c, s, h1, h2, h3⟩ := h
  refine ⟨c, fun t => e t * s t, h1, he.mul h2, (h3.mul he).congr fun t => ?_⟩
  show c * (e t * b t) - a t * (e t * s t) = e t * (c * b t - a t * s t)
  simp only [rA, rB, rC, rD, rE, rF, rG, rH, rI, rJ, rK]
theorem Dv.add {m : Int} (hm : Dom m) {a b e : Int → Int} (h : Dv m a b) (h' : Dv m a e) : Dv m a (fun t => b t + e t) := by
  obtain ⟨c, s, h1, h2, h3⟩ := h
  obtain ⟨c', s', h1', h2', h3'⟩ := h'
  refine ⟨c * c', fun t => c' * s t + c * s' t, hm.mul h1 h1', (h2.scal c').add (h2'.scal c), ((h3.scal c').add (h3'.scal c)).congr fun t => ?_⟩
  show c * c' * (b t + e t) - a t * (c' * s t + c * s' t) = c' * (c * b t - a t * s t) + c * (c' * e t - a t * s' t)
  simp only [rA, rB, rC, rD, rE, rF, rG, rH, rI, rJ, rK]
  omega
theorem Dv.of_zm {m : Int} (hm : Dom m) {a b : Int → Int} (h : Zm m b) : Dv m a b :=
  ⟨1, fun _ => 0, hm.2, Po.zero, h.congr fun t => by simp⟩
theorem Dv.alike {m : Int} {a b e : Int → Int} (h : Dv m a b) (hz : Zm m (fun t => e t - b t)) : Dv m a e := by
  obtain ⟨c, s, h1, h2, h3⟩ := h
  refine ⟨c, s, h1, h2, (h3.add (hz.scal c)).congr fun t => ?_⟩
  show c * e t - a t * s t = c * b t - a t * s t + c * (e t - b t)
  simp only [rA, rB, rC, rD, rE, rF, rG, rH, rI, rJ, rK]
  omega
theorem Dv.unscal {m : Int} (hm : Dom m) {a b : Int → Int} {k : Int} (hk : ¬ m ∣ k) (h : Dv m a (fun t => k * b t)) : Dv m a b := by
  obtain ⟨c, s, h1, h2, h3⟩ := h
  exact ⟨c * k, s, hm.mul h1 hk, h2, h3.congr fun t => by rw [Int.mul_assoc]⟩
theorem Dv.refl {m : Int} (hm : Dom m) (a : Int → Int) : Dv m a a :=
  ⟨1, fun _ => 1, hm.2, Po.const 1, Zm.of_zero m fun t => by simp⟩
theorem Dv.trans {m : Int} (hm : Dom m) {a b e : Int → Int} (h : Dv m a b) (h' : Dv m b e) : Dv m a e := by
  obtain ⟨c, s, h1, h2, h3⟩ := h
  obtain ⟨c', s', h1', h2', h3'⟩ := h'
  refine ⟨c * c', fun t => s t * s' t, hm.mul h1 h1', h2.mul h2', ((h3'.scal c).add (h3.mul h2')).congr fun t => ?_⟩
  show c * c' * e t - a t * (s t * s' t) = c * (c' * e t - b t * s' t) + s' t * (c * b t - a t * s t)
  simp only [rA, rB, rC, rD, rE, rF, rG, rH, rI, rJ, rK]
  omega

theorem Cop.dv {m : Int} (hm : Dom m) {a b e : Int → Int} (he : Po e) (h : Cop m a b) (hd : Dv m a (fun t => b t * e t)) : Dv m a e := by
  obtain ⟨u, v, c, h1, h2, h3, h4⟩ := h
  obtain ⟨c', s, h5, h6, h7⟩ := hd
  refine ⟨c' * c, fun t => c' * u t * e t + v t * s t, hm.mul h5 h3, (((h1.scal c').mul he).add (h2.mul h6)), (((h7.mul h2).sub (h4.mul (he.scal c'))).congr fun t => ?_)⟩
  show c' * c * e t - a t * (c' * u t * e t + v t * s t) = v t * (c' * (b t * e t) - a t * s t) - c' * e t * (u t * a t + v t * b t - c)
  simp only [rA, rB, rC, rD, rE, rF, rG, rH, rI, rJ, rK]
  omega

def Irr (m : Int) (r : Int → Int) : Prop := Po r ∧ ¬ Zm m r ∧ ¬ Dm m 0 r ∧ ∀ (a b : Int → Int) (c : Int), Po a → Po b → ¬ m ∣ c → Zm m (fun t => c * r t - a t * b t) → Dm m 0 a ∨ Dm m 0 b

theorem Dm.zero {m : Int} {f : Int → Int} (h : Dm m 0 f) : ∃ c, ¬ m ∣ c ∧ Zm m (fun t => f t - c) := by
  obtain ⟨d, f0, h1, ⟨g, h2, h3⟩, h4⟩ := h
  refine ⟨d, h1, h4.congr fun t => ?_⟩
  rw [h3, h2.zero0]; simp

theorem Irr.cop_or {m : Int} (hm : Dom m) {r a : Int → Int} (hr : Irr m r) (ha : Po a) : Cop m r a ∨ Dv m r a := by
  obtain ⟨hp, h0, h1, h2⟩ := hr
  obtain ⟨n, ha'⟩ := ha
  obtain ⟨u, v, d, c, r', a', g1, g2, g3, g4, g5, g6, g7, g8, g9, g10⟩ := bezout hm n hp ha' (fun h => h0 h.1)
  rcases h2 d r' c g3 g4 g7 g9 with h | h
  · obtain ⟨k, h5, h6⟩ := h.zero
    left
    exact ⟨u, v, k, g1, g2, h5, (g8.add h6).congr fun t => by omega⟩
  · obtain ⟨k, h5, h6⟩ := h.zero
    right
    refine ⟨k * c, fun t => c * a' t, hm.mul h5 g7, g5.scal c, ?_⟩
    refine (((g10.scal k).sub (g9.mul g5)).sub (h6.mul (g3.mul g5))).congr fun t => ?_
    show k * c * a t - r t * (c * a' t) = k * (c * a t - d t * a' t) - a' t * (c * r t - d t * r' t) - d t * a' t * (r' t - k)
    simp only [rA, rB, rC, rD, rE, rF, rG, rH, rI, rJ, rK]
    omega

theorem Irr.prime {m : Int} (hm : Dom m) {r a b : Int → Int} (hr : Irr m r) (ha : Po a) (hb : Po b) (h : Dv m r (fun t => a t * b t)) : Dv m r a ∨ Dv m r b := by
  rcases hr.cop_or hm ha with h1 | h1
  · right; exact h1.dv hm hb h
  · left; exact h1

end Go.Proofs.YtldcjkhbiffdoabGreatDoor

set_option linter.unusedSimpArgs false
namespace Go.Proofs.YtldcjkhbiffdoabGreatDoor

theorem prime_of (n : Nat) (hn : 2 ≤ n) : ∃ p : Nat, 2 ≤ p ∧ p ∣ n ∧ Dom (p : Int) := by
  have aux : ∀ k, ∀ p, p ≤ k → 2 ≤ p → p ∣ n → ∃ p : Nat, 2 ≤ p ∧ p ∣ n ∧ ∀ q, 2 ≤ q → q ∣ n → p ≤ q := by
    intro k
    induction k with
    | zero => intro p h1 h2; omega
    | succ k ih =>
      intro p h1 h2 h3
      by_cases h : ∃ q, 2 ≤ q ∧ q ∣ n ∧ q < p
      · obtain ⟨q, h4, h5, h6⟩ := h
        exact ih q (by omega) h4 h5
      · refine ⟨p, h2, h3, fun q h4 h5 => ?_⟩
        rcases Nat.lt_or_ge q p with h6 | h6
        · exact absurd ⟨q, h4, h5, h6⟩ h
        · exact h6
  obtain ⟨p, h1, h2, h3⟩ := aux n n (Nat.le_refl _) hn (Nat.dvd_refl _)
  refine ⟨p, h1, h2, fun a b hab => ?_, fun h => ?_⟩
  · have h4 : Nat.gcd p a.natAbs ∣ p := Nat.gcd_dvd_left _ _
    have hpos : 0 < Nat.gcd p a.natAbs := Nat.gcd_pos_of_pos_left _ (by omega)
    have h5 : p ∣ a.natAbs * b.natAbs := by
      rw [← Int.natAbs_mul]
      exact Int.ofNat_dvd_left.1 hab
    rcases (show Nat.gcd p a.natAbs = 1 ∨ 2 ≤ Nat.gcd p a.natAbs by omega) with h6 | h6
    · right
      have h7 : Nat.Coprime p a.natAbs := h6
      exact Int.ofNat_dvd_left.2 (h7.dvd_of_dvd_mul_left h5)
    · left
      have h7 := h3 _ h6 (Nat.dvd_trans h4 h2)
      have h8 : Nat.gcd p a.natAbs = p := Nat.le_antisymm (Nat.le_of_dvd (by omega) h4) h7
      have h9 : Nat.gcd p a.natAbs ∣ a.natAbs := Nat.gcd_dvd_right _ _
      rw [h8] at h9
      exact Int.ofNat_dvd_left.2 h9
  · have := Int.ofNat_dvd_left.1 h
    have := Nat.le_of_dvd (by decide) this
    simp at this
    omega

theorem inv_nat {p : Nat} (hp0 : 0 < p) (hp : Dom (p : Int)) : ∀ r : Nat, 0 < r → r < p → ∃ k : Int, (p : Int) ∣ r * k - 1 := by
  intro r
  induction r using Nat.strongRecOn with
  | ind r ih =>
    intro h0 h1
    by_cases h2 : r = 1
    · exact ⟨1, by subst h2; exact ⟨0, by simp⟩⟩
    · have h3 : p % r < r := Nat.mod_lt _ h0
      have h4 := Nat.div_add_mod p r
      have h5 : p % r ≠ 0 := by
        intro h
        rw [h, Nat.add_zero] at h4
        have h6 : (p : Int) ∣ (r : Int) * ((p / r : Nat) : Int) := by rw [← Int.natCast_mul, h4]; exact Int.dvd_refl _
        have h7 : 0 < p / r := by
          rcases Nat.eq_zero_or_pos (p / r) with h | h
          · rw [h] at h4; omega
          · exact h
        have h8 : p / r < p := Nat.div_lt_self (by omega) (by omega)
        rcases hp.1 _ _ h6 with h | h
        · have := Nat.le_of_dvd h0 (Int.natCast_dvd_natCast.1 h); omega
        · have := Nat.le_of_dvd h7 (Int.natCast_dvd_natCast.1 h); omega
      obtain ⟨k, c, hc⟩ := ih (p % r) h3 (by omega) (by omega)
      refine ⟨-((p / r : Nat) : Int) * k, c - k, ?_⟩
      have h6 : (p : Int) = r * ((p / r : Nat) : Int) + ((p % r : Nat) : Int) := by
        rw [← Int.natCast_mul, ← Int.natCast_add, h4]
      have h7 : ((p % r : Nat) : Int) * k = p * k - r * ((p / r : Nat) : Int) * k := by
        rw [← Int.sub_mul]; congr 1; omega
      have h8 : (r : Int) * (-((p / r : Nat) : Int) * k) = - (r * ((p / r : Nat) : Int) * k) := by
        rw [Int.neg_mul, Int.mul_neg, Int.mul_assoc]
      rw [h8, Int.mul_sub]
      omega

theorem Dom.inv {p : Nat} (hp0 : 0 < p) (hp : Dom (p : Int)) {k : Int} (hk : ¬ (p : Int) ∣ k) : ∃ k' : Int, (p : Int) ∣ k * k' - 1 := by
  have h1 : 0 ≤ k % p := Int.emod_nonneg _ (by omega)
  have h2 : k % p < p := Int.emod_lt_of_pos _ (by omega)
  have h3 : k % p ≠ 0 := fun h => hk (Int.dvd_of_emod_eq_zero h)
  obtain ⟨k', c, hc⟩ := inv_nat hp0 hp (k % p).toNat (by omega) (by omega)
  rw [show (((k % p).toNat : Nat) : Int) = k % p by omega] at hc
  refine ⟨k', c + (k / p) * k', ?_⟩
  have h4 := Int.mul_ediv_add_emod k p
  have h5 : k * k' = (p * (k / p)) * k' + k % p * k' := by rw [← Int.add_mul, h4]
  rw [Int.mul_add, ← Int.mul_assoc, h5]
  omega

def Prm (f : Int → Int) : Prop := Po f ∧ ∀ p : Nat, 2 ≤ p → Dom (p : Int) → ¬ Zm p f

theorem Prm.mul {f g : Int → Int} (hf : Prm f) (hg : Prm g) : Prm (fun t => f t * g t) :=
  ⟨hf.1.mul hg.1, fun p h1 h2 h3 => (Zm.or h2 hf.1 hg.1 h3).elim (hf.2 p h1 h2) (hg.2 p h1 h2)⟩

theorem Prm.congr {f g : Int → Int} (h : Prm f) (e : ∀ t, g t = f t) : Prm g :=
  ⟨h.1.congr e, fun p h1 h2 h3 => h.2 p h1 h2 (h3.congr fun t => (e t).symm)⟩

theorem Prm.left {f g : Int → Int} (hf : Po f) (hg : Po g) (h : Prm (fun t => f t * g t)) : Prm f :=
  ⟨hf, fun p h1 h2 h3 => h.2 p h1 h2 ((h3.mul hg).congr fun _ => Int.mul_comm _ _)⟩

theorem Prm.ne {f : Int → Int} (h : Prm f) : ¬ Zm 0 f := by
  intro hz
  obtain ⟨p, h1, h2, h3⟩ := prime_of 2 (by decide)
  obtain ⟨g, _, h5⟩ := hz
  exact h.2 p h1 h3 (Zm.of_zero _ fun t => by rw [h5]; simp)

theorem two_le_of {c : Int} (h0 : c ≠ 0) (h1 : c ≠ 1) (h2 : c ≠ -1) : 2 ≤ c.natAbs := by omega

theorem prime_int {c : Int} (h : 2 ≤ c.natAbs) : ∃ (p : Nat) (d : Int), 2 ≤ p ∧ Dom (p : Int) ∧ c = p * d ∧ d.natAbs < c.natAbs ∧ d ≠ 0 := by
  obtain ⟨p, h1, h2, h3⟩ := prime_of c.natAbs h
  obtain ⟨d, hd⟩ := Int.ofNat_dvd_left.2 h2
  have h4 : d ≠ 0 := by intro h; subst h; simp at hd; omega
  refine ⟨p, d, h1, h3, hd, ?_, h4⟩
  rw [hd, Int.natAbs_mul]
  have : 0 < d.natAbs := by omega
  have h5 : ((p : Nat) : Int).natAbs = p := Int.natAbs_natCast p
  rw [h5]
  have h6 : 2 * d.natAbs ≤ p * d.natAbs := Nat.mul_le_mul_right _ h1
  omega

theorem Prm.dvd {a : Int → Int} (ha : Prm a) : ∀ (n : Nat) {c : Int} {b s : Int → Int}, c.natAbs ≤ n → c ≠ 0 → Po b → Po s → (∀ t, c * b t = a t * s t) → ∃ s', Po s' ∧ (∀ t, b t = a t * s' t) ∧ ∀ t, s t = c * s' t := by
  intro n
  induction n with
  | zero => intro c b s h1 h2; omega
  | succ n ih =>
    intro c b s h1 h2 hb hs h
    by_cases h3 : c = 1
    · subst h3; exact ⟨s, hs, fun t => by rw [← h, Int.one_mul], fun t => by omega⟩
    · by_cases h4 : c = -1
      · subst h4; exact ⟨_, hs.neg, fun t => by rw [Int.mul_neg, ← h]; omega, fun t => by omega⟩
      · obtain ⟨p, d, g1, g2, g3, g4, g5⟩ := prime_int (two_le_of h2 h3 h4)
        have h5 : Zm p (fun t => a t * s t) := ⟨_, hb.scal d, fun t => by show a t * s t = _; rw [← h, g3, Int.mul_assoc]⟩
        obtain ⟨s1, h6, h7⟩ := (Zm.or g2 ha.1 hs h5).resolve_left (ha.2 p g1 g2)
        have hp0 : (p : Int) ≠ 0 := by omega
        obtain ⟨s', h8, h9, h10⟩ := ih (c := d) (b := b) (s := s1) (by omega) g5 hb h6 (fun t => by
          have := h t
          rw [h7, g3, Int.mul_assoc, Int.mul_left_comm (a t)] at this
          exact Int.eq_of_mul_eq_mul_left hp0 this)
        exact ⟨s', h8, h9, fun t => by rw [h7, h10, g3, Int.mul_assoc]⟩

theorem Prm.of_dv {a b : Int → Int} (ha : Prm a) (hb : Po b) (h : Dv 0 a b) : ∃ s, Po s ∧ ∀ t, b t = a t * s t := by
  obtain ⟨c, s, h1, h2, g, _, h4⟩ := h
  have hc : c ≠ 0 := fun h => h1 (by rw [h]; exact Int.dvd_refl _)
  obtain ⟨s', h5, h6, _⟩ := ha.dvd _ (Nat.le_refl _) hc hb h2 (fun t => by have h5 := h4 t; rw [Int.zero_mul] at h5; exact Int.eq_of_sub_eq_zero h5)
  exact ⟨s', h5, h6⟩

theorem Dv.of_eq {a b s : Int → Int} (m : Int) (hm : Dom m) (hs : Po s) (h : ∀ t, b t = a t * s t) : Dv m a b :=
  ⟨1, s, hm.2, hs, Zm.of_zero m fun t => by rw [h]; simp⟩

def Iz (r : Int → Int) : Prop := Po r ∧ ¬ Zm 0 r ∧ ¬ Dm 0 0 r ∧ ∀ a b : Int → Int, Po a → Po b → (∀ t, r t = a t * b t) → Dm 0 0 a ∨ Dm 0 0 b

theorem Iz.irr {r : Int → Int} (h : Iz r) : Irr 0 r := by
  obtain ⟨h0, h1, h2, h3⟩ := h
  refine ⟨h0, h1, h2, ?_⟩
  have aux : ∀ (n : Nat) (c : Int) (a b : Int → Int), c.natAbs ≤ n → c ≠ 0 → Po a → Po b → (∀ t, c * r t = a t * b t) → Dm 0 0 a ∨ Dm 0 0 b := by
    intro n
    induction n with
    | zero => intro c a b h1 h2; omega
    | succ n ih =>
      intro c a b hn hc ha hb h
      by_cases h4 : c = 1
      · exact h3 a b ha hb fun t => by have := h t; rw [h4] at this; omega
      · by_cases h5 : c = -1
        · have h6 := h3 _ b ha.neg hb fun t => by have := h t; rw [h5] at this; rw [Int.neg_mul]; omega
          rcases h6 with h6 | h6
          · left
            have := Dm.scal Dom.zero (c := -1) (fun h => by have := Int.zero_dvd.1 h; omega) h6
            obtain ⟨d, f0, g1, g2, g3⟩ := this
            exact ⟨d, f0, g1, g2, g3.congr fun t => by show a t - f0 t = -1 * - a t - f0 t; omega⟩
          · right; exact h6
        · obtain ⟨p, d, g1, g2, g3, g4, g5⟩ := prime_int (two_le_of hc h4 h5)
          have hp0 : (p : Int) ≠ 0 := by omega
          have hnp : ¬ (0 : Int) ∣ p := fun h => hp0 (Int.zero_dvd.1 h)
          have h6 : Zm p (fun t => a t * b t) := ⟨_, h0.scal d, fun t => by show a t * b t = _; rw [← h, g3, Int.mul_assoc]⟩
          rcases Zm.or g2 ha hb h6 with ⟨a', h7, h8⟩ | ⟨b', h7, h8⟩
          · rcases ih d a' b (by omega) g5 h7 hb (fun t => by
              have := h t
              rw [h8, g3, Int.mul_assoc, Int.mul_assoc] at this
              exact Int.eq_of_mul_eq_mul_left hp0 this) with h9 | h9
            · left
              obtain ⟨d, f0, g1, g2, g3⟩ := Dm.scal Dom.zero hnp h9
              exact ⟨d, f0, g1, g2, g3.congr fun t => by simp only [h8]⟩
            · right; exact h9
          · rcases ih d a b' (by omega) g5 ha h7 (fun t => by
              have := h t
              rw [h8, g3, Int.mul_assoc, Int.mul_left_comm (a t)] at this
              exact Int.eq_of_mul_eq_mul_left hp0 this) with h9 | h9
            · left; exact h9
            · right
              obtain ⟨d, f0, g1, g2, g3⟩ := Dm.scal Dom.zero hnp h9
              exact ⟨d, f0, g1, g2, g3.congr fun t => by simp only [h8]⟩
  intro a b c ha hb hc ⟨g, _, h4⟩
  exact aux _ c a b (Nat.le_refl _) (fun h => hc (by rw [h]; exact Int.dvd_refl _)) ha hb (fun t => by have h5 := h4 t; rw [Int.zero_mul] at h5; exact Int.eq_of_sub_eq_zero h5)


def Dr (f f' : Int → Int) : Prop := Po f ∧ Po f' ∧ ∃ R : Int → Int → Int, ∀ t s, f (t + s) = f t + s * f' t + s * s * R t s

theorem Dr.congr {f g f' g' : Int → Int} (h : Dr f f') (e : ∀ t, g t = f t) (e' : ∀ t, g' t = f' t) : Dr g g' := by
  obtain ⟨h1, h2, R, h3⟩ := h
  exact ⟨h1.congr e, h2.congr e', R, fun t s => by rw [e, e, e', h3]⟩
theorem Dr.const (c : Int) : Dr (fun _ => c) (fun _ => 0) := ⟨Po.const c, Po.zero, fun _ _ => 0, fun t s => by simp⟩
theorem Dr.x : Dr (fun t => t) (fun _ => 1) := ⟨(Po.xpow 1).congr fun t => (Int.pow_one t).symm, Po.const 1, fun _ _ => 0, fun t s => by simp⟩
theorem Dr.add {f g f' g' : Int → Int} (h : Dr f f') (h' : Dr g g') : Dr (fun t => f t + g t) (fun t => f' t + g' t) := by
  obtain ⟨h1, h2, R, h3⟩ := h
  obtain ⟨h4, h5, S, h6⟩ := h'
  exact ⟨h1.add h4, h2.add h5, fun t s => R t s + S t s, fun t s => by simp only [h3, h6, Int.mul_add]; omega⟩
theorem Dr.mul {f g f' g' : Int → Int} (h : Dr f f') (h' : Dr g g') : Dr (fun t => f t * g t) (fun t => f' t * g t + f t * g' t) := by
  obtain ⟨h1, h2, R, h3⟩ := h
  obtain ⟨h4, h5, S, h6⟩ := h'
  refine ⟨h1.mul h4, (h2.mul h4).add (h1.mul h5), fun t s => f t * S t s + R t s * g t + f' t * g' t + s * f' t * S t s + s * R t s * g' t + s * s * R t s * S t s, fun t s => ?_⟩
  simp only [h3, h6]
  simp only [rA, rB, rC, rD, rE, rF, rG, rH, rI, rJ, rK]
  omega
theorem Dr.uniq {f f' g' : Int → Int} (h : Dr f f') (h' : Dr f g') (t : Int) : f' t = g' t := by
  obtain ⟨h1, h2, R, h3⟩ := h
  obtain ⟨h4, h5, S, h6⟩ := h'
  have h7 : ∀ s, s * (f' t - g' t) = s * s * (S t s - R t s) := by
    intro s
    have h8 := h3 t s
    have h9 := h6 t s
    rw [Int.mul_sub, Int.mul_sub]; omega
  have h8 : ∀ s, s ≠ 0 → s ∣ f' t - g' t := fun s hs => ⟨S t s - R t s, by
    have := h7 s
    rw [Int.mul_assoc] at this
    exact Int.eq_of_mul_eq_mul_left hs this⟩
  have h9 := Int.eq_zero_of_dvd_of_natAbs_lt_natAbs (h8 ((f' t - g' t).natAbs + 1) (by omega)) (by omega)
  omega

def der : List Int → List Int
  | [] => []
  | _ :: l => ladd l (0 :: der l)

theorem Dr.ev : ∀ l : List Int, Dr (fun t => Go.Proofs.YtldcjkhbiffdoabGreatDoor.ev t l) (fun t => Go.Proofs.YtldcjkhbiffdoabGreatDoor.ev t (der l))
  | [] => (Dr.const 0).congr (fun t => rfl) (fun t => rfl)
  | a :: l => ((Dr.const a).add (Dr.x.mul (Dr.ev l))).congr (fun t => rfl) (fun t => by
      simp only [der, ev_ladd, Go.Proofs.YtldcjkhbiffdoabGreatDoor.ev]; omega)
theorem Po.dr {f : Int → Int} (h : Po f) : ∃ f', Dr f f' := by
  obtain ⟨n, l, _, h2⟩ := h
  exact ⟨_, (Dr.ev l).congr h2 fun _ => rfl⟩

theorem der_getD : ∀ (l : List Int) (k : Nat), (der l).getD k 0 = (k + 1) * l.getD (k + 1) 0
  | [], k => by simp [der]
  | a :: l, 0 => by
    show (ladd l (0 :: der l)).getD 0 0 = _
    rw [ladd_getD]; simp
  | a :: l, k + 1 => by
    simp only [der, ladd_getD, List.getD_cons_succ, der_getD l k]
    rw [show ((k + 1 : Nat) : Int) + 1 = ((k : Int) + 1) + 1 by omega, Int.add_mul ((k : Int) + 1) 1]
    omega
theorem Dr.of_getD {l m : List Int} (h : ∀ k : Nat, m.getD k 0 = (k + 1) * l.getD (k + 1) 0) : Dr (fun t => Go.Proofs.YtldcjkhbiffdoabGreatDoor.ev t l) (fun t => Go.Proofs.YtldcjkhbiffdoabGreatDoor.ev t m) :=
  (Dr.ev l).congr (fun _ => rfl) fun t => ev_of_getD (fun k => by rw [h, der_getD]) t
theorem Zm.dr {m : Int} {f f' : Int → Int} (h : Zm m f) (hd : Dr f f') : Zm m f' := by
  obtain ⟨g, h1, h2⟩ := h
  obtain ⟨g', h3⟩ := h1.dr
  refine ⟨g', h3.2.1, fun t => ?_⟩
  have h4 := ((Dr.const m).mul h3).congr h2 (fun _ => rfl)
  rw [hd.uniq h4 t]; simp

end Go.Proofs.YtldcjkhbiffdoabGreatDoor

set_option linter.unusedSimpArgs false
namespace Go.Proofs.YtldcjkhbiffdoabGreatDoor

def pS : List (Int → Int) → Nat → Int → Int
  | [], _ => fun _ => 1
  | g :: L, s => fun t => (if s % 2 = 1 then g t else 1) * pS L (s / 2) t

def pA : List (Int → Int) → Int → Int
  | [] => fun _ => 1
  | g :: L => fun t => g t * pA L t

theorem pS_one (g : Int → Int) (L : List (Int → Int)) (s : Nat) (t : Int) : pS (g :: L) (1 + 2 * s) t = g t * pS L s t := by
  simp only [pS]
  rw [if_pos (by omega), show (1 + 2 * s) / 2 = s by omega]
theorem pS_two (g : Int → Int) (L : List (Int → Int)) (s : Nat) (t : Int) : pS (g :: L) (2 * s) t = pS L s t := by
  simp only [pS]
  rw [if_neg (by omega), show 2 * s / 2 = s by omega, Int.one_mul]

theorem two_pos (n : Nat) : 0 < 2 ^ n := Nat.pow_pos (by decide)

theorem pS_comp : ∀ (L : List (Int → Int)) (s : Nat), s < 2 ^ L.length → ∀ t, pS L s t * pS L (2 ^ L.length - 1 - s) t = pA L t
  | [], s, _, t => by simp [pS, pA]
  | g :: L, s, h, t => by
    have h2 := two_pos L.length
    rw [List.length_cons, Nat.pow_succ] at h ⊢
    have ih := pS_comp L (s / 2) (by omega) t
    rcases (show s % 2 = 0 ∨ s % 2 = 1 by omega) with h1 | h1
    · rw [show s = 2 * (s / 2) by omega, pS_two, show 2 ^ L.length * 2 - 1 - 2 * (s / 2) = 1 + 2 * (2 ^ L.length - 1 - s / 2) by omega, pS_one]
      rw [Int.mul_left_comm, ih]; rfl
    · rw [show s = 1 + 2 * (s / 2) by omega, pS_one, show 2 ^ L.length * 2 - 1 - (1 + 2 * (s / 2)) = 2 * (2 ^ L.length - 1 - s / 2) by omega, pS_two]
      rw [Int.mul_assoc, ih]; rfl

theorem pS_po : ∀ (L : List (Int → Int)), (∀ g, g ∈ L → Po g) → ∀ s, Po (pS L s)
  | [], _, s => Po.const 1
  | g :: L, h, s => by
    have ih := pS_po L (fun x hx => h x (List.mem_cons_of_mem _ hx)) (s / 2)
    have hg := h g (List.mem_cons_self ..)
    rcases (show s % 2 = 0 ∨ s % 2 = 1 by omega) with h1 | h1
    · exact ih.congr fun t => by rw [show s = 2 * (s / 2) by omega, pS_two]; congr 1; omega
    · exact (hg.mul ih).congr fun t => by
        conv => lhs; rw [show s = 1 + 2 * (s / 2) by omega, pS_one]
theorem pA_po : ∀ (L : List (Int → Int)), (∀ g, g ∈ L → Po g) → Po (pA L)
  | [], _ => Po.const 1
  | g :: L, h => (h g (List.mem_cons_self ..)).mul (pA_po L fun x hx => h x (List.mem_cons_of_mem _ hx))
theorem pS_ld : ∀ (L : List (Int → Int)), (∀ g, g ∈ L → ∃ d, Ld d 1 g) → ∀ s, ∃ d, Ld d 1 (pS L s)
  | [], _, s => ⟨0, Ld.const 1⟩
  | g :: L, h, s => by
    obtain ⟨d, ih⟩ := pS_ld L (fun x hx => h x (List.mem_cons_of_mem _ hx)) (s / 2)
    obtain ⟨e, hg⟩ := h g (List.mem_cons_self ..)
    rcases (show s % 2 = 0 ∨ s % 2 = 1 by omega) with h1 | h1
    · exact ⟨d, ih.congr fun t => by conv => lhs; rw [show s = 2 * (s / 2) by omega, pS_two]⟩
    · have := hg.mul ih
      rw [Int.one_mul] at this
      exact ⟨e + d, this.congr fun t => by conv => lhs; rw [show s = 1 + 2 * (s / 2) by omega, pS_one]⟩

theorem consts {p : Nat} (hp : Dom (p : Int)) {c : Int} {g h : Int → Int} (hc : ¬ (p : Int) ∣ c) (hg : Po g) (hh : Po h) (hz : Zm p (fun t => g t * h t - c)) :
    (∃ k, ¬ (p : Int) ∣ k ∧ Zm p (fun t => g t - k)) ∧ ∃ k, ¬ (p : Int) ∣ k ∧ Zm p (fun t => h t - k) := by
  have hd : Dm p 0 (fun t => g t * h t) := (Dm.of_ld (Ld.const c) hc).alike hz
  obtain ⟨n, hg'⟩ := hg
  obtain ⟨m, hh'⟩ := hh
  rcases Zm.or_dm (m := p) hg' with h1 | ⟨a, _, h1⟩
  · exact absurd ((h1.mul hh'.po).congr (g := fun t => g t * h t) fun t => Int.mul_comm _ _) hd.not
  · rcases Zm.or_dm (m := p) hh' with h2 | ⟨b, _, h2⟩
    · exact absurd (h2.mul hg'.po) hd.not
    · have h3 := (h1.mul hp h2).uniq hd
      obtain rfl : a = 0 := by omega
      obtain rfl : b = 0 := by omega
      exact ⟨h1.zero, h2.zero⟩

theorem masks {p : Nat} (hp0 : 0 < p) (hp : Dom (p : Int)) : ∀ (L : List (Int → Int)), (∀ g, g ∈ L → Irr p g) → ∀ (c : Int) (g h : Int → Int), ¬ (p : Int) ∣ c → Po g → Po h → Zm p (fun t => g t * h t - c * pA L t) →
    ∃ s k k', s < 2 ^ L.length ∧ ¬ (p : Int) ∣ k ∧ ¬ (p : Int) ∣ k' ∧ Zm p (fun t => g t - k * pS L s t) ∧ Zm p (fun t => h t - k' * pS L (2 ^ L.length - 1 - s) t)
  | [], _, c, g, h, hc, hg, hh, hz => by
    obtain ⟨⟨k, h1, h2⟩, ⟨k', h3, h4⟩⟩ := consts hp hc hg hh (hz.congr fun t => by simp [pA])
    exact ⟨0, k, k', by simp, h1, h3, h2.congr fun t => by simp [pS], h4.congr fun t => by simp [pS]⟩
  | r :: L, hL, c, g, h, hc, hg, hh, hz => by
    have hr := hL r (List.mem_cons_self ..)
    have hL' : ∀ g, g ∈ L → Irr p g := fun x hx => hL x (List.mem_cons_of_mem _ hx)
    have hA : Po (pA L) := pA_po L fun x hx => (hL' x hx).1
    have side : ∀ g h : Int → Int, Po g → Po h → Zm p (fun t => g t * h t - c * pA (r :: L) t) → Dv p r g →
        ∃ s k k', s < 2 ^ L.length ∧ ¬ (p : Int) ∣ k ∧ ¬ (p : Int) ∣ k' ∧ Zm p (fun t => g t - k * pS (r :: L) (1 + 2 * s) t) ∧ Zm p (fun t => h t - k' * pS (r :: L) (2 * (2 ^ L.length - 1 - s)) t) := by
      intro g h hg hh hz ⟨k0, g1, h1, h2, h3⟩
      obtain ⟨kk, e, he⟩ := hp.inv hp0 h1
      have h4 : Zm p (fun t => g t - r t * (kk * g1 t)) := by
        refine ((h3.scal kk).sub (Zm.of_dvd hg (c := k0 * kk - 1) ⟨e, he⟩)).congr fun t => ?_
        show g t - r t * (kk * g1 t) = kk * (k0 * g t - r t * g1 t) - (k0 * kk - 1) * g t
        simp only [rA, rB, rC, rD, rE, rF, rG, rH, rI, rJ, rK]
        omega
      have h5 : Zm p (fun t => r t * (kk * g1 t * h t - c * pA L t)) := by
        refine (hz.sub (h4.mul hh)).congr fun t => ?_
        show r t * (kk * g1 t * h t - c * pA L t) = g t * h t - c * (r t * pA L t) - h t * (g t - r t * (kk * g1 t))
        simp only [rA, rB, rC, rD, rE, rF, rG, rH, rI, rJ, rK]
        omega
      have h6 := (Zm.or hp hr.1 (((h2.scal kk).mul hh).sub (hA.scal c)) h5).resolve_left hr.2.1
      obtain ⟨s, k, k', q1, q2, q3, q4, q5⟩ := masks hp0 hp L hL' c _ h hc (h2.scal kk) hh h6
      refine ⟨s, k, k', q1, q2, q3, ?_, q5.congr fun t => by rw [pS_two]⟩
      refine (h4.add (q4.mul hr.1)).congr fun t => ?_
      rw [pS_one]
      show g t - k * (r t * pS L s t) = g t - r t * (kk * g1 t) + r t * (kk * g1 t - k * pS L s t)
      simp only [rA, rB, rC, rD, rE, rF, rG, rH, rI, rJ, rK]
      omega
    have h2 := two_pos L.length
    have hd : Dv p r (fun t => g t * h t) := ⟨1, fun t => c * pA L t, hp.2, hA.scal c, hz.congr fun t => by
      show 1 * (g t * h t) - r t * (c * pA L t) = g t * h t - c * (r t * pA L t)
      simp only [rA, rB, rC, rD, rE, rF, rG, rH, rI, rJ, rK]⟩
    rcases hr.prime hp hg hh hd with h1 | h1
    · obtain ⟨s, k, k', q1, q2, q3, q4, q5⟩ := side g h hg hh hz h1
      refine ⟨1 + 2 * s, k, k', ?_, q2, q3, q4, ?_⟩
      · rw [List.length_cons, Nat.pow_succ]; omega
      · rw [List.length_cons, Nat.pow_succ, show 2 ^ L.length * 2 - 1 - (1 + 2 * s) = 2 * (2 ^ L.length - 1 - s) by omega]
        exact q5
    · obtain ⟨s, k, k', q1, q2, q3, q4, q5⟩ := side h g hh hg (hz.congr fun t => by rw [Int.mul_comm (g t)]) h1
      refine ⟨2 * (2 ^ L.length - 1 - s), k', k, ?_, q3, q2, q5, ?_⟩
      · rw [List.length_cons, Nat.pow_succ]; omega
      · rw [List.length_cons, Nat.pow_succ, show 2 ^ L.length * 2 - 1 - 2 * (2 ^ L.length - 1 - s) = 1 + 2 * s by omega]
        exact q4

def Sq (m : Int) (f : Int → Int) : Prop := ∃ f' u v e, Dr f f' ∧ Po u ∧ Po v ∧ ¬ m ∣ e ∧ Zm m (fun t => u t * f t + v t * f' t - e)

theorem Sq.cop {p : Nat} {f g h : Int → Int} {c : Int} (hf : Sq p f) (hg : Po g) (hh : Po h) (hz : Zm p (fun t => f t - c * (g t * h t))) : Cop p g h := by
  obtain ⟨f', u, v, e, h1, h2, h3, h4, h5⟩ := hf
  obtain ⟨g', hg'⟩ := hg.dr
  obtain ⟨h', hh'⟩ := hh.dr
  have h6 := hz.dr ((h1.add ((Dr.const (-c)).mul (hg'.mul hh'))).congr (fun t => by rw [Int.neg_mul]; omega) (g' := fun t => f' t - c * (g' t * h t + g t * h' t)) (fun t => by rw [Int.neg_mul]; omega))
  refine ⟨fun t => c * (u t * h t + v t * h' t), fun t => c * (v t * g' t), e, ((h2.mul hh).add (h3.mul hh'.2.1)).scal c, (h3.mul hg'.2.1).scal c, h4, ?_⟩
  refine ((h5.sub (hz.mul h2)).sub (h6.mul h3)).congr fun t => ?_
  show c * (u t * h t + v t * h' t) * g t + c * (v t * g' t) * h t - e = u t * f t + v t * f' t - e - u t * (f t - c * (g t * h t)) - v t * (f' t - c * (g' t * h t + g t * h' t))
  simp only [rA, rB, rC, rD, rE, rF, rG, rH, rI, rJ, rK]
  omega

theorem Irr.not_dv_const {p : Nat} (hp : Dom (p : Int)) {r : Int → Int} (hr : Irr p r) {e : Int} (he : ¬ (p : Int) ∣ e) : ¬ Dv p r (fun _ => e) := by
  intro ⟨k, s, h1, h2, h3⟩
  have h4 : Zm p (fun t => r t * s t - k * e) := h3.neg.congr fun t => by show r t * s t - k * e = - (k * e - r t * s t); omega
  obtain ⟨⟨c, h5, h6⟩, _⟩ := consts hp (hp.mul h1 he) hr.1 h2 h4
  exact hr.2.2.1 ((Dm.of_ld (Ld.const c) h5).alike h6)

theorem Irr.cop_not {p : Nat} (hp : Dom (p : Int)) {r g h : Int → Int} (hr : Irr p r) (hc : Cop p g h) (hg : Dv p r g) (hh : Dv p r h) : False := by
  obtain ⟨u, v, e, h1, h2, h3, h4⟩ := hc
  exact hr.not_dv_const hp h3 (((hg.mul h1).add hp (hh.mul h2)).alike (h4.neg.congr fun t => by omega))

theorem lift_uniq {p k : Nat} (hp2 : 2 ≤ p) (hp : Dom (p : Int)) {A B g h : Int → Int} {a b : Nat} {c cg ch : Int} (hA : Ld a 1 A) (hB : Ld b 1 B) (hcop : Cop p A B) (hcop' : Cop p B A)
    (hg : Ld a cg g) (hh : Ld b ch h) (hcc : c = cg * ch) (hc : ¬ (p : Int) ∣ c) (hz : Zm ((p : Int) ^ k) (fun t => g t * h t - c * (A t * B t))) (hzA : Zm p (fun t => g t - cg * A t)) (hzB : Zm p (fun t => h t - ch * B t)) :
    ∀ j, j + 1 ≤ k → Zm ((p : Int) ^ (j + 1)) (fun t => ch * g t - c * A t) ∧ Zm ((p : Int) ^ (j + 1)) (fun t => cg * h t - c * B t)
  | 0, _ => by
    rw [Nat.zero_add, Int.pow_one]
    refine ⟨(hzA.scal ch).congr fun t => ?_, (hzB.scal cg).congr fun t => ?_⟩
    · subst hcc
      show ch * g t - cg * ch * A t = ch * (g t - cg * A t)
      simp only [rA, rB, rC, rD, rE, rF, rG, rH, rI, rJ, rK]
    · subst hcc
      show cg * h t - cg * ch * B t = cg * (h t - ch * B t)
      simp only [rA, rB, rC, rD, rE, rF, rG, rH, rI, rJ, rK]
  | j + 1, hj => by
    obtain ⟨⟨U, hU, hU'⟩, ⟨V, hV, hV'⟩⟩ := lift_uniq hp2 hp hA hB hcop hcop' hg hh hcc hc hz hzA hzB j (by omega)
    have hpz : (p : Int) ≠ 0 := by omega
    have hq : (p : Int) ^ (j + 1) ≠ 0 := Int.pow_ne_zero hpz
    have hUa : Pl a U := by
      refine Pl.of_scal hq hU (Pl.congr (Ld.to_pl ?_) fun t => (hU' t).symm)
      have := (hg.scal ch).sub (hA.scal c)
      rwa [Int.mul_one, hcc, Int.mul_comm ch, Int.sub_self, ← hcc] at this
    have hVb : Pl b V := by
      refine Pl.of_scal hq hV (Pl.congr (Ld.to_pl ?_) fun t => (hV' t).symm)
      have := (hh.scal cg).sub (hB.scal c)
      rwa [Int.mul_one, hcc, Int.sub_self, ← hcc] at this
    obtain ⟨i, hi⟩ : ∃ i, k = i + (j + 2) := ⟨k - (j + 2), by omega⟩
    obtain ⟨w, hw, hw'⟩ := hz
    have key : Zm p (fun t => c * (A t * V t + B t * U t)) := by
      refine ⟨fun t => c * ((p : Int) ^ i * w t) - (p : Int) ^ j * (U t * V t), ((hw.scal _).scal c).sub ((hU.mul hV).scal _), fun t => ?_⟩
      have h1 : ch * g t = c * A t + (p : Int) ^ (j + 1) * U t := by have h0 : ch * g t - c * A t = (p : Int) ^ (j + 1) * U t := hU' t; omega
      have h2 : cg * h t = c * B t + (p : Int) ^ (j + 1) * V t := by have h0 : cg * h t - c * B t = (p : Int) ^ (j + 1) * V t := hV' t; omega
      have h3 : c * (g t * h t) = (c * A t + (p : Int) ^ (j + 1) * U t) * (c * B t + (p : Int) ^ (j + 1) * V t) := by
        rw [← h1, ← h2, hcc]
        simp only [rA, rB, rC, rD, rE, rF, rG, rH, rI, rJ, rK]
      have h4 : g t * h t = c * (A t * B t) + (p : Int) ^ k * w t := by have h0 : g t * h t - c * (A t * B t) = (p : Int) ^ k * w t := hw' t; omega
      have h5 : (p : Int) ^ k = (p : Int) ^ i * ((p : Int) ^ (j + 1) * p) := by rw [hi, Int.pow_add, show j + 2 = (j + 1) + 1 from rfl, Int.pow_succ _ (j + 1)]
      have h6 : (p : Int) ^ (j + 1) = (p : Int) ^ j * p := Int.pow_succ ..
      refine Int.eq_of_mul_eq_mul_left hq ?_
      rw [h4, h5] at h3
      show (p : Int) ^ (j + 1) * (c * (A t * V t + B t * U t)) = (p : Int) ^ (j + 1) * (p * (c * ((p : Int) ^ i * w t) - (p : Int) ^ j * (U t * V t)))
      have h7 : (p : Int) ^ (j + 1) * (p * ((p : Int) ^ j * (U t * V t))) = (p : Int) ^ (j + 1) * U t * ((p : Int) ^ (j + 1) * V t) := by
        conv => rhs; rw [h6]
        rw [← h6]
        conv => lhs; rw [← Int.mul_assoc (p : Int), Int.mul_comm (p : Int) ((p : Int) ^ j), ← h6]
        simp only [rA, rB, rC, rD, rE, rF, rG, rH, rI, rJ, rK]
      rw [Int.mul_sub, Int.mul_sub, h7]
      revert h3
      generalize (p : Int) ^ (j + 1) = q
      generalize (p : Int) ^ i = e
      simp only [rA, rB, rC, rD, rE, rF, rG, rH, rI, rJ, rK]
      omega
    have key2 := Zm.of_scal hp hc ((hA.po.mul hV).add (hB.po.mul hU)) key
    have fin : ∀ (a : Nat) (A B U V : Int → Int), Ld a 1 A → Cop p A B → Pl a U → Po V → Zm p (fun t => A t * V t + B t * U t) → Zm p U := by
      intro a A B U V hA hcop hU hV hz
      have h1 : Dv p A (fun t => B t * U t) := ⟨1, fun t => - V t, hp.2, hV.neg, hz.congr fun t => by show 1 * (B t * U t) - A t * - V t = A t * V t + B t * U t; rw [Int.mul_neg]; omega⟩
      obtain ⟨k, q, h2, h3, h4⟩ := hcop.dv hp hU.po h1
      rcases Zm.or_dm (m := p) hU with h5 | ⟨d, h5, h6⟩
      · exact h5
      · exfalso
        have h7 := h6.scal hp h2
        obtain ⟨N, h3'⟩ := h3
        rcases Zm.or_dm (m := p) h3' with h8 | ⟨e, _, h8⟩
        · exact h7.not ((h4.add (h8.mul hA.po)).congr fun t => by omega)
        · have h9 := ((Dm.of_ld hA hp.2).mul hp h8).uniq (h7.alike (h4.neg.congr fun t => by omega))
          omega
    obtain ⟨U', hU1, hU2⟩ := fin a A B U V hA hcop hUa hV key2
    obtain ⟨V', hV1, hV2⟩ := fin b B A V U hB hcop' hVb hU (key2.congr fun t => by omega)
    exact ⟨⟨U', hU1, fun t => by rw [hU', hU2, Int.pow_succ _ (j + 1), Int.mul_assoc]⟩, ⟨V', hV1, fun t => by rw [hV', hV2, Int.pow_succ _ (j + 1), Int.mul_assoc]⟩⟩

theorem hensel {p k : Nat} (hp2 : 2 ≤ p) (hp : Dom (p : Int)) (hk : 1 ≤ k) {L : List (Int → Int)} (hirr : ∀ g, g ∈ L → Irr p g) (hmon : ∀ g, g ∈ L → ∃ d, Ld d 1 g)
    {f : Int → Int} (hsq : Sq p f) {c : Int} (hc : ¬ (p : Int) ∣ c) (hL : Zm ((p : Int) ^ k) (fun t => f t - c * pA L t))
    {g h : Int → Int} {a b : Nat} {cg ch : Int} (hg : Ld a cg g) (hh : Ld b ch h) (hf : ∀ t, f t = g t * h t) (hcc : c = cg * ch) :
    ∃ s, s < 2 ^ L.length ∧ Ld a 1 (pS L s) ∧ Ld b 1 (pS L (2 ^ L.length - 1 - s)) ∧ Zm p (fun t => g t - cg * pS L s t) ∧ Zm p (fun t => h t - ch * pS L (2 ^ L.length - 1 - s) t) ∧
      Zm ((p : Int) ^ k) (fun t => ch * g t - c * pS L s t) ∧ Zm ((p : Int) ^ k) (fun t => cg * h t - c * pS L (2 ^ L.length - 1 - s) t) := by
  have hpz : (p : Int) ≠ 0 := by omega
  have hcg : ¬ (p : Int) ∣ cg := fun h => hc (by rw [hcc]; exact Int.dvd_trans h (Int.dvd_mul_right ..))
  have hch : ¬ (p : Int) ∣ ch := fun h => hc (by rw [hcc]; exact Int.dvd_trans h (Int.dvd_mul_left ..))
  have hL1 : Zm p (fun t => f t - c * pA L t) := hL.of_pow hk
  obtain ⟨s, k1, k2, s1, s2, s3, s4, s5⟩ := masks (by omega) hp L hirr c g h hc hg.po hh.po (hL1.congr fun t => by rw [hf])
  have lead : ∀ (a : Nat) (cg k1 : Int) (g A : Int → Int), Ld a cg g → ¬ (p : Int) ∣ cg → ¬ (p : Int) ∣ k1 → (∃ d, Ld d 1 A) → Zm p (fun t => g t - k1 * A t) → Ld a 1 A ∧ Zm p (fun t => g t - cg * A t) := by
    intro a cg k1 g A h1 h2 h3 ⟨d, h4⟩ h5
    have h6 : Dm p d g := (Dm.of_ld (h4.scal k1) (by rw [Int.mul_one]; exact h3)).alike h5
    obtain rfl := (Dm.of_ld h1 h2).uniq h6
    refine ⟨h4, ?_⟩
    have h7 := h5.lead (h1.sub (h4.scal k1))
    rw [Int.mul_one] at h7
    refine (h5.sub (Zm.of_dvd h4.po h7)).congr fun t => ?_
    rw [Int.sub_mul]; omega
  obtain ⟨hA, hzA⟩ := lead a cg k1 g _ hg hcg s2 (pS_ld L hmon s) s4
  obtain ⟨hB, hzB⟩ := lead b ch k2 h _ hh hch s3 (pS_ld L hmon _) s5
  have hAB : ∀ t, pS L s t * pS L (2 ^ L.length - 1 - s) t = pA L t := pS_comp L s s1
  have hcop : Cop p (pS L s) (pS L (2 ^ L.length - 1 - s)) := hsq.cop hA.po hB.po (c := c) (hL1.congr fun t => by rw [hAB])
  have hcop' : Cop p (pS L (2 ^ L.length - 1 - s)) (pS L s) := hsq.cop hB.po hA.po (c := c) (hL1.congr fun t => by rw [Int.mul_comm (pS L (2 ^ L.length - 1 - s) t), hAB])
  obtain ⟨j, rfl⟩ : ∃ j, k = j + 1 := ⟨k - 1, by omega⟩
  have h1 := lift_uniq hp2 hp hA hB hcop hcop' hg hh hcc hc (hL.congr fun t => by rw [hf, hAB]) hzA hzB j (Nat.le_refl _)
  exact ⟨s, s1, hA, hB, hzA, hzB, h1.1, h1.2⟩

end Go.Proofs.YtldcjkhbiffdoabGreatDoor
