import Derived.Test.YtldcjkhbiffdoabGreatDoorM03

set_option linter.unusedSimpArgs false
namespace Go.Proofs.YtldcjkhbiffdoabGreatDoor

def chs : Nat → Nat → Nat
  | _, 0 => 1
  | 0, _ + 1 => 0
  | n + 1, k + 1 => chs n k + chs n (k + 1)

theorem chs_big : ∀ n k, n < k → chs n k = 0
  | 0, 0, h => by omega
  | 0, k + 1, _ => rfl
  | n + 1, 0, h => by omega
  | n + 1, k + 1, h => by simp only [chs, chs_big n k (by omega), chs_big n (k + 1) (by omega)]
theorem chs_zero (n : Nat) : chs n 0 = 1 := by cases n <;> rfl
theorem chs_self : ∀ n, chs n n = 1
  | 0 => rfl
  | n + 1 => by simp only [chs, chs_self n, chs_big n (n + 1) (by omega)]
theorem chs_mul : ∀ n k, (k + 1) * chs (n + 1) (k + 1) = (n + 1) * chs n k
  | 0, 0 => rfl
  | 0, k + 1 => by simp [chs]
  | n + 1, 0 => by
    have h1 := chs_mul n 0
    simp only [chs, chs_zero] at h1 ⊢
    omega
  | n + 1, k + 1 => by
    have h1 := chs_mul n k
    have h2 := chs_mul n (k + 1)
    have h3 : chs (n + 1 + 1) (k + 1 + 1) = chs (n + 1) (k + 1) + chs (n + 1) (k + 1 + 1) := rfl
    have h4 : chs (n + 1) (k + 1) = chs n k + chs n (k + 1) := rfl
    rw [h3, Nat.mul_add, h2]
    have h5 : (k + 1 + 1) * chs (n + 1) (k + 1) = (k + 1) * chs (n + 1) (k + 1) + chs (n + 1) (k + 1) := Nat.succ_mul ..
    rw [h5, h1]
    have h6 : (n + 1 + 1) * chs (n + 1) (k + 1) = (n + 1) * chs (n + 1) (k + 1) + chs (n + 1) (k + 1) := Nat.succ_mul ..
    rw [h6]
    have h7 : (n + 1) * chs (n + 1) (k + 1) = (n + 1) * chs n k + (n + 1) * chs n (k + 1) := by rw [h4, Nat.mul_add]
    omega

theorem chs_dvd {p : Nat} (hp2 : 2 ≤ p) (hp : Dom (p : Int)) {k : Nat} (h0 : 0 < k) (hk : k < p) : (p : Int) ∣ (chs p k : Int) := by
  obtain ⟨n, rfl⟩ : ∃ n, p = n + 1 := ⟨p - 1, by omega⟩
  obtain ⟨j, rfl⟩ : ∃ j, k = j + 1 := ⟨k - 1, by omega⟩
  have h := chs_mul n j
  have h1 : ((n + 1 : Nat) : Int) ∣ ((j + 1 : Nat) : Int) * (chs (n + 1) (j + 1) : Int) := by
    rw [← Int.natCast_mul, h, Int.natCast_mul]
    exact Int.dvd_mul_right ..
  refine (hp.1 _ _ h1).resolve_left fun h2 => ?_
  have := Nat.le_of_dvd (by omega) (Int.natCast_dvd_natCast.1 h2)
  omega

theorem binom (x y : Int) : ∀ n, (x + y) ^ n = sm (fun k => (chs n k : Int) * (x ^ k * y ^ (n - k))) (n + 1)
  | 0 => by simp [sm, chs]
  | n + 1 => by
    rw [Int.pow_succ, binom x y n, Int.mul_add, Int.mul_comm _ x, Int.mul_comm _ y, ← sm_scal, ← sm_scal]
    have e1 : sm (fun k => x * ((chs n k : Int) * (x ^ k * y ^ (n - k)))) (n + 1) = sm (fun k => (chs n k : Int) * (x ^ (k + 1) * y ^ (n - k))) (n + 1) := by
      refine sm_congr _ fun k _ => ?_
      rw [Int.pow_succ]
      generalize x ^ k = a
      simp only [rA, rB, rC, rD, rE, rF, rG, rH, rI, rJ, rK]
    have e2 : sm (fun k => y * ((chs n k : Int) * (x ^ k * y ^ (n - k)))) (n + 1) = y ^ (n + 1) + sm (fun k => (chs n (k + 1) : Int) * (x ^ (k + 1) * y ^ (n - k))) (n + 1) := by
      have : sm (fun k => y * ((chs n k : Int) * (x ^ k * y ^ (n - k)))) (n + 1) = sm (fun k => (chs n k : Int) * (x ^ k * y ^ (n + 1 - k))) (n + 1) := by
        refine sm_congr _ fun k hk => ?_
        rw [show n + 1 - k = (n - k) + 1 by omega, Int.pow_succ]
        generalize y ^ (n - k) = a
        simp only [rA, rB, rC, rD, rE, rF, rG, rH, rI, rJ, rK]
      rw [this, sm_first]
      simp only [sm, chs_zero, Nat.sub_zero, Int.pow_zero, Int.one_mul, Int.natCast_one]
      rw [chs_big n (n + 1) (by omega)]
      have : sm (fun k => (chs n (k + 1) : Int) * (x ^ (k + 1) * y ^ (n + 1 - (k + 1)))) n = sm (fun k => (chs n (k + 1) : Int) * (x ^ (k + 1) * y ^ (n - k))) n := by
        refine sm_congr _ fun k _ => ?_
        rw [show n + 1 - (k + 1) = n - k by omega]
      rw [this]; simp
    rw [e1, e2, sm_first _ (n + 1)]
    have e3 : sm (fun k => (chs (n + 1) (k + 1) : Int) * (x ^ (k + 1) * y ^ (n + 1 - (k + 1)))) (n + 1) = sm (fun k => (chs n k : Int) * (x ^ (k + 1) * y ^ (n - k))) (n + 1) + sm (fun k => (chs n (k + 1) : Int) * (x ^ (k + 1) * y ^ (n - k))) (n + 1) := by
      rw [← sm_add]
      refine sm_congr _ fun k _ => ?_
      rw [show n + 1 - (k + 1) = n - k by omega, show chs (n + 1) (k + 1) = chs n k + chs n (k + 1) from rfl, Int.natCast_add, Int.add_mul]
    rw [e3]
    simp [chs_zero]
    omega

theorem Po.sm {F : Nat → Int → Int} : ∀ n, (∀ k, k < n → Po (F k)) → Po (fun t => Go.Proofs.YtldcjkhbiffdoabGreatDoor.sm (fun k => F k t) n)
  | 0, _ => Po.zero
  | n + 1, h => (Po.sm n fun k hk => h k (by omega)).add (h n (by omega))
theorem Zm.sm {m : Int} {F : Nat → Int → Int} : ∀ n, (∀ k, k < n → Zm m (F k)) → Zm m (fun t => Go.Proofs.YtldcjkhbiffdoabGreatDoor.sm (fun k => F k t) n)
  | 0, _ => Zm.of_zero m fun _ => rfl
  | n + 1, h => (Zm.sm n fun k hk => h k (by omega)).add (h n (by omega))

theorem frob_add {p : Nat} (hp2 : 2 ≤ p) (hp : Dom (p : Int)) {f g : Int → Int} (hf : Po f) (hg : Po g) : Zm p (fun t => (f t + g t) ^ p - (f t ^ p + g t ^ p)) := by
  obtain ⟨n, hn⟩ : ∃ n, p = n + 1 := ⟨p - 1, by omega⟩
  have h1 : Zm p (fun t => sm (fun k => (chs p (k + 1) : Int) * (f t ^ (k + 1) * g t ^ (p - (k + 1)))) n) :=
    Zm.sm n fun k hk => Zm.of_dvd ((hf.pow _).mul (hg.pow _)) (chs_dvd hp2 hp (by omega) (by omega))
  refine h1.congr fun t => ?_
  rw [binom, sm_first]
  have h2 : sm (fun k => (chs p (k + 1) : Int) * (f t ^ (k + 1) * g t ^ (p - (k + 1)))) p = sm (fun k => (chs p (k + 1) : Int) * (f t ^ (k + 1) * g t ^ (p - (k + 1)))) n + f t ^ p := by
    conv => lhs; arg 2; rw [hn]
    simp only [sm]
    congr 1
    rw [← hn, chs_self, Nat.sub_self]; simp
  rw [h2, chs_zero]
  simp
  omega

theorem fermat {p : Nat} (hp2 : 2 ≤ p) (hp : Dom (p : Int)) : ∀ a : Nat, (p : Int) ∣ (a : Int) ^ p - a
  | 0 => by
    obtain ⟨n, rfl⟩ : ∃ n, p = n + 1 := ⟨p - 1, by omega⟩
    rw [Int.pow_succ]; simp
  | a + 1 => by
    have h1 := (frob_add hp2 hp (Po.const (a : Int)) (Po.const 1)).const
    have h2 := fermat hp2 hp a
    have h3 := Int.dvd_add h1 h2
    rw [Int.one_pow] at h3
    rw [show ((a + 1 : Nat) : Int) = (a : Int) + 1 by omega]
    have h4 : ((a : Int) + 1) ^ p - ((a : Int) ^ p + 1) + ((a : Int) ^ p - a) = ((a : Int) + 1) ^ p - ((a : Int) + 1) := by omega
    rwa [h4] at h3

theorem frob {p : Nat} (hp2 : 2 ≤ p) (hp : Dom (p : Int)) : ∀ l : List Int, (∀ a, a ∈ l → 0 ≤ a) → Zm p (fun t => ev t l ^ p - ev (t ^ p) l)
  | [], _ => Zm.of_zero _ fun t => by
    obtain ⟨n, rfl⟩ : ∃ n, p = n + 1 := ⟨p - 1, by omega⟩
    simp only [ev]; rw [Int.pow_succ]; simp
  | a :: l, h => by
    have ih := frob hp2 hp l fun x hx => h x (List.mem_cons_of_mem _ hx)
    have ha : 0 ≤ a := h a (List.mem_cons_self ..)
    have h1 := frob_add hp2 hp (Po.const a) ((Po.xpow 1).mul (Po.ev l))
    have h2 := fermat hp2 hp a.toNat
    rw [show ((a.toNat : Nat) : Int) = a by omega] at h2
    have h3 : Zm p (fun _ => (a ^ p - a) * 1) := Zm.of_dvd (Po.const 1) h2
    refine ((h1.add h3).add (ih.mul (Po.xpow p))).congr fun t => ?_
    simp only [ev]
    show (a + t * ev t l) ^ p - (a + t ^ p * ev (t ^ p) l) = (a + t ^ 1 * ev t l) ^ p - (a ^ p + (t ^ 1 * ev t l) ^ p) + (a ^ p - a) * 1 + t ^ p * (ev t l ^ p - ev (t ^ p) l)
    rw [Int.pow_one, Int.mul_pow, Int.mul_sub]
    omega

theorem root_div (a : Int) : ∀ l : List Int, ∃ m : List Int, m.length ≤ l.length - 1 ∧ ∀ t, ev t l = ev a l + (t - a) * ev t m
  | [] => ⟨[], by simp, fun t => by simp [ev]⟩
  | c :: l => by
    obtain ⟨m, h1, h2⟩ := root_div a l
    cases l with
    | nil => exact ⟨[], by simp, fun t => by simp [ev]⟩
    | cons b l =>
      refine ⟨ev a (b :: l) :: m, by simp at h1 ⊢; omega, fun t => ?_⟩
      simp only [ev] at h2 ⊢
      have h3 := h2 t
      rw [h3]
      simp only [rA, rB, rC, rD, rE, rF, rG, rH, rI, rJ, rK]
      omega

theorem lagrange {p : Nat} (hp2 : 2 ≤ p) (hp : Dom (p : Int)) : ∀ n, n ≤ p → ∀ l : List Int, l.length ≤ n → (∀ a : Nat, a < n → (p : Int) ∣ ev a l) → Zm p (fun t => ev t l)
  | 0, _, l, h, _ => by
    obtain rfl : l = [] := List.length_eq_zero_iff.1 (by omega)
    exact Zm.of_zero _ fun _ => rfl
  | n + 1, hn, l, h, ha => by
    obtain ⟨m, h1, h2⟩ := root_div (n : Int) l
    have h3 := lagrange hp2 hp n (by omega) m (by omega) (fun a han => by
      have h4 := ha a (by omega)
      have h5 := ha n (by omega)
      rw [h2 a] at h4
      have h6 : (p : Int) ∣ ((a : Int) - n) * ev a m := (Int.dvd_add_right h5).1 h4
      refine (hp.1 _ _ h6).resolve_left fun h7 => ?_
      have h8 := Int.eq_zero_of_dvd_of_natAbs_lt_natAbs h7 (by rw [Int.natAbs_natCast]; omega)
      omega)
    obtain ⟨c, hc⟩ := ha n (by omega)
    have h4 : Zm p (fun _ => (p : Int) * c) := ⟨fun _ => c, Po.const c, fun _ => rfl⟩
    refine (h4.add (h3.mul ((Po.xpow 1).sub (Po.const n)))).congr fun t => ?_
    rw [h2 t, hc, Int.pow_one]

def less : Nat → Int → Int
  | 0 => fun _ => 1
  | n + 1 => fun y => less n y * (y - n)

theorem less_ld : ∀ n, Ld n 1 (less n)
  | 0 => Ld.const 1
  | n + 1 => by
    have h1 : Ld 1 1 (fun y : Int => y - n) := ⟨fun _ => -(n : Int), Pl.const _, fun t => by show t - n = 1 * t ^ 1 + -(n : Int); rw [Int.pow_one]; omega⟩
    exact (less_ld n).mul h1
theorem less_root : ∀ n (a : Nat), a < n → less n a = 0
  | 0, a, h => by omega
  | n + 1, a, h => by
    show less n a * ((a : Int) - n) = 0
    rcases (show a = n ∨ a < n by omega) with rfl | h1
    · rw [Int.sub_self, Int.mul_zero]
    · rw [less_root n a h1, Int.zero_mul]

theorem less_p {p : Nat} (hp2 : 2 ≤ p) (hp : Dom (p : Int)) : Zm p (fun y => less p y - (y ^ p - y)) := by
  have h1 : Pl p (fun y => less p y - (y ^ p - y)) := by
    have h2 : Ld p (1 - (1 - 0)) (fun y => less p y - (y ^ p - y)) := by
      refine (less_ld p).sub (Ld.one_pow.sub (Ld.of_pl ?_))
      exact ((Pl.xpow 1).mono (by omega)).congr fun t => (Int.pow_one t).symm
    exact h2.to_pl
  obtain ⟨l, h3, h4⟩ := h1
  refine (lagrange hp2 hp p (Nat.le_refl _) l h3 fun a ha => ?_).congr h4
  rw [← h4]
  show (p : Int) ∣ less p a - ((a : Int) ^ p - a)
  rw [less_root p a ha, Int.zero_sub]
  exact Int.dvd_neg.2 (fermat hp2 hp a)

theorem Po.comp {f : Int → Int} (hf : Po f) {v : Int → Int} (hv : Po v) : Po (fun t => f (v t)) := by
  obtain ⟨n, l, _, h2⟩ := hf
  have : ∀ l : List Int, Po (fun t => Go.Proofs.YtldcjkhbiffdoabGreatDoor.ev (v t) l) := by
    intro l
    induction l with
    | nil => exact Po.zero
    | cons a l ih => exact (Po.const a).add (hv.mul ih)
  exact (this l).congr fun t => h2 (v t)
theorem Zm.comp {m : Int} {f : Int → Int} (hf : Zm m f) {v : Int → Int} (hv : Po v) : Zm m (fun t => f (v t)) := by
  obtain ⟨g, h1, h2⟩ := hf
  exact ⟨_, h1.comp hv, fun t => h2 (v t)⟩

theorem berl_prod {p : Nat} (hp2 : 2 ≤ p) (hp : Dom (p : Int)) {l : List Int} (hl : ∀ a, a ∈ l → 0 ≤ a) : Zm p (fun t => less p (ev t l) - (ev (t ^ p) l - ev t l)) :=
  (((less_p hp2 hp).comp (Po.ev l)).add (frob hp2 hp l hl)).congr fun t => by omega

end Go.Proofs.YtldcjkhbiffdoabGreatDoor

set_option linter.unusedSimpArgs false
namespace Go.Proofs.YtldcjkhbiffdoabGreatDoor

def Di (m : Int) (f g : Int → Int) : Prop := ∃ s, Po s ∧ Zm m (fun t => g t - f t * s t)

theorem Di.dv {m : Int} (hm : Dom m) {f g : Int → Int} (h : Di m f g) : Dv m f g := by
  obtain ⟨s, h1, h2⟩ := h
  exact ⟨1, s, hm.2, h1, h2.congr fun t => by omega⟩
theorem Dv.di {p : Nat} (hp0 : 0 < p) (hp : Dom (p : Int)) {f g : Int → Int} (hg : Po g) (h : Dv p f g) : Di p f g := by
  obtain ⟨k, s, h1, h2, h3⟩ := h
  obtain ⟨k', e, he⟩ := hp.inv hp0 h1
  refine ⟨fun t => k' * s t, h2.scal k', ((h3.scal k').sub (Zm.of_dvd hg (c := k * k' - 1) ⟨e, he⟩)).congr fun t => ?_⟩
  show g t - f t * (k' * s t) = k' * (k * g t - f t * s t) - (k * k' - 1) * g t
  simp only [rA, rB, rC, rD, rE, rF, rG, rH, rI, rJ, rK]
  omega
theorem Di.mul {m : Int} {f g h : Int → Int} (hh : Po h) (hd : Di m f g) : Di m f (fun t => h t * g t) := by
  obtain ⟨s, h1, h2⟩ := hd
  exact ⟨fun t => h t * s t, hh.mul h1, (h2.mul hh).congr fun t => by
    show h t * g t - f t * (h t * s t) = h t * (g t - f t * s t)
    simp only [rA, rB, rC, rD, rE, rF, rG, rH, rI, rJ, rK]⟩
theorem Di.add {m : Int} {f g h : Int → Int} (hd : Di m f g) (hd' : Di m f h) : Di m f (fun t => g t + h t) := by
  obtain ⟨s, h1, h2⟩ := hd
  obtain ⟨s', h3, h4⟩ := hd'
  exact ⟨fun t => s t + s' t, h1.add h3, (h2.add h4).congr fun t => by
    show g t + h t - f t * (s t + s' t) = g t - f t * s t + (h t - f t * s' t)
    rw [Int.mul_add]; omega⟩
theorem Di.alike {m : Int} {f g h : Int → Int} (hd : Di m f g) (hz : Zm m (fun t => h t - g t)) : Di m f h := by
  obtain ⟨s, h1, h2⟩ := hd
  exact ⟨s, h1, (h2.add hz).congr fun t => by omega⟩
theorem Di.sub {m : Int} {f g h : Int → Int} (hd : Di m f g) (hd' : Di m f h) : Di m f (fun t => g t - h t) :=
  (hd.add (hd'.mul (Po.const (-1)))).alike (Zm.of_zero _ fun t => by omega)
theorem Di.trans {m : Int} {f g h : Int → Int} (hd : Di m f g) (hd' : Di m g h) : Di m f h := by
  obtain ⟨s, h1, h2⟩ := hd
  obtain ⟨s', h3, h4⟩ := hd'
  exact ⟨fun t => s t * s' t, h1.mul h3, (h4.add (h2.mul h3)).congr fun t => by
    show h t - f t * (s t * s' t) = h t - g t * s' t + s' t * (g t - f t * s t)
    simp only [rA, rB, rC, rD, rE, rF, rG, rH, rI, rJ, rK]
    omega⟩
theorem Di.of_eq {m : Int} {f g s : Int → Int} (hs : Po s) (h : ∀ t, g t = f t * s t) : Di m f g := ⟨s, hs, Zm.of_zero _ fun t => by rw [h]; omega⟩
theorem Di.of_zm {m : Int} {f g : Int → Int} (h : Zm m g) : Di m f g := ⟨fun _ => 0, Po.zero, h.congr fun t => by simp⟩

theorem Cop.idem {p : Nat} (hp0 : 0 < p) (hp : Dom (p : Int)) {a b : Int → Int} (ha : Po a) (h : Cop p a b) : ∃ e, Po e ∧ Di p a e ∧ Di p b (fun t => e t - 1) := by
  obtain ⟨u, v, c, h1, h2, h3, h4⟩ := h
  obtain ⟨k, w, hw⟩ := hp.inv hp0 h3
  refine ⟨fun t => k * (u t * a t), (h1.mul ha).scal k, Di.of_eq (s := fun t => k * u t) (h1.scal k) fun t => by simp only [rA, rB, rC, rD, rE, rF, rG, rH, rI, rJ, rK], ?_⟩
  refine ⟨fun t => - (k * v t), (h2.scal k).neg, ((h4.scal k).add (Zm.of_dvd (Po.const 1) (c := c * k - 1) ⟨w, hw⟩)).congr fun t => ?_⟩
  show k * (u t * a t) - 1 - b t * - (k * v t) = k * (u t * a t + v t * b t - c) + (c * k - 1) * 1
  simp only [rA, rB, rC, rD, rE, rF, rG, rH, rI, rJ, rK]
  omega

theorem Di.both {p : Nat} (hp0 : 0 < p) (hp : Dom (p : Int)) {a b g : Int → Int} (hb : Po b) (hc : Cop p a b) (h1 : Di p a g) (h2 : Di p b g) : Di p (fun t => a t * b t) g := by
  obtain ⟨s, h3, h4⟩ := h2
  have h5 : Dv p a (fun t => b t * s t) := (h1.dv hp).alike (h4.neg.congr fun t => by omega)
  obtain ⟨r, h6, h7⟩ := (hc.dv hp h3 h5).di hp0 hp h3
  refine ⟨r, h6, (h4.add (h7.mul hb)).congr fun t => ?_⟩
  show g t - a t * b t * r t = g t - b t * s t + b t * (s t - a t * r t)
  simp only [rA, rB, rC, rD, rE, rF, rG, rH, rI, rJ, rK]
  omega

theorem pow_sub {m : Int} {a e : Int → Int} (he : Po e) (h : Di m a (fun t => e t - 1)) : ∀ n, Di m a (fun t => e t ^ n - 1)
  | 0 => Di.of_zm (Zm.of_zero _ fun t => by simp)
  | n + 1 => ((pow_sub he h n).mul he |>.add h).alike (Zm.of_zero _ fun t => by
      show e t ^ (n + 1) - 1 - (e t * (e t ^ n - 1) + (e t - 1)) = 0
      rw [Int.pow_succ, Int.mul_sub, Int.mul_comm (e t ^ n)]
      omega)

theorem reduce {p : Nat} (hp0 : 0 < p) {n : Nat} {f : Int → Int} (hf : Pl n f) : ∃ l : List Int, l.length ≤ n ∧ (∀ a, a ∈ l → 0 ≤ a ∧ a < p) ∧ Zm p (fun t => f t - ev t l) := by
  obtain ⟨l, h1, h2⟩ := hf
  refine ⟨l.map fun a => a % p, by simpa using h1, fun a ha => ?_, ⟨fun t => ev t (l.map fun a => a / p), Po.ev _, fun t => ?_⟩⟩
  · obtain ⟨x, _, rfl⟩ := List.mem_map.1 ha
    exact ⟨Int.emod_nonneg _ (by omega), Int.emod_lt_of_pos _ (by omega)⟩
  · show f t - ev t (l.map fun a => a % p) = p * ev t (l.map fun a => a / p)
    rw [h2]
    have : ∀ l : List Int, ev t l = ev t (l.map fun a => a % p) + p * ev t (l.map fun a => a / p) := by
      intro l
      induction l with
      | nil => simp [ev]
      | cons a l ih =>
        have h3 := Int.mul_ediv_add_emod a p
        simp only [List.map_cons, ev, Int.mul_add]
        rw [ih, Int.mul_add, Int.mul_left_comm]
        omega
    have := this l
    omega

theorem rest_of {p : Nat} (hp0 : 0 < p) (hp : Dom (p : Int)) {n : Nat} {f g : Int → Int} (hf : Dm p n f) (hg : Po g) : ∃ r, Pl n r ∧ Di p f (fun t => g t - r t) := by
  obtain ⟨d, f0, h1, h2, h3⟩ := hf
  obtain ⟨N, hg'⟩ := hg
  obtain ⟨j, q, r, h4, h5, h6⟩ := pdiv h2 hg'
  obtain ⟨k, e, he⟩ := hp.inv hp0 (hp.pow h1 j)
  refine ⟨fun t => k * r t, h5.scal k, fun t => k * q t, h4.scal k, ?_⟩
  refine ((Zm.of_dvd hg'.po (c := d ^ j * k - 1) ⟨e, he⟩).neg.sub (h3.mul (h4.scal k))).congr fun t => ?_
  have h7 := congrArg (fun z => k * z) (h6 t)
  show g t - k * r t - f t * (k * q t) = - ((d ^ j * k - 1) * g t) - k * q t * (f t - f0 t)
  revert h7
  generalize d ^ j = x
  simp only [rA, rB, rC, rD, rE, rF, rG, rH, rI, rJ, rK]
  omega

def Fix (p : Nat) (f : Int → Int) (l : List Int) : Prop := Di p f (fun t => ev (t ^ p) l - ev t l)

theorem idem_fix {p : Nat} (hp2 : 2 ≤ p) (hp : Dom (p : Int)) {a b f : Int → Int} {c : Int} (ha : Po a) (hb : Po b) (hc : Cop p a b) (hcc : ¬ (p : Int) ∣ c) (hz : Zm p (fun t => f t - c * (a t * b t))) {l : List Int} (hl : ∀ x, x ∈ l → 0 ≤ x) (h1 : Di p a (fun t => ev t l)) (h2 : Di p b (fun t => ev t l - 1)) : Fix p f l := by
  have he := Po.ev l
  have h3 : Di p a (fun t => ev t l ^ p - ev t l) := by
    obtain ⟨n, hn⟩ : ∃ n, p = n + 1 := ⟨p - 1, by omega⟩
    have h4 : Di p a (fun t => ev t l ^ p) := (h1.mul (he.pow n)).alike (Zm.of_zero _ fun t => by
      conv => lhs; lhs; rw [hn, Int.pow_succ]
      omega)
    exact h4.sub h1
  have h4 : Di p b (fun t => ev t l ^ p - ev t l) := ((pow_sub he h2 p).sub h2).alike (Zm.of_zero _ fun t => by omega)
  have h5 := Di.both (by omega) hp hb hc h3 h4
  obtain ⟨k, e, hk⟩ := hp.inv (by omega) hcc
  have h6 : Di p f (fun t => a t * b t) := by
    refine ⟨fun _ => k, Po.const k, ((hz.scal k).neg.sub (Zm.of_dvd (ha.mul hb) (c := c * k - 1) ⟨e, hk⟩)).congr fun t => ?_⟩
    show a t * b t - f t * k = - (k * (f t - c * (a t * b t))) - (c * k - 1) * (a t * b t)
    simp only [rA, rB, rC, rD, rE, rF, rG, rH, rI, rJ, rK]
    omega
  exact (h6.trans h5).alike ((frob hp2 hp l hl).neg.congr fun t => by omega)

def lin : List Int → List (Int → Int) → Int → Int
  | c :: cs, b :: B => fun t => c * b t + lin cs B t
  | _, _ => fun _ => 0

def InSpan (p : Nat) (B : List (Int → Int)) (v : Int → Int) : Prop := ∃ cs : List Int, cs.length = B.length ∧ Zm p (fun t => v t - lin cs B t)

def Spans (p n : Nat) (f : Int → Int) (B : List (Int → Int)) : Prop := ∀ l : List Int, l.length ≤ n → (∀ x, x ∈ l → 0 ≤ x ∧ x < p) → Fix p f l → InSpan p B (fun t => ev t l)

theorem apart {p n : Nat} (hp2 : 2 ≤ p) (hp : Dom (p : Int)) {f : Int → Int} (hfd : Dm p n f) (hsq : Sq p f) {B : List (Int → Int)} (hB : Spans p n f B) {a b : Int → Int} {c : Int} (ha : Po a) (hb : Po b) (hc : ¬ (p : Int) ∣ c) (hz : Zm p (fun t => f t - c * (a t * b t))) :
    ∃ e, Po e ∧ Di p a e ∧ Di p b (fun t => e t - 1) ∧ InSpan p B e := by
  have hcop := hsq.cop ha hb hz
  obtain ⟨e, h1, h2, h3⟩ := hcop.idem (by omega) hp ha
  obtain ⟨r, h4, h5⟩ := rest_of (by omega) hp hfd h1
  obtain ⟨l, h6, h7, h8⟩ := reduce (p := p) (by omega) h4
  have hfa : Di p a f := ⟨fun t => c * b t, hb.scal c, hz.congr fun t => by
    show f t - a t * (c * b t) = f t - c * (a t * b t)
    rw [Int.mul_left_comm]⟩
  have hfb : Di p b f := ⟨fun t => c * a t, ha.scal c, hz.congr fun t => by
    show f t - b t * (c * a t) = f t - c * (a t * b t)
    rw [Int.mul_left_comm, Int.mul_comm (b t)]⟩
  have d1 : Di p a (fun t => ev t l) := ((h2.sub (hfa.trans h5)).alike (g := fun t => e t - (e t - r t)) (h8.neg.congr fun t => by omega))
  have d2 : Di p b (fun t => ev t l - 1) := ((h3.sub (hfb.trans h5)).alike (g := fun t => e t - 1 - (e t - r t)) (h8.neg.congr fun t => by omega))
  exact ⟨_, Po.ev l, d1, d2, hB l h6 h7 (idem_fix hp2 hp ha hb hcop hc hz (fun x hx => (h7 x hx).1) d1 d2)⟩

theorem lin_const {p : Nat} {u : Int → Int} : ∀ (cs : List Int) (B : List (Int → Int)), (∀ b, b ∈ B → ∃ k, Di p u (fun t => b t - k)) → ∃ k : Int, Di p u (fun t => lin cs B t - k)
  | [], B, _ => ⟨0, Di.of_zm (Zm.of_zero _ fun t => by cases B <;> simp [lin])⟩
  | c :: cs, [], _ => ⟨0, Di.of_zm (Zm.of_zero _ fun t => by simp [lin])⟩
  | c :: cs, b :: B, h => by
    obtain ⟨k, h1⟩ := h b (List.mem_cons_self ..)
    obtain ⟨k', h2⟩ := lin_const cs B fun x hx => h x (List.mem_cons_of_mem _ hx)
    refine ⟨c * k + k', ((h1.mul (Po.const c)).add h2).alike (Zm.of_zero _ fun t => ?_)⟩
    show c * b t + lin cs B t - (c * k + k') - (c * (b t - k) + (lin cs B t - k')) = 0
    rw [Int.mul_sub]; omega

theorem not_di_const {p : Nat} (hp : Dom (p : Int)) {u : Int → Int} (hu : Po u) (h0 : ¬ Dm p 0 u) {k : Int} (h : Di p u (fun _ => k)) : (p : Int) ∣ k := by
  refine Classical.byContradiction fun hk => ?_
  obtain ⟨s, h1, h2⟩ := h
  obtain ⟨⟨e, h3, h4⟩, _⟩ := consts hp hk hu h1 (h2.neg.congr fun t => by show u t * s t - k = - (k - u t * s t); omega)
  exact h0 ((Dm.of_ld (Ld.const e) h3).alike h4)

theorem not_irr {p : Nat} {u : Int → Int} (hu : Po u) (h1 : ¬ Zm p u) (h2 : ¬ Dm p 0 u) (h : ¬ Irr p u) : ∃ (a b : Int → Int) (c : Int), Po a ∧ Po b ∧ ¬ (p : Int) ∣ c ∧ Zm p (fun t => c * u t - a t * b t) ∧ ¬ Dm p 0 a ∧ ¬ Dm p 0 b := by
  refine Classical.byContradiction fun hn => h ⟨hu, h1, h2, fun a b c g1 g2 g3 g4 => ?_⟩
  exact Classical.byContradiction fun h5 => hn ⟨a, b, c, g1, g2, g3, g4, fun h => h5 (Or.inl h), fun h => h5 (Or.inr h)⟩

theorem berl_full {p n : Nat} (hp2 : 2 ≤ p) (hp : Dom (p : Int)) {f : Int → Int} (hfd : Dm p n f) (hsq : Sq p f) {B : List (Int → Int)} (hB : Spans p n f B) {u w : Int → Int} {c : Int} (hu : Po u) (hw : Po w) (hc : ¬ (p : Int) ∣ c) (hz : Zm p (fun t => f t - c * (u t * w t)))
    (h0 : ¬ Dm p 0 u) (hcn : ∀ b, b ∈ B → ∃ k, Di p u (fun t => b t - k)) : Irr p u := by
  refine Classical.byContradiction fun hi => ?_
  have hnz : ¬ Zm p u := fun h => hfd.not ((hz.add ((h.mul hw).scal c)).congr fun t => by rw [Int.mul_comm (w t)]; omega)
  obtain ⟨a, b, k, h1, h2, h3, h4, h5, h6⟩ := not_irr hu hnz h0 hi
  obtain ⟨k', e, hk⟩ := hp.inv (by omega) h3
  have hk' : ¬ (p : Int) ∣ k' := fun h => hp.2 (by
    have := Int.dvd_sub (Int.dvd_trans h (Int.dvd_mul_left k k')) ⟨e, hk⟩
    rwa [show k * k' - (k * k' - 1) = 1 by omega] at this)
  -- f is c k' a (b w)
  have hz2 : Zm p (fun t => f t - c * k' * (a t * (b t * w t))) := by
    refine ((hz.add ((h4.mul hw).scal (c * k'))).sub (Zm.of_dvd ((hu.mul hw).scal c) (c := k * k' - 1) ⟨e, hk⟩)).congr fun t => ?_
    show f t - c * k' * (a t * (b t * w t)) = f t - c * (u t * w t) + c * k' * (w t * (k * u t - a t * b t)) - (k * k' - 1) * (c * (u t * w t))
    simp only [rA, rB, rC, rD, rE, rF, rG, rH, rI, rJ, rK]
    omega
  obtain ⟨ε, g1, g2, g3, cs, _, g4⟩ := apart hp2 hp hfd hsq hB h1 (h2.mul hw) (hp.mul hc hk') hz2
  obtain ⟨κ, g5⟩ := lin_const cs B hcn
  have g6 : Di p u (fun t => ε t - κ) := g5.alike (g4.congr fun t => by omega)
  have hua : Di p a u := by
    refine ⟨fun t => k' * b t, h2.scal k', ((h4.scal k').sub (Zm.of_dvd hu (c := k * k' - 1) ⟨e, hk⟩)).congr fun t => ?_⟩
    show u t - a t * (k' * b t) = k' * (k * u t - a t * b t) - (k * k' - 1) * u t
    simp only [rA, rB, rC, rD, rE, rF, rG, rH, rI, rJ, rK]
    omega
  have hub : Di p b u := by
    refine ⟨fun t => k' * a t, h1.scal k', ((h4.scal k').sub (Zm.of_dvd hu (c := k * k' - 1) ⟨e, hk⟩)).congr fun t => ?_⟩
    show u t - b t * (k' * a t) = k' * (k * u t - a t * b t) - (k * k' - 1) * u t
    simp only [rA, rB, rC, rD, rE, rF, rG, rH, rI, rJ, rK]
    omega
  have hbw : Di p b (fun t => b t * w t) := Di.of_eq hw fun _ => rfl
  have k1 := not_di_const hp h1 h5 (k := κ) ((g2.sub (hua.trans g6)).alike (Zm.of_zero _ fun t => by omega))
  have k2 := not_di_const hp h2 h6 (k := κ - 1) (((hbw.trans g3).sub (hub.trans g6)).alike (Zm.of_zero _ fun t => by omega))
  apply hp.2
  have := Int.dvd_sub k1 k2
  rwa [show κ - (κ - 1) = 1 by omega] at this


theorem lin_snoc : ∀ (cs : List Int) (B : List (Int → Int)) (c : Int) (b : Int → Int) (t : Int), cs.length = B.length → lin (cs ++ [c]) (B ++ [b]) t = lin cs B t + c * b t
  | [], [], c, b, t, _ => by simp [lin]
  | [], b' :: B, c, b, t, h => by simp at h
  | c' :: cs, [], c, b, t, h => by simp at h
  | c' :: cs, b' :: B, c, b, t, h => by
    show c' * b' t + lin (cs ++ [c]) (B ++ [b]) t = c' * b' t + lin cs B t + c * b t
    rw [lin_snoc cs B c b t (by simpa using h)]; omega
theorem InSpan.snoc {p : Nat} {B : List (Int → Int)} {b v : Int → Int} {c : Int} (h : InSpan p B (fun t => v t - c * b t)) : InSpan p (B ++ [b]) v := by
  obtain ⟨cs, h1, h2⟩ := h
  refine ⟨cs ++ [c], by simp [h1], h2.congr fun t => ?_⟩
  rw [lin_snoc cs B c b t h1]
  show v t - (lin cs B t + c * b t) = v t - c * b t - lin cs B t
  omega
theorem InSpan.unsnoc {p : Nat} {B : List (Int → Int)} {b v : Int → Int} (h : InSpan p (B ++ [b]) v) : ∃ c : Int, InSpan p B (fun t => v t - c * b t) := by
  obtain ⟨cs, h1, h2⟩ := h
  have hne : cs ≠ [] := by intro e; subst e; simp at h1
  refine ⟨cs.getLast hne, cs.dropLast, by simp at h1 ⊢; omega, h2.congr fun t => ?_⟩
  have h3 := lin_snoc cs.dropLast B (cs.getLast hne) b t (by simp at h1 ⊢; omega)
  rw [List.dropLast_concat_getLast] at h3
  rw [h3]
  show v t - cs.getLast hne * b t - lin cs.dropLast B t = _
  omega
theorem InSpan.alike {p : Nat} {B : List (Int → Int)} {v w : Int → Int} (h : InSpan p B v) (hz : Zm p (fun t => w t - v t)) : InSpan p B w := by
  obtain ⟨cs, h1, h2⟩ := h
  exact ⟨cs, h1, (h2.add hz).congr fun t => by omega⟩

def Dep (p : Nat) (es : List (Int → Int)) : Prop := ∃ ds : List Int, ds.length = es.length ∧ (∃ i, ¬ (p : Int) ∣ ds.getD i 0) ∧ Zm p (lin ds es)

theorem lin_add : ∀ (es : List (Int → Int)) (cs ds : List Int), cs.length = es.length → ds.length = es.length → ∃ fs : List Int, fs.length = es.length ∧ ∀ t, lin fs es t = lin cs es t + lin ds es t
  | [], cs, ds, h1, h2 => ⟨[], rfl, fun t => by
    obtain rfl : cs = [] := List.length_eq_zero_iff.1 (by simpa using h1)
    obtain rfl : ds = [] := List.length_eq_zero_iff.1 (by simpa using h2)
    simp [lin]⟩
  | e :: es, cs, ds, h1, h2 => by
    cases cs with
    | nil => simp at h1
    | cons c cs =>
      cases ds with
      | nil => simp at h2
      | cons d ds =>
        obtain ⟨fs, h3, h4⟩ := lin_add es cs ds (by simpa using h1) (by simpa using h2)
        refine ⟨(c + d) :: fs, by simp [h3], fun t => ?_⟩
        show (c + d) * e t + lin fs es t = c * e t + lin cs es t + (d * e t + lin ds es t)
        rw [h4, Int.add_mul]; omega
theorem lin_scal (k : Int) : ∀ (es : List (Int → Int)) (cs : List Int) (t : Int), lin (cs.map fun x => k * x) es t = k * lin cs es t
  | [], cs, t => by cases cs <;> simp [lin]
  | e :: es, [], t => by simp [lin]
  | e :: es, c :: cs, t => by
    show k * c * e t + lin (cs.map fun x => k * x) es t = k * (c * e t + lin cs es t)
    rw [lin_scal k es cs t, Int.mul_add, Int.mul_assoc]

theorem InSpan.comb {p : Nat} {B : List (Int → Int)} {v w : Int → Int} (h : InSpan p B v) (h' : InSpan p B w) (c : Int) : InSpan p B (fun t => v t - c * w t) := by
  obtain ⟨cs, h1, h2⟩ := h
  obtain ⟨ds, h3, h4⟩ := h'
  obtain ⟨fs, h5, h6⟩ := lin_add B cs (ds.map fun x => -c * x) h1 (by simpa using h3)
  refine ⟨fs, h5, (h2.sub (h4.scal c)).congr fun t => ?_⟩
  show v t - c * w t - lin fs B t = _
  rw [h6, lin_scal, Int.mul_sub, Int.neg_mul]; omega

theorem lin_app : ∀ (c1 c2 : List Int) (e1 e2 : List (Int → Int)) (t : Int), c1.length = e1.length → lin (c1 ++ c2) (e1 ++ e2) t = lin c1 e1 t + lin c2 e2 t
  | [], c2, [], e2, t, _ => by simp [lin]
  | [], c2, e :: e1, e2, t, h => by simp at h
  | c :: c1, c2, [], e2, t, h => by simp at h
  | c :: c1, c2, e :: e1, e2, t, h => by
    show c * e t + lin (c1 ++ c2) (e1 ++ e2) t = c * e t + lin c1 e1 t + lin c2 e2 t
    rw [lin_app c1 c2 e1 e2 t (by simpa using h)]; omega

theorem subs {p : Nat} {B : List (Int → Int)} {e : Int → Int} : ∀ l : List (Int → Int), (∀ x, x ∈ l → ∃ k : Int, InSpan p B (fun t => x t - k * e t)) →
    ∃ l' : List (Int → Int), l'.length = l.length ∧ (∀ x, x ∈ l' → InSpan p B x) ∧ ∀ ds : List Int, ds.length = l.length → ∃ μ : Int, ∀ t, lin ds l' t = lin ds l t - μ * e t
  | [], _ => ⟨[], rfl, fun x hx => (by cases hx), fun ds h => ⟨0, fun t => by
    obtain rfl : ds = [] := List.length_eq_zero_iff.1 (by simpa using h)
    simp [lin]⟩⟩
  | x :: l, h => by
    obtain ⟨l', h1, h2, h3⟩ := subs l fun y hy => h y (List.mem_cons_of_mem _ hy)
    obtain ⟨k, h4⟩ := h x (List.mem_cons_self ..)
    refine ⟨(fun t => x t - k * e t) :: l', by simp [h1], fun y hy => ?_, fun ds hd => ?_⟩
    · rcases List.mem_cons.1 hy with rfl | hy
      · exact h4
      · exact h2 y hy
    · cases ds with
      | nil => simp at hd
      | cons d ds =>
        obtain ⟨μ, h5⟩ := h3 ds (by simpa using hd)
        refine ⟨d * k + μ, fun t => ?_⟩
        show d * (x t - k * e t) + lin ds l' t = d * x t + lin ds l t - (d * k + μ) * e t
        rw [h5, Int.mul_sub, Int.add_mul, Int.mul_assoc]; omega

theorem dep {p : Nat} (hp2 : 2 ≤ p) (hp : Dom (p : Int)) : ∀ (k : Nat) (B es : List (Int → Int)), (∀ b, b ∈ B → Po b) → B.length = k → k < es.length → (∀ e, e ∈ es → InSpan p B e) → Dep p es
  | 0, B, es, _, hB, hk, h => by
    obtain rfl : B = [] := List.length_eq_zero_iff.1 hB
    cases es with
    | nil => simp at hk
    | cons e es =>
      obtain ⟨cs, h1, h2⟩ := h e (List.mem_cons_self ..)
      refine ⟨1 :: List.replicate es.length 0, by simp, ⟨0, by simpa using hp.2⟩, h2.congr fun t => ?_⟩
      have : ∀ es : List (Int → Int), lin (List.replicate es.length 0) es t = 0 := by
        intro es
        induction es with
        | nil => rfl
        | cons x es ih => simp only [List.length_cons, List.replicate_succ, lin, ih]; simp
      show 1 * e t + lin (List.replicate es.length 0) es t = e t - lin cs [] t
      rw [this]
      cases cs <;> simp [lin]
  | k + 1, B, es, hPo, hB, hk, h => by
    have hne : B ≠ [] := by intro e; subst e; simp at hB
    obtain ⟨B', b, rfl⟩ : ∃ B' b, B = B' ++ [b] := ⟨B.dropLast, B.getLast hne, (List.dropLast_concat_getLast hne).symm⟩
    have hB' : B'.length = k := by simpa using hB
    have hPo' : ∀ x, x ∈ B' → Po x := fun x hx => hPo x (List.mem_append_left _ hx)
    have hb : Po b := hPo b (by simp)
    by_cases hall : ∀ e, e ∈ es → InSpan p B' e
    · exact dep hp2 hp k B' es hPo' hB' (by omega) hall
    · obtain ⟨e, he, hn⟩ : ∃ e, e ∈ es ∧ ¬ InSpan p B' e := Classical.byContradiction fun hc => hall fun e he => Classical.byContradiction fun hn => hc ⟨e, he, hn⟩
      obtain ⟨c, hc⟩ := (h e he).unsnoc
      have hcp : ¬ (p : Int) ∣ c := fun hd => hn (hc.alike ((Zm.of_dvd hb hd).congr fun t => by omega))
      obtain ⟨c', w, hw⟩ := hp.inv (by omega) hcp
      obtain ⟨e1, e2, rfl⟩ := List.append_of_mem he
      obtain ⟨l', h1, h2, h3⟩ := subs (p := p) (B := B') (e := e) (e1 ++ e2) (fun x hx => by
        have hx' : x ∈ e1 ++ e :: e2 := by
          rcases List.mem_append.1 hx with h | h
          · exact List.mem_append_left _ h
          · exact List.mem_append_right _ (List.mem_cons_of_mem _ h)
        obtain ⟨cx, hcx⟩ := (h x hx').unsnoc
        refine ⟨cx * c', (hcx.comb hc (cx * c')).alike ((Zm.of_dvd (hb.scal cx) (c := c * c' - 1) ⟨w, hw⟩).neg.congr fun t => ?_)⟩
        show x t - cx * c' * e t - (x t - cx * b t - cx * c' * (e t - c * b t)) = - ((c * c' - 1) * (cx * b t))
        simp only [rA, rB, rC, rD, rE, rF, rG, rH, rI, rJ, rK]
        omega)
      simp only [List.length_append, List.length_cons] at hk
      obtain ⟨ds, h4, ⟨i, h5⟩, h6⟩ := dep hp2 hp k B' l' hPo' hB' (by rw [h1, List.length_append]; omega) h2
      obtain ⟨μ, h7⟩ := h3 ds (by rw [h4, h1])
      have hlen : ds.length = e1.length + e2.length := by rw [h4, h1, List.length_append]
      have htl : (ds.take e1.length).length = e1.length := by rw [List.length_take]; omega
      refine ⟨ds.take e1.length ++ (-μ) :: ds.drop e1.length, by simp; omega, ?_, h6.congr fun t => ?_⟩
      · rcases Nat.lt_or_ge i e1.length with hi | hi
        · refine ⟨i, ?_⟩
          rw [List.getD, List.getElem?_append_left (by omega), List.getElem?_take_of_lt hi]
          exact h5
        · refine ⟨i + 1, ?_⟩
          rw [List.getD, List.getElem?_append_right (by omega), htl, show i + 1 - e1.length = (i - e1.length) + 1 by omega, List.getElem?_cons_succ, List.getElem?_drop, show e1.length + (i - e1.length) = i by omega]
          exact h5
      · rw [h7, lin_app _ _ _ _ t htl]
        have := lin_app (ds.take e1.length) (ds.drop e1.length) e1 e2 t htl
        rw [List.take_append_drop] at this
        rw [this]
        show lin (ds.take e1.length) e1 t + (-μ * e t + lin (ds.drop e1.length) e2 t) = _
        rw [Int.neg_mul]; omega

theorem lin_zero {p : Nat} {u : Int → Int} : ∀ (ds : List Int) (es : List (Int → Int)), (∀ (i : Nat) (e : Int → Int), es[i]? = some e → Di p u e) → Di p u (lin ds es)
  | [], es, _ => Di.of_zm (Zm.of_zero _ fun t => by cases es <;> simp [lin])
  | d :: ds, [], _ => Di.of_zm (Zm.of_zero _ fun t => by simp [lin])
  | d :: ds, e :: es, h => ((h 0 e rfl).mul (Po.const d)).add (lin_zero ds es fun i e' he => h (i + 1) e' (by simpa using he))
theorem lin_delta {p : Nat} {u : Int → Int} : ∀ (ds : List Int) (es : List (Int → Int)) (j : Nat), ds.length = es.length → (∀ (i : Nat) (e : Int → Int), es[i]? = some e → Di p u (fun t => e t - if i = j then 1 else 0)) → Di p u (fun t => lin ds es t - ds.getD j 0)
  | [], es, j, h, _ => Di.of_zm (Zm.of_zero _ fun t => by cases es <;> simp [lin])
  | d :: ds, [], j, h, _ => by simp at h
  | d :: ds, e :: es, 0, h, hd => by
    have h1 := hd 0 e rfl
    have h2 := lin_zero (p := p) (u := u) ds es fun i e' he => (hd (i + 1) e' (by simpa using he)).alike (Zm.of_zero _ fun t => by rw [if_neg (by omega)]; omega)
    refine ((h1.mul (Po.const d)).add h2).alike (Zm.of_zero _ fun t => ?_)
    show d * e t + lin ds es t - d - (d * (e t - if 0 = 0 then 1 else 0) + lin ds es t) = 0
    rw [if_pos rfl, Int.mul_sub]; omega
  | d :: ds, e :: es, j + 1, h, hd => by
    have h1 := hd 0 e rfl
    have h2 := lin_delta (p := p) (u := u) ds es j (by simpa using h) fun i e' he => (hd (i + 1) e' (by simpa using he)).alike (Zm.of_zero _ fun t => by
      by_cases hij : i = j
      · rw [if_pos hij, if_pos (by omega)]; omega
      · rw [if_neg hij, if_neg (by omega)]; omega)
    refine ((h1.mul (Po.const d)).add h2).alike (Zm.of_zero _ fun t => ?_)
    show d * e t + lin ds es t - ds.getD j 0 - (d * (e t - if 0 = j + 1 then 1 else 0) + (lin ds es t - ds.getD j 0)) = 0
    rw [if_neg (by omega), Int.sub_zero]; omega

theorem choose_list {P : Nat → (Int → Int) → Prop} : ∀ N, (∀ i, i < N → ∃ e, P i e) → ∃ es : List (Int → Int), es.length = N ∧ ∀ (i : Nat) (e : Int → Int), es[i]? = some e → P i e
  | 0, _ => ⟨[], rfl, fun i e h => by simp at h⟩
  | N + 1, h => by
    obtain ⟨es, h1, h2⟩ := choose_list N fun i hi => h i (by omega)
    obtain ⟨e, h3⟩ := h N (by omega)
    refine ⟨es ++ [e], by simp [h1], fun i e' he => ?_⟩
    rcases Nat.lt_or_ge i es.length with hi | hi
    · rw [List.getElem?_append_left hi] at he
      exact h2 i e' he
    · rw [List.getElem?_append_right hi] at he
      have : i - es.length = 0 := by
        rcases Nat.eq_zero_or_pos (i - es.length) with h | h
        · exact h
        · rw [List.getElem?_eq_none (by simp; omega)] at he; cases he
      rw [this] at he
      obtain rfl : e = e' := by simpa using he
      rwa [show i = N by omega]

theorem pA_app : ∀ (a b : List (Int → Int)) (t : Int), pA (a ++ b) t = pA a t * pA b t
  | [], b, t => by simp [pA]
  | x :: a, b, t => by
    show x t * pA (a ++ b) t = x t * pA a t * pA b t
    rw [pA_app a b t, Int.mul_assoc]
theorem di_pA {m : Int} : ∀ (L : List (Int → Int)) (u : Int → Int), (∀ g, g ∈ L → Po g) → u ∈ L → Di m u (pA L)
  | [], u, _, h => by cases h
  | g :: L, u, hL, h => by
    have hL' : ∀ g, g ∈ L → Po g := fun x hx => hL x (List.mem_cons_of_mem _ hx)
    rcases List.mem_cons.1 h with rfl | h
    · exact Di.of_eq (pA_po L hL') fun _ => rfl
    · exact ((di_pA L u hL' h).mul (hL g (List.mem_cons_self ..))).alike (Zm.of_zero _ fun t => by show g t * pA L t - g t * pA L t = 0; omega)

theorem count {p n : Nat} (hp2 : 2 ≤ p) (hp : Dom (p : Int)) {f : Int → Int} (hfd : Dm p n f) (hsq : Sq p f) {B : List (Int → Int)} (hPo : ∀ b, b ∈ B → Po b) (hB : Spans p n f B) {U : List (Int → Int)} {c : Int} (hU : ∀ u, u ∈ U → Po u) (h0 : ∀ u, u ∈ U → ¬ Dm p 0 u) (hc : ¬ (p : Int) ∣ c) (hz : Zm p (fun t => f t - c * pA U t)) : U.length ≤ B.length := by
  refine Classical.byContradiction fun hlt => ?_
  obtain ⟨es, h1, h2⟩ := choose_list (P := fun i e => InSpan p B e ∧ ∀ (j : Nat) (u : Int → Int), U[j]? = some u → Di p u (fun t => e t - if i = j then 1 else 0)) U.length (fun i hi => by
    have hsplit : U = U.take i ++ U[i] :: U.drop (i + 1) := by simp
    have hmem : ∀ x, x ∈ U.take i ++ U.drop (i + 1) → x ∈ U := by
      intro x hx
      rcases List.mem_append.1 hx with h | h
      · exact List.mem_of_mem_take h
      · exact List.mem_of_mem_drop h
    have hpo : Po (pA (U.take i ++ U.drop (i + 1))) := pA_po _ fun x hx => hU x (hmem x hx)
    have hzi : Zm p (fun t => f t - c * (pA (U.take i ++ U.drop (i + 1)) t * U[i] t)) := hz.congr fun t => by
      have : pA U t = pA (U.take i ++ U.drop (i + 1)) t * U[i] t := by
        conv => lhs; rw [hsplit]
        rw [pA_app, pA_app]
        show pA (U.take i) t * (U[i] t * pA (U.drop (i + 1)) t) = _
        simp only [rA, rB, rC, rD, rE, rF, rG, rH, rI, rJ, rK]
      rw [this]
    obtain ⟨e, g1, g2, g3, g4⟩ := apart hp2 hp hfd hsq hB hpo (hU _ (List.getElem_mem hi)) hc hzi
    refine ⟨e, g4, fun j u hu => ?_⟩
    by_cases hij : i = j
    · subst hij
      rw [List.getElem?_eq_getElem hi] at hu
      obtain rfl : U[i] = u := by simpa using hu
      exact g3.alike (Zm.of_zero _ fun t => by rw [if_pos rfl]; omega)
    · have hj : j < U.length := by
        rcases Nat.lt_or_ge j U.length with h | h
        · exact h
        · rw [List.getElem?_eq_none h] at hu; cases hu
      have hum : u ∈ U.take i ++ U.drop (i + 1) := by
        rcases Nat.lt_or_ge j i with h | h
        · refine List.mem_append_left _ (List.mem_of_getElem? (i := j) ?_)
          rw [List.getElem?_take_of_lt h]; exact hu
        · refine List.mem_append_right _ (List.mem_of_getElem? (i := j - (i + 1)) ?_)
          rw [List.getElem?_drop, show i + 1 + (j - (i + 1)) = j by omega]; exact hu
      refine ((di_pA _ u (fun x hx => hU x (hmem x hx)) hum).trans g2).alike (Zm.of_zero _ fun t => ?_)
      rw [if_neg hij]; omega)
  obtain ⟨ds, h3, ⟨j, h4⟩, h5⟩ := dep hp2 hp B.length B es hPo rfl (by omega) (fun e he => by
    obtain ⟨i, hi⟩ := List.getElem?_of_mem he
    exact (h2 i e hi).1)
  have hj : j < U.length := by
    rcases Nat.lt_or_ge j U.length with h | h
    · exact h
    · exact absurd (by rw [getD_out (by omega)]; exact Int.dvd_zero _) h4
  have h6 := lin_delta (p := p) (u := U[j]) ds es j h3 fun i e he => (h2 i e he).2 j U[j] (List.getElem?_eq_getElem hj)
  refine h4 (not_di_const hp (hU _ (List.getElem_mem hj)) (h0 _ (List.getElem_mem hj)) ?_)
  exact ((Di.of_zm h5).sub h6).alike (Zm.of_zero _ fun t => by omega)

theorem berl_count {p n : Nat} (hp2 : 2 ≤ p) (hp : Dom (p : Int)) {f : Int → Int} (hfd : Dm p n f) (hsq : Sq p f) {B : List (Int → Int)} (hPo : ∀ b, b ∈ B → Po b) (hB : Spans p n f B) {U : List (Int → Int)} {c : Int} (hU : ∀ u, u ∈ U → Po u) (h0 : ∀ u, u ∈ U → ¬ Dm p 0 u) (hc : ¬ (p : Int) ∣ c) (hz : Zm p (fun t => f t - c * pA U t))
    (hl : B.length ≤ U.length) : ∀ u, u ∈ U → Irr p u := by
  intro u hu
  refine Classical.byContradiction fun hi => ?_
  obtain ⟨U1, U2, rfl⟩ := List.append_of_mem hu
  have hup := hU u hu
  have hpr : ∀ t, pA (U1 ++ u :: U2) t = u t * (pA U1 t * pA U2 t) := fun t => by
    rw [pA_app]
    show pA U1 t * (u t * pA U2 t) = _
    rw [Int.mul_left_comm]
  have hp1 : Po (pA U1) := pA_po U1 fun x hx => hU x (List.mem_append_left _ hx)
  have hp2' : Po (pA U2) := pA_po U2 fun x hx => hU x (List.mem_append_right _ (List.mem_cons_of_mem _ hx))
  have hnz : ¬ Zm p u := fun h => hfd.not ((hz.add ((h.mul (hp1.mul hp2')).scal c)).congr fun t => by rw [hpr, Int.mul_comm (u t)]; omega)
  obtain ⟨a, b, k, h1, h2, h3, h4, h5, h6⟩ := not_irr hup hnz (h0 u hu) hi
  obtain ⟨k', e, hk⟩ := hp.inv (by omega) h3
  have hk' : ¬ (p : Int) ∣ k' := fun h => hp.2 (by
    have := Int.dvd_sub (Int.dvd_trans h (Int.dvd_mul_left k k')) ⟨e, hk⟩
    rwa [show k * k' - (k * k' - 1) = 1 by omega] at this)
  have hmem : ∀ x, x ∈ U1 ++ a :: b :: U2 → x ∈ U1 ++ u :: U2 ∨ x = a ∨ x = b := by
    intro x hx
    rcases List.mem_append.1 hx with h | h
    · exact Or.inl (List.mem_append_left _ h)
    · rcases List.mem_cons.1 h with h | h
      · exact Or.inr (Or.inl h)
      · rcases List.mem_cons.1 h with h | h
        · exact Or.inr (Or.inr h)
        · exact Or.inl (List.mem_append_right _ (List.mem_cons_of_mem _ h))
  have := count hp2 hp hfd hsq hPo hB (U := U1 ++ a :: b :: U2) (c := c * k') (fun x hx => by
    rcases hmem x hx with h | rfl | rfl
    · exact hU x h
    · exact h1
    · exact h2) (fun x hx => by
    rcases hmem x hx with h | rfl | rfl
    · exact h0 x h
    · exact h5
    · exact h6) (hp.mul hc hk') (by
    refine ((hz.add ((h4.mul (hp1.mul hp2')).scal (c * k'))).sub (Zm.of_dvd ((hup.mul (hp1.mul hp2')).scal c) (c := k * k' - 1) ⟨e, hk⟩)).congr fun t => ?_
    rw [hpr, pA_app]
    show f t - c * k' * (pA U1 t * (a t * (b t * pA U2 t))) = f t - c * (u t * (pA U1 t * pA U2 t)) + c * k' * (pA U1 t * pA U2 t * (k * u t - a t * b t)) - (k * k' - 1) * (c * (u t * (pA U1 t * pA U2 t)))
    simp only [rA, rB, rC, rD, rE, rF, rG, rH, rI, rJ, rK]
    omega)
  simp only [List.length_append, List.length_cons] at this hl
  omega

end Go.Proofs.YtldcjkhbiffdoabGreatDoor

set_option linter.unusedSimpArgs false
namespace Go.Proofs.YtldcjkhbiffdoabGreatDoor

def prn (d : Nat → Int → Int) : Nat → Int → Int
  | 0 => fun _ => 1
  | n + 1 => fun t => prn d n t * d n t

theorem Cop.di {p : Nat} {a b a' b' : Int → Int} (h : Cop p a b) (h1 : Di p a' a) (h2 : Di p b' b) : Cop p a' b' := by
  obtain ⟨u, v, c, g1, g2, g3, g4⟩ := h
  obtain ⟨s, h3, h4⟩ := h1
  obtain ⟨r, h5, h6⟩ := h2
  refine ⟨fun t => u t * s t, fun t => v t * r t, c, g1.mul h3, g2.mul h5, g3, ((g4.sub (h4.mul g1)).sub (h6.mul g2)).congr fun t => ?_⟩
  show u t * s t * a' t + v t * r t * b' t - c = u t * a t + v t * b t - c - u t * (a t - a' t * s t) - v t * (b t - b' t * r t)
  simp only [rA, rB, rC, rD, rE, rF, rG, rH, rI, rJ, rK]
  omega

theorem less_po (v : Int → Int) (hv : Po v) (n : Nat) : Po (fun t => less n (v t)) := (less_ld n).po.comp hv

theorem less_cop {p : Nat} (hp : Dom (p : Int)) {v : Int → Int} (hv : Po v) {N : Nat} (hN : N < p) : ∀ n, n ≤ N → Cop p (fun t => less n (v t)) (fun t => v t - N)
  | 0, _ => ⟨fun _ => 1, fun _ => 0, 1, Po.const 1, Po.zero, hp.2, Zm.of_zero _ fun t => by simp [less]⟩
  | n + 1, hn => by
    have h1 := less_cop hp hv hN n (by omega)
    have h2 : Cop p (fun t => v t - n) (fun t => v t - N) := by
      refine ⟨fun _ => 1, fun _ => -1, (N : Int) - n, Po.const 1, Po.const (-1), fun h => ?_, Zm.of_zero _ fun t => by show 1 * (v t - (n : Int)) + -1 * (v t - (N : Int)) - ((N : Int) - n) = 0; omega⟩
      have := Int.eq_zero_of_dvd_of_natAbs_lt_natAbs h (by rw [Int.natAbs_natCast]; omega)
      omega
    exact Cop.mul hp (less_po v hv n) (hv.sub (Po.const _)) h1 h2 (hv.sub (Po.const _))

theorem split_prod {p : Nat} (hp2 : 2 ≤ p) (hp : Dom (p : Int)) {u : Int → Int} (hu : Po u) {l : List Int} (hl : ∀ a, a ∈ l → 0 ≤ a) (hfix : Di p u (fun t => ev (t ^ p) l - ev t l)) {d : Nat → Int → Int} (hd : ∀ k, k < p → Po (d k) ∧ Di p (d k) u ∧ Di p (d k) (fun t => ev t l - k) ∧ ∃ α β, Po α ∧ Po β ∧ Zm p (fun t => α t * u t + β t * (ev t l - k) - d k t)) :
    Di p (prn d p) u ∧ Di p u (prn d p) := by
  have hv := Po.ev l
  have h1 : ∀ n, n ≤ p → Di p (prn d n) u ∧ Di p (prn d n) (fun t => less n (ev t l)) := by
    intro n
    induction n with
    | zero => intro _; exact ⟨Di.of_eq hu fun t => by simp [prn], Di.of_eq (Po.const 1) fun t => by simp [prn, less]⟩
    | succ n ih =>
      intro hn
      obtain ⟨i1, i2⟩ := ih (by omega)
      obtain ⟨g1, g2, g3, _⟩ := hd n (by omega)
      have hc : Cop p (prn d n) (d n) := (less_cop hp hv (N := n) (by omega) n (Nat.le_refl _)).di i2 g3
      refine ⟨Di.both (by omega) hp g1 hc i1 g2, ?_⟩
      have j1 : Di p (prn d n) (fun t => less (n + 1) (ev t l)) := (i2.mul (hv.sub (Po.const n))).alike (Zm.of_zero _ fun t => by
        show less n (ev t l) * (ev t l - n) - (ev t l - n) * less n (ev t l) = 0
        rw [Int.mul_comm]; omega)
      have j2 : Di p (d n) (fun t => less (n + 1) (ev t l)) := g3.mul (less_po _ hv n)
      exact Di.both (by omega) hp g1 hc j1 j2
  have h2 : ∀ n, n ≤ p → ∃ β, Po β ∧ Di p u (fun t => prn d n t - β t * less n (ev t l)) := by
    intro n
    induction n with
    | zero => intro _; exact ⟨fun _ => 1, Po.const 1, Di.of_zm (Zm.of_zero _ fun t => by simp [prn, less])⟩
    | succ n ih =>
      intro hn
      obtain ⟨β, b1, b2⟩ := ih (by omega)
      obtain ⟨g1, _, _, α, γ, g2, g3, g4⟩ := hd n (by omega)
      refine ⟨fun t => β t * γ t, b1.mul g3, ?_⟩
      -- d n is γ (v - n) but for multiples of u
      have b3 : Di p u (fun t => d n t - γ t * (ev t l - n)) := ⟨α, g2, (g4.neg).congr fun t => by
        show d n t - γ t * (ev t l - n) - u t * α t = - (α t * u t + γ t * (ev t l - n) - d n t)
        rw [Int.mul_comm (u t)]; omega⟩
      refine ((b2.mul g1).add (b3.mul (b1.mul (less_po _ hv n)))).alike (Zm.of_zero _ fun t => ?_)
      show prn d n t * d n t - β t * γ t * (less n (ev t l) * (ev t l - n)) - (d n t * (prn d n t - β t * less n (ev t l)) + β t * less n (ev t l) * (d n t - γ t * (ev t l - n))) = 0
      simp only [rA, rB, rC, rD, rE, rF, rG, rH, rI, rJ, rK]
      omega
  refine ⟨(h1 p (Nat.le_refl _)).1, ?_⟩
  obtain ⟨β, b1, b2⟩ := h2 p (Nat.le_refl _)
  have h3 : Di p u (fun t => less p (ev t l)) := hfix.alike (berl_prod hp2 hp hl)
  exact (b2.add (h3.mul b1)).alike (Zm.of_zero _ fun t => by omega)

theorem monic_eq {p : Nat} (hp : Dom (p : Int)) {A B : Int → Int} {a b : Nat} (hA : Ld a 1 A) (hB : Ld b 1 B) (h1 : Di p A B) (h2 : Di p B A) : Zm p (fun t => A t - B t) := by
  have dA : Dm p a A := Dm.of_ld hA hp.2
  have dB : Dm p b B := Dm.of_ld hB hp.2
  obtain ⟨_, _, j, _, _, e1, _⟩ := (h1.dv hp).deg hp dA dB
  obtain ⟨_, _, j', _, _, e2, _⟩ := (h2.dv hp).deg hp dB dA
  obtain rfl : a = b := by omega
  obtain ⟨s, h3, h4⟩ := h1
  obtain ⟨N, h3'⟩ := h3
  have hs : Dm p 0 s := by
    rcases Zm.or_dm (m := p) h3' with h5 | ⟨i, _, h5⟩
    · exact absurd ((h4.add (h5.mul hA.po)).congr (g := B) fun t => by omega) dB.not
    · have := ((dA.mul hp h5).alike (g := B) h4).uniq dB
      rwa [show i = 0 by omega] at h5
  obtain ⟨k, h6, h7⟩ := hs.zero
  have h8 : Zm p (fun t => B t - k * A t) := (h4.add (h7.mul hA.po)).congr fun t => by
    show B t - k * A t = B t - A t * s t + A t * (s t - k)
    rw [Int.mul_sub, Int.mul_comm k]; omega
  have h9 := h8.lead (hB.sub (hA.scal k))
  rw [Int.mul_one] at h9
  refine (h8.neg.add (Zm.of_dvd hA.po h9)).congr fun t => ?_
  rw [Int.sub_mul]; omega


def tl : List Int → List (List Int) → List Int
  | a :: v, r :: R => ladd (r.map fun x => a * x) (tl v R)
  | _, _ => []

theorem tl_len : ∀ (v : List Int) (R : List (List Int)) (n : Nat), (∀ r, r ∈ R → r.length ≤ n) → (tl v R).length ≤ n
  | [], R, n, _ => by simp [tl]
  | a :: v, [], n, _ => by simp [tl]
  | a :: v, r :: R, n, h => ladd_len _ _ _ (by simpa using h r (List.mem_cons_self ..)) (tl_len v R n fun x hx => h x (List.mem_cons_of_mem _ hx))

theorem tl_di {p : Nat} {f : Int → Int} : ∀ (v : List Int) (R : List (List Int)) (i0 : Nat), v.length ≤ R.length → (∀ i r, R[i]? = some r → Di p f (fun t => t ^ (p * (i0 + i)) - ev t r)) → Di p f (fun t => t ^ (p * i0) * ev (t ^ p) v - ev t (tl v R))
  | [], R, i0, _, _ => Di.of_zm (Zm.of_zero _ fun t => by simp [tl, ev])
  | a :: v, [], i0, h, _ => by simp at h
  | a :: v, r :: R, i0, h, hR => by
    have h1 := tl_di (p := p) (f := f) v R (i0 + 1) (by simpa using h) fun i r' hr => (hR (i + 1) r' (by simpa using hr)).alike (Zm.of_zero _ fun t => by rw [show i0 + 1 + i = i0 + (i + 1) by omega]; omega)
    have h2 := hR 0 r rfl
    refine ((h2.mul (Po.const a)).add h1).alike (Zm.of_zero _ fun t => ?_)
    simp only [tl, ev, ev_ladd, ev_scal]
    rw [Nat.add_zero, Nat.mul_add, Nat.mul_one, Int.pow_add]
    generalize t ^ (p * i0) = x
    generalize t ^ p = y
    simp only [rA, rB, rC, rD, rE, rF, rG, rH, rI, rJ, rK]
    omega

theorem fix_iff {p n : Nat} (hp : Dom (p : Int)) {f : Int → Int} (hfd : Dm p n f) {R : List (List Int)} (hR : R.length = n) (hlen : ∀ r, r ∈ R → r.length ≤ n) (hrow : ∀ i r, R[i]? = some r → Di p f (fun t => t ^ (p * i) - ev t r)) {v : List Int} (hv : v.length ≤ n) :
    Fix p f v ↔ ∀ k, (p : Int) ∣ (tl v R).getD k 0 - v.getD k 0 := by
  have h1 := tl_di (p := p) (f := f) v R 0 (by omega) fun i r hr => (hrow i r hr).alike (Zm.of_zero _ fun t => by rw [Nat.zero_add]; omega)
  have hpl : Pl n (fun t => ev t (ladd (tl v R) (v.map fun x => -1 * x))) := ⟨_, ladd_len _ _ n (tl_len v R n hlen) (by simpa using hv), fun _ => rfl⟩
  have hev : ∀ t, ev t (ladd (tl v R) (v.map fun x => -1 * x)) = ev t (tl v R) - ev t v := fun t => by rw [ev_ladd, ev_scal]; omega
  constructor
  · intro h k
    have h2 : Di p f (fun t => ev t (ladd (tl v R) (v.map fun x => -1 * x))) := (Di.sub h h1).alike (Zm.of_zero _ fun t => by rw [hev, Nat.mul_zero]; simp; omega)
    have h3 : Zm p (fun t => ev t (ladd (tl v R) (v.map fun x => -1 * x))) := by
      rcases Zm.or_dm (m := p) hpl with h4 | ⟨e, he, h4⟩
      · exact h4
      · obtain ⟨_, _, j, _, _, h5, _⟩ := (h2.dv hp).deg hp hfd h4
        omega
    obtain ⟨g, ⟨N, G, _, h4⟩, h5⟩ := h3
    have h6 := ev_ext (l := ladd (tl v R) (v.map fun x => -1 * x)) (m := G.map fun x => (p : Int) * x) 0 (fun t _ => by rw [ev_scal, ← h4]; exact h5 t) k
    rw [ladd_getD, scal_getD, scal_getD] at h6
    exact ⟨G.getD k 0, by omega⟩
  · intro h
    have h3 : Zm p (fun t => ev t (ladd (tl v R) (v.map fun x => -1 * x))) := by
      have : ∀ l : List Int, (∀ k, (p : Int) ∣ l.getD k 0) → Zm p (fun t => ev t l) := by
        intro l
        induction l with
        | nil => intro _; exact Zm.of_zero _ fun _ => rfl
        | cons a l ih =>
          intro hl
          have g1 : (p : Int) ∣ a := by simpa using hl 0
          have g2 := ih fun k => by simpa using hl (k + 1)
          refine ((Zm.of_dvd (Po.const 1) g1).add (g2.mul (Po.xpow 1))).congr fun t => ?_
          show a + t * ev t l = a * 1 + t ^ 1 * ev t l
          rw [Int.pow_one]; omega
      refine this _ fun k => ?_
      rw [ladd_getD, scal_getD]
      have := h k
      rwa [show (tl v R).getD k 0 + -1 * v.getD k 0 = (tl v R).getD k 0 - v.getD k 0 by omega]
    refine (h1.add (Di.of_zm h3)).alike (Zm.of_zero _ fun t => ?_)
    rw [hev, Nat.mul_zero]; simp; omega

def dot : List Int → List Int → Int
  | a :: l, b :: m => a * b + dot l m
  | _, _ => 0

theorem dot_alike {p : Nat} : ∀ (l m n : List Int), (∀ k, (p : Int) ∣ l.getD k 0 - m.getD k 0) → (p : Int) ∣ dot l n - dot m n
  | [], m, n, h => by
    induction m generalizing n with
    | nil => simp [dot]
    | cons b m ih =>
      cases n with
      | nil => simp [dot]
      | cons c n =>
        have h1 : (p : Int) ∣ b := by have := h 0; simp at this; exact Int.dvd_neg.1 (by simpa using this)
        have h2 := ih n fun k => by simpa using h (k + 1)
        have h3 : dot [] (c :: n) - dot (b :: m) (c :: n) = (dot [] n - dot m n) - b * c := by
          simp only [dot]
          cases n <;> simp [dot] <;> omega
        rw [h3]
        exact Int.dvd_sub h2 (Int.dvd_trans h1 (Int.dvd_mul_right ..))
  | a :: l, m, [], h => by cases m <;> simp [dot]
  | a :: l, [], c :: n, h => by
    have h1 : (p : Int) ∣ a := by simpa using h 0
    have h2 := dot_alike l [] n fun k => by simpa using h (k + 1)
    have h3 : dot (a :: l) (c :: n) - dot [] (c :: n) = a * c + (dot l n - dot [] n) := by
      simp only [dot]
      cases n <;> simp [dot] <;> omega
    rw [h3]
    exact Int.dvd_add (Int.dvd_trans h1 (Int.dvd_mul_right ..)) h2
  | a :: l, b :: m, c :: n, h => by
    have h1 : (p : Int) ∣ a - b := by simpa using h 0
    have h2 := dot_alike l m n fun k => by simpa using h (k + 1)
    have h3 : dot (a :: l) (c :: n) - dot (b :: m) (c :: n) = (a - b) * c + (dot l n - dot m n) := by
      simp only [dot, Int.sub_mul]; omega
    rw [h3]
    exact Int.dvd_add (Int.dvd_trans h1 (Int.dvd_mul_right ..)) h2

theorem dot_tl : ∀ (v : List Int) (R : List (List Int)) (k : Nat), v.length ≤ R.length → (tl v R).getD k 0 = dot v (R.map fun r => r.getD k 0)
  | [], R, k, _ => by simp [tl, dot]
  | a :: v, [], k, h => by simp at h
  | a :: v, r :: R, k, h => by
    simp only [tl, ladd_getD, scal_getD, List.map_cons, dot]
    rw [dot_tl v R k (by simpa using h)]

theorem coef_alike {p : Nat} {l m : List Int} (h : Zm p (fun t => ev t l - ev t m)) (k : Nat) : (p : Int) ∣ l.getD k 0 - m.getD k 0 := by
  obtain ⟨g, ⟨N, G, _, h1⟩, h2⟩ := h
  have h3 := ev_ext (l := ladd l (m.map fun x => -1 * x)) (m := G.map fun x => (p : Int) * x) 0 (fun t _ => by
    have h20 : ev t l - ev t m = p * g t := h2 t
    rw [ev_ladd, ev_scal, ev_scal, ← h1, ← h20]; omega) k
  rw [ladd_getD, scal_getD, scal_getD] at h3
  exact ⟨G.getD k 0, by omega⟩

end Go.Proofs.YtldcjkhbiffdoabGreatDoor
