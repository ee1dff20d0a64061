import Derived.Test.YtldcjkhbiffdoabGreatDoorM10

set_option linter.unusedSimpArgs false
namespace Go.Proofs.YtldcjkhbiffdoabGreatDoor

theorem Pp.scont {l : List Int} (h : Pp l) : scont l = 1 := by
  obtain ⟨h1, h2⟩ := cont_one h.tr h.ne h.pr
  unfold Go.Proofs.YtldcjkhbiffdoabGreatDoor.scont
  rw [if_neg (by omega), h1]
  rfl

theorem Pp.mul {a b : List Int} (ha : Pp a) (hb : Pp b) : ∃ q, Pp q ∧ ∀ t, ev t q = ev t a * ev t b := by
  obtain ⟨q, tq, hq⟩ := ((Po.ev a).mul (Po.ev b)).list
  have h := mul_len tq ha.tr hb.tr ha.ne hb.ne fun t => (hq t).symm
  refine ⟨q, Pp.of tq ?_ ((ha.prm.mul hb.prm).congr fun t => (hq t).symm), fun t => (hq t).symm⟩
  rw [h.2.2]
  exact Int.mul_pos ha.lead hb.lead

theorem pp_one : Pp [1] := ⟨by intro _; decide, by decide, by decide⟩

theorem Pp.pow {a : List Int} (ha : Pp a) : ∀ n : Nat, ∃ q, Pp q ∧ ∀ t, ev t q = ev t a ^ n
  | 0 => ⟨[1], pp_one, fun t => by simp [ev]⟩
  | n + 1 => by
    obtain ⟨q, hq, e⟩ := Pp.pow ha n
    obtain ⟨r, hr, e'⟩ := hq.mul ha
    exact ⟨r, hr, fun t => by rw [e', e, Int.pow_succ]⟩

theorem oft_same {zs : List Int} {c d : Int} {ps qs : List (List Int × Nat)} (tz : Tr zs) (hne : zs ≠ []) (h : ∀ x, x ∈ ps → Pp x.1 ∧ Iz (fun t => ev t x.1)) (h' : ∀ x, x ∈ qs → Pp x.1 ∧ Iz (fun t => ev t x.1)) (e : ∀ t, ev t zs = c * pE ps t) (e' : ∀ t, ev t zs = d * pE qs t) {p : List Int} (hp : Pp p) (ip : Iz (fun t => ev t p)) : oft ps p = oft qs p := by
  have h1 := fun n => dv_oft h e tz hne hp ip n
  have h2 := fun n => dv_oft h' e' tz hne hp ip n
  have a := (h2 _).1 ((h1 _).2 (Nat.le_refl _))
  have b := (h1 _).1 ((h2 _).2 (Nat.le_refl _))
  omega

theorem oft_rst {p q : List Int} (h : p ≠ q) : ∀ l : List (List Int × Nat), oft (rst l q) p = oft l p
  | [] => rfl
  | x :: l => by
    by_cases hx : x.1 = q
    · have e1 : rst (x :: l) q = rst l q := by simp [rst, hx]
      rw [e1, oft_rst h l]
      show _ = (if x.1 = p then x.2 else 0) + oft l p
      rw [if_neg (by rw [hx]; exact Ne.symm h)]
      omega
    · have e1 : rst (x :: l) q = x :: rst l q := by simp [rst, hx]
      rw [e1]
      show (if x.1 = p then x.2 else 0) + oft (rst l q) p = (if x.1 = p then x.2 else 0) + oft l p
      rw [oft_rst h l]

theorem pE_dvd : ∀ {pb pa : List (List Int × Nat)}, (pb.Pairwise fun a b => bfr a.1 b.1 = true) → (∀ x, x ∈ pb → x.2 ≤ oft pa x.1) → ∃ s, Po s ∧ ∀ t, pE pa t = pE pb t * s t
  | [], pa, _, _ => ⟨pE pa, pE_po pa, fun t => by simp [pE]⟩
  | x :: pb, pa, h, hle => by
    obtain ⟨h1, h2⟩ := List.pairwise_cons.1 h
    obtain ⟨s, hs, e⟩ := pE_dvd (pa := rst pa x.1) h2 fun y hy => by
      rw [oft_rst fun e => ?_]
      · exact hle y (List.mem_cons_of_mem _ hy)
      · have := h1 y hy
        rw [e, bfr_irrefl] at this
        cases this
    obtain ⟨d, hd⟩ : ∃ d, oft pa x.1 = x.2 + d := ⟨oft pa x.1 - x.2, by have := hle x (List.mem_cons_self ..); omega⟩
    refine ⟨fun t => ev t x.1 ^ d * s t, ((Po.ev _).pow d).mul hs, fun t => ?_⟩
    rw [pE_oft x.1 t pa, e, hd, Int.pow_add]
    show _ = ev t x.1 ^ x.2 * pE pb t * _
    simp only [rA, rB, rC, rD, rE, rF, rG, rH, rI, rJ, rK]

theorem Fac.dvd {a b : List Int} {ca cb : Int} {pa pb : List (List Int × Nat)} (fa : Fac a ca pa) (fb : Fac b cb pb) (hc : cb ∣ ca) (h : ∀ x, x ∈ pb → x.2 ≤ oft pa x.1) : ∃ s, Po s ∧ ∀ t, ev t a = ev t b * s t := by
  obtain ⟨s, hs, e⟩ := pE_dvd fb.asc h
  obtain ⟨k, hk⟩ := hc
  refine ⟨fun t => k * s t, hs.scal k, fun t => ?_⟩
  rw [fa.eq, fb.eq, e, hk]
  simp only [rA, rB, rC, rD, rE, rF, rG, rH, rI, rJ, rK]

end Go.Proofs.YtldcjkhbiffdoabGreatDoor

set_option linter.unusedSimpArgs false
namespace Go.Proofs.YtldcjkhbiffdoabGreatDoor

def mdv (m : Int) (l : List Int) : Bool := l.all fun c => c % m == 0

theorem mdv_zm {m : Int} : ∀ {l : List Int}, mdv m l = true → Zm m (fun t => ev t l)
  | [], _ => Zm.of_zero m fun t => rfl
  | c :: l, h => by
    unfold mdv at h
    rw [List.all_cons, Bool.and_eq_true] at h
    have h1 : m ∣ c := Int.dvd_of_emod_eq_zero (by simpa using h.1)
    obtain ⟨g, hg, e⟩ := mdv_zm (m := m) (l := l) h.2
    obtain ⟨k, hk⟩ := h1
    refine ⟨fun t => k + t * g t, (Po.const k).add (((Po.xpow 1).congr (g := fun t => t) fun t => (Int.pow_one t).symm).mul hg), fun t => ?_⟩
    show c + t * ev t l = m * (k + t * g t)
    have e' : ev t l = m * g t := e t
    rw [e', hk, Int.mul_add, Int.mul_left_comm]

theorem zm_mdv {m : Int} {l : List Int} (h : Zm m (fun t => ev t l)) : mdv m l = true := by
  obtain ⟨g, hg, e⟩ := h
  obtain ⟨L, _, hL⟩ := hg.list
  have h1 : ∀ k, l.getD k 0 = m * L.getD k 0 := fun k => by
    rw [← scal_getD]
    exact ev_ext 0 (fun t _ => by rw [ev_scal, ← hL]; exact e t) k
  refine List.all_eq_true.2 fun c hc => ?_
  obtain ⟨i, hi⟩ := List.getElem?_of_mem hc
  have h2 := h1 i
  rw [List.getD_eq_getElem?_getD, hi] at h2
  have : c = m * L.getD i 0 := h2
  rw [this]
  simp

def rmd (m : Int) (g : List Int) (d : Nat) : List Int → List Int
  | [] => []
  | c :: l => tab d fun k => ((c :: rmd m g d l).getD k 0 - (c :: rmd m g d l).getD d 0 * g.getD k 0) % m

theorem rmd_len (m : Int) (g : List Int) (d : Nat) : ∀ l, (rmd m g d l).length ≤ d
  | [] => by simp [rmd]
  | c :: l => by unfold rmd; rw [tab_len]; omega

theorem tab_zm {m : Int} {d : Nat} {f g : Nat → Int} (h : ∀ k, m ∣ f k - g k) : Zm m (fun t => ev t (tab d f) - ev t (tab d g)) := by
  have h1 : mdv m (ladd (tab d f) ((tab d g).map fun x => -1 * x)) = true := List.all_eq_true.2 fun c hc => by
    obtain ⟨i, hi⟩ := List.getElem?_of_mem hc
    have h2 : (ladd (tab d f) ((tab d g).map fun x => -1 * x)).getD i 0 = c := by rw [List.getD_eq_getElem?_getD, hi]; rfl
    rw [ladd_getD, scal_getD, tab_getD, tab_getD] at h2
    have h3 : m ∣ c := by
      by_cases hid : i < d
      · rw [if_pos hid, if_pos hid] at h2
        obtain ⟨k, hk⟩ := h i
        exact ⟨k, by omega⟩
      · rw [if_neg hid, if_neg hid] at h2
        exact ⟨0, by omega⟩
    simpa using Int.emod_eq_zero_of_dvd h3
  exact (mdv_zm h1).congr fun t => by rw [ev_ladd, ev_scal]; omega

theorem rmd_eq (m : Int) {g : List Int} {d : Nat} (hg : g.length = d + 1) (hl : g.getD d 0 = 1) : ∀ l, ∃ q, Po q ∧ Zm m (fun t => ev t l - (q t * ev t g + ev t (rmd m g d l)))
  | [] => ⟨fun _ => 0, Po.zero, Zm.of_zero m fun t => by simp [ev, rmd]⟩
  | c :: l => by
    obtain ⟨q, hq, e⟩ := rmd_eq m hg hl l
    have hX : Po (fun t : Int => t) := (Po.xpow 1).congr fun t => (Int.pow_one t).symm
    obtain ⟨top, htop⟩ : ∃ top, (c :: rmd m g d l).getD d 0 = top := ⟨_, rfl⟩
    have hlen : (c :: rmd m g d l).length ≤ d + 1 := by have := rmd_len m g d l; simp; omega
    have h1 := tab_zm (m := m) (d := d) (f := fun k => ((c :: rmd m g d l).getD k 0 - top * g.getD k 0) % m) (g := fun k => (c :: rmd m g d l).getD k 0 - top * g.getD k 0) fun k => ⟨-(((c :: rmd m g d l).getD k 0 - top * g.getD k 0) / m), by
      have := Int.emod_add_mul_ediv ((c :: rmd m g d l).getD k 0 - top * g.getD k 0) m
      rw [Int.mul_neg]; omega⟩
    have h2 : ∀ t, ev t (tab d fun k => (c :: rmd m g d l).getD k 0 - top * g.getD k 0) = ev t (c :: rmd m g d l) - top * ev t g := fun t => by
      have : ev t (ladd (c :: rmd m g d l) (g.map fun x => -top * x)) = ev t (c :: rmd m g d l) - top * ev t g := by
        rw [ev_ladd, ev_scal, Int.neg_mul]; omega
      rw [← this]
      refine ev_of_getD (fun k => ?_) t
      rw [tab_getD, ladd_getD, scal_getD, Int.neg_mul]
      rcases Nat.lt_trichotomy k d with hk | rfl | hk
      · rw [if_pos hk]; omega
      · rw [if_neg (by omega), htop, hl]; omega
      · rw [if_neg (by omega), getD_out (l := c :: rmd m g d l) (by omega), getD_out (l := g) (by omega)]; omega
    refine ⟨fun t => t * q t + top, (hX.mul hq).add (Po.const top), ((e.mul hX).sub h1).congr fun t => ?_⟩
    show c + t * ev t l - ((t * q t + top) * ev t g + ev t (rmd m g d (c :: l))) = t * (ev t l - (q t * ev t g + ev t (rmd m g d l))) - (ev t (tab d fun k => ((c :: rmd m g d l).getD k 0 - top * g.getD k 0) % m) - ev t (tab d fun k => (c :: rmd m g d l).getD k 0 - top * g.getD k 0))
    rw [h2]
    have h3 : rmd m g d (c :: l) = tab d fun k => ((c :: rmd m g d l).getD k 0 - top * g.getD k 0) % m := by
      show (tab d fun k => ((c :: rmd m g d l).getD k 0 - (c :: rmd m g d l).getD d 0 * g.getD k 0) % m) = _
      rw [htop]
    rw [h3]
    show _ = t * (ev t l - (q t * ev t g + ev t (rmd m g d l))) - (_ - (c + t * ev t (rmd m g d l) - top * ev t g))
    simp only [Int.mul_sub, Int.mul_add, Int.add_mul, Int.mul_assoc]
    omega

theorem rmd_not {p : Nat} (hp : Dom (p : Int)) {g : List Int} {d : Nat} (hg : g.length = d + 1) (hl : g.getD d 0 = 1) {l : List Int} (h : mdv p (rmd p g d l) = false) : ¬ Dv p (fun t => ev t g) (fun t => ev t l) := fun hd => by
  obtain ⟨q, hq, e⟩ := rmd_eq p hg hl l
  obtain ⟨c, s, hc, hs, hz⟩ := hd
  have hgd : Dm p d (fun t => ev t g) := Dm.of_ld (d := g.getD d 0) (Ld.of_list (by omega)) (by rw [hl]; exact hp.2)
  have hrm : ¬ Zm p (fun t => ev t (rmd p g d l)) := fun hz' => by rw [zm_mdv hz'] at h; cases h
  have h2 : Zm p (fun t => c * ev t (rmd p g d l) - ev t g * (s t - c * q t)) := (hz.sub (e.scal c)).congr fun t => by
    dsimp only
    simp only [Int.mul_sub, Int.sub_mul, Int.mul_add, Int.add_mul, Int.mul_assoc, Int.mul_comm, Int.mul_left_comm]
    omega
  have hPl : Pl d (fun t => ev t (rmd p g d l)) := (Pl.ev _).mono (rmd_len ..)
  rcases Zm.or_dm hPl (m := (p : Int)) with h3 | ⟨k, hk, h3⟩
  · exact hrm h3
  · have h4 := h3.scal hp hc
    obtain ⟨n, hn⟩ := hs.sub (hq.scal c)
    rcases Zm.or_dm hn (m := (p : Int)) with h5 | ⟨j, _, h5⟩
    · exact h4.not ((h2.add (h5.mul (Po.ev g))).congr fun t => by omega)
    · have h6 := hgd.mul hp h5
      have := h4.uniq (h6.alike (h2.congr fun t => rfl))
      omega

def lows (p : Nat) : Nat → List (List Int)
  | 0 => [[]]
  | d + 1 => (List.range p).flatMap fun (c : Nat) => (lows p d).map fun l => Int.ofNat c :: l

theorem lows_mem {p : Nat} (hp : 0 < p) : ∀ (l : List Int), (l.map fun x => x % (p : Int)) ∈ lows p l.length
  | [] => by simp [lows]
  | c :: l => by
    have h0 : 0 ≤ c % (p : Int) := Int.emod_nonneg _ (by omega)
    have h1 : c % (p : Int) < p := Int.emod_lt_of_pos _ (by omega)
    refine List.mem_flatMap.2 ⟨(c % (p : Int)).toNat, List.mem_range.2 (by omega), List.mem_map.2 ⟨_, lows_mem hp l, ?_⟩⟩
    rw [List.map_cons, show Int.ofNat (c % (p : Int)).toNat = c % (p : Int) from Int.toNat_of_nonneg h0]

def irT (p : Nat) (f : List Int) : Nat → Bool
  | 0 => true
  | d + 1 => ((lows p (d + 1)).all fun l => !mdv p (rmd p (l ++ [1]) (d + 1) f)) && irT p f d

theorem irT_at {p : Nat} {f : List Int} : ∀ {n : Nat}, irT p f n = true → ∀ {d : Nat}, 0 < d → d ≤ n → ∀ l, l ∈ lows p d → mdv p (rmd p (l ++ [1]) d f) = false
  | 0, _, d, h0, hd, _, _ => by omega
  | n + 1, h, d, h0, hd, l, hl => by
    unfold irT at h
    rw [Bool.and_eq_true] at h
    rcases (show d = n + 1 ∨ d ≤ n by omega) with rfl | h1
    · have := List.all_eq_true.1 h.1 l hl
      simpa using this
    · exact irT_at h.2 h0 h1 l hl

theorem map_mod_zm (m : Int) : ∀ l : List Int, Zm m (fun t => ev t (l.map fun x => x % m) - ev t l)
  | [] => Zm.of_zero m fun t => by simp [ev]
  | c :: l => by
    obtain ⟨g, hg, e⟩ := map_mod_zm m l
    refine ⟨fun t => -(c / m) + t * g t, (Po.const _).add (((Po.xpow 1).congr (g := fun t => t) fun t => (Int.pow_one t).symm).mul hg), fun t => ?_⟩
    show c % m + t * ev t (l.map fun x => x % m) - (c + t * ev t l) = m * (-(c / m) + t * g t)
    have h1 := Int.emod_add_mul_ediv c m
    have h2 : t * ev t (l.map fun x => x % m) - t * ev t l = m * (t * g t) := by
      have e' : ev t (l.map fun x => x % m) - ev t l = m * g t := e t
      rw [← Int.mul_sub, e', Int.mul_left_comm]
    rw [Int.mul_add, Int.mul_neg, ← h2]
    omega

theorem monic_of {p : Nat} (hp0 : 0 < p) (hp : Dom (p : Int)) {k : Nat} {a : Int → Int} (ha : Dm p k a) : ∃ l, l ∈ lows p k ∧ ∃ e, ¬ (p : Int) ∣ e ∧ Zm p (fun t => ev t (l ++ [1]) - e * a t) := by
  obtain ⟨d, a0, hd, hld, hz⟩ := ha
  obtain ⟨d', hd'⟩ := hp.inv hp0 hd
  obtain ⟨la, h1, h2, h3⟩ := hld.list
  have hde : ¬ (p : Int) ∣ d' := fun ⟨x, hx⟩ => hp.2 (by
    obtain ⟨y, hy⟩ := hd'
    exact ⟨d * x - y, by rw [Int.mul_sub, ← hy, Int.mul_left_comm, ← hx]; omega⟩)
  refine ⟨((la.take k).map fun x => d' * x).map fun x => x % (p : Int), ?_, d', hde, ?_⟩
  · have := lows_mem hp0 ((la.take k).map fun x => d' * x)
    rwa [List.length_map, List.length_take, h1, show min k (k + 1) = k by omega] at this
  · have e1 : ∀ (l : List Int) (c t : Int), ev t (l ++ [c]) = ev t l + t ^ l.length * c := fun l c t => by
      induction l with
      | nil => simp [ev]
      | cons x l ih =>
        show x + t * ev t (l ++ [c]) = x + t * ev t l + t ^ (l.length + 1) * c
        rw [ih, Int.pow_succ, Int.mul_add, Int.mul_comm (t ^ l.length) t, Int.mul_assoc]; omega
    have e2 : la = la.take k ++ [d] := by
      conv => lhs; rw [← List.take_append_drop k la]
      congr 1
      have hk : k < la.length := by omega
      rw [List.drop_eq_getElem_cons hk, List.drop_of_length_le (by omega)]
      have : la.getD k 0 = la[k] := by rw [List.getD_eq_getElem?_getD, List.getElem?_eq_getElem hk]; rfl
      rw [← this, h2]
    have hlen : (((la.take k).map fun x => d' * x).map fun x => x % (p : Int)).length = k := by simp; omega
    have hlen2 : (la.take k).length = k := by simp; omega
    have e3 : ∀ t, a0 t = ev t (la.take k) + t ^ k * d := fun t => by
      rw [h3, e2, e1, ← e2, hlen2]
    have z1 := map_mod_zm (p : Int) ((la.take k).map fun x => d' * x)
    have z2 : Zm p (fun t => t ^ k * 1 - t ^ k * (d * d')) := by
      obtain ⟨y, hy⟩ := hd'
      exact ⟨fun t => t ^ k * -y, (Po.xpow k).mul (Po.const _), fun t => by
        show t ^ k * 1 - t ^ k * (d * d') = _
        rw [← Int.mul_sub, show 1 - d * d' = (p : Int) * -y by rw [Int.mul_neg, ← hy]; omega, Int.mul_left_comm]⟩
    refine ((z1.add z2).sub (hz.scal d')).congr fun t => ?_
    rw [e1, hlen, ev_scal, e3]
    simp only [Int.mul_sub, Int.mul_add, Int.mul_assoc, Int.mul_comm, Int.mul_left_comm]
    omega

theorem irr_of {p : Nat} (hp0 : 0 < p) (hp : Dom (p : Int)) {f : List Int} {n : Nat} (hn : f.length = n + 1) (h1 : 1 ≤ n) (hl : ¬ (p : Int) ∣ f.getD n 0) (h : irT p f (n / 2) = true) : Irr p (fun t => ev t f) := by
  have hD : Dm p n (fun t => ev t f) := Dm.of_ld (Ld.of_list (by omega)) hl
  have key : ∀ (a b : Int → Int) (c : Int) (ka kb : Nat), ¬ (p : Int) ∣ c → Zm p (fun t => c * ev t f - a t * b t) → Dm p ka a → Po b → 0 < ka → ka ≤ n / 2 → False := fun a b c ka kb hc hz hka hb h0 hle => by
    obtain ⟨l, hl1, e, he, hz2⟩ := monic_of hp0 hp hka
    have hm := irT_at h h0 hle l hl1
    have hll : l.length = ka := by
      have : ∀ (d : Nat) (l : List Int), l ∈ lows p d → l.length = d := by
        intro d
        induction d with
        | zero => intro l hl; simp [lows] at hl; subst hl; rfl
        | succ d ih =>
          intro l hl
          obtain ⟨c, _, hl⟩ := List.mem_flatMap.1 hl
          obtain ⟨l', hl', rfl⟩ := List.mem_map.1 hl
          simp [ih l' hl']
      exact this _ _ hl1
    refine rmd_not hp (g := l ++ [1]) (d := ka) (by simp [hll]) (by rw [List.getD_eq_getElem?_getD, List.getElem?_append_right (by omega), hll]; simp) hm ⟨e * c, b, hp.mul he hc, hb, ((hz.scal e).sub (hz2.mul hb)).congr fun t => ?_⟩
    simp only [Int.mul_sub, Int.mul_add, Int.mul_assoc, Int.mul_comm, Int.mul_left_comm]
    omega
  refine ⟨Po.ev f, hD.not, fun h0 => ?_, fun a b c ha hb hc hz => ?_⟩
  · have := hD.uniq h0; omega
  · have hcD := hD.scal hp hc
    obtain ⟨na, hna⟩ := ha
    obtain ⟨nb, hnb⟩ := hb
    rcases Zm.or_dm hna (m := (p : Int)) with h2 | ⟨ka, _, h2⟩
    · exact absurd ((hz.add (h2.mul hnb.po)).congr fun t => by dsimp only; rw [Int.mul_comm (a t)]; omega) hcD.not
    · rcases Zm.or_dm hnb (m := (p : Int)) with h3 | ⟨kb, _, h3⟩
      · exact absurd ((hz.add (h3.mul hna.po)).congr fun t => by dsimp only; omega) hcD.not
      · have h4 := hcD.uniq ((h2.mul hp h3).alike (hz.congr fun t => rfl))
        rcases Nat.eq_zero_or_pos ka with rfl | h5
        · exact .inl h2
        · rcases Nat.eq_zero_or_pos kb with rfl | h6
          · exact .inr h3
          · rcases (show ka ≤ n / 2 ∨ kb ≤ n / 2 by omega) with h7 | h7
            · exact (key a b c ka kb hc hz h2 hnb.po h5 h7).elim
            · exact (key b a c kb ka hc (hz.congr fun t => by dsimp only; rw [Int.mul_comm (a t)]) h3 hna.po h6 h7).elim

def lS : List (List Int) → Nat → List Int
  | [], _ => [1]
  | g :: L, s => if s % 2 = 1 then lmul g (lS L (s / 2)) else lS L (s / 2)

theorem ev_lS (t : Int) : ∀ (L : List (List Int)) (s : Nat), ev t (lS L s) = pS (fs L) s t
  | [], s => by simp [lS, ev, fs, pS]
  | g :: L, s => by
    show ev t (if s % 2 = 1 then lmul g (lS L (s / 2)) else lS L (s / 2)) = (if s % 2 = 1 then ev t g else 1) * pS (fs L) (s / 2) t
    split
    · rw [ev_lmul, ev_lS t L]
    · rw [Int.one_mul, ev_lS t L]

def lA (L : List (List Int)) : List Int := L.foldr lmul [1]

theorem ev_lA (t : Int) : ∀ L : List (List Int), ev t (lA L) = pA (fs L) t
  | [] => by simp [lA, ev, fs, pA]
  | g :: L => by
    show ev t (lmul g (lA L)) = ev t g * pA (fs L) t
    rw [ev_lmul, ev_lA t L]

def noneT (M : Int) (F : List Int) (L : List (List Int)) : Nat → Bool
  | 0 => true
  | 1 => true
  | s + 1 => noneT M F L s && decide (dvs (prim (tz (((lS L s).map fun x => lead F * x).map (near M)))) (F.length + 1 - (prim (tz (((lS L s).map fun x => lead F * x).map (near M)))).length) F = none)

structure Cert (p k : Nat) (F : List Int) (L : List (List Int)) (u v : List Int) (e : Int) : Prop where
  two : 2 ≤ p
  trial : (List.range p).all (fun d => decide (d < 2) || decide (p < d * d) || decide (p % d ≠ 0)) = true
  one : 1 ≤ k
  irr : L.all (fun g => decide (1 < g.length) && (g.getD (g.length - 1) 0 == 1) && irT p g ((g.length - 1) / 2)) = true
  sq : mdv p (ladd (ladd (lmul u F) (lmul v (der F))) [-e]) = true
  he : e % (p : Int) ≠ 0
  hc : lead F % (p : Int) ≠ 0
  alike : mdv ((p : Int) ^ k) (ladd F ((lA L).map fun x => -(lead F) * x)) = true
  len : F.length ≤ 11
  big : 2 * (2 ^ (F.length - 1) * (nrm F : Int)) < (p : Int) ^ k ∨ L.length = 1
  pos : 0 < L.length
  miss : noneT ((p : Int) ^ k) F L (2 ^ (L.length - 1)) = true

theorem Cert.iz {p k : Nat} {F : List Int} {L : List (List Int)} {u v : List Int} {e : Int} (h : Cert p k F L u v e) (hF : Pp F) : Iz (fun t => ev t F) := by
  have hp : Dom (p : Int) := Dom.of_trial h.two fun d h1 h2 h3 => by
    have hd : d < p := by
      rcases Nat.lt_or_ge d p with h4 | h4
      · exact h4
      · have : p * 2 ≤ d * d := Nat.mul_le_mul h4 h1
        have := h.two
        omega
    have := List.all_eq_true.1 h.trial d (List.mem_range.2 hd)
    have h5 : p % d = 0 := Nat.mod_eq_zero_of_dvd h3
    simp [h5] at this
    omega
  have hp0 : 0 < p := by have := h.two; omega
  have ndv : ∀ {z : Int}, z % (p : Int) ≠ 0 → ¬ (p : Int) ∣ z := fun hz hd => hz (Int.emod_eq_zero_of_dvd hd)
  have l0 := List.length_pos_iff.2 hF.ne
  have mem : ∀ g, g ∈ L → 1 < g.length ∧ g.getD (g.length - 1) 0 = 1 ∧ irT p g ((g.length - 1) / 2) = true := fun g hg => by
    have := List.all_eq_true.1 h.irr g hg
    simp only [Bool.and_eq_true, decide_eq_true_eq, beq_iff_eq] at this
    exact ⟨this.1.1, this.1.2, this.2⟩
  have Z : Zas p k (fs L) (fun t => ev t F) (lead F) (F.length - 1) := {
    two := h.two
    dom := hp
    one := h.one
    irr := fun g hg => by
      obtain ⟨l, h1, rfl⟩ := fs_mem hg
      obtain ⟨a1, a2, a3⟩ := mem l h1
      exact irr_of hp0 hp (n := l.length - 1) (by omega) (by omega) (by rw [a2]; exact hp.2) a3
    mon := fun g hg => by
      obtain ⟨l, h1, rfl⟩ := fs_mem hg
      obtain ⟨a1, a2, a3⟩ := mem l h1
      refine ⟨l.length - 1, ?_⟩
      rw [← a2]
      exact Ld.of_list (by omega)
    sq := ⟨_, fun t => ev t u, fun t => ev t v, e, Dr.ev F, Po.ev u, Po.ev v, ndv h.he, (mdv_zm h.sq).congr fun t => by
      rw [ev_ladd, ev_ladd, ev_lmul, ev_lmul]
      show ev t u * ev t F + ev t v * ev t (der F) - e = ev t u * ev t F + ev t v * ev t (der F) + (-e + t * 0)
      omega⟩
    hc := ndv h.hc
    ld := Ld.of_list (by omega)
    alike := (mdv_zm h.alike).congr fun t => by
      rw [ev_ladd, ev_scal, ev_lA, Int.neg_mul]; omega }
  have hM : 0 < (p : Int) ^ k := by
    have : 0 < (p : Int) := by omega
    exact Int.pow_pos this
  have step : ∀ s, 1 ≤ s → noneT ((p : Int) ^ k) F L s = true → s ≤ 2 ^ (L.length - 1) → CO p F L [] F 0 s := by
    intro s
    induction s with
    | zero => intro h1; omega
    | succ s ih =>
      intro h1 h2 h3
      rcases Nat.eq_zero_or_pos s with rfl | hs
      · exact CO.start Z hF
      · obtain ⟨s, rfl⟩ : ∃ r, s = r + 1 := ⟨s - 1, by omega⟩
        have h4 : (noneT ((p : Int) ^ k) F L (s + 1) && decide (dvs (prim (tz (((lS L (s + 1)).map fun x => lead F * x).map (near ((p : Int) ^ k))))) (F.length + 1 - (prim (tz (((lS L (s + 1)).map fun x => lead F * x).map (near ((p : Int) ^ k))))).length) F = Option.none)) = true := h2
        rw [Bool.and_eq_true, decide_eq_true_iff] at h4
        have hco := ih hs h4.1 (by omega)
        have hbig : 2 * (2 ^ (F.length - 1) * (nrm F : Int)) < (p : Int) ^ k := by
          rcases h.big with h5 | h5
          · exact h5
          · rw [h5] at h3; simp at h3
        refine hco.miss Z (by have := h.len; omega) hbig (W := ((lS L (s + 1)).map fun x => lead F * x).map (near ((p : Int) ^ k))) (fun j => ?_) ((near_map ((lS L (s + 1)).map fun x => lead F * x)).congr fun t => ?_) h4.2
        · rw [List.getD_eq_getElem?_getD, List.getElem?_map]
          cases hj : ((lS L (s + 1)).map fun x => lead F * x)[j]? with
          | none => simp; omega
          | some z => exact near_le hM z
        · rw [ev_scal, ev_lS]
  have hend := (step (2 ^ (L.length - 1)) (Nat.pow_pos (by decide)) h.miss (Nat.le_refl _)).ends Z (Nat.le_refl _) h.pos
  exact (hend.mem F (by simp)).2

theorem iz_one {F : List Int} (hF : Pp F) (h : F.length = 2) : Iz (fun t => ev t F) := by
  have hD := hF.tr.dm hF.ne
  rw [h] at hD
  refine ⟨Po.ev F, hD.not, fun h0 => absurd (hD.uniq h0) (by decide), fun a b ha hb e0 => ?_⟩
  have e : ∀ t, ev t F = a t * b t := e0
  obtain ⟨na, hna⟩ := ha
  obtain ⟨nb, hnb⟩ := hb
  rcases Zm.or_dm hna (m := 0) with h2 | ⟨ka, _, h2⟩
  · exact absurd ((h2.mul hnb.po).congr fun t => by rw [e, Int.mul_comm]) hD.not
  · rcases Zm.or_dm hnb (m := 0) with h3 | ⟨kb, _, h3⟩
    · exact absurd ((h3.mul hna.po).congr fun t => by rw [e]) hD.not
    · have h4 := hD.uniq ((h2.mul Dom.zero h3).alike (Zm.of_zero 0 fun t => by rw [e]; omega))
      rcases Nat.eq_zero_or_pos ka with rfl | h5
      · exact .inl h2
      · obtain rfl : kb = 0 := by omega
        exact .inr h3

end Go.Proofs.YtldcjkhbiffdoabGreatDoor

set_option linter.unusedSimpArgs false
namespace Go.Proofs.YtldcjkhbiffdoabGreatDoor

theorem asc_same : ∀ {ps qs : List (List Int × Nat)}, (ps.Pairwise fun a b => bfr a.1 b.1 = true) → (qs.Pairwise fun a b => bfr a.1 b.1 = true) → (∀ x, x ∈ ps → 1 ≤ x.2) → (∀ x, x ∈ qs → 1 ≤ x.2) → (∀ x, x ∈ ps ∨ x ∈ qs → oft ps x.1 = oft qs x.1) → ps = qs
  | [], [], _, _, _, _, _ => rfl
  | [], y :: qs, _, _, _, h4, h => by
    have := h y (.inr (List.mem_cons_self ..))
    have h5 := oft_mem (l := y :: qs) (x := y) (List.mem_cons_self ..)
    have h6 := h4 y (List.mem_cons_self ..)
    have : oft [] y.1 = 0 := rfl
    omega
  | x :: ps, [], _, _, h3, _, h => by
    have := h x (.inl (List.mem_cons_self ..))
    have h5 := oft_mem (l := x :: ps) (x := x) (List.mem_cons_self ..)
    have h6 := h3 x (List.mem_cons_self ..)
    have : oft [] x.1 = 0 := rfl
    omega
  | x :: ps, y :: qs, h1, h2, h3, h4, h => by
    have a1 := List.pairwise_cons.1 h1
    have a2 := List.pairwise_cons.1 h2
    have hx := h x (.inl (List.mem_cons_self ..))
    have hy := h y (.inr (List.mem_cons_self ..))
    have ox := oft_asc h1 (x := x) (List.mem_cons_self ..)
    have oy := oft_asc h2 (x := y) (List.mem_cons_self ..)
    have px := h3 x (List.mem_cons_self ..)
    have py := h4 y (List.mem_cons_self ..)
    obtain ⟨u, hu, eu⟩ := oft_pos (l := y :: qs) (p := x.1) (by omega)
    obtain ⟨v, hv, ev'⟩ := oft_pos (l := x :: ps) (p := y.1) (by omega)
    have exy : x.1 = y.1 := by
      rcases List.mem_cons.1 hu with rfl | hu
      · exact eu.symm
      · rcases List.mem_cons.1 hv with rfl | hv
        · exact ev'
        · have b1 := a2.1 u hu
          have b2 := a1.1 v hv
          rw [eu] at b1
          rw [ev'] at b2
          have := bfr_trans b1 b2
          rw [bfr_irrefl] at this
          cases this
    have exy2 : x.2 = y.2 := by rw [← ox, ← oy, hx, exy]
    obtain rfl : x = y := Prod.ext exy exy2
    have tl : ∀ z, z ∈ ps ∨ z ∈ qs → x.1 ≠ z.1 := fun z hz e => by
      rcases hz with hz | hz
      · have := a1.1 z hz; rw [e, bfr_irrefl] at this; cases this
      · have := a2.1 z hz; rw [e, bfr_irrefl] at this; cases this
    have := asc_same a1.2 a2.2 (fun z hz => h3 z (List.mem_cons_of_mem _ hz)) (fun z hz => h4 z (List.mem_cons_of_mem _ hz)) fun z hz => by
      have h5 := h z (hz.imp (List.mem_cons_of_mem _) (List.mem_cons_of_mem _))
      have h6 : (if x.1 = z.1 then x.2 else 0) + oft ps z.1 = (if x.1 = z.1 then x.2 else 0) + oft qs z.1 := h5
      rw [if_neg (tl z hz)] at h6
      omega
    rw [this]

theorem Fac.same {zs : List Int} {c d : Int} {ps qs : List (List Int × Nat)} (tz : Tr zs) (hne : zs ≠ []) (h : Fac zs c ps) (h' : Fac zs d qs) : c = d ∧ ps = qs := by
  refine ⟨by rw [h.cont, h'.cont], asc_same h.asc h'.asc (fun x hx => (h.each x hx).2.2) (fun x hx => (h'.each x hx).2.2) fun x hx => ?_⟩
  have hp : Pp x.1 ∧ Iz (fun t => ev t x.1) := hx.elim (fun hx => ⟨(h.each x hx).1, (h.each x hx).2.1⟩) fun hx => ⟨(h'.each x hx).1, (h'.each x hx).2.1⟩
  exact oft_same tz hne (fun y hy => ⟨(h.each y hy).1, (h.each y hy).2.1⟩) (fun y hy => ⟨(h'.each y hy).1, (h'.each y hy).2.1⟩) h.eq h'.eq hp.1 hp.2

def lpow (l : List Int) : Nat → List Int
  | 0 => [1]
  | n + 1 => lmul (lpow l n) l
theorem ev_lpow (t : Int) (l : List Int) : ∀ n, ev t (lpow l n) = ev t l ^ n
  | 0 => by simp [lpow, ev]
  | n + 1 => by
    show ev t (lmul (lpow l n) l) = _
    rw [ev_lmul, ev_lpow t l n, Int.pow_succ]

def lE : List (List Int × Nat) → List Int
  | [] => [1]
  | x :: l => lmul (lpow x.1 x.2) (lE l)
theorem ev_lE (t : Int) : ∀ l : List (List Int × Nat), ev t (lE l) = pE l t
  | [] => by simp [lE, ev, pE]
  | x :: l => by
    show ev t (lmul (lpow x.1 x.2) (lE l)) = ev t x.1 ^ x.2 * pE l t
    rw [ev_lmul, ev_lpow, ev_lE t l]

theorem Fac.mk' {zs : List Int} {c : Int} {ps : List (List Int × Nat)} (h1 : scont zs = c) (h2 : ∀ x, x ∈ ps → Pp x.1 ∧ Iz (fun t => ev t x.1) ∧ 1 ≤ x.2) (h3 : tz ((lE ps).map fun x => c * x) = zs) (h4 : ps.Pairwise fun a b => bfr a.1 b.1 = true) : Fac zs c ps :=
  ⟨h1.symm, h2, fun t => by rw [← h3, ev_tz, ev_scal, ev_lE], h4⟩

end Go.Proofs.YtldcjkhbiffdoabGreatDoor

set_option linter.unusedSimpArgs false
namespace Go.Proofs.YtldcjkhbiffdoabGreatDoor

theorem lin_0 : Pp [0, 1] ∧ Iz (fun t => ev t [0, 1]) :=
  have h : Pp [0, 1] := ⟨by intro _; decide, by decide, by decide +kernel⟩
  ⟨h, iz_one h rfl⟩
theorem lin_1 : Pp [-2, 3] ∧ Iz (fun t => ev t [-2, 3]) :=
  have h : Pp [-2, 3] := ⟨by intro _; decide, by decide, by decide +kernel⟩
  ⟨h, iz_one h rfl⟩
theorem lin_2 : Pp [-1, 1] ∧ Iz (fun t => ev t [-1, 1]) :=
  have h : Pp [-1, 1] := ⟨by intro _; decide, by decide, by decide +kernel⟩
  ⟨h, iz_one h rfl⟩
theorem lin_3 : Pp [1, 1] ∧ Iz (fun t => ev t [1, 1]) :=
  have h : Pp [1, 1] := ⟨by intro _; decide, by decide, by decide +kernel⟩
  ⟨h, iz_one h rfl⟩
theorem lin_4 : Pp [1, 2] ∧ Iz (fun t => ev t [1, 2]) :=
  have h : Pp [1, 2] := ⟨by intro _; decide, by decide, by decide +kernel⟩
  ⟨h, iz_one h rfl⟩
theorem irr_0 : Pp [1, 0, 1] ∧ Iz (fun t => ev t [1, 0, 1]) :=
  have h : Pp [1, 0, 1] := ⟨by intro _; decide, by decide, by decide +kernel⟩
  ⟨h, Cert.iz (p := 3) (k := 1) (L := [[1, 0, 1]]) (u := [1]) (v := [0, 1]) (e := 1) ⟨by decide, by decide, by decide, by decide +kernel, by decide +kernel, by decide, by decide, by decide +kernel, by decide, by decide +kernel, by decide, by decide +kernel⟩ h⟩
theorem irr_1 : Pp [1, 1, 1] ∧ Iz (fun t => ev t [1, 1, 1]) :=
  have h : Pp [1, 1, 1] := ⟨by intro _; decide, by decide, by decide +kernel⟩
  ⟨h, Cert.iz (p := 2) (k := 1) (L := [[1, 1, 1]]) (u := []) (v := [1]) (e := 1) ⟨by decide, by decide, by decide, by decide +kernel, by decide +kernel, by decide, by decide, by decide +kernel, by decide, by decide +kernel, by decide, by decide +kernel⟩ h⟩
theorem irr_2 : Pp [1, -1, 1] ∧ Iz (fun t => ev t [1, -1, 1]) :=
  have h : Pp [1, -1, 1] := ⟨by intro _; decide, by decide, by decide +kernel⟩
  ⟨h, Cert.iz (p := 2) (k := 1) (L := [[1, 1, 1]]) (u := []) (v := [1]) (e := 1) ⟨by decide, by decide, by decide, by decide +kernel, by decide +kernel, by decide, by decide, by decide +kernel, by decide, by decide +kernel, by decide, by decide +kernel⟩ h⟩
theorem irr_3 : Pp [2, -2, 1] ∧ Iz (fun t => ev t [2, -2, 1]) :=
  have h : Pp [2, -2, 1] := ⟨by intro _; decide, by decide, by decide +kernel⟩
  ⟨h, Cert.iz (p := 3) (k := 1) (L := [[2, 1, 1]]) (u := [1]) (v := [2, 1]) (e := 1) ⟨by decide, by decide, by decide, by decide +kernel, by decide +kernel, by decide, by decide, by decide +kernel, by decide, by decide +kernel, by decide, by decide +kernel⟩ h⟩
theorem irr_4 : Pp [2, 2, 1] ∧ Iz (fun t => ev t [2, 2, 1]) :=
  have h : Pp [2, 2, 1] := ⟨by intro _; decide, by decide, by decide +kernel⟩
  ⟨h, Cert.iz (p := 3) (k := 1) (L := [[2, 2, 1]]) (u := [1]) (v := [1, 1]) (e := 1) ⟨by decide, by decide, by decide, by decide +kernel, by decide +kernel, by decide, by decide, by decide +kernel, by decide, by decide +kernel, by decide, by decide +kernel⟩ h⟩
theorem irr_5 : Pp [1, 0, 0, 0, 1] ∧ Iz (fun t => ev t [1, 0, 0, 0, 1]) :=
  have h : Pp [1, 0, 0, 0, 1] := ⟨by intro _; decide, by decide, by decide +kernel⟩
  ⟨h, Cert.iz (p := 3) (k := 4) (L := [[80, 22, 1], [80, 59, 1]]) (u := [1]) (v := [0, 2]) (e := 1) ⟨by decide, by decide, by decide, by decide +kernel, by decide +kernel, by decide, by decide, by decide +kernel, by decide, by decide +kernel, by decide, by decide +kernel⟩ h⟩
theorem irr_6 : Pp [1, 0, -10, 0, 1] ∧ Iz (fun t => ev t [1, 0, -10, 0, 1]) :=
  have h : Pp [1, 0, -10, 0, 1] := ⟨by intro _; decide, by decide, by decide +kernel⟩
  ⟨h, Cert.iz (p := 5) (k := 4) (L := [[402, 0, 1], [213, 0, 1]]) (u := [1]) (v := [0, 1]) (e := 1) ⟨by decide, by decide, by decide, by decide +kernel, by decide +kernel, by decide, by decide, by decide +kernel, by decide, by decide +kernel, by decide, by decide +kernel⟩ h⟩
theorem irr_7 : Pp [576, 0, -960, 0, 352, 0, -40, 0, 1] ∧ Iz (fun t => ev t [576, 0, -960, 0, 352, 0, -40, 0, 1]) :=
  have h : Pp [576, 0, -960, 0, 352, 0, -40, 0, 1] := ⟨by intro _; decide, by decide, by decide +kernel⟩
  ⟨h, Cert.iz (p := 7) (k := 8) (L := [[1673801, 2158969, 1], [1673801, 3605832, 1], [4090988, 2158969, 1], [4090988, 3605832, 1]]) (u := [4, 0, 6, 0, 6, 0, 5]) (v := [0, 4, 0, 2, 0, 2, 0, 2]) (e := 1) ⟨by decide, by decide, by decide, by decide +kernel, by decide +kernel, by decide, by decide, by decide +kernel, by decide, by decide +kernel, by decide, by decide +kernel⟩ h⟩
theorem irr_8 : Pp [1, -1, 1, -1, 1] ∧ Iz (fun t => ev t [1, -1, 1, -1, 1]) :=
  have h : Pp [1, -1, 1, -1, 1] := ⟨by intro _; decide, by decide, by decide +kernel⟩
  ⟨h, Cert.iz (p := 2) (k := 1) (L := [[1, 1, 1, 1, 1]]) (u := [1]) (v := [0, 1, 1]) (e := 1) ⟨by decide, by decide, by decide, by decide +kernel, by decide +kernel, by decide, by decide, by decide +kernel, by decide, by decide +kernel, by decide, by decide +kernel⟩ h⟩
theorem irr_9 : Pp [1, 1, 1, 1, 1] ∧ Iz (fun t => ev t [1, 1, 1, 1, 1]) :=
  have h : Pp [1, 1, 1, 1, 1] := ⟨by intro _; decide, by decide, by decide +kernel⟩
  ⟨h, Cert.iz (p := 2) (k := 1) (L := [[1, 1, 1, 1, 1]]) (u := [1]) (v := [0, 1, 1]) (e := 1) ⟨by decide, by decide, by decide, by decide +kernel, by decide +kernel, by decide, by decide, by decide +kernel, by decide, by decide +kernel, by decide, by decide +kernel⟩ h⟩
theorem irr_10 : Pp [1, 0, 0, 1, 0, 0, 1] ∧ Iz (fun t => ev t [1, 0, 0, 1, 0, 0, 1]) :=
  have h : Pp [1, 0, 0, 1, 0, 0, 1] := ⟨by intro _; decide, by decide, by decide +kernel⟩
  ⟨h, Cert.iz (p := 2) (k := 1) (L := [[1, 0, 0, 1, 0, 0, 1]]) (u := [1]) (v := [0, 1, 0, 0, 1]) (e := 1) ⟨by decide, by decide, by decide, by decide +kernel, by decide +kernel, by decide, by decide, by decide +kernel, by decide, by decide +kernel, by decide, by decide +kernel⟩ h⟩
theorem irr_11 : Pp [1, -1, 0, 1, -1, 1, 0, -1, 1] ∧ Iz (fun t => ev t [1, -1, 0, 1, -1, 1, 0, -1, 1]) :=
  have h : Pp [1, -1, 0, 1, -1, 1, 0, -1, 1] := ⟨by intro _; decide, by decide, by decide +kernel⟩
  ⟨h, Cert.iz (p := 2) (k := 12) (L := [[1, 620, 4094, 3475, 1], [1, 3475, 4094, 620, 1]]) (u := [0, 0, 0, 0, 1]) (v := [1, 0, 1, 0, 1, 1, 1]) (e := 1) ⟨by decide, by decide, by decide, by decide +kernel, by decide +kernel, by decide, by decide, by decide +kernel, by decide, by decide +kernel, by decide, by decide +kernel⟩ h⟩
theorem irr_12 : Pp [-4, -24, 12, -4, -6, 0, 1] ∧ Iz (fun t => ev t [-4, -24, 12, -4, -6, 0, 1]) :=
  have h : Pp [-4, -24, 12, -4, -6, 0, 1] := ⟨by intro _; decide, by decide, by decide +kernel⟩
  ⟨h, Cert.iz (p := 7) (k := 5) (L := [[9132, 6, 13701, 1], [7671, 6, 3106, 1]]) (u := [5, 1, 4, 4, 1]) (v := [0, 3, 5, 2, 4, 1]) (e := 1) ⟨by decide, by decide, by decide, by decide +kernel, by decide +kernel, by decide, by decide, by decide +kernel, by decide, by decide +kernel, by decide, by decide +kernel⟩ h⟩
theorem irr_13 : Pp [1, 0, -1, 1] ∧ Iz (fun t => ev t [1, 0, -1, 1]) :=
  have h : Pp [1, 0, -1, 1] := ⟨by intro _; decide, by decide, by decide +kernel⟩
  ⟨h, Cert.iz (p := 2) (k := 1) (L := [[1, 0, 1, 1]]) (u := [1]) (v := [1, 1]) (e := 1) ⟨by decide, by decide, by decide, by decide +kernel, by decide +kernel, by decide, by decide, by decide +kernel, by decide, by decide +kernel, by decide, by decide +kernel⟩ h⟩
theorem irr_14 : Pp [-1, -1, 0, 0, 0, 1] ∧ Iz (fun t => ev t [-1, -1, 0, 0, 0, 1]) :=
  have h : Pp [-1, -1, 0, 0, 0, 1] := ⟨by intro _; decide, by decide, by decide +kernel⟩
  ⟨h, Cert.iz (p := 3) (k := 1) (L := [[2, 2, 0, 0, 0, 1]]) (u := [1, 1, 1, 1]) (v := [1, 1, 1, 1, 1]) (e := 1) ⟨by decide, by decide, by decide, by decide +kernel, by decide +kernel, by decide, by decide, by decide +kernel, by decide, by decide +kernel, by decide, by decide +kernel⟩ h⟩
theorem irr_15 : Pp [6, 0, 1, 0, 6] ∧ Iz (fun t => ev t [6, 0, 1, 0, 6]) :=
  have h : Pp [6, 0, 1, 0, 6] := ⟨by intro _; decide, by decide, by decide +kernel⟩
  ⟨h, Cert.iz (p := 5) (k := 4) (L := [[1, 441, 1], [1, 184, 1]]) (u := [1, 0, 1]) (v := [0, 4, 0, 1]) (e := 1) ⟨by decide, by decide, by decide, by decide +kernel, by decide +kernel, by decide, by decide, by decide +kernel, by decide, by decide +kernel, by decide, by decide +kernel⟩ h⟩
theorem known_1 : Fac [7] 7 [] :=
  Fac.mk' (by decide +kernel) (fun x h => by cases h) (by decide +kernel) (by decide +kernel)
theorem known_2 : Fac [-12] (-12) [] :=
  Fac.mk' (by decide +kernel) (fun x h => by cases h) (by decide +kernel) (by decide +kernel)
theorem known_3 : Fac [0, 1] 1 [([0, 1], 1)] :=
  Fac.mk' (by decide +kernel) (fun x h => by
    rcases List.mem_cons.1 h with rfl | h
    · exact ⟨lin_0.1, lin_0.2, by decide⟩
    cases h) (by decide +kernel) (by decide +kernel)
theorem known_4 : Fac [4, -6] (-2) [([-2, 3], 1)] :=
  Fac.mk' (by decide +kernel) (fun x h => by
    rcases List.mem_cons.1 h with rfl | h
    · exact ⟨lin_1.1, lin_1.2, by decide⟩
    cases h) (by decide +kernel) (by decide +kernel)
theorem known_5 : Fac [-1, 0, 1] 1 [([-1, 1], 1), ([1, 1], 1)] :=
  Fac.mk' (by decide +kernel) (fun x h => by
    rcases List.mem_cons.1 h with rfl | h
    · exact ⟨lin_2.1, lin_2.2, by decide⟩
    rcases List.mem_cons.1 h with rfl | h
    · exact ⟨lin_3.1, lin_3.2, by decide⟩
    cases h) (by decide +kernel) (by decide +kernel)
theorem known_6 : Fac [1, 4, 4] 1 [([1, 2], 2)] :=
  Fac.mk' (by decide +kernel) (fun x h => by
    rcases List.mem_cons.1 h with rfl | h
    · exact ⟨lin_4.1, lin_4.2, by decide⟩
    cases h) (by decide +kernel) (by decide +kernel)
theorem known_7 : Fac [4, 0, 0, 0, 1] 1 [([2, -2, 1], 1), ([2, 2, 1], 1)] :=
  Fac.mk' (by decide +kernel) (fun x h => by
    rcases List.mem_cons.1 h with rfl | h
    · exact ⟨irr_3.1, irr_3.2, by decide⟩
    rcases List.mem_cons.1 h with rfl | h
    · exact ⟨irr_4.1, irr_4.2, by decide⟩
    cases h) (by decide +kernel) (by decide +kernel)
theorem known_8 : Fac [1, 0, 0, 0, 1] 1 [([1, 0, 0, 0, 1], 1)] :=
  Fac.mk' (by decide +kernel) (fun x h => by
    rcases List.mem_cons.1 h with rfl | h
    · exact ⟨irr_5.1, irr_5.2, by decide⟩
    cases h) (by decide +kernel) (by decide +kernel)
theorem known_9 : Fac [1, 0, -10, 0, 1] 1 [([1, 0, -10, 0, 1], 1)] :=
  Fac.mk' (by decide +kernel) (fun x h => by
    rcases List.mem_cons.1 h with rfl | h
    · exact ⟨irr_6.1, irr_6.2, by decide⟩
    cases h) (by decide +kernel) (by decide +kernel)
theorem known_10 : Fac [576, 0, -960, 0, 352, 0, -40, 0, 1] 1 [([576, 0, -960, 0, 352, 0, -40, 0, 1], 1)] :=
  Fac.mk' (by decide +kernel) (fun x h => by
    rcases List.mem_cons.1 h with rfl | h
    · exact ⟨irr_7.1, irr_7.2, by decide⟩
    cases h) (by decide +kernel) (by decide +kernel)
theorem known_11 : Fac [-1, 0, 0, 0, 0, 0, 0, 0, 0, 0, 1] 1 [([-1, 1], 1), ([1, 1], 1), ([1, -1, 1, -1, 1], 1), ([1, 1, 1, 1, 1], 1)] :=
  Fac.mk' (by decide +kernel) (fun x h => by
    rcases List.mem_cons.1 h with rfl | h
    · exact ⟨lin_2.1, lin_2.2, by decide⟩
    rcases List.mem_cons.1 h with rfl | h
    · exact ⟨lin_3.1, lin_3.2, by decide⟩
    rcases List.mem_cons.1 h with rfl | h
    · exact ⟨irr_8.1, irr_8.2, by decide⟩
    rcases List.mem_cons.1 h with rfl | h
    · exact ⟨irr_9.1, irr_9.2, by decide⟩
    cases h) (by decide +kernel) (by decide +kernel)
theorem known_12 : Fac [-1, 0, 0, 0, 0, 0, 0, 0, 1] 1 [([-1, 1], 1), ([1, 1], 1), ([1, 0, 1], 1), ([1, 0, 0, 0, 1], 1)] :=
  Fac.mk' (by decide +kernel) (fun x h => by
    rcases List.mem_cons.1 h with rfl | h
    · exact ⟨lin_2.1, lin_2.2, by decide⟩
    rcases List.mem_cons.1 h with rfl | h
    · exact ⟨lin_3.1, lin_3.2, by decide⟩
    rcases List.mem_cons.1 h with rfl | h
    · exact ⟨irr_0.1, irr_0.2, by decide⟩
    rcases List.mem_cons.1 h with rfl | h
    · exact ⟨irr_5.1, irr_5.2, by decide⟩
    cases h) (by decide +kernel) (by decide +kernel)
theorem known_13 : Fac [-1, 0, 0, 0, 0, 0, 0, 0, 0, 1] 1 [([-1, 1], 1), ([1, 1, 1], 1), ([1, 0, 0, 1, 0, 0, 1], 1)] :=
  Fac.mk' (by decide +kernel) (fun x h => by
    rcases List.mem_cons.1 h with rfl | h
    · exact ⟨lin_2.1, lin_2.2, by decide⟩
    rcases List.mem_cons.1 h with rfl | h
    · exact ⟨irr_1.1, irr_1.2, by decide⟩
    rcases List.mem_cons.1 h with rfl | h
    · exact ⟨irr_10.1, irr_10.2, by decide⟩
    cases h) (by decide +kernel) (by decide +kernel)
theorem known_14 : Fac [1, 0, 0, 0, 0, 1, 0, 0, 0, 0, 1] 1 [([1, 1, 1], 1), ([1, -1, 0, 1, -1, 1, 0, -1, 1], 1)] :=
  Fac.mk' (by decide +kernel) (fun x h => by
    rcases List.mem_cons.1 h with rfl | h
    · exact ⟨irr_1.1, irr_1.2, by decide⟩
    rcases List.mem_cons.1 h with rfl | h
    · exact ⟨irr_11.1, irr_11.2, by decide⟩
    cases h) (by decide +kernel) (by decide +kernel)
theorem known_15 : Fac [-4, -24, 12, -4, -6, 0, 1] 1 [([-4, -24, 12, -4, -6, 0, 1], 1)] :=
  Fac.mk' (by decide +kernel) (fun x h => by
    rcases List.mem_cons.1 h with rfl | h
    · exact ⟨irr_12.1, irr_12.2, by decide⟩
    cases h) (by decide +kernel) (by decide +kernel)
theorem known_16 : Fac [0, 0, 0, 0, -3, 0, 0, 0, 0, 0, 3] 3 [([-1, 1], 1), ([0, 1], 4), ([1, 1], 1), ([1, -1, 1], 1), ([1, 1, 1], 1)] :=
  Fac.mk' (by decide +kernel) (fun x h => by
    rcases List.mem_cons.1 h with rfl | h
    · exact ⟨lin_2.1, lin_2.2, by decide⟩
    rcases List.mem_cons.1 h with rfl | h
    · exact ⟨lin_0.1, lin_0.2, by decide⟩
    rcases List.mem_cons.1 h with rfl | h
    · exact ⟨lin_3.1, lin_3.2, by decide⟩
    rcases List.mem_cons.1 h with rfl | h
    · exact ⟨irr_2.1, irr_2.2, by decide⟩
    rcases List.mem_cons.1 h with rfl | h
    · exact ⟨irr_1.1, irr_1.2, by decide⟩
    cases h) (by decide +kernel) (by decide +kernel)
theorem known_17 : Fac [1, 1, 0, 0, 0, 1] 1 [([1, 1, 1], 1), ([1, 0, -1, 1], 1)] :=
  Fac.mk' (by decide +kernel) (fun x h => by
    rcases List.mem_cons.1 h with rfl | h
    · exact ⟨irr_1.1, irr_1.2, by decide⟩
    rcases List.mem_cons.1 h with rfl | h
    · exact ⟨irr_13.1, irr_13.2, by decide⟩
    cases h) (by decide +kernel) (by decide +kernel)
theorem known_18 : Fac [-1, -1, 0, 0, 0, 1] 1 [([-1, -1, 0, 0, 0, 1], 1)] :=
  Fac.mk' (by decide +kernel) (fun x h => by
    rcases List.mem_cons.1 h with rfl | h
    · exact ⟨irr_14.1, irr_14.2, by decide⟩
    cases h) (by decide +kernel) (by decide +kernel)
theorem known_19 : Fac [-6, 0, 5, 0, -5, 0, 6] 1 [([-1, 1], 1), ([1, 1], 1), ([6, 0, 1, 0, 6], 1)] :=
  Fac.mk' (by decide +kernel) (fun x h => by
    rcases List.mem_cons.1 h with rfl | h
    · exact ⟨lin_2.1, lin_2.2, by decide⟩
    rcases List.mem_cons.1 h with rfl | h
    · exact ⟨lin_3.1, lin_3.2, by decide⟩
    rcases List.mem_cons.1 h with rfl | h
    · exact ⟨irr_15.1, irr_15.2, by decide⟩
    cases h) (by decide +kernel) (by decide +kernel)
theorem known_20 : Fac [-999999999989, 0, 999999999989] 999999999989 [([-1, 1], 1), ([1, 1], 1)] :=
  Fac.mk' (by decide +kernel) (fun x h => by
    rcases List.mem_cons.1 h with rfl | h
    · exact ⟨lin_2.1, lin_2.2, by decide⟩
    rcases List.mem_cons.1 h with rfl | h
    · exact ⟨lin_3.1, lin_3.2, by decide⟩
    cases h) (by decide +kernel) (by decide +kernel)

end Go.Proofs.YtldcjkhbiffdoabGreatDoor
