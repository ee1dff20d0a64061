import Derived.Test.YtldcjkhbiffdoabGreatDoorM01

set_option linter.unusedSimpArgs false
namespace Go.Proofs.YtldcjkhbiffdoabGreatDoor

structure Zas (p k : Nat) (L : List (Int → Int)) (f : Int → Int) (c : Int) (n : Nat) : Prop where
  two : 2 ≤ p
  dom : Dom (p : Int)
  one : 1 ≤ k
  irr : ∀ g, g ∈ L → Irr p g
  mon : ∀ g, g ∈ L → ∃ d, Ld d 1 g
  sq : Sq p f
  hc : ¬ (p : Int) ∣ c
  ld : Ld n c f
  alike : Zm ((p : Int) ^ k) (fun t => f t - c * pA L t)

theorem dm0_ld {a : Nat} {g : Int → Int} (h : Dm 0 a g) : ∃ c, c ≠ 0 ∧ Ld a c g := by
  obtain ⟨d, f0, h1, h2, w, _, h4⟩ := h
  exact ⟨d, fun h => h1 (by rw [h]; exact Int.dvd_refl _), h2.congr fun t => by have h5 : g t - f0 t = 0 * w t := h4 t; omega⟩
theorem ld_dm0 {a : Nat} {g : Int → Int} {c : Int} (h : Ld a c g) (hc : c ≠ 0) : Dm 0 a g := Dm.of_ld h fun h => hc (Int.zero_dvd.1 h)

theorem lds {n : Nat} {c : Int} {f g h : Int → Int} (hf : Ld n c f) (hc : c ≠ 0) (hg : Po g) (hh : Po h) (e : ∀ t, f t = g t * h t) : ∃ a b cg ch, Ld a cg g ∧ Ld b ch h ∧ a + b = n ∧ c = cg * ch := by
  have hd : Dm 0 n (fun t => g t * h t) := ld_dm0 (hf.congr fun t => (e t).symm) hc
  obtain ⟨N, hg'⟩ := hg
  obtain ⟨M, hh'⟩ := hh
  rcases Zm.or_dm (m := 0) hg' with h1 | ⟨a, _, h1⟩
  · exact absurd ((h1.mul hh'.po).congr (g := fun t => g t * h t) fun t => Int.mul_comm _ _) hd.not
  · rcases Zm.or_dm (m := 0) hh' with h2 | ⟨b, _, h2⟩
    · exact absurd (h2.mul hg'.po) hd.not
    · obtain rfl := (h1.mul Dom.zero h2).uniq hd
      obtain ⟨cg, h3, h4⟩ := dm0_ld h1
      obtain ⟨ch, h5, h6⟩ := dm0_ld h2
      exact ⟨a, b, cg, ch, h4, h6, rfl, hf.uniq (h4.mul h6) e⟩

theorem pS_bit {p : Nat} (hp : Dom (p : Int)) : ∀ (L : List (Int → Int)) (s i : Nat) (r : Int → Int), (∀ g, g ∈ L → Po g) → L[i]? = some r → s.testBit i = true → Dv p r (pS L s)
  | [], s, i, r, _, h, _ => by simp at h
  | g :: L, s, 0, r, hL, h, hs => by
    obtain rfl : g = r := by simpa using h
    rw [Nat.testBit_zero] at hs
    have hs : s % 2 = 1 := by simpa using hs
    refine Dv.of_eq p hp (pS_po L (fun x hx => hL x (List.mem_cons_of_mem _ hx)) (s / 2)) fun t => ?_
    conv => lhs; rw [show s = 1 + 2 * (s / 2) by omega, pS_one]
  | g :: L, s, i + 1, r, hL, h, hs => by
    have ih := pS_bit hp L (s / 2) i r (fun x hx => hL x (List.mem_cons_of_mem _ hx)) (by simpa using h) (by rw [← Nat.testBit_succ]; exact hs)
    rcases (show s % 2 = 0 ∨ s % 2 = 1 by omega) with h1 | h1
    · refine ih.alike (Zm.of_zero _ fun t => ?_)
      conv => lhs; lhs; rw [show s = 2 * (s / 2) by omega, pS_two]
      omega
    · refine (ih.mul (hL g (List.mem_cons_self ..))).alike (Zm.of_zero _ fun t => ?_)
      conv => lhs; lhs; rw [show s = 1 + 2 * (s / 2) by omega, pS_one]
      omega

def Mk (p : Nat) (L : List (Int → Int)) (g : Int → Int) (s : Nat) : Prop := s < 2 ^ L.length ∧ ∀ i r, L[i]? = some r → (s.testBit i = true ↔ Dv p r g)

theorem testBit_len {s n i : Nat} (h : s < 2 ^ n) (hi : n ≤ i) : s.testBit i = false := by
  apply Nat.testBit_lt_two_pow
  exact Nat.lt_of_lt_of_le h (Nat.pow_le_pow_right (by decide) hi)

theorem Mk.ext {L : List (Int → Int)} {s s' : Nat} (h : s < 2 ^ L.length) (h' : s' < 2 ^ L.length) (e : ∀ i r, L[i]? = some r → (s.testBit i = true ↔ s'.testBit i = true)) : s = s' := by
  refine Nat.eq_of_testBit_eq fun i => ?_
  rcases Nat.lt_or_ge i L.length with hi | hi
  · have := e i L[i] (List.getElem?_eq_getElem hi)
    cases h1 : s.testBit i <;> cases h2 : s'.testBit i <;> simp_all
  · rw [testBit_len h hi, testBit_len h' hi]

theorem Mk.uniq {p : Nat} {L : List (Int → Int)} {g : Int → Int} {s s' : Nat} (h : Mk p L g s) (h' : Mk p L g s') : s = s' :=
  Mk.ext h.1 h'.1 fun i r hr => (h.2 i r hr).trans (h'.2 i r hr).symm
theorem Mk.congr {p : Nat} {L : List (Int → Int)} {g h : Int → Int} {s : Nat} (hs : Mk p L g s) (e : ∀ t, h t = g t) : Mk p L h s :=
  ⟨hs.1, fun i r hr => (hs.2 i r hr).trans ⟨fun h => h.alike (Zm.of_zero _ fun t => by rw [e]; omega), fun h => h.alike (Zm.of_zero _ fun t => by rw [e]; omega)⟩⟩

variable {p k n : Nat} {L : List (Int → Int)} {f : Int → Int} {c : Int}

theorem Zas.cne (Z : Zas p k L f c n) : c ≠ 0 := fun h => Z.hc (by rw [h]; exact Int.dvd_zero _)
theorem Zas.po (Z : Zas p k L f c n) : ∀ g, g ∈ L → Po g := fun g hg => (Z.irr g hg).1
theorem Zas.alike1 (Z : Zas p k L f c n) : Zm p (fun t => f t - c * pA L t) := Z.alike.of_pow Z.one

theorem Zas.mask (Z : Zas p k L f c n) {g h : Int → Int} (hg : Po g) (hh : Po h) (e : ∀ t, f t = g t * h t) :
    ∃ s a b cg ch, Mk p L g s ∧ Ld a cg g ∧ Ld b ch h ∧ a + b = n ∧ c = cg * ch ∧ Ld a 1 (pS L s) ∧ Zm ((p : Int) ^ k) (fun t => ch * g t - c * pS L s t) := by
  obtain ⟨a, b, cg, ch, h1, h2, h3, h4⟩ := lds Z.ld Z.cne hg hh e
  obtain ⟨s, g1, g2, g3, g4, g5, g6, g7⟩ := hensel Z.two Z.dom Z.one Z.irr Z.mon Z.sq Z.hc Z.alike h1 h2 e h4
  refine ⟨s, a, b, cg, ch, ⟨g1, fun i r hr => ⟨fun hb => ?_, fun hd => ?_⟩⟩, h1, h2, h3, h4, g2, g6⟩
  · have := (pS_bit Z.dom L s i r Z.po hr hb).mul (Po.const cg)
    exact this.alike g4
  · have hi : i < L.length := by
      rcases Nat.lt_or_ge i L.length with h | h
      · exact h
      · rw [List.getElem?_eq_none h] at hr; cases hr
    cases hb : s.testBit i with
    | true => rfl
    | false =>
      exfalso
      have hb2 : (2 ^ L.length - 1 - s).testBit i = true := by
        rw [show 2 ^ L.length - 1 - s = 2 ^ L.length - (s + 1) by omega, Nat.testBit_two_pow_sub_succ g1, hb]
        simpa using hi
      have h5 := ((pS_bit Z.dom L _ i r Z.po hr hb2).mul (Po.const ch)).alike g5
      have hr' := Z.irr r (List.mem_of_getElem? hr)
      exact hr'.cop_not Z.dom (Z.sq.cop (c := 1) hg hh (Zm.of_zero _ fun t => by rw [e]; omega)) hd h5

theorem Zas.const_mask (Z : Zas p k L f c n) {e : Int} (he : ¬ (p : Int) ∣ e) : Mk p L (fun _ => e) 0 :=
  ⟨two_pos _, fun i r hr => ⟨fun h => (by rw [Nat.zero_testBit] at h; cases h), fun h => absurd h ((Z.irr r (List.mem_of_getElem? hr)).not_dv_const Z.dom he)⟩⟩

theorem Zas.mask_const (Z : Zas p k L f c n) {g h : Int → Int} (hg : Po g) (hh : Po h) (e : ∀ t, f t = g t * h t) (hm : Mk p L g 0) : Dm 0 0 g := by
  obtain ⟨s, a, b, cg, ch, h1, h2, h3, h4, h5, h6, h7⟩ := Z.mask hg hh e
  obtain rfl := h1.uniq hm
  have h8 : ∀ (L : List (Int → Int)) t, pS L 0 t = 1 := by
    intro L
    induction L with
    | nil => intro t; rfl
    | cons x L ih => intro t; have := pS_two x L 0 t; rw [Nat.mul_zero] at this; rw [this, ih]
  have h9 := (Dm.of_ld (m := 0) h6 (by decide)).uniq (Dm.of_ld (m := 0) ((Ld.const 1).congr (h8 L)) (by decide))
  subst h9
  refine ld_dm0 h2 fun h => Z.cne ?_
  rw [h5, h, Int.zero_mul]

theorem Zas.cop (Z : Zas p k L f c n) {g h q : Int → Int} (hg : Po g) (hh : Po h) (hq : Po q) (e : ∀ t, f t = g t * (h t * q t)) : Cop p g h := by
  obtain ⟨u, v, d, h1, h2, h3, h4⟩ := Z.sq.cop (c := 1) hg (hh.mul hq) (Zm.of_zero _ fun t => by rw [e]; omega)
  exact ⟨u, fun t => v t * q t, d, h1, h2.mul hq, h3, h4.congr fun t => by
    show u t * g t + v t * q t * h t - d = u t * g t + v t * (h t * q t) - d
    rw [Int.mul_assoc, Int.mul_comm (q t)]⟩

theorem Zas.mask_mul (Z : Zas p k L f c n) {g h q : Int → Int} (hg : Po g) (hh : Po h) (hq : Po q) (e : ∀ t, f t = g t * (h t * q t)) {s s' : Nat} (hs : Mk p L g s) (hs' : Mk p L h s') :
    Mk p L (fun t => g t * h t) (s ||| s') ∧ s &&& s' = 0 := by
  have hc := Z.cop hg hh hq e
  refine ⟨⟨Nat.or_lt_two_pow hs.1 hs'.1, fun i r hr => ?_⟩, ?_⟩
  · rw [Nat.testBit_or, Bool.or_eq_true, hs.2 i r hr, hs'.2 i r hr]
    refine ⟨fun h1 => h1.elim (fun h2 => ?_) fun h2 => h2.mul hg, fun h1 => (Z.irr r (List.mem_of_getElem? hr)).prime Z.dom hg hh h1⟩
    exact (h2.mul hh).alike (Zm.of_zero _ fun t => by rw [Int.mul_comm]; omega)
  · refine Mk.ext (L := L) (Nat.lt_of_le_of_lt Nat.and_le_left hs.1) (two_pos _) fun i r hr => ?_
    rw [Nat.testBit_and, Nat.zero_testBit, Bool.and_eq_true, hs.2 i r hr, hs'.2 i r hr]
    exact ⟨fun h => ((Z.irr r (List.mem_of_getElem? hr)).cop_not Z.dom hc h.1 h.2).elim, fun h => by cases h⟩

theorem or_lt {s s' : Nat} (h : s &&& s' = 0) (h0 : s' ≠ 0) : s < s ||| s' := by
  refine Nat.lt_of_le_of_ne Nat.left_le_or fun e => h0 ?_
  refine Nat.eq_of_testBit_eq fun i => ?_
  rw [Nat.zero_testBit]
  have h1 : (s ||| s').testBit i = s.testBit i := by rw [← e]
  have h2 : (s &&& s').testBit i = false := by rw [h, Nat.zero_testBit]
  rw [Nat.testBit_or] at h1
  rw [Nat.testBit_and] at h2
  cases h3 : s'.testBit i with
  | false => rfl
  | true => rw [h3] at h1 h2; simp at h1 h2; rw [h1] at h2; cases h2

structure CB (p : Nat) (L : List (Int → Int)) (f : Int → Int) (found : List (Int → Int)) (left : Int → Int) (taken choice : Nat) : Prop where
  pol : Po left
  pof : ∀ g, g ∈ found → Po g
  eq : ∀ t, f t = pA found t * left t
  iz : ∀ g, g ∈ found → Iz g
  msk : Mk p L (pA found) taken
  top : taken < 2 ^ (L.length - 1)
  no : ∀ g h, Po g → Po h → (∀ t, left t = g t * h t) → ∀ s, Mk p L g s → 0 < s → s &&& taken = 0 → choice ≤ s

theorem CB.start (Z : Zas p k L f c n) : CB p L f [] f 0 1 where
  pol := Z.ld.po
  pof := fun g h => by cases h
  eq := fun t => by simp [pA]
  iz := fun g h => by cases h
  msk := Z.const_mask Z.dom.2
  top := two_pos _
  no := fun g h _ _ _ s _ h0 _ => h0

theorem CB.skip {found : List (Int → Int)} {left : Int → Int} {taken choice : Nat} (h : CB p L f found left taken choice) (hs : choice &&& taken ≠ 0) : CB p L f found left taken (choice + 1) :=
  ⟨h.pol, h.pof, h.eq, h.iz, h.msk, h.top, fun g q hg hq e s hm h0 ht => by
    have h1 := h.no g q hg hq e s hm h0 ht
    rcases (show choice = s ∨ choice < s by omega) with rfl | h2
    · exact absurd ht hs
    · exact h2⟩

theorem CB.miss {found : List (Int → Int)} {left : Int → Int} {taken choice : Nat} (h : CB p L f found left taken choice)
    (hn : ∀ g q, Po g → Po q → (∀ t, left t = g t * q t) → ¬ Mk p L g choice) : CB p L f found left taken (choice + 1) :=
  ⟨h.pol, h.pof, h.eq, h.iz, h.msk, h.top, fun g q hg hq e s hm h0 ht => by
    have h1 := h.no g q hg hq e s hm h0 ht
    rcases (show choice = s ∨ choice < s by omega) with rfl | h2
    · exact absurd hm (hn g q hg hq e)
    · exact h2⟩

theorem pA_snoc : ∀ (l : List (Int → Int)) (g : Int → Int) (t : Int), pA (l ++ [g]) t = pA l t * g t
  | [], g, t => by simp [pA]
  | x :: l, g, t => by
    show x t * pA (l ++ [g]) t = x t * pA l t * g t
    rw [pA_snoc l g t, Int.mul_assoc]

theorem CB.parts (Z : Zas p k L f c n) {found : List (Int → Int)} {left : Int → Int} {taken choice : Nat} (H : CB p L f found left taken choice) {a b q : Int → Int} (ha : Po a) (hb : Po b) (hq : Po q) (e : ∀ t, left t = a t * b t * q t) :
    ∃ s1 s2, Mk p L a s1 ∧ Mk p L b s2 ∧ Mk p L (fun t => a t * b t) (s1 ||| s2) ∧ s1 &&& s2 = 0 ∧ s1 &&& taken = 0 ∧ s2 &&& taken = 0 ∧ (s1 = 0 → Dm 0 0 a) ∧ (s2 = 0 → Dm 0 0 b) := by
  have hF : Po (pA found) := pA_po found H.pof
  have e1 : ∀ t, f t = a t * (b t * (q t * pA found t)) := fun t => by rw [H.eq, e]; simp only [rA, rB, rC, rD, rE, rF, rG, rH, rI, rJ, rK]
  have e2 : ∀ t, f t = b t * (a t * (q t * pA found t)) := fun t => by rw [H.eq, e]; simp only [rA, rB, rC, rD, rE, rF, rG, rH, rI, rJ, rK]
  have e3 : ∀ t, f t = a t * (pA found t * (q t * b t)) := fun t => by rw [H.eq, e]; simp only [rA, rB, rC, rD, rE, rF, rG, rH, rI, rJ, rK]
  have e4 : ∀ t, f t = b t * (pA found t * (q t * a t)) := fun t => by rw [H.eq, e]; simp only [rA, rB, rC, rD, rE, rF, rG, rH, rI, rJ, rK]
  obtain ⟨s1, _, _, _, _, h1, _⟩ := Z.mask ha (hb.mul (hq.mul hF)) e1
  obtain ⟨s2, _, _, _, _, h2, _⟩ := Z.mask hb (ha.mul (hq.mul hF)) e2
  obtain ⟨h3, h4⟩ := Z.mask_mul ha hb (hq.mul hF) e1 h1 h2
  obtain ⟨_, h5⟩ := Z.mask_mul ha hF (hq.mul hb) e3 h1 H.msk
  obtain ⟨_, h6⟩ := Z.mask_mul hb hF (hq.mul ha) e4 h2 H.msk
  refine ⟨s1, s2, h1, h2, h3, h4, h5, h6, fun h => ?_, fun h => ?_⟩
  · subst h; exact Z.mask_const ha (hb.mul (hq.mul hF)) e1 h1
  · subst h; exact Z.mask_const hb (ha.mul (hq.mul hF)) e2 h2

theorem CB.hit (Z : Zas p k L f c n) {found : List (Int → Int)} {left : Int → Int} {taken choice : Nat} (H : CB p L f found left taken choice) (h0 : 0 < choice) (hl : choice < 2 ^ (L.length - 1))
    {g q : Int → Int} (hg : Po g) (hq : Po q) (e : ∀ t, left t = g t * q t) (hm : Mk p L g choice) : CB p L f (found ++ [g]) q (taken ||| choice) (choice + 1) := by
  have hF : Po (pA found) := pA_po found H.pof
  have hgz : ¬ Zm 0 g := by
    intro ⟨w, _, hw⟩
    have : Zm 0 f := Zm.of_zero _ fun t => by rw [H.eq, e, hw]; simp
    exact Z.cne (Int.zero_dvd.1 (this.lead Z.ld))
  have hgi : Iz g := by
    refine ⟨hg, hgz, fun hd => ?_, fun a b ha hb hab => ?_⟩
    · obtain ⟨e0, h1, w, _, h2⟩ := hd.zero
      have h3 : ∀ t, g t = e0 := fun t => by have h4 : g t - e0 = 0 * w t := h2 t; omega
      have h4 : ¬ (p : Int) ∣ e0 := by
        intro h
        apply Z.hc
        have h5 : Zm p f := (Zm.of_dvd (hF.mul hq) h).congr fun t => by rw [H.eq, e, h3, Int.mul_left_comm]
        exact h5.lead Z.ld
      have h5 := ((Z.const_mask h4).congr h3).uniq hm
      omega
    · obtain ⟨s1, s2, h1, h2, h3, h4, h5, h6, h7, h8⟩ := H.parts Z ha hb hq (fun t => by rw [e, hab])
      have h9 : s1 ||| s2 = choice := (h3.congr hab).uniq hm
      by_cases hs1 : s1 = 0
      · exact Or.inl (h7 hs1)
      · by_cases hs2 : s2 = 0
        · exact Or.inr (h8 hs2)
        · exfalso
          have h10 := H.no a (fun t => b t * q t) ha (hb.mul hq) (fun t => by rw [e, hab, Int.mul_assoc]) s1 h1 (by omega) h5
          have := or_lt h4 hs2
          omega
  obtain ⟨h1, _⟩ := Z.mask_mul hF hg hq (fun t => by rw [H.eq, e]) H.msk hm
  refine ⟨hq, fun x hx => ?_, fun t => ?_, fun x hx => ?_, h1.congr fun t => pA_snoc found g t, Nat.or_lt_two_pow H.top hl, fun a b ha hb hab s hs hs0 hst => ?_⟩
  · rcases List.mem_append.1 hx with h | h
    · exact H.pof x h
    · obtain rfl : x = g := by simpa using h
      exact hg
  · rw [pA_snoc, H.eq, e, Int.mul_assoc]
  · rcases List.mem_append.1 hx with h | h
    · exact H.iz x h
    · obtain rfl : x = g := by simpa using h
      exact hgi
  · have hsub : s &&& taken = 0 ∧ s &&& choice = 0 := by
      have : ∀ i, (s &&& taken).testBit i = false ∧ (s &&& choice).testBit i = false := by
        intro i
        have h2 : (s &&& (taken ||| choice)).testBit i = false := by rw [hst, Nat.zero_testBit]
        rw [Nat.testBit_and, Nat.testBit_or] at h2
        rw [Nat.testBit_and, Nat.testBit_and]
        cases hh1 : s.testBit i <;> cases hh2 : taken.testBit i <;> cases hh3 : choice.testBit i <;> simp_all
      exact ⟨Nat.eq_of_testBit_eq fun i => by rw [(this i).1, Nat.zero_testBit], Nat.eq_of_testBit_eq fun i => by rw [(this i).2, Nat.zero_testBit]⟩
    have h2 := H.no a (fun t => b t * g t) ha (hb.mul hg) (fun t => by rw [e, hab]; simp only [rA, rB, rC, rD, rE, rF, rG, rH, rI, rJ, rK]) s hs hs0 hsub.1
    rcases (show choice = s ∨ choice < s by omega) with rfl | h3
    · rw [Nat.and_self] at hsub
      omega
    · exact h3

theorem CB.ends (Z : Zas p k L f c n) {found : List (Int → Int)} {left : Int → Int} {taken choice : Nat} (H : CB p L f found left taken choice) (hl : 2 ^ (L.length - 1) ≤ choice) (hL : 0 < L.length) : Iz left := by
  have hF : Po (pA found) := pA_po found H.pof
  have hnz : ¬ Zm 0 left := by
    intro ⟨w, _, hw⟩
    have : Zm 0 f := Zm.of_zero _ fun t => by rw [H.eq, hw]; simp
    exact Z.cne (Int.zero_dvd.1 (this.lead Z.ld))
  refine ⟨H.pol, hnz, fun hd => ?_, fun a b ha hb hab => ?_⟩
  · obtain ⟨r, hr⟩ : ∃ r, L[L.length - 1]? = some r := ⟨_, List.getElem?_eq_getElem (by omega)⟩
    have hr' := Z.irr r (List.mem_of_getElem? hr)
    have h1 : Dv p r (pA L) := by
      have : Dv p r (pS L (2 ^ L.length - 1)) := pS_bit Z.dom L _ _ r Z.po hr (by
        have := Nat.testBit_two_pow_sub_succ (x := 0) (n := L.length) (two_pos _) (L.length - 1)
        rw [Nat.zero_add] at this
        rw [this, Nat.zero_testBit]
        simp; omega)
      refine this.alike (Zm.of_zero _ fun t => ?_)
      have h2 := pS_comp L (2 ^ L.length - 1) (by have := two_pos L.length; omega) t
      rw [Nat.sub_self] at h2
      have h3 : ∀ (L : List (Int → Int)) t, pS L 0 t = 1 := by
        intro L
        induction L with
        | nil => intro t; rfl
        | cons x L ih => intro t; have := pS_two x L 0 t; rw [Nat.mul_zero] at this; rw [this, ih]
      rw [h3, Int.mul_one] at h2
      rw [h2]; omega
    have h2 : Dv p r (fun t => pA found t * left t) := by
      refine (h1.mul (Po.const c)).alike (Z.alike1.congr fun t => ?_)
      rw [H.eq]
    rcases hr'.prime Z.dom hF H.pol h2 with h3 | h3
    · have h4 := (H.msk.2 _ r hr).2 h3
      rw [testBit_len H.top (Nat.le_refl _)] at h4
      cases h4
    · obtain ⟨e0, h4, w, _, h5⟩ := hd.zero
      have h6 : ∀ t, left t = e0 := fun t => by have h7 : left t - e0 = 0 * w t := h5 t; omega
      have h7 : ¬ (p : Int) ∣ e0 := by
        intro h
        apply Z.hc
        have h8 : Zm p f := (Zm.of_dvd hF h).congr fun t => by rw [H.eq, h6, Int.mul_comm]
        exact h8.lead Z.ld
      exact hr'.not_dv_const Z.dom h7 (h3.alike (Zm.of_zero _ fun t => by rw [h6]; omega))
  · obtain ⟨s1, s2, h1, h2, h3, h4, h5, h6, h7, h8⟩ := H.parts Z ha hb (Po.const 1) (fun t => by rw [hab]; omega)
    by_cases hs1 : s1 = 0
    · exact Or.inl (h7 hs1)
    · by_cases hs2 : s2 = 0
      · exact Or.inr (h8 hs2)
      · exfalso
        have n1 := H.no a b ha hb hab s1 h1 (by omega) h5
        have n2 := H.no b a hb ha (fun t => by rw [hab, Int.mul_comm]) s2 h2 (by omega) h6
        have big : ∀ s, s < 2 ^ L.length → 2 ^ (L.length - 1) ≤ s → s.testBit (L.length - 1) = true := by
          intro s hs1 hs2
          cases hb : s.testBit (L.length - 1) with
          | true => rfl
          | false =>
            exfalso
            have : s < 2 ^ (L.length - 1) := Nat.lt_pow_two_of_testBit s fun i hi => by
              rcases (show i = L.length - 1 ∨ L.length ≤ i by omega) with rfl | h
              · exact hb
              · exact testBit_len hs1 h
            omega
        have b1 := big s1 h1.1 (by omega)
        have b2 := big s2 h2.1 (by omega)
        have : (s1 &&& s2).testBit (L.length - 1) = true := by rw [Nat.testBit_and, b1, b2]; rfl
        rw [h4, Nat.zero_testBit] at this
        cases this

theorem Zas.mask_cand (Z : Zas p k L f c n) {g w : Int → Int} (hg : Po g) {κ d : Int} {s : Nat} (hs : s < 2 ^ L.length) (hd : ¬ (p : Int) ∣ d) (hw : ∀ t, w t = κ * g t) (hz : Zm ((p : Int) ^ k) (fun t => w t - d * pS L s t)) : Mk p L g s := by
  have hz1 := hz.of_pow Z.one
  have hS : Po (pS L s) := pS_po L Z.po s
  have hκ : ¬ (p : Int) ∣ κ := by
    intro h
    have h1 : Zm p (fun t => d * pS L s t) := ((Zm.of_dvd hg h).sub hz1).congr fun t => by rw [hw]; omega
    obtain ⟨a, h2⟩ := pS_ld L Z.mon s
    have := h1.lead (h2.scal d)
    rw [Int.mul_one] at this
    exact hd this
  refine ⟨hs, fun i r hr => ⟨fun hb => ?_, fun hv => ?_⟩⟩
  · refine Dv.unscal Z.dom hκ (((pS_bit Z.dom L s i r Z.po hr hb).mul (Po.const d)).alike (hz1.congr fun t => ?_))
    rw [hw]
  · have hi : i < L.length := by
      rcases Nat.lt_or_ge i L.length with h | h
      · exact h
      · rw [List.getElem?_eq_none h] at hr; cases hr
    cases hb : s.testBit i with
    | true => rfl
    | false =>
      exfalso
      have hb2 : (2 ^ L.length - 1 - s).testBit i = true := by
        rw [show 2 ^ L.length - 1 - s = 2 ^ L.length - (s + 1) by omega, Nat.testBit_two_pow_sub_succ hs, hb]
        simpa using hi
      have h1 := pS_bit Z.dom L _ i r Z.po hr hb2
      have h2 : Dv p r (pS L s) := Dv.unscal Z.dom hd ((hv.mul (Po.const κ)).alike (hz1.neg.congr fun t => by rw [hw]; omega))
      refine (Z.irr r (List.mem_of_getElem? hr)).cop_not Z.dom (Z.sq.cop (c := c) hS (pS_po L Z.po _) (Z.alike1.congr fun t => ?_)) h2 h1
      rw [pS_comp L s hs]

theorem Zm.unscal_pow {p : Nat} (hp2 : 2 ≤ p) (hp : Dom (p : Int)) {d : Int} (hd : ¬ (p : Int) ∣ d) {X : Int → Int} (hX : Po X) : ∀ k, Zm ((p : Int) ^ k) (fun t => d * X t) → Zm ((p : Int) ^ k) X
  | 0, _ => ⟨X, hX, fun t => by simp⟩
  | k + 1, ⟨g, h1, h2⟩ => by
    have hpz : (p : Int) ≠ 0 := by omega
    have hq : (p : Int) ^ k ≠ 0 := Int.pow_ne_zero hpz
    obtain ⟨Y, h3, h4⟩ := Zm.unscal_pow hp2 hp hd hX k ⟨_, h1.scal p, fun t => by rw [h2, Int.pow_succ, Int.mul_assoc]⟩
    have h5 : Zm p (fun t => d * Y t) := ⟨g, h1, fun t => by
      have h6 : d * X t = (p : Int) ^ (k + 1) * g t := h2 t
      rw [h4, Int.pow_succ, Int.mul_assoc, Int.mul_left_comm] at h6
      exact Int.eq_of_mul_eq_mul_left hq h6⟩
    obtain ⟨Y', h6, h7⟩ := Zm.of_scal hp hd h3 h5
    exact ⟨Y', h6, fun t => by rw [h4, h7, Int.pow_succ, Int.mul_assoc]⟩

theorem CB.near (Z : Zas p k L f c n) {found : List (Int → Int)} {left : Int → Int} {taken choice : Nat} (H : CB p L f found left taken choice) {g h : Int → Int} (hg : Po g) (hh : Po h) (e : ∀ t, left t = g t * h t) (hm : Mk p L g choice)
    {m : Nat} {cl : Int} (hl : Ld m cl left) (hcl0 : cl ≠ 0) : ∃ a b cg ch, Ld a cg g ∧ Ld b ch h ∧ cg ≠ 0 ∧ ch ≠ 0 ∧ a + b = m ∧ cl = cg * ch ∧ Zm ((p : Int) ^ k) (fun t => ch * g t - cl * pS L choice t) ∧
      ∃ H' e0 b', Ld b' (ch * e0) H' ∧ e0 ≠ 0 ∧ a + b' = n ∧ ∀ t, f t = g t * H' t := by
  have hF : Po (pA found) := pA_po found H.pof
  have e1 : ∀ t, f t = g t * (h t * pA found t) := fun t => by rw [H.eq, e]; simp only [rA, rB, rC, rD, rE, rF, rG, rH, rI, rJ, rK]
  obtain ⟨s, a, b, cg, ch, h1, h2, h3, h4, h5, h6, h7⟩ := Z.mask hg (hh.mul hF) e1
  obtain rfl := h1.uniq hm
  have hcg : cg ≠ 0 := fun h => Z.cne (by rw [h5, h, Int.zero_mul])
  have hch : ch ≠ 0 := fun h => Z.cne (by rw [h5, h, Int.mul_zero])
  obtain ⟨b1, b2, d1, d2, q1, q2, q3, q4⟩ := lds h3 hch hh hF fun _ => rfl
  have hd1 : d1 ≠ 0 := fun h => hch (by rw [q4, h, Int.zero_mul])
  have hd2 : d2 ≠ 0 := fun h => hch (by rw [q4, h, Int.mul_zero])
  have hl2 := (h2.mul q1).congr e
  have hm2 : m = a + b1 := by
    exact (ld_dm0 hl hcl0).uniq (ld_dm0 hl2 (Int.mul_ne_zero hcg hd1))
  subst hm2
  have hcl : cl = cg * d1 := hl.uniq hl2 fun _ => rfl
  refine ⟨a, b1, cg, d1, h2, q1, hcg, hd1, rfl, hcl, ?_, _, d2, b, by rw [← q4]; exact h3, hd2, h4, e1⟩
  have hnd : ¬ (p : Int) ∣ d2 := fun h => Z.hc (by rw [h5, q4]; exact Int.dvd_trans h (Int.dvd_trans (Int.dvd_mul_left ..) (Int.dvd_mul_left ..)))
  refine Zm.unscal_pow Z.two Z.dom hnd ((hg.scal d1).sub ((pS_po L Z.po _).scal cl)) k (h7.congr fun t => ?_)
  show d2 * (d1 * g t - cl * pS L s t) = ch * g t - c * pS L s t
  rw [hcl, h5, q4]
  simp only [rA, rB, rC, rD, rE, rF, rG, rH, rI, rJ, rK]

theorem near_eq {M : Int} {W V : List Int} (hz : Zm M (fun t => ev t W - ev t V)) (hW : ∀ k, 2 * ((W.getD k 0).natAbs : Int) ≤ M) (hV : ∀ k, 2 * ((V.getD k 0).natAbs : Int) < M) (t : Int) : ev t W = ev t V := by
  obtain ⟨g, ⟨N, G, _, h1⟩, h2⟩ := hz
  refine ev_of_getD (fun k => ?_) t
  have h3 := ev_ext (l := ladd W (V.map fun x => -1 * x)) (m := G.map fun x => M * x) 0 (fun t _ => by
    have h20 : ev t W - ev t V = M * g t := h2 t
    rw [ev_ladd, ev_scal, ev_scal, ← h1, ← h20]; omega) k
  rw [ladd_getD, scal_getD, scal_getD] at h3
  have h4 := hW k
  have h5 := hV k
  have h6 : M ∣ W.getD k 0 - V.getD k 0 := ⟨G.getD k 0, by omega⟩
  have h7 := Int.eq_zero_of_dvd_of_natAbs_lt_natAbs h6 (by omega)
  omega

end Go.Proofs.YtldcjkhbiffdoabGreatDoor

set_option linter.unusedSimpArgs false
namespace Go.Proofs.YtldcjkhbiffdoabGreatDoor

theorem Cop.symm {m : Int} {a b : Int → Int} (h : Cop m a b) : Cop m b a := by
  obtain ⟨u, v, c, h1, h2, h3, h4⟩ := h
  exact ⟨v, u, c, h2, h1, h3, h4.congr fun t => by omega⟩
theorem Cop.mul {m : Int} (hm : Dom m) {a b q : Int → Int} (ha : Po a) (hb : Po b) (h : Cop m a q) (h' : Cop m b q) (hq : Po q) : Cop m (fun t => a t * b t) q := by
  obtain ⟨u, v, c, h1, h2, h3, h4⟩ := h
  obtain ⟨u', v', c', h1', h2', h3', h4'⟩ := h'
  refine ⟨fun t => u t * u' t, fun t => u t * a t * v' t + v t * (u' t * b t + v' t * q t), c * c', h1.mul h1', ((h1.mul ha).mul h2').add (h2.mul ((h1'.mul hb).add (h2'.mul hq))), hm.mul h3 h3', ?_⟩
  refine ((h4.mul ((h1'.mul hb).add (h2'.mul hq))).add (h4'.scal c)).congr fun t => ?_
  show u t * u' t * (a t * b t) + (u t * a t * v' t + v t * (u' t * b t + v' t * q t)) * q t - c * c' = (u' t * b t + v' t * q t) * (u t * a t + v t * q t - c) + c * (u' t * b t + v' t * q t - c')
  simp only [rA, rB, rC, rD, rE, rF, rG, rH, rI, rJ, rK]
  omega
theorem Cop.pow {m : Int} (hm : Dom m) {a q : Int → Int} (ha : Po a) (h : Cop m a q) (hq : Po q) : ∀ e, Cop m (fun t => a t ^ e) q
  | 0 => ⟨fun _ => 1, fun _ => 0, 1, Po.const 1, Po.zero, hm.2, Zm.of_zero _ fun t => by simp⟩
  | e + 1 => by
    obtain ⟨u, v, c, h1, h2, h3, h4⟩ := Cop.mul hm (ha.pow e) ha (Cop.pow hm ha h hq e) h hq
    exact ⟨u, v, c, h1, h2, h3, h4.congr fun t => by show u t * a t ^ (e + 1) + v t * q t - c = u t * (a t ^ e * a t) + v t * q t - c; rw [Int.pow_succ]⟩

theorem Irr.deg {m : Int} {r : Int → Int} (h : Irr m r) : ∃ d, 0 < d ∧ Dm m d r := by
  obtain ⟨h1, h2, h3, _⟩ := h
  obtain ⟨n, h1⟩ := h1
  rcases Zm.or_dm (m := m) h1 with h4 | ⟨d, _, h4⟩
  · exact absurd h4 h2
  · refine ⟨d, ?_, h4⟩
    rcases Nat.eq_zero_or_pos d with rfl | h5
    · exact absurd h4 h3
    · exact h5

theorem Dv.deg {m : Int} (hm : Dom m) {a b : Int → Int} {d e : Nat} (ha : Dm m d a) (hb : Dm m e b) (h : Dv m a b) : ∃ c s j, ¬ m ∣ c ∧ Dm m j s ∧ d + j = e ∧ Zm m (fun t => c * b t - a t * s t) := by
  obtain ⟨c, s, h1, ⟨N, h2⟩, h3⟩ := h
  rcases Zm.or_dm (m := m) h2 with h4 | ⟨j, _, h4⟩
  · exact absurd ((h3.add (h4.mul ha.po)).congr (g := fun t => c * b t) fun t => by omega) (hb.scal hm h1).not
  · exact ⟨c, s, j, h1, h4, ((ha.mul hm h4).alike (g := fun t => c * b t) h3).uniq (hb.scal hm h1), h3⟩

theorem mult {m : Int} (hm : Dom m) {r : Int → Int} (hr : Irr m r) : ∀ (n : Nat) {f : Int → Int}, Dm m n f → ∃ (e : Nat) (k : Int) (s : Int → Int), ¬ m ∣ k ∧ Po s ∧ ¬ Dv m r s ∧ Zm m (fun t => k * f t - r t ^ e * s t) := by
  obtain ⟨d, hd, hrd⟩ := hr.deg
  intro n
  induction n using Nat.strongRecOn with
  | ind n ih =>
    intro f hf
    by_cases h : Dv m r f
    · obtain ⟨c, s, j, h1, h2, h3, h4⟩ := h.deg hm hrd hf
      obtain ⟨e, k, s', g1, g2, g3, g4⟩ := ih j (by omega) h2
      refine ⟨e + 1, c * k, s', hm.mul h1 g1, g2, g3, ((h4.scal k).add (g4.mul hr.1)).congr fun t => ?_⟩
      show c * k * f t - r t ^ (e + 1) * s' t = k * (c * f t - r t * s t) + r t * (k * s t - r t ^ e * s' t)
      rw [Int.pow_succ]
      generalize r t ^ e = x
      simp only [rA, rB, rC, rD, rE, rF, rG, rH, rI, rJ, rK]
      omega
    · exact ⟨0, 1, f, hm.2, hf.po, h, Zm.of_zero _ fun t => by simp⟩

theorem prime_dv {m : Int} (hm : Dom m) : ∀ (n : Nat) {f : Int → Int}, Dm m n f → 0 < n → ∃ r, Irr m r ∧ Dv m r f := by
  intro n
  induction n using Nat.strongRecOn with
  | ind n ih =>
    intro f hf hn
    by_cases h : Irr m f
    · exact ⟨f, h, Dv.refl hm f⟩
    · have h1 : ∃ (a b : Int → Int) (c : Int), Po a ∧ Po b ∧ ¬ m ∣ c ∧ Zm m (fun t => c * f t - a t * b t) ∧ ¬ Dm m 0 a ∧ ¬ Dm m 0 b := by
        refine Classical.byContradiction fun hn' => h ⟨hf.po, hf.not, fun h0 => ?_, fun a b c h1 h2 h3 h4 => ?_⟩
        · have := hf.uniq h0; omega
        · refine Classical.byContradiction fun h5 => hn' ⟨a, b, c, h1, h2, h3, h4, fun h => h5 (Or.inl h), fun h => h5 (Or.inr h)⟩
      obtain ⟨a, b, c, ⟨N, h2⟩, ⟨M, h3⟩, h4, h5, h6, h7⟩ := h1
      have hcf := hf.scal hm h4
      rcases Zm.or_dm (m := m) h2 with h8 | ⟨i, _, h8⟩
      · exact absurd ((h5.add (h8.mul h3.po)).congr (g := fun t => c * f t) fun t => by rw [Int.mul_comm (b t)]; omega) hcf.not
      · rcases Zm.or_dm (m := m) h3 with h9 | ⟨j, _, h9⟩
        · exact absurd ((h5.add (h9.mul h2.po)).congr (g := fun t => c * f t) fun t => by omega) hcf.not
        · have h10 := ((h8.mul hm h9).alike (g := fun t => c * f t) h5).uniq hcf
          have hi : i ≠ 0 := fun h => h6 (by rw [← h]; exact h8)
          have hj : j ≠ 0 := fun h => h7 (by rw [← h]; exact h9)
          obtain ⟨r, h11, h12⟩ := ih i (by omega) h8 (by omega)
          refine ⟨r, h11, Dv.unscal hm h4 ((h12.mul h3.po).alike (h5.congr fun t => ?_))⟩
          rw [Int.mul_comm (b t)]

theorem cop_of {m : Int} (hm : Dom m) {a b : Int → Int} (ha : Po a) (hb : Po b) (hn : ¬ Zm m a) (h : ∀ r, Irr m r → Dv m r a → Dv m r b → False) : Cop m a b := by
  obtain ⟨n, hb'⟩ := hb
  obtain ⟨u, v, d, c, a', b', g1, g2, ⟨N, g3⟩, g4, g5, g6, g7, g8, g9, g10⟩ := bezout hm n ha hb' (fun h => hn h.1)
  rcases Zm.or_dm (m := m) g3 with h1 | ⟨e, _, h1⟩
  · exact absurd h1 g6
  · rcases Nat.eq_zero_or_pos e with rfl | h2
    · obtain ⟨k, h3, h4⟩ := h1.zero
      exact ⟨u, v, k, g1, g2, h3, (g8.add h4).congr fun t => by omega⟩
    · obtain ⟨r, h3, h4⟩ := prime_dv hm e h1 h2
      exact (h r h3 (h4.trans hm ⟨c, a', g7, g4, g9⟩) (h4.trans hm ⟨c, b', g7, g5, g10⟩)).elim


theorem Zm.eq0 {f : Int → Int} (h : Zm 0 f) (t : Int) : f t = 0 := by
  obtain ⟨g, _, h2⟩ := h
  rw [h2]; simp

theorem not_dvd_zero {c : Int} : ¬ (0 : Int) ∣ c ↔ c ≠ 0 := ⟨fun h e => h (by rw [e]; exact Int.dvd_refl _), fun h e => h (Int.zero_dvd.1 e)⟩

theorem Irr.slope {r r' : Int → Int} (hr : Irr 0 r) (hd : Dr r r') : ¬ Dv 0 r r' := by
  obtain ⟨d, h1, h2⟩ := hr.deg
  obtain ⟨c, h3, h4⟩ := dm0_ld h2
  obtain ⟨l, g1, g2, g3⟩ := h4.list
  have hd2 := (Dr.ev l).congr g3 fun _ => rfl
  have h5 : Ld (d - 1) (d * c) r' := by
    have h6 : (tz (der l)).length ≤ d := tz_len_le fun k hk => by rw [der_getD, getD_out (by omega)]; simp
    have h7 := Ld.of_list (l := tz (der l)) (n := d - 1) (by omega)
    rw [tz_getD, der_getD, show d - 1 + 1 = d by omega, g2, show ((d - 1 : Nat) : Int) + 1 = d by omega] at h7
    exact h7.congr fun t => by rw [hd.uniq hd2 t, ev_tz]
  intro h
  have h8 : Dm 0 (d - 1) r' := ld_dm0 h5 (Int.mul_ne_zero (by omega) h3)
  obtain ⟨_, _, j, _, _, h9, _⟩ := h.deg Dom.zero h2 h8
  omega

theorem Dr.pow {f f' : Int → Int} (h : Dr f f') : ∀ e : Nat, Dr (fun t => f t ^ e) (fun t => e * (f t ^ (e - 1) * f' t))
  | 0 => (Dr.const 1).congr (fun t => by simp) (fun t => by simp)
  | e + 1 => ((Dr.pow h e).mul h).congr (fun t => by rw [Int.pow_succ]) (fun t => by
      rw [Nat.add_sub_cancel, show ((e + 1 : Nat) : Int) = e + 1 by omega, Int.add_mul, Int.one_mul]
      congr 1
      cases e with
      | zero => simp
      | succ e =>
        rw [Nat.add_sub_cancel, Int.pow_succ]
        generalize f t ^ e = x
        simp only [rA, rB, rC, rD, rE, rF, rG, rH, rI, rJ, rK])

theorem Irr.powers {r f f' : Int → Int} (hr : Irr 0 r) (hf : Dr f f') {e : Nat} {k : Int} {s : Int → Int} (hk : k ≠ 0) (hs : Po s) (he : ∀ t, k * f t = r t ^ e * s t) :
    (0 < e → Dv 0 (fun t => r t ^ (e - 1)) f') ∧ (0 < e → ¬ Dv 0 r s → ¬ Dv 0 (fun t => r t ^ e) f') := by
  obtain ⟨r', hr'⟩ := hr.1.dr
  obtain ⟨s', hs'⟩ := hs.dr
  have h1 : ∀ t, k * f' t = e * (r t ^ (e - 1) * r' t) * s t + r t ^ e * s' t := by
    intro t
    have h2 := ((Dr.const k).mul hf).uniq (((hr'.pow e).mul hs').congr he fun _ => rfl) t
    simpa using h2
  refine ⟨fun h0 => ?_, fun h0 hns hdv => ?_⟩
  · refine ⟨k, fun t => e * r' t * s t + r t * s' t, not_dvd_zero.2 hk, ((hr'.2.1.scal e).mul hs).add (hr.1.mul hs'.2.1), Zm.of_zero _ fun t => ?_⟩
    obtain ⟨j, rfl⟩ : ∃ j, e = j + 1 := ⟨e - 1, by omega⟩
    show k * f' t - r t ^ (j + 1 - 1) * (((j + 1 : Nat) : Int) * r' t * s t + r t * s' t) = 0
    rw [h1, Nat.add_sub_cancel, Int.pow_succ]
    generalize r t ^ j = x
    generalize ((j + 1 : Nat) : Int) = y
    simp only [rA, rB, rC, rD, rE, rF, rG, rH, rI, rJ, rK]
    omega
  · obtain ⟨k2, w, h2, h3, h4⟩ := hdv
    obtain ⟨j, rfl⟩ : ∃ j, e = j + 1 := ⟨e - 1, by omega⟩
    have h5 : Zm 0 (fun t => r t ^ j * (k2 * ((j + 1 : Nat) : Int) * (r' t * s t) - r t * (k * w t - k2 * s' t))) := by
      refine Zm.of_zero _ fun t => ?_
      have h6 : k2 * f' t - r t ^ (j + 1) * w t = 0 := h4.eq0 t
      have h7 := h1 t
      rw [Nat.add_sub_cancel, Int.pow_succ] at h7
      rw [Int.pow_succ] at h6
      have h8 := congrArg (fun z => k2 * z) h7
      have h9 := congrArg (fun z => k * z) h6
      revert h8 h9
      generalize r t ^ j = x
      generalize ((j + 1 : Nat) : Int) = y
      simp only [rA, rB, rC, rD, rE, rF, rG, rH, rI, rJ, rK]
      omega
    have hpo : Po (fun t => k2 * ((j + 1 : Nat) : Int) * (r' t * s t) - r t * (k * w t - k2 * s' t)) := ((hr'.2.1.mul hs).scal _).sub (hr.1.mul ((h3.scal k).sub (hs'.2.1.scal k2)))
    rcases Zm.or Dom.zero (hr.1.pow j) hpo h5 with h6 | h6
    · have : ∀ j, ¬ Zm 0 (fun t => r t ^ j) := by
        intro j
        induction j with
        | zero => intro h; have := h.eq0 0; simp at this
        | succ j ih =>
          intro h
          rcases Zm.or Dom.zero (hr.1.pow j) hr.1 (h.congr fun t => by rw [Int.pow_succ]) with h | h
          · exact ih h
          · exact hr.2.1 h
      exact this j h6
    · have h7 : Dv 0 r (fun t => r' t * s t) := ⟨k2 * ((j + 1 : Nat) : Int), fun t => k * w t - k2 * s' t, Dom.zero.mul h2 (not_dvd_zero.2 (by omega)), (h3.scal k).sub (hs'.2.1.scal k2), h6⟩
      rcases hr.prime Dom.zero hr'.2.1 hs h7 with h8 | h8
      · exact hr.slope hr' h8
      · exact hns h8

theorem Dv.pow_le {m : Int} (hm : Dom m) {r : Int → Int} (hr : Po r) {f : Int → Int} {i j : Nat} (h : i ≤ j) (hd : Dv m (fun t => r t ^ j) f) : Dv m (fun t => r t ^ i) f := by
  refine Dv.trans hm (Dv.of_eq m hm (hr.pow (j - i)) fun t => ?_) hd
  rw [← Int.pow_add, show i + (j - i) = j by omega]

theorem sq_free {f f' G q : Int → Int} {n : Nat} (hf : Dr f f') (hd : Dm 0 n f) (hG : Po G) (hq : Po q) (hgcd : ∀ r, Po r → (Dv 0 r f ∧ Dv 0 r f' ↔ Dv 0 r G)) (e : ∀ t, f t = G t * q t) :
    (∀ r, Irr 0 r → Dv 0 r f → Dv 0 r q) ∧ ∀ q', Dr q q' → ∀ r, Irr 0 r → Dv 0 r q → Dv 0 r q' → False := by
  have hz := Dom.zero
  refine ⟨fun r hr hrf => ?_, fun q' hq' r hr hrq hrq' => ?_⟩
  · rcases hr.cop_or hz hq with h1 | h1
    · exfalso
      obtain ⟨d, k, s, h2, h3, h4, h5⟩ := mult hz hr n hd
      have h6 : ∀ t, k * f t = r t ^ d * s t := fun t => by have h7 : k * f t - r t ^ d * s t = 0 := h5.eq0 t; omega
      have hd0 : 0 < d := by
        rcases Nat.eq_zero_or_pos d with rfl | h
        · exfalso
          refine h4 ((hrf.mul (Po.const k)).alike (Zm.of_zero _ fun t => ?_))
          rw [h6]; simp
        · exact h
      have h7 : Dv 0 (fun t => r t ^ d) (fun t => q t * G t) := ⟨k, s, h2, h3, Zm.of_zero _ fun t => by
        show k * (q t * G t) - r t ^ d * s t = 0
        rw [Int.mul_comm (q t), ← e, h6]; omega⟩
      have h8 := (Cop.pow hz hr.1 h1 hq d).dv hz hG h7
      have h9 := ((hgcd _ (hr.1.pow d)).2 h8).2
      exact (hr.powers hf (not_dvd_zero.1 h2) h3 h6).2 hd0 h4 h9
    · exact h1
  · obtain ⟨d, k, s, h2, h3, h4, h5⟩ := mult hz hr n hd
    have h6 : ∀ t, k * f t = r t ^ d * s t := fun t => by have h7 : k * f t - r t ^ d * s t = 0 := h5.eq0 t; omega
    obtain ⟨k1, q1, g1, g2, g3⟩ := hrq
    have g4 : ∀ t, k1 * q t = r t * q1 t := fun t => by have h7 : k1 * q t - r t * q1 t = 0 := g3.eq0 t; omega
    obtain ⟨r', hr'⟩ := hr.1.dr
    obtain ⟨q1', hq1'⟩ := g2.dr
    have g5 : ∀ t, k1 * q' t = r' t * q1 t + r t * q1' t := by
      intro t
      have h7 := ((Dr.const k1).mul hq').uniq ((hr'.mul hq1').congr g4 fun _ => rfl) t
      simpa using h7
    have g6 : Dv 0 r (fun t => r' t * q1 t) := by
      refine ((hrq'.mul (Po.const k1)).add hz ((Dv.refl hz r).mul hq1'.2.1.neg)).alike (Zm.of_zero _ fun t => ?_)
      rw [g5, Int.neg_mul, Int.mul_comm (q1' t)]; omega
    have g7 : Dv 0 r q1 := (hr.prime hz hr'.2.1 g2 g6).resolve_left (hr.slope hr')
    obtain ⟨k3, q3, g8, g9, g10⟩ := g7
    have hd0 : 0 < d := by
      rcases Nat.eq_zero_or_pos d with rfl | h
      · exfalso
        refine h4 ?_
        have : Dv 0 r f := (Dv.mul hG ⟨k1, q1, g1, g2, g3⟩).alike (Zm.of_zero _ fun t => by rw [e]; omega)
        refine (this.mul (Po.const k)).alike (Zm.of_zero _ fun t => ?_)
        rw [h6]; simp
      · exact h
    have g11 : Dv 0 (fun t => r t ^ (d - 1)) G := by
      refine (hgcd _ (hr.1.pow _)).1 ⟨Dv.pow_le hz hr.1 (show d - 1 ≤ d by omega) ⟨k, s, h2, h3, h5⟩, (hr.powers hf (not_dvd_zero.1 h2) h3 h6).1 hd0⟩
    obtain ⟨k4, w, g12, g13, g14⟩ := g11
    -- r^(d+1) divides f
    obtain ⟨j, rfl⟩ : ∃ j, d = j + 1 := ⟨d - 1, by omega⟩
    have g15 : Zm 0 (fun t => r t ^ (j + 1) * (k4 * k3 * k1 * s t - k * (r t * (w t * q3 t)))) := by
      refine Zm.of_zero _ fun t => ?_
      have e1 := h6 t
      have e2 : k4 * G t - r t ^ (j + 1 - 1) * w t = 0 := g14.eq0 t
      have e3 : k3 * q1 t - r t * q3 t = 0 := g10.eq0 t
      have e4 := g4 t
      rw [Nat.add_sub_cancel] at e2
      rw [e] at e1
      rw [Int.pow_succ] at e1 ⊢
      have f1 := congrArg (fun z => k4 * k3 * k1 * z) e1
      have f2 : k4 * G t * (k3 * (k1 * q t)) = r t ^ j * w t * (r t * (r t * q3 t)) := by
        rw [e4, show k4 * G t = r t ^ j * w t by omega, Int.mul_left_comm k3, show k3 * q1 t = r t * q3 t by omega]
      have f3 := congrArg (fun z => k * z) f2
      revert f1 f3
      generalize r t ^ j = x
      simp only [rA, rB, rC, rD, rE, rF, rG, rH, rI, rJ, rK]
      omega
    have hne : ∀ j, ¬ Zm 0 (fun t => r t ^ j) := by
      intro j
      induction j with
      | zero => intro h; have := h.eq0 0; simp at this
      | succ j ih =>
        intro h
        rcases Zm.or hz (hr.1.pow j) hr.1 (h.congr fun t => by rw [Int.pow_succ]) with h | h
        · exact ih h
        · exact hr.2.1 h
    have hpo : Po (fun t => k4 * k3 * k1 * s t - k * (r t * (w t * q3 t))) := (h3.scal _).sub ((hr.1.mul (g13.mul g9)).scal k)
    have g16 := (Zm.or hz (hr.1.pow _) hpo g15).resolve_left (hne _)
    exact h4 ⟨k4 * k3 * k1, fun t => k * (w t * q3 t), hz.mul (hz.mul g12 g8) g1, (g13.mul g9).scal k, g16.congr fun t => by rw [Int.mul_left_comm (r t)]⟩

end Go.Proofs.YtldcjkhbiffdoabGreatDoor
