import Derived.Test.YtldcjkhbiffdoaaGreatDoorM33

/-
  The document's reader of texts (words, and a state for each) against the program's: plain facts.
-/
namespace Go.Proofs.YtldcjkhbiffdoaaGreatDoor

/-- A word: its class, its digits, its place. -/
abbrev Wd := UInt8 × List UInt8 × Nat

def wdsF (l : List UInt8) : Nat → Nat → List Wd
  | 0, _ => []
  | f + 1, n =>
    match l[n]? with
    | none => [(46, [], l.length)]
    | some c =>
      if c = 32 then wdsF l f (n + 1)
      else if isDig c then (48, digs (l.drop n), n) :: wdsF l f (n + (digs (l.drop n)).length)
      else (c, [], n) :: wdsF l f (n + 1)

def wds (l : List UInt8) (n : Nat) : List Wd := wdsF l (l.length + 1 - n) n

theorem wdsF_more (l : List UInt8) : ∀ (f g n : Nat), l.length + 1 - n ≤ f → l.length + 1 - n ≤ g → n ≤ l.length → wdsF l f n = wdsF l g n
  | 0, _, n, h, _, hn => by omega
  | f + 1, 0, n, _, h, hn => by omega
  | f + 1, g + 1, n, hf, hg, hn => by
    unfold wdsF
    cases hc : l[n]? with
    | none => rfl
    | some c =>
      have hlt := (List.getElem?_eq_some_iff.1 hc).1
      simp only
      split
      · exact wdsF_more l f g (n + 1) (by omega) (by omega) (by omega)
      · split
        · rename_i hd
          have h1 := digs_step hc hd
          have h2 := digs_le (l.drop n)
          rw [List.length_drop] at h2
          have h3 : 0 < (digs (l.drop n)).length := by rw [h1]; simp
          rw [wdsF_more l f g (n + (digs (l.drop n)).length) (by omega) (by omega) (by omega)]
        · rw [wdsF_more l f g (n + 1) (by omega) (by omega) (by omega)]

theorem wds_end {l : List UInt8} {n : Nat} (h : n = l.length) : wds l n = [(46, [], l.length)] := by
  unfold wds
  rw [show l.length + 1 - n = 0 + 1 by omega]
  unfold wdsF
  rw [List.getElem?_eq_none (by omega)]
theorem wds_blank {l : List UInt8} {n : Nat} (h : l[n]? = some 32) : wds l n = wds l (n + 1) := by
  have hlt := (List.getElem?_eq_some_iff.1 h).1
  unfold wds
  obtain ⟨f, hf⟩ : ∃ f, l.length + 1 - n = f + 1 := ⟨l.length - n, by omega⟩
  rw [hf]
  conv => lhs; unfold wdsF
  rw [h]
  simp only [if_pos]
  exact wdsF_more l _ _ _ (by omega) (by omega) (by omega)
theorem wds_num {l : List UInt8} {n : Nat} {c : UInt8} (h : l[n]? = some c) (hd : isDig c = true) : wds l n = (48, digs (l.drop n), n) :: wds l (n + (digs (l.drop n)).length) := by
  have hlt := (List.getElem?_eq_some_iff.1 h).1
  have h1 := digs_step h hd
  have h2 := digs_le (l.drop n)
  rw [List.length_drop] at h2
  have h3 : 0 < (digs (l.drop n)).length := by rw [h1]; simp
  have hne : c ≠ 32 := by intro e; subst e; simp [isDig] at hd
  unfold wds
  obtain ⟨f, hf⟩ : ∃ f, l.length + 1 - n = f + 1 := ⟨l.length - n, by omega⟩
  rw [hf]
  conv => lhs; unfold wdsF
  rw [h]
  simp only [if_neg hne, if_pos hd]
  rw [wdsF_more l f (l.length + 1 - (n + (digs (l.drop n)).length)) _ (by omega) (by omega) (by omega)]
theorem wds_chr {l : List UInt8} {n : Nat} {c : UInt8} (h : l[n]? = some c) (hne : c ≠ 32) (hd : isDig c = false) : wds l n = (c, [], n) :: wds l (n + 1) := by
  have hlt := (List.getElem?_eq_some_iff.1 h).1
  unfold wds
  obtain ⟨f, hf⟩ : ∃ f, l.length + 1 - n = f + 1 := ⟨l.length - n, by omega⟩
  rw [hf]
  conv => lhs; unfold wdsF
  rw [h]
  simp only [if_neg hne, hd]
  rw [if_neg (by decide), wdsF_more l f (l.length + 1 - (n + 1)) _ (by omega) (by omega) (by omega)]

theorem wds_skp (l : List UInt8) : ∀ (d n : Nat), l.length - n = d → n ≤ l.length → wds l n = wds l (skp l n)
  | 0, n, h, hn => by
    rw [skp_stop]
    rw [List.getElem?_eq_none (by omega)]; simp
  | d + 1, n, h, hn => by
    by_cases h1 : l[n]? = some 32
    · rw [wds_blank h1, skp_step h1]
      exact wds_skp l d (n + 1) (by omega) (by omega)
    · rw [skp_stop h1]

/-- Where the reading stands. -/
structure St where
  ms : List (Int × Nat)
  c : Int
  e : Nat
  neg : Bool
  st : Nat

def endS (st : Nat) : Bool := st == 2 || st == 4 || st == 6

def stp (len : Nat) (s : St) (w : Wd) : Option St :=
  if s.st = 0 ∧ w.1 = 45 then some ⟨s.ms, s.c, s.e, true, 1⟩
  else if s.st < 2 ∧ w.1 = 48 then some ⟨s.ms, (numOf 0 w.2.1 : Int), s.e, s.neg, 2⟩
  else if (s.st < 2 ∧ w.1 = 120) ∨ (s.st = 3 ∧ w.1 = 120) then some ⟨s.ms, s.c, 1, s.neg, 4⟩
  else if s.st = 2 ∧ w.1 = 42 then some ⟨s.ms, s.c, s.e, s.neg, 3⟩
  else if s.st = 4 ∧ w.1 = 94 then some ⟨s.ms, s.c, s.e, s.neg, 5⟩
  else if s.st = 5 ∧ w.1 = 48 then some ⟨s.ms, s.c, numOf 0 w.2.1, s.neg, 6⟩
  else if endS s.st = true ∧ (w.1 = 43 ∨ w.1 = 45 ∨ (w.1 = 46 ∧ w.2.2 = len)) then some ⟨s.ms ++ [(if s.neg then -s.c else s.c, s.e)], 1, 0, decide (w.1 = 45), 1⟩
  else none

/-- All words: the terms, or the place of the first word that mayn't come. -/
def rrun (len : Nat) : List Wd → St → Nat ⊕ List (Int × Nat)
  | [], s => .inr s.ms
  | w :: ws, s => match stp len s w with
    | none => .inl w.2.2
    | some s' => rrun len ws s'

def RR (l : List UInt8) (s : St) (n : Nat) : Nat ⊕ List (Int × Nat) := rrun l.length (wds l n) s

theorem RR_skp {l : List UInt8} {n : Nat} (s : St) (hn : n ≤ l.length) : RR l s n = RR l s (skp l n) := by
  unfold RR; rw [wds_skp l _ n rfl hn]

theorem RR_end {l : List UInt8} {n : Nat} (s : St) (h : n = l.length) : RR l s n = match stp l.length s (46, [], l.length) with
    | none => .inl l.length
    | some s' => .inr s'.ms := by
  unfold RR; rw [wds_end h]; rfl
theorem RR_num {l : List UInt8} {n : Nat} {c : UInt8} (s : St) (h : l[n]? = some c) (hd : isDig c = true) : RR l s n = match stp l.length s (48, digs (l.drop n), n) with
    | none => .inl n
    | some s' => RR l s' (n + (digs (l.drop n)).length) := by
  unfold RR; rw [wds_num h hd]; rfl
theorem RR_chr {l : List UInt8} {n : Nat} {c : UInt8} (s : St) (h : l[n]? = some c) (hne : c ≠ 32) (hd : isDig c = false) : RR l s n = match stp l.length s (c, [], n) with
    | none => .inl n
    | some s' => RR l s' (n + 1) := by
  unfold RR; rw [wds_chr h hne hd]; rfl

theorem skp_no (l : List UInt8) : ∀ (d n : Nat), l.length - n = d → l[skp l n]? ≠ some 32
  | 0, n, h => by
    rw [skp_stop]
    · rw [List.getElem?_eq_none (by omega)]; simp
    · rw [List.getElem?_eq_none (by omega)]; simp
  | d + 1, n, h => by
    by_cases h1 : l[n]? = some 32
    · rw [skp_step h1]
      exact skp_no l d (n + 1) (by omega)
    · rw [skp_stop h1]; exact h1
theorem skp_twice (l : List UInt8) (n : Nat) : skp l (skp l n) = skp l n := skp_stop (skp_no l _ n rfl)

/-- A word that mayn't come. -/
theorem RR_no {l : List UInt8} {n : Nat} (s : St) (hn : n ≤ l.length) (h : ∀ w : Wd, (l[skp l n]? = none → w = (46, [], l.length)) → (∀ c, l[skp l n]? = some c → (isDig c = true → w.1 = 48) ∧ (isDig c = false → w.1 = c) ∧ w.2.2 < l.length) → stp l.length s w = none) :
    RR l s n = .inl (skp l n) := by
  rw [RR_skp s hn]
  have h2 := skp_le hn
  cases hc : l[skp l n]? with
  | none =>
    have h3 : skp l n = l.length := by
      rcases Nat.lt_or_ge (skp l n) l.length with h | h
      · rw [List.getElem?_eq_getElem h] at hc; cases hc
      · omega
    rw [RR_end s h3, h _ (fun _ => rfl) (fun c hc2 => by rw [hc] at hc2; cases hc2), h3]
  | some c =>
    have hlt := (List.getElem?_eq_some_iff.1 hc).1
    have hne : c ≠ 32 := by intro e; subst e; exact skp_no l _ n rfl hc
    cases hd : isDig c with
    | true =>
      rw [RR_num s hc hd, h]
      · intro h5; rw [hc] at h5; cases h5
      · intro c' h5
        rw [hc] at h5
        cases h5
        exact ⟨fun _ => rfl, fun h6 => (by rw [hd] at h6; cases h6), hlt⟩
    | false =>
      rw [RR_chr s hc hne hd, h]
      · intro h5; rw [hc] at h5; cases h5
      · intro c' h5
        rw [hc] at h5
        cases h5
        exact ⟨fun h6 => (by rw [hd] at h6; cases h6), fun _ => rfl, hlt⟩

/-- A sign that comes next. -/
theorem RR_is {l : List UInt8} {n : Nat} {c : UInt8} {s s' : St} (hn : n ≤ l.length) (h : l[skp l n]? = some c) (hd : isDig c = false) (hs : stp l.length s (c, [], skp l n) = some s') : RR l s n = RR l s' (skp l n + 1) := by
  have hne : c ≠ 32 := by intro e; subst e; exact skp_no l _ n rfl h
  rw [RR_skp s hn, RR_chr s h hne hd, hs]

/-- A number that comes next. -/
theorem RR_dig {l : List UInt8} {n : Nat} {s s' : St} (hn : n ≤ l.length) (h : (rdNum l n).1 = true) (hs : stp l.length s (48, digs (l.drop (skp l n)), skp l n) = some s') : RR l s n = RR l s' (rdNum l n).2.2 := by
  have h1 : digs (l.drop (skp l n)) ≠ [] := by
    intro e; unfold rdNum at h; rw [e] at h; simp at h
  obtain ⟨c, hc, hd⟩ : ∃ c, l[skp l n]? = some c ∧ isDig c = true := by
    cases hc : l[skp l n]? with
    | none =>
      exact absurd (digs_stop fun c h => by rw [hc] at h; cases h) h1
    | some c =>
      refine ⟨c, rfl, ?_⟩
      cases hd : isDig c with
      | true => rfl
      | false => exact absurd (digs_stop fun c' h => by rw [hc] at h; cases h; exact hd) h1
  rw [RR_skp s hn, RR_num s hc hd, hs]
  rfl

theorem rdNum_no {l : List UInt8} {n : Nat} (h : ¬ (rdNum l n).1 = true) : (rdNum l n).2.2 = skp l n ∧ ∀ c, l[skp l n]? = some c → isDig c = false := by
  have h1 : digs (l.drop (skp l n)) = [] := by
    unfold rdNum at h
    simp at h
    exact h
  refine ⟨by unfold rdNum; rw [h1]; rfl, fun c hc => ?_⟩
  cases hd : isDig c with
  | false => rfl
  | true => rw [digs_step hc hd] at h1; cases h1

theorem tak_yes {l : List UInt8} {n : Nat} {c : UInt8} (h : (tak l c n).1 = true) : l[skp l n]? = some c ∧ (tak l c n).2 = skp l n + 1 := by
  unfold tak at h ⊢
  split
  · rename_i h1; exact ⟨h1, rfl⟩
  · rename_i h1; rw [if_neg h1] at h; cases h
theorem tak_no {l : List UInt8} {n : Nat} {c : UInt8} (h : ¬ (tak l c n).1 = true) : l[skp l n]? ≠ some c ∧ (tak l c n).2 = skp l n := by
  unfold tak at h ⊢
  split
  · rename_i h1; rw [if_pos h1] at h; exact absurd rfl h
  · rename_i h1; exact ⟨h1, rfl⟩

theorem tak_in {l : List UInt8} {c : UInt8} {n : Nat} (h : n ≤ l.length) : (tak l c n).2 ≤ l.length := by
  by_cases h1 : (tak l c n).1 = true
  · obtain ⟨h2, h3⟩ := tak_yes h1
    have := (List.getElem?_eq_some_iff.1 h2).1
    omega
  · rw [(tak_no h1).2]; exact skp_le h
theorem rdNum_in {l : List UInt8} {n : Nat} (h : n ≤ l.length) : (rdNum l n).2.2 ≤ l.length := by
  have h1 := skp_le h
  have h2 := digs_le (l.drop (skp l n))
  rw [List.length_drop] at h2
  show skp l n + (digs (l.drop (skp l n))).length ≤ _
  omega

/-- What a word is, behind what has been looked at. -/
theorem word_not {l : List UInt8} {n : Nat} {c : UInt8} {w : Wd} (hc : l[skp l n]? ≠ some c) (hne : c ≠ 48) (hdot : c ≠ 46) (h1 : l[skp l n]? = none → w = (46, [], l.length)) (h2 : ∀ c, l[skp l n]? = some c → (isDig c = true → w.1 = 48) ∧ (isDig c = false → w.1 = c) ∧ w.2.2 < l.length) : w.1 ≠ c := by
  cases h : l[skp l n]? with
  | none => rw [h1 h]; exact fun e => hdot e.symm
  | some d =>
    cases hd : isDig d with
    | true => rw [((h2 d h).1 hd)]; exact fun e => hne e.symm
    | false =>
      rw [((h2 d h).2.1 hd)]
      intro e
      rw [h, e] at hc
      exact hc rfl
theorem word_nodig {l : List UInt8} {n : Nat} {w : Wd} (hc : ∀ c, l[skp l n]? = some c → isDig c = false) (h1 : l[skp l n]? = none → w = (46, [], l.length)) (h2 : ∀ c, l[skp l n]? = some c → (isDig c = true → w.1 = 48) ∧ (isDig c = false → w.1 = c) ∧ w.2.2 < l.length) : w.1 ≠ 48 := by
  cases h : l[skp l n]? with
  | none => rw [h1 h]; show (46 : UInt8) ≠ 48; decide
  | some d =>
    have hd := hc d h
    rw [((h2 d h).2.1 hd)]
    intro e
    subst e
    simp [isDig] at hd

/-- 'x' or 'x ^' and a number, from a state where 'x' may come. -/
theorem RR_pow {l : List UInt8} {n : Nat} (ms : List (Int × Nat)) (c : Int) (e0 : Nat) (neg : Bool) (st : Nat) (hn : n ≤ l.length) (hst : st = 3 ∨ (st = 1 ∧ ∀ c, l[skp l n]? = some c → isDig c = false)) :
    ((rdPow l n).1 = true → ∃ st', (st' = 4 ∧ l[skp l (rdPow l n).2.2]? ≠ some 94 ∨ st' = 6) ∧ RR l ⟨ms, c, e0, neg, st⟩ n = RR l ⟨ms, c, (rdPow l n).2.1, neg, st'⟩ (rdPow l n).2.2 ∧ (rdPow l n).2.2 ≤ l.length ∧ n < (rdPow l n).2.2)
    ∧ (¬ (rdPow l n).1 = true → RR l ⟨ms, c, e0, neg, st⟩ n = .inl (rdPow l n).2.2) := by
  have hge := skp_ge l n
  by_cases h1 : (tak l 120 n).1 = true
  · obtain ⟨h2, h3⟩ := tak_yes h1
    have hin := tak_in (c := 120) hn
    have hx : RR l ⟨ms, c, e0, neg, st⟩ n = RR l ⟨ms, c, 1, neg, 4⟩ (tak l 120 n).2 := by
      rw [h3]
      refine RR_is hn h2 (by decide) ?_
      unfold stp
      rcases hst with rfl | ⟨rfl, _⟩ <;> simp
    rw [hx]
    have hge2 := skp_ge l (tak l 120 n).2
    by_cases h4 : (tak l 94 (tak l 120 n).2).1 = true
    · obtain ⟨h5, h6⟩ := tak_yes h4
      have hin2 := tak_in (c := 94) hin
      have hp : rdPow l n = rdNum l (tak l 94 (tak l 120 n).2).2 := by unfold rdPow; rw [if_pos h1, if_pos h4]
      rw [hp]
      have hy : RR l ⟨ms, c, 1, neg, 4⟩ (tak l 120 n).2 = RR l ⟨ms, c, 1, neg, 5⟩ (tak l 94 (tak l 120 n).2).2 := by
        rw [h6]
        exact RR_is hin h5 (by decide) (by unfold stp; simp)
      rw [hy]
      refine ⟨fun h7 => ⟨6, .inr rfl, ?_, rdNum_in hin2, ?_⟩, fun h7 => ?_⟩
      · exact RR_dig hin2 h7 (by unfold stp; simp [rdNum])
      · show n < skp l _ + _
        have := skp_ge l (tak l 94 (tak l 120 n).2).2
        omega
      · obtain ⟨h8, h9⟩ := rdNum_no h7
        rw [h8]
        refine RR_no _ hin2 fun w w1 w2 => ?_
        have := word_nodig h9 w1 w2
        unfold stp
        simp [this, endS]
    · obtain ⟨h5, h6⟩ := tak_no h4
      have hp : rdPow l n = (true, 1, (tak l 94 (tak l 120 n).2).2) := by unfold rdPow; rw [if_pos h1, if_neg h4]
      rw [hp]
      refine ⟨fun _ => ⟨4, .inl ⟨rfl, ?_⟩, ?_, ?_, ?_⟩, fun h => absurd rfl h⟩
      · show l[skp l (tak l 94 (tak l 120 n).2).2]? ≠ _
        rw [h6, skp_twice]; exact h5
      · show _ = RR l _ (tak l 94 (tak l 120 n).2).2
        rw [h6, ← RR_skp _ hin]
      · show (tak l 94 (tak l 120 n).2).2 ≤ _
        exact tak_in hin
      · show n < (tak l 94 (tak l 120 n).2).2
        omega
  · obtain ⟨h2, h3⟩ := tak_no h1
    have hp : rdPow l n = (false, 0, (tak l 120 n).2) := by unfold rdPow; rw [if_neg h1]
    rw [hp]
    refine ⟨fun h => by simp at h, fun _ => ?_⟩
    show _ = Sum.inl (tak l 120 n).2
    rw [h3]
    refine RR_no _ hn fun w w1 w2 => ?_
    have hw := word_not h2 (by decide) (by decide) w1 w2
    rcases hst with rfl | ⟨rfl, hnd⟩
    · unfold stp
      simp [hw, endS]
    · have hw2 := word_nodig hnd w1 w2
      unfold stp
      simp [hw, hw2, endS]

/-- A term. -/
theorem RR_term {l : List UInt8} {n : Nat} (ms : List (Int × Nat)) (neg : Bool) (hn : n ≤ l.length) :
    ((rdTerm l n).1 = true → ∃ st', (st' = 2 ∧ l[skp l (rdTerm l n).2.2.2]? ≠ some 42 ∨ st' = 4 ∧ l[skp l (rdTerm l n).2.2.2]? ≠ some 94 ∨ st' = 6) ∧ RR l ⟨ms, 1, 0, neg, 1⟩ n = RR l ⟨ms, ((rdTerm l n).2.1 : Int), (rdTerm l n).2.2.1, neg, st'⟩ (rdTerm l n).2.2.2 ∧ (rdTerm l n).2.2.2 ≤ l.length ∧ n < (rdTerm l n).2.2.2)
    ∧ (¬ (rdTerm l n).1 = true → RR l ⟨ms, 1, 0, neg, 1⟩ n = .inl (rdTerm l n).2.2.2) := by
  have hge := skp_ge l n
  by_cases h1 : (rdNum l n).1 = true
  · have hin := rdNum_in hn
    have hlt : n < (rdNum l n).2.2 := by
      unfold rdNum at h1 ⊢
      simp at h1
      have := List.length_pos_iff.2 h1
      simp only
      omega
    have hx : RR l ⟨ms, 1, 0, neg, 1⟩ n = RR l ⟨ms, ((rdNum l n).2.1 : Int), 0, neg, 2⟩ (rdNum l n).2.2 :=
      RR_dig hn h1 (by unfold stp; simp [rdNum])
    rw [hx]
    have hge2 := skp_ge l (rdNum l n).2.2
    by_cases h4 : (tak l 42 (rdNum l n).2.2).1 = true
    · obtain ⟨h5, h6⟩ := tak_yes h4
      have hin2 := tak_in (c := 42) hin
      have hp : rdTerm l n = ((rdPow l (tak l 42 (rdNum l n).2.2).2).1, (rdNum l n).2.1, (rdPow l (tak l 42 (rdNum l n).2.2).2).2.1, (rdPow l (tak l 42 (rdNum l n).2.2).2).2.2) := by unfold rdTerm; rw [if_pos h1, if_pos h4]
      rw [hp]
      have hy : RR l ⟨ms, ((rdNum l n).2.1 : Int), 0, neg, 2⟩ (rdNum l n).2.2 = RR l ⟨ms, ((rdNum l n).2.1 : Int), 0, neg, 3⟩ (tak l 42 (rdNum l n).2.2).2 := by
        rw [h6]
        exact RR_is hin h5 (by decide) (by unfold stp; simp)
      rw [hy]
      obtain ⟨g1, g2⟩ := RR_pow ms ((rdNum l n).2.1 : Int) 0 neg 3 hin2 (.inl rfl)
      refine ⟨fun h7 => ?_, g2⟩
      obtain ⟨st', k1, k2, k3, k4⟩ := g1 h7
      exact ⟨st', .inr k1, k2, k3, by show n < (rdPow l _).2.2; omega⟩
    · obtain ⟨h5, h6⟩ := tak_no h4
      have hp : rdTerm l n = (true, (rdNum l n).2.1, 0, (tak l 42 (rdNum l n).2.2).2) := by unfold rdTerm; rw [if_pos h1, if_neg h4]
      rw [hp]
      refine ⟨fun _ => ⟨2, .inl ⟨rfl, ?_⟩, ?_, ?_, ?_⟩, fun h => absurd rfl h⟩
      · show l[skp l (tak l 42 (rdNum l n).2.2).2]? ≠ _
        rw [h6, skp_twice]; exact h5
      · show _ = RR l _ (tak l 42 (rdNum l n).2.2).2
        rw [h6, ← RR_skp _ hin]
      · show (tak l 42 (rdNum l n).2.2).2 ≤ _
        exact tak_in hin
      · show n < (tak l 42 (rdNum l n).2.2).2
        omega
  · obtain ⟨h2, h3⟩ := rdNum_no h1
    have hp : rdTerm l n = ((rdPow l (rdNum l n).2.2).1, 1, (rdPow l (rdNum l n).2.2).2.1, (rdPow l (rdNum l n).2.2).2.2) := by unfold rdTerm; rw [if_neg h1]
    rw [hp]
    obtain ⟨g1, g2⟩ := RR_pow (l := l) (n := (rdNum l n).2.2) ms 1 0 neg 1 (rdNum_in hn) (.inr ⟨rfl, by rw [h2, skp_twice]; exact h3⟩)
    rw [h2, ← RR_skp _ hn] at g1 g2
    refine ⟨fun h7 => ?_, fun h7 => ?_⟩
    · rw [h2] at h7
      obtain ⟨st', k1, k2, k3, k4⟩ := g1 h7
      rw [h2]
      exact ⟨st', .inr k1, by rw [k2]; rfl, k3, by show n < (rdPow l _).2.2; omega⟩
    · rw [h2] at h7 ⊢
      exact g2 h7

theorem addAll_snoc (ms : List (Int × Nat)) (q : Int × Nat) : addAll (ms ++ [q]) [] = addT q.1 q.2 (addAll ms []) := by
  unfold addAll
  rw [List.foldl_append]
  rfl

/-- Behind a term: a sign, the end, or neither. -/
theorem stp_end {len : Nat} {s : St} {w : Wd} (hs : endS s.st = true) (h1 : ¬ (s.st = 2 ∧ w.1 = 42)) (h2 : ¬ (s.st = 4 ∧ w.1 = 94)) :
    stp len s w = if w.1 = 43 ∨ w.1 = 45 ∨ (w.1 = 46 ∧ w.2.2 = len) then some ⟨s.ms ++ [(if s.neg then -s.c else s.c, s.e)], 1, 0, decide (w.1 = 45), 1⟩ else none := by
  unfold stp
  have h0 : s.st = 2 ∨ s.st = 4 ∨ s.st = 6 := by
    unfold endS at hs
    simp at hs
    omega
  rw [if_neg (by omega), if_neg (by omega), if_neg (by omega), if_neg h1, if_neg h2, if_neg (by omega)]
  simp [hs]

theorem RR_sum (l : List UInt8) : ∀ (f : Nat) (m : Bool) (n : Nat) (ms : List (Int × Nat)), n ≤ l.length → l.length + 1 - n ≤ f →
    match RR l ⟨ms, 1, 0, m, 1⟩ n with
    | .inl p => (rdSum l f m n (addAll ms [])).1 = false ∧ (rdSum l f m n (addAll ms [])).2.1 = p
    | .inr ms' => (rdSum l f m n (addAll ms [])).1 = true ∧ (rdSum l f m n (addAll ms [])).2.2 = addAll ms' []
  | 0, m, n, ms, hn, hf => by omega
  | f + 1, m, n, ms, hn, hf => by
    obtain ⟨g1, g2⟩ := RR_term ms m hn
    by_cases h1 : (rdTerm l n).1 = true
    · obtain ⟨st', k1, k2, k3, k4⟩ := g1 h1
      rw [k2]
      have hts : termsOf l m n (addAll ms []) = addAll (ms ++ [(if m then -((rdTerm l n).2.1 : Int) else ((rdTerm l n).2.1 : Int), (rdTerm l n).2.2.1)]) [] := by
        rw [addAll_snoc]
        unfold termsOf
        rw [if_pos h1]
        rfl
      have hse : endS st' = true := by rcases k1 with ⟨rfl, _⟩ | ⟨rfl, _⟩ | rfl <;> rfl
      have hskl := skp_le k3
      have hskg := skp_ge l (rdTerm l n).2.2.2
      unfold rdSum
      rw [if_pos h1, hts]
      by_cases h2 : l.length ≤ skp l (rdTerm l n).2.2.2
      · rw [if_pos h2, RR_skp _ k3, RR_end _ (by omega), stp_end hse (by simp) (by simp)]
        simp
      · rw [if_neg h2]
        obtain ⟨c, hc⟩ : ∃ c, l[skp l (rdTerm l n).2.2.2]? = some c := ⟨_, List.getElem?_eq_getElem (by omega)⟩
        by_cases h3 : (tak l 45 (skp l (rdTerm l n).2.2.2)).1 = true
        · obtain ⟨h5, h6⟩ := tak_yes h3
          rw [if_pos h3, h6]
          rw [skp_twice] at h5 ⊢
          rw [RR_is (s' := ⟨ms ++ [(if m then -((rdTerm l n).2.1 : Int) else ((rdTerm l n).2.1 : Int), (rdTerm l n).2.2.1)], 1, 0, true, 1⟩) k3 h5 (by decide) (by rw [stp_end hse (by simp) (by simp)]; simp)]
          exact RR_sum l f true _ _ (by omega) (by omega)
        · obtain ⟨h5, h6⟩ := tak_no h3
          rw [if_neg h3, h6]
          rw [skp_twice] at h5 ⊢
          by_cases h7 : (tak l 43 (skp l (rdTerm l n).2.2.2)).1 = true
          · obtain ⟨h8, h9⟩ := tak_yes h7
            rw [if_pos h7, h9]
            rw [skp_twice] at h8 ⊢
            rw [RR_is (s' := ⟨ms ++ [(if m then -((rdTerm l n).2.1 : Int) else ((rdTerm l n).2.1 : Int), (rdTerm l n).2.2.1)], 1, 0, false, 1⟩) k3 h8 (by decide) (by rw [stp_end hse (by simp) (by simp)]; simp)]
            exact RR_sum l f false _ _ (by omega) (by omega)
          · obtain ⟨h8, h9⟩ := tak_no h7
            rw [if_neg h7, h9]
            rw [skp_twice] at h8 ⊢
            have hno : RR l ⟨ms, ((rdTerm l n).2.1 : Int), (rdTerm l n).2.2.1, m, st'⟩ (rdTerm l n).2.2.2 = .inl (skp l (rdTerm l n).2.2.2) := by
              refine RR_no _ k3 fun w w1 w2 => ?_
              have e1 := word_not h5 (by decide) (by decide) w1 w2
              have e2 := word_not h8 (by decide) (by decide) w1 w2
              have e3 := (w2 c hc).2.2
              have e4 : ¬ (w.1 = 43 ∨ w.1 = 45 ∨ (w.1 = 46 ∧ w.2.2 = l.length)) := by
                rintro (h | h | ⟨_, h⟩)
                · exact e2 h
                · exact e1 h
                · omega
              rw [stp_end hse, if_neg e4]
              · rintro ⟨q1, q2⟩
                rcases k1 with ⟨_, k⟩ | ⟨rfl, _⟩ | rfl
                · exact word_not k (by decide) (by decide) w1 w2 q2
                · simp at q1
                · simp at q1
              · rintro ⟨q1, q2⟩
                rcases k1 with ⟨rfl, _⟩ | ⟨_, k⟩ | rfl
                · simp at q1
                · exact word_not k (by decide) (by decide) w1 w2 q2
                · simp at q1
            rw [hno]
            exact ⟨rfl, rfl⟩
    · rw [g2 h1]
      unfold rdSum
      rw [if_neg h1]
      exact ⟨rfl, rfl⟩

/-! ### The sum of the terms -/

/-- The number at a power is set, the list made long enough. -/
def setAt (p : List Int) (e : Nat) (c : Int) : List Int := (p ++ List.replicate (e + 1 - p.length) 0).set e c

theorem setAt_len (p : List Int) (e : Nat) (c : Int) : (setAt p e c).length = max p.length (e + 1) := by
  unfold setAt; simp; omega

theorem setAt_getD (p : List Int) (e : Nat) (c : Int) (k : Nat) : (setAt p e c).getD k 0 = if k = e then c else p.getD k 0 := by
  unfold setAt
  have hl : e < (p ++ List.replicate (e + 1 - p.length) (0 : Int)).length := by simp; omega
  by_cases hk : k = e
  · subst hk
    rw [if_pos rfl]
    simp only [List.getD, List.getElem?_set_self hl, Option.getD_some]
  · rw [if_neg hk]
    simp only [List.getD]
    rw [List.getElem?_set_ne (fun h => hk h.symm)]
    rcases Nat.lt_or_ge k p.length with h | h
    · rw [List.getElem?_append_left h]
    · rw [List.getElem?_append_right h, List.getElem?_eq_none h, List.getElem?_replicate]
      split <;> rfl

/-- The sum of the terms of 'all', of those powers that the list has: none: beyond the greatest degree. -/
def smv (all : List (Int × Nat)) : List (Int × Nat) → List Int → Option (List Int)
  | [], p => some p
  | q :: ms, p => if smT q.2 all = 0 then smv all ms p else if 10 < q.2 then none else smv all ms (setAt p q.2 (smT q.2 all))

theorem Tr.setAt {p : List Int} (h : Tr p) {e : Nat} {c : Int} (hc : c ≠ 0) : Tr (setAt p e c) := by
  intro _
  rw [setAt_len, setAt_getD]
  split
  · exact hc
  · have h1 : e + 1 < p.length + 0 := by omega
    rw [show max p.length (e + 1) - 1 = p.length - 1 by omega]
    refine h ?_
    intro h0
    subst h0
    simp at h1

theorem smv_none (all : List (Int × Nat)) : ∀ (ms : List (Int × Nat)) (p : List Int), smv all ms p = none ↔ ∃ q, q ∈ ms ∧ smT q.2 all ≠ 0 ∧ 10 < q.2
  | [], p => by simp [smv]
  | q :: ms, p => by
    unfold smv
    split
    · rename_i h
      rw [smv_none all ms p]
      constructor
      · rintro ⟨r, h1, h2⟩; exact ⟨r, List.mem_cons_of_mem _ h1, h2⟩
      · rintro ⟨r, h1, h2⟩
        rcases List.mem_cons.1 h1 with rfl | h1
        · exact absurd h h2.1
        · exact ⟨r, h1, h2⟩
    · rename_i h
      split
      · rename_i h3
        simp only [true_iff]
        exact ⟨q, List.mem_cons_self .., h, h3⟩
      · rename_i h3
        rw [smv_none all ms _]
        constructor
        · rintro ⟨r, h1, h2⟩; exact ⟨r, List.mem_cons_of_mem _ h1, h2⟩
        · rintro ⟨r, h1, h2⟩
          rcases List.mem_cons.1 h1 with rfl | h1
          · exact absurd h2.2 h3
          · exact ⟨r, h1, h2⟩

theorem smv_some (all : List (Int × Nat)) : ∀ (ms : List (Int × Nat)) (p P : List Int), smv all ms p = some P → Tr p → (∀ k, p.getD k 0 = smT k all ∨ (p.getD k 0 = 0 ∧ ((∃ q, q ∈ ms ∧ q.2 = k) ∨ smT k all = 0))) → Tr P ∧ ∀ k, P.getD k 0 = smT k all
  | [], p, P, h, ht, hk => by
    unfold smv at h
    cases h
    refine ⟨ht, fun k => ?_⟩
    rcases hk k with h | ⟨h1, ⟨q, h2, _⟩ | h2⟩
    · exact h
    · simp at h2
    · rw [h1, h2]
  | q :: ms, p, P, h, ht, hk => by
    unfold smv at h
    split at h
    · rename_i h0
      refine smv_some all ms p P h ht fun k => ?_
      rcases hk k with h | ⟨h1, ⟨r, h2, h3⟩ | h2⟩
      · exact .inl h
      · rcases List.mem_cons.1 h2 with rfl | h2
        · rw [h3] at h0; exact .inr ⟨h1, .inr h0⟩
        · exact .inr ⟨h1, .inl ⟨r, h2, h3⟩⟩
      · exact .inr ⟨h1, .inr h2⟩
    · rename_i h0
      split at h
      · cases h
      · refine smv_some all ms _ P h (ht.setAt h0) fun k => ?_
        rw [setAt_getD]
        by_cases he : k = q.2
        · rw [if_pos he, he]; exact .inl rfl
        · rw [if_neg he]
          rcases hk k with h | ⟨h1, ⟨r, h2, h3⟩ | h2⟩
          · exact .inl h
          · rcases List.mem_cons.1 h2 with rfl | h2
            · exact absurd h3.symm he
            · exact .inr ⟨h1, .inl ⟨r, h2, h3⟩⟩
          · exact .inr ⟨h1, .inr h2⟩

theorem smT_none {k : Nat} : ∀ {ms : List (Int × Nat)}, (∀ q, q ∈ ms → q.2 ≠ k) → smT k ms = 0
  | [], _ => rfl
  | q :: ms, h => by
    show (if q.2 = k then q.1 else 0) + smT k ms = 0
    rw [if_neg (h q (List.mem_cons_self ..)), smT_none fun r hr => h r (List.mem_cons_of_mem _ hr)]
    rfl

theorem addT_pow {c : Int} {p : Nat} {q : Int × Nat} : ∀ {ts : List (Int × Nat)}, q ∈ addT c p ts → q.2 = p ∨ ∃ r, r ∈ ts ∧ r.2 = q.2
  | [], h => by simp [addT] at h; left; rw [h]
  | (d, r) :: ts, h => by
    unfold addT at h
    split at h
    · rename_i hr
      rcases List.mem_cons.1 h with h | h
      · left; rw [h]; exact hr
      · exact .inr ⟨q, List.mem_cons_of_mem _ h, rfl⟩
    · rcases List.mem_cons.1 h with h | h
      · exact .inr ⟨(d, r), List.mem_cons_self .., by rw [h]⟩
      · rcases addT_pow h with h | ⟨s, h1, h2⟩
        · exact .inl h
        · exact .inr ⟨s, List.mem_cons_of_mem _ h1, h2⟩

/-- Each power once. -/
def Once (ts : List (Int × Nat)) : Prop := ts.Pairwise fun a b => a.2 ≠ b.2

theorem Once.addT {c : Int} {p : Nat} : ∀ {ts : List (Int × Nat)}, Once ts → Once (addT c p ts)
  | [], _ => by simp [Go.Proofs.YtldcjkhbiffdoaaGreatDoor.addT, Once]
  | (d, q) :: ts, h => by
    unfold Once at h
    rw [List.pairwise_cons] at h
    unfold Go.Proofs.YtldcjkhbiffdoaaGreatDoor.addT
    split
    · unfold Once
      rw [List.pairwise_cons]
      exact ⟨h.1, h.2⟩
    · rename_i hq
      unfold Once
      rw [List.pairwise_cons]
      refine ⟨fun r hr => ?_, Once.addT h.2⟩
      rcases addT_pow hr with h1 | ⟨s, h1, h2⟩
      · rw [h1]; exact hq
      · rw [← h2]; exact h.1 s h1

theorem Once.nAt : ∀ {ts : List (Int × Nat)}, Once ts → ∀ q, q ∈ ts → nAt q.2 ts = q.1
  | [], _, q, h => by simp at h
  | (d, r) :: ts, h, q, hq => by
    unfold Once at h
    rw [List.pairwise_cons] at h
    unfold Go.Proofs.YtldcjkhbiffdoaaGreatDoor.nAt
    rcases List.mem_cons.1 hq with rfl | hq
    · rw [if_pos rfl]
    · rw [if_neg (h.1 q hq), Once.nAt h.2 q hq]

theorem Once.addAll : ∀ (tl : List (Int × Nat)) {ts : List (Int × Nat)}, Once ts → Once (addAll tl ts)
  | [], _, h => h
  | q :: tl, ts, h => Once.addAll tl (ts := Go.Proofs.YtldcjkhbiffdoaaGreatDoor.addT q.1 q.2 ts) h.addT

theorem nAt_mem {k : Nat} : ∀ {ts : List (Int × Nat)}, nAt k ts ≠ 0 → (nAt k ts, k) ∈ ts
  | [], h => absurd rfl h
  | (d, q) :: ts, h => by
    unfold nAt at h ⊢
    split
    · rename_i hq; rw [hq]; exact List.mem_cons_self ..
    · rename_i hq
      rw [if_neg hq] at h
      exact List.mem_cons_of_mem _ (nAt_mem h)

theorem nAt_all (k : Nat) (ms : List (Int × Nat)) : nAt k (addAll ms []) = smT k ms := by
  rw [nAt_addAll]
  show 0 + smT k ms = smT k ms
  omega

/-- What the document's reader makes of a text: the error, the place, the coefficients. -/
def rread (l : List UInt8) : Nat × Nat × List Int :=
  if 200 < l.length then (1, 0, [])
  else match RR l ⟨[], 1, 0, false, 0⟩ 0 with
    | .inl p => (2, p, [])
    | .inr ms => match smv ms ms [] with
      | none => (3, 0, [])
      | some P => if inB P then (0, 0, P) else (3, 0, [])

theorem any_big (ms : List (Int × Nat)) : (addAll ms []).any bigQ = true ↔ ∃ q, q ∈ ms ∧ smT q.2 ms ≠ 0 ∧ 10 < q.2 := by
  rw [List.any_eq_true]
  constructor
  · rintro ⟨q, h1, h2⟩
    unfold bigQ at h2
    simp at h2
    have h3 := Once.nAt (Once.addAll ms (ts := []) List.Pairwise.nil) q h1
    rw [nAt_all] at h3
    by_cases h4 : ∃ r, r ∈ ms ∧ r.2 = q.2
    · obtain ⟨r, h5, h6⟩ := h4
      exact ⟨r, h5, by rw [h6, h3]; exact h2.1, by omega⟩
    · exact absurd (smT_none fun r hr e => h4 ⟨r, hr, e⟩) (by rw [h3]; exact h2.1)
  · rintro ⟨q, h1, h2, h3⟩
    have h4 := nAt_mem (k := q.2) (ts := addAll ms []) (by rw [nAt_all]; exact h2)
    refine ⟨_, h4, ?_⟩
    unfold bigQ
    rw [nAt_all]
    simp [h2, h3]

theorem coefsT_getD (ts : List (Int × Nat)) (n k : Nat) : (coefsT ts n).getD k 0 = if k < n then nAt k ts else 0 := tab_getD n (fun k => nAt k ts) k

theorem sum_same (ms : List (Int × Nat)) : (match smv ms ms [] with
      | none => (3, 0, [])
      | some P => if inB P then (0, 0, P) else (3, 0, []) : Nat × Nat × List Int) = if (addAll ms []).any bigQ then (3, 0, []) else if inB (tz (coefsT (addAll ms []) 11)) then (0, 0, tz (coefsT (addAll ms []) 11)) else (3, 0, []) := by
  cases hs : smv ms ms [] with
  | none => rw [if_pos ((any_big ms).2 ((smv_none ms ms []).1 hs))]
  | some P =>
    have h1 : ¬ (addAll ms []).any bigQ = true := by
      intro h
      rw [(smv_none ms ms []).2 ((any_big ms).1 h)] at hs
      cases hs
    rw [if_neg h1]
    obtain ⟨h2, h3⟩ := smv_some ms ms [] P hs Tr.nil fun k => by
      by_cases h : ∃ q, q ∈ ms ∧ q.2 = k
      · exact .inr ⟨by simp, .inl h⟩
      · exact .inr ⟨by simp, .inr (smT_none fun r hr e => h ⟨r, hr, e⟩)⟩
    have h4 : tz (coefsT (addAll ms []) 11) = P := by
      refine tz_eq h2 fun k => ?_
      rw [coefsT_getD, nAt_all, h3]
      split
      · rfl
      · rename_i hk
        by_cases h5 : smT k ms = 0
        · exact h5.symm
        · exfalso
          apply h1
          rw [any_big]
          by_cases h : ∃ q, q ∈ ms ∧ q.2 = k
          · obtain ⟨q, h6, h7⟩ := h
            exact ⟨q, h6, by rw [h7]; exact h5, by omega⟩
          · exact absurd (smT_none fun r hr e => h ⟨r, hr, e⟩) h5
    rw [h4]

/-- Both readers answer alike. -/
theorem rread_pread (l : List UInt8) : rread l = pread l := by
  unfold rread pread
  by_cases h0 : 200 < l.length
  · rw [if_pos h0, if_pos h0]
  · rw [if_neg h0, if_neg h0]
    have hin := tak_in (l := l) (c := 45) (n := 0) (Nat.zero_le _)
    have hfirst : RR l ⟨[], 1, 0, false, 0⟩ 0 = RR l ⟨[], 1, 0, (tak l 45 0).1, 1⟩ (tak l 45 0).2 := by
      by_cases h1 : (tak l 45 0).1 = true
      · obtain ⟨h2, h3⟩ := tak_yes h1
        rw [h1, h3]
        exact RR_is (Nat.zero_le _) h2 (by decide) (by unfold stp; simp)
      · obtain ⟨h2, h3⟩ := tak_no h1
        have h4 : (tak l 45 0).1 = false := by simpa using h1
        rw [h4, h3, ← RR_skp _ (Nat.zero_le _)]
        rw [RR_skp _ (Nat.zero_le _), RR_skp ⟨[], 1, 0, false, 1⟩ (Nat.zero_le _)]
        have hs : ∀ w : Wd, w.1 ≠ 45 → stp l.length ⟨[], 1, 0, false, 0⟩ w = stp l.length ⟨[], 1, 0, false, 1⟩ w := by
          intro w hw
          unfold stp
          simp [hw, endS]
        have hle := skp_le (l := l) (n := 0) (Nat.zero_le _)
        cases hc : l[skp l 0]? with
        | none =>
          have h5 : skp l 0 = l.length := by
            rcases Nat.lt_or_ge (skp l 0) l.length with h | h
            · rw [List.getElem?_eq_getElem h] at hc; cases hc
            · omega
          rw [RR_end _ h5, RR_end _ h5, hs _ (by show (46 : UInt8) ≠ 45; decide)]
        | some c =>
          have hne : c ≠ 32 := by intro e; subst e; exact skp_no l _ 0 rfl hc
          have hc45 : c ≠ 45 := by intro e; subst e; exact h2 hc
          cases hd : isDig c with
          | true => rw [RR_num _ hc hd, RR_num _ hc hd, hs _ (by show (48 : UInt8) ≠ 45; decide)]
          | false => rw [RR_chr _ hc hne hd, RR_chr _ hc hne hd, hs _ hc45]
    have hm := RR_sum l (l.length + 1) (tak l 45 0).1 (tak l 45 0).2 [] hin (by omega)
    rw [← hfirst] at hm
    have he : addAll [] [] = [] := rfl
    rw [he] at hm
    have hr : rdSum l (l.length + 1) (tak l 45 0).1 (tak l 45 0).2 [] = rsum l := rfl
    rw [hr] at hm
    cases hR : RR l ⟨[], 1, 0, false, 0⟩ 0 with
    | inl p =>
      rw [hR] at hm
      simp only at hm
      rw [hm.1, hm.2]
      simp
    | inr ms =>
      rw [hR] at hm
      simp only at hm
      rw [hm.1, hm.2, if_pos rfl]
      exact sum_same ms

end Go.Proofs.YtldcjkhbiffdoaaGreatDoor
