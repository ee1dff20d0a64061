
namespace Go.Proofs.YtldcjkhbiffdoabDoor

/-! ### Texts: what the reader does, on lists of bytes -/

def blanks : List UInt8 → Nat
  | [] => 0
  | c :: l => if c == 32 then blanks l + 1 else 0

def isDig (c : UInt8) : Bool := 48 ≤ c && c ≤ 57

def digs : List UInt8 → List UInt8
  | [] => []
  | c :: l => if isDig c then c :: digs l else []

/-- The number that digits write, behind one that is read. -/
def numOf (n : Nat) : List UInt8 → Nat
  | [] => n
  | c :: l => numOf (10 * n + (c.toNat - 48)) l

/-- Where the next byte stands that is no blank. -/
def skp (s : List UInt8) (n : Nat) : Nat := n + blanks (s.drop n)

/-- A word: does it come next; where the reader stands then. -/
def tak (s : List UInt8) (c : UInt8) (n : Nat) : Bool × Nat :=
  if s[skp s n]? = some c then (true, skp s n + 1) else (false, skp s n)

/-- A number: is there one; it; where the reader stands then. -/
def rdNum (s : List UInt8) (n : Nat) : Bool × Nat × Nat :=
  (!(digs (s.drop (skp s n))).isEmpty, numOf 0 (digs (s.drop (skp s n))), skp s n + (digs (s.drop (skp s n))).length)

/-- x, or x ^ and a number. -/
def rdPow (s : List UInt8) (n : Nat) : Bool × Nat × Nat :=
  if (tak s 120 n).1 then
    if (tak s 94 (tak s 120 n).2).1 then rdNum s (tak s 94 (tak s 120 n).2).2
    else (true, 1, (tak s 94 (tak s 120 n).2).2)
  else (false, 0, (tak s 120 n).2)

/-- A term: is there one; its number and power; where the reader stands then. -/
def rdTerm (s : List UInt8) (n : Nat) : Bool × Nat × Nat × Nat :=
  if (rdNum s n).1 then
    if (tak s 42 (rdNum s n).2.2).1 then
      ((rdPow s (tak s 42 (rdNum s n).2.2).2).1, (rdNum s n).2.1, (rdPow s (tak s 42 (rdNum s n).2.2).2).2.1, (rdPow s (tak s 42 (rdNum s n).2.2).2).2.2)
    else (true, (rdNum s n).2.1, 0, (tak s 42 (rdNum s n).2.2).2)
  else ((rdPow s (rdNum s n).2.2).1, 1, (rdPow s (rdNum s n).2.2).2.1, (rdPow s (rdNum s n).2.2).2.2)

/-- A term is added to those of its power. -/
def addT (c : Int) (p : Nat) : List (Int × Nat) → List (Int × Nat)
  | [] => [(c, p)]
  | (d, q) :: l => if q = p then (d + c, q) :: l else (d, q) :: addT c p l

def sgn (m : Bool) (c : Nat) : Int := if m then -(c : Int) else c


theorem drop_at {l : List UInt8} {k : Nat} {c : UInt8} (h : l[k]? = some c) : l.drop k = c :: l.drop (k + 1) := by
  obtain ⟨hk, rfl⟩ := List.getElem?_eq_some_iff.1 h
  exact List.drop_eq_getElem_cons hk

theorem skp_step {l : List UInt8} {k : Nat} (h : l[k]? = some 32) : skp l k = skp l (k + 1) := by
  unfold skp
  rw [drop_at h]
  simp [blanks]; omega

theorem skp_stop {l : List UInt8} {k : Nat} (h : l[k]? ≠ some 32) : skp l k = k := by
  unfold skp
  cases hd : l.drop k with
  | nil => rfl
  | cons c r =>
    have hc : l[k]? = some c := by
      have := List.getElem?_drop (xs := l) (i := k) (j := 0)
      rw [hd] at this
      simpa using this.symm
    have : ¬ c = 32 := by intro e; subst e; exact h hc
    simp [blanks, this]

theorem blanks_le : ∀ l : List UInt8, blanks l ≤ l.length
  | [] => Nat.le_refl _
  | c :: l => by
    unfold blanks
    split
    · have := blanks_le l; simp; omega
    · simp

theorem skp_le {l : List UInt8} {n : Nat} (h : n ≤ l.length) : skp l n ≤ l.length := by
  have := blanks_le (l.drop n)
  rw [List.length_drop] at this
  unfold skp; omega

theorem skp_ge (l : List UInt8) (n : Nat) : n ≤ skp l n := by unfold skp; omega

theorem digs_le : ∀ l : List UInt8, (digs l).length ≤ l.length
  | [] => Nat.le_refl _
  | c :: l => by
    unfold digs
    split
    · have := digs_le l; simp; omega
    · simp

theorem digs_step {l : List UInt8} {k : Nat} {c : UInt8} (h : l[k]? = some c) (hc : isDig c = true) : digs (l.drop k) = c :: digs (l.drop (k + 1)) := by
  rw [drop_at h]; simp [digs, hc]

theorem digs_stop {l : List UInt8} {k : Nat} (h : ∀ c, l[k]? = some c → isDig c = false) : digs (l.drop k) = [] := by
  cases hd : l.drop k with
  | nil => rfl
  | cons c r =>
    have hc : l[k]? = some c := by
      have := List.getElem?_drop (xs := l) (i := k) (j := 0)
      rw [hd] at this
      simpa using this.symm
    simp [digs, h c hc]

theorem isDig_le {c : UInt8} (h : isDig c = true) : c.toNat ≤ 57 := by
  unfold isDig at h
  simp [UInt8.le_iff_toNat_le] at h
  exact h.2

theorem numOf_lt (l : List UInt8) : ∀ (n k : Nat), n < 10 ^ k → (∀ c, c ∈ l → isDig c = true) → numOf n l < 10 ^ (k + l.length) := by
  induction l with
  | nil =>
    intro n k h _
    unfold numOf
    exact h
  | cons c l ih =>
    intro n k h hc
    have h2 := isDig_le (hc c (List.mem_cons_self ..))
    generalize hm : 10 * n + (c.toNat - 48) = m
    have h3 : m < 10 ^ (k + 1) := by rw [Nat.pow_succ]; omega
    have h4 := ih m (k + 1) h3 (fun d hd => hc d (List.mem_cons_of_mem _ hd))
    unfold numOf
    have h5 : k + (c :: l).length = k + 1 + l.length := by simp; omega
    rw [h5, hm]
    exact h4

theorem digs_all : ∀ (l : List UInt8) (c : UInt8), c ∈ digs l → isDig c = true
  | [], c, h => by simp [digs] at h
  | d :: l, c, h => by
    unfold digs at h
    split at h
    · rename_i hd
      rcases List.mem_cons.1 h with h | h
      · rw [h]; exact hd
      · exact digs_all l c h
    · simp at h

end Go.Proofs.YtldcjkhbiffdoabDoor
