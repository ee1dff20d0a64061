import Derived.Test.YtldcjkhbiffdoabGreatDoorM00

namespace Go.Proofs.YtldcjkhbiffdoabGreatDoor

def cont (l : List Int) : Nat := l.foldl (fun g c => Int.gcd g c) 0

theorem foldl_gcd_dvd : ∀ (l : List Int) (g : Nat), (l.foldl (fun g c => Int.gcd g c) g) ∣ g ∧ ∀ c, c ∈ l → ((l.foldl (fun g c => Int.gcd (g : Int) c) g : Nat) : Int) ∣ c
  | [], g => ⟨Nat.dvd_refl _, fun c h => by simp at h⟩
  | x :: l, g => by
    obtain ⟨h1, h2⟩ := foldl_gcd_dvd l (Int.gcd g x)
    refine ⟨Nat.dvd_trans h1 ?_, fun c hc => ?_⟩
    · have := Int.gcd_dvd_left (a := (g : Int)) (b := x)
      exact Int.natCast_dvd_natCast.1 this
    · rcases List.mem_cons.1 hc with rfl | hc
      · exact Int.dvd_trans (Int.natCast_dvd_natCast.2 h1) (Int.gcd_dvd_right (a := (g : Int)) (b := c))
      · exact h2 c hc

theorem cont_dvd {l : List Int} {c : Int} (h : c ∈ l) : ((cont l : Nat) : Int) ∣ c := (foldl_gcd_dvd l 0).2 c h

theorem mem_of_getD {l : List Int} {k : Nat} (h : l.getD k 0 ≠ 0) : l.getD k 0 ∈ l := by
  rcases Nat.lt_or_ge k l.length with h1 | h1
  · rw [show l.getD k 0 = l[k] by simp [List.getD, List.getElem?_eq_getElem h1]]
    exact List.getElem_mem h1
  · exact absurd (getD_out h1) h

theorem cont_dvd_getD (l : List Int) (k : Nat) : ((cont l : Nat) : Int) ∣ l.getD k 0 := by
  by_cases h : l.getD k 0 = 0
  · rw [h]; exact Int.dvd_zero _
  · exact cont_dvd (mem_of_getD h)

theorem cont_pos {l : List Int} {k : Nat} (h : l.getD k 0 ≠ 0) : 0 < cont l := by
  rcases Nat.eq_zero_or_pos (cont l) with h0 | h0
  · have := cont_dvd_getD l k
    rw [h0] at this
    exact absurd (Int.zero_dvd.1 this) h
  · exact h0

theorem foldl_gcd_mul (c : Int) : ∀ (l : List Int) (g : Nat), (l.map (fun x => c * x)).foldl (fun g x => Int.gcd (g : Int) x) (c.natAbs * g) = c.natAbs * l.foldl (fun g x => Int.gcd (g : Int) x) g
  | [], g => rfl
  | x :: l, g => by
    show (l.map (fun x => c * x)).foldl (fun g x => Int.gcd (g : Int) x) (Int.gcd ((c.natAbs * g : Nat) : Int) (c * x)) = _
    have h : Int.gcd ((c.natAbs * g : Nat) : Int) (c * x) = c.natAbs * Int.gcd (g : Int) x := by
      unfold Int.gcd
      rw [Int.natAbs_mul, Int.natAbs_natCast, Int.natAbs_natCast, Nat.gcd_mul_left]
    rw [h, foldl_gcd_mul c l]
    rfl

theorem cont_mul (c : Int) (l : List Int) : cont (l.map fun x => c * x) = c.natAbs * cont l := by
  have := foldl_gcd_mul c l 0
  rw [Nat.mul_zero] at this
  exact this

def scont (l : List Int) : Int := if lead l < 0 then -(cont l : Int) else (cont l : Int)

def prim (l : List Int) : List Int := l.map fun x => x.tdiv (scont l)

theorem prim_len (l : List Int) : (prim l).length = l.length := by simp [prim]

theorem prim_getD (l : List Int) (k : Nat) : (prim l).getD k 0 = (l.getD k 0).tdiv (scont l) := by
  unfold prim
  rcases Nat.lt_or_ge k l.length with h | h
  · simp [List.getD, List.getElem?_map, List.getElem?_eq_getElem h]
  · rw [getD_out (by simpa using h), getD_out h]; simp

theorem scont_dvd (l : List Int) (k : Nat) : scont l ∣ l.getD k 0 := by
  unfold scont
  split
  · exact Int.neg_dvd.2 (cont_dvd_getD l k)
  · exact cont_dvd_getD l k

theorem prim_mul (l : List Int) (k : Nat) : l.getD k 0 = scont l * (prim l).getD k 0 := by
  rw [prim_getD]
  exact (Int.mul_tdiv_cancel' (scont_dvd l k)).symm

theorem scont_ne {l : List Int} (h : Tr l) (hne : l ≠ []) : scont l ≠ 0 := by
  have := cont_pos (h hne)
  unfold scont
  split <;> omega

theorem Tr.prim {l : List Int} (h : Tr l) : Tr (prim l) := by
  intro hne
  have hl : l ≠ [] := by intro e; subst e; exact hne rfl
  intro h0
  have := prim_mul l ((Go.Proofs.YtldcjkhbiffdoabGreatDoor.prim l).length - 1)
  rw [h0, Int.mul_zero, prim_len] at this
  exact h hl this

theorem scal_getD (c : Int) (l : List Int) (k : Nat) : (l.map fun x => c * x).getD k 0 = c * l.getD k 0 := by
  rcases Nat.lt_or_ge k l.length with h | h
  · simp [List.getD, List.getElem?_map, List.getElem?_eq_getElem h]
  · rw [getD_out (by simpa using h), getD_out h]; simp

theorem Tr.scal {c : Int} (hc : c ≠ 0) {l : List Int} (h : Tr l) : Tr (l.map fun x => c * x) := by
  intro hne
  have hl : l ≠ [] := by intro e; subst e; exact hne rfl
  rw [scal_getD, List.length_map]
  exact Int.mul_ne_zero hc (h hl)

theorem lead_scal (c : Int) (l : List Int) : lead (l.map fun x => c * x) = c * lead l := by
  unfold lead
  rw [scal_getD, List.length_map]

theorem scont_scal {c : Int} (hc : c ≠ 0) {l : List Int} (hl : Tr l) (hne : l ≠ []) : scont (l.map fun x => c * x) = c * scont l := by
  have h1 : lead l ≠ 0 := hl hne
  unfold scont
  rw [lead_scal, cont_mul, Int.natCast_mul]
  rcases Int.lt_or_lt_of_ne hc with h2 | h2
  · have h3 : ((c.natAbs : Nat) : Int) = -c := by omega
    rcases Int.lt_or_lt_of_ne h1 with h4 | h4
    · have : 0 < c * lead l := Int.mul_pos_of_neg_of_neg h2 h4
      rw [if_neg (by omega), if_pos h4, h3]
      simp [Int.neg_mul, Int.mul_neg]
    · have : c * lead l < 0 := Int.mul_neg_of_neg_of_pos h2 h4
      rw [if_pos this, if_neg (by omega), h3]
      simp [Int.neg_mul]
  · have h3 : ((c.natAbs : Nat) : Int) = c := by omega
    rcases Int.lt_or_lt_of_ne h1 with h4 | h4
    · have : c * lead l < 0 := Int.mul_neg_of_pos_of_neg h2 h4
      rw [if_pos this, if_pos h4, h3]
      simp [Int.mul_neg]
    · have : 0 < c * lead l := Int.mul_pos h2 h4
      rw [if_neg (by omega), if_neg (by omega), h3]

theorem prim_scal {c : Int} (hc : c ≠ 0) {l : List Int} (hl : Tr l) : prim (l.map fun x => c * x) = prim l := by
  by_cases hne : l = []
  · subst hne; rfl
  · refine ext_getD (by simp [prim_len]) fun k => ?_
    have h0 := scont_ne hl hne
    have h1 := prim_mul l k
    have h2 := prim_mul (l.map fun x => c * x) k
    rw [scal_getD, scont_scal hc hl hne, h1, ← Int.mul_assoc] at h2
    exact (Int.eq_of_mul_eq_mul_left (Int.mul_ne_zero hc h0) h2).symm

theorem prim_of_mul {c : Int} (hc : c ≠ 0) {l m : List Int} (hl : Tr l) (hm : Tr m) (h : ∀ k, m.getD k 0 = c * l.getD k 0) : prim m = prim l := by
  have : m = l.map fun x => c * x := hm.ext (Tr.scal hc hl) fun k => by rw [h, scal_getD]
  rw [this, prim_scal hc hl]

theorem prim_prim {l : List Int} (h : Tr l) : prim (prim l) = prim l := by
  by_cases hne : l = []
  · subst hne; rfl
  · exact (prim_of_mul (scont_ne h hne) h.prim h fun k => prim_mul l k).symm

theorem Bd.prim {l : List Int} {e : Nat} (h : Bd l e) : Bd (prim l) e := by
  intro k
  rw [prim_getD]
  exact Nat.lt_of_le_of_lt (natAbs_tdiv_le _ _) (h k)

def elim (A B : List Int) : List Int :=
  tz (tab (max A.length (A.length - B.length + B.length)) fun k => A.getD k 0 * lead B - (if A.length - B.length ≤ k then lead A * B.getD (k - (A.length - B.length)) 0 else 0))

theorem elim_getD (A B : List Int) (k : Nat) : (elim A B).getD k 0 = A.getD k 0 * lead B - (if A.length - B.length ≤ k then lead A * B.getD (k - (A.length - B.length)) 0 else 0) := by
  unfold elim
  rw [tz_getD, tab_getD]
  split
  · rfl
  · rw [getD_out (show A.length ≤ k by omega), if_pos (show A.length - B.length ≤ k by omega), getD_out (show B.length ≤ k - (A.length - B.length) by omega)]
    simp

theorem elim_tr (A B : List Int) : Tr (elim A B) := tr_tz _

theorem elim_len {A B : List Int} (hB : 0 < B.length) (h : B.length ≤ A.length) : (elim A B).length < A.length := by
  have : (elim A B).length ≤ A.length - 1 := by
    refine (elim_tr A B).lenN fun k hk => ?_
    rw [elim_getD]
    rcases Nat.lt_or_ge k A.length with h1 | h1
    · have hk1 : k = A.length - 1 := by omega
      rw [if_pos (by omega)]
      have h2 : B.getD (k - (A.length - B.length)) 0 = lead B := by unfold lead; rw [show k - (A.length - B.length) = B.length - 1 by omega]
      have h3 : A.getD k 0 = lead A := by unfold lead; rw [hk1]
      rw [h2, h3]; omega
    · rw [getD_out h1, if_pos (by omega), getD_out (show B.length ≤ k - (A.length - B.length) by omega)]; simp
  omega

theorem lt_two_mul {e f : Nat} {x y c d : Int} (hx : x.natAbs < 10 ^ e) (hy : y.natAbs < 10 ^ f) (hc : c.natAbs < 10 ^ e) (hd : d.natAbs < 10 ^ f) : (x * d - c * y).natAbs < 10 ^ (e + f + 1) := by
  have h1 : (x * d - c * y).natAbs ≤ (x * d).natAbs + (c * y).natAbs := by omega
  rw [Int.natAbs_mul, Int.natAbs_mul] at h1
  have h2 : c.natAbs * y.natAbs ≤ 10 ^ e * 10 ^ f := Nat.mul_le_mul (Nat.le_of_lt hc) (Nat.le_of_lt hy)
  have h3 : x.natAbs * d.natAbs ≤ 10 ^ e * 10 ^ f := Nat.mul_le_mul (Nat.le_of_lt hx) (Nat.le_of_lt hd)
  rw [Nat.pow_succ, Nat.pow_add]
  have h4 : 0 < 10 ^ e * 10 ^ f := Nat.mul_pos (Nat.pow_pos (by omega)) (Nat.pow_pos (by omega))
  omega

theorem Bd.lead {l : List Int} {e : Nat} (h : Bd l e) : (lead l).natAbs < 10 ^ e := h _

theorem Bd.elim {A B : List Int} {e f : Nat} (hA : Bd A e) (hB : Bd B f) : Bd (elim A B) (e + f + 1) := by
  intro k
  rw [elim_getD]
  split
  · exact lt_two_mul (hA k) (hB _) hA.lead hB.lead
  · have := lt_two_mul (y := 0) (hA k) (by have := hB 0; omega) hA.lead hB.lead
    rwa [Int.mul_zero] at this

def gfun : Nat → List Int → List Int → List Int
  | 0, A, B => if A = [] then B else A
  | n + 1, A, B =>
    if A = [] then B else if B = [] then A
    else if A.length < B.length then gfun n (prim (elim B A)) A else gfun n (prim (elim A B)) B

theorem gfun_left (n : Nat) (B : List Int) : gfun n [] B = B := by
  cases n <;> simp [gfun]
theorem gfun_right (n : Nat) (A : List Int) : gfun n A [] = A := by
  cases n with
  | zero => by_cases h : A = [] <;> simp [gfun, h]
  | succ n => by_cases h : A = [] <;> simp [gfun, h]
theorem gfun_ge (n : Nat) {A B : List Int} (hB : B ≠ []) (h : B.length ≤ A.length) : gfun (n + 1) A B = gfun n (prim (elim A B)) B := by
  have hA : A ≠ [] := by intro e; subst e; exact hB (List.length_eq_zero_iff.1 (by simpa using h))
  conv => lhs; unfold gfun
  rw [if_neg hA, if_neg hB, if_neg (by omega)]
theorem gfun_lt (n : Nat) {A B : List Int} (hA : A ≠ []) (h : A.length < B.length) : gfun (n + 1) A B = gfun n (prim (elim B A)) A := by
  have hB : B ≠ [] := by intro e; subst e; simp at h
  conv => lhs; unfold gfun
  rw [if_neg hA, if_neg hB, if_pos h]
theorem gfun_swap (n : Nat) {A B : List Int} (h : A.length ≠ B.length) (hn : 0 < n) : gfun n A B = gfun n B A := by
  obtain ⟨m, rfl⟩ : ∃ m, n = m + 1 := ⟨n - 1, by omega⟩
  by_cases hA : A = []
  · subst hA; rw [gfun_left, gfun_right]
  · by_cases hB : B = []
    · subst hB; rw [gfun_left, gfun_right]
    · rcases Nat.lt_or_gt_of_ne h with h1 | h1
      · rw [gfun_lt m hA h1, gfun_ge m hA (by omega)]
      · rw [gfun_lt m hB h1, gfun_ge m hB (by omega)]

theorem gfun_more : ∀ (n : Nat) {A B : List Int}, A.length + B.length ≤ n → gfun (n + 1) A B = gfun n A B
  | 0, A, B, h => by
    obtain rfl : A = [] := List.length_eq_zero_iff.1 (by omega)
    rw [gfun_left, gfun_left]
  | n + 1, A, B, h => by
    by_cases hA : A = []
    · subst hA; rw [gfun_left, gfun_left]
    · by_cases hB : B = []
      · subst hB; rw [gfun_right, gfun_right]
      · have hA1 := List.length_pos_iff.2 hA
        have hB1 := List.length_pos_iff.2 hB
        rcases Nat.lt_or_ge A.length B.length with h1 | h1
        · rw [gfun_lt _ hA h1, gfun_lt _ hA h1]
          have := elim_len hA1 (Nat.le_of_lt h1)
          exact gfun_more n (by rw [prim_len]; omega)
        · rw [gfun_ge _ hB h1, gfun_ge _ hB h1]
          have := elim_len hB1 h1
          exact gfun_more n (by rw [prim_len]; omega)

def pgcd (a b : List Int) : List Int := gfun (a.length + b.length) (prim a) (prim b)

end Go.Proofs.YtldcjkhbiffdoabGreatDoor

namespace Go.Proofs.YtldcjkhbiffdoabGreatDoor

def ladd : List Int → List Int → List Int
  | [], m => m
  | a :: l, [] => a :: l
  | a :: l, b :: m => (a + b) :: ladd l m

theorem ev_ladd (t : Int) : ∀ l m, ev t (ladd l m) = ev t l + ev t m
  | [], m => by simp [ladd, ev]
  | a :: l, [] => by simp [ladd, ev]
  | a :: l, b :: m => by
    simp only [ladd, ev, ev_ladd t l m, Int.mul_add]; omega

theorem ladd_len : ∀ (l m : List Int) (n : Nat), l.length ≤ n → m.length ≤ n → (ladd l m).length ≤ n
  | [], m, n, _, h => by simpa [ladd] using h
  | a :: l, [], n, h, _ => by simpa [ladd] using h
  | a :: l, b :: m, n, h1, h2 => by
    cases n with
    | zero => simp at h1
    | succ n =>
      simp only [ladd, List.length_cons] at *
      have := ladd_len l m n (by omega) (by omega)
      omega

theorem ev_scal (t c : Int) : ∀ l : List Int, ev t (l.map fun x => c * x) = c * ev t l
  | [] => by simp [ev]
  | a :: l => by
    simp only [List.map_cons, ev, ev_scal t c l, Int.mul_add]
    rw [Int.mul_left_comm]

theorem ev_rep (t : Int) (n : Nat) (l : List Int) : ev t (List.replicate n 0 ++ l) = t ^ n * ev t l := by
  rw [ev_append, ev_zeros, List.length_replicate]; omega

def Pl (n : Nat) (f : Int → Int) : Prop := ∃ l : List Int, l.length ≤ n ∧ ∀ t, f t = ev t l
def Po (f : Int → Int) : Prop := ∃ n, Pl n f

theorem Pl.po {n : Nat} {f : Int → Int} (h : Pl n f) : Po f := ⟨n, h⟩
theorem Pl.mono {n m : Nat} {f : Int → Int} (h : Pl n f) (hm : n ≤ m) : Pl m f := by
  obtain ⟨l, h1, h2⟩ := h
  exact ⟨l, by omega, h2⟩
theorem Pl.congr {n : Nat} {f g : Int → Int} (h : Pl n f) (e : ∀ t, g t = f t) : Pl n g := by
  obtain ⟨l, h1, h2⟩ := h
  exact ⟨l, h1, fun t => by rw [e, h2]⟩
theorem Po.congr {f g : Int → Int} (h : Po f) (e : ∀ t, g t = f t) : Po g := by
  obtain ⟨n, h⟩ := h
  exact ⟨n, h.congr e⟩
theorem Pl.ev (l : List Int) : Pl l.length (fun t => ev t l) := ⟨l, Nat.le_refl _, fun _ => rfl⟩
theorem Pl.zero (n : Nat) : Pl n (fun _ => 0) := ⟨[], by simp, fun t => rfl⟩
theorem Pl.const (c : Int) : Pl 1 (fun _ => c) := ⟨[c], by simp, fun t => by simp [Go.Proofs.YtldcjkhbiffdoabGreatDoor.ev]⟩
theorem Pl.add {n : Nat} {f g : Int → Int} (hf : Pl n f) (hg : Pl n g) : Pl n (fun t => f t + g t) := by
  obtain ⟨l, h1, h2⟩ := hf
  obtain ⟨m, h3, h4⟩ := hg
  exact ⟨ladd l m, ladd_len l m n h1 h3, fun t => by simp only [ev_ladd, h2, h4]⟩
theorem Pl.scal {n : Nat} {f : Int → Int} (c : Int) (hf : Pl n f) : Pl n (fun t => c * f t) := by
  obtain ⟨l, h1, h2⟩ := hf
  exact ⟨l.map fun x => c * x, by simpa using h1, fun t => by simp only [ev_scal, h2]⟩
theorem Pl.neg {n : Nat} {f : Int → Int} (hf : Pl n f) : Pl n (fun t => - f t) :=
  (hf.scal (-1)).congr fun t => by omega
theorem Pl.sub {n : Nat} {f g : Int → Int} (hf : Pl n f) (hg : Pl n g) : Pl n (fun t => f t - g t) :=
  (hf.add hg.neg).congr fun t => by omega
theorem Pl.shift {n : Nat} {f : Int → Int} (k : Nat) (hf : Pl n f) : Pl (k + n) (fun t => t ^ k * f t) := by
  obtain ⟨l, h1, h2⟩ := hf
  exact ⟨List.replicate k 0 ++ l, by simp; omega, fun t => by simp only [ev_rep, h2]⟩
theorem Pl.xpow (k : Nat) : Pl (k + 1) (fun t => t ^ k) := ((Pl.const 1).shift k).congr fun t => by simp
theorem Pl.mul {n m : Nat} {f g : Int → Int} (hf : Pl n f) (hg : Pl (m + 1) g) : Pl (n + m) (fun t => f t * g t) := by
  obtain ⟨l, h1, h2⟩ := hf
  have : ∀ (l : List Int) (n : Nat), l.length ≤ n → Pl (n + m) (fun t => Go.Proofs.YtldcjkhbiffdoabGreatDoor.ev t l * g t) := by
    intro l
    induction l with
    | nil => intro n _; exact (Pl.zero _).congr fun t => by simp [Go.Proofs.YtldcjkhbiffdoabGreatDoor.ev]
    | cons a l ih =>
      intro n hn
      cases n with
      | zero => simp at hn
      | succ n =>
        have h3 := (ih n (by simpa using hn)).shift 1
        have h4 := hg.scal a
        refine ((h4.mono (show m + 1 ≤ n + 1 + m by omega)).add (h3.mono (show 1 + (n + m) ≤ n + 1 + m by omega))).congr fun t => ?_
        simp only [Go.Proofs.YtldcjkhbiffdoabGreatDoor.ev, Int.add_mul, Int.pow_one, Int.mul_assoc]
  exact (this l n h1).congr fun t => by rw [h2]
theorem Pl.mul2 {n m : Nat} {f g : Int → Int} (hf : Pl n f) (hg : Pl m g) : Pl (n + m) (fun t => f t * g t) :=
  (hf.mul (m := m) (hg.mono (by omega)))

theorem Po.zero : Po (fun _ => 0) := ⟨0, Pl.zero 0⟩
theorem Po.const (c : Int) : Po (fun _ => c) := ⟨1, Pl.const c⟩
theorem Po.ev (l : List Int) : Po (fun t => Go.Proofs.YtldcjkhbiffdoabGreatDoor.ev t l) := ⟨_, Pl.ev l⟩
theorem Po.add {f g : Int → Int} (hf : Po f) (hg : Po g) : Po (fun t => f t + g t) := by
  obtain ⟨n, hf⟩ := hf
  obtain ⟨m, hg⟩ := hg
  exact ⟨n + m, (hf.mono (by omega)).add (hg.mono (by omega))⟩
theorem Po.mul {f g : Int → Int} (hf : Po f) (hg : Po g) : Po (fun t => f t * g t) := by
  obtain ⟨n, hf⟩ := hf
  obtain ⟨m, hg⟩ := hg
  exact ⟨n + m, hf.mul2 hg⟩
theorem Po.scal {f : Int → Int} (c : Int) (hf : Po f) : Po (fun t => c * f t) := (Po.const c).mul hf
theorem Po.neg {f : Int → Int} (hf : Po f) : Po (fun t => - f t) := (hf.scal (-1)).congr fun t => by omega
theorem Po.sub {f g : Int → Int} (hf : Po f) (hg : Po g) : Po (fun t => f t - g t) := (hf.add hg.neg).congr fun t => by omega
theorem Po.xpow (k : Nat) : Po (fun t => t ^ k) := ⟨_, Pl.xpow k⟩
theorem Po.pow {f : Int → Int} (hf : Po f) : ∀ k, Po (fun t => f t ^ k)
  | 0 => (Po.const 1).congr fun t => by simp
  | k + 1 => ((hf.pow k).mul hf).congr fun t => by rw [Int.pow_succ]

theorem ev_ext0 : ∀ (l : List Int) (N : Int), (∀ t, N ≤ t → ev t l = 0) → ∀ k, l.getD k 0 = 0
  | [], _, _ => fun k => by simp
  | a :: l, N, h => by
    have ha : a = 0 := by
      obtain ⟨t, h1, h2, h3⟩ : ∃ t : Int, N ≤ t ∧ 0 < t ∧ (a.natAbs : Int) < t := ⟨max N 0 + a.natAbs + 1, by omega, by omega, by omega⟩
      have h4 := h t h1
      simp only [ev] at h4
      have h5 : t ∣ a := ⟨- ev t l, by rw [Int.mul_neg]; omega⟩
      refine Int.eq_zero_of_dvd_of_natAbs_lt_natAbs h5 ?_
      omega
    subst ha
    have ih := ev_ext0 l (max N 1) (fun t ht => by
      have h4 := h t (by omega)
      simp only [ev, Int.zero_add] at h4
      rcases Int.mul_eq_zero.1 h4 with h5 | h5
      · omega
      · exact h5)
    intro k
    cases k with
    | zero => rfl
    | succ k => simpa using ih k

theorem ladd_getD : ∀ (l m : List Int) (k : Nat), (ladd l m).getD k 0 = l.getD k 0 + m.getD k 0
  | [], m, k => by simp [ladd]
  | a :: l, [], k => by simp [ladd]
  | a :: l, b :: m, 0 => by simp [ladd]
  | a :: l, b :: m, k + 1 => by simpa [ladd] using ladd_getD l m k

theorem ev_ext {l m : List Int} (N : Int) (h : ∀ t, N ≤ t → ev t l = ev t m) (k : Nat) : l.getD k 0 = m.getD k 0 := by
  have := ev_ext0 (ladd l (m.map fun x => -1 * x)) N (fun t ht => by rw [ev_ladd, ev_scal, h t ht]; omega) k
  rw [ladd_getD, scal_getD] at this
  omega

theorem ev_of_getD {l m : List Int} (h : ∀ k, l.getD k 0 = m.getD k 0) (t : Int) : ev t l = ev t m := by
  have aux : ∀ (l : List Int), (∀ k, l.getD k 0 = 0) → ev t l = 0 := by
    intro l
    induction l with
    | nil => intro _; rfl
    | cons a l ih =>
      intro h
      have h0 := h 0
      have h1 := ih fun k => by simpa using h (k + 1)
      simp at h0
      simp [ev, h0, h1]
  have := aux (ladd l (m.map fun x => -1 * x)) (fun k => by rw [ladd_getD, scal_getD, h]; omega)
  rw [ev_ladd, ev_scal] at this
  omega

theorem ev_tz (t : Int) (l : List Int) : ev t (tz l) = ev t l := ev_of_getD (fun k => tz_getD l k) t

def Ld (n : Nat) (c : Int) (f : Int → Int) : Prop := ∃ g, Pl n g ∧ ∀ t, f t = c * t ^ n + g t

theorem Ld.pl {n : Nat} {c : Int} {f : Int → Int} (h : Ld n c f) : Pl (n + 1) f := by
  obtain ⟨g, h1, h2⟩ := h
  exact (((Pl.xpow n).scal c).add (h1.mono (by omega))).congr h2
theorem Ld.po {n : Nat} {c : Int} {f : Int → Int} (h : Ld n c f) : Po f := h.pl.po
theorem Ld.congr {n : Nat} {c : Int} {f g : Int → Int} (h : Ld n c f) (e : ∀ t, g t = f t) : Ld n c g := by
  obtain ⟨r, h1, h2⟩ := h
  exact ⟨r, h1, fun t => by rw [e, h2]⟩

theorem Ld.of_list {l : List Int} {n : Nat} (h : l.length ≤ n + 1) : Ld n (l.getD n 0) (fun t => ev t l) := by
  refine ⟨fun t => ev t (l.take n), ⟨l.take n, by rw [List.length_take]; omega, fun _ => rfl⟩, fun t => ?_⟩
  have h1 := ev_take t l n
  rw [List.take_of_length_le h] at h1
  show ev t l = l.getD n 0 * t ^ n + ev t (l.take n)
  omega

theorem Pl.ld {n : Nat} {f : Int → Int} (h : Pl (n + 1) f) : ∃ c, Ld n c f := by
  obtain ⟨l, h1, h2⟩ := h
  exact ⟨_, (Ld.of_list h1).congr h2⟩

theorem Ld.list {n : Nat} {c : Int} {f : Int → Int} (h : Ld n c f) : ∃ l : List Int, l.length = n + 1 ∧ l.getD n 0 = c ∧ ∀ t, f t = ev t l := by
  obtain ⟨g, ⟨l, h1, h2⟩, h3⟩ := h
  refine ⟨l ++ List.replicate (n - l.length) 0 ++ [c], by simp; omega, ?_, fun t => ?_⟩
  · have hl : (l ++ List.replicate (n - l.length) (0 : Int)).length = n := by simp; omega
    rw [List.getD, List.getElem?_append_right (show (l ++ List.replicate (n - l.length) (0 : Int)).length ≤ n by omega), hl]
    simp
  · rw [h3, h2, ev_append, ev_append, ev_zeros]
    have hl : (l ++ List.replicate (n - l.length) (0 : Int)).length = n := by simp; omega
    rw [hl]
    simp only [ev, Int.mul_zero, Int.add_zero]
    rw [Int.mul_comm c]; omega

theorem Ld.uniq {n : Nat} {c d : Int} {f g : Int → Int} (h : Ld n c f) (h' : Ld n d g) (e : ∀ t, f t = g t) : c = d := by
  obtain ⟨l, _, h1, h2⟩ := h.list
  obtain ⟨m, _, h3, h4⟩ := h'.list
  rw [← h1, ← h3]
  exact ev_ext 0 (fun t _ => by rw [← h2, ← h4, e]) n

theorem Ld.of_pl {n : Nat} {f : Int → Int} (h : Pl n f) : Ld n 0 f := ⟨f, h, fun t => by omega⟩
theorem Ld.to_pl {n : Nat} {f : Int → Int} (h : Ld n 0 f) : Pl n f := by
  obtain ⟨g, h1, h2⟩ := h
  exact h1.congr fun t => by rw [h2]; omega
theorem Ld.add {n : Nat} {c d : Int} {f g : Int → Int} (hf : Ld n c f) (hg : Ld n d g) : Ld n (c + d) (fun t => f t + g t) := by
  obtain ⟨a, h1, h2⟩ := hf
  obtain ⟨b, h3, h4⟩ := hg
  exact ⟨_, h1.add h3, fun t => by simp only [h2, h4, Int.add_mul]; omega⟩
theorem Ld.scal {n : Nat} {d : Int} {f : Int → Int} (c : Int) (hf : Ld n d f) : Ld n (c * d) (fun t => c * f t) := by
  obtain ⟨a, h1, h2⟩ := hf
  exact ⟨_, h1.scal c, fun t => by simp only [h2, Int.mul_add, Int.mul_assoc]⟩
theorem Ld.sub {n : Nat} {c d : Int} {f g : Int → Int} (hf : Ld n c f) (hg : Ld n d g) : Ld n (c - d) (fun t => f t - g t) := by
  obtain ⟨a, h1, h2⟩ := hf
  obtain ⟨b, h3, h4⟩ := hg
  exact ⟨_, h1.sub h3, fun t => by simp only [h2, h4, Int.sub_mul]; omega⟩
theorem Ld.mul {n m : Nat} {c d : Int} {f g : Int → Int} (hf : Ld n c f) (hg : Ld m d g) : Ld (n + m) (c * d) (fun t => f t * g t) := by
  have hg' := hg.pl
  obtain ⟨a, h1, h2⟩ := hf
  obtain ⟨b, h3, h4⟩ := hg
  refine ⟨fun t => c * (t ^ n * b t) + a t * g t, ?_, fun t => ?_⟩
  · exact ((h3.shift n).scal c).add (h1.mul hg')
  · show f t * g t = c * d * t ^ (n + m) + (c * (t ^ n * b t) + a t * g t)
    have : c * t ^ n * (d * t ^ m) = c * d * (t ^ n * t ^ m) := by rw [Int.mul_assoc, Int.mul_left_comm (t ^ n), ← Int.mul_assoc]
    have h5 : c * t ^ n * g t = c * d * (t ^ n * t ^ m) + c * (t ^ n * b t) := by rw [h4, Int.mul_add, this, Int.mul_assoc c (t ^ n) (b t)]
    rw [h2, Int.add_mul, h5, Int.pow_add]
    omega
theorem Ld.const (c : Int) : Ld 0 c (fun _ => c) := ⟨fun _ => 0, Pl.zero 0, fun t => by simp⟩
theorem Ld.one_pow {n : Nat} : Ld n 1 (fun t => t ^ n) := ⟨fun _ => 0, Pl.zero n, fun t => by simp⟩

theorem Pl.zero0 {f : Int → Int} (h : Pl 0 f) (t : Int) : f t = 0 := by
  obtain ⟨l, h3, h4⟩ := h
  obtain rfl : l = [] := List.length_eq_zero_iff.1 (by omega)
  rw [h4]; rfl

theorem Pl.of_scal {n : Nat} {c : Int} {f : Int → Int} (hc : c ≠ 0) (hf : Po f) (h : Pl n (fun t => c * f t)) : Pl n f := by
  obtain ⟨N, l, _, h2⟩ := hf
  obtain ⟨m, h3, h4⟩ := h
  refine ⟨l.take n, by rw [List.length_take]; omega, fun t => ?_⟩
  rw [h2]
  refine ev_of_getD (fun k => ?_) t
  rcases Nat.lt_or_ge k n with hk | hk
  · simp [List.getD, List.getElem?_take_of_lt hk]
  · rw [getD_out (show (l.take n).length ≤ k by rw [List.length_take]; omega)]
    have h5 := ev_ext (l := l.map fun x => c * x) (m := m) 0 (fun t _ => by rw [ev_scal, ← h2, ← h4]) k
    rw [scal_getD, getD_out (show m.length ≤ k by omega)] at h5
    exact (Int.mul_eq_zero.1 h5).resolve_left hc

theorem Po.ext {f g : Int → Int} (hf : Po f) (hg : Po g) (N : Int) (h : ∀ t, N ≤ t → f t = g t) (t : Int) : f t = g t := by
  obtain ⟨n, l, _, h1⟩ := hf
  obtain ⟨m, k, _, h2⟩ := hg
  rw [h1, h2]
  exact ev_of_getD (ev_ext N fun t ht => by rw [← h1, ← h2, h t ht]) t

end Go.Proofs.YtldcjkhbiffdoabGreatDoor

set_option linter.unusedSimpArgs false
namespace Go.Proofs.YtldcjkhbiffdoabGreatDoor

def Dom (m : Int) : Prop := (∀ a b : Int, m ∣ a * b → m ∣ a ∨ m ∣ b) ∧ ¬ m ∣ 1

theorem Dom.mul {m a b : Int} (h : Dom m) (ha : ¬ m ∣ a) (hb : ¬ m ∣ b) : ¬ m ∣ a * b := fun h' => (h.1 a b h').elim ha hb
theorem Dom.pow {m a : Int} (h : Dom m) (ha : ¬ m ∣ a) : ∀ n : Nat, ¬ m ∣ a ^ n
  | 0 => by simpa using h.2
  | n + 1 => by rw [Int.pow_succ]; exact h.mul (h.pow ha n) ha
theorem Dom.zero : Dom 0 := ⟨fun a b h => by
  have := Int.zero_dvd.1 h
  rcases Int.mul_eq_zero.1 this with h | h
  · left; rw [h]; exact Int.dvd_refl _
  · right; rw [h]; exact Int.dvd_refl _, fun h => by have := Int.zero_dvd.1 h; omega⟩

def Zm (m : Int) (f : Int → Int) : Prop := ∃ g, Po g ∧ ∀ t, f t = m * g t

theorem Zm.po {m : Int} {f : Int → Int} (h : Zm m f) : Po f := by
  obtain ⟨g, h1, h2⟩ := h
  exact (h1.scal m).congr h2
theorem Zm.congr {m : Int} {f g : Int → Int} (h : Zm m f) (e : ∀ t, g t = f t) : Zm m g := by
  obtain ⟨a, h1, h2⟩ := h
  exact ⟨a, h1, fun t => by rw [e, h2]⟩
theorem Zm.of_zero (m : Int) {f : Int → Int} (h : ∀ t, f t = 0) : Zm m f := ⟨fun _ => 0, Po.zero, fun t => by rw [h]; simp⟩
theorem Zm.add {m : Int} {f g : Int → Int} (hf : Zm m f) (hg : Zm m g) : Zm m (fun t => f t + g t) := by
  obtain ⟨a, h1, h2⟩ := hf
  obtain ⟨b, h3, h4⟩ := hg
  exact ⟨_, h1.add h3, fun t => by simp only [h2, h4, Int.mul_add]⟩
theorem Zm.mul {m : Int} {f g : Int → Int} (hg : Po g) (hf : Zm m f) : Zm m (fun t => g t * f t) := by
  obtain ⟨a, h1, h2⟩ := hf
  exact ⟨_, hg.mul h1, fun t => by simp only [h2]; rw [Int.mul_left_comm]⟩
theorem Zm.scal {m : Int} {f : Int → Int} (c : Int) (hf : Zm m f) : Zm m (fun t => c * f t) := hf.mul (Po.const c)
theorem Zm.neg {m : Int} {f : Int → Int} (hf : Zm m f) : Zm m (fun t => - f t) := (hf.scal (-1)).congr fun t => by omega
theorem Zm.sub {m : Int} {f g : Int → Int} (hf : Zm m f) (hg : Zm m g) : Zm m (fun t => f t - g t) := (hf.add hg.neg).congr fun t => by omega
theorem Zm.of_dvd {m c : Int} {f : Int → Int} (hf : Po f) (h : m ∣ c) : Zm m (fun t => c * f t) := by
  obtain ⟨d, rfl⟩ := h
  exact ⟨_, hf.scal d, fun t => by simp only [Int.mul_assoc]⟩
theorem Zm.of_pow {p : Int} {k : Nat} {f : Int → Int} (hk : 0 < k) (h : Zm (p ^ k) f) : Zm p f := by
  obtain ⟨g, h1, h2⟩ := h
  obtain ⟨j, rfl⟩ : ∃ j, k = j + 1 := ⟨k - 1, by omega⟩
  exact ⟨_, h1.scal (p ^ j), fun t => by rw [h2, Int.pow_succ, Int.mul_comm (p ^ j), Int.mul_assoc]⟩

theorem Zm.lead {m : Int} {f : Int → Int} {n : Nat} {c : Int} (hz : Zm m f) (hl : Ld n c f) : m ∣ c := by
  obtain ⟨g, h1, h2⟩ := hz
  by_cases hm : m = 0
  · subst hm
    have h3 : Ld n 0 f := ⟨fun _ => 0, Pl.zero n, fun t => by rw [h2]; simp⟩
    rw [hl.uniq h3 fun _ => rfl]
    exact Int.dvd_refl _
  · have h3 : Pl (n + 1) g := Pl.of_scal hm h1 (hl.pl.congr fun t => (h2 t).symm)
    obtain ⟨e, h4⟩ := h3.ld
    rw [hl.uniq (h4.scal m) h2]
    exact ⟨e, rfl⟩

theorem Zm.const {m c : Int} (h : Zm m (fun _ => c)) : m ∣ c := h.lead (Ld.const c)

theorem Zm.gauss {m : Int} (hm : Dom m) : ∀ (N n k : Nat) (f g : Int → Int), n + k ≤ N → Pl n f → Pl k g → Zm m (fun t => f t * g t) → Zm m f ∨ Zm m g := by
  intro N
  induction N with
  | zero =>
    intro n k f g hN hf hg _
    left
    exact Zm.of_zero m fun t => Pl.zero0 (hf.mono (by omega)) t
  | succ N ih =>
    intro n k f g hN hf hg hz
    cases n with
    | zero => left; exact Zm.of_zero m fun t => Pl.zero0 hf t
    | succ n =>
      cases k with
      | zero => right; exact Zm.of_zero m fun t => Pl.zero0 hg t
      | succ k =>
        obtain ⟨c, hc⟩ := hf.ld
        obtain ⟨d, hd⟩ := hg.ld
        have h1 := hz.lead (hc.mul hd)
        rcases hm.1 c d h1 with h2 | h2
        · obtain ⟨f', h3, h4⟩ := hc
          have h5 : Zm m (fun t => c * t ^ n) := Zm.of_dvd (Po.xpow n) h2
          have h6 : Zm m (fun t => f' t * g t) := (hz.sub (h5.mul hg.po)).congr fun t => by
            show f' t * g t = f t * g t - g t * (c * t ^ n)
            rw [h4, Int.add_mul, Int.mul_comm (g t)]; omega
          rcases ih n (k + 1) f' g (by omega) h3 hg h6 with h7 | h7
          · left; exact (h5.add h7).congr h4
          · right; exact h7
        · obtain ⟨g', h3, h4⟩ := hd
          have h5 : Zm m (fun t => d * t ^ k) := Zm.of_dvd (Po.xpow k) h2
          have h6 : Zm m (fun t => f t * g' t) := (hz.sub (h5.mul hf.po)).congr fun t => by
            show f t * g' t = f t * g t - f t * (d * t ^ k)
            rw [h4, Int.mul_add]; omega
          rcases ih (n + 1) k f g' (by omega) hf h3 h6 with h7 | h7
          · left; exact h7
          · right; exact (h5.add h7).congr h4

theorem Zm.or {m : Int} (hm : Dom m) {f g : Int → Int} (hf : Po f) (hg : Po g) (h : Zm m (fun t => f t * g t)) : Zm m f ∨ Zm m g := by
  obtain ⟨n, hf⟩ := hf
  obtain ⟨k, hg⟩ := hg
  exact Zm.gauss hm (n + k) n k f g (Nat.le_refl _) hf hg h
theorem Zm.of_scal {m : Int} (hm : Dom m) {c : Int} (hc : ¬ m ∣ c) {f : Int → Int} (hf : Po f) (h : Zm m (fun t => c * f t)) : Zm m f :=
  (Zm.or hm (Po.const c) hf h).resolve_left fun h' => hc h'.const

def Dm (m : Int) (k : Nat) (f : Int → Int) : Prop := ∃ d f0, ¬ m ∣ d ∧ Ld k d f0 ∧ Zm m (fun t => f t - f0 t)

theorem Dm.po {m : Int} {k : Nat} {f : Int → Int} (h : Dm m k f) : Po f := by
  obtain ⟨d, f0, _, h2, h3⟩ := h
  exact (h2.po.add h3.po).congr fun t => by omega
theorem Dm.not {m : Int} {k : Nat} {f : Int → Int} (h : Dm m k f) : ¬ Zm m f := by
  obtain ⟨d, f0, h1, h2, h3⟩ := h
  intro h4
  exact h1 (((h4.sub h3).congr (g := f0) fun t => by omega).lead h2)
theorem Dm.of_ld {m : Int} {k : Nat} {d : Int} {f : Int → Int} (h : Ld k d f) (hd : ¬ m ∣ d) : Dm m k f :=
  ⟨d, f, hd, h, Zm.of_zero m fun t => by omega⟩
theorem Dm.alike {m : Int} {k : Nat} {f g : Int → Int} (h : Dm m k f) (hz : Zm m (fun t => g t - f t)) : Dm m k g := by
  obtain ⟨d, f0, h1, h2, h3⟩ := h
  exact ⟨d, f0, h1, h2, (hz.add h3).congr fun t => by omega⟩
theorem Dm.mul {m : Int} (hm : Dom m) {k l : Nat} {f g : Int → Int} (hf : Dm m k f) (hg : Dm m l g) : Dm m (k + l) (fun t => f t * g t) := by
  have hg0 := hg.po
  obtain ⟨d, f0, h1, h2, h3⟩ := hf
  obtain ⟨e, g0, h4, h5, h6⟩ := hg
  refine ⟨_, _, hm.mul h1 h4, h2.mul h5, ((h3.mul hg0).add (h6.mul h2.po)).congr fun t => ?_⟩
  show f t * g t - f0 t * g0 t = g t * (f t - f0 t) + f0 t * (g t - g0 t)
  simp only [rA, rB, rC, rD, rE, rF, rG, rH, rI, rJ, rK]; omega
theorem Dm.scal {m : Int} (hm : Dom m) {k : Nat} {c : Int} (hc : ¬ m ∣ c) {f : Int → Int} (hf : Dm m k f) : Dm m k (fun t => c * f t) := by
  have := (Dm.of_ld (Ld.const c) hc).mul hm hf
  rwa [Nat.zero_add] at this

theorem Zm.or_dm {m : Int} : ∀ {n : Nat} {f : Int → Int}, Pl n f → Zm m f ∨ ∃ k, k < n ∧ Dm m k f
  | 0, f, h => Or.inl (Zm.of_zero m fun t => h.zero0 t)
  | n + 1, f, h => by
    obtain ⟨c, hc⟩ := h.ld
    by_cases hd : m ∣ c
    · obtain ⟨g, h1, h2⟩ := hc
      have h5 : Zm m (fun t => c * t ^ n) := Zm.of_dvd (Po.xpow n) hd
      rcases Zm.or_dm (m := m) h1 with h3 | ⟨k, h3, h4⟩
      · left; exact (h5.add h3).congr h2
      · right
        exact ⟨k, by omega, h4.alike (h5.congr fun t => by rw [h2]; omega)⟩
    · exact Or.inr ⟨n, by omega, Dm.of_ld hc hd⟩

theorem Dm.le {m : Int} {k n : Nat} {f g : Int → Int} (h : Dm m k f) (hg : Pl n g) (hz : Zm m (fun t => f t - g t)) : k < n := by
  obtain ⟨d, f0, h1, h2, h3⟩ := h
  rcases Nat.lt_or_ge k n with h4 | h4
  · exact h4
  · exfalso
    have h5 := (hz.sub h3).congr (g := fun t => f0 t - g t) fun t => by omega
    have h6 := h5.lead (h2.sub (Ld.of_pl (hg.mono h4)))
    rw [Int.sub_zero] at h6
    exact h1 h6
theorem Dm.uniq {m : Int} {k l : Nat} {f : Int → Int} (h : Dm m k f) (h' : Dm m l f) : k = l := by
  have aux : ∀ {k l : Nat}, Dm m k f → Dm m l f → k ≤ l := by
    intro k l h h'
    obtain ⟨d, f0, h1, h2, h3⟩ := h'
    have := h.le h2.pl h3
    omega
  have := aux h h'
  have := aux h' h
  omega

theorem pdiv {k : Nat} {d : Int} {b : Int → Int} (hb : Ld k d b) : ∀ {n : Nat} {a : Int → Int}, Pl n a → ∃ (j : Nat) (q r : Int → Int), Po q ∧ Pl k r ∧ ∀ t, d ^ j * a t = q t * b t + r t
  | 0, a, ha => ⟨0, fun _ => 0, fun _ => 0, Po.zero, Pl.zero k, fun t => by rw [ha.zero0]; simp⟩
  | n + 1, a, ha => by
    rcases Nat.lt_or_ge n k with hk | hk
    · exact ⟨0, fun _ => 0, a, Po.zero, ha.mono (by omega), fun t => by simp⟩
    · obtain ⟨c, hc⟩ := ha.ld
      have h1 : Ld n (d * c - c * d) (fun t => d * a t - t ^ (n - k) * (c * b t)) := by
        refine (hc.scal d).sub ?_
        have := (Ld.one_pow (n := n - k)).mul (hb.scal c)
        rw [show n - k + k = n by omega, Int.one_mul] at this
        exact this
      rw [show d * c - c * d = 0 by rw [Int.mul_comm]; omega] at h1
      obtain ⟨j, q, r, h2, h3, h4⟩ := pdiv hb h1.to_pl
      refine ⟨j + 1, fun t => q t + d ^ j * (c * t ^ (n - k)), r, h2.add (((Po.xpow _).scal c).scal _), h3, fun t => ?_⟩
      have h5 := h4 t
      rw [Int.pow_succ]
      show d ^ j * d * a t = (q t + d ^ j * (c * t ^ (n - k))) * b t + r t
      revert h5
      simp only [rA, rB, rC, rD, rE, rF, rG, rH, rI, rJ, rK]
      omega

theorem bezout {m : Int} (hm : Dom m) : ∀ (n : Nat) {a b : Int → Int}, Po a → Pl n b → ¬ (Zm m a ∧ Zm m b) →
    ∃ (u v d : Int → Int) (c : Int) (a' b' : Int → Int), Po u ∧ Po v ∧ Po d ∧ Po a' ∧ Po b' ∧ ¬ Zm m d ∧ ¬ m ∣ c ∧
      Zm m (fun t => u t * a t + v t * b t - d t) ∧ Zm m (fun t => c * a t - d t * a' t) ∧ Zm m (fun t => c * b t - d t * b' t) := by
  intro n
  induction n using Nat.strongRecOn with
  | ind n ih =>
    intro a b ha hb hn
    rcases Zm.or_dm (m := m) hb with hz | ⟨k, hk, δ, b0, h1, h2, h3⟩
    · refine ⟨fun _ => 1, fun _ => 0, a, 1, fun _ => 1, fun _ => 0, Po.const 1, Po.zero, ha, Po.const 1, Po.zero, fun h => hn ⟨h, hz⟩, hm.2, Zm.of_zero m fun t => ?_, Zm.of_zero m fun t => ?_, hz.congr fun t => ?_⟩
      · simp
      · simp
      · simp
    · obtain ⟨N, ha'⟩ := ha
      obtain ⟨j, q, r, h4, h5, h6⟩ := pdiv h2 ha'
      have hnb : ¬ Zm m b0 := fun h => h1 (h.lead h2)
      obtain ⟨u, v, d, c, a1, b1, g1, g2, g3, g4, g5, g6, g7, g8, g9, g10⟩ := ih k hk h2.po h5 (fun h => hnb h.1)
      have hδ := hm.pow h1 j
      refine ⟨fun t => δ ^ j * v t, fun t => u t - v t * q t, d, c * δ ^ j, fun t => q t * a1 t + b1 t, fun t => δ ^ j * a1 t, g2.scal _, g1.sub (g2.mul h4), g3, (h4.mul g4).add g5, g4.scal _, g6, hm.mul g7 hδ, ?_, ?_, ?_⟩
      · refine (g8.add (h3.mul (g1.sub (g2.mul h4)))).congr fun t => ?_
        have h7 := congrArg (fun z => v t * z) (h6 t)
        show δ ^ j * v t * a t + (u t - v t * q t) * b t - d t = u t * b0 t + v t * r t - d t + (u t - v t * q t) * (b t - b0 t)
        revert h7
        simp only [rA, rB, rC, rD, rE, rF, rG, rH, rI, rJ, rK]
        omega
      · refine ((g9.mul h4).add g10).congr fun t => ?_
        have h7 := congrArg (fun z => c * z) (h6 t)
        show c * δ ^ j * a t - d t * (q t * a1 t + b1 t) = q t * (c * b0 t - d t * a1 t) + (c * r t - d t * b1 t)
        revert h7
        simp only [rA, rB, rC, rD, rE, rF, rG, rH, rI, rJ, rK]
        omega
      · refine ((g9.scal (δ ^ j)).add (h3.scal (c * δ ^ j))).congr fun t => ?_
        show c * δ ^ j * b t - d t * (δ ^ j * a1 t) = δ ^ j * (c * b0 t - d t * a1 t) + c * δ ^ j * (b t - b0 t)
        simp only [rA, rB, rC, rD, rE, rF, rG, rH, rI, rJ, rK]
        omega

def Cop (m : Int) (a b : Int → Int) : Prop := ∃ (u v : Int → Int) (c : Int), Po u ∧ Po v ∧ ¬ m ∣ c ∧ Zm m (fun t => u t * a t + v t * b t - c)

def Dv (m : Int) (a b : Int → Int) : Prop := ∃ (c : Int) (s : Int → Int), ¬ m ∣ c ∧ Po s ∧ Zm m (fun t => c * b t - a t * s t)

theorem Dv.mul {m : Int} {a b e : Int → Int} (he : Po e) (h : Dv m a b) : Dv m a (fun t => e t * b t) := by
  obtain ⟨c, s, h1, h2, h3⟩ := h
  refine ⟨c, fun t => e t * s t, h1, he.mul h2, (h3.mul he).congr fun t => ?_⟩
  show c * (e t * b t) - a t * (e t * s t) = e t * (c * b t - a t * s t)
  simp only [rA, rB, rC, rD, rE, rF, rG, rH, rI, rJ, rK]
theorem Dv.add {m : Int} (hm : Dom m) {a b e : Int → Int} (h : Dv m a b) (h' : Dv m a e) : Dv m a (fun t => b t + e t) := by
  obtain ⟨c, s, h1, h2, h3⟩ := h
  obtain ⟨c', s', h1', h2', h3'⟩ := h'
  refine ⟨c * c', fun t => c' * s t + c * s' t, hm.mul h1 h1', (h2.scal c').add (h2'.scal c), ((h3.scal c').add (h3'.scal c)).congr fun t => ?_⟩
  show c * c' * (b t + e t) - a t * (c' * s t + c * s' t) = c' * (c * b t - a t * s t) + c * (c' * e t - a t * s' t)
  simp only [rA, rB, rC, rD, rE, rF, rG, rH, rI, rJ, rK]
  omega
theorem Dv.of_zm {m : Int} (hm : Dom m) {a b : Int → Int} (h : Zm m b) : Dv m a b :=
  ⟨1, fun _ => 0, hm.2, Po.zero, h.congr fun t => by simp⟩
theorem Dv.alike {m : Int} {a b e : Int → Int} (h : Dv m a b) (hz : Zm m (fun t => e t - b t)) : Dv m a e := by
  obtain ⟨c, s, h1, h2, h3⟩ := h
  refine ⟨c, s, h1, h2, (h3.add (hz.scal c)).congr fun t => ?_⟩
  show c * e t - a t * s t = c * b t - a t * s t + c * (e t - b t)
  simp only [rA, rB, rC, rD, rE, rF, rG, rH, rI, rJ, rK]
  omega
theorem Dv.unscal {m : Int} (hm : Dom m) {a b : Int → Int} {k : Int} (hk : ¬ m ∣ k) (h : Dv m a (fun t => k * b t)) : Dv m a b := by
  obtain ⟨c, s, h1, h2, h3⟩ := h
  exact ⟨c * k, s, hm.mul h1 hk, h2, h3.congr fun t => by rw [Int.mul_assoc]⟩
theorem Dv.refl {m : Int} (hm : Dom m) (a : Int → Int) : Dv m a a :=
  ⟨1, fun _ => 1, hm.2, Po.const 1, Zm.of_zero m fun t => by simp⟩
theorem Dv.trans {m : Int} (hm : Dom m) {a b e : Int → Int} (h : Dv m a b) (h' : Dv m b e) : Dv m a e := by
  obtain ⟨c, s, h1, h2, h3⟩ := h
  obtain ⟨c', s', h1', h2', h3'⟩ := h'
  refine ⟨c * c', fun t => s t * s' t, hm.mul h1 h1', h2.mul h2', ((h3'.scal c).add (h3.mul h2')).congr fun t => ?_⟩
  show c * c' * e t - a t * (s t * s' t) = c * (c' * e t - b t * s' t) + s' t * (c * b t - a t * s t)
  simp only [rA, rB, rC, rD, rE, rF, rG, rH, rI, rJ, rK]
  omega

theorem Cop.dv {m : Int} (hm : Dom m) {a b e : Int → Int} (he : Po e) (h : Cop m a b) (hd : Dv m a (fun t => b t * e t)) : Dv m a e := by
  obtain ⟨u, v, c, h1, h2, h3, h4⟩ := h
  obtain ⟨c', s, h5, h6, h7⟩ := hd
  refine ⟨c' * c, fun t => c' * u t * e t + v t * s t, hm.mul h5 h3, (((h1.scal c').mul he).add (h2.mul h6)), (((h7.mul h2).sub (h4.mul (he.scal c'))).congr fun t => ?_)⟩
  show c' * c * e t - a t * (c' * u t * e t + v t * s t) = v t * (c' * (b t * e t) - a t * s t) - c' * e t * (u t * a t + v t * b t - c)
  simp only [rA, rB, rC, rD, rE, rF, rG, rH, rI, rJ, rK]
  omega

def Irr (m : Int) (r : Int → Int) : Prop := Po r ∧ ¬ Zm m r ∧ ¬ Dm m 0 r ∧ ∀ (a b : Int → Int) (c : Int), Po a → Po b → ¬ m ∣ c → Zm m (fun t => c * r t - a t * b t) → Dm m 0 a ∨ Dm m 0 b

theorem Dm.zero {m : Int} {f : Int → Int} (h : Dm m 0 f) : ∃ c, ¬ m ∣ c ∧ Zm m (fun t => f t - c) := by
  obtain ⟨d, f0, h1, ⟨g, h2, h3⟩, h4⟩ := h
  refine ⟨d, h1, h4.congr fun t => ?_⟩
  rw [h3, h2.zero0]; simp

theorem Irr.cop_or {m : Int} (hm : Dom m) {r a : Int → Int} (hr : Irr m r) (ha : Po a) : Cop m r a ∨ Dv m r a := by
  obtain ⟨hp, h0, h1, h2⟩ := hr
  obtain ⟨n, ha'⟩ := ha
  obtain ⟨u, v, d, c, r', a', g1, g2, g3, g4, g5, g6, g7, g8, g9, g10⟩ := bezout hm n hp ha' (fun h => h0 h.1)
  rcases h2 d r' c g3 g4 g7 g9 with h | h
  · obtain ⟨k, h5, h6⟩ := h.zero
    left
    exact ⟨u, v, k, g1, g2, h5, (g8.add h6).congr fun t => by omega⟩
  · obtain ⟨k, h5, h6⟩ := h.zero
    right
    refine ⟨k * c, fun t => c * a' t, hm.mul h5 g7, g5.scal c, ?_⟩
    refine (((g10.scal k).sub (g9.mul g5)).sub (h6.mul (g3.mul g5))).congr fun t => ?_
    show k * c * a t - r t * (c * a' t) = k * (c * a t - d t * a' t) - a' t * (c * r t - d t * r' t) - d t * a' t * (r' t - k)
    simp only [rA, rB, rC, rD, rE, rF, rG, rH, rI, rJ, rK]
    omega

theorem Irr.prime {m : Int} (hm : Dom m) {r a b : Int → Int} (hr : Irr m r) (ha : Po a) (hb : Po b) (h : Dv m r (fun t => a t * b t)) : Dv m r a ∨ Dv m r b := by
  rcases hr.cop_or hm ha with h1 | h1
  · right; exact h1.dv hm hb h
  · left; exact h1

end Go.Proofs.YtldcjkhbiffdoabGreatDoor

set_option linter.unusedSimpArgs false
namespace Go.Proofs.YtldcjkhbiffdoabGreatDoor

theorem prime_of (n : Nat) (hn : 2 ≤ n) : ∃ p : Nat, 2 ≤ p ∧ p ∣ n ∧ Dom (p : Int) := by
  have aux : ∀ k, ∀ p, p ≤ k → 2 ≤ p → p ∣ n → ∃ p : Nat, 2 ≤ p ∧ p ∣ n ∧ ∀ q, 2 ≤ q → q ∣ n → p ≤ q := by
    intro k
    induction k with
    | zero => intro p h1 h2; omega
    | succ k ih =>
      intro p h1 h2 h3
      by_cases h : ∃ q, 2 ≤ q ∧ q ∣ n ∧ q < p
      · obtain ⟨q, h4, h5, h6⟩ := h
        exact ih q (by omega) h4 h5
      · refine ⟨p, h2, h3, fun q h4 h5 => ?_⟩
        rcases Nat.lt_or_ge q p with h6 | h6
        · exact absurd ⟨q, h4, h5, h6⟩ h
        · exact h6
  obtain ⟨p, h1, h2, h3⟩ := aux n n (Nat.le_refl _) hn (Nat.dvd_refl _)
  refine ⟨p, h1, h2, fun a b hab => ?_, fun h => ?_⟩
  · have h4 : Nat.gcd p a.natAbs ∣ p := Nat.gcd_dvd_left _ _
    have hpos : 0 < Nat.gcd p a.natAbs := Nat.gcd_pos_of_pos_left _ (by omega)
    have h5 : p ∣ a.natAbs * b.natAbs := by
      rw [← Int.natAbs_mul]
      exact Int.ofNat_dvd_left.1 hab
    rcases (show Nat.gcd p a.natAbs = 1 ∨ 2 ≤ Nat.gcd p a.natAbs by omega) with h6 | h6
    · right
      have h7 : Nat.Coprime p a.natAbs := h6
      exact Int.ofNat_dvd_left.2 (h7.dvd_of_dvd_mul_left h5)
    · left
      have h7 := h3 _ h6 (Nat.dvd_trans h4 h2)
      have h8 : Nat.gcd p a.natAbs = p := Nat.le_antisymm (Nat.le_of_dvd (by omega) h4) h7
      have h9 : Nat.gcd p a.natAbs ∣ a.natAbs := Nat.gcd_dvd_right _ _
      rw [h8] at h9
      exact Int.ofNat_dvd_left.2 h9
  · have := Int.ofNat_dvd_left.1 h
    have := Nat.le_of_dvd (by decide) this
    simp at this
    omega

theorem inv_nat {p : Nat} (hp0 : 0 < p) (hp : Dom (p : Int)) : ∀ r : Nat, 0 < r → r < p → ∃ k : Int, (p : Int) ∣ r * k - 1 := by
  intro r
  induction r using Nat.strongRecOn with
  | ind r ih =>
    intro h0 h1
    by_cases h2 : r = 1
    · exact ⟨1, by subst h2; exact ⟨0, by simp⟩⟩
    · have h3 : p % r < r := Nat.mod_lt _ h0
      have h4 := Nat.div_add_mod p r
      have h5 : p % r ≠ 0 := by
        intro h
        rw [h, Nat.add_zero] at h4
        have h6 : (p : Int) ∣ (r : Int) * ((p / r : Nat) : Int) := by rw [← Int.natCast_mul, h4]; exact Int.dvd_refl _
        have h7 : 0 < p / r := by
          rcases Nat.eq_zero_or_pos (p / r) with h | h
          · rw [h] at h4; omega
          · exact h
        have h8 : p / r < p := Nat.div_lt_self (by omega) (by omega)
        rcases hp.1 _ _ h6 with h | h
        · have := Nat.le_of_dvd h0 (Int.natCast_dvd_natCast.1 h); omega
        · have := Nat.le_of_dvd h7 (Int.natCast_dvd_natCast.1 h); omega
      obtain ⟨k, c, hc⟩ := ih (p % r) h3 (by omega) (by omega)
      refine ⟨-((p / r : Nat) : Int) * k, c - k, ?_⟩
      have h6 : (p : Int) = r * ((p / r : Nat) : Int) + ((p % r : Nat) : Int) := by
        rw [← Int.natCast_mul, ← Int.natCast_add, h4]
      have h7 : ((p % r : Nat) : Int) * k = p * k - r * ((p / r : Nat) : Int) * k := by
        rw [← Int.sub_mul]; congr 1; omega
      have h8 : (r : Int) * (-((p / r : Nat) : Int) * k) = - (r * ((p / r : Nat) : Int) * k) := by
        rw [Int.neg_mul, Int.mul_neg, Int.mul_assoc]
      rw [h8, Int.mul_sub]
      omega

theorem Dom.inv {p : Nat} (hp0 : 0 < p) (hp : Dom (p : Int)) {k : Int} (hk : ¬ (p : Int) ∣ k) : ∃ k' : Int, (p : Int) ∣ k * k' - 1 := by
  have h1 : 0 ≤ k % p := Int.emod_nonneg _ (by omega)
  have h2 : k % p < p := Int.emod_lt_of_pos _ (by omega)
  have h3 : k % p ≠ 0 := fun h => hk (Int.dvd_of_emod_eq_zero h)
  obtain ⟨k', c, hc⟩ := inv_nat hp0 hp (k % p).toNat (by omega) (by omega)
  rw [show (((k % p).toNat : Nat) : Int) = k % p by omega] at hc
  refine ⟨k', c + (k / p) * k', ?_⟩
  have h4 := Int.mul_ediv_add_emod k p
  have h5 : k * k' = (p * (k / p)) * k' + k % p * k' := by rw [← Int.add_mul, h4]
  rw [Int.mul_add, ← Int.mul_assoc, h5]
  omega

def Prm (f : Int → Int) : Prop := Po f ∧ ∀ p : Nat, 2 ≤ p → Dom (p : Int) → ¬ Zm p f

theorem Prm.mul {f g : Int → Int} (hf : Prm f) (hg : Prm g) : Prm (fun t => f t * g t) :=
  ⟨hf.1.mul hg.1, fun p h1 h2 h3 => (Zm.or h2 hf.1 hg.1 h3).elim (hf.2 p h1 h2) (hg.2 p h1 h2)⟩

theorem Prm.congr {f g : Int → Int} (h : Prm f) (e : ∀ t, g t = f t) : Prm g :=
  ⟨h.1.congr e, fun p h1 h2 h3 => h.2 p h1 h2 (h3.congr fun t => (e t).symm)⟩

theorem Prm.left {f g : Int → Int} (hf : Po f) (hg : Po g) (h : Prm (fun t => f t * g t)) : Prm f :=
  ⟨hf, fun p h1 h2 h3 => h.2 p h1 h2 ((h3.mul hg).congr fun _ => Int.mul_comm _ _)⟩

theorem Prm.ne {f : Int → Int} (h : Prm f) : ¬ Zm 0 f := by
  intro hz
  obtain ⟨p, h1, h2, h3⟩ := prime_of 2 (by decide)
  obtain ⟨g, _, h5⟩ := hz
  exact h.2 p h1 h3 (Zm.of_zero _ fun t => by rw [h5]; simp)

theorem two_le_of {c : Int} (h0 : c ≠ 0) (h1 : c ≠ 1) (h2 : c ≠ -1) : 2 ≤ c.natAbs := by omega

theorem prime_int {c : Int} (h : 2 ≤ c.natAbs) : ∃ (p : Nat) (d : Int), 2 ≤ p ∧ Dom (p : Int) ∧ c = p * d ∧ d.natAbs < c.natAbs ∧ d ≠ 0 := by
  obtain ⟨p, h1, h2, h3⟩ := prime_of c.natAbs h
  obtain ⟨d, hd⟩ := Int.ofNat_dvd_left.2 h2
  have h4 : d ≠ 0 := by intro h; subst h; simp at hd; omega
  refine ⟨p, d, h1, h3, hd, ?_, h4⟩
  rw [hd, Int.natAbs_mul]
  have : 0 < d.natAbs := by omega
  have h5 : ((p : Nat) : Int).natAbs = p := Int.natAbs_natCast p
  rw [h5]
  have h6 : 2 * d.natAbs ≤ p * d.natAbs := Nat.mul_le_mul_right _ h1
  omega

theorem Prm.dvd {a : Int → Int} (ha : Prm a) : ∀ (n : Nat) {c : Int} {b s : Int → Int}, c.natAbs ≤ n → c ≠ 0 → Po b → Po s → (∀ t, c * b t = a t * s t) → ∃ s', Po s' ∧ (∀ t, b t = a t * s' t) ∧ ∀ t, s t = c * s' t := by
  intro n
  induction n with
  | zero => intro c b s h1 h2; omega
  | succ n ih =>
    intro c b s h1 h2 hb hs h
    by_cases h3 : c = 1
    · subst h3; exact ⟨s, hs, fun t => by rw [← h, Int.one_mul], fun t => by omega⟩
    · by_cases h4 : c = -1
      · subst h4; exact ⟨_, hs.neg, fun t => by rw [Int.mul_neg, ← h]; omega, fun t => by omega⟩
      · obtain ⟨p, d, g1, g2, g3, g4, g5⟩ := prime_int (two_le_of h2 h3 h4)
        have h5 : Zm p (fun t => a t * s t) := ⟨_, hb.scal d, fun t => by show a t * s t = _; rw [← h, g3, Int.mul_assoc]⟩
        obtain ⟨s1, h6, h7⟩ := (Zm.or g2 ha.1 hs h5).resolve_left (ha.2 p g1 g2)
        have hp0 : (p : Int) ≠ 0 := by omega
        obtain ⟨s', h8, h9, h10⟩ := ih (c := d) (b := b) (s := s1) (by omega) g5 hb h6 (fun t => by
          have := h t
          rw [h7, g3, Int.mul_assoc, Int.mul_left_comm (a t)] at this
          exact Int.eq_of_mul_eq_mul_left hp0 this)
        exact ⟨s', h8, h9, fun t => by rw [h7, h10, g3, Int.mul_assoc]⟩

theorem Prm.of_dv {a b : Int → Int} (ha : Prm a) (hb : Po b) (h : Dv 0 a b) : ∃ s, Po s ∧ ∀ t, b t = a t * s t := by
  obtain ⟨c, s, h1, h2, g, _, h4⟩ := h
  have hc : c ≠ 0 := fun h => h1 (by rw [h]; exact Int.dvd_refl _)
  obtain ⟨s', h5, h6, _⟩ := ha.dvd _ (Nat.le_refl _) hc hb h2 (fun t => by have h5 := h4 t; rw [Int.zero_mul] at h5; exact Int.eq_of_sub_eq_zero h5)
  exact ⟨s', h5, h6⟩

theorem Dv.of_eq {a b s : Int → Int} (m : Int) (hm : Dom m) (hs : Po s) (h : ∀ t, b t = a t * s t) : Dv m a b :=
  ⟨1, s, hm.2, hs, Zm.of_zero m fun t => by rw [h]; simp⟩

def Iz (r : Int → Int) : Prop := Po r ∧ ¬ Zm 0 r ∧ ¬ Dm 0 0 r ∧ ∀ a b : Int → Int, Po a → Po b → (∀ t, r t = a t * b t) → Dm 0 0 a ∨ Dm 0 0 b

theorem Iz.irr {r : Int → Int} (h : Iz r) : Irr 0 r := by
  obtain ⟨h0, h1, h2, h3⟩ := h
  refine ⟨h0, h1, h2, ?_⟩
  have aux : ∀ (n : Nat) (c : Int) (a b : Int → Int), c.natAbs ≤ n → c ≠ 0 → Po a → Po b → (∀ t, c * r t = a t * b t) → Dm 0 0 a ∨ Dm 0 0 b := by
    intro n
    induction n with
    | zero => intro c a b h1 h2; omega
    | succ n ih =>
      intro c a b hn hc ha hb h
      by_cases h4 : c = 1
      · exact h3 a b ha hb fun t => by have := h t; rw [h4] at this; omega
      · by_cases h5 : c = -1
        · have h6 := h3 _ b ha.neg hb fun t => by have := h t; rw [h5] at this; rw [Int.neg_mul]; omega
          rcases h6 with h6 | h6
          · left
            have := Dm.scal Dom.zero (c := -1) (fun h => by have := Int.zero_dvd.1 h; omega) h6
            obtain ⟨d, f0, g1, g2, g3⟩ := this
            exact ⟨d, f0, g1, g2, g3.congr fun t => by show a t - f0 t = -1 * - a t - f0 t; omega⟩
          · right; exact h6
        · obtain ⟨p, d, g1, g2, g3, g4, g5⟩ := prime_int (two_le_of hc h4 h5)
          have hp0 : (p : Int) ≠ 0 := by omega
          have hnp : ¬ (0 : Int) ∣ p := fun h => hp0 (Int.zero_dvd.1 h)
          have h6 : Zm p (fun t => a t * b t) := ⟨_, h0.scal d, fun t => by show a t * b t = _; rw [← h, g3, Int.mul_assoc]⟩
          rcases Zm.or g2 ha hb h6 with ⟨a', h7, h8⟩ | ⟨b', h7, h8⟩
          · rcases ih d a' b (by omega) g5 h7 hb (fun t => by
              have := h t
              rw [h8, g3, Int.mul_assoc, Int.mul_assoc] at this
              exact Int.eq_of_mul_eq_mul_left hp0 this) with h9 | h9
            · left
              obtain ⟨d, f0, g1, g2, g3⟩ := Dm.scal Dom.zero hnp h9
              exact ⟨d, f0, g1, g2, g3.congr fun t => by simp only [h8]⟩
            · right; exact h9
          · rcases ih d a b' (by omega) g5 ha h7 (fun t => by
              have := h t
              rw [h8, g3, Int.mul_assoc, Int.mul_left_comm (a t)] at this
              exact Int.eq_of_mul_eq_mul_left hp0 this) with h9 | h9
            · left; exact h9
            · right
              obtain ⟨d, f0, g1, g2, g3⟩ := Dm.scal Dom.zero hnp h9
              exact ⟨d, f0, g1, g2, g3.congr fun t => by simp only [h8]⟩
  intro a b c ha hb hc ⟨g, _, h4⟩
  exact aux _ c a b (Nat.le_refl _) (fun h => hc (by rw [h]; exact Int.dvd_refl _)) ha hb (fun t => by have h5 := h4 t; rw [Int.zero_mul] at h5; exact Int.eq_of_sub_eq_zero h5)


def Dr (f f' : Int → Int) : Prop := Po f ∧ Po f' ∧ ∃ R : Int → Int → Int, ∀ t s, f (t + s) = f t + s * f' t + s * s * R t s

theorem Dr.congr {f g f' g' : Int → Int} (h : Dr f f') (e : ∀ t, g t = f t) (e' : ∀ t, g' t = f' t) : Dr g g' := by
  obtain ⟨h1, h2, R, h3⟩ := h
  exact ⟨h1.congr e, h2.congr e', R, fun t s => by rw [e, e, e', h3]⟩
theorem Dr.const (c : Int) : Dr (fun _ => c) (fun _ => 0) := ⟨Po.const c, Po.zero, fun _ _ => 0, fun t s => by simp⟩
theorem Dr.x : Dr (fun t => t) (fun _ => 1) := ⟨(Po.xpow 1).congr fun t => (Int.pow_one t).symm, Po.const 1, fun _ _ => 0, fun t s => by simp⟩
theorem Dr.add {f g f' g' : Int → Int} (h : Dr f f') (h' : Dr g g') : Dr (fun t => f t + g t) (fun t => f' t + g' t) := by
  obtain ⟨h1, h2, R, h3⟩ := h
  obtain ⟨h4, h5, S, h6⟩ := h'
  exact ⟨h1.add h4, h2.add h5, fun t s => R t s + S t s, fun t s => by simp only [h3, h6, Int.mul_add]; omega⟩
theorem Dr.mul {f g f' g' : Int → Int} (h : Dr f f') (h' : Dr g g') : Dr (fun t => f t * g t) (fun t => f' t * g t + f t * g' t) := by
  obtain ⟨h1, h2, R, h3⟩ := h
  obtain ⟨h4, h5, S, h6⟩ := h'
  refine ⟨h1.mul h4, (h2.mul h4).add (h1.mul h5), fun t s => f t * S t s + R t s * g t + f' t * g' t + s * f' t * S t s + s * R t s * g' t + s * s * R t s * S t s, fun t s => ?_⟩
  simp only [h3, h6]
  simp only [rA, rB, rC, rD, rE, rF, rG, rH, rI, rJ, rK]
  omega
theorem Dr.uniq {f f' g' : Int → Int} (h : Dr f f') (h' : Dr f g') (t : Int) : f' t = g' t := by
  obtain ⟨h1, h2, R, h3⟩ := h
  obtain ⟨h4, h5, S, h6⟩ := h'
  have h7 : ∀ s, s * (f' t - g' t) = s * s * (S t s - R t s) := by
    intro s
    have h8 := h3 t s
    have h9 := h6 t s
    rw [Int.mul_sub, Int.mul_sub]; omega
  have h8 : ∀ s, s ≠ 0 → s ∣ f' t - g' t := fun s hs => ⟨S t s - R t s, by
    have := h7 s
    rw [Int.mul_assoc] at this
    exact Int.eq_of_mul_eq_mul_left hs this⟩
  have h9 := Int.eq_zero_of_dvd_of_natAbs_lt_natAbs (h8 ((f' t - g' t).natAbs + 1) (by omega)) (by omega)
  omega

def der : List Int → List Int
  | [] => []
  | _ :: l => ladd l (0 :: der l)

theorem Dr.ev : ∀ l : List Int, Dr (fun t => Go.Proofs.YtldcjkhbiffdoabGreatDoor.ev t l) (fun t => Go.Proofs.YtldcjkhbiffdoabGreatDoor.ev t (der l))
  | [] => (Dr.const 0).congr (fun t => rfl) (fun t => rfl)
  | a :: l => ((Dr.const a).add (Dr.x.mul (Dr.ev l))).congr (fun t => rfl) (fun t => by
      simp only [der, ev_ladd, Go.Proofs.YtldcjkhbiffdoabGreatDoor.ev]; omega)
theorem Po.dr {f : Int → Int} (h : Po f) : ∃ f', Dr f f' := by
  obtain ⟨n, l, _, h2⟩ := h
  exact ⟨_, (Dr.ev l).congr h2 fun _ => rfl⟩

theorem der_getD : ∀ (l : List Int) (k : Nat), (der l).getD k 0 = (k + 1) * l.getD (k + 1) 0
  | [], k => by simp [der]
  | a :: l, 0 => by
    show (ladd l (0 :: der l)).getD 0 0 = _
    rw [ladd_getD]; simp
  | a :: l, k + 1 => by
    simp only [der, ladd_getD, List.getD_cons_succ, der_getD l k]
    rw [show ((k + 1 : Nat) : Int) + 1 = ((k : Int) + 1) + 1 by omega, Int.add_mul ((k : Int) + 1) 1]
    omega
theorem Dr.of_getD {l m : List Int} (h : ∀ k : Nat, m.getD k 0 = (k + 1) * l.getD (k + 1) 0) : Dr (fun t => Go.Proofs.YtldcjkhbiffdoabGreatDoor.ev t l) (fun t => Go.Proofs.YtldcjkhbiffdoabGreatDoor.ev t m) :=
  (Dr.ev l).congr (fun _ => rfl) fun t => ev_of_getD (fun k => by rw [h, der_getD]) t
theorem Zm.dr {m : Int} {f f' : Int → Int} (h : Zm m f) (hd : Dr f f') : Zm m f' := by
  obtain ⟨g, h1, h2⟩ := h
  obtain ⟨g', h3⟩ := h1.dr
  refine ⟨g', h3.2.1, fun t => ?_⟩
  have h4 := ((Dr.const m).mul h3).congr h2 (fun _ => rfl)
  rw [hd.uniq h4 t]; simp

end Go.Proofs.YtldcjkhbiffdoabGreatDoor
