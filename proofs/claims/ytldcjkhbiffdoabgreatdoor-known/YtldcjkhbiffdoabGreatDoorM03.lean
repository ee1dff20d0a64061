import Derived.Test.YtldcjkhbiffdoabGreatDoorM00
import Derived.Test.YtldcjkhbiffdoabGreatDoorM02

set_option linter.unusedSimpArgs false
namespace Go.Proofs.YtldcjkhbiffdoabGreatDoor

def fac : Nat → Int
  | 0 => 1
  | n + 1 => (n + 1) * fac n
theorem fac_pos : ∀ n, 0 < fac n
  | 0 => by decide
  | n + 1 => Int.mul_pos (by omega) (fac_pos n)

def sm (F : Nat → Int) : Nat → Int
  | 0 => 0
  | n + 1 => sm F n + F n

theorem sm_add (F G : Nat → Int) : ∀ n, sm (fun k => F k + G k) n = sm F n + sm G n
  | 0 => rfl
  | n + 1 => by simp only [sm, sm_add F G n]; omega
theorem sm_scal (c : Int) (F : Nat → Int) : ∀ n, sm (fun k => c * F k) n = c * sm F n
  | 0 => by simp [sm]
  | n + 1 => by simp only [sm, sm_scal c F n, Int.mul_add]
theorem sm_congr {F G : Nat → Int} : ∀ n, (∀ k, k < n → F k = G k) → sm F n = sm G n
  | 0, _ => rfl
  | n + 1, h => by simp only [sm, sm_congr n fun k hk => h k (by omega), h n (by omega)]
theorem sm_zero : ∀ n, sm (fun _ => 0) n = 0
  | 0 => rfl
  | n + 1 => by simp only [sm, sm_zero n]; omega
theorem sm_le {F G : Nat → Int} : ∀ n, (∀ k, k < n → F k ≤ G k) → sm F n ≤ sm G n
  | 0, _ => Int.le_refl _
  | n + 1, h => by
    have h1 := sm_le n fun k hk => h k (by omega)
    have h2 := h n (by omega)
    simp only [sm]; omega
theorem sm_nonneg {F : Nat → Int} (n : Nat) (h : ∀ k, k < n → 0 ≤ F k) : 0 ≤ sm F n := by
  have := sm_le n h
  rwa [sm_zero] at this
theorem sm_one {F : Nat → Int} : ∀ {n j : Nat}, j < n → (∀ k, k < n → 0 ≤ F k) → F j ≤ sm F n
  | 0, j, h, _ => by omega
  | n + 1, j, h, hF => by
    simp only [sm]
    have h1 := sm_nonneg n fun k hk => hF k (by omega)
    have h2 := hF n (by omega)
    rcases (show j = n ∨ j < n by omega) with rfl | h3
    · omega
    · have := sm_one h3 fun k hk => hF k (by omega)
      omega
theorem sm_first (F : Nat → Int) : ∀ n, sm F (n + 1) = F 0 + sm (fun k => F (k + 1)) n
  | 0 => by simp [sm]
  | n + 1 => by
    have := sm_first F n
    simp only [sm] at this ⊢
    omega

def fp (N : Nat) (u v : Nat → Int) : Int := sm (fun k => fac k * (u k * v k)) N

theorem fp_comm (N : Nat) (u v : Nat → Int) : fp N u v = fp N v u := sm_congr N fun k _ => by rw [Int.mul_comm (u k)]
theorem fp_add (N : Nat) (u v w : Nat → Int) : fp N (fun k => u k + v k) w = fp N u w + fp N v w := by
  unfold fp
  rw [← sm_add]
  exact sm_congr N fun k _ => by rw [Int.add_mul, Int.mul_add]
theorem fp_scal (N : Nat) (c : Int) (u w : Nat → Int) : fp N (fun k => c * u k) w = c * fp N u w := by
  unfold fp
  rw [← sm_scal]
  exact sm_congr N fun k _ => by rw [Int.mul_assoc, Int.mul_left_comm]
theorem fp_add' (N : Nat) (u v w : Nat → Int) : fp N w (fun k => u k + v k) = fp N w u + fp N w v := by
  rw [fp_comm, fp_add, fp_comm N u, fp_comm N v]
theorem fp_scal' (N : Nat) (c : Int) (u w : Nat → Int) : fp N w (fun k => c * u k) = c * fp N w u := by
  rw [fp_comm, fp_scal, fp_comm]
theorem fp_zero' (N : Nat) (w : Nat → Int) : fp N w (fun _ => 0) = 0 := by
  unfold fp
  rw [sm_congr N (G := fun _ => 0) fun k _ => by simp, sm_zero]
theorem sq_nonneg (a : Int) : 0 ≤ a * a := by
  rcases Int.le_total 0 a with h | h
  · exact Int.mul_nonneg h h
  · exact Int.mul_nonneg_of_nonpos_of_nonpos h h
theorem fp_nonneg (N : Nat) (u : Nat → Int) : 0 ≤ fp N u u :=
  sm_nonneg N fun k _ => Int.mul_nonneg (Int.le_of_lt (fac_pos k)) (sq_nonneg _)

def cX (u : Nat → Int) : Nat → Int := fun k => if k = 0 then 0 else u (k - 1)
def cD (u : Nat → Int) : Nat → Int := fun k => (k + 1) * u (k + 1)

def Sp (n : Nat) (u : Nat → Int) : Prop := ∀ k, n ≤ k → u k = 0

theorem Sp.mono {n m : Nat} {u : Nat → Int} (h : Sp n u) (hm : n ≤ m) : Sp m u := fun k hk => h k (by omega)
theorem Sp.cD {n : Nat} {u : Nat → Int} (h : Sp n u) : Sp n (cD u) := fun k hk => by show (_ : Int) * u (k + 1) = 0; rw [h (k + 1) (by omega)]; simp
theorem Sp.cX {n : Nat} {u : Nat → Int} (h : Sp n u) : Sp (n + 1) (cX u) := fun k hk => by
  show (if k = 0 then 0 else u (k - 1)) = 0
  rw [if_neg (by omega), h (k - 1) (by omega)]

theorem cD_cX (u : Nat → Int) (k : Nat) : cD (cX u) k = cX (cD u) k + u k := by
  show ((k : Int) + 1) * (if k + 1 = 0 then 0 else u (k + 1 - 1)) = (if k = 0 then 0 else (((k - 1 : Nat) : Int) + 1) * u (k - 1 + 1)) + u k
  rw [if_neg (by omega), Nat.add_sub_cancel]
  cases k with
  | zero => simp
  | succ k =>
    rw [if_neg (by omega), Nat.add_sub_cancel, Int.add_mul, Int.one_mul]
    congr 1

theorem cD_add (u v : Nat → Int) (k : Nat) : cD (fun k => u k + v k) k = cD u k + cD v k := Int.mul_add ..
theorem cD_scal (c : Int) (u : Nat → Int) (k : Nat) : cD (fun k => c * u k) k = c * cD u k := by
  show (_ : Int) * (c * u (k + 1)) = c * (_ * u (k + 1))
  rw [Int.mul_left_comm]
theorem cX_add (u v : Nat → Int) (k : Nat) : cX (fun k => u k + v k) k = cX u k + cX v k := by
  show (if k = 0 then 0 else u (k - 1) + v (k - 1)) = (if k = 0 then 0 else u (k - 1)) + (if k = 0 then 0 else v (k - 1))
  split <;> simp
theorem fp_adj {N : Nat} (u : Nat → Int) {v : Nat → Int} (hv : Sp N v) : fp N (cX u) v = fp N u (cD v) := by
  cases N with
  | zero => rfl
  | succ n =>
    unfold fp
    rw [sm_first]
    show fac 0 * ((if (0 : Nat) = 0 then 0 else u (0 - 1)) * v 0) + sm (fun k => fac (k + 1) * ((if k + 1 = 0 then 0 else u (k + 1 - 1)) * v (k + 1))) n = sm (fun k => fac k * (u k * cD v k)) n + fac n * (u n * ((n + 1) * v (n + 1)))
    rw [hv (n + 1) (Nat.le_refl _)]
    simp only [if_true, Int.zero_mul, Int.mul_zero, Int.zero_add, Int.add_zero]
    refine sm_congr n fun k _ => ?_
    rw [if_neg (by omega), Nat.add_sub_cancel]
    show ((k : Int) + 1) * fac k * (u k * v (k + 1)) = fac k * (u k * (((k : Int) + 1) * v (k + 1)))
    generalize ((k : Int) + 1) = q
    simp only [rA, rB, rC, rD, rE, rF, rG, rH, rI, rJ, rK]

def mS : List Int → Nat → (Nat → Int) → Nat → Int
  | [], _, _ => fun _ => 0
  | a :: h, s, v => fun k => (if s = 0 then a else 0) * v k + (cX (mS h s v) k + s * mS h (s - 1) v k)
def aD : List Int → Nat → (Nat → Int) → Nat → Int
  | [], _, _ => fun _ => 0
  | a :: h, s, v => fun k => (if s = 0 then a else 0) * v k + (aD h s (cD v) k + s * aD h (s - 1) v k)

theorem Sp.mS : ∀ (h : List Int) (s : Nat) {n : Nat} {v : Nat → Int}, Sp n v → Sp (n + h.length) (mS h s v)
  | [], s, n, v, _ => fun k _ => rfl
  | a :: h, s, n, v, hv => fun k hk => by
    have h1 := (Sp.mS h s hv).cX k (by simp at hk; omega)
    have h2 := Sp.mS h (s - 1) hv k (by simp at hk; omega)
    simp only [Go.Proofs.YtldcjkhbiffdoabGreatDoor.mS]
    rw [hv k (by simp at hk; omega), h1, h2]; simp

theorem Sp.mS1 : ∀ (h : List Int) (s : Nat) {n : Nat} {v : Nat → Int}, Sp n v → 0 < n → Sp (n + h.length - 1) (Go.Proofs.YtldcjkhbiffdoabGreatDoor.mS h s v)
  | [], s, n, v, _, _ => fun k _ => rfl
  | a :: h, s, n, v, hv, hn => fun k hk => by
    have h1 := (Sp.mS1 h s hv hn).cX k (by simp at hk; omega)
    have h2 := Sp.mS1 h (s - 1) hv hn k (by simp at hk; omega)
    simp only [Go.Proofs.YtldcjkhbiffdoabGreatDoor.mS]
    rw [hv k (by simp at hk; omega), h1, h2]; simp

theorem cD_mS : ∀ (h : List Int) (s : Nat) (v : Nat → Int) (k : Nat), cD (mS h s v) k = mS h s (cD v) k + mS h (s + 1) v k
  | [], s, v, k => by show (_ : Int) * 0 = 0 + 0; simp
  | a :: h, s, v, k => by
    show cD (fun k => (if s = 0 then a else 0) * v k + (cX (mS h s v) k + s * mS h (s - 1) v k)) k = _
    rw [cD_add, cD_add, cD_scal, cD_scal, cD_cX]
    have e1 : cX (cD (mS h s v)) k = cX (fun k => mS h s (cD v) k + mS h (s + 1) v k) k := by
      congr 1; exact funext fun j => cD_mS h s v j
    rw [e1, cX_add]
    simp only [mS]
    rw [if_neg (show ¬ s + 1 = 0 by omega), Nat.add_sub_cancel]
    cases s with
    | zero => simp; omega
    | succ s =>
      rw [cD_mS h (s + 1 - 1) v k, show s + 1 - 1 + 1 = s + 1 by omega, Int.mul_add]
      rw [if_neg (by omega), show ((s + 1 + 1 : Nat) : Int) = ((s + 1 : Nat) : Int) + 1 by omega, Int.add_mul]
      omega

theorem fp_mS {N : Nat} : ∀ (h : List Int) (s : Nat) (u : Nat → Int) {v : Nat → Int}, Sp N v → fp N (mS h s u) v = fp N u (aD h s v)
  | [], s, u, v, _ => by
    show fp N (fun _ => 0) v = fp N u (fun _ => 0)
    rw [fp_comm, fp_zero', fp_zero']
  | a :: h, s, u, v, hv => by
    simp only [mS, aD]
    rw [fp_add, fp_add, fp_scal, fp_scal, fp_adj _ hv, fp_mS h s u hv.cD, fp_mS h (s - 1) u hv, fp_add', fp_add', fp_scal', fp_scal']

theorem fp_key {N : Nat} {W : Nat → Int} (h2 : List Int) (u : Nat → Int) (hu : Sp N u) : ∀ (h1 : List Int) (n s0 : Nat) {v : Nat → Int}, h1.length ≤ n → (∀ s, 0 < s → s < n → W s * s = W (s - 1)) → (∃ m, Sp m v ∧ m + h2.length ≤ N) →
    W 0 * fp N (mS h1 0 u) (mS h2 s0 v) = sm (fun s => W s * fp N (aD h2 (s0 + s) u) (aD h1 s v)) n
  | [], n, s0, v, _, _, _ => by
    have : ∀ w, fp N (mS [] 0 u) w = 0 := fun w => by rw [fp_comm]; exact fp_zero' N w
    rw [this, Int.mul_zero]
    refine ((sm_congr n fun s _ => ?_).trans (sm_zero n)).symm
    show W s * fp N _ (fun _ => 0) = 0
    rw [fp_zero']; simp
  | a :: k, n, s0, v, hn, hW, ⟨m, hv, hm⟩ => by
    obtain ⟨n, rfl⟩ : ∃ n', n = n' + 1 := ⟨n - 1, by simp at hn; omega⟩
    have hk : k.length ≤ n := by simpa using hn
    have hS : Sp N (mS h2 s0 v) := (Sp.mS h2 s0 hv).mono hm
    have l1 : mS (a :: k) 0 u = fun j => a * u j + cX (mS k 0 u) j := funext fun j => by simp [mS]
    have l2 : cD (mS h2 s0 v) = fun j => mS h2 s0 (cD v) j + mS h2 (s0 + 1) v j := funext fun j => cD_mS h2 s0 v j
    have l3 : fp N u (mS h2 s0 v) = fp N (aD h2 s0 u) v := by
      rw [fp_comm, fp_mS h2 s0 v hu, fp_comm]
    rw [l1, fp_add, fp_scal, fp_adj _ hS, l2, fp_add', l3, Int.mul_add, Int.mul_add]
    rw [fp_key h2 u hu k (n + 1) s0 (v := cD v) (by omega) hW ⟨m, hv.cD, hm⟩]
    rw [fp_key h2 u hu k n (s0 + 1) (v := v) hk (fun s h1 h2 => hW s h1 (by omega)) ⟨m, hv, hm⟩]
    have r1 : sm (fun s => W s * fp N (aD h2 (s0 + s) u) (aD (a :: k) s v)) (n + 1) =
        sm (fun s => (if s = 0 then W 0 * (a * fp N (aD h2 s0 u) v) else 0) + (W s * fp N (aD h2 (s0 + s) u) (aD k s (cD v)) + W s * s * fp N (aD h2 (s0 + s) u) (aD k (s - 1) v))) (n + 1) := by
      refine sm_congr _ fun s _ => ?_
      simp only [aD]
      rw [fp_add', fp_add', fp_scal', fp_scal', Int.mul_add, Int.mul_add, ← Int.mul_assoc (W s) (s : Int)]
      congr 1
      by_cases hs : s = 0
      · subst hs; simp
      · rw [if_neg hs, if_neg hs]; simp
    rw [r1, sm_add, sm_add]
    have r2 : sm (fun s => if s = 0 then W 0 * (a * fp N (aD h2 s0 u) v) else 0) (n + 1) = W 0 * (a * fp N (aD h2 s0 u) v) := by
      rw [sm_first, if_pos rfl, sm_congr n (G := fun _ => 0) fun s _ => by simp, sm_zero]; simp
    have r3 : sm (fun s => W s * (s : Int) * fp N (aD h2 (s0 + s) u) (aD k (s - 1) v)) (n + 1) = sm (fun s => W s * fp N (aD h2 (s0 + 1 + s) u) (aD k s v)) n := by
      rw [sm_first]
      simp only [Int.ofNat_zero, Int.mul_zero, Int.zero_mul, Int.zero_add, Int.natCast_zero]
      refine sm_congr n fun s hs => ?_
      rw [hW (s + 1) (by omega) (by omega), Nat.add_sub_cancel, show s0 + (s + 1) = s0 + 1 + s by omega]
    rw [r2, r3]
    try omega

theorem aD_short : ∀ (h : List Int) (s : Nat) (v : Nat → Int) (k : Nat), h.length ≤ s → aD h s v k = 0
  | [], s, v, k, _ => rfl
  | a :: h, s, v, k, hs => by
    simp only [List.length_cons] at hs
    simp only [aD]
    rw [if_neg (by omega), aD_short h s _ k (by omega), aD_short h (s - 1) v k (by omega)]; simp
theorem aD_top : ∀ (h : List Int) (s : Nat) (v : Nat → Int) (k : Nat), h.length = s + 1 → aD h s v k = fac s * (h.getD s 0 * v k)
  | [], s, v, k, h => by simp at h
  | a :: h, s, v, k, hs => by
    simp only [List.length_cons] at hs
    simp only [aD]
    rw [aD_short h s _ k (by omega)]
    cases s with
    | zero => simp [fac]
    | succ s =>
      rw [if_neg (by omega), Nat.add_sub_cancel, aD_top h s v k (by omega)]
      simp only [fac, List.getD_cons_succ, Int.zero_mul, Int.zero_add]
      rw [show ((s + 1 : Nat) : Int) = (s : Int) + 1 by omega, Int.mul_assoc]

def fall (d : Nat) : Nat → Int
  | 0 => 1
  | j + 1 => fall d j * ((d : Int) - j)

theorem fischer (h : List Int) (d : Nat) (hd : h.length = d + 1) (N m : Nat) (u : Nat → Int) (hu : Sp m u) (hN : m + (d + 1) ≤ N) : fac d * (h.getD d 0 * h.getD d 0) * fp N u u ≤ fp N (mS h 0 u) (mS h 0 u) := by
  have hW : ∀ s, 0 < s → s < d + 1 → fall d (d - s) * (s : Int) = fall d (d - (s - 1)) := by
    intro s h1 h2
    rw [show d - (s - 1) = (d - s) + 1 by omega]
    show _ = fall d (d - s) * ((d : Int) - ((d - s : Nat) : Int))
    congr 1; omega
  have hnn : ∀ j, j ≤ d → 0 ≤ fall d j := by
    intro j
    induction j with
    | zero => intro _; show (0 : Int) ≤ 1; decide
    | succ j ih => intro hj; exact Int.mul_nonneg (ih (by omega)) (by omega)
  have key := fp_key (W := fun s => fall d (d - s)) h u (hu.mono (show m ≤ N by omega)) h (d + 1) 0 (v := u) (by omega) hW ⟨m, hu, by omega⟩
  have h1 : ∀ s, s < d + 1 → 0 ≤ fall d (d - s) * fp N (aD h (0 + s) u) (aD h s u) := fun s _ => by
    rw [Nat.zero_add]; exact Int.mul_nonneg (hnn _ (by omega)) (fp_nonneg N _)
  have h2 := sm_one (j := d) (by omega) h1
  rw [← key] at h2
  have h3 : aD h d u = fun k => fac d * (h.getD d 0 * u k) := funext fun k => aD_top h d u k hd
  have h4 : fall d (d - 0) = fac d := by
    have : ∀ j, j ≤ d → fall d j * fac (d - j) = fac d := by
      intro j
      induction j with
      | zero => intro _; simp [fall]
      | succ j ih =>
        intro hj
        rw [← ih (by omega), show d - j = (d - (j + 1)) + 1 by omega]
        simp only [fall, fac]
        rw [Int.mul_assoc]
        congr 2; omega
    have h5 := this d (Nat.le_refl _)
    rw [Nat.sub_self] at h5
    rw [Nat.sub_zero, ← h5]; simp [fac]
  simp only [Nat.zero_add, Nat.sub_self] at h2
  rw [h3, fp_scal, fp_scal, fp_scal', fp_scal', h4] at h2
  have h6 : fall d 0 * (fac d * (h.getD d 0 * (fac d * (h.getD d 0 * fp N u u)))) = fac d * (fac d * (h.getD d 0 * h.getD d 0) * fp N u u) := by
    show 1 * _ = _
    simp only [rA, rB, rC, rD, rE, rF, rG, rH, rI, rJ, rK]
  rw [h6] at h2
  exact Int.le_of_mul_le_mul_left h2 (fac_pos d)

def lmul : List Int → List Int → List Int
  | [], _ => []
  | a :: h, m => ladd (m.map fun x => a * x) (0 :: lmul h m)
theorem ev_lmul (t : Int) : ∀ h m, ev t (lmul h m) = ev t h * ev t m
  | [], m => by simp [lmul, ev]
  | a :: h, m => by
    simp only [lmul, ev_ladd, ev_scal, ev, ev_lmul t h m, Int.add_mul, Int.zero_add, Int.mul_assoc]
theorem lmul_getD : ∀ (h m : List Int) (k : Nat), (lmul h m).getD k 0 = mS h 0 (fun j => m.getD j 0) k
  | [], m, k => by simp [lmul, mS]
  | a :: h, m, k => by
    simp only [lmul, ladd_getD, scal_getD, mS, if_true, Int.natCast_zero, Int.zero_mul, Int.add_zero]
    congr 1
    show _ = if k = 0 then 0 else mS h 0 (fun j => m.getD j 0) (k - 1)
    cases k with
    | zero => simp
    | succ k => rw [if_neg (by omega), Nat.add_sub_cancel, ← lmul_getD h m k]; simp

def nrm : List Int → Nat
  | [] => 0
  | a :: l => a.natAbs + nrm l

def sc (e : Nat) : List Int → List Int
  | [] => []
  | a :: l => (2 ^ e * a) :: sc (e - 1) l
theorem sc_getD : ∀ (e : Nat) (l : List Int) (k : Nat), (sc e l).getD k 0 = 2 ^ (e - k) * l.getD k 0
  | e, [], k => by simp [sc]
  | e, a :: l, 0 => by simp [sc]
  | e, a :: l, k + 1 => by
    simp only [sc, List.getD_cons_succ, sc_getD (e - 1) l k]
    rw [show e - 1 - k = e - (k + 1) by omega]
theorem sc_len : ∀ (e : Nat) (l : List Int), (sc e l).length = l.length
  | e, [] => rfl
  | e, a :: l => by simp [sc, sc_len (e - 1) l]

theorem mS_sc : ∀ (h : List Int) (d m : Nat) (u v : Nat → Int) (k : Nat), h.length = d + 1 → (∀ j, v j = 2 ^ (m - j) * u j) → Sp (m + 1) u → mS (sc d h) 0 v k = 2 ^ (d + m - k) * mS h 0 u k
  | [], d, m, u, v, k, hd, _, _ => by simp at hd
  | a :: h, d, m, u, v, k, hd, hv, hu => by
    simp only [sc, mS, if_true, Int.natCast_zero, Int.zero_mul, Int.add_zero]
    have h1 : 2 ^ d * a * v k = 2 ^ (d + m - k) * (a * u k) := by
      rw [hv]
      by_cases hk : k ≤ m
      · rw [show d + m - k = d + (m - k) by omega, Int.pow_add]
        generalize (2 : Int) ^ d = x
        generalize (2 : Int) ^ (m - k) = y
        simp only [rA, rB, rC, rD, rE, rF, rG, rH, rI, rJ, rK]
      · rw [hu k (by omega)]; simp
    rw [Int.mul_add, h1]
    congr 1
    show (if k = 0 then 0 else mS (sc (d - 1) h) 0 v (k - 1)) = 2 ^ (d + m - k) * (if k = 0 then 0 else mS h 0 u (k - 1))
    cases k with
    | zero => simp
    | succ k =>
      rw [if_neg (by omega), if_neg (by omega), Nat.add_sub_cancel]
      cases d with
      | zero =>
        obtain rfl : h = [] := List.length_eq_zero_iff.1 (by simpa using hd)
        simp [sc, mS]
      | succ d =>
        rw [Nat.add_sub_cancel, mS_sc h d m u v k (by simpa using hd) hv hu]
        rw [show d + 1 + m - (k + 1) = d + m - k by omega]

theorem weights : ∀ n, n < 11 → ∀ d, d < n + 1 → ∀ j, j < n - d + 1 → ∀ k, k < n + 1 → fac k * 4 ^ (n - k) ≤ 4 ^ n * (fac d * (fac j * 4 ^ (n - d - j))) := by decide +kernel

theorem sm_sq (F : Nat → Int) : ∀ n, sm (fun k => F k * F k) n ≤ sm (fun k => (F k).natAbs) n * sm (fun k => (F k).natAbs) n
  | 0 => by simp [sm]
  | n + 1 => by
    have ih := sm_sq F n
    have h0 : 0 ≤ sm (fun k => ((F k).natAbs : Int)) n := sm_nonneg n fun k _ => by omega
    simp only [sm]
    generalize sm (fun k => ((F k).natAbs : Int)) n = S at *
    have h1 : F n * F n = ((F n).natAbs : Int) * ((F n).natAbs : Int) := by
      rw [← Int.natCast_mul]; exact Int.natAbs_mul_self.symm
    have h2 := Int.mul_nonneg h0 (show (0 : Int) ≤ ((F n).natAbs : Int) by omega)
    rw [h1, Int.mul_add, Int.add_mul, Int.add_mul, Int.mul_comm ((F n).natAbs : Int) S]
    omega

theorem sm_nrm : ∀ (l : List Int) (n : Nat), sm (fun k => ((l.getD k 0).natAbs : Int)) n ≤ nrm l
  | [], n => by
    rw [sm_congr n (G := fun _ => 0) fun k _ => by simp, sm_zero]; simp [nrm]
  | a :: l, 0 => by simp [sm]
  | a :: l, n + 1 => by
    rw [sm_first]
    have := sm_nrm l n
    simp only [List.getD_cons_succ, List.getD_cons_zero, nrm]
    omega

theorem abs_le_of_sq {a b : Int} (hb : 0 ≤ b) (h : a * a ≤ b * b) : (a.natAbs : Int) ≤ b := by
  rcases (show b < (a.natAbs : Int) ∨ (a.natAbs : Int) ≤ b by omega) with h1 | h1
  · exfalso
    have h2 : b * b < (a.natAbs : Int) * (a.natAbs : Int) :=
      Int.lt_of_le_of_lt (Int.mul_le_mul_of_nonneg_left (Int.le_of_lt h1) hb) (Int.mul_lt_mul_of_pos_right h1 (by omega))
    rw [← Int.natCast_mul, Int.natAbs_mul_self] at h2
    omega
  · exact h1

theorem mignotte {f g h : List Int} {n m d : Nat} (hn : n ≤ 10) (hmd : m + d = n) (hg : g.length ≤ m + 1) (hh : h.length = d + 1) (hf : ∀ t, ev t f = ev t g * ev t h) (j : Nat) :
    ((h.getD d 0 * g.getD j 0).natAbs : Int) ≤ 2 ^ n * nrm f := by
  rcases Nat.lt_or_ge m j with hj | hj
  · rw [getD_out (show g.length ≤ j by omega)]
    simp only [Int.mul_zero, Int.natAbs_zero]
    exact Int.mul_nonneg (Int.le_of_lt (Int.pow_pos (by decide))) (by omega)
  · have hgs : Sp (m + 1) (fun k => g.getD k 0) := fun k hk => getD_out (by omega)
    have hgs' : Sp (m + 1) (fun k => (sc m g).getD k 0) := fun k hk => getD_out (by rw [sc_len]; omega)
    have hfk : ∀ k, f.getD k 0 = mS h 0 (fun k => g.getD k 0) k := by
      intro k
      rw [← lmul_getD]
      exact ev_ext 0 (fun t _ => by rw [ev_lmul, hf, Int.mul_comm]) k
    have key := fischer (sc d h) d (by rw [sc_len]; exact hh) (m + 1 + (d + 1)) (m + 1) _ hgs' (Nat.le_refl _)
    have h1 : (sc d h).getD d 0 = h.getD d 0 := by rw [sc_getD, Nat.sub_self]; simp
    rw [h1] at key
    have h2 : fac j * ((2 ^ (m - j) * g.getD j 0) * (2 ^ (m - j) * g.getD j 0)) ≤ fp (m + 1 + (d + 1)) (fun k => (sc m g).getD k 0) (fun k => (sc m g).getD k 0) := by
      have := sm_one (F := fun k => fac k * ((sc m g).getD k 0 * (sc m g).getD k 0)) (n := m + 1 + (d + 1)) (j := j) (by omega) (fun k _ => Int.mul_nonneg (Int.le_of_lt (fac_pos k)) (sq_nonneg _))
      simp only [sc_getD] at this ⊢
      exact this
    have h3 : fp (m + 1 + (d + 1)) (mS (sc d h) 0 fun k => (sc m g).getD k 0) (mS (sc d h) 0 fun k => (sc m g).getD k 0) = sm (fun k => fac k * 4 ^ (n - k) * (f.getD k 0 * f.getD k 0)) (m + 1 + (d + 1)) := by
      refine sm_congr _ fun k hk => ?_
      rw [mS_sc h d m (fun k => g.getD k 0) _ k hh (fun j => sc_getD m g j) hgs, ← hfk, show d + m - k = n - k by omega]
      have h4 : (4 : Int) ^ (n - k) = 2 ^ (n - k) * 2 ^ (n - k) := by rw [← Int.mul_pow]; rfl
      rw [h4]
      generalize (2 : Int) ^ (n - k) = x
      simp only [rA, rB, rC, rD, rE, rF, rG, rH, rI, rJ, rK]
    rw [h3] at key
    have hfo : ∀ k, n < k → f.getD k 0 = 0 := by
      intro k hk
      rw [hfk]
      exact Sp.mS1 h 0 hgs (by omega) k (by omega)
    have h5 : sm (fun k => fac k * 4 ^ (n - k) * (f.getD k 0 * f.getD k 0)) (m + 1 + (d + 1)) ≤ sm (fun k => 4 ^ n * (fac d * (fac j * 4 ^ (n - d - j))) * (f.getD k 0 * f.getD k 0)) (m + 1 + (d + 1)) := by
      refine sm_le _ fun k hk => ?_
      rcases Nat.lt_or_ge n k with h6 | h6
      · rw [hfo k h6]; simp
      · exact Int.mul_le_mul_of_nonneg_right (weights n (by omega) d (by omega) j (by omega) k (by omega)) (sq_nonneg _)
    rw [sm_scal] at h5
    have h6 := Int.le_trans (sm_sq (fun k => f.getD k 0) (m + 1 + (d + 1))) (Int.mul_le_mul (sm_nrm f _) (sm_nrm f _) (sm_nonneg _ fun k _ => by omega) (by omega))
    have hw : 0 < fac d * (fac j * 4 ^ (n - d - j)) := Int.mul_pos (fac_pos d) (Int.mul_pos (fac_pos j) (Int.pow_pos (by decide)))
    have h7 : fac d * (h.getD d 0 * h.getD d 0) * (fac j * ((2 ^ (m - j) * g.getD j 0) * (2 ^ (m - j) * g.getD j 0))) ≤ 4 ^ n * (fac d * (fac j * 4 ^ (n - d - j))) * ((nrm f : Int) * nrm f) := by
      refine Int.le_trans (Int.mul_le_mul_of_nonneg_left h2 (Int.mul_nonneg (Int.le_of_lt (fac_pos d)) (sq_nonneg _))) (Int.le_trans key (Int.le_trans h5 ?_))
      exact Int.mul_le_mul_of_nonneg_left h6 (Int.mul_nonneg (Int.le_of_lt (Int.pow_pos (by decide))) (Int.le_of_lt hw))
    have h8 : (4 : Int) ^ (n - d - j) = 2 ^ (m - j) * 2 ^ (m - j) := by rw [← Int.mul_pow, show n - d - j = m - j by omega]; rfl
    have h9 : (4 : Int) ^ n = 2 ^ n * 2 ^ n := by rw [← Int.mul_pow]; rfl
    refine abs_le_of_sq (Int.mul_nonneg (Int.le_of_lt (Int.pow_pos (by decide))) (by omega)) (Int.le_of_mul_le_mul_left (a := fac d * (fac j * 4 ^ (n - d - j))) ?_ hw)
    rw [h8, h9] at h7
    rw [h8]
    refine Int.le_trans (Int.le_of_eq ?_) (Int.le_trans h7 (Int.le_of_eq ?_))
    · generalize (2 : Int) ^ (m - j) = x
      simp only [rA, rB, rC, rD, rE, rF, rG, rH, rI, rJ, rK]
    · generalize (2 : Int) ^ (m - j) = x
      generalize (2 : Int) ^ n = y
      simp only [rA, rB, rC, rD, rE, rF, rG, rH, rI, rJ, rK]

end Go.Proofs.YtldcjkhbiffdoabGreatDoor

set_option linter.unusedSimpArgs false
namespace Go.Proofs.YtldcjkhbiffdoabGreatDoor

theorem pigeon : ∀ (N : Nat) (f : Nat → Nat), (∀ i, i ≤ N → f i < N) → ∃ i j, i < j ∧ j ≤ N ∧ f i = f j
  | 0, f, h => by have := h 0 (Nat.le_refl _); omega
  | N + 1, f, h => by
    by_cases h1 : ∃ i, i ≤ N ∧ f i = f (N + 1)
    · obtain ⟨i, h2, h3⟩ := h1
      exact ⟨i, N + 1, by omega, Nat.le_refl _, h3⟩
    · have h2 : ∀ i, i ≤ N → f i ≠ f (N + 1) := fun i hi e => h1 ⟨i, hi, e⟩
      have hN := h (N + 1) (Nat.le_refl _)
      obtain ⟨i, j, h3, h4, h5⟩ := pigeon N (fun i => if f (N + 1) < f i then f i - 1 else f i) (fun i hi => by
        have h3 := h i (by omega)
        have h4 := h2 i hi
        show (if f (N + 1) < f i then f i - 1 else f i) < N
        split <;> omega)
      refine ⟨i, j, h3, by omega, ?_⟩
      have h6 := h2 i (by omega)
      have h7 := h2 j (by omega)
      have h5' : (if f (N + 1) < f i then f i - 1 else f i) = (if f (N + 1) < f j then f j - 1 else f j) := h5
      split at h5' <;> split at h5' <;> omega

theorem Dom.of_trial {n : Nat} (hn : 2 ≤ n) (h : ∀ d, 2 ≤ d → d * d ≤ n → ¬ d ∣ n) : Dom (n : Int) := by
  obtain ⟨p, h1, h2, h3⟩ := prime_of n hn
  obtain ⟨m, hm⟩ := h2
  have hpm : p = n := by
    rcases Nat.lt_or_ge m 2 with h4 | h4
    · rcases (show m = 0 ∨ m = 1 by omega) with rfl | rfl
      · omega
      · omega
    · exfalso
      rcases Nat.le_total p m with h5 | h5
      · exact h p h1 (by rw [hm]; exact Nat.mul_le_mul_left _ h5) ⟨m, hm⟩
      · exact h m h4 (by rw [hm]; exact Nat.mul_le_mul_right _ h5) ⟨p, by rw [hm, Nat.mul_comm]⟩
  rw [← hpm]; exact h3

theorem Dom.only {n : Nat} (hn : 2 ≤ n) (h : Dom (n : Int)) {d : Nat} (hd : d ∣ n) : d = 1 ∨ d = n := by
  obtain ⟨m, hm⟩ := hd
  have h1 : (n : Int) ∣ (d : Int) * (m : Int) := by rw [← Int.natCast_mul, ← hm]; exact Int.dvd_refl _
  have hd0 : 0 < d := by rcases Nat.eq_zero_or_pos d with rfl | h; (· simp at hm; omega); exact h
  have hm0 : 0 < m := by rcases Nat.eq_zero_or_pos m with rfl | h; (· simp at hm; omega); exact h
  rcases h.1 _ _ h1 with h2 | h2
  · right
    have h3 := Nat.le_of_dvd hd0 (Int.natCast_dvd_natCast.1 h2)
    have h4 := Nat.le_of_dvd (by omega) (show d ∣ n from ⟨m, hm⟩)
    omega
  · left
    have h3 := Nat.le_of_dvd hm0 (Int.natCast_dvd_natCast.1 h2)
    rcases Nat.lt_or_ge d 2 with h4 | h4
    · omega
    · exfalso
      have : 2 * m ≤ d * m := Nat.mul_le_mul_right _ h4
      omega

theorem Dom.not_dvd {p q : Nat} (hp : 2 ≤ p) (hq : 2 ≤ q) (hdq : Dom (q : Int)) (hne : p ≠ q) : ¬ (p : Int) ∣ (q : Int) := fun h => by
  rcases hdq.only hq (Int.natCast_dvd_natCast.1 h) with h1 | h1 <;> omega

def prd : List Nat → Nat
  | [] => 1
  | p :: l => p * prd l

theorem prd_not {p : Nat} (hp : 2 ≤ p) (hd : Dom (p : Int)) : ∀ l : List Nat, (∀ q, q ∈ l → 2 ≤ q ∧ Dom (q : Int) ∧ q ≠ p) → ¬ (p : Int) ∣ (prd l : Int)
  | [], _ => by simpa [prd] using hd.2
  | q :: l, h => by
    obtain ⟨h1, h2, h3⟩ := h q (List.mem_cons_self ..)
    simp only [prd, Int.natCast_mul]
    exact hd.mul (Dom.not_dvd hp h1 h2 (fun e => h3 e.symm)) (prd_not hp hd l fun x hx => h x (List.mem_cons_of_mem _ hx))

def Asc : List Nat → Prop
  | [] => True
  | p :: l => (∀ q, q ∈ l → p < q) ∧ Asc l

theorem prd_dvd : ∀ (l : List Nat), Asc l → (∀ q, q ∈ l → 2 ≤ q ∧ Dom (q : Int)) → ∀ z : Int, (∀ q, q ∈ l → (q : Int) ∣ z) → (prd l : Int) ∣ z
  | [], _, _, z, _ => by simp [prd]
  | p :: l, ha, h, z, hz => by
    obtain ⟨y, rfl⟩ := prd_dvd l ha.2 (fun q hq => h q (List.mem_cons_of_mem _ hq)) z (fun q hq => hz q (List.mem_cons_of_mem _ hq))
    obtain ⟨h1, h2⟩ := h p (List.mem_cons_self ..)
    have h3 := prd_not h1 h2 l fun q hq => ⟨(h q (List.mem_cons_of_mem _ hq)).1, (h q (List.mem_cons_of_mem _ hq)).2, by have := ha.1 q hq; omega⟩
    obtain ⟨x, rfl⟩ := (h2.1 _ _ (hz p (List.mem_cons_self ..))).resolve_left h3
    exact ⟨x, by simp only [prd, Int.natCast_mul]; simp only [rA, rB, rC, rD, rE, rF, rG, rH, rI, rJ, rK]⟩

def code (K M : Nat) (z : Int) : List Int → Nat
  | [] => 0
  | a :: l => ((z * a % M) * K / M).toNat + K * code K M z l

theorem box_lt {K M : Nat} (hK : 0 < K) (hM : 0 < M) (x : Int) : 0 ≤ x % M * K / M ∧ (x % M * K / M).toNat < K := by
  have h1 : 0 ≤ x % M := Int.emod_nonneg _ (by omega)
  have h2 : x % M < M := Int.emod_lt_of_pos _ (by omega)
  have h3 : 0 ≤ x % M * K := Int.mul_nonneg h1 (by omega)
  have h4 : 0 ≤ x % M * K / M := Int.ediv_nonneg h3 (by omega)
  have h5 : x % M * K / M < K := Int.ediv_lt_of_lt_mul (by omega) (by rw [Int.mul_comm (K : Int)]; exact Int.mul_lt_mul_of_pos_right h2 (by omega))
  exact ⟨h4, by omega⟩

theorem code_lt {K M : Nat} (hK : 0 < K) (hM : 0 < M) (z : Int) : ∀ l, code K M z l < K ^ l.length
  | [] => by simp [code]
  | a :: l => by
    have h1 := code_lt hK hM z l
    have h2 := (box_lt hK hM (z * a)).2
    simp only [code, List.length_cons, Nat.pow_succ]
    have h3 : K * (code K M z l + 1) ≤ K * K ^ l.length := Nat.mul_le_mul_left _ h1
    rw [Nat.mul_add, Nat.mul_one] at h3
    rw [Nat.mul_comm (K ^ l.length)]
    omega

theorem code_eq {K M : Nat} (hK : 0 < K) (hM : 0 < M) (y z : Int) : ∀ l, code K M y l = code K M z l → ∀ a, a ∈ l → (((z * a % M) - (y * a % M)) * K).natAbs < M
  | [], _, a, h => by cases h
  | b :: l, e, a, ha => by
    simp only [code] at e
    have h1 := box_lt hK hM (y * b)
    have h2 := box_lt hK hM (z * b)
    have h3 : (y * b % M * K / M).toNat = (z * b % M * K / M).toNat ∧ code K M y l = code K M z l := by
      have e1 : ((y * b % M * K / M).toNat + K * code K M y l) % K = ((z * b % M * K / M).toNat + K * code K M z l) % K := by rw [e]
      rw [Nat.add_mul_mod_self_left, Nat.add_mul_mod_self_left, Nat.mod_eq_of_lt h1.2, Nat.mod_eq_of_lt h2.2] at e1
      refine ⟨e1, ?_⟩
      rw [e1] at e
      exact Nat.eq_of_mul_eq_mul_left hK (Nat.add_left_cancel e)
    rcases List.mem_cons.1 ha with rfl | ha
    · have h4 : y * a % M * K / M = z * a % M * K / M := by have := h3.1; omega
      have h5 := Int.mul_ediv_add_emod (y * a % M * K) M
      have h6 := Int.mul_ediv_add_emod (z * a % M * K) M
      have h7 := Int.emod_nonneg (y * a % M * K) (show (M : Int) ≠ 0 by omega)
      have h8 := Int.emod_nonneg (z * a % M * K) (show (M : Int) ≠ 0 by omega)
      have h9 := Int.emod_lt_of_pos (y * a % M * K) (show (0 : Int) < M by omega)
      have h10 := Int.emod_lt_of_pos (z * a % M * K) (show (0 : Int) < M by omega)
      rw [h4] at h5
      rw [Int.sub_mul]
      generalize y * a % M * K = Y at *
      generalize z * a % M * K = Z at *
      generalize Z / M = q at *
      omega
    · exact code_eq hK hM y z l h3.2 a ha

theorem ev_map2 (t w : Int) (M : Int) (E : Int → Int) : ∀ l : List Int, ev t (l.map fun a => w * a + M * E a) = w * ev t l + M * ev t (l.map E)
  | [] => by simp [ev]
  | a :: l => by
    simp only [List.map_cons, ev, ev_map2 t w M E l]
    simp only [rA, rB, rC, rD, rE, rF, rG, rH, rI, rJ, rK]
    omega

theorem lmul_bd {K M : Int} (hK : 0 ≤ K) (A : List Int) (hA : ∀ k, ((A.getD k 0).natAbs : Int) * K ≤ M) : ∀ (F : List Int) (k : Nat), (((lmul F A).getD k 0).natAbs : Int) * K ≤ M * nrm F
  | [], k => by simp [lmul, nrm]
  | f :: F, k => by
    have hM : 0 ≤ M := Int.le_trans (Int.mul_nonneg (by omega) hK) (hA 0)
    simp only [lmul, ladd_getD, scal_getD, nrm]
    have h1 : ((0 :: lmul F A).getD k 0).natAbs * K ≤ M * nrm F := by
      cases k with
      | zero => simp; exact Int.mul_nonneg hM (by omega)
      | succ k => simpa using lmul_bd hK A hA F k
    have h2 : ((f * A.getD k 0).natAbs : Int) * K ≤ M * f.natAbs := by
      rw [Int.natAbs_mul, Int.natCast_mul, Int.mul_assoc, Int.mul_comm M]
      exact Int.mul_le_mul_of_nonneg_left (hA k) (by omega)
    have h3 : ((f * A.getD k 0 + (0 :: lmul F A).getD k 0).natAbs : Int) ≤ (f * A.getD k 0).natAbs + ((0 :: lmul F A).getD k 0).natAbs := by omega
    have h4 := Int.mul_le_mul_of_nonneg_right h3 hK
    rw [Int.add_mul] at h4
    rw [Int.natCast_add, Int.mul_add]
    omega

theorem thue {K M : Nat} (hK : 0 < K) {A B : List Int} (hM : K ^ (A.length + B.length) < M) : ∃ (w : Int) (A' B' E1 E2 : List Int), 0 < w ∧ w < M ∧ A'.length = A.length ∧ B'.length = B.length ∧ (∀ t, ev t A' = w * ev t A + M * ev t E1) ∧ (∀ t, ev t B' = w * ev t B + M * ev t E2) ∧
    (∀ k, ((A'.getD k 0).natAbs : Int) * K ≤ M) ∧ ∀ k, ((B'.getD k 0).natAbs : Int) * K ≤ M := by
  have hM0 : 0 < M := by omega
  obtain ⟨y, z, h1, h2, h3⟩ := pigeon (K ^ (A ++ B).length) (fun i => code K M (i : Int) (A ++ B)) (fun i _ => code_lt hK hM0 _ _)
  rw [List.length_append] at h2
  have hc := code_eq hK hM0 _ _ _ h3
  have hD : ∀ a : Int, ((z : Int) * a % M) - ((y : Int) * a % M) = ((z : Int) - y) * a + M * ((y : Int) * a / M - (z : Int) * a / M) := by
    intro a
    have h4 := Int.mul_ediv_add_emod ((z : Int) * a) M
    have h5 := Int.mul_ediv_add_emod ((y : Int) * a) M
    rw [Int.sub_mul, Int.mul_sub]
    omega
  have hb : ∀ l : List Int, (∀ a, a ∈ l → a ∈ A ++ B) → ∀ k, (((l.map fun a => ((z : Int) - y) * a + M * ((y : Int) * a / M - (z : Int) * a / M)).getD k 0).natAbs : Int) * K ≤ M := by
    intro l hl k
    rcases Nat.lt_or_ge k l.length with h | h
    · have h4 := hc _ (hl _ (List.getElem_mem h))
      rw [Int.natAbs_mul, hD] at h4
      rw [List.getD, List.getElem?_map, List.getElem?_eq_getElem h]
      simp only [Option.map_some, Option.getD_some]
      rw [← Int.natCast_mul]
      have : ((K : Nat) : Int).natAbs = K := Int.natAbs_natCast K
      rw [this] at h4
      omega
    · rw [getD_out (by simpa using h)]; simp
  exact ⟨(z : Int) - y, _, _, _, _, by omega, by omega, by rw [List.length_map], by rw [List.length_map], fun t => ev_map2 t _ _ _ A, fun t => ev_map2 t _ _ _ B, hb A fun a h => List.mem_append_left _ h, hb B fun a h => List.mem_append_right _ h⟩

def BadP (F F' : Int → Int) (n p : Nat) : Prop := ∃ A B : List Int, A.length ≤ n - 1 ∧ B.length ≤ n ∧ Zm p (fun t => ev t A * F t + ev t B * F' t) ∧ ¬ (Zm p (fun t => ev t A) ∧ Zm p (fun t => ev t B))

theorem bad_of {F F' : Int → Int} {n p : Nat} {c : Int} (hn : 0 < n) (hp : Dom (p : Int)) (hF : Ld n c F) (hF' : Ld (n - 1) (n * c) F') (hz : ¬ Zm p F) (h : ¬ (¬ (p : Int) ∣ c ∧ Cop p F F')) : BadP F F' n p := by
  by_cases hc : (p : Int) ∣ c
  · obtain ⟨g, ⟨G, h1, h1'⟩, h2⟩ := hF
    obtain ⟨g', ⟨G', h3, h3'⟩, h4⟩ := hF'
    have e1 : Zm p (fun t => F t - g t) := (Zm.of_dvd (Po.xpow n) hc).congr fun t => by rw [h2]; omega
    have e2 : Zm p (fun t => F' t - g' t) := (Zm.of_dvd (c := n * c) (Po.xpow (n - 1)) (Int.dvd_trans hc (Int.dvd_mul_left ..))).congr fun t => by rw [h4]; omega
    have pg : Po g := ⟨_, G, h1, h1'⟩
    have pg' : Po g' := ⟨_, G', h3, h3'⟩
    refine ⟨G', G.map fun x => -1 * x, h3, by simpa using h1, ?_, fun h => hz ?_⟩
    · refine ((e1.mul pg').sub (e2.mul pg)).congr fun t => ?_
      show ev t G' * F t + ev t (G.map fun x => -1 * x) * F' t = g' t * (F t - g t) - g t * (F' t - g' t)
      rw [ev_scal, ← h1', ← h3']
      simp only [rA, rB, rC, rD, rE, rF, rG, rH, rI, rJ, rK]
      omega
    · refine (e1.sub h.2).congr fun t => ?_
      show F t = F t - g t - ev t (G.map fun x => -1 * x)
      rw [ev_scal, ← h1']; omega
  · have hcop : ¬ Cop p F F' := fun h' => h ⟨hc, h'⟩
    have hFd : Dm p n F := Dm.of_ld hF hc
    have hpl' : Pl n F' := by have := hF'.pl; rwa [show n - 1 + 1 = n by omega] at this
    obtain ⟨u, v, d, k, a', b', g1, g2, ⟨N, g3⟩, ⟨N1, g4⟩, ⟨N2, g5⟩, g6, g7, g8, g9, g10⟩ := bezout hp n hF.po hpl' (fun h => hz h.1)
    rcases Zm.or_dm (m := p) g3 with q1 | ⟨e, _, q1⟩
    · exact absurd q1 g6
    · have he : 0 < e := by
        rcases Nat.eq_zero_or_pos e with rfl | h'
        · obtain ⟨k0, q2, q3⟩ := q1.zero
          exact absurd ⟨u, v, k0, g1, g2, q2, (g8.add q3).congr fun t => by omega⟩ hcop
        · exact h'
      rcases Zm.or_dm (m := p) g4 with q2 | ⟨j, _, q2⟩
      · exact absurd ((g9.add (q2.mul g3.po)).congr (g := fun t => k * F t) fun t => by omega) (hFd.scal hp g7).not
      · have q3 := ((q1.mul hp q2).alike (g := fun t => k * F t) g9).uniq (hFd.scal hp g7)
        have ⟨_, a0, _, z3, q5⟩ := q2
        have ha0 : Pl n a0 := z3.pl.mono (by omega)
        have hb0 : ∃ b0, Pl (n - 1) b0 ∧ Zm p (fun t => b' t - b0 t) := by
          rcases Zm.or_dm (m := p) g5 with w1 | ⟨i, _, d0, b0, w1, w2, w3⟩
          · exact ⟨fun _ => 0, Pl.zero _, w1.congr fun t => Int.sub_zero _⟩
          · refine ⟨b0, ?_, w3⟩
            have w4 : Dm p i b' := ⟨d0, b0, w1, w2, w3⟩
            have w5 := (q1.mul hp w4).le (n := n) (g := fun t => k * F' t) (hpl'.scal k) (g10.neg.congr fun t => by omega)
            exact w2.pl.mono (by omega)
        obtain ⟨b0, hb1, hb2⟩ := hb0
        obtain ⟨B0, x1, x2⟩ := ha0
        obtain ⟨B1, x3, x4⟩ := hb1
        have pa0 : Po a0 := ⟨_, B0, x1, x2⟩
        have pb0 : Po b0 := ⟨_, B1, x3, x4⟩
        refine ⟨B1, B0.map fun x => -1 * x, x3, by simpa using x1, ?_, fun hh => q2.not ?_⟩
        · refine Zm.of_scal hp g7 ((pb0.mul hF.po).add ((Po.ev (B0.map fun x => -1 * x)).mul hF'.po) |>.congr fun t => by rw [← x4]) ?_
          refine (((g9.mul pb0).sub (g10.mul pa0)).add (((q5.mul pb0).sub (hb2.mul pa0)).mul g3.po)).congr fun t => ?_
          show k * (ev t B1 * F t + ev t (B0.map fun x => -1 * x) * F' t) = b0 t * (k * F t - d t * a' t) - a0 t * (k * F' t - d t * b' t) + d t * (b0 t * (a' t - a0 t) - a0 t * (b' t - b0 t))
          rw [ev_scal, ← x2, ← x4]
          simp only [rA, rB, rC, rD, rE, rF, rG, rH, rI, rJ, rK]
          omega
        · refine (q5.sub hh.2).congr fun t => ?_
          show a' t = a' t - a0 t - ev t (B0.map fun x => -1 * x)
          rw [ev_scal, ← x2]; omega

theorem bad_all {F F' : Int → Int} {n : Nat} (hF : Po F) (hF' : Po F') : ∀ l : List Nat, Asc l → (∀ q, q ∈ l → 2 ≤ q ∧ Dom (q : Int) ∧ BadP F F' n q) →
    ∃ A B : List Int, A.length ≤ n - 1 ∧ B.length ≤ n ∧ Zm (prd l) (fun t => ev t A * F t + ev t B * F' t) ∧ ∀ q, q ∈ l → ¬ (Zm q (fun t => ev t A) ∧ Zm q (fun t => ev t B))
  | [], _, _ => ⟨[], [], by simp, by simp, Zm.of_zero _ fun t => by simp [ev], fun q hq => by cases hq⟩
  | p :: l, ha, h => by
    obtain ⟨A, B, h1, h2, h3, h4⟩ := bad_all hF hF' l ha.2 fun q hq => h q (List.mem_cons_of_mem _ hq)
    obtain ⟨hp, hd, A', B', h5, h6, h7, h8⟩ := h p (List.mem_cons_self ..)
    have hnp := prd_not hp hd l fun q hq => ⟨(h q (List.mem_cons_of_mem _ hq)).1, (h q (List.mem_cons_of_mem _ hq)).2.1, by have := ha.1 q hq; omega⟩
    refine ⟨ladd (A.map fun x => (p : Int) * x) (A'.map fun x => (prd l : Int) * x), ladd (B.map fun x => (p : Int) * x) (B'.map fun x => (prd l : Int) * x), ladd_len _ _ _ (by simpa using h1) (by simpa using h5), ladd_len _ _ _ (by simpa using h2) (by simpa using h6), ?_, fun q hq hz => ?_⟩
    · obtain ⟨g, g1, g2⟩ := h3
      obtain ⟨g', g3, g4⟩ := h7
      refine ⟨fun t => g t + g' t, g1.add g3, fun t => ?_⟩
      have e1 : ev t A * F t + ev t B * F' t = (prd l : Int) * g t := g2 t
      have e2 : ev t A' * F t + ev t B' * F' t = (p : Int) * g' t := g4 t
      show ev t (ladd (A.map fun x => (p : Int) * x) (A'.map fun x => (prd l : Int) * x)) * F t + ev t (ladd (B.map fun x => (p : Int) * x) (B'.map fun x => (prd l : Int) * x)) * F' t = (prd (p :: l) : Int) * (g t + g' t)
      rw [ev_ladd, ev_ladd, ev_scal, ev_scal, ev_scal, ev_scal]
      simp only [prd, Int.natCast_mul]
      have e3 := congrArg (fun z => (p : Int) * z) e1
      have e4 := congrArg (fun z => (prd l : Int) * z) e2
      revert e3 e4
      generalize (prd l : Int) = P
      simp only [rA, rB, rC, rD, rE, rF, rG, rH, rI, rJ, rK]
      omega
    · rcases List.mem_cons.1 hq with rfl | hq
      · refine h8 ⟨Zm.of_scal hd hnp (Po.ev _) ?_, Zm.of_scal hd hnp (Po.ev _) ?_⟩
        · exact (hz.1.sub (Zm.of_dvd (Po.ev A) (Int.dvd_refl _))).congr fun t => by simp only [ev_ladd, ev_scal]; omega
        · exact (hz.2.sub (Zm.of_dvd (Po.ev B) (Int.dvd_refl _))).congr fun t => by simp only [ev_ladd, ev_scal]; omega
      · obtain ⟨q2, qd, _⟩ := h q (List.mem_cons_of_mem _ hq)
        have hne : ¬ (q : Int) ∣ (p : Int) := Dom.not_dvd q2 hp hd (by have := ha.1 q hq; omega)
        have hdv : (q : Int) ∣ (prd l : Int) := by
          have : ∀ l : List Nat, q ∈ l → (q : Int) ∣ (prd l : Int) := by
            intro l
            induction l with
            | nil => intro h; cases h
            | cons x l ih =>
              intro h
              simp only [prd, Int.natCast_mul]
              rcases List.mem_cons.1 h with rfl | h
              · exact Int.dvd_mul_right ..
              · exact Int.dvd_trans (ih h) (Int.dvd_mul_left ..)
          exact this l hq
        refine h4 q hq ⟨Zm.of_scal qd hne (Po.ev _) ?_, Zm.of_scal qd hne (Po.ev _) ?_⟩
        · exact (hz.1.sub (Zm.of_dvd (Po.ev A') hdv)).congr fun t => by simp only [ev_ladd, ev_scal]; omega
        · exact (hz.2.sub (Zm.of_dvd (Po.ev B') hdv)).congr fun t => by simp only [ev_ladd, ev_scal]; omega

theorem dvd_prd {q : Nat} : ∀ l : List Nat, q ∈ l → ∃ r, prd l = q * r
  | [], h => by cases h
  | x :: l, h => by
    rcases List.mem_cons.1 h with rfl | h
    · exact ⟨prd l, rfl⟩
    · obtain ⟨r, hr⟩ := dvd_prd l h
      exact ⟨x * r, by simp only [prd, hr]; rw [Nat.mul_left_comm]⟩

theorem not_all_bad {F F' : List Int} {n : Nat} {c : Int} {K : Nat} {l : List Nat} (hn : 0 < n) (hF : Ld n c (fun t => ev t F)) (hc : c ≠ 0) (hcop : Cop 0 (fun t => ev t F) (fun t => ev t F')) (hK : 2 * (nrm F + nrm F') ≤ K) (hK0 : 0 < K)
    (ha : Asc l) (hM : K ^ (2 * n - 1) < prd l) (h : ∀ q, q ∈ l → 2 ≤ q ∧ Dom (q : Int) ∧ BadP (fun t => ev t F) (fun t => ev t F') n q) : False := by
  obtain ⟨A, B, h1, h2, h3, h4⟩ := bad_all (Po.ev F) (Po.ev F') l ha h
  have hM' : K ^ (A.length + B.length) < prd l := Nat.lt_of_le_of_lt (Nat.pow_le_pow_right hK0 (by omega)) hM
  obtain ⟨w, A', B', E1, E2, g1, g2, g3, g4, g5, g6, g7, g8⟩ := thue hK0 hM'
  have hM0 : 0 < prd l := by omega
  -- the combination is 0
  have z1 : Zm (prd l) (fun t => ev t (ladd (lmul F A') (lmul F' B')) - ev t []) := by
    refine (((h3.scal w).add (Zm.of_dvd ((Po.ev E1).mul (Po.ev F)) (Int.dvd_refl _))).add (Zm.of_dvd ((Po.ev E2).mul (Po.ev F')) (Int.dvd_refl _))).congr fun t => ?_
    show ev t (ladd (lmul F A') (lmul F' B')) - ev t [] = w * (ev t A * ev t F + ev t B * ev t F') + (prd l : Int) * (ev t E1 * ev t F) + (prd l : Int) * (ev t E2 * ev t F')
    rw [ev_ladd, ev_lmul, ev_lmul, g5, g6]
    simp only [ev]
    generalize (prd l : Int) = P
    simp only [rA, rB, rC, rD, rE, rF, rG, rH, rI, rJ, rK]
    omega
  have bd : ∀ k, 2 * (((ladd (lmul F A') (lmul F' B')).getD k 0).natAbs : Int) ≤ (prd l : Int) := by
    intro k
    have b1 := lmul_bd (K := (K : Int)) (by omega) A' g7 F k
    have b2 := lmul_bd (K := (K : Int)) (by omega) B' g8 F' k
    rw [ladd_getD]
    have b3 : (((lmul F A').getD k 0 + (lmul F' B').getD k 0).natAbs : Int) ≤ ((lmul F A').getD k 0).natAbs + ((lmul F' B').getD k 0).natAbs := by omega
    have b4 := Int.mul_le_mul_of_nonneg_right b3 (show (0 : Int) ≤ K by omega)
    rw [Int.add_mul] at b4
    have b5 : (prd l : Int) * nrm F + (prd l : Int) * nrm F' = (prd l : Int) * ((nrm F + nrm F' : Nat) : Int) := by rw [← Int.mul_add, Int.natCast_add]
    have b6 : (prd l : Int) * (2 * ((nrm F + nrm F' : Nat) : Int)) ≤ (prd l : Int) * K := Int.mul_le_mul_of_nonneg_left (by omega) (by omega)
    refine Int.le_of_mul_le_mul_right (a := (K : Int)) ?_ (by omega)
    rw [Int.mul_assoc]
    rw [Int.mul_left_comm] at b6
    omega
  have z2 : ∀ t, ev t F * ev t A' + ev t F' * ev t B' = 0 := by
    intro t
    have := near_eq z1 bd (fun k => by simp; omega) t
    rw [ev_ladd, ev_lmul, ev_lmul] at this
    exact this
  have hFd : Dm 0 n (fun t => ev t F) := ld_dm0 hF hc
  have z3 : Zm 0 (fun t => ev t B') := by
    have d1 : Dv 0 (fun t => ev t F) (fun t => ev t F' * ev t B') := ⟨1, fun t => - ev t A', Dom.zero.2, (Po.ev A').neg, Zm.of_zero _ fun t => by
      have := z2 t
      show 1 * (ev t F' * ev t B') - ev t F * - ev t A' = 0
      rw [Int.mul_neg]; omega⟩
    have d2 := hcop.dv Dom.zero (Po.ev B') d1
    rcases Zm.or_dm (m := 0) (Pl.ev B') with h' | ⟨e, he, h'⟩
    · exact h'
    · obtain ⟨_, _, j, _, _, q, _⟩ := d2.deg Dom.zero hFd h'
      omega
  have z4 : Zm 0 (fun t => ev t A') := by
    have : Zm 0 (fun t => ev t F * ev t A') := Zm.of_zero _ fun t => by
      have q1 := z2 t
      have q2 : ev t B' = 0 := z3.eq0 t
      rw [q2] at q1; omega
    exact (Zm.or Dom.zero (Po.ev F) (Po.ev A') this).resolve_left hFd.not
  have hw : ∀ q, q ∈ l → (q : Int) ∣ w := by
    intro q hq
    obtain ⟨q2, qd, _⟩ := h q hq
    refine Classical.byContradiction fun hnw => ?_
    obtain ⟨r, hr⟩ := dvd_prd l hq
    refine h4 q hq ⟨Zm.of_scal qd hnw (Po.ev A) ⟨_, (Po.ev E1).scal (-(r : Int)), fun t => ?_⟩, Zm.of_scal qd hnw (Po.ev B) ⟨_, (Po.ev E2).scal (-(r : Int)), fun t => ?_⟩⟩
    · have q1 := g5 t
      have q3 : ev t A' = 0 := z4.eq0 t
      rw [q3, hr, Int.natCast_mul, Int.mul_assoc] at q1
      show w * ev t A = (q : Int) * (-(r : Int) * ev t E1)
      rw [Int.neg_mul, Int.mul_neg]; omega
    · have q1 := g6 t
      have q3 : ev t B' = 0 := z3.eq0 t
      rw [q3, hr, Int.natCast_mul, Int.mul_assoc] at q1
      show w * ev t B = (q : Int) * (-(r : Int) * ev t E2)
      rw [Int.neg_mul, Int.mul_neg]; omega
  have := prd_dvd l ha (fun q hq => ⟨(h q hq).1, (h q hq).2.1⟩) w hw
  have := Int.le_of_dvd g1 this
  omega

def tp (n : Nat) : Bool := decide (2 ≤ n) && (List.range 32).all fun d => decide (d < 2) || decide (n < d * d) || decide (n % d ≠ 0)
def ps : List Nat := (List.range 1000).filter tp
def asc : List Nat → Bool
  | [] => true
  | p :: l => l.all (fun q => decide (p < q)) && asc l
theorem asc_Asc : ∀ l, asc l = true → Asc l
  | [], _ => trivial
  | p :: l, h => by
    simp only [asc, Bool.and_eq_true, List.all_eq_true, decide_eq_true_eq] at h
    exact ⟨h.1, asc_Asc l h.2⟩
theorem ps_asc : asc ps = true := by decide +kernel
theorem ps_prd : (10 ^ 19) ^ 19 < prd ps := by decide +kernel
theorem ps_mem {q : Nat} (h : q ∈ ps) : 2 ≤ q ∧ q < 1000 ∧ Dom (q : Int) := by
  unfold ps at h
  rw [List.mem_filter] at h
  obtain ⟨h1, h2⟩ := h
  have h1 := List.mem_range.1 h1
  simp only [tp, Bool.and_eq_true, List.all_eq_true, decide_eq_true_eq, Bool.or_eq_true] at h2
  refine ⟨h2.1, h1, Dom.of_trial h2.1 fun d hd hdd hdv => ?_⟩
  have hd32 : d < 32 := by
    rcases Nat.lt_or_ge d 32 with h | h
    · exact h
    · have := Nat.mul_le_mul h h; omega
  rcases h2.2 d (List.mem_range.2 hd32) with (h3 | h3) | h3
  · omega
  · omega
  · exact h3 (Nat.mod_eq_zero_of_dvd hdv)

theorem ps_all : ∃ l : List Nat, (∀ q, q ∈ l → 2 ≤ q ∧ q < 1000 ∧ Dom (q : Int)) ∧ Asc l ∧ (10 ^ 19) ^ 19 < prd l := by
  have h : ∀ l, l = ps → (∀ q, q ∈ l → 2 ≤ q ∧ q < 1000 ∧ Dom (q : Int)) ∧ Asc l ∧ (10 ^ 19) ^ 19 < prd l :=
    fun l e => ⟨fun q hq => ps_mem (by rw [← e]; exact hq), asc_Asc l (by rw [e]; exact ps_asc), by rw [e]; exact ps_prd⟩
  exact ⟨ps, h ps rfl⟩

theorem fits {F F' : List Int} {n : Nat} {c : Int} (hn : 0 < n) (hn10 : n ≤ 10) (hF : Ld n c (fun t => ev t F)) (hc : c ≠ 0) (hF' : Ld (n - 1) (n * c) (fun t => ev t F')) (hprm : Prm (fun t => ev t F)) (hcop : Cop 0 (fun t => ev t F) (fun t => ev t F')) (hK : 2 * (nrm F + nrm F') ≤ 10 ^ 19) :
    ∃ p : Nat, 2 ≤ p ∧ p < 1000 ∧ Dom (p : Int) ∧ ¬ (p : Int) ∣ c ∧ Cop p (fun t => ev t F) (fun t => ev t F') := by
  refine Classical.byContradiction fun hno => ?_
  obtain ⟨l, hl, hA, hM⟩ := ps_all
  have h0 : 0 < 10 ^ 19 := Nat.pow_pos (by decide)
  generalize 10 ^ 19 = K at hM hK h0
  have hP : K ^ (2 * n - 1) < prd l := Nat.lt_of_le_of_lt (Nat.pow_le_pow_right h0 (by omega)) hM
  refine not_all_bad (l := l) hn hF hc hcop hK h0 hA hP fun q hq => ?_
  obtain ⟨h1, h2, h3⟩ := hl q hq
  exact ⟨h1, h3, bad_of hn h3 hF hF' (hprm.2 q h1 h3) fun h => hno ⟨q, h1, h2, h3, h⟩⟩

end Go.Proofs.YtldcjkhbiffdoabGreatDoor
