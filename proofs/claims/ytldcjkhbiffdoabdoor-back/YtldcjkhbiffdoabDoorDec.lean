/-
  Decimal texts: plain facts.
-/
import Derived.Lib.ItoaNum
import Derived.Test.YtldcjkhbiffdoabDoorMath
namespace Go.Proofs.YtldcjkhbiffdoabDoor
open Go

/-- The k last decimal digits of n. -/
def padk : Nat → Nat → List UInt8
  | 0, _ => []
  | k + 1, n => padk k (n / 10) ++ [UInt8.ofNat (48 + n % 10)]

theorem dec_big {n : Nat} (h : ¬ n < 10) : Lib.decDigits n = Lib.decDigits (n / 10) ++ [UInt8.ofNat (48 + n % 10)] := by rw [Lib.decDigits, dif_neg h]

theorem dec_pad (q : Nat) (hq : 0 < q) : ∀ (k x : Nat), x < 10 ^ k → Lib.decDigits (q * 10 ^ k + x) = Lib.decDigits q ++ padk k x
  | 0, x, h => by
    have : x = 0 := by simp at h; exact h
    subst this; simp [padk]
  | k + 1, x, h => by
    rw [Nat.pow_succ] at h
    have h1 : 0 < 10 ^ k := Nat.pow_pos (by omega)
    have h2 : q * 10 ^ (k + 1) = q * 10 ^ k * 10 := by rw [Nat.pow_succ, Nat.mul_assoc]
    have h3 : 1 * 1 ≤ q * 10 ^ k := Nat.mul_le_mul hq h1
    rw [h2]
    generalize hp : q * 10 ^ k = p at *
    rw [dec_big (by omega), show (p * 10 + x) / 10 = p + x / 10 by omega, show (p * 10 + x) % 10 = x % 10 by omega, ← hp, dec_pad q hq k (x / 10) (by omega)]
    simp [padk]

theorem pad_eq : ∀ (k n : Nat), n < 10 ^ (k + 1) → padk (k + 1) n = List.replicate (k + 1 - Lib.nDigits n) 48 ++ Lib.decDigits n
  | 0, n, h => by
    have h : n < 10 := by simpa using h
    rw [Lib.nDigits_small h, Lib.decDigits_one h]
    simp [padk, Nat.mod_eq_of_lt h]
  | k + 1, n, h => by
    rw [Nat.pow_succ] at h
    show padk (k + 1) (n / 10) ++ [UInt8.ofNat (48 + n % 10)] = _
    rw [pad_eq k (n / 10) (by omega)]
    by_cases hn : n < 10
    · have h0 : n / 10 = 0 := by omega
      rw [h0, Lib.nDigits_small hn, Lib.nDigits_small (by omega), Lib.decDigits_one hn, Lib.decDigits_one (by omega), Nat.mod_eq_of_lt hn]
      rw [show k + 1 + 1 - 1 = (k + 1 - 1) + 1 by omega, List.replicate_succ']
      rfl
    · rw [Lib.nDigits_big hn, dec_big hn, show k + 1 + 1 - (Lib.nDigits (n / 10) + 1) = k + 1 - Lib.nDigits (n / 10) by omega, List.append_assoc]

/-- The text of limbs, one limb more. -/
theorem dec_limb (q x : Int) (hq : 0 < q) (h0 : 0 ≤ x) (h1 : x < 1000000000) : Lib.decDigits (x + 1000000000 * q).toNat = Lib.decDigits q.toNat ++ padk 9 x.toNat := by
  rw [show (x + 1000000000 * q).toNat = q.toNat * 10 ^ 9 + x.toNat by omega]
  exact dec_pad q.toNat (by omega) 9 x.toNat (by omega)

theorem pad9 (x : Int) (h0 : 0 ≤ x) (h1 : x < 1000000000) : List.replicate (9 - Lib.nDigits x.toNat) 48 ++ Lib.decDigits x.toNat = padk 9 x.toNat := (pad_eq 8 x.toNat (by omega)).symm

theorem pow_nDigits (u : Nat) : 10 ^ (Lib.nDigits u - 1) ≤ u ∨ u = 0 := by
  induction u using Nat.strongRecOn with
  | _ u ih =>
    by_cases hu : u < 10
    · rw [Lib.nDigits_small hu]; simp; omega
    · left
      rw [Lib.nDigits_big hu]
      rcases ih (u / 10) (by omega) with h3 | h3
      · have := Lib.nDigits_pos (u / 10)
        rw [show Lib.nDigits (u / 10) + 1 - 1 = (Lib.nDigits (u / 10) - 1) + 1 by omega, Nat.pow_succ]
        omega
      · omega

theorem nDigits_le {u k : Nat} (h : u < 10 ^ k) (hk : 1 ≤ k) : Lib.nDigits u ≤ k := by
  rcases Nat.lt_or_ge k (Lib.nDigits u) with h1 | h1
  · exfalso
    rcases pow_nDigits u with h3 | h3
    · have h4 : 10 ^ k ≤ 10 ^ (Lib.nDigits u - 1) := Nat.pow_le_pow_right (by omega) (by omega)
      omega
    · rw [h3, Lib.nDigits_small (by omega)] at h1; omega
  · exact h1

theorem nDigits_le9 (x : Int) (h1 : x < 1000000000) : Lib.nDigits x.toNat ≤ 9 := nDigits_le (by omega) (by omega)

theorem ev_toNat_lt {l : List Int} (d : Dig 1000000000 l) : (ev 1000000000 l).toNat < 10 ^ (9 * l.length) := by
  have h := ev_lt (by omega) d
  have h0 := ev_nonneg (by omega) d
  have h1 : ((10 ^ (9 * l.length) : Nat) : Int) = 1000000000 ^ l.length := by rw [Nat.pow_mul, Int.natCast_pow]; rfl
  omega

theorem dec_len {l : List Int} (d : Dig 1000000000 l) : (Lib.decDigits (ev 1000000000 l).toNat).length ≤ 9 * l.length + 1 := by
  rw [Lib.decDigits_length]
  refine nDigits_le (Nat.lt_of_lt_of_le (ev_toNat_lt d) (Nat.pow_le_pow_right (by omega) (by omega))) (by omega)

theorem str_app (a b : List UInt8) : ((⟨a.toArray⟩ : ByteArray) ++ ⟨b.toArray⟩) = ⟨(a ++ b).toArray⟩ := by
  apply ByteArray.ext
  simp
theorem str_size (a : List UInt8) : (⟨a.toArray⟩ : ByteArray).size = a.length := rfl

theorem itoa_nonneg {x : Int} (h : 0 ≤ x) : Lib.itoa x = Lib.decDigits x.toNat := by unfold Lib.itoa; rw [if_neg (by omega)]

end Go.Proofs.YtldcjkhbiffdoabDoor
