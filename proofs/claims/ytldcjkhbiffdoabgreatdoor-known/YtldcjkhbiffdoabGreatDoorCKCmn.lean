import Derived.Test.YtldcjkhbiffdoabGreatDoorM37
import Derived.Test.YtldcjkhbiffdoabGreatDoorM31
import Derived.Test.YtldcjkhbiffdoabGreatDoorM26
import Derived.Test.YtldcjkhbiffdoabGreatDoorM08

set_option linter.unusedSimpArgs false
namespace Go.Proofs.YtldcjkhbiffdoabGreatDoor
open Go.RowKit

theorem pow_len {p : List Int} (hp : Tr p) (h2 : 2 ≤ p.length) : ∀ (n : Nat) {zs : List Int} {s : Int → Int}, Tr zs → zs ≠ [] → Po s → (∀ t, ev t zs = ev t p ^ n * s t) → n + 1 ≤ zs.length
  | 0, zs, s, tz, hne, hs, e => by have := List.length_pos_iff.2 hne; omega
  | n + 1, zs, s, tz, hne, hs, e => by
    obtain ⟨W, tW, hW⟩ := (((Po.ev p).pow n).mul hs).list
    have hpn : p ≠ [] := fun h => by rw [h] at h2; simp at h2
    have e1 : ∀ t, ev t zs = ev t p * ev t W := fun t => by rw [e, ← hW, Int.pow_succ, Int.mul_comm (ev t p ^ n), Int.mul_assoc]
    have hWn : W ≠ [] := fun h => hne (tz.zero fun t => by rw [e1, h]; simp [ev])
    have h3 := (mul_len tz hp tW hpn hWn e1).2.1
    have h4 := pow_len hp h2 n tW hWn hs (fun t => (hW t).symm)
    omega

theorem Fac.exp {zs : List Int} {c : Int} {ps : List (List Int × Nat)} (h : Fac zs c ps) (tz : Tr zs) (hne : zs ≠ []) {x : List Int × Nat} (hx : x ∈ ps) : x.2 + 1 ≤ zs.length := by
  obtain ⟨h1, h2, h3⟩ := h.each x hx
  have hl := h2.len h1
  have ho : x.2 ≤ oft ps x.1 := oft_mem hx
  obtain ⟨d, hd⟩ : ∃ d, oft ps x.1 = x.2 + d := ⟨oft ps x.1 - x.2, by omega⟩
  refine pow_len h1.tr hl x.2 tz hne ((((Po.ev x.1).pow d).mul (pE_po (rst ps x.1))).scal c) fun t => ?_
  rw [h.eq, pE_oft x.1 t ps, hd, Int.pow_add]
  simp only [rA, rB, rC, rD, rE, rF, rG, rH, rI, rJ, rK]

theorem FacV.ok {w' : World} {B : Nat} {zs : List Int} {ps : List (List Int × Nat)} {v : Value} (h : FacV w' B zs ps v) (tz : Tr zs) (hne : zs ≠ []) (hl : zs.length ≤ 11) : PtOK ps :=
  ⟨h.len, fun x hx => ⟨(h.fac.each x hx).1.tr, (h.bd x hx).1, by have := h.fac.exp tz hne hx; omega⟩⟩

end Go.Proofs.YtldcjkhbiffdoabGreatDoor
