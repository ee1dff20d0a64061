import Derived.Test.YtldcjkhbiffdoabGreatDoorM37
import Derived.Test.YtldcjkhbiffdoabGreatDoorM11

set_option linter.unusedSimpArgs false
namespace Go.Proofs.YtldcjkhbiffdoabGreatDoor
open Go.RowKit

def allocs (w : World) : List Obj → World
  | [] => w
  | o :: l => allocs (w.alloc o) l

theorem allocs_below : ∀ (l : List Obj) (w : World), Below w.heap.size w (allocs w l)
  | [], w => Below.refl _ _
  | o :: l, w => ((Below.refl w.heap.size w).alloc (Nat.le_refl _) o).trans ((allocs_below l (w.alloc o)).mono (by simp))

theorem allocs_old (l : List Obj) (w : World) (k : Nat) (h : k < w.heap.size) : (allocs w l).heap[k]? = w.heap[k]? := (allocs_below l w).block k h

theorem allocs_at : ∀ (l : List Obj) (w : World) (j : Nat), j < l.length → (allocs w l).heap[w.heap.size + j]? = l[j]?
  | o :: l, w, 0, _ => by
    show (allocs (w.alloc o) l).heap[w.heap.size + 0]? = some o
    rw [Nat.add_zero, allocs_old l _ _ (by simp)]
    exact heap_alloc_new w o
  | o :: l, w, j + 1, h => by
    have := allocs_at l (w.alloc o) j (by simpa using h)
    rw [show (w.alloc o).heap.size + j = w.heap.size + (j + 1) by simp; omega] at this
    exact this

set_option maxHeartbeats 1000000 in
theorem one_any (t : ByteArray) (w : World) : Calls Tryz.prog 52 #[.string t] w fun e w' => e = .returned (.slice (some ⟨w.heap.size, 0, none⟩) 1 1) ∧ w' = w.alloc (.cells #[.string t, .int .i64 1] 40) := by
  go_enter Tryz.func52, Tryz.ntmps52
  go_wp2
  go_ret
  exact ⟨rfl, rfl⟩

def lotObjs (n : Nat) : List Obj := [
  .cells #[.string ⟨#[120]⟩, .int .i64 1] 40,
  .cells #[.string ⟨#[51, 42, 120, 32, 45, 32, 50]⟩, .int .i64 1] 40,
  .cells #[.string ⟨#[120, 32, 45, 32, 49]⟩, .int .i64 1, .string ⟨#[120, 32, 43, 32, 49]⟩, .int .i64 1] 40,
  .cells #[.string ⟨#[50, 42, 120, 32, 43, 32, 49]⟩, .int .i64 2] 40,
  .cells #[.string ⟨#[120, 94, 50, 32, 45, 32, 50, 42, 120, 32, 43, 32, 50]⟩, .int .i64 1, .string ⟨#[120, 94, 50, 32, 43, 32, 50, 42, 120, 32, 43, 32, 50]⟩, .int .i64 1] 40,
  .cells #[.string ⟨#[120, 94, 52, 32, 43, 32, 49]⟩, .int .i64 1] 40,
  .cells #[.string ⟨#[120, 94, 52, 32, 45, 32, 49, 48, 42, 120, 94, 50, 32, 43, 32, 49]⟩, .int .i64 1] 40,
  .cells #[.string ⟨#[120, 94, 56, 32, 45, 32, 52, 48, 42, 120, 94, 54, 32, 43, 32, 51, 53, 50, 42, 120, 94, 52, 32, 45, 32, 57, 54, 48, 42, 120, 94, 50, 32, 43, 32, 53, 55, 54]⟩, .int .i64 1] 40,
  .cells #[.string ⟨#[120, 32, 45, 32, 49]⟩, .int .i64 1, .string ⟨#[120, 32, 43, 32, 49]⟩, .int .i64 1, .string ⟨#[120, 94, 52, 32, 45, 32, 120, 94, 51, 32, 43, 32, 120, 94, 50, 32, 45, 32, 120, 32, 43, 32, 49]⟩, .int .i64 1, .string ⟨#[120, 94, 52, 32, 43, 32, 120, 94, 51, 32, 43, 32, 120, 94, 50, 32, 43, 32, 120, 32, 43, 32, 49]⟩, .int .i64 1] 40,
  .cells #[.string ⟨#[120, 32, 45, 32, 49]⟩, .int .i64 1, .string ⟨#[120, 32, 43, 32, 49]⟩, .int .i64 1, .string ⟨#[120, 94, 50, 32, 43, 32, 49]⟩, .int .i64 1, .string ⟨#[120, 94, 52, 32, 43, 32, 49]⟩, .int .i64 1] 40,
  .cells #[.string ⟨#[120, 32, 45, 32, 49]⟩, .int .i64 1, .string ⟨#[120, 94, 50, 32, 43, 32, 120, 32, 43, 32, 49]⟩, .int .i64 1, .string ⟨#[120, 94, 54, 32, 43, 32, 120, 94, 51, 32, 43, 32, 49]⟩, .int .i64 1] 40,
  .cells #[.string ⟨#[120, 94, 50, 32, 43, 32, 120, 32, 43, 32, 49]⟩, .int .i64 1, .string ⟨#[120, 94, 56, 32, 45, 32, 120, 94, 55, 32, 43, 32, 120, 94, 53, 32, 45, 32, 120, 94, 52, 32, 43, 32, 120, 94, 51, 32, 45, 32, 120, 32, 43, 32, 49]⟩, .int .i64 1] 40,
  .cells #[.string ⟨#[120, 94, 54, 32, 45, 32, 54, 42, 120, 94, 52, 32, 45, 32, 52, 42, 120, 94, 51, 32, 43, 32, 49, 50, 42, 120, 94, 50, 32, 45, 32, 50, 52, 42, 120, 32, 45, 32, 52]⟩, .int .i64 1] 40,
  .cells #[.string ⟨#[120, 32, 45, 32, 49]⟩, .int .i64 1, .string ⟨#[120]⟩, .int .i64 4, .string ⟨#[120, 32, 43, 32, 49]⟩, .int .i64 1, .string ⟨#[120, 94, 50, 32, 45, 32, 120, 32, 43, 32, 49]⟩, .int .i64 1, .string ⟨#[120, 94, 50, 32, 43, 32, 120, 32, 43, 32, 49]⟩, .int .i64 1] 40,
  .cells #[.string ⟨#[120, 94, 50, 32, 43, 32, 120, 32, 43, 32, 49]⟩, .int .i64 1, .string ⟨#[120, 94, 51, 32, 45, 32, 120, 94, 50, 32, 43, 32, 49]⟩, .int .i64 1] 40,
  .cells #[.string ⟨#[120, 94, 53, 32, 45, 32, 120, 32, 45, 32, 49]⟩, .int .i64 1] 40,
  .cells #[.string ⟨#[120, 32, 45, 32, 49]⟩, .int .i64 1, .string ⟨#[120, 32, 43, 32, 49]⟩, .int .i64 1, .string ⟨#[54, 42, 120, 94, 52, 32, 43, 32, 120, 94, 50, 32, 43, 32, 54]⟩, .int .i64 1] 40,
  .cells #[.string ⟨#[120, 32, 45, 32, 49]⟩, .int .i64 1, .string ⟨#[120, 32, 43, 32, 49]⟩, .int .i64 1] 40,
  .cells #[.string ⟨#[48]⟩, .string ⟨#[]⟩, .slice none 0 0, .string ⟨#[55]⟩, .string ⟨#[55]⟩, .slice none 0 0, .string ⟨#[45, 49, 50]⟩, .string ⟨#[45, 49, 50]⟩, .slice none 0 0, .string ⟨#[120]⟩, .string ⟨#[49]⟩, .slice (some ⟨n + 0, 0, none⟩) 1 1, .string ⟨#[45, 54, 42, 120, 32, 43, 32, 52]⟩, .string ⟨#[45, 50]⟩, .slice (some ⟨n + 1, 0, none⟩) 1 1, .string ⟨#[120, 94, 50, 32, 45, 32, 49]⟩, .string ⟨#[49]⟩, .slice (some ⟨n + 2, 0, none⟩) 2 2, .string ⟨#[52, 42, 120, 94, 50, 32, 43, 32, 52, 42, 120, 32, 43, 32, 49]⟩, .string ⟨#[49]⟩, .slice (some ⟨n + 3, 0, none⟩) 1 1, .string ⟨#[120, 94, 52, 32, 43, 32, 52]⟩, .string ⟨#[49]⟩, .slice (some ⟨n + 4, 0, none⟩) 2 2, .string ⟨#[120, 94, 52, 32, 43, 32, 49]⟩, .string ⟨#[49]⟩, .slice (some ⟨n + 5, 0, none⟩) 1 1, .string ⟨#[120, 94, 52, 32, 45, 32, 49, 48, 42, 120, 94, 50, 32, 43, 32, 49]⟩, .string ⟨#[49]⟩, .slice (some ⟨n + 6, 0, none⟩) 1 1, .string ⟨#[120, 94, 56, 32, 45, 32, 52, 48, 42, 120, 94, 54, 32, 43, 32, 51, 53, 50, 42, 120, 94, 52, 32, 45, 32, 57, 54, 48, 42, 120, 94, 50, 32, 43, 32, 53, 55, 54]⟩, .string ⟨#[49]⟩, .slice (some ⟨n + 7, 0, none⟩) 1 1, .string ⟨#[120, 94, 49, 48, 32, 45, 32, 49]⟩, .string ⟨#[49]⟩, .slice (some ⟨n + 8, 0, none⟩) 4 4, .string ⟨#[120, 94, 56, 32, 45, 32, 49]⟩, .string ⟨#[49]⟩, .slice (some ⟨n + 9, 0, none⟩) 4 4, .string ⟨#[120, 94, 57, 32, 45, 32, 49]⟩, .string ⟨#[49]⟩, .slice (some ⟨n + 10, 0, none⟩) 3 3, .string ⟨#[120, 94, 49, 48, 32, 43, 32, 120, 94, 53, 32, 43, 32, 49]⟩, .string ⟨#[49]⟩, .slice (some ⟨n + 11, 0, none⟩) 2 2, .string ⟨#[120, 94, 54, 32, 45, 32, 54, 42, 120, 94, 52, 32, 45, 32, 52, 42, 120, 94, 51, 32, 43, 32, 49, 50, 42, 120, 94, 50, 32, 45, 32, 50, 52, 42, 120, 32, 45, 32, 52]⟩, .string ⟨#[49]⟩, .slice (some ⟨n + 12, 0, none⟩) 1 1, .string ⟨#[51, 42, 120, 94, 49, 48, 32, 45, 32, 51, 42, 120, 94, 52]⟩, .string ⟨#[51]⟩, .slice (some ⟨n + 13, 0, none⟩) 5 5, .string ⟨#[120, 94, 53, 32, 43, 32, 120, 32, 43, 32, 49]⟩, .string ⟨#[49]⟩, .slice (some ⟨n + 14, 0, none⟩) 2 2, .string ⟨#[120, 94, 53, 32, 45, 32, 120, 32, 45, 32, 49]⟩, .string ⟨#[49]⟩, .slice (some ⟨n + 15, 0, none⟩) 1 1, .string ⟨#[54, 42, 120, 94, 54, 32, 45, 32, 53, 42, 120, 94, 52, 32, 43, 32, 53, 42, 120, 94, 50, 32, 45, 32, 54]⟩, .string ⟨#[49]⟩, .slice (some ⟨n + 16, 0, none⟩) 3 3, .string ⟨#[57, 57, 57, 57, 57, 57, 57, 57, 57, 57, 56, 57, 42, 120, 94, 50, 32, 45, 32, 57, 57, 57, 57, 57, 57, 57, 57, 57, 57, 56, 57]⟩, .string ⟨#[57, 57, 57, 57, 57, 57, 57, 57, 57, 57, 56, 57]⟩, .slice (some ⟨n + 17, 0, none⟩) 2 2] 56]

set_option maxRecDepth 100000 in
set_option maxHeartbeats 8000000 in
theorem lots_any (w : World) : Calls Tryz.prog 32 #[] w fun e w' => e = .returned (.slice (some ⟨w.heap.size + 18, 0, none⟩) 21 21) ∧ w' = allocs w (lotObjs w.heap.size) := by
  go_enter Tryz.func32, Tryz.ntmps32
  go_wp2_with (go_at_call 52; refine (one_any _ _).mono ?_; rintro e w' ⟨rfl, rfl⟩)
  go_ret
  exact ⟨rfl, rfl⟩

structure LotOK (zs : List Int) (C : ByteArray) (ps : List (List Int × Nat)) : Prop where
  inb : inB zs = true
  tr : Tr zs
  len : (ptext zs).length ≤ 200
  is : (zs = [] ∧ C = ⟨#[]⟩) ∨ (zs ≠ [] ∧ C = ⟨(Lib.itoa (scont zs)).toArray⟩ ∧ C.toList ≠ [] ∧ Fac zs (scont zs) ps)

def LotAt (W : World) (n k : Nat) : Prop := ∃ (zs : List Int) (ps : List (List Int × Nat)) (C : ByteArray) (a : Option Addr) (c : Nat), W.cell? ⟨n + 18, k * 3, none⟩ = some (.string ⟨(ptext zs).toArray⟩) ∧ W.cell? ⟨n + 18, k * 3 + 1, none⟩ = some (.string C) ∧ W.cell? ⟨n + 18, k * 3 + 2, none⟩ = some (.slice a ps.length c) ∧ OwnPt 0 W (.slice a ps.length c) ps ∧ LotOK zs C ps

theorem lot_0 {W : World} {n : Nat} (h : ∀ j, j < 19 → W.heap[n + j]? = (lotObjs n)[j]?) : LotAt W n 0 := by
  have hG := h 18 (by decide)
  refine ⟨[], [], ⟨#[]⟩, none, 0, ?_, ?_, ?_, ⟨rfl, .inl ⟨rfl, rfl⟩⟩, ⟨by decide +kernel, Tr.nil, by decide +kernel, .inl ⟨rfl, rfl⟩⟩⟩
  · rw [show (ByteArray.mk (ptext []).toArray) = ⟨#[48]⟩ by kernel_rfl]; simp [World.cell?, hG, lotObjs]
  · simp [World.cell?, hG, lotObjs]
  · simp [World.cell?, hG, lotObjs]

theorem lot_1 {W : World} {n : Nat} (h : ∀ j, j < 19 → W.heap[n + j]? = (lotObjs n)[j]?) : LotAt W n 1 := by
  have hG := h 18 (by decide)
  refine ⟨[7], [], ⟨#[55]⟩, none, 0, ?_, ?_, ?_, ⟨rfl, .inl ⟨rfl, rfl⟩⟩, ⟨by decide +kernel, fun _ => by decide, by decide +kernel, .inr ⟨by decide, by kernel_rfl, by rw [ByteArray.toList_eq]; decide, by have h := known_1; rwa [h.cont] at h⟩⟩⟩
  · rw [show (ByteArray.mk (ptext [7]).toArray) = ⟨#[55]⟩ by kernel_rfl]; simp [World.cell?, hG, lotObjs]
  · simp [World.cell?, hG, lotObjs]
  · simp [World.cell?, hG, lotObjs]

theorem lot_2 {W : World} {n : Nat} (h : ∀ j, j < 19 → W.heap[n + j]? = (lotObjs n)[j]?) : LotAt W n 2 := by
  have hG := h 18 (by decide)
  refine ⟨[-12], [], ⟨#[45, 49, 50]⟩, none, 0, ?_, ?_, ?_, ⟨rfl, .inl ⟨rfl, rfl⟩⟩, ⟨by decide +kernel, fun _ => by decide, by decide +kernel, .inr ⟨by decide, by kernel_rfl, by rw [ByteArray.toList_eq]; decide, by have h := known_2; rwa [h.cont] at h⟩⟩⟩
  · rw [show (ByteArray.mk (ptext [-12]).toArray) = ⟨#[45, 49, 50]⟩ by kernel_rfl]; simp [World.cell?, hG, lotObjs]
  · simp [World.cell?, hG, lotObjs]
  · simp [World.cell?, hG, lotObjs]

theorem lot_3 {W : World} {n : Nat} (h : ∀ j, j < 19 → W.heap[n + j]? = (lotObjs n)[j]?) : LotAt W n 3 := by
  have hG := h 18 (by decide)
  refine ⟨[0, 1], [([0, 1], 1)], ⟨#[49]⟩, some ⟨n + 0, 0, none⟩, 1, ?_, ?_, ?_, ⟨rfl, .inr ⟨n + 0, 1, _, rfl, Nat.zero_le _, h 0 (by decide), by decide, by decide, rfl, by kernel_rfl⟩⟩, ⟨by decide +kernel, fun _ => by decide, by decide +kernel, .inr ⟨by decide, by kernel_rfl, by rw [ByteArray.toList_eq]; decide, by have h := known_3; rwa [h.cont] at h⟩⟩⟩
  · rw [show (ByteArray.mk (ptext [0, 1]).toArray) = ⟨#[120]⟩ by kernel_rfl]; simp [World.cell?, hG, lotObjs]
  · simp [World.cell?, hG, lotObjs]
  · simp [World.cell?, hG, lotObjs]

theorem lot_4 {W : World} {n : Nat} (h : ∀ j, j < 19 → W.heap[n + j]? = (lotObjs n)[j]?) : LotAt W n 4 := by
  have hG := h 18 (by decide)
  refine ⟨[4, -6], [([-2, 3], 1)], ⟨#[45, 50]⟩, some ⟨n + 1, 0, none⟩, 1, ?_, ?_, ?_, ⟨rfl, .inr ⟨n + 1, 1, _, rfl, Nat.zero_le _, h 1 (by decide), by decide, by decide, rfl, by kernel_rfl⟩⟩, ⟨by decide +kernel, fun _ => by decide, by decide +kernel, .inr ⟨by decide, by kernel_rfl, by rw [ByteArray.toList_eq]; decide, by have h := known_4; rwa [h.cont] at h⟩⟩⟩
  · rw [show (ByteArray.mk (ptext [4, -6]).toArray) = ⟨#[45, 54, 42, 120, 32, 43, 32, 52]⟩ by kernel_rfl]; simp [World.cell?, hG, lotObjs]
  · simp [World.cell?, hG, lotObjs]
  · simp [World.cell?, hG, lotObjs]

theorem lot_5 {W : World} {n : Nat} (h : ∀ j, j < 19 → W.heap[n + j]? = (lotObjs n)[j]?) : LotAt W n 5 := by
  have hG := h 18 (by decide)
  refine ⟨[-1, 0, 1], [([-1, 1], 1), ([1, 1], 1)], ⟨#[49]⟩, some ⟨n + 2, 0, none⟩, 2, ?_, ?_, ?_, ⟨rfl, .inr ⟨n + 2, 2, _, rfl, Nat.zero_le _, h 2 (by decide), by decide, by decide, rfl, by kernel_rfl⟩⟩, ⟨by decide +kernel, fun _ => by decide, by decide +kernel, .inr ⟨by decide, by kernel_rfl, by rw [ByteArray.toList_eq]; decide, by have h := known_5; rwa [h.cont] at h⟩⟩⟩
  · rw [show (ByteArray.mk (ptext [-1, 0, 1]).toArray) = ⟨#[120, 94, 50, 32, 45, 32, 49]⟩ by kernel_rfl]; simp [World.cell?, hG, lotObjs]
  · simp [World.cell?, hG, lotObjs]
  · simp [World.cell?, hG, lotObjs]

theorem lot_6 {W : World} {n : Nat} (h : ∀ j, j < 19 → W.heap[n + j]? = (lotObjs n)[j]?) : LotAt W n 6 := by
  have hG := h 18 (by decide)
  refine ⟨[1, 4, 4], [([1, 2], 2)], ⟨#[49]⟩, some ⟨n + 3, 0, none⟩, 1, ?_, ?_, ?_, ⟨rfl, .inr ⟨n + 3, 1, _, rfl, Nat.zero_le _, h 3 (by decide), by decide, by decide, rfl, by kernel_rfl⟩⟩, ⟨by decide +kernel, fun _ => by decide, by decide +kernel, .inr ⟨by decide, by kernel_rfl, by rw [ByteArray.toList_eq]; decide, by have h := known_6; rwa [h.cont] at h⟩⟩⟩
  · rw [show (ByteArray.mk (ptext [1, 4, 4]).toArray) = ⟨#[52, 42, 120, 94, 50, 32, 43, 32, 52, 42, 120, 32, 43, 32, 49]⟩ by kernel_rfl]; simp [World.cell?, hG, lotObjs]
  · simp [World.cell?, hG, lotObjs]
  · simp [World.cell?, hG, lotObjs]

theorem lot_7 {W : World} {n : Nat} (h : ∀ j, j < 19 → W.heap[n + j]? = (lotObjs n)[j]?) : LotAt W n 7 := by
  have hG := h 18 (by decide)
  refine ⟨[4, 0, 0, 0, 1], [([2, -2, 1], 1), ([2, 2, 1], 1)], ⟨#[49]⟩, some ⟨n + 4, 0, none⟩, 2, ?_, ?_, ?_, ⟨rfl, .inr ⟨n + 4, 2, _, rfl, Nat.zero_le _, h 4 (by decide), by decide, by decide, rfl, by kernel_rfl⟩⟩, ⟨by decide +kernel, fun _ => by decide, by decide +kernel, .inr ⟨by decide, by kernel_rfl, by rw [ByteArray.toList_eq]; decide, by have h := known_7; rwa [h.cont] at h⟩⟩⟩
  · rw [show (ByteArray.mk (ptext [4, 0, 0, 0, 1]).toArray) = ⟨#[120, 94, 52, 32, 43, 32, 52]⟩ by kernel_rfl]; simp [World.cell?, hG, lotObjs]
  · simp [World.cell?, hG, lotObjs]
  · simp [World.cell?, hG, lotObjs]

theorem lot_8 {W : World} {n : Nat} (h : ∀ j, j < 19 → W.heap[n + j]? = (lotObjs n)[j]?) : LotAt W n 8 := by
  have hG := h 18 (by decide)
  refine ⟨[1, 0, 0, 0, 1], [([1, 0, 0, 0, 1], 1)], ⟨#[49]⟩, some ⟨n + 5, 0, none⟩, 1, ?_, ?_, ?_, ⟨rfl, .inr ⟨n + 5, 1, _, rfl, Nat.zero_le _, h 5 (by decide), by decide, by decide, rfl, by kernel_rfl⟩⟩, ⟨by decide +kernel, fun _ => by decide, by decide +kernel, .inr ⟨by decide, by kernel_rfl, by rw [ByteArray.toList_eq]; decide, by have h := known_8; rwa [h.cont] at h⟩⟩⟩
  · rw [show (ByteArray.mk (ptext [1, 0, 0, 0, 1]).toArray) = ⟨#[120, 94, 52, 32, 43, 32, 49]⟩ by kernel_rfl]; simp [World.cell?, hG, lotObjs]
  · simp [World.cell?, hG, lotObjs]
  · simp [World.cell?, hG, lotObjs]

theorem lot_9 {W : World} {n : Nat} (h : ∀ j, j < 19 → W.heap[n + j]? = (lotObjs n)[j]?) : LotAt W n 9 := by
  have hG := h 18 (by decide)
  refine ⟨[1, 0, -10, 0, 1], [([1, 0, -10, 0, 1], 1)], ⟨#[49]⟩, some ⟨n + 6, 0, none⟩, 1, ?_, ?_, ?_, ⟨rfl, .inr ⟨n + 6, 1, _, rfl, Nat.zero_le _, h 6 (by decide), by decide, by decide, rfl, by kernel_rfl⟩⟩, ⟨by decide +kernel, fun _ => by decide, by decide +kernel, .inr ⟨by decide, by kernel_rfl, by rw [ByteArray.toList_eq]; decide, by have h := known_9; rwa [h.cont] at h⟩⟩⟩
  · rw [show (ByteArray.mk (ptext [1, 0, -10, 0, 1]).toArray) = ⟨#[120, 94, 52, 32, 45, 32, 49, 48, 42, 120, 94, 50, 32, 43, 32, 49]⟩ by kernel_rfl]; simp [World.cell?, hG, lotObjs]
  · simp [World.cell?, hG, lotObjs]
  · simp [World.cell?, hG, lotObjs]

theorem lot_10 {W : World} {n : Nat} (h : ∀ j, j < 19 → W.heap[n + j]? = (lotObjs n)[j]?) : LotAt W n 10 := by
  have hG := h 18 (by decide)
  refine ⟨[576, 0, -960, 0, 352, 0, -40, 0, 1], [([576, 0, -960, 0, 352, 0, -40, 0, 1], 1)], ⟨#[49]⟩, some ⟨n + 7, 0, none⟩, 1, ?_, ?_, ?_, ⟨rfl, .inr ⟨n + 7, 1, _, rfl, Nat.zero_le _, h 7 (by decide), by decide, by decide, rfl, by kernel_rfl⟩⟩, ⟨by decide +kernel, fun _ => by decide, by decide +kernel, .inr ⟨by decide, by kernel_rfl, by rw [ByteArray.toList_eq]; decide, by have h := known_10; rwa [h.cont] at h⟩⟩⟩
  · rw [show (ByteArray.mk (ptext [576, 0, -960, 0, 352, 0, -40, 0, 1]).toArray) = ⟨#[120, 94, 56, 32, 45, 32, 52, 48, 42, 120, 94, 54, 32, 43, 32, 51, 53, 50, 42, 120, 94, 52, 32, 45, 32, 57, 54, 48, 42, 120, 94, 50, 32, 43, 32, 53, 55, 54]⟩ by kernel_rfl]; simp [World.cell?, hG, lotObjs]
  · simp [World.cell?, hG, lotObjs]
  · simp [World.cell?, hG, lotObjs]

theorem lot_11 {W : World} {n : Nat} (h : ∀ j, j < 19 → W.heap[n + j]? = (lotObjs n)[j]?) : LotAt W n 11 := by
  have hG := h 18 (by decide)
  refine ⟨[-1, 0, 0, 0, 0, 0, 0, 0, 0, 0, 1], [([-1, 1], 1), ([1, 1], 1), ([1, -1, 1, -1, 1], 1), ([1, 1, 1, 1, 1], 1)], ⟨#[49]⟩, some ⟨n + 8, 0, none⟩, 4, ?_, ?_, ?_, ⟨rfl, .inr ⟨n + 8, 4, _, rfl, Nat.zero_le _, h 8 (by decide), by decide, by decide, rfl, by kernel_rfl⟩⟩, ⟨by decide +kernel, fun _ => by decide, by decide +kernel, .inr ⟨by decide, by kernel_rfl, by rw [ByteArray.toList_eq]; decide, by have h := known_11; rwa [h.cont] at h⟩⟩⟩
  · rw [show (ByteArray.mk (ptext [-1, 0, 0, 0, 0, 0, 0, 0, 0, 0, 1]).toArray) = ⟨#[120, 94, 49, 48, 32, 45, 32, 49]⟩ by kernel_rfl]; simp [World.cell?, hG, lotObjs]
  · simp [World.cell?, hG, lotObjs]
  · simp [World.cell?, hG, lotObjs]

theorem lot_12 {W : World} {n : Nat} (h : ∀ j, j < 19 → W.heap[n + j]? = (lotObjs n)[j]?) : LotAt W n 12 := by
  have hG := h 18 (by decide)
  refine ⟨[-1, 0, 0, 0, 0, 0, 0, 0, 1], [([-1, 1], 1), ([1, 1], 1), ([1, 0, 1], 1), ([1, 0, 0, 0, 1], 1)], ⟨#[49]⟩, some ⟨n + 9, 0, none⟩, 4, ?_, ?_, ?_, ⟨rfl, .inr ⟨n + 9, 4, _, rfl, Nat.zero_le _, h 9 (by decide), by decide, by decide, rfl, by kernel_rfl⟩⟩, ⟨by decide +kernel, fun _ => by decide, by decide +kernel, .inr ⟨by decide, by kernel_rfl, by rw [ByteArray.toList_eq]; decide, by have h := known_12; rwa [h.cont] at h⟩⟩⟩
  · rw [show (ByteArray.mk (ptext [-1, 0, 0, 0, 0, 0, 0, 0, 1]).toArray) = ⟨#[120, 94, 56, 32, 45, 32, 49]⟩ by kernel_rfl]; simp [World.cell?, hG, lotObjs]
  · simp [World.cell?, hG, lotObjs]
  · simp [World.cell?, hG, lotObjs]

theorem lot_13 {W : World} {n : Nat} (h : ∀ j, j < 19 → W.heap[n + j]? = (lotObjs n)[j]?) : LotAt W n 13 := by
  have hG := h 18 (by decide)
  refine ⟨[-1, 0, 0, 0, 0, 0, 0, 0, 0, 1], [([-1, 1], 1), ([1, 1, 1], 1), ([1, 0, 0, 1, 0, 0, 1], 1)], ⟨#[49]⟩, some ⟨n + 10, 0, none⟩, 3, ?_, ?_, ?_, ⟨rfl, .inr ⟨n + 10, 3, _, rfl, Nat.zero_le _, h 10 (by decide), by decide, by decide, rfl, by kernel_rfl⟩⟩, ⟨by decide +kernel, fun _ => by decide, by decide +kernel, .inr ⟨by decide, by kernel_rfl, by rw [ByteArray.toList_eq]; decide, by have h := known_13; rwa [h.cont] at h⟩⟩⟩
  · rw [show (ByteArray.mk (ptext [-1, 0, 0, 0, 0, 0, 0, 0, 0, 1]).toArray) = ⟨#[120, 94, 57, 32, 45, 32, 49]⟩ by kernel_rfl]; simp [World.cell?, hG, lotObjs]
  · simp [World.cell?, hG, lotObjs]
  · simp [World.cell?, hG, lotObjs]

theorem lot_14 {W : World} {n : Nat} (h : ∀ j, j < 19 → W.heap[n + j]? = (lotObjs n)[j]?) : LotAt W n 14 := by
  have hG := h 18 (by decide)
  refine ⟨[1, 0, 0, 0, 0, 1, 0, 0, 0, 0, 1], [([1, 1, 1], 1), ([1, -1, 0, 1, -1, 1, 0, -1, 1], 1)], ⟨#[49]⟩, some ⟨n + 11, 0, none⟩, 2, ?_, ?_, ?_, ⟨rfl, .inr ⟨n + 11, 2, _, rfl, Nat.zero_le _, h 11 (by decide), by decide, by decide, rfl, by kernel_rfl⟩⟩, ⟨by decide +kernel, fun _ => by decide, by decide +kernel, .inr ⟨by decide, by kernel_rfl, by rw [ByteArray.toList_eq]; decide, by have h := known_14; rwa [h.cont] at h⟩⟩⟩
  · rw [show (ByteArray.mk (ptext [1, 0, 0, 0, 0, 1, 0, 0, 0, 0, 1]).toArray) = ⟨#[120, 94, 49, 48, 32, 43, 32, 120, 94, 53, 32, 43, 32, 49]⟩ by kernel_rfl]; simp [World.cell?, hG, lotObjs]
  · simp [World.cell?, hG, lotObjs]
  · simp [World.cell?, hG, lotObjs]

theorem lot_15 {W : World} {n : Nat} (h : ∀ j, j < 19 → W.heap[n + j]? = (lotObjs n)[j]?) : LotAt W n 15 := by
  have hG := h 18 (by decide)
  refine ⟨[-4, -24, 12, -4, -6, 0, 1], [([-4, -24, 12, -4, -6, 0, 1], 1)], ⟨#[49]⟩, some ⟨n + 12, 0, none⟩, 1, ?_, ?_, ?_, ⟨rfl, .inr ⟨n + 12, 1, _, rfl, Nat.zero_le _, h 12 (by decide), by decide, by decide, rfl, by kernel_rfl⟩⟩, ⟨by decide +kernel, fun _ => by decide, by decide +kernel, .inr ⟨by decide, by kernel_rfl, by rw [ByteArray.toList_eq]; decide, by have h := known_15; rwa [h.cont] at h⟩⟩⟩
  · rw [show (ByteArray.mk (ptext [-4, -24, 12, -4, -6, 0, 1]).toArray) = ⟨#[120, 94, 54, 32, 45, 32, 54, 42, 120, 94, 52, 32, 45, 32, 52, 42, 120, 94, 51, 32, 43, 32, 49, 50, 42, 120, 94, 50, 32, 45, 32, 50, 52, 42, 120, 32, 45, 32, 52]⟩ by kernel_rfl]; simp [World.cell?, hG, lotObjs]
  · simp [World.cell?, hG, lotObjs]
  · simp [World.cell?, hG, lotObjs]

theorem lot_16 {W : World} {n : Nat} (h : ∀ j, j < 19 → W.heap[n + j]? = (lotObjs n)[j]?) : LotAt W n 16 := by
  have hG := h 18 (by decide)
  refine ⟨[0, 0, 0, 0, -3, 0, 0, 0, 0, 0, 3], [([-1, 1], 1), ([0, 1], 4), ([1, 1], 1), ([1, -1, 1], 1), ([1, 1, 1], 1)], ⟨#[51]⟩, some ⟨n + 13, 0, none⟩, 5, ?_, ?_, ?_, ⟨rfl, .inr ⟨n + 13, 5, _, rfl, Nat.zero_le _, h 13 (by decide), by decide, by decide, rfl, by kernel_rfl⟩⟩, ⟨by decide +kernel, fun _ => by decide, by decide +kernel, .inr ⟨by decide, by kernel_rfl, by rw [ByteArray.toList_eq]; decide, by have h := known_16; rwa [h.cont] at h⟩⟩⟩
  · rw [show (ByteArray.mk (ptext [0, 0, 0, 0, -3, 0, 0, 0, 0, 0, 3]).toArray) = ⟨#[51, 42, 120, 94, 49, 48, 32, 45, 32, 51, 42, 120, 94, 52]⟩ by kernel_rfl]; simp [World.cell?, hG, lotObjs]
  · simp [World.cell?, hG, lotObjs]
  · simp [World.cell?, hG, lotObjs]

theorem lot_17 {W : World} {n : Nat} (h : ∀ j, j < 19 → W.heap[n + j]? = (lotObjs n)[j]?) : LotAt W n 17 := by
  have hG := h 18 (by decide)
  refine ⟨[1, 1, 0, 0, 0, 1], [([1, 1, 1], 1), ([1, 0, -1, 1], 1)], ⟨#[49]⟩, some ⟨n + 14, 0, none⟩, 2, ?_, ?_, ?_, ⟨rfl, .inr ⟨n + 14, 2, _, rfl, Nat.zero_le _, h 14 (by decide), by decide, by decide, rfl, by kernel_rfl⟩⟩, ⟨by decide +kernel, fun _ => by decide, by decide +kernel, .inr ⟨by decide, by kernel_rfl, by rw [ByteArray.toList_eq]; decide, by have h := known_17; rwa [h.cont] at h⟩⟩⟩
  · rw [show (ByteArray.mk (ptext [1, 1, 0, 0, 0, 1]).toArray) = ⟨#[120, 94, 53, 32, 43, 32, 120, 32, 43, 32, 49]⟩ by kernel_rfl]; simp [World.cell?, hG, lotObjs]
  · simp [World.cell?, hG, lotObjs]
  · simp [World.cell?, hG, lotObjs]

theorem lot_18 {W : World} {n : Nat} (h : ∀ j, j < 19 → W.heap[n + j]? = (lotObjs n)[j]?) : LotAt W n 18 := by
  have hG := h 18 (by decide)
  refine ⟨[-1, -1, 0, 0, 0, 1], [([-1, -1, 0, 0, 0, 1], 1)], ⟨#[49]⟩, some ⟨n + 15, 0, none⟩, 1, ?_, ?_, ?_, ⟨rfl, .inr ⟨n + 15, 1, _, rfl, Nat.zero_le _, h 15 (by decide), by decide, by decide, rfl, by kernel_rfl⟩⟩, ⟨by decide +kernel, fun _ => by decide, by decide +kernel, .inr ⟨by decide, by kernel_rfl, by rw [ByteArray.toList_eq]; decide, by have h := known_18; rwa [h.cont] at h⟩⟩⟩
  · rw [show (ByteArray.mk (ptext [-1, -1, 0, 0, 0, 1]).toArray) = ⟨#[120, 94, 53, 32, 45, 32, 120, 32, 45, 32, 49]⟩ by kernel_rfl]; simp [World.cell?, hG, lotObjs]
  · simp [World.cell?, hG, lotObjs]
  · simp [World.cell?, hG, lotObjs]

theorem lot_19 {W : World} {n : Nat} (h : ∀ j, j < 19 → W.heap[n + j]? = (lotObjs n)[j]?) : LotAt W n 19 := by
  have hG := h 18 (by decide)
  refine ⟨[-6, 0, 5, 0, -5, 0, 6], [([-1, 1], 1), ([1, 1], 1), ([6, 0, 1, 0, 6], 1)], ⟨#[49]⟩, some ⟨n + 16, 0, none⟩, 3, ?_, ?_, ?_, ⟨rfl, .inr ⟨n + 16, 3, _, rfl, Nat.zero_le _, h 16 (by decide), by decide, by decide, rfl, by kernel_rfl⟩⟩, ⟨by decide +kernel, fun _ => by decide, by decide +kernel, .inr ⟨by decide, by kernel_rfl, by rw [ByteArray.toList_eq]; decide, by have h := known_19; rwa [h.cont] at h⟩⟩⟩
  · rw [show (ByteArray.mk (ptext [-6, 0, 5, 0, -5, 0, 6]).toArray) = ⟨#[54, 42, 120, 94, 54, 32, 45, 32, 53, 42, 120, 94, 52, 32, 43, 32, 53, 42, 120, 94, 50, 32, 45, 32, 54]⟩ by kernel_rfl]; simp [World.cell?, hG, lotObjs]
  · simp [World.cell?, hG, lotObjs]
  · simp [World.cell?, hG, lotObjs]

theorem lot_20 {W : World} {n : Nat} (h : ∀ j, j < 19 → W.heap[n + j]? = (lotObjs n)[j]?) : LotAt W n 20 := by
  have hG := h 18 (by decide)
  refine ⟨[-999999999989, 0, 999999999989], [([-1, 1], 1), ([1, 1], 1)], ⟨#[57, 57, 57, 57, 57, 57, 57, 57, 57, 57, 56, 57]⟩, some ⟨n + 17, 0, none⟩, 2, ?_, ?_, ?_, ⟨rfl, .inr ⟨n + 17, 2, _, rfl, Nat.zero_le _, h 17 (by decide), by decide, by decide, rfl, by kernel_rfl⟩⟩, ⟨by decide +kernel, fun _ => by decide, by decide +kernel, .inr ⟨by decide, by kernel_rfl, by rw [ByteArray.toList_eq]; decide, by have h := known_20; rwa [h.cont] at h⟩⟩⟩
  · rw [show (ByteArray.mk (ptext [-999999999989, 0, 999999999989]).toArray) = ⟨#[57, 57, 57, 57, 57, 57, 57, 57, 57, 57, 56, 57, 42, 120, 94, 50, 32, 45, 32, 57, 57, 57, 57, 57, 57, 57, 57, 57, 57, 56, 57]⟩ by kernel_rfl]; simp [World.cell?, hG, lotObjs]
  · simp [World.cell?, hG, lotObjs]
  · simp [World.cell?, hG, lotObjs]

theorem lot_at {W : World} {n : Nat} (h : ∀ j, j < 19 → W.heap[n + j]? = (lotObjs n)[j]?) (k : Nat) (hk : k < 21) : LotAt W n k := by
  match k, hk with
  | 0, _ => exact lot_0 h
  | 1, _ => exact lot_1 h
  | 2, _ => exact lot_2 h
  | 3, _ => exact lot_3 h
  | 4, _ => exact lot_4 h
  | 5, _ => exact lot_5 h
  | 6, _ => exact lot_6 h
  | 7, _ => exact lot_7 h
  | 8, _ => exact lot_8 h
  | 9, _ => exact lot_9 h
  | 10, _ => exact lot_10 h
  | 11, _ => exact lot_11 h
  | 12, _ => exact lot_12 h
  | 13, _ => exact lot_13 h
  | 14, _ => exact lot_14 h
  | 15, _ => exact lot_15 h
  | 16, _ => exact lot_16 h
  | 17, _ => exact lot_17 h
  | 18, _ => exact lot_18 h
  | 19, _ => exact lot_19 h
  | 20, _ => exact lot_20 h
  | k + 21, hk => omega

end Go.Proofs.YtldcjkhbiffdoabGreatDoor
