import Derived.Test.YtldcjkhbiffdoaaGreatDoorM45
import Derived.Test.YtldcjkhbiffdoaaGreatDoorM07
import Derived.Deep.DeepCutAuto

/-
  factorlaw.step. (Written by wip/gen_step.py.)
-/
namespace Go.Proofs.YtldcjkhbiffdoaaGreatDoor
open Go.RowKit

theorem ptm_len {zs : List Int} (h : inB zs = true) : ∀ m, m ≤ zs.length → (ptm zs zs.length m).length ≤ 20 * m
  | 0, _ => by simp [ptm]
  | m + 1, hm => by
    have ih := ptm_len h m (by omega)
    have hl := inB_len h
    have h1 := stepT_len (t := ptm zs zs.length m) (c := zs.getD (zs.length - 1 - m) 0) (k := zs.length - 1 - m) (by omega) (inB_at h (by omega))
    show (stepT (ptm zs zs.length m) (zs.getD (zs.length - 1 - m) 0) (zs.length - 1 - m)).length ≤ _
    omega

theorem ptext_len {zs : List Int} (h : inB zs = true) : (ptext zs).length ≤ 220 := by
  have h1 := ptm_len h zs.length (Nat.le_refl _)
  have h2 := inB_len h
  unfold ptext
  split
  · show 1 ≤ 220; omega
  · omega

/-- A pair's box. -/
theorem pair_box {w : World} {x m u v : Value} : (((w.alloc (.cells #[u, v] 35)).setCell ⟨w.heap.size, 0, none⟩ x).setCell ⟨w.heap.size, 1, none⟩ m).heap[w.heap.size]? = some (.cells #[x, m] 35 (0, 0)) := by
  have h0 := heap_alloc_new w (.cells #[u, v] 35)
  have h1 := heap_setCell_same (w.alloc (.cells #[u, v] 35)) w.heap.size 0 #[u, v] 35 x h0
  have h2 := heap_setCell_same _ w.heap.size 1 _ _ m h1
  rw [h2]; rfl

theorem cells_f {w : World} {k : Nat} {c : Array Value} {ty : TypeId} (h : w.heap[k]? = some (.cells c ty (0, 0))) (o : Nat) : w.frozen? ⟨k, o, none⟩ = false := by simp [World.frozen?, h]

section
variable {w : World} {k : Nat} {a b c d e f : Value} {ty : TypeId}
theorem w6_0 (h : w.heap[k]? = some (.cells #[a, b, c, d, e, f] ty (0, 0))) : w.cell? ⟨k, 0, none⟩ = some a := by simp [World.cell?, h]
theorem w6_1 (h : w.heap[k]? = some (.cells #[a, b, c, d, e, f] ty (0, 0))) : w.cell? ⟨k, 1, none⟩ = some b := by simp [World.cell?, h]
theorem w6_2 (h : w.heap[k]? = some (.cells #[a, b, c, d, e, f] ty (0, 0))) : w.cell? ⟨k, 2, none⟩ = some c := by simp [World.cell?, h]
theorem w6_4 (h : w.heap[k]? = some (.cells #[a, b, c, d, e, f] ty (0, 0))) : w.cell? ⟨k, 4, none⟩ = some e := by simp [World.cell?, h]
end

/-- An operation's value. -/
def opV (kind a b c : Int) (s t : ByteArray) : Value := .agg #[.int .i64 kind, .int .i64 a, .int .i64 b, .int .i64 c, .string s, .string t]

set_option maxRecDepth 100000 in
set_option maxHeartbeats 8000000 in
theorem step_any (B k : Nat) (ps : List (List Int)) (kind a b c : Int) (s t : ByteArray) (w : World) (hW : IsW B w k ps) (hlen : ps.length ≤ 10000000) (hB : B ≤ k) (ht : TabB B w) (hs : s.size ≤ 9223372036854775807) (h9 : kind ≠ 9)
    (ha0 : -9223372036854775808 ≤ a) (ha1 : a ≤ 9223372036854775807) (hb0 : -9223372036854775808 ≤ b) (hb1 : b ≤ 9223372036854775807) :
    Calls Tryz.prog 22 #[.pointer (some ⟨k, 0, none⟩), opV kind a b c s t] w fun en w' => StepOK B k ps w en w' := by
  have hkw : B ≤ w.heap.size := by obtain ⟨a, c, hh, _⟩ := hW; have := lt_of_block hh; omega
  have hF : Hid (∀ W : World, Below w.heap.size w W → StepOK B k ps w (.returned (.bool true)) W) := fun W h => ⟨rfl, ⟨ps, hW.below h, by omega⟩, Kg.of h hkw⟩
  obtain ⟨PO, HPO⟩ : ∃ PO : Ending → World → Prop, Hid (PO = fun en w' => StepOK B k ps w en w') := ⟨_, rfl⟩
  have HTV : Hid (∀ en w', PO en w' → en = .returned (.bool true)) := fun en w' h => by rw [HPO.out] at h; exact h.1
  have HF : Hid (∀ W : World, Below w.heap.size w W → PO (.returned (.bool true)) W) := by rw [HPO.out]; exact hF.out
  have HRD : Hid (∀ (W : World) (s : ByteArray), Below w.heap.size w W → s.size ≤ 9223372036854775807 → Calls Tryz.prog 17 #[.pointer (some ⟨k, 0, none⟩), .string s] W PO) := fun W s h hs => by
    rw [HPO.out]
    exact (readW_any B k ps s W (hW.below h) hlen hB (ht.below h hkw) hs).mono (fun en w' g => g.from h hkw)
  have HTW : Hid (∀ (W : World) (x1 m1 x2 m2 : Value) (p q : List Int), Below w.heap.size w W → PairOK W x1 m1 p → PairOK W x2 m2 q → (kind = 3 ∨ kind = 4 ∨ kind = 5 ∨ kind = 6 ∨ kind = 7) → Calls Tryz.prog 18 #[.pointer (some ⟨k, 0, none⟩), .int .i64 kind, .agg #[x1, m1], .agg #[x2, m2]] W fun en w' => PO en w' ∧ Kq B W w') := fun W x1 m1 x2 m2 p q h h1 h2 hk => by
    rw [HPO.out]
    exact (two_any B k ps kind x1 m1 x2 m2 p q W (hW.below h) h1 h2 hlen hB (ht.below h hkw) hk).mono (fun en w' g => ⟨g.from h hkw, g.2.2⟩)
  have HSH : Hid (∀ (W : World) (x1 m1 : Value) (p : List Int), Below w.heap.size w W → PairOK W x1 m1 p → Calls Tryz.prog 19 #[.pointer (some ⟨k, 0, none⟩), .agg #[x1, m1], .int .i64 b] W PO) := fun W x1 m1 p h h1 => by
    rw [HPO.out]
    exact (shifted_any B k ps b x1 m1 p W (hW.below h) h1 hlen hB (ht.below h hkw)).mono (fun en w' g => g.from h hkw)
  have HTB : Hid (∀ W : World, Below w.heap.size w W → Tab W) := fun W h => (ht.below h hkw).tab (by have := h.size; omega)
  rw [← HPO.out]
  clear hF HPO
  unfold opV
  have hbx := below_one w (Obj.cells #[.int .i64 kind, .int .i64 a, .int .i64 b, .int .i64 c, .string s, .string t] 42)
  have X := heap_alloc_new w (Obj.cells #[.int .i64 kind, .int .i64 a, .int .i64 b, .int .i64 c, .string s, .string t] 42)
  by_cases h1 : kind = 1
  · subst h1
    go_enter Tryz.func22, Tryz.ntmps22
    go_wp2_with fail
    refine (HRD.out _ s hbx hs).mono ?_
    rintro en w4 hpo
    obtain rfl := HTV.out _ _ hpo
    go_wp2
    exact hpo
  · by_cases hp0 : ps.length = 0
    · obtain ⟨wa, wc, hh, _⟩ := id hW
      rw [hp0] at hh
      have q0 := w3_0 hh
      have hk1 := lt_of_block hh
      clear X
      have h1' : (kind == 1) = false := by simpa using h1
      go_enter Tryz.func22, Tryz.ntmps22
      go_wp2
      exact HF.out _ hbx
    · have hpos : 0 < ps.length := by omega
      have hW1 := hW.below hbx
      have hs1 := lt_of_block X
      obtain ⟨W1, HW1⟩ : ∃ W1, Hid (w.alloc (Obj.cells #[.int .i64 kind, .int .i64 a, .int .i64 b, .int .i64 c, .string s, .string t] 42) = W1) := ⟨_, rfl⟩
      rw [HW1.out] at hbx X hW1 hs1
      obtain ⟨wa, wq, hh, hq⟩ := id hW1
      obtain ⟨g, x1, m1, rfl, hc1, hc2, hg, _, e0, e1, hPk⟩ := hq.at (pck a ps.length) (pck_lt a hpos)
      obtain ⟨g2, x2, m2, hgg, _, _, _, _, e2, e3, hPk2⟩ := hq.at (pck b ps.length) (pck_lt b hpos)
      obtain rfl : g = g2 := by simpa using hgg
      clear hgg
      obtain ⟨i2, HI2⟩ : ∃ i2, Hid (pck b ps.length = i2) := ⟨_, rfl⟩
      have hi2 : i2 < ps.length := by rw [← HI2.out]; exact pck_lt b hpos
      have HPI2 : Hid (∀ W : World, Calls Tryz.prog 47 #[.int .i64 b, .int .i64 (ps.length : Int)] W fun e w' => e = .returned (.int .i64 (i2 : Int)) ∧ w' = W) := fun W => by
        rw [← HI2.out]; exact pick_any b ps.length W hb0 hb1 hpos (by omega)
      rw [HI2.out] at e2 e3 hPk2
      generalize ps.getD i2 [] = p2 at *
      obtain ⟨k2, v2, rfl, _, _⟩ := id hPk2.p
      obtain ⟨ma2, mc2, rfl⟩ := OwnLN.val hPk2.n
      have hS2 : ∀ W, Below W1.heap.size W1 W → W.cell? ⟨g, i2 * 2, none⟩ = some (.pointer (some ⟨k2, 0, none⟩)) ∧ W.cell? ⟨g, i2 * 2 + 1, none⟩ = some (.slice ma2 p2.length mc2) ∧ PairOK W (.pointer (some ⟨k2, 0, none⟩)) (.slice ma2 p2.length mc2) p2 := fun W h => ⟨(h.cell (p := ⟨g, i2 * 2, none⟩) hg).trans e2, (h.cell (p := ⟨g, i2 * 2 + 1, none⟩) hg).trans e3, hPk2.below h⟩
      have HS2 : Hid _ := hS2
      clear hS2 e2 e3 hPk2
      obtain ⟨i1, HI1⟩ : ∃ i1, Hid (pck a ps.length = i1) := ⟨_, rfl⟩
      have hi1 : i1 < ps.length := by rw [← HI1.out]; exact pck_lt a hpos
      have HPI : Hid (∀ W : World, Calls Tryz.prog 47 #[.int .i64 a, .int .i64 (ps.length : Int)] W fun e w' => e = .returned (.int .i64 (i1 : Int)) ∧ w' = W) := fun W => by
        rw [← HI1.out]; exact pick_any a ps.length W ha0 ha1 hpos (by omega)
      rw [HI1.out] at e0 e1 hPk
      generalize ps.getD i1 [] = p at *
      obtain ⟨k1, v1, rfl, _, _⟩ := id hPk.p
      obtain ⟨ma, mc, rfl⟩ := OwnLN.val hPk.n
      have q0 := w3_0 hh
      obtain ⟨q0w, hk0⟩ : w.cell? ⟨k, 0, none⟩ = some (.slice (some ⟨g, 0, none⟩) ps.length wq) ∧ k < w.heap.size := by
        obtain ⟨wa', wq', hh', _⟩ := id hW
        have hl := lt_of_block hh'
        have h3 := (hbx.cell (p := ⟨k, 0, none⟩) hl).symm.trans q0
        exact ⟨h3, hl⟩
      have x0 := w6_0 X; have x1 := w6_1 X; have x2 := w6_2 X
      have hk1 := lt_of_block hh
      have h1' : (kind == 1) = false := by simpa using h1
      have hp0' : ((ps.length : Int) == 0) = false := by simpa using hp0
      have hSV : ∀ W, Below W1.heap.size W1 W → W.cell? ⟨k, 0, none⟩ = some (.slice (some ⟨g, 0, none⟩) ps.length wq) ∧ W.cell? ⟨w.heap.size, 1, none⟩ = some (.int .i64 a) ∧ W.cell? ⟨g, i1 * 2, none⟩ = some (.pointer (some ⟨k1, 0, none⟩)) ∧ W.cell? ⟨g, i1 * 2 + 1, none⟩ = some (.slice ma p.length mc) := fun W h => ⟨(h.cell (p := ⟨k, 0, none⟩) hk1).trans q0, (h.cell (p := ⟨w.heap.size, 1, none⟩) hs1).trans x1, (h.cell (p := ⟨g, i1 * 2, none⟩) hg).trans e0, (h.cell (p := ⟨g, i1 * 2 + 1, none⟩) hg).trans e1⟩
      have HH : Hid _ := (⟨hSV, hW1, X⟩ : _ ∧ _ ∧ _)
      clear hSV hW1 X hh hq
      have hi1a : (i1 : Int) < (ps.length : Int) := by omega
      have hi1b : (0 : Int) ≤ (i1 : Int) := by omega
      go_enter Tryz.func22, Tryz.ntmps22
      go_wp2_with fail
      rw [HW1.out]
      go_cut [5] (fun p5 wc => ∃ pb, p5 = .pointer (some ⟨pb, 0, none⟩) ∧ wc.heap[pb]? = some (.cells #[.pointer (some ⟨k1, 0, none⟩), .slice ma p.length mc] 35 (0, 0)) ∧ Below W1.heap.size W1 wc)
      case first =>
        have hb0 : Below W1.heap.size W1 W1.drew := ⟨rfl, rfl, rfl, Nat.le_refl _, fun _ _ => rfl⟩
        have hSV := HH.out.1
        refine wp_region_held_drew (S := fun W => W.cell? ⟨k, 0, none⟩ = some (.slice (some ⟨g, 0, none⟩) ps.length wq) ∧ W.cell? ⟨w.heap.size, 1, none⟩ = some (.int .i64 a) ∧ W.cell? ⟨g, i1 * 2, none⟩ = some (.pointer (some ⟨k1, 0, none⟩)) ∧ W.cell? ⟨g, i1 * 2 + 1, none⟩ = some (.slice ma p.length mc)) (by kernel_rfl) (hSV _ hb0) fun hS => ?_
        generalize W1.drew = W0 at *
        refine h_take 0 19 (.pointer (some ⟨k, 0, none⟩)) rfl rfl (by kernel_rfl) (by kernel_rfl) (by kernel_rfl) (fun _ _ _ h => h) rfl (fun _ _ => by first | rfl | go_simp) hS ?_
        simp only [Act.put, List.setIfInBounds_toArray, List.set_cons_succ, List.set_cons_zero]
        refine h_take 1 20 (.pointer (some ⟨k, 0, none⟩)) rfl rfl (by kernel_rfl) (by kernel_rfl) (by kernel_rfl) (fun _ _ _ h => h) rfl (fun _ _ => by first | rfl | go_simp) hS ?_
        simp only [Act.put, List.setIfInBounds_toArray, List.set_cons_succ, List.set_cons_zero]
        refine h_take 2 21 (.pointer (some ⟨k, 0, none⟩)) rfl rfl (by kernel_rfl) (by kernel_rfl) (by kernel_rfl) (fun _ _ _ h => h) rfl (fun _ _ => by first | rfl | go_simp) hS ?_
        simp only [Act.put, List.setIfInBounds_toArray, List.set_cons_succ, List.set_cons_zero]
        refine h_take 3 22 (.slice (some ⟨g, 0, none⟩) ps.length wq) rfl rfl (by kernel_rfl) (by kernel_rfl) (by kernel_rfl) (fun _ _ _ h => h) rfl (fun w' hw' => by obtain ⟨y0, y1, y2, y3⟩ := hw'; go_simp) hS ?_
        simp only [Act.put, List.setIfInBounds_toArray, List.set_cons_succ, List.set_cons_zero]
        refine h_take 4 23 (.pointer (some ⟨w.heap.size, 1, none⟩)) rfl rfl (by kernel_rfl) (by kernel_rfl) (by kernel_rfl) (fun _ _ _ h => h) rfl (fun _ _ => by first | rfl | go_simp) hS ?_
        simp only [Act.put, List.setIfInBounds_toArray, List.set_cons_succ, List.set_cons_zero]
        refine h_take 5 24 (.int .i64 a) rfl rfl (by kernel_rfl) (by kernel_rfl) (by kernel_rfl) (fun _ _ _ h => h) rfl (fun w' hw' => by obtain ⟨y0, y1, y2, y3⟩ := hw'; go_simp) hS ?_
        simp only [Act.put, List.setIfInBounds_toArray, List.set_cons_succ, List.set_cons_zero]
        refine h_take 6 25 (.pointer (some ⟨k, 0, none⟩)) rfl rfl (by kernel_rfl) (by kernel_rfl) (by kernel_rfl) (fun _ _ _ h => h) rfl (fun _ _ => by first | rfl | go_simp) hS ?_
        simp only [Act.put, List.setIfInBounds_toArray, List.set_cons_succ, List.set_cons_zero]
        refine h_take 7 26 (.pointer (some ⟨k, 0, none⟩)) rfl rfl (by kernel_rfl) (by kernel_rfl) (by kernel_rfl) (fun _ _ _ h => h) rfl (fun _ _ => by first | rfl | go_simp) hS ?_
        simp only [Act.put, List.setIfInBounds_toArray, List.set_cons_succ, List.set_cons_zero]
        refine h_take 8 27 (.pointer (some ⟨k, 0, none⟩)) rfl rfl (by kernel_rfl) (by kernel_rfl) (by kernel_rfl) (fun _ _ _ h => h) rfl (fun _ _ => by first | rfl | go_simp) hS ?_
        simp only [Act.put, List.setIfInBounds_toArray, List.set_cons_succ, List.set_cons_zero]
        refine h_take 9 28 (.slice (some ⟨g, 0, none⟩) ps.length wq) rfl rfl (by kernel_rfl) (by kernel_rfl) (by kernel_rfl) (fun _ _ _ h => h) rfl (fun w' hw' => by obtain ⟨y0, y1, y2, y3⟩ := hw'; go_simp) hS ?_
        simp only [Act.put, List.setIfInBounds_toArray, List.set_cons_succ, List.set_cons_zero]
        refine h_take 10 29 (.int .i64 (ps.length : Int)) rfl rfl (by kernel_rfl) (by kernel_rfl) (by kernel_rfl) (fun _ _ _ h => h) rfl (fun _ _ => by first | rfl | go_simp) hS ?_
        simp only [Act.put, List.setIfInBounds_toArray, List.set_cons_succ, List.set_cons_zero]
        have hba := below_one W0 (Obj.cells #[Value.pointer none, Value.slice none 0 0] 35)
        have hbaw := hb0.trans (hba.mono hb0.size)
        have hbs : Below W1.heap.size W1 (((W0.alloc (Obj.cells #[Value.pointer none, Value.slice none 0 0] 35)).setCell ⟨W0.heap.size, 0, none⟩ (.pointer (some ⟨k1, 0, none⟩))).setCell ⟨W0.heap.size, 1, none⟩ (.slice ma p.length mc)) := (hbaw.setCell hb0.size _).setCell hb0.size _
        have hnew := heap_alloc_new W0 (Obj.cells #[Value.pointer none, Value.slice none 0 0] 35)
        have n0 := w2_0 hnew; have n1 := w2_1 hnew
        have nf0 := cells_f hnew 0; have nf1 := cells_f hnew 1
        have hfin := (⟨W0.heap.size, rfl, pair_box, hbs⟩ : ∃ pb, Value.pointer (some ⟨W0.heap.size, 0, none⟩) = .pointer (some ⟨pb, 0, none⟩) ∧ (((W0.alloc (Obj.cells #[Value.pointer none, Value.slice none 0 0] 35)).setCell ⟨W0.heap.size, 0, none⟩ (.pointer (some ⟨k1, 0, none⟩))).setCell ⟨W0.heap.size, 1, none⟩ (.slice ma p.length mc)).heap[pb]? = some (.cells #[.pointer (some ⟨k1, 0, none⟩), .slice ma p.length mc] 35 (0, 0)) ∧ Below W1.heap.size W1 (((W0.alloc (Obj.cells #[Value.pointer none, Value.slice none 0 0] 35)).setCell ⟨W0.heap.size, 0, none⟩ (.pointer (some ⟨k1, 0, none⟩))).setCell ⟨W0.heap.size, 1, none⟩ (.slice ma p.length mc)))
        have HFI : Hid _ := hfin
        clear hfin
        refine h_two 11 14 30 5 47 #[.int .i64 a, .int .i64 (ps.length : Int)] (.pointer (some ⟨W0.heap.size, 0, none⟩)) (w2 := W0.alloc (Obj.cells #[Value.pointer none, Value.slice none 0 0] 35)) rfl rfl rfl rfl (by kernel_rfl) rfl rfl (by go_simp) (by go_simp) (hSV _ hbaw) ?_ ?_
        · refine (HPI.out W0).mono ?_
          rintro en w' ⟨rfl, rfl⟩
          refine ⟨_, rfl, hS, ?_⟩
          simp only [Act.put, List.setIfInBounds_toArray, List.set_cons_succ, List.set_cons_zero]
          refine h_take 12 31 (.pointer (some ⟨g, i1 * 2, none⟩)) rfl rfl (by kernel_rfl) (by kernel_rfl) (by kernel_rfl) (fun _ _ _ h => h) rfl (fun _ _ => by first | rfl | go_simp) hS ?_
          simp only [Act.put, List.setIfInBounds_toArray, List.set_cons_succ, List.set_cons_zero]
          refine h_take 13 32 (.agg #[.pointer (some ⟨k1, 0, none⟩), .slice ma p.length mc]) rfl rfl (by kernel_rfl) (by kernel_rfl) (by kernel_rfl) (fun _ _ _ h => h) rfl (fun w' hw' => by obtain ⟨y0, y1, y2, y3⟩ := hw'; go_simp) hS ?_
          simp only [Act.put, List.setIfInBounds_toArray, List.set_cons_succ, List.set_cons_zero]
          refine h_val 14 5 (.pointer (some ⟨w'.heap.size, 0, none⟩)) (w' := w'.alloc (Obj.cells #[Value.pointer none, Value.slice none 0 0] 35)) rfl rfl (by kernel_rfl) rfl (by go_simp) (hSV _ hbaw) ?_
          simp only [Act.put, List.setIfInBounds_toArray, List.set_cons_succ, List.set_cons_zero]
          refine h_store 15 (w' := ((w'.alloc (Obj.cells #[Value.pointer none, Value.slice none 0 0] 35)).setCell ⟨w'.heap.size, 0, none⟩ (.pointer (some ⟨k1, 0, none⟩))).setCell ⟨w'.heap.size, 1, none⟩ (.slice ma p.length mc)) rfl rfl (by kernel_rfl) rfl (by go_simp) (hSV _ hbs) ?_
          refine wpAnyH_done (by kernel_rfl) ?_ _
          go_wp2_with fail
          go_meet
          case rel => exact HFI.out
        · have hS := hSV _ hbaw
          simp only [Act.put, List.setIfInBounds_toArray, List.set_cons_succ, List.set_cons_zero]
          refine h_call 11 30 47 #[.int .i64 a, .int .i64 (ps.length : Int)] rfl rfl (by kernel_rfl) rfl (by go_simp) ?_
          refine (HPI.out _).mono ?_
          rintro en w' ⟨rfl, rfl⟩
          refine ⟨_, rfl, hS, ?_⟩
          simp only [Act.put, List.setIfInBounds_toArray, List.set_cons_succ, List.set_cons_zero]
          refine h_take 12 31 (.pointer (some ⟨g, i1 * 2, none⟩)) rfl rfl (by kernel_rfl) (by kernel_rfl) (by kernel_rfl) (fun _ _ _ h => h) rfl (fun _ _ => by first | rfl | go_simp) hS ?_
          simp only [Act.put, List.setIfInBounds_toArray, List.set_cons_succ, List.set_cons_zero]
          refine h_take 13 32 (.agg #[.pointer (some ⟨k1, 0, none⟩), .slice ma p.length mc]) rfl rfl (by kernel_rfl) (by kernel_rfl) (by kernel_rfl) (fun _ _ _ h => h) rfl (fun w' hw' => by obtain ⟨y0, y1, y2, y3⟩ := hw'; go_simp) hS ?_
          simp only [Act.put, List.setIfInBounds_toArray, List.set_cons_succ, List.set_cons_zero]
          refine h_store 15 (w' := ((W0.alloc (Obj.cells #[Value.pointer none, Value.slice none 0 0] 35)).setCell ⟨W0.heap.size, 0, none⟩ (.pointer (some ⟨k1, 0, none⟩))).setCell ⟨W0.heap.size, 1, none⟩ (.slice ma p.length mc)) rfl rfl (by kernel_rfl) rfl (by go_simp) (hSV _ hbs) ?_
          refine wpAnyH_done (by kernel_rfl) ?_ _
          go_wp2_with fail
          go_meet
          case rel => exact HFI.out
      case rest =>
        obtain ⟨pb, rfl, hpb, hbc⟩ := hcut
        have hbcw := hbx.trans (hbc.mono hbx.size)
        obtain ⟨hSV, hW1, X⟩ := HH.out
        clear HH
        have Xc := (hbc.block w.heap.size hs1).trans X
        have hWc := hW1.below hbc
        have hPc := hPk.below hbc
        have y0 := w6_0 Xc; have y2 := w6_2 Xc
        have z0 := w2_0 hpb; have z1 := w2_1 hpb
        have hpl := lt_of_block hpb
        have hsc : w.heap.size < wc.heap.size := by have := hbc.size; omega
        by_cases h2 : kind = 2
        · subst h2
          have hT := polyText_any p _ wc hPc.p hPc.ib (HTB.out wc hbcw)
          have htl := ptext_len hPc.ib
          generalize ptext p = T at *
          go_wp2_with fail
          refine hT.mono ?_
          rintro en w3 ⟨rfl, hb3⟩
          have hb3w := hbcw.trans (hb3.mono hbcw.size)
          go_wp2_with fail
          refine (HRD.out w3 ⟨T.toArray⟩ hb3w (by show T.length ≤ _; omega)).mono ?_
          rintro en w4 hpo
          obtain rfl := HTV.out _ _ hpo
          go_wp2
          exact hpo
        · have h2' : (kind == 2) = false := by simpa using h2
          by_cases h8 : kind = 8
          · subst h8
            go_wp2_with fail
            refine (HSH.out wc _ _ p hbcw hPc).mono ?_
            rintro en w4 hpo
            obtain rfl := HTV.out _ _ hpo
            go_wp2
            exact hpo
          · have h8' : (kind == 8) = false := by simpa using h8
            have h9' : (kind == 9) = false := by simpa using h9
            by_cases hk : kind = 3 ∨ kind = 4 ∨ kind = 5 ∨ kind = 6 ∨ kind = 7
            · have HKI : Hid _ := hk
              clear hk
              have hi2a : (i2 : Int) < (ps.length : Int) := by omega
              have hi2b : (0 : Int) ≤ (i2 : Int) := by omega
              rcases HKI.out with hk | hk | hk | hk | hk
              · have k3 : (kind == 3) = true := by rw [hk]; rfl
                clear hk
                go_wp2_with fail
                have hbd : Below wc.heap.size wc wc.drew := ⟨rfl, rfl, rfl, Nat.le_refl _, fun _ _ => rfl⟩
                have hbd1 := hbc.trans (hbd.mono hbc.size)
                have hv0w := hbcw.trans (hbd.mono hbcw.size)
                have Xv := (hbd.block w.heap.size hsc).trans Xc
                have hpbv := (hbd.block pb hpl).trans hpb
                obtain ⟨v3, v4, hPv2⟩ := HS2.out _ hbd1
                have hPv1 := hPc.below hbd
                have hS0 : wc.drew.cell? ⟨w.heap.size, 0, none⟩ = some (.int .i64 kind) ∧ wc.drew.cell? ⟨w.heap.size, 2, none⟩ = some (.int .i64 b) ∧ wc.drew.cell? ⟨k, 0, none⟩ = some (.slice (some ⟨g, 0, none⟩) ps.length wq) ∧ wc.drew.cell? ⟨pb, 0, none⟩ = some (.pointer (some ⟨k1, 0, none⟩)) ∧ wc.drew.cell? ⟨pb, 1, none⟩ = some (.slice ma p.length mc) ∧ wc.drew.cell? ⟨g, i2 * 2, none⟩ = some (.pointer (some ⟨k2, 0, none⟩)) ∧ wc.drew.cell? ⟨g, i2 * 2 + 1, none⟩ = some (.slice ma2 p2.length mc2) := ⟨w6_0 Xv, w6_2 Xv, (hSV _ hbd1).1, w2_0 hpbv, w2_1 hpbv, v3, v4⟩
                clear z0 z1 y0 y2 x0 x1 x2 q0 v3 v4
                refine z_begin (S := fun W => W.cell? ⟨w.heap.size, 0, none⟩ = some (.int .i64 kind) ∧ W.cell? ⟨w.heap.size, 2, none⟩ = some (.int .i64 b) ∧ W.cell? ⟨k, 0, none⟩ = some (.slice (some ⟨g, 0, none⟩) ps.length wq) ∧ W.cell? ⟨pb, 0, none⟩ = some (.pointer (some ⟨k1, 0, none⟩)) ∧ W.cell? ⟨pb, 1, none⟩ = some (.slice ma p.length mc) ∧ W.cell? ⟨g, i2 * 2, none⟩ = some (.pointer (some ⟨k2, 0, none⟩)) ∧ W.cell? ⟨g, i2 * 2 + 1, none⟩ = some (.slice ma2 p2.length mc2)) 18 (by kernel_rfl) hS0 fun hS => ?_
                generalize wc.drew = V0 at *
                refine z_take 0 55 (.pointer (some ⟨k, 0, none⟩)) [] rfl rfl (by kernel_rfl) (by kernel_rfl) (by kernel_rfl) (by kernel_rfl) (by kernel_rfl) rfl (by kernel_rfl) (fun _ _ _ h => h) rfl (fun _ _ => by first | rfl | go_simp) hS ?_
                simp only [Act.put, List.setIfInBounds_toArray, List.set_cons_succ, List.set_cons_zero]
                refine z_take 1 56 (.pointer (some ⟨w.heap.size, 0, none⟩)) [2] rfl rfl (by kernel_rfl) (by kernel_rfl) (by kernel_rfl) (by kernel_rfl) (by kernel_rfl) rfl (by kernel_rfl) (fun _ _ _ h => h) rfl (fun _ _ => by first | rfl | go_simp) hS ?_
                simp only [Act.put, List.setIfInBounds_toArray, List.set_cons_succ, List.set_cons_zero]
                refine z_take 2 57 (.int .i64 kind) [] rfl rfl (by kernel_rfl) (by kernel_rfl) (by kernel_rfl) (by kernel_rfl) (by kernel_rfl) rfl (by kernel_rfl) (fun _ _ _ h => h) rfl (fun w' hw' => by obtain ⟨y0, y1, y2, y3, y4, y5, y6⟩ := hw'; go_simp) hS ?_
                simp only [Act.put, List.setIfInBounds_toArray, List.set_cons_succ, List.set_cons_zero]
                refine z_take 3 58 (.agg #[.pointer (some ⟨k1, 0, none⟩), .slice ma p.length mc]) [] rfl rfl (by kernel_rfl) (by kernel_rfl) (by kernel_rfl) (by kernel_rfl) (by kernel_rfl) rfl (by kernel_rfl) (fun _ _ _ h => h) rfl (fun w' hw' => by obtain ⟨y0, y1, y2, y3, y4, y5, y6⟩ := hw'; go_simp) hS ?_
                simp only [Act.put, List.setIfInBounds_toArray, List.set_cons_succ, List.set_cons_zero]
                refine z_take 4 59 (.pointer (some ⟨k, 0, none⟩)) [17, 16, 7, 6, 5] rfl rfl (by kernel_rfl) (by kernel_rfl) (by kernel_rfl) (by kernel_rfl) (by kernel_rfl) rfl (by kernel_rfl) (fun _ _ _ h => h) rfl (fun _ _ => by first | rfl | go_simp) hS ?_
                simp only [Act.put, List.setIfInBounds_toArray, List.set_cons_succ, List.set_cons_zero]
                refine z_take 5 60 (.pointer (some ⟨k, 0, none⟩)) [17, 16, 7, 6] rfl rfl (by kernel_rfl) (by kernel_rfl) (by kernel_rfl) (by kernel_rfl) (by kernel_rfl) rfl (by kernel_rfl) (fun _ _ _ h => h) rfl (fun _ _ => by first | rfl | go_simp) hS ?_
                simp only [Act.put, List.setIfInBounds_toArray, List.set_cons_succ, List.set_cons_zero]
                refine z_take 6 61 (.pointer (some ⟨k, 0, none⟩)) [17, 16, 7] rfl rfl (by kernel_rfl) (by kernel_rfl) (by kernel_rfl) (by kernel_rfl) (by kernel_rfl) rfl (by kernel_rfl) (fun _ _ _ h => h) rfl (fun _ _ => by first | rfl | go_simp) hS ?_
                simp only [Act.put, List.setIfInBounds_toArray, List.set_cons_succ, List.set_cons_zero]
                refine z_take 7 62 (.slice (some ⟨g, 0, none⟩) ps.length wq) [17, 16] rfl rfl (by kernel_rfl) (by kernel_rfl) (by kernel_rfl) (by kernel_rfl) (by kernel_rfl) rfl (by kernel_rfl) (fun _ _ _ h => h) rfl (fun w' hw' => by obtain ⟨y0, y1, y2, y3, y4, y5, y6⟩ := hw'; go_simp) hS ?_
                simp only [Act.put, List.setIfInBounds_toArray, List.set_cons_succ, List.set_cons_zero]
                refine z_take 8 63 (.pointer (some ⟨w.heap.size, 2, none⟩)) [15, 9] rfl rfl (by kernel_rfl) (by kernel_rfl) (by kernel_rfl) (by kernel_rfl) (by kernel_rfl) rfl (by kernel_rfl) (fun _ _ _ h => h) rfl (fun _ _ => by first | rfl | go_simp) hS ?_
                simp only [Act.put, List.setIfInBounds_toArray, List.set_cons_succ, List.set_cons_zero]
                refine z_take 9 64 (.int .i64 b) [15] rfl rfl (by kernel_rfl) (by kernel_rfl) (by kernel_rfl) (by kernel_rfl) (by kernel_rfl) rfl (by kernel_rfl) (fun _ _ _ h => h) rfl (fun w' hw' => by obtain ⟨y0, y1, y2, y3, y4, y5, y6⟩ := hw'; go_simp) hS ?_
                simp only [Act.put, List.setIfInBounds_toArray, List.set_cons_succ, List.set_cons_zero]
                refine z_take 10 65 (.pointer (some ⟨k, 0, none⟩)) [15, 14, 13, 12, 11] rfl rfl (by kernel_rfl) (by kernel_rfl) (by kernel_rfl) (by kernel_rfl) (by kernel_rfl) rfl (by kernel_rfl) (fun _ _ _ h => h) rfl (fun _ _ => by first | rfl | go_simp) hS ?_
                simp only [Act.put, List.setIfInBounds_toArray, List.set_cons_succ, List.set_cons_zero]
                refine z_take 11 66 (.pointer (some ⟨k, 0, none⟩)) [15, 14, 13, 12] rfl rfl (by kernel_rfl) (by kernel_rfl) (by kernel_rfl) (by kernel_rfl) (by kernel_rfl) rfl (by kernel_rfl) (fun _ _ _ h => h) rfl (fun _ _ => by first | rfl | go_simp) hS ?_
                simp only [Act.put, List.setIfInBounds_toArray, List.set_cons_succ, List.set_cons_zero]
                refine z_take 12 67 (.pointer (some ⟨k, 0, none⟩)) [15, 14, 13] rfl rfl (by kernel_rfl) (by kernel_rfl) (by kernel_rfl) (by kernel_rfl) (by kernel_rfl) rfl (by kernel_rfl) (fun _ _ _ h => h) rfl (fun _ _ => by first | rfl | go_simp) hS ?_
                simp only [Act.put, List.setIfInBounds_toArray, List.set_cons_succ, List.set_cons_zero]
                refine z_take 13 68 (.slice (some ⟨g, 0, none⟩) ps.length wq) [15, 14] rfl rfl (by kernel_rfl) (by kernel_rfl) (by kernel_rfl) (by kernel_rfl) (by kernel_rfl) rfl (by kernel_rfl) (fun _ _ _ h => h) rfl (fun w' hw' => by obtain ⟨y0, y1, y2, y3, y4, y5, y6⟩ := hw'; go_simp) hS ?_
                simp only [Act.put, List.setIfInBounds_toArray, List.set_cons_succ, List.set_cons_zero]
                refine z_take 14 69 (.int .i64 (ps.length : Int)) [15] rfl rfl (by kernel_rfl) (by kernel_rfl) (by kernel_rfl) (by kernel_rfl) (by kernel_rfl) rfl (by kernel_rfl) (fun _ _ _ h => h) rfl (fun _ _ => by first | rfl | go_simp) hS ?_
                simp only [Act.put, List.setIfInBounds_toArray, List.set_cons_succ, List.set_cons_zero]
                refine z_call 15 70 47 #[.int .i64 b, .int .i64 (ps.length : Int)] rfl rfl (by kernel_rfl) rfl (by go_simp) ?_
                refine (HPI2.out V0).mono ?_
                rintro en w8 ⟨rfl, rfl⟩
                refine ⟨_, rfl, fun _ => hS, ?_⟩
                simp only [Act.put, List.setIfInBounds_toArray, List.set_cons_succ, List.set_cons_zero]
                refine z_take 16 71 (.pointer (some ⟨g, i2 * 2, none⟩)) [17] rfl rfl (by kernel_rfl) (by kernel_rfl) (by kernel_rfl) (by kernel_rfl) (by kernel_rfl) rfl (by kernel_rfl) (fun _ _ _ h => h) rfl (fun _ _ => by first | rfl | go_simp) hS ?_
                simp only [Act.put, List.setIfInBounds_toArray, List.set_cons_succ, List.set_cons_zero]
                refine z_take 17 72 (.agg #[.pointer (some ⟨k2, 0, none⟩), .slice ma2 p2.length mc2]) [] rfl rfl (by kernel_rfl) (by kernel_rfl) (by kernel_rfl) (by kernel_rfl) (by kernel_rfl) rfl (by kernel_rfl) (fun _ _ _ h => h) rfl (fun w' hw' => by obtain ⟨y0, y1, y2, y3, y4, y5, y6⟩ := hw'; go_simp) hS ?_
                simp only [Act.put, List.setIfInBounds_toArray, List.set_cons_succ, List.set_cons_zero]
                refine z_call 18 73 18 #[.pointer (some ⟨k, 0, none⟩), .int .i64 kind, .agg #[.pointer (some ⟨k1, 0, none⟩), .slice ma p.length mc], .agg #[.pointer (some ⟨k2, 0, none⟩), .slice ma2 p2.length mc2]] rfl rfl (by kernel_rfl) rfl (by go_simp) ?_
                refine (HTW.out _ _ _ _ _ p p2 hv0w hPv1 hPv2 HKI.out).mono ?_
                rintro en w9 ⟨hpo, _⟩
                obtain rfl := HTV.out _ _ hpo
                refine ⟨_, rfl, fun h0 => absurd h0 (by decide), ?_⟩
                simp only [Act.put, List.setIfInBounds_toArray, List.set_cons_succ, List.set_cons_zero]
                refine z_val 19 4 (.bool true) rfl rfl (by kernel_rfl) rfl rfl (by kernel_rfl) ?_
                simp only [Act.put, List.setIfInBounds_toArray, List.set_cons_succ, List.set_cons_zero]
                refine z_done (by kernel_rfl) ?_ _
                go_wp2
                exact hpo
              · have k3 : (kind == 3) = false := by rw [hk]; rfl
                have k4 : (kind == 4) = true := by rw [hk]; rfl
                clear hk
                go_wp2_with fail
                have hbd : Below wc.heap.size wc wc.drew := ⟨rfl, rfl, rfl, Nat.le_refl _, fun _ _ => rfl⟩
                have hbd1 := hbc.trans (hbd.mono hbc.size)
                have hv0w := hbcw.trans (hbd.mono hbcw.size)
                have Xv := (hbd.block w.heap.size hsc).trans Xc
                have hpbv := (hbd.block pb hpl).trans hpb
                obtain ⟨v3, v4, hPv2⟩ := HS2.out _ hbd1
                have hPv1 := hPc.below hbd
                have hS0 : wc.drew.cell? ⟨w.heap.size, 0, none⟩ = some (.int .i64 kind) ∧ wc.drew.cell? ⟨w.heap.size, 2, none⟩ = some (.int .i64 b) ∧ wc.drew.cell? ⟨k, 0, none⟩ = some (.slice (some ⟨g, 0, none⟩) ps.length wq) ∧ wc.drew.cell? ⟨pb, 0, none⟩ = some (.pointer (some ⟨k1, 0, none⟩)) ∧ wc.drew.cell? ⟨pb, 1, none⟩ = some (.slice ma p.length mc) ∧ wc.drew.cell? ⟨g, i2 * 2, none⟩ = some (.pointer (some ⟨k2, 0, none⟩)) ∧ wc.drew.cell? ⟨g, i2 * 2 + 1, none⟩ = some (.slice ma2 p2.length mc2) := ⟨w6_0 Xv, w6_2 Xv, (hSV _ hbd1).1, w2_0 hpbv, w2_1 hpbv, v3, v4⟩
                clear z0 z1 y0 y2 x0 x1 x2 q0 v3 v4
                refine z_begin (S := fun W => W.cell? ⟨w.heap.size, 0, none⟩ = some (.int .i64 kind) ∧ W.cell? ⟨w.heap.size, 2, none⟩ = some (.int .i64 b) ∧ W.cell? ⟨k, 0, none⟩ = some (.slice (some ⟨g, 0, none⟩) ps.length wq) ∧ W.cell? ⟨pb, 0, none⟩ = some (.pointer (some ⟨k1, 0, none⟩)) ∧ W.cell? ⟨pb, 1, none⟩ = some (.slice ma p.length mc) ∧ W.cell? ⟨g, i2 * 2, none⟩ = some (.pointer (some ⟨k2, 0, none⟩)) ∧ W.cell? ⟨g, i2 * 2 + 1, none⟩ = some (.slice ma2 p2.length mc2)) 18 (by kernel_rfl) hS0 fun hS => ?_
                generalize wc.drew = V0 at *
                refine z_take 0 55 (.pointer (some ⟨k, 0, none⟩)) [] rfl rfl (by kernel_rfl) (by kernel_rfl) (by kernel_rfl) (by kernel_rfl) (by kernel_rfl) rfl (by kernel_rfl) (fun _ _ _ h => h) rfl (fun _ _ => by first | rfl | go_simp) hS ?_
                simp only [Act.put, List.setIfInBounds_toArray, List.set_cons_succ, List.set_cons_zero]
                refine z_take 1 56 (.pointer (some ⟨w.heap.size, 0, none⟩)) [2] rfl rfl (by kernel_rfl) (by kernel_rfl) (by kernel_rfl) (by kernel_rfl) (by kernel_rfl) rfl (by kernel_rfl) (fun _ _ _ h => h) rfl (fun _ _ => by first | rfl | go_simp) hS ?_
                simp only [Act.put, List.setIfInBounds_toArray, List.set_cons_succ, List.set_cons_zero]
                refine z_take 2 57 (.int .i64 kind) [] rfl rfl (by kernel_rfl) (by kernel_rfl) (by kernel_rfl) (by kernel_rfl) (by kernel_rfl) rfl (by kernel_rfl) (fun _ _ _ h => h) rfl (fun w' hw' => by obtain ⟨y0, y1, y2, y3, y4, y5, y6⟩ := hw'; go_simp) hS ?_
                simp only [Act.put, List.setIfInBounds_toArray, List.set_cons_succ, List.set_cons_zero]
                refine z_take 3 58 (.agg #[.pointer (some ⟨k1, 0, none⟩), .slice ma p.length mc]) [] rfl rfl (by kernel_rfl) (by kernel_rfl) (by kernel_rfl) (by kernel_rfl) (by kernel_rfl) rfl (by kernel_rfl) (fun _ _ _ h => h) rfl (fun w' hw' => by obtain ⟨y0, y1, y2, y3, y4, y5, y6⟩ := hw'; go_simp) hS ?_
                simp only [Act.put, List.setIfInBounds_toArray, List.set_cons_succ, List.set_cons_zero]
                refine z_take 4 59 (.pointer (some ⟨k, 0, none⟩)) [17, 16, 7, 6, 5] rfl rfl (by kernel_rfl) (by kernel_rfl) (by kernel_rfl) (by kernel_rfl) (by kernel_rfl) rfl (by kernel_rfl) (fun _ _ _ h => h) rfl (fun _ _ => by first | rfl | go_simp) hS ?_
                simp only [Act.put, List.setIfInBounds_toArray, List.set_cons_succ, List.set_cons_zero]
                refine z_take 5 60 (.pointer (some ⟨k, 0, none⟩)) [17, 16, 7, 6] rfl rfl (by kernel_rfl) (by kernel_rfl) (by kernel_rfl) (by kernel_rfl) (by kernel_rfl) rfl (by kernel_rfl) (fun _ _ _ h => h) rfl (fun _ _ => by first | rfl | go_simp) hS ?_
                simp only [Act.put, List.setIfInBounds_toArray, List.set_cons_succ, List.set_cons_zero]
                refine z_take 6 61 (.pointer (some ⟨k, 0, none⟩)) [17, 16, 7] rfl rfl (by kernel_rfl) (by kernel_rfl) (by kernel_rfl) (by kernel_rfl) (by kernel_rfl) rfl (by kernel_rfl) (fun _ _ _ h => h) rfl (fun _ _ => by first | rfl | go_simp) hS ?_
                simp only [Act.put, List.setIfInBounds_toArray, List.set_cons_succ, List.set_cons_zero]
                refine z_take 7 62 (.slice (some ⟨g, 0, none⟩) ps.length wq) [17, 16] rfl rfl (by kernel_rfl) (by kernel_rfl) (by kernel_rfl) (by kernel_rfl) (by kernel_rfl) rfl (by kernel_rfl) (fun _ _ _ h => h) rfl (fun w' hw' => by obtain ⟨y0, y1, y2, y3, y4, y5, y6⟩ := hw'; go_simp) hS ?_
                simp only [Act.put, List.setIfInBounds_toArray, List.set_cons_succ, List.set_cons_zero]
                refine z_take 8 63 (.pointer (some ⟨w.heap.size, 2, none⟩)) [15, 9] rfl rfl (by kernel_rfl) (by kernel_rfl) (by kernel_rfl) (by kernel_rfl) (by kernel_rfl) rfl (by kernel_rfl) (fun _ _ _ h => h) rfl (fun _ _ => by first | rfl | go_simp) hS ?_
                simp only [Act.put, List.setIfInBounds_toArray, List.set_cons_succ, List.set_cons_zero]
                refine z_take 9 64 (.int .i64 b) [15] rfl rfl (by kernel_rfl) (by kernel_rfl) (by kernel_rfl) (by kernel_rfl) (by kernel_rfl) rfl (by kernel_rfl) (fun _ _ _ h => h) rfl (fun w' hw' => by obtain ⟨y0, y1, y2, y3, y4, y5, y6⟩ := hw'; go_simp) hS ?_
                simp only [Act.put, List.setIfInBounds_toArray, List.set_cons_succ, List.set_cons_zero]
                refine z_take 10 65 (.pointer (some ⟨k, 0, none⟩)) [15, 14, 13, 12, 11] rfl rfl (by kernel_rfl) (by kernel_rfl) (by kernel_rfl) (by kernel_rfl) (by kernel_rfl) rfl (by kernel_rfl) (fun _ _ _ h => h) rfl (fun _ _ => by first | rfl | go_simp) hS ?_
                simp only [Act.put, List.setIfInBounds_toArray, List.set_cons_succ, List.set_cons_zero]
                refine z_take 11 66 (.pointer (some ⟨k, 0, none⟩)) [15, 14, 13, 12] rfl rfl (by kernel_rfl) (by kernel_rfl) (by kernel_rfl) (by kernel_rfl) (by kernel_rfl) rfl (by kernel_rfl) (fun _ _ _ h => h) rfl (fun _ _ => by first | rfl | go_simp) hS ?_
                simp only [Act.put, List.setIfInBounds_toArray, List.set_cons_succ, List.set_cons_zero]
                refine z_take 12 67 (.pointer (some ⟨k, 0, none⟩)) [15, 14, 13] rfl rfl (by kernel_rfl) (by kernel_rfl) (by kernel_rfl) (by kernel_rfl) (by kernel_rfl) rfl (by kernel_rfl) (fun _ _ _ h => h) rfl (fun _ _ => by first | rfl | go_simp) hS ?_
                simp only [Act.put, List.setIfInBounds_toArray, List.set_cons_succ, List.set_cons_zero]
                refine z_take 13 68 (.slice (some ⟨g, 0, none⟩) ps.length wq) [15, 14] rfl rfl (by kernel_rfl) (by kernel_rfl) (by kernel_rfl) (by kernel_rfl) (by kernel_rfl) rfl (by kernel_rfl) (fun _ _ _ h => h) rfl (fun w' hw' => by obtain ⟨y0, y1, y2, y3, y4, y5, y6⟩ := hw'; go_simp) hS ?_
                simp only [Act.put, List.setIfInBounds_toArray, List.set_cons_succ, List.set_cons_zero]
                refine z_take 14 69 (.int .i64 (ps.length : Int)) [15] rfl rfl (by kernel_rfl) (by kernel_rfl) (by kernel_rfl) (by kernel_rfl) (by kernel_rfl) rfl (by kernel_rfl) (fun _ _ _ h => h) rfl (fun _ _ => by first | rfl | go_simp) hS ?_
                simp only [Act.put, List.setIfInBounds_toArray, List.set_cons_succ, List.set_cons_zero]
                refine z_call 15 70 47 #[.int .i64 b, .int .i64 (ps.length : Int)] rfl rfl (by kernel_rfl) rfl (by go_simp) ?_
                refine (HPI2.out V0).mono ?_
                rintro en w8 ⟨rfl, rfl⟩
                refine ⟨_, rfl, fun _ => hS, ?_⟩
                simp only [Act.put, List.setIfInBounds_toArray, List.set_cons_succ, List.set_cons_zero]
                refine z_take 16 71 (.pointer (some ⟨g, i2 * 2, none⟩)) [17] rfl rfl (by kernel_rfl) (by kernel_rfl) (by kernel_rfl) (by kernel_rfl) (by kernel_rfl) rfl (by kernel_rfl) (fun _ _ _ h => h) rfl (fun _ _ => by first | rfl | go_simp) hS ?_
                simp only [Act.put, List.setIfInBounds_toArray, List.set_cons_succ, List.set_cons_zero]
                refine z_take 17 72 (.agg #[.pointer (some ⟨k2, 0, none⟩), .slice ma2 p2.length mc2]) [] rfl rfl (by kernel_rfl) (by kernel_rfl) (by kernel_rfl) (by kernel_rfl) (by kernel_rfl) rfl (by kernel_rfl) (fun _ _ _ h => h) rfl (fun w' hw' => by obtain ⟨y0, y1, y2, y3, y4, y5, y6⟩ := hw'; go_simp) hS ?_
                simp only [Act.put, List.setIfInBounds_toArray, List.set_cons_succ, List.set_cons_zero]
                refine z_call 18 73 18 #[.pointer (some ⟨k, 0, none⟩), .int .i64 kind, .agg #[.pointer (some ⟨k1, 0, none⟩), .slice ma p.length mc], .agg #[.pointer (some ⟨k2, 0, none⟩), .slice ma2 p2.length mc2]] rfl rfl (by kernel_rfl) rfl (by go_simp) ?_
                refine (HTW.out _ _ _ _ _ p p2 hv0w hPv1 hPv2 HKI.out).mono ?_
                rintro en w9 ⟨hpo, _⟩
                obtain rfl := HTV.out _ _ hpo
                refine ⟨_, rfl, fun h0 => absurd h0 (by decide), ?_⟩
                simp only [Act.put, List.setIfInBounds_toArray, List.set_cons_succ, List.set_cons_zero]
                refine z_val 19 4 (.bool true) rfl rfl (by kernel_rfl) rfl rfl (by kernel_rfl) ?_
                simp only [Act.put, List.setIfInBounds_toArray, List.set_cons_succ, List.set_cons_zero]
                refine z_done (by kernel_rfl) ?_ _
                go_wp2
                exact hpo
              · have k3 : (kind == 3) = false := by rw [hk]; rfl
                have k4 : (kind == 4) = false := by rw [hk]; rfl
                have k5 : (kind == 5) = true := by rw [hk]; rfl
                clear hk
                go_wp2_with fail
                have hbd : Below wc.heap.size wc wc.drew := ⟨rfl, rfl, rfl, Nat.le_refl _, fun _ _ => rfl⟩
                have hbd1 := hbc.trans (hbd.mono hbc.size)
                have hv0w := hbcw.trans (hbd.mono hbcw.size)
                have Xv := (hbd.block w.heap.size hsc).trans Xc
                have hpbv := (hbd.block pb hpl).trans hpb
                obtain ⟨v3, v4, hPv2⟩ := HS2.out _ hbd1
                have hPv1 := hPc.below hbd
                have hS0 : wc.drew.cell? ⟨w.heap.size, 0, none⟩ = some (.int .i64 kind) ∧ wc.drew.cell? ⟨w.heap.size, 2, none⟩ = some (.int .i64 b) ∧ wc.drew.cell? ⟨k, 0, none⟩ = some (.slice (some ⟨g, 0, none⟩) ps.length wq) ∧ wc.drew.cell? ⟨pb, 0, none⟩ = some (.pointer (some ⟨k1, 0, none⟩)) ∧ wc.drew.cell? ⟨pb, 1, none⟩ = some (.slice ma p.length mc) ∧ wc.drew.cell? ⟨g, i2 * 2, none⟩ = some (.pointer (some ⟨k2, 0, none⟩)) ∧ wc.drew.cell? ⟨g, i2 * 2 + 1, none⟩ = some (.slice ma2 p2.length mc2) := ⟨w6_0 Xv, w6_2 Xv, (hSV _ hbd1).1, w2_0 hpbv, w2_1 hpbv, v3, v4⟩
                clear z0 z1 y0 y2 x0 x1 x2 q0 v3 v4
                refine z_begin (S := fun W => W.cell? ⟨w.heap.size, 0, none⟩ = some (.int .i64 kind) ∧ W.cell? ⟨w.heap.size, 2, none⟩ = some (.int .i64 b) ∧ W.cell? ⟨k, 0, none⟩ = some (.slice (some ⟨g, 0, none⟩) ps.length wq) ∧ W.cell? ⟨pb, 0, none⟩ = some (.pointer (some ⟨k1, 0, none⟩)) ∧ W.cell? ⟨pb, 1, none⟩ = some (.slice ma p.length mc) ∧ W.cell? ⟨g, i2 * 2, none⟩ = some (.pointer (some ⟨k2, 0, none⟩)) ∧ W.cell? ⟨g, i2 * 2 + 1, none⟩ = some (.slice ma2 p2.length mc2)) 18 (by kernel_rfl) hS0 fun hS => ?_
                generalize wc.drew = V0 at *
                refine z_take 0 55 (.pointer (some ⟨k, 0, none⟩)) [] rfl rfl (by kernel_rfl) (by kernel_rfl) (by kernel_rfl) (by kernel_rfl) (by kernel_rfl) rfl (by kernel_rfl) (fun _ _ _ h => h) rfl (fun _ _ => by first | rfl | go_simp) hS ?_
                simp only [Act.put, List.setIfInBounds_toArray, List.set_cons_succ, List.set_cons_zero]
                refine z_take 1 56 (.pointer (some ⟨w.heap.size, 0, none⟩)) [2] rfl rfl (by kernel_rfl) (by kernel_rfl) (by kernel_rfl) (by kernel_rfl) (by kernel_rfl) rfl (by kernel_rfl) (fun _ _ _ h => h) rfl (fun _ _ => by first | rfl | go_simp) hS ?_
                simp only [Act.put, List.setIfInBounds_toArray, List.set_cons_succ, List.set_cons_zero]
                refine z_take 2 57 (.int .i64 kind) [] rfl rfl (by kernel_rfl) (by kernel_rfl) (by kernel_rfl) (by kernel_rfl) (by kernel_rfl) rfl (by kernel_rfl) (fun _ _ _ h => h) rfl (fun w' hw' => by obtain ⟨y0, y1, y2, y3, y4, y5, y6⟩ := hw'; go_simp) hS ?_
                simp only [Act.put, List.setIfInBounds_toArray, List.set_cons_succ, List.set_cons_zero]
                refine z_take 3 58 (.agg #[.pointer (some ⟨k1, 0, none⟩), .slice ma p.length mc]) [] rfl rfl (by kernel_rfl) (by kernel_rfl) (by kernel_rfl) (by kernel_rfl) (by kernel_rfl) rfl (by kernel_rfl) (fun _ _ _ h => h) rfl (fun w' hw' => by obtain ⟨y0, y1, y2, y3, y4, y5, y6⟩ := hw'; go_simp) hS ?_
                simp only [Act.put, List.setIfInBounds_toArray, List.set_cons_succ, List.set_cons_zero]
                refine z_take 4 59 (.pointer (some ⟨k, 0, none⟩)) [17, 16, 7, 6, 5] rfl rfl (by kernel_rfl) (by kernel_rfl) (by kernel_rfl) (by kernel_rfl) (by kernel_rfl) rfl (by kernel_rfl) (fun _ _ _ h => h) rfl (fun _ _ => by first | rfl | go_simp) hS ?_
                simp only [Act.put, List.setIfInBounds_toArray, List.set_cons_succ, List.set_cons_zero]
                refine z_take 5 60 (.pointer (some ⟨k, 0, none⟩)) [17, 16, 7, 6] rfl rfl (by kernel_rfl) (by kernel_rfl) (by kernel_rfl) (by kernel_rfl) (by kernel_rfl) rfl (by kernel_rfl) (fun _ _ _ h => h) rfl (fun _ _ => by first | rfl | go_simp) hS ?_
                simp only [Act.put, List.setIfInBounds_toArray, List.set_cons_succ, List.set_cons_zero]
                refine z_take 6 61 (.pointer (some ⟨k, 0, none⟩)) [17, 16, 7] rfl rfl (by kernel_rfl) (by kernel_rfl) (by kernel_rfl) (by kernel_rfl) (by kernel_rfl) rfl (by kernel_rfl) (fun _ _ _ h => h) rfl (fun _ _ => by first | rfl | go_simp) hS ?_
                simp only [Act.put, List.setIfInBounds_toArray, List.set_cons_succ, List.set_cons_zero]
                refine z_take 7 62 (.slice (some ⟨g, 0, none⟩) ps.length wq) [17, 16] rfl rfl (by kernel_rfl) (by kernel_rfl) (by kernel_rfl) (by kernel_rfl) (by kernel_rfl) rfl (by kernel_rfl) (fun _ _ _ h => h) rfl (fun w' hw' => by obtain ⟨y0, y1, y2, y3, y4, y5, y6⟩ := hw'; go_simp) hS ?_
                simp only [Act.put, List.setIfInBounds_toArray, List.set_cons_succ, List.set_cons_zero]
                refine z_take 8 63 (.pointer (some ⟨w.heap.size, 2, none⟩)) [15, 9] rfl rfl (by kernel_rfl) (by kernel_rfl) (by kernel_rfl) (by kernel_rfl) (by kernel_rfl) rfl (by kernel_rfl) (fun _ _ _ h => h) rfl (fun _ _ => by first | rfl | go_simp) hS ?_
                simp only [Act.put, List.setIfInBounds_toArray, List.set_cons_succ, List.set_cons_zero]
                refine z_take 9 64 (.int .i64 b) [15] rfl rfl (by kernel_rfl) (by kernel_rfl) (by kernel_rfl) (by kernel_rfl) (by kernel_rfl) rfl (by kernel_rfl) (fun _ _ _ h => h) rfl (fun w' hw' => by obtain ⟨y0, y1, y2, y3, y4, y5, y6⟩ := hw'; go_simp) hS ?_
                simp only [Act.put, List.setIfInBounds_toArray, List.set_cons_succ, List.set_cons_zero]
                refine z_take 10 65 (.pointer (some ⟨k, 0, none⟩)) [15, 14, 13, 12, 11] rfl rfl (by kernel_rfl) (by kernel_rfl) (by kernel_rfl) (by kernel_rfl) (by kernel_rfl) rfl (by kernel_rfl) (fun _ _ _ h => h) rfl (fun _ _ => by first | rfl | go_simp) hS ?_
                simp only [Act.put, List.setIfInBounds_toArray, List.set_cons_succ, List.set_cons_zero]
                refine z_take 11 66 (.pointer (some ⟨k, 0, none⟩)) [15, 14, 13, 12] rfl rfl (by kernel_rfl) (by kernel_rfl) (by kernel_rfl) (by kernel_rfl) (by kernel_rfl) rfl (by kernel_rfl) (fun _ _ _ h => h) rfl (fun _ _ => by first | rfl | go_simp) hS ?_
                simp only [Act.put, List.setIfInBounds_toArray, List.set_cons_succ, List.set_cons_zero]
                refine z_take 12 67 (.pointer (some ⟨k, 0, none⟩)) [15, 14, 13] rfl rfl (by kernel_rfl) (by kernel_rfl) (by kernel_rfl) (by kernel_rfl) (by kernel_rfl) rfl (by kernel_rfl) (fun _ _ _ h => h) rfl (fun _ _ => by first | rfl | go_simp) hS ?_
                simp only [Act.put, List.setIfInBounds_toArray, List.set_cons_succ, List.set_cons_zero]
                refine z_take 13 68 (.slice (some ⟨g, 0, none⟩) ps.length wq) [15, 14] rfl rfl (by kernel_rfl) (by kernel_rfl) (by kernel_rfl) (by kernel_rfl) (by kernel_rfl) rfl (by kernel_rfl) (fun _ _ _ h => h) rfl (fun w' hw' => by obtain ⟨y0, y1, y2, y3, y4, y5, y6⟩ := hw'; go_simp) hS ?_
                simp only [Act.put, List.setIfInBounds_toArray, List.set_cons_succ, List.set_cons_zero]
                refine z_take 14 69 (.int .i64 (ps.length : Int)) [15] rfl rfl (by kernel_rfl) (by kernel_rfl) (by kernel_rfl) (by kernel_rfl) (by kernel_rfl) rfl (by kernel_rfl) (fun _ _ _ h => h) rfl (fun _ _ => by first | rfl | go_simp) hS ?_
                simp only [Act.put, List.setIfInBounds_toArray, List.set_cons_succ, List.set_cons_zero]
                refine z_call 15 70 47 #[.int .i64 b, .int .i64 (ps.length : Int)] rfl rfl (by kernel_rfl) rfl (by go_simp) ?_
                refine (HPI2.out V0).mono ?_
                rintro en w8 ⟨rfl, rfl⟩
                refine ⟨_, rfl, fun _ => hS, ?_⟩
                simp only [Act.put, List.setIfInBounds_toArray, List.set_cons_succ, List.set_cons_zero]
                refine z_take 16 71 (.pointer (some ⟨g, i2 * 2, none⟩)) [17] rfl rfl (by kernel_rfl) (by kernel_rfl) (by kernel_rfl) (by kernel_rfl) (by kernel_rfl) rfl (by kernel_rfl) (fun _ _ _ h => h) rfl (fun _ _ => by first | rfl | go_simp) hS ?_
                simp only [Act.put, List.setIfInBounds_toArray, List.set_cons_succ, List.set_cons_zero]
                refine z_take 17 72 (.agg #[.pointer (some ⟨k2, 0, none⟩), .slice ma2 p2.length mc2]) [] rfl rfl (by kernel_rfl) (by kernel_rfl) (by kernel_rfl) (by kernel_rfl) (by kernel_rfl) rfl (by kernel_rfl) (fun _ _ _ h => h) rfl (fun w' hw' => by obtain ⟨y0, y1, y2, y3, y4, y5, y6⟩ := hw'; go_simp) hS ?_
                simp only [Act.put, List.setIfInBounds_toArray, List.set_cons_succ, List.set_cons_zero]
                refine z_call 18 73 18 #[.pointer (some ⟨k, 0, none⟩), .int .i64 kind, .agg #[.pointer (some ⟨k1, 0, none⟩), .slice ma p.length mc], .agg #[.pointer (some ⟨k2, 0, none⟩), .slice ma2 p2.length mc2]] rfl rfl (by kernel_rfl) rfl (by go_simp) ?_
                refine (HTW.out _ _ _ _ _ p p2 hv0w hPv1 hPv2 HKI.out).mono ?_
                rintro en w9 ⟨hpo, _⟩
                obtain rfl := HTV.out _ _ hpo
                refine ⟨_, rfl, fun h0 => absurd h0 (by decide), ?_⟩
                simp only [Act.put, List.setIfInBounds_toArray, List.set_cons_succ, List.set_cons_zero]
                refine z_val 19 4 (.bool true) rfl rfl (by kernel_rfl) rfl rfl (by kernel_rfl) ?_
                simp only [Act.put, List.setIfInBounds_toArray, List.set_cons_succ, List.set_cons_zero]
                refine z_done (by kernel_rfl) ?_ _
                go_wp2
                exact hpo
              · have k3 : (kind == 3) = false := by rw [hk]; rfl
                have k4 : (kind == 4) = false := by rw [hk]; rfl
                have k5 : (kind == 5) = false := by rw [hk]; rfl
                have k6 : (kind == 6) = true := by rw [hk]; rfl
                clear hk
                go_wp2_with fail
                have hbd : Below wc.heap.size wc wc.drew := ⟨rfl, rfl, rfl, Nat.le_refl _, fun _ _ => rfl⟩
                have hbd1 := hbc.trans (hbd.mono hbc.size)
                have hv0w := hbcw.trans (hbd.mono hbcw.size)
                have Xv := (hbd.block w.heap.size hsc).trans Xc
                have hpbv := (hbd.block pb hpl).trans hpb
                obtain ⟨v3, v4, hPv2⟩ := HS2.out _ hbd1
                have hPv1 := hPc.below hbd
                have hS0 : wc.drew.cell? ⟨w.heap.size, 0, none⟩ = some (.int .i64 kind) ∧ wc.drew.cell? ⟨w.heap.size, 2, none⟩ = some (.int .i64 b) ∧ wc.drew.cell? ⟨k, 0, none⟩ = some (.slice (some ⟨g, 0, none⟩) ps.length wq) ∧ wc.drew.cell? ⟨pb, 0, none⟩ = some (.pointer (some ⟨k1, 0, none⟩)) ∧ wc.drew.cell? ⟨pb, 1, none⟩ = some (.slice ma p.length mc) ∧ wc.drew.cell? ⟨g, i2 * 2, none⟩ = some (.pointer (some ⟨k2, 0, none⟩)) ∧ wc.drew.cell? ⟨g, i2 * 2 + 1, none⟩ = some (.slice ma2 p2.length mc2) := ⟨w6_0 Xv, w6_2 Xv, (hSV _ hbd1).1, w2_0 hpbv, w2_1 hpbv, v3, v4⟩
                clear z0 z1 y0 y2 x0 x1 x2 q0 v3 v4
                refine z_begin (S := fun W => W.cell? ⟨w.heap.size, 0, none⟩ = some (.int .i64 kind) ∧ W.cell? ⟨w.heap.size, 2, none⟩ = some (.int .i64 b) ∧ W.cell? ⟨k, 0, none⟩ = some (.slice (some ⟨g, 0, none⟩) ps.length wq) ∧ W.cell? ⟨pb, 0, none⟩ = some (.pointer (some ⟨k1, 0, none⟩)) ∧ W.cell? ⟨pb, 1, none⟩ = some (.slice ma p.length mc) ∧ W.cell? ⟨g, i2 * 2, none⟩ = some (.pointer (some ⟨k2, 0, none⟩)) ∧ W.cell? ⟨g, i2 * 2 + 1, none⟩ = some (.slice ma2 p2.length mc2)) 18 (by kernel_rfl) hS0 fun hS => ?_
                generalize wc.drew = V0 at *
                refine z_take 0 55 (.pointer (some ⟨k, 0, none⟩)) [] rfl rfl (by kernel_rfl) (by kernel_rfl) (by kernel_rfl) (by kernel_rfl) (by kernel_rfl) rfl (by kernel_rfl) (fun _ _ _ h => h) rfl (fun _ _ => by first | rfl | go_simp) hS ?_
                simp only [Act.put, List.setIfInBounds_toArray, List.set_cons_succ, List.set_cons_zero]
                refine z_take 1 56 (.pointer (some ⟨w.heap.size, 0, none⟩)) [2] rfl rfl (by kernel_rfl) (by kernel_rfl) (by kernel_rfl) (by kernel_rfl) (by kernel_rfl) rfl (by kernel_rfl) (fun _ _ _ h => h) rfl (fun _ _ => by first | rfl | go_simp) hS ?_
                simp only [Act.put, List.setIfInBounds_toArray, List.set_cons_succ, List.set_cons_zero]
                refine z_take 2 57 (.int .i64 kind) [] rfl rfl (by kernel_rfl) (by kernel_rfl) (by kernel_rfl) (by kernel_rfl) (by kernel_rfl) rfl (by kernel_rfl) (fun _ _ _ h => h) rfl (fun w' hw' => by obtain ⟨y0, y1, y2, y3, y4, y5, y6⟩ := hw'; go_simp) hS ?_
                simp only [Act.put, List.setIfInBounds_toArray, List.set_cons_succ, List.set_cons_zero]
                refine z_take 3 58 (.agg #[.pointer (some ⟨k1, 0, none⟩), .slice ma p.length mc]) [] rfl rfl (by kernel_rfl) (by kernel_rfl) (by kernel_rfl) (by kernel_rfl) (by kernel_rfl) rfl (by kernel_rfl) (fun _ _ _ h => h) rfl (fun w' hw' => by obtain ⟨y0, y1, y2, y3, y4, y5, y6⟩ := hw'; go_simp) hS ?_
                simp only [Act.put, List.setIfInBounds_toArray, List.set_cons_succ, List.set_cons_zero]
                refine z_take 4 59 (.pointer (some ⟨k, 0, none⟩)) [17, 16, 7, 6, 5] rfl rfl (by kernel_rfl) (by kernel_rfl) (by kernel_rfl) (by kernel_rfl) (by kernel_rfl) rfl (by kernel_rfl) (fun _ _ _ h => h) rfl (fun _ _ => by first | rfl | go_simp) hS ?_
                simp only [Act.put, List.setIfInBounds_toArray, List.set_cons_succ, List.set_cons_zero]
                refine z_take 5 60 (.pointer (some ⟨k, 0, none⟩)) [17, 16, 7, 6] rfl rfl (by kernel_rfl) (by kernel_rfl) (by kernel_rfl) (by kernel_rfl) (by kernel_rfl) rfl (by kernel_rfl) (fun _ _ _ h => h) rfl (fun _ _ => by first | rfl | go_simp) hS ?_
                simp only [Act.put, List.setIfInBounds_toArray, List.set_cons_succ, List.set_cons_zero]
                refine z_take 6 61 (.pointer (some ⟨k, 0, none⟩)) [17, 16, 7] rfl rfl (by kernel_rfl) (by kernel_rfl) (by kernel_rfl) (by kernel_rfl) (by kernel_rfl) rfl (by kernel_rfl) (fun _ _ _ h => h) rfl (fun _ _ => by first | rfl | go_simp) hS ?_
                simp only [Act.put, List.setIfInBounds_toArray, List.set_cons_succ, List.set_cons_zero]
                refine z_take 7 62 (.slice (some ⟨g, 0, none⟩) ps.length wq) [17, 16] rfl rfl (by kernel_rfl) (by kernel_rfl) (by kernel_rfl) (by kernel_rfl) (by kernel_rfl) rfl (by kernel_rfl) (fun _ _ _ h => h) rfl (fun w' hw' => by obtain ⟨y0, y1, y2, y3, y4, y5, y6⟩ := hw'; go_simp) hS ?_
                simp only [Act.put, List.setIfInBounds_toArray, List.set_cons_succ, List.set_cons_zero]
                refine z_take 8 63 (.pointer (some ⟨w.heap.size, 2, none⟩)) [15, 9] rfl rfl (by kernel_rfl) (by kernel_rfl) (by kernel_rfl) (by kernel_rfl) (by kernel_rfl) rfl (by kernel_rfl) (fun _ _ _ h => h) rfl (fun _ _ => by first | rfl | go_simp) hS ?_
                simp only [Act.put, List.setIfInBounds_toArray, List.set_cons_succ, List.set_cons_zero]
                refine z_take 9 64 (.int .i64 b) [15] rfl rfl (by kernel_rfl) (by kernel_rfl) (by kernel_rfl) (by kernel_rfl) (by kernel_rfl) rfl (by kernel_rfl) (fun _ _ _ h => h) rfl (fun w' hw' => by obtain ⟨y0, y1, y2, y3, y4, y5, y6⟩ := hw'; go_simp) hS ?_
                simp only [Act.put, List.setIfInBounds_toArray, List.set_cons_succ, List.set_cons_zero]
                refine z_take 10 65 (.pointer (some ⟨k, 0, none⟩)) [15, 14, 13, 12, 11] rfl rfl (by kernel_rfl) (by kernel_rfl) (by kernel_rfl) (by kernel_rfl) (by kernel_rfl) rfl (by kernel_rfl) (fun _ _ _ h => h) rfl (fun _ _ => by first | rfl | go_simp) hS ?_
                simp only [Act.put, List.setIfInBounds_toArray, List.set_cons_succ, List.set_cons_zero]
                refine z_take 11 66 (.pointer (some ⟨k, 0, none⟩)) [15, 14, 13, 12] rfl rfl (by kernel_rfl) (by kernel_rfl) (by kernel_rfl) (by kernel_rfl) (by kernel_rfl) rfl (by kernel_rfl) (fun _ _ _ h => h) rfl (fun _ _ => by first | rfl | go_simp) hS ?_
                simp only [Act.put, List.setIfInBounds_toArray, List.set_cons_succ, List.set_cons_zero]
                refine z_take 12 67 (.pointer (some ⟨k, 0, none⟩)) [15, 14, 13] rfl rfl (by kernel_rfl) (by kernel_rfl) (by kernel_rfl) (by kernel_rfl) (by kernel_rfl) rfl (by kernel_rfl) (fun _ _ _ h => h) rfl (fun _ _ => by first | rfl | go_simp) hS ?_
                simp only [Act.put, List.setIfInBounds_toArray, List.set_cons_succ, List.set_cons_zero]
                refine z_take 13 68 (.slice (some ⟨g, 0, none⟩) ps.length wq) [15, 14] rfl rfl (by kernel_rfl) (by kernel_rfl) (by kernel_rfl) (by kernel_rfl) (by kernel_rfl) rfl (by kernel_rfl) (fun _ _ _ h => h) rfl (fun w' hw' => by obtain ⟨y0, y1, y2, y3, y4, y5, y6⟩ := hw'; go_simp) hS ?_
                simp only [Act.put, List.setIfInBounds_toArray, List.set_cons_succ, List.set_cons_zero]
                refine z_take 14 69 (.int .i64 (ps.length : Int)) [15] rfl rfl (by kernel_rfl) (by kernel_rfl) (by kernel_rfl) (by kernel_rfl) (by kernel_rfl) rfl (by kernel_rfl) (fun _ _ _ h => h) rfl (fun _ _ => by first | rfl | go_simp) hS ?_
                simp only [Act.put, List.setIfInBounds_toArray, List.set_cons_succ, List.set_cons_zero]
                refine z_call 15 70 47 #[.int .i64 b, .int .i64 (ps.length : Int)] rfl rfl (by kernel_rfl) rfl (by go_simp) ?_
                refine (HPI2.out V0).mono ?_
                rintro en w8 ⟨rfl, rfl⟩
                refine ⟨_, rfl, fun _ => hS, ?_⟩
                simp only [Act.put, List.setIfInBounds_toArray, List.set_cons_succ, List.set_cons_zero]
                refine z_take 16 71 (.pointer (some ⟨g, i2 * 2, none⟩)) [17] rfl rfl (by kernel_rfl) (by kernel_rfl) (by kernel_rfl) (by kernel_rfl) (by kernel_rfl) rfl (by kernel_rfl) (fun _ _ _ h => h) rfl (fun _ _ => by first | rfl | go_simp) hS ?_
                simp only [Act.put, List.setIfInBounds_toArray, List.set_cons_succ, List.set_cons_zero]
                refine z_take 17 72 (.agg #[.pointer (some ⟨k2, 0, none⟩), .slice ma2 p2.length mc2]) [] rfl rfl (by kernel_rfl) (by kernel_rfl) (by kernel_rfl) (by kernel_rfl) (by kernel_rfl) rfl (by kernel_rfl) (fun _ _ _ h => h) rfl (fun w' hw' => by obtain ⟨y0, y1, y2, y3, y4, y5, y6⟩ := hw'; go_simp) hS ?_
                simp only [Act.put, List.setIfInBounds_toArray, List.set_cons_succ, List.set_cons_zero]
                refine z_call 18 73 18 #[.pointer (some ⟨k, 0, none⟩), .int .i64 kind, .agg #[.pointer (some ⟨k1, 0, none⟩), .slice ma p.length mc], .agg #[.pointer (some ⟨k2, 0, none⟩), .slice ma2 p2.length mc2]] rfl rfl (by kernel_rfl) rfl (by go_simp) ?_
                refine (HTW.out _ _ _ _ _ p p2 hv0w hPv1 hPv2 HKI.out).mono ?_
                rintro en w9 ⟨hpo, _⟩
                obtain rfl := HTV.out _ _ hpo
                refine ⟨_, rfl, fun h0 => absurd h0 (by decide), ?_⟩
                simp only [Act.put, List.setIfInBounds_toArray, List.set_cons_succ, List.set_cons_zero]
                refine z_val 19 4 (.bool true) rfl rfl (by kernel_rfl) rfl rfl (by kernel_rfl) ?_
                simp only [Act.put, List.setIfInBounds_toArray, List.set_cons_succ, List.set_cons_zero]
                refine z_done (by kernel_rfl) ?_ _
                go_wp2
                exact hpo
              · have k3 : (kind == 3) = false := by rw [hk]; rfl
                have k4 : (kind == 4) = false := by rw [hk]; rfl
                have k5 : (kind == 5) = false := by rw [hk]; rfl
                have k6 : (kind == 6) = false := by rw [hk]; rfl
                have k7 : (kind == 7) = true := by rw [hk]; rfl
                clear hk
                go_wp2_with fail
                have hbd : Below wc.heap.size wc wc.drew := ⟨rfl, rfl, rfl, Nat.le_refl _, fun _ _ => rfl⟩
                have hbd1 := hbc.trans (hbd.mono hbc.size)
                have hv0w := hbcw.trans (hbd.mono hbcw.size)
                have Xv := (hbd.block w.heap.size hsc).trans Xc
                have hpbv := (hbd.block pb hpl).trans hpb
                obtain ⟨v3, v4, hPv2⟩ := HS2.out _ hbd1
                have hPv1 := hPc.below hbd
                have hS0 : wc.drew.cell? ⟨w.heap.size, 0, none⟩ = some (.int .i64 kind) ∧ wc.drew.cell? ⟨w.heap.size, 2, none⟩ = some (.int .i64 b) ∧ wc.drew.cell? ⟨k, 0, none⟩ = some (.slice (some ⟨g, 0, none⟩) ps.length wq) ∧ wc.drew.cell? ⟨pb, 0, none⟩ = some (.pointer (some ⟨k1, 0, none⟩)) ∧ wc.drew.cell? ⟨pb, 1, none⟩ = some (.slice ma p.length mc) ∧ wc.drew.cell? ⟨g, i2 * 2, none⟩ = some (.pointer (some ⟨k2, 0, none⟩)) ∧ wc.drew.cell? ⟨g, i2 * 2 + 1, none⟩ = some (.slice ma2 p2.length mc2) := ⟨w6_0 Xv, w6_2 Xv, (hSV _ hbd1).1, w2_0 hpbv, w2_1 hpbv, v3, v4⟩
                clear z0 z1 y0 y2 x0 x1 x2 q0 v3 v4
                refine z_begin (S := fun W => W.cell? ⟨w.heap.size, 0, none⟩ = some (.int .i64 kind) ∧ W.cell? ⟨w.heap.size, 2, none⟩ = some (.int .i64 b) ∧ W.cell? ⟨k, 0, none⟩ = some (.slice (some ⟨g, 0, none⟩) ps.length wq) ∧ W.cell? ⟨pb, 0, none⟩ = some (.pointer (some ⟨k1, 0, none⟩)) ∧ W.cell? ⟨pb, 1, none⟩ = some (.slice ma p.length mc) ∧ W.cell? ⟨g, i2 * 2, none⟩ = some (.pointer (some ⟨k2, 0, none⟩)) ∧ W.cell? ⟨g, i2 * 2 + 1, none⟩ = some (.slice ma2 p2.length mc2)) 18 (by kernel_rfl) hS0 fun hS => ?_
                generalize wc.drew = V0 at *
                refine z_take 0 55 (.pointer (some ⟨k, 0, none⟩)) [] rfl rfl (by kernel_rfl) (by kernel_rfl) (by kernel_rfl) (by kernel_rfl) (by kernel_rfl) rfl (by kernel_rfl) (fun _ _ _ h => h) rfl (fun _ _ => by first | rfl | go_simp) hS ?_
                simp only [Act.put, List.setIfInBounds_toArray, List.set_cons_succ, List.set_cons_zero]
                refine z_take 1 56 (.pointer (some ⟨w.heap.size, 0, none⟩)) [2] rfl rfl (by kernel_rfl) (by kernel_rfl) (by kernel_rfl) (by kernel_rfl) (by kernel_rfl) rfl (by kernel_rfl) (fun _ _ _ h => h) rfl (fun _ _ => by first | rfl | go_simp) hS ?_
                simp only [Act.put, List.setIfInBounds_toArray, List.set_cons_succ, List.set_cons_zero]
                refine z_take 2 57 (.int .i64 kind) [] rfl rfl (by kernel_rfl) (by kernel_rfl) (by kernel_rfl) (by kernel_rfl) (by kernel_rfl) rfl (by kernel_rfl) (fun _ _ _ h => h) rfl (fun w' hw' => by obtain ⟨y0, y1, y2, y3, y4, y5, y6⟩ := hw'; go_simp) hS ?_
                simp only [Act.put, List.setIfInBounds_toArray, List.set_cons_succ, List.set_cons_zero]
                refine z_take 3 58 (.agg #[.pointer (some ⟨k1, 0, none⟩), .slice ma p.length mc]) [] rfl rfl (by kernel_rfl) (by kernel_rfl) (by kernel_rfl) (by kernel_rfl) (by kernel_rfl) rfl (by kernel_rfl) (fun _ _ _ h => h) rfl (fun w' hw' => by obtain ⟨y0, y1, y2, y3, y4, y5, y6⟩ := hw'; go_simp) hS ?_
                simp only [Act.put, List.setIfInBounds_toArray, List.set_cons_succ, List.set_cons_zero]
                refine z_take 4 59 (.pointer (some ⟨k, 0, none⟩)) [17, 16, 7, 6, 5] rfl rfl (by kernel_rfl) (by kernel_rfl) (by kernel_rfl) (by kernel_rfl) (by kernel_rfl) rfl (by kernel_rfl) (fun _ _ _ h => h) rfl (fun _ _ => by first | rfl | go_simp) hS ?_
                simp only [Act.put, List.setIfInBounds_toArray, List.set_cons_succ, List.set_cons_zero]
                refine z_take 5 60 (.pointer (some ⟨k, 0, none⟩)) [17, 16, 7, 6] rfl rfl (by kernel_rfl) (by kernel_rfl) (by kernel_rfl) (by kernel_rfl) (by kernel_rfl) rfl (by kernel_rfl) (fun _ _ _ h => h) rfl (fun _ _ => by first | rfl | go_simp) hS ?_
                simp only [Act.put, List.setIfInBounds_toArray, List.set_cons_succ, List.set_cons_zero]
                refine z_take 6 61 (.pointer (some ⟨k, 0, none⟩)) [17, 16, 7] rfl rfl (by kernel_rfl) (by kernel_rfl) (by kernel_rfl) (by kernel_rfl) (by kernel_rfl) rfl (by kernel_rfl) (fun _ _ _ h => h) rfl (fun _ _ => by first | rfl | go_simp) hS ?_
                simp only [Act.put, List.setIfInBounds_toArray, List.set_cons_succ, List.set_cons_zero]
                refine z_take 7 62 (.slice (some ⟨g, 0, none⟩) ps.length wq) [17, 16] rfl rfl (by kernel_rfl) (by kernel_rfl) (by kernel_rfl) (by kernel_rfl) (by kernel_rfl) rfl (by kernel_rfl) (fun _ _ _ h => h) rfl (fun w' hw' => by obtain ⟨y0, y1, y2, y3, y4, y5, y6⟩ := hw'; go_simp) hS ?_
                simp only [Act.put, List.setIfInBounds_toArray, List.set_cons_succ, List.set_cons_zero]
                refine z_take 8 63 (.pointer (some ⟨w.heap.size, 2, none⟩)) [15, 9] rfl rfl (by kernel_rfl) (by kernel_rfl) (by kernel_rfl) (by kernel_rfl) (by kernel_rfl) rfl (by kernel_rfl) (fun _ _ _ h => h) rfl (fun _ _ => by first | rfl | go_simp) hS ?_
                simp only [Act.put, List.setIfInBounds_toArray, List.set_cons_succ, List.set_cons_zero]
                refine z_take 9 64 (.int .i64 b) [15] rfl rfl (by kernel_rfl) (by kernel_rfl) (by kernel_rfl) (by kernel_rfl) (by kernel_rfl) rfl (by kernel_rfl) (fun _ _ _ h => h) rfl (fun w' hw' => by obtain ⟨y0, y1, y2, y3, y4, y5, y6⟩ := hw'; go_simp) hS ?_
                simp only [Act.put, List.setIfInBounds_toArray, List.set_cons_succ, List.set_cons_zero]
                refine z_take 10 65 (.pointer (some ⟨k, 0, none⟩)) [15, 14, 13, 12, 11] rfl rfl (by kernel_rfl) (by kernel_rfl) (by kernel_rfl) (by kernel_rfl) (by kernel_rfl) rfl (by kernel_rfl) (fun _ _ _ h => h) rfl (fun _ _ => by first | rfl | go_simp) hS ?_
                simp only [Act.put, List.setIfInBounds_toArray, List.set_cons_succ, List.set_cons_zero]
                refine z_take 11 66 (.pointer (some ⟨k, 0, none⟩)) [15, 14, 13, 12] rfl rfl (by kernel_rfl) (by kernel_rfl) (by kernel_rfl) (by kernel_rfl) (by kernel_rfl) rfl (by kernel_rfl) (fun _ _ _ h => h) rfl (fun _ _ => by first | rfl | go_simp) hS ?_
                simp only [Act.put, List.setIfInBounds_toArray, List.set_cons_succ, List.set_cons_zero]
                refine z_take 12 67 (.pointer (some ⟨k, 0, none⟩)) [15, 14, 13] rfl rfl (by kernel_rfl) (by kernel_rfl) (by kernel_rfl) (by kernel_rfl) (by kernel_rfl) rfl (by kernel_rfl) (fun _ _ _ h => h) rfl (fun _ _ => by first | rfl | go_simp) hS ?_
                simp only [Act.put, List.setIfInBounds_toArray, List.set_cons_succ, List.set_cons_zero]
                refine z_take 13 68 (.slice (some ⟨g, 0, none⟩) ps.length wq) [15, 14] rfl rfl (by kernel_rfl) (by kernel_rfl) (by kernel_rfl) (by kernel_rfl) (by kernel_rfl) rfl (by kernel_rfl) (fun _ _ _ h => h) rfl (fun w' hw' => by obtain ⟨y0, y1, y2, y3, y4, y5, y6⟩ := hw'; go_simp) hS ?_
                simp only [Act.put, List.setIfInBounds_toArray, List.set_cons_succ, List.set_cons_zero]
                refine z_take 14 69 (.int .i64 (ps.length : Int)) [15] rfl rfl (by kernel_rfl) (by kernel_rfl) (by kernel_rfl) (by kernel_rfl) (by kernel_rfl) rfl (by kernel_rfl) (fun _ _ _ h => h) rfl (fun _ _ => by first | rfl | go_simp) hS ?_
                simp only [Act.put, List.setIfInBounds_toArray, List.set_cons_succ, List.set_cons_zero]
                refine z_call 15 70 47 #[.int .i64 b, .int .i64 (ps.length : Int)] rfl rfl (by kernel_rfl) rfl (by go_simp) ?_
                refine (HPI2.out V0).mono ?_
                rintro en w8 ⟨rfl, rfl⟩
                refine ⟨_, rfl, fun _ => hS, ?_⟩
                simp only [Act.put, List.setIfInBounds_toArray, List.set_cons_succ, List.set_cons_zero]
                refine z_take 16 71 (.pointer (some ⟨g, i2 * 2, none⟩)) [17] rfl rfl (by kernel_rfl) (by kernel_rfl) (by kernel_rfl) (by kernel_rfl) (by kernel_rfl) rfl (by kernel_rfl) (fun _ _ _ h => h) rfl (fun _ _ => by first | rfl | go_simp) hS ?_
                simp only [Act.put, List.setIfInBounds_toArray, List.set_cons_succ, List.set_cons_zero]
                refine z_take 17 72 (.agg #[.pointer (some ⟨k2, 0, none⟩), .slice ma2 p2.length mc2]) [] rfl rfl (by kernel_rfl) (by kernel_rfl) (by kernel_rfl) (by kernel_rfl) (by kernel_rfl) rfl (by kernel_rfl) (fun _ _ _ h => h) rfl (fun w' hw' => by obtain ⟨y0, y1, y2, y3, y4, y5, y6⟩ := hw'; go_simp) hS ?_
                simp only [Act.put, List.setIfInBounds_toArray, List.set_cons_succ, List.set_cons_zero]
                refine z_call 18 73 18 #[.pointer (some ⟨k, 0, none⟩), .int .i64 kind, .agg #[.pointer (some ⟨k1, 0, none⟩), .slice ma p.length mc], .agg #[.pointer (some ⟨k2, 0, none⟩), .slice ma2 p2.length mc2]] rfl rfl (by kernel_rfl) rfl (by go_simp) ?_
                refine (HTW.out _ _ _ _ _ p p2 hv0w hPv1 hPv2 HKI.out).mono ?_
                rintro en w9 ⟨hpo, _⟩
                obtain rfl := HTV.out _ _ hpo
                refine ⟨_, rfl, fun h0 => absurd h0 (by decide), ?_⟩
                simp only [Act.put, List.setIfInBounds_toArray, List.set_cons_succ, List.set_cons_zero]
                refine z_val 19 4 (.bool true) rfl rfl (by kernel_rfl) rfl rfl (by kernel_rfl) ?_
                simp only [Act.put, List.setIfInBounds_toArray, List.set_cons_succ, List.set_cons_zero]
                refine z_done (by kernel_rfl) ?_ _
                go_wp2
                exact hpo
            · have k3 : (kind == 3) = false := by simp; omega
              have k4 : (kind == 4) = false := by simp; omega
              have k5 : (kind == 5) = false := by simp; omega
              have k6 : (kind == 6) = false := by simp; omega
              have k7 : (kind == 7) = false := by simp; omega
              go_wp2
              exact HF.out _ hbcw

end Go.Proofs.YtldcjkhbiffdoaaGreatDoor
