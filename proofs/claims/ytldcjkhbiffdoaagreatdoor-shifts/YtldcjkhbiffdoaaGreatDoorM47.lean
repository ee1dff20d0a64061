import Derived.Test.YtldcjkhbiffdoaaGreatDoorCLawStep
import Derived.ProofKit
import Derived.Deep.Slices
import Derived.WideKeyArgs

/-
  factorlaw.small, UpTo.
-/
namespace Go.Proofs.YtldcjkhbiffdoaaGreatDoor
open Go.RowKit

structure OpR where
  kind : Int
  a : Int
  b : Int
  c : Int
  s : ByteArray
  t : ByteArray

/-- A step at the cells from o on. -/
structure ScrAt (w : World) (sb o : Nat) (x : OpR) : Prop where
  c0 : w.cell? ⟨sb, o, none⟩ = some (.int .i64 x.kind)
  c1 : w.cell? ⟨sb, o + 1, none⟩ = some (.int .i64 x.a)
  c2 : w.cell? ⟨sb, o + 2, none⟩ = some (.int .i64 x.b)
  c3 : w.cell? ⟨sb, o + 3, none⟩ = some (.int .i64 x.c)
  c4 : w.cell? ⟨sb, o + 4, none⟩ = some (.string x.s)
  c5 : w.cell? ⟨sb, o + 5, none⟩ = some (.string x.t)
  a0 : -9223372036854775808 ≤ x.a
  a1 : x.a ≤ 9223372036854775807
  b0 : -9223372036854775808 ≤ x.b
  b1 : x.b ≤ 9223372036854775807
  s1 : x.s.size ≤ 140737488351232
  t1 : x.t.size ≤ 140737488351232

theorem ScrAt.below {B : Nat} {w w' : World} {sb o : Nat} {x : OpR} (h : ScrAt w sb o x) (hb : Below B w w') (hB : sb < B) : ScrAt w' sb o x :=
  ⟨(hb.cell (p := ⟨sb, o, none⟩) hB).trans h.c0, (hb.cell (p := ⟨sb, o + 1, none⟩) hB).trans h.c1, (hb.cell (p := ⟨sb, o + 2, none⟩) hB).trans h.c2, (hb.cell (p := ⟨sb, o + 3, none⟩) hB).trans h.c3, (hb.cell (p := ⟨sb, o + 4, none⟩) hB).trans h.c4, (hb.cell (p := ⟨sb, o + 5, none⟩) hB).trans h.c5, h.a0, h.a1, h.b0, h.b1, h.s1, h.t1⟩

/-- A script in memory. -/
def Scr (w : World) (v : Value) (n : Nat) : Prop := (∃ a c, v = .slice a 0 c ∧ n = 0) ∨ ∃ (sb so cap : Nat) (X : Nat → OpR), v = .slice (some ⟨sb, so, none⟩) n cap ∧ n ≤ cap ∧ cap ≤ maxLen ∧ (0 < n → sb < w.heap.size) ∧ ∀ i, i < n → ScrAt w sb (so + i * 6) (X i)

theorem Scr.val {w : World} {v : Value} {n : Nat} (h : Scr w v n) : ∃ a c, v = .slice a n c ∧ n ≤ maxLen := by
  rcases h with ⟨a, c, rfl, rfl⟩ | ⟨sb, so, cap, X, rfl, h1, h2, _⟩
  · exact ⟨_, _, rfl, Nat.zero_le _⟩
  · exact ⟨_, _, rfl, by omega⟩

theorem Scr.at {w : World} {a : Option Addr} {c n : Nat} (h : Scr w (.slice a n c) n) (i : Nat) (hi : i < n) : ∃ sb so x, a = some ⟨sb, so, none⟩ ∧ n ≤ c ∧ c ≤ maxLen ∧ sb < w.heap.size ∧ ScrAt w sb (so + i * 6) x := by
  rcases h with ⟨_, _, _, rfl⟩ | ⟨sb, so, cap, X, h0, h1, h2, h3, h4⟩
  · omega
  · simp only [Value.slice.injEq, true_and] at h0
    obtain ⟨rfl, rfl⟩ := h0
    exact ⟨sb, so, X i, rfl, h1, h2, h3 (by omega), h4 i hi⟩

set_option maxRecDepth 100000 in
set_option maxHeartbeats 4000000 in
theorem smallL_any (v : Value) (n : Nat) (w : World) (hv : Scr w v n) :
    Calls Tryz.prog 15 #[v] w fun e w' => ∃ b, e = .returned (.bool b) ∧ (b = true → n ≤ 1048576) ∧ Below w.heap.size w w' := by
  obtain ⟨va, vc, rfl, hml⟩ := hv.val
  unfold maxLen at hml
  by_cases hbig : 1048576 < n
  · clear hv
    go_enter Tryz.func15, Tryz.ntmps15
    go_wp2
    go_ret
    exact ⟨_, rfl, (fun h => by cases h), Below.refl _ _⟩
  · go_enter Tryz.func15, Tryz.ntmps15
    go_wp2_with fail
    go_loopw [3, 12] (fun s i wr => ∃ (k m : Nat), i = .int .i64 k ∧ k ≤ n ∧ s = .int .i64 m ∧ m ≤ 1048576 ∧ Below w.heap.size w wr) (fun _ i _ => n - (intOf i).toNat)
    case atStart => exact ⟨0, n, rfl, Nat.zero_le _, rfl, by omega, Below.refl _ _⟩
    case round =>
      obtain ⟨k, m, rfl, hk, rfl, hm, hbel⟩ := hrel
      by_cases hlt : k < n
      · obtain ⟨sb, so, x, rfl, hc1, hc2, hsb, hx⟩ := hv.at k hlt
        have hxs := hx.s1
        have hxt := hx.t1
        have hSV : ∀ W, Below w.heap.size w W → W.cell? ⟨sb, so + k * 6 + 4, none⟩ = some (.string x.s) ∧ W.cell? ⟨sb, so + k * 6 + 5, none⟩ = some (.string x.t) := fun W h => ⟨(hx.below h hsb).c4, (hx.below h hsb).c5⟩
        have hbd : Below w.heap.size w wr.drew := ⟨hbel.os, hbel.tape, hbel.output, hbel.size, hbel.block⟩
        have hki : (k : Int) < (n : Int) := by omega
        have hki0 : (0 : Int) ≤ (k : Int) := by omega
        obtain ⟨p, HP⟩ : ∃ p, Hid (x.s.size = p) := ⟨_, rfl⟩
        obtain ⟨q, HQ⟩ : ∃ q, Hid (x.t.size = q) := ⟨_, rfl⟩
        rw [HP.out] at hxs
        rw [HQ.out] at hxt
        have hw1 : IntKind.i64.wrap ((p : Int) + (q : Int)) = (p : Int) + q := by rw [IntKind.wrap_i64]; omega
        have hw2 : IntKind.i64.wrap ((m : Int) + ((p : Int) + (q : Int))) = (m : Int) + ((p : Int) + q) := by rw [IntKind.wrap_i64]; omega
        go_wp2_with fail
        refine wp_region_held_drew (S := fun W => W.cell? ⟨sb, so + k * 6 + 4, none⟩ = some (.string x.s) ∧ W.cell? ⟨sb, so + k * 6 + 5, none⟩ = some (.string x.t)) (by kernel_rfl) (hSV _ hbd) fun hS => ?_
        generalize wr.drew = W0 at *
        refine h_take 0 15 (.int .i64 (m : Int)) rfl rfl (by kernel_rfl) (by kernel_rfl) (by kernel_rfl) (fun _ _ _ h => h) rfl (fun _ _ => by first | rfl | go_simp) hS ?_
        simp only [Act.put, List.setIfInBounds_toArray, List.set_cons_succ, List.set_cons_zero]
        refine h_take 1 16 (.slice (some ⟨sb, so, none⟩) n vc) rfl rfl (by kernel_rfl) (by kernel_rfl) (by kernel_rfl) (fun _ _ _ h => h) rfl (fun _ _ => by first | rfl | go_simp) hS ?_
        simp only [Act.put, List.setIfInBounds_toArray, List.set_cons_succ, List.set_cons_zero]
        refine h_take 2 17 (.int .i64 (k : Int)) rfl rfl (by kernel_rfl) (by kernel_rfl) (by kernel_rfl) (fun _ _ _ h => h) rfl (fun _ _ => by first | rfl | go_simp) hS ?_
        simp only [Act.put, List.setIfInBounds_toArray, List.set_cons_succ, List.set_cons_zero]
        refine h_take 3 18 (.pointer (some ⟨sb, so + k * 6, none⟩)) rfl rfl (by kernel_rfl) (by kernel_rfl) (by kernel_rfl) (fun _ _ _ h => h) rfl (fun _ _ => by first | rfl | go_simp) hS ?_
        simp only [Act.put, List.setIfInBounds_toArray, List.set_cons_succ, List.set_cons_zero]
        refine h_take 4 19 (.pointer (some ⟨sb, so + k * 6 + 4, none⟩)) rfl rfl (by kernel_rfl) (by kernel_rfl) (by kernel_rfl) (fun _ _ _ h => h) rfl (fun _ _ => by first | rfl | go_simp) hS ?_
        simp only [Act.put, List.setIfInBounds_toArray, List.set_cons_succ, List.set_cons_zero]
        refine h_take 5 20 (.string x.s) rfl rfl (by kernel_rfl) (by kernel_rfl) (by kernel_rfl) (fun _ _ _ h => h) rfl (fun w' hw' => by obtain ⟨y0, y1⟩ := hw'; go_simp) hS ?_
        simp only [Act.put, List.setIfInBounds_toArray, List.set_cons_succ, List.set_cons_zero]
        refine h_take 6 21 (.int .i64 (p : Int)) rfl rfl (by kernel_rfl) (by kernel_rfl) (by kernel_rfl) (fun _ _ _ h => h) rfl (fun _ _ => by rw [← HP.out]; first | rfl | go_simp) hS ?_
        simp only [Act.put, List.setIfInBounds_toArray, List.set_cons_succ, List.set_cons_zero]
        refine h_take 7 22 (.slice (some ⟨sb, so, none⟩) n vc) rfl rfl (by kernel_rfl) (by kernel_rfl) (by kernel_rfl) (fun _ _ _ h => h) rfl (fun _ _ => by first | rfl | go_simp) hS ?_
        simp only [Act.put, List.setIfInBounds_toArray, List.set_cons_succ, List.set_cons_zero]
        refine h_take 8 23 (.int .i64 (k : Int)) rfl rfl (by kernel_rfl) (by kernel_rfl) (by kernel_rfl) (fun _ _ _ h => h) rfl (fun _ _ => by first | rfl | go_simp) hS ?_
        simp only [Act.put, List.setIfInBounds_toArray, List.set_cons_succ, List.set_cons_zero]
        refine h_take 9 24 (.pointer (some ⟨sb, so + k * 6, none⟩)) rfl rfl (by kernel_rfl) (by kernel_rfl) (by kernel_rfl) (fun _ _ _ h => h) rfl (fun _ _ => by first | rfl | go_simp) hS ?_
        simp only [Act.put, List.setIfInBounds_toArray, List.set_cons_succ, List.set_cons_zero]
        refine h_take 10 25 (.pointer (some ⟨sb, so + k * 6 + 5, none⟩)) rfl rfl (by kernel_rfl) (by kernel_rfl) (by kernel_rfl) (fun _ _ _ h => h) rfl (fun _ _ => by first | rfl | go_simp) hS ?_
        simp only [Act.put, List.setIfInBounds_toArray, List.set_cons_succ, List.set_cons_zero]
        refine h_take 11 26 (.string x.t) rfl rfl (by kernel_rfl) (by kernel_rfl) (by kernel_rfl) (fun _ _ _ h => h) rfl (fun w' hw' => by obtain ⟨y0, y1⟩ := hw'; go_simp) hS ?_
        simp only [Act.put, List.setIfInBounds_toArray, List.set_cons_succ, List.set_cons_zero]
        refine h_take 12 27 (.int .i64 (q : Int)) rfl rfl (by kernel_rfl) (by kernel_rfl) (by kernel_rfl) (fun _ _ _ h => h) rfl (fun _ _ => by rw [← HQ.out]; first | rfl | go_simp) hS ?_
        simp only [Act.put, List.setIfInBounds_toArray, List.set_cons_succ, List.set_cons_zero]
        refine h_take 13 28 (.int .i64 ((p : Int) + q)) rfl rfl (by kernel_rfl) (by kernel_rfl) (by kernel_rfl) (fun _ _ _ h => h) rfl (fun _ _ => by first | rfl | go_simp) hS ?_
        simp only [Act.put, List.setIfInBounds_toArray, List.set_cons_succ, List.set_cons_zero]
        refine h_take 14 29 (.int .i64 ((m : Int) + ((p : Int) + q))) rfl rfl (by kernel_rfl) (by kernel_rfl) (by kernel_rfl) (fun _ _ _ h => h) rfl (fun _ _ => by first | rfl | go_simp) hS ?_
        simp only [Act.put, List.setIfInBounds_toArray, List.set_cons_succ, List.set_cons_zero]
        refine h_take 15 3 (.int .i64 ((m : Int) + ((p : Int) + q))) rfl rfl (by kernel_rfl) (by kernel_rfl) (by kernel_rfl) (fun _ _ _ h => h) rfl (fun _ _ => by first | rfl | go_simp) hS ?_
        simp only [Act.put, List.setIfInBounds_toArray, List.set_cons_succ, List.set_cons_zero]
        refine wpAnyH_done (by kernel_rfl) ?_ _
        by_cases hgt : 1048576 < (m : Int) + ((p : Int) + q)
        · go_wp2
          go_ret
          exact ⟨_, rfl, (fun h => by cases h), hbd⟩
        · go_wp2
          go_roundw
          case rel => exact ⟨k + 1, m + (p + q), by go_num, by omega, by go_num, by omega, hbd⟩
          case measure => simp [intOf]; omega
      · obtain rfl : k = n := by omega
        go_wp2
        go_ret
        exact ⟨_, rfl, (fun _ => by omega), hbel⟩

set_option maxRecDepth 100000 in
set_option maxHeartbeats 4000000 in
theorem upTo_any (v : Value) (n : Nat) (o : Int) (w : World) (hv : Scr w v n) (hn : n ≤ 1048576) (ho0 : 1 ≤ o) (ho1 : o ≤ 8) (ht : Tab w) :
    Calls Tryz.prog 16 #[v, .int .i64 o] w fun e w' => e = .returned (.int .i64 (-1)) ∧ Below w.heap.size w w' := by
  obtain ⟨va, vc, rfl, hml⟩ := hv.val
  have hst := fun (W : World) (ps : List (List Int)) (x : OpR) (g1 : IsW w.heap.size W w.heap.size ps) (g2 : ps.length ≤ 10000000) (g3 : TabB w.heap.size W) (g4 : x.s.size ≤ 140737488351232) (g5 : x.kind ≠ 9) (a0 : -9223372036854775808 ≤ x.a) (a1 : x.a ≤ 9223372036854775807) (b0 : -9223372036854775808 ≤ x.b) (b1 : x.b ≤ 9223372036854775807) => step_any w.heap.size w.heap.size ps x.kind x.a x.b x.c x.s x.t W g1 g2 (Nat.le_refl _) g3 (by omega) g5 a0 a1 b0 b1
  unfold opV at hst
  have HST : Hid _ := hst
  clear hst
  have q0 : (o == 0) = false := by simp; omega
  have q1 : (o == -1) = false := by simp; omega
  have q9 : (o != 9) = true := by simp; omega
  have qp : 0 < o := by omega
  go_enter Tryz.func16, Tryz.ntmps16
  go_wp2_with fail
  have hb0 := below_one w (Obj.cells #[Value.slice none 0 0, Value.slice none 0 0, Value.bool false] 29)
  have hW0 : IsW w.heap.size (w.alloc (Obj.cells #[Value.slice none 0 0, Value.slice none 0 0, Value.bool false] 29)) w.heap.size [] := ⟨none, 0, heap_alloc_new w _, OwnQ.nil _ _⟩
  have hk0 : Kq w.heap.size w (w.alloc (Obj.cells #[Value.slice none 0 0, Value.slice none 0 0, Value.bool false] 29)) := Kg.of hb0 (Nat.le_refl _)
  generalize w.alloc (Obj.cells #[Value.slice none 0 0, Value.slice none 0 0, Value.bool false] 29) = W0 at *
  go_loopw [11] (fun i wr => ∃ (k : Nat) (ps : List (List Int)), i = .int .i64 k ∧ k ≤ n ∧ ps.length ≤ k ∧ IsW w.heap.size wr w.heap.size ps ∧ Kq w.heap.size w wr) (fun i _ => n - (intOf i).toNat)
  case atStart => exact ⟨0, [], rfl, Nat.zero_le _, Nat.zero_le _, hW0, hk0⟩
  case round =>
    clear hW0 hk0 hb0
    obtain ⟨k, ps, rfl, hk, hps, hW, hK⟩ := hrel
    by_cases hlt : k < n
    · obtain ⟨sb, so, x, rfl, hc1, hc2, hsb, hx0⟩ := hv.at k hlt
      have hx := hx0.below hK.bel hsb
      have c0 := hx.c0; have c1 := hx.c1; have c2 := hx.c2; have c3 := hx.c3; have c4 := hx.c4; have c5 := hx.c5
      have hki : (k : Int) < (n : Int) := by omega
      have hki0 : (0 : Int) ≤ (k : Int) := by omega
      by_cases h9 : x.kind = 9
      · have h9' : (x.kind == 9) = true := by simpa using h9
        go_wp2
        go_roundw
        case rel => exact ⟨k + 1, ps, by go_num, by omega, by omega, hW, hK⟩
        case measure => simp [intOf]; omega
      · have h9' : (x.kind == 9) = false := by simpa using h9
        have hs := HST.out wr ps x hW (by omega) (ht.tabB.bel hK.bel) hx.s1 h9 hx.a0 hx.a1 hx.b0 hx.b1
        go_wp2_with fail
        refine hs.mono ?_
        rintro en w3 ⟨rfl, ⟨ps', hW', hl'⟩, hK'⟩
        have hK3 := hK.trans hK'
        obtain ⟨wa, wq, hh, _⟩ := id hW'
        have l2 := w3_2 hh
        have hkl := lt_of_block hh
        go_wp2
        go_roundw
        case rel => exact ⟨k + 1, ps', by go_num, by omega, by omega, hW', hK3⟩
        case measure => simp [intOf]; omega
    · obtain rfl : k = n := by omega
      go_wp2
      go_ret
      exact ⟨rfl, hK.bel⟩

end Go.Proofs.YtldcjkhbiffdoaaGreatDoor

/-
  A script that is handed in, opened; the eight functions walked. (Written by wip/gen_said.py.)
-/
namespace Go.Proofs.YtldcjkhbiffdoaaGreatDoor
open Go.ChangeShapes Go.WideShapes Go.ChangeAt Go.RowKit Go.Deep

theorem Scr.below {w w' : World} {v : Value} {n : Nat} (h : Scr w v n) (hb : Below w.heap.size w w') : Scr w' v n := by
  rcases h with h | ⟨sb, so, cap, X, rfl, h1, h2, h3, h4⟩
  · exact .inl h
  · exact .inr ⟨sb, so, cap, X, rfl, h1, h2, fun h => Nat.lt_of_lt_of_le (h3 h) hb.size, fun i hi => (h4 i hi).below hb (h3 (by omega))⟩

theorem Tryz.cellsOp : Tryz.prog.cellsOf 42 = 6 := by kernel_rfl
theorem Tryz.cellsI : Tryz.prog.cellsOf 3 = 1 := by kernel_rfl
theorem Tryz.cellsS : Tryz.prog.cellsOf 9 = 1 := by kernel_rfl
theorem Tryz.uSl : Tryz.prog.underlying 22 = some (.slice 42) := by kernel_rfl
theorem Tryz.uI : Tryz.prog.underlying 3 = some (.int .i64) := by kernel_rfl
theorem Tryz.uS : Tryz.prog.underlying 9 = some .string := by kernel_rfl

theorem wf_range {n : Int} (h : (Lit.int .i64 n).wf = true) : -9223372036854775808 ≤ n ∧ n ≤ 9223372036854775807 := by
  have h1 : IntKind.i64.min = -9223372036854775808 := by decide
  have h2 : IntKind.i64.max = 9223372036854775807 := by decide
  simp [Lit.wf] at h
  omega

section
variable {H : Type} {enc : TypeId × Value → H}

theorem wAll_mem {P : Program} {e : TypeId} : ∀ {l : List (DataW H)} {d : DataW H}, d ∈ l → ∀ n ∈ d.weights P e, n ∈ DataW.weightsAll P e l
  | x :: l, d, hd, n, hn => by
    simp only [DataW.weightsAll, List.mem_append]
    rcases List.mem_cons.1 hd with rfl | h
    · exact .inl hn
    · exact .inr (wAll_mem h n hn)

/-- The weight of a string in a struct in a slice. -/
theorem inner_string {P : Program} {t e : TypeId} {fs : Array Field} {els sp parts : List (DataW H)} {bytes : List UInt8} {j : Nat} {u : TypeId} (h : (DataW.weightsEach P [t] [DataW.slice els sp]).all (· ≤ reachBytes) = true) (ht : P.underlying t = some (.slice e)) (he : P.underlying e = some (.struct fs))
    (hm : DataW.agg parts ∈ els) (hj : (fs.toList.map (·.type))[j]? = some u) (hp : parts[j]? = some (.lit (.string bytes))) : bytes.length ≤ 140737488351232 := by
  have hr : reachBytes = 140737488351232 := by decide
  rw [← hr]
  refine of_decide_eq_true (List.all_eq_true.1 h _ (DataW.weights_mem_each (j := 0) rfl rfl _ ?_))
  simp only [DataW.weights, ht, List.mem_cons, List.mem_append]
  refine .inr (.inl (wAll_mem hm _ ?_))
  simp only [DataW.weights, he]
  exact DataW.weights_mem_each hj hp _ (by simp [DataW.weights])

set_option maxRecDepth 100000 in
set_option maxHeartbeats 1000000 in
theorem open_script {W : World} {a : Option Addr} {len cap : Nat} {d : DataW H} {p : List MemPlace} (h : DataW.Trod enc Tryz.prog W 0 (fun _ => true) true 22 (.slice a len cap) d p) (hw : (DataW.weightsEach Tryz.prog [22] [d]).all (· ≤ reachBytes) = true) : Scr W (.slice a len cap) len := by
  obtain ⟨fuel, h⟩ := h
  rcases open_slice Tryz.uSl h with ⟨hc, _⟩ | ⟨ad, len', cap', m, n, D, Pl, hc, _, hl, hm, hmm, hd, hall⟩
  · simp [Value.cells] at hc
    obtain ⟨rfl, rfl, rfl⟩ := hc
    exact .inl ⟨_, _, rfl, rfl⟩
  · simp [Value.cells] at hc
    obtain ⟨rfl, rfl, rfl⟩ := hc
    simp only [if_true] at hmm
    subst hmm
    by_cases h0 : len = 0
    · subst h0
      exact .inl ⟨_, _, rfl, rfl⟩
    · obtain ⟨sb, so, spot⟩ := ad
      obtain ⟨fs, hfs, hsz, hty⟩ : ∃ fs : Array Field, Tryz.prog.underlying 42 = some (.struct fs) ∧ fs.size = 6 ∧ (fs.toList.map fun f => (f.type, f.offset)) = [(3, 0), (3, 1), (3, 2), (3, 3), (9, 4), (9, 5)] := ⟨_, Tryz.underlying42, by kernel_rfl, by kernel_rfl⟩
      have hF : ∀ (i : Nat) (ty : TypeId) (o : Nat), (fs.toList.map fun f => (f.type, f.offset))[i]? = some (ty, o) → ∃ f, fs[i]? = some f ∧ f.type = ty ∧ f.offset = o := fun i ty o hi => by
        rw [List.getElem?_map] at hi
        obtain ⟨f, hf, hfo⟩ := Option.map_eq_some_iff.1 hi
        simp at hfo
        exact ⟨f, by simpa using hf, hfo.1, hfo.2⟩
      rw [hty] at hF
      obtain ⟨f0, g0, t0, o0⟩ := hF 0 _ _ rfl
      obtain ⟨f1, g1, t1, o1⟩ := hF 1 _ _ rfl
      obtain ⟨f2, g2, t2, o2⟩ := hF 2 _ _ rfl
      obtain ⟨f3, g3, t3, o3⟩ := hF 3 _ _ rfl
      obtain ⟨f4, g4, t4, o4⟩ := hF 4 _ _ rfl
      obtain ⟨f5, g5, t5, o5⟩ := hF 5 _ _ rfl
      have hspot : spot = none := by
        obtain ⟨cs', h1, _⟩ := hall 0 (by omega)
        rw [Tryz.cellsOp] at h1
        obtain ⟨_, hlen, hcell⟩ := World.cells?_some h1
        have e0 := hcell 0 (by omega)
        rw [List.getElem?_eq_getElem (by omega)] at e0
        simpa [Addr.add] using World.cell?_spot e0
      subst hspot
      have hd1 := congrArg Prod.fst hd
      simp only at hd1
      rw [hd1] at hw
      have each : ∀ i, i < len → ∃ x : OpR, ScrAt W sb (so + i * 6) x := by
        intro i hi
        obtain ⟨cs', h1, h2⟩ := hall i (by omega)
        rw [Tryz.cellsOp] at h1
        obtain ⟨_, hlen, hcell⟩ := World.cells?_some h1
        obtain ⟨xs, k, hk, hxy, _, hxl, hf⟩ := DataW.trod_struct hfs h2
        rw [hsz] at hxl
        match xs, hxl, cs', hlen with
        | [y0, y1, y2, y3, y4, y5], _, [v0, v1, v2, v3, v4, v5], _ =>
          have r0 := hf 0 f0 g0; have r1 := hf 1 f1 g1; have r2 := hf 2 f2 g2; have r3 := hf 3 f3 g3; have r4 := hf 4 f4 g4; have r5 := hf 5 f5 g5
          rw [t0, o0, Tryz.cellsI] at r0
          rw [t1, o1, Tryz.cellsI] at r1
          rw [t2, o2, Tryz.cellsI] at r2
          rw [t3, o3, Tryz.cellsI] at r3
          rw [t4, o4, Tryz.cellsS] at r4
          rw [t5, o5, Tryz.cellsS] at r5
          simp at r0 r1 r2 r3 r4 r5
          obtain ⟨n0, q0, _, _⟩ := DataW.trod_int Tryz.uI r0
          obtain ⟨n1, q1, _, w1⟩ := DataW.trod_int Tryz.uI r1
          obtain ⟨n2, q2, _, w2⟩ := DataW.trod_int Tryz.uI r2
          obtain ⟨n3, q3, _, _⟩ := DataW.trod_int Tryz.uI r3
          obtain ⟨s4, q4, z4, _⟩ := DataW.trod_string Tryz.uS r4
          obtain ⟨s5, q5, z5, _⟩ := DataW.trod_string Tryz.uS r5
          have hDi := congrArg Prod.fst hxy
          simp only [List.map_cons, List.map_nil] at hDi
          have hmem : DataW.agg [y0.1, y1.1, y2.1, y3.1, y4.1, y5.1] ∈ (List.range len).map D := by
            rw [← hDi]; exact List.mem_map.2 ⟨i, List.mem_range.2 hi, rfl⟩
          have w4 := inner_string hw Tryz.uSl hfs hmem (j := 4) (u := f4.type) (by rw [List.getElem?_map]; simp [g4]) (by rw [z4]; rfl)
          have w5 := inner_string hw Tryz.uSl hfs hmem (j := 5) (u := f5.type) (by rw [List.getElem?_map]; simp [g5]) (by rw [z5]; rfl)
          rw [toList_len] at w4 w5
          simp at q0 q1 q2 q3 q4 q5
          subst q0 q1 q2 q3 q4 q5
          have e0 := hcell 0 (by omega); have e1 := hcell 1 (by omega); have e2 := hcell 2 (by omega); have e3 := hcell 3 (by omega); have e4 := hcell 4 (by omega); have e5 := hcell 5 (by omega)
          simp only [add_plain] at e0 e1 e2 e3 e4 e5
          have := wf_range w1
          have := wf_range w2
          refine ⟨⟨n0, n1, n2, n3, s4, s5⟩, ?_⟩
          exact ⟨by simpa using e0, by simpa [Nat.add_assoc] using e1, by simpa [Nat.add_assoc] using e2, by simpa [Nat.add_assoc] using e3, by simpa [Nat.add_assoc] using e4, by simpa [Nat.add_assoc] using e5, by show _ ≤ n1; omega, by show n1 ≤ _; omega, by show _ ≤ n2; omega, by show n2 ≤ _; omega, by show s4.size ≤ _; omega, by show s5.size ≤ _; omega⟩
      refine .inr ⟨sb, so, m, fun i => if hi : i < len then (each i hi).choose else ⟨0, 0, 0, 0, .empty, .empty⟩, rfl, hl, hm, fun _ => ?_, fun i hi => ?_⟩
      · obtain ⟨x, hx⟩ := each 0 (by omega)
        exact World.block_lt_of_cell? W _ hx.c0
      · show ScrAt W sb (so + i * 6) (if hi : i < len then (each i hi).choose else ⟨0, 0, 0, 0, .empty, .empty⟩)
        rw [dif_pos hi]
        exact (each i hi).choose_spec

end

set_option maxHeartbeats 1000000 in
theorem Reads_any (v : Value) (n : Nat) (w : World) (hv : Scr w v n) (ht : Tab w) :
    Calls Tryz.prog 3 #[v] w fun e w' => e = .returned (.bool true) ∧ Below w.heap.size w w' := by
  have hS := smallL_any v n w hv
  have hU := fun (W : World) (hb : Below w.heap.size w W) (hn : n ≤ 1048576) => upTo_any v n 1 W (hv.below hb) hn (by omega) (by omega) (ht.below hb)
  obtain ⟨va, vc, rfl, _⟩ := hv.val
  have HU : Hid _ := hU
  clear hU
  go_enter Tryz.func3, Tryz.ntmps3
  go_wp2_with fail
  refine hS.mono ?_
  rintro e w1 ⟨b, rfl, hb, hb1⟩
  cases b with
  | false =>
    go_wp2
    go_ret
    exact ⟨rfl, hb1⟩
  | true =>
    have hn := hb rfl
    go_wp2_with fail
    refine (HU.out w1 hb1 hn).mono ?_
    rintro e w2 ⟨rfl, hb2⟩
    go_wp2
    go_ret
    exact ⟨rfl, hb1.trans (hb2.mono hb1.size)⟩

set_option maxHeartbeats 1000000 in
theorem Texts_any (v : Value) (n : Nat) (w : World) (hv : Scr w v n) (ht : Tab w) :
    Calls Tryz.prog 4 #[v] w fun e w' => e = .returned (.bool true) ∧ Below w.heap.size w w' := by
  have hS := smallL_any v n w hv
  have hU := fun (W : World) (hb : Below w.heap.size w W) (hn : n ≤ 1048576) => upTo_any v n 2 W (hv.below hb) hn (by omega) (by omega) (ht.below hb)
  obtain ⟨va, vc, rfl, _⟩ := hv.val
  have HU : Hid _ := hU
  clear hU
  go_enter Tryz.func4, Tryz.ntmps4
  go_wp2_with fail
  refine hS.mono ?_
  rintro e w1 ⟨b, rfl, hb, hb1⟩
  cases b with
  | false =>
    go_wp2
    go_ret
    exact ⟨rfl, hb1⟩
  | true =>
    have hn := hb rfl
    go_wp2_with fail
    refine (HU.out w1 hb1 hn).mono ?_
    rintro e w2 ⟨rfl, hb2⟩
    go_wp2
    go_ret
    exact ⟨rfl, hb1.trans (hb2.mono hb1.size)⟩

set_option maxHeartbeats 1000000 in
theorem Adds_any (v : Value) (n : Nat) (w : World) (hv : Scr w v n) (ht : Tab w) :
    Calls Tryz.prog 5 #[v] w fun e w' => e = .returned (.bool true) ∧ Below w.heap.size w w' := by
  have hS := smallL_any v n w hv
  have hU := fun (W : World) (hb : Below w.heap.size w W) (hn : n ≤ 1048576) => upTo_any v n 3 W (hv.below hb) hn (by omega) (by omega) (ht.below hb)
  obtain ⟨va, vc, rfl, _⟩ := hv.val
  have HU : Hid _ := hU
  clear hU
  go_enter Tryz.func5, Tryz.ntmps5
  go_wp2_with fail
  refine hS.mono ?_
  rintro e w1 ⟨b, rfl, hb, hb1⟩
  cases b with
  | false =>
    go_wp2
    go_ret
    exact ⟨rfl, hb1⟩
  | true =>
    have hn := hb rfl
    go_wp2_with fail
    refine (HU.out w1 hb1 hn).mono ?_
    rintro e w2 ⟨rfl, hb2⟩
    go_wp2
    go_ret
    exact ⟨rfl, hb1.trans (hb2.mono hb1.size)⟩

set_option maxHeartbeats 1000000 in
theorem Subs_any (v : Value) (n : Nat) (w : World) (hv : Scr w v n) (ht : Tab w) :
    Calls Tryz.prog 6 #[v] w fun e w' => e = .returned (.bool true) ∧ Below w.heap.size w w' := by
  have hS := smallL_any v n w hv
  have hU := fun (W : World) (hb : Below w.heap.size w W) (hn : n ≤ 1048576) => upTo_any v n 4 W (hv.below hb) hn (by omega) (by omega) (ht.below hb)
  obtain ⟨va, vc, rfl, _⟩ := hv.val
  have HU : Hid _ := hU
  clear hU
  go_enter Tryz.func6, Tryz.ntmps6
  go_wp2_with fail
  refine hS.mono ?_
  rintro e w1 ⟨b, rfl, hb, hb1⟩
  cases b with
  | false =>
    go_wp2
    go_ret
    exact ⟨rfl, hb1⟩
  | true =>
    have hn := hb rfl
    go_wp2_with fail
    refine (HU.out w1 hb1 hn).mono ?_
    rintro e w2 ⟨rfl, hb2⟩
    go_wp2
    go_ret
    exact ⟨rfl, hb1.trans (hb2.mono hb1.size)⟩

set_option maxHeartbeats 1000000 in
theorem Muls_any (v : Value) (n : Nat) (w : World) (hv : Scr w v n) (ht : Tab w) :
    Calls Tryz.prog 7 #[v] w fun e w' => e = .returned (.bool true) ∧ Below w.heap.size w w' := by
  have hS := smallL_any v n w hv
  have hU := fun (W : World) (hb : Below w.heap.size w W) (hn : n ≤ 1048576) => upTo_any v n 5 W (hv.below hb) hn (by omega) (by omega) (ht.below hb)
  obtain ⟨va, vc, rfl, _⟩ := hv.val
  have HU : Hid _ := hU
  clear hU
  go_enter Tryz.func7, Tryz.ntmps7
  go_wp2_with fail
  refine hS.mono ?_
  rintro e w1 ⟨b, rfl, hb, hb1⟩
  cases b with
  | false =>
    go_wp2
    go_ret
    exact ⟨rfl, hb1⟩
  | true =>
    have hn := hb rfl
    go_wp2_with fail
    refine (HU.out w1 hb1 hn).mono ?_
    rintro e w2 ⟨rfl, hb2⟩
    go_wp2
    go_ret
    exact ⟨rfl, hb1.trans (hb2.mono hb1.size)⟩

set_option maxHeartbeats 1000000 in
theorem Divides_any (v : Value) (n : Nat) (w : World) (hv : Scr w v n) (ht : Tab w) :
    Calls Tryz.prog 8 #[v] w fun e w' => e = .returned (.bool true) ∧ Below w.heap.size w w' := by
  have hS := smallL_any v n w hv
  have hU := fun (W : World) (hb : Below w.heap.size w W) (hn : n ≤ 1048576) => upTo_any v n 6 W (hv.below hb) hn (by omega) (by omega) (ht.below hb)
  obtain ⟨va, vc, rfl, _⟩ := hv.val
  have HU : Hid _ := hU
  clear hU
  go_enter Tryz.func8, Tryz.ntmps8
  go_wp2_with fail
  refine hS.mono ?_
  rintro e w1 ⟨b, rfl, hb, hb1⟩
  cases b with
  | false =>
    go_wp2
    go_ret
    exact ⟨rfl, hb1⟩
  | true =>
    have hn := hb rfl
    go_wp2_with fail
    refine (HU.out w1 hb1 hn).mono ?_
    rintro e w2 ⟨rfl, hb2⟩
    go_wp2
    go_ret
    exact ⟨rfl, hb1.trans (hb2.mono hb1.size)⟩

set_option maxHeartbeats 1000000 in
theorem Gcds_any (v : Value) (n : Nat) (w : World) (hv : Scr w v n) (ht : Tab w) :
    Calls Tryz.prog 9 #[v] w fun e w' => e = .returned (.bool true) ∧ Below w.heap.size w w' := by
  have hS := smallL_any v n w hv
  have hU := fun (W : World) (hb : Below w.heap.size w W) (hn : n ≤ 1048576) => upTo_any v n 7 W (hv.below hb) hn (by omega) (by omega) (ht.below hb)
  obtain ⟨va, vc, rfl, _⟩ := hv.val
  have HU : Hid _ := hU
  clear hU
  go_enter Tryz.func9, Tryz.ntmps9
  go_wp2_with fail
  refine hS.mono ?_
  rintro e w1 ⟨b, rfl, hb, hb1⟩
  cases b with
  | false =>
    go_wp2
    go_ret
    exact ⟨rfl, hb1⟩
  | true =>
    have hn := hb rfl
    go_wp2_with fail
    refine (HU.out w1 hb1 hn).mono ?_
    rintro e w2 ⟨rfl, hb2⟩
    go_wp2
    go_ret
    exact ⟨rfl, hb1.trans (hb2.mono hb1.size)⟩

set_option maxHeartbeats 1000000 in
theorem Shifts_any (v : Value) (n : Nat) (w : World) (hv : Scr w v n) (ht : Tab w) :
    Calls Tryz.prog 10 #[v] w fun e w' => e = .returned (.bool true) ∧ Below w.heap.size w w' := by
  have hS := smallL_any v n w hv
  have hU := fun (W : World) (hb : Below w.heap.size w W) (hn : n ≤ 1048576) => upTo_any v n 8 W (hv.below hb) hn (by omega) (by omega) (ht.below hb)
  obtain ⟨va, vc, rfl, _⟩ := hv.val
  have HU : Hid _ := hU
  clear hU
  go_enter Tryz.func10, Tryz.ntmps10
  go_wp2_with fail
  refine hS.mono ?_
  rintro e w1 ⟨b, rfl, hb, hb1⟩
  cases b with
  | false =>
    go_wp2
    go_ret
    exact ⟨rfl, hb1⟩
  | true =>
    have hn := hb rfl
    go_wp2_with fail
    refine (HU.out w1 hb1 hn).mono ?_
    rintro e w2 ⟨rfl, hb2⟩
    go_wp2
    go_ret
    exact ⟨rfl, hb1.trans (hb2.mono hb1.size)⟩

end Go.Proofs.YtldcjkhbiffdoaaGreatDoor
