/-
  gather.
-/
import Derived.Test.YtldcjkhbiffdoabDoorNumberOf
namespace Go.Proofs.YtldcjkhbiffdoabDoor
open Go.RowKit

/-- A term beyond the greatest degree. -/
def bigQ (q : Int × Nat) : Bool := decide (q.1 ≠ 0) && decide (10 < q.2)
/-- The coefficients up to the greatest degree. -/
def coefsT (ts : List (Int × Nat)) (n : Nat) : List Int := (List.range n).map (fun k => nAt k ts)

theorem nAt_bound {p k : Nat} : ∀ {ts : List (Int × Nat)}, (∀ q, q ∈ ts → q.1.natAbs ≤ k) → (nAt p ts).natAbs ≤ k
  | [], _ => by simp [nAt]
  | (d, q) :: l, h => by
    unfold nAt
    split
    · exact h _ (List.mem_cons_self ..)
    · exact nAt_bound (fun r hr => h r (List.mem_cons_of_mem _ hr))

theorem TsOk.nAt {ts : List (Int × Nat)} {k : Nat} (h : TsOk ts k) (hk : k ≤ 1000) (p : Nat) : Fit (nAt p ts) := by
  have h1 : (Go.Proofs.YtldcjkhbiffdoabDoor.nAt p ts).natAbs ≤ k * 10 ^ 200 := nAt_bound (fun q hq => by
    obtain ⟨j, hj, e⟩ := getD_mem (z := (0, 0)) hq
    have := (h.2 j hj).1
    rw [e] at this
    exact this)
  refine ⟨204, by omega, ?_⟩
  have h3 : k * 10 ^ 200 < 10 ^ 204 := by
    have : 10 ^ 204 = 10 ^ 4 * 10 ^ 200 := by rw [← Nat.pow_add]
    rw [this]
    exact Nat.mul_lt_mul_of_pos_right (by omega) (Nat.pow_pos (by omega))
  have h4 : 10 ^ 204 ≤ 1000000000 ^ 204 := Nat.pow_le_pow_left (by omega) 204
  exact Nat.lt_of_le_of_lt h1 (Nat.lt_of_lt_of_le h3 h4)

theorem any_take {α : Type} (f : α → Bool) (ts : List α) (z : α) {k : Nat} (hk : k < ts.length) : (ts.take (k + 1)).any f = ((ts.take k).any f || f (ts.getD k z)) := by
  rw [List.take_succ_eq_append_getElem hk, List.any_append]
  simp [List.getD, hk]
theorem any_true {α : Type} (f : α → Bool) (ts : List α) (z : α) {k : Nat} (hk : k < ts.length) (h : f (ts.getD k z) = true) : ts.any f = true := by
  rw [List.any_eq_true]
  exact ⟨_, mem_getD hk, h⟩

/-- What 'gather' answers. -/
def Gathered (w' : World) (ts : List (Int × Nat)) (e : Ending) : Prop :=
  (ts.any bigQ = true ∧ e = .returned (.tuple #[.pointer none, .int .i64 3])) ∨ (ts.any bigQ = false ∧ Bounded w' (tz (coefsT ts 11)) e)

/-! A region that draws its order, where every operation reads old memory alone and every callee makes new memory alone: the order of the text serves for all. -/
section
variable {P : Program} {ops : Array Oper} {C : World → Prop} {Q : Act → Prop} {o : Oper} {rest : List Oper} {a : Act}
theorem q_run {v : Value} (hw : Region.wanted o (yielded ops a.tmps) = true) (hv : ∀ w, C w → (execOp a.eval o).run P w = .ok (.value v) w) (h : wpQuiet P ops C Q rest (a.put o.dst v)) : wpQuiet P ops C Q (o :: rest) a := by
  unfold wpQuiet
  rw [if_pos hw]
  refine ⟨v, fun w hc => ?_, h⟩
  unfold Oper.quietAt
  rw [hv w hc]
  exact ⟨rfl, rfl⟩
theorem q_not (hw : Region.wanted o (yielded ops a.tmps) = false) (h : wpQuiet P ops C Q rest (a.put o.dst undef)) : wpQuiet P ops C Q (o :: rest) a := by
  unfold wpQuiet
  rw [if_neg (by rw [hw]; simp)]
  exact h
theorem q_call {v : Value} {f : Nat} {args : Array Value} (hw : Region.wanted o (yielded ops a.tmps) = true) (hv : ∀ w, (execOp a.eval o).run P w = .ok (.enter f args) w) (hc : ∀ w, C w → Calls P f args w (fun e w'' => e = .returned v ∧ C w'')) (h : wpQuiet P ops C Q rest (a.put o.dst v)) : wpQuiet P ops C Q (o :: rest) a := by
  unfold wpQuiet
  rw [if_pos hw]
  refine ⟨v, fun w hC => ?_, h⟩
  unfold Oper.quietAt
  rw [hv w]
  exact ⟨rfl, hc w hC⟩
end
theorem wanted_no {o : Oper} {ops : Array Oper} {tmps : Array Value} {g d : Nat} {b want : Bool} (hg : o.guard = some (g, want)) (hd : (ops[g]?).bind (·.dst) = some d) (ht : tmps[d]? = some (.bool b)) (hne : b ≠ want) : Region.wanted o (yielded ops tmps) = false := by
  simp [Region.wanted, hg, yielded, hd, ht, hne]
/-- Operations whose guard says no, one behind another: they leave their temporaries empty. -/
theorem q_skips {P : Program} {ops : Array Oper} {C : World → Prop} {Q : Act → Prop} {g d : Nat} (hd : (ops[g]?).bind (·.dst) = some d) (rest : List Oper) : ∀ (os : List Oper) (a : Act), a.tmps[d]? = some (.bool false) → (∀ o, o ∈ os → o.guard = some (g, true) ∧ o.dst ≠ some d) →
    wpQuiet P ops C Q rest (os.foldl (fun a o => a.put o.dst undef) a) → wpQuiet P ops C Q (os ++ rest) a
  | [], _, _, _, h => h
  | o :: os, a, ht, hg, h => by
    have h1 := hg o (List.mem_cons_self ..)
    refine q_not (wanted_no h1.1 hd ht (by decide)) (q_skips hd rest os _ ?_ (fun x hx => hg x (List.mem_cons_of_mem _ hx)) h)
    cases ho : o.dst with
    | none => exact ht
    | some t =>
      have hne : t ≠ d := fun e => h1.2 (by rw [ho, e])
      show (a.tmps.setIfInBounds t undef)[d]? = _
      rw [Array.getElem?_setIfInBounds_ne hne]
      exact ht
/-- .. behind an operation that is carried out. -/
theorem q_run_skip {P : Program} {ops : Array Oper} {C : World → Prop} {Q : Act → Prop} {o : Oper} {l : List Oper} {a : Act} {v : Value} (n g d : Nat) (hw : Region.wanted o (yielded ops a.tmps) = true) (hv : ∀ w, C w → (execOp a.eval o).run P w = .ok (.value v) w) (hd : (ops[g]?).bind (·.dst) = some d)
    (ht : (a.put o.dst v).tmps[d]? = some (.bool false)) (hg : ∀ o', o' ∈ l.take n → o'.guard = some (g, true) ∧ o'.dst ≠ some d) (h : wpQuiet P ops C Q (l.drop n) ((l.take n).foldl (fun a o => a.put o.dst undef) (a.put o.dst v))) : wpQuiet P ops C Q (o :: l) a := by
  refine q_run hw hv ?_
  have := q_skips (P := P) (C := C) (Q := Q) hd (l.drop n) (l.take n) _ ht hg h
  rwa [List.take_append_drop] at this
theorem wanted_yes {o : Oper} {ops : Array Oper} {tmps : Array Value} {g d : Nat} {b : Bool} (hg : o.guard = some (g, b)) (hd : (ops[g]?).bind (·.dst) = some d) (ht : tmps[d]? = some (.bool b)) : Region.wanted o (yielded ops tmps) = true := by
  simp [Region.wanted, hg, yielded, hd, ht]
theorem wp_region_below {P : Program} {id : Nat} {Q : Exit → Act → World → Prop} {a : Act} {w : World} {l : List Oper} (hm : P.follows .mixedOrders = true) (hB : Region.lexB .any l.toArray = true)
    (h : wpQuiet P l.toArray (fun w' => Below w.heap.size w w') (fun a' => ∀ w', Below w.heap.size w w' → Q .normal a' w') l a) : (Code.region id l.toArray true).wp P Q a w :=
  wp_region_quiet (C := fun w' => Below w.heap.size w w') hm hB ⟨rfl, rfl, rfl, Nat.le_refl _, fun _ _ => rfl⟩ (by simpa using h)

set_option maxHeartbeats 1000000 in
theorem gather_any (tv : Value) (ts : List (Int × Nat)) (w : World) (B : Nat) (hO : OwnT B w tv ts) (hts : TsOk ts 201) (ht : Tab w) :
    Calls Tryd.prog 8 #[tv] w fun e w' => Gathered w' ts e ∧ Below w.heap.size w w' := by
  have hl := hts.1
  have ft := hts.fit (by omega)
  obtain ⟨ta, tcp, rfl⟩ := hO.val
  go_enter Tryd.func8, Tryd.ntmps8
  go_wp2_with fail
  refine (small_any 10 (by omega) (by omega) w).mono ?_
  rintro e w1 ⟨v1, rfl, hI1, hb1⟩
  obtain ⟨gb, ga, gn, gc, rfl⟩ := hI1.form
  go_wp2_with fail
  generalize hW : w1.alloc (Obj.cells #[Value.bool gb, Value.slice ga gn gc] 43) = W2
  obtain ⟨hb2, X2⟩ := one_new hW
  clear hW
  have hb02 : Below w.heap.size w W2 := hb1.trans (hb2.mono hb1.size)
  have hI4 : IsB W2 w1.heap.size 10 := ⟨_, _, X2, hI1.below hb2⟩
  have hO2 := hO.below hb02
  have hw1 := hb1.size
  clear X2 hI1 hb1 hb2
  generalize w1.heap.size = b4 at *
  go_loopw [5] (fun i wr => ∃ (k : Nat), k ≤ ts.length ∧ i = .int .i64 k ∧ IsB wr b4 10 ∧ Hid ((ts.take k).any bigQ = false) ∧ Below w.heap.size w wr) (fun i _ => ts.length - (intOf i).toNat)
  case atStart => exact ⟨0, Nat.zero_le _, rfl, hI4, rfl, hb02⟩
  case round =>
    clear hO2 hI4 hb02
    obtain ⟨k, hk, rfl, hI4, HE, hbel⟩ := hrel
    have hOk := hO.below hbel
    by_cases hlt : k < ts.length
    · obtain ⟨g, b, xa, xn, xc, d, ya, yn, yc, rfl, hc1, hc2, hg, hBg, e0, e1, e2, e3, ef, hIx, hIy⟩ := hOk.at k hlt
      obtain ⟨qb, qa, qn, qc, Q1, J1⟩ := hI4.open
      have q0 := Q1.c0; have q1 := Q1.c1
      have hq := Q1.lt
      have hft := ft k hlt
      have hany := any_take bigQ ts (0, 0) hlt
      have htrue := any_true bigQ ts (0, 0) hlt
      rw [HE.out] at hany
      generalize ts.getD k (0, 0) = q at *
      obtain ⟨nm, pw⟩ := q
      have hS := fun (W : World) (g1 : IsI W (.agg #[.bool b, .slice xa xn xc]) nm) => sign_any _ nm W g1 hft.1
      have hC := fun (W : World) (g1 : IsI W (.agg #[.bool d, .slice ya yn yc]) (pw : Int)) (g2 : IsI W (.agg #[.bool qb, .slice qa qn qc]) 10) => compare_any _ _ (pw : Int) 10 W g1 g2 hft.2 (fit_nat (n := 10) (k := 2) (by omega) (by omega))
      by_cases hz : nm = 0
      · subst hz
        have h0 : sgn3 0 = 0 := rfl
        simp only [h0] at hS
        have HE2 : Hid ((ts.take (k + 1)).any bigQ = false) := by rw [hany]; rfl
        have HS : Hid _ := hS
        clear hS hC hany htrue h0 HE
        go_wp2_with fail
        refine wp_region_below (by kernel_rfl) (by kernel_rfl) ?_
        refine q_run (v := .slice (some ⟨g, 0, none⟩) ts.length tcp) rfl (fun _ _ => rfl) ?_
        refine q_run (v := .int .i64 (k : Int)) rfl (fun _ _ => rfl) ?_
        refine q_run (v := .pointer (some ⟨g, k * 4, none⟩)) rfl (fun w' hw' => by go_simp) ?_
        refine q_run (v := .pointer (some ⟨g, k * 4, none⟩)) rfl (fun w' hw' => by go_simp) ?_
        refine q_run (v := .agg #[.bool b, .slice xa xn xc]) rfl (fun w' hw' => by have t0 := (hw'.cell (p := ⟨g, k * 4, none⟩) hg).trans e0; have t1 := (hw'.cell (p := ⟨g, k * 4 + 1, none⟩) hg).trans e1; go_simp) ?_
        refine q_call (v := .int .i64 0) (f := 14) (args := #[.agg #[.bool b, .slice xa xn xc]]) rfl (fun w' => by go_simp) (fun w' hw' => ?_) ?_
        · refine (HS.out w' (hIx.below hw')).mono ?_
          rintro e w3 ⟨rfl, hb3⟩
          exact ⟨rfl, hw'.trans (hb3.mono hw'.size)⟩
        simp only [Act.put, List.setIfInBounds_toArray, List.set_cons_succ, List.set_cons_zero]
        refine q_run (v := .bool false) rfl (fun w' hw' => by go_simp) ?_
        simp only [Act.put, List.setIfInBounds_toArray, List.set_cons_succ, List.set_cons_zero]
        refine q_run_skip (v := .bool false) 8 7 22 rfl (fun _ _ => rfl) rfl rfl ?_ ?_
        · intro o' ho'
          simp at ho'
          rcases ho' with rfl | rfl | rfl | rfl | rfl | rfl | rfl | rfl <;> exact ⟨rfl, by simp⟩
        simp only [List.drop_succ_cons, List.drop_zero, List.take_succ_cons, List.take_zero, List.foldl_cons, List.foldl_nil, Act.put, List.setIfInBounds_toArray, List.set_cons_succ, List.set_cons_zero]
        refine q_run (v := .bool false) rfl (fun w' hw' => by go_simp) ?_
        simp only [Act.put, List.setIfInBounds_toArray, List.set_cons_succ, List.set_cons_zero]
        refine wpQuiet_nil ?_
        intro w3 hb3
        go_wp2_with fail
        go_roundw
        case rel => exact ⟨k + 1, by omega, by go_num, hI4.below hb3, HE2, hbel.trans (hb3.mono hbel.size)⟩
        case measure => simp [intOf]; omega
      · have hsz : (sgn3 nm != 0) = true := by
          unfold sgn3
          rcases (show nm < 0 ∨ 0 < nm by omega) with h | h
          · rw [if_pos h]; rfl
          · rw [if_neg (by omega), if_neg (by omega)]; rfl
        generalize sgn3 nm = sz at *
        have HS : Hid _ := hS
        by_cases hp : 10 < pw
        · have h1 : cmp3 (pw : Int) 10 = 1 := cmp3_gt (by omega)
          simp only [h1] at hC
          have HC : Hid _ := hC
          have hT : Hid (ts.any bigQ = true) := htrue (by simp [bigQ, hz, hp])
          clear hS hC hany htrue h1 HE
          go_wp2_with fail
          refine wp_region_below (by kernel_rfl) (by kernel_rfl) ?_
          refine q_run (v := .slice (some ⟨g, 0, none⟩) ts.length tcp) rfl (fun _ _ => rfl) ?_
          refine q_run (v := .int .i64 (k : Int)) rfl (fun _ _ => rfl) ?_
          refine q_run (v := .pointer (some ⟨g, k * 4, none⟩)) rfl (fun w' hw' => by go_simp) ?_
          refine q_run (v := .pointer (some ⟨g, k * 4, none⟩)) rfl (fun w' hw' => by go_simp) ?_
          refine q_run (v := .agg #[.bool b, .slice xa xn xc]) rfl (fun w' hw' => by have t0 := (hw'.cell (p := ⟨g, k * 4, none⟩) hg).trans e0; have t1 := (hw'.cell (p := ⟨g, k * 4 + 1, none⟩) hg).trans e1; go_simp) ?_
          refine q_call (v := .int .i64 sz) (f := 14) (args := #[.agg #[.bool b, .slice xa xn xc]]) rfl (fun w' => by go_simp) (fun w' hw' => ?_) ?_
          · refine (HS.out w' (hIx.below hw')).mono ?_
            rintro e w3 ⟨rfl, hb3⟩
            exact ⟨rfl, hw'.trans (hb3.mono hw'.size)⟩
          refine q_run (v := .bool true) rfl (fun w' hw' => by go_simp) ?_
          simp only [Act.put, List.setIfInBounds_toArray, List.set_cons_succ, List.set_cons_zero]
          refine q_run (v := .bool true) rfl (fun _ _ => rfl) ?_
          simp only [Act.put, List.setIfInBounds_toArray, List.set_cons_succ, List.set_cons_zero]
          refine q_run (v := .slice (some ⟨g, 0, none⟩) ts.length tcp) ?_ (fun _ _ => rfl) ?_
          · exact wanted_yes (g := 7) (d := 22) (b := true) rfl rfl rfl
          simp only [Act.put, List.setIfInBounds_toArray, List.set_cons_succ, List.set_cons_zero]
          refine q_run (v := .int .i64 (k : Int)) ?_ (fun _ _ => rfl) ?_
          · exact wanted_yes (g := 7) (d := 22) (b := true) rfl rfl rfl
          simp only [Act.put, List.setIfInBounds_toArray, List.set_cons_succ, List.set_cons_zero]
          refine q_run (v := .pointer (some ⟨g, k * 4, none⟩)) ?_ (fun w' hw' => by go_simp) ?_
          · exact wanted_yes (g := 7) (d := 22) (b := true) rfl rfl rfl
          simp only [Act.put, List.setIfInBounds_toArray, List.set_cons_succ, List.set_cons_zero]
          refine q_run (v := .pointer (some ⟨g, k * 4 + 2, none⟩)) ?_ (fun w' hw' => by go_simp) ?_
          · exact wanted_yes (g := 7) (d := 22) (b := true) rfl rfl rfl
          simp only [Act.put, List.setIfInBounds_toArray, List.set_cons_succ, List.set_cons_zero]
          refine q_run (v := .agg #[.bool d, .slice ya yn yc]) ?_ (fun w' hw' => by have t0 := (hw'.cell (p := ⟨g, k * 4 + 2, none⟩) hg).trans e2; have t1 := (hw'.cell (p := ⟨g, k * 4 + 2 + 1, none⟩) hg).trans e3; go_simp) ?_
          · exact wanted_yes (g := 7) (d := 22) (b := true) rfl rfl rfl
          simp only [Act.put, List.setIfInBounds_toArray, List.set_cons_succ, List.set_cons_zero]
          refine q_run (v := .agg #[.bool qb, .slice qa qn qc]) ?_ (fun w' hw' => by have t0 := (hw'.cell (p := ⟨b4, 0, none⟩) hq).trans q0; have t1 := (hw'.cell (p := ⟨b4, 1, none⟩) hq).trans q1; go_simp) ?_
          · exact wanted_yes (g := 7) (d := 22) (b := true) rfl rfl rfl
          simp only [Act.put, List.setIfInBounds_toArray, List.set_cons_succ, List.set_cons_zero]
          refine q_call (v := .int .i64 1) (f := 15) (args := #[.agg #[.bool d, .slice ya yn yc], .agg #[.bool qb, .slice qa qn qc]]) ?_ (fun w' => by go_simp) (fun w' hw' => ?_) ?_
          · exact wanted_yes (g := 7) (d := 22) (b := true) rfl rfl rfl
          · refine (HC.out w' (hIy.below hw') (J1.below hw')).mono ?_
            rintro e w3 ⟨rfl, hb3⟩
            exact ⟨rfl, hw'.trans (hb3.mono hw'.size)⟩
          simp only [Act.put, List.setIfInBounds_toArray, List.set_cons_succ, List.set_cons_zero]
          refine q_run (v := .bool true) ?_ (fun w' hw' => by go_simp) ?_
          · exact wanted_yes (g := 7) (d := 22) (b := true) rfl rfl rfl
          simp only [Act.put, List.setIfInBounds_toArray, List.set_cons_succ, List.set_cons_zero]
          refine q_run (v := .bool true) rfl (fun w' hw' => by go_simp) ?_
          simp only [Act.put, List.setIfInBounds_toArray, List.set_cons_succ, List.set_cons_zero]
          refine wpQuiet_nil ?_
          intro w3 hb3

          go_wp2_with fail
          go_ret2
          exact ⟨.inl ⟨hT.out, rfl⟩, hbel.trans (hb3.mono hbel.size)⟩
        · have h1 : ¬ 0 < cmp3 (pw : Int) 10 := by
            unfold cmp3
            split
            · omega
            · rw [if_neg (by omega)]; omega
          generalize cmp3 (pw : Int) 10 = cz at *
          have HC : Hid _ := hC
          have HE2 : Hid ((ts.take (k + 1)).any bigQ = false) := by
            rw [hany]
            simp only [Bool.false_or, bigQ, hp, decide_false, Bool.and_false]
            exact trivial
          clear hS hC hany htrue HE
          go_wp2_with fail
          refine wp_region_below (by kernel_rfl) (by kernel_rfl) ?_
          refine q_run (v := .slice (some ⟨g, 0, none⟩) ts.length tcp) rfl (fun _ _ => rfl) ?_
          refine q_run (v := .int .i64 (k : Int)) rfl (fun _ _ => rfl) ?_
          refine q_run (v := .pointer (some ⟨g, k * 4, none⟩)) rfl (fun w' hw' => by go_simp) ?_
          refine q_run (v := .pointer (some ⟨g, k * 4, none⟩)) rfl (fun w' hw' => by go_simp) ?_
          refine q_run (v := .agg #[.bool b, .slice xa xn xc]) rfl (fun w' hw' => by have t0 := (hw'.cell (p := ⟨g, k * 4, none⟩) hg).trans e0; have t1 := (hw'.cell (p := ⟨g, k * 4 + 1, none⟩) hg).trans e1; go_simp) ?_
          refine q_call (v := .int .i64 sz) (f := 14) (args := #[.agg #[.bool b, .slice xa xn xc]]) rfl (fun w' => by go_simp) (fun w' hw' => ?_) ?_
          · refine (HS.out w' (hIx.below hw')).mono ?_
            rintro e w3 ⟨rfl, hb3⟩
            exact ⟨rfl, hw'.trans (hb3.mono hw'.size)⟩
          refine q_run (v := .bool true) rfl (fun w' hw' => by go_simp) ?_
          simp only [Act.put, List.setIfInBounds_toArray, List.set_cons_succ, List.set_cons_zero]
          refine q_run (v := .bool true) rfl (fun _ _ => rfl) ?_
          simp only [Act.put, List.setIfInBounds_toArray, List.set_cons_succ, List.set_cons_zero]
          refine q_run (v := .slice (some ⟨g, 0, none⟩) ts.length tcp) ?_ (fun _ _ => rfl) ?_
          · exact wanted_yes (g := 7) (d := 22) (b := true) rfl rfl rfl
          simp only [Act.put, List.setIfInBounds_toArray, List.set_cons_succ, List.set_cons_zero]
          refine q_run (v := .int .i64 (k : Int)) ?_ (fun _ _ => rfl) ?_
          · exact wanted_yes (g := 7) (d := 22) (b := true) rfl rfl rfl
          simp only [Act.put, List.setIfInBounds_toArray, List.set_cons_succ, List.set_cons_zero]
          refine q_run (v := .pointer (some ⟨g, k * 4, none⟩)) ?_ (fun w' hw' => by go_simp) ?_
          · exact wanted_yes (g := 7) (d := 22) (b := true) rfl rfl rfl
          simp only [Act.put, List.setIfInBounds_toArray, List.set_cons_succ, List.set_cons_zero]
          refine q_run (v := .pointer (some ⟨g, k * 4 + 2, none⟩)) ?_ (fun w' hw' => by go_simp) ?_
          · exact wanted_yes (g := 7) (d := 22) (b := true) rfl rfl rfl
          simp only [Act.put, List.setIfInBounds_toArray, List.set_cons_succ, List.set_cons_zero]
          refine q_run (v := .agg #[.bool d, .slice ya yn yc]) ?_ (fun w' hw' => by have t0 := (hw'.cell (p := ⟨g, k * 4 + 2, none⟩) hg).trans e2; have t1 := (hw'.cell (p := ⟨g, k * 4 + 2 + 1, none⟩) hg).trans e3; go_simp) ?_
          · exact wanted_yes (g := 7) (d := 22) (b := true) rfl rfl rfl
          simp only [Act.put, List.setIfInBounds_toArray, List.set_cons_succ, List.set_cons_zero]
          refine q_run (v := .agg #[.bool qb, .slice qa qn qc]) ?_ (fun w' hw' => by have t0 := (hw'.cell (p := ⟨b4, 0, none⟩) hq).trans q0; have t1 := (hw'.cell (p := ⟨b4, 1, none⟩) hq).trans q1; go_simp) ?_
          · exact wanted_yes (g := 7) (d := 22) (b := true) rfl rfl rfl
          simp only [Act.put, List.setIfInBounds_toArray, List.set_cons_succ, List.set_cons_zero]
          refine q_call (v := .int .i64 cz) (f := 15) (args := #[.agg #[.bool d, .slice ya yn yc], .agg #[.bool qb, .slice qa qn qc]]) ?_ (fun w' => by go_simp) (fun w' hw' => ?_) ?_
          · exact wanted_yes (g := 7) (d := 22) (b := true) rfl rfl rfl
          · refine (HC.out w' (hIy.below hw') (J1.below hw')).mono ?_
            rintro e w3 ⟨rfl, hb3⟩
            exact ⟨rfl, hw'.trans (hb3.mono hw'.size)⟩
          simp only [Act.put, List.setIfInBounds_toArray, List.set_cons_succ, List.set_cons_zero]
          refine q_run (v := .bool false) ?_ (fun w' hw' => by go_simp) ?_
          · exact wanted_yes (g := 7) (d := 22) (b := true) rfl rfl rfl
          simp only [Act.put, List.setIfInBounds_toArray, List.set_cons_succ, List.set_cons_zero]
          refine q_run (v := .bool false) rfl (fun w' hw' => by go_simp) ?_
          simp only [Act.put, List.setIfInBounds_toArray, List.set_cons_succ, List.set_cons_zero]
          refine wpQuiet_nil ?_
          intro w3 hb3

          go_wp2_with fail
          go_roundw
          case rel => exact ⟨k + 1, by omega, by go_num, hI4.below hb3, HE2, hbel.trans (hb3.mono hbel.size)⟩
          case measure => simp [intOf]; omega
    · obtain rfl : k = ts.length := by omega
      have hE := HE.out
      rw [List.take_length] at hE
      have HE2 : Hid _ := hE
      clear HE hE hI4
      obtain ⟨B2, HB2⟩ : ∃ b, Hid (wr.heap.size = b) := ⟨_, rfl⟩
      have hwB : w.heap.size ≤ B2 := by rw [← HB2.out]; exact hbel.size
      go_wp2_with fail
      go_loopw [6, 7] (fun s i wq => ∃ (k : Nat), k ≤ 11 ∧ i = .int .i64 k ∧ OwnL B2 wq s (coefsT ts k) ∧ B2 ≤ wq.heap.size ∧ Below w.heap.size w wq) (fun _ i _ => 11 - (intOf i).toNat)
      case atStart => exact ⟨0, by omega, rfl, by rw [HB2.out]; exact OwnL.lit HB2.out, by simp [HB2.out], hbel.alloc hbel.size _⟩
      case round =>
        obtain ⟨k, hk2, rfl, hown, hbs, hbw⟩ := hrel
        have hOq := hO.below hbw
        have hlen : (coefsT ts k).length = k := by simp [coefsT]
        by_cases hlt2 : k < 11
        · have hN := fun (W : World) (u : Value) (g1 : OwnT B W (.slice ta ts.length tcp) ts) (g2 : IsI W u (k : Int)) => numberOf_any (.slice ta ts.length tcp) ts u k W B g1 g2 (fit_nat (n := k) (k := 2) (by omega) (by omega)) ft (by omega)
          have hstep : coefsT ts (k + 1) = coefsT ts k ++ [nAt k ts] := by unfold coefsT; rw [List.range_succ, List.map_append]; rfl
          generalize nAt k ts = z at *
          have HN : Hid _ := hN; have HST : Hid _ := hstep
          clear hN hstep
          go_wp2_with fail
          refine (small_any (k : Int) (by omega) (by omega) _).mono ?_
          rintro e w3 ⟨v3, rfl, hI3, hb3⟩
          go_wp2_with fail
          refine (HN.out w3 v3 (hOq.below hb3) hI3).mono ?_
          rintro e w4 ⟨v4, rfl, hI4', hb4⟩
          obtain ⟨zb, za, zn, zc, rfl⟩ := hI4'.form
          have hown4 := (hown.below hb3).below hb4
          have hs4 := Nat.le_trans (Nat.le_trans hbs hb3.size) hb4.size
          go_wp2_with (at_builtin; refine wpList_pushI rfl (.tmp 37) (.tmp 42) rfl B2 _ (coefsT ts k) _ _ z rfl hown4 hI4' rfl (by omega) hs4 ?_)
          intro v' w5 hown5 hb5 _
          rw [← HST.out] at hown5
          go_wp2
          go_roundw
          case rel => exact ⟨k + 1, by omega, by go_num, hown5, Nat.le_trans hs4 hb5.size, ((hbw.trans (hb3.mono hbw.size)).trans (hb4.mono (Nat.le_trans hbw.size hb3.size))).trans (hb5.mono hwB)⟩
          case measure => simp [intOf]; omega
        · obtain rfl : k = 11 := by omega
          have hBd := bounded_any (coefsT ts 11) _ _ hown.isL (by omega) (fun i hi => by
            have : (coefsT ts 11).getD i 0 = nAt i ts := by
              have hi' : i < 11 := by omega
              simp [coefsT, List.getD, hi']
            rw [this]
            exact hts.nAt (by omega) i) (ht.below hbw)
          go_wp2_with fail
          refine hBd.mono ?_
          rintro e w3 ⟨hB3, hb3⟩
          have hbf := hbw.trans (hb3.mono hbw.size)
          have hB4 : Bounded w3 (tz (coefsT ts 11)) e := hB3
          rcases hB3 with ⟨hin, p, rfl, hp⟩ | ⟨hin, rfl⟩
          · obtain ⟨pk, pv, rfl, _⟩ := id hp
            go_wp2
            go_ret2
            exact ⟨.inr ⟨HE2.out, hB4⟩, hbf⟩
          · go_wp2
            go_ret2
            exact ⟨.inr ⟨HE2.out, hB4⟩, hbf⟩

end Go.Proofs.YtldcjkhbiffdoabDoor
