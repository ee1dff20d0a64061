import Derived.Test.YtldcjkhbiffdoaaGreatDoorM05
import Derived.Laws.AppendOwnNone

/-
  factornum.Quo.
-/
namespace Go.Proofs.YtldcjkhbiffdoaaGreatDoor
open Go.RowKit

/-- 'append([]int{x}, rest...)'. -/
theorem wpList_consN {ops : Array Oper} {rest : List Oper} {o : Oper} {a : Act} {Q : Exit → Act → World → Prop} {wr : World} (hgd : o.guard = none) (s x : Operand)
    (ho : o.op = .call { callee := .builtin .append, args := #[s, x], argTypes := #[72, 72] })
    (y : Int) (v : Value) (rl : List Int) (hs : a.eval s = .slice (some ⟨wr.heap.size, 0, none⟩) 1 1) (hx : a.eval x = v) (hr : RowN wr v rl) (hlen : rl.length ≤ 1000000000000)
    (h : ∀ v' w', OwnN wr.heap.size w' v' (y :: rl) → Below wr.heap.size wr w' → wpList Tryz.prog ops Q rest (a.put o.dst v') w') :
    wpList Tryz.prog ops Q (o :: rest) a (wr.alloc (.cells #[.int .i64 y] 3)) := by
  obtain ⟨i, hi, hz0, hz1, hz2⟩ := info_parts Tryz.infoIntN
  have hown : (wr.alloc (.cells #[.int .i64 y] 3)).ownsRow wr.heap.size 3 1 (.slice (some ⟨wr.heap.size, 0, none⟩) 1 1) 1 [.int .i64 y] := by
    refine ⟨rfl, .inr ⟨wr.heap.size, 1, #[.int .i64 y], rfl, Nat.le_refl _, heap_alloc_new wr _, Nat.le_refl _, by simp [maxLen], rfl, rfl⟩⟩
  rcases hr.form with ⟨rfl, rfl⟩ | ⟨g, cap, rfl, hc, hm, hg, hcell⟩
  · refine wpList_append_own_none hgd s x 72 ho wr.heap.size 3 i 1 Tryz.sliceIntN hi _ 1 [.int .i64 y] hs hown hx ?_
    exact h _ _ hown (below_one _ _)
  · refine wpList_append_own _ hgd s x 72 ho wr.heap.size 3 i (.int .i64 0) 1 8 Tryz.sliceIntN hi hz0 hz1 hz2 rfl (by decide) _ 1 [.int .i64 y] hs hown ⟨g, 0, none⟩ rl.length cap (rl.map (Value.int .i64)) hx (by simp) ?_ ?_ ?_ ?_ ?_ ?_
    · intro j u hj
      have hj' : j < rl.length := by
        have := (List.getElem?_eq_some_iff.1 hj).1
        simpa using this
      have hc2 := hcell j hj'
      rw [getD_lt hj'] at hc2
      simp [List.getElem?_eq_getElem hj'] at hj
      subst hj
      have ha : (⟨g, 0, none⟩ : Addr).add j = ⟨g, j, none⟩ := by cases j <;> simp [Addr.add]
      rw [ha, World.cell?_alloc_past _ _ _ hg]
      exact hc2
    · intro u hu
      obtain ⟨z, _, rfl⟩ := List.mem_map.1 hu
      rfl
    · unfold maxLen; omega
    · omega
    · simp
    · intro v' w' h1 h2 _
      refine h v' w' ?_ (((Below.refl _ _).alloc (Nat.le_refl _) _).grown h2 (by simp) (fun k hk => by simp [Value.ownBlock] at hk; omega))
      unfold OwnN
      have e : 1 + rl.length = (y :: rl).length := by simp; omega
      rw [← e]
      simpa using h1

/-- Behind the digits from the k-th on. -/
def QInv (l m Q rl : List Int) (k : Nat) : Prop :=
  Dig 10 Q ∧ ev 10 (l.drop k) = ev 10 (Q.drop k) * ev 10 m + ev 10 rl ∧ ev 10 rl < ev 10 m ∧ ∀ j, j < k → Q.getD j 0 = 0
/-- At the j-th digit. -/
def QIn (l m Q rl : List Int) (j : Nat) : Prop :=
  Dig 10 Q ∧ ev 10 (l.drop j) = ev 10 (Q.drop j) * ev 10 m + ev 10 rl ∧ ev 10 rl + Q.getD j 0 * ev 10 m < 10 * ev 10 m ∧ ∀ i, i < j → Q.getD i 0 = 0

theorem ev_drop10 {l : List Int} {j : Nat} (hj : j < l.length) : ev 10 (l.drop j) = l.getD j 0 + 10 * ev 10 (l.drop (j + 1)) := by
  rw [List.drop_eq_getElem_cons hj, ← getD_lt hj]
  rfl

theorem QInv.into {l m Q rl rl' : List Int} {j : Nat} {x : Int} (h : QInv l m Q rl (j + 1)) (hj : j < l.length) (hQ : Q.length = l.length) (hx : l.getD j 0 = x) (hx9 : x < 10) (he : ev 10 rl' = ev 10 (x :: rl)) : QIn l m Q rl' j := by
  obtain ⟨h1, h2, h3, h4⟩ := h
  have e : ev 10 rl' = x + 10 * ev 10 rl := he
  have hz := h4 j (by omega)
  refine ⟨h1, ?_, ?_, fun i hi => h4 i (by omega)⟩
  · rw [ev_drop10 hj, ev_drop10 (l := Q) (by omega), hx, hz, h2, e, Int.zero_add, Int.mul_assoc]
    omega
  · rw [hz, e]
    omega

theorem QIn.step {l m Q rl rl' : List Int} {j : Nat} {c : Int} (h : QIn l m Q rl j) (hj : j < Q.length) (hc : Q.getD j 0 = c) (hge : ev 10 m ≤ ev 10 rl) (hm : 0 < ev 10 m) (he : ev 10 rl' = ev 10 rl - ev 10 m) :
    QIn l m (Q.set j (c + 1)) rl' j ∧ c + 1 < 10 := by
  obtain ⟨h1, h2, h3, h4⟩ := h
  have hd := Dig.getD (by omega) h1 j
  rw [hc] at h3 hd
  have hg : (Q.set j (c + 1)).getD j 0 = c + 1 := by simp [List.getD, hj]
  have hmul : (c + 1) * ev 10 m = c * ev 10 m + ev 10 m := by rw [Int.add_mul]; omega
  have hc9 : c + 1 < 10 := by
    rcases Int.lt_or_le (c + 1) 10 with h | h
    · exact h
    · have := Int.mul_le_mul_of_nonneg_right h (Int.le_of_lt hm)
      omega
  refine ⟨⟨h1.set j (by omega) hc9, ?_, ?_, fun i hi => ?_⟩, hc9⟩
  · have hdr : (Q.set j (c + 1)).drop (j + 1) = Q.drop (j + 1) := by rw [List.drop_set_of_lt (by omega)]
    rw [h2, ev_drop10 (l := Q.set j (c + 1)) (by simpa using hj), ev_drop10 hj, hg, hdr, hc, he, Int.add_mul, Int.add_mul, hmul]
    omega
  · rw [hg, he, hmul]
    omega
  · rw [getD_set_ne _ (by omega)]
    exact h4 i hi

theorem QIn.out {l m Q rl : List Int} {j : Nat} (h : QIn l m Q rl j) (hlt : ev 10 rl < ev 10 m) : QInv l m Q rl j := ⟨h.1, h.2.1, hlt, h.2.2.2⟩

theorem quo_end {a m q r : Int} (h : a = q * m + r) (h0 : 0 ≤ r) (h1 : r < m) (ha : 0 ≤ a) (b1 b2 : Bool) : (sv b1 a).tdiv (sv b2 m) = sv (b1 != b2) q ∧ (sv b1 a).tmod (sv b2 m) = sv b1 r := by
  have hd : a.tdiv m = q ∧ a.tmod m = r := by
    have h2 := (Int.ediv_emod_unique (a := a) (b := m) (r := r) (q := q) (by omega)).2 ⟨by rw [h, Int.mul_comm q m]; omega, h0, h1⟩
    rw [Int.tdiv_eq_ediv_of_nonneg ha, Int.tmod_eq_emod_of_nonneg ha]
    exact h2
  cases b1 <;> cases b2 <;> simp [sv, Int.neg_tdiv, Int.tdiv_neg, Int.neg_tmod, Int.tmod_neg, hd.1, hd.2]

/-- A world behind four new boxes. -/
theorem four_newN {w W0 : World} {a b c d e f e' f' : Value} (h : (((w.alloc (.cells #[a, b] 74)).alloc (.cells #[c, d] 74)).alloc (.cells #[e, f] 74)).alloc (.cells #[e', f'] 74) = W0) :
    W0.heap.size = w.heap.size + 1 + 1 + 1 + 1 ∧ Below w.heap.size w W0 ∧ BxN W0 w.heap.size a b ∧ BxN W0 (w.heap.size + 1) c d ∧ BxN W0 (w.heap.size + 1 + 1) e f ∧ BxN W0 (w.heap.size + 1 + 1 + 1) e' f' := by
  obtain ⟨W1, hW1⟩ : ∃ W1, ((w.alloc (.cells #[a, b] 74)).alloc (.cells #[c, d] 74)).alloc (.cells #[e, f] 74) = W1 := ⟨_, rfl⟩
  have hsz : W1.heap.size = w.heap.size + 1 + 1 + 1 := by rw [← hW1]; simp
  obtain ⟨_, hb0, X0, X1, X2⟩ := three_newN hW1
  rw [hW1] at h
  subst h
  have X3 := BxN.alloc W1 e' f'
  rw [hsz] at X3
  exact ⟨by simp [hsz], hb0.alloc hb0.size _, X0.alloc_old _, X1.alloc_old _, X2.alloc_old _, X3⟩

theorem owns_below {w w' : World} {B s n : Nat} {e : TypeId} {v : Value} {xs : List Value} (h : w.ownsRow B e s v n xs) (hb : Below w.heap.size w w') : w'.ownsRow B e s v n xs := by
  refine ⟨h.1, ?_⟩
  rcases h.2 with h1 | ⟨g, cap, cur, hv, hb0, hg, r⟩
  · exact .inl h1
  · exact .inr ⟨g, cap, cur, hv, hb0, by rw [hb.block g (Array.getElem?_eq_some_iff.1 hg).1]; exact hg, r⟩

theorem BxN.other {w : World} {k j : Nat} {a b : Value} (h : BxN w k a b) (hne : k ≠ j) (u v : Value) : BxN ((w.setCell ⟨j, 0, none⟩ u).setCell ⟨j, 1, none⟩ v) k a b := by
  unfold BxN at h ⊢
  rw [Below.heap_setCell _ _ _ _ hne, Below.heap_setCell _ _ _ _ hne]
  exact h

/-- Two results are stored. -/
theorem two_stores {W : World} {k2 k3 : Nat} {a b c d : Value} (hne : k3 ≠ k2) (V2 : BxN W k2 a b) (V3 : BxN W k3 c d) {x5 x6 : Value} {s5 s6 : List Int} (h5 : RowN W x5 s5) (h6 : RowN W x6 s6) (p q r s : Value) :
    RowN ((((W.setCell ⟨k2, 0, none⟩ p).setCell ⟨k2, 1, none⟩ q).setCell ⟨k3, 0, none⟩ r).setCell ⟨k3, 1, none⟩ s) x5 s5 ∧ RowN ((((W.setCell ⟨k2, 0, none⟩ p).setCell ⟨k2, 1, none⟩ q).setCell ⟨k3, 0, none⟩ r).setCell ⟨k3, 1, none⟩ s) x6 s6 :=
  ⟨(h5.set2 V2 p q).set2 (V3.other hne p q) r s, (h6.set2 V2 p q).set2 (V3.other hne p q) r s⟩

theorem Tryz.fieldD (b : Bool) (a : Option Addr) (n c : Nat) (W : World) : (Instr.field 74 (.agg #[.bool b, .slice a n c]) 1).run Tryz.prog W = .ok (.slice a n c) W := by kernel_rfl

/-- The digit at a place. -/
def qAt (g j : Nat) (w : World) : Nat := match w.cell? ⟨g, j, none⟩ with
  | some (.int _ x) => x.toNat
  | _ => 0
theorem qAt_of {g j : Nat} {w : World} {x : Int} (h : w.cell? ⟨g, j, none⟩ = some (.int .i64 x)) : qAt g j w = x.toNat := by unfold qAt; rw [h]

theorem short_of {l m : List Int} (dl : Dig 10 l) (tl : Trim l) (dm : Dig 10 m) (h : ev 10 l < ev 10 m) : l.length ≤ m.length := by
  rcases Nat.lt_or_ge m.length l.length with h1 | h1
  · have := ev_lt_of_length (by omega) dm dl tl h1; omega
  · exact h1

set_option maxRecDepth 100000 in
set_option maxHeartbeats 40000000 in
theorem quoN_any (u v : Value) (z1 z2 : Int) (w : World) (hu : IsN w u z1) (hv : IsN w v z2) (f1 : FitN z1) (f2 : FitN z2) (hz2 : z2 ≠ 0) :
    Calls Tryz.prog 107 #[u, v] w fun e w' => ∃ q r, e = .returned (.tuple #[q, r]) ∧ IsN w' q (z1.tdiv z2) ∧ IsN w' r (z1.tmod z2) ∧ Below w.heap.size w w' := by
  obtain ⟨b1, x, l, rfl, hx, h1⟩ := hu
  obtain ⟨b2, y, m, rfl, hy, h2⟩ := hv
  have hl := h1.fit f1
  have hm := h2.fit f2
  obtain ⟨ua, uc, rfl⟩ := hx.val
  obtain ⟨va, vc, rfl⟩ := hy.val
  have dl := h1.dig
  have dm := h2.dig
  have tm := h2.trim
  have hmne : m ≠ [] := by
    intro e
    subst e
    apply hz2
    rw [h2.val]
    cases b2 <;> simp [sv, ev]
  have hmp := ev_neN dm tm hmne
  have hend := fun (q r : Int) (h : ev 10 l = q * ev 10 m + r) (h0 : 0 ≤ r) (h1' : r < ev 10 m) => quo_end h h0 h1' h1.nonneg b1 b2
  rw [← h1.val, ← h2.val] at hend
  have HEND : Hid _ := hend
  clear hend
  have hfd := Tryz.fieldD
  go_enter Tryz.func107, Tryz.ntmps107
  go_wp2_with (at_make; refine wpList_makeN rfl (.tmp 11) (.tmp 11) rfl _ _ l.length rfl rfl (by omega) (by omega) (by omega) ?_)
  generalize hW : (((w.alloc (Obj.cells #[Value.bool b1, Value.slice ua l.length uc] 74)).alloc (Obj.cells #[Value.bool b2, Value.slice va m.length vc] 74)).alloc (Obj.cells #[Value.bool false, Value.slice none 0 0] 74)).alloc (Obj.cells #[Value.bool false, Value.slice none 0 0] 74) = W0
  obtain ⟨hsz, hb0, X0, X1, X2, X3⟩ := four_newN hW
  clear hW
  have hx0 := hx.below hb0
  have hy0 := hy.below hb0
  intro w1 hown0 hb1
  have hown : w1.ownsRow (w.heap.size + 1 + 1 + 1 + 1) 3 1 (.slice (some ⟨w.heap.size + 1 + 1 + 1 + 1, 0, none⟩) l.length l.length) l.length ((List.replicate l.length 0).map (Value.int .i64)) := by simpa using hown0
  clear hown0
  have hbox : ∀ W, Below (w.heap.size + 1 + 1 + 1 + 1) W0 W → Below W0.heap.size W0 W := fun W h => by rw [hsz]; exact h
  have hc01 : w1.cell? ⟨w.heap.size, 1, none⟩ = some (.slice ua l.length uc) := (X0.below (hbox _ hb1)).c1
  go_wp2_with fail
  go_loopw [6, 8] (fun r i wq => ∃ (k : Nat) (rl Q : List Int), k ≤ l.length ∧ i = .int .i64 ((k : Int) - 1) ∧ OwnN (w.heap.size + 1 + 1 + 1 + 1 + 1) wq r rl ∧ Dig 10 rl ∧ Trim rl ∧ Q.length = l.length ∧ wq.ownsRow (w.heap.size + 1 + 1 + 1 + 1) 3 1 (.slice (some ⟨w.heap.size + 1 + 1 + 1 + 1, 0, none⟩) l.length l.length) l.length (Q.map (Value.int .i64)) ∧ Hid (QInv l m Q rl k) ∧ Below (w.heap.size + 1 + 1 + 1 + 1) W0 wq) (fun _ i _ => (intOf i + 1).toNat)
  case atStart =>
    refine ⟨l.length, [], List.replicate l.length 0, Nat.le_refl _, rfl, OwnN.nil0 _ _, Dig.nil _, (fun x h => by simp at h), by simp, hown, ⟨Dig.zeros (by omega) _, ?_, by simpa [ev] using hmp, fun j _ => getD_zeros _ _⟩, hb1⟩
    rw [List.drop_of_length_le (Nat.le_refl _), List.drop_of_length_le (by simp)]
    simp [ev]
  case round =>
    clear hown hb1 hc01
    obtain ⟨k, rl, Q, hk, rfl, hrest, drl, trl, hQl, hown, HQ, hbel⟩ := hrel
    have hB := hbox _ hbel
    cases k with
    | zero =>
      have hqv := HQ.out
      unfold QInv at hqv
      rw [List.drop_zero, List.drop_zero] at hqv
      obtain ⟨dQ, hqe, hqlt, _⟩ := hqv
      have hen := HEND.out _ _ hqe (ev_nonneg (by omega) drl) hqlt
      have HEN : Hid _ := hen
      have hrll : rl.length ≤ m.length := short_of drl trl dm hqlt
      obtain ⟨ra, rc, rfl⟩ := hrest.row.val
      have hr0 := hrest.row
      have hq0 : RowN wr (.slice (some ⟨w.heap.size + 1 + 1 + 1 + 1, 0, none⟩) l.length l.length) Q := OwnN.row (B := w.heap.size + 1 + 1 + 1 + 1) (by unfold OwnN; rw [hQl]; exact hown)
      have hT1 := fun (W : World) (g : RowN W (.slice (some ⟨w.heap.size + 1 + 1 + 1 + 1, 0, none⟩) l.length l.length) Q) => tidyN_any (b1 != b2) Q _ W g (by omega) dQ
      have hT2 := fun (W : World) (g : RowN W (.slice ra rl.length rc) rl) => tidyN_any b1 rl _ W g (by omega) drl
      have HT1 : Hid _ := hT1
      have HT2 : Hid _ := hT2
      have Y0 := X0.below hB; have Y1 := X1.below hB; have Y2 := X2.below hB; have Y3 := X3.below hB
      have c0 := Y0.c0; have c1 := Y1.c0
      have hbw : Below w.heap.size w wr := hb0.trans (hbel.mono (by omega))
      have hszw : w.heap.size + 1 + 1 + 1 < wr.heap.size := by have := hbel.size; omega
      clear hen hqe hqlt HQ HEND hT1 hT2 hown hrest hx hy hx0 hy0 hbel hB
      go_wp2_with fail
      go_region_held3 (fun w' => w'.cell? ⟨w.heap.size, 0, none⟩ = some (.bool b1) ∧ w'.cell? ⟨w.heap.size + 1, 0, none⟩ = some (.bool b2))
        (first | exact ⟨c0, c1⟩ | exact ⟨q0, q1⟩ | exact ⟨r0, r1⟩ | simp [go_sem, r0, r1])
        (first
          | (go_at_call_of 93 l; refine (HT1.out _ ?_).mono ?_; exact hq0; rintro e w5 ⟨s5, x5, rfl, hr5, hd5, ht5, hv5, hlen5, hb5'⟩; have hb5 := of_drew hb5'; clear hb5'; obtain ⟨a5, k5, rfl⟩ := hr5.val; have HV5 : Hid _ := hv5; clear hv5; have Z0 := Y0.below hb5; have Z1 := Y1.below hb5; have Z2 := Y2.below hb5; have Z3 := Y3.below hb5; have hr0' := hr0.below hb5; have q0 := Z0.c0; have q1 := Z1.c0)
          | (go_at_call_of 93 rc; refine (HT2.out _ ?_).mono ?_; exact hr0'; rintro e w6 ⟨s6, x6, rfl, hr6, hd6, ht6, hv6, hlen6, hb6⟩; obtain ⟨a6, k6, rfl⟩ := hr6.val; have HV6 : Hid _ := hv6; clear hv6; have V0 := Z0.below hb6; have V1 := Z1.below hb6; have V2 := Z2.below hb6; have V3 := Z3.below hb6; have r0 := V0.c0; have r1 := V1.c0; have r2 := V2.c0; have r3 := V2.c1; have r4 := V3.c0; have r5 := V3.c1; have g2 := V2.f0; have g3 := V2.f1; have g4 := V3.f0; have g5 := V3.f1))
      all_goals go_wp2
      have hrow := two_stores (by omega) V2 V3 (hr5.below hb6) hr6 (.bool ((b1 != b2) && !s5.isEmpty)) (.slice a5 s5.length k5) (.bool (b1 && !s6.isEmpty)) (.slice a6 s6.length k6)
      refine bodyPost_ret (v := .tuple #[.agg #[.bool ((b1 != b2) && !s5.isEmpty), .slice a5 s5.length k5], .agg #[.bool (b1 && !s6.isEmpty), .slice a6 s6.length k6]]) (by simp [results, Tryz.results107, go_sem, r2, r3, r4, r5]) rfl ⟨_, _, rfl, ⟨_, _, s5, rfl, hrow.1, ?_⟩, ⟨_, _, s6, rfl, hrow.2, ?_⟩, ?_⟩
      · have := LimN.signed (b := b1 != b2) hd5 ht5
        rw [HV5.out] at this
        rw [HEN.out.1]
        exact this
      · have := LimN.signed (b := b1) hd6 ht6
        rw [HV6.out] at this
        rw [HEN.out.2]
        exact this
      · have hb56 : Below w.heap.size w w6 := (hbw.trans (hb5.mono hbw.size)).trans (hb6.mono (by have := hbw.size; have := hb5.size; omega))
        exact below_set2 (below_set2 hb56 (by omega) _ _) (by omega) _ _
    | succ j =>
      rw [show (((j + 1 : Nat) : Int) - 1) = (j : Int) by omega]
      have hjl : j < l.length := by omega
      obtain ⟨ga, rfl, hu1, hu2, hu3, hcu⟩ := hx0.at j hjl
      obtain ⟨xd, HX⟩ : ∃ x, Hid (l.getD j 0 = x) := ⟨_, rfl⟩
      have hxd := Dig.getD (by omega) dl j
      rw [HX.out] at hcu hxd
      have hcu' : wr.cell? ⟨ga, j, none⟩ = some (.int .i64 xd) := (hB.cell (by exact hu3)).trans hcu
      have c01 : wr.cell? ⟨w.heap.size, 1, none⟩ = _ := (X0.below hB).c1
      have hrll : rl.length ≤ m.length := short_of drl trl dm HQ.out.2.2.1
      have hdc : Dig 10 (xd :: rl) := fun z hz => by
        rcases List.mem_cons.1 hz with h | h
        · rw [h]; exact hxd
        · exact drl z h
      have hin := fun (s : List Int) (he : ev 10 s = ev 10 (xd :: rl)) => QInv.into HQ.out hjl hQl HX.out hxd.2 he
      have HIN : Hid _ := hin
      clear hin hcu HQ HX
      obtain ⟨hxd0, hxd1⟩ := hxd
      obtain ⟨ra, rc, rfl⟩ := hrest.row.val
      go_wp2_with (at_builtin; refine wpList_consN rfl (.tmp 26) (.tmp 27) rfl xd _ rl rfl rfl hrest.row (by omega) ?_)
      intro v2 w2 hown2 hb2
      go_wp2_with fail
      refine (tidyN_own wr.heap.size false (xd :: rl) v2 w2 hown2 (by simp; omega) hdc).mono ?_
      rintro e w3 ⟨s, x3, rfl, ho3, hd3, ht3, hv3, hlen3, hb3⟩
      have hqi := HIN.out s hv3
      have HQI : Hid _ := hqi
      have hs3 : s.length ≤ m.length + 1 := by simp at hlen3; omega
      have hsw := hbel.size
      have hs2 := hb2.size
      rw [hsz] at hsw
      have hbw3 : Below (w.heap.size + 1 + 1 + 1 + 1) W0 w3 := (hbel.trans (hb2.mono hsw)).trans (hb3.mono (by omega))
      have hown3 := owns_below (owns_below hown hb2) hb3
      have hlt4 : w.heap.size + 1 + 1 + 1 + 1 < wr.heap.size := (World.ownsRow.lt hown _ rfl).2
      have ho3' : OwnN (w.heap.size + 1 + 1 + 1 + 1 + 1) w3 x3 s := ho3.mono (by omega)
      clear hqi HIN hv3 hlen3 hdc ho3 hcu' c01 hown2 hown hB hrest
      obtain ⟨xa3, xc3, rfl⟩ := ho3'.row.val
      go_wp2_with fail
      go_loopw [6] (fun r wi => ∃ (rl Q : List Int), OwnN (w.heap.size + 1 + 1 + 1 + 1 + 1) wi r rl ∧ Dig 10 rl ∧ Trim rl ∧ rl.length ≤ m.length + 1 ∧ Q.length = l.length ∧ wi.ownsRow (w.heap.size + 1 + 1 + 1 + 1) 3 1 (.slice (some ⟨w.heap.size + 1 + 1 + 1 + 1, 0, none⟩) l.length l.length) l.length (Q.map (Value.int .i64)) ∧ Hid (QIn l m Q rl j) ∧ Below (w.heap.size + 1 + 1 + 1 + 1) W0 wi) (fun _ wi => 10 - qAt (w.heap.size + 1 + 1 + 1 + 1) j wi)
      case atStart => exact ⟨s, Q, ho3', hd3, ht3, hs3, hQl, hown3, HQI, hbw3⟩
      case round =>
        clear ho3' hd3 ht3 hs3 hQl hown3 HQI hbw3 hb3 hb2 hs2 hbel hlt4 hsw drl trl hrll
        obtain ⟨rl, Q, hrest, drl, trl, hrll, hQl, hown, HQ, hbel⟩ := hrel
        have hB := hbox _ hbel
        have X1' := X1.below hB
        have c11 := X1'.c1
        have hy1 := hy0.below hB
        obtain ⟨ra, rc, rfl⟩ := hrest.row.val
        have hsize := sizeN_any rl m _ _ wr hrest.row hy1 (by omega) drl dm trl tm
        by_cases hge : ev 10 m ≤ ev 10 rl
        · have hcmp : 0 ≤ cmp3 (ev 10 rl) (ev 10 m) := by unfold cmp3; rw [if_neg (by omega)]; split <;> omega
          have hml : m.length ≤ rl.length := by
            rcases Nat.lt_or_ge rl.length m.length with h | h
            · have := ev_lt_of_length (by omega) drl dm tm h; omega
            · exact h
          obtain ⟨c, HC⟩ : ∃ c, Hid (Q.getD j 0 = c) := ⟨_, rfl⟩
          have hst := fun (t : List Int) (he : ev 10 t = ev 10 rl - ev 10 m) => QIn.step HQ.out (by omega) HC.out hge hmp he
          have hcd := Dig.getD (by omega) HQ.out.1 j
          rw [HC.out] at hcd
          have HST : Hid _ := hst
          have hless := fun (W : World) (g1 : RowN W (.slice ra rl.length rc) rl) (g2 : RowN W (.slice va m.length vc) m) => lessN_own rl m _ _ W g1 g2 (by omega) hml drl dm hge
          have HLESS : Hid _ := hless
          have hcell : ∀ W : World, W.ownsRow (w.heap.size + 1 + 1 + 1 + 1) 3 1 (.slice (some ⟨w.heap.size + 1 + 1 + 1 + 1, 0, none⟩) l.length l.length) l.length (Q.map (Value.int .i64)) → W.cell? ⟨w.heap.size + 1 + 1 + 1 + 1, j, none⟩ = some (.int .i64 c) := fun W h => by
            rw [h.cellAt j (by omega), ← HC.out]
            simp [List.getD, show j < Q.length by omega]
          have hq0 := qAt_of (hcell _ hown)
          have HCELL : Hid _ := hcell
          clear hst hless hcell HQ HC hge
          generalize cmp3 (ev 10 rl) (ev 10 m) = cm at *
          go_wp2_with fail
          refine hsize.mono ?_
          rintro e w4 ⟨rfl, nd, rfl⟩
          go_wp2_with fail
          refine (HLESS.out _ (by exact hrest.row) (by exact hy1)).mono ?_
          rintro e w5 ⟨t5, x5, rfl, ho5, hd5, hv5, hlen5, hb5'⟩
          have hb5 := of_drewN hb5'
          clear hb5'
          obtain ⟨a5, c5, rfl⟩ := ho5.row.val
          have HV5 : Hid _ := hv5
          clear hv5
          go_wp2_with fail
          refine (tidyN_own wr.heap.size false t5 _ w5 ho5 (by omega) hd5).mono ?_
          rintro e w6 ⟨t6, x6, rfl, ho6, hd6, ht6, hv6, hlen6, hb6⟩
          obtain ⟨a6, c6, rfl⟩ := ho6.row.val
          have hs := HST.out t6 (hv6.trans HV5.out)
          have HS : Hid _ := hs.1
          have hc9 := hs.2
          have hown6 := owns_below (owns_below hown hb5) hb6
          have hlt4 : w.heap.size + 1 + 1 + 1 + 1 < wr.heap.size := (World.ownsRow.lt hown _ rfl).2
          have hcl6 := HCELL.out _ hown6
          have hfr6 := hown6.frozenAt j
          have hbw6 : Below (w.heap.size + 1 + 1 + 1 + 1) W0 w6 := (hbel.trans (hb5.mono (by omega))).trans (hb6.mono (by have := hb5.size; omega))
          have ho6' : OwnN (w.heap.size + 1 + 1 + 1 + 1 + 1) w6 (.slice a6 t6.length c6) t6 := ho6.mono (by omega)
          have hnew := (World.ownsRow.stored hown6 j (.int .i64 (c + 1))).1
          rw [map_set] at hnew
          have hq1 : qAt (w.heap.size + 1 + 1 + 1 + 1) j (w6.setCell ⟨w.heap.size + 1 + 1 + 1 + 1, j, none⟩ (.int .i64 (c + 1))) = (c + 1).toNat := qAt_of (by
            rw [hnew.cellAt j (by omega)]
            simp [show j < Q.length by omega])
          have HN : Hid _ := hnew
          obtain ⟨hcd0, hcd1⟩ := hcd
          clear hs hnew HST HCELL hown6 hown HLESS hv6 HV5 ho5 ho6 hb5 hb6 hsize X1' c11 hy1 hbel hB
          go_wp2
          go_roundw
          case rel => exact ⟨t6, Q.set j (c + 1), ownsRow_setCell_below ho6' (by simp) _, hd6, ht6, by omega, by simpa using hQl, HN.out, HS, hbw6.setCell (Nat.le_refl _) _⟩
          case measure => omega
        · have hcmp : cmp3 (ev 10 rl) (ev 10 m) < 0 := by rw [cmp3_lt (by omega)]; omega
          have hQO := QIn.out HQ.out (by omega)
          have HQO : Hid _ := hQO
          clear hQO HQ hge
          generalize cmp3 (ev 10 rl) (ev 10 m) = cm at *
          go_wp2_with fail
          refine hsize.mono ?_
          rintro e w4 ⟨rfl, nd, rfl⟩
          go_wp2
          go_roundw
          case rel => exact ⟨j, rl, Q, by omega, by go_num, hrest, drl, trl, hQl, hown, HQO, below_drewN hbel nd⟩
          case measure => simp [intOf]

end Go.Proofs.YtldcjkhbiffdoaaGreatDoor
