import Derived.Test.YtkomofjdbcjdnaaGreatDoorM04
import Derived.Test.YtkomofjdbcjdnaaGreatDoorM13
import Derived.Test.YtkomofjdbcjdnaaGreatDoorM05

/-
  factornum.Of, Read.
-/
namespace Go.Proofs.YtkomofjdbcjdnaaGreatDoor
open Go.RowKit

theorem of_step {sl : List Int} {q N : Nat} (h : Dig 10 sl ∧ ev 10 sl + (q : Int) * 10 ^ sl.length = (N : Int) ∧ (q = 0 → Trim sl)) (hq : 0 < q) :
    Dig 10 (sl ++ [(q : Int) % 10]) ∧ ev 10 (sl ++ [(q : Int) % 10]) + ((q / 10 : Nat) : Int) * 10 ^ (sl ++ [(q : Int) % 10]).length = (N : Int) ∧ (q / 10 = 0 → Trim (sl ++ [(q : Int) % 10])) := by
  obtain ⟨h1, h2, _⟩ := h
  refine ⟨h1.snoc (by omega) (by omega), ?_, fun h0 x hx => ?_⟩
  · rw [ev_snoc, ← h2, List.length_append, List.length_cons, List.length_nil, Int.pow_succ]
    have e : (q : Int) = (q : Int) % 10 + 10 * ((q / 10 : Nat) : Int) := by omega
    have e2 : (q : Int) * 10 ^ sl.length = (q : Int) % 10 * 10 ^ sl.length + 10 * ((q / 10 : Nat) : Int) * 10 ^ sl.length := by rw [← Int.add_mul, ← e]
    generalize ((q / 10 : Nat) : Int) = d at *
    rw [e2, Int.mul_comm (10 ^ sl.length) 10, ← Int.mul_assoc, Int.mul_comm d 10]
    omega
  · rw [List.getLast?_append] at hx
    simp at hx
    omega

theorem of_end {sl : List Int} {N : Nat} {n : Int} (hN : n.natAbs = N) (h : Dig 10 sl ∧ ev 10 sl + ((0 : Nat) : Int) * 10 ^ sl.length = (N : Int) ∧ ((0 : Nat) = 0 → Trim sl)) : LimN (decide (n < 0)) sl n := by
  obtain ⟨h1, h2, h3⟩ := h
  simp at h2
  refine ⟨h1, h3 rfl, fun h e => ?_, ?_⟩
  · subst e
    simp [ev] at h2
    simp at h
    omega
  · unfold sv
    rw [h2]
    by_cases hn : n < 0
    · simp [hn]; omega
    · simp [hn]; omega

set_option maxHeartbeats 1000000 in
theorem ofN_any (n : Int) (w : World) (hn : n.natAbs ≤ 100000000000) :
    Calls Tryz.prog 51 #[.int .i64 n] w fun e w' => ∃ v, e = .returned v ∧ IsN w' v n ∧ Below w.heap.size w w' := by
  obtain ⟨N, hN⟩ : ∃ N, n.natAbs = N := ⟨_, rfl⟩
  rw [hN] at hn
  by_cases hneg : n < 0
  · obtain rfl : n = -(N : Int) := by omega
    have hN0 : 0 < N := by omega
    clear hN
    go_enter Tryz.func51, Tryz.ntmps51
    go_wp2_with fail
    generalize hW : w.alloc (Obj.cells #[Value.bool false, Value.slice none 0 0] 74) = W0
    obtain ⟨hb0, X0⟩ := one_newN hW
    clear hW
    go_loopw [3, 4] (fun m d wr => ∃ (q : Nat) (sl : List Int), m = .int .i64 q ∧ OwnN W0.heap.size wr d sl ∧ sl.length + q ≤ N ∧ Hid (Dig 10 sl ∧ ev 10 sl + (q : Int) * 10 ^ sl.length = (N : Int) ∧ (q = 0 → Trim sl)) ∧ Below W0.heap.size W0 wr) (fun m _ _ => (intOf m).toNat)
    case atStart => exact ⟨N, [], rfl, OwnN.nil0 _ _, by simp, ⟨Dig.nil _, by simp [ev], fun _ x h => by simp at h⟩, Below.refl _ _⟩
    case round =>
      obtain ⟨q, sl, rfl, hown, hlen, HI, hbel⟩ := hrel
      by_cases hq : 0 < q
      · have hs := of_step HI.out hq
        have hd : q / 10 < q := by omega
        have HS : Hid _ := hs
        clear hs HI
        go_wp2_with (at_builtin; refine wpList_pushN rfl (.tmp 12) (.tmp 15) rfl W0.heap.size _ sl _ rfl hown rfl (by omega) hbel.size ?_)
        intro v' w1 hown1 hb1 _
        go_wp2
        go_roundw
        case rel => exact ⟨q / 10, _, by go_num, hown1, by simp; omega, HS, hbel.trans hb1⟩
        case measure => simp [intOf]; omega
      · obtain rfl : q = 0 := by omega
        have X0' := X0.below hbel
        have r3 := X0'.c0; have r4 := X0'.c1; have g3 := X0'.f0; have g4 := X0'.f1
        have hL := of_end (n := -(N : Int)) (N := N) (by omega) HI.out
        rw [decide_eq_true (show -(N : Int) < 0 by omega)] at hL
        have HL : Hid _ := hL
        clear hL HI
        obtain ⟨sa, sc, rfl⟩ := hown.row.val
        go_wp2
        refine bodyPost_ret (v := .agg #[.bool true, .slice sa sl.length sc]) (by simp [results, Tryz.results51, go_sem, r3, r4]) rfl ⟨_, rfl, ⟨_, _, sl, rfl, hown.row.set2 X0' _ _, HL.out⟩, below_set2 (hb0.trans (hbel.mono hb0.size)) (by omega) _ _⟩
  · obtain rfl : n = (N : Int) := by omega
    clear hN
    go_enter Tryz.func51, Tryz.ntmps51
    go_wp2_with fail
    generalize hW : w.alloc (Obj.cells #[Value.bool false, Value.slice none 0 0] 74) = W0
    obtain ⟨hb0, X0⟩ := one_newN hW
    clear hW
    go_loopw [3, 4] (fun m d wr => ∃ (q : Nat) (sl : List Int), m = .int .i64 q ∧ OwnN W0.heap.size wr d sl ∧ sl.length + q ≤ N ∧ Hid (Dig 10 sl ∧ ev 10 sl + (q : Int) * 10 ^ sl.length = (N : Int) ∧ (q = 0 → Trim sl)) ∧ Below W0.heap.size W0 wr) (fun m _ _ => (intOf m).toNat)
    case atStart => exact ⟨N, [], rfl, OwnN.nil0 _ _, by simp, ⟨Dig.nil _, by simp [ev], fun _ x h => by simp at h⟩, Below.refl _ _⟩
    case round =>
      obtain ⟨q, sl, rfl, hown, hlen, HI, hbel⟩ := hrel
      by_cases hq : 0 < q
      · have hs := of_step HI.out hq
        have hd : q / 10 < q := by omega
        have HS : Hid _ := hs
        clear hs HI
        go_wp2_with (at_builtin; refine wpList_pushN rfl (.tmp 12) (.tmp 15) rfl W0.heap.size _ sl _ rfl hown rfl (by omega) hbel.size ?_)
        intro v' w1 hown1 hb1 _
        go_wp2
        go_roundw
        case rel => exact ⟨q / 10, _, by go_num, hown1, by simp; omega, HS, hbel.trans hb1⟩
        case measure => simp [intOf]; omega
      · obtain rfl : q = 0 := by omega
        have X0' := X0.below hbel
        have r3 := X0'.c0; have r4 := X0'.c1; have g3 := X0'.f0; have g4 := X0'.f1
        have hL := of_end (n := (N : Int)) (N := N) (by omega) HI.out
        rw [decide_eq_false (show ¬ ((N : Int) < 0) by omega)] at hL
        have HL : Hid _ := hL
        clear hL HI
        obtain ⟨sa, sc, rfl⟩ := hown.row.val
        go_wp2
        refine bodyPost_ret (v := .agg #[.bool false, .slice sa sl.length sc]) (by simp [results, Tryz.results51, go_sem, r3, r4]) rfl ⟨_, rfl, ⟨_, _, sl, rfl, hown.row.set2 X0' _ _, HL.out⟩, below_set2 (hb0.trans (hbel.mono hb0.size)) (by omega) _ _⟩

/-- The number of a digit. -/
def dv (c : UInt8) : Int := (c.toNat : Int) - 48

theorem numOf_cons (n : Nat) (c : UInt8) (L : List UInt8) {q : Nat} (h : 10 * n + (c.toNat - 48) = q) : numOf n (c :: L) = numOf q L := by
  subst h
  rfl

theorem isDig_ge {c : UInt8} (hc : isDig c = true) : 48 ≤ c.toNat := by
  unfold isDig at hc
  rw [Bool.and_eq_true, decide_eq_true_iff, decide_eq_true_iff, UInt8.le_iff_toNat_le, UInt8.le_iff_toNat_le] at hc
  exact hc.1

theorem ev_more (n q x e : Int) (k : Nat) (h : q = 10 * n + x) : q * 10 ^ k + e = n * 10 ^ (k + 1) + (e + x * 10 ^ k) := by
  rw [h, Int.add_mul, Int.pow_succ, Int.mul_comm (10 ^ k) 10, ← Int.mul_assoc, Int.mul_comm n 10]
  omega

theorem numOf_ev (L : List UInt8) : (∀ c, c ∈ L → isDig c = true) → ∀ n : Nat, ((numOf n L : Nat) : Int) = (n : Int) * 10 ^ L.length + ev 10 (L.reverse.map dv) := by
  induction L with
  | nil => intro _ n; unfold numOf; simp [ev]
  | cons c L ih =>
    intro h n
    have h48 := isDig_ge (h c (List.mem_cons_self ..))
    obtain ⟨q, hm⟩ : ∃ q, 10 * n + (c.toNat - 48) = q := ⟨_, rfl⟩
    have e : (q : Int) = 10 * (n : Int) + dv c := by unfold dv; omega
    have ihn := ih (fun x hx => h x (List.mem_cons_of_mem _ hx)) q
    have hr : ev 10 ((c :: L).reverse.map dv) = ev 10 (L.reverse.map dv) + dv c * 10 ^ L.length := by
      rw [List.reverse_cons, List.map_append, List.map_cons, List.map_nil, ev_snoc, List.length_map, List.length_reverse]
    rw [numOf_cons n c L hm, ihn, hr, List.length_cons]
    exact ev_more (n : Int) (q : Int) (dv c) _ L.length e

theorem dv_dig {c : UInt8} (h : isDig c = true) : 0 ≤ dv c ∧ dv c < 10 := by
  unfold isDig at h
  rw [Bool.and_eq_true, decide_eq_true_iff, decide_eq_true_iff, UInt8.le_iff_toNat_le, UInt8.le_iff_toNat_le] at h
  have h1 : 48 ≤ c.toNat := h.1
  have h2 : c.toNat ≤ 57 := h.2
  unfold dv
  omega

theorem dv_all {L : List UInt8} (h : ∀ c, c ∈ L → isDig c = true) : Dig 10 (L.map dv) := by
  intro x hx
  obtain ⟨c, hc, rfl⟩ := List.mem_map.1 hx
  exact dv_dig (h c hc)

set_option maxHeartbeats 1000000 in
theorem readN_any (s : ByteArray) (w : World) (hs : s.size ≤ 1000) (hd : ∀ c, c ∈ s.data.toList → isDig c = true) :
    Calls Tryz.prog 53 #[.string s] w fun e w' => ∃ v, e = .returned v ∧ IsN w' v (numOf 0 s.data.toList : Int) ∧ Below w.heap.size w w' := by
  have hne := numOf_ev s.data.toList hd 0
  have hll : s.data.toList.length = s.size := by rw [Array.length_toList]; rfl
  simp only [Int.natCast_zero, Int.zero_mul, Int.zero_add] at hne
  have HNE : Hid _ := hne
  clear hne
  go_enter Tryz.func53, Tryz.ntmps53
  go_wp2_with fail
  generalize hW : w.alloc (Obj.cells #[Value.bool false, Value.slice none 0 0] 74) = W0
  obtain ⟨hb0, X0⟩ := one_newN hW
  clear hW
  go_loopw [3, 4] (fun d i wr => ∃ (k : Nat), k ≤ s.size ∧ i = .int .i64 ((k : Int) - 1) ∧ OwnN W0.heap.size wr d ((s.data.toList.drop k).reverse.map dv) ∧ Below W0.heap.size W0 wr) (fun _ i _ => (intOf i + 1).toNat)
  case atStart => exact ⟨s.size, Nat.le_refl _, rfl, by rw [List.drop_of_length_le (by omega)]; exact OwnN.nil0 _ _, Below.refl _ _⟩
  case round =>
    obtain ⟨k, hk, rfl, hown, hbel⟩ := hrel
    cases k with
    | zero =>
      have X0' := X0.below hbel
      rw [List.drop_zero] at hown
      have hD : Dig 10 (s.data.toList.reverse.map dv) := dv_all (fun c hc => hd c (List.mem_reverse.1 hc))
      have hlen : (s.data.toList.reverse.map dv).length ≤ 1000 := by simp; omega
      have HNE2 := HNE.out
      obtain ⟨L, HL⟩ : ∃ L, Hid (s.data.toList.reverse.map dv = L) := ⟨_, rfl⟩
      rw [HL.out] at hD hlen hown HNE2
      have HNE3 : Hid _ := HNE2
      clear HNE HNE2 HL
      obtain ⟨sa, sc, rfl⟩ := hown.row.val
      go_wp2_with fail
      refine (tidyN_any false L _ wr hown.row (by omega) hD).mono ?_
      rintro e w2 ⟨t, x2, rfl, hr2, hd2, ht2, hv2, hlen2, hb2⟩
      have HV2 : Hid _ := hv2
      clear hv2
      obtain ⟨xa, xc, rfl⟩ := hr2.val
      have X1' := X0'.below hb2
      have r3 := X1'.c0; have r4 := X1'.c1; have g3 := X1'.f0; have g4 := X1'.f1
      go_wp2
      refine bodyPost_ret (v := .agg #[.bool (false && !t.isEmpty), .slice xa t.length xc]) (by simp [results, Tryz.results53, go_sem, r3, r4]) rfl ⟨_, rfl, ⟨_, _, t, rfl, hr2.set2 X1' _ _, ?_⟩, below_set2 ((hb0.trans (hbel.mono hb0.size)).trans (hb2.mono (by have := hbel.size; have := hb0.size; omega))) (by omega) _ _⟩
      have := LimN.signed (b := false) hd2 ht2
      rw [HV2.out, ← HNE3.out] at this
      exact this
    | succ j =>
      rw [show (((j + 1 : Nat) : Int) - 1) = (j : Int) by omega]
      have hjs : j < s.size := by omega
      have hdr : (s.data.toList.drop j).reverse.map dv = (s.data.toList.drop (j + 1)).reverse.map dv ++ [(s[j].toNat : Int) - 48] := by
        rw [drop_at (byte_at hjs), List.reverse_cons, List.map_append]
        rfl
      have hdg := dv_dig (hd s[j] (List.mem_of_getElem? (byte_at hjs)))
      unfold dv at hdg
      have hlen : ((s.data.toList.drop (j + 1)).reverse.map dv).length ≤ 1000 := by simp; omega
      have HDR : Hid _ := hdr
      clear hdr
      obtain ⟨L, HL⟩ : ∃ L, Hid ((s.data.toList.drop (j + 1)).reverse.map dv = L) := ⟨_, rfl⟩
      rw [HL.out] at hown hlen
      go_wp2_with (at_builtin; refine wpList_pushN rfl (.tmp 12) (.tmp 18) rfl W0.heap.size _ L _ rfl hown rfl (by omega) hbel.size ?_)
      intro v' w1 hown1 hb1 _
      rw [← HL.out, ← HDR.out] at hown1
      go_wp2
      go_roundw
      case rel => exact ⟨j, by omega, by go_num, hown1, hbel.trans hb1⟩
      case measure => simp [intOf]

end Go.Proofs.YtkomofjdbcjdnaaGreatDoor

/-
  poly.times.
-/
namespace Go.Proofs.YtkomofjdbcjdnaaGreatDoor
open Go.RowKit

/-- 'l = append(l, y)' as an operation. -/
theorem wp_pushI {o : Oper} {a : Act} {K : Act → World → Prop} {Q : Exit → Act → World → Prop} {wr : World} (s x : Operand)
    (ho : o.op = .call { callee := .builtin .append, args := #[s, x], argTypes := #[95, 95] })
    (B : Nat) (v : Value) (zs : List Int) (b : Bool) (y : Value) (z : Int) (hs : a.eval s = v) (hown : OwnL B wr v zs) (hz : IsI wr (.agg #[.bool b, y]) z) (hx : a.eval x = .slice (some ⟨wr.heap.size, 0, none⟩) 1 1)
    (hlen : zs.length ≤ 1000000000) (hB : B ≤ wr.heap.size)
    (h : ∀ v' w', OwnL B w' v' (zs ++ [z]) → Below B wr w' → K (a.put o.dst v') w') :
    o.wp Tryz.prog a (wr.alloc (.cells #[.bool b, y] 105)) K Q := by
  obtain ⟨i, hi, hz0, hz1, hz2⟩ := info_parts Tryz.infoInt
  have htyp := hown.typ
  have hblk := hown.block
  obtain ⟨cs, h1, h2, h3⟩ := hown
  have hy1 : y.oneCell' = true := by
    obtain ⟨b', x', l, e, hr, _⟩ := hz
    simp at e
    obtain ⟨_, rfl⟩ := e
    obtain ⟨xa, xc, rfl⟩ := hr.val
    rfl
  refine wp_append_own _ s x 95 ho B 105 i (.agg #[.bool false, .slice none 0 0]) 2 32 Tryz.sliceInt hi hz0 hz1 hz2 rfl (by decide) v zs.length (flat cs) hs (World.ownsRow.alloc h2 _) ⟨wr.heap.size, 0, none⟩ 1 1 [.bool b, y] hx rfl ?_ ?_ ?_ ?_ ?_ ?_
  · exact cell_two_new wr (.bool b) y 105
  · intro u hu
    simp at hu
    rcases hu with rfl | rfl
    · rfl
    · exact hy1
  · unfold maxLen; omega
  · omega
  · simp; omega
  · intro v' w' g1 g2 _
    have hg : wr.grownBy w' v.ownBlock := by
      have h0 := World.grownBy_alloc wr (.cells #[.bool b, y] 105) v.ownBlock
      exact ⟨g2.os.trans h0.os, g2.tape.trans h0.tape, g2.output.trans h0.output, Nat.le_trans h0.size g2.size, fun k hk hne => (g2.block k (by simp; omega) hne).trans (h0.block k hk hne)⟩
    refine h v' w' ⟨cs ++ [(b, y)], by simp [h1], ?_, ?_⟩ ((Below.refl _ _).grown hg hB hblk)
    · rw [flat_append]
      simpa [flat] using g1
    · intro j p hj
      by_cases hjl : j < cs.length
      · rw [List.getElem?_append_left hjl] at hj
        have hj2 : (zs ++ [z]).getD j 0 = zs.getD j 0 := by simp [List.getD, List.getElem?_append_left (show j < zs.length by omega)]
        rw [hj2]
        exact (h3 j p hj).kept hg htyp
      · rw [List.getElem?_append_right (by omega)] at hj
        have hj0 : j - cs.length = 0 := by
          rcases Nat.eq_zero_or_pos (j - cs.length) with h0 | h0
          · exact h0
          · rw [List.getElem?_eq_none (by simp; omega)] at hj; simp at hj
        rw [hj0] at hj
        simp at hj
        subst hj
        have hj2 : (zs ++ [z]).getD j 0 = z := by
          rw [show j = zs.length by omega]; simp [List.getD]
        rw [hj2]
        exact hz.kept hg htyp

/-- One operation alone may come next, by a law of its own. -/
theorem h_op {P : Program} {ops : Array Oper} {Q : Exit → Act → World → Prop} {S : World → Prop} {fuel : Nat} {listed : Array Bool} {a : Act} {w : World} (i : Nat) (d : Tmp) {o : Oper} (Post : Value → World → Prop) (ho : ops[i]? = some o) (hd : o.dst = some d) (hr : Region.ready .any ops listed = [i]) (hb : Region.wanted o (yielded ops a.tmps) = true)
    (hw : ∀ K : Act → World → Prop, (∀ v' w', Post v' w' → K (a.put o.dst v') w') → Oper.wp P o a w K Q)
    (h : ∀ v' w', Post v' w' → S w' ∧ wpAnyH P .any ops Q S fuel (listed.setIfInBounds i true) (a.put (some d) v') w') : wpAnyH P .any ops Q S (fuel + 1) listed a w :=
  wpAnyH_ready hr (by simp) (AllReadyH.cons ho (fun K' hK => by
    rw [if_pos hb]
    refine hw K' fun v' w' hp => ?_
    obtain ⟨h1, h2⟩ := h v' w' hp
    rw [hd]
    exact hK.out _ _ h1 fun _ => h2) AllReadyH.nil)

set_option maxRecDepth 100000 in
set_option maxHeartbeats 4000000 in
theorem times_any (zs : List Int) (z : Int) (e f n : Nat) (u v : Value) (w : World) (hu : IsL w u zs) (hv : IsI w v z) (hl : zs.length ≤ 1000) (hn : n ≤ 1000) (fx : Bd zs e) (fz : z.natAbs < 10 ^ f) (he : e ≤ 80000000) (hf : f ≤ 80000000) :
    Calls Tryz.prog 70 #[u, v, .int .i64 n] w fun en w' => ∃ x, en = .returned x ∧ OwnL w.heap.size w' x (List.replicate n 0 ++ zs.map fun x => x * z) ∧ Below w.heap.size w w' := by
  obtain ⟨ua, uc, rfl⟩ := OwnL.val hu
  obtain ⟨vb, va, vn, vc, rfl⟩ := hv.form
  have fzi : Fit z := fitW_of fz hf
  go_enter Tryz.func70, Tryz.ntmps70
  go_wp2_with fail
  generalize hW : w.alloc (Obj.cells #[Value.bool vb, Value.slice va vn vc] 105) = W0
  obtain ⟨hb0, X0⟩ := one_new hW
  have hs0 : W0.heap.size = w.heap.size + 1 := by rw [← hW]; simp
  clear hW
  go_loopw [7, 8] (fun l i wr => ∃ (k : Nat), k ≤ n ∧ i = .int .i64 k ∧ OwnL (w.heap.size + 1) wr l (List.replicate k 0) ∧ Below (w.heap.size + 1) W0 wr) (fun _ i _ => n - (intOf i).toNat)
  case atStart =>
    refine ⟨0, Nat.zero_le _, rfl, ?_, (Below.refl _ _).alloc (by omega) _⟩
    have := OwnL.lit (w := W0) rfl
    rw [hs0] at this
    exact this
  case round =>
    obtain ⟨k, hk, rfl, hown, hbel⟩ := hrel
    obtain ⟨L, HL⟩ : ∃ L, Hid (List.replicate k (0 : Int) = L) := ⟨_, rfl⟩
    have hll : (List.replicate k (0 : Int)).length ≤ 1000 := by simp; omega
    have hsu : List.replicate (k + 1) (0 : Int) = List.replicate k 0 ++ [0] := List.replicate_succ'
    have HSU : Hid _ := hsu
    clear hsu
    by_cases hlt : k < n
    · rw [HL.out] at hown hll
      go_wp2_with (at_builtin; refine wpList_pushI rfl (.tmp 16) (.tmp 18) rfl (w.heap.size + 1) _ L _ _ 0 rfl hown zeroInt rfl (by omega) (by have := hbel.size; omega) ?_)
      intro v6 w6 hown6 hb6 _
      rw [← HL.out, ← HSU.out] at hown6
      go_wp2
      go_roundw
      case rel => exact ⟨k + 1, by omega, by go_num, hown6, hbel.trans hb6⟩
      case measure => simp [intOf]; omega
    · obtain rfl : k = n := by omega
      clear HSU HL
      go_wp2_with fail
      go_loopw [7, 9] (fun l i wq => ∃ (j : Nat), j ≤ zs.length ∧ i = .int .i64 j ∧ OwnL (w.heap.size + 1) wq l (List.replicate k 0 ++ (zs.take j).map fun x => x * z) ∧ Below (w.heap.size + 1) W0 wq) (fun _ i _ => zs.length - (intOf i).toNat)
      case atStart => exact ⟨0, Nat.zero_le _, rfl, by simpa using hown, hbel⟩
      case round =>
        clear hown hbel hll L
        obtain ⟨j, hj, rfl, hown, hbel⟩ := hrel
        have hbq : Below w.heap.size w wr := hb0.trans (hbel.mono (by omega))
        have hlen : (List.replicate k (0 : Int) ++ (zs.take j).map fun x => x * z).length ≤ 3000 := by simp; omega
        by_cases hlt2 : j < zs.length
        · have hsu : (List.replicate k (0 : Int) ++ (zs.take (j + 1)).map fun x => x * z) = (List.replicate k 0 ++ (zs.take j).map fun x => x * z) ++ [zs.getD j 0 * z] := by
            rw [List.take_succ_eq_append_getElem hlt2, ← getD_lt hlt2]
            simp
          have HSU : Hid _ := hsu
          clear hsu
          obtain ⟨L, HL⟩ : ∃ L, Hid ((List.replicate k (0 : Int) ++ (zs.take j).map fun x => x * z) = L) := ⟨_, rfl⟩
          rw [HL.out] at hown hlen
          obtain ⟨oa, oc, rfl⟩ := OwnL.val hown
          obtain ⟨g, b, xa, xn, xc, rfl, hc1, hc2, hg0, _, hc0, hcx, hI0⟩ := OwnL.at hu j hlt2
          have fxi : Fit (zs.getD j 0) := fitW_of (fx j) he
          have hI := hI0.below hbq
          generalize zs.getD j 0 = x at *
          have hvq := hv.below hbq
          have hM := fun (W : World) (g1 : IsI W (.agg #[.bool b, .slice xa xn xc]) x) (g2 : IsI W (.agg #[.bool vb, .slice va vn vc]) z) => mul_any _ _ x z W g1 g2 fxi fzi
          have HM : Hid _ := hM
          clear hM
          have hSV : ∀ W, Below (w.heap.size + 1) W0 W → W.cell? ⟨g, j * 2, none⟩ = some (.bool b) ∧ W.cell? ⟨g, j * 2 + 1, none⟩ = some (.slice xa xn xc) ∧ W.cell? ⟨w.heap.size, 0, none⟩ = some (.bool vb) ∧ W.cell? ⟨w.heap.size, 1, none⟩ = some (.slice va vn vc) := fun W h => by
            have hw : Below w.heap.size w W := hb0.trans (h.mono (by omega))
            have Y0 : Bx W w.heap.size (.bool vb) (.slice va vn vc) := by unfold Bx; rw [h.block _ (by omega)]; exact X0
            exact ⟨(hw.cell (p := ⟨g, j * 2, none⟩) hg0).trans hc0, (hw.cell (p := ⟨g, j * 2 + 1, none⟩) hg0).trans hcx, Y0.c0, Y0.c1⟩
          have hbd : Below (w.heap.size + 1) W0 wr.drew := ⟨hbel.os, hbel.tape, hbel.output, hbel.size, hbel.block⟩
          have hbdw : Below wr.heap.size wr wr.drew := ⟨rfl, rfl, rfl, Nat.le_refl _, fun _ _ => rfl⟩
          have hji : (j : Int) < (zs.length : Int) := by omega
          have hji0 : (0 : Int) ≤ (j : Int) := by omega
          go_wp2_with fail
          refine wp_region_held_drew (S := fun W => W.cell? ⟨g, j * 2, none⟩ = some (.bool b) ∧ W.cell? ⟨g, j * 2 + 1, none⟩ = some (.slice xa xn xc) ∧ W.cell? ⟨w.heap.size, 0, none⟩ = some (.bool vb) ∧ W.cell? ⟨w.heap.size, 1, none⟩ = some (.slice va vn vc)) (by kernel_rfl) (hSV _ hbd) fun hS => ?_
          refine h_take 0 26 (.slice oa L.length oc) rfl rfl (by kernel_rfl) (by kernel_rfl) (by kernel_rfl) (fun _ _ _ h => h) rfl (fun _ _ => rfl) hS ?_
          simp only [Act.put, List.setIfInBounds_toArray, List.set_cons_succ, List.set_cons_zero]
          refine h_take 1 27 (.slice (some ⟨g, 0, none⟩) zs.length uc) rfl rfl (by kernel_rfl) (by kernel_rfl) (by kernel_rfl) (fun _ _ _ h => h) rfl (fun _ _ => rfl) hS ?_
          simp only [Act.put, List.setIfInBounds_toArray, List.set_cons_succ, List.set_cons_zero]
          refine h_take 2 28 (.int .i64 (j : Int)) rfl rfl (by kernel_rfl) (by kernel_rfl) (by kernel_rfl) (fun _ _ _ h => h) rfl (fun _ _ => rfl) hS ?_
          simp only [Act.put, List.setIfInBounds_toArray, List.set_cons_succ, List.set_cons_zero]
          refine h_take 3 29 (.pointer (some ⟨g, j * 2, none⟩)) rfl rfl (by kernel_rfl) (by kernel_rfl) (by kernel_rfl) (fun _ _ _ h => h) rfl (fun _ _ => by go_simp) hS ?_
          simp only [Act.put, List.setIfInBounds_toArray, List.set_cons_succ, List.set_cons_zero]
          refine h_take 4 30 (.agg #[.bool b, .slice xa xn xc]) rfl rfl (by kernel_rfl) (by kernel_rfl) (by kernel_rfl) (fun _ _ _ h => h) rfl (fun w' hw' => by obtain ⟨y0, y1, y2, y3⟩ := hw'; go_simp) hS ?_
          simp only [Act.put, List.setIfInBounds_toArray, List.set_cons_succ, List.set_cons_zero]
          refine h_take 5 31 (.agg #[.bool vb, .slice va vn vc]) rfl rfl (by kernel_rfl) (by kernel_rfl) (by kernel_rfl) (fun _ _ _ h => h) rfl (fun w' hw' => by obtain ⟨y0, y1, y2, y3⟩ := hw'; go_simp) hS ?_
          simp only [Act.put, List.setIfInBounds_toArray, List.set_cons_succ, List.set_cons_zero]
          refine h_call 6 32 111 #[.agg #[.bool b, .slice xa xn xc], .agg #[.bool vb, .slice va vn vc]] rfl rfl (by kernel_rfl) rfl (by go_simp) ?_
          refine (HM.out wr.drew (hI.below hbdw) (hvq.below hbdw)).mono ?_
          rintro en w5 ⟨x5, rfl, hI5, hb5⟩
          obtain ⟨b5, a5, n5, c5, rfl⟩ := hI5.form
          have hs5 : w.heap.size + 1 ≤ wr.drew.heap.size := by have := hbd.size; omega
          have hb5w : Below (w.heap.size + 1) W0 w5 := hbd.trans (hb5.mono hs5)
          have hown5 := OwnL.below (OwnL.below hown hbdw) hb5
          have hsz5 : w.heap.size + 1 ≤ w5.heap.size := Nat.le_trans hs5 hb5.size
          refine ⟨_, rfl, hSV _ hb5w, ?_⟩
          simp only [Act.put, List.setIfInBounds_toArray, List.set_cons_succ, List.set_cons_zero]
          refine h_val 7 33 (.slice (some ⟨w5.heap.size, 0, none⟩) 1 1) (w' := w5.alloc (.cells #[.bool b5, .slice a5 n5 c5] 105)) rfl rfl (by kernel_rfl) rfl (by go_simp) (hSV _ (hb5w.alloc (by omega) _)) ?_
          simp only [Act.put, List.setIfInBounds_toArray, List.set_cons_succ, List.set_cons_zero]
          refine h_op 8 34 (fun v' w' => OwnL (w.heap.size + 1) w' v' (L ++ [x * z]) ∧ Below (w.heap.size + 1) w5 w') rfl rfl (by kernel_rfl) rfl (fun K hK => wp_pushI (.tmp 26) (.tmp 33) rfl (w.heap.size + 1) _ L _ _ (x * z) rfl hown5 hI5 rfl (by omega) hsz5 fun v' w' g1 g2 => hK v' w' ⟨g1, g2⟩) ?_
          rintro v6 w6 ⟨hown6, hb6⟩
          have hb6w : Below (w.heap.size + 1) W0 w6 := hb5w.trans hb6
          rw [← HL.out, ← HSU.out] at hown6
          refine ⟨hSV _ hb6w, ?_⟩
          simp only [Act.put, List.setIfInBounds_toArray, List.set_cons_succ, List.set_cons_zero]
          refine h_val 9 7 v6 (w' := w6) rfl rfl (by kernel_rfl) rfl rfl (hSV _ hb6w) ?_
          simp only [Act.put, List.setIfInBounds_toArray, List.set_cons_succ, List.set_cons_zero]
          refine wpAnyH_done (by kernel_rfl) ?_ _
          go_wp2
          go_roundw
          case rel => exact ⟨j + 1, by omega, by go_num, hown6, hb6w⟩
          case measure => simp [intOf]; omega
        · obtain rfl : j = zs.length := by omega
          rw [List.take_length] at hown
          obtain ⟨oa, oc, hoe⟩ := OwnL.val hown
          subst hoe
          go_wp2
          go_ret
          exact ⟨_, rfl, hown.lower (by omega), hbq⟩

end Go.Proofs.YtkomofjdbcjdnaaGreatDoor

/-
  poly.restOf.
-/
namespace Go.Proofs.YtkomofjdbcjdnaaGreatDoor
open Go.RowKit

theorem map_mul_getD (zs : List Int) (z : Int) (k : Nat) : (zs.map fun x => x * z).getD k 0 = zs.getD k 0 * z := by
  rcases Nat.lt_or_ge k zs.length with h | h
  · simp [List.getD, List.getElem?_map, List.getElem?_eq_getElem h]
  · rw [getD_out (by simpa using h), getD_out h]; simp

/-- One level of the taking away, as the program makes it. -/
theorem rest1_same (R b : List Int) (n : Nat) :
    (tab (max (List.replicate 0 0 ++ R.map fun x => x * lead b).length (List.replicate n 0 ++ b.map fun x => x * R.getD (n + b.length - 1) 0).length) fun k => (List.replicate 0 0 ++ R.map fun x => x * lead b).getD k 0 - (List.replicate n 0 ++ b.map fun x => x * R.getD (n + b.length - 1) 0).getD k 0) = rest1 R b n := by
  have h1 : (List.replicate 0 0 ++ R.map fun x => x * lead b).length = R.length := by simp
  have h2 : (List.replicate n 0 ++ b.map fun x => x * R.getD (n + b.length - 1) 0).length = n + b.length := by simp
  unfold rest1
  rw [h1, h2]
  unfold tab
  refine List.map_congr_left fun k _ => ?_
  rw [getD_rep_app, getD_rep_app, map_mul_getD, map_mul_getD]
  simp only [Nat.not_lt_zero, if_false, Nat.sub_zero]
  by_cases h : k < n
  · rw [if_pos h, if_neg (by omega)]
  · rw [if_neg h, if_pos (by omega)]

theorem Bd.timesW {zs : List Int} {z : Int} {e f n : Nat} (h : Bd zs e) (hz : z.natAbs < 10 ^ f) : Bd (List.replicate n 0 ++ zs.map fun x => x * z) (e + f) := by
  intro k
  rw [getD_rep_app]
  split
  · exact Nat.pow_pos (by omega)
  · rw [map_mul_getD, Int.natAbs_mul, Nat.pow_add]
    exact Nat.mul_lt_mul'' (h _) hz

set_option maxRecDepth 100000 in
set_option maxHeartbeats 4000000 in
theorem restOf_any (A0 b : List Int) (e f : Nat) (u v : Value) (w : World) (hu : IsL w u A0) (hv : IsL w v b) (hl : A0.length ≤ 100) (hm : b.length ≤ 100) (fx : Bd A0 e) (fy : Bd b f) (he : e + (A0.length + 1 - b.length) * (f + 1) + f ≤ 70000000) (ta : Tr A0) (tb : Tr b) (hb0 : b ≠ []) (hp : prim A0 = A0) :
    Calls Tryz.prog 110 #[u, v] w fun en w' => ∃ x R, en = .returned x ∧ IsL w' x R ∧ R.length ≤ A0.length ∧ RO b A0 R 0 ∧ Bd R (e + (A0.length + 1 - b.length) * (f + 1)) ∧ Below w.heap.size w w' := by
  obtain ⟨ua, uc, rfl⟩ := OwnL.val hu
  obtain ⟨va, vc, rfl⟩ := OwnL.val hv
  have hbl := List.length_pos_iff.2 hb0
  obtain ⟨N, HN⟩ : ∃ N, Hid (A0.length + 1 - b.length = N) := ⟨_, rfl⟩
  have hstart := RO.start (b := b) ta hp
  rw [HN.out] at hstart he ⊢
  have hNl : N ≤ A0.length := by have := HN.out; omega
  have hNa : 0 < N → N + b.length = A0.length + 1 := by have := HN.out; omega
  have hNb : N = 0 → A0.length < b.length := by have := HN.out; omega
  have HST : Hid (RO b A0 A0 N ∧ Bd A0 (e + (N - N) * (f + 1))) := ⟨hstart, fx.mono (by omega)⟩
  obtain ⟨T, HT⟩ : ∃ T : World → Value → Prop, Hid (T = fun w' x => ∃ R, IsL w' x R ∧ R.length ≤ A0.length ∧ RO b A0 R 0 ∧ Bd R (e + N * (f + 1))) := ⟨_, rfl⟩
  have hgoal : (fun en w' => ∃ x R, en = Ending.returned x ∧ IsL w' x R ∧ R.length ≤ A0.length ∧ RO b A0 R 0 ∧ Bd R (e + N * (f + 1)) ∧ Below w.heap.size w w') = fun en w' => ∃ x, en = Ending.returned x ∧ T w' x ∧ Below w.heap.size w w' := by
    funext en w'
    rw [HT.out]
    apply propext
    constructor
    · rintro ⟨x, R, h1, h2, h3, h4, h5, h6⟩; exact ⟨x, h1, ⟨R, h2, h3, h4, h5⟩, h6⟩
    · rintro ⟨x, h1, ⟨R, h2, h3, h4, h5⟩, h6⟩; exact ⟨x, R, h1, h2, h3, h4, h5, h6⟩
  rw [hgoal]
  clear hgoal hstart
  have hN1 := numberAt_any b (.slice va b.length vc) (b.length - 1) w hv
  obtain ⟨m2, HM2⟩ : ∃ m, Hid (b.length - 1 = m) := ⟨_, rfl⟩
  have hm2 : (b.length : Int) - 1 = m2 := by have := HM2.out; omega
  have hlead : b.getD (b.length - 1) 0 = lead b := rfl
  rw [hlead, HM2.out] at hN1
  have flb : (lead b).natAbs < 10 ^ f := fy.lead
  clear hlead
  go_enter Tryz.func110, Tryz.ntmps110
  go_wp2_with fail
  refine hN1.mono ?_
  rintro en w1 ⟨x1, rfl, hI1, hb1⟩
  obtain ⟨b1, a1, n1, c1, rfl⟩ := hI1.form
  go_wp2_with fail
  generalize hW2 : w1.alloc (Obj.cells #[Value.bool b1, Value.slice a1 n1 c1] 105) = W2
  obtain ⟨hb2, X2⟩ := one_new hW2
  clear hW2
  have hbw2 := hb1.trans (hb2.mono hb1.size)
  have K2 : IsB W2 w1.heap.size (lead b) := ⟨_, _, X2, hI1.below hb2⟩
  have hkm := hb1.size
  clear X2 hI1 hb1 hb2 hN1
  generalize w1.heap.size = kb at *
  go_loopw [6, 7] (fun r i wr => ∃ (n : Nat) (R : List Int) (ii : Int), i = .int .i64 ii ∧ (0 < n → ii = (n : Int) - 1) ∧ (n = 0 → ii < 0) ∧ -1000 ≤ ii ∧ n ≤ N ∧ IsL wr r R ∧ R.length ≤ A0.length ∧ Hid (RO b A0 R n ∧ Bd R (e + (N - n) * (f + 1))) ∧ IsB wr kb (lead b) ∧ Below w.heap.size w wr) (fun _ i _ => (intOf i + 1).toNat)
  case atStart => exact ⟨N, A0, (A0.length : Int) - b.length, rfl, fun h => by have := hNa h; omega, fun h => by have := hNb h; omega, by omega, Nat.le_refl _, OwnL.below hu hbw2, Nat.le_refl _, HST, K2, hbw2⟩
  case round =>
    clear K2 hbw2 HST
    obtain ⟨n, R, ii, rfl, hi1, hi2, hi3, hn, hR, hRl, HRO, hK, hbel⟩ := hrel
    obtain ⟨ra, rc, rfl⟩ := OwnL.val hR
    cases n with
    | zero =>
      have hneg := hi2 rfl
      have hro := HRO.out
      rw [Nat.sub_zero] at hro
      have HRO2 : Hid _ := hro
      clear HRO hro hi1 hi2
      go_wp2
      go_ret
      refine ⟨_, rfl, ?_, hbel⟩
      rw [HT.out]
      exact ⟨R, hR, hRl, HRO2.out.1, HRO2.out.2⟩
    | succ n =>
      obtain rfl : ii = (n : Int) := by have := hi1 (by omega); omega
      obtain ⟨E, HE⟩ : ∃ E, Hid (e + (N - (n + 1)) * (f + 1) = E) := ⟨_, rfl⟩
      have hbR := HRO.out.2
      rw [HE.out] at hbR
      have hE1 : E + (f + 1) ≤ e + N * (f + 1) := by
        have h1 : (N - (n + 1) + 1) * (f + 1) ≤ N * (f + 1) := Nat.mul_le_mul (by omega) (Nat.le_refl _)
        rw [Nat.succ_mul] at h1
        have := HE.out
        omega
      have hE2 : E + f + 1 = e + (N - n) * (f + 1) := by
        have h1 : N - n = N - (n + 1) + 1 := by omega
        rw [h1, Nat.succ_mul]
        have := HE.out
        omega
      have hnb : n + b.length ≤ A0.length := by have := hNa (by omega); omega
      have hnx : RO b A0 (rest1 R b n) n ∧ Bd (rest1 R b n) (e + (N - n) * (f + 1)) := ⟨HRO.out.1.next tb hb0, by rw [← hE2]; exact hbR.rest1 fy n⟩
      have hsame := rest1_same R b n
      have hlen1 : (rest1 R b n).length ≤ A0.length := by unfold rest1; rw [tab_len]; omega
      obtain ⟨q, HQ⟩ : ∃ q, Hid (n + b.length - 1 = q) := ⟨_, rfl⟩
      have hq1 : (n : Int) + b.length - 1 = q := by have := HQ.out; omega
      rw [HQ.out] at hsame
      have htop := numberAt_any R (.slice ra R.length rc) q wr hR
      have ftop := hbR q
      generalize R.getD q 0 = top at *
      have ht1 := fun (W : World) (v1 : Value) (g1 : IsL W (.slice va b.length vc) b) (g2 : IsI W v1 top) => times_any b top f E n (.slice va b.length vc) v1 W g1 g2 (by omega) (by omega) fy ftop (by omega) (by omega)
      have ht2 := fun (W : World) (v1 : Value) (g1 : IsL W (.slice ra R.length rc) R) (g2 : IsI W v1 (lead b)) => times_any R (lead b) E f 0 (.slice ra R.length rc) v1 W g1 g2 (by omega) (by omega) hbR flb (by omega) (by omega)
      have hdf := fun (W : World) (u1 u2 : Value) (g1 : IsL W u1 (List.replicate 0 0 ++ R.map fun x => x * lead b)) (g2 : IsL W u2 (List.replicate n 0 ++ b.map fun x => x * top)) => pdiff_any _ _ u1 u2 W g1 g2 (by simp; omega) (by simp; omega) ((hbR.timesW flb).fitW (by omega)) ((fy.timesW ftop).fitW (by omega))
      rw [hsame] at hdf
      have HT1 : Hid _ := ht1
      have HT2 : Hid _ := ht2
      have HDF : Hid _ := hdf
      have HNX : Hid _ := hnx
      clear ht1 ht2 hdf hnx hsame HRO hbR hE1 hE2 ftop hi1 hi2 hi3
      generalize rest1 R b n = R2 at *
      generalize (List.replicate 0 0 ++ R.map fun x => x * lead b) = L1 at *
      generalize (List.replicate n 0 ++ b.map fun x => x * top) = L2 at *
      obtain ⟨lb, la, ln, lc, K0, hKI⟩ := hK.open
      go_wp2_with fail
      refine htop.mono ?_
      rintro en w3 ⟨x3, rfl, hI3, hb3⟩
      obtain ⟨b3, a3, n3, c3, rfl⟩ := hI3.form
      go_wp2_with fail
      generalize hW4 : w3.alloc (Obj.cells #[Value.bool b3, Value.slice a3 n3 c3] 105) = W4
      obtain ⟨hb4, _⟩ := one_new hW4
      clear hW4
      have hb4w := hb3.trans (hb4.mono hb3.size)
      have hbw4 := hbel.trans (hb4w.mono hbel.size)
      refine (HT1.out W4 _ (OwnL.below hv hbw4) (hI3.below hb4)).mono ?_
      rintro en w5 ⟨x5, rfl, hI5, hb5⟩
      obtain ⟨a5, c5, rfl⟩ := OwnL.val hI5
      have hb5w := hb4w.trans (hb5.mono hb4w.size)
      have K5 := K0.below hb5w
      have k0 := K5.c0; have k1 := K5.c1
      go_wp2_with fail
      refine (HT2.out w5 _ (OwnL.below hR hb5w) (hKI.below hb5w)).mono ?_
      rintro en w6 ⟨x6, rfl, hI6, hb6⟩
      obtain ⟨a6, c6, rfl⟩ := OwnL.val hI6
      have hb6w := hb5w.trans (hb6.mono hb5w.size)
      clear k0 k1
      go_wp2_with fail
      refine (HDF.out w6 _ _ hI6.isL (OwnL.below hI5 hb6).isL).mono ?_
      rintro en w7 ⟨x7, rfl, hI7, hb7⟩
      obtain ⟨a7, c7, rfl⟩ := OwnL.val hI7
      have hb7w := hb6w.trans (hb7.mono hb6w.size)
      have hK7 := hK.below hb7w
      go_wp2
      go_roundw
      case rel => exact ⟨n, R2, (n : Int) - 1, by go_num, fun _ => rfl, fun h => by omega, by omega, by omega, hI7.isL, hlen1, HNX, hK7, hbel.trans (hb7w.mono hbel.size)⟩
      case measure => simp [intOf]

end Go.Proofs.YtkomofjdbcjdnaaGreatDoor
