import Derived.Test.YtldcjkhbiffdoaaGreatDoorM34
import Derived.Test.YtldcjkhbiffdoaaGreatDoorM18
import Derived.Test.YtldcjkhbiffdoaaGreatDoorM24
import Derived.Test.YtldcjkhbiffdoaaGreatDoorM20
import Derived.Test.YtldcjkhbiffdoaaGreatDoorM07

/-
  factorref: words.
-/
namespace Go.Proofs.YtldcjkhbiffdoaaGreatDoor
open Go.RowKit

/-- A word's three cells. -/
def flat3 : List Wd → List Value
  | [] => []
  | q :: l => .int .u8 (q.1.toNat : Int) :: .string ⟨q.2.1.toArray⟩ :: .int .i64 (q.2.2 : Int) :: flat3 l

theorem flat3_append (a b : List Wd) : flat3 (a ++ b) = flat3 a ++ flat3 b := by
  induction a with
  | nil => rfl
  | cons p a ih => simp [flat3, ih]
theorem flat3_length (a : List Wd) : (flat3 a).length = a.length * 3 := by
  induction a with
  | nil => rfl
  | cons p a ih => simp [flat3, ih]; omega
theorem flat3_at : ∀ (a : List Wd) (i : Nat) (p : Wd), a[i]? = some p → (flat3 a)[i * 3]? = some (.int .u8 (p.1.toNat : Int)) ∧ (flat3 a)[i * 3 + 1]? = some (.string ⟨p.2.1.toArray⟩) ∧ (flat3 a)[i * 3 + 2]? = some (.int .i64 (p.2.2 : Int))
  | [], i, p, h => by simp at h
  | q :: a, 0, p, h => by simp at h; subst h; simp [flat3]
  | q :: a, i + 1, p, h => by
    have := flat3_at a i p (by simpa using h)
    rw [show (i + 1) * 3 = i * 3 + 1 + 1 + 1 by omega]
    simpa [flat3] using this

def OwnW (B : Nat) (w : World) (v : Value) (ws : List Wd) : Prop := w.ownsRow B 91 3 v ws.length (flat3 ws)

theorem OwnW.below {B : Nat} {w w' : World} {v : Value} {ws : List Wd} (h : OwnW B w v ws) (hb : Below w.heap.size w w') : OwnW B w' v ws := by
  refine ⟨h.1, ?_⟩
  rcases h.2 with h | ⟨g, cap, cur, hv, hB, hg, r⟩
  · exact .inl h
  · exact .inr ⟨g, cap, cur, hv, hB, by rw [hb.block g (Array.getElem?_eq_some_iff.1 hg).1]; exact hg, r⟩
theorem OwnW.block {B : Nat} {w : World} {v : Value} {ws : List Wd} (h : OwnW B w v ws) : ∀ k, v.ownBlock = some k → B ≤ k := fun k hk => (World.ownsRow.lt h k hk).1
theorem OwnW.val {B : Nat} {w : World} {v : Value} {ws : List Wd} (h : OwnW B w v ws) : ∃ a c, v = .slice a ws.length c := by
  rcases h.2 with ⟨h1, h2⟩ | ⟨g, cap, cur, hv, _⟩
  · exact ⟨none, 0, by rw [h2]; exact h1⟩
  · exact ⟨_, _, hv⟩
theorem OwnW.nil0 (B : Nat) (w : World) : OwnW B w (.slice none 0 0) [] := ⟨rfl, .inl ⟨rfl, rfl⟩⟩
theorem OwnW.at {B : Nat} {w : World} {a : Option Addr} {c : Nat} {ws : List Wd} (h : OwnW B w (.slice a ws.length c) ws) (i : Nat) (p : Wd) (hp : ws[i]? = some p) :
    ∃ g, a = some ⟨g, 0, none⟩ ∧ ws.length ≤ c ∧ c ≤ maxLen ∧ g < w.heap.size ∧ w.cell? ⟨g, i * 3, none⟩ = some (.int .u8 (p.1.toNat : Int)) ∧ w.cell? ⟨g, i * 3 + 1, none⟩ = some (.string ⟨p.2.1.toArray⟩) ∧ w.cell? ⟨g, i * 3 + 2, none⟩ = some (.int .i64 (p.2.2 : Int)) := by
  have hi := (List.getElem?_eq_some_iff.1 hp).1
  rcases h.2 with ⟨_, h'⟩ | ⟨g, cap, cur, hv, hB, hg, hnc, hcm, _⟩
  · omega
  · simp only [Value.slice.injEq, true_and] at hv
    obtain ⟨rfl, rfl⟩ := hv
    obtain ⟨e1, e2, e3⟩ := flat3_at ws i p hp
    exact ⟨g, rfl, hnc, hcm, (Array.getElem?_eq_some_iff.1 hg).1, by rw [World.ownsRow.cellAt h (i * 3) (by omega)]; exact e1, by rw [World.ownsRow.cellAt h (i * 3 + 1) (by omega)]; exact e2, by rw [World.ownsRow.cellAt h (i * 3 + 2) (by omega)]; exact e3⟩

theorem Tryz.infoWord : (Tryz.prog.info? 91).map (fun i => (i.zero, i.size, i.bytes)) = some (some (.agg #[.int .u8 0, .string ⟨#[]⟩, .int .i64 0]), 3, 32) := by kernel_rfl
theorem Tryz.sliceWord : Tryz.prog.underlying 88 = some (.slice 91) := by kernel_rfl

theorem cell_three_new (w : World) (x y z : Value) (t : TypeId) (j : Nat) (u : Value) (h : [x, y, z][j]? = some u) : (w.alloc (.cells #[x, y, z] t)).cell? (Addr.add ⟨w.heap.size, 0, none⟩ j) = some u := by
  match j, h with
  | 0, h => simp at h; subst h; simp [Addr.add]
  | 1, h => simp at h; subst h; simp [Addr.add]
  | 2, h => simp at h; subst h; simp [Addr.add]
  | j + 3, h => simp at h

/-- 'out = append(out, w)'. -/
theorem wpList_pushW {ops : Array Oper} {rest : List Oper} {o : Oper} {a : Act} {Q : Exit → Act → World → Prop} {wr : World} (hgd : o.guard = none) (s x : Operand)
    (ho : o.op = .call { callee := .builtin .append, args := #[s, x], argTypes := #[88, 88] })
    (B : Nat) (v : Value) (ws : List Wd) (p : Wd) (q : Nat) (c0 c1 c2 : Value) (hc0 : c0 = .int .u8 (p.1.toNat : Int)) (hc1 : c1 = .string ⟨p.2.1.toArray⟩) (hc2 : c2 = .int .i64 (p.2.2 : Int)) (hq : q = wr.heap.size) (hs : a.eval s = v) (hown : OwnW B wr v ws) (hx : a.eval x = .slice (some ⟨q, 0, none⟩) 1 1)
    (hlen : ws.length ≤ 1000000000) (hB : B ≤ wr.heap.size)
    (h : ∀ v' w', OwnW B w' v' (ws ++ [p]) → Below B wr w' → wpList Tryz.prog ops Q rest (a.put o.dst v') w') :
    wpList Tryz.prog ops Q (o :: rest) a (wr.alloc (.cells #[c0, c1, c2] 91)) := by
  subst hc0 hc1 hc2 hq
  obtain ⟨i, hi, hz0, hz1, hz2⟩ := info_parts Tryz.infoWord
  refine wpList_append_own _ hgd s x 88 ho B 91 i (.agg #[.int .u8 0, .string ⟨#[]⟩, .int .i64 0]) 3 32 Tryz.sliceWord hi hz0 hz1 hz2 rfl (by decide) v ws.length (flat3 ws) hs (World.ownsRow.alloc hown _) ⟨wr.heap.size, 0, none⟩ 1 1 [.int .u8 (p.1.toNat : Int), .string ⟨p.2.1.toArray⟩, .int .i64 (p.2.2 : Int)] hx rfl ?_ ?_ ?_ ?_ ?_ ?_
  · exact cell_three_new wr _ _ _ _
  · intro u hu
    simp at hu
    rcases hu with rfl | rfl | rfl <;> rfl
  · unfold maxLen; omega
  · omega
  · simp; omega
  · intro v' w' g1 g2 _
    have hg : wr.grownBy w' v.ownBlock := by
      have h0 := World.grownBy_alloc wr (.cells #[.int .u8 (p.1.toNat : Int), .string ⟨p.2.1.toArray⟩, .int .i64 (p.2.2 : Int)] 91) v.ownBlock
      exact ⟨g2.os.trans h0.os, g2.tape.trans h0.tape, g2.output.trans h0.output, Nat.le_trans h0.size g2.size, fun k hk hne => (g2.block k (by simp; omega) hne).trans (h0.block k hk hne)⟩
    refine h v' w' ?_ ((Below.refl _ _).grown hg hB hown.block)
    unfold OwnW
    rw [flat3_append]
    simpa [flat3] using g1

theorem digs_take : ∀ l : List UInt8, l.take (digs l).length = digs l
  | [] => rfl
  | c :: l => by
    unfold digs
    split
    · simp [digs_take l]
    · rfl

/-- The digits, cut out of the text. -/
theorem extract_digs {s : ByteArray} {k : Nat} {D : List UInt8} (h : digs (s.data.toList.drop k) = D) : s.extract k (k + D.length) = ⟨D.toArray⟩ := by
  apply ByteArray.ext
  rw [ByteArray.data_extract]
  apply Array.toList_inj.1
  rw [Array.toList_extract]
  have := digs_take (s.data.toList.drop k)
  rw [h] at this
  simpa [List.extract] using this

set_option maxRecDepth 100000 in
set_option maxHeartbeats 4000000 in
theorem words_any (s : ByteArray) (w : World) (hs : s.size ≤ 200) :
    Calls Tryz.prog 52 #[.string s] w fun e w' => ∃ x, e = .returned x ∧ OwnW w.heap.size w' x (wds s.data.toList 0) ∧ Below w.heap.size w w' := by
  have hll := toList_len s
  obtain ⟨R, HR⟩ : ∃ R, Hid (wds s.data.toList 0 = R) := ⟨_, rfl⟩
  rw [HR.out]
  go_enter Tryz.func52, Tryz.ntmps52
  go_wp2_with fail
  go_loopw [3, 4] (fun o i wr => ∃ (k : Nat) (ws : List Wd), k ≤ s.size ∧ i = .int .i64 k ∧ ws.length ≤ k ∧ OwnW w.heap.size wr o ws ∧ Hid (ws ++ wds s.data.toList k = R) ∧ Below w.heap.size w wr) (fun _ i _ => s.size - (intOf i).toNat)
  case atStart => exact ⟨0, [], Nat.zero_le _, rfl, by simp, OwnW.nil0 _ _, HR, Below.refl _ _⟩
  case round =>
    obtain ⟨k, ws, hk, rfl, hwl, hown, HE, hbel⟩ := hrel
    by_cases hlt : k < s.size
    · have hki : (k : Int) < (s.size : Int) := by omega
      have hby := byte_at hlt
      by_cases hd : isDig s[k] = true
      · have h57 := isDig_le hd
        have h48 : 48 ≤ s[k].toNat := by
          unfold isDig at hd
          simp [UInt8.le_iff_toNat_le] at hd
          exact hd.1
        have hi57 : (s[k].toNat : Int) ≤ 57 := by omega
        have hi48 : (48 : Int) ≤ (s[k].toNat : Int) := by omega
        have hne : ((s[k].toNat : Int) != 32) = true := by rw [bne_iff_ne]; omega
        have he := wds_num (l := s.data.toList) (n := k) hby hd
        have hds := digs_step hby hd
        have hdl := digs_le (s.data.toList.drop k)
        rw [List.length_drop, hll] at hdl
        obtain ⟨D, HD⟩ : ∃ D, Hid (digs (s.data.toList.drop k) = D) := ⟨_, rfl⟩
        have hDl : (digs (s.data.toList.drop (k + 1))).length + 1 = D.length := by rw [← HD.out, hds]; rfl
        rw [HD.out] at he hdl
        have HE2 : Hid ((ws ++ [(48, D, k)]) ++ wds s.data.toList (k + D.length) = R) := by rw [← HE.out, he]; simp [Hid]
        have HDL : Hid _ := hDl
        clear HE he hd hds hDl
        go_wp2_with fail
        go_loop [5] (fun j => ∃ (q : Nat), k + 1 ≤ q ∧ q ≤ s.size ∧ j = .int .i64 q ∧ Hid (q + (digs (s.data.toList.drop q)).length = k + D.length)) (fun j => s.size - (intOf j).toNat)
        case atStart => exact ⟨k + 1, Nat.le_refl _, by omega, by go_num, by have := HDL.out; show _ = _; omega⟩
        case round =>
          obtain ⟨q, hq1, hq2, rfl, HQ⟩ := hrel
          by_cases hql : q < s.size
          · have hqi : (q : Int) < (s.size : Int) := by omega
            have hbq := byte_at hql
            by_cases hdq : isDig s[q] = true
            · have g57 := isDig_le hdq
              have g48 : 48 ≤ s[q].toNat := by
                unfold isDig at hdq
                simp [UInt8.le_iff_toNat_le] at hdq
                exact hdq.1
              have gi57 : (s[q].toNat : Int) ≤ 57 := by omega
              have gi48 : (48 : Int) ≤ (s[q].toNat : Int) := by omega
              have HQ2 : Hid (q + 1 + (digs (s.data.toList.drop (q + 1))).length = k + D.length) := by
                have h := HQ.out
                rw [digs_step hbq hdq] at h
                simp at h
                show _ = _
                omega
              clear HQ
              go_wp2_with fail
              go_round
              case rel => exact ⟨q + 1, by omega, by omega, by go_num, HQ2⟩
              case measure => simp [intOf]; omega
            · have hdq' : isDig s[q] = false := by simpa using hdq
              have hstop : q = k + D.length := by
                have h := HQ.out
                rw [digs_stop (fun c hc => by rw [hbq] at hc; cases hc; exact hdq')] at h
                simpa using h
              have hcase : ¬ (48 : Int) ≤ (s[q].toNat : Int) ∨ ((48 : Int) ≤ (s[q].toNat : Int) ∧ ¬ (s[q].toNat : Int) ≤ 57) := by
                unfold isDig at hdq'
                simp [UInt8.le_iff_toNat_le] at hdq'
                omega
              have hD1 : 1 ≤ D.length := by have := HDL.out; omega
              clear HQ hdq hdq' hbq
              subst hstop
              rcases hcase with h1 | ⟨h1, h2⟩
              all_goals
                go_wp2_with (at_builtin; refine wpList_pushW rfl (.tmp 56) (.tmp 58) rfl w.heap.size _ ws (48, D, k) _ _ _ _ rfl (by rw [extract_digs HD.out]) rfl (by simp) rfl (OwnW.below hown (below_one _ _)) rfl (by omega) (by have := hbel.size; simp; omega) ?_)
                intro v4 w4 hown4 hb4
                go_wp2
                go_roundw
                case rel => exact ⟨k + D.length, _, by omega, by go_num, by simp; omega, hown4, HE2, (hbel.trans ((below_one _ _).mono hbel.size)).trans hb4⟩
                case measure => simp [intOf]; omega
          · have hqi : ¬ (q : Int) < (s.size : Int) := by omega
            have hstop : q = k + D.length := by
              have h := HQ.out
              rw [digs_stop (fun c hc => by rw [byte_none hql] at hc; cases hc)] at h
              simpa using h
            have hD1 : 1 ≤ D.length := by have := HDL.out; omega
            clear HQ
            subst hstop
            go_wp2_with (at_builtin; refine wpList_pushW rfl (.tmp 56) (.tmp 58) rfl w.heap.size _ ws (48, D, k) _ _ _ _ rfl (by rw [extract_digs HD.out]) rfl (by simp) rfl (OwnW.below hown (below_one _ _)) rfl (by omega) (by have := hbel.size; simp; omega) ?_)
            intro v4 w4 hown4 hb4
            go_wp2
            go_roundw
            case rel => exact ⟨k + D.length, _, by omega, by go_num, by simp; omega, hown4, HE2, (hbel.trans ((below_one _ _).mono hbel.size)).trans hb4⟩
            case measure => simp [intOf]; omega
      · have hd' : isDig s[k] = false := by simpa using hd
        by_cases hb : s[k] = 32
        · have he := wds_blank (l := s.data.toList) (n := k) (by rw [hby, hb])
          have HE2 : Hid (ws ++ wds s.data.toList (k + 1) = R) := by rw [← he]; exact HE
          have hv : (s[k].toNat : Int) = 32 := by rw [hb]; rfl
          clear HE he hd hd' hb hby
          go_wp2_with fail
          go_roundw
          case rel => exact ⟨k + 1, ws, by omega, by go_num, by omega, OwnW.below hown (below_one _ _), HE2, hbel.trans ((below_one _ _).mono hbel.size)⟩
          case measure => simp [intOf]; omega
        · have he := wds_chr (l := s.data.toList) (n := k) hby hb hd'
          have HE2 : Hid ((ws ++ [(s[k], [], k)]) ++ wds s.data.toList (k + 1) = R) := by rw [← HE.out, he]; simp [Hid]
          have hne : ((s[k].toNat : Int) != 32) = true := by
            rw [bne_iff_ne]
            intro h
            exact hb (UInt8.toNat_inj.1 (by have : (32 : UInt8).toNat = 32 := rfl; omega))
          have hcase : ¬ (48 : Int) ≤ (s[k].toNat : Int) ∨ ((48 : Int) ≤ (s[k].toNat : Int) ∧ ¬ (s[k].toNat : Int) ≤ 57) := by
            unfold isDig at hd'
            simp [UInt8.le_iff_toNat_le] at hd'
            omega
          clear HE he hd hd' hb hby
          rcases hcase with h1 | ⟨h1, h2⟩
          all_goals
            go_wp2_with (at_builtin; refine wpList_pushW rfl (.tmp 56) (.tmp 58) rfl w.heap.size _ ws (s[k], [], k) _ _ _ _ rfl rfl rfl (by simp) rfl (OwnW.below hown (below_one _ _)) rfl (by omega) (by have := hbel.size; simp; omega) ?_)
            intro v4 w4 hown4 hb4
            go_wp2
            go_roundw
            case rel => exact ⟨k + 1, _, by omega, by go_num, by simp; omega, hown4, HE2, (hbel.trans ((below_one _ _).mono hbel.size)).trans hb4⟩
            case measure => simp [intOf]; omega
    · obtain rfl : k = s.size := by omega
      have he := wds_end (l := s.data.toList) (n := s.size) hll.symm
      have HE2 : Hid (ws ++ [(46, [], s.size)] = R) := by rw [← HE.out, he, hll]; rfl
      clear HE he
      go_wp2_with (at_builtin; refine wpList_pushW rfl (.tmp 61) (.tmp 65) rfl w.heap.size _ ws (46, [], s.size) _ _ _ _ rfl rfl rfl rfl rfl hown rfl (by omega) hbel.size ?_)
      intro v4 w4 hown4 hb4
      rw [HE2.out] at hown4
      obtain ⟨oa, oc, rfl⟩ := OwnW.val hown4
      go_wp2
      go_ret
      exact ⟨_, rfl, hown4, hbel.trans hb4⟩

end Go.Proofs.YtldcjkhbiffdoaaGreatDoor

/-
  factorref: sum.
-/
namespace Go.Proofs.YtldcjkhbiffdoaaGreatDoor
open Go.RowKit

/-- A number of the list is written anew. -/
theorem OwnLN.store {B : Nat} {w : World} {g c : Nat} {zs : List Int} (h : OwnLN B w (.slice (some ⟨g, 0, none⟩) zs.length c) zs) (i : Nat) (hi : i < zs.length) {b : Bool} {a : Option Addr} {n m : Nat} {z : Int} (hz : IsN w (.agg #[.bool b, .slice a n m]) z) :
    OwnLN B ((w.setCell ⟨g, i * 2, none⟩ (.bool b)).setCell ⟨g, i * 2 + 1, none⟩ (.slice a n m)) (.slice (some ⟨g, 0, none⟩) zs.length c) (zs.set i z) ∧ Below B w ((w.setCell ⟨g, i * 2, none⟩ (.bool b)).setCell ⟨g, i * 2 + 1, none⟩ (.slice a n m)) := by
  obtain ⟨cur, htyp⟩ := h.typ g rfl
  have hB := h.block g rfl
  obtain ⟨cs, h1, h2, h3⟩ := h
  have hkeep : ∀ {v : Value} {y : Int}, IsN w v y → IsN ((w.setCell ⟨g, i * 2, none⟩ (.bool b)).setCell ⟨g, i * 2 + 1, none⟩ (.slice a n m)) v y := by
    rintro v y ⟨b', x', l, e, hr, hl⟩
    refine ⟨b', x', l, e, ?_, hl⟩
    have hne : ∀ k, x'.ownBlock = some k → k ≠ g := by
      intro k hk e
      rcases hr.2 with ⟨hn, _⟩ | ⟨k', cap, cur', hv, _, hk', _⟩
      · rw [hn] at hk; simp [Value.ownBlock] at hk
      · rw [hv] at hk
        simp [Value.ownBlock] at hk
        rw [hk, e, htyp] at hk'
        simp at hk'
    exact ownsRow_setCell_other (ownsRow_setCell_other hr (fun e => hne g e rfl) _) (fun e => hne g e rfl) _
  refine ⟨⟨cs.set i (b, .slice a n m), by simpa using h1, ?_, ?_⟩, ((Below.refl _ _).setCell hB _).setCell hB _⟩
  · rw [List.length_set, ← flat_set]
    exact ((h2.stored _ _).1.stored _ _).1
  · intro j p hj
    by_cases hij : i = j
    · subst hij
      rw [List.getElem?_set_self (by omega)] at hj
      have hj := Option.some.inj hj
      subst hj
      have e : (zs.set i z).getD i 0 = z := by simp [List.getD, hi]
      rw [e]
      exact hkeep hz
    · rw [List.getElem?_set_ne hij] at hj
      have e : (zs.set i z).getD j 0 = zs.getD j 0 := by simp [List.getD, List.getElem?_set_ne hij]
      rw [e]
      exact hkeep (h3 j p hj)

/-- A list that grows does not come to lie upon a box that holds a number other than 0. -/
theorem push_ne {B k : Nat} {w w' : World} {v v' : Value} {zs : List Int} {S : Int} (hK : IsK w k S) (hS : S ≠ 0) (hv : v.ownBlock ≠ some k) (hg : w.grownBy w' v.ownBlock) (hown : OwnLN B w v zs) (hown' : OwnLN B w' v' (zs ++ [0])) : v'.ownBlock ≠ some k ∧ IsK w' k S := by
  have hK' : IsK w' k S := by
    obtain ⟨b, a, n, c, hx, hI⟩ := hK
    refine ⟨b, a, n, c, ?_, hI.kept hg hown.typ⟩
    have hlt := hx.lt
    unfold BxN at hx ⊢
    rw [hg.block k hlt (fun e => hv e.symm)]
    exact hx
  refine ⟨fun e => hS ?_, hK'⟩
  obtain ⟨b, a, n, c, hx, hI⟩ := hK'
  obtain ⟨cs, h1, h2, h3⟩ := hown'
  rcases h2.2 with ⟨hn, _⟩ | ⟨g, cap, cur, hv', _, hgc, hnc, hcm, hcs, ht⟩
  · rw [hn] at e; simp [Value.ownBlock] at e
  · rw [hv'] at e
    simp [Value.ownBlock] at e
    subst e
    unfold BxN at hx
    rw [hx] at hgc
    simp at hgc
    subst hgc
    simp at hcs
    have hz : zs = [] := by
      apply List.length_eq_zero_iff.1
      simp at hnc
      omega
    subst hz
    simp at h1 ht
    obtain ⟨p, rfl⟩ := List.length_eq_one_iff.1 h1
    simp [flat] at ht
    have h4 := h3 0 p rfl
    unfold vOf at h4
    rw [← ht.1, ← ht.2] at h4
    have hs0 : IsK w' g 0 := ⟨b, a, n, c, hx, by simpa using h4⟩
    exact IsK.uniq ⟨b, a, n, c, hx, hI⟩ hs0

theorem smT_take {ts : List (Int × Nat)} {n : Nat} (h : n < ts.length) (k : Nat) : smT k (ts.take (n + 1)) = smT k (ts.take n) + (if (ts.getD n (0, 0)).2 = k then (ts.getD n (0, 0)).1 else 0) := by
  rw [List.take_succ_eq_append_getElem h, smT_app]
  have : ts.getD n (0, 0) = ts[n] := by simp [List.getD, h]
  rw [this]
  simp [smT]

/-- No term is too great. -/
def TsB (ts : List (Int × Nat)) : Prop := ts.length ≤ 1000 ∧ ∀ i, (ts.getD i (0, 0)).1.natAbs < 10 ^ 201 ∧ (ts.getD i (0, 0)).2 < 10 ^ 201

theorem TsB.sum {ts : List (Int × Nat)} (h : TsB ts) (k : Nat) : ∀ n, n ≤ ts.length → (smT k (ts.take n)).natAbs ≤ n * 10 ^ 201
  | 0, _ => by simp [smT]
  | n + 1, hn => by
    have ih := h.sum k n (by omega)
    have h1 := (h.2 n).1
    rw [smT_take (by omega), Nat.succ_mul]
    split
    · omega
    · omega
theorem TsB.fit {ts : List (Int × Nat)} (h : TsB ts) (k n : Nat) (hn : n ≤ ts.length) : FitN (smT k (ts.take n)) := by
  refine ⟨205, by omega, ?_⟩
  have h1 := h.sum k n hn
  have h2 := h.1
  have h3 : n * 10 ^ 201 ≤ 1000 * 10 ^ 201 := Nat.mul_le_mul (by omega) (Nat.le_refl _)
  have h4 : 1000 * 10 ^ 201 < 10 ^ 205 := by
    have : 10 ^ 205 = 10000 * 10 ^ 201 := by rw [show (205 : Nat) = 4 + 201 from rfl, Nat.pow_add]
    rw [this]
    exact Nat.mul_lt_mul_of_pos_right (by omega) (Nat.pow_pos (by omega))
  exact Nat.lt_of_le_of_lt h1 (Nat.lt_of_le_of_lt h3 h4)

/-- What 'sum' answers. -/
def Sums (w' : World) (r : Option (List Int)) (en : Ending) : Prop :=
  (∃ P x, r = some P ∧ inB P = true ∧ en = .returned (.tuple #[x, .int .i64 0, .int .i64 0]) ∧ IsLN w' x P) ∨ ((r = none ∨ ∃ P, r = some P ∧ inB P = false) ∧ en = .returned (.tuple #[.slice none 0 0, .int .i64 3, .int .i64 0]))

set_option maxRecDepth 100000 in
set_option maxHeartbeats 4000000 in
theorem sumR_any (ts : List (Int × Nat)) (B : Nat) (v : Value) (w : World) (hv : OwnM B w v ts) (hts : TsB ts) :
    Calls Tryz.prog 55 #[v] w fun en w' => Sums w' (smv ts ts []) en ∧ Below w.heap.size w w' := by
  have hl := hts.1
  obtain ⟨va, vc, rfl⟩ := OwnM.val hv
  obtain ⟨R, HR⟩ : ∃ R, Hid (smv ts ts [] = R) := ⟨_, rfl⟩
  rw [HR.out]
  obtain ⟨T, HT⟩ : ∃ T : World → Ending → Prop, Hid (T = fun w' en => Sums w' R en) := ⟨_, rfl⟩
  have hgoal : (fun en w' => Sums w' R en ∧ Below w.heap.size w w') = fun en w' => T w' en ∧ Below w.heap.size w w' := by rw [HT.out]
  rw [hgoal]
  clear hgoal
  go_enter Tryz.func55, Tryz.ntmps55
  go_wp2_with fail
  go_loopw [5, 15] (fun p i wr => ∃ (k : Nat) (P : List Int), k ≤ ts.length ∧ i = .int .i64 k ∧ P.length ≤ 11 ∧ OwnLN w.heap.size wr p P ∧ Hid (smv ts (ts.drop k) P = R) ∧ Below w.heap.size w wr) (fun _ i _ => ts.length - (intOf i).toNat)
  case atStart => exact ⟨0, [], Nat.zero_le _, rfl, by simp, OwnLN.nil0 _ _, HR, Below.refl _ _⟩
  case round =>
    obtain ⟨k, P, hk, rfl, hPl, hown, HE, hbel⟩ := hrel
    obtain ⟨pa, pc, rfl⟩ := OwnLN.val hown
    by_cases hlt : k < ts.length
    · have hvr := OwnM.below hv hbel
      obtain ⟨g, b, xa, xn, xc, d, ya, yn, yc, rfl, hc1, hc2, hg, _, p0, p1, p2, p3, hIc, hIe⟩ := OwnM.at hvr k hlt
      have hfe := (hts.2 k).2
      have hdrop : ts.drop k = ts.getD k (0, 0) :: ts.drop (k + 1) := by
        rw [List.drop_eq_getElem_cons hlt]
        simp [List.getD, hlt]
      rw [hdrop] at HE
      have hsm := HE.out
      unfold smv at hsm
      generalize ts.getD k (0, 0) = q at *
      obtain ⟨c0, e0⟩ := q
      have HSM : Hid _ := hsm
      clear hsm hdrop HE
      simp only at hIc hIe hfe
      go_wp2_with fail
      generalize hW : (wr.alloc (Obj.cells #[Value.bool b, Value.slice xa xn xc, Value.bool d, Value.slice ya yn yc] 87)).alloc (Obj.cells #[Value.bool false, Value.slice none 0 0] 74) = W0
      have X7 : BxM W0 wr.heap.size (.bool b) (.slice xa xn xc) (.bool d) (.slice ya yn yc) := by
        rw [← hW]
        exact (BxM.alloc wr _ _ _ _).below (below_one _ _)
      have hsz : W0.heap.size = wr.heap.size + 1 + 1 := by rw [← hW]; simp
      have hb0 : Below wr.heap.size wr W0 := by rw [← hW]; exact (below_one _ _).trans ((below_one _ _).mono (by simp))
      have X8 : BxN W0 (wr.heap.size + 1) (.bool false) (.slice none 0 0) := by
        have := BxN.alloc (wr.alloc (Obj.cells #[Value.bool b, Value.slice xa xn xc, Value.bool d, Value.slice ya yn yc] 87)) (.bool false) (.slice none 0 0)
        rw [hW] at this
        simpa using this
      clear hW
      have K8 : IsK W0 (wr.heap.size + 1) (smT e0 (ts.take 0)) := ⟨_, _, _, _, X8, zeroNum⟩
      clear X8
      have hwo : ∃ wo : World, wo = wr := ⟨_, rfl⟩
      obtain ⟨wo, rfl⟩ := hwo
      go_loopw [22] (fun i wq => ∃ (n : Nat), n ≤ ts.length ∧ i = .int .i64 n ∧ IsK wq (wo.heap.size + 1) (smT e0 (ts.take n)) ∧ Below (wo.heap.size + 1) W0 wq) (fun i _ => ts.length - (intOf i).toNat)
      case atStart => exact ⟨0, Nat.zero_le _, rfl, K8, Below.refl _ _⟩
      case round =>
        clear K8
        obtain ⟨n, hn, rfl, hK, hbi⟩ := hrel
        have hbq : Below wo.heap.size wo wr := hb0.trans (hbi.mono (by omega))
        have Y7 : BxM wr wo.heap.size (.bool b) (.slice xa xn xc) (.bool d) (.slice ya yn yc) := by
          unfold BxM; rw [hbi.block _ (by omega)]; exact X7
        obtain ⟨kb, ka, kn, kc, K0, hKI⟩ := id hK
        have hklt := K0.lt
        by_cases hlt2 : n < ts.length
        · obtain ⟨g', b', ua, un, uc, d', za, zn, zc, hgg, _, _, hg', _, r0, r1, r2, r3, hIc', hIe'⟩ := OwnM.at (OwnM.below hvr hbq) n hlt2
          simp at hgg
          subst hgg
          have hst := smT_take hlt2 e0
          have hfb := hts.2 n
          have hfs := hts.fit e0 n hn
          generalize ts.getD n (0, 0) = q at *
          obtain ⟨c1, e1⟩ := q
          simp only at hIc' hIe' hfb hst
          have HST : Hid _ := hst
          clear hst
          have f1 : FitN (e0 : Int) := fitN_of (e := 201) (by simpa using hfe) (by omega)
          have f2 : FitN (e1 : Int) := fitN_of (e := 201) (by simpa using hfb.2) (by omega)
          have f3 : FitN c1 := fitN_of (e := 201) hfb.1 (by omega)
          have y2 := Y7.c2; have y3 := Y7.c3
          have k0 := K0.c0; have k1 := K0.c1
          generalize smT e0 (ts.take n) = sm at *
          have hC := fun (W : World) (g1 : IsN W (.agg #[.bool d, .slice ya yn yc]) (e0 : Int)) (g2 : IsN W (.agg #[.bool d', .slice za zn zc]) (e1 : Int)) => cmpN_any _ _ (e0 : Int) (e1 : Int) W g1 g2 f1 f2
          have hA := fun (W : World) (g1 : IsN W (.agg #[.bool kb, .slice ka kn kc]) sm) (g2 : IsN W (.agg #[.bool b', .slice ua un uc]) c1) => addN_any _ _ sm c1 W g1 g2 hfs f3
          have HC : Hid _ := hC
          have HA : Hid _ := hA
          clear hC hA
          have hs1 : wo.heap.size < wr.heap.size := by omega
          by_cases he : e1 = e0
          · have hcm : cmp3 (e0 : Int) (e1 : Int) = 0 := by rw [he]; exact cmp3_eq _
            rw [hcm] at HC
            have HST2 : Hid (smT e0 (ts.take (n + 1)) = sm + c1) := by rw [HST.out, if_pos he]; rfl
            clear HST
            go_wp2_with fail
            generalize hW5 : wr.alloc (Obj.cells #[Value.bool b', Value.slice ua un uc, Value.bool d', Value.slice za zn zc] 87) = W5
            have X10 : BxM W5 wr.heap.size (.bool b') (.slice ua un uc) (.bool d') (.slice za zn zc) := by rw [← hW5]; exact BxM.alloc _ _ _ _ _
            have hb5 : Below wr.heap.size wr W5 := by rw [← hW5]; exact below_one _ _
            clear hW5
            refine (HC.out W5 ((hIe.below hbq).below hb5) (hIe'.below hb5)).mono ?_
            rintro en w6 ⟨rfl, hb6⟩
            have hb6w : Below wr.heap.size wr w6 := hb5.trans (hb6.mono hb5.size)
            have K6 := K0.below hb6w
            have Z6 := X10.below hb6
            have q0 := K6.c0; have q1 := K6.c1; have z0 := Z6.c0; have z1 := Z6.c1
            go_wp2_with fail
            refine (HA.out w6 (hKI.below hb6w) (hIc'.below hb6w)).mono ?_
            rintro en w7 ⟨x7, rfl, hI7, hb7⟩
            obtain ⟨b7, a7, n7, c7, _, rfl, _, _⟩ := id hI7.open
            have K7 := K6.below hb7
            have v0 := K7.c0; have v1 := K7.c1; have v2 := K7.f0; have v3 := K7.f1
            have hKs := IsK.stored K7 hI7
            rw [← HST2.out] at hKs
            have hb7w : Below (wo.heap.size + 1) W0 w7 := (hbi.trans (hb6w.mono (by omega))).trans (hb7.mono (by have := hb6w.size; omega))
            have HKS : Hid _ := hKs
            clear hKs q0 q1 z0 z1
            go_wp2
            go_roundw
            case rel => exact ⟨n + 1, by omega, by go_num, HKS.out, below_set2 hb7w (Nat.le_refl _) _ _⟩
            case measure => simp [intOf]; omega
          · have hcb : (cmp3 (e0 : Int) (e1 : Int) == 0) = false := by
              rw [beq_eq_false_iff_ne]
              unfold cmp3
              rcases (show (e0 : Int) < e1 ∨ (e1 : Int) < e0 by omega) with h | h
              · rw [if_pos h]; decide
              · rw [if_neg (by omega), if_pos h]; decide
            generalize cmp3 (e0 : Int) (e1 : Int) = cm at *
            have HST2 : Hid (smT e0 (ts.take (n + 1)) = sm) := by rw [HST.out, if_neg he]; show sm + 0 = sm; omega
            clear HST HA
            go_wp2_with fail
            generalize hW5 : wr.alloc (Obj.cells #[Value.bool b', Value.slice ua un uc, Value.bool d', Value.slice za zn zc] 87) = W5
            have hb5 : Below wr.heap.size wr W5 := by rw [← hW5]; exact below_one _ _
            clear hW5
            refine (HC.out W5 ((hIe.below hbq).below hb5) (hIe'.below hb5)).mono ?_
            rintro en w6 ⟨rfl, hb6⟩
            have hb6w : Below wr.heap.size wr w6 := hb5.trans (hb6.mono hb5.size)
            have hK6 := hK.below hb6w
            rw [← HST2.out] at hK6
            go_wp2
            go_roundw
            case rel => exact ⟨n + 1, by omega, by go_num, hK6, hbi.trans (hb6w.mono (by omega))⟩
            case measure => simp [intOf]; omega
        · obtain rfl : n = ts.length := by omega
          rw [List.take_length] at hKI hK
          have f1 : FitN (e0 : Int) := fitN_of (e := 201) (by simpa using hfe) (by omega)
          have hsm := HSM.out
          have HZ := fun (W : World) (g1 : IsN W (.agg #[.bool kb, .slice ka kn kc]) (smT e0 ts)) => zeroN_any _ _ W g1
          generalize smT e0 ts = sm at *
          have k0 := K0.c0; have k1 := K0.c1
          by_cases hz : sm = 0
          · have hZ := HZ wr hKI
            rw [decide_eq_true hz] at hZ
            rw [if_pos hz] at hsm
            have HE2 : Hid _ := hsm
            clear hsm HSM HZ
            go_wp2_with fail
            refine hZ.mono ?_
            rintro en w6 ⟨rfl, hb6⟩
            have hb6w : Below wo.heap.size wo w6 := hbq.trans (hb6.mono hbq.size)
            have hown6 := OwnLN.below hown hb6w
            go_wp2
            go_roundw
            case rel => exact ⟨k + 1, P, by omega, by go_num, hPl, hown6, HE2, hbel.trans (hb6w.mono hbel.size)⟩
            case measure => simp [intOf]; omega
          · have hZ := HZ wr hKI
            rw [decide_eq_false hz] at hZ
            rw [if_neg hz] at hsm
            have HE2 : Hid _ := hsm
            have hIN := fun (W : World) (g1 : IsN W (.agg #[.bool d, .slice ya yn yc]) (e0 : Int)) => intN_any _ (e0 : Int) W g1 f1
            have HIN : Hid _ := hIN
            clear hsm HSM HZ hIN
            go_wp2_with fail
            refine hZ.mono ?_
            rintro en w6 ⟨rfl, hb6⟩
            have hb6w : Below wo.heap.size wo w6 := hbq.trans (hb6.mono hbq.size)
            have Y6 := Y7.below hb6
            have y2 := Y6.c2; have y3 := Y6.c3
            go_wp2_with fail
            refine (HIN.out w6 (hIe.below hb6w)).mono ?_
            rintro en w7 ⟨hcase, hb7⟩
            have hb7w : Below wo.heap.size wo w7 := hb6w.trans (hb7.mono hb6w.size)
            have hbw7 := hbel.trans (hb7w.mono hbel.size)
            have hK7 := (hK.below hb6).below hb7
            have hown7 := OwnLN.below hown hb7w
            rcases hcase with ⟨hsmall, rfl⟩ | ⟨hbig, rfl⟩
            · by_cases h10 : e0 ≤ 10
              · have HE3 : Hid (smv ts (ts.drop (k + 1)) (setAt P e0 sm) = R) := by
                  have := HE2.out
                  rw [if_neg (by omega)] at this
                  exact this
                have hown7' : OwnLN w.heap.size w7 (.slice pa P.length pc) (P ++ List.replicate 0 0) := by simpa using hown7
                have hpb : ∀ blk, (Value.slice pa P.length pc).ownBlock = some blk → blk ≠ wo.heap.size + 1 := by
                  intro blk hblk e
                  obtain ⟨cur, hc⟩ := OwnLN.typ hown blk hblk
                  have := lt_of_block hc
                  omega
                clear HE2 y2 y3 k0 k1 hZ HIN
                go_wp2_with fail
                go_loopw [5] (fun p wq => ∃ (j : Nat), OwnLN w.heap.size wq p (P ++ List.replicate j 0) ∧ (j = 0 ∨ P.length + j ≤ e0 + 1) ∧ IsK wq (wo.heap.size + 1) sm ∧ (∀ blk, p.ownBlock = some blk → blk ≠ wo.heap.size + 1) ∧ Below w.heap.size w wq) (fun p _ => e0 + 1 - lenV p)
                case atStart => exact ⟨0, hown7', .inl rfl, hK7, hpb, hbw7⟩
                case round =>
                  clear hown7' hpb hK7 hbw7 hown7
                  obtain ⟨j, hownj, hj, hKj, hpbj, hbj⟩ := hrel
                  have hlenj : (P ++ List.replicate j (0 : Int)).length = P.length + j := by simp
                  obtain ⟨L, HL⟩ : ∃ L, Hid (P ++ List.replicate j (0 : Int) = L) := ⟨_, rfl⟩
                  rw [HL.out] at hownj hlenj
                  have hlj1 : L.length ≤ P.length + j := by omega
                  have hlj2 : P.length + j ≤ L.length := by omega
                  clear hlenj
                  obtain ⟨qa, qc, rfl⟩ := OwnLN.val hownj
                  by_cases hmore : L.length ≤ e0
                  · go_wp2_with (at_builtin; refine wpList_pushNumE rfl (.tmp 55) (.tmp 57) rfl w.heap.size _ L _ _ 0 _ rfl rfl hownj zeroNum rfl (by omega) hbj.size ?_)
                    intro v8 w8 hown8 hb8 hg8
                    obtain ⟨hne8, hK8⟩ := push_ne hKj hz (fun e => hpbj _ e rfl) hg8 hownj hown8
                    have hmeas : lenV v8 = L.length + 1 := by
                      obtain ⟨oa, oc, rfl⟩ := OwnLN.val hown8
                      simp [lenV]
                    rw [← HL.out, List.append_assoc, ← List.replicate_succ'] at hown8
                    go_wp2
                    go_roundw
                    case rel => exact ⟨j + 1, hown8, .inr (by omega), hK8, fun blk h e => hne8 (by rw [h, e]), hbj.trans hb8⟩
                    case measure => rw [hmeas]; simp [lenV]; omega
                  · have hL : L = P ++ List.replicate (e0 + 1 - P.length) 0 := by
                      rw [← HL.out]
                      congr 2
                      omega
                    obtain ⟨kb2, ka2, kn2, kc2, K2, hKI2⟩ := id hKj
                    obtain ⟨g5, bb, sa, sn, scc, rfl, hcl1, hcl2, hg5, _, l0, l1, _⟩ := OwnLN.at hownj e0 (by omega)
                    have m0 := K2.c0; have m1 := K2.c1
                    have hfr : ∀ o, wr.frozen? ⟨g5, o, none⟩ = false := by
                      intro o
                      obtain ⟨cur, hc⟩ := OwnLN.typ hownj g5 rfl
                      simp [World.frozen?, hc]
                    have l2 := hfr (e0 * 2); have l3 := hfr (e0 * 2 + 1)
                    have hst := OwnLN.store hownj e0 (by omega) hKI2
                    have hset : L.set e0 sm = setAt P e0 sm := by rw [hL]; rfl
                    rw [hset] at hst
                    have hlen2 : (setAt P e0 sm).length ≤ L.length := by rw [← hset]; simp
                    have HALL : Hid _ := hst
                    have hi5 : (e0 : Int) < (L.length : Int) := by omega
                    have hl11 : L.length ≤ 11 := by rw [hL]; simp; omega
                    clear hst hset hL hfr HL
                    go_wp2
                    go_roundw
                    case rel => exact ⟨k + 1, setAt P e0 sm, by omega, by go_num, by omega, HALL.out.1, HE3, hbj.trans HALL.out.2⟩
                    case measure => simp [intOf]; omega
              · have hno : R = none := by
                  have := HE2.out
                  rw [if_pos (by omega)] at this
                  exact this.symm
                have h10' : (10 : Int) < (e0 : Int) := by omega
                clear HE2
                go_wp2
                go_ret3
                refine ⟨?_, hbw7⟩
                rw [HT.out]
                exact .inr ⟨.inl hno, rfl⟩
            · have hno : R = none := by
                have := HE2.out
                rw [if_pos (by simp at hbig; omega)] at this
                exact this.symm
              clear HE2
              go_wp2
              go_ret3
              refine ⟨?_, hbw7⟩
              rw [HT.out]
              exact .inr ⟨.inl hno, rfl⟩
    · obtain rfl : k = ts.length := by omega
      have hR : R = some P := by
        have := HE.out
        rw [List.drop_length] at this
        exact this.symm
      have hBd := boundR_any P _ wr hown.isL (by omega)
      clear HE
      by_cases hin : inB P = true
      · rw [hin] at hBd
        go_wp2_with fail
        refine hBd.mono ?_
        rintro en w6 ⟨rfl, hb6⟩
        have hown6 := OwnLN.below hown hb6
        go_wp2
        go_ret3
        refine ⟨?_, hbel.trans (hb6.mono hbel.size)⟩
        rw [HT.out]
        exact .inl ⟨P, _, hR, hin, rfl, hown6.isL⟩
      · have hin' : inB P = false := by simpa using hin
        rw [hin'] at hBd
        go_wp2_with fail
        refine hBd.mono ?_
        rintro en w6 ⟨rfl, hb6⟩
        go_wp2
        go_ret3
        refine ⟨?_, hbel.trans (hb6.mono hbel.size)⟩
        rw [HT.out]
        exact .inr ⟨.inr ⟨P, hR, hin'⟩, rfl⟩

end Go.Proofs.YtldcjkhbiffdoaaGreatDoor
