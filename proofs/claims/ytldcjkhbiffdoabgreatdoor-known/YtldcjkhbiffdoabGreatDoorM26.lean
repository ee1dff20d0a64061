import Derived.Test.YtldcjkhbiffdoabGreatDoorM22
import Derived.Test.YtldcjkhbiffdoabGreatDoorM25

namespace Go.Proofs.YtldcjkhbiffdoabGreatDoor
open Go.RowKit

theorem wpList_makeL {ops : Array Oper} {rest : List Oper} {o : Oper} {a : Act} {Q : Exit → Act → World → Prop} {w : World} (hg : o.guard = none) (l c : Operand) (hop : o.op = Op.makeSlice 65 l c)
    (L C : Int) (n : Nat) (hl : a.eval l = .int .i64 L) (hc : a.eval c = .int .i64 C) (hL : L = (n : Int)) (hC : C = (n : Int)) (hn : n ≤ 1000000000)
    (hK : ∀ w' P, Hid (P = List.replicate n 0) → OwnL w.heap.size w' (.slice (some ⟨w.heap.size, 0, none⟩) n n) P → Below w.heap.size w w' → wpList Tryz.prog ops Q rest (a.put o.dst (.slice (some ⟨w.heap.size, 0, none⟩) n n)) w') :
    wpList Tryz.prog ops Q (o :: rest) a w := by
  obtain ⟨i, hi, hz0, hz1, hz2⟩ := info_parts Tryz.infoInt
  refine wpList_make_full w hg l c 65 hop w.heap.size 70 i (.agg #[.bool false, .slice none 0 0]) 2 Tryz.sliceInt hi hz0 hz1 .i64 .i64 L C n hl hc hL hC (by rw [hz2]; omega) (by unfold maxLen; omega) (Nat.le_refl _) ?_
  intro w' h1 h2
  rw [made_nums] at h1
  refine hK w' _ rfl ⟨List.replicate n (false, .slice none 0 0), by simp, by simpa using h1, fun j p hp => ?_⟩ ((Below.refl _ _).grown h2 (Nat.le_refl _) (fun k hk => by cases hk))
  rw [List.getElem?_replicate] at hp
  split at hp
  · rename_i hj
    have hp2 := (Option.some.inj hp).symm
    rw [hp2, show (List.replicate n (0 : Int)).getD j 0 = 0 by simp [List.getD, hj]]
    exact zeroInt
  · cases hp

def stI (w : World) (g i : Nat) (b : Bool) (x : Value) : World := (w.setCell ⟨g, i * 2, none⟩ (.bool b)).setCell ⟨g, i * 2 + 1, none⟩ x

theorem OwnL.grow {B g c : Nat} {w : World} {zs : List Int} (h : OwnL B w (.slice (some ⟨g, 0, none⟩) zs.length c) zs) (i : Nat) (b : Bool) (x : Value) : w.grownBy (stI w g i b x) (some g) := by
  obtain ⟨cs, h1, h2, h3⟩ := h
  have g1 := World.ownsRow.stored h2 (i * 2) (.bool b)
  have g2 := World.ownsRow.stored g1.1 (i * 2 + 1) x
  exact ⟨g2.2.os.trans g1.2.os, g2.2.tape.trans g1.2.tape, g2.2.output.trans g1.2.output, Nat.le_trans g1.2.size g2.2.size, fun k hk hne => (g2.2.block k (Nat.lt_of_lt_of_le hk g1.2.size) hne).trans (g1.2.block k hk hne)⟩

theorem OwnL.storeI {B g c : Nat} {w : World} {zs : List Int} (h : OwnL B w (.slice (some ⟨g, 0, none⟩) zs.length c) zs) {i : Nat} (hi : i < zs.length) {b : Bool} {x : Value} {z : Int} (hz : IsI w (.agg #[.bool b, x]) z) :
    OwnL B (stI w g i b x) (.slice (some ⟨g, 0, none⟩) zs.length c) (zs.set i z) := by
  have hgr := h.grow i b x
  have hty := h.typ
  obtain ⟨cs, h1, h2, h3⟩ := h
  have g1 := (World.ownsRow.stored h2 (i * 2) (.bool b)).1
  have g2 := (World.ownsRow.stored g1 (i * 2 + 1) x).1
  rw [flat_set] at g2
  refine ⟨cs.set i (b, x), by simp [h1], by rw [List.length_set]; exact g2, fun j p hj => ?_⟩
  by_cases hij : i = j
  · subst hij
    rw [List.getElem?_set_self (by omega)] at hj
    have hp := (Option.some.inj hj).symm
    rw [hp, show (zs.set i z).getD i 0 = z by simp [List.getD, hi]]
    exact hz.kept hgr (fun k hk => hty k hk)
  · rw [List.getElem?_set_ne hij] at hj
    rw [show (zs.set i z).getD j 0 = zs.getD j 0 by simp [List.getD, List.getElem?_set_ne hij]]
    exact (h3 j p hj).kept hgr (fun k hk => hty k hk)

theorem IsL.keptI {w w' : World} {v : Value} {zs : List Int} {g : Nat} (h : IsL w v zs) (hg : w.grownBy w' (some g)) (hne : v.ownBlock ≠ some g) (ht : ∃ cur, w.heap[g]? = some (.cells cur 70 (0, 0))) : IsL w' v zs := by
  obtain ⟨cs, h1, h2, h3⟩ := h
  exact ⟨cs, h1, World.ownsRow.kept h2 hg (.inr hne), fun j p hj => (h3 j p hj).kept hg (fun k hk => by cases hk; exact ht)⟩

theorem IsB.keptI {w w' : World} {k g : Nat} {z : Int} (h : IsB w k z) (hg : w.grownBy w' (some g)) (hne : k ≠ g) (ht : ∃ cur, w.heap[g]? = some (.cells cur 70 (0, 0))) : IsB w' k z := by
  obtain ⟨b, x, h1, h2⟩ := h
  refine ⟨b, x, ?_, h2.kept hg (fun j hj => by cases hj; exact ht)⟩
  have hlt := h1.lt
  unfold Bx at h1 ⊢
  rw [hg.block k hlt (fun e => hne (by simpa using e))]
  exact h1

def QO (b a0 R P : List Int) (n : Nat) : Prop := ∃ Q, P = List.replicate n 0 ++ Q ∧ dvs b (a0.length + 1 - b.length) a0 = (dvs b n (tz R)).map (fun q => q ++ Q)

theorem QO.start {b a0 : List Int} (h : Tr a0) : QO b a0 a0 (List.replicate (a0.length + 1 - b.length) 0) (a0.length + 1 - b.length) := by
  refine ⟨[], by simp, ?_⟩
  rw [tz_eq h (fun _ => rfl)]
  simp

def quo1 (R b : List Int) (n : Nat) (c : Int) : List Int :=
  tab (max R.length (List.replicate n 0 ++ b.map fun x => x * c).length) fun k => R.getD k 0 - (List.replicate n 0 ++ b.map fun x => x * c).getD k 0

theorem quo1_getD (R b : List Int) (n : Nat) (c : Int) (k : Nat) : (quo1 R b n c).getD k 0 = R.getD k 0 - (if n ≤ k then c * b.getD (k - n) 0 else 0) := by
  have h2 : (List.replicate n 0 ++ b.map fun x => x * c).length = n + b.length := by simp
  unfold quo1
  rw [h2, tab_getD, getD_rep_app, map_mul_getD]
  split
  · by_cases h : k < n
    · rw [if_pos h, if_neg (by omega)]
    · rw [if_neg h, if_pos (by omega), Int.mul_comm]
  · rw [getD_out (show R.length ≤ k by omega), if_pos (show n ≤ k by omega), getD_out (show b.length ≤ k - n by omega)]
    simp

theorem quo1_same (R b : List Int) (n : Nat) (c : Int) : tz (quo1 R b n c) = take1 (tz R) b c n :=
  tz_eq (take1_tr _ _ _ _) fun k => by rw [quo1_getD, take1_getD, tz_getD]

theorem rep_set (n : Nat) (Q : List Int) (c : Int) : (List.replicate (n + 1) 0 ++ Q).set n c = List.replicate n 0 ++ ([c] ++ Q) := by
  rw [List.replicate_succ', List.append_assoc, List.set_append_right _ _ (by simp)]
  simp

theorem QO.next {b a0 R P : List Int} {n : Nat} (h : QO b a0 R P (n + 1)) (hm : (R.getD (n + b.length - 1) 0).tmod (lead b) = 0) :
    QO b a0 (quo1 R b n ((R.getD (n + b.length - 1) 0).tdiv (lead b))) (P.set n ((R.getD (n + b.length - 1) 0).tdiv (lead b))) n := by
  obtain ⟨Q, rfl, h2⟩ := h
  refine ⟨[(R.getD (n + b.length - 1) 0).tdiv (lead b)] ++ Q, rep_set _ _ _, ?_⟩
  rw [h2, dvs_step (by rw [tz_getD]; exact hm), map_map_app, quo1_same, tz_getD]

theorem QO.fails {b a0 R P : List Int} {n : Nat} (h : QO b a0 R P (n + 1)) (hm : (R.getD (n + b.length - 1) 0).tmod (lead b) ≠ 0) : dvs b (a0.length + 1 - b.length) a0 = none := by
  obtain ⟨Q, rfl, h2⟩ := h
  rw [h2, dvs_fail (by rw [tz_getD]; exact hm)]
  rfl

theorem QO.ends {b a0 R P : List Int} (h : QO b a0 R P 0) : (tz R = [] ∧ dvs b (a0.length + 1 - b.length) a0 = some P) ∨ (tz R ≠ [] ∧ dvs b (a0.length + 1 - b.length) a0 = none) := by
  obtain ⟨Q, h1, h2⟩ := h
  obtain rfl : P = Q := by simpa using h1
  by_cases hA : tz R = []
  · left; refine ⟨hA, ?_⟩; rw [h2, hA]; simp [dvs]
  · right; refine ⟨hA, ?_⟩; rw [h2]; simp [dvs, hA]

theorem qdiff_any (R b : List Int) (n : Nat) (c : Int) (u v : Value) (w : World) (hu : IsL w u R) (hv : IsL w v (List.replicate n 0 ++ b.map fun x => x * c)) (hl : R.length ≤ 1000) (hm : b.length ≤ 1000) (hn : n ≤ 1000) (fx : FitW R) (fy : FitW (List.replicate n 0 ++ b.map fun x => x * c)) :
    Calls Tryz.prog 78 #[u, v] w fun e w' => ∃ x, e = .returned x ∧ OwnL w.heap.size w' x (quo1 R b n c) ∧ Below w.heap.size w w' :=
  pdiff_any _ _ u v w hu hv (by omega) (by simp; omega) fx fy

theorem Bd.quo1 {A b : List Int} {e f : Nat} (hA : Bd A e) (hb : Bd b f) {c : Int} (hc : c.natAbs < 10 ^ e) (n : Nat) : Bd (quo1 A b n c) (e + f + 1) := by
  intro k
  rw [quo1_getD]
  split
  · exact lt_two_pow (hA k) (hb _) hc
  · rw [Int.sub_zero]
    exact Nat.lt_of_lt_of_le (hA k) (Nat.pow_le_pow_right (by omega) (by omega))

theorem Bd.set {l : List Int} {e : Nat} (h : Bd l e) (n : Nat) {c : Int} (hc : c.natAbs < 10 ^ e) : Bd (l.set n c) e := by
  intro k
  by_cases hk : n = k
  · subst hk
    by_cases hn : n < l.length
    · rw [show (l.set n c).getD n 0 = c by simp [List.getD, hn]]; exact hc
    · rw [getD_out (by simp; omega)]; exact Nat.pow_pos (by omega)
  · rw [show (l.set n c).getD k 0 = l.getD k 0 by simp [List.getD, List.getElem?_set_ne hk]]; exact h k

theorem Bd.zeros (n e : Nat) : Bd (List.replicate n 0) e := by
  intro k
  rw [show (List.replicate n (0 : Int)).getD k 0 = 0 from getD_zeros n k]
  exact Nat.pow_pos (by omega)

def QV (b a0 : List Int) (E : Nat) (w' : World) (x : Value) (fl : Bool) : Prop :=
  (fl = true ∧ ∃ Q, dvs b (a0.length + 1 - b.length) a0 = some Q ∧ IsL w' x Q ∧ Bd Q E) ∨ (fl = false ∧ dvs b (a0.length + 1 - b.length) a0 = none)




theorem Bx.stI {w : World} {k g i : Nat} {a b : Value} (h : Bx w k a b) (_ht : ∃ cur, w.heap[g]? = some (.cells cur 70 (0, 0))) (hne : k ≠ g) {c : Bool} {x : Value} : Bx (stI w g i c x) k a b := by
  unfold Bx Go.Proofs.YtldcjkhbiffdoabGreatDoor.stI at *
  rw [Below.heap_setCell _ _ _ _ hne, Below.heap_setCell _ _ _ _ hne]
  exact h

set_option maxRecDepth 100000 in
set_option maxHeartbeats 8000000 in
theorem quotientOf_any (A0 b : List Int) (e f : Nat) (u v : Value) (w : World) (hu : IsL w u A0) (hv : IsL w v b) (hl : A0.length ≤ 100) (hm : b.length ≤ 100) (fx : Bd A0 e) (fy : Bd b f) (he : e + (A0.length + 1 - b.length) * (f + 1) + f ≤ 70000000) (ta : Tr A0) (hb0 : b ≠ []) :
    Calls Tryz.prog 46 #[u, v] w fun en w' => ∃ x fl, en = .returned (.tuple #[x, .bool fl]) ∧ QV b A0 (e + (A0.length + 1 - b.length) * (f + 1)) w' x fl ∧ Below w.heap.size w w' := by
  obtain ⟨ua, uc, rfl⟩ := OwnL.val hu
  obtain ⟨va, vc, rfl⟩ := OwnL.val hv
  have hbl := List.length_pos_iff.2 hb0
  have hstart := QO.start (b := b) ta
  obtain ⟨T, HT⟩ : ∃ T : World → Value → Bool → Prop, Hid (T = QV b A0 (e + (A0.length + 1 - b.length) * (f + 1))) := ⟨_, rfl⟩
  rw [← HT.out]
  obtain ⟨N, HN⟩ : ∃ N, Hid (A0.length + 1 - b.length = N) := ⟨_, rfl⟩
  rw [HN.out] at hstart he HT
  have hNl : N ≤ A0.length := by have := HN.out; omega
  have hNa : 0 < N → N + b.length = A0.length + 1 := by have := HN.out; omega
  have hNb : N = 0 → (A0.length : Int) - b.length + 1 ≤ 0 := by have := HN.out; omega
  have HST0 : Hid (QO b A0 A0 (List.replicate N 0) N ∧ Bd A0 (e + (N - N) * (f + 1)) ∧ Bd (List.replicate N 0) (e + N * (f + 1))) := ⟨hstart, fx.mono (by omega), Bd.zeros _ _⟩
  clear hstart
  have hN1 := numberAt_any b (.slice va b.length vc) (b.length - 1) w hv
  obtain ⟨m2, HM2⟩ : ∃ m, Hid (b.length - 1 = m) := ⟨_, rfl⟩
  have hm2 : (b.length : Int) - 1 = m2 := by have := HM2.out; omega
  have hlead : b.getD (b.length - 1) 0 = lead b := rfl
  rw [hlead, HM2.out] at hN1
  have flb : (lead b).natAbs < 10 ^ f := fy.lead
  clear hlead
  have hune : ∀ k, (Value.slice ua A0.length uc).ownBlock = some k → k < w.heap.size := by
    obtain ⟨cs, _, h2, _⟩ := hu
    exact fun k hk => (World.ownsRow.lt h2 k hk).2
  have hcase : ((A0.length : Int) - b.length + 1 < 0 ∧ N = 0) ∨ (¬ ((A0.length : Int) - b.length + 1 < 0) ∧ (A0.length : Int) - b.length + 1 = N ∧ (A0.length : Int) - b.length = (N : Int) - 1) := by have := HN.out; omega
  go_enter Tryz.func46, Tryz.ntmps46
  go_wp2_with fail
  refine hN1.mono ?_
  rintro en w1 ⟨x1, rfl, hI1, hb1⟩
  obtain ⟨b1, a1, n1, c1, rfl⟩ := hI1.form
  rcases hcase with ⟨hneg, hN0⟩ | ⟨hpos, hNe, hNe2⟩
  · have HN0 : Hid (N = 0) := hN0
    have hk1 : (N : Int) - 1 = -1 := by omega
    clear hN0
    go_wp2_with (at_make; refine wpList_makeL rfl (.tmp 28) (.tmp 28) rfl _ _ N rfl rfl (by have := HN0.out; omega) (by have := HN0.out; omega) (by omega) ?_)
    intro w3 P0 HP0 hO3 hb3
    have hsz2 : (w1.alloc (Obj.cells #[Value.bool b1, Value.slice a1 n1 c1] 70)).heap.size = w1.heap.size + 1 := by simp
    have K2 : IsB (w1.alloc (Obj.cells #[Value.bool b1, Value.slice a1 n1 c1] 70)) w1.heap.size (lead b) := IsB.new hI1
    have hb2 := below_one w1 (Obj.cells #[Value.bool b1, Value.slice a1 n1 c1] 70)
    have hb3' : Below (w1.alloc (Obj.cells #[Value.bool b1, Value.slice a1 n1 c1] 70)).heap.size (w1.alloc (Obj.cells #[Value.bool b1, Value.slice a1 n1 c1] 70)) w3 := by rw [hsz2]; exact hb3
    have K3 := K2.below hb3'
    have hb12 := hb1.trans (hb2.mono hb1.size)
    have hbw3 := hb12.trans (hb3'.mono hb12.size)
    have hA3 := OwnL.below hu hbw3
    have hkm := hb1.size
    have hP0 : P0.length = N := by rw [HP0.out]; simp
    have HST := HST0
    rw [← HP0.out] at HST
    clear hb3 hb3' K2 hb2 hsz2 hI1 hb1 hb12 hN1
    obtain ⟨g, HG⟩ : ∃ g, Hid (w1.heap.size + 1 = g) := ⟨_, rfl⟩
    have hgk : w1.heap.size < g := by have := HG.out; omega
    rw [HG.out] at hO3 ⊢
    generalize w1.heap.size = kb at *
    have hwg : w.heap.size ≤ g := by omega
    have hne0 : (Value.slice ua A0.length uc).ownBlock ≠ some g := fun h => by have := hune g h; omega
    clear hune
    go_wp2_with fail
    go_loopw [9, 10] (fun r i wr => ∃ (n : Nat) (R P : List Int), i = .int .i64 ((n : Int) - 1) ∧ n ≤ N ∧ IsL wr r R ∧ r.ownBlock ≠ some g ∧ R.length ≤ A0.length ∧ P.length = N ∧ OwnL g wr (.slice (some ⟨g, 0, none⟩) N N) P ∧ Hid (QO b A0 R P n ∧ Bd R (e + (N - n) * (f + 1)) ∧ Bd P (e + N * (f + 1))) ∧ IsB wr kb (lead b) ∧ Below w.heap.size w wr) (fun _ i _ => (intOf i + 1).toNat)
    case atStart => exact ⟨N, A0, P0, by go_num, Nat.le_refl _, hA3, hne0, Nat.le_refl _, hP0, hO3, HST, K3, hbw3⟩
    case round =>
      clear hA3 hne0 hP0 hO3 HST K3 hbw3 HP0 hu HST0
      obtain ⟨n, R, P, rfl, hn, hR, hRne, hRl, hPl, hO, HQO, hK, hbel⟩ := hrel
      obtain ⟨ra, rc, rfl⟩ := OwnL.val hR
      cases n with
      | zero =>
        have hend := HQO.out.1.ends
        have hbP := HQO.out.2.2
        have hfR : ∀ i, i < R.length → Fit (R.getD i 0) := fun i _ => fitW_of (HQO.out.2.1 i) (by rw [Nat.sub_zero]; omega)
        have htr := ptrimmed_any R (.slice ra R.length rc) wr hR (by omega) hfR
        clear HQO
        generalize tz R = tR at *
        have HEND : Hid _ := hend
        clear hend
        have hneg : ((0 : Nat) : Int) - 1 < 0 := by omega
        go_wp2_with fail
        refine htr.mono ?_
        rintro en w5 ⟨x5, rfl, hI5, hb5⟩
        obtain ⟨a5, c5, rfl⟩ := OwnL.val hI5
        have hO5 := (OwnL.below hO hb5).isL
        have hcase : (tR = [] ∧ dvs b (A0.length + 1 - b.length) A0 = some P ∧ tR.length = 0) ∨ (tR ≠ [] ∧ dvs b (A0.length + 1 - b.length) A0 = none ∧ 0 < tR.length ∧ ¬ tR.length = 0) := by
          rcases HEND.out with ⟨h1, h2⟩ | ⟨h1, h2⟩
          · exact .inl ⟨h1, h2, by rw [h1]; rfl⟩
          · have := List.length_pos_iff.2 h1
            exact .inr ⟨h1, h2, this, by omega⟩
        have HC : Hid _ := hcase
        clear hcase HEND
        obtain ⟨L, HL⟩ : ∃ L, Hid (tR.length = L) := ⟨_, rfl⟩
        by_cases hL : tR.length = 0
        · go_wp2
          go_ret2
          refine ⟨_, _, rfl, ?_, hbel.trans (hb5.mono hbel.size)⟩
          rw [HT.out]
          rcases HC.out with ⟨_, h2, _⟩ | ⟨_, _, h3, _⟩
          · exact .inl ⟨by simp, P, h2, hO5, hbP⟩
          · omega
        · have hLp : 0 < tR.length := by omega
          go_wp2
          go_ret2
          refine ⟨_, _, rfl, ?_, hbel.trans (hb5.mono hbel.size)⟩
          rw [HT.out]
          rcases HC.out with ⟨_, _, h3⟩ | ⟨_, h2, _⟩
          · omega
          · exact .inr ⟨by simp; omega, h2⟩
      | succ n => exact absurd HN0.out (by omega)
  · go_wp2_with (at_make; refine wpList_makeL rfl (.tmp 28) (.tmp 28) rfl _ _ N rfl rfl (by omega) (by omega) (by omega) ?_)
    intro w3 P0 HP0 hO3 hb3
    have hsz2 : (w1.alloc (Obj.cells #[Value.bool b1, Value.slice a1 n1 c1] 70)).heap.size = w1.heap.size + 1 := by simp
    have K2 : IsB (w1.alloc (Obj.cells #[Value.bool b1, Value.slice a1 n1 c1] 70)) w1.heap.size (lead b) := IsB.new hI1
    have hb2 := below_one w1 (Obj.cells #[Value.bool b1, Value.slice a1 n1 c1] 70)
    have hb3' : Below (w1.alloc (Obj.cells #[Value.bool b1, Value.slice a1 n1 c1] 70)).heap.size (w1.alloc (Obj.cells #[Value.bool b1, Value.slice a1 n1 c1] 70)) w3 := by rw [hsz2]; exact hb3
    have K3 := K2.below hb3'
    have hb12 := hb1.trans (hb2.mono hb1.size)
    have hbw3 := hb12.trans (hb3'.mono hb12.size)
    have hA3 := OwnL.below hu hbw3
    have hkm := hb1.size
    have hP0 : P0.length = N := by rw [HP0.out]; simp
    have HST := HST0
    rw [← HP0.out] at HST
    clear hb3 hb3' K2 hb2 hsz2 hI1 hb1 hb12 hN1
    obtain ⟨g, HG⟩ : ∃ g, Hid (w1.heap.size + 1 = g) := ⟨_, rfl⟩
    have hgk : w1.heap.size < g := by have := HG.out; omega
    rw [HG.out] at hO3 ⊢
    generalize w1.heap.size = kb at *
    have hwg : w.heap.size ≤ g := by omega
    have hne0 : (Value.slice ua A0.length uc).ownBlock ≠ some g := fun h => by have := hune g h; omega
    clear hune
    go_wp2_with fail
    go_loopw [9, 10] (fun r i wr => ∃ (n : Nat) (R P : List Int), i = .int .i64 ((n : Int) - 1) ∧ n ≤ N ∧ IsL wr r R ∧ r.ownBlock ≠ some g ∧ R.length ≤ A0.length ∧ P.length = N ∧ OwnL g wr (.slice (some ⟨g, 0, none⟩) N N) P ∧ Hid (QO b A0 R P n ∧ Bd R (e + (N - n) * (f + 1)) ∧ Bd P (e + N * (f + 1))) ∧ IsB wr kb (lead b) ∧ Below w.heap.size w wr) (fun _ i _ => (intOf i + 1).toNat)
    case atStart => exact ⟨N, A0, P0, by go_num, Nat.le_refl _, hA3, hne0, Nat.le_refl _, hP0, hO3, HST, K3, hbw3⟩
    case round =>
      clear hA3 hne0 hP0 hO3 HST K3 hbw3 HP0 hu HST0
      obtain ⟨n, R, P, rfl, hn, hR, hRne, hRl, hPl, hO, HQO, hK, hbel⟩ := hrel
      obtain ⟨ra, rc, rfl⟩ := OwnL.val hR
      cases n with
      | zero =>
        have hend := HQO.out.1.ends
        have hbP := HQO.out.2.2
        have hfR : ∀ i, i < R.length → Fit (R.getD i 0) := fun i _ => fitW_of (HQO.out.2.1 i) (by rw [Nat.sub_zero]; omega)
        have htr := ptrimmed_any R (.slice ra R.length rc) wr hR (by omega) hfR
        clear HQO
        generalize tz R = tR at *
        have HEND : Hid _ := hend
        clear hend
        have hneg : ((0 : Nat) : Int) - 1 < 0 := by omega
        go_wp2_with fail
        refine htr.mono ?_
        rintro en w5 ⟨x5, rfl, hI5, hb5⟩
        obtain ⟨a5, c5, rfl⟩ := OwnL.val hI5
        have hO5 := (OwnL.below hO hb5).isL
        have hcase : (tR = [] ∧ dvs b (A0.length + 1 - b.length) A0 = some P ∧ tR.length = 0) ∨ (tR ≠ [] ∧ dvs b (A0.length + 1 - b.length) A0 = none ∧ 0 < tR.length ∧ ¬ tR.length = 0) := by
          rcases HEND.out with ⟨h1, h2⟩ | ⟨h1, h2⟩
          · exact .inl ⟨h1, h2, by rw [h1]; rfl⟩
          · have := List.length_pos_iff.2 h1
            exact .inr ⟨h1, h2, this, by omega⟩
        have HC : Hid _ := hcase
        clear hcase HEND
        obtain ⟨L, HL⟩ : ∃ L, Hid (tR.length = L) := ⟨_, rfl⟩
        by_cases hL : tR.length = 0
        · go_wp2
          go_ret2
          refine ⟨_, _, rfl, ?_, hbel.trans (hb5.mono hbel.size)⟩
          rw [HT.out]
          rcases HC.out with ⟨_, h2, _⟩ | ⟨_, _, h3, _⟩
          · exact .inl ⟨by simp, P, h2, hO5, hbP⟩
          · omega
        · have hLp : 0 < tR.length := by omega
          go_wp2
          go_ret2
          refine ⟨_, _, rfl, ?_, hbel.trans (hb5.mono hbel.size)⟩
          rw [HT.out]
          rcases HC.out with ⟨_, _, h3⟩ | ⟨_, h2, _⟩
          · omega
          · exact .inr ⟨by simp; omega, h2⟩
      | succ n =>
        rw [show (((n + 1 : Nat) : Int) - 1) = (n : Int) by omega]
        obtain ⟨E, HE⟩ : ∃ E, Hid (e + (N - (n + 1)) * (f + 1) = E) := ⟨_, rfl⟩
        have hbR := HQO.out.2.1
        have hbP := HQO.out.2.2
        rw [HE.out] at hbR
        have hE1 : E + (f + 1) ≤ e + N * (f + 1) := by
          have h1 : (N - (n + 1) + 1) * (f + 1) ≤ N * (f + 1) := Nat.mul_le_mul (by omega) (Nat.le_refl _)
          rw [Nat.succ_mul] at h1
          have := HE.out
          omega
        have hE2 : E + f + 1 = e + (N - n) * (f + 1) := by
          have h1 : N - n = N - (n + 1) + 1 := by omega
          rw [h1, Nat.succ_mul]
          have := HE.out
          omega
        have hnb : n + b.length ≤ A0.length := by have := hNa (by omega); omega
        have hnx := fun hm => QO.next HQO.out.1 hm
        have hfl := fun hm => QO.fails HQO.out.1 hm
        obtain ⟨q, HQ⟩ : ∃ q, Hid (n + b.length - 1 = q) := ⟨_, rfl⟩
        have hq1 : (n : Int) + b.length - 1 = q := by have := HQ.out; omega
        rw [HQ.out] at hnx hfl
        have htop := numberAt_any R (.slice ra R.length rc) q wr hR
        have ftop := hbR q
        generalize R.getD q 0 = top at *
        have fiT : Fit top := fitW_of ftop (by omega)
        have hdv := fun (W : World) (u1 u2 : Value) (g1 : IsI W u1 top) (g2 : IsI W u2 (lead b)) => divide_any u1 u2 top (lead b) W g1 g2 fiT (fitW_of flb (by omega))
        have hmle : (top.tmod (lead b)).natAbs ≤ top.natAbs := by rw [Int.natAbs_tmod]; exact Nat.mod_le _ _
        have hcle := natAbs_tdiv_le top (lead b)
        generalize top.tmod (lead b) = md at *
        generalize top.tdiv (lead b) = c at *
        have fc : c.natAbs < 10 ^ E := by omega
        have hsg := fun (W : World) (u1 : Value) (g1 : IsI W u1 md) => sign_any u1 md W g1 (fiT.le hmle)
        have HDV : Hid _ := hdv
        have HSG : Hid _ := hsg
        clear hdv hsg
        obtain ⟨lb, la, ln, lc, K0, hKI⟩ := hK.open
        go_wp2_with fail
        refine htop.mono ?_
        rintro en w4 ⟨x4, rfl, hI4, hb4⟩
        obtain ⟨b4, a4, n4, c4, rfl⟩ := hI4.form
        have K4 := K0.below hb4
        have k0 := K4.c0; have k1 := K4.c1; have k2 := K4.lt
        go_wp2_with fail
        generalize hW5 : w4.alloc (Obj.cells #[Value.bool b4, Value.slice a4 n4 c4] 70) = W5
        obtain ⟨hb5, _⟩ := one_new hW5
        clear hW5
        have hb5w := hb4.trans (hb5.mono hb4.size)
        refine (HDV.out W5 _ _ (hI4.below hb5) (hKI.below hb5w)).mono ?_
        rintro en w6 ⟨x6, y6, rfl, hI6, hJ6, hb6⟩
        obtain ⟨b6, a6, n6, c6, rfl⟩ := hI6.form
        obtain ⟨b7, a7, n7, c7, rfl⟩ := hJ6.form
        have hb6w := hb5w.trans (hb6.mono hb5w.size)
        clear k0 k1 k2 K4
        go_wp2_with fail
        generalize hW7 : (w6.alloc (Obj.cells #[Value.bool b6, Value.slice a6 n6 c6] 70)).alloc (Obj.cells #[Value.bool b7, Value.slice a7 n7 c7] 70) = W7
        obtain ⟨_, hb7, X7, _⟩ := two_new hW7
        clear hW7
        have hb7w := hb6w.trans (hb7.mono hb6w.size)
        refine (HSG.out W7 _ (hJ6.below hb7)).mono ?_
        rintro en w8 ⟨rfl, hb8⟩
        have hb8w := hb7w.trans (hb8.mono hb7w.size)
        have X8 := X7.below hb8
        have hI8 := (hI6.below hb7).below hb8
        by_cases hmd : md = 0
        · rw [show sgn3 md = 0 by simp [sgn3, hmd]]
          have hO8 := OwnL.below hO hb8w
          have hgx : g < w8.heap.size := by
            obtain ⟨cs, _, h2, _⟩ := hO8
            exact (World.ownsRow.lt h2 g rfl).2
          have hty8 : ∃ cur, w8.heap[g]? = some (.cells cur 70 (0, 0)) := hO8.typ g rfl
          rw [← hPl] at hO8
          have hgr := hO8.grow n b6 (.slice a6 n6 c6)
          have hO9 := hO8.storeI (i := n) (by omega) hI8
          have hR9 := IsL.keptI (hR.below hb8w) hgr hRne hty8
          have hK9 := (hK.below hb8w).keptI hgr (by omega) hty8
          have hI9 : IsI (stI w8 g n b6 (.slice a6 n6 c6)) (.agg #[.bool b6, .slice a6 n6 c6]) c := hI8.kept hgr (fun j hj => by cases hj; exact hty8)
          have hbw8 := hbel.trans (hb8w.mono hbel.size)
          have hbw9 : Below w.heap.size w (stI w8 g n b6 (.slice a6 n6 c6)) := (hbw8.setCell hwg _).setCell hwg _
          have hsz9 : w8.heap.size ≤ (stI w8 g n b6 (.slice a6 n6 c6)).heap.size := hgr.size
          obtain ⟨gq, bq, xaq, xnq, xcq, hgq, _, _, _, _, cq0, cq1, _⟩ := OwnL.at hO8 n (by omega)
          simp at hgq
          subst hgq
          have fq0 : w8.frozen? ⟨g, n * 2, none⟩ = false := by obtain ⟨cs, _, h2, _⟩ := hO8; exact h2.frozenAt _
          have fq1 : w8.frozen? ⟨g, n * 2 + 1, none⟩ = false := by obtain ⟨cs, _, h2, _⟩ := hO8; exact h2.frozenAt _
          rw [hPl] at hO9
          have hx0 := X8.c0; have hx1 := X8.c1
          have hx2 := (Bx.stI X8 hty8 (by have h1 := hb6w.size; have h2 : g < wr.heap.size := by { obtain ⟨cs, _, h2, _⟩ := hO; exact (World.ownsRow.lt h2 g rfl).2 }; omega) : Bx (stI w8 g n b6 (.slice a6 n6 c6)) _ _ _)
          have ht1 := fun (W : World) (v1 : Value) (g1 : IsL W (.slice va b.length vc) b) (g2 : IsI W v1 c) => times_any b c f E n (.slice va b.length vc) v1 W g1 g2 (by omega) (by omega) fy fc (by omega) (by omega)
          have hdf := fun (W : World) (u1 u2 : Value) (g1 : IsL W u1 R) (g2 : IsL W u2 (List.replicate n 0 ++ b.map fun x => x * c)) => qdiff_any R b n c u1 u2 W g1 g2 (by omega) (by omega) (by omega) (hbR.fitW (by omega)) ((fy.timesW fc).fitW (by omega))
          have hQN : Hid (QO b A0 (quo1 R b n c) (P.set n c) n ∧ Bd (quo1 R b n c) (e + (N - n) * (f + 1)) ∧ Bd (P.set n c) (e + N * (f + 1))) := ⟨hnx hmd, by rw [← hE2]; exact hbR.quo1 fy fc n, hbP.set n (Nat.lt_of_lt_of_le fc (Nat.pow_le_pow_right (by omega) (by omega)))⟩
          have hlen1 : (quo1 R b n c).length ≤ A0.length := by unfold quo1; rw [tab_len]; simp; omega
          have HT1 : Hid _ := ht1
          have HDF : Hid _ := hdf
          have hg6 : g < w6.heap.size := by have h1 := hb6w.size; have h2 : g < wr.heap.size := by { obtain ⟨cs, _, h2, _⟩ := hO; exact (World.ownsRow.lt h2 g rfl).2 }; omega
          have hne6 : ¬ w6.heap.size = g := by omega
          have hne7 : ¬ g = w6.heap.size := by omega
          have HHI : Hid _ := (⟨hO9, hR9, hK9, hI9, hbw9, hsz9, hx2⟩ : _ ∧ _ ∧ _ ∧ _ ∧ _ ∧ _ ∧ _)
          clear ht1 hdf hnx hfl HQO hbR hbP hE1 hE2 ftop fc hO9 hR9 hK9 hI9 hbw9 hsz9 hx2 hgr hKI K0
          generalize quo1 R b n c = R2 at *
          generalize (List.replicate n 0 ++ b.map fun x => x * c) = L2 at *
          go_wp2_with fail
          obtain ⟨hO9, hR9, hK9, hI9, hbw9, hsz9, hx2⟩ := HHI.out
          have hgW : g < (stI w8 g n b6 (.slice a6 n6 c6)).heap.size := by omega
          rw [show (w8.setCell ⟨g, n * 2, none⟩ (.bool b6)).setCell ⟨g, n * 2 + 1, none⟩ (.slice a6 n6 c6) = stI w8 g n b6 (.slice a6 n6 c6) from rfl]
          clear HHI
          generalize stI w8 g n b6 (.slice a6 n6 c6) = W9 at *
          refine (HT1.out W9 _ (OwnL.below hv hbw9) hI9).mono ?_
          rintro en w10 ⟨x10, rfl, hI10, hb10⟩
          obtain ⟨a10, c10, rfl⟩ := OwnL.val hI10
          go_wp2_with fail
          refine (HDF.out w10 _ _ (OwnL.below hR9 hb10) hI10.isL).mono ?_
          rintro en w11 ⟨x11, rfl, hI11, hb11⟩
          obtain ⟨a11, c11, rfl⟩ := OwnL.val hI11
          have hb11w := hb10.trans (hb11.mono hb10.size)
          have hne11 : (Value.slice a11 R2.length c11).ownBlock ≠ some g := fun h => by have := hI11.block g h; have := hb10.size; omega
          have hO11 := OwnL.below hO9 hb11w
          have hK11 := hK9.below hb11w
          have hbw11 := hbw9.trans (hb11w.mono hbw9.size)
          have hPl2 : (P.set n c).length = N := by rw [List.length_set]; exact hPl
          go_wp2
          go_roundw
          case rel => exact ⟨n, R2, P.set n c, by go_num, by omega, hI11.isL, hne11, hlen1, hPl2, hO11, hQN, hK11, hbw11⟩
          case measure => simp [intOf]
        · have hne2 : sgn3 md ≠ 0 := by unfold sgn3; split <;> omega
          have hnone := hfl hmd
          generalize sgn3 md = sm at *
          have hbw8 := hbel.trans (hb8w.mono hbel.size)
          have HNO : Hid _ := hnone
          clear hnone hnx hfl HQO
          go_wp2
          go_ret2
          refine ⟨_, _, rfl, ?_, hbw8⟩
          rw [HT.out]
          exact .inr ⟨rfl, HNO.out⟩

end Go.Proofs.YtldcjkhbiffdoabGreatDoor

namespace Go.Proofs.YtldcjkhbiffdoabGreatDoor
open Go.RowKit

end Go.Proofs.YtldcjkhbiffdoabGreatDoor
