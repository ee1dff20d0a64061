import Derived.Test.YtldcjkhbiffdoabGreatDoorM00
import Derived.Test.YtldcjkhbiffdoabGreatDoorM01

namespace Go.Proofs.YtldcjkhbiffdoabGreatDoor
open Go.RowKit

theorem wpList_makeZ {ops : Array Oper} {rest : List Oper} {o : Oper} {a : Act} {Q : Exit → Act → World → Prop} {w : World} (hg : o.guard = none) (l c : Operand) (hop : o.op = Op.makeSlice 42 l c)
    (L C : Int) (n : Nat) (hl : a.eval l = .int .i64 L) (hc : a.eval c = .int .i64 C) (hL : L = (n : Int)) (hC : C = (n : Int)) (hn : n ≤ 1000000000000)
    (hK : ∀ w' P, Hid (P = List.replicate n 0) → w'.ownsRow w.heap.size 3 1 (.slice (some ⟨w.heap.size, 0, none⟩) n n) n (P.map (Value.int .i64)) → Below w.heap.size w w' → wpList Tryz.prog ops Q rest (a.put o.dst (.slice (some ⟨w.heap.size, 0, none⟩) n n)) w') :
    wpList Tryz.prog ops Q (o :: rest) a w := by
  obtain ⟨i, hi, hz0, hz1, hz2⟩ := info_parts Tryz.infoIntN
  refine wpList_make_full w hg l c 42 hop w.heap.size 3 i (.int .i64 0) 1 Tryz.sliceIntN hi hz0 hz1 .i64 .i64 L C n hl hc hL hC (by rw [hz2]; omega) (by unfold maxLen; omega) (Nat.le_refl _) ?_
  intro w' h1 h2
  rw [made_zeros] at h1
  exact hK w' _ rfl h1 ((Below.refl _ _).grown h2 (Nat.le_refl _) (fun k hk => by cases hk))

theorem made_ownN {B n g : Nat} {w : World} {P : List Int} (h : w.ownsRow B 3 1 (.slice (some ⟨g, 0, none⟩) n n) n (P.map (Value.int .i64))) (hP : P.length = n) : OwnN B w (.slice (some ⟨g, 0, none⟩) n n) P := by
  unfold OwnN; rw [hP]; exact h

theorem owned_blockN {w : World} {B n g c : Nat} {xs : List Value} (h : w.ownsRow B 3 1 (.slice (some ⟨g, 0, none⟩) n c) n xs) : ∃ cur, w.heap[g]? = some (.cells cur 3 (0, 0)) ∧ cur.size = c ∧ B ≤ g ∧ n ≤ c ∧ c ≤ maxLen ∧ cur.toList.take n = xs := by
  rcases h.2 with ⟨h1, _⟩ | ⟨g', cap, cur, hv, hb, hg, hnc, hcm, hcs, ht⟩
  · cases h1
  · simp only [Value.slice.injEq, true_and, Option.some.injEq, Addr.mk.injEq, and_true] at hv
    obtain ⟨rfl, rfl⟩ := hv
    exact ⟨cur, hg, by simpa using hcs, hb, hnc, hcm, by simpa using ht⟩

theorem copyN_run {w : World} (B g n : Nat) (P l : List Int) (ua : Option Addr) (uc : Nat) (hr : RowN w (.slice ua l.length uc) l) (hn : n ≤ l.length)
    (hown : w.ownsRow B 3 1 (.slice (some ⟨g, 0, none⟩) n n) n (P.map (Value.int .i64))) :
    ∃ w2, (Builtin.copy_ #[42, 42] 3 #[.slice (some ⟨g, 0, none⟩) n n, .slice ua l.length uc]).run Tryz.prog w = .ok (goInt n) w2 ∧ OwnN B w2 (.slice (some ⟨g, 0, none⟩) n n) (l.take n) ∧ Below B w w2 := by
  obtain ⟨i, hi, hz0, hz1, hz2⟩ := info_parts Tryz.infoIntN
  obtain ⟨cur, hg, hcs, hB, _, hcm, _⟩ := owned_blockN hown
  have hlt : (l.take n).length = n := by rw [List.length_take]; omega
  have hlen : ((l.take n).map (Value.int .i64)).length = n := by rw [List.length_map, hlt]
  by_cases h0 : n = 0
  · subst h0
    refine ⟨w, run_copy_none (P := Tryz.prog) w 42 42 3 3 (some ⟨g, 0, none⟩) ua 0 0 l.length uc Tryz.sliceIntN (by rw [hi]; simp [hz1]) (by simp), ?_, Below.refl _ _⟩
    refine ⟨by simp, .inr ⟨g, 0, cur, by simp, hB, hg, by simp, by simp [maxLen], by simpa using hcs, by simp⟩⟩
  · obtain ⟨ga, rfl, _⟩ := hr.at 0 (by omega)
    have hrun := run_copy_row (P := Tryz.prog) w 42 42 3 3 g 0 n n ⟨ga, 0, none⟩ l.length uc cur 3 ((l.take n).map (Value.int .i64)) Tryz.sliceIntN (by rw [hi]; simp [hz1]) hg (by rw [hlen]; exact (Nat.min_eq_right hn).symm) ?_ (by rw [hlen]; omega) ?_
    · rw [hlen] at hrun
      refine ⟨_, hrun, ?_, below_setRow (Below.refl _ _) hB _⟩
      have hg2 := setRow_heap w g cur (cur.toList.take 0 ++ (l.take n).map (Value.int .i64) ++ cur.toList.drop (0 + n)).toArray 3 (0, 0) hg
      have hsp : cur.toList.take 0 ++ (l.take n).map (Value.int .i64) ++ cur.toList.drop (0 + n) = (l.take n).map (Value.int .i64) := by
        rw [List.drop_eq_nil_of_le (by rw [Array.length_toList, hcs]; omega)]
        simp
      rw [hsp] at hg2 ⊢
      unfold OwnN
      rw [hlt]
      refine ⟨by rw [hlen]; omega, .inr ⟨g, n, _, rfl, hB, hg2, Nat.le_refl _, hcm, ?_, ?_⟩⟩
      · simp; omega
      · rw [List.take_of_length_le]
        simp; omega
    · intro j v hj
      have hj' : j < n := by
        have := (List.getElem?_eq_some_iff.1 hj).1
        omega
      obtain ⟨ga', e, _, _, _, hc⟩ := hr.at j (by omega)
      simp at e
      subst e
      have hv : v = .int .i64 (l.getD j 0) := by
        rw [getD_lt (show j < l.length by omega)]
        simp [List.getElem?_take_of_lt hj', List.getElem?_eq_getElem (show j < l.length by omega)] at hj
        exact hj.symm
      have ha : (⟨ga, 0, none⟩ : Addr).add j = ⟨ga, j, none⟩ := by cases j <;> simp [Addr.add]
      rw [hv, ha]
      exact hc
    · intro v hv
      obtain ⟨z, _, rfl⟩ := List.mem_map.1 hv
      rfl


end Go.Proofs.YtldcjkhbiffdoabGreatDoor

namespace Go.Proofs.YtldcjkhbiffdoabGreatDoor

def take1 (R b : List Int) (c : Int) (n : Nat) : List Int :=
  tz (tab (max R.length (n + b.length)) fun k => R.getD k 0 - (if n ≤ k then c * b.getD (k - n) 0 else 0))

theorem take1_getD (R b : List Int) (c : Int) (n k : Nat) : (take1 R b c n).getD k 0 = R.getD k 0 - (if n ≤ k then c * b.getD (k - n) 0 else 0) := by
  unfold take1
  rw [tz_getD, tab_getD]
  split
  · rfl
  · rw [getD_out (show R.length ≤ k by omega), if_pos (show n ≤ k by omega), getD_out (show b.length ≤ k - n by omega)]
    simp

theorem take1_tr (R b : List Int) (c : Int) (n : Nat) : Tr (take1 R b c n) := tr_tz _

theorem take1_zero {R : List Int} (b : List Int) (n : Nat) (h : Tr R) : take1 R b 0 n = R :=
  (take1_tr _ _ _ _).ext h fun k => by rw [take1_getD]; simp

def lead (b : List Int) : Int := b.getD (b.length - 1) 0

def dvs (b : List Int) : Nat → List Int → Option (List Int)
  | 0, R => if R = [] then some [] else none
  | n + 1, R =>
    if (R.getD (n + b.length - 1) 0).tmod (lead b) = 0 then
      (dvs b n (take1 R b ((R.getD (n + b.length - 1) 0).tdiv (lead b)) n)).map (fun q => q ++ [(R.getD (n + b.length - 1) 0).tdiv (lead b)])
    else none

theorem dvs_fail {b R : List Int} {n : Nat} (h : (R.getD (n + b.length - 1) 0).tmod (lead b) ≠ 0) : dvs b (n + 1) R = none := by
  unfold dvs; rw [if_neg h]

theorem dvs_step {b R : List Int} {n : Nat} (h : (R.getD (n + b.length - 1) 0).tmod (lead b) = 0) :
    dvs b (n + 1) R = (dvs b n (take1 R b ((R.getD (n + b.length - 1) 0).tdiv (lead b)) n)).map (fun q => q ++ [(R.getD (n + b.length - 1) 0).tdiv (lead b)]) := by
  rw [dvs]; rw [if_pos h]

theorem dvs_len {b : List Int} : ∀ {n : Nat} {R q : List Int}, dvs b n R = some q → q.length = n
  | 0, R, q, h => by
    unfold dvs at h
    split at h
    · cases h; rfl
    · cases h
  | n + 1, R, q, h => by
    by_cases h1 : (R.getD (n + b.length - 1) 0).tmod (lead b) = 0
    · rw [dvs_step h1] at h
      cases h2 : dvs b n (take1 R b ((R.getD (n + b.length - 1) 0).tdiv (lead b)) n) with
      | none => rw [h2] at h; cases h
      | some q' =>
        rw [h2] at h
        cases h
        simp [dvs_len h2]
    · rw [dvs_fail h1] at h; cases h

theorem dvs_skip {b R : List Int} (hR : Tr R) {n : Nat} (h : R.getD (n + b.length - 1) 0 = 0) : dvs b (n + 1) R = (dvs b n R).map (fun q => q ++ [0]) := by
  rw [dvs_step (by rw [h]; simp), h]
  simp only [Int.zero_tdiv]
  rw [take1_zero b n hR]

theorem map_map_app (o : Option (List Int)) (p q : List Int) : (o.map (fun x => x ++ p)).map (fun x => x ++ q) = o.map (fun x => x ++ (p ++ q)) := by
  cases o with
  | none => rfl
  | some x => simp

theorem dvs_skips {b R : List Int} (hR : Tr R) (n : Nat) (hb : 0 < b.length) : ∀ d, R.length ≤ n + b.length - 1 → dvs b (n + d) R = (dvs b n R).map (fun q => q ++ List.replicate d 0)
  | 0, _ => by
    cases h : dvs b n R with
    | none => simp
    | some q => simp
  | d + 1, h => by
    rw [show n + (d + 1) = n + d + 1 by omega, dvs_skip hR (getD_out (by omega)), dvs_skips hR n hb d h, map_map_app]
    rw [List.replicate_succ']

structure DR (b a0 : List Int) (A q : List Int) (n : Nat) : Prop where
  tr : Tr A
  len : A.length ≤ n + b.length - 1
  res : ∃ Q, dvs b (a0.length + 1 - b.length) a0 = (dvs b n A).map (fun x => x ++ Q) ∧ q = tz (List.replicate n 0 ++ Q)
  le : n ≤ a0.length + 1 - b.length

theorem DR.start {b a0 : List Int} (h : Tr a0) : DR b a0 a0 [] (a0.length + 1 - b.length) := by
  refine ⟨h, by omega, ⟨[], ?_, ?_⟩, ?_⟩
  · simp
  · rw [tz_eq Tr.nil]
    intro k
    rw [List.append_nil]
    rcases Nat.lt_or_ge k (a0.length + 1 - b.length) with h | h
    · simp [List.getD, h]
    · rw [getD_out (by simpa using h), getD_out (by simp)]
  · exact Nat.le_refl _

theorem getD_rep_app (n : Nat) (Q : List Int) (k : Nat) : (List.replicate n 0 ++ Q).getD k 0 = if k < n then 0 else Q.getD (k - n) 0 := by
  split
  · rename_i h
    simp [List.getD, List.getElem?_append_left (show k < (List.replicate n (0 : Int)).length by simpa using h), h]
  · rename_i h
    simp [List.getD, List.getElem?_append_right (show (List.replicate n (0 : Int)).length ≤ k by simp; omega)]

theorem DR.next {b a0 A q : List Int} {n : Nat} (h : DR b a0 A q n) (hb : 0 < b.length) (hA : b.length ≤ A.length) (hm : (lead A).tmod (lead b) = 0) :
    DR b a0 (take1 A b ((lead A).tdiv (lead b)) (A.length - b.length)) (tz (tab (max q.length (A.length - b.length + 1)) fun k => q.getD k 0 + (mono (A.length - b.length) ((lead A).tdiv (lead b))).getD k 0)) (A.length - b.length) ∧ A.length - b.length < n := by
  obtain ⟨htr, hlen, ⟨Q, h1, h2⟩, hle⟩ := h
  obtain ⟨d, hd⟩ : ∃ d, A.length - b.length = d := ⟨_, rfl⟩
  rw [hd]
  have hdn : d < n := by omega
  have hAd : A.length = d + b.length := by omega
  have hlA : lead A = A.getD (d + b.length - 1) 0 := by unfold lead; rw [hAd]
  obtain ⟨e, he⟩ : ∃ e, n = d + 1 + e := ⟨n - (d + 1), by omega⟩
  have h3 : dvs b n A = (dvs b (d + 1) A).map (fun x => x ++ List.replicate e 0) := by
    rw [he]; exact dvs_skips htr (d + 1) hb e (by omega)
  rw [hlA] at hm
  refine ⟨⟨take1_tr _ _ _ _, ?_, ?_, by omega⟩, hdn⟩
  · refine (take1_tr _ _ _ _).lenN fun k hk => ?_
    rw [take1_getD]
    rcases Nat.lt_or_ge k (d + b.length) with h5 | h5
    · have hk1 : k = d + b.length - 1 := by omega
      rw [if_pos (by omega), hlA]
      have hk2 : b.getD (k - d) 0 = lead b := by unfold lead; rw [show k - d = b.length - 1 by omega]
      rw [hk2, hk1]
      have := Int.mul_tdiv_add_tmod (A.getD (d + b.length - 1) 0) (lead b)
      rw [hm, Int.mul_comm] at this
      omega
    · rw [getD_out (show A.length ≤ k by omega), if_pos (by omega), getD_out (show b.length ≤ k - d by omega)]
      simp
  · refine ⟨[(lead A).tdiv (lead b)] ++ (List.replicate e 0 ++ Q), ?_, ?_⟩
    · rw [h1, h3, dvs_step hm, map_map_app, map_map_app, hlA]
    · refine tz_ext fun k => ?_
      have hq : q.getD k 0 = if k < n then 0 else Q.getD (k - n) 0 := by rw [h2, tz_getD, getD_rep_app]
      rw [tab_getD, mono_getD, getD_rep_app]
      split
      · rw [hq]
        rcases Nat.lt_trichotomy k d with h5 | h5 | h5
        · rw [if_pos (by omega), if_neg (by omega), if_pos h5]; simp
        · subst h5
          rw [if_pos hdn, if_pos rfl, if_neg (by omega)]
          simp
        · rw [if_neg (show ¬ k = d by omega), if_neg (show ¬ k < d by omega)]
          rw [show k - d = (k - d - 1) + 1 by omega]
          simp only [List.singleton_append, List.getD_cons_succ, Int.add_zero]
          rw [getD_rep_app]
          by_cases h6 : k < n
          · rw [if_pos h6, if_pos (by omega)]
          · rw [if_neg h6, if_neg (by omega)]
            congr 1; omega
      · rename_i h5
        have h6 : q.getD k 0 = 0 := getD_out (by omega)
        rw [hq] at h6
        rw [if_neg (show ¬ k < d by omega)]
        rw [show k - d = (k - d - 1) + 1 by omega]
        simp only [List.singleton_append, List.getD_cons_succ]
        rw [getD_rep_app]
        by_cases h7 : k < n
        · rw [if_pos (by omega)]
        · rw [if_neg (by omega)]
          rw [if_neg h7] at h6
          rw [show k - d - 1 - e = k - n by omega]
          exact h6.symm

theorem DR.fails {b a0 A q : List Int} {n : Nat} (h : DR b a0 A q n) (hb : 0 < b.length) (hA : b.length ≤ A.length) (hm : (lead A).tmod (lead b) ≠ 0) :
    dvs b (a0.length + 1 - b.length) a0 = none := by
  obtain ⟨htr, hlen, ⟨Q, h1, h2⟩, hle⟩ := h
  obtain ⟨d, hd⟩ : ∃ d, A.length = d + b.length := ⟨A.length - b.length, by omega⟩
  have hlA : lead A = A.getD (d + b.length - 1) 0 := by unfold lead; rw [hd]
  obtain ⟨e, he⟩ : ∃ e, n = d + 1 + e := ⟨n - (d + 1), by omega⟩
  rw [h1, he, dvs_skips htr (d + 1) hb e (by omega)]
  rw [hlA] at hm
  rw [dvs_fail hm]
  rfl

theorem DR.ends {b a0 A q : List Int} {n : Nat} (h : DR b a0 A q n) (hb : 0 < b.length) (hA : A.length < b.length) :
    (A = [] ∧ ∃ Q, dvs b (a0.length + 1 - b.length) a0 = some Q ∧ q = tz Q) ∨ (A ≠ [] ∧ dvs b (a0.length + 1 - b.length) a0 = none) := by
  obtain ⟨htr, hlen, ⟨Q, h1, h2⟩, hle⟩ := h
  have h3 := dvs_skips htr 0 hb n (by omega)
  rw [Nat.zero_add] at h3
  rw [h3] at h1
  by_cases hA0 : A = []
  · left
    refine ⟨hA0, List.replicate n 0 ++ Q, ?_, h2⟩
    rw [h1]
    subst hA0
    simp [dvs]
  · right
    refine ⟨hA0, ?_⟩
    rw [h1]
    simp [dvs, hA0]

def Bd (l : List Int) (e : Nat) : Prop := ∀ k, (l.getD k 0).natAbs < 10 ^ e

theorem Bd.mono {l : List Int} {e f : Nat} (h : Bd l e) (hf : e ≤ f) : Bd l f :=
  fun k => Nat.lt_of_lt_of_le (h k) (Nat.pow_le_pow_right (by omega) hf)

theorem lt_two_pow {e f : Nat} {x y c : Int} (hx : x.natAbs < 10 ^ e) (hy : y.natAbs < 10 ^ f) (hc : c.natAbs < 10 ^ e) : (x - c * y).natAbs < 10 ^ (e + f + 1) := by
  have h1 : (x - c * y).natAbs ≤ x.natAbs + (c * y).natAbs := by omega
  rw [Int.natAbs_mul] at h1
  have h2 : c.natAbs * y.natAbs ≤ 10 ^ e * 10 ^ f := Nat.mul_le_mul (Nat.le_of_lt hc) (Nat.le_of_lt hy)
  have h3 : 10 ^ e ≤ 10 ^ e * 10 ^ f := Nat.le_mul_of_pos_right _ (Nat.pow_pos (by omega))
  rw [Nat.pow_succ, Nat.pow_add]
  have h4 : 0 < 10 ^ e * 10 ^ f := Nat.mul_pos (Nat.pow_pos (by omega)) (Nat.pow_pos (by omega))
  omega

theorem Bd.take1 {A b : List Int} {e f : Nat} (hA : Bd A e) (hb : Bd b f) {c : Int} (hc : c.natAbs < 10 ^ e) (n : Nat) : Bd (take1 A b c n) (e + f + 1) := by
  intro k
  rw [take1_getD]
  split
  · exact lt_two_pow (hA k) (hb _) hc
  · rw [Int.sub_zero]
    exact Nat.lt_of_lt_of_le (hA k) (Nat.pow_le_pow_right (by omega) (by omega))

theorem natAbs_tdiv_le (a b : Int) : (a.tdiv b).natAbs ≤ a.natAbs := by
  rw [Int.natAbs_tdiv]; exact Nat.div_le_self _ _

end Go.Proofs.YtldcjkhbiffdoabGreatDoor

namespace Go.Proofs.YtldcjkhbiffdoabGreatDoor

def cont (l : List Int) : Nat := l.foldl (fun g c => Int.gcd g c) 0

theorem foldl_gcd_dvd : ∀ (l : List Int) (g : Nat), (l.foldl (fun g c => Int.gcd g c) g) ∣ g ∧ ∀ c, c ∈ l → ((l.foldl (fun g c => Int.gcd (g : Int) c) g : Nat) : Int) ∣ c
  | [], g => ⟨Nat.dvd_refl _, fun c h => by simp at h⟩
  | x :: l, g => by
    obtain ⟨h1, h2⟩ := foldl_gcd_dvd l (Int.gcd g x)
    refine ⟨Nat.dvd_trans h1 ?_, fun c hc => ?_⟩
    · have := Int.gcd_dvd_left (a := (g : Int)) (b := x)
      exact Int.natCast_dvd_natCast.1 this
    · rcases List.mem_cons.1 hc with rfl | hc
      · exact Int.dvd_trans (Int.natCast_dvd_natCast.2 h1) (Int.gcd_dvd_right (a := (g : Int)) (b := c))
      · exact h2 c hc

theorem cont_dvd {l : List Int} {c : Int} (h : c ∈ l) : ((cont l : Nat) : Int) ∣ c := (foldl_gcd_dvd l 0).2 c h

theorem mem_of_getD {l : List Int} {k : Nat} (h : l.getD k 0 ≠ 0) : l.getD k 0 ∈ l := by
  rcases Nat.lt_or_ge k l.length with h1 | h1
  · rw [show l.getD k 0 = l[k] by simp [List.getD, List.getElem?_eq_getElem h1]]
    exact List.getElem_mem h1
  · exact absurd (getD_out h1) h

theorem cont_dvd_getD (l : List Int) (k : Nat) : ((cont l : Nat) : Int) ∣ l.getD k 0 := by
  by_cases h : l.getD k 0 = 0
  · rw [h]; exact Int.dvd_zero _
  · exact cont_dvd (mem_of_getD h)

theorem cont_pos {l : List Int} {k : Nat} (h : l.getD k 0 ≠ 0) : 0 < cont l := by
  rcases Nat.eq_zero_or_pos (cont l) with h0 | h0
  · have := cont_dvd_getD l k
    rw [h0] at this
    exact absurd (Int.zero_dvd.1 this) h
  · exact h0

theorem foldl_gcd_mul (c : Int) : ∀ (l : List Int) (g : Nat), (l.map (fun x => c * x)).foldl (fun g x => Int.gcd (g : Int) x) (c.natAbs * g) = c.natAbs * l.foldl (fun g x => Int.gcd (g : Int) x) g
  | [], g => rfl
  | x :: l, g => by
    show (l.map (fun x => c * x)).foldl (fun g x => Int.gcd (g : Int) x) (Int.gcd ((c.natAbs * g : Nat) : Int) (c * x)) = _
    have h : Int.gcd ((c.natAbs * g : Nat) : Int) (c * x) = c.natAbs * Int.gcd (g : Int) x := by
      unfold Int.gcd
      rw [Int.natAbs_mul, Int.natAbs_natCast, Int.natAbs_natCast, Nat.gcd_mul_left]
    rw [h, foldl_gcd_mul c l]
    rfl

theorem cont_mul (c : Int) (l : List Int) : cont (l.map fun x => c * x) = c.natAbs * cont l := by
  have := foldl_gcd_mul c l 0
  rw [Nat.mul_zero] at this
  exact this

def scont (l : List Int) : Int := if lead l < 0 then -(cont l : Int) else (cont l : Int)

def prim (l : List Int) : List Int := l.map fun x => x.tdiv (scont l)

theorem prim_len (l : List Int) : (prim l).length = l.length := by simp [prim]

theorem prim_getD (l : List Int) (k : Nat) : (prim l).getD k 0 = (l.getD k 0).tdiv (scont l) := by
  unfold prim
  rcases Nat.lt_or_ge k l.length with h | h
  · simp [List.getD, List.getElem?_map, List.getElem?_eq_getElem h]
  · rw [getD_out (by simpa using h), getD_out h]; simp

theorem scont_dvd (l : List Int) (k : Nat) : scont l ∣ l.getD k 0 := by
  unfold scont
  split
  · exact Int.neg_dvd.2 (cont_dvd_getD l k)
  · exact cont_dvd_getD l k

theorem prim_mul (l : List Int) (k : Nat) : l.getD k 0 = scont l * (prim l).getD k 0 := by
  rw [prim_getD]
  exact (Int.mul_tdiv_cancel' (scont_dvd l k)).symm

theorem scont_ne {l : List Int} (h : Tr l) (hne : l ≠ []) : scont l ≠ 0 := by
  have := cont_pos (h hne)
  unfold scont
  split <;> omega

theorem Tr.prim {l : List Int} (h : Tr l) : Tr (prim l) := by
  intro hne
  have hl : l ≠ [] := by intro e; subst e; exact hne rfl
  intro h0
  have := prim_mul l ((Go.Proofs.YtldcjkhbiffdoabGreatDoor.prim l).length - 1)
  rw [h0, Int.mul_zero, prim_len] at this
  exact h hl this

theorem scal_getD (c : Int) (l : List Int) (k : Nat) : (l.map fun x => c * x).getD k 0 = c * l.getD k 0 := by
  rcases Nat.lt_or_ge k l.length with h | h
  · simp [List.getD, List.getElem?_map, List.getElem?_eq_getElem h]
  · rw [getD_out (by simpa using h), getD_out h]; simp

theorem Tr.scal {c : Int} (hc : c ≠ 0) {l : List Int} (h : Tr l) : Tr (l.map fun x => c * x) := by
  intro hne
  have hl : l ≠ [] := by intro e; subst e; exact hne rfl
  rw [scal_getD, List.length_map]
  exact Int.mul_ne_zero hc (h hl)

theorem lead_scal (c : Int) (l : List Int) : lead (l.map fun x => c * x) = c * lead l := by
  unfold lead
  rw [scal_getD, List.length_map]

theorem scont_scal {c : Int} (hc : c ≠ 0) {l : List Int} (hl : Tr l) (hne : l ≠ []) : scont (l.map fun x => c * x) = c * scont l := by
  have h1 : lead l ≠ 0 := hl hne
  unfold scont
  rw [lead_scal, cont_mul, Int.natCast_mul]
  rcases Int.lt_or_lt_of_ne hc with h2 | h2
  · have h3 : ((c.natAbs : Nat) : Int) = -c := by omega
    rcases Int.lt_or_lt_of_ne h1 with h4 | h4
    · have : 0 < c * lead l := Int.mul_pos_of_neg_of_neg h2 h4
      rw [if_neg (by omega), if_pos h4, h3]
      simp [Int.neg_mul, Int.mul_neg]
    · have : c * lead l < 0 := Int.mul_neg_of_neg_of_pos h2 h4
      rw [if_pos this, if_neg (by omega), h3]
      simp [Int.neg_mul]
  · have h3 : ((c.natAbs : Nat) : Int) = c := by omega
    rcases Int.lt_or_lt_of_ne h1 with h4 | h4
    · have : c * lead l < 0 := Int.mul_neg_of_pos_of_neg h2 h4
      rw [if_pos this, if_pos h4, h3]
      simp [Int.mul_neg]
    · have : 0 < c * lead l := Int.mul_pos h2 h4
      rw [if_neg (by omega), if_neg (by omega), h3]

theorem prim_scal {c : Int} (hc : c ≠ 0) {l : List Int} (hl : Tr l) : prim (l.map fun x => c * x) = prim l := by
  by_cases hne : l = []
  · subst hne; rfl
  · refine ext_getD (by simp [prim_len]) fun k => ?_
    have h0 := scont_ne hl hne
    have h1 := prim_mul l k
    have h2 := prim_mul (l.map fun x => c * x) k
    rw [scal_getD, scont_scal hc hl hne, h1, ← Int.mul_assoc] at h2
    exact (Int.eq_of_mul_eq_mul_left (Int.mul_ne_zero hc h0) h2).symm

theorem prim_of_mul {c : Int} (hc : c ≠ 0) {l m : List Int} (hl : Tr l) (hm : Tr m) (h : ∀ k, m.getD k 0 = c * l.getD k 0) : prim m = prim l := by
  have : m = l.map fun x => c * x := hm.ext (Tr.scal hc hl) fun k => by rw [h, scal_getD]
  rw [this, prim_scal hc hl]

theorem prim_prim {l : List Int} (h : Tr l) : prim (prim l) = prim l := by
  by_cases hne : l = []
  · subst hne; rfl
  · exact (prim_of_mul (scont_ne h hne) h.prim h fun k => prim_mul l k).symm

theorem Bd.prim {l : List Int} {e : Nat} (h : Bd l e) : Bd (prim l) e := by
  intro k
  rw [prim_getD]
  exact Nat.lt_of_le_of_lt (natAbs_tdiv_le _ _) (h k)

def elim (A B : List Int) : List Int :=
  tz (tab (max A.length (A.length - B.length + B.length)) fun k => A.getD k 0 * lead B - (if A.length - B.length ≤ k then lead A * B.getD (k - (A.length - B.length)) 0 else 0))

theorem elim_getD (A B : List Int) (k : Nat) : (elim A B).getD k 0 = A.getD k 0 * lead B - (if A.length - B.length ≤ k then lead A * B.getD (k - (A.length - B.length)) 0 else 0) := by
  unfold elim
  rw [tz_getD, tab_getD]
  split
  · rfl
  · rw [getD_out (show A.length ≤ k by omega), if_pos (show A.length - B.length ≤ k by omega), getD_out (show B.length ≤ k - (A.length - B.length) by omega)]
    simp

theorem elim_tr (A B : List Int) : Tr (elim A B) := tr_tz _

theorem elim_len {A B : List Int} (hB : 0 < B.length) (h : B.length ≤ A.length) : (elim A B).length < A.length := by
  have : (elim A B).length ≤ A.length - 1 := by
    refine (elim_tr A B).lenN fun k hk => ?_
    rw [elim_getD]
    rcases Nat.lt_or_ge k A.length with h1 | h1
    · have hk1 : k = A.length - 1 := by omega
      rw [if_pos (by omega)]
      have h2 : B.getD (k - (A.length - B.length)) 0 = lead B := by unfold lead; rw [show k - (A.length - B.length) = B.length - 1 by omega]
      have h3 : A.getD k 0 = lead A := by unfold lead; rw [hk1]
      rw [h2, h3]; omega
    · rw [getD_out h1, if_pos (by omega), getD_out (show B.length ≤ k - (A.length - B.length) by omega)]; simp
  omega

theorem lt_two_mul {e f : Nat} {x y c d : Int} (hx : x.natAbs < 10 ^ e) (hy : y.natAbs < 10 ^ f) (hc : c.natAbs < 10 ^ e) (hd : d.natAbs < 10 ^ f) : (x * d - c * y).natAbs < 10 ^ (e + f + 1) := by
  have h1 : (x * d - c * y).natAbs ≤ (x * d).natAbs + (c * y).natAbs := by omega
  rw [Int.natAbs_mul, Int.natAbs_mul] at h1
  have h2 : c.natAbs * y.natAbs ≤ 10 ^ e * 10 ^ f := Nat.mul_le_mul (Nat.le_of_lt hc) (Nat.le_of_lt hy)
  have h3 : x.natAbs * d.natAbs ≤ 10 ^ e * 10 ^ f := Nat.mul_le_mul (Nat.le_of_lt hx) (Nat.le_of_lt hd)
  rw [Nat.pow_succ, Nat.pow_add]
  have h4 : 0 < 10 ^ e * 10 ^ f := Nat.mul_pos (Nat.pow_pos (by omega)) (Nat.pow_pos (by omega))
  omega

theorem Bd.lead {l : List Int} {e : Nat} (h : Bd l e) : (lead l).natAbs < 10 ^ e := h _

theorem Bd.elim {A B : List Int} {e f : Nat} (hA : Bd A e) (hB : Bd B f) : Bd (elim A B) (e + f + 1) := by
  intro k
  rw [elim_getD]
  split
  · exact lt_two_mul (hA k) (hB _) hA.lead hB.lead
  · have := lt_two_mul (y := 0) (hA k) (by have := hB 0; omega) hA.lead hB.lead
    rwa [Int.mul_zero] at this

def gfun : Nat → List Int → List Int → List Int
  | 0, A, B => if A = [] then B else A
  | n + 1, A, B =>
    if A = [] then B else if B = [] then A
    else if A.length < B.length then gfun n (prim (elim B A)) A else gfun n (prim (elim A B)) B

theorem gfun_left (n : Nat) (B : List Int) : gfun n [] B = B := by
  cases n <;> simp [gfun]
theorem gfun_right (n : Nat) (A : List Int) : gfun n A [] = A := by
  cases n with
  | zero => by_cases h : A = [] <;> simp [gfun, h]
  | succ n => by_cases h : A = [] <;> simp [gfun, h]
theorem gfun_ge (n : Nat) {A B : List Int} (hB : B ≠ []) (h : B.length ≤ A.length) : gfun (n + 1) A B = gfun n (prim (elim A B)) B := by
  have hA : A ≠ [] := by intro e; subst e; exact hB (List.length_eq_zero_iff.1 (by simpa using h))
  conv => lhs; unfold gfun
  rw [if_neg hA, if_neg hB, if_neg (by omega)]
theorem gfun_lt (n : Nat) {A B : List Int} (hA : A ≠ []) (h : A.length < B.length) : gfun (n + 1) A B = gfun n (prim (elim B A)) A := by
  have hB : B ≠ [] := by intro e; subst e; simp at h
  conv => lhs; unfold gfun
  rw [if_neg hA, if_neg hB, if_pos h]
theorem gfun_swap (n : Nat) {A B : List Int} (h : A.length ≠ B.length) (hn : 0 < n) : gfun n A B = gfun n B A := by
  obtain ⟨m, rfl⟩ : ∃ m, n = m + 1 := ⟨n - 1, by omega⟩
  by_cases hA : A = []
  · subst hA; rw [gfun_left, gfun_right]
  · by_cases hB : B = []
    · subst hB; rw [gfun_left, gfun_right]
    · rcases Nat.lt_or_gt_of_ne h with h1 | h1
      · rw [gfun_lt m hA h1, gfun_ge m hA (by omega)]
      · rw [gfun_lt m hB h1, gfun_ge m hB (by omega)]

theorem gfun_more : ∀ (n : Nat) {A B : List Int}, A.length + B.length ≤ n → gfun (n + 1) A B = gfun n A B
  | 0, A, B, h => by
    obtain rfl : A = [] := List.length_eq_zero_iff.1 (by omega)
    rw [gfun_left, gfun_left]
  | n + 1, A, B, h => by
    by_cases hA : A = []
    · subst hA; rw [gfun_left, gfun_left]
    · by_cases hB : B = []
      · subst hB; rw [gfun_right, gfun_right]
      · have hA1 := List.length_pos_iff.2 hA
        have hB1 := List.length_pos_iff.2 hB
        rcases Nat.lt_or_ge A.length B.length with h1 | h1
        · rw [gfun_lt _ hA h1, gfun_lt _ hA h1]
          have := elim_len hA1 (Nat.le_of_lt h1)
          exact gfun_more n (by rw [prim_len]; omega)
        · rw [gfun_ge _ hB h1, gfun_ge _ hB h1]
          have := elim_len hB1 h1
          exact gfun_more n (by rw [prim_len]; omega)

def pgcd (a b : List Int) : List Int := gfun (a.length + b.length) (prim a) (prim b)

end Go.Proofs.YtldcjkhbiffdoabGreatDoor

namespace Go.Proofs.YtldcjkhbiffdoabGreatDoor

def ladd : List Int → List Int → List Int
  | [], m => m
  | a :: l, [] => a :: l
  | a :: l, b :: m => (a + b) :: ladd l m

theorem ev_ladd (t : Int) : ∀ l m, ev t (ladd l m) = ev t l + ev t m
  | [], m => by simp [ladd, ev]
  | a :: l, [] => by simp [ladd, ev]
  | a :: l, b :: m => by
    simp only [ladd, ev, ev_ladd t l m, Int.mul_add]; omega

theorem ladd_len : ∀ (l m : List Int) (n : Nat), l.length ≤ n → m.length ≤ n → (ladd l m).length ≤ n
  | [], m, n, _, h => by simpa [ladd] using h
  | a :: l, [], n, h, _ => by simpa [ladd] using h
  | a :: l, b :: m, n, h1, h2 => by
    cases n with
    | zero => simp at h1
    | succ n =>
      simp only [ladd, List.length_cons] at *
      have := ladd_len l m n (by omega) (by omega)
      omega

theorem ev_scal (t c : Int) : ∀ l : List Int, ev t (l.map fun x => c * x) = c * ev t l
  | [] => by simp [ev]
  | a :: l => by
    simp only [List.map_cons, ev, ev_scal t c l, Int.mul_add]
    rw [Int.mul_left_comm]

theorem ev_rep (t : Int) (n : Nat) (l : List Int) : ev t (List.replicate n 0 ++ l) = t ^ n * ev t l := by
  rw [ev_append, ev_zeros, List.length_replicate]; omega

def Pl (n : Nat) (f : Int → Int) : Prop := ∃ l : List Int, l.length ≤ n ∧ ∀ t, f t = ev t l
def Po (f : Int → Int) : Prop := ∃ n, Pl n f

theorem Pl.po {n : Nat} {f : Int → Int} (h : Pl n f) : Po f := ⟨n, h⟩
theorem Pl.mono {n m : Nat} {f : Int → Int} (h : Pl n f) (hm : n ≤ m) : Pl m f := by
  obtain ⟨l, h1, h2⟩ := h
  exact ⟨l, by omega, h2⟩
theorem Pl.congr {n : Nat} {f g : Int → Int} (h : Pl n f) (e : ∀ t, g t = f t) : Pl n g := by
  obtain ⟨l, h1, h2⟩ := h
  exact ⟨l, h1, fun t => by rw [e, h2]⟩
theorem Po.congr {f g : Int → Int} (h : Po f) (e : ∀ t, g t = f t) : Po g := by
  obtain ⟨n, h⟩ := h
  exact ⟨n, h.congr e⟩
theorem Pl.ev (l : List Int) : Pl l.length (fun t => ev t l) := ⟨l, Nat.le_refl _, fun _ => rfl⟩
theorem Pl.zero (n : Nat) : Pl n (fun _ => 0) := ⟨[], by simp, fun t => rfl⟩
theorem Pl.const (c : Int) : Pl 1 (fun _ => c) := ⟨[c], by simp, fun t => by simp [Go.Proofs.YtldcjkhbiffdoabGreatDoor.ev]⟩
theorem Pl.add {n : Nat} {f g : Int → Int} (hf : Pl n f) (hg : Pl n g) : Pl n (fun t => f t + g t) := by
  obtain ⟨l, h1, h2⟩ := hf
  obtain ⟨m, h3, h4⟩ := hg
  exact ⟨ladd l m, ladd_len l m n h1 h3, fun t => by simp only [ev_ladd, h2, h4]⟩
theorem Pl.scal {n : Nat} {f : Int → Int} (c : Int) (hf : Pl n f) : Pl n (fun t => c * f t) := by
  obtain ⟨l, h1, h2⟩ := hf
  exact ⟨l.map fun x => c * x, by simpa using h1, fun t => by simp only [ev_scal, h2]⟩
theorem Pl.neg {n : Nat} {f : Int → Int} (hf : Pl n f) : Pl n (fun t => - f t) :=
  (hf.scal (-1)).congr fun t => by omega
theorem Pl.sub {n : Nat} {f g : Int → Int} (hf : Pl n f) (hg : Pl n g) : Pl n (fun t => f t - g t) :=
  (hf.add hg.neg).congr fun t => by omega
theorem Pl.shift {n : Nat} {f : Int → Int} (k : Nat) (hf : Pl n f) : Pl (k + n) (fun t => t ^ k * f t) := by
  obtain ⟨l, h1, h2⟩ := hf
  exact ⟨List.replicate k 0 ++ l, by simp; omega, fun t => by simp only [ev_rep, h2]⟩
theorem Pl.xpow (k : Nat) : Pl (k + 1) (fun t => t ^ k) := ((Pl.const 1).shift k).congr fun t => by simp
theorem Pl.mul {n m : Nat} {f g : Int → Int} (hf : Pl n f) (hg : Pl (m + 1) g) : Pl (n + m) (fun t => f t * g t) := by
  obtain ⟨l, h1, h2⟩ := hf
  have : ∀ (l : List Int) (n : Nat), l.length ≤ n → Pl (n + m) (fun t => Go.Proofs.YtldcjkhbiffdoabGreatDoor.ev t l * g t) := by
    intro l
    induction l with
    | nil => intro n _; exact (Pl.zero _).congr fun t => by simp [Go.Proofs.YtldcjkhbiffdoabGreatDoor.ev]
    | cons a l ih =>
      intro n hn
      cases n with
      | zero => simp at hn
      | succ n =>
        have h3 := (ih n (by simpa using hn)).shift 1
        have h4 := hg.scal a
        refine ((h4.mono (show m + 1 ≤ n + 1 + m by omega)).add (h3.mono (show 1 + (n + m) ≤ n + 1 + m by omega))).congr fun t => ?_
        simp only [Go.Proofs.YtldcjkhbiffdoabGreatDoor.ev, Int.add_mul, Int.pow_one, Int.mul_assoc]
  exact (this l n h1).congr fun t => by rw [h2]
theorem Pl.mul2 {n m : Nat} {f g : Int → Int} (hf : Pl n f) (hg : Pl m g) : Pl (n + m) (fun t => f t * g t) :=
  (hf.mul (m := m) (hg.mono (by omega)))

theorem Po.zero : Po (fun _ => 0) := ⟨0, Pl.zero 0⟩
theorem Po.const (c : Int) : Po (fun _ => c) := ⟨1, Pl.const c⟩
theorem Po.ev (l : List Int) : Po (fun t => Go.Proofs.YtldcjkhbiffdoabGreatDoor.ev t l) := ⟨_, Pl.ev l⟩
theorem Po.add {f g : Int → Int} (hf : Po f) (hg : Po g) : Po (fun t => f t + g t) := by
  obtain ⟨n, hf⟩ := hf
  obtain ⟨m, hg⟩ := hg
  exact ⟨n + m, (hf.mono (by omega)).add (hg.mono (by omega))⟩
theorem Po.mul {f g : Int → Int} (hf : Po f) (hg : Po g) : Po (fun t => f t * g t) := by
  obtain ⟨n, hf⟩ := hf
  obtain ⟨m, hg⟩ := hg
  exact ⟨n + m, hf.mul2 hg⟩
theorem Po.scal {f : Int → Int} (c : Int) (hf : Po f) : Po (fun t => c * f t) := (Po.const c).mul hf
theorem Po.neg {f : Int → Int} (hf : Po f) : Po (fun t => - f t) := (hf.scal (-1)).congr fun t => by omega
theorem Po.sub {f g : Int → Int} (hf : Po f) (hg : Po g) : Po (fun t => f t - g t) := (hf.add hg.neg).congr fun t => by omega
theorem Po.xpow (k : Nat) : Po (fun t => t ^ k) := ⟨_, Pl.xpow k⟩
theorem Po.pow {f : Int → Int} (hf : Po f) : ∀ k, Po (fun t => f t ^ k)
  | 0 => (Po.const 1).congr fun t => by simp
  | k + 1 => ((hf.pow k).mul hf).congr fun t => by rw [Int.pow_succ]

theorem ev_ext0 : ∀ (l : List Int) (N : Int), (∀ t, N ≤ t → ev t l = 0) → ∀ k, l.getD k 0 = 0
  | [], _, _ => fun k => by simp
  | a :: l, N, h => by
    have ha : a = 0 := by
      obtain ⟨t, h1, h2, h3⟩ : ∃ t : Int, N ≤ t ∧ 0 < t ∧ (a.natAbs : Int) < t := ⟨max N 0 + a.natAbs + 1, by omega, by omega, by omega⟩
      have h4 := h t h1
      simp only [ev] at h4
      have h5 : t ∣ a := ⟨- ev t l, by rw [Int.mul_neg]; omega⟩
      refine Int.eq_zero_of_dvd_of_natAbs_lt_natAbs h5 ?_
      omega
    subst ha
    have ih := ev_ext0 l (max N 1) (fun t ht => by
      have h4 := h t (by omega)
      simp only [ev, Int.zero_add] at h4
      rcases Int.mul_eq_zero.1 h4 with h5 | h5
      · omega
      · exact h5)
    intro k
    cases k with
    | zero => rfl
    | succ k => simpa using ih k

theorem ladd_getD : ∀ (l m : List Int) (k : Nat), (ladd l m).getD k 0 = l.getD k 0 + m.getD k 0
  | [], m, k => by simp [ladd]
  | a :: l, [], k => by simp [ladd]
  | a :: l, b :: m, 0 => by simp [ladd]
  | a :: l, b :: m, k + 1 => by simpa [ladd] using ladd_getD l m k

theorem ev_ext {l m : List Int} (N : Int) (h : ∀ t, N ≤ t → ev t l = ev t m) (k : Nat) : l.getD k 0 = m.getD k 0 := by
  have := ev_ext0 (ladd l (m.map fun x => -1 * x)) N (fun t ht => by rw [ev_ladd, ev_scal, h t ht]; omega) k
  rw [ladd_getD, scal_getD] at this
  omega

theorem ev_of_getD {l m : List Int} (h : ∀ k, l.getD k 0 = m.getD k 0) (t : Int) : ev t l = ev t m := by
  have aux : ∀ (l : List Int), (∀ k, l.getD k 0 = 0) → ev t l = 0 := by
    intro l
    induction l with
    | nil => intro _; rfl
    | cons a l ih =>
      intro h
      have h0 := h 0
      have h1 := ih fun k => by simpa using h (k + 1)
      simp at h0
      simp [ev, h0, h1]
  have := aux (ladd l (m.map fun x => -1 * x)) (fun k => by rw [ladd_getD, scal_getD, h]; omega)
  rw [ev_ladd, ev_scal] at this
  omega

theorem ev_tz (t : Int) (l : List Int) : ev t (tz l) = ev t l := ev_of_getD (fun k => tz_getD l k) t

def Ld (n : Nat) (c : Int) (f : Int → Int) : Prop := ∃ g, Pl n g ∧ ∀ t, f t = c * t ^ n + g t

theorem Ld.pl {n : Nat} {c : Int} {f : Int → Int} (h : Ld n c f) : Pl (n + 1) f := by
  obtain ⟨g, h1, h2⟩ := h
  exact (((Pl.xpow n).scal c).add (h1.mono (by omega))).congr h2
theorem Ld.po {n : Nat} {c : Int} {f : Int → Int} (h : Ld n c f) : Po f := h.pl.po
theorem Ld.congr {n : Nat} {c : Int} {f g : Int → Int} (h : Ld n c f) (e : ∀ t, g t = f t) : Ld n c g := by
  obtain ⟨r, h1, h2⟩ := h
  exact ⟨r, h1, fun t => by rw [e, h2]⟩

theorem Ld.of_list {l : List Int} {n : Nat} (h : l.length ≤ n + 1) : Ld n (l.getD n 0) (fun t => ev t l) := by
  refine ⟨fun t => ev t (l.take n), ⟨l.take n, by rw [List.length_take]; omega, fun _ => rfl⟩, fun t => ?_⟩
  have h1 := ev_take t l n
  rw [List.take_of_length_le h] at h1
  show ev t l = l.getD n 0 * t ^ n + ev t (l.take n)
  omega

theorem Pl.ld {n : Nat} {f : Int → Int} (h : Pl (n + 1) f) : ∃ c, Ld n c f := by
  obtain ⟨l, h1, h2⟩ := h
  exact ⟨_, (Ld.of_list h1).congr h2⟩

theorem Ld.list {n : Nat} {c : Int} {f : Int → Int} (h : Ld n c f) : ∃ l : List Int, l.length = n + 1 ∧ l.getD n 0 = c ∧ ∀ t, f t = ev t l := by
  obtain ⟨g, ⟨l, h1, h2⟩, h3⟩ := h
  refine ⟨l ++ List.replicate (n - l.length) 0 ++ [c], by simp; omega, ?_, fun t => ?_⟩
  · have hl : (l ++ List.replicate (n - l.length) (0 : Int)).length = n := by simp; omega
    rw [List.getD, List.getElem?_append_right (show (l ++ List.replicate (n - l.length) (0 : Int)).length ≤ n by omega), hl]
    simp
  · rw [h3, h2, ev_append, ev_append, ev_zeros]
    have hl : (l ++ List.replicate (n - l.length) (0 : Int)).length = n := by simp; omega
    rw [hl]
    simp only [ev, Int.mul_zero, Int.add_zero]
    rw [Int.mul_comm c]; omega

theorem Ld.uniq {n : Nat} {c d : Int} {f g : Int → Int} (h : Ld n c f) (h' : Ld n d g) (e : ∀ t, f t = g t) : c = d := by
  obtain ⟨l, _, h1, h2⟩ := h.list
  obtain ⟨m, _, h3, h4⟩ := h'.list
  rw [← h1, ← h3]
  exact ev_ext 0 (fun t _ => by rw [← h2, ← h4, e]) n

theorem Ld.of_pl {n : Nat} {f : Int → Int} (h : Pl n f) : Ld n 0 f := ⟨f, h, fun t => by omega⟩
theorem Ld.to_pl {n : Nat} {f : Int → Int} (h : Ld n 0 f) : Pl n f := by
  obtain ⟨g, h1, h2⟩ := h
  exact h1.congr fun t => by rw [h2]; omega
theorem Ld.add {n : Nat} {c d : Int} {f g : Int → Int} (hf : Ld n c f) (hg : Ld n d g) : Ld n (c + d) (fun t => f t + g t) := by
  obtain ⟨a, h1, h2⟩ := hf
  obtain ⟨b, h3, h4⟩ := hg
  exact ⟨_, h1.add h3, fun t => by simp only [h2, h4, Int.add_mul]; omega⟩
theorem Ld.scal {n : Nat} {d : Int} {f : Int → Int} (c : Int) (hf : Ld n d f) : Ld n (c * d) (fun t => c * f t) := by
  obtain ⟨a, h1, h2⟩ := hf
  exact ⟨_, h1.scal c, fun t => by simp only [h2, Int.mul_add, Int.mul_assoc]⟩
theorem Ld.sub {n : Nat} {c d : Int} {f g : Int → Int} (hf : Ld n c f) (hg : Ld n d g) : Ld n (c - d) (fun t => f t - g t) := by
  obtain ⟨a, h1, h2⟩ := hf
  obtain ⟨b, h3, h4⟩ := hg
  exact ⟨_, h1.sub h3, fun t => by simp only [h2, h4, Int.sub_mul]; omega⟩
theorem Ld.mul {n m : Nat} {c d : Int} {f g : Int → Int} (hf : Ld n c f) (hg : Ld m d g) : Ld (n + m) (c * d) (fun t => f t * g t) := by
  have hg' := hg.pl
  obtain ⟨a, h1, h2⟩ := hf
  obtain ⟨b, h3, h4⟩ := hg
  refine ⟨fun t => c * (t ^ n * b t) + a t * g t, ?_, fun t => ?_⟩
  · exact ((h3.shift n).scal c).add (h1.mul hg')
  · show f t * g t = c * d * t ^ (n + m) + (c * (t ^ n * b t) + a t * g t)
    have : c * t ^ n * (d * t ^ m) = c * d * (t ^ n * t ^ m) := by rw [Int.mul_assoc, Int.mul_left_comm (t ^ n), ← Int.mul_assoc]
    have h5 : c * t ^ n * g t = c * d * (t ^ n * t ^ m) + c * (t ^ n * b t) := by rw [h4, Int.mul_add, this, Int.mul_assoc c (t ^ n) (b t)]
    rw [h2, Int.add_mul, h5, Int.pow_add]
    omega
theorem Ld.const (c : Int) : Ld 0 c (fun _ => c) := ⟨fun _ => 0, Pl.zero 0, fun t => by simp⟩
theorem Ld.one_pow {n : Nat} : Ld n 1 (fun t => t ^ n) := ⟨fun _ => 0, Pl.zero n, fun t => by simp⟩

theorem Pl.zero0 {f : Int → Int} (h : Pl 0 f) (t : Int) : f t = 0 := by
  obtain ⟨l, h3, h4⟩ := h
  obtain rfl : l = [] := List.length_eq_zero_iff.1 (by omega)
  rw [h4]; rfl

theorem Pl.of_scal {n : Nat} {c : Int} {f : Int → Int} (hc : c ≠ 0) (hf : Po f) (h : Pl n (fun t => c * f t)) : Pl n f := by
  obtain ⟨N, l, _, h2⟩ := hf
  obtain ⟨m, h3, h4⟩ := h
  refine ⟨l.take n, by rw [List.length_take]; omega, fun t => ?_⟩
  rw [h2]
  refine ev_of_getD (fun k => ?_) t
  rcases Nat.lt_or_ge k n with hk | hk
  · simp [List.getD, List.getElem?_take_of_lt hk]
  · rw [getD_out (show (l.take n).length ≤ k by rw [List.length_take]; omega)]
    have h5 := ev_ext (l := l.map fun x => c * x) (m := m) 0 (fun t _ => by rw [ev_scal, ← h2, ← h4]) k
    rw [scal_getD, getD_out (show m.length ≤ k by omega)] at h5
    exact (Int.mul_eq_zero.1 h5).resolve_left hc

theorem Po.ext {f g : Int → Int} (hf : Po f) (hg : Po g) (N : Int) (h : ∀ t, N ≤ t → f t = g t) (t : Int) : f t = g t := by
  obtain ⟨n, l, _, h1⟩ := hf
  obtain ⟨m, k, _, h2⟩ := hg
  rw [h1, h2]
  exact ev_of_getD (ev_ext N fun t ht => by rw [← h1, ← h2, h t ht]) t

end Go.Proofs.YtldcjkhbiffdoabGreatDoor

set_option linter.unusedSimpArgs false
namespace Go.Proofs.YtldcjkhbiffdoabGreatDoor

def Dom (m : Int) : Prop := (∀ a b : Int, m ∣ a * b → m ∣ a ∨ m ∣ b) ∧ ¬ m ∣ 1

theorem Dom.mul {m a b : Int} (h : Dom m) (ha : ¬ m ∣ a) (hb : ¬ m ∣ b) : ¬ m ∣ a * b := fun h' => (h.1 a b h').elim ha hb
theorem Dom.pow {m a : Int} (h : Dom m) (ha : ¬ m ∣ a) : ∀ n : Nat, ¬ m ∣ a ^ n
  | 0 => by simpa using h.2
  | n + 1 => by rw [Int.pow_succ]; exact h.mul (h.pow ha n) ha
theorem Dom.zero : Dom 0 := ⟨fun a b h => by
  have := Int.zero_dvd.1 h
  rcases Int.mul_eq_zero.1 this with h | h
  · left; rw [h]; exact Int.dvd_refl _
  · right; rw [h]; exact Int.dvd_refl _, fun h => by have := Int.zero_dvd.1 h; omega⟩

def Zm (m : Int) (f : Int → Int) : Prop := ∃ g, Po g ∧ ∀ t, f t = m * g t

theorem Zm.po {m : Int} {f : Int → Int} (h : Zm m f) : Po f := by
  obtain ⟨g, h1, h2⟩ := h
  exact (h1.scal m).congr h2
theorem Zm.congr {m : Int} {f g : Int → Int} (h : Zm m f) (e : ∀ t, g t = f t) : Zm m g := by
  obtain ⟨a, h1, h2⟩ := h
  exact ⟨a, h1, fun t => by rw [e, h2]⟩
theorem Zm.of_zero (m : Int) {f : Int → Int} (h : ∀ t, f t = 0) : Zm m f := ⟨fun _ => 0, Po.zero, fun t => by rw [h]; simp⟩
theorem Zm.add {m : Int} {f g : Int → Int} (hf : Zm m f) (hg : Zm m g) : Zm m (fun t => f t + g t) := by
  obtain ⟨a, h1, h2⟩ := hf
  obtain ⟨b, h3, h4⟩ := hg
  exact ⟨_, h1.add h3, fun t => by simp only [h2, h4, Int.mul_add]⟩
theorem Zm.mul {m : Int} {f g : Int → Int} (hg : Po g) (hf : Zm m f) : Zm m (fun t => g t * f t) := by
  obtain ⟨a, h1, h2⟩ := hf
  exact ⟨_, hg.mul h1, fun t => by simp only [h2]; rw [Int.mul_left_comm]⟩
theorem Zm.scal {m : Int} {f : Int → Int} (c : Int) (hf : Zm m f) : Zm m (fun t => c * f t) := hf.mul (Po.const c)
theorem Zm.neg {m : Int} {f : Int → Int} (hf : Zm m f) : Zm m (fun t => - f t) := (hf.scal (-1)).congr fun t => by omega
theorem Zm.sub {m : Int} {f g : Int → Int} (hf : Zm m f) (hg : Zm m g) : Zm m (fun t => f t - g t) := (hf.add hg.neg).congr fun t => by omega
theorem Zm.of_dvd {m c : Int} {f : Int → Int} (hf : Po f) (h : m ∣ c) : Zm m (fun t => c * f t) := by
  obtain ⟨d, rfl⟩ := h
  exact ⟨_, hf.scal d, fun t => by simp only [Int.mul_assoc]⟩
theorem Zm.of_pow {p : Int} {k : Nat} {f : Int → Int} (hk : 0 < k) (h : Zm (p ^ k) f) : Zm p f := by
  obtain ⟨g, h1, h2⟩ := h
  obtain ⟨j, rfl⟩ : ∃ j, k = j + 1 := ⟨k - 1, by omega⟩
  exact ⟨_, h1.scal (p ^ j), fun t => by rw [h2, Int.pow_succ, Int.mul_comm (p ^ j), Int.mul_assoc]⟩

theorem Zm.lead {m : Int} {f : Int → Int} {n : Nat} {c : Int} (hz : Zm m f) (hl : Ld n c f) : m ∣ c := by
  obtain ⟨g, h1, h2⟩ := hz
  by_cases hm : m = 0
  · subst hm
    have h3 : Ld n 0 f := ⟨fun _ => 0, Pl.zero n, fun t => by rw [h2]; simp⟩
    rw [hl.uniq h3 fun _ => rfl]
    exact Int.dvd_refl _
  · have h3 : Pl (n + 1) g := Pl.of_scal hm h1 (hl.pl.congr fun t => (h2 t).symm)
    obtain ⟨e, h4⟩ := h3.ld
    rw [hl.uniq (h4.scal m) h2]
    exact ⟨e, rfl⟩

theorem Zm.const {m c : Int} (h : Zm m (fun _ => c)) : m ∣ c := h.lead (Ld.const c)

theorem Zm.gauss {m : Int} (hm : Dom m) : ∀ (N n k : Nat) (f g : Int → Int), n + k ≤ N → Pl n f → Pl k g → Zm m (fun t => f t * g t) → Zm m f ∨ Zm m g := by
  intro N
  induction N with
  | zero =>
    intro n k f g hN hf hg _
    left
    exact Zm.of_zero m fun t => Pl.zero0 (hf.mono (by omega)) t
  | succ N ih =>
    intro n k f g hN hf hg hz
    cases n with
    | zero => left; exact Zm.of_zero m fun t => Pl.zero0 hf t
    | succ n =>
      cases k with
      | zero => right; exact Zm.of_zero m fun t => Pl.zero0 hg t
      | succ k =>
        obtain ⟨c, hc⟩ := hf.ld
        obtain ⟨d, hd⟩ := hg.ld
        have h1 := hz.lead (hc.mul hd)
        rcases hm.1 c d h1 with h2 | h2
        · obtain ⟨f', h3, h4⟩ := hc
          have h5 : Zm m (fun t => c * t ^ n) := Zm.of_dvd (Po.xpow n) h2
          have h6 : Zm m (fun t => f' t * g t) := (hz.sub (h5.mul hg.po)).congr fun t => by
            show f' t * g t = f t * g t - g t * (c * t ^ n)
            rw [h4, Int.add_mul, Int.mul_comm (g t)]; omega
          rcases ih n (k + 1) f' g (by omega) h3 hg h6 with h7 | h7
          · left; exact (h5.add h7).congr h4
          · right; exact h7
        · obtain ⟨g', h3, h4⟩ := hd
          have h5 : Zm m (fun t => d * t ^ k) := Zm.of_dvd (Po.xpow k) h2
          have h6 : Zm m (fun t => f t * g' t) := (hz.sub (h5.mul hf.po)).congr fun t => by
            show f t * g' t = f t * g t - f t * (d * t ^ k)
            rw [h4, Int.mul_add]; omega
          rcases ih (n + 1) k f g' (by omega) hf h3 h6 with h7 | h7
          · left; exact h7
          · right; exact (h5.add h7).congr h4

theorem Zm.or {m : Int} (hm : Dom m) {f g : Int → Int} (hf : Po f) (hg : Po g) (h : Zm m (fun t => f t * g t)) : Zm m f ∨ Zm m g := by
  obtain ⟨n, hf⟩ := hf
  obtain ⟨k, hg⟩ := hg
  exact Zm.gauss hm (n + k) n k f g (Nat.le_refl _) hf hg h
theorem Zm.of_scal {m : Int} (hm : Dom m) {c : Int} (hc : ¬ m ∣ c) {f : Int → Int} (hf : Po f) (h : Zm m (fun t => c * f t)) : Zm m f :=
  (Zm.or hm (Po.const c) hf h).resolve_left fun h' => hc h'.const

def Dm (m : Int) (k : Nat) (f : Int → Int) : Prop := ∃ d f0, ¬ m ∣ d ∧ Ld k d f0 ∧ Zm m (fun t => f t - f0 t)

theorem Dm.po {m : Int} {k : Nat} {f : Int → Int} (h : Dm m k f) : Po f := by
  obtain ⟨d, f0, _, h2, h3⟩ := h
  exact (h2.po.add h3.po).congr fun t => by omega
theorem Dm.not {m : Int} {k : Nat} {f : Int → Int} (h : Dm m k f) : ¬ Zm m f := by
  obtain ⟨d, f0, h1, h2, h3⟩ := h
  intro h4
  exact h1 (((h4.sub h3).congr (g := f0) fun t => by omega).lead h2)
theorem Dm.of_ld {m : Int} {k : Nat} {d : Int} {f : Int → Int} (h : Ld k d f) (hd : ¬ m ∣ d) : Dm m k f :=
  ⟨d, f, hd, h, Zm.of_zero m fun t => by omega⟩
theorem Dm.alike {m : Int} {k : Nat} {f g : Int → Int} (h : Dm m k f) (hz : Zm m (fun t => g t - f t)) : Dm m k g := by
  obtain ⟨d, f0, h1, h2, h3⟩ := h
  exact ⟨d, f0, h1, h2, (hz.add h3).congr fun t => by omega⟩
theorem Dm.mul {m : Int} (hm : Dom m) {k l : Nat} {f g : Int → Int} (hf : Dm m k f) (hg : Dm m l g) : Dm m (k + l) (fun t => f t * g t) := by
  have hg0 := hg.po
  obtain ⟨d, f0, h1, h2, h3⟩ := hf
  obtain ⟨e, g0, h4, h5, h6⟩ := hg
  refine ⟨_, _, hm.mul h1 h4, h2.mul h5, ((h3.mul hg0).add (h6.mul h2.po)).congr fun t => ?_⟩
  show f t * g t - f0 t * g0 t = g t * (f t - f0 t) + f0 t * (g t - g0 t)
  simp only [rA, rB, rC, rD, rE, rF, rG, rH, rI, rJ, rK]; omega
theorem Dm.scal {m : Int} (hm : Dom m) {k : Nat} {c : Int} (hc : ¬ m ∣ c) {f : Int → Int} (hf : Dm m k f) : Dm m k (fun t => c * f t) := by
  have := (Dm.of_ld (Ld.const c) hc).mul hm hf
  rwa [Nat.zero_add] at this

theorem Zm.or_dm {m : Int} : ∀ {n : Nat} {f : Int → Int}, Pl n f → Zm m f ∨ ∃ k, k < n ∧ Dm m k f
  | 0, f, h => Or.inl (Zm.of_zero m fun t => h.zero0 t)
  | n + 1, f, h => by
    obtain ⟨c, hc⟩ := h.ld
    by_cases hd : m ∣ c
    · obtain ⟨g, h1, h2⟩ := hc
      have h5 : Zm m (fun t => c * t ^ n) := Zm.of_dvd (Po.xpow n) hd
      rcases Zm.or_dm (m := m) h1 with h3 | ⟨k, h3, h4⟩
      · left; exact (h5.add h3).congr h2
      · right
        exact ⟨k, by omega, h4.alike (h5.congr fun t => by rw [h2]; omega)⟩
    · exact Or.inr ⟨n, by omega, Dm.of_ld hc hd⟩

theorem Dm.le {m : Int} {k n : Nat} {f g : Int → Int} (h : Dm m k f) (hg : Pl n g) (hz : Zm m (fun t => f t - g t)) : k < n := by
  obtain ⟨d, f0, h1, h2, h3⟩ := h
  rcases Nat.lt_or_ge k n with h4 | h4
  · exact h4
  · exfalso
    have h5 := (hz.sub h3).congr (g := fun t => f0 t - g t) fun t => by omega
    have h6 := h5.lead (h2.sub (Ld.of_pl (hg.mono h4)))
    rw [Int.sub_zero] at h6
    exact h1 h6
theorem Dm.uniq {m : Int} {k l : Nat} {f : Int → Int} (h : Dm m k f) (h' : Dm m l f) : k = l := by
  have aux : ∀ {k l : Nat}, Dm m k f → Dm m l f → k ≤ l := by
    intro k l h h'
    obtain ⟨d, f0, h1, h2, h3⟩ := h'
    have := h.le h2.pl h3
    omega
  have := aux h h'
  have := aux h' h
  omega

theorem pdiv {k : Nat} {d : Int} {b : Int → Int} (hb : Ld k d b) : ∀ {n : Nat} {a : Int → Int}, Pl n a → ∃ (j : Nat) (q r : Int → Int), Po q ∧ Pl k r ∧ ∀ t, d ^ j * a t = q t * b t + r t
  | 0, a, ha => ⟨0, fun _ => 0, fun _ => 0, Po.zero, Pl.zero k, fun t => by rw [ha.zero0]; simp⟩
  | n + 1, a, ha => by
    rcases Nat.lt_or_ge n k with hk | hk
    · exact ⟨0, fun _ => 0, a, Po.zero, ha.mono (by omega), fun t => by simp⟩
    · obtain ⟨c, hc⟩ := ha.ld
      have h1 : Ld n (d * c - c * d) (fun t => d * a t - t ^ (n - k) * (c * b t)) := by
        refine (hc.scal d).sub ?_
        have := (Ld.one_pow (n := n - k)).mul (hb.scal c)
        rw [show n - k + k = n by omega, Int.one_mul] at this
        exact this
      rw [show d * c - c * d = 0 by rw [Int.mul_comm]; omega] at h1
      obtain ⟨j, q, r, h2, h3, h4⟩ := pdiv hb h1.to_pl
      refine ⟨j + 1, fun t => q t + d ^ j * (c * t ^ (n - k)), r, h2.add (((Po.xpow _).scal c).scal _), h3, fun t => ?_⟩
      have h5 := h4 t
      rw [Int.pow_succ]
      show d ^ j * d * a t = (q t + d ^ j * (c * t ^ (n - k))) * b t + r t
      revert h5
      simp only [rA, rB, rC, rD, rE, rF, rG, rH, rI, rJ, rK]
      omega

theorem bezout {m : Int} (hm : Dom m) : ∀ (n : Nat) {a b : Int → Int}, Po a → Pl n b → ¬ (Zm m a ∧ Zm m b) →
    ∃ (u v d : Int → Int) (c : Int) (a' b' : Int → Int), Po u ∧ Po v ∧ Po d ∧ Po a' ∧ Po b' ∧ ¬ Zm m d ∧ ¬ m ∣ c ∧
      Zm m (fun t => u t * a t + v t * b t - d t) ∧ Zm m (fun t => c * a t - d t * a' t) ∧ Zm m (fun t => c * b t - d t * b' t) := by
  intro n
  induction n using Nat.strongRecOn with
  | ind n ih =>
    intro a b ha hb hn
    rcases Zm.or_dm (m := m) hb with hz | ⟨k, hk, δ, b0, h1, h2, h3⟩
    · refine ⟨fun _ => 1, fun _ => 0, a, 1, fun _ => 1, fun _ => 0, Po.const 1, Po.zero, ha, Po.const 1, Po.zero, fun h => hn ⟨h, hz⟩, hm.2, Zm.of_zero m fun t => ?_, Zm.of_zero m fun t => ?_, hz.congr fun t => ?_⟩
      · simp
      · simp
      · simp
    · obtain ⟨N, ha'⟩ := ha
      obtain ⟨j, q, r, h4, h5, h6⟩ := pdiv h2 ha'
      have hnb : ¬ Zm m b0 := fun h => h1 (h.lead h2)
      obtain ⟨u, v, d, c, a1, b1, g1, g2, g3, g4, g5, g6, g7, g8, g9, g10⟩ := ih k hk h2.po h5 (fun h => hnb h.1)
      have hδ := hm.pow h1 j
      refine ⟨fun t => δ ^ j * v t, fun t => u t - v t * q t, d, c * δ ^ j, fun t => q t * a1 t + b1 t, fun t => δ ^ j * a1 t, g2.scal _, g1.sub (g2.mul h4), g3, (h4.mul g4).add g5, g4.scal _, g6, hm.mul g7 hδ, ?_, ?_, ?_⟩
      · refine (g8.add (h3.mul (g1.sub (g2.mul h4)))).congr fun t => ?_
        have h7 := congrArg (fun z => v t * z) (h6 t)
        show δ ^ j * v t * a t + (u t - v t * q t) * b t - d t = u t * b0 t + v t * r t - d t + (u t - v t * q t) * (b t - b0 t)
        revert h7
        simp only [rA, rB, rC, rD, rE, rF, rG, rH, rI, rJ, rK]
        omega
      · refine ((g9.mul h4).add g10).congr fun t => ?_
        have h7 := congrArg (fun z => c * z) (h6 t)
        show c * δ ^ j * a t - d t * (q t * a1 t + b1 t) = q t * (c * b0 t - d t * a1 t) + (c * r t - d t * b1 t)
        revert h7
        simp only [rA, rB, rC, rD, rE, rF, rG, rH, rI, rJ, rK]
        omega
      · refine ((g9.scal (δ ^ j)).add (h3.scal (c * δ ^ j))).congr fun t => ?_
        show c * δ ^ j * b t - d t * (δ ^ j * a1 t) = δ ^ j * (c * b0 t - d t * a1 t) + c * δ ^ j * (b t - b0 t)
        simp only [rA, rB, rC, rD, rE, rF, rG, rH, rI, rJ, rK]
        omega

def Cop (m : Int) (a b : Int → Int) : Prop := ∃ (u v : Int → Int) (c : Int), Po u ∧ Po v ∧ ¬ m ∣ c ∧ Zm m (fun t => u t * a t + v t * b t - c)

def Dv (m : Int) (a b : Int → Int) : Prop := ∃ (c : Int) (s : Int → Int), ¬ m ∣ c ∧ Po s ∧ Zm m (fun t => c * b t - a t * s t)

theorem Dv.mul {m : Int} {a b e : Int → Int} (he : Po e) (h : Dv m a b) : Dv m a (fun t => e t * b t) := by
  obtain ⟨c, s, h1, h2, h3⟩ := h
  refine ⟨c, fun t => e t * s t, h1, he.mul h2, (h3.mul he).congr fun t => ?_⟩
  show c * (e t * b t) - a t * (e t * s t) = e t * (c * b t - a t * s t)
  simp only [rA, rB, rC, rD, rE, rF, rG, rH, rI, rJ, rK]
theorem Dv.add {m : Int} (hm : Dom m) {a b e : Int → Int} (h : Dv m a b) (h' : Dv m a e) : Dv m a (fun t => b t + e t) := by
  obtain ⟨c, s, h1, h2, h3⟩ := h
  obtain ⟨c', s', h1', h2', h3'⟩ := h'
  refine ⟨c * c', fun t => c' * s t + c * s' t, hm.mul h1 h1', (h2.scal c').add (h2'.scal c), ((h3.scal c').add (h3'.scal c)).congr fun t => ?_⟩
  show c * c' * (b t + e t) - a t * (c' * s t + c * s' t) = c' * (c * b t - a t * s t) + c * (c' * e t - a t * s' t)
  simp only [rA, rB, rC, rD, rE, rF, rG, rH, rI, rJ, rK]
  omega
theorem Dv.of_zm {m : Int} (hm : Dom m) {a b : Int → Int} (h : Zm m b) : Dv m a b :=
  ⟨1, fun _ => 0, hm.2, Po.zero, h.congr fun t => by simp⟩
theorem Dv.alike {m : Int} {a b e : Int → Int} (h : Dv m a b) (hz : Zm m (fun t => e t - b t)) : Dv m a e := by
  obtain ⟨c, s, h1, h2, h3⟩ := h
  refine ⟨c, s, h1, h2, (h3.add (hz.scal c)).congr fun t => ?_⟩
  show c * e t - a t * s t = c * b t - a t * s t + c * (e t - b t)
  simp only [rA, rB, rC, rD, rE, rF, rG, rH, rI, rJ, rK]
  omega
theorem Dv.unscal {m : Int} (hm : Dom m) {a b : Int → Int} {k : Int} (hk : ¬ m ∣ k) (h : Dv m a (fun t => k * b t)) : Dv m a b := by
  obtain ⟨c, s, h1, h2, h3⟩ := h
  exact ⟨c * k, s, hm.mul h1 hk, h2, h3.congr fun t => by rw [Int.mul_assoc]⟩
theorem Dv.refl {m : Int} (hm : Dom m) (a : Int → Int) : Dv m a a :=
  ⟨1, fun _ => 1, hm.2, Po.const 1, Zm.of_zero m fun t => by simp⟩
theorem Dv.trans {m : Int} (hm : Dom m) {a b e : Int → Int} (h : Dv m a b) (h' : Dv m b e) : Dv m a e := by
  obtain ⟨c, s, h1, h2, h3⟩ := h
  obtain ⟨c', s', h1', h2', h3'⟩ := h'
  refine ⟨c * c', fun t => s t * s' t, hm.mul h1 h1', h2.mul h2', ((h3'.scal c).add (h3.mul h2')).congr fun t => ?_⟩
  show c * c' * e t - a t * (s t * s' t) = c * (c' * e t - b t * s' t) + s' t * (c * b t - a t * s t)
  simp only [rA, rB, rC, rD, rE, rF, rG, rH, rI, rJ, rK]
  omega

theorem Cop.dv {m : Int} (hm : Dom m) {a b e : Int → Int} (he : Po e) (h : Cop m a b) (hd : Dv m a (fun t => b t * e t)) : Dv m a e := by
  obtain ⟨u, v, c, h1, h2, h3, h4⟩ := h
  obtain ⟨c', s, h5, h6, h7⟩ := hd
  refine ⟨c' * c, fun t => c' * u t * e t + v t * s t, hm.mul h5 h3, (((h1.scal c').mul he).add (h2.mul h6)), (((h7.mul h2).sub (h4.mul (he.scal c'))).congr fun t => ?_)⟩
  show c' * c * e t - a t * (c' * u t * e t + v t * s t) = v t * (c' * (b t * e t) - a t * s t) - c' * e t * (u t * a t + v t * b t - c)
  simp only [rA, rB, rC, rD, rE, rF, rG, rH, rI, rJ, rK]
  omega

def Irr (m : Int) (r : Int → Int) : Prop := Po r ∧ ¬ Zm m r ∧ ¬ Dm m 0 r ∧ ∀ (a b : Int → Int) (c : Int), Po a → Po b → ¬ m ∣ c → Zm m (fun t => c * r t - a t * b t) → Dm m 0 a ∨ Dm m 0 b

theorem Dm.zero {m : Int} {f : Int → Int} (h : Dm m 0 f) : ∃ c, ¬ m ∣ c ∧ Zm m (fun t => f t - c) := by
  obtain ⟨d, f0, h1, ⟨g, h2, h3⟩, h4⟩ := h
  refine ⟨d, h1, h4.congr fun t => ?_⟩
  rw [h3, h2.zero0]; simp

theorem Irr.cop_or {m : Int} (hm : Dom m) {r a : Int → Int} (hr : Irr m r) (ha : Po a) : Cop m r a ∨ Dv m r a := by
  obtain ⟨hp, h0, h1, h2⟩ := hr
  obtain ⟨n, ha'⟩ := ha
  obtain ⟨u, v, d, c, r', a', g1, g2, g3, g4, g5, g6, g7, g8, g9, g10⟩ := bezout hm n hp ha' (fun h => h0 h.1)
  rcases h2 d r' c g3 g4 g7 g9 with h | h
  · obtain ⟨k, h5, h6⟩ := h.zero
    left
    exact ⟨u, v, k, g1, g2, h5, (g8.add h6).congr fun t => by omega⟩
  · obtain ⟨k, h5, h6⟩ := h.zero
    right
    refine ⟨k * c, fun t => c * a' t, hm.mul h5 g7, g5.scal c, ?_⟩
    refine (((g10.scal k).sub (g9.mul g5)).sub (h6.mul (g3.mul g5))).congr fun t => ?_
    show k * c * a t - r t * (c * a' t) = k * (c * a t - d t * a' t) - a' t * (c * r t - d t * r' t) - d t * a' t * (r' t - k)
    simp only [rA, rB, rC, rD, rE, rF, rG, rH, rI, rJ, rK]
    omega

theorem Irr.prime {m : Int} (hm : Dom m) {r a b : Int → Int} (hr : Irr m r) (ha : Po a) (hb : Po b) (h : Dv m r (fun t => a t * b t)) : Dv m r a ∨ Dv m r b := by
  rcases hr.cop_or hm ha with h1 | h1
  · right; exact h1.dv hm hb h
  · left; exact h1

end Go.Proofs.YtldcjkhbiffdoabGreatDoor
