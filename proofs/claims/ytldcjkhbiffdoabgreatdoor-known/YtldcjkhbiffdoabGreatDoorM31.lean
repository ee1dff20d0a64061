import Derived.Test.YtldcjkhbiffdoabGreatDoorM30
import Derived.Test.YtldcjkhbiffdoabGreatDoorM10
import Derived.Test.YtldcjkhbiffdoabGreatDoorM25

namespace Go.Proofs.YtldcjkhbiffdoabGreatDoor
open Go.RowKit

def rsum (l : List UInt8) : Bool × Nat × List (Int × Nat) := rdSum l (l.length + 1) (tak l 45 0).1 (tak l 45 0).2 []

def pread (l : List UInt8) : Nat × Nat × List Int :=
  if 200 < l.length then (1, 0, [])
  else if (rsum l).1 then
    if (rsum l).2.2.any bigQ then (3, 0, [])
    else if inB (tz (coefsT (rsum l).2.2 11)) then (0, 0, tz (coefsT (rsum l).2.2 11)) else (3, 0, [])
  else (2, (rsum l).2.1, [])

def Answer (w' : World) (r : Nat × Nat × List Int) (e : Ending) : Prop :=
  (r.1 = 0 ∧ inB r.2.2 = true ∧ ∃ p, e = .returned (.tuple #[p, .int .i64 0, .int .i64 0]) ∧ IsP w' p r.2.2) ∨ (r.1 ≠ 0 ∧ e = .returned (.tuple #[.pointer none, .int .i64 (r.1 : Int), .int .i64 (r.2.1 : Int)]))

set_option maxHeartbeats 1000000 in
theorem read_any (s : ByteArray) (w : World) (ht : Tab w) (hs0 : s.size ≤ 9223372036854775807) :
    Calls Tryz.prog 16 #[.string s] w fun e w' => Answer w' (pread s.data.toList) e ∧ Below w.heap.size w w' := by
  have hll := toList_len s
  obtain ⟨r, HRr⟩ : ∃ r, Hid (pread s.data.toList = r) := ⟨_, rfl⟩
  rw [HRr.out]
  by_cases hlong : 200 < s.size
  · have hp : r = (1, 0, []) := by rw [← HRr.out]; unfold pread; rw [if_pos (by omega)]
    subst hp
    clear HRr hll
    go_enter Tryz.func16, Tryz.ntmps16
    go_wp2
    go_ret3
    exact ⟨.inr ⟨by decide, rfl⟩, Below.refl _ _⟩
  · have hs : s.size ≤ 200 := by omega
    have hp : (if (rsum s.data.toList).1 then (if (rsum s.data.toList).2.2.any bigQ then (3, 0, []) else if inB (tz (coefsT (rsum s.data.toList).2.2 11)) then (0, 0, tz (coefsT (rsum s.data.toList).2.2 11)) else (3, 0, [])) else (2, (rsum s.data.toList).2.1, [])) = r := by
      rw [← HRr.out]
      unfold pread
      rw [if_neg (c := 200 < s.data.toList.length) (by omega)]
    have hrs : rdSum s.data.toList (s.size + 1) (tak s.data.toList 45 0).1 (tak s.data.toList 45 0).2 [] = rsum s.data.toList := by unfold rsum; rw [hll]
    have hSum := fun (W : World) (rb : Nat) (g1 : Rd W rb s 0 (.slice none 0 0)) (g2 : w.heap.size ≤ rb) (g3 : w.heap.size ≤ W.heap.size) => readSum_any s rb (.slice none 0 0) W w.heap.size g1 (OwnT.nil _ _) hs g2 g3
    simp only [hrs, exists_eq_left] at hSum
    generalize rsum s.data.toList = R at *
    obtain ⟨ok, pos, ts⟩ := R
    have HSum : Hid _ := hSum
    have HP : Hid _ := hp
    clear hSum hp hrs hll HRr
    go_enter Tryz.func16, Tryz.ntmps16
    go_wp2_with fail
    generalize hW : w.alloc (Obj.cells #[Value.string s, Value.int IntKind.i64 0, Value.slice none 0 0] 61) = W0
    have hR0 : Rd W0 w.heap.size s 0 (.slice none 0 0) := by rw [← hW]; exact heap_alloc_new w _
    have hb0 : Below w.heap.size w W0 := by rw [← hW]; exact (Below.refl _ _).alloc (Nat.le_refl _) _
    clear hW
    refine (HSum.out W0 w.heap.size hR0 (Nat.le_refl _) hb0.size).mono ?_
    rintro e w1 ⟨rfl, hpos, hts, ⟨tv, hR1, hO1⟩, hK1⟩
    have hbw : Below w.heap.size w w1 := hb0.trans hK1.bel
    have c1 := hR1.c1; have c2 := hR1.c2
    cases ok
    · have hr : r = (2, pos, []) := by rw [← HP.out]; rfl
      clear HP
      go_wp2_with fail
      go_quiet (fail)
      go_wp2
      go_ret3
      subst hr
      exact ⟨.inr ⟨by show (2 : Nat) ≠ 0; omega, rfl⟩, below_drewN hbw nq⟩
    · go_wp2_with fail
      refine (gather_any tv ts w1 w.heap.size hO1 hts (ht.below hbw)).mono ?_
      rintro e w2 ⟨hG, hb2⟩
      have hbf := hbw.trans (hb2.mono hbw.size)
      rcases hG with ⟨hbig, rfl⟩ | ⟨hbig, ⟨hin, p, rfl, hp⟩ | ⟨hin, rfl⟩⟩
      · have HB : Hid _ := hbig
        clear hbig
        go_wp2
        go_ret3
        have hr : r = (3, 0, []) := by rw [← HP.out]; simp [HB.out]
        subst hr
        exact ⟨.inr ⟨by show (3 : Nat) ≠ 0; omega, rfl⟩, hbf⟩
      · have HB : Hid _ := hbig; have HI : Hid _ := hin
        clear hbig hin
        obtain ⟨pk, pv, rfl, _⟩ := id hp
        go_wp2
        go_ret3
        have hr : r = (0, 0, tz (coefsT ts 11)) := by rw [← HP.out]; simp [HB.out, HI.out]
        subst hr
        exact ⟨.inl ⟨rfl, HI.out, _, rfl, hp⟩, hbf⟩
      · have HB : Hid _ := hbig; have HI : Hid _ := hin
        clear hbig hin
        go_wp2
        go_ret3
        have hr : r = (3, 0, []) := by rw [← HP.out]; simp [HB.out, HI.out]
        subst hr
        exact ⟨.inr ⟨by show (3 : Nat) ≠ 0; omega, rfl⟩, hbf⟩

end Go.Proofs.YtldcjkhbiffdoabGreatDoor

namespace Go.Proofs.YtldcjkhbiffdoabGreatDoor
open Go.RowKit


theorem drop_get {l : List UInt8} {n : Nat} {c : UInt8} {s : List UInt8} (h : l.drop n = c :: s) : l[n]? = some c := by
  have := congrArg (fun r : List UInt8 => r[0]?) h
  simpa using this
theorem drop_nil {l : List UInt8} {n : Nat} (h : l.drop n = []) : l[n]? = none := by
  have := congrArg (fun r : List UInt8 => r[0]?) h
  simpa using this
theorem drop_plus {l : List UInt8} {n : Nat} {a s : List UInt8} (h : l.drop n = a ++ s) : l.drop (n + a.length) = s := by
  rw [← List.drop_drop, h, List.drop_left]
theorem drop_next {l : List UInt8} {n : Nat} {c : UInt8} {s : List UInt8} (h : l.drop n = c :: s) : l.drop (n + 1) = s := drop_plus (a := [c]) h

theorem tak_hit {l : List UInt8} {n : Nat} {c : UInt8} {s : List UInt8} (h : l.drop n = c :: s) (hc : c ≠ 32) : tak l c n = (true, n + 1) := by
  have h0 := drop_get h
  have h1 : skp l n = n := skp_stop (by rw [h0]; intro e; exact hc (Option.some.inj e))
  unfold tak
  rw [h1, if_pos h0]
theorem tak_miss {l : List UInt8} {n : Nat} {c : UInt8} (h : l[skp l n]? ≠ some c) : tak l c n = (false, skp l n) := by
  unfold tak
  rw [if_neg h]
theorem blanks_twice : ∀ r : List UInt8, blanks (r.drop (blanks r)) = 0
  | [] => rfl
  | c :: r => by
    by_cases h : (c == 32) = true
    · have : blanks (c :: r) = blanks r + 1 := by rw [blanks, if_pos h]
      rw [this, List.drop_succ_cons]
      exact blanks_twice r
    · have : blanks (c :: r) = 0 := by rw [blanks, if_neg h]
      rw [this, List.drop_zero, this]
theorem skp_skp (l : List UInt8) (n : Nat) : skp l (skp l n) = skp l n := by
  show skp l n + blanks (l.drop (n + blanks (l.drop n))) = skp l n
  rw [← List.drop_drop, blanks_twice]
  rfl

def Rst (R : List UInt8) : Prop := R = [] ∨ ∃ op R', R = 32 :: op :: R' ∧ (op = 43 ∨ op = 45)

theorem rst_get {l R : List UInt8} {n : Nat} (h : l.drop n = R) (hr : Rst R) (c : UInt8) (hc : l[skp l n]? = some c) : c = 43 ∨ c = 45 := by
  rcases hr with rfl | ⟨op, R', rfl, hop⟩
  · have h0 := drop_nil h
    rw [skp_stop (by rw [h0]; exact fun e => by cases e), h0] at hc
    cases hc
  · have h1 := drop_get (drop_next h)
    rw [skp_step (drop_get h), skp_stop (by rw [h1]; rcases hop with rfl | rfl <;> decide), h1] at hc
    exact Option.some.inj hc ▸ hop

theorem digs_rst {R : List UInt8} (hr : Rst R) : digs R = [] := by
  rcases hr with rfl | ⟨op, R', rfl, hop⟩
  · rfl
  · rfl
theorem digs_app : ∀ (D R : List UInt8), (∀ c, c ∈ D → isDig c = true) → digs R = [] → digs (D ++ R) = D
  | [], _, _, h => h
  | c :: D, R, hD, h => by
    show digs (c :: (D ++ R)) = _
    unfold digs
    rw [if_pos (hD c (List.mem_cons_self ..)), digs_app D R (fun x hx => hD x (List.mem_cons_of_mem _ hx)) h]


theorem numOf_app (b : List UInt8) : ∀ (a : List UInt8) (n : Nat), numOf n (a ++ b) = numOf (numOf n a) b
  | [], _ => rfl
  | _ :: a, _ => numOf_app b a _

theorem dig_val {i : Nat} (h : i < 10) : (UInt8.ofNat (48 + i)).toNat = 48 + i := by
  simp [UInt8.toNat_ofNat']
  omega
theorem dig_is {i : Nat} (h : i < 10) : isDig (UInt8.ofNat (48 + i)) = true := by
  have hv := dig_val h
  unfold isDig
  rw [Bool.and_eq_true, decide_eq_true_iff, decide_eq_true_iff, UInt8.le_iff_toNat_le, UInt8.le_iff_toNat_le, hv]
  exact ⟨show 48 ≤ 48 + i by omega, show 48 + i ≤ 57 by omega⟩

theorem dec_all (n : Nat) : (∀ c, c ∈ Lib.decDigits n → isDig c = true) ∧ numOf 0 (Lib.decDigits n) = n ∧ Lib.decDigits n ≠ [] := by
  induction n using Nat.strongRecOn with
  | ind n ih =>
    by_cases h : n < 10
    · rw [Lib.decDigits_one h]
      refine ⟨fun c hc => ?_, ?_, by simp⟩
      · rw [List.mem_singleton.1 hc]
        exact dig_is h
      · show 10 * 0 + ((UInt8.ofNat (48 + n)).toNat - 48) = n
        rw [dig_val h]; omega
    · rw [dec_big h]
      obtain ⟨i1, i2, i3⟩ := ih (n / 10) (by omega)
      have hm : n % 10 < 10 := by omega
      refine ⟨fun c hc => ?_, ?_, by simp⟩
      · rcases List.mem_append.1 hc with hc | hc
        · exact i1 c hc
        · rw [List.mem_singleton.1 hc]
          exact dig_is hm
      · rw [numOf_app, i2]
        show 10 * (n / 10) + ((UInt8.ofNat (48 + n % 10)).toNat - 48) = n
        rw [dig_val hm]; omega

theorem dig_ne {c : UInt8} (h : isDig c = true) : c ≠ 32 ∧ c ≠ 45 := by
  constructor <;> (rintro rfl; exact absurd h (by decide))

theorem dec_head (n : Nat) : ∃ b t, Lib.decDigits n = b :: t ∧ isDig b = true := by
  obtain ⟨h1, _, h3⟩ := dec_all n
  cases hd : Lib.decDigits n with
  | nil => exact absurd hd h3
  | cons b t => exact ⟨b, t, rfl, h1 b (by rw [hd]; exact List.mem_cons_self ..)⟩

theorem num_at {l R : List UInt8} {n c : Nat} (h : l.drop n = Lib.decDigits c ++ R) (hr : digs R = []) : rdNum l n = (true, c, n + (Lib.decDigits c).length) := by
  obtain ⟨h1, h2, h3⟩ := dec_all c
  obtain ⟨b, t, hb, hd⟩ := dec_head c
  have hs : skp l n = n := skp_stop (by rw [drop_get (c := b) (s := t ++ R) (by rw [h, hb]; rfl)]; intro e; exact (dig_ne hd).1 (Option.some.inj e))
  unfold rdNum
  rw [hs, h, digs_app _ _ h1 hr, h2]
  congr 1
  rw [hb]; rfl

theorem num_no {l s : List UInt8} {n : Nat} {c : UInt8} (h : l.drop n = c :: s) (h1 : c ≠ 32) (h2 : isDig c = false) : rdNum l n = (false, 0, n) := by
  have hs : skp l n = n := skp_stop (by rw [drop_get h]; intro e; exact h1 (Option.some.inj e))
  have hd : digs (l.drop n) = [] := by rw [h]; unfold digs; rw [if_neg (by rw [h2]; decide)]
  unfold rdNum
  rw [hs, hd]
  rfl


theorem pow_at {l R : List UInt8} {n k : Nat} (h : l.drop n = varT k ++ R) (hr : Rst R) (hk : 0 < k) : ∃ n', rdPow l n = (true, k, n') ∧ skp l n' = skp l (n + (varT k).length) := by
  unfold varT at h ⊢
  unfold rdPow
  by_cases h1 : 1 < k
  · rw [if_pos h1] at h ⊢
    have g1 : l.drop n = 120 :: (94 :: (Lib.decDigits k ++ R)) := h
    have g2 := drop_next g1
    have g3 := drop_next g2
    rw [tak_hit g1 (by decide)]
    show ∃ n', (if (tak l 94 (n + 1)).1 = true then rdNum l (tak l 94 (n + 1)).2 else (true, 1, (tak l 94 (n + 1)).2)) = (true, k, n') ∧ _
    rw [tak_hit g2 (by decide)]
    refine ⟨_, num_at g3 (digs_rst hr), ?_⟩
    congr 1
    simp
    omega
  · rw [if_neg h1] at h ⊢
    obtain rfl : k = 1 := by omega
    have g1 : l.drop n = 120 :: R := h
    have g2 := drop_next g1
    rw [tak_hit g1 (by decide)]
    show ∃ n', (if (tak l 94 (n + 1)).1 = true then rdNum l (tak l 94 (n + 1)).2 else (true, 1, (tak l 94 (n + 1)).2)) = (true, 1, n') ∧ _
    rw [tak_miss (c := 94) (fun hc => by rcases rst_get g2 hr _ hc with e | e <;> exact absurd e (by decide))]
    exact ⟨_, rfl, skp_skp _ _⟩

theorem var_head (k : Nat) : ∃ t, varT k = 120 :: t := by
  unfold varT
  split
  · exact ⟨_, rfl⟩
  · exact ⟨_, rfl⟩

theorem term_at {l R : List UInt8} {n c k : Nat} (h : l.drop n = termT c k ++ R) (hr : Rst R) : ∃ n', rdTerm l n = (true, c, k, n') ∧ skp l n' = skp l (n + (termT c k).length) := by
  unfold termT at h ⊢
  by_cases hk : k = 0
  · rw [if_pos hk] at h ⊢
    subst hk
    have g := drop_plus h
    unfold rdTerm
    rw [num_at h (digs_rst hr)]
    show ∃ n', (if (tak l 42 (n + (Lib.decDigits c).length)).1 = true then _ else _) = _ ∧ _
    rw [tak_miss (c := 42) (fun hc => by rcases rst_get g hr _ hc with e | e <;> exact absurd e (by decide))]
    exact ⟨_, rfl, skp_skp _ _⟩
  · rw [if_neg hk] at h ⊢
    by_cases h1 : Lib.decDigits c = [49]
    · rw [if_pos h1] at h ⊢
      obtain ⟨t, ht⟩ := var_head k
      have hc : c = 1 := by
        have := (dec_all c).2.1
        rw [h1] at this
        exact this.symm
      subst hc
      obtain ⟨n', e1, e2⟩ := pow_at h hr (by omega)
      unfold rdTerm
      rw [num_no (c := 120) (s := t ++ R) (by rw [h, ht]; rfl) (by decide) (by decide)]
      show ∃ n', ((rdPow l n).1, 1, (rdPow l n).2.1, (rdPow l n).2.2) = _ ∧ _
      rw [e1]
      exact ⟨n', rfl, e2⟩
    · rw [if_neg h1] at h ⊢
      have h' : l.drop n = Lib.decDigits c ++ (42 :: (varT k ++ R)) := by rw [h]; simp
      have g := drop_plus h'
      have g2 := drop_next g
      obtain ⟨n', e1, e2⟩ := pow_at g2 hr (by omega)
      unfold rdTerm
      rw [num_at h' (by rfl)]
      show ∃ n', (if (tak l 42 (n + (Lib.decDigits c).length)).1 = true then ((rdPow l (tak l 42 (n + (Lib.decDigits c).length)).2).1, c, (rdPow l (tak l 42 (n + (Lib.decDigits c).length)).2).2.1, (rdPow l (tak l 42 (n + (Lib.decDigits c).length)).2).2.2) else _) = _ ∧ _
      rw [tak_hit g (by decide)]
      show ∃ n', ((rdPow l (n + (Lib.decDigits c).length + 1)).1, c, (rdPow l (n + (Lib.decDigits c).length + 1)).2.1, (rdPow l (n + (Lib.decDigits c).length + 1)).2.2) = _ ∧ _
      rw [e1]
      refine ⟨n', rfl, e2.trans ?_⟩
      congr 1
      simp
      omega

theorem term_head (c k : Nat) : ∃ b t, termT c k = b :: t ∧ b ≠ 32 ∧ b ≠ 45 := by
  obtain ⟨b, t, hb, hd⟩ := dec_head c
  obtain ⟨t', ht⟩ := var_head k
  unfold termT
  split
  · exact ⟨b, t, hb, dig_ne hd⟩
  · split
    · exact ⟨120, t', ht, by decide, by decide⟩
    · exact ⟨b, _, by rw [hb]; rfl, dig_ne hd⟩

theorem rdTerm_step {l : List UInt8} {n : Nat} (h : l[n]? = some 32) : rdTerm l n = rdTerm l (n + 1) := by
  have : rdNum l n = rdNum l (n + 1) := by unfold rdNum; rw [skp_step h]
  unfold rdTerm
  rw [this]
theorem rdSum_step {l : List UInt8} {n f : Nat} {m : Bool} {ts : List (Int × Nat)} (h : l[n]? = some 32) : rdSum l (f + 1) m n ts = rdSum l (f + 1) m (n + 1) ts := by
  unfold rdSum termsOf
  rw [rdTerm_step h]


def more : List (Int × Nat) → List UInt8
  | [] => []
  | q :: tl => signT (decide (q.1 < 0)) false ++ (termT q.1.natAbs q.2 ++ more tl)

theorem more_app : ∀ (a b : List (Int × Nat)), more (a ++ b) = more a ++ more b
  | [], _ => rfl
  | q :: a, b => by
    show signT _ false ++ (termT _ _ ++ more (a ++ b)) = _
    rw [more_app a b]
    simp [more]
theorem more_len : ∀ (a : List (Int × Nat)), a.length ≤ (more a).length
  | [] => Nat.le_refl _
  | q :: a => by
    have := more_len a
    obtain ⟨b, t, hb, _⟩ := term_head q.1.natAbs q.2
    unfold more
    simp [hb]
    omega
theorem more_rst : ∀ (a : List (Int × Nat)), Rst (more a)
  | [] => .inl rfl
  | q :: a => by
    right
    unfold more signT
    by_cases h : q.1 < 0
    · exact ⟨45, 32 :: (termT q.1.natAbs q.2 ++ more a), by simp [h], .inr rfl⟩
    · exact ⟨43, 32 :: (termT q.1.natAbs q.2 ++ more a), by simp [h], .inl rfl⟩

def addAll (tl ts : List (Int × Nat)) : List (Int × Nat) := tl.foldl (fun ts q => addT q.1 q.2 ts) ts

theorem sgn_abs_neg {z : Int} (h : z < 0) : sgn true z.natAbs = z := by unfold sgn; rw [if_pos rfl]; omega
theorem sgn_abs_pos {z : Int} (h : ¬ z < 0) : sgn false z.natAbs = z := by unfold sgn; rw [if_neg (by decide)]; omega

theorem sum_at (l : List UInt8) : ∀ (tl : List (Int × Nat)) (m : Bool) (c k n f : Nat) (ts : List (Int × Nat)), l.drop n = termT c k ++ more tl → n ≤ l.length → tl.length < f →
    rdSum l f m n ts = (true, l.length, addAll tl (addT (sgn m c) k ts))
  | _, _, _, _, _, 0, _, _, _, hf => absurd hf (by omega)
  | [], m, c, k, n, f + 1, ts, h, hn, _ => by
    obtain ⟨n', e1, e2⟩ := term_at h (more_rst [])
    have g := drop_plus h
    have hlen := congrArg List.length h
    simp [more] at hlen
    have hs : skp l n' = l.length := by
      rw [e2, skp_stop (by rw [drop_nil g]; exact fun e => by cases e)]
      omega
    unfold rdSum termsOf
    rw [e1]
    simp only [if_true]
    rw [hs, if_pos (Nat.le_refl _)]
    rfl
  | q :: tl, m, c, k, n, f + 1, ts, h, hn, hf => by
    obtain ⟨n', e1, e2⟩ := term_at h (more_rst _)
    have g := drop_plus h
    have hlen := congrArg List.length h
    simp at hlen
    have hT := more_len (q :: tl)
    simp only [List.length_cons] at hT hf
    generalize hp : n + (termT c k).length = p at *
    unfold rdSum termsOf
    rw [e1]
    simp only [if_true]
    obtain ⟨f', rfl⟩ : ∃ f', f = f' + 1 := ⟨f - 1, by omega⟩
    by_cases hq : q.1 < 0
    · have g0 : l.drop p = 32 :: 45 :: 32 :: (termT q.1.natAbs q.2 ++ more tl) := by rw [g, more]; simp [signT, hq]
      have g1 := drop_next g0
      have g2 := drop_next g1
      have g3 := drop_next g2
      have hs : skp l n' = p + 1 := by rw [e2, skp_step (drop_get g0), skp_stop (by rw [drop_get g1]; decide)]
      have l3 := congrArg List.length g0
      simp at l3
      rw [hs, if_neg (by omega), tak_hit g1 (by decide)]
      simp only [if_true]
      rw [rdSum_step (drop_get g2), sum_at l tl true q.1.natAbs q.2 (p + 1 + 1 + 1) (f' + 1) _ g3 (by omega) (by omega), sgn_abs_neg hq]
      rfl
    · have g0 : l.drop p = 32 :: 43 :: 32 :: (termT q.1.natAbs q.2 ++ more tl) := by rw [g, more]; simp [signT, hq]
      have g1 := drop_next g0
      have g2 := drop_next g1
      have g3 := drop_next g2
      have hz : skp l (p + 1) = p + 1 := skp_stop (by rw [drop_get g1]; decide)
      have hs : skp l n' = p + 1 := by rw [e2, skp_step (drop_get g0), hz]
      have l3 := congrArg List.length g0
      simp at l3
      rw [hs, if_neg (by omega), tak_miss (c := 45) (by rw [hz, drop_get g1]; decide)]
      simp only [hz]
      rw [tak_hit g1 (by decide)]
      simp only [if_true]
      rw [if_neg (by decide), rdSum_step (drop_get g2), sum_at l tl false q.1.natAbs q.2 (p + 1 + 1 + 1) (f' + 1) _ g3 (by omega) (by omega), sgn_abs_pos hq]
      rfl


def tms (zs : List Int) (n : Nat) : Nat → List (Int × Nat)
  | 0 => []
  | m + 1 => tms zs n m ++ (if zs.getD (n - 1 - m) 0 = 0 then [] else [(zs.getD (n - 1 - m) 0, n - 1 - m)])

def txt : List (Int × Nat) → List UInt8
  | [] => []
  | q :: tl => signT (decide (q.1 < 0)) true ++ (termT q.1.natAbs q.2 ++ more tl)

theorem txt_nil {a : List (Int × Nat)} : txt a = [] ↔ a = [] := by
  cases a with
  | nil => simp [txt]
  | cons q a =>
    obtain ⟨b, t, hb, _⟩ := term_head q.1.natAbs q.2
    simp [txt, hb]

theorem ptm_txt (zs : List Int) (n : Nat) : ∀ m, ptm zs n m = txt (tms zs n m)
  | 0 => rfl
  | m + 1 => by
    unfold ptm tms stepT
    rw [ptm_txt zs n m]
    split
    · simp
    · generalize tms zs n m = a
      cases a with
      | nil => simp [txt, more]
      | cons q a =>
        have : (txt (q :: a)).isEmpty = false := by
          cases h : txt (q :: a) with
          | nil => exact absurd (txt_nil.1 h) (by simp)
          | cons _ _ => rfl
        rw [this]
        simp [txt, more_app, more]

def smT (k : Nat) : List (Int × Nat) → Int
  | [] => 0
  | q :: tl => (if q.2 = k then q.1 else 0) + smT k tl
theorem smT_app (k : Nat) : ∀ (a b : List (Int × Nat)), smT k (a ++ b) = smT k a + smT k b
  | [], b => by simp [smT]
  | q :: a, b => by show _ + smT k (a ++ b) = _ + _ + _; rw [smT_app k a b]; omega

theorem nAt_addT (k : Nat) (c : Int) (p : Nat) : ∀ ts : List (Int × Nat), nAt k (addT c p ts) = nAt k ts + (if p = k then c else 0)
  | [] => by simp [addT, nAt]
  | (d, q) :: ts => by
    unfold addT
    by_cases hq : q = p
    · subst hq
      rw [if_pos rfl]
      unfold nAt
      by_cases hk : q = k
      · simp [hk]
      · simp [hk]
    · rw [if_neg hq]
      unfold nAt
      by_cases hk : q = k
      · subst hk
        simp [Ne.symm hq]
      · simp only [if_neg hk]
        exact nAt_addT k c p ts
theorem nAt_addAll (k : Nat) : ∀ (tl ts : List (Int × Nat)), nAt k (addAll tl ts) = nAt k ts + smT k tl
  | [], ts => by simp [addAll, smT]
  | q :: tl, ts => by
    show nAt k (addAll tl (addT q.1 q.2 ts)) = _
    rw [nAt_addAll k tl, nAt_addT, smT]
    omega

theorem pow_addAll {N : Nat} : ∀ (tl ts : List (Int × Nat)), (∀ q, q ∈ tl → q.2 ≤ N) → (∀ q, q ∈ ts → q.2 ≤ N) → ∀ q, q ∈ addAll tl ts → q.2 ≤ N
  | [], ts, _, h => h
  | r :: tl, ts, h1, h2 => by
    have hr := h1 r (List.mem_cons_self ..)
    refine pow_addAll tl (addT r.1 r.2 ts) (fun q hq => h1 q (List.mem_cons_of_mem _ hq)) (fun q hq => ?_)
    rcases addT_mem hq with h | h | ⟨d, _, h⟩
    · exact h2 q h
    · rw [h]; exact hr
    · rw [h]; exact hr

theorem smT_tms (zs : List Int) (n k : Nat) : ∀ m, m ≤ n → smT k (tms zs n m) = if n - m ≤ k ∧ k < n then zs.getD k 0 else 0
  | 0, _ => by rw [if_neg (by omega)]; rfl
  | m + 1, hm => by
    unfold tms
    rw [smT_app, smT_tms zs n k m (by omega)]
    by_cases hk : n - 1 - m = k
    · subst hk
      rw [if_neg (show ¬ (n - m ≤ n - 1 - m ∧ n - 1 - m < n) by omega), if_pos (show n - (m + 1) ≤ n - 1 - m ∧ n - 1 - m < n by omega)]
      split
      · rename_i h; rw [h]; rfl
      · simp [smT]
    · have : smT k (if zs.getD (n - 1 - m) 0 = 0 then [] else [(zs.getD (n - 1 - m) 0, n - 1 - m)]) = 0 := by
        split
        · rfl
        · simp [smT, hk]
      rw [this]
      by_cases h2 : n - m ≤ k ∧ k < n
      · rw [if_pos h2, if_pos (by omega)]; omega
      · rw [if_neg h2, if_neg (by omega)]; rfl

theorem tms_pow (zs : List Int) (n : Nat) : ∀ m, ∀ q, q ∈ tms zs n m → q.2 ≤ n - 1
  | 0, q, h => by simp [tms] at h
  | m + 1, q, h => by
    unfold tms at h
    rcases List.mem_append.1 h with h | h
    · exact tms_pow zs n m q h
    · split at h
      · simp at h
      · obtain rfl := List.mem_singleton.1 h
        show n - 1 - m ≤ n - 1
        omega

theorem coefs_at (ts : List (Int × Nat)) (n k : Nat) (h : k < n) : (coefsT ts n).getD k 0 = nAt k ts := by
  simp [coefsT, List.getD, List.getElem?_map, List.getElem?_range h]

theorem rsum_text (zs : List Int) (hz : zs.length ≤ 11) : ∃ ts, rsum (ptext zs) = (true, (ptext zs).length, ts) ∧ (∀ k, nAt k ts = zs.getD k 0) ∧ ∀ q, q ∈ ts → q.2 ≤ 10 := by
  have hp := tms_pow zs zs.length zs.length
  have hs := fun k => smT_tms zs zs.length k zs.length (Nat.le_refl _)
  have hs' : ∀ k, smT k (tms zs zs.length zs.length) = zs.getD k 0 := fun k => by
    rw [hs k]
    by_cases hk : k < zs.length
    · rw [if_pos (by omega)]
    · rw [if_neg (by omega)]
      simp [List.getD, List.getElem?_eq_none (show zs.length ≤ k by omega)]
  unfold ptext
  rw [ptm_txt]
  generalize tms zs zs.length zs.length = a at hp hs'
  have hp' : ∀ q, q ∈ a → q.2 ≤ 10 := fun q hq => by have := hp q hq; omega
  cases a with
  | nil =>
    rw [if_pos (show txt [] = [] from rfl)]
    refine ⟨addAll [] (addT (sgn false 0) 0 []), ?_, fun k => ?_, fun q hq => ?_⟩
    · unfold rsum
      exact sum_at [48] [] false 0 0 0 2 [] (by decide +kernel) (by decide) (by decide)
    · rw [← hs' k, nAt_addAll, nAt_addT]
      simp [nAt, smT, sgn]
    · obtain rfl : q = (0, 0) := by simpa [addAll, addT, sgn] using hq
      decide
  | cons q tl =>
    rw [if_neg (fun h => by have := txt_nil.1 h; cases this)]
    generalize hl : txt (q :: tl) = l
    have hlen := more_len tl
    have hpow := pow_addAll (N := 10) tl (addT q.1 q.2 []) (fun r hr => hp' r (List.mem_cons_of_mem _ hr)) (fun r hr => by
      obtain rfl : r = (q.1, q.2) := by simpa [addT] using hr
      exact hp' q (List.mem_cons_self ..))
    refine ⟨addAll tl (addT q.1 q.2 []), ?_, fun k => ?_, hpow⟩
    · unfold rsum
      by_cases hq : q.1 < 0
      · have hl' : l.drop 0 = 45 :: (termT q.1.natAbs q.2 ++ more tl) := by rw [← hl]; simp [txt, signT, hq]
        have hL := congrArg List.length hl'
        simp at hL
        rw [tak_hit hl' (by decide)]
        have := sum_at l tl true q.1.natAbs q.2 1 (l.length + 1) [] (drop_next hl') (by omega) (by omega)
        rw [sgn_abs_neg hq] at this
        exact this
      · have hl' : l.drop 0 = termT q.1.natAbs q.2 ++ more tl := by rw [← hl]; simp [txt, signT, hq]
        obtain ⟨b, t, hb, h1, h2⟩ := term_head q.1.natAbs q.2
        have hg : l[0]? = some b := drop_get (s := t ++ more tl) (by rw [hl', hb]; rfl)
        have hk0 : skp l 0 = 0 := skp_stop (by rw [hg]; intro e; exact h1 (Option.some.inj e))
        have hL := congrArg List.length hl'
        simp at hL
        rw [tak_miss (c := 45) (by rw [hk0, hg]; intro e; exact h2 (Option.some.inj e)), hk0]
        have := sum_at l tl false q.1.natAbs q.2 0 (l.length + 1) [] hl' (by omega) (by omega)
        rw [sgn_abs_pos hq] at this
        exact this
    · rw [← hs' k, nAt_addAll, nAt_addT]
      simp [nAt, smT]

end Go.Proofs.YtldcjkhbiffdoabGreatDoor

set_option linter.unusedSimpArgs false
namespace Go.Proofs.YtldcjkhbiffdoabGreatDoor

end Go.Proofs.YtldcjkhbiffdoabGreatDoor

set_option linter.unusedSimpArgs false
namespace Go.Proofs.YtldcjkhbiffdoabGreatDoor
open Go.RowKit

def OfV (w : World) (p : Value) : Prop := p = .pointer none ∨ ∃ zs, inB zs = true ∧ Tr zs ∧ IsP w p zs

theorem OfV.below {w w' : World} {p : Value} (h : OfV w p) (hb : Below w.heap.size w w') : OfV w' p := by
  rcases h with h | ⟨zs, h1, h2, h3⟩
  · exact .inl h
  · exact .inr ⟨zs, h1, h2, h3.below hb⟩

end Go.Proofs.YtldcjkhbiffdoabGreatDoor
