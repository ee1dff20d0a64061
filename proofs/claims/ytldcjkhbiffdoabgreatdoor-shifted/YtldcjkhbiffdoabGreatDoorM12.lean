import Derived.Test.YtldcjkhbiffdoabGreatDoorM09
import Derived.Test.YtldcjkhbiffdoabGreatDoorM10

set_option linter.unusedSimpArgs false
namespace Go.Proofs.YtldcjkhbiffdoabGreatDoor

theorem ev_shH (s t : Int) (zs : List Int) : ∀ d n, n + d = zs.length → ev t (tab d (shH s zs n d)) = ev (t + s) (zs.drop n)
  | 0, n, h => by rw [List.drop_eq_nil_of_le (by omega)]; rfl
  | d + 1, n, h => by
    have ih := ev_shH s t zs d (n + 1) (by omega)
    obtain ⟨z, hz⟩ : ∃ z, zs.drop n = z :: zs.drop (n + 1) ∧ zs.getD n 0 = z := by
      have hn : n < zs.length := by omega
      exact ⟨zs[n], List.drop_eq_getElem_cons hn, by rw [List.getD_eq_getElem?_getD, List.getElem?_eq_getElem hn]; rfl⟩
    rw [hz.1]
    show _ = z + (t + s) * ev (t + s) (zs.drop (n + 1))
    rw [← ih]
    have h1 : ev t (tab (d + 1) (shH s zs n (d + 1))) = ev t (ladd (ladd ((tab d (shH s zs (n + 1) d)).map fun x => s * x) (0 :: tab d (shH s zs (n + 1) d))) [z]) := ev_of_getD (fun k => by
      rw [ladd_getD, ladd_getD, scal_getD, tab_getD, tab_getD, single_getD]
      have hk : (0 :: tab d (shH s zs (n + 1) d)).getD k 0 = if k = 0 then 0 else shH s zs (n + 1) d (k - 1) := by
        cases k with
        | zero => rfl
        | succ k =>
          show (tab d (shH s zs (n + 1) d)).getD k 0 = _
          rw [tab_getD, if_neg (show ¬ k + 1 = 0 by omega)]
          show _ = shH s zs (n + 1) d k
          by_cases h' : k < d
          · rw [if_pos h']
          · rw [if_neg h', shH_out s zs d (n + 1) k (by omega)]
      have hk2 : (if k < d then shH s zs (n + 1) d k else 0) = shH s zs (n + 1) d k := by
        by_cases h' : k < d
        · rw [if_pos h']
        · rw [if_neg h', shH_out s zs d (n + 1) k (by omega)]
      have hk3 : (if k < d + 1 then shH s zs n (d + 1) k else 0) = shH s zs n (d + 1) k := by
        by_cases h' : k < d + 1
        · rw [if_pos h']
        · rw [if_neg h', shH_out s zs (d + 1) n k (by omega)]
      rw [hk, hk2, hk3]
      show shT s (shH s zs (n + 1) d) k + (if k = 0 then zs.getD n 0 else 0) = _
      rw [hz.2]
      unfold shT
      rw [Int.mul_comm s]) t
    rw [h1, ev_ladd, ev_ladd, ev_scal]
    show s * ev t (tab d (shH s zs (n + 1) d)) + (0 + t * ev t (tab d (shH s zs (n + 1) d))) + (z + t * 0) = _
    rw [Int.add_mul]
    omega

theorem pl_shf (s : Int) : ∀ (l : List Int), Pl l.length (fun t => ev (t + s) l)
  | [] => Pl.zero 0
  | a :: l => by
    have h1 := pl_shf s l
    have h2 : Pl (l.length + 1) (fun t => t * ev (t + s) l) := ((h1.shift 1).congr fun t => by rw [Int.pow_one]).mono (by omega)
    have h3 : Pl (l.length + 1) (fun t => s * ev (t + s) l) := (h1.scal s).mono (by omega)
    have h4 : Pl (l.length + 1) (fun _ => a) := (Pl.const a).mono (by omega)
    exact ((h4.add h2).add h3).congr fun t => by
      show a + (t + s) * ev (t + s) l = _
      rw [Int.add_mul]; omega

theorem Po.shf {f : Int → Int} (hf : Po f) (s : Int) : Po (fun t => f (t + s)) := by
  obtain ⟨n, l, hl, e⟩ := hf
  exact (pl_shf s l).po.congr fun t => e (t + s)

theorem Ld.shf (s : Int) : ∀ (l : List Int) (n : Nat), l.length = n + 1 → Ld n (l.getD n 0) (fun t => ev (t + s) l)
  | [a], n, h => by
    obtain rfl : n = 0 := by simpa using h.symm
    exact (Ld.const a).congr fun t => by simp [ev]
  | a :: b :: l, n, h => by
    obtain ⟨m, rfl⟩ : ∃ m, n = m + 1 := ⟨n - 1, by simp at h; omega⟩
    have h1 := Ld.shf s (b :: l) m (by simpa using h)
    have h2 : Ld (m + 1) ((b :: l).getD m 0) (fun t => t * ev (t + s) (b :: l)) := by
      have := (Ld.one_pow (n := 1)).mul h1
      rw [Int.one_mul, Nat.add_comm 1 m] at this
      exact this.congr fun t => by rw [Int.pow_one]
    have h3 : Pl (m + 1) (fun t => a + s * ev (t + s) (b :: l)) := ((Pl.const a).mono (by omega)).add ((h1.pl.scal s))
    have h4 := h2.add (Ld.of_pl h3)
    rw [Int.add_zero] at h4
    exact h4.congr fun t => by
      show a + (t + s) * ev (t + s) (b :: l) = _
      rw [Int.add_mul]; omega

theorem Pp.shf {p : List Int} (h : Pp p) (s : Int) : ∃ q, Pp q ∧ q.length = p.length ∧ ∀ t, ev t q = ev (t + s) p := by
  obtain ⟨n, hn⟩ : ∃ n, p.length = n + 1 := ⟨p.length - 1, by have := List.length_pos_iff.2 h.ne; omega⟩
  obtain ⟨q, hq1, hq2, hq3⟩ := (Ld.shf s p n hn).list
  have hl : Go.Proofs.YtldcjkhbiffdoabGreatDoor.lead p = p.getD n 0 := by unfold Go.Proofs.YtldcjkhbiffdoabGreatDoor.lead; rw [hn]; rfl
  have hl' : Go.Proofs.YtldcjkhbiffdoabGreatDoor.lead q = p.getD n 0 := by unfold Go.Proofs.YtldcjkhbiffdoabGreatDoor.lead; rw [hq1]; exact hq2
  have hlead := h.lead
  refine ⟨q, Pp.of (fun _ => ?_) (by omega) ⟨Po.ev q, fun r h1 h2 hz => ?_⟩, by omega, fun t => (hq3 t).symm⟩
  · have : q.getD (q.length - 1) 0 = Go.Proofs.YtldcjkhbiffdoabGreatDoor.lead q := rfl
    rw [this]; omega
  · obtain ⟨g, hg, e⟩ := hz
    refine h.prm.2 r h1 h2 ⟨fun t => g (t + -s), hg.shf (-s), fun t => ?_⟩
    have h3 : ev (t + -s) q = r * g (t + -s) := e (t + -s)
    rw [← hq3, Int.neg_add_cancel_right] at h3
    exact h3

theorem Iz.shf {r : Int → Int} (h : Iz r) (s : Int) : Iz (fun t => r (t + s)) := by
  have back : ∀ {f : Int → Int}, Dm 0 0 (fun t => f (t + -s)) → Dm 0 0 f := fun {f} hf => by
    obtain ⟨c, hc, g, hg, e⟩ := hf.zero
    refine Dm.of_ld ((Ld.const c).congr fun t => ?_) hc
    have := e (t + s)
    dsimp only at this
    rw [Int.add_neg_cancel_right, Int.zero_mul] at this
    omega
  refine ⟨h.1.shf s, fun hz => h.2.1 ?_, fun hd => h.2.2.1 ?_, fun a b ha hb e => ?_⟩
  · obtain ⟨g, hg, e⟩ := hz
    exact ⟨fun t => g (t + -s), hg.shf (-s), fun t => by
      have := e (t + -s)
      dsimp only at this
      rw [Int.neg_add_cancel_right] at this
      exact this⟩
  · obtain ⟨c, hc, g, hg, e⟩ := hd.zero
    refine Dm.of_ld ((Ld.const c).congr fun t => ?_) hc
    have := e (t + -s)
    dsimp only at this
    rw [Int.neg_add_cancel_right, Int.zero_mul] at this
    omega
  · have := h.2.2.2 (fun t => a (t + -s)) (fun t => b (t + -s)) (ha.shf (-s)) (hb.shf (-s)) fun t => by
      have := e (t + -s)
      dsimp only at this
      rw [Int.neg_add_cancel_right] at this
      exact this
    exact this.imp back back

theorem pE_shf (s : Int) : ∀ {ps : List (List Int × Nat)}, (∀ x, x ∈ ps → Pp x.1 ∧ Iz (fun t => ev t x.1)) → ∃ qs : List (List Int × Nat), (∀ x, x ∈ qs → Pp x.1 ∧ Iz (fun t => ev t x.1)) ∧ (∀ t, pE qs t = pE ps (t + s)) ∧ qs.length = ps.length ∧ ∀ (i : Nat) (x y : List Int × Nat), ps[i]? = some x → qs[i]? = some y → y.2 = x.2 ∧ ∀ t, ev t y.1 = ev (t + s) x.1
  | [], _ => ⟨[], (fun x h => by cases h), (fun t => rfl), rfl, (fun i x y h => by simp at h)⟩
  | x :: ps, h => by
    obtain ⟨qs, h1, h2, h3, h4⟩ := pE_shf s (ps := ps) fun y hy => h y (List.mem_cons_of_mem _ hy)
    obtain ⟨hx, ix⟩ := h x (List.mem_cons_self ..)
    obtain ⟨q, hq1, hq2, hq3⟩ := hx.shf s
    refine ⟨(q, x.2) :: qs, fun y hy => ?_, fun t => ?_, by simp [h3], fun i u v hu hv => ?_⟩
    · rcases List.mem_cons.1 hy with rfl | hy
      · refine ⟨hq1, ?_⟩
        have e : (fun t => ev t q) = fun t => ev (t + s) x.1 := funext hq3
        show Iz (fun t => ev t q)
        rw [e]
        exact ix.shf s
      · exact h1 y hy
    · show ev t q ^ x.2 * pE qs t = ev (t + s) x.1 ^ x.2 * pE ps (t + s)
      rw [hq3, h2]
    · cases i with
      | zero =>
        simp at hu hv
        subst hu hv
        exact ⟨rfl, hq3⟩
      | succ i => exact h4 i u v (by simpa using hu) (by simpa using hv)

theorem nodup_le : ∀ {l m : List (List Int)}, l.Nodup → (∀ x, x ∈ l → x ∈ m) → l.length ≤ m.length
  | [], m, _, _ => by simp
  | x :: l, m, h, hs => by
    obtain ⟨h1, h2⟩ := List.nodup_cons.1 h
    have hx := hs x (List.mem_cons_self ..)
    have := nodup_le (m := m.erase x) h2 fun y hy => (List.mem_erase_of_ne (fun e : y = x => h1 (e ▸ hy))).2 (hs y (List.mem_cons_of_mem _ hy))
    rw [List.length_erase_of_mem hx] at this
    have := List.length_pos_of_mem hx
    simp only [List.length_cons]
    omega

theorem asc_nodup {ps : List (List Int × Nat)} (h : ps.Pairwise fun a b => bfr a.1 b.1 = true) : (ps.map (·.1)).Nodup := by
  refine List.pairwise_map.2 (h.imp fun {a b} hab e => ?_)
  rw [e, bfr_irrefl] at hab
  cases hab

theorem fac_shf {a b : List Int} {ca cb : Int} {pa pb : List (List Int × Nat)} {s : Int} (tb : Tr b) (hb : b ≠ []) (fa : Fac a ca pa) (fb : Fac b cb pb) (e : ∀ t, ev t b = ev (t + s) a) :
    cb = ca ∧ pb.length = pa.length ∧ ∀ x, x ∈ pa → ∀ q, Tr q → (∀ t, ev t q = ev (t + s) x.1) → oft pb q = x.2 := by
  obtain ⟨qs, h1, h2, h3, h4⟩ := pE_shf s (ps := pa) fun x hx => ⟨(fa.each x hx).1, (fa.each x hx).2.1⟩
  have e2 : ∀ t, ev t b = ca * pE qs t := fun t => by rw [e, fa.eq, h2]
  have hoft : ∀ {p : List Int}, Pp p → Iz (fun t => ev t p) → oft pb p = oft qs p := fun hp ip => oft_same tb hb (fun x hx => ⟨(fb.each x hx).1, (fb.each x hx).2.1⟩) h1 fb.eq e2 hp ip
  have at1 : ∀ i (y : List Int × Nat), qs[i]? = some y → ∃ x, pa[i]? = some x := fun i y hy => by
    have := (List.getElem?_eq_some_iff.1 hy).1
    exact ⟨pa[i], List.getElem?_eq_getElem (by omega)⟩
  have hnd : (qs.map (·.1)).Nodup := by
    rw [List.nodup_iff_pairwise_ne, List.pairwise_map, List.pairwise_iff_getElem]
    intro i j hi hj hij he
    obtain ⟨x, hx⟩ := at1 i _ (List.getElem?_eq_getElem hi)
    obtain ⟨y, hy⟩ := at1 j _ (List.getElem?_eq_getElem hj)
    have e3 := (h4 i x _ hx (List.getElem?_eq_getElem hi)).2
    have e4 := (h4 j y _ hy (List.getElem?_eq_getElem hj)).2
    have hxy : x.1 = y.1 := Pp.ext (fa.each x (List.mem_of_getElem? hx)).1.tr (fa.each y (List.mem_of_getElem? hy)).1.tr fun t => by
      have a1 := e3 (t + -s)
      have a2 := e4 (t + -s)
      rw [Int.neg_add_cancel_right] at a1 a2
      rw [← a1, ← a2, he]
    have := List.pairwise_iff_getElem.1 fa.asc i j (by omega) (by omega) hij
    rw [(List.getElem?_eq_some_iff.1 hx).2, (List.getElem?_eq_some_iff.1 hy).2, hxy, bfr_irrefl] at this
    cases this
  have hpos : ∀ y, y ∈ qs → 1 ≤ y.2 := fun y hy => by
    obtain ⟨i, hi⟩ := List.getElem?_of_mem hy
    obtain ⟨x, hx⟩ := at1 i y hi
    rw [(h4 i x y hx hi).1]
    exact (fa.each x (List.mem_of_getElem? hx)).2.2
  have l1 : (pb.map (·.1)).length ≤ (qs.map (·.1)).length := nodup_le (asc_nodup fb.asc) fun p hp => by
    obtain ⟨x, hx, rfl⟩ := List.mem_map.1 hp
    have h5 := hoft (fb.each x hx).1 (fb.each x hx).2.1
    rw [oft_asc fb.asc hx] at h5
    obtain ⟨y, hy, h6⟩ := oft_pos (l := qs) (p := x.1) (by have := (fb.each x hx).2.2; omega)
    exact List.mem_map.2 ⟨y, hy, h6⟩
  have l2 : (qs.map (·.1)).length ≤ (pb.map (·.1)).length := nodup_le hnd fun p hp => by
    obtain ⟨y, hy, rfl⟩ := List.mem_map.1 hp
    have h5 := hoft (h1 y hy).1 (h1 y hy).2
    have h6 := oft_mem hy
    have h7 := hpos y hy
    obtain ⟨x, hx, h8⟩ := oft_pos (l := pb) (p := y.1) (by omega)
    exact List.mem_map.2 ⟨x, hx, h8⟩
  rw [List.length_map, List.length_map] at l1 l2
  refine ⟨?_, by omega, fun x hx q tq hq => ?_⟩
  · rw [fb.cont]
    exact scont_pE tb hb (fun x hx => (h1 x hx).1) e2
  · obtain ⟨i, hi⟩ := List.getElem?_of_mem hx
    have hil := (List.getElem?_eq_some_iff.1 hi).1
    have hqi : qs[i]? = some qs[i] := List.getElem?_eq_getElem (by omega)
    obtain ⟨e3, e4⟩ := h4 i x _ hi hqi
    have hm := List.mem_of_getElem? hqi
    obtain rfl : q = qs[i].1 := Pp.ext tq (h1 _ hm).1.tr fun t => by rw [hq, e4]
    rw [hoft (h1 _ hm).1 (h1 _ hm).2, ← e3]
    have : ∀ {l : List (List Int × Nat)}, (l.map (·.1)).Nodup → ∀ {y}, y ∈ l → oft l y.1 = y.2 := by
      intro l
      induction l with
      | nil => intro _ y hy; cases hy
      | cons z l ih =>
        intro hn y hy
        rw [List.map_cons] at hn
        obtain ⟨n1, n2⟩ := List.nodup_cons.1 hn
        unfold oft
        rcases List.mem_cons.1 hy with rfl | hy
        · rw [if_pos rfl, oft_none (p := y.1) fun u hu e => n1 (by rw [← e]; exact List.mem_map.2 ⟨u, hu, rfl⟩)]; omega
        · rw [if_neg (fun e : z.1 = y.1 => n1 (by rw [e]; exact List.mem_map.2 ⟨y, hy, rfl⟩)), ih n2 hy]; omega
    exact this hnd hm

end Go.Proofs.YtldcjkhbiffdoabGreatDoor
