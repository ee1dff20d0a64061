import Derived.Test.YtldcjkhbiffdoabGreatDoorCMDiv
import Derived.Test.YtldcjkhbiffdoabGreatDoorM05
import Derived.Test.YtldcjkhbiffdoabGreatDoorM07
import Derived.Test.YtldcjkhbiffdoabGreatDoorM18
import Derived.Test.YtldcjkhbiffdoabGreatDoorM16

namespace Go.Proofs.YtldcjkhbiffdoabGreatDoor
open Go.RowKit

theorem lit1 {w : World} {k : Int} : OwnN w.heap.size (w.alloc (.cells #[.int .i64 k] 3)) (.slice (some ⟨w.heap.size, 0, none⟩) 1 1) [k] ∧ Below w.heap.size w (w.alloc (.cells #[.int .i64 k] 3)) :=
  ⟨World.ownsRow_lit w #[.int .i64 k] 1 (Nat.le_refl _) (by simp [maxLen]) rfl, (Below.refl _ _).alloc (Nat.le_refl _) _⟩

theorem red1 {p : Nat} {k : Nat} (h : k < p) : Red p [(k : Int)] := by
  refine Red.of_mem (by omega) fun a ha => ?_
  simp at ha
  omega

set_option maxHeartbeats 1000000 in
theorem monic_any (p : Nat) (a : List Int) (u : Value) (w : World) (hu : RowN w u a) (hl : a.length ≤ 900) (hp2 : 2 ≤ p) (hp1 : p < 1000) (hp : Dom (p : Int)) (na : Nrm p a) (hne : a ≠ []) :
    Calls Tryz.prog 89 #[u, .int .i64 p] w fun e w' => ∃ g x, e = .returned x ∧ OwnN w.heap.size w' x g ∧ MonO p a g ∧ Below w.heap.size w w' := by
  obtain ⟨ua, uc, rfl⟩ := hu.val
  have h0 := List.length_pos_iff.2 hne
  have hat := atN_any a _ (a.length - 1) w hu (by omega) (by omega)
  rw [show a.getD (a.length - 1) 0 = lead a from rfl, show ((a.length - 1 : Nat) : Int) = (a.length : Int) - 1 by omega] at hat
  obtain ⟨_, h1, h2, h3⟩ := na.ld hne
  have hinv := fun (W : World) => inverse_any p (lead a).toNat W hp2 hp1 hp (by omega) (by rw [show (((lead a).toNat : Nat) : Int) = lead a by omega]; exact h3)
  rw [show (((lead a).toNat : Nat) : Int) = lead a by omega] at hinv
  have HE : Hid (∀ (k : Nat) (g : List Int), (p : Int) ∣ lead a * k - 1 → Nrm p g → Zm p (fun t => ev t g - ev t a * ev t [(k : Int)]) → MonO p a g) := fun k g e1 e2 e3 => MonO.of hp na hne e2 e1 e3
  have HM : Hid (∀ (W : World) (k : Nat) (v : Value), k < p → Below w.heap.size w W → RowN W v [(k : Int)] → _) := fun W k v hk hb hv => mulM_any p a [(k : Int)] _ v W (hu.below hb) hv (by omega) (by simp) (by omega) hp1 na.1 (red1 hk)
  have HI : Hid _ := hinv
  clear hinv na hne h3
  generalize lead a = z at *
  go_enter Tryz.func89, Tryz.ntmps89
  go_wp2_with fail
  refine hat.mono ?_
  rintro e w1 ⟨rfl, rfl⟩
  go_wp2_with fail
  refine (HI.out w1).mono ?_
  rintro e w2 ⟨k, rfl, hk, hdv, rfl⟩
  have HDV : Hid _ := hdv
  clear hdv
  go_wp2_with fail
  obtain ⟨hlit, hb2⟩ := lit1 (w := w2) (k := (k : Int))
  generalize w2.alloc (Obj.cells #[Value.int .i64 (k : Int)] 3) = W2 at *
  refine (HM.out W2 k _ hk hb2 hlit.row).mono ?_
  rintro e w3 ⟨g, x, rfl, hI3, hn3, hz3, hl3, hb3⟩
  obtain ⟨xa, xc, rfl⟩ := hI3.row.val
  go_wp2
  go_ret
  exact ⟨g, _, rfl, hI3.lower hb2.size, HE.out k g HDV.out hn3 hz3, hb2.trans (hb3.mono hb2.size)⟩

set_option maxHeartbeats 1000000 in
theorem gcdM_any (p : Nat) (a b : List Int) (u v : Value) (w : World) (hu : RowN w u a) (hv : RowN w v b) (hl : a.length ≤ 900) (hm : b.length ≤ 900) (hp2 : 2 ≤ p) (hp1 : p < 1000) (hp : Dom (p : Int)) (na : Nrm p a) (nb : Nrm p b) (hne : a ≠ [] ∨ b ≠ []) :
    Calls Tryz.prog 119 #[u, v, .int .i64 p] w fun e w' => ∃ g x, e = .returned x ∧ OwnN w.heap.size w' x g ∧ GM p a b g ∧ g.length ≤ 900 ∧ Below w.heap.size w w' := by
  obtain ⟨ua, uc, rfl⟩ := hu.val
  obtain ⟨va, vc, rfl⟩ := hv.val
  have HG0 : Hid _ := GcO.start na nb hne
  have HP : Hid _ := hp
  clear na nb hne hp
  go_enter Tryz.func119, Tryz.ntmps119
  go_wp2_with fail
  go_loopw [7, 8] (fun x y wr => ∃ (A C : List Int), RowN wr x A ∧ RowN wr y C ∧ A.length ≤ 900 ∧ C.length ≤ 900 ∧ Hid (GcO p a b A C) ∧ Below w.heap.size w wr) (fun _ y _ => lenV y)
  case atStart => exact ⟨a, b, hu, hv, hl, hm, HG0, Below.refl _ _⟩
  case round =>
    clear hu hv HG0
    obtain ⟨A, C, hA, hC, hAl, hCl, HG, hbel⟩ := hrel
    obtain ⟨xa, xc, rfl⟩ := hA.val
    obtain ⟨ya, yc, rfl⟩ := hC.val
    by_cases h0 : C = []
    · subst h0
      have hl0 : ([] : List Int).length = 0 := rfl
      have hA0 : A ≠ [] := HG.out.ne.elim id fun h => absurd rfl h
      have hMo := monic_any p A _ wr hA hAl hp2 hp1 HP.out HG.out.nA hA0
      have HGE : Hid _ := fun (g : List Int) (h : MonO p A g) => HG.out.ends h
      clear HG hA0
      go_wp2_with fail
      refine hMo.mono ?_
      rintro e w2 ⟨g, x, rfl, hI2, hm2, hb2⟩
      have hgl := hm2.len
      have HGM : Hid _ := HGE.out g hm2
      have hgl' : g.length ≤ 900 := by omega
      clear hgl hm2 HGE
      obtain ⟨za, zc, rfl⟩ := hI2.row.val
      go_wp2
      go_ret
      exact ⟨g, _, rfl, hI2.lower hbel.size, HGM.out, hgl', hbel.trans (hb2.mono hbel.size)⟩
    · have hpos := List.length_pos_iff.2 h0
      have hD := divM_any p A C _ _ wr hA hC (by omega) (by omega) hp2 hp1 HP.out HG.out.nA.1 HG.out.nB h0
      have HGN : Hid _ := fun (q r : List Int) (h : DM p A C q r) => HG.out.next h0 h
      clear HG
      go_wp2_with fail
      refine hD.mono ?_
      rintro e w2 ⟨x2, y2, rfl, ⟨q, r, hq, hr, hdm⟩, hb2⟩
      have hrl := hdm.lt
      have HN2 : Hid _ := HGN.out q r hdm
      clear hdm HGN
      obtain ⟨qa, qc, rfl⟩ := hq.row.val
      obtain ⟨ra, rc, rfl⟩ := hr.row.val
      go_wp2
      go_roundw
      case rel => exact ⟨C, r, hC.below hb2, hr.row, hCl, by omega, HN2, hbel.trans (hb2.mono hbel.size)⟩
      case measure => simp [lenV]; omega

end Go.Proofs.YtldcjkhbiffdoabGreatDoor

namespace Go.Proofs.YtldcjkhbiffdoabGreatDoor
open Go.RowKit

theorem wp_pushN {o : Oper} {a : Act} {K : Act → World → Prop} {Q : Exit → Act → World → Prop} {wr : World} (s x : Operand)
    (ho : o.op = .call { callee := .builtin .append, args := #[s, x], argTypes := #[42, 42] })
    (B : Nat) (v : Value) (l : List Int) (y : Int) (hs : a.eval s = v) (hown : OwnN B wr v l) (hx : a.eval x = .slice (some ⟨wr.heap.size, 0, none⟩) 1 1)
    (hlen : l.length ≤ 1000000000000) (hB : B ≤ wr.heap.size)
    (h : ∀ v' w', OwnN B w' v' (l ++ [y]) → Below B wr w' → K (a.put o.dst v') w') :
    o.wp Tryz.prog a (wr.alloc (.cells #[.int .i64 y] 3)) K Q := by
  obtain ⟨i, hi, hz0, hz1, hz2⟩ := info_parts Tryz.infoIntN
  refine wp_append_own _ s x 42 ho B 3 i (.int .i64 0) 1 8 Tryz.sliceIntN hi hz0 hz1 hz2 rfl (by decide) v l.length (l.map (Value.int .i64)) hs (World.ownsRow.alloc hown _) ⟨wr.heap.size, 0, none⟩ 1 1 [.int .i64 y] hx rfl ?_ ?_ ?_ ?_ ?_ ?_
  · intro j u hj
    match j, hj with
    | 0, hj => simp at hj; subst hj; simp [Addr.add]
  · intro u hu; simp at hu; subst hu; rfl
  · unfold maxLen; omega
  · omega
  · simp; omega
  · intro v' w' h1 h2 _
    have hg : wr.grownBy w' v.ownBlock := by
      have h0 := World.grownBy_alloc wr (.cells #[.int .i64 y] 3) v.ownBlock
      exact ⟨h2.os.trans h0.os, h2.tape.trans h0.tape, h2.output.trans h0.output, Nat.le_trans h0.size h2.size, fun k hk hne => (h2.block k (by simp; omega) hne).trans (h0.block k hk hne)⟩
    refine h v' w' ?_ ((Below.refl _ _).grown hg hB hown.block)
    unfold OwnN
    simpa using h1

def slM (p : Nat) (a : List Int) (k : Nat) : Int := ((k + 1 : Nat) : Int) % p * a.getD (k + 1) 0 % p

theorem slM_zm {p : Nat} (a : List Int) : Zm p (fun t => ev t (tz (tab (a.length - 1) (slM p a))) - ev t (slp a)) := by
  have : Zm p (fun t => ev t (tab (a.length - 1) (slM p a)) - ev t (slp a)) := Zm.of_getD fun k => by
    rw [tab_getD, slp_getD]
    split
    · unfold slM
      have h1 := emod_alike (((k + 1 : Nat) : Int) % p * a.getD (k + 1) 0) p
      have h2 := Int.dvd_trans (emod_alike ((k + 1 : Nat) : Int) p) (Int.dvd_mul_right _ (a.getD (k + 1) 0))
      have h3 := Int.dvd_add h1 h2
      rw [Int.sub_mul] at h3
      rw [show ((k + 1 : Nat) : Int) = (k : Int) + 1 by omega] at *
      rwa [show ((k : Int) + 1) % p * a.getD (k + 1) 0 % p - ((k : Int) + 1) % p * a.getD (k + 1) 0 + (((k : Int) + 1) % p * a.getD (k + 1) 0 - ((k : Int) + 1) * a.getD (k + 1) 0) = ((k : Int) + 1) % p * a.getD (k + 1) 0 % p - ((k : Int) + 1) * a.getD (k + 1) 0 by omega] at h3
    · rw [getD_out (show a.length ≤ k + 1 by omega)]; simp
  exact this.congr fun t => by rw [ev_tz]

theorem Cop.alike {m : Int} {a b b' : Int → Int} (h : Cop m a b) (hz : Zm m (fun t => b t - b' t)) : Cop m a b' := by
  obtain ⟨u, v, c, h1, h2, h3, h4⟩ := h
  exact ⟨u, v, c, h1, h2, h3, (h4.sub (hz.mul h2)).congr fun t => by rw [Int.mul_sub]; omega⟩

set_option maxRecDepth 100000 in
set_option maxHeartbeats 4000000 in
theorem squareFreeM_any (p : Nat) (a : List Int) (u : Value) (w : World) (hu : RowN w u a) (hl : a.length ≤ 900) (hp2 : 2 ≤ p) (hp1 : p < 1000) (hp : Dom (p : Int)) (na : Nrm p a) (hne : a ≠ []) (b : Bool) (HB : Hid (b = true ↔ Cop p (fun t => ev t a) (fun t => ev t (slp a)))) :
    Calls Tryz.prog 112 #[u, .int .i64 p] w fun e w' => e = .returned (.bool b) ∧ Below w.heap.size w w' := by
  obtain ⟨ua, uc, rfl⟩ := hu.val
  have h0 := List.length_pos_iff.2 hne
  have hM := fun (n : Int) (W : World) (h0 : 0 ≤ n) (h1 : n < 10000000) => modulo_any n p W h0 (by omega) (by omega) (by omega)
  have HM : Hid _ := hM
  clear hM
  obtain ⟨f, HF⟩ : ∃ f : Nat → Int, Hid (f = slM p a) := ⟨_, rfl⟩
  have hred : Nrm p (tz (tab (a.length - 1) f)) := by rw [HF.out]; exact (Red.tab (by omega) _ _).tz
  have HZ : Hid (∀ g, GM p a (tz (tab (a.length - 1) f)) g → (b = true ↔ g.length = 1)) := fun g hg => by
    rw [HB.out, hg.cop hp, HF.out]
    exact ⟨fun h => h.alike ((slM_zm a).neg.congr fun t => by omega), fun h => h.alike (slM_zm a)⟩
  have HGC : Hid (∀ (W : World) (v : Value), Below w.heap.size w W → RowN W v (tz (tab (a.length - 1) f)) → _) := fun W v hb hv => gcdM_any p a (tz (tab (a.length - 1) f)) _ v W (hu.below hb) hv hl (by have := tz_le0 (tab (a.length - 1) f); rw [tab_len] at this; omega) hp2 hp1 hp na hred (.inl hne)
  have HNA : Hid _ := na
  clear na hne hp hred HB
  go_enter Tryz.func112, Tryz.ntmps112
  go_wp2_with fail
  go_loopw [5, 6] (fun o i wr => ∃ (k : Nat), k ≤ a.length - 1 ∧ i = .int .i64 ((k : Int) + 1) ∧ OwnN w.heap.size wr o (tab k f) ∧ Below w.heap.size w wr) (fun _ i _ => a.length - (intOf i).toNat)
  case atStart => exact ⟨0, Nat.zero_le _, rfl, OwnN.lit rfl, (Below.refl _ _).alloc (Nat.le_refl _) _⟩
  case round =>
    obtain ⟨k, hk, rfl, hown, hbel⟩ := hrel
    have hlen : (tab k f).length ≤ 900 := by rw [tab_len]; omega
    by_cases hlt : k < a.length - 1
    · have hsu := tab_succ k f
      obtain ⟨ga, rfl, hu1, hu2, hu3, hcx⟩ := hu.at (k + 1) (by omega)
      have hfk : f k = ((k : Int) + 1) % p * a.getD (k + 1) 0 % p := by rw [HF.out]; unfold slM; rw [show ((k + 1 : Nat) : Int) = (k : Int) + 1 by omega]
      rw [hfk] at hsu
      obtain ⟨hx0, hx1⟩ := HNA.out.1 (k + 1)
      generalize a.getD (k + 1) 0 = x at *
      have HSU : Hid _ := hsu
      clear hsu hfk
      obtain ⟨L, HL⟩ : ∃ L, Hid (tab k f = L) := ⟨_, rfl⟩
      rw [HL.out] at hown hlen
      obtain ⟨oa, oc, rfl⟩ := hown.row.val
      have hr0 : 0 ≤ ((k : Int) + 1) % p := Int.emod_nonneg _ (by omega)
      have hr1 : ((k : Int) + 1) % p < p := Int.emod_lt_of_pos _ (by omega)
      obtain ⟨m, HMm⟩ : ∃ m, Hid (((k : Int) + 1) % p = m) := ⟨_, rfl⟩
      have hmod1 := fun W => HM.out ((k : Int) + 1) W (by omega) (by omega)
      rw [HMm.out] at hr0 hr1 hmod1 HSU
      have hm0 : 0 ≤ m * x := Int.mul_nonneg hr0 hx0
      have hm1 : m * x ≤ 1000 * 1000 := Int.mul_le_mul (by omega) (by omega) hx0 (by omega)
      have hmod2 := fun W => HM.out (m * x) W (by omega) (by omega)
      have HM1 : Hid _ := hmod1
      have HM2 : Hid _ := hmod2
      clear hmod1 hmod2
      have hki : ((k : Int) + 1) < (a.length : Int) := by omega
      have hki0 : (0 : Int) ≤ (k : Int) + 1 := by omega
      have htn : ((k : Int) + 1).toNat = k + 1 := by omega
      have hww : IntKind.i64.wrap (m * x) = m * x := by rw [IntKind.wrap_i64]; omega
      have hbd : Below w.heap.size w wr.drew := ⟨hbel.os, hbel.tape, hbel.output, hbel.size, hbel.block⟩
      have hbdw : Below wr.heap.size wr wr.drew := ⟨rfl, rfl, rfl, Nat.le_refl _, fun _ _ => rfl⟩
      have hownd := hown.below hbdw
      have hSV : ∀ W, Below w.heap.size w W → W.cell? ⟨ga, k + 1, none⟩ = some (.int .i64 x) := fun W h => (h.cell (p := ⟨ga, k + 1, none⟩) hu3).trans hcx
      go_wp2_with fail
      refine wp_region_held_drew (S := fun W => W.cell? ⟨ga, k + 1, none⟩ = some (.int .i64 x)) (by kernel_rfl) (hSV _ hbd) fun hS => ?_
      generalize wr.drew = W0 at *
      refine h_take 0 15 (.slice oa L.length oc) rfl rfl (by kernel_rfl) (by kernel_rfl) (by kernel_rfl) (fun _ _ _ h => h) rfl (fun _ _ => by first | rfl | go_simp) hS ?_
      simp only [Act.put, tA, tB, tC]
      refine h_take 1 16 (.int .i64 ((k : Int) + 1)) rfl rfl (by kernel_rfl) (by kernel_rfl) (by kernel_rfl) (fun _ _ _ h => h) rfl (fun _ _ => by first | rfl | go_simp) hS ?_
      simp only [Act.put, tA, tB, tC]
      refine h_take 2 17 (.int .i64 (p : Int)) rfl rfl (by kernel_rfl) (by kernel_rfl) (by kernel_rfl) (fun _ _ _ h => h) rfl (fun _ _ => by first | rfl | go_simp) hS ?_
      simp only [Act.put, tA, tB, tC]
      refine h_take 4 19 (.slice (some ⟨ga, 0, none⟩) a.length uc) rfl rfl (by kernel_rfl) (by kernel_rfl) (by kernel_rfl) (fun _ _ _ h => h) rfl (fun _ _ => by first | rfl | go_simp) hS ?_
      simp only [Act.put, tA, tB, tC]
      refine h_take 5 20 (.int .i64 ((k : Int) + 1)) rfl rfl (by kernel_rfl) (by kernel_rfl) (by kernel_rfl) (fun _ _ _ h => h) rfl (fun _ _ => by first | rfl | go_simp) hS ?_
      simp only [Act.put, tA, tB, tC]
      refine h_take 6 21 (.pointer (some ⟨ga, k + 1, none⟩)) rfl rfl (by kernel_rfl) (by kernel_rfl) (by kernel_rfl) (fun _ _ _ h => h) rfl (fun _ _ => by first | rfl | go_simp) hS ?_
      simp only [Act.put, tA, tB, tC]
      refine h_take 7 22 (.int .i64 x) rfl rfl (by kernel_rfl) (by kernel_rfl) (by kernel_rfl) (fun _ _ _ h => h) rfl (fun w' hw' => by have y0 := hw'; go_simp) hS ?_
      simp only [Act.put, tA, tB, tC]
      refine h_take 9 24 (.int .i64 (p : Int)) rfl rfl (by kernel_rfl) (by kernel_rfl) (by kernel_rfl) (fun _ _ _ h => h) rfl (fun _ _ => by first | rfl | go_simp) hS ?_
      simp only [Act.put, tA, tB, tC]
      refine h_call 3 18 121 #[.int .i64 ((k : Int) + 1), .int .i64 (p : Int)] rfl rfl (by kernel_rfl) rfl (by go_simp) ?_
      refine (HM1.out W0).mono ?_
      rintro e w5 ⟨rfl, rfl⟩
      refine ⟨_, rfl, hS, ?_⟩
      simp only [Act.put, tA, tB, tC]
      refine h_take 8 23 (.int .i64 (m * x)) rfl rfl (by kernel_rfl) (by kernel_rfl) (by kernel_rfl) (fun _ _ _ h => h) rfl (fun _ _ => by first | rfl | go_simp) hS ?_
      simp only [Act.put, tA, tB, tC]
      refine h_call 10 25 121 #[.int .i64 (m * x), .int .i64 (p : Int)] rfl rfl (by kernel_rfl) rfl (by go_simp) ?_
      refine (HM2.out w5).mono ?_
      rintro e w6 ⟨rfl, rfl⟩
      refine ⟨_, rfl, hS, ?_⟩
      simp only [Act.put, tA, tB, tC]
      refine h_val 11 26 (.slice (some ⟨w6.heap.size, 0, none⟩) 1 1) (w' := w6.alloc (.cells #[.int .i64 (m * x % p)] 3)) rfl rfl (by kernel_rfl) rfl (by go_simp) (hSV _ (hbd.alloc hbd.size _)) ?_
      simp only [Act.put, tA, tB, tC]
      refine h_op 12 27 (fun v' w' => OwnN w.heap.size w' v' (L ++ [m * x % p]) ∧ Below w.heap.size w6 w') rfl rfl (by kernel_rfl) rfl (fun K hK => wp_pushN (.tmp 15) (.tmp 26) rfl w.heap.size _ L _ rfl hownd rfl (by omega) hbd.size fun v' w' g1 g2 => hK v' w' ⟨g1, g2⟩) ?_
      rintro v7 w7 ⟨hown7, hb7⟩
      have hb7w := hbd.trans hb7
      rw [← HL.out, ← HSU.out] at hown7
      refine ⟨hSV _ hb7w, ?_⟩
      simp only [Act.put, tA, tB, tC]
      refine h_val 13 5 v7 (w' := w7) rfl rfl (by kernel_rfl) rfl rfl (hSV _ hb7w) ?_
      simp only [Act.put, tA, tB, tC]
      refine wpAnyH_done (by kernel_rfl) ?_ _
      go_wp2
      go_roundw
      case rel => exact ⟨k + 1, by omega, by go_num, hown7, hb7w⟩
      case measure => simp [intOf]; omega
    · obtain rfl : k = a.length - 1 := by omega
      have hT := trimN_any _ _ wr hown.row (by omega)
      obtain ⟨oa, oc, rfl⟩ := hown.row.val
      have hge : ¬ ((a.length - 1 : Nat) : Int) + 1 < (a.length : Int) := by omega
      rw [show ((a.length - 1 : Nat) : Int) + 1 = (a.length : Int) by omega] at *
      obtain ⟨T, HT⟩ : ∃ T, Hid (tz (tab (a.length - 1) f) = T) := ⟨_, rfl⟩
      rw [HT.out] at hT HZ HGC
      clear hown HT hlen
      generalize (tab (a.length - 1) f).length = tn at *
      go_wp2_with fail
      refine hT.mono ?_
      rintro e w2 ⟨x2, rfl, hI2, hb2⟩
      obtain ⟨xa, xc, rfl⟩ := hI2.row.val
      have hb2w := hbel.trans (hb2.mono hbel.size)
      go_wp2_with fail
      refine (HGC.out w2 _ hb2w hI2.row).mono ?_
      rintro e w3 ⟨g, x3, rfl, hI3, hgm, hgl, hb3⟩
      have HE : Hid _ := HZ.out g hgm
      clear hgm
      obtain ⟨ya, yc, rfl⟩ := hI3.row.val
      obtain ⟨n3, HN3⟩ : ∃ n3, Hid (g.length = n3) := ⟨_, rfl⟩
      rw [HN3.out] at HE ⊢
      by_cases h1 : n3 = 1
      · have hb : b = true := HE.out.2 h1
        subst h1
        subst hb
        clear HE
        go_wp2
        go_ret
        exact ⟨rfl, hb2w.trans (hb3.mono hb2w.size)⟩
      · have h1' : ¬ (n3 : Int) = 1 := by omega
        have hb : b = false := by
          cases b with
          | false => rfl
          | true => exact absurd (HE.out.1 rfl) h1
        subst hb
        go_wp2
        go_ret
        exact ⟨by simp [h1'], hb2w.trans (hb3.mono hb2w.size)⟩

end Go.Proofs.YtldcjkhbiffdoabGreatDoor

namespace Go.Proofs.YtldcjkhbiffdoabGreatDoor
open Go.RowKit

structure VecP (T : TypeId) {α : Type} (P : World → Value → α → Prop) : Prop where
  val : ∀ {w : World} {c : Value} {a : α}, P w c a → ∃ ad n k, c = .slice ad n k
  below : ∀ {w w' : World} {c : Value} {a : α}, P w c a → Below w.heap.size w w' → P w' c a
  kept : ∀ {w w' : World} {c : Value} {a : α} {g : Option Nat}, P w c a → w.grownBy w' g → (∀ k, g = some k → ∃ cur, w.heap[k]? = some (.cells cur T (0, 0))) → P w' c a

def OwnV (T : TypeId) {α : Type} (P : World → Value → α → Prop) (B : Nat) (w : World) (v : Value) (L : List α) : Prop :=
  ∃ cs : List Value, cs.length = L.length ∧ w.ownsRow B T 1 v L.length cs ∧ ∀ (i : Nat) (c : Value) (a : α), cs[i]? = some c → L[i]? = some a → P w c a

section
variable {T : TypeId} {α : Type} {P : World → Value → α → Prop}

theorem OwnV.block {B : Nat} {w : World} {v : Value} {L : List α} (h : OwnV T P B w v L) : ∀ k, v.ownBlock = some k → B ≤ k := by
  obtain ⟨cs, h1, h2, h3⟩ := h
  exact fun k hk => (World.ownsRow.lt h2 k hk).1

theorem OwnV.typ {B : Nat} {w : World} {v : Value} {L : List α} (h : OwnV T P B w v L) : ∀ k, v.ownBlock = some k → ∃ cur, w.heap[k]? = some (.cells cur T (0, 0)) := by
  obtain ⟨cs, h1, h2, h3⟩ := h
  intro k hk
  rcases h2.2 with ⟨hn, _⟩ | ⟨g, cap, cur, hv, _, hg, _⟩
  · rw [hn] at hk; simp [Value.ownBlock] at hk
  · rw [hv] at hk; simp [Value.ownBlock] at hk; subst hk; exact ⟨cur, hg⟩

theorem OwnV.val {B : Nat} {w : World} {v : Value} {L : List α} (h : OwnV T P B w v L) : ∃ a c, v = .slice a L.length c := by
  obtain ⟨cs, h1, h2, h3⟩ := h
  rcases h2.2 with ⟨h, h'⟩ | ⟨g, cap, cur, hv, _⟩
  · exact ⟨none, 0, by rw [h']; exact h⟩
  · exact ⟨_, _, hv⟩

theorem OwnV.lower {B C : Nat} {w : World} {v : Value} {L : List α} (h : OwnV T P B w v L) (hC : C ≤ B) : OwnV T P C w v L := by
  obtain ⟨cs, h1, h2, h3⟩ := h
  refine ⟨cs, h1, ⟨h2.1, ?_⟩, h3⟩
  rcases h2.2 with h | ⟨g, cap, cur, hv, hb, r⟩
  · exact .inl h
  · exact .inr ⟨g, cap, cur, hv, Nat.le_trans hC hb, r⟩

theorem OwnV.below (hP : VecP T P) {B : Nat} {w w' : World} {v : Value} {L : List α} (h : OwnV T P B w v L) (hb : Below w.heap.size w w') : OwnV T P B w' v L := by
  obtain ⟨cs, h1, h2, h3⟩ := h
  exact ⟨cs, h1, owns_belowN h2 hb, fun i c a hc ha => hP.below (h3 i c a hc ha) hb⟩

theorem OwnV.lit {w : World} {n : Nat} (h : w.heap.size = n) : OwnV T P n (w.alloc (.cells #[] T)) (.slice (some ⟨n, 0, none⟩) 0 0) [] := by
  subst h
  exact ⟨[], rfl, World.ownsRow_made w #[] 0 (Nat.le_refl _) (by simp [maxLen]) rfl, fun i c a hc _ => by simp at hc⟩

theorem OwnV.one (hP : VecP T P) {w : World} {n : Nat} (h : w.heap.size = n) {c : Value} {a : α} (hc : P w c a) : OwnV T P n (w.alloc (.cells #[c] T)) (.slice (some ⟨n, 0, none⟩) 1 1) [a] := by
  subst h
  refine ⟨[c], rfl, World.ownsRow_lit w #[c] 1 (Nat.le_refl _) (by simp [maxLen]) rfl, fun i c' a' hc' ha' => ?_⟩
  match i, hc', ha' with
  | 0, hc', ha' =>
    simp at hc' ha'
    subst hc'
    subst ha'
    exact hP.below hc ((Below.refl _ _).alloc (Nat.le_refl _) _)

theorem OwnV.at (hP : VecP T P) {B : Nat} {w : World} {ad : Option Addr} {c : Nat} {L : List α} (h : OwnV T P B w (.slice ad L.length c) L) (i : Nat) (hi : i < L.length) :
    ∃ g xa xn xc a, ad = some ⟨g, 0, none⟩ ∧ L.length ≤ c ∧ c ≤ maxLen ∧ g < w.heap.size ∧ B ≤ g ∧ w.cell? ⟨g, i, none⟩ = some (.slice xa xn xc) ∧ L[i]? = some a ∧ P w (.slice xa xn xc) a := by
  obtain ⟨cs, h1, h2, h3⟩ := h
  rcases h2.2 with ⟨_, h'⟩ | ⟨g, cap, cur, hv, hB, hg, hnc, hcm, _⟩
  · omega
  · simp only [Value.slice.injEq, true_and] at hv
    obtain ⟨rfl, rfl⟩ := hv
    have hp : cs[i]? = some cs[i] := List.getElem?_eq_getElem (by omega)
    have ha : L[i]? = some L[i] := List.getElem?_eq_getElem hi
    have hpi := h3 i _ _ hp ha
    obtain ⟨xa, xn, xc, e⟩ := hP.val hpi
    refine ⟨g, xa, xn, xc, L[i], rfl, hnc, hcm, (Array.getElem?_eq_some_iff.1 hg).1, hB, ?_, ha, by rw [← e]; exact hpi⟩
    rw [h2.cellAt i (by omega), hp, e]

theorem wpList_pushV (hP : VecP T P) {SL : TypeId} (hinfo : (Tryz.prog.info? T).map (fun i => (i.zero, i.size, i.bytes)) = some (some (.slice none 0 0), 1, 24)) (hsl : Tryz.prog.underlying SL = some (.slice T))
    {ops : Array Oper} {rest : List Oper} {o : Oper} {a : Act} {Q : Exit → Act → World → Prop} {wr : World} (hgd : o.guard = none) (s x : Operand)
    (ho : o.op = .call { callee := .builtin .append, args := #[s, x], argTypes := #[SL, SL] })
    (B : Nat) (v : Value) (L : List α) (c : Value) (y : α) (hs : a.eval s = v) (hown : OwnV T P B wr v L) (hc : P wr c y) (hx : a.eval x = .slice (some ⟨wr.heap.size, 0, none⟩) 1 1)
    (hlen : L.length ≤ 1000000000) (hB : B ≤ wr.heap.size)
    (h : ∀ v' w', OwnV T P B w' v' (L ++ [y]) → Below B wr w' → wr.grownBy w' v.ownBlock → wpList Tryz.prog ops Q rest (a.put o.dst v') w') :
    wpList Tryz.prog ops Q (o :: rest) a (wr.alloc (.cells #[c] T)) := by
  obtain ⟨i, hi, hz0, hz1, hz2⟩ := info_parts hinfo
  have htyp := hown.typ
  have hblk := hown.block
  obtain ⟨ca, cn, ck, rfl⟩ := hP.val hc
  obtain ⟨cs, h1, h2, h3⟩ := hown
  refine wpList_append_own _ hgd s x SL ho B T i (.slice none 0 0) 1 24 hsl hi hz0 hz1 hz2 rfl (by decide) v L.length cs hs (World.ownsRow.alloc h2 _) ⟨wr.heap.size, 0, none⟩ 1 1 [.slice ca cn ck] hx rfl ?_ ?_ ?_ ?_ ?_ ?_
  · intro j u hj
    match j, hj with
    | 0, hj => simp at hj; subst hj; simp [Addr.add]
  · intro u hu; simp at hu; subst hu; rfl
  · unfold maxLen; omega
  · omega
  · simp; omega
  · intro v' w' g1 g2 _
    have h0 := World.grownBy_alloc wr (.cells #[.slice ca cn ck] T) v.ownBlock
    have hg : wr.grownBy w' v.ownBlock := ⟨g2.os.trans h0.os, g2.tape.trans h0.tape, g2.output.trans h0.output, Nat.le_trans h0.size g2.size, fun k hk hne => (g2.block k (by simp; omega) hne).trans (h0.block k hk hne)⟩
    refine h v' w' ⟨cs ++ [.slice ca cn ck], by simp [h1], by simpa using g1, fun j c' a' hc' ha' => ?_⟩ ((Below.refl _ _).grown hg hB hblk) hg
    by_cases hjl : j < cs.length
    · rw [List.getElem?_append_left hjl] at hc'
      rw [List.getElem?_append_left (by omega)] at ha'
      exact hP.kept (h3 j c' a' hc' ha') hg htyp
    · rw [List.getElem?_append_right (by omega)] at hc' ha'
      have hj0 : j - cs.length = 0 := by
        rcases Nat.eq_zero_or_pos (j - cs.length) with h0 | h0
        · exact h0
        · rw [List.getElem?_eq_none (by simp; omega)] at hc'; simp at hc'
      rw [hj0] at hc'
      rw [show j - L.length = 0 by omega] at ha'
      simp at hc' ha'
      subst hc'
      subst ha'
      exact hP.kept hc hg htyp

theorem OwnV.set (hP : VecP T P) {B : Nat} {w : World} {g cap : Nat} {L : List α} (h : OwnV T P B w (.slice (some ⟨g, 0, none⟩) L.length cap) L) (i : Nat) {c : Value} {a : α} (hc : P w c a) :
    OwnV T P B (w.setCell ⟨g, i, none⟩ c) (.slice (some ⟨g, 0, none⟩) L.length cap) (L.set i a) := by
  have htyp := h.typ
  obtain ⟨cs, h1, h2, h3⟩ := h
  obtain ⟨g1, g2⟩ := World.ownsRow.stored h2 i c
  refine ⟨cs.set i c, by simp [h1], by rw [List.length_set]; exact g1, fun j c' a' hc' ha' => ?_⟩
  have hk := fun (c : Value) (a : α) (h : P w c a) => hP.kept h g2 (fun k hk => htyp k (by rw [← hk]; rfl))
  by_cases hij : i = j
  · subst hij
    have hil : i < cs.length := by
      have := (List.getElem?_eq_some_iff.1 hc').1
      simpa using this
    rw [List.getElem?_set_self hil] at hc'
    rw [List.getElem?_set_self (by omega)] at ha'
    simp at hc' ha'
    subst hc'
    subst ha'
    exact hk _ _ hc
  · rw [List.getElem?_set_ne hij] at hc' ha'
    exact hk _ _ (h3 j c' a' hc' ha')

end

theorem vecN : VecP 42 RowN where
  val := fun h => by obtain ⟨a, c, rfl⟩ := h.val; exact ⟨_, _, _, rfl⟩
  below := fun h hb => h.below hb
  kept := fun {w w' c a g} h hg ht => by
    refine ⟨h.1, ?_⟩
    rcases h.2 with h1 | ⟨k, cap, cur, hv, hb0, hk, r⟩
    · exact .inl h1
    · refine .inr ⟨k, cap, cur, hv, hb0, ?_, r⟩
      rw [hg.block k (Array.getElem?_eq_some_iff.1 hk).1 (fun e => ?_)]
      · exact hk
      · obtain ⟨cur', hc⟩ := ht k e.symm
        rw [hk] at hc
        simp at hc

theorem vecL : VecP 65 IsL where
  val := fun h => by obtain ⟨a, c, rfl⟩ := OwnL.val h; exact ⟨_, _, _, rfl⟩
  below := fun h hb => OwnL.below h hb
  kept := fun {w w' c a g} h hg ht => by
    obtain ⟨cs, h1, h2, h3⟩ := h
    have hne : ∀ (k : Nat) (cur : Array Value) (e : TypeId) (f : Nat × Nat), w.heap[k]? = some (Obj.cells cur e f) → e ≠ 65 → w'.heap[k]? = some (Obj.cells cur e f) := fun k cur e f hk he => by
      rw [hg.block k (Array.getElem?_eq_some_iff.1 hk).1 (fun e' => ?_)]
      · exact hk
      · obtain ⟨cur', hc⟩ := ht k e'.symm
        rw [hk] at hc
        simp at hc
        exact he hc.2.1
    refine ⟨cs, h1, ⟨h2.1, ?_⟩, fun i p hp => ?_⟩
    · rcases h2.2 with h1 | ⟨k, cap, cur, hv, hb0, hk, r⟩
      · exact .inl h1
      · exact .inr ⟨k, cap, cur, hv, hb0, hne k _ _ _ hk (by decide), r⟩
    · obtain ⟨b, x, l, e, hr, hl⟩ := h3 i p hp
      refine ⟨b, x, l, e, ⟨hr.1, ?_⟩, hl⟩
      rcases hr.2 with h1 | ⟨k, cap, cur, hv, hb0, hk, r⟩
      · exact .inl h1
      · exact .inr ⟨k, cap, cur, hv, hb0, hne k _ _ _ hk (by decide), r⟩

theorem Tryz.infoVN : (Tryz.prog.info? 42).map (fun i => (i.zero, i.size, i.bytes)) = some (some (.slice none 0 0), 1, 24) := by kernel_rfl
theorem Tryz.sliceVN : Tryz.prog.underlying 78 = some (.slice 42) := by kernel_rfl
theorem Tryz.infoVL : (Tryz.prog.info? 65).map (fun i => (i.zero, i.size, i.bytes)) = some (some (.slice none 0 0), 1, 24) := by kernel_rfl
theorem Tryz.sliceVL : Tryz.prog.underlying 73 = some (.slice 65) := by kernel_rfl

abbrev OwnVN := OwnV 42 RowN
abbrev OwnVL := OwnV 65 IsL

end Go.Proofs.YtldcjkhbiffdoabGreatDoor

namespace Go.Proofs.YtldcjkhbiffdoabGreatDoor
open Go.RowKit

set_option maxHeartbeats 1000000 in
theorem valueOf_any (p : Nat) (a m : List Int) (u v : Value) (w : World) (hu : RowN w u a) (hv : RowN w v m) (hl : a.length ≤ 900) (hm : m.length ≤ 900) (hp2 : 2 ≤ p) (hp1 : p < 1000) (ra : Red p a) (rm : Red p m) :
    Calls Tryz.prog 127 #[u, v, .int .i64 p] w fun e w' => e = .returned (.int .i64 (dot a m % p)) ∧ w' = w := by
  obtain ⟨ua, uc, rfl⟩ := hu.val
  obtain ⟨va, vc, rfl⟩ := hv.val
  have hM := fun (n : Int) (W : World) (h0 : 0 ≤ n) (h1 : n < 10000000) => modulo_any n p W h0 (by omega) (by omega) (by omega)
  have HM : Hid _ := hM
  have HE : Hid (dot (a.take a.length) m % p = dot a m % p) := by show _ = _; rw [List.take_length]
  obtain ⟨r, HR⟩ : ∃ r, Hid (dot a m % p = r) := ⟨_, rfl⟩
  rw [HR.out] at HE ⊢
  clear hM HR
  go_enter Tryz.func127, Tryz.ntmps127
  go_wp2_with fail
  go_loopw [7, 8] (fun o i wr => ∃ (k : Nat) (z : Int), k ≤ a.length ∧ i = .int .i64 k ∧ o = .int .i64 z ∧ 0 ≤ z ∧ z < p ∧ Hid (z = dot (a.take k) m % p) ∧ wr = w) (fun _ i _ => a.length - (intOf i).toNat)
  case atStart => exact ⟨0, 0, Nat.zero_le _, rfl, rfl, by omega, by omega, by show (0 : Int) = _; rw [List.take_zero]; simp [dot], rfl⟩
  case round =>
    obtain ⟨k, z, hk, rfl, rfl, hz0, hz1, HZ, rfl⟩ := hrel
    by_cases hlt : k < a.length
    · have hst := val_step p a m k
      rw [← HZ.out] at hst
      have hc := atN_any m (.slice va m.length vc) k wr hv (by omega) (by omega)
      obtain ⟨ga, rfl, hu1, hu2, hu3, hcx⟩ := hu.at k hlt
      obtain ⟨hx0, hx1⟩ := ra k
      obtain ⟨hy0, hy1⟩ := rm k
      generalize a.getD k 0 = x at *
      generalize m.getD k 0 = y at *
      have HST : Hid _ := hst
      clear hst HZ
      have hm0 : 0 ≤ x * y := Int.mul_nonneg hx0 hy0
      have hm1 : x * y ≤ 1000 * 1000 := Int.mul_le_mul (by omega) (by omega) hy0 (by omega)
      have hq0 : 0 ≤ (z + x * y) % p := Int.emod_nonneg _ (by omega)
      have hq1 : (z + x * y) % p < p := Int.emod_lt_of_pos _ (by omega)
      have hw1 : IntKind.i64.wrap (x * y) = x * y := by rw [IntKind.wrap_i64]; omega
      have hw2 : IntKind.i64.wrap (z + x * y) = z + x * y := by rw [IntKind.wrap_i64]; omega
      go_wp2_with fail
      refine hc.mono ?_
      rintro e w1 ⟨rfl, rfl⟩
      go_wp2_with fail
      refine (HM.out _ _ (by omega) (by omega)).mono ?_
      rintro e w1 ⟨rfl, rfl⟩
      go_wp2
      go_roundw
      case rel => exact ⟨k + 1, _, by omega, by go_num, rfl, hq0, hq1, HST, trivial⟩
      case measure => simp [intOf]; omega
    · obtain rfl : k = a.length := by omega
      have hz : Hid (z = r) := by show z = r; rw [HZ.out]; exact HE.out
      clear HZ HE
      go_wp2
      go_ret
      exact ⟨by rw [hz.out]; rfl, rfl⟩

set_option maxHeartbeats 2000000 in
theorem equation_any (p : Nat) (R : List (List Int)) (k : Nat) (u : Value) (w : World) (hu : OwnVN 0 w u R) (hl : R.length ≤ 900) (hR : ∀ r, r ∈ R → Nrm p r ∧ r.length ≤ 900) (hk : k < 900) (hp2 : 2 ≤ p) (hp1 : p < 1000) :
    Calls Tryz.prog 117 #[u, .int .i64 k, .int .i64 p] w fun e w' => ∃ x, e = .returned x ∧ OwnN w.heap.size w' x (eqn p R k) ∧ Below w.heap.size w w' := by
  obtain ⟨ua, uc, rfl⟩ := hu.val
  have hM := fun (n : Int) (W : World) (h0 : 0 ≤ n) (h1 : n < 10000000) => modulo_any n p W h0 (by omega) (by omega) (by omega)
  have HM : Hid _ := hM
  obtain ⟨f, HF⟩ : ∃ f : Nat → Int, Hid (f = fun i => ((R.getD i []).getD k 0 + if i = k then (p : Int) - 1 else 0) % p) := ⟨_, rfl⟩
  have HT : Hid (eqn p R k = tab R.length f) := by rw [HF.out]; rfl
  rw [HT.out]
  have HR : Hid _ := hR
  clear hM HT hR
  go_enter Tryz.func117, Tryz.ntmps117
  go_wp2_with fail
  go_loopw [7, 8] (fun o i wr => ∃ (j : Nat), j ≤ R.length ∧ i = .int .i64 j ∧ OwnN w.heap.size wr o (tab j f) ∧ Below w.heap.size w wr) (fun _ i _ => R.length - (intOf i).toNat)
  case atStart => exact ⟨0, Nat.zero_le _, rfl, OwnN.lit rfl, (Below.refl _ _).alloc (Nat.le_refl _) _⟩
  case round =>
    obtain ⟨j, hj, rfl, hown, hbel⟩ := hrel
    have hlen : (tab j f).length ≤ 900 := by rw [tab_len]; omega
    by_cases hlt : j < R.length
    · have hsu := tab_succ j f
      obtain ⟨g, xa, xn, xc, r, rfl, hc1, hc2, hg1, _, hcell, hr, hrow⟩ := OwnV.at vecN hu j hlt
      have hcell' : wr.cell? ⟨g, j, none⟩ = some (.slice xa xn xc) := (hbel.cell (p := ⟨g, j, none⟩) hg1).trans hcell
      have hrd : R.getD j [] = r := by simp [List.getD, hr]
      have hfk : f j = (r.getD k 0 + if j = k then (p : Int) - 1 else 0) % p := by rw [HF.out, ← hrd]
      rw [hfk] at hsu
      obtain ⟨hrn, hrl⟩ := HR.out r (List.mem_of_getElem? hr)
      obtain ⟨hx0, hx1⟩ := hrn.1 k
      have hc := atN_any r _ k wr (hrow.below hbel) (by omega) (by omega)
      generalize r.getD k 0 = x at *
      have HSU : Hid _ := hsu
      clear hsu hfk hrd hrn hr hrow
      obtain ⟨L, HL⟩ : ∃ L, Hid (tab j f = L) := ⟨_, rfl⟩
      rw [HL.out] at hown hlen
      by_cases hjk : j = k
      · subst hjk
        have HSU2 : Hid (tab (j + 1) f = tab j f ++ [(x + (p : Int) - 1) % p]) := by
          have := HSU.out
          rw [if_pos rfl] at this
          rwa [show x + ((p : Int) - 1) = x + p - 1 by omega] at this
        clear HSU
        have hq0 : 0 ≤ (x + (p : Int) - 1) % p := Int.emod_nonneg _ (by omega)
        have hq1 : (x + (p : Int) - 1) % p < p := Int.emod_lt_of_pos _ (by omega)
        go_wp2_with fail
        refine hc.mono ?_
        rintro e w1 ⟨rfl, rfl⟩
        go_wp2_with fail
        refine (HM.out _ _ (by omega) (by omega)).mono ?_
        rintro e w1 ⟨rfl, rfl⟩
        go_wp2_with (at_builtin; refine wpList_pushN rfl (.tmp 30) (.tmp 34) rfl w.heap.size _ L _ rfl hown rfl (by omega) hbel.size ?_)
        intro v4 w4 hown4 hb4 _
        rw [← HL.out, ← HSU2.out] at hown4
        go_wp2
        go_roundw
        case rel => exact ⟨j + 1, by omega, by go_num, hown4, hbel.trans hb4⟩
        case measure => simp [intOf]; omega
      · have hjk' : ¬ (j : Int) = k := by omega
        have HSU2 : Hid (tab (j + 1) f = tab j f ++ [x % p]) := by
          have := HSU.out
          rwa [if_neg hjk, Int.add_zero] at this
        clear HSU
        have hq0 : 0 ≤ x % p := Int.emod_nonneg _ (by omega)
        have hq1 : x % p < p := Int.emod_lt_of_pos _ (by omega)
        go_wp2_with fail
        refine hc.mono ?_
        rintro e w1 ⟨rfl, rfl⟩
        go_wp2_with fail
        refine (HM.out _ _ (by omega) (by omega)).mono ?_
        rintro e w1 ⟨rfl, rfl⟩
        go_wp2_with (at_builtin; refine wpList_pushN rfl (.tmp 30) (.tmp 34) rfl w.heap.size _ L _ rfl hown rfl (by omega) hbel.size ?_)
        intro v4 w4 hown4 hb4 _
        rw [← HL.out, ← HSU2.out] at hown4
        go_wp2
        go_roundw
        case rel => exact ⟨j + 1, by omega, by go_num, hown4, hbel.trans hb4⟩
        case measure => simp [intOf]; omega
    · obtain rfl : j = R.length := by omega
      obtain ⟨oa, oc, hoe⟩ := hown.row.val
      subst hoe
      clear hlen
      go_wp2
      go_ret
      exact ⟨_, rfl, hown, hbel⟩

set_option maxRecDepth 100000 in
set_option maxHeartbeats 4000000 in
theorem narrowed_any (p n : Nat) (E : Nat → List Int) (k : Nat) (Bs : List (List Int)) (u v : Value) (w : World) (hu : OwnVN 0 w u Bs) (hv : RowN w v (E k)) (hB : Bas p n E k Bs) (hE : Red p (E k)) (hEl : (E k).length ≤ 900) (hn : n ≤ 900) (hp2 : 2 ≤ p) (hp1 : p < 1000) (hp : Dom (p : Int)) :
    Calls Tryz.prog 116 #[u, v, .int .i64 p] w fun e w' => ∃ x K, e = .returned x ∧ OwnVN w.heap.size w' x K ∧ Bas p n E (k + 1) K ∧ Below w.heap.size w w' := by
  obtain ⟨ua, uc, rfl⟩ := hu.val
  obtain ⟨va, vc, rfl⟩ := hv.val
  have hM := fun (n : Int) (W : World) (h0 : 0 ≤ n) (h1 : n < 10000000) => modulo_any n p W h0 (by omega) (by omega) (by omega)
  have HM : Hid _ := hM
  have hBl := hB.len
  have HEND : Hid _ := fun (K : List (List Int)) (sp : List Int) (s : Int) (h : NrO p n E k Bs Bs.length K sp s) => NrO.ends hp hB h
  have HMEM : Hid _ := hB.mem
  have HSP : Hid _ := fun (i : Nat) (K : List (List Int)) (sp b : List Int) (s : Int) (h : NrO p n E k Bs i K sp 0) (hb : Bs[i]? = some b) (hs : (p : Int) ∣ dot b (E k) * s - 1) => NrO.spend hp h hb (hB.mem b (List.mem_of_getElem? hb)) hs
  have HKP : Hid _ := fun (i : Nat) (K : List (List Int)) (sp b : List Int) (s : Int) (h : NrO p n E k Bs i K sp s) (hb : Bs[i]? = some b) (hv : dot b (E k) % p = 0 ∨ s ≠ 0) => NrO.keep (by omega) h hb (hB.mem b (List.mem_of_getElem? hb)) hv
  have HV : Hid _ := fun (W : World) (b : List Int) (x : Value) (hW : Below w.heap.size w W) (hx : RowN W x b) (hb : b ∈ Bs) => valueOf_any p b (E k) x _ W hx (hv.below hW) (by have := (hB.mem b hb).2.1; omega) hEl hp2 hp1 (hB.mem b hb).1.1 hE
  have HIN : Hid _ := fun (W : World) (z : Int) (h0 : 0 < z) (h1 : z < p) => (show ∀ (m : Nat), (m : Int) = z → Calls Tryz.prog 114 #[.int .i64 z, .int .i64 p] W fun e w' => ∃ k : Nat, e = .returned (.int .i64 k) ∧ k < p ∧ (p : Int) ∣ z * k - 1 ∧ w' = W from fun m hm => by
    subst hm
    exact inverse_any p m W hp2 hp1 hp (by omega) (fun hd => by
      have := Int.eq_zero_of_dvd_of_natAbs_lt_natAbs hd (by rw [Int.natAbs_natCast, Int.natAbs_natCast]; omega)
      omega)) z.toNat (by omega)
  clear hB hM hp
  go_enter Tryz.func116, Tryz.ntmps116
  go_wp2_with fail
  go_loopw [7, 8, 9, 10] (fun o s c i wr => ∃ (j : Nat) (K : List (List Int)) (sp : List Int) (sc : Nat), j ≤ Bs.length ∧ i = .int .i64 j ∧ c = .int .i64 sc ∧ sc < p ∧ OwnVN w.heap.size wr o K ∧ RowN wr s sp ∧ Hid (NrO p n E k Bs j K sp sc) ∧ Below w.heap.size w wr) (fun _ _ _ i _ => Bs.length - (intOf i).toNat)
  case atStart =>
    have h1 := (Below.refl w.heap.size w).alloc (Nat.le_refl _) (Obj.cells #[] 42)
    refine ⟨0, [], [], 0, Nat.zero_le _, rfl, rfl, by omega, OwnV.below vecN (OwnV.lit rfl) ((Below.refl _ _).alloc (Nat.le_refl _) _), (OwnN.lit (w := w.alloc (Obj.cells #[] 42)) (by simp)).row, NrO.start p n E k Bs, ?_⟩
    exact h1.alloc h1.size _
  case round =>
    obtain ⟨j, K, sp, sc, hj, rfl, rfl, hsc, hown, hsp, HN, hbel⟩ := hrel
    obtain ⟨oa, oc, rfl⟩ := hown.val
    obtain ⟨sa, s2, rfl⟩ := hsp.val
    by_cases hlt : j < Bs.length
    · obtain ⟨g, xa, xn, xc, b, rfl, hc1, hc2, hg1, _, hcell, hb, hrow⟩ := OwnV.at vecN hu j hlt
      have hcell' : wr.cell? ⟨g, j, none⟩ = some (.slice xa xn xc) := (hbel.cell (p := ⟨g, j, none⟩) hg1).trans hcell
      have hrow' := hrow.below hbel
      have hval := HV.out wr b _ hbel hrow' (List.mem_of_getElem? hb)
      obtain ⟨hbn, hbl, _⟩ := HMEM.out b (List.mem_of_getElem? hb)
      have hKl := HN.out.kl
      have hspr := HN.out.spr (by omega)
      have hkeep := HKP.out j K sp b (sc : Int) HN.out hb
      have hspend := fun (s : Int) (h0 : (sc : Int) = 0) => HSP.out j K sp b s (by have := HN.out; rwa [h0] at this) hb
      have hz0 : 0 ≤ dot b (E k) % p := Int.emod_nonneg _ (by omega)
      have hz1 : dot b (E k) % p < p := Int.emod_lt_of_pos _ (by omega)
      have hsd : ∀ s : Int, (p : Int) ∣ dot b (E k) % p * s - 1 → (p : Int) ∣ dot b (E k) * s - 1 := fun s h => by
        have h1 := Int.dvd_sub h (Int.dvd_trans (emod_alike (dot b (E k)) p) (Int.dvd_mul_right _ s))
        rwa [Int.sub_mul, show dot b (E k) % ↑p * s - 1 - (dot b (E k) % ↑p * s - dot b (E k) * s) = dot b (E k) * s - 1 by omega] at h1
      generalize dot b (E k) % p = z at *
      have HSD : Hid _ := fun (s : Int) (h0 : (sc : Int) = 0) (h : (p : Int) ∣ z * s - 1) => hspend s h0 (hsd s h)
      have HK : Hid _ := hkeep
      clear hsd hspend hkeep HN hb hcell
      by_cases hcase : z ≠ 0 ∧ sc = 0
      · obtain ⟨hzn, rfl⟩ := hcase
        have hzb : (z == 0) = false := by simpa using hzn
        have hin := HIN.out wr z (by omega) hz1
        clear HK
        go_wp2_with fail
        refine hval.mono ?_
        rintro e w1 ⟨rfl, rfl⟩
        go_wp2_with fail
        refine hin.mono ?_
        rintro e w1 ⟨s, rfl, hs, hdv, rfl⟩
        have HX : Hid _ := HSD.out s rfl hdv
        clear hdv HSD
        go_wp2
        go_roundw
        case rel => exact ⟨j + 1, K, b, s, by omega, by go_num, rfl, hs, hown, hrow', HX, hbel⟩
        case measure => simp [intOf]; omega
      · have hzs : z = 0 ∨ (sc : Int) ≠ 0 := by omega
        have HX : Hid _ := HK.out hzs
        clear HK HSD
        have hm0 : 0 ≤ z * (sc : Int) := Int.mul_nonneg hz0 (by omega)
        have hm1 : z * (sc : Int) ≤ 1000 * 1000 := Int.mul_le_mul (by omega) (by omega) (by omega) (by omega)
        have hq0 : 0 ≤ z * (sc : Int) % p := Int.emod_nonneg _ (by omega)
        have hq1 : z * (sc : Int) % p < p := Int.emod_lt_of_pos _ (by omega)
        have hww : IntKind.i64.wrap (z * (sc : Int)) = z * sc := by rw [IntKind.wrap_i64]; omega
        have hmod := HM.out (z * (sc : Int)) wr hm0 (by omega)
        obtain ⟨c, HC⟩ : ∃ c : Nat, Hid ((c : Int) = z * (sc : Int) % p) := ⟨(z * (sc : Int) % p).toNat, by show _ = _; omega⟩
        rw [← HC.out] at HX hq0 hq1 hmod
        have hlt2 := lessM_any p b sp c _ _ wr hrow' hsp (by omega) (by omega) (by omega) hp1 (by omega) hbn.1 hspr.1.1
        have hzc : (z = 0) ∨ (z ≠ 0 ∧ sc ≠ 0) := by omega
        rcases hzc with rfl | ⟨hzn, hsn⟩
        · obtain rfl : c = 0 := by
            have := HC.out
            rw [Int.zero_mul, Int.zero_emod] at this
            omega
          clear HC
          simp only [Int.natCast_zero, Int.zero_mul] at HX hlt2 hmod
          obtain ⟨L2, HL2⟩ : ∃ L2, Hid (ltm p b sp 0 = L2) := ⟨_, rfl⟩
          rw [HL2.out] at HX hlt2
          go_wp2_with fail
          refine hval.mono ?_
          rintro e w1 ⟨rfl, rfl⟩
          go_wp2_with fail
          refine hmod.mono ?_
          rintro e w1 ⟨rfl, rfl⟩
          go_wp2_with fail
          refine hlt2.mono ?_
          rintro e w2 ⟨x2, rfl, hI2, hb2⟩
          obtain ⟨ya, yc, rfl⟩ := hI2.row.val
          have hown2 := OwnV.below vecN hown hb2
          have hb2w := hbel.trans (hb2.mono hbel.size)
          go_wp2_with (at_builtin; refine wpList_pushV vecN Tryz.infoVN Tryz.sliceVN rfl (.tmp 46) (.tmp 55) rfl w.heap.size _ K _ L2 rfl hown2 hI2.row rfl (by omega) hb2w.size ?_)
          intro v3 w3 hown3 hb3 hg3
          have hsp3 := vecN.kept (hsp.below hb2) hg3 hown2.typ
          go_wp2
          go_roundw
          case rel => exact ⟨j + 1, K ++ [L2], sp, sc, by omega, by go_num, rfl, hsc, hown3, hsp3, HX, hb2w.trans hb3⟩
          case measure => simp [intOf]; omega
        · have hzb : (z == 0) = false := by simpa using hzn
          have hsb : ((sc : Int) == 0) = false := by simpa using hsn
          clear HC
          obtain ⟨L2, HL2⟩ : ∃ L2, Hid (ltm p b sp (c : Int) = L2) := ⟨_, rfl⟩
          rw [HL2.out] at HX hlt2
          go_wp2_with fail
          refine hval.mono ?_
          rintro e w1 ⟨rfl, rfl⟩
          go_wp2_with fail
          refine hmod.mono ?_
          rintro e w1 ⟨rfl, rfl⟩
          go_wp2_with fail
          refine hlt2.mono ?_
          rintro e w2 ⟨x2, rfl, hI2, hb2⟩
          obtain ⟨ya, yc, rfl⟩ := hI2.row.val
          have hown2 := OwnV.below vecN hown hb2
          have hb2w := hbel.trans (hb2.mono hbel.size)
          go_wp2_with (at_builtin; refine wpList_pushV vecN Tryz.infoVN Tryz.sliceVN rfl (.tmp 46) (.tmp 55) rfl w.heap.size _ K _ L2 rfl hown2 hI2.row rfl (by omega) hb2w.size ?_)
          intro v3 w3 hown3 hb3 hg3
          have hsp3 := vecN.kept (hsp.below hb2) hg3 hown2.typ
          go_wp2
          go_roundw
          case rel => exact ⟨j + 1, K ++ [L2], sp, sc, by omega, by go_num, rfl, hsc, hown3, hsp3, HX, hb2w.trans hb3⟩
          case measure => simp [intOf]; omega
    · obtain rfl : j = Bs.length := by omega
      have HX : Hid _ := HEND.out K sp sc HN.out
      clear HN HEND
      go_wp2
      go_ret
      exact ⟨_, K, rfl, hown, HX.out, hbel⟩

end Go.Proofs.YtldcjkhbiffdoabGreatDoor
