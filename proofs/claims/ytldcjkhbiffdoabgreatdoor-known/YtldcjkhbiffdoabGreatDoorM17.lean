import Derived.Test.YtldcjkhbiffdoabGreatDoorCMDiv
import Derived.Test.YtldcjkhbiffdoabGreatDoorM05

namespace Go.Proofs.YtldcjkhbiffdoabGreatDoor
open Go.RowKit

theorem lit1 {w : World} {k : Int} : OwnN w.heap.size (w.alloc (.cells #[.int .i64 k] 3)) (.slice (some ⟨w.heap.size, 0, none⟩) 1 1) [k] ∧ Below w.heap.size w (w.alloc (.cells #[.int .i64 k] 3)) :=
  ⟨World.ownsRow_lit w #[.int .i64 k] 1 (Nat.le_refl _) (by simp [maxLen]) rfl, (Below.refl _ _).alloc (Nat.le_refl _) _⟩

theorem red1 {p : Nat} {k : Nat} (h : k < p) : Red p [(k : Int)] := by
  refine Red.of_mem (by omega) fun a ha => ?_
  simp at ha
  omega

set_option maxHeartbeats 1000000 in
theorem monic_any (p : Nat) (a : List Int) (u : Value) (w : World) (hu : RowN w u a) (hl : a.length ≤ 900) (hp2 : 2 ≤ p) (hp1 : p < 1000) (hp : Dom (p : Int)) (na : Nrm p a) (hne : a ≠ []) :
    Calls Tryz.prog 89 #[u, .int .i64 p] w fun e w' => ∃ g x, e = .returned x ∧ OwnN w.heap.size w' x g ∧ MonO p a g ∧ Below w.heap.size w w' := by
  obtain ⟨ua, uc, rfl⟩ := hu.val
  have h0 := List.length_pos_iff.2 hne
  have hat := atN_any a _ (a.length - 1) w hu (by omega) (by omega)
  rw [show a.getD (a.length - 1) 0 = lead a from rfl, show ((a.length - 1 : Nat) : Int) = (a.length : Int) - 1 by omega] at hat
  obtain ⟨_, h1, h2, h3⟩ := na.ld hne
  have hinv := fun (W : World) => inverse_any p (lead a).toNat W hp2 hp1 hp (by omega) (by rw [show (((lead a).toNat : Nat) : Int) = lead a by omega]; exact h3)
  rw [show (((lead a).toNat : Nat) : Int) = lead a by omega] at hinv
  have HE : Hid (∀ (k : Nat) (g : List Int), (p : Int) ∣ lead a * k - 1 → Nrm p g → Zm p (fun t => ev t g - ev t a * ev t [(k : Int)]) → MonO p a g) := fun k g e1 e2 e3 => MonO.of hp na hne e2 e1 e3
  have HM : Hid (∀ (W : World) (k : Nat) (v : Value), k < p → Below w.heap.size w W → RowN W v [(k : Int)] → _) := fun W k v hk hb hv => mulM_any p a [(k : Int)] _ v W (hu.below hb) hv (by omega) (by simp) (by omega) hp1 na.1 (red1 hk)
  have HI : Hid _ := hinv
  clear hinv na hne h3
  generalize lead a = z at *
  go_enter Tryz.func89, Tryz.ntmps89
  go_wp2_with fail
  refine hat.mono ?_
  rintro e w1 ⟨rfl, rfl⟩
  go_wp2_with fail
  refine (HI.out w1).mono ?_
  rintro e w2 ⟨k, rfl, hk, hdv, rfl⟩
  have HDV : Hid _ := hdv
  clear hdv
  go_wp2_with fail
  obtain ⟨hlit, hb2⟩ := lit1 (w := w2) (k := (k : Int))
  generalize w2.alloc (Obj.cells #[Value.int .i64 (k : Int)] 3) = W2 at *
  refine (HM.out W2 k _ hk hb2 hlit.row).mono ?_
  rintro e w3 ⟨g, x, rfl, hI3, hn3, hz3, hl3, hb3⟩
  obtain ⟨xa, xc, rfl⟩ := hI3.row.val
  go_wp2
  go_ret
  exact ⟨g, _, rfl, hI3.lower hb2.size, HE.out k g HDV.out hn3 hz3, hb2.trans (hb3.mono hb2.size)⟩

set_option maxHeartbeats 1000000 in
theorem gcdM_any (p : Nat) (a b : List Int) (u v : Value) (w : World) (hu : RowN w u a) (hv : RowN w v b) (hl : a.length ≤ 900) (hm : b.length ≤ 900) (hp2 : 2 ≤ p) (hp1 : p < 1000) (hp : Dom (p : Int)) (na : Nrm p a) (nb : Nrm p b) (hne : a ≠ [] ∨ b ≠ []) :
    Calls Tryz.prog 119 #[u, v, .int .i64 p] w fun e w' => ∃ g x, e = .returned x ∧ OwnN w.heap.size w' x g ∧ GM p a b g ∧ g.length ≤ 900 ∧ Below w.heap.size w w' := by
  obtain ⟨ua, uc, rfl⟩ := hu.val
  obtain ⟨va, vc, rfl⟩ := hv.val
  have HG0 : Hid _ := GcO.start na nb hne
  have HP : Hid _ := hp
  clear na nb hne hp
  go_enter Tryz.func119, Tryz.ntmps119
  go_wp2_with fail
  go_loopw [7, 8] (fun x y wr => ∃ (A C : List Int), RowN wr x A ∧ RowN wr y C ∧ A.length ≤ 900 ∧ C.length ≤ 900 ∧ Hid (GcO p a b A C) ∧ Below w.heap.size w wr) (fun _ y _ => lenV y)
  case atStart => exact ⟨a, b, hu, hv, hl, hm, HG0, Below.refl _ _⟩
  case round =>
    clear hu hv HG0
    obtain ⟨A, C, hA, hC, hAl, hCl, HG, hbel⟩ := hrel
    obtain ⟨xa, xc, rfl⟩ := hA.val
    obtain ⟨ya, yc, rfl⟩ := hC.val
    by_cases h0 : C = []
    · subst h0
      have hl0 : ([] : List Int).length = 0 := rfl
      have hA0 : A ≠ [] := HG.out.ne.elim id fun h => absurd rfl h
      have hMo := monic_any p A _ wr hA hAl hp2 hp1 HP.out HG.out.nA hA0
      have HGE : Hid _ := fun (g : List Int) (h : MonO p A g) => HG.out.ends h
      clear HG hA0
      go_wp2_with fail
      refine hMo.mono ?_
      rintro e w2 ⟨g, x, rfl, hI2, hm2, hb2⟩
      have hgl := hm2.len
      have HGM : Hid _ := HGE.out g hm2
      have hgl' : g.length ≤ 900 := by omega
      clear hgl hm2 HGE
      obtain ⟨za, zc, rfl⟩ := hI2.row.val
      go_wp2
      go_ret
      exact ⟨g, _, rfl, hI2.lower hbel.size, HGM.out, hgl', hbel.trans (hb2.mono hbel.size)⟩
    · have hpos := List.length_pos_iff.2 h0
      have hD := divM_any p A C _ _ wr hA hC (by omega) (by omega) hp2 hp1 HP.out HG.out.nA.1 HG.out.nB h0
      have HGN : Hid _ := fun (q r : List Int) (h : DM p A C q r) => HG.out.next h0 h
      clear HG
      go_wp2_with fail
      refine hD.mono ?_
      rintro e w2 ⟨x2, y2, rfl, ⟨q, r, hq, hr, hdm⟩, hb2⟩
      have hrl := hdm.lt
      have HN2 : Hid _ := HGN.out q r hdm
      clear hdm HGN
      obtain ⟨qa, qc, rfl⟩ := hq.row.val
      obtain ⟨ra, rc, rfl⟩ := hr.row.val
      go_wp2
      go_roundw
      case rel => exact ⟨C, r, hC.below hb2, hr.row, hCl, by omega, HN2, hbel.trans (hb2.mono hbel.size)⟩
      case measure => simp [lenV]; omega

end Go.Proofs.YtldcjkhbiffdoabGreatDoor
