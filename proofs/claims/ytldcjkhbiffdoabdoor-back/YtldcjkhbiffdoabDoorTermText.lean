/-
  poly.signText, poly.termText.
-/
import Derived.Test.YtldcjkhbiffdoabDoorBounded
namespace Go.Proofs.YtldcjkhbiffdoabDoor
open Go.RowKit

/-- What stands ahead of a term. -/
def signT (neg first : Bool) : List UInt8 := if first then (if neg then [45] else []) else (if neg then [32, 45, 32] else [32, 43, 32])

set_option maxHeartbeats 400000 in
theorem signText_any (s : Int) (first : Bool) (w : World) :
    Calls Tryd.prog 20 #[.int .i64 s, .bool first] w fun e w' => e = .returned (.string ⟨(signT (decide (s < 0)) first).toArray⟩) ∧ w' = w := by
  by_cases hs : s < 0
  · rw [decide_eq_true hs]
    cases first
    all_goals
      go_enter Tryd.func20, Tryd.ntmps20
      go_wp2
      go_ret
      exact ⟨rfl, rfl⟩
  · rw [decide_eq_false hs]
    cases first
    all_goals
      go_enter Tryd.func20, Tryd.ntmps20
      go_wp2
      go_ret
      exact ⟨rfl, rfl⟩

/-- The variable with its power. -/
def varT (k : Nat) : List UInt8 := if 1 < k then [120, 94] ++ Lib.decDigits k else [120]
/-- A term. -/
def termT (n k : Nat) : List UInt8 :=
  if k = 0 then Lib.decDigits n else if Lib.decDigits n = [49] then varT k else Lib.decDigits n ++ [42] ++ varT k

set_option maxHeartbeats 1000000 in
theorem termText_any (v : Value) (n k : Nat) (w : World) (hv : IsI w v (n : Int)) (hf : Fit (n : Int)) (hk : k < 100) (hd : (Lib.decDigits n).length ≤ 1000) (ht : Tab w) :
    Calls Tryd.prog 18 #[v, .int .i64 k] w fun e w' => e = .returned (.string ⟨(termT n k).toArray⟩) ∧ Below w.heap.size w w' := by
  obtain ⟨b, x, l, rfl, hx, h1⟩ := id hv
  obtain ⟨xa, xc, rfl⟩ := hx.val
  have hT := fun (W : World) (g : IsI W (.agg #[.bool b, .slice xa l.length xc]) (n : Int)) (g2 : Tab W) => intText_any _ (n : Int) W g hf g2
  have hi : Lib.itoa (n : Int) = Lib.decDigits n := by rw [itoa_nonneg (by omega)]; simp
  rw [hi] at hT
  have hK := fun (W : World) => Tryd.strconv_Itoa_small k hk W
  have hkl : (Lib.decDigits k).length ≤ 2 := by rw [Lib.decDigits_length]; exact nDigits_le (by omega) (by omega)
  unfold termT varT
  generalize Lib.decDigits n = d at *
  generalize Lib.decDigits k = dk at *
  have HT : Hid _ := hT
  have HK : Hid _ := hK
  clear hT hK hi
  by_cases hk0 : k = 0
  · subst hk0
    rw [if_pos rfl]
    go_enter Tryd.func18, Tryd.ntmps18
    go_wp2_with fail
    generalize hW : w.alloc (Obj.cells #[Value.bool b, Value.slice xa l.length xc] 43) = W0
    obtain ⟨hb0, X0⟩ := one_new hW
    clear hW
    refine (HT.out W0 (hv.below hb0) (ht.below hb0)).mono ?_
    rintro e w1 ⟨rfl, hb1⟩
    go_wp2
    go_ret
    exact ⟨rfl, hb0.trans (hb1.mono hb0.size)⟩
  · rw [if_neg hk0]
    have hk0' : ((k : Int) == 0) = false := by simp [hk0]
    by_cases hd1 : d = [49]
    · subst hd1
      rw [if_pos rfl]
      by_cases hk1 : 1 < k
      · rw [if_pos hk1]
        go_enter Tryd.func18, Tryd.ntmps18
        go_wp2_with fail
        generalize hW : w.alloc (Obj.cells #[Value.bool b, Value.slice xa l.length xc] 43) = W0
        obtain ⟨hb0, X0⟩ := one_new hW
        clear hW
        refine (HT.out W0 (hv.below hb0) (ht.below hb0)).mono ?_
        rintro e w1 ⟨rfl, hb1⟩
        go_wp2_with fail
        refine (HK.out _).mono ?_
        rintro e w2 ⟨rfl, rfl⟩
        go_wp2
        go_ret
        exact ⟨congrArg (fun s => Ending.returned (.string s)) (str_app [120, 94] dk), hb0.trans (hb1.mono hb0.size)⟩
      · rw [if_neg hk1]
        go_enter Tryd.func18, Tryd.ntmps18
        go_wp2_with fail
        generalize hW : w.alloc (Obj.cells #[Value.bool b, Value.slice xa l.length xc] 43) = W0
        obtain ⟨hb0, X0⟩ := one_new hW
        clear hW
        refine (HT.out W0 (hv.below hb0) (ht.below hb0)).mono ?_
        rintro e w1 ⟨rfl, hb1⟩
        go_wp2
        go_ret
        exact ⟨rfl, hb0.trans (hb1.mono hb0.size)⟩
    · rw [if_neg hd1]
      have hdb : (d == [49]) = false := by simp [hd1]
      by_cases hk1 : 1 < k
      · rw [if_pos hk1]
        go_enter Tryd.func18, Tryd.ntmps18
        go_wp2_with fail
        generalize hW : w.alloc (Obj.cells #[Value.bool b, Value.slice xa l.length xc] 43) = W0
        obtain ⟨hb0, X0⟩ := one_new hW
        clear hW
        refine (HT.out W0 (hv.below hb0) (ht.below hb0)).mono ?_
        rintro e w1 ⟨rfl, hb1⟩
        go_wp2_with fail
        refine (HK.out _).mono ?_
        rintro e w2 ⟨rfl, rfl⟩
        go_wp2
        go_ret
        exact ⟨congrArg (fun s => Ending.returned (.string s)) (by rw [← str_app, ← str_app]; congr 1), hb0.trans (hb1.mono hb0.size)⟩
      · rw [if_neg hk1]
        go_enter Tryd.func18, Tryd.ntmps18
        go_wp2_with fail
        generalize hW : w.alloc (Obj.cells #[Value.bool b, Value.slice xa l.length xc] 43) = W0
        obtain ⟨hb0, X0⟩ := one_new hW
        clear hW
        refine (HT.out W0 (hv.below hb0) (ht.below hb0)).mono ?_
        rintro e w1 ⟨rfl, hb1⟩
        go_wp2
        go_ret
        exact ⟨congrArg (fun s => Ending.returned (.string s)) (by rw [← str_app, ← str_app]), hb0.trans (hb1.mono hb0.size)⟩

end Go.Proofs.YtldcjkhbiffdoabDoor
