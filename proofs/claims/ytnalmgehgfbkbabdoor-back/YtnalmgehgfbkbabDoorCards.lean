/-
  DERIVED. GIVEN WITH THE SEED: THE CARDS: each row of YtnalmgehgfbkbabDoorRows.lean that lists a variable, with what it lists TIED to the program's text (the seventh form; the later family's looks); each row that meets fmt, with fmt's text TOLD by the authors' own Lean function (tested against real Go, not proved from fmt's source: count such statements apart). THE CARD IS WHAT COUNTS. Prove the row's statement (the work); the ties are given (YtnalmgehgfbkbabDoorTie.lean); close each card by the builder's one call (the guide's Derived/Test/ToyasCard.lean, 'card_holds'). Laid BY PROGRAM, IN A SANDBOX (cutbox-door.mjs). By AI agents, Wed Nov 11 2026. No macro, syntax, notation, axiom, sorry.
-/
import Derived.Test.YtnalmgehgfbkbabDoorRows
import GoSem.ClaimSeven
namespace Go.Proofs.YtnalmgehgfbkbabDoor
namespace Rows

/-- THE TIED CARD OF 'factorkeep.Back'. -/
def backCard : Claim7 := { stood := { row := backRow, standIns := [], harness := (true, "7bc4de00cec8042ed7ffd0fbbd9ebe5ebab14400754341cc799e3ce0958d4c98"), looks := false }, kinds := [], alts := [], laidByText := true, laidKinds := [.data, .data, .data], laidTests := true, laidLooks := .later }
def BackCardSaid : Prop := Claim7.holds Tryd.pinned (.plain (OpenSpec.ofChange backSpec)) backCard

/-- THE TIED CARD OF 'factorkeep.Together'. -/
def togetherCard : Claim7 := { stood := { row := togetherRow, standIns := [], harness := (true, "7bc4de00cec8042ed7ffd0fbbd9ebe5ebab14400754341cc799e3ce0958d4c98"), looks := false }, kinds := [], alts := [], laidByText := true, laidKinds := [.data, .data, .data], laidTests := true, laidLooks := .later }
def TogetherCardSaid : Prop := Claim7.holds Tryd.pinned (.plain (OpenSpec.ofChange togetherSpec)) togetherCard

/-- THE TIED CARD OF 'factorkeep.Common'. -/
def commonCard : Claim7 := { stood := { row := commonRow, standIns := [], harness := (true, "7bc4de00cec8042ed7ffd0fbbd9ebe5ebab14400754341cc799e3ce0958d4c98"), looks := false }, kinds := [], alts := [], laidByText := true, laidKinds := [.data, .data, .data], laidTests := true, laidLooks := .later }
def CommonCardSaid : Prop := Claim7.holds Tryd.pinned (.plain (OpenSpec.ofChange commonSpec)) commonCard

/-- THE TIED CARD OF 'factorkeep.Shifted'. -/
def shiftedCard : Claim7 := { stood := { row := shiftedRow, standIns := [], harness := (true, "7bc4de00cec8042ed7ffd0fbbd9ebe5ebab14400754341cc799e3ce0958d4c98"), looks := false }, kinds := [], alts := [], laidByText := true, laidKinds := [.data, .data, .data], laidTests := true, laidLooks := .later }
def ShiftedCardSaid : Prop := Claim7.holds Tryd.pinned (.plain (OpenSpec.ofChange shiftedSpec)) shiftedCard

/-- THE SECOND FORM's CARD OF 'factorkeep.Back'. -/
def backUptoCard : Claim7 := { stood := { row := backUptoRow, standIns := [], harness := (true, "7bc4de00cec8042ed7ffd0fbbd9ebe5ebab14400754341cc799e3ce0958d4c98"), looks := false }, kinds := [], alts := [], laidByText := true, laidKinds := [.data, .data, .data], laidTests := true, laidLooks := .later }
def BackUptoCardSaid : Prop := Claim7.holds Tryd.pinned (.plain (OpenSpec.upto backSpec)) backUptoCard

/-- THE SECOND FORM's CARD OF 'factorkeep.Together'. -/
def togetherUptoCard : Claim7 := { stood := { row := togetherUptoRow, standIns := [], harness := (true, "7bc4de00cec8042ed7ffd0fbbd9ebe5ebab14400754341cc799e3ce0958d4c98"), looks := false }, kinds := [], alts := [], laidByText := true, laidKinds := [.data, .data, .data], laidTests := true, laidLooks := .later }
def TogetherUptoCardSaid : Prop := Claim7.holds Tryd.pinned (.plain (OpenSpec.upto togetherSpec)) togetherUptoCard

/-- THE SECOND FORM's CARD OF 'factorkeep.Common'. -/
def commonUptoCard : Claim7 := { stood := { row := commonUptoRow, standIns := [], harness := (true, "7bc4de00cec8042ed7ffd0fbbd9ebe5ebab14400754341cc799e3ce0958d4c98"), looks := false }, kinds := [], alts := [], laidByText := true, laidKinds := [.data, .data, .data], laidTests := true, laidLooks := .later }
def CommonUptoCardSaid : Prop := Claim7.holds Tryd.pinned (.plain (OpenSpec.upto commonSpec)) commonUptoCard

/-- THE SECOND FORM's CARD OF 'factorkeep.Shifted'. -/
def shiftedUptoCard : Claim7 := { stood := { row := shiftedUptoRow, standIns := [], harness := (true, "7bc4de00cec8042ed7ffd0fbbd9ebe5ebab14400754341cc799e3ce0958d4c98"), looks := false }, kinds := [], alts := [], laidByText := true, laidKinds := [.data, .data, .data], laidTests := true, laidLooks := .later }
def ShiftedUptoCardSaid : Prop := Claim7.holds Tryd.pinned (.plain (OpenSpec.upto shiftedSpec)) shiftedUptoCard
end Rows
end Go.Proofs.YtnalmgehgfbkbabDoor
