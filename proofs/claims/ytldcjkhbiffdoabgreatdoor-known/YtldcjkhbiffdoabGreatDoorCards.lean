/-
  DERIVED. GIVEN WITH THE SEED: THE CARDS: each row of YtldcjkhbiffdoabGreatDoorRows.lean that lists a variable, with what it lists TIED to the program's text (the seventh form; the later family's looks); each row that meets fmt, with fmt's text TOLD by the authors' own Lean function (tested against real Go, not proved from fmt's source: count such statements apart). THE CARD IS WHAT COUNTS. Prove the row's statement (the work); the ties are given (YtldcjkhbiffdoabGreatDoorTie.lean); close each card by the builder's one call (the guide's Derived/Test/ToyasCard.lean, 'card_holds'). Laid BY PROGRAM, IN A SANDBOX (cutbox-door.mjs). By AI agents, Wed Nov 11 2026. No macro, syntax, notation, axiom, sorry.
-/
import Derived.Test.YtldcjkhbiffdoabGreatDoorRows
import GoSem.ClaimSeven
namespace Go.Proofs.YtldcjkhbiffdoabGreatDoor
namespace Rows

/-- THE TIED CARD OF 'factorkeep.Factored'. -/
def factoredCard : Claim7 := { stood := { row := factoredRow, standIns := [], harness := (true, "6216131c0d35d2df7a0f300462a3aa9e59316b8f2a6de6defdc43d467f59169a"), looks := false }, kinds := [], alts := [], laidByText := true, laidKinds := [.data, .data, .data], laidTests := true, laidLooks := .later }
def FactoredCardSaid : Prop := Claim7.holds Tryz.pinned (.plain (OpenSpec.ofChange factoredSpec)) factoredCard

/-- THE TIED CARD OF 'factorkeep.Together'. -/
def togetherCard : Claim7 := { stood := { row := togetherRow, standIns := [], harness := (true, "6216131c0d35d2df7a0f300462a3aa9e59316b8f2a6de6defdc43d467f59169a"), looks := false }, kinds := [], alts := [], laidByText := true, laidKinds := [.data, .data, .data], laidTests := true, laidLooks := .later }
def TogetherCardSaid : Prop := Claim7.holds Tryz.pinned (.plain (OpenSpec.ofChange togetherSpec)) togetherCard

/-- THE TIED CARD OF 'factorkeep.Common'. -/
def commonCard : Claim7 := { stood := { row := commonRow, standIns := [], harness := (true, "6216131c0d35d2df7a0f300462a3aa9e59316b8f2a6de6defdc43d467f59169a"), looks := false }, kinds := [], alts := [], laidByText := true, laidKinds := [.data, .data, .data], laidTests := true, laidLooks := .later }
def CommonCardSaid : Prop := Claim7.holds Tryz.pinned (.plain (OpenSpec.ofChange commonSpec)) commonCard

/-- THE TIED CARD OF 'factorkeep.Divided'. -/
def dividedCard : Claim7 := { stood := { row := dividedRow, standIns := [], harness := (true, "6216131c0d35d2df7a0f300462a3aa9e59316b8f2a6de6defdc43d467f59169a"), looks := false }, kinds := [], alts := [], laidByText := true, laidKinds := [.data, .data, .data], laidTests := true, laidLooks := .later }
def DividedCardSaid : Prop := Claim7.holds Tryz.pinned (.plain (OpenSpec.ofChange dividedSpec)) dividedCard

/-- THE TIED CARD OF 'factorkeep.Shifted'. -/
def shiftedCard : Claim7 := { stood := { row := shiftedRow, standIns := [], harness := (true, "6216131c0d35d2df7a0f300462a3aa9e59316b8f2a6de6defdc43d467f59169a"), looks := false }, kinds := [], alts := [], laidByText := true, laidKinds := [.data, .data, .data], laidTests := true, laidLooks := .later }
def ShiftedCardSaid : Prop := Claim7.holds Tryz.pinned (.plain (OpenSpec.ofChange shiftedSpec)) shiftedCard

/-- THE TIED CARD OF 'factorkeep.Known'. -/
def knownCard : Claim7 := { stood := { row := knownRow, standIns := [], harness := (true, "6216131c0d35d2df7a0f300462a3aa9e59316b8f2a6de6defdc43d467f59169a"), looks := false }, kinds := [], alts := [], laidByText := true, laidKinds := [.data, .data, .data], laidTests := true, laidLooks := .later }
def KnownCardSaid : Prop := Claim7.holds Tryz.pinned (.plain (OpenSpec.ofChange knownSpec)) knownCard

/-- THE SECOND FORM's CARD OF 'factorkeep.Factored'. -/
def factoredUptoCard : Claim7 := { stood := { row := factoredUptoRow, standIns := [], harness := (true, "6216131c0d35d2df7a0f300462a3aa9e59316b8f2a6de6defdc43d467f59169a"), looks := false }, kinds := [], alts := [], laidByText := true, laidKinds := [.data, .data, .data], laidTests := true, laidLooks := .later }
def FactoredUptoCardSaid : Prop := Claim7.holds Tryz.pinned (.plain (OpenSpec.upto factoredSpec)) factoredUptoCard

/-- THE SECOND FORM's CARD OF 'factorkeep.Together'. -/
def togetherUptoCard : Claim7 := { stood := { row := togetherUptoRow, standIns := [], harness := (true, "6216131c0d35d2df7a0f300462a3aa9e59316b8f2a6de6defdc43d467f59169a"), looks := false }, kinds := [], alts := [], laidByText := true, laidKinds := [.data, .data, .data], laidTests := true, laidLooks := .later }
def TogetherUptoCardSaid : Prop := Claim7.holds Tryz.pinned (.plain (OpenSpec.upto togetherSpec)) togetherUptoCard

/-- THE SECOND FORM's CARD OF 'factorkeep.Common'. -/
def commonUptoCard : Claim7 := { stood := { row := commonUptoRow, standIns := [], harness := (true, "6216131c0d35d2df7a0f300462a3aa9e59316b8f2a6de6defdc43d467f59169a"), looks := false }, kinds := [], alts := [], laidByText := true, laidKinds := [.data, .data, .data], laidTests := true, laidLooks := .later }
def CommonUptoCardSaid : Prop := Claim7.holds Tryz.pinned (.plain (OpenSpec.upto commonSpec)) commonUptoCard

/-- THE SECOND FORM's CARD OF 'factorkeep.Divided'. -/
def dividedUptoCard : Claim7 := { stood := { row := dividedUptoRow, standIns := [], harness := (true, "6216131c0d35d2df7a0f300462a3aa9e59316b8f2a6de6defdc43d467f59169a"), looks := false }, kinds := [], alts := [], laidByText := true, laidKinds := [.data, .data, .data], laidTests := true, laidLooks := .later }
def DividedUptoCardSaid : Prop := Claim7.holds Tryz.pinned (.plain (OpenSpec.upto dividedSpec)) dividedUptoCard

/-- THE SECOND FORM's CARD OF 'factorkeep.Shifted'. -/
def shiftedUptoCard : Claim7 := { stood := { row := shiftedUptoRow, standIns := [], harness := (true, "6216131c0d35d2df7a0f300462a3aa9e59316b8f2a6de6defdc43d467f59169a"), looks := false }, kinds := [], alts := [], laidByText := true, laidKinds := [.data, .data, .data], laidTests := true, laidLooks := .later }
def ShiftedUptoCardSaid : Prop := Claim7.holds Tryz.pinned (.plain (OpenSpec.upto shiftedSpec)) shiftedUptoCard

/-- THE SECOND FORM's CARD OF 'factorkeep.Known'. -/
def knownUptoCard : Claim7 := { stood := { row := knownUptoRow, standIns := [], harness := (true, "6216131c0d35d2df7a0f300462a3aa9e59316b8f2a6de6defdc43d467f59169a"), looks := false }, kinds := [], alts := [], laidByText := true, laidKinds := [.data, .data, .data], laidTests := true, laidLooks := .later }
def KnownUptoCardSaid : Prop := Claim7.holds Tryz.pinned (.plain (OpenSpec.upto knownSpec)) knownUptoCard
end Rows
end Go.Proofs.YtldcjkhbiffdoabGreatDoor
