/-
  DERIVED. GIVEN WITH THE SEED: THE CARDS: each row of YtldcjkhbiffdoaaGreatDoorRows.lean that lists a variable, with what it lists TIED to the program's text (the seventh form; the later family's looks); each row that meets fmt, with fmt's text TOLD by the authors' own Lean function (tested against real Go, not proved from fmt's source: count such statements apart). THE CARD IS WHAT COUNTS. Prove the row's statement (the work); the ties are given (YtldcjkhbiffdoaaGreatDoorTie.lean); close each card by the builder's one call (the guide's Derived/Test/ToyasCard.lean, 'card_holds'). Laid BY PROGRAM, IN A SANDBOX (cutbox-door.mjs). By AI agents, Wed Nov 11 2026. No macro, syntax, notation, axiom, sorry.
-/
import Derived.Test.YtldcjkhbiffdoaaGreatDoorRows
import GoSem.ClaimSeven
namespace Go.Proofs.YtldcjkhbiffdoaaGreatDoor
namespace Rows

/-- THE TIED CARD OF 'factorlaw.Reads'. -/
def readsCard : Claim7 := { stood := { row := readsRow, standIns := [], harness := (true, "b65c853a27aec64b445a86a95590ffdc16728f78fba7026b426466db836f1af7"), looks := false }, kinds := [], alts := [], laidByText := true, laidKinds := [.data, .data, .data], laidTests := true, laidLooks := .later }
def ReadsCardSaid : Prop := Claim7.holds Tryz.pinned (.plain (OpenSpec.ofChange readsSpec)) readsCard

/-- THE TIED CARD OF 'factorlaw.Texts'. -/
def textsCard : Claim7 := { stood := { row := textsRow, standIns := [], harness := (true, "b65c853a27aec64b445a86a95590ffdc16728f78fba7026b426466db836f1af7"), looks := false }, kinds := [], alts := [], laidByText := true, laidKinds := [.data, .data, .data], laidTests := true, laidLooks := .later }
def TextsCardSaid : Prop := Claim7.holds Tryz.pinned (.plain (OpenSpec.ofChange textsSpec)) textsCard

/-- THE TIED CARD OF 'factorlaw.Adds'. -/
def addsCard : Claim7 := { stood := { row := addsRow, standIns := [], harness := (true, "b65c853a27aec64b445a86a95590ffdc16728f78fba7026b426466db836f1af7"), looks := false }, kinds := [], alts := [], laidByText := true, laidKinds := [.data, .data, .data], laidTests := true, laidLooks := .later }
def AddsCardSaid : Prop := Claim7.holds Tryz.pinned (.plain (OpenSpec.ofChange addsSpec)) addsCard

/-- THE TIED CARD OF 'factorlaw.Subs'. -/
def subsCard : Claim7 := { stood := { row := subsRow, standIns := [], harness := (true, "b65c853a27aec64b445a86a95590ffdc16728f78fba7026b426466db836f1af7"), looks := false }, kinds := [], alts := [], laidByText := true, laidKinds := [.data, .data, .data], laidTests := true, laidLooks := .later }
def SubsCardSaid : Prop := Claim7.holds Tryz.pinned (.plain (OpenSpec.ofChange subsSpec)) subsCard

/-- THE TIED CARD OF 'factorlaw.Muls'. -/
def mulsCard : Claim7 := { stood := { row := mulsRow, standIns := [], harness := (true, "b65c853a27aec64b445a86a95590ffdc16728f78fba7026b426466db836f1af7"), looks := false }, kinds := [], alts := [], laidByText := true, laidKinds := [.data, .data, .data], laidTests := true, laidLooks := .later }
def MulsCardSaid : Prop := Claim7.holds Tryz.pinned (.plain (OpenSpec.ofChange mulsSpec)) mulsCard

/-- THE TIED CARD OF 'factorlaw.Divides'. -/
def dividesCard : Claim7 := { stood := { row := dividesRow, standIns := [], harness := (true, "b65c853a27aec64b445a86a95590ffdc16728f78fba7026b426466db836f1af7"), looks := false }, kinds := [], alts := [], laidByText := true, laidKinds := [.data, .data, .data], laidTests := true, laidLooks := .later }
def DividesCardSaid : Prop := Claim7.holds Tryz.pinned (.plain (OpenSpec.ofChange dividesSpec)) dividesCard

/-- THE TIED CARD OF 'factorlaw.Gcds'. -/
def gcdsCard : Claim7 := { stood := { row := gcdsRow, standIns := [], harness := (true, "b65c853a27aec64b445a86a95590ffdc16728f78fba7026b426466db836f1af7"), looks := false }, kinds := [], alts := [], laidByText := true, laidKinds := [.data, .data, .data], laidTests := true, laidLooks := .later }
def GcdsCardSaid : Prop := Claim7.holds Tryz.pinned (.plain (OpenSpec.ofChange gcdsSpec)) gcdsCard

/-- THE TIED CARD OF 'factorlaw.Shifts'. -/
def shiftsCard : Claim7 := { stood := { row := shiftsRow, standIns := [], harness := (true, "b65c853a27aec64b445a86a95590ffdc16728f78fba7026b426466db836f1af7"), looks := false }, kinds := [], alts := [], laidByText := true, laidKinds := [.data, .data, .data], laidTests := true, laidLooks := .later }
def ShiftsCardSaid : Prop := Claim7.holds Tryz.pinned (.plain (OpenSpec.ofChange shiftsSpec)) shiftsCard

/-- THE TIED CARD OF 'factorlaw.Factors'. -/
def factorsCard : Claim7 := { stood := { row := factorsRow, standIns := [], harness := (true, "b65c853a27aec64b445a86a95590ffdc16728f78fba7026b426466db836f1af7"), looks := false }, kinds := [], alts := [], laidByText := true, laidKinds := [.data, .data, .data], laidTests := true, laidLooks := .later }
def FactorsCardSaid : Prop := Claim7.holds Tryz.pinned (.plain (OpenSpec.ofChange factorsSpec)) factorsCard

/-- THE TIED CARD OF 'factorlaw.Owned'. -/
def ownedCard : Claim7 := { stood := { row := ownedRow, standIns := [], harness := (true, "b65c853a27aec64b445a86a95590ffdc16728f78fba7026b426466db836f1af7"), looks := false }, kinds := [], alts := [], laidByText := true, laidKinds := [.data, .data, .data], laidTests := true, laidLooks := .later }
def OwnedCardSaid : Prop := Claim7.holds Tryz.pinned (.plain (OpenSpec.ofChange ownedSpec)) ownedCard

/-- THE TIED CARD OF 'factorlaw.Raw'. -/
def rawCard : Claim7 := { stood := { row := rawRow, standIns := [], harness := (true, "b65c853a27aec64b445a86a95590ffdc16728f78fba7026b426466db836f1af7"), looks := false }, kinds := [], alts := [], laidByText := true, laidKinds := [.data, .data, .data], laidTests := true, laidLooks := .later }
def RawCardSaid : Prop := Claim7.holds Tryz.pinned (.plain (OpenSpec.ofChange rawSpec)) rawCard

/-- THE TIED CARD OF 'factorlaw.All'. -/
def allCard : Claim7 := { stood := { row := allRow, standIns := [], harness := (true, "b65c853a27aec64b445a86a95590ffdc16728f78fba7026b426466db836f1af7"), looks := false }, kinds := [], alts := [], laidByText := true, laidKinds := [.data, .data, .data], laidTests := true, laidLooks := .later }
def AllCardSaid : Prop := Claim7.holds Tryz.pinned (.plain (OpenSpec.ofChange allSpec)) allCard

/-- THE SECOND FORM's CARD OF 'factorlaw.Reads'. -/
def readsUptoCard : Claim7 := { stood := { row := readsUptoRow, standIns := [], harness := (true, "b65c853a27aec64b445a86a95590ffdc16728f78fba7026b426466db836f1af7"), looks := false }, kinds := [], alts := [], laidByText := true, laidKinds := [.data, .data, .data], laidTests := true, laidLooks := .later }
def ReadsUptoCardSaid : Prop := Claim7.holds Tryz.pinned (.plain (OpenSpec.upto readsSpec)) readsUptoCard

/-- THE SECOND FORM's CARD OF 'factorlaw.Texts'. -/
def textsUptoCard : Claim7 := { stood := { row := textsUptoRow, standIns := [], harness := (true, "b65c853a27aec64b445a86a95590ffdc16728f78fba7026b426466db836f1af7"), looks := false }, kinds := [], alts := [], laidByText := true, laidKinds := [.data, .data, .data], laidTests := true, laidLooks := .later }
def TextsUptoCardSaid : Prop := Claim7.holds Tryz.pinned (.plain (OpenSpec.upto textsSpec)) textsUptoCard

/-- THE SECOND FORM's CARD OF 'factorlaw.Adds'. -/
def addsUptoCard : Claim7 := { stood := { row := addsUptoRow, standIns := [], harness := (true, "b65c853a27aec64b445a86a95590ffdc16728f78fba7026b426466db836f1af7"), looks := false }, kinds := [], alts := [], laidByText := true, laidKinds := [.data, .data, .data], laidTests := true, laidLooks := .later }
def AddsUptoCardSaid : Prop := Claim7.holds Tryz.pinned (.plain (OpenSpec.upto addsSpec)) addsUptoCard

/-- THE SECOND FORM's CARD OF 'factorlaw.Subs'. -/
def subsUptoCard : Claim7 := { stood := { row := subsUptoRow, standIns := [], harness := (true, "b65c853a27aec64b445a86a95590ffdc16728f78fba7026b426466db836f1af7"), looks := false }, kinds := [], alts := [], laidByText := true, laidKinds := [.data, .data, .data], laidTests := true, laidLooks := .later }
def SubsUptoCardSaid : Prop := Claim7.holds Tryz.pinned (.plain (OpenSpec.upto subsSpec)) subsUptoCard

/-- THE SECOND FORM's CARD OF 'factorlaw.Muls'. -/
def mulsUptoCard : Claim7 := { stood := { row := mulsUptoRow, standIns := [], harness := (true, "b65c853a27aec64b445a86a95590ffdc16728f78fba7026b426466db836f1af7"), looks := false }, kinds := [], alts := [], laidByText := true, laidKinds := [.data, .data, .data], laidTests := true, laidLooks := .later }
def MulsUptoCardSaid : Prop := Claim7.holds Tryz.pinned (.plain (OpenSpec.upto mulsSpec)) mulsUptoCard

/-- THE SECOND FORM's CARD OF 'factorlaw.Divides'. -/
def dividesUptoCard : Claim7 := { stood := { row := dividesUptoRow, standIns := [], harness := (true, "b65c853a27aec64b445a86a95590ffdc16728f78fba7026b426466db836f1af7"), looks := false }, kinds := [], alts := [], laidByText := true, laidKinds := [.data, .data, .data], laidTests := true, laidLooks := .later }
def DividesUptoCardSaid : Prop := Claim7.holds Tryz.pinned (.plain (OpenSpec.upto dividesSpec)) dividesUptoCard

/-- THE SECOND FORM's CARD OF 'factorlaw.Gcds'. -/
def gcdsUptoCard : Claim7 := { stood := { row := gcdsUptoRow, standIns := [], harness := (true, "b65c853a27aec64b445a86a95590ffdc16728f78fba7026b426466db836f1af7"), looks := false }, kinds := [], alts := [], laidByText := true, laidKinds := [.data, .data, .data], laidTests := true, laidLooks := .later }
def GcdsUptoCardSaid : Prop := Claim7.holds Tryz.pinned (.plain (OpenSpec.upto gcdsSpec)) gcdsUptoCard

/-- THE SECOND FORM's CARD OF 'factorlaw.Shifts'. -/
def shiftsUptoCard : Claim7 := { stood := { row := shiftsUptoRow, standIns := [], harness := (true, "b65c853a27aec64b445a86a95590ffdc16728f78fba7026b426466db836f1af7"), looks := false }, kinds := [], alts := [], laidByText := true, laidKinds := [.data, .data, .data], laidTests := true, laidLooks := .later }
def ShiftsUptoCardSaid : Prop := Claim7.holds Tryz.pinned (.plain (OpenSpec.upto shiftsSpec)) shiftsUptoCard

/-- THE SECOND FORM's CARD OF 'factorlaw.Factors'. -/
def factorsUptoCard : Claim7 := { stood := { row := factorsUptoRow, standIns := [], harness := (true, "b65c853a27aec64b445a86a95590ffdc16728f78fba7026b426466db836f1af7"), looks := false }, kinds := [], alts := [], laidByText := true, laidKinds := [.data, .data, .data], laidTests := true, laidLooks := .later }
def FactorsUptoCardSaid : Prop := Claim7.holds Tryz.pinned (.plain (OpenSpec.upto factorsSpec)) factorsUptoCard

/-- THE SECOND FORM's CARD OF 'factorlaw.Owned'. -/
def ownedUptoCard : Claim7 := { stood := { row := ownedUptoRow, standIns := [], harness := (true, "b65c853a27aec64b445a86a95590ffdc16728f78fba7026b426466db836f1af7"), looks := false }, kinds := [], alts := [], laidByText := true, laidKinds := [.data, .data, .data], laidTests := true, laidLooks := .later }
def OwnedUptoCardSaid : Prop := Claim7.holds Tryz.pinned (.plain (OpenSpec.upto ownedSpec)) ownedUptoCard

/-- THE SECOND FORM's CARD OF 'factorlaw.Raw'. -/
def rawUptoCard : Claim7 := { stood := { row := rawUptoRow, standIns := [], harness := (true, "b65c853a27aec64b445a86a95590ffdc16728f78fba7026b426466db836f1af7"), looks := false }, kinds := [], alts := [], laidByText := true, laidKinds := [.data, .data, .data], laidTests := true, laidLooks := .later }
def RawUptoCardSaid : Prop := Claim7.holds Tryz.pinned (.plain (OpenSpec.upto rawSpec)) rawUptoCard

/-- THE SECOND FORM's CARD OF 'factorlaw.All'. -/
def allUptoCard : Claim7 := { stood := { row := allUptoRow, standIns := [], harness := (true, "b65c853a27aec64b445a86a95590ffdc16728f78fba7026b426466db836f1af7"), looks := false }, kinds := [], alts := [], laidByText := true, laidKinds := [.data, .data, .data], laidTests := true, laidLooks := .later }
def AllUptoCardSaid : Prop := Claim7.holds Tryz.pinned (.plain (OpenSpec.upto allSpec)) allUptoCard
end Rows
end Go.Proofs.YtldcjkhbiffdoaaGreatDoor
