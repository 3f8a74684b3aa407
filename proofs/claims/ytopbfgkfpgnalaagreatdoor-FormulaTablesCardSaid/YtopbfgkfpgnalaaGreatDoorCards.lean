/-
  DERIVED. GIVEN WITH THE SEED: THE CARDS: each row of YtopbfgkfpgnalaaGreatDoorRows.lean that lists a variable, with what it lists TIED to the program's text (the seventh form; the later family's looks); each row that meets fmt, with fmt's text TOLD by the authors' own Lean function (tested against real Go, not proved from fmt's source: count such statements apart). THE CARD IS WHAT COUNTS. Prove the row's statement (the work); the ties are given (YtopbfgkfpgnalaaGreatDoorTie.lean); close each card by the builder's one call (the guide's Derived/Test/ToyasCard.lean, 'card_holds'). Laid BY PROGRAM, IN A SANDBOX (cutbox-door.mjs). By AI agents, Wed Nov 11 2026. No macro, syntax, notation, axiom, sorry.
-/
import Derived.Test.YtopbfgkfpgnalaaGreatDoorRows
import GoSem.ClaimSeven
namespace Go.Proofs.YtopbfgkfpgnalaaGreatDoor
namespace Rows

/-- THE TIED CARD OF 'commodatumlaw05.FormulaValid'. -/
def formulaValidCard : Claim7 := { stood := { row := formulaValidRow, standIns := [], harness := (true, "0f8579f8d7c7bae183210169cac5a5312ecbaf4bff30f4fd29c8d45fd16625c8"), looks := true }, kinds := [], alts := [], laidByText := true, laidKinds := [.data, .data, .data, .data, .data, .sentinel, .sentinel, .pinned], laidTests := true, laidLooks := .later }
def FormulaValidCardSaid : Prop := Claim7.holds Tryz.pinned (.plain (OpenSpec.ofChange formulaValidSpec)) formulaValidCard

/-- THE TIED CARD OF 'commodatumlaw05.FormulaTables'. -/
def formulaTablesCard : Claim7 := { stood := { row := formulaTablesRow, standIns := [], harness := (true, "0f8579f8d7c7bae183210169cac5a5312ecbaf4bff30f4fd29c8d45fd16625c8"), looks := true }, kinds := [], alts := [], laidByText := true, laidKinds := [.data, .data, .data, .data, .data, .sentinel, .sentinel, .pinned], laidTests := true, laidLooks := .later }
def FormulaTablesCardSaid : Prop := Claim7.holds Tryz.pinned (.plain (OpenSpec.ofChange formulaTablesSpec)) formulaTablesCard

/-- THE TIED CARD OF 'commodatumlaw05.FormulaTexts'. -/
def formulaTextsCard : Claim7 := { stood := { row := formulaTextsRow, standIns := [], harness := (true, "0f8579f8d7c7bae183210169cac5a5312ecbaf4bff30f4fd29c8d45fd16625c8"), looks := true }, kinds := [], alts := [], laidByText := true, laidKinds := [.data, .data, .data, .data, .data, .sentinel, .sentinel, .pinned], laidTests := true, laidLooks := .later }
def FormulaTextsCardSaid : Prop := Claim7.holds Tryz.pinned (.plain (OpenSpec.ofChange formulaTextsSpec)) formulaTextsCard

/-- THE TIED CARD OF 'commodatumlaw05.FormulaExprs'. -/
def formulaExprsCard : Claim7 := { stood := { row := formulaExprsRow, standIns := [], harness := (true, "0f8579f8d7c7bae183210169cac5a5312ecbaf4bff30f4fd29c8d45fd16625c8"), looks := true }, kinds := [], alts := [], laidByText := true, laidKinds := [.data, .data, .data, .data, .data, .sentinel, .sentinel, .pinned], laidTests := true, laidLooks := .later }
def FormulaExprsCardSaid : Prop := Claim7.holds Tryz.pinned (.plain (OpenSpec.ofChange formulaExprsSpec)) formulaExprsCard

/-- THE TIED CARD OF 'commodatumlaw05.FormulaEvals'. -/
def formulaEvalsCard : Claim7 := { stood := { row := formulaEvalsRow, standIns := [], harness := (true, "0f8579f8d7c7bae183210169cac5a5312ecbaf4bff30f4fd29c8d45fd16625c8"), looks := true }, kinds := [], alts := [], laidByText := true, laidKinds := [.data, .data, .data, .data, .data, .sentinel, .sentinel, .pinned], laidTests := true, laidLooks := .later }
def FormulaEvalsCardSaid : Prop := Claim7.holds Tryz.pinned (.plain (OpenSpec.ofChange formulaEvalsSpec)) formulaEvalsCard

/-- THE TIED CARD OF 'commodatumlaw05.FormulaPolys'. -/
def formulaPolysCard : Claim7 := { stood := { row := formulaPolysRow, standIns := [], harness := (true, "0f8579f8d7c7bae183210169cac5a5312ecbaf4bff30f4fd29c8d45fd16625c8"), looks := true }, kinds := [], alts := [], laidByText := true, laidKinds := [.data, .data, .data, .data, .data, .sentinel, .sentinel, .pinned], laidTests := true, laidLooks := .later }
def FormulaPolysCardSaid : Prop := Claim7.holds Tryz.pinned (.plain (OpenSpec.ofChange formulaPolysSpec)) formulaPolysCard

/-- THE TIED CARD OF 'commodatumlaw05.FormulaExprTexts'. -/
def formulaExprTextsCard : Claim7 := { stood := { row := formulaExprTextsRow, standIns := [], harness := (true, "0f8579f8d7c7bae183210169cac5a5312ecbaf4bff30f4fd29c8d45fd16625c8"), looks := true }, kinds := [], alts := [], laidByText := true, laidKinds := [.data, .data, .data, .data, .data, .sentinel, .sentinel, .pinned], laidTests := true, laidLooks := .later }
def FormulaExprTextsCardSaid : Prop := Claim7.holds Tryz.pinned (.plain (OpenSpec.ofChange formulaExprTextsSpec)) formulaExprTextsCard

/-- THE TIED CARD OF 'commodatumlaw05.FormulaArith'. -/
def formulaArithCard : Claim7 := { stood := { row := formulaArithRow, standIns := [], harness := (true, "0f8579f8d7c7bae183210169cac5a5312ecbaf4bff30f4fd29c8d45fd16625c8"), looks := true }, kinds := [], alts := [], laidByText := true, laidKinds := [.data, .data, .data, .data, .data, .sentinel, .sentinel, .pinned], laidTests := true, laidLooks := .later }
def FormulaArithCardSaid : Prop := Claim7.holds Tryz.pinned (.plain (OpenSpec.ofChange formulaArithSpec)) formulaArithCard

/-- THE TIED CARD OF 'commodatumlaw05.FormulaLaws'. -/
def formulaLawsCard : Claim7 := { stood := { row := formulaLawsRow, standIns := [], harness := (true, "0f8579f8d7c7bae183210169cac5a5312ecbaf4bff30f4fd29c8d45fd16625c8"), looks := true }, kinds := [], alts := [], laidByText := true, laidKinds := [.data, .data, .data, .data, .data, .sentinel, .sentinel, .pinned], laidTests := true, laidLooks := .later }
def FormulaLawsCardSaid : Prop := Claim7.holds Tryz.pinned (.plain (OpenSpec.ofChange formulaLawsSpec)) formulaLawsCard

/-- THE TIED CARD OF 'commodatumlaw05.FormulaBack'. -/
def formulaBackCard : Claim7 := { stood := { row := formulaBackRow, standIns := [], harness := (true, "0f8579f8d7c7bae183210169cac5a5312ecbaf4bff30f4fd29c8d45fd16625c8"), looks := true }, kinds := [], alts := [], laidByText := true, laidKinds := [.data, .data, .data, .data, .data, .sentinel, .sentinel, .pinned], laidTests := true, laidLooks := .later }
def FormulaBackCardSaid : Prop := Claim7.holds Tryz.pinned (.plain (OpenSpec.ofChange formulaBackSpec)) formulaBackCard

/-- THE TIED CARD OF 'commodatumlaw05.FormulaValues'. -/
def formulaValuesCard : Claim7 := { stood := { row := formulaValuesRow, standIns := [], harness := (true, "0f8579f8d7c7bae183210169cac5a5312ecbaf4bff30f4fd29c8d45fd16625c8"), looks := true }, kinds := [], alts := [], laidByText := true, laidKinds := [.data, .data, .data, .data, .data, .sentinel, .sentinel, .pinned], laidTests := true, laidLooks := .later }
def FormulaValuesCardSaid : Prop := Claim7.holds Tryz.pinned (.plain (OpenSpec.ofChange formulaValuesSpec)) formulaValuesCard

/-- THE TIED CARD OF 'commodatumlaw05.FormulaOwn'. -/
def formulaOwnCard : Claim7 := { stood := { row := formulaOwnRow, standIns := [], harness := (true, "0f8579f8d7c7bae183210169cac5a5312ecbaf4bff30f4fd29c8d45fd16625c8"), looks := true }, kinds := [], alts := [], laidByText := true, laidKinds := [.data, .data, .data, .data, .data, .sentinel, .sentinel, .pinned], laidTests := true, laidLooks := .later }
def FormulaOwnCardSaid : Prop := Claim7.holds Tryz.pinned (.plain (OpenSpec.ofChange formulaOwnSpec)) formulaOwnCard

/-- THE SECOND FORM's CARD OF 'commodatumlaw05.FormulaValid'. -/
def formulaValidUptoCard : Claim7 := { stood := { row := formulaValidUptoRow, standIns := [], harness := (true, "0f8579f8d7c7bae183210169cac5a5312ecbaf4bff30f4fd29c8d45fd16625c8"), looks := true }, kinds := [], alts := [], laidByText := true, laidKinds := [.data, .data, .data, .data, .data, .sentinel, .sentinel, .pinned], laidTests := true, laidLooks := .later }
def FormulaValidUptoCardSaid : Prop := Claim7.holds Tryz.pinned (.plain (OpenSpec.upto formulaValidSpec)) formulaValidUptoCard

/-- THE SECOND FORM's CARD OF 'commodatumlaw05.FormulaTables'. -/
def formulaTablesUptoCard : Claim7 := { stood := { row := formulaTablesUptoRow, standIns := [], harness := (true, "0f8579f8d7c7bae183210169cac5a5312ecbaf4bff30f4fd29c8d45fd16625c8"), looks := true }, kinds := [], alts := [], laidByText := true, laidKinds := [.data, .data, .data, .data, .data, .sentinel, .sentinel, .pinned], laidTests := true, laidLooks := .later }
def FormulaTablesUptoCardSaid : Prop := Claim7.holds Tryz.pinned (.plain (OpenSpec.upto formulaTablesSpec)) formulaTablesUptoCard

/-- THE SECOND FORM's CARD OF 'commodatumlaw05.FormulaTexts'. -/
def formulaTextsUptoCard : Claim7 := { stood := { row := formulaTextsUptoRow, standIns := [], harness := (true, "0f8579f8d7c7bae183210169cac5a5312ecbaf4bff30f4fd29c8d45fd16625c8"), looks := true }, kinds := [], alts := [], laidByText := true, laidKinds := [.data, .data, .data, .data, .data, .sentinel, .sentinel, .pinned], laidTests := true, laidLooks := .later }
def FormulaTextsUptoCardSaid : Prop := Claim7.holds Tryz.pinned (.plain (OpenSpec.upto formulaTextsSpec)) formulaTextsUptoCard

/-- THE SECOND FORM's CARD OF 'commodatumlaw05.FormulaExprs'. -/
def formulaExprsUptoCard : Claim7 := { stood := { row := formulaExprsUptoRow, standIns := [], harness := (true, "0f8579f8d7c7bae183210169cac5a5312ecbaf4bff30f4fd29c8d45fd16625c8"), looks := true }, kinds := [], alts := [], laidByText := true, laidKinds := [.data, .data, .data, .data, .data, .sentinel, .sentinel, .pinned], laidTests := true, laidLooks := .later }
def FormulaExprsUptoCardSaid : Prop := Claim7.holds Tryz.pinned (.plain (OpenSpec.upto formulaExprsSpec)) formulaExprsUptoCard

/-- THE SECOND FORM's CARD OF 'commodatumlaw05.FormulaEvals'. -/
def formulaEvalsUptoCard : Claim7 := { stood := { row := formulaEvalsUptoRow, standIns := [], harness := (true, "0f8579f8d7c7bae183210169cac5a5312ecbaf4bff30f4fd29c8d45fd16625c8"), looks := true }, kinds := [], alts := [], laidByText := true, laidKinds := [.data, .data, .data, .data, .data, .sentinel, .sentinel, .pinned], laidTests := true, laidLooks := .later }
def FormulaEvalsUptoCardSaid : Prop := Claim7.holds Tryz.pinned (.plain (OpenSpec.upto formulaEvalsSpec)) formulaEvalsUptoCard

/-- THE SECOND FORM's CARD OF 'commodatumlaw05.FormulaPolys'. -/
def formulaPolysUptoCard : Claim7 := { stood := { row := formulaPolysUptoRow, standIns := [], harness := (true, "0f8579f8d7c7bae183210169cac5a5312ecbaf4bff30f4fd29c8d45fd16625c8"), looks := true }, kinds := [], alts := [], laidByText := true, laidKinds := [.data, .data, .data, .data, .data, .sentinel, .sentinel, .pinned], laidTests := true, laidLooks := .later }
def FormulaPolysUptoCardSaid : Prop := Claim7.holds Tryz.pinned (.plain (OpenSpec.upto formulaPolysSpec)) formulaPolysUptoCard

/-- THE SECOND FORM's CARD OF 'commodatumlaw05.FormulaExprTexts'. -/
def formulaExprTextsUptoCard : Claim7 := { stood := { row := formulaExprTextsUptoRow, standIns := [], harness := (true, "0f8579f8d7c7bae183210169cac5a5312ecbaf4bff30f4fd29c8d45fd16625c8"), looks := true }, kinds := [], alts := [], laidByText := true, laidKinds := [.data, .data, .data, .data, .data, .sentinel, .sentinel, .pinned], laidTests := true, laidLooks := .later }
def FormulaExprTextsUptoCardSaid : Prop := Claim7.holds Tryz.pinned (.plain (OpenSpec.upto formulaExprTextsSpec)) formulaExprTextsUptoCard

/-- THE SECOND FORM's CARD OF 'commodatumlaw05.FormulaArith'. -/
def formulaArithUptoCard : Claim7 := { stood := { row := formulaArithUptoRow, standIns := [], harness := (true, "0f8579f8d7c7bae183210169cac5a5312ecbaf4bff30f4fd29c8d45fd16625c8"), looks := true }, kinds := [], alts := [], laidByText := true, laidKinds := [.data, .data, .data, .data, .data, .sentinel, .sentinel, .pinned], laidTests := true, laidLooks := .later }
def FormulaArithUptoCardSaid : Prop := Claim7.holds Tryz.pinned (.plain (OpenSpec.upto formulaArithSpec)) formulaArithUptoCard

/-- THE SECOND FORM's CARD OF 'commodatumlaw05.FormulaLaws'. -/
def formulaLawsUptoCard : Claim7 := { stood := { row := formulaLawsUptoRow, standIns := [], harness := (true, "0f8579f8d7c7bae183210169cac5a5312ecbaf4bff30f4fd29c8d45fd16625c8"), looks := true }, kinds := [], alts := [], laidByText := true, laidKinds := [.data, .data, .data, .data, .data, .sentinel, .sentinel, .pinned], laidTests := true, laidLooks := .later }
def FormulaLawsUptoCardSaid : Prop := Claim7.holds Tryz.pinned (.plain (OpenSpec.upto formulaLawsSpec)) formulaLawsUptoCard

/-- THE SECOND FORM's CARD OF 'commodatumlaw05.FormulaBack'. -/
def formulaBackUptoCard : Claim7 := { stood := { row := formulaBackUptoRow, standIns := [], harness := (true, "0f8579f8d7c7bae183210169cac5a5312ecbaf4bff30f4fd29c8d45fd16625c8"), looks := true }, kinds := [], alts := [], laidByText := true, laidKinds := [.data, .data, .data, .data, .data, .sentinel, .sentinel, .pinned], laidTests := true, laidLooks := .later }
def FormulaBackUptoCardSaid : Prop := Claim7.holds Tryz.pinned (.plain (OpenSpec.upto formulaBackSpec)) formulaBackUptoCard

/-- THE SECOND FORM's CARD OF 'commodatumlaw05.FormulaValues'. -/
def formulaValuesUptoCard : Claim7 := { stood := { row := formulaValuesUptoRow, standIns := [], harness := (true, "0f8579f8d7c7bae183210169cac5a5312ecbaf4bff30f4fd29c8d45fd16625c8"), looks := true }, kinds := [], alts := [], laidByText := true, laidKinds := [.data, .data, .data, .data, .data, .sentinel, .sentinel, .pinned], laidTests := true, laidLooks := .later }
def FormulaValuesUptoCardSaid : Prop := Claim7.holds Tryz.pinned (.plain (OpenSpec.upto formulaValuesSpec)) formulaValuesUptoCard

/-- THE SECOND FORM's CARD OF 'commodatumlaw05.FormulaOwn'. -/
def formulaOwnUptoCard : Claim7 := { stood := { row := formulaOwnUptoRow, standIns := [], harness := (true, "0f8579f8d7c7bae183210169cac5a5312ecbaf4bff30f4fd29c8d45fd16625c8"), looks := true }, kinds := [], alts := [], laidByText := true, laidKinds := [.data, .data, .data, .data, .data, .sentinel, .sentinel, .pinned], laidTests := true, laidLooks := .later }
def FormulaOwnUptoCardSaid : Prop := Claim7.holds Tryz.pinned (.plain (OpenSpec.upto formulaOwnSpec)) formulaOwnUptoCard
end Rows
end Go.Proofs.YtopbfgkfpgnalaaGreatDoor
