/-
  DERIVED. GIVEN WITH THE SEED: THE CARDS: each row of YtcophfhnhlaonaaGreatDoorRows.lean that lists a variable, with what it lists TIED to the program's text (the seventh form; the later family's looks); each row that meets fmt, with fmt's text TOLD by the authors' own Lean function (tested against real Go, not proved from fmt's source: count such statements apart). THE CARD IS WHAT COUNTS. Prove the row's statement (the work); the ties are given (YtcophfhnhlaonaaGreatDoorTie.lean); close each card by the builder's one call (the guide's Derived/Test/ToyasCard.lean, 'card_holds'). Laid BY PROGRAM, IN A SANDBOX (cutbox-door.mjs). By AI agents, Wed Nov 11 2026. No macro, syntax, notation, axiom, sorry.
-/
import Derived.Test.YtcophfhnhlaonaaGreatDoorRows
import GoSem.ClaimSeven
namespace Go.Proofs.YtcophfhnhlaonaaGreatDoor
namespace Rows

/-- THE TIED CARD OF 'commodatumlaw07.CircuitFrom'. -/
def circuitFromCard : Claim7 := { stood := { row := circuitFromRow, standIns := [], harness := (true, "6233371845a0950d8fb15a4d7107acd59e82940163642e10f65c9fa65991c909"), looks := true }, kinds := [], alts := [], laidByText := true, laidKinds := [.data, .data, .data, .data, .sentinel, .sentinel, .pinned], laidTests := true, laidLooks := .later }
def CircuitFromCardSaid : Prop := Claim7.holds Tryz.pinned (.plain (OpenSpec.ofChange circuitFromSpec)) circuitFromCard

/-- THE TIED CARD OF 'commodatumlaw07.CircuitFormula'. -/
def circuitFormulaCard : Claim7 := { stood := { row := circuitFormulaRow, standIns := [], harness := (true, "6233371845a0950d8fb15a4d7107acd59e82940163642e10f65c9fa65991c909"), looks := true }, kinds := [], alts := [], laidByText := true, laidKinds := [.data, .data, .data, .data, .sentinel, .sentinel, .pinned], laidTests := true, laidLooks := .later }
def CircuitFormulaCardSaid : Prop := Claim7.holds Tryz.pinned (.plain (OpenSpec.ofChange circuitFormulaSpec)) circuitFormulaCard

/-- THE TIED CARD OF 'commodatumlaw07.CircuitSlim'. -/
def circuitSlimCard : Claim7 := { stood := { row := circuitSlimRow, standIns := [], harness := (true, "6233371845a0950d8fb15a4d7107acd59e82940163642e10f65c9fa65991c909"), looks := true }, kinds := [], alts := [], laidByText := true, laidKinds := [.data, .data, .data, .data, .sentinel, .sentinel, .pinned], laidTests := true, laidLooks := .later }
def CircuitSlimCardSaid : Prop := Claim7.holds Tryz.pinned (.plain (OpenSpec.ofChange circuitSlimSpec)) circuitSlimCard

/-- THE TIED CARD OF 'commodatumlaw07.CircuitOwn'. -/
def circuitOwnCard : Claim7 := { stood := { row := circuitOwnRow, standIns := [], harness := (true, "6233371845a0950d8fb15a4d7107acd59e82940163642e10f65c9fa65991c909"), looks := true }, kinds := [], alts := [], laidByText := true, laidKinds := [.data, .data, .data, .data, .sentinel, .sentinel, .pinned], laidTests := true, laidLooks := .later }
def CircuitOwnCardSaid : Prop := Claim7.holds Tryz.pinned (.plain (OpenSpec.ofChange circuitOwnSpec)) circuitOwnCard

/-- THE SECOND FORM's CARD OF 'commodatumlaw07.CircuitFrom'. -/
def circuitFromUptoCard : Claim7 := { stood := { row := circuitFromUptoRow, standIns := [], harness := (true, "6233371845a0950d8fb15a4d7107acd59e82940163642e10f65c9fa65991c909"), looks := true }, kinds := [], alts := [], laidByText := true, laidKinds := [.data, .data, .data, .data, .sentinel, .sentinel, .pinned], laidTests := true, laidLooks := .later }
def CircuitFromUptoCardSaid : Prop := Claim7.holds Tryz.pinned (.plain (OpenSpec.upto circuitFromSpec)) circuitFromUptoCard

/-- THE SECOND FORM's CARD OF 'commodatumlaw07.CircuitFormula'. -/
def circuitFormulaUptoCard : Claim7 := { stood := { row := circuitFormulaUptoRow, standIns := [], harness := (true, "6233371845a0950d8fb15a4d7107acd59e82940163642e10f65c9fa65991c909"), looks := true }, kinds := [], alts := [], laidByText := true, laidKinds := [.data, .data, .data, .data, .sentinel, .sentinel, .pinned], laidTests := true, laidLooks := .later }
def CircuitFormulaUptoCardSaid : Prop := Claim7.holds Tryz.pinned (.plain (OpenSpec.upto circuitFormulaSpec)) circuitFormulaUptoCard

/-- THE SECOND FORM's CARD OF 'commodatumlaw07.CircuitSlim'. -/
def circuitSlimUptoCard : Claim7 := { stood := { row := circuitSlimUptoRow, standIns := [], harness := (true, "6233371845a0950d8fb15a4d7107acd59e82940163642e10f65c9fa65991c909"), looks := true }, kinds := [], alts := [], laidByText := true, laidKinds := [.data, .data, .data, .data, .sentinel, .sentinel, .pinned], laidTests := true, laidLooks := .later }
def CircuitSlimUptoCardSaid : Prop := Claim7.holds Tryz.pinned (.plain (OpenSpec.upto circuitSlimSpec)) circuitSlimUptoCard

/-- THE SECOND FORM's CARD OF 'commodatumlaw07.CircuitOwn'. -/
def circuitOwnUptoCard : Claim7 := { stood := { row := circuitOwnUptoRow, standIns := [], harness := (true, "6233371845a0950d8fb15a4d7107acd59e82940163642e10f65c9fa65991c909"), looks := true }, kinds := [], alts := [], laidByText := true, laidKinds := [.data, .data, .data, .data, .sentinel, .sentinel, .pinned], laidTests := true, laidLooks := .later }
def CircuitOwnUptoCardSaid : Prop := Claim7.holds Tryz.pinned (.plain (OpenSpec.upto circuitOwnSpec)) circuitOwnUptoCard
end Rows
end Go.Proofs.YtcophfhnhlaonaaGreatDoor
