/-
  DERIVED. GIVEN WITH THE SEED: THE CARDS: each row of YtcophfhnhlaonaaDoorRows.lean that lists a variable, with what it lists TIED to the program's text (the seventh form; the later family's looks); each row that meets fmt, with fmt's text TOLD by the authors' own Lean function (tested against real Go, not proved from fmt's source: count such statements apart). THE CARD IS WHAT COUNTS. Prove the row's statement (the work); the ties are given (YtcophfhnhlaonaaDoorTie.lean); close each card by the builder's one call (the guide's Derived/Test/ToyasCard.lean, 'card_holds'). Laid BY PROGRAM, IN A SANDBOX (cutbox-door.mjs). By AI agents, Wed Nov 11 2026. No macro, syntax, notation, axiom, sorry.
-/
import Derived.Test.YtcophfhnhlaonaaDoorRows
import GoSem.ClaimSeven
namespace Go.Proofs.YtcophfhnhlaonaaDoor
namespace Rows

/-- THE TIED CARD OF 'commodatumlaw07.CircuitValid'. -/
def circuitValidCard : Claim7 := { stood := { row := circuitValidRow, standIns := [], harness := (true, "a878df21018b3c309a325bbe25cf9a04193bda5822029e0cf5f0cc5b65800a1f"), looks := true }, kinds := [], alts := [], laidByText := true, laidKinds := [.data, .data, .data, .data, .sentinel, .sentinel, .pinned], laidTests := true, laidLooks := .later }
def CircuitValidCardSaid : Prop := Claim7.holds Tryd.pinned (.plain (OpenSpec.ofChange circuitValidSpec)) circuitValidCard

/-- THE TIED CARD OF 'commodatumlaw07.CircuitEvals'. -/
def circuitEvalsCard : Claim7 := { stood := { row := circuitEvalsRow, standIns := [], harness := (true, "a878df21018b3c309a325bbe25cf9a04193bda5822029e0cf5f0cc5b65800a1f"), looks := true }, kinds := [], alts := [], laidByText := true, laidKinds := [.data, .data, .data, .data, .sentinel, .sentinel, .pinned], laidTests := true, laidLooks := .later }
def CircuitEvalsCardSaid : Prop := Claim7.holds Tryd.pinned (.plain (OpenSpec.ofChange circuitEvalsSpec)) circuitEvalsCard

/-- THE TIED CARD OF 'commodatumlaw07.CircuitBoth'. -/
def circuitBothCard : Claim7 := { stood := { row := circuitBothRow, standIns := [], harness := (true, "a878df21018b3c309a325bbe25cf9a04193bda5822029e0cf5f0cc5b65800a1f"), looks := true }, kinds := [], alts := [], laidByText := true, laidKinds := [.data, .data, .data, .data, .sentinel, .sentinel, .pinned], laidTests := true, laidLooks := .later }
def CircuitBothCardSaid : Prop := Claim7.holds Tryd.pinned (.plain (OpenSpec.ofChange circuitBothSpec)) circuitBothCard

/-- THE TIED CARD OF 'commodatumlaw07.CircuitBack'. -/
def circuitBackCard : Claim7 := { stood := { row := circuitBackRow, standIns := [], harness := (true, "a878df21018b3c309a325bbe25cf9a04193bda5822029e0cf5f0cc5b65800a1f"), looks := true }, kinds := [], alts := [], laidByText := true, laidKinds := [.data, .data, .data, .data, .sentinel, .sentinel, .pinned], laidTests := true, laidLooks := .later }
def CircuitBackCardSaid : Prop := Claim7.holds Tryd.pinned (.plain (OpenSpec.ofChange circuitBackSpec)) circuitBackCard

/-- THE SECOND FORM's CARD OF 'commodatumlaw07.CircuitValid'. -/
def circuitValidUptoCard : Claim7 := { stood := { row := circuitValidUptoRow, standIns := [], harness := (true, "a878df21018b3c309a325bbe25cf9a04193bda5822029e0cf5f0cc5b65800a1f"), looks := true }, kinds := [], alts := [], laidByText := true, laidKinds := [.data, .data, .data, .data, .sentinel, .sentinel, .pinned], laidTests := true, laidLooks := .later }
def CircuitValidUptoCardSaid : Prop := Claim7.holds Tryd.pinned (.plain (OpenSpec.upto circuitValidSpec)) circuitValidUptoCard

/-- THE SECOND FORM's CARD OF 'commodatumlaw07.CircuitEvals'. -/
def circuitEvalsUptoCard : Claim7 := { stood := { row := circuitEvalsUptoRow, standIns := [], harness := (true, "a878df21018b3c309a325bbe25cf9a04193bda5822029e0cf5f0cc5b65800a1f"), looks := true }, kinds := [], alts := [], laidByText := true, laidKinds := [.data, .data, .data, .data, .sentinel, .sentinel, .pinned], laidTests := true, laidLooks := .later }
def CircuitEvalsUptoCardSaid : Prop := Claim7.holds Tryd.pinned (.plain (OpenSpec.upto circuitEvalsSpec)) circuitEvalsUptoCard

/-- THE SECOND FORM's CARD OF 'commodatumlaw07.CircuitBoth'. -/
def circuitBothUptoCard : Claim7 := { stood := { row := circuitBothUptoRow, standIns := [], harness := (true, "a878df21018b3c309a325bbe25cf9a04193bda5822029e0cf5f0cc5b65800a1f"), looks := true }, kinds := [], alts := [], laidByText := true, laidKinds := [.data, .data, .data, .data, .sentinel, .sentinel, .pinned], laidTests := true, laidLooks := .later }
def CircuitBothUptoCardSaid : Prop := Claim7.holds Tryd.pinned (.plain (OpenSpec.upto circuitBothSpec)) circuitBothUptoCard

/-- THE SECOND FORM's CARD OF 'commodatumlaw07.CircuitBack'. -/
def circuitBackUptoCard : Claim7 := { stood := { row := circuitBackUptoRow, standIns := [], harness := (true, "a878df21018b3c309a325bbe25cf9a04193bda5822029e0cf5f0cc5b65800a1f"), looks := true }, kinds := [], alts := [], laidByText := true, laidKinds := [.data, .data, .data, .data, .sentinel, .sentinel, .pinned], laidTests := true, laidLooks := .later }
def CircuitBackUptoCardSaid : Prop := Claim7.holds Tryd.pinned (.plain (OpenSpec.upto circuitBackSpec)) circuitBackUptoCard
end Rows
end Go.Proofs.YtcophfhnhlaonaaDoor
