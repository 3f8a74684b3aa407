/-
  DERIVED. GIVEN WITH THE SEED: THE CARDS: each row of YtiiopdomlepkmaaDoorRows.lean that lists a variable, with what it lists TIED to the program's text (the seventh form; the later family's looks); each row that meets fmt, with fmt's text TOLD by the authors' own Lean function (tested against real Go, not proved from fmt's source: count such statements apart). THE CARD IS WHAT COUNTS. Prove the row's statement (the work); the ties are given (YtiiopdomlepkmaaDoorTie.lean); close each card by the builder's one call (the guide's Derived/Test/ToyasCard.lean, 'card_holds'). Laid BY PROGRAM, IN A SANDBOX (cutbox-door.mjs). By AI agents, Wed Nov 11 2026. No macro, syntax, notation, axiom, sorry.
-/
import Derived.Test.YtiiopdomlepkmaaDoorRows
import GoSem.ClaimSeven
namespace Go.Proofs.YtiiopdomlepkmaaDoor
namespace Rows

/-- THE TIED CARD OF 'commodatumlaw04.PolyValid'. -/
def polyValidCard : Claim7 := { stood := { row := polyValidRow, standIns := [], harness := (true, "ca04d161d6334bb0485084219b3065d64f06ea3b8cfe46d1c93b113f554959f0"), looks := false }, kinds := [], alts := [], laidByText := true, laidKinds := [.data, .data, .data, .data], laidTests := true, laidLooks := .later }
def PolyValidCardSaid : Prop := Claim7.holds Tryd.pinned (.plain (OpenSpec.ofChange polyValidSpec)) polyValidCard

/-- THE TIED CARD OF 'commodatumlaw04.PolyReduces'. -/
def polyReducesCard : Claim7 := { stood := { row := polyReducesRow, standIns := [], harness := (true, "ca04d161d6334bb0485084219b3065d64f06ea3b8cfe46d1c93b113f554959f0"), looks := false }, kinds := [], alts := [], laidByText := true, laidKinds := [.data, .data, .data, .data], laidTests := true, laidLooks := .later }
def PolyReducesCardSaid : Prop := Claim7.holds Tryd.pinned (.plain (OpenSpec.ofChange polyReducesSpec)) polyReducesCard

/-- THE TIED CARD OF 'commodatumlaw04.PolyMultilinears'. -/
def polyMultilinearsCard : Claim7 := { stood := { row := polyMultilinearsRow, standIns := [], harness := (true, "ca04d161d6334bb0485084219b3065d64f06ea3b8cfe46d1c93b113f554959f0"), looks := false }, kinds := [], alts := [], laidByText := true, laidKinds := [.data, .data, .data, .data], laidTests := true, laidLooks := .later }
def PolyMultilinearsCardSaid : Prop := Claim7.holds Tryd.pinned (.plain (OpenSpec.ofChange polyMultilinearsSpec)) polyMultilinearsCard

/-- THE TIED CARD OF 'commodatumlaw04.PolyRing'. -/
def polyRingCard : Claim7 := { stood := { row := polyRingRow, standIns := [], harness := (true, "ca04d161d6334bb0485084219b3065d64f06ea3b8cfe46d1c93b113f554959f0"), looks := false }, kinds := [], alts := [], laidByText := true, laidKinds := [.data, .data, .data, .data], laidTests := true, laidLooks := .later }
def PolyRingCardSaid : Prop := Claim7.holds Tryd.pinned (.plain (OpenSpec.ofChange polyRingSpec)) polyRingCard

/-- THE TIED CARD OF 'commodatumlaw04.PolyFunctions'. -/
def polyFunctionsCard : Claim7 := { stood := { row := polyFunctionsRow, standIns := [], harness := (true, "ca04d161d6334bb0485084219b3065d64f06ea3b8cfe46d1c93b113f554959f0"), looks := false }, kinds := [], alts := [], laidByText := true, laidKinds := [.data, .data, .data, .data], laidTests := true, laidLooks := .later }
def PolyFunctionsCardSaid : Prop := Claim7.holds Tryd.pinned (.plain (OpenSpec.ofChange polyFunctionsSpec)) polyFunctionsCard

/-- THE TIED CARD OF 'commodatumlaw04.PolyTables'. -/
def polyTablesCard : Claim7 := { stood := { row := polyTablesRow, standIns := [], harness := (true, "ca04d161d6334bb0485084219b3065d64f06ea3b8cfe46d1c93b113f554959f0"), looks := false }, kinds := [], alts := [], laidByText := true, laidKinds := [.data, .data, .data, .data], laidTests := true, laidLooks := .later }
def PolyTablesCardSaid : Prop := Claim7.holds Tryd.pinned (.plain (OpenSpec.ofChange polyTablesSpec)) polyTablesCard

/-- THE SECOND FORM's CARD OF 'commodatumlaw04.PolyValid'. -/
def polyValidUptoCard : Claim7 := { stood := { row := polyValidUptoRow, standIns := [], harness := (true, "ca04d161d6334bb0485084219b3065d64f06ea3b8cfe46d1c93b113f554959f0"), looks := false }, kinds := [], alts := [], laidByText := true, laidKinds := [.data, .data, .data, .data], laidTests := true, laidLooks := .later }
def PolyValidUptoCardSaid : Prop := Claim7.holds Tryd.pinned (.plain (OpenSpec.upto polyValidSpec)) polyValidUptoCard

/-- THE SECOND FORM's CARD OF 'commodatumlaw04.PolyReduces'. -/
def polyReducesUptoCard : Claim7 := { stood := { row := polyReducesUptoRow, standIns := [], harness := (true, "ca04d161d6334bb0485084219b3065d64f06ea3b8cfe46d1c93b113f554959f0"), looks := false }, kinds := [], alts := [], laidByText := true, laidKinds := [.data, .data, .data, .data], laidTests := true, laidLooks := .later }
def PolyReducesUptoCardSaid : Prop := Claim7.holds Tryd.pinned (.plain (OpenSpec.upto polyReducesSpec)) polyReducesUptoCard

/-- THE SECOND FORM's CARD OF 'commodatumlaw04.PolyMultilinears'. -/
def polyMultilinearsUptoCard : Claim7 := { stood := { row := polyMultilinearsUptoRow, standIns := [], harness := (true, "ca04d161d6334bb0485084219b3065d64f06ea3b8cfe46d1c93b113f554959f0"), looks := false }, kinds := [], alts := [], laidByText := true, laidKinds := [.data, .data, .data, .data], laidTests := true, laidLooks := .later }
def PolyMultilinearsUptoCardSaid : Prop := Claim7.holds Tryd.pinned (.plain (OpenSpec.upto polyMultilinearsSpec)) polyMultilinearsUptoCard

/-- THE SECOND FORM's CARD OF 'commodatumlaw04.PolyRing'. -/
def polyRingUptoCard : Claim7 := { stood := { row := polyRingUptoRow, standIns := [], harness := (true, "ca04d161d6334bb0485084219b3065d64f06ea3b8cfe46d1c93b113f554959f0"), looks := false }, kinds := [], alts := [], laidByText := true, laidKinds := [.data, .data, .data, .data], laidTests := true, laidLooks := .later }
def PolyRingUptoCardSaid : Prop := Claim7.holds Tryd.pinned (.plain (OpenSpec.upto polyRingSpec)) polyRingUptoCard

/-- THE SECOND FORM's CARD OF 'commodatumlaw04.PolyFunctions'. -/
def polyFunctionsUptoCard : Claim7 := { stood := { row := polyFunctionsUptoRow, standIns := [], harness := (true, "ca04d161d6334bb0485084219b3065d64f06ea3b8cfe46d1c93b113f554959f0"), looks := false }, kinds := [], alts := [], laidByText := true, laidKinds := [.data, .data, .data, .data], laidTests := true, laidLooks := .later }
def PolyFunctionsUptoCardSaid : Prop := Claim7.holds Tryd.pinned (.plain (OpenSpec.upto polyFunctionsSpec)) polyFunctionsUptoCard

/-- THE SECOND FORM's CARD OF 'commodatumlaw04.PolyTables'. -/
def polyTablesUptoCard : Claim7 := { stood := { row := polyTablesUptoRow, standIns := [], harness := (true, "ca04d161d6334bb0485084219b3065d64f06ea3b8cfe46d1c93b113f554959f0"), looks := false }, kinds := [], alts := [], laidByText := true, laidKinds := [.data, .data, .data, .data], laidTests := true, laidLooks := .later }
def PolyTablesUptoCardSaid : Prop := Claim7.holds Tryd.pinned (.plain (OpenSpec.upto polyTablesSpec)) polyTablesUptoCard
end Rows
end Go.Proofs.YtiiopdomlepkmaaDoor
