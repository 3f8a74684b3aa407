/-
  DERIVED. GIVEN WITH THE SEED: THE CARDS: each row of YtflmjdabmnpkjaaDoorRows.lean that lists a variable, with what it lists TIED to the program's text (the seventh form; the later family's looks); each row that meets fmt, with fmt's text TOLD by the authors' own Lean function (tested against real Go, not proved from fmt's source: count such statements apart). THE CARD IS WHAT COUNTS. Prove the row's statement (the work); the ties are given (YtflmjdabmnpkjaaDoorTie.lean); close each card by the builder's one call (the guide's Derived/Test/ToyasCard.lean, 'card_holds'). Laid BY PROGRAM, IN A SANDBOX (cutbox-door.mjs). By AI agents, Wed Nov 11 2026. No macro, syntax, notation, axiom, sorry.
-/
import Derived.Test.YtflmjdabmnpkjaaDoorRows
import GoSem.ClaimSeven
namespace Go.Proofs.YtflmjdabmnpkjaaDoor
namespace Rows

/-- THE TIED CARD OF 'commodatumlaw04.PolyValid'. -/
def polyValidCard : Claim7 := { stood := { row := polyValidRow, standIns := [], harness := (true, "cffd46654220825c3f4e380a4dfbb45e74f9adefc436f78ec6e812dcd06bcc14"), looks := false }, kinds := [], alts := [], laidByText := true, laidKinds := [.data, .data, .data, .data], laidTests := true, laidLooks := .later }
def PolyValidCardSaid : Prop := Claim7.holds Tryd.pinned (.plain (OpenSpec.ofChange polyValidSpec)) polyValidCard

/-- THE TIED CARD OF 'commodatumlaw04.PolyReduces'. -/
def polyReducesCard : Claim7 := { stood := { row := polyReducesRow, standIns := [], harness := (true, "cffd46654220825c3f4e380a4dfbb45e74f9adefc436f78ec6e812dcd06bcc14"), looks := false }, kinds := [], alts := [], laidByText := true, laidKinds := [.data, .data, .data, .data], laidTests := true, laidLooks := .later }
def PolyReducesCardSaid : Prop := Claim7.holds Tryd.pinned (.plain (OpenSpec.ofChange polyReducesSpec)) polyReducesCard

/-- THE TIED CARD OF 'commodatumlaw04.PolyMultilinears'. -/
def polyMultilinearsCard : Claim7 := { stood := { row := polyMultilinearsRow, standIns := [], harness := (true, "cffd46654220825c3f4e380a4dfbb45e74f9adefc436f78ec6e812dcd06bcc14"), looks := false }, kinds := [], alts := [], laidByText := true, laidKinds := [.data, .data, .data, .data], laidTests := true, laidLooks := .later }
def PolyMultilinearsCardSaid : Prop := Claim7.holds Tryd.pinned (.plain (OpenSpec.ofChange polyMultilinearsSpec)) polyMultilinearsCard

/-- THE SECOND FORM's CARD OF 'commodatumlaw04.PolyValid'. -/
def polyValidUptoCard : Claim7 := { stood := { row := polyValidUptoRow, standIns := [], harness := (true, "cffd46654220825c3f4e380a4dfbb45e74f9adefc436f78ec6e812dcd06bcc14"), looks := false }, kinds := [], alts := [], laidByText := true, laidKinds := [.data, .data, .data, .data], laidTests := true, laidLooks := .later }
def PolyValidUptoCardSaid : Prop := Claim7.holds Tryd.pinned (.plain (OpenSpec.upto polyValidSpec)) polyValidUptoCard

/-- THE SECOND FORM's CARD OF 'commodatumlaw04.PolyReduces'. -/
def polyReducesUptoCard : Claim7 := { stood := { row := polyReducesUptoRow, standIns := [], harness := (true, "cffd46654220825c3f4e380a4dfbb45e74f9adefc436f78ec6e812dcd06bcc14"), looks := false }, kinds := [], alts := [], laidByText := true, laidKinds := [.data, .data, .data, .data], laidTests := true, laidLooks := .later }
def PolyReducesUptoCardSaid : Prop := Claim7.holds Tryd.pinned (.plain (OpenSpec.upto polyReducesSpec)) polyReducesUptoCard

/-- THE SECOND FORM's CARD OF 'commodatumlaw04.PolyMultilinears'. -/
def polyMultilinearsUptoCard : Claim7 := { stood := { row := polyMultilinearsUptoRow, standIns := [], harness := (true, "cffd46654220825c3f4e380a4dfbb45e74f9adefc436f78ec6e812dcd06bcc14"), looks := false }, kinds := [], alts := [], laidByText := true, laidKinds := [.data, .data, .data, .data], laidTests := true, laidLooks := .later }
def PolyMultilinearsUptoCardSaid : Prop := Claim7.holds Tryd.pinned (.plain (OpenSpec.upto polyMultilinearsSpec)) polyMultilinearsUptoCard
end Rows
end Go.Proofs.YtflmjdabmnpkjaaDoor
