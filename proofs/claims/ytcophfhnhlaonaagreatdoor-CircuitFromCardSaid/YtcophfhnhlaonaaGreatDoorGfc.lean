/-
  A closed fact of the program: make, as the rows say it.
-/
import Derived.Test.YtcophfhnhlaonaaGreatDoorCards
import Derived.JoinedOf
import Derived.SevenTiedAt
namespace Go.Proofs.YtcophfhnhlaonaaGreatDoor
set_option linter.unusedVariables false
theorem fact_make : (Tryz.prog.make == some Rows.circuitFromRow.make) = true := by kernel_rfl
end Go.Proofs.YtcophfhnhlaonaaGreatDoor
