/-
  A closed fact of the program: liftsFinal, as the rows say it.
-/
import Derived.Test.YtcophfhnhlaonaaGreatDoorCards
import Derived.JoinedOf
import Derived.SevenTiedAt
namespace Go.Proofs.YtcophfhnhlaonaaGreatDoor
set_option linter.unusedVariables false
theorem fact_lifts : (Rows.circuitFromRow.lifted == Tryz.prog.liftsFinal) = true := by kernel_rfl
end Go.Proofs.YtcophfhnhlaonaaGreatDoor
