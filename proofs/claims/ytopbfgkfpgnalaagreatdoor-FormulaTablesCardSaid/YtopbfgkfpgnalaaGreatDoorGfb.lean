/-
  A closed fact of the program: liftsFinal, as the rows say it.
-/
import Derived.Test.YtopbfgkfpgnalaaGreatDoorCards
import Derived.JoinedOf
import Derived.SevenTiedAt
namespace Go.Proofs.YtopbfgkfpgnalaaGreatDoor
set_option linter.unusedVariables false
theorem fact_lifts : (Rows.formulaValidRow.lifted == Tryz.prog.liftsFinal) = true := by kernel_rfl
end Go.Proofs.YtopbfgkfpgnalaaGreatDoor
