/-
  A closed fact of the program: liftsFinal, as the rows say it.
-/
import Derived.Test.YtcophfhnhlaonaaDoorCards
import Derived.JoinedOf
import Derived.SevenTiedAt
namespace Go.Proofs.YtcophfhnhlaonaaDoor
set_option linter.unusedVariables false
theorem fact_lifts : (Rows.circuitValidRow.lifted == Tryd.prog.liftsFinal) = true := by kernel_rfl
end Go.Proofs.YtcophfhnhlaonaaDoor
