/-
  A closed fact of the program: make, as the rows say it.
-/
import Derived.Test.YtcophfhnhlaonaaDoorCards
import Derived.JoinedOf
import Derived.SevenTiedAt
namespace Go.Proofs.YtcophfhnhlaonaaDoor
set_option linter.unusedVariables false
theorem fact_make : (Tryd.prog.make == some Rows.circuitValidRow.make) = true := by kernel_rfl
end Go.Proofs.YtcophfhnhlaonaaDoor
