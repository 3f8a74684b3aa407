/-
  A closed fact of the program: make, as the rows say it.
-/
import Derived.Test.YtopbfgkfpgnalaaGreatDoorCards
import Derived.JoinedOf
import Derived.SevenTiedAt
namespace Go.Proofs.YtopbfgkfpgnalaaGreatDoor
set_option linter.unusedVariables false
theorem fact_make : (Tryz.prog.make == some Rows.formulaValidRow.make) = true := by kernel_rfl
end Go.Proofs.YtopbfgkfpgnalaaGreatDoor
