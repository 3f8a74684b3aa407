/-
  A closed fact of the program: mayEnter.
-/
import Derived.Test.YtopbfgkfpgnalaaGreatDoorCards
import Derived.JoinedOf
import Derived.SevenTiedAt
namespace Go.Proofs.YtopbfgkfpgnalaaGreatDoor
set_option linter.unusedVariables false
theorem fact_enter : Tryz.prog.mayEnter = true := by kernel_rfl
end Go.Proofs.YtopbfgkfpgnalaaGreatDoor
