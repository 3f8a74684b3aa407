/-
  A closed fact of the program: mayEnter.
-/
import Derived.Test.YtfmcofphidnpdaaGreatDoorCards
import Derived.JoinedOf
import Derived.SevenTiedAt
namespace Go.Proofs.YtfmcofphidnpdaaGreatDoor
set_option linter.unusedVariables false
theorem fact_enter : Tryz.prog.mayEnter = true := by kernel_rfl
end Go.Proofs.YtfmcofphidnpdaaGreatDoor
