/-
  A closed fact of the program: mayEnter.
-/
import Derived.Test.YtcophfhnhlaonaaGreatDoorCards
import Derived.JoinedOf
import Derived.SevenTiedAt
namespace Go.Proofs.YtcophfhnhlaonaaGreatDoor
set_option linter.unusedVariables false
theorem fact_enter : Tryz.prog.mayEnter = true := by kernel_rfl
end Go.Proofs.YtcophfhnhlaonaaGreatDoor
