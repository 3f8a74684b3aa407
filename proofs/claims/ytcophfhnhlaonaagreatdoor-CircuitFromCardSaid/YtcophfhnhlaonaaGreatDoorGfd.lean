/-
  A closed fact of the program: mainIs.
-/
import Derived.Test.YtcophfhnhlaonaaGreatDoorCards
import Derived.JoinedOf
import Derived.SevenTiedAt
namespace Go.Proofs.YtcophfhnhlaonaaGreatDoor
set_option linter.unusedVariables false
theorem fact_main : Tryz.prog.mainIs = some (true, "6233371845a0950d8fb15a4d7107acd59e82940163642e10f65c9fa65991c909".toList) := by kernel_rfl
end Go.Proofs.YtcophfhnhlaonaaGreatDoor
