/-
  A closed fact of the program: mayEnter.
-/
import Derived.Test.YtcophfhnhlaonaaDoorCards
import Derived.JoinedOf
import Derived.SevenTiedAt
namespace Go.Proofs.YtcophfhnhlaonaaDoor
set_option linter.unusedVariables false
theorem fact_enter : Tryd.prog.mayEnter = true := by kernel_rfl
end Go.Proofs.YtcophfhnhlaonaaDoor
