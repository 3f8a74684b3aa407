/-
  A closed fact of the program: mainIs.
-/
import Derived.Test.YtcophfhnhlaonaaDoorCards
import Derived.JoinedOf
import Derived.SevenTiedAt
namespace Go.Proofs.YtcophfhnhlaonaaDoor
set_option linter.unusedVariables false
theorem fact_main : Tryd.prog.mainIs = some (true, "a878df21018b3c309a325bbe25cf9a04193bda5822029e0cf5f0cc5b65800a1f".toList) := by kernel_rfl
end Go.Proofs.YtcophfhnhlaonaaDoor
