/-
  A closed fact of the program: mainIs.
-/
import Derived.Test.YtopbfgkfpgnalaaGreatDoorCards
import Derived.JoinedOf
import Derived.SevenTiedAt
namespace Go.Proofs.YtopbfgkfpgnalaaGreatDoor
set_option linter.unusedVariables false
theorem fact_main : Tryz.prog.mainIs = some (true, "0f8579f8d7c7bae183210169cac5a5312ecbaf4bff30f4fd29c8d45fd16625c8".toList) := by kernel_rfl
end Go.Proofs.YtopbfgkfpgnalaaGreatDoor
