/-
  Eval and Table of package formula return what the reference asks for, or its errors: the law FormulaTables returns true at all formulas, lists of values and numbers, and its arguments read afterwards as before.
  Conditions: the listed variables read as the program's text lays them (tied), over a pruned copy of the project (PRUNED.txt of the seat).
-/
import Derived.Test.YtopbfgkfpgnalaaGreatDoorFormulaTablesOver
import Derived.Test.YtopbfgkfpgnalaaGreatDoorGfd
import Derived.Test.YtopbfgkfpgnalaaGreatDoorCards
import Derived.Test.YtopbfgkfpgnalaaGreatDoorTie
import Derived.LaidMore
import Derived.Lay
import Derived.LaidOnce
import Derived.MakeChecks
import Derived.Carry
import Derived.Stop.Joined
import Derived.SevenTiedAt
import Derived.WalkKit
import Derived.ProofKit
import Derived.OpenShut
import Derived.Lib.SmallJoins
import Derived.ChangeOld
import Derived.Below
namespace Go.Proofs.YtopbfgkfpgnalaaGreatDoor.formulaTables
open Go.ChangeShapes Go.WideShapes Go.ChangeAt Go.RowKit Go.Joins
set_option linter.unusedVariables false

theorem goes : false = Rows.formulaTablesRow.goesBy Tryz.prog := by kernel_rfl
theorem looks : true = Tryz.prog.looks [] := by kernel_rfl
theorem carded : Rows.FormulaTablesCardSaid :=
  Claim7.holds_tied_plain_at .later [] [.data, .data, .data, .data, .data, .sentinel, .sentinel, .pinned] true (true, "0f8579f8d7c7bae183210169cac5a5312ecbaf4bff30f4fd29c8d45fd16625c8") true
    over (fun _ h => by cases h) (by kernel_rfl) (fun _ h => by cases h) formulaTables_row_tie rfl ⟨rfl, rfl⟩ fact_main rfl
    (fun f fn hf hfn => by
      obtain rfl : f = 4 := Option.some.inj ((show Tryz.prog.funcNamed Rows.formulaTablesRow.func = some 4 from named).symm.trans hf) |>.symm
      obtain rfl : fn = Tryz.f4 := (Option.some.inj (Tryz.func4.symm.trans hfn)).symm
      exact ⟨looks, fun j t ht => by
        rw [Tryz.params4] at ht
        have ht2 : t = 24 ∨ t = 29 ∨ t = 3 := by
          rcases j with _ | _ | _ | j
          · exact .inl (by simpa using ht.symm)
          · exact .inr (.inl (by simpa using ht.symm))
          · exact .inr (.inr ((by simpa using ht.symm)))
          · simp at ht
        rcases ht2 with rfl | rfl | rfl
        · exact (show Tryz.prog.wantsStandIn 24 = false by kernel_rfl)
        · exact (show Tryz.prog.wantsStandIn 29 = false by kernel_rfl)
        · exact (show Tryz.prog.wantsStandIn 3 = false by kernel_rfl)⟩)
    goes
end Go.Proofs.YtopbfgkfpgnalaaGreatDoor.formulaTables
