/-
  Eval and Table of package circuit return what the reference asks for, or its errors: the law CircuitEvals returns true at all circuits and lists of values, and its arguments read afterwards as before.
  Conditions: the listed variables read as the program's text lays them (tied), over a pruned copy of the project (PRUNED.txt of the seat).
-/
import Derived.Test.YtcophfhnhlaonaaDoorCircuitEvalsOver
import Derived.Test.YtcophfhnhlaonaaDoorGfd
import Derived.Test.YtcophfhnhlaonaaDoorCards
import Derived.Test.YtcophfhnhlaonaaDoorTie
import Derived.LaidMore
import Derived.Lay
import Derived.LaidOnce
import Derived.MakeChecks
import Derived.Carry
import Derived.Stop.Joined
import Derived.SevenTiedAt
import Derived.WalkKit
import Derived.ProofKit
import Derived.OpenShut
import Derived.Lib.SmallJoins
import Derived.ChangeOld
import Derived.Below
namespace Go.Proofs.YtcophfhnhlaonaaDoor.circuitEvals
open Go.ChangeShapes Go.WideShapes Go.ChangeAt Go.RowKit Go.Joins
set_option linter.unusedVariables false

theorem goes : false = Rows.circuitEvalsRow.goesBy Tryd.prog := by kernel_rfl
theorem looks : true = Tryd.prog.looks [] := by kernel_rfl
theorem carded : Rows.CircuitEvalsCardSaid :=
  Claim7.holds_tied_plain_at .later [] [.data, .data, .data, .data, .sentinel, .sentinel, .pinned] true (true, "a878df21018b3c309a325bbe25cf9a04193bda5822029e0cf5f0cc5b65800a1f") true
    over (fun _ h => by cases h) (by kernel_rfl) (fun _ h => by cases h) circuitEvals_row_tie rfl ⟨rfl, rfl⟩ fact_main rfl
    (fun f fn hf hfn => by
      obtain rfl : f = 4 := Option.some.inj ((show Tryd.prog.funcNamed Rows.circuitEvalsRow.func = some 4 from named).symm.trans hf) |>.symm
      obtain rfl : fn = Tryd.f4 := (Option.some.inj (Tryd.func4.symm.trans hfn)).symm
      exact ⟨looks, fun j t ht => by
        rw [Tryd.params4] at ht
        have ht2 : t = 24 ∨ t = 29 := by
          rcases j with _ | _ | j
          · exact .inl (by simpa using ht.symm)
          · exact .inr ((by simpa using ht.symm))
          · simp at ht
        rcases ht2 with rfl | rfl
        · exact (show Tryd.prog.wantsStandIn 24 = false by kernel_rfl)
        · exact (show Tryd.prog.wantsStandIn 29 = false by kernel_rfl)⟩)
    goes
end Go.Proofs.YtcophfhnhlaonaaDoor.circuitEvals
