/-
  Valid and Depth of package circuit return what the reference asks for: the law CircuitValid returns true at all circuits, and its argument reads afterwards as before.
  Conditions: the listed variables read as the program's text lays them (tied), over a pruned copy of the project (PRUNED.txt of the seat).
-/
import Derived.Test.YtcophfhnhlaonaaDoorCircuitValidOver
import Derived.Test.YtcophfhnhlaonaaDoorGfd
import Derived.Test.YtcophfhnhlaonaaDoorCards
import Derived.Test.YtcophfhnhlaonaaDoorTie
import Derived.LaidMore
import Derived.Lay
import Derived.LaidOnce
import Derived.MakeChecks
import Derived.Carry
import Derived.Stop.Joined
import Derived.SevenTiedAt
import Derived.WalkKit
import Derived.ProofKit
import Derived.OpenShut
import Derived.Lib.SmallJoins
import Derived.ChangeOld
import Derived.Below
namespace Go.Proofs.YtcophfhnhlaonaaDoor.circuitValid
open Go.ChangeShapes Go.WideShapes Go.ChangeAt Go.RowKit Go.Joins
set_option linter.unusedVariables false

theorem goes : false = Rows.circuitValidRow.goesBy Tryd.prog := by kernel_rfl
theorem looks : true = Tryd.prog.looks [] := by kernel_rfl
theorem carded : Rows.CircuitValidCardSaid :=
  Claim7.holds_tied_plain_at .later [] [.data, .data, .data, .data, .sentinel, .sentinel, .pinned] true (true, "a878df21018b3c309a325bbe25cf9a04193bda5822029e0cf5f0cc5b65800a1f") true
    over (fun _ h => by cases h) (by kernel_rfl) (fun _ h => by cases h) circuitValid_row_tie rfl ⟨rfl, rfl⟩ fact_main rfl
    (fun f fn hf hfn => by
      obtain rfl : f = 3 := Option.some.inj ((show Tryd.prog.funcNamed Rows.circuitValidRow.func = some 3 from named).symm.trans hf) |>.symm
      obtain rfl : fn = Tryd.f3 := (Option.some.inj (Tryd.func3.symm.trans hfn)).symm
      exact ⟨looks, fun j t ht => by
        rw [Tryd.params3] at ht
        have ht2 : t = 24 := by
          rcases j with _ | j
          · simpa using ht.symm
          · simp at ht
        subst ht2
        exact (show Tryd.prog.wantsStandIn 24 = false by kernel_rfl)⟩)
    goes
end Go.Proofs.YtcophfhnhlaonaaDoor.circuitValid
