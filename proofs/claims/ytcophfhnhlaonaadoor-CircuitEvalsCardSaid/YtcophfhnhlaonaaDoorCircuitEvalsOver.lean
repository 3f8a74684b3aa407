/-
  Eval and Table of package circuit return what the reference asks for, or its errors: the law CircuitEvals returns true at all circuits and lists of values, and its arguments read afterwards as before.
  Conditions: the listed variables read as the program's text lays them (tied), over a pruned copy of the project (PRUNED.txt of the seat).
-/
import Derived.Test.YtcophfhnhlaonaaDoorCircuitEvalsLifted
import Derived.Test.YtcophfhnhlaonaaDoorGfa
import Derived.Test.YtcophfhnhlaonaaDoorGfb
import Derived.Test.YtcophfhnhlaonaaDoorGfc
import Derived.JoinedOf
import Derived.LaidMore
import Derived.Lay
import Derived.LaidOnce
import Derived.MakeChecks
import Derived.Carry
import Derived.Stop.Joined
import Derived.SevenTiedAt
import Derived.WalkKit
import Derived.ProofKit
import Derived.OpenShut
import Derived.Lib.SmallJoins
import Derived.ChangeOld
import Derived.Below
namespace Go.Proofs.YtcophfhnhlaonaaDoor.circuitEvals
open Go.ChangeShapes Go.WideShapes Go.ChangeAt Go.RowKit Go.Joins
set_option linter.unusedVariables false

theorem ai {a b : Bool} (ha : a = true) (hb : b = true) : (a && b) = true := by rw [ha, hb]; rfl
theorem k1 : laidOutB Tryd.prog = true := by kernel_rfl
theorem k2 : mapsRowed Tryd.prog = true := by kernel_rfl
theorem k9 : (Rows.circuitEvalsRow.inPlace == Tryd.prog.inPlace 4) = true := by kernel_rfl
theorem k10 : (Rows.circuitEvalsRow.unfollowed == Tryd.prog.unfollowed 4) = true := by kernel_rfl
theorem k11 : (Rows.circuitEvalsRow.recurses == Tryd.prog.recurses 4) = true := by kernel_rfl
theorem k12 : (Rows.circuitEvalsRow.named == Tryd.prog.varsNamed 4) = true := by kernel_rfl
theorem k22 : (Rows.circuitEvalsRow.plainKeys == Tryd.prog.plainKeys) = true := by kernel_rfl
theorem k24 : Tryd.prog.stopsHeard = true := by kernel_rfl
theorem jf : joinedFacts Tryd.prog 4 Tryd.f4 Rows.circuitEvalsSpec Rows.circuitEvalsRow = true :=
  (ai (ai (ai (ai (ai (ai (ai (ai (ai (ai (ai (ai (ai (ai (ai (ai (ai (ai (ai (ai (ai (ai (ai (ai (ai (ai (ai (ai (ai (ai (ai (by kernel_rfl) k1) k2) (by kernel_rfl)) (by kernel_rfl)) (by kernel_rfl)) (by kernel_rfl)) (by kernel_rfl)) (by kernel_rfl)) k9) k10) k11) k12) (by kernel_rfl)) (by kernel_rfl)) (by kernel_rfl)) (by kernel_rfl)) (by kernel_rfl)) (by kernel_rfl)) (by kernel_rfl)) (by kernel_rfl)) (by kernel_rfl)) k22) (by kernel_rfl)) k24) fact_enter) fact_lifts) fact_make) (by kernel_rfl)) (by kernel_rfl)) (by kernel_rfl)) (by kernel_rfl))
theorem named : Tryd.prog.funcNamed Rows.circuitEvalsRow.func = some 4 := by kernel_rfl
theorem over : Rows.circuitEvalsRow.holds Tryd.pinned (OpenSpec.ofChange Rows.circuitEvalsSpec) :=
  OpenClaim.holds_of_wide 4 Tryd.f4 rfl rfl rfl rfl rfl rfl rfl ⟨rfl, rfl, rfl, rfl, rfl⟩ rfl rfl rfl rfl rfl named Tryd.func4 jf
    (of_decide_eq_true (by kernel_rfl)) (by unfold Func.isWrapper; first | (rw [if_pos (by decide +kernel)]; kernel_rfl) | (rw [if_neg (by decide +kernel)]; exact ⟨rfl, rfl⟩))
    (fun os started H enc _ => lifted os started H enc)
end Go.Proofs.YtcophfhnhlaonaaDoor.circuitEvals
