/-
  From the listed variables of a row of package circuit's laws to what the walks take.
-/
import Derived.Test.YtcophfhnhlaonaaDoorCio
import Derived.Test.YtcophfhnhlaonaaDoorFoc
import Derived.Test.YtcophfhnhlaonaaDoorCiq
namespace Go.Proofs.YtcophfhnhlaonaaDoor
open Go.RowKit Go.ChangeShapes Go.WideShapes Go.Deep
set_option linter.unusedVariables false
theorem pow_reads {W : World} (r3 : Lib.VarReads Tryd.prog W "internal/strconv.uint64pow10" Rows.laid_internal_strconv_uint64pow10) : Lib.TabIs Tryd.prog W "internal/strconv.uint64pow10" .u64 Lib.pow10Tab := by
  obtain ⟨g3, t3, cs3, fuel3, p3, hg3, ht3, hvar3, hd3⟩ := r3
  have eg3 : Tryd.prog.globalNamed "internal/strconv.uint64pow10" = some 4 := by kernel_rfl
  have et3 : (Tryd.prog.globals[4]?).map (·.type) = some 170 := by kernel_rfl
  obtain rfl := Option.some.inj (eg3.symm.trans hg3)
  obtain rfl := Option.some.inj (et3.symm.trans ht3)
  rw [pw_datum] at hd3
  have hcs := Lib.cells_of_tab Tryd.underlying170 Tryd.underlying66 (by kernel_rfl) (by kernel_rfl) hd3
  unfold Lib.TabIs
  rw [hvar3, ← hcs]
theorem LayC.below {w w' : World} (h : LayC w) (hB : Below w.heap.size w w') : LayC w' := ⟨Lib.tabBelow_of_tabIs h.pow w' hB, h.errs.below hB⟩
end Go.Proofs.YtcophfhnhlaonaaDoor
