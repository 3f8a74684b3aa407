/-
  From the listed variables of a row of package formula's laws to what the walks take.
-/
import Derived.Test.YtcophfhnhlaonaaGreatDoorUk
import Derived.Test.YtcophfhnhlaonaaGreatDoorUl
import Derived.Lib.LaidU8
import Derived.LaidLaws
namespace Go.Proofs.YtcophfhnhlaonaaGreatDoor
open Go.RowKit Go.ChangeShapes Go.WideShapes Go.Deep
set_option linter.unusedVariables false

theorem errs_reads {W : World} (r1 : Lib.VarReads Tryz.prog W "strconv.ErrSyntax" Rows.laid_strconv_ErrSyntax) (r2 : Lib.VarReads Tryz.prog W "strconv.ErrRange" Rows.laid_strconv_ErrRange) : ErrsAt W := by
  obtain ⟨g, t, cs, fuel, p, hg, ht, hvar, hd⟩ := r1
  obtain ⟨g2, t2, cs2, fuel2, p2, hg2, ht2, hvar2, hd2⟩ := r2
  have eg : Tryz.prog.globalNamed "strconv.ErrSyntax" = some 0 := by kernel_rfl
  have et : (Tryz.prog.globals[0]?).map (·.type) = some 133 := by kernel_rfl
  have eg2 : Tryz.prog.globalNamed "strconv.ErrRange" = some 1 := by kernel_rfl
  have et2 : (Tryz.prog.globals[1]?).map (·.type) = some 133 := by kernel_rfl
  obtain rfl := Option.some.inj (eg.symm.trans hg)
  obtain rfl := Option.some.inj (et.symm.trans ht)
  obtain rfl := Option.some.inj (eg2.symm.trans hg2)
  obtain rfl := Option.some.inj (et2.symm.trans ht2)
  obtain ⟨_, u, v, hcs, _, _⟩ := iface_of_trod Tryz.underlying133 hd
  obtain ⟨_, u2, v2, hcs2, _, _⟩ := iface_of_trod Tryz.underlying133 hd2
  have hc := World.var?_cell hg hvar 0
  have hc2 := World.var?_cell hg2 hvar2 0
  rw [← Array.getElem?_toList, hcs] at hc
  rw [← Array.getElem?_toList, hcs2] at hc2
  exact ⟨⟨_, hc, .inr ⟨_, _, rfl⟩⟩, _, hc2, .inr ⟨_, _, rfl⟩⟩
end Go.Proofs.YtcophfhnhlaonaaGreatDoor
