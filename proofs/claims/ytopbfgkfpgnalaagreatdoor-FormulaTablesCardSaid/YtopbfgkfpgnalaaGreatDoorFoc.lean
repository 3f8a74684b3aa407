/-
  From the listed variables of a row of package formula's laws to what the walks take.
-/
import Derived.Test.YtopbfgkfpgnalaaGreatDoorUk
import Derived.Test.YtopbfgkfpgnalaaGreatDoorUl
import Derived.Lib.LaidU8
import Derived.LaidLaws
namespace Go.Proofs.YtopbfgkfpgnalaaGreatDoor
open Go.RowKit Go.ChangeShapes Go.WideShapes Go.Deep
set_option linter.unusedVariables false

theorem layp_reads {W : World} (r1 : Lib.VarReads Tryz.prog W "commodatum/field.smallPrimes" Rows.laid_commodatum_field_smallPrimes) (r2 : Lib.VarReads Tryz.prog W "math/bits.deBruijn64tab" Rows.laid_math_bits_deBruijn64tab) (r3 : Lib.VarReads Tryz.prog W "internal/strconv.uint64pow10" Rows.laid_internal_strconv_uint64pow10) : LayP W := by
  obtain ⟨g, t, cs, fuel, p, hg, ht, hvar, hd⟩ := r1
  obtain ⟨g2, t2, cs2, fuel2, p2, hg2, ht2, hvar2, hd2⟩ := r2
  obtain ⟨g3, t3, cs3, fuel3, p3, hg3, ht3, hvar3, hd3⟩ := r3
  have eg : Tryz.prog.globalNamed "commodatum/field.smallPrimes" = some 0 := by kernel_rfl
  have et : (Tryz.prog.globals[0]?).map (·.type) = some 215 := by kernel_rfl
  have eg2 : Tryz.prog.globalNamed "math/bits.deBruijn64tab" = some 5 := by kernel_rfl
  have et2 : (Tryz.prog.globals[5]?).map (·.type) = some 322 := by kernel_rfl
  have eg3 : Tryz.prog.globalNamed "internal/strconv.uint64pow10" = some 1 := by kernel_rfl
  have et3 : (Tryz.prog.globals[1]?).map (·.type) = some 285 := by kernel_rfl
  obtain rfl := Option.some.inj (eg.symm.trans hg)
  obtain rfl := Option.some.inj (et.symm.trans ht)
  obtain rfl := Option.some.inj (eg2.symm.trans hg2)
  obtain rfl := Option.some.inj (et2.symm.trans ht2)
  obtain rfl := Option.some.inj (eg3.symm.trans hg3)
  obtain rfl := Option.some.inj (et3.symm.trans ht3)
  refine ⟨⟨trivial, ?_⟩, fun i hi => ?_, ?_⟩
  · rw [sp_datumP] at hd
    obtain ⟨a, cap, hcs, hcap, hel⟩ := open_row Tryz.underlying215 (by kernel_rfl) hd
    have hlen : (smallP.map fun (n : Nat) => (DataW.lit (.int .u32 (n : Int)) : DataW Unit)).length = 54 := by simp; rfl
    rw [hlen] at hcs hcap
    refine ⟨a, cap, hcap, ?_, fun i hi => ?_⟩
    · have hc := World.var?_cell hg hvar 0
      rw [hc, ← Array.getElem?_toList, hcs]
      rfl
    · have hl : i < smallP.length := hi
      obtain ⟨v, n, q', hc, hr⟩ := hel i (.lit (.int .u32 ((smallP[i]'hl : Nat) : Int))) (by simp [hl])
      obtain ⟨z, hz, hx, _⟩ := DataW.trod_int Tryz.underlying216 hr
      simp at hz hx
      rw [hc, hz, ← hx.1]
      simp [hl]
  · rw [db_datum] at hd2
    have hcs := Lib.cells_of_tab Tryz.underlying322 Tryz.underlying5 (by kernel_rfl) (by kernel_rfl) hd2
    have hc := World.var?_cell hg2 hvar2 i
    rw [hc, ← Array.getElem?_toList, hcs]
    simp [List.getD, hi]
  · rw [pw_datum] at hd3
    have hcs := Lib.cells_of_tab Tryz.underlying285 Tryz.underlying121 (by kernel_rfl) (by kernel_rfl) hd3
    unfold Lib.TabIs
    rw [hvar3, ← hcs]

theorem errs_reads {W : World} (r1 : Lib.VarReads Tryz.prog W "strconv.ErrSyntax" Rows.laid_strconv_ErrSyntax) (r2 : Lib.VarReads Tryz.prog W "strconv.ErrRange" Rows.laid_strconv_ErrRange) : ErrsAt W := by
  obtain ⟨g, t, cs, fuel, p, hg, ht, hvar, hd⟩ := r1
  obtain ⟨g2, t2, cs2, fuel2, p2, hg2, ht2, hvar2, hd2⟩ := r2
  have eg : Tryz.prog.globalNamed "strconv.ErrSyntax" = some 2 := by kernel_rfl
  have et : (Tryz.prog.globals[2]?).map (·.type) = some 227 := by kernel_rfl
  have eg2 : Tryz.prog.globalNamed "strconv.ErrRange" = some 3 := by kernel_rfl
  have et2 : (Tryz.prog.globals[3]?).map (·.type) = some 227 := by kernel_rfl
  obtain rfl := Option.some.inj (eg.symm.trans hg)
  obtain rfl := Option.some.inj (et.symm.trans ht)
  obtain rfl := Option.some.inj (eg2.symm.trans hg2)
  obtain rfl := Option.some.inj (et2.symm.trans ht2)
  obtain ⟨_, u, v, hcs, _, _⟩ := iface_of_trod Tryz.underlying227 hd
  obtain ⟨_, u2, v2, hcs2, _, _⟩ := iface_of_trod Tryz.underlying227 hd2
  have hc := World.var?_cell hg hvar 0
  have hc2 := World.var?_cell hg2 hvar2 0
  rw [← Array.getElem?_toList, hcs] at hc
  rw [← Array.getElem?_toList, hcs2] at hc2
  exact ⟨⟨_, hc, .inr ⟨_, _, rfl⟩⟩, _, hc2, .inr ⟨_, _, rfl⟩⟩
end Go.Proofs.YtopbfgkfpgnalaaGreatDoor
