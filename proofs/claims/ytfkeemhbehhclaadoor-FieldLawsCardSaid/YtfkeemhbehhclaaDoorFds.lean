/-
  From a row's condition on the listed variables to what the contracts ask of the world: the table of the moduli and the list of the small primes.
-/
import Derived.Test.YtfkeemhbehhclaaDoorFdr
import Derived.LaidMore
import Derived.MakeChecks
import Derived.Lib.LaidTab
namespace Go.Proofs.YtfkeemhbehhclaaDoor
open Go.RowKit

theorem sp_datum : (Rows.laid_commodatum_field_smallPrimes : DataW Unit) = .slice (smallP.map fun (n : Nat) => .lit (.int .u32 (n : Int))) [] := by rfl
theorem mt_datum : (Rows.laid_commodatum_field_moduli : DataW Unit) = Lib.tabData .i64 (modT.map fun (n : Nat) => (n : Int)) := by rfl

theorem lays_of {W : World} (h : laidMetH Tryd.prog [("commodatum/field.smallPrimes", Rows.laid_commodatum_field_smallPrimes), ("commodatum/field.moduli", Rows.laid_commodatum_field_moduli)] W) : Lays W := by
  rw [MakeChecks.laidMetH_plain _ _ _ (by kernel_rfl)] at h
  obtain ⟨ps, ⟨g, t, cs, fuel, p, q, hg, ht, hvar, hd, ⟨g2, t2, cs2, fuel2, p2, q2, hg2, ht2, hvar2, hd2, _⟩, _⟩, _⟩ := h
  have eg : Tryd.prog.globalNamed "commodatum/field.smallPrimes" = some 1 := by kernel_rfl
  have et : (Tryd.prog.globals[1]?).map (·.type) = some 57 := by kernel_rfl
  have eg2 : Tryd.prog.globalNamed "commodatum/field.moduli" = some 0 := by kernel_rfl
  have et2 : (Tryd.prog.globals[0]?).map (·.type) = some 56 := by kernel_rfl
  obtain rfl := Option.some.inj (eg.symm.trans hg)
  obtain rfl := Option.some.inj (et.symm.trans ht)
  obtain rfl := Option.some.inj (eg2.symm.trans hg2)
  obtain rfl := Option.some.inj (et2.symm.trans ht2)
  refine ⟨fun i hi => ?_, ?_⟩
  · rw [mt_datum] at hd2
    have hcs := Lib.cells_of_tab Tryd.underlying56 Tryd.underlying3 (by kernel_rfl) (by kernel_rfl) hd2
    have hc := World.var?_cell hg2 hvar2 i
    rw [hc, ← Array.getElem?_toList, hcs]
    have hl : i < modT.length := hi
    simp [modN, hl]
  · rw [sp_datum] at hd
    obtain ⟨a, cap, hcs, hcap, hel⟩ := open_row Tryd.underlying57 (by kernel_rfl) hd
    have hlen : (smallP.map fun (n : Nat) => (DataW.lit (.int .u32 (n : Int)) : DataW Unit)).length = 54 := by simp; rfl
    rw [hlen] at hcs hcap
    refine ⟨a, cap, hcap, ?_, fun i hi => ?_⟩
    · have hc := World.var?_cell hg hvar 0
      rw [hc, ← Array.getElem?_toList, hcs]
      rfl
    · have hl : i < smallP.length := hi
      obtain ⟨v, n, q', hc, hr⟩ := hel i (.lit (.int .u32 ((smallP[i]'hl : Nat) : Int))) (by simp [hl])
      obtain ⟨z, hz, hx, _⟩ := DataW.trod_int Tryd.underlying58 hr
      simp at hz hx
      rw [hc, hz, ← hx.1]
      simp [hl]
end Go.Proofs.YtfkeemhbehhclaaDoor
