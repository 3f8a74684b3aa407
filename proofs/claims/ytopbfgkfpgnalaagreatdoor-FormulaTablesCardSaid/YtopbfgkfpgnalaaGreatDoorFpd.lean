/-
  clear of a map of the call's own; the products of a term and one term.
-/
import Derived.Test.YtopbfgkfpgnalaaGreatDoorFpc
import Derived.MapKept
namespace Go.Proofs.YtopbfgkfpgnalaaGreatDoor
set_option linter.unusedVariables false
open Go.RowKit Go.Maps

theorem clear_own {w : World} {mb cnt : Nat} {D : DataW Unit} (hm : w.ownsMap Tryz.prog 9 (plainElem Tryz.prog 121) mb cnt D) (ty : TypeId) :
    ∃ v w', (Builtin.clear_ #[232] ty #[.map (some mb)]).run Tryz.prog w = .ok v w' ∧ w'.ownsMap Tryz.prog 9 (plainElem (H := Unit) Tryz.prog 121) mb 0 (.map []) ∧ w.grownBy w' (some mb) := by
  obtain ⟨es, clock, hb, hF, hs, hD⟩ := hm
  have hu := Tryz.underlying232
  have hlt : mb < w.heap.size := (Array.getElem?_eq_some_iff.1 hb).1
  refine ⟨.tuple #[], { w with heap := w.heap.setIfInBounds mb (.map #[] clock) }, ?_, ?_, ?_⟩
  · simp [Builtin.clear_, run_underlying hu, MapKept.run_getObj_map hb, MapKept.run_setObj_map _ hb, Result.andThen]
  · exact ⟨#[], clock, (MapKept.heap_set hb).1, ⟨by simp, MapKept.stamped_empty _, by simp⟩, Nat.zero_le _, rfl⟩
  · refine ⟨rfl, rfl, rfl, ?_, fun k hk hne => ?_⟩
    · simp
    · show (w.heap.setIfInBounds mb (.map #[] clock))[k]? = w.heap[k]?
      rw [Array.getElem?_setIfInBounds_ne (fun e => hne (by rw [e]))]
end Go.Proofs.YtopbfgkfpgnalaaGreatDoor
