/-
  Joined from Fne: see there.
-/
import Derived.Test.YtcophfhnhlaonaaGreatDoorUw
import Derived.Test.YtcophfhnhlaonaaGreatDoorRg
namespace Go.Proofs.YtcophfhnhlaonaaGreatDoor
set_option linter.unusedVariables false
open Go.RowKit

/-- The state of a law of one formula behind its first step: the formula's box. -/
structure BoxF (w : World) (k n : Int) (A : Option Addr) (len c : Nat) (W : World) : Prop where
  bel : Below w.heap.size w W
  box : W.heap[w.heap.size]? = some (.cells #[.int .i64 k, .int .i64 n, .slice A len c] 24 (0, 0))
theorem BoxF.step {w W W' : World} {k n : Int} {A : Option Addr} {len c : Nat} (h : BoxF w k n A len c W) (hB : Below W.heap.size W W') : BoxF w k n A len c W' :=
  ⟨h.bel.trans (hB.mono h.bel.size), (hB.block _ (Array.getElem?_eq_some_iff.1 h.box).1).trans h.box⟩
theorem BoxF.start (w : World) (k n : Int) (A : Option Addr) (len c : Nat) : BoxF w k n A len c (w.alloc (.cells #[.int .i64 k, .int .i64 n, .slice A len c] 24)) :=
  ⟨below1 _ _, alloc_at _ _ _ rfl⟩
theorem BoxF.cells {w W : World} {k n : Int} {A : Option Addr} {len c : Nat} (h : BoxF w k n A len c W) : W.cell? ⟨w.heap.size, 0, none⟩ = some (.int .i64 k) ∧ W.cell? ⟨w.heap.size, 1, none⟩ = some (.int .i64 n) ∧ W.cell? ⟨w.heap.size, 2, none⟩ = some (.slice A len c) := (blk3_cells h.box).1
theorem BoxF.drew {w W : World} {k n : Int} {A : Option Addr} {len c : Nat} (h : BoxF w k n A len c W) : BoxF w k n A len c W.drew := h.step (Below.refl _ W).drew
theorem wL_one (L : Nat) (t : Tre) : wL L [t] 0 = wN L t 0 := by
  rw [wL, if_pos (Nat.zero_le _), wL]
theorem rowV_one {W : World} {g : Nat} {t : Tre} {x y z : Value} {T : TypeId} (h : W.heap[g]? = some (.cells #[x, y, z] T (0, 0))) (hT : TreV 0 W t (.agg #[x, y, z])) : RowV 0 W [t] (some ⟨g, 0, none⟩) 0 := by
  obtain ⟨⟨v0, v1, v2⟩, _⟩ := blk3_cells h
  unfold RowV
  refine ⟨⟨g, 0, x, y, z, rfl, Nat.zero_le _, by simpa using v0, by simpa using v1, by simpa using v2, hT⟩, by unfold RowV; trivial⟩

end Go.Proofs.YtcophfhnhlaonaaGreatDoor
