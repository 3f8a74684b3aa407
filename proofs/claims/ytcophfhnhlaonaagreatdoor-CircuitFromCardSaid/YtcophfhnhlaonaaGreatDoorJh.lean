/-
  Joined from Cip, Ciw: see there.
-/
import Derived.Test.YtcophfhnhlaonaaGreatDoorJb
import Derived.Test.YtcophfhnhlaonaaGreatDoorRg
import Derived.Test.YtcophfhnhlaonaaGreatDoorJg
namespace Go.Proofs.YtcophfhnhlaonaaGreatDoor
set_option linter.unusedVariables false
open Go.RowKit

theorem rdC_one {W : World} {g : Nat} {inp : Int} {A : Option Addr} {c : Nat} {gs : List Gat} {T : TypeId} (h : W.heap[g]? = some (.cells #[.int .i64 inp, .slice A gs.length c] T (0, 0))) (hr : RdG W A gs) (hl : gs.length ≤ 1152921504606846976) : RdC W (some ⟨g, 0, none⟩) [gs] := fun i x hi => by
  match i, hi with
  | 0, hi =>
    simp at hi
    subst hi
    exact ⟨g, 0, A, c, rfl, (blk2_cells h).1.2, hr, hl⟩
  | i + 1, hi => simp at hi

end Go.Proofs.YtcophfhnhlaonaaGreatDoor
namespace Go.Proofs.YtcophfhnhlaonaaGreatDoor
set_option linter.unusedVariables false
open Go.RowKit

end Go.Proofs.YtcophfhnhlaonaaGreatDoor
