/-
  The law PermPowers returns true at every slice of integers and every exponent, in every world, and leaves what lay as it lay.
-/
import Derived.Test.YtdpnmepplkiljaaDoorZg
import Derived.Test.YtdpnmepplkiljaaDoorZd
namespace Go.Proofs.YtdpnmepplkiljaaDoor
open Go.RowKit Go.Shelf

theorem rds_one (w : World) (x : SlV) : RdS (w.alloc (.cells #[x.val] 23)) w.heap.size 0 [x] := fun j hj => by
  rw [cell_of_row _ w.heap.size (0 + j) #[x.val] 23 (0, 0) (World.alloc_heap_new w _)]
  match j, hj with
  | 0, _ => rfl

theorem short_one (a : Option Addr) (n cap : Nat) (w : World) (r : Bool) (hr : r = decide (n ≤ 100)) :
    Calls Tryd.prog 5 #[.slice (some ⟨w.heap.size, 0, none⟩) 1 1] (w.alloc (.cells #[.slice a n cap] 23)) fun e w' => e = .returned (.bool r) ∧ w.alloc (.cells #[.slice a n cap] 23) = w' := by
  refine (short_any w.heap.size 0 1 1 [⟨a, n, cap⟩] _ (by omega) rfl (rds_one w ⟨a, n, cap⟩)).mono fun e w' ⟨he, hw⟩ => ⟨he.trans (ret_bool ?_), hw⟩
  rw [hr, Bool.eq_iff_iff, decide_eq_true_eq, decide_eq_true_eq]
  constructor
  · exact fun h => h 0 (by omega)
  · intro h j hj
    match j, hj with
    | 0, _ => exact h

end Go.Proofs.YtdpnmepplkiljaaDoor
