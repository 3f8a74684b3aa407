/-
  Contracts of Mul, Inverse and Commutator of the reference at valid permutations, and of is.
-/
import Derived.Test.YtdpnmepplkiljaaDoorS
namespace Go.Proofs.YtdpnmepplkiljaaDoor
open Go.RowKit

/-! ### is -/
theorem is_ok (v v' : Value) (l l' : List Int) (w : World) (h : SlI w v l) (h' : SlI w v' l') (he : l = l') :
    Calls Tryd.prog 13 #[v, .int .i64 0, v', .int .i64 0] w fun e w' => e = .returned (.bool true) ∧ ∃ q, w' = w.drewN q := by
  have hs := same_yes v v' l l' w h h' he
  have HS := Lib.hid hs
  clear hs
  go_enter Tryd.func13, Tryd.ntmps13
  go_wp2_with fail
  refine HS.out.mono ?_
  rintro e w1 ⟨rfl, q, rfl⟩
  go_wp2_with fail
  go_ret
  exact ⟨rfl, _, rfl⟩

theorem is_bad (v' : Value) (c : Int) (w : World) (hc : (c != 0) = true) (_hc : (c == 0) = false) :
    Calls Tryd.prog 13 #[.slice none 0 0, .int .i64 c, v', .int .i64 c] w fun e w' => e = .returned (.bool true) ∧ w' = w := by
  have he : (c == c) = true := beq_self_eq_true _
  go_enter Tryd.func13, Tryd.ntmps13
  go_wp2
  go_ret
  exact ⟨rfl, rfl⟩
end Go.Proofs.YtdpnmepplkiljaaDoor
