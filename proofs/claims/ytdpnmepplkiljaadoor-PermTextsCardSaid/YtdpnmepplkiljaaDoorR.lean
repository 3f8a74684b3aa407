/-
  The law PermRanks returns true at all three integers, in every world, and leaves what lay as it lay.
-/
import Derived.Test.YtdpnmepplkiljaaDoorP
namespace Go.Proofs.YtdpnmepplkiljaaDoor
open Go.RowKit

theorem alive_h (w : World) : Hid (Calls Tryd.prog 6 #[] w fun e w' => e = .returned (.bool true) ∧ Below w.heap.size w w') := Lib.hid (alive_any w)

theorem unrank_good (n r : Nat) (w : World) (h1 : 1 ≤ n) (h7 : n ≤ 7) (hr : r < facN n) :
    Calls Tryd.prog 19 #[.int .i64 n, .int .i64 r] w fun e w' => ∃ g, e = .returned (.tuple #[.slice (some ⟨g, 0, none⟩) n n, .int .i64 0]) ∧ w.heap.size ≤ g ∧ Blk w' g (unrankN n r) ∧ Below w.heap.size w w' :=
  unrank_ok n r w h1 h7 hr (unrank_lt h1 h7 hr)

theorem rank_at (g n r : Nat) (w : World) (h1 : 1 ≤ n) (h7 : n ≤ 7) (hr : r < facN n) (hb : Blk w g (unrankN n r)) :
    Calls Tryd.prog 11 #[.slice (some ⟨g, 0, none⟩) n n] w fun e w' => e = .returned (.tuple #[.int .i64 (r : Nat), .int .i64 0]) ∧ Below w.heap.size w w' := by
  obtain ⟨hp, he, _⟩ := unrank_facts h1 h7 hr
  have := rank_ok g 0 n n (unrankN n r) w hp (unrankN_length n r) (Nat.le_refl _) hb.lt hb.rd
  rw [he] at this
  exact this

end Go.Proofs.YtdpnmepplkiljaaDoor
