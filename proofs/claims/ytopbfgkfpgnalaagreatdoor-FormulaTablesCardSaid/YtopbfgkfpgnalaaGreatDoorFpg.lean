/-
  countPairs of one block of two terms and one; the states of a product.
-/
import Derived.Test.YtopbfgkfpgnalaaGreatDoorFpd
import Derived.LoopN
namespace Go.Proofs.YtopbfgkfpgnalaaGreatDoor
set_option linter.unusedVariables false
open Go.RowKit Go.Maps

set_option maxRecDepth 100000 in
set_option maxHeartbeats 4000000 in
theorem countPairs_ok (gb gp gq : Nat) (w : World) (c0 : w.cell? ⟨gb, 0, none⟩ = some (.slice (some ⟨gp, 0, none⟩) 2 2)) (c1 : w.cell? ⟨gb, 1, none⟩ = some (.slice (some ⟨gq, 0, none⟩) 1 1)) :
    Calls Tryz.prog 225 #[.slice (some ⟨gb, 0, none⟩) 1 1] w fun e w' => e = .returned (.int .i64 2) ∧ Below w.heap.size w w' := by
  obtain ⟨w1, hw1⟩ : ∃ w1, w1 = w.alloc (.cells #[.slice (some ⟨gp, 0, none⟩) 2 2, .slice (some ⟨gq, 0, none⟩) 1 1] 252) := ⟨_, rfl⟩
  have hb : Below w.heap.size w w1 := by rw [hw1]; exact below1 _ _
  have hg : w1.heap[w.heap.size]? = some (.cells #[.slice (some ⟨gp, 0, none⟩) 2 2, .slice (some ⟨gq, 0, none⟩) 1 1] 252 (0, 0)) := by rw [hw1]; exact alloc_at _ _ _ rfl
  obtain ⟨d0, -⟩ := pk_cells hg 0 rfl
  obtain ⟨d1, -⟩ := pk_cells hg 1 rfl
  have HW := Lib.hid hw1
  have HB := Lib.hid hb
  clear hb hg hw1
  go_enter Tryz.func225, Tryz.ntmps225
  go_wp2_with fail
  refine wp_loop_rounds 2 ?_
  rw [rounds_succ]
  go_upto_region 5 with fail
  rw [← HW.out]
  go_wp2_with fail
  rw [rounds_succ]
  go_wp2_with fail
  go_ret
  exact ⟨rfl, HB.out⟩
end Go.Proofs.YtopbfgkfpgnalaaGreatDoor
