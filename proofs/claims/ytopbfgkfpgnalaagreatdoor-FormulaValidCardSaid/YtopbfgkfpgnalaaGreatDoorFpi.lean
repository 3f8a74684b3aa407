/-
  product.add at the one block of two terms and one.
-/
import Derived.Test.YtopbfgkfpgnalaaGreatDoorFph
namespace Go.Proofs.YtopbfgkfpgnalaaGreatDoor
set_option linter.unusedVariables false
open Go.RowKit Go.Maps

set_option maxRecDepth 100000 in
set_option maxHeartbeats 4000000 in
theorem productAdd_ok (w0 w : World) (hB0 : Below w0.heap.size w0 w) (gm gb gp gq h0 h1 hu sb mb cnt : Nat) (hgm : w0.heap.size ≤ gm) (D : DataW Unit) (hS : SumAt w0.heap.size sb mb 2 1 2 2 cnt D w) (hcnt : cnt ≤ 100) (hP : PkA gm gb gp gq h0 h1 hu sb w) :
    Calls Tryz.prog 198 #[.pointer (some ⟨gm, 0, none⟩), .slice (some ⟨gb, 0, none⟩) 1 1, .int .i64 0] w fun r w' => r = .returned (.bool true) ∧ (∃ A c, w'.heap[gm]? = some (.cells #[.pointer (some ⟨sb, 0, none⟩), .slice A 2 c] 247 (0, 0)) ∧ RdP w' A (tms po1)) ∧ Below w0.heap.size w w' := by
  have HC := Lib.hid (countPairs_ok gb gp gq w (pk_cells hP.b 0 rfl).1 (pk_cells hP.b 1 rfl).1)
  have HT := Lib.hid (fun W (hW : Below w.heap.size w W) => addTogether_ok w0 W (hB0.trans (hW.mono hB0.size)) gm gb gp gq h0 h1 hu sb mb cnt hgm D (hS.below hW) hcnt (hP.below hW))
  have HSZ := Lib.hid hB0.size
  clear hP hS
  go_enter Tryz.func198, Tryz.ntmps198
  go_wp2_with fail
  refine HC.out.mono ?_
  rintro e w1 ⟨rfl, hB1⟩
  have HT1 := Lib.hid (HT.out w1 hB1)
  have HB1 := Lib.hid (hB1.mono HSZ.out)
  clear hB1
  go_wp2_with fail
  refine HT1.out.mono ?_
  rintro e w2 ⟨rfl, h2, hB2⟩
  have HH := Lib.hid h2
  have HB2 := Lib.hid (HB1.out.trans hB2)
  clear h2 hB2
  go_wp2_with fail
  go_ret
  exact ⟨rfl, HH.out, HB2.out⟩
end Go.Proofs.YtopbfgkfpgnalaaGreatDoor
