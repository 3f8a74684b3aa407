/-
  Contracts of the methods Power and Inverse of the reference's kit.
-/
import Derived.Test.YtiiopdomlepkmaaDoorFdl
namespace Go.Proofs.YtiiopdomlepkmaaDoor
open Go.RowKit

def KitAt (w : World) (g P M q : Nat) : Prop :=
  w.cell? ⟨g, 0, none⟩ = some (.int .i64 (P : Int)) ∧ w.cell? ⟨g, 1, none⟩ = some (.int .i64 (M : Int)) ∧ w.cell? ⟨g, 2, none⟩ = some (.int .i64 (q : Int)) ∧ w.cell? ⟨g, 3, none⟩ = some (.int .i64 (modOf M : Int))
def kitBox (P M q : Nat) : Obj := .cells #[.int .i64 (P : Int), .int .i64 (M : Int), .int .i64 (q : Int), .int .i64 (modOf M : Int)] 42
theorem kitAt_new (w : World) (P M q : Nat) : KitAt (w.alloc (kitBox P M q)) w.heap.size P M q := by
  unfold KitAt kitBox
  exact ⟨by simp, by simp, by simp, by simp⟩
theorem KitAt.below {w w' : World} {g P M q B : Nat} (h : KitAt w g P M q) (hb : Below B w w') (hg : g < B) : KitAt w' g P M q :=
  ⟨(hb.cell (p := ⟨g, 0, none⟩) hg).trans h.1, (hb.cell (p := ⟨g, 1, none⟩) hg).trans h.2.1, (hb.cell (p := ⟨g, 2, none⟩) hg).trans h.2.2.1, (hb.cell (p := ⟨g, 3, none⟩) hg).trans h.2.2.2⟩

end Go.Proofs.YtiiopdomlepkmaaDoor
