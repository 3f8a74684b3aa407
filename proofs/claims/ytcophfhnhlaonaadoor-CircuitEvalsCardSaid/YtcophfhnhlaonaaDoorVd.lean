/-
  Joined from Fns, Fnt: see there.
-/
import Derived.Test.YtcophfhnhlaonaaDoorVc
namespace Go.Proofs.YtcophfhnhlaonaaDoor
set_option linter.unusedVariables false
open Go.RowKit

/-- A row of truth values, filled up to i. -/
def rowF (f : Nat → Bool) (L i : Nat) : List Bool := (List.range L).map fun a => if a < i then f a else false
theorem rowF_zero (f : Nat → Bool) (L : Nat) : rowF f L 0 = List.replicate L false := by
  apply List.ext_getElem?
  intro a
  by_cases h : a < L <;> simp [rowF, h]
theorem rowF_at {f : Nat → Bool} {L i : Nat} (h : i < L) : (rowF f L i)[i]? = some false := by simp [rowF, h]
theorem rowF_full {f : Nat → Bool} {L i : Nat} (h : i < L) : (rowF f L L)[i]? = some (f i) := by simp [rowF, h]
theorem rowF_next {f : Nat → Bool} {L i : Nat} (h : i < L) : (rowF f L i).set i (f i) = rowF f L (i + 1) := by
  apply List.ext_getElem?
  intro a
  rw [List.getElem?_set]
  by_cases h1 : i = a
  · subst h1; simp [rowF, h]
  · rw [if_neg h1]
    by_cases ha : a < L
    · have : a < i + 1 ↔ a < i := by omega
      simp only [rowF, List.getElem?_map, List.getElem?_range ha, Option.map_some, this]
    · simp [rowF, ha]
/-- The value of a tree at the inputs that are the bits of an index. -/
def evB (t : Tre) (i : Nat) : Bool := evT (fun a => decide (bitN i a = 1)) t
set_option maxHeartbeats 2000000 in
theorem Apply_two (k : Int) (hk : k = 2 ∨ k = 3 ∨ k = 4 ∨ k = 5) (f : Nat → Bool) (n : Int) (a b : Bool) (w : World) :
    Calls Tryd.prog 21 #[.int .i64 k, .bool a, .bool b] w fun e w' => e = .returned (.bool (evC f k n [a, b])) ∧ w = w' := by
  rcases hk with rfl | rfl | rfl | rfl <;> cases a <;> cases b <;> (
    go_enter Tryd.func21, Tryd.ntmps21
    go_wp2_with fail
    go_ret
    exact ⟨rfl, rfl⟩)

end Go.Proofs.YtcophfhnhlaonaaDoor
namespace Go.Proofs.YtcophfhnhlaonaaDoor
set_option linter.unusedVariables false
open Go.RowKit

end Go.Proofs.YtcophfhnhlaonaaDoor
