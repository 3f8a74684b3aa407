/-
  Joined from Prf: see there.
-/
import Derived.Test.YtflmjdabmnpkjaaDoorUk
import Derived.Deep.Grids
namespace Go.Proofs.YtflmjdabmnpkjaaDoor
open Go.RowKit Go.ChangeShapes Go.WideShapes Go.Deep
set_option linter.unusedVariables false

/-- A table as an argument. -/
def BoolV (w : World) (v : Value) (bs : List Bool) : Prop := ∃ A c, v = .slice A bs.length c ∧ RdB w A bs ∧ bs.length ≤ 1152921504606846976
theorem BoolV.below {w w' : World} {v : Value} {bs : List Bool} (h : BoolV w v bs) (hB : Below w.heap.size w w') : BoolV w' v bs := by
  obtain ⟨A, c, e, h1, h2⟩ := h
  exact ⟨A, c, e, h1.below hB, h2⟩
theorem open_table {H : Type} {enc : TypeId × Value → H} {w : World} {fuel : Nat} {v : Value} {x : DataW H × List MemPlace} (h : DataW.trod enc Tryd.prog w 0 (fun _ => true) true fuel 44 [v] = some x)
    (hw : ∀ n ∈ x.1.weights Tryd.prog 44, n ≤ reachBytes) : ∃ bs, BoolV w v bs := by
  rcases open_bools Tryd.underlying44 Tryd.underlying4 (by kernel_rfl) h with ⟨hcs, _⟩ | ⟨a, len, cap, B, hcs, _, hl, _, rfl, hc⟩
  · simp at hcs
    subst hcs
    exact ⟨[], none, 0, rfl, fun k x hk => by simp at hk, by simp⟩
  · simp at hcs
    subst hcs
    have hlen : len ≤ reachBytes := by
      have h2 : Tryd.prog.bytesOf 4 = 1 := by kernel_rfl
      simp only [boolRow, DataW.weights, Tryd.underlying44, h2] at hw
      have h1 := hw _ List.mem_cons_self
      simp at h1
      omega
    refine ⟨(List.range len).map B, some a, cap, by simp, fun k x hk => ?_, ?_⟩
    · have hkl := (List.getElem?_eq_some_iff.1 hk).1
      simp at hkl
      simp [hkl] at hk
      exact ⟨a, rfl, by rw [hc k (by omega), hk]⟩
    · have h3 : reachBytes = 140737488351232 := rfl
      simp
      omega
end Go.Proofs.YtflmjdabmnpkjaaDoor
