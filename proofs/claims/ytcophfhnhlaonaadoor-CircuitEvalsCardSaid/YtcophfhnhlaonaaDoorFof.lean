/-
  A list of truth values that comes in, as a row.
-/
import Derived.Test.YtcophfhnhlaonaaDoorVb
import Derived.Deep.Grids
import Derived.Deep.Fields
namespace Go.Proofs.YtcophfhnhlaonaaDoor
open Go.RowKit Go.ChangeShapes Go.WideShapes Go.Deep
set_option linter.unusedVariables false
theorem open_bl {H : Type} {enc : TypeId × Value → H} {w : World} {fuel : Nat} {b : Option Addr} {len cap : Nat} {x : DataW H × List MemPlace} (h : DataW.trod enc Tryd.prog w 0 (fun _ => true) true fuel 29 [.slice b len cap] = some x) : ∃ xs : List Bool, len = xs.length ∧ BlR w b xs := by
  rcases open_bools Tryd.underlying29 Tryd.underlying4 (by kernel_rfl) h with ⟨hcs, _⟩ | ⟨a, len', cap', B, hcs, _, hl, _, rfl, hc⟩
  · simp at hcs
    exact ⟨[], by simpa using hcs.2.1, fun k x hk => by simp at hk⟩
  · simp at hcs
    obtain ⟨rfl, rfl, rfl⟩ := hcs
    refine ⟨(List.range len).map B, by simp, fun k x hk => ?_⟩
    have hkl := (List.getElem?_eq_some_iff.1 hk).1
    simp at hkl
    simp [hkl] at hk
    have h0 := hc 0 (by omega)
    have hz : a.add 0 = a := rfl
    rw [hz] at h0
    have ha := spot_none h0
    refine ⟨a.block, a.off, by rw [← ha], ?_⟩
    have hk2 := hc k (by omega)
    rw [ha, hk] at hk2
    have e : Addr.add ⟨a.block, a.off, none⟩ k = ⟨a.block, a.off + k, none⟩ := by
      by_cases h0 : k = 0 <;> simp [Addr.add, h0]
    rw [e] at hk2
    exact hk2
end Go.Proofs.YtcophfhnhlaonaaDoor
