/-
  An array of three integers, as an argument: opened and shut.
-/
import Derived.Test.YtfkeemhbehhclaaDoorChecked
import Derived.Laws.IdiomArrays
import Derived.Lib.SmallJoins
import Derived.OpenShut
namespace Go.Proofs.YtfkeemhbehhclaaDoor
open Go.ChangeShapes Go.WideShapes Go.ChangeAt Go.RowKit Go.Joins

section
variable {H : Type} {enc : TypeId × Value → H} {P : Program} {w : World} {base : Nat} {sp : Nat → Bool} {held : Bool}
theorem open_arr3 {r : Reach} {b0 : Nat} {t : TypeId} {v : Value} {d : DataW H} {p : List MemPlace} (ht : P.underlying t = some (.array 3 3)) (he : P.underlying 3 = some (.int .i64)) (hce : P.cellsOf 3 = 1) (hct : P.cellsOf t = 3)
    (hv : Value.okWide P w r b0 t v) (h : DataW.Trod enc P w base sp held t v d p) :
    ∃ a b c : Int, v = .agg #[.int .i64 a, .int .i64 b, .int .i64 c] ∧ d = .agg [.lit (.int .i64 a), .lit (.int .i64 b), .lit (.int .i64 c)] ∧ p = [] ∧ (Lit.int .i64 a).wf = true ∧ (Lit.int .i64 b).wf = true ∧ (Lit.int .i64 c).wf = true := by
  obtain ⟨cs, rfl, hsz⟩ : ∃ cs, v = .agg cs ∧ cs.size = P.cellsOf t := by
    cases v <;> simp [Value.okWide, ht] at hv
    exact ⟨_, rfl, hv.1⟩
  obtain ⟨c0, c1, c2, rfl⟩ := array3 (hsz.trans hct)
  obtain ⟨fuel, hf⟩ := h
  have hf2 : DataW.trod enc P w base sp held fuel t [c0, c1, c2] = some (d, p) := by simpa [Value.cells] using hf
  obtain ⟨y0, y1, y2, n, hx, h0, h1, h2⟩ := trod_array3 ht hce hf2
  obtain ⟨a, ea, rfl, wa⟩ := DataW.trod_int he h0
  obtain ⟨b, eb, rfl, wb⟩ := DataW.trod_int he h1
  obtain ⟨c, ec, rfl, wc⟩ := DataW.trod_int he h2
  simp at ea eb ec hx
  exact ⟨a, b, c, by rw [ea, eb, ec], hx.1, hx.2, wa, wb, wc⟩
theorem shut_arr3 {t : TypeId} {a b c : Int} (ht : P.underlying t = some (.array 3 3)) (he : P.underlying 3 = some (.int .i64)) (hce : P.cellsOf 3 = 1) (hct : P.cellsOf t = 3) (wa : (Lit.int .i64 a).wf = true) (wb : (Lit.int .i64 b).wf = true) (wc : (Lit.int .i64 c).wf = true) :
    DataW.Trod enc P w base sp held t (.agg #[.int .i64 a, .int .i64 b, .int .i64 c]) (.agg [.lit (.int .i64 a), .lit (.int .i64 b), .lit (.int .i64 c)]) [] := by
  refine ⟨2, ?_⟩
  have r3 : List.range 3 = [0, 1, 2] := rfl
  have e1 : ∀ z : Int, (Lit.int .i64 z).wf = true → DataW.trod enc P w base sp held 1 3 [.int .i64 z] = some (.lit (.int .i64 z), []) := fun z hz => by simp [DataW.trod, he, hz]
  unfold DataW.trod
  simp only [ht, hce, hct, r3, Value.cells]
  simp [e1, wa, wb, wc]
end
end Go.Proofs.YtfkeemhbehhclaaDoor
