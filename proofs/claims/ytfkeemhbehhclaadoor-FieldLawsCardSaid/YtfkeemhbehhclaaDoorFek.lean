/-
  Contracts of the law's helpers at given results, and what holds of the world while a law runs.
-/
import Derived.Test.YtfkeemhbehhclaaDoorFdy
namespace Go.Proofs.YtfkeemhbehhclaaDoor
open Go.RowKit

theorem rd3 (w : World) (a b c : Int) : RdI (w.alloc (.cells #[.int .i64 a, .int .i64 b, .int .i64 c] 3)) (some ⟨w.heap.size, 0, none⟩) [a, b, c] := by
  intro k x hx
  refine ⟨_, rfl, ?_⟩
  match k, hx with
  | 0, hx => cases hx; simp [Addr.add]
  | 1, hx => cases hx; simp [Addr.add]
  | 2, hx => cases hx; simp [Addr.add]
def St2 (w0 : World) (P M : Int) (w : World) : Prop := Below w0.heap.size w0 w ∧ Lays w ∧ FAt w w0.heap.size P M
theorem St2.step {w0 w w1 : World} {P M : Int} (h : St2 w0 P M w) (hB : Below w.heap.size w w1) : St2 w0 P M w1 :=
  ⟨h.1.trans (hB.mono h.1.size), h.2.1.below hB, h.2.2.below hB⟩
theorem St2.lays {w0 w : World} {P M : Int} (h : St2 w0 P M w) : Lays w := h.2.1
theorem St2.bel {w0 w : World} {P M : Int} (h : St2 w0 P M w) : Below w0.heap.size w0 w := h.1
theorem St2.drew {w0 w : World} {P M : Int} (h : St2 w0 P M w) : St2 w0 P M w.drew := ⟨h.1.drew, h.2.1, h.2.2⟩
theorem St2.drewN {w0 w : World} {P M : Int} (h : St2 w0 P M w) (n : Nat) : St2 w0 P M (w.drewN n) := ⟨⟨h.1.os, h.1.tape, h.1.output, h.1.size, h.1.block⟩, h.2.1, h.2.2⟩
theorem St2.cells {w0 w : World} {P M : Int} (h : St2 w0 P M w) : w.cell? ⟨w0.heap.size, 0, none⟩ = some (.int .i64 P) ∧ w.cell? ⟨w0.heap.size, 1, none⟩ = some (.int .i64 M) := h.2.2

theorem la {P M q : Nat} (hf : Fld P M q) {x y z : Nat} (hx : x < q) (hy : y < q) (h : addN P M x y = z) (w : World) (hL : Lays w) :
    Calls Tryd.prog 35 #[.agg #[.int .i64 (P : Int), .int .i64 (M : Int)], .int .i64 x, .int .i64 y] w fun e w' => e = .returned (.int .i64 z) ∧ Below w.heap.size w w' := by
  rw [← h]; exact lawAdd P M q hf x y hx hy w hL
theorem lm {P M q : Nat} (hf : Fld P M q) {x y z : Nat} (hx : x < q) (hy : y < q) (h : mulN P M x y = z) (w : World) (hL : Lays w) :
    Calls Tryd.prog 36 #[.agg #[.int .i64 (P : Int), .int .i64 (M : Int)], .int .i64 x, .int .i64 y] w fun e w' => e = .returned (.int .i64 z) ∧ Below w.heap.size w w' := by
  rw [← h]; exact lawMul P M q hf x y hx hy w hL
theorem ls {P M q : Nat} (hf : Fld P M q) {x y z : Nat} (hx : x < q) (hy : y < q) (h : subN P M x y = z) (w : World) (hL : Lays w) :
    Calls Tryd.prog 18 #[.agg #[.int .i64 (P : Int), .int .i64 (M : Int)], .int .i64 x, .int .i64 y] w fun e w' => e = .returned (.tuple #[.int .i64 z, .int .i64 0]) ∧ Below w.heap.size w w' := by
  rw [← h]; exact Sub_ok P M q hf x y hx hy w hL

theorem la0 {P M q : Nat} (hf : Fld P M q) {x : Nat} (hx : x < q) (w : World) (hL : Lays w) :
    Calls Tryd.prog 35 #[.agg #[.int .i64 (P : Int), .int .i64 (M : Int)], .int .i64 x, .int .i64 0] w fun e w' => e = .returned (.int .i64 x) ∧ Below w.heap.size w w' :=
  la hf hx (by have := hf.q_ge; omega : 0 < q) (hf.rng.add_zero hx) w hL
theorem lm1 {P M q : Nat} (hf : Fld P M q) {x : Nat} (hx : x < q) (w : World) (hL : Lays w) :
    Calls Tryd.prog 36 #[.agg #[.int .i64 (P : Int), .int .i64 (M : Int)], .int .i64 x, .int .i64 1] w fun e w' => e = .returned (.int .i64 x) ∧ Below w.heap.size w w' :=
  lm hf hx (by have := hf.q_ge; omega : 1 < q) (hf.rng.mul_one hx) w hL
theorem lm0 {P M q : Nat} (hf : Fld P M q) {x : Nat} (hx : x < q) (w : World) (hL : Lays w) :
    Calls Tryd.prog 36 #[.agg #[.int .i64 (P : Int), .int .i64 (M : Int)], .int .i64 x, .int .i64 0] w fun e w' => e = .returned (.int .i64 0) ∧ Below w.heap.size w w' :=
  lm hf hx (by have := hf.q_ge; omega : 0 < q) (hf.rng.zero hx) w hL
theorem lz {P M q : Nat} (hf : Fld P M q) {x : Nat} (h0 : x = 0) (w : World) (hL : Lays w) :
    Calls Tryd.prog 26 #[.agg #[.int .i64 (P : Int), .int .i64 (M : Int)], .int .i64 x] w fun e w' => e = .returned (.tuple #[.int .i64 0, .int .i64 6]) ∧ Below w.heap.size w w' := by
  subst h0; exact Inverse_zero P M q hf w hL
theorem li {P M q : Nat} (hf : Fld P M q) {x z : Nat} (h0 : 0 < x) (hx : x < q) (h : powN P M x (q - 2) = z) (w : World) (hL : Lays w) :
    Calls Tryd.prog 26 #[.agg #[.int .i64 (P : Int), .int .i64 (M : Int)], .int .i64 x] w fun e w' => e = .returned (.tuple #[.int .i64 z, .int .i64 0]) ∧ Below w.heap.size w w' := by
  rw [← h]; exact Inverse_ok P M q hf x h0 hx w hL

theorem rd2' (w : World) (a b : Int) : RdI (w.alloc (.cells #[.int .i64 a, .int .i64 b] 3)) (some ⟨w.heap.size, 0, none⟩) [a, b] := by
  intro k x hx
  refine ⟨_, rfl, ?_⟩
  match k, hx with
  | 0, hx => cases hx; simp [Addr.add]
  | 1, hx => cases hx; simp [Addr.add]
theorem lp {P M q : Nat} (hf : Fld P M q) {x k z : Nat} (hx : x < q) (hk : k ≤ 65536) (h : powN P M x k = z) (w : World) (hL : Lays w) :
    Calls Tryd.prog 27 #[.agg #[.int .i64 (P : Int), .int .i64 (M : Int)], .int .i64 x, .int .i64 k] w fun e w' => e = .returned (.tuple #[.int .i64 z, .int .i64 0]) ∧ Below w.heap.size w w' := by
  rw [← h]; exact Power_ok P M q hf x k hx (by omega) w hL
theorem lo {P M q : Nat} (hf : Fld P M q) (w : World) (hL : Lays w) :
    Calls Tryd.prog 14 #[.agg #[.int .i64 (P : Int), .int .i64 (M : Int)]] w fun e w' => e = .returned (.int .i64 (q : Nat)) ∧ Below w.heap.size w w' := Order_ok P M q hf w hL
theorem Fld.p_le {P M q : Nat} (h : Fld P M q) : P ≤ 65536 := by
  rcases h with ⟨_, _, h2, _⟩ | ⟨rfl, _⟩ <;> omega

end Go.Proofs.YtfkeemhbehhclaaDoor
