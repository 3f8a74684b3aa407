/-
  Contract of Unrank of the reference at every number of points from 1 to 7 and every rank that there is.
-/
import Derived.Test.YtdpnmepplkiljaaDoorZb
import Derived.Maps.RangeWalk
namespace Go.Proofs.YtdpnmepplkiljaaDoor
open Go.RowKit

def runR : Nat → List Nat → Nat → List Nat
  | 0, _, _ => []
  | j + 1, rest, r => rest[r / facN j]?.getD 0 :: runR j (rest.take (r / facN j) ++ rest.drop (r / facN j + 1)) (r % facN j)

theorem runR_length : ∀ (j : Nat) (rest : List Nat) (r : Nat), (runR j rest r).length = j
  | 0, _, _ => rfl
  | j + 1, rest, r => by simp [runR, runR_length j]

theorem natCells_get (l : List Nat) (j : Nat) (hj : j < l.length) : (natCells l)[j]? = some (.int .i64 ((l[j]?.getD 0 : Nat) : Int)) := by
  simp [natCells, hj]

theorem natCells_app (a b : List Nat) : natCells (a ++ b) = natCells a ++ natCells b := by simp [natCells]

/-- What a row owns reads, from a place on. -/
theorem owns_part {w : World} {base g n cap : Nat} {ps : List Nat} (h : w.ownsRow base 3 1 (.slice (some ⟨g, 0, none⟩) n cap) n (natCells ps)) (k : Nat) :
    ∀ j u, (natCells (ps.drop k))[j]? = some u → w.cell? ((⟨g, k, none⟩ : Addr).add j) = some u := by
  intro j u hu
  have h1 : (natCells ps)[k + j]? = some u := by
    rw [natCells, List.map_drop, List.getElem?_drop] at hu
    exact hu
  have h2 := h.cells rfl (k + j) u h1
  have e : (⟨g, k, none⟩ : Addr).add j = (⟨g, 0, none⟩ : Addr).add (k + j) := by
    by_cases hj : j = 0 <;> by_cases hk : k = 0 <;> simp [Addr.add, hj, hk]
  rw [e]; exact h2

theorem owns_take {w : World} {base g n cap : Nat} {ps : List Nat} (h : w.ownsRow base 3 1 (.slice (some ⟨g, 0, none⟩) n cap) n (natCells ps)) (k : Nat) :
    ∀ j u, (natCells (ps.take k))[j]? = some u → w.cell? ((⟨g, 0, none⟩ : Addr).add j) = some u := by
  intro j u hu
  have h1 : (natCells ps)[j]? = some u := by
    rw [natCells, List.map_take, List.getElem?_take] at hu
    split at hu
    · exact hu
    · cases hu
  exact h.cells rfl j u h1

theorem unr_one {w w2 w3 : World} {g j capr k m : Nat} {rest : List Nat} {vp v3 : Value} {xp : List Value} (hB2 : Below w.heap.size w w2)
    (hor : w2.ownsRow w.heap.size 3 1 (.slice (some ⟨g, 0, none⟩) (j + 1) capr) (j + 1) (natCells rest)) (hop : w2.ownsRow w.heap.size 3 1 vp k xp) (hs : w.heap.size ≤ w2.heap.size)
    (hg3 : (w2.drew.alloc (.cells #[] 3)).grownBy w3 (Value.slice (some ⟨w2.heap.size, 0, none⟩) 0 m).ownBlock)
    (hf3 : v3.ownBlock = (Value.slice (some ⟨w2.heap.size, 0, none⟩) 0 m).ownBlock ∨ ∀ b, v3.ownBlock = some b → (w2.drew.alloc (.cells #[] 3)).heap.size ≤ b) :
    Below w.heap.size w w3 ∧ w3.ownsRow w.heap.size 3 1 (.slice (some ⟨g, 0, none⟩) (j + 1) capr) (j + 1) (natCells rest) ∧ w3.ownsRow w.heap.size 3 1 vp k xp ∧ (∀ b, v3.ownBlock = some b → w2.heap.size ≤ b) := by
  have hgl := (hor.lt g rfl).2
  have hor' : w2.drew.ownsRow w.heap.size 3 1 (.slice (some ⟨g, 0, none⟩) (j + 1) capr) (j + 1) (natCells rest) := hor
  have hop' : w2.drew.ownsRow w.heap.size 3 1 vp k xp := hop
  have hBd : Below w.heap.size w w2.drew := hB2.drew
  refine ⟨(hBd.alloc hs _).grown hg3 (by simp; omega) (fun b e => by cases e; exact hs), (hor'.alloc _).kept hg3 (.inr fun e => ?_), (hop'.alloc _).kept hg3 ?_, fun b e => ?_⟩
  · have e2 := Option.some.inj e
    have e3 : g = w2.heap.size := e2
    omega
  · cases hv : vp.ownBlock with
    | none => exact .inl rfl
    | some b =>
      refine .inr fun e => ?_
      have e3 : b = w2.heap.size := Option.some.inj e
      have := (hop.lt b hv).2
      omega
  · rcases hf3 with h | h
    · rw [h] at e
      have e3 : w2.heap.size = b := Option.some.inj e
      omega
    · have := h b e
      simp at this
      omega

theorem unr_two {w w2 w3 w4 : World} {k : Nat} {vp v3 : Value} {g4 n4 cap4 : Nat} {xp : List Value} (hB3 : Below w.heap.size w w3) (hop3 : w3.ownsRow w.heap.size 3 1 vp k xp) (hbl3 : ∀ b, v3.ownBlock = some b → w2.heap.size ≤ b)
    (hop2 : w2.ownsRow w.heap.size 3 1 vp k xp) (hg4 : w3.grownBy w4 v3.ownBlock) (hf4 : (Value.slice (some ⟨g4, 0, none⟩) n4 cap4).ownBlock = v3.ownBlock ∨ ∀ b, (Value.slice (some ⟨g4, 0, none⟩) n4 cap4).ownBlock = some b → w3.heap.size ≤ b) (hs : w.heap.size ≤ w2.heap.size) :
    Below w.heap.size w w4 ∧ w4.ownsRow w.heap.size 3 1 vp k xp ∧ (∀ b, vp.ownBlock = some b → b ≠ g4) := by
  refine ⟨hB3.grown hg4 hB3.size (fun b e => Nat.le_trans hs (hbl3 b e)), hop3.kept hg4 ?_, fun b e hb => ?_⟩
  · cases hv : vp.ownBlock with
    | none => exact .inl rfl
    | some b =>
      refine .inr fun e => ?_
      have := hbl3 b e.symm
      have := (hop2.lt b hv).2
      omega
  · subst hb
    have h2 := (hop2.lt b e).2
    have h3 := (hop3.lt b e).2
    rcases hf4 with h | h
    · have := hbl3 b (by rw [← h]; rfl)
      omega
    · have := h b rfl
      omega

end Go.Proofs.YtdpnmepplkiljaaDoor
