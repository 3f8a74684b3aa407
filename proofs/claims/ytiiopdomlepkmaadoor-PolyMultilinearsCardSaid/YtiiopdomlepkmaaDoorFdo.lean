/-
  Contracts of isRoot, openRoots, Root and Sum of package field.
-/
import Derived.Test.YtiiopdomlepkmaaDoorFdn
import Derived.Laws.OwnMore
namespace Go.Proofs.YtiiopdomlepkmaaDoor
open Go.RowKit

/-- An element whose k-th power is 1, and no power whose exponent is k divided by a prime. -/
def IsRt (P M k r : Nat) : Prop := powN P M r k = 1 ∧ ∀ d, Pr d → d ∣ k → powN P M r (k / d) ≠ 1
def RootB (P M k r : Nat) (w : World) (e : Ending) (w' : World) : Prop := ∃ b : Bool, e = .returned (.bool b) ∧ (b = true ↔ IsRt P M k r) ∧ w = w'
def NotUpto (P M k r : Nat) (ds : List Nat) (i : Nat) : Prop := ∀ j d, j < i → ds[j]? = some d → powN P M r (k / d) ≠ 1
theorem NotUpto.succ {P M k r i d : Nat} {ds : List Nat} (h : NotUpto P M k r ds i) (hd : ds[i]? = some d) (hn : powN P M r (k / d) ≠ 1) : NotUpto P M k r ds (i + 1) := fun j e hj he => by
  by_cases h1 : j = i
  · subst h1
    rw [hd] at he
    cases he
    exact hn
  · exact h j e (by omega) he
theorem NotUpto.done {P M k r : Nat} {ds : List Nat} (h : NotUpto P M k r ds ds.length) (hp : PrimesOf k ds) (h1 : powN P M r k = 1) : IsRt P M k r := ⟨h1, fun d hd hdk => by
  obtain ⟨j, hj, he⟩ := List.getElem_of_mem (hp.2 d hd hdk)
  exact h j d hj (by rw [List.getElem?_eq_getElem hj, he])⟩
def RdF (w : World) (A : Option Addr) (ds : List Nat) : Prop := ∀ k x : Nat, ds[k]? = some x → ∃ a, A = some a ∧ w.cell? (a.add k) = some (.int .i64 (x : Int))
theorem RdF.of_cells {w w' : World} {A : Option Addr} {xs : List Nat} (h : RdF w A xs) (hc : ∀ p : Addr, p.block < w.heap.size → w'.cell? p = w.cell? p) : RdF w' A xs := fun k x hx => by
  obtain ⟨a, ha, hv⟩ := h k x hx
  exact ⟨a, ha, (hc _ (World.block_lt_of_cell? w _ hv)).trans hv⟩
theorem RdF.below {w w' : World} {A : Option Addr} {xs : List Nat} (h : RdF w A xs) (hb : Below w.heap.size w w') : RdF w' A xs := h.of_cells fun _ hp => hb.cell hp
theorem rdf_of_owns {w : World} {B : Nat} {v : Value} {ds : List Nat} (h : w.ownsRow B 3 1 v ds.length (cellsN ds)) : ∃ A c, v = .slice A ds.length c ∧ RdF w A ds := by
  cases ds with
  | nil =>
    rcases h.2 with ⟨rfl, _⟩ | ⟨g, cap, cur, rfl, _⟩
    · exact ⟨none, 0, rfl, fun k x hx => by cases hx⟩
    · exact ⟨_, _, rfl, fun k x hx => by cases hx⟩
  | cons d t =>
    rcases h.2 with ⟨rfl, h0⟩ | ⟨g, cap, cur, rfl, _⟩
    · simp at h0
    refine ⟨_, _, rfl, fun k x hx => ⟨_, rfl, World.ownsRow.cells h rfl k _ ?_⟩⟩
    rw [cellsN, List.getElem?_map, hx]
    rfl

def OpenRIs (o : Value) (q : Nat) (k : Int) (w : World) (e : Ending) (w' : World) : Prop :=
  Below w.heap.size w w' ∧ (k < 1 ∧ e = .returned (.tuple #[.nilIface, .int .i64 2]) ∨ (1 ≤ k ∧ ¬ ((q : Int) - 1) % k = 0) ∧ e = .returned (.tuple #[.nilIface, .int .i64 6]) ∨ (1 ≤ k ∧ ((q : Int) - 1) % k = 0) ∧ e = .returned (.tuple #[o, .int .i64 0]))
end Go.Proofs.YtiiopdomlepkmaaDoor
