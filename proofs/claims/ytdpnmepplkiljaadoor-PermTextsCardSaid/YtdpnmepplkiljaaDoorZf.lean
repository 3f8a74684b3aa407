/-
  Contract of Power of package perm at every valid permutation and every exponent, for whatever function F gives the images (what F is, a later text says).
-/
import Derived.Test.YtdpnmepplkiljaaDoorV
import Derived.Test.YtdpnmepplkiljaaDoorJ
namespace Go.Proofs.YtdpnmepplkiljaaDoor
open Go.RowKit Go.Shelf

attribute [local go_sem] Oper.semAt_some

theorem make_row (n : Nat) (hn : n ≤ 7) : ∀ w : World, (Instr.makeSlice 23 (.int .i64 (n : Int)) (.int .i64 (n : Int))).run Tryd.prog w = .ok (.slice (some ⟨w.heap.size, 0, none⟩) n n) (w.alloc (.cells (natCells (List.replicate n 0)).toArray 3)) := by
  obtain ⟨i0, hi, hz0, hz1, hz2⟩ := info_parts Tryd.info3
  intro w
  have h := run_make (P := Tryd.prog) w 23 3 i0 (.int .i64 0) Tryd.underlying23 hi hz0 .i64 .i64 (n : Int) (n : Int) (by omega) (by omega) (by rw [hz2]; omega) (by omega)
  rw [h, Int.toNat_natCast, hz1]
  congr 3
  apply Array.toList_inj.1
  rw [zeros_range]
  simp only [natCells, List.map_replicate]
  simp [List.map_const']

/-- A row filled at the points that have been visited. -/
def visPart (F : Nat → Nat) (n : Nat) (vis : List Nat) : List Value := (List.range n).map fun x => if x ∈ vis then Value.int .i64 ((F x : Nat) : Int) else .int .i64 0

theorem visPart_nil (F : Nat → Nat) (n : Nat) : natCells (List.replicate n 0) = visPart F n [] := by
  simp [natCells, visPart, List.map_const']

theorem visPart_set (F : Nat → Nat) (n : Nat) (vis : List Nat) (x : Nat) : (visPart F n vis).set x (.int .i64 ((F x : Nat) : Int)) = visPart F n (vis ++ [x]) := by
  unfold visPart
  rw [range_set]
  apply List.map_congr_left
  intro i _
  by_cases h : i = x
  · subst h; simp
  · simp [h]

theorem visPart_full (F : Nat → Nat) (n : Nat) (vis : List Nat) (h : ∀ x, x < n → x ∈ vis) : visPart F n vis = natCells ((List.range n).map F) :=
  natCells_eq n _ (by simp) _ (fun i hi => by simp [hi, h i hi])

theorem natCells_getz (l : List Nat) (j : Nat) (hj : j < l.length) : (natCells l)[j]? = some (.int .i64 ((l[j]?.getD 0 : Nat) : Int)) := by
  simp [natCells, hj]

theorem take_snocN' (l : List Nat) (k : Nat) (h : k < l.length) : l.take (k + 1) = l.take k ++ [l[k]?.getD 0] := by
  rw [List.take_succ_eq_append_getElem h]; simp [h]

theorem tmod_bounds (k : Int) (l : Nat) (h1 : 1 ≤ l) : 1 ≤ k.tmod (l : Int) + l ∧ k.tmod (l : Int) + l < 2 * l := by
  have hl : (0 : Int) < (l : Int) := by omega
  have h1 := Int.tmod_lt_of_pos k hl
  have h2 : -(l : Int) < k.tmod l := by
    have h3 := Int.tmod_lt_of_pos (-k) hl
    rw [Int.neg_tmod] at h3
    omega
  omega

/-- What the iterator's rounds of Power need: the image F of each point of each cycle. -/
def PowF (ps : List Nat) (k : Int) (F : Nat → Nat) : Prop := ∀ c ∈ allCyc ps, ∀ i, i < c.length → c[i]?.getD 0 < ps.length ∧ F (c[i]?.getD 0) = c[(i + (k.tmod (c.length : Int) + c.length).toNat) % c.length]?.getD 0

theorem pow_store {W wr : World} {B n : Nat} {F : Nat → Nat} {vis : List Nat} {x : Nat} {v : Value} {base : Nat}
    (hown : wr.ownsRow base 3 1 (.slice (some ⟨B, 0, none⟩) n n) n (visPart F n vis)) (hO : OnlyIn [B] W wr) (hv : v = .int .i64 ((F x : Nat) : Int)) (W' : World) (hW : W' = wr.setCell ⟨B, x, none⟩ v ∨ W' = wr.drew.setCell ⟨B, x, none⟩ v) :
    W'.ownsRow base 3 1 (.slice (some ⟨B, 0, none⟩) n n) n (visPart F n (vis ++ [x])) ∧ OnlyIn [B] W W' := by
  subst hv
  rcases hW with rfl | rfl
  · have h := (hown.stored x (.int .i64 ((F x : Nat) : Int))).1
    rw [visPart_set] at h
    exact ⟨h, hO.setCell (p := ⟨B, x, none⟩) (by simp) _⟩
  · have hd : wr.drew.ownsRow base 3 1 (.slice (some ⟨B, 0, none⟩) n n) n (visPart F n vis) := hown
    have h := (hd.stored x (.int .i64 ((F x : Nat) : Int))).1
    rw [visPart_set] at h
    exact ⟨h, hO.drew.setCell (p := ⟨B, x, none⟩) (by simp) _⟩

end Go.Proofs.YtdpnmepplkiljaaDoor
