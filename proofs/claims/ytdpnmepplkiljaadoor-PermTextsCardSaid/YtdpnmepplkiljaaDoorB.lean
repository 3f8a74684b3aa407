/-
  Contracts of the functions of package perm that multiply and invert, then and back, at valid permutations of at most seven points; they make one new block and leave what lay as it lay.
-/
import Derived.Test.YtdpnmepplkiljaaDoorA
import Derived.OwnWalk
namespace Go.Proofs.YtdpnmepplkiljaaDoor
open Go.RowKit

theorem Tryd.info3 : (Tryd.prog.info? 3).map (fun i => (i.zero, i.size, i.bytes)) = some (some (.int .i64 0), 1, 8) := by kernel_rfl

def natCells (ps : List Nat) : List Value := ps.map fun (x : Nat) => Value.int .i64 (x : Int)

theorem natCells_length (ps : List Nat) : (natCells ps).length = ps.length := by simp [natCells]

/-- The cells from ⟨b, off⟩ on read as the list. -/
def RdN (w : World) (b off : Nat) (ps : List Nat) : Prop := ∀ j, j < ps.length → w.cell? ⟨b, off + j, none⟩ = some (.int .i64 ((ps[j]?.getD 0 : Nat) : Int))

theorem RdN.below {B b off : Nat} {ps : List Nat} {w w' : World} (h : RdN w b off ps) (hB : Below B w w') (hb : b < B) : RdN w' b off ps :=
  fun j hj => (hB.cell (p := ⟨b, off + j, none⟩) hb).trans (h j hj)

/-- Block g holds just the list. -/
def Blk (w : World) (g : Nat) (ps : List Nat) : Prop := w.heap[g]? = some (.cells (natCells ps).toArray 3 (0, 0))

theorem Blk.lt {w : World} {g : Nat} {ps : List Nat} (h : Blk w g ps) : g < w.heap.size := (Array.getElem?_eq_some_iff.1 h).1

theorem Blk.rd {w : World} {g : Nat} {ps : List Nat} (h : Blk w g ps) : RdN w g 0 ps := fun j hj => by
  have hb : w.heap[g]? = some (.cells (natCells ps).toArray 3 (0, 0)) := h
  rw [cell_of_row w g (0 + j) _ 3 (0, 0) hb]
  simp [natCells, hj]

theorem Blk.below {B g : Nat} {ps : List Nat} {w w' : World} (h : Blk w g ps) (hB : Below B w w') (hb : g < B) : Blk w' g ps := (hB.block g hb).trans h

theorem Blk.of_owns {w : World} {base g n : Nat} {ps : List Nat} (h : w.ownsRow base 3 1 (.slice (some ⟨g, 0, none⟩) n n) n (natCells ps)) : Blk w g ps := by
  rcases h.2 with ⟨h', _⟩ | ⟨g', cap', cur, h', _, hg, _, _, hcs, htake⟩
  · simp at h'
  · simp only [Value.slice.injEq, Option.some.injEq, Addr.mk.injEq, and_true, true_and] at h'
    obtain ⟨rfl, rfl⟩ := h'
    have : cur = (natCells ps).toArray := by
      rw [← htake]
      rw [List.take_of_length_le (by rw [Array.length_toList, hcs]; exact Nat.le_refl _)]
    unfold Blk
    rw [hg, this]

def mulN (ps qs : List Nat) : List Nat := ps.map fun x => qs[x]?.getD 0

theorem mulN_length (ps qs : List Nat) : (mulN ps qs).length = ps.length := by simp [mulN]

/-- A row filled in part. -/
theorem range_set (n : Nat) (g : Nat → Value) (j : Nat) (v : Value) : ((List.range n).map g).set j v = (List.range n).map (fun i => if i = j then v else g i) := by
  apply List.ext_getElem?
  intro i
  by_cases hi : i < n
  · by_cases hj : j = i
    · subst hj; simp [hi]
    · have : ¬ i = j := fun h => hj h.symm
      simp [hi, hj, this]
  · simp [hi]

theorem zeros_range (n : Nat) : (madeCells (Value.int .i64 0).cells (n * 1)).toList = (List.range n).map (fun _ => Value.int .i64 0) := by
  have : (Value.int .i64 0).cells = #[Value.int .i64 0] := rfl
  rw [this, Nat.mul_one, toList_madeCells_one]
  simp [List.map_const']

theorem natCells_eq (n : Nat) (ps : List Nat) (h : ps.length = n) (g : Nat → Value) (hg : ∀ i, i < n → g i = .int .i64 ((ps[i]?.getD 0 : Nat) : Int)) : (List.range n).map g = natCells ps := by
  apply List.ext_getElem?
  intro i
  by_cases hi : i < n
  · simp [hi, natCells, hg i hi, h]
  · have : ps.length ≤ i := by omega
    simp [natCells, this, hi]

def thenPart (ps qs : List Nat) (n k : Nat) : List Value := (List.range n).map fun i => if i < k then Value.int .i64 (((mulN ps qs)[i]?.getD 0 : Nat) : Int) else .int .i64 0

theorem thenPart_zero (ps qs : List Nat) (n : Nat) : (madeCells (Value.int .i64 0).cells (n * 1)).toList = thenPart ps qs n 0 := by
  rw [zeros_range]; simp [thenPart]

theorem thenPart_succ (ps qs : List Nat) (n k : Nat) (hp : ps.length = n) (hk : k < n) :
    (thenPart ps qs n k).set k (.int .i64 ((qs[ps[k]?.getD 0]?.getD 0 : Nat) : Int)) = thenPart ps qs n (k + 1) := by
  unfold thenPart
  rw [range_set]
  apply List.map_congr_left
  intro i _
  by_cases h : i = k
  · subst h; simp [mulN, hp, hk]
  · by_cases h2 : i < k
    · simp [h, h2, show i < k + 1 by omega]
    · simp [h, h2, show ¬ i < k + 1 by omega]

theorem thenPart_full (ps qs : List Nat) (n : Nat) (hp : ps.length = n) : thenPart ps qs n n = natCells (mulN ps qs) :=
  natCells_eq n _ (by rw [mulN_length, hp]) _ (fun i hi => by simp [hi])

set_option maxHeartbeats 1000000 in
theorem then_any (b off cap b2 off2 cap2 n : Nat) (ps qs : List Nat) (w : World) (h1 : 1 ≤ n) (h7 : n ≤ 7) (hp : ps.length = n) (hq : qs.length = n) (hlt : ∀ k, k < n → ps[k]?.getD 0 < n)
    (hb : b < w.heap.size) (hb2 : b2 < w.heap.size) (hrp : RdN w b off ps) (hrq : RdN w b2 off2 qs) :
    Calls Tryd.prog 34 #[.slice (some ⟨b, off, none⟩) n cap, .slice (some ⟨b2, off2, none⟩) n cap2] w fun e w' =>
      ∃ g, e = .returned (.slice (some ⟨g, 0, none⟩) n n) ∧ w.heap.size ≤ g ∧ Blk w' g (mulN ps qs) ∧ Below w.heap.size w w' := by
  obtain ⟨i0, hi, hz0, hz1, hz2⟩ := info_parts Tryd.info3
  have HP := Lib.hid hp
  have HQ := Lib.hid hq
  have HLT := Lib.hid hlt
  clear hp hq hlt
  go_enter Tryd.func34, Tryd.ntmps34
  go_wp2_with (at_make; refine wpList_make_full _ rfl _ _ 23 rfl w.heap.size 3 i0 (.int .i64 0) 1 Tryd.underlying23 hi hz0 hz1 .i64 .i64 _ _ n rfl rfl rfl rfl (by rw [hz2]; omega) (by unfold maxLen; omega) (Nat.le_refl _) ?_; intro w1 hown hgrow)
  clear hi hz0 hz1 hz2
  have hB1 : Below w.heap.size w w1 := (Below.refl _ w).grown hgrow (Nat.le_refl _) (fun k e => by cases e)
  clear hgrow
  rw [thenPart_zero ps qs] at hown
  go_loopw [13] (fun i wr => ∃ k : Nat, k ≤ n ∧ i = .int .i64 k ∧ wr.ownsRow w.heap.size 3 1 (.slice (some ⟨w.heap.size, 0, none⟩) n n) n (thenPart ps qs n k) ∧ Below w.heap.size w wr) (fun i _ => n - (intOf i).toNat)
  case atStart => exact ⟨0, Nat.zero_le _, rfl, hown, hB1⟩
  case round =>
    clear hown hB1
    obtain ⟨k, hk, rfl, hown, hB⟩ := hrel
    by_cases hkn : k < n
    · have hx := HLT.out k hkn
      have c1 := hrp.below hB hb k (by rw [HP.out]; exact hkn)
      have c2 := hrq.below hB hb2 (ps[k]?.getD 0) (by rw [HQ.out]; exact hx)
      have c3 : wr.cell? ⟨w.heap.size, k, none⟩ = (thenPart ps qs n k)[k]? := hown.cellAt k (by omega)
      have c4 : (thenPart ps qs n k)[k]? = some (.int .i64 0) := by simp [thenPart, hkn]
      rw [c4] at c3
      have f3 := hown.frozenAt k
      have hst := hown.stored k (.int .i64 ((qs[ps[k]?.getD 0]?.getD 0 : Nat) : Int))
      rw [thenPart_succ ps qs n k HP.out hkn] at hst
      have HST := Lib.hid hst
      clear hst c4
      go_wp2
      go_roundw
      case rel => exact ⟨k + 1, by omega, by go_num, HST.out.1, hB.setCell (p := ⟨w.heap.size, k, none⟩) (Nat.le_refl _) _⟩
      case measure => simp [intOf]; omega
    · have hkn2 : k = n := by omega
      subst hkn2
      have hfull := hown
      rw [thenPart_full ps qs k HP.out] at hfull
      go_wp2
      go_ret
      exact ⟨_, rfl, Nat.le_refl _, Blk.of_owns hfull, hB⟩
end Go.Proofs.YtdpnmepplkiljaaDoor
