/-
  Joined from Fmo, Fmp, Fmq: see there.
-/
import Derived.Test.YtcophfhnhlaonaaGreatDoorUo
import Derived.Test.YtcophfhnhlaonaaGreatDoorUh
namespace Go.Proofs.YtcophfhnhlaonaaGreatDoor
set_option linter.unusedVariables false
open Go.RowKit

/-- Bit j is bit i of the index start + j, for the first J. -/
def inpW (start i : Nat) : Nat → BitVec 64
  | 0 => 0
  | J + 1 => inpW start i J ||| (BitVec.ofNat 64 (bitN (start + J) i) <<< J)
def wdO (l : List (BitVec 64)) : Obj := .cells (l.map fun x => Value.int .u64 ((x.toNat : Nat) : Int)).toArray 88 (0, 0)
theorem wd_cell {w : World} {g j : Nat} {l : List (BitVec 64)} {x : BitVec 64} (h : w.heap[g]? = some (wdO l)) (hx : l[j]? = some x) : w.cell? ⟨g, j, none⟩ = some (.int .u64 ((x.toNat : Nat) : Int)) ∧ w.frozen? ⟨g, j, none⟩ = false := by
  constructor
  · simp [World.cell?, h, wdO, hx]
  · simp [World.frozen?, h, wdO]
theorem wd_set {w : World} {g j : Nat} {l : List (BitVec 64)} (x : BitVec 64) (h : w.heap[g]? = some (wdO l)) : (w.setCell ⟨g, j, none⟩ (.int .u64 ((x.toNat : Nat) : Int))).heap[g]? = some (wdO (l.set j x)) := by
  have := heap_setCell_same w g j (l.map fun (y : BitVec 64) => Value.int .u64 ((y.toNat : Nat) : Int)).toArray 88 (.int .u64 ((x.toNat : Nat) : Int)) h
  rw [this]
  simp [wdO, List.map_set]
theorem Tryz.infoU : (Tryz.prog.info? 88).map (fun i => (i.zero, i.size, i.bytes)) = some (some (.int .u64 0), 1, 8) := by kernel_rfl
theorem make_words (n : Nat) (hn : n ≤ 1048576) : ∀ w : World, (Instr.makeSlice 90 (.int .i64 (n : Int)) (.int .i64 (n : Int))).run Tryz.prog w = .ok (.slice (some ⟨w.heap.size, 0, none⟩) n n) (w.alloc (wdO (List.replicate n 0))) := by
  intro w
  obtain ⟨i0, hi, hz0, hz1, hz2⟩ := info_parts Tryz.infoU
  have h := run_make (P := Tryz.prog) w 90 88 i0 (.int .u64 0) Tryz.underlying90 hi hz0 .i64 .i64 (n : Int) (n : Int) (by omega) (by omega) (by rw [hz2]; omega) (by omega)
  rw [h, Int.toNat_natCast, hz1]
  have e2 : madeCells (Value.int .u64 0).cells (n * 1) = ((List.replicate n (0 : BitVec 64)).map fun x => Value.int .u64 ((x.toNat : Nat) : Int)).toArray := by
    apply Array.toList_inj.1
    rw [zeros_of _ rfl]
    simp
  rw [e2]
  rfl
/-- The row when i words are whole and j bits of the next are. -/
def rowI (start n i j : Nat) : List (BitVec 64) := (List.range n).map fun a => if a < i then inpW start a 64 else if a = i then inpW start i j else 0
theorem rowI_length (start n i j : Nat) : (rowI start n i j).length = n := by simp [rowI]
theorem rowI_zero (start n : Nat) : rowI start n 0 0 = List.replicate n 0 := by
  apply List.ext_getElem?
  intro a
  by_cases h : a < n
  · simp [rowI, h, inpW]
  · simp [rowI, h]
theorem rowI_at {start n i j : Nat} (h : i < n) : (rowI start n i j)[i]? = some (inpW start i j) := by simp [rowI, h]
theorem rowI_next {start n i j : Nat} (h : i < n) : (rowI start n i j).set i (inpW start i (j + 1)) = rowI start n i (j + 1) := by
  apply List.ext_getElem?
  intro a
  rw [List.getElem?_set]
  by_cases ha : a < n
  · by_cases hia : i = a
    · subst hia
      simp [rowI, h]
    · have : a ≠ i := fun e => hia e.symm
      simp [rowI, ha, hia, this]
  · by_cases hia : i = a
    · omega
    · simp [rowI, ha, hia]
theorem rowI_full (start n i : Nat) : rowI start n i 64 = rowI start n (i + 1) 0 := by
  unfold rowI
  refine List.map_congr_left fun a ha => ?_
  by_cases h1 : a < i
  · simp [h1, Nat.lt_succ_of_lt h1]
  · by_cases h2 : a = i
    · subst h2; simp
    · have h3 : ¬ a < i + 1 := by omega
      simp only [if_neg h1, if_neg h2, if_neg h3]
      split <;> simp [inpW]

theorem ins_bit (x : BitVec 64) (s i j : Nat) (hs : s < 9223372036854775808) (hj : j < 64) :
    bits .or .u64 ((x.toNat : Nat) : Int) (IntKind.u64.wrap (IntKind.u64.wrap (bits .and .i64 ((s : Int) / 2 ^ i) 1) * 2 ^ j)) = (((x ||| (BitVec.ofNat 64 (bitN s i) <<< j)).toNat : Nat) : Int) := by
  have h1 : bits .and .i64 ((s : Int) / 2 ^ i) 1 = ((bitN s i : Nat) : Int) := by
    have hdv : (s : Int) / 2 ^ i = ((s / 2 ^ i : Nat) : Int) := by simp
    rw [hdv, and1_nat _ (by have := Nat.div_le_self s (2 ^ i); omega)]
    rfl
  have h2 : bitN s i = 0 ∨ bitN s i = 1 := by unfold bitN; omega
  have hp : (2 : Nat) ^ j < 2 ^ 64 := Nat.pow_lt_pow_right (by omega) hj
  have h3 : IntKind.u64.wrap (IntKind.u64.wrap ((bitN s i : Nat) : Int) * 2 ^ j) = (((BitVec.ofNat 64 (bitN s i) <<< j).toNat : Nat) : Int) := by
    rcases h2 with h2 | h2
    · rw [h2]; simp [IntKind.wrap_u64]
    · rw [h2]
      have e : (((2 : Int) ^ j)) = ((2 ^ j : Nat) : Int) := by simp
      have e1 : IntKind.u64.wrap ((1 : Nat) : Int) = 1 := by decide
      rw [e1, Int.one_mul, e, IntKind.wrap_u64, BitVec.toNat_shiftLeft]
      simp [Nat.shiftLeft_eq]
  rw [h1, h3, or_u64]

end Go.Proofs.YtcophfhnhlaonaaGreatDoor
namespace Go.Proofs.YtcophfhnhlaonaaGreatDoor
set_option linter.unusedVariables false
open Go.RowKit

def blO (l : List Bool) : Obj := .cells (l.map Value.bool).toArray 4 (0, 0)
theorem bl_cell {w : World} {g j : Nat} {l : List Bool} {x : Bool} (h : w.heap[g]? = some (blO l)) (hx : l[j]? = some x) : w.cell? ⟨g, j, none⟩ = some (.bool x) ∧ w.frozen? ⟨g, j, none⟩ = false := by
  constructor
  · simp [World.cell?, h, blO, hx]
  · simp [World.frozen?, h, blO]
theorem bl_set {w : World} {g j : Nat} {l : List Bool} (x : Bool) (h : w.heap[g]? = some (blO l)) : (w.setCell ⟨g, j, none⟩ (.bool x)).heap[g]? = some (blO (l.set j x)) := by
  have := heap_setCell_same w g j (l.map Value.bool).toArray 4 (.bool x) h
  rw [this]
  simp [blO, List.map_set]
theorem Tryz.infoBl : (Tryz.prog.info? 4).map (fun i => (i.zero, i.size, i.bytes)) = some (some (.bool false), 1, 1) := by kernel_rfl
theorem make_bools (n : Nat) (hn : n ≤ 1048576) : ∀ w : World, (Instr.makeSlice 44 (.int .i64 (n : Int)) (.int .i64 (n : Int))).run Tryz.prog w = .ok (.slice (some ⟨w.heap.size, 0, none⟩) n n) (w.alloc (blO (List.replicate n false))) := by
  intro w
  obtain ⟨i0, hi, hz0, hz1, hz2⟩ := info_parts Tryz.infoBl
  have h := run_make (P := Tryz.prog) w 44 4 i0 (.bool false) Tryz.underlying44 hi hz0 .i64 .i64 (n : Int) (n : Int) (by omega) (by omega) (by rw [hz2]; omega) (by omega)
  rw [h, Int.toNat_natCast, hz1]
  have e2 : madeCells (Value.bool false).cells (n * 1) = ((List.replicate n false).map Value.bool).toArray := by
    apply Array.toList_inj.1
    rw [zeros_of _ rfl]
    simp
  rw [e2]
  rfl
/-- The table's entry i. -/
def tabP (t : Tre) (n i : Nat) : Bool := decide ((valB (rowI (i / 64 * 64) n n 0) t).toNat / 2 ^ (i % 64) % 2 = 1)
def tabR (t : Tre) (n L k : Nat) : List Bool := (List.range L).map fun a => if a < k then tabP t n a else false
theorem tabR_zero (t : Tre) (n L : Nat) : tabR t n L 0 = List.replicate L false := by
  apply List.ext_getElem?
  intro a
  by_cases h : a < L <;> simp [tabR, h]
theorem tabR_at {t : Tre} {n L k : Nat} (h : k < L) : (tabR t n L k)[k]? = some false := by simp [tabR, h]
theorem tabR_next {t : Tre} {n L k : Nat} (h : k < L) : (tabR t n L k).set k (tabP t n k) = tabR t n L (k + 1) := by
  apply List.ext_getElem?
  intro a
  rw [List.getElem?_set]
  by_cases ha : a < L
  · by_cases hka : k = a
    · subst hka
      simp [tabR, h]
    · have h2 : a < k + 1 ↔ a < k := by omega
      simp [tabR, ha, hka, h2]
  · by_cases hka : k = a
    · omega
    · simp [tabR, ha, hka]
theorem RdW.of_block {w : World} {g : Nat} {l : List (BitVec 64)} (h : w.heap[g]? = some (wdO l)) : RdW w (some ⟨g, 0, none⟩) l := fun k x hk =>
  ⟨g, 0, rfl, by rw [Nat.zero_add]; exact (wd_cell h hk).1⟩
theorem take_bit (x : BitVec 64) (j : Nat) (hj : j < 64) : bits .and .u64 (((x.toNat : Nat) : Int) / 2 ^ j) 1 = ((x.toNat / 2 ^ j % 2 : Nat) : Int) := by
  have hx := x.isLt
  have h1 : x.toNat / 2 ^ j < 2 ^ 64 := Nat.lt_of_le_of_lt (Nat.div_le_self _ _) hx
  have e : (((x.toNat : Nat) : Int) / 2 ^ j) = (((BitVec.ofNat 64 (x.toNat / 2 ^ j)).toNat : Nat) : Int) := by
    rw [BitVec.toNat_ofNat, Nat.mod_eq_of_lt h1]
    simp
  have e1 : (1 : Int) = (((1 : BitVec 64).toNat : Nat) : Int) := by decide
  rw [e, e1, and_u64, BitVec.toNat_and, BitVec.toNat_ofNat, Nat.mod_eq_of_lt h1]
  have : (1 : BitVec 64).toNat = 2 ^ 1 - 1 := by decide
  rw [this, Nat.and_two_pow_sub_one_eq_mod]

end Go.Proofs.YtcophfhnhlaonaaGreatDoor
namespace Go.Proofs.YtcophfhnhlaonaaGreatDoor
set_option linter.unusedVariables false
open Go.RowKit

/-- What Table leaves. -/
def TblIs (o : Option (Nat × Nat × Nat × Nat)) (t : Tre) (nv : Int) (w : World) (e : Ending) (w' : World) : Prop :=
  match o with
  | none => e = .returned (.tuple #[.slice none 0 0, .int .i64 1])
  | some x => ((nv < (x.2.1 : Int) ∨ 12 < nv) ∧ e = .returned (.tuple #[.slice none 0 0, .int .i64 2])) ∨ ((x.2.1 : Int) ≤ nv ∧ nv ≤ 12 ∧ ∃ g, w.heap.size ≤ g ∧ e = .returned (.tuple #[.slice (some ⟨g, 0, none⟩) (2 ^ nv.toNat) (2 ^ nv.toNat), .int .i64 0]) ∧ w'.heap[g]? = some (blO (tabR t nv.toNat (2 ^ nv.toNat) (2 ^ nv.toNat))))

end Go.Proofs.YtcophfhnhlaonaaGreatDoor
