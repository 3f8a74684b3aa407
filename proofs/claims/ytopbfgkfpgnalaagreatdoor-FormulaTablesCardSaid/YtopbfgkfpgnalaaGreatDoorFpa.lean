/-
  Contracts of EqualFunc (at lists of two lengths), shiftOf, wordsOf (at two small exponents) of package poly.
-/
import Derived.Test.YtopbfgkfpgnalaaGreatDoorUt
namespace Go.Proofs.YtopbfgkfpgnalaaGreatDoor
set_option linter.unusedVariables false
open Go.RowKit Go.Maps

set_option maxHeartbeats 1000000 in
theorem eqf_no (A B : Option Addr) (l m c d : Nat) (h : l ≠ m) (f : Value) (w : World) :
    Calls Tryz.prog 195 #[.slice A l c, .slice B m d, f] w fun e w' => e = .returned (.bool false) ∧ w = w' := by
  have h1 : ((l : Int) != (m : Int)) = true := by simp; omega
  have h2 : ((l : Int) == (m : Int)) = false := by simp; omega
  go_enter Tryz.func195, Tryz.ntmps195
  go_wp2_with fail
  go_ret
  exact ⟨rfl, rfl⟩
set_option maxHeartbeats 1000000 in
theorem shift_0 (w : World) : Calls Tryz.prog 250 #[.int .i64 0] w fun e w' => e = .returned (.int .i64 48) ∧ w = w' := by
  go_enter Tryz.func250, Tryz.ntmps250
  go_wp2_with fail
  go_ret
  exact ⟨rfl, rfl⟩
set_option maxHeartbeats 1000000 in
theorem shift_1 (w : World) : Calls Tryz.prog 250 #[.int .i64 1] w fun e w' => e = .returned (.int .i64 32) ∧ w = w' := by
  go_enter Tryz.func250, Tryz.ntmps250
  go_wp2_with fail
  go_ret
  exact ⟨rfl, rfl⟩

/-- The word of two exponents, filled in part. -/
def wdP (a b : Nat) : Nat → Int
  | 0 => 0
  | 1 => (a : Int) * 281474976710656
  | _ => (a : Int) * 281474976710656 + (b : Int) * 4294967296
theorem Tryz.infoU : (Tryz.prog.info? 121).map (fun i => (i.zero, i.size, i.bytes)) = some (some (.int .u64 0), 1, 8) := by kernel_rfl
theorem make_word : ∀ w : World, (Instr.makeSlice 120 (.int .i64 1) (.int .i64 1)).run Tryz.prog w = .ok (.slice (some ⟨w.heap.size, 0, none⟩) 1 1) (w.alloc (.cells #[.int .u64 0] 121)) := by
  intro w
  obtain ⟨i0, hi, hz0, hz1, hz2⟩ := info_parts Tryz.infoU
  have h := run_make (P := Tryz.prog) w 120 121 i0 (.int .u64 0) Tryz.underlying120 hi hz0 .i64 .i64 1 1 (by omega) (by omega) (by rw [hz2]; omega) (by omega)
  have e2 : madeCells (Value.int .u64 0).cells (1 * 1) = #[.int .u64 0] := by
    apply Array.toList_inj.1
    rw [zeros_of _ rfl]
    rfl
  rw [h, hz1, show Int.toNat 1 = 1 from rfl, e2]

set_option maxRecDepth 100000 in
set_option maxHeartbeats 4000000 in
theorem wordsOf_ok (a b : Nat) (ha : a ≤ 1) (hb : b ≤ 1) (A : Option Addr) (c : Nat) (w : World) (hA : RdI w A (nz [a, b])) :
    Calls Tryz.prog 229 #[.slice A 2 c] w fun e w' => e = .returned (.slice (some ⟨w.heap.size, 0, none⟩) 1 1) ∧ w'.heap[w.heap.size]? = some (.cells #[.int .u64 (wdP a b 2)] 121 (0, 0)) ∧ Below w.heap.size w w' := by
  have HA := Lib.hid (fun W (hW : Below w.heap.size w W) => hA.below hW)
  have HB0 := Lib.hid (show (w.alloc (.cells #[.int .u64 0] 121)).heap[w.heap.size]? = some (.cells #[.int .u64 (wdP a b 0)] 121 (0, 0)) from alloc_at _ _ _ rfl)
  have hmk := make_word
  have HSH0 := Lib.hid shift_0
  have HSH1 := Lib.hid shift_1
  clear hA
  go_enter Tryz.func229, Tryz.ntmps229
  go_wp2_with fail
  go_loopw [4, 5, 14] (fun _ _ i wr => ∃ k : Nat, k ≤ 2 ∧ i = .int .i64 k ∧ wr.heap[w.heap.size]? = some (.cells #[.int .u64 (wdP a b k)] 121 (0, 0)) ∧ Below w.heap.size w wr) (fun _ _ i _ => 2 - (intOf i).toNat)
  case atStart => exact ⟨0, by omega, rfl, HB0.out, below1 _ _⟩
  case round =>
    obtain ⟨k, hk, rfl, hblk, hB⟩ := hrel
    have HBK := Lib.hid hblk
    have HB := Lib.hid hB
    have hk3 : k = 0 ∨ k = 1 ∨ k = 2 := by omega
    rcases hk3 with rfl | rfl | rfl
    · obtain ⟨ad, rfl, g0⟩ := HA.out wr hB 0 _ rfl
      have hz : ad.add 0 = ad := rfl
      rw [hz] at g0
      have c0' : wr.cell? ⟨w.heap.size, 0, none⟩ = some (.int .u64 (wdP a b 0)) := by simp [World.cell?, hblk]
      have c0 : wr.drew.cell? ⟨w.heap.size, 0, none⟩ = some (.int .u64 (wdP a b 0)) := c0'
      have f0 : wr.drew.frozen? ⟨w.heap.size, 0, none⟩ = false := by
        have : wr.frozen? ⟨w.heap.size, 0, none⟩ = false := by simp [World.frozen?, hblk]
        exact this
      have HST := Lib.hid (fun (v : Int) => show (wr.drew.setCell ⟨w.heap.size, 0, none⟩ (.int .u64 v)).heap[w.heap.size]? = some (.cells #[.int .u64 v] 121 (0, 0)) by
        have := heap_setCell_same wr.drew w.heap.size 0 _ _ (.int .u64 v) (show wr.drew.heap[w.heap.size]? = _ from hblk)
        rw [this]; rfl)
      have iw0 : IntKind.i64.wrap 0 = 0 := by decide
      have uw0 : IntKind.u64.wrap 0 = 0 := by decide
      have uw1 : IntKind.u64.wrap 1 = 1 := by decide
      clear hblk hB
      have hab : (a = 0 ∨ a = 1) ∧ (b = 0 ∨ b = 1) := by omega
      obtain ⟨rfl | rfl, rfl | rfl⟩ := hab
      all_goals
        simp only [wdP] at c0 c0'
        (try simp only [Int.natCast_zero, Int.natCast_one] at g0)
        simp at c0 c0'
        go_wp2_with fail
        go_region_law (first
          | (go_simp; (with_reducible refine (HSH0.out _).mono ?_); rintro r wa ⟨rfl, rfl⟩))
        all_goals
          go_wp2_with fail
          go_roundw
          case rel => exact ⟨1, by omega, by go_num, HST.out _, (HB.out.drew).setCell (p := ⟨w.heap.size, 0, none⟩) (Nat.le_refl _) _⟩
          case measure => simp [intOf]
    · rw [show ((1 : Nat) : Int) = 1 from rfl]
      obtain ⟨ad, rfl, g0'⟩ := HA.out wr hB 1 _ rfl
      have g0 : wr.cell? ⟨ad.block, ad.off + 1, none⟩ = some (.int .i64 (b : Int)) := g0'
      clear g0'
      have c0' : wr.cell? ⟨w.heap.size, 0, none⟩ = some (.int .u64 (wdP a b 1)) := by simp [World.cell?, hblk]
      have c0 : wr.drew.cell? ⟨w.heap.size, 0, none⟩ = some (.int .u64 (wdP a b 1)) := c0'
      have f0 : wr.drew.frozen? ⟨w.heap.size, 0, none⟩ = false := by
        have : wr.frozen? ⟨w.heap.size, 0, none⟩ = false := by simp [World.frozen?, hblk]
        exact this
      have HST := Lib.hid (fun (v : Int) => show (wr.drew.setCell ⟨w.heap.size, 0, none⟩ (.int .u64 v)).heap[w.heap.size]? = some (.cells #[.int .u64 v] 121 (0, 0)) by
        have := heap_setCell_same wr.drew w.heap.size 0 _ _ (.int .u64 v) (show wr.drew.heap[w.heap.size]? = _ from hblk)
        rw [this]; rfl)
      have iw0 : IntKind.i64.wrap 0 = 0 := by decide
      have uw0 : IntKind.u64.wrap 0 = 0 := by decide
      have uw1 : IntKind.u64.wrap 1 = 1 := by decide
      clear hblk hB
      have hab : (a = 0 ∨ a = 1) ∧ (b = 0 ∨ b = 1) := by omega
      obtain ⟨rfl | rfl, rfl | rfl⟩ := hab
      all_goals
        simp only [wdP] at c0 c0'
        (try simp only [Int.natCast_zero, Int.natCast_one] at g0)
        simp at c0 c0'
        go_wp2_with fail
        go_region_law (first
          | (go_simp; (with_reducible refine (HSH1.out _).mono ?_); rintro r wa ⟨rfl, rfl⟩))
        all_goals
          go_wp2_with fail
          go_roundw
          case rel => exact ⟨2, by omega, by go_num, HST.out _, (HB.out.drew).setCell (p := ⟨w.heap.size, 0, none⟩) (Nat.le_refl _) _⟩
          case measure => simp [intOf]
    · go_wp2_with fail
      go_ret
      exact ⟨rfl, hblk, HB.out⟩
end Go.Proofs.YtopbfgkfpgnalaaGreatDoor
