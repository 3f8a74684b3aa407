/-
  Joined from Fmo, Fmp, Fmq: see there.
-/
import Derived.Test.YtcophfhnhlaonaaDoorUo
import Derived.Test.YtcophfhnhlaonaaDoorUh
namespace Go.Proofs.YtcophfhnhlaonaaDoor
set_option linter.unusedVariables false
open Go.RowKit

/-- Bit j is bit i of the index start + j, for the first J. -/
def inpW (start i : Nat) : Nat → BitVec 64
  | 0 => 0
  | J + 1 => inpW start i J ||| (BitVec.ofNat 64 (bitN (start + J) i) <<< J)
def wdO (l : List (BitVec 64)) : Obj := .cells (l.map fun x => Value.int .u64 ((x.toNat : Nat) : Int)).toArray 66 (0, 0)
theorem wd_cell {w : World} {g j : Nat} {l : List (BitVec 64)} {x : BitVec 64} (h : w.heap[g]? = some (wdO l)) (hx : l[j]? = some x) : w.cell? ⟨g, j, none⟩ = some (.int .u64 ((x.toNat : Nat) : Int)) ∧ w.frozen? ⟨g, j, none⟩ = false := by
  constructor
  · simp [World.cell?, h, wdO, hx]
  · simp [World.frozen?, h, wdO]
theorem wd_set {w : World} {g j : Nat} {l : List (BitVec 64)} (x : BitVec 64) (h : w.heap[g]? = some (wdO l)) : (w.setCell ⟨g, j, none⟩ (.int .u64 ((x.toNat : Nat) : Int))).heap[g]? = some (wdO (l.set j x)) := by
  have := heap_setCell_same w g j (l.map fun (y : BitVec 64) => Value.int .u64 ((y.toNat : Nat) : Int)).toArray 66 (.int .u64 ((x.toNat : Nat) : Int)) h
  rw [this]
  simp [wdO, List.map_set]
theorem Tryd.infoU : (Tryd.prog.info? 66).map (fun i => (i.zero, i.size, i.bytes)) = some (some (.int .u64 0), 1, 8) := by kernel_rfl
theorem make_words (n : Nat) (hn : n ≤ 1048576) : ∀ w : World, (Instr.makeSlice 65 (.int .i64 (n : Int)) (.int .i64 (n : Int))).run Tryd.prog w = .ok (.slice (some ⟨w.heap.size, 0, none⟩) n n) (w.alloc (wdO (List.replicate n 0))) := by
  intro w
  obtain ⟨i0, hi, hz0, hz1, hz2⟩ := info_parts Tryd.infoU
  have h := run_make (P := Tryd.prog) w 65 66 i0 (.int .u64 0) Tryd.underlying65 hi hz0 .i64 .i64 (n : Int) (n : Int) (by omega) (by omega) (by rw [hz2]; omega) (by omega)
  rw [h, Int.toNat_natCast, hz1]
  have e2 : madeCells (Value.int .u64 0).cells (n * 1) = ((List.replicate n (0 : BitVec 64)).map fun x => Value.int .u64 ((x.toNat : Nat) : Int)).toArray := by
    apply Array.toList_inj.1
    rw [zeros_of _ rfl]
    simp
  rw [e2]
  rfl
/-- The row when i words are whole and j bits of the next are. -/
def rowI (start n i j : Nat) : List (BitVec 64) := (List.range n).map fun a => if a < i then inpW start a 64 else if a = i then inpW start i j else 0
theorem rowI_length (start n i j : Nat) : (rowI start n i j).length = n := by simp [rowI]
theorem rowI_zero (start n : Nat) : rowI start n 0 0 = List.replicate n 0 := by
  apply List.ext_getElem?
  intro a
  by_cases h : a < n
  · simp [rowI, h, inpW]
  · simp [rowI, h]
theorem rowI_at {start n i j : Nat} (h : i < n) : (rowI start n i j)[i]? = some (inpW start i j) := by simp [rowI, h]
theorem rowI_next {start n i j : Nat} (h : i < n) : (rowI start n i j).set i (inpW start i (j + 1)) = rowI start n i (j + 1) := by
  apply List.ext_getElem?
  intro a
  rw [List.getElem?_set]
  by_cases ha : a < n
  · by_cases hia : i = a
    · subst hia
      simp [rowI, h]
    · have : a ≠ i := fun e => hia e.symm
      simp [rowI, ha, hia, this]
  · by_cases hia : i = a
    · omega
    · simp [rowI, ha, hia]
theorem rowI_full (start n i : Nat) : rowI start n i 64 = rowI start n (i + 1) 0 := by
  unfold rowI
  refine List.map_congr_left fun a ha => ?_
  by_cases h1 : a < i
  · simp [h1, Nat.lt_succ_of_lt h1]
  · by_cases h2 : a = i
    · subst h2; simp
    · have h3 : ¬ a < i + 1 := by omega
      simp only [if_neg h1, if_neg h2, if_neg h3]
      split <;> simp [inpW]

theorem ins_bit (x : BitVec 64) (s i j : Nat) (hs : s < 9223372036854775808) (hj : j < 64) :
    bits .or .u64 ((x.toNat : Nat) : Int) (IntKind.u64.wrap (IntKind.u64.wrap (bits .and .i64 ((s : Int) / 2 ^ i) 1) * 2 ^ j)) = (((x ||| (BitVec.ofNat 64 (bitN s i) <<< j)).toNat : Nat) : Int) := by
  have h1 : bits .and .i64 ((s : Int) / 2 ^ i) 1 = ((bitN s i : Nat) : Int) := by
    have hdv : (s : Int) / 2 ^ i = ((s / 2 ^ i : Nat) : Int) := by simp
    rw [hdv, and1_nat _ (by have := Nat.div_le_self s (2 ^ i); omega)]
    rfl
  have h2 : bitN s i = 0 ∨ bitN s i = 1 := by unfold bitN; omega
  have hp : (2 : Nat) ^ j < 2 ^ 64 := Nat.pow_lt_pow_right (by omega) hj
  have h3 : IntKind.u64.wrap (IntKind.u64.wrap ((bitN s i : Nat) : Int) * 2 ^ j) = (((BitVec.ofNat 64 (bitN s i) <<< j).toNat : Nat) : Int) := by
    rcases h2 with h2 | h2
    · rw [h2]; simp [IntKind.wrap_u64]
    · rw [h2]
      have e : (((2 : Int) ^ j)) = ((2 ^ j : Nat) : Int) := by simp
      have e1 : IntKind.u64.wrap ((1 : Nat) : Int) = 1 := by decide
      rw [e1, Int.one_mul, e, IntKind.wrap_u64, BitVec.toNat_shiftLeft]
      simp [Nat.shiftLeft_eq]
  rw [h1, h3, or_u64]

set_option maxRecDepth 100000 in
set_option maxHeartbeats 4000000 in
theorem inputsFrom_ok (start n : Nat) (hs : start ≤ 8192) (hn : n ≤ 16) (w : World) :
    Calls Tryd.prog 50 #[.int .i64 (start : Int), .int .i64 (n : Int)] w fun e w' => ∃ g, w.heap.size ≤ g ∧ e = .returned (.slice (some ⟨g, 0, none⟩) n n) ∧ w'.heap[g]? = some (wdO (rowI start n n 0)) ∧ Below w.heap.size w w' := by
  have hmk := make_words n (by omega)
  have HST := Lib.hid (show (w.alloc (wdO (List.replicate n 0))).heap[w.heap.size]? = some (wdO (rowI start n 0 0)) by rw [rowI_zero]; exact alloc_at _ _ _ rfl)
  have HB0 := Lib.hid (below1 w (wdO (List.replicate n 0)))
  go_enter Tryd.func50, Tryd.ntmps50
  go_wp2_with fail
  go_loopw [6, 7, 12, 15] (fun _ _ iv _ W => ∃ i : Nat, i ≤ n ∧ iv = .int .i64 i ∧ W.heap[w.heap.size]? = some (wdO (rowI start n i 0)) ∧ Below w.heap.size w W) (fun _ _ iv _ _ => n - (intOf iv).toNat)
  case atStart => exact ⟨0, by omega, rfl, HST.out, HB0.out⟩
  case round =>
    obtain ⟨i, hi, rfl, hg, hB⟩ := hrel
    have HG := Lib.hid (And.intro hg hB)
    clear hg hB HST HB0
    by_cases hlt : i < n
    · obtain ⟨wo, rfl⟩ : ∃ wo : World, wo = wr := ⟨_, rfl⟩
      go_wp2_with fail
      go_loopw [7, 15] (fun _ jv W => ∃ j : Nat, j ≤ 64 ∧ jv = .int .i64 j ∧ W.heap[w.heap.size]? = some (wdO (rowI start n i j)) ∧ Below w.heap.size w W) (fun _ jv _ => 64 - (intOf jv).toNat)
      case atStart => exact ⟨0, by omega, rfl, HG.out⟩
      case round =>
        clear HG
        obtain ⟨j, hj, rfl, hg, hB⟩ := hrel
        have HGJ := Lib.hid hg
        have HBJ := Lib.hid hB
        by_cases hjl : j < 64
        · obtain ⟨c1, f1⟩ := wd_cell hg (rowI_at hlt)
          have hset := wd_set (j := i) (inpW start i j ||| (BitVec.ofNat 64 (bitN (start + j) i) <<< j)) hg
          rw [show (rowI start n i j).set i (inpW start i j ||| (BitVec.ofNat 64 (bitN (start + j) i) <<< j)) = rowI start n i (j + 1) from rowI_next hlt] at hset
          have hbit := ins_bit (inpW start i j) (start + j) i j (by omega) hjl
          rw [← hbit, show ((start + j : Nat) : Int) = (start : Int) + (j : Int) by omega] at hset
          have HSET := Lib.hid hset
          generalize inpW start i j = x at *
          clear hg hB hset hbit
          go_wp2_with fail
          go_region
          go_wp2_with fail
          go_roundw
          case rel => exact ⟨j + 1, by omega, by go_num, HSET.out, (HBJ.out.setCell (p := ⟨w.heap.size, i, none⟩) (Nat.le_refl _) _).drew⟩
          case measure => simp [intOf]; omega
        · have hjj : j = 64 := by omega
          have HG2 : Hid (wr.heap[w.heap.size]? = some (wdO (rowI start n (i + 1) 0))) := Lib.hid (by rw [← rowI_full, ← hjj]; exact hg)
          clear hg hB
          go_wp2_with fail
          go_roundw
          case rel => exact ⟨i + 1, by omega, by go_num, HG2.out, HBJ.out⟩
          case measure => simp [intOf]; omega
    · have hin : i = n := by omega
      have HG2 : Hid (wr.heap[w.heap.size]? = some (wdO (rowI start n n 0)) ∧ Below w.heap.size w wr) := Lib.hid (by have h := HG.out.1; rw [hin] at h; exact ⟨h, HG.out.2⟩)
      clear hin
      go_wp2_with fail
      go_ret
      exact ⟨w.heap.size, Nat.le_refl _, rfl, HG2.out⟩
end Go.Proofs.YtcophfhnhlaonaaDoor
namespace Go.Proofs.YtcophfhnhlaonaaDoor
set_option linter.unusedVariables false
open Go.RowKit

def blO (l : List Bool) : Obj := .cells (l.map Value.bool).toArray 4 (0, 0)
theorem bl_cell {w : World} {g j : Nat} {l : List Bool} {x : Bool} (h : w.heap[g]? = some (blO l)) (hx : l[j]? = some x) : w.cell? ⟨g, j, none⟩ = some (.bool x) ∧ w.frozen? ⟨g, j, none⟩ = false := by
  constructor
  · simp [World.cell?, h, blO, hx]
  · simp [World.frozen?, h, blO]
theorem bl_set {w : World} {g j : Nat} {l : List Bool} (x : Bool) (h : w.heap[g]? = some (blO l)) : (w.setCell ⟨g, j, none⟩ (.bool x)).heap[g]? = some (blO (l.set j x)) := by
  have := heap_setCell_same w g j (l.map Value.bool).toArray 4 (.bool x) h
  rw [this]
  simp [blO, List.map_set]
theorem Tryd.infoBl : (Tryd.prog.info? 4).map (fun i => (i.zero, i.size, i.bytes)) = some (some (.bool false), 1, 1) := by kernel_rfl
theorem make_bools (n : Nat) (hn : n ≤ 1048576) : ∀ w : World, (Instr.makeSlice 29 (.int .i64 (n : Int)) (.int .i64 (n : Int))).run Tryd.prog w = .ok (.slice (some ⟨w.heap.size, 0, none⟩) n n) (w.alloc (blO (List.replicate n false))) := by
  intro w
  obtain ⟨i0, hi, hz0, hz1, hz2⟩ := info_parts Tryd.infoBl
  have h := run_make (P := Tryd.prog) w 29 4 i0 (.bool false) Tryd.underlying29 hi hz0 .i64 .i64 (n : Int) (n : Int) (by omega) (by omega) (by rw [hz2]; omega) (by omega)
  rw [h, Int.toNat_natCast, hz1]
  have e2 : madeCells (Value.bool false).cells (n * 1) = ((List.replicate n false).map Value.bool).toArray := by
    apply Array.toList_inj.1
    rw [zeros_of _ rfl]
    simp
  rw [e2]
  rfl
/-- The table's entry i. -/
def tabP (t : Tre) (n i : Nat) : Bool := decide ((valB (rowI (i / 64 * 64) n n 0) t).toNat / 2 ^ (i % 64) % 2 = 1)
def tabR (t : Tre) (n L k : Nat) : List Bool := (List.range L).map fun a => if a < k then tabP t n a else false
theorem tabR_zero (t : Tre) (n L : Nat) : tabR t n L 0 = List.replicate L false := by
  apply List.ext_getElem?
  intro a
  by_cases h : a < L <;> simp [tabR, h]
theorem tabR_at {t : Tre} {n L k : Nat} (h : k < L) : (tabR t n L k)[k]? = some false := by simp [tabR, h]
theorem tabR_next {t : Tre} {n L k : Nat} (h : k < L) : (tabR t n L k).set k (tabP t n k) = tabR t n L (k + 1) := by
  apply List.ext_getElem?
  intro a
  rw [List.getElem?_set]
  by_cases ha : a < L
  · by_cases hka : k = a
    · subst hka
      simp [tabR, h]
    · have h2 : a < k + 1 ↔ a < k := by omega
      simp [tabR, ha, hka, h2]
  · by_cases hka : k = a
    · omega
    · simp [tabR, ha, hka]
theorem RdW.of_block {w : World} {g : Nat} {l : List (BitVec 64)} (h : w.heap[g]? = some (wdO l)) : RdW w (some ⟨g, 0, none⟩) l := fun k x hk =>
  ⟨g, 0, rfl, by rw [Nat.zero_add]; exact (wd_cell h hk).1⟩
theorem take_bit (x : BitVec 64) (j : Nat) (hj : j < 64) : bits .and .u64 (((x.toNat : Nat) : Int) / 2 ^ j) 1 = ((x.toNat / 2 ^ j % 2 : Nat) : Int) := by
  have hx := x.isLt
  have h1 : x.toNat / 2 ^ j < 2 ^ 64 := Nat.lt_of_le_of_lt (Nat.div_le_self _ _) hx
  have e : (((x.toNat : Nat) : Int) / 2 ^ j) = (((BitVec.ofNat 64 (x.toNat / 2 ^ j)).toNat : Nat) : Int) := by
    rw [BitVec.toNat_ofNat, Nat.mod_eq_of_lt h1]
    simp
  have e1 : (1 : Int) = (((1 : BitVec 64).toNat : Nat) : Int) := by decide
  rw [e, e1, and_u64, BitVec.toNat_and, BitVec.toNat_ofNat, Nat.mod_eq_of_lt h1]
  have : (1 : BitVec 64).toNat = 2 ^ 1 - 1 := by decide
  rw [this, Nat.and_two_pow_sub_one_eq_mod]

end Go.Proofs.YtcophfhnhlaonaaDoor
namespace Go.Proofs.YtcophfhnhlaonaaDoor
set_option linter.unusedVariables false
open Go.RowKit

/-- What Table leaves. -/
def TblIs (o : Option (Nat × Nat × Nat × Nat)) (t : Tre) (nv : Int) (w : World) (e : Ending) (w' : World) : Prop :=
  match o with
  | none => e = .returned (.tuple #[.slice none 0 0, .int .i64 1])
  | some x => ((nv < (x.2.1 : Int) ∨ 12 < nv) ∧ e = .returned (.tuple #[.slice none 0 0, .int .i64 2])) ∨ ((x.2.1 : Int) ≤ nv ∧ nv ≤ 12 ∧ ∃ g, w.heap.size ≤ g ∧ e = .returned (.tuple #[.slice (some ⟨g, 0, none⟩) (2 ^ nv.toNat) (2 ^ nv.toNat), .int .i64 0]) ∧ w'.heap[g]? = some (blO (tabR t nv.toNat (2 ^ nv.toNat) (2 ^ nv.toNat))))

set_option maxRecDepth 100000 in
set_option maxHeartbeats 8000000 in
theorem Table_ok (t : Tre) (v : Value) (nv : Int) (hnv : -9223372036854775808 ≤ nv ∧ nv ≤ 9223372036854775807) (w : World) (hT : TreV 0 w t v) :
    Calls Tryd.prog 28 #[v, .int .i64 nv] w fun e w' => TblIs (mesI fSh t) t nv w e w' ∧ Below w.heap.size w w' := by
  obtain ⟨k, n, ts⟩ := t
  have hT2 := hT
  unfold TreV at hT2
  obtain ⟨A, c, rfl, _⟩ := hT2
  have hb1 := below1 w (.cells #[.int .i64 k, .int .i64 n, .slice A ts.length c] 47)
  have HTT := Lib.hid (fun W (hW : Below w.heap.size w W) => hT.below hW)
  have HF := Lib.hid (fun W => formulas_ok W)
  have HME := Lib.hid (fun g W hs hT => measure_ok g fSh (by decide) (by decide) (by decide) (by decide) (.mk k n ts) (.agg #[.int .i64 k, .int .i64 n, .slice A ts.length c]) W hs hT)
  have HB1 := Lib.hid hb1
  have hsz : (w.alloc (.cells #[.int .i64 k, .int .i64 n, .slice A ts.length c] 47)).heap.size = w.heap.size + 1 := by simp
  have HSZ := Lib.hid hsz
  obtain ⟨t0, t1, t2⟩ := (show (w.alloc (.cells #[.int .i64 k, .int .i64 n, .slice A ts.length c] 47)).cell? ⟨w.heap.size, 0, none⟩ = some (.int .i64 k) ∧ (w.alloc (.cells #[.int .i64 k, .int .i64 n, .slice A ts.length c] 47)).cell? ⟨w.heap.size, 1, none⟩ = some (.int .i64 n) ∧ (w.alloc (.cells #[.int .i64 k, .int .i64 n, .slice A ts.length c] 47)).cell? ⟨w.heap.size, 2, none⟩ = some (.slice A ts.length c) from ⟨World.cell?_alloc_new _ _ _ 0, World.cell?_alloc_new _ _ _ 1, World.cell?_alloc_new _ _ _ 2⟩)
  obtain ⟨d0, d1, d2⟩ := (show ((w.alloc (.cells #[.int .i64 k, .int .i64 n, .slice A ts.length c] 47)).alloc (.cells #[.int .i64 0, .int .i64 0, .int .i64 0, .int .i64 0] 73)).cell? ⟨w.heap.size, 0, none⟩ = some (.int .i64 k) ∧ ((w.alloc (.cells #[.int .i64 k, .int .i64 n, .slice A ts.length c] 47)).alloc (.cells #[.int .i64 0, .int .i64 0, .int .i64 0, .int .i64 0] 73)).cell? ⟨w.heap.size, 1, none⟩ = some (.int .i64 n) ∧ ((w.alloc (.cells #[.int .i64 k, .int .i64 n, .slice A ts.length c] 47)).alloc (.cells #[.int .i64 0, .int .i64 0, .int .i64 0, .int .i64 0] 73)).cell? ⟨w.heap.size, 2, none⟩ = some (.slice A ts.length c) from ⟨(World.cell?_alloc_lt _ _ _ (by simp)).trans t0, (World.cell?_alloc_lt _ _ _ (by simp)).trans t1, (World.cell?_alloc_lt _ _ _ (by simp)).trans t2⟩)
  have HOKT := Lib.hid (show ∀ a b c d, mesI fSh (.mk k n ts) = some (a, b, c, d) → okT fSh b (.mk k n ts) from fun a b c' d h => by
    unfold mesI at h
    split at h
    · rename_i d' m' hv
      simp at h
      obtain ⟨_, rfl, _, _⟩ := h
      exact (visN_okT hv).1
    · simp at h)
  clear hT hb1 hsz
  rw [mesV_eq] at HME
  generalize ho : mesI fSh (.mk k n ts) = o at *
  clear ho
  unfold langV at HF HME
  go_enter Tryd.func28, Tryd.ntmps28
  go_upto_region 1 with fail
  generalize w.alloc (.cells #[.int .i64 k, .int .i64 n, .slice A ts.length c] 47) = w1 at *
  go_cut [6, 7] (fun ta tb wx => ∃ bm, ta = .pointer (some ⟨bm, 0, none⟩) ∧ tb = .bool o.isSome ∧ wx.heap[bm]? = some (.cells #[.int .i64 (mesA o), .int .i64 (mesB o), .int .i64 (mesC o), .int .i64 (mesD o)] 73 (0, 0)) ∧ Below w1.heap.size w1 wx)
  case first =>
    go_region_law (first
      | (have hp := (Below.refl w1.heap.size w1).drew; go_simp; (with_reducible refine (HF.out w1.drew).mono ?_); rintro e wa ⟨g, hg, rfl, hs, hBa⟩; have hba := hp.trans (hBa.mono (Nat.le_refl _)); have a0 := (hba.cell (World.block_lt_of_cell? w1 _ t0)).trans t0; have a1 := (hba.cell (World.block_lt_of_cell? w1 _ t1)).trans t1; have a2 := (hba.cell (World.block_lt_of_cell? w1 _ t2)).trans t2; have hq := hba.alloc hba.size (.cells #[.int .i64 0, .int .i64 0, .int .i64 0, .int .i64 0] 73); have aa0 := (hq.cell (World.block_lt_of_cell? w1 _ t0)).trans t0; have aa1 := (hq.cell (World.block_lt_of_cell? w1 _ t1)).trans t1; have aa2 := (hq.cell (World.block_lt_of_cell? w1 _ t2)).trans t2)
      | (have hp := ((Below.refl w1.heap.size w1).alloc (Nat.le_refl _) (.cells #[.int .i64 0, .int .i64 0, .int .i64 0, .int .i64 0] 73)).drew; go_simp; (with_reducible refine (HF.out (w1.alloc (.cells #[.int .i64 0, .int .i64 0, .int .i64 0, .int .i64 0] 73)).drew).mono ?_); rintro e wa ⟨g, hg, rfl, hs, hBa⟩; have hba := hp.trans (hBa.mono (by simp)); have a0 := (hba.cell (World.block_lt_of_cell? w1 _ t0)).trans t0; have a1 := (hba.cell (World.block_lt_of_cell? w1 _ t1)).trans t1; have a2 := (hba.cell (World.block_lt_of_cell? w1 _ t2)).trans t2; have hqa := (hBa.block w1.heap.size (by simp)).trans (alloc_at w1 (.cells #[.int .i64 0, .int .i64 0, .int .i64 0, .int .i64 0] 73) w1.heap.size rfl); obtain ⟨⟨q0, q1, q2, q3⟩, y0, y1, y2, y3⟩ := blk4_cells hqa)
      | (have hp := hba; have hlt := World.block_lt_of_cell? wa _ (hs 0 _ rfl).1; go_simp; (with_reducible refine (HME.out g wa hs (HTT.out wa (HB1.out.trans (hp.mono HB1.out.size)))).mono ?_); rintro e wb ⟨rfl, hBb⟩; have hbb := hp.trans (hBb.mono hp.size); have hqb := (hBb.block w1.heap.size (World.block_lt_of_cell? wa _ q0)).trans hqa; have u0 := (hBb.cell (World.block_lt_of_cell? wa _ q0)).trans q0; have u1 := (hBb.cell (World.block_lt_of_cell? wa _ q1)).trans q1; have u2 := (hBb.cell (World.block_lt_of_cell? wa _ q2)).trans q2; have u3 := (hBb.cell (World.block_lt_of_cell? wa _ q3)).trans q3; have x0 := (hBb.frozen (p := ⟨w1.heap.size, 0, none⟩) (World.block_lt_of_cell? wa _ q0)).trans y0; have x1 := (hBb.frozen (p := ⟨w1.heap.size, 1, none⟩) (World.block_lt_of_cell? wa _ q1)).trans y1; have x2 := (hBb.frozen (p := ⟨w1.heap.size, 2, none⟩) (World.block_lt_of_cell? wa _ q2)).trans y2; have x3 := (hBb.frozen (p := ⟨w1.heap.size, 3, none⟩) (World.block_lt_of_cell? wa _ q3)).trans y3)
      | (have hp := hba; have hlt := World.block_lt_of_cell? wa _ (hs 0 _ rfl).1; go_simp; (with_reducible refine (HME.out g wa hs (HTT.out wa (HB1.out.trans (hp.mono HB1.out.size)))).mono ?_); rintro e wb ⟨rfl, hBb⟩; have hbb := hp.trans (hBb.mono hp.size))
      | (have hp := hba.alloc hba.size (.cells #[.int .i64 0, .int .i64 0, .int .i64 0, .int .i64 0] 73); have hsb := hs.below (below1 wa (.cells #[.int .i64 0, .int .i64 0, .int .i64 0, .int .i64 0] 73)); go_simp; (with_reducible refine (HME.out g (wa.alloc (.cells #[.int .i64 0, .int .i64 0, .int .i64 0, .int .i64 0] 73)) hsb (HTT.out (wa.alloc (.cells #[.int .i64 0, .int .i64 0, .int .i64 0, .int .i64 0] 73)) (HB1.out.trans (hp.mono HB1.out.size)))).mono ?_); rintro e wb ⟨rfl, hBb⟩; have hbb := hp.trans (hBb.mono hp.size); have hqb := (hBb.block wa.heap.size (by simp)).trans (alloc_at wa (.cells #[.int .i64 0, .int .i64 0, .int .i64 0, .int .i64 0] 73) wa.heap.size rfl); obtain ⟨⟨q0, q1, q2, q3⟩, y0, y1, y2, y3⟩ := blk4_cells hqb))
    all_goals
      have hl2 := hba.size
      have hl3 := hbb.size
      have HW := Lib.hid (And.intro hl2 hl3)
      clear hl2 hl3
      go_wp2_with fail
      go_meet
      obtain ⟨hl2, hl3⟩ := HW.out
      first
        | (have hq := put4_heap (.int .i64 (mesA o)) (.int .i64 (mesB o)) (.int .i64 (mesC o)) (.int .i64 (mesD o)) hqb; exact ⟨_, rfl, rfl, hq, put4_below hbb hl2 _ _ _ _⟩)
        | (have hq := put4_heap (.int .i64 (mesA o)) (.int .i64 (mesB o)) (.int .i64 (mesC o)) (.int .i64 (mesD o)) hqb; exact ⟨_, rfl, rfl, hq, put4_below hbb (Nat.le_refl _) _ _ _ _⟩)
        | exact ⟨_, rfl, rfl, (MapKept.heap_alloc wb _).1, hbb.alloc hl3 _⟩
  case rest =>
    obtain ⟨wm, rfl⟩ : ∃ wm : World, wm = wc := ⟨_, rfl⟩
    obtain ⟨bm, rfl, rfl, hm, hbx⟩ := hcut
    obtain ⟨⟨m0, m1, m2, m3⟩, _⟩ := blk4_cells hm
    have p0 := (hbx.cell (World.block_lt_of_cell? w1 _ t0)).trans t0
    have p1 := (hbx.cell (World.block_lt_of_cell? w1 _ t1)).trans t1
    have p2 := (hbx.cell (World.block_lt_of_cell? w1 _ t2)).trans t2
    have HBX := Lib.hid (And.intro (HB1.out.trans (hbx.mono HB1.out.size)) hbx)
    clear hbx hm HF HME d0 d1 d2
    rcases o with _ | ⟨oa, ob, oc, od⟩
    · simp only [Option.isSome_none]
      go_wp2_with fail
      go_ret2
      exact ⟨rfl, HBX.out.1⟩
    · simp only [Option.isSome_some]
      simp only [mesA, mesB, mesC, mesD] at m0 m1 m2 m3
      by_cases h1 : nv < (ob : Int)
      · have e1 : decide (nv < (ob : Int)) = true := decide_eq_true h1
        go_wp2_with fail
        go_ret2
        exact ⟨Or.inl ⟨Or.inl h1, rfl⟩, HBX.out.1⟩
      · have e1 : decide (nv < (ob : Int)) = false := decide_eq_false h1
        by_cases h2 : 12 < nv
        · have e2 : decide (12 < nv) = true := decide_eq_true h2
          go_wp2_with fail
          go_ret2
          exact ⟨Or.inl ⟨Or.inr h2, rfl⟩, HBX.out.1⟩
        · have e2 : decide (12 < nv) = false := decide_eq_false h2
          obtain ⟨n', rfl⟩ : ∃ n' : Nat, nv = n' := ⟨nv.toNat, by omega⟩
          have hn12 : n' ≤ 12 := by omega
          have hok := HOKT.out oa ob oc od rfl
          have HFIN : Hid (∀ e w', (∃ g, w.heap.size ≤ g ∧ e = .returned (.tuple #[.slice (some ⟨g, 0, none⟩) (2 ^ n') (2 ^ n'), .int .i64 0]) ∧ w'.heap[g]? = some (blO (tabR (.mk k n ts) n' (2 ^ n') (2 ^ n')))) → TblIs (some (oa, ob, oc, od)) (.mk k n ts) n' w e w') := Lib.hid (fun e w' h => Or.inr ⟨by show (ob : Int) ≤ _; omega, by omega, by rw [Int.toNat_natCast]; exact h⟩)
          have hle : 2 ^ n' ≤ 4096 := Nat.pow_le_pow_right (n := 2) (by omega) hn12
          have hL1 : 1 ≤ 2 ^ n' := Nat.pow_pos (by omega)
          have hsh : wrap64 ((2 : Int) ^ n') = ((2 ^ n' : Nat) : Int) := by
            have : (2 : Int) ^ n' = ((2 ^ n' : Nat) : Int) := by simp
            rw [this]
            exact IntWalk.wrap64_in _ (by omega)
          have hsh2 : IntKind.i64.wrap ((2 : Int) ^ n') = ((2 ^ n' : Nat) : Int) := by
            have : (2 : Int) ^ n' = ((2 ^ n' : Nat) : Int) := by simp
            rw [this]
            exact IntWalk.i64_in _ (by omega)
          generalize 2 ^ n' = L at *
          have hmk := make_bools L (by omega)
          have hb0 := below1 wm (blO (List.replicate L false))
          have HST := Lib.hid (show (wm.alloc (blO (List.replicate L false))).heap[wm.heap.size]? = some (blO (tabR (.mk k n ts) n' L 0)) ∧ Below w1.heap.size w1 (wm.alloc (blO (List.replicate L false))) from ⟨by rw [tabR_zero]; exact alloc_at _ _ _ rfl, HBX.out.2.trans (hb0.mono HBX.out.2.size)⟩)
          have HWC := Lib.hid HBX.out.2.size
          have HVL := Lib.hid (fun s g W (hW : Below w.heap.size w W) (hg : W.heap[g]? = some (wdO (rowI s n' n' 0))) => values_ok ob (by omega) (some ⟨g, 0, none⟩) n' (rowI s n' n' 0) (by rw [rowI_length]; omega) (by rw [rowI_length]; omega) _ (.mk k n ts) (Nat.lt_succ_self _) _ W (HTT.out W hW) hok (RdW.of_block hg))
          simp only [rowI_length] at HVL
          have HIF := Lib.hid (fun s (hs : s ≤ 8192) W => inputsFrom_ok s n' hs (by omega) W)
          clear hb0 hok HOKT p0 p1 p2 m0 m2 m3
          go_wp2_with fail
          go_loopw [9, 10, 11] (fun sv _ _ W => ∃ c st : Nat, st = 64 * c ∧ st ≤ L + 63 ∧ sv = .int .i64 (st : Int) ∧ W.heap[wm.heap.size]? = some (blO (tabR (.mk k n ts) n' L (min st L))) ∧ Below w1.heap.size w1 W) (fun sv _ _ _ => L + 64 - (intOf sv).toNat)
          case atStart => exact ⟨0, 0, rfl, by omega, rfl, by rw [show min 0 L = 0 by omega]; exact HST.out.1, HST.out.2⟩
          case round =>
            clear HST
            obtain ⟨c', st, hst, hc, rfl, hg, hB⟩ := hrel
            have HG := Lib.hid (And.intro hg hB)
            have p0 := (hB.cell (World.block_lt_of_cell? w1 _ t0)).trans t0
            have p1 := (hB.cell (World.block_lt_of_cell? w1 _ t1)).trans t1
            have p2 := (hB.cell (World.block_lt_of_cell? w1 _ t2)).trans t2
            have HSTT := Lib.hid hst
            clear hg hB hst
            by_cases hlt : st < L
            · have hww := HB1.out.trans (HG.out.2.mono HB1.out.size)
              have HWW := Lib.hid hww
              have HIF1 := Lib.hid (HIF.out st (by omega) wr.drew)
              have hgl : wm.heap.size < wr.heap.size := (Array.getElem?_eq_some_iff.1 HG.out.1).1
              have HGL := Lib.hid hgl
              have HTP : Hid (∀ i, st ≤ i → i < st + 64 → tabP (.mk k n ts) n' i = decide ((valB (rowI st n' n' 0) (.mk k n ts)).toNat / 2 ^ (i - st) % 2 = 1)) := Lib.hid (fun i h1 h2 => by
                have e := HSTT.out
                have e1 : i / 64 * 64 = st := by omega
                have e2 : i % 64 = i - st := by omega
                rw [tabP, e1, e2])
              clear hww hgl
              obtain ⟨wo, rfl⟩ : ∃ wo : World, wo = wr := ⟨_, rfl⟩
              go_upto_region 10 with fail
              go_cut [10] (fun tv W => tv = .int .u64 (((valB (rowI st n' n' 0) (.mk k n ts)).toNat : Nat) : Int) ∧ Below wo.heap.size wo W)
              case first =>
                go_region_law (first
                  | (go_simp; (with_reducible refine HIF1.out.mono ?_); rintro e wa ⟨ga, hga, rfl, hgb, hBa⟩; have hba := ((Below.refl wo.heap.size wo).drew).trans (hBa.mono (Nat.le_refl _)); have q0 := (hba.cell (World.block_lt_of_cell? wo _ p0)).trans p0; have q1 := (hba.cell (World.block_lt_of_cell? wo _ p1)).trans p1; have q2 := (hba.cell (World.block_lt_of_cell? wo _ p2)).trans p2)
                  | (have hp := HWW.out.trans (hba.mono HWW.out.size); go_simp; (with_reducible refine (HVL.out st ga wa hp hgb).mono ?_); rintro e wb ⟨rfl, hBb⟩; have hbb := hba.trans (hBb.mono hba.size)))
                all_goals
                  go_wp2_with fail
                  go_meet
                  exact ⟨rfl, hbb⟩
              case rest =>
                obtain ⟨rfl, hbx⟩ := hcut
                have HS0 := Lib.hid (And.intro ((hbx.block wm.heap.size HGL.out).trans HG.out.1) (HG.out.2.trans (hbx.mono HG.out.2.size)))
                generalize valB (rowI st n' n' 0) (.mk k n ts) = x at *
                clear hbx p0 p1 p2
                go_wp2_with fail
                go_loopw [11] (fun iv W => ∃ i : Nat, st ≤ i ∧ i ≤ L ∧ i ≤ st + 64 ∧ iv = .int .i64 i ∧ W.heap[wm.heap.size]? = some (blO (tabR (.mk k n ts) n' L i)) ∧ Below w1.heap.size w1 W) (fun iv _ => L - (intOf iv).toNat)
                case atStart => exact ⟨st, Nat.le_refl _, by omega, by omega, rfl, by have h := HS0.out.1; rw [show min st L = st by omega] at h; exact h, HS0.out.2⟩
                case round =>
                  clear HS0
                  obtain ⟨i, hi1, hi2, hi3, rfl, hg, hB⟩ := hrel
                  have HGI := Lib.hid (And.intro hg hB)
                  by_cases hil : i < L
                  · by_cases hi64 : i < st + 64
                    · obtain ⟨c1, f1⟩ := bl_cell hg (tabR_at hil)
                      have dA : decide ((i : Int) < (st : Int) + 64) = true := decide_eq_true (by omega)
                      have hbool : (bits .and .u64 (((x.toNat : Nat) : Int) / 2 ^ (i - st)) 1 == 1) = tabP (.mk k n ts) n' i := by
                        rw [take_bit x (i - st) (by omega), HTP.out i hi1 hi64]
                        by_cases h : x.toNat / 2 ^ (i - st) % 2 = 1
                        · simp [h]
                        · have : x.toNat / 2 ^ (i - st) % 2 = 0 := by omega
                          simp [this]
                      have hset := bl_set (j := i) (tabP (.mk k n ts) n' i) hg
                      rw [tabR_next hil, ← hbool] at hset
                      have HSET := Lib.hid hset
                      clear hg hB hbool hset
                      go_wp2_with fail
                      go_roundw
                      case rel => exact ⟨i + 1, by omega, by omega, by omega, by go_num, HSET.out, HGI.out.2.setCell (p := ⟨wm.heap.size, i, none⟩) HWC.out _⟩
                      case measure => simp [intOf]; omega
                    · have dA : decide ((i : Int) < (st : Int) + 64) = false := decide_eq_false (by omega)
                      have hmin : min (st + 64) L = i := by omega
                      have HMIN := Lib.hid hmin
                      clear hg hB hmin
                      go_wp2_with fail
                      go_roundw
                      case rel => exact ⟨c' + 1, st + 64, by have := HSTT.out; omega, by omega, by go_num, by rw [HMIN.out]; exact HGI.out.1, HGI.out.2⟩
                      case measure => simp [intOf]; omega
                  · have hmin : min (st + 64) L = i := by omega
                    have HMIN := Lib.hid hmin
                    clear hg hB hmin
                    go_wp2_with fail
                    go_roundw
                    case rel => exact ⟨c' + 1, st + 64, by have := HSTT.out; omega, by omega, by go_num, by rw [HMIN.out]; exact HGI.out.1, HGI.out.2⟩
                    case measure => simp [intOf]; omega
            · have hmin : min st L = L := by omega
              have HFG : Hid (wr.heap[wm.heap.size]? = some (blO (tabR (.mk k n ts) n' L L)) ∧ Below w1.heap.size w1 wr) := Lib.hid (by have h := HG.out; rw [hmin] at h; exact h)
              have HSW := Lib.hid HBX.out.1.size
              clear hmin
              go_wp2_with fail
              go_ret2
              exact ⟨HFIN.out _ _ ⟨wm.heap.size, HSW.out, rfl, HFG.out.1⟩, HB1.out.trans (HFG.out.2.mono HB1.out.size)⟩
end Go.Proofs.YtcophfhnhlaonaaDoor
