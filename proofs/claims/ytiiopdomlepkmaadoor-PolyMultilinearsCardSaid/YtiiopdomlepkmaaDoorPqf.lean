/-
  Contracts of addElements, subElements, newSum of package poly; the state of a sum.
-/
import Derived.Test.YtiiopdomlepkmaaDoorPqe
import Derived.Test.YtiiopdomlepkmaaDoorLp
import Derived.Test.YtiiopdomlepkmaaDoorFdx
import Derived.Laws.IdiomStrings
import Derived.Laws.OwnMore
import Derived.BigRegion
import Derived.Carry
namespace Go.Proofs.YtiiopdomlepkmaaDoor
set_option linter.unusedVariables false
open Go.RowKit Go.Maps

set_option maxHeartbeats 1000000 in
theorem addE_ok (P M q n a b : Nat) (hf : Fld P M q) (ha : a < q) (hb : b < q) (w : World) (hL : Lays w) :
    Calls Tryd.prog 52 #[rg P M q n, .int .i64 (a : Int), .int .i64 (b : Int)] w fun e w' => e = .returned (.int .i64 ((addN P M a b : Nat) : Int)) ∧ Below w.heap.size w w' := by
  have HA := Lib.hid (fun o => Add_ok P M q hf a b ha hb (w.alloc o) (hL.below (below1 w o)))
  clear hL
  go_enter Tryd.func52, Tryd.ntmps52
  go_wp2_with fail
  refine (HA.out _).mono ?_
  rintro e w1 ⟨rfl, hB⟩
  have HB := Lib.hid ((below1 w _).trans (hB.mono (below1 w _).size))
  clear hB
  unfold Ret2
  go_wp2_with fail
  go_ret
  exact ⟨rfl, HB.out⟩
set_option maxHeartbeats 1000000 in
theorem subE_ok (P M q n a b : Nat) (hf : Fld P M q) (ha : a < q) (hb : b < q) (w : World) (hL : Lays w) :
    Calls Tryd.prog 68 #[rg P M q n, .int .i64 (a : Int), .int .i64 (b : Int)] w fun e w' => e = .returned (.int .i64 ((subN P M a b : Nat) : Int)) ∧ Below w.heap.size w w' := by
  have HA := Lib.hid (fun o => Sub_ok P M q hf a b ha hb (w.alloc o) (hL.below (below1 w o)))
  clear hL
  go_enter Tryd.func68, Tryd.ntmps68
  go_wp2_with fail
  refine (HA.out _).mono ?_
  rintro e w1 ⟨rfl, hB⟩
  have HB := Lib.hid ((below1 w _).trans (hB.mono (below1 w _).size))
  clear hB
  unfold Ret2
  go_wp2_with fail
  go_ret
  exact ⟨rfl, HB.out⟩

/-! ### the state of a sum -/
abbrev sumO (P M q n mb kb : Nat) : Obj := .cells #[.int .i64 (P : Int), .int .i64 (M : Int), .int .i64 (q : Int), .int .i64 (n : Int), .map (some mb), .slice (some ⟨kb, 0, none⟩) (2 * n) (2 * n)] 92
def bytesO (bs : List UInt8) : Obj := .cells (Lib.byteCells bs).toArray 5 (0, 0)
/-- A sum lies at block sb, its map at mb, its key at kb: all from B on. -/
structure SumAt (B sb mb kb P M q n cnt : Nat) (D : DataW Unit) (w : World) : Prop where
  rcd : w.heap[sb]? = some (sumO P M q n mb kb)
  key : ∃ bs : List UInt8, bs.length = 2 * n ∧ w.heap[kb]? = some (bytesO bs)
  map : w.ownsMap Tryd.prog 9 (plainElem Tryd.prog 3) mb cnt D
  ls : B ≤ sb
  lm : B ≤ mb
  lk : B ≤ kb
section
variable {B sb mb kb P M q n cnt : Nat} {D : DataW Unit} {w w' : World}
theorem SumAt.sbk (h : SumAt B sb mb kb P M q n cnt D w) : sb ≠ kb := by
  rintro rfl
  obtain ⟨bs, _, hk⟩ := h.key
  have := h.rcd
  rw [hk] at this
  simp [bytesO] at this
theorem SumAt.sbm (h : SumAt B sb mb kb P M q n cnt D w) : sb ≠ mb := by
  rintro rfl
  obtain ⟨es, clock, hm, _⟩ := h.map
  have := h.rcd
  rw [hm] at this
  cases this
theorem SumAt.mbk (h : SumAt B sb mb kb P M q n cnt D w) : mb ≠ kb := by
  rintro rfl
  obtain ⟨bs, _, hk⟩ := h.key
  obtain ⟨es, clock, hm, _⟩ := h.map
  rw [hm] at hk
  cases hk
theorem SumAt.same (h : SumAt B sb mb kb P M q n cnt D w) (hs : w'.heap[sb]? = w.heap[sb]?) (hm : w'.heap[mb]? = w.heap[mb]?) (hk : w'.heap[kb]? = w.heap[kb]?) : SumAt B sb mb kb P M q n cnt D w' := by
  refine ⟨hs.trans h.rcd, ?_, ?_, h.ls, h.lm, h.lk⟩
  · obtain ⟨bs, h1, h2⟩ := h.key
    exact ⟨bs, h1, hk.trans h2⟩
  · obtain ⟨es, clock, h1, h2⟩ := h.map
    exact ⟨es, clock, hm.trans h1, h2⟩
theorem SumAt.lts (h : SumAt B sb mb kb P M q n cnt D w) : sb < w.heap.size ∧ mb < w.heap.size ∧ kb < w.heap.size := by
  obtain ⟨bs, _, h2⟩ := h.key
  obtain ⟨es, clock, h1, _⟩ := h.map
  exact ⟨(Array.getElem?_eq_some_iff.1 h.rcd).1, (Array.getElem?_eq_some_iff.1 h1).1, (Array.getElem?_eq_some_iff.1 h2).1⟩
theorem SumAt.below (h : SumAt B sb mb kb P M q n cnt D w) (hB : Below w.heap.size w w') : SumAt B sb mb kb P M q n cnt D w' :=
  h.same (hB.block _ h.lts.1) (hB.block _ h.lts.2.1) (hB.block _ h.lts.2.2)
theorem SumAt.only (h : SumAt B sb mb kb P M q n cnt D w) {S : Nat → Prop} (hO : Only S w w') (h1 : ¬ S sb) (h2 : ¬ S mb) (h3 : ¬ S kb) : SumAt B sb mb kb P M q n cnt D w' :=
  h.same (hO.block _ h.lts.1 h1) (hO.block _ h.lts.2.1 h2) (hO.block _ h.lts.2.2 h3)
theorem SumAt.cells (h : SumAt B sb mb kb P M q n cnt D w) : w.cell? ⟨sb, 4, none⟩ = some (.map (some mb)) ∧ w.cell? ⟨sb, 5, none⟩ = some (.slice (some ⟨kb, 0, none⟩) (2 * n) (2 * n)) ∧
    w.cell? ⟨sb, 0, none⟩ = some (.int .i64 (P : Int)) ∧ w.cell? ⟨sb, 1, none⟩ = some (.int .i64 (M : Int)) ∧ w.cell? ⟨sb, 2, none⟩ = some (.int .i64 (q : Int)) ∧ w.cell? ⟨sb, 3, none⟩ = some (.int .i64 (n : Int)) := by
  have hb := h.rcd
  refine ⟨?_, ?_, ?_, ?_, ?_, ?_⟩ <;> simp [World.cell?, hb]
end

theorem Tryd.info5 : (Tryd.prog.info? 5).map (fun i => (i.zero, i.size, i.bytes)) = some (some (.int .u8 0), 1, 1) := by kernel_rfl

theorem zeros_of (z : Value) (hz : z.cells = #[z]) (n : Nat) : (madeCells z.cells (n * 1)).toList = List.replicate n z := by
  rw [hz, Nat.mul_one, toList_madeCells_one]
theorem make_key (n : Nat) (hn : n ≤ 80) : ∀ w : World, (Instr.makeSlice 71 (.int .i64 (2 * (n : Int))) (.int .i64 (2 * (n : Int)))).run Tryd.prog w = .ok (.slice (some ⟨w.heap.size, 0, none⟩) (2 * n) (2 * n)) (w.alloc (bytesO (List.replicate (2 * n) 0))) := by
  intro w
  obtain ⟨i0, hi, hz0, hz1, hz2⟩ := info_parts Tryd.info5
  have h := run_make (P := Tryd.prog) w 71 5 i0 (.int .u8 0) Tryd.underlying71 hi hz0 .i64 .i64 (2 * (n : Int)) (2 * (n : Int)) (by omega) (by omega) (by rw [hz2]; omega) (by omega)
  have e1 : ((2 * (n : Int)).toNat) = 2 * n := by omega
  rw [h, e1, hz1]
  have e2 : madeCells (Value.int .u8 0).cells (2 * n * 1) = (Lib.byteCells (List.replicate (2 * n) 0)).toArray := by
    apply Array.toList_inj.1
    rw [zeros_of _ rfl]
    simp [Lib.byteCells]
  rw [e2]
  rfl

theorem alloc_at (w : World) (o : Obj) (n : Nat) (h : n = w.heap.size) : (w.alloc o).heap[n]? = some o := by subst h; exact (MapKept.heap_alloc w o).1
theorem alloc_old (w : World) (o o' : Obj) (n : Nat) (h : w.heap[n]? = some o') : (w.alloc o).heap[n]? = some o' := by
  rw [Below.heap_alloc _ _ _ (Array.getElem?_eq_some_iff.1 h).1]; exact h
theorem ownsMap_old {w w' : World} {k : TypeId} {R : Value → Option (DataW Unit × List MemPlace)} {b n : Nat} {D : DataW Unit} (h : w.ownsMap Tryd.prog k R b n D) (hb : w'.heap[b]? = w.heap[b]?) : w'.ownsMap Tryd.prog k R b n D := by
  obtain ⟨es, clock, h1, h2⟩ := h
  exact ⟨es, clock, hb.trans h1, h2⟩

set_option maxHeartbeats 2000000 in
theorem newSum_ok (P M q n : Nat) (hn : n ≤ 80) (w : World) :
    Calls Tryd.prog 37 #[rg P M q n] w fun e w' => ∃ sb mb kb, e = .returned (.pointer (some ⟨sb, 0, none⟩)) ∧ SumAt w.heap.size sb mb kb P M q n 0 (.map []) w' ∧ Below w.heap.size w w' := by
  have hmk := make_key n hn
  have hmm := @run_makeMap Tryd.prog
  have hw : IntKind.i64.wrap (2 * (n : Int)) = 2 * (n : Int) := IntWalk.i64_in _ (by omega)
  go_enter Tryd.func37, Tryd.ntmps37
  go_wp2_with fail
  go_region
  · go_wp2_with fail
    go_ret
    refine ⟨w.heap.size + 1 + 1 + 1, w.heap.size + 1, w.heap.size + 1 + 1, rfl, ⟨?_, ⟨List.replicate (2 * n) 0, by simp, ?_⟩, ?_, by omega, by omega, by omega⟩, ?_⟩
    · exact alloc_at _ _ _ (by simp)
    · exact alloc_old _ _ _ _ (alloc_at _ _ _ (by simp))
    · refine ownsMap_old (w := (w.alloc (rgO P M q n)).alloc (.map #[] 0)) ?_ ?_
      · have := World.ownsMap_made (w.alloc (rgO P M q n)) Tryd.prog 9 (plainElem (H := Unit) Tryd.prog 3)
        simpa using this
      · have h1 := alloc_at (w.alloc (rgO P M q n)) (.map #[] 0) (w.heap.size + 1) (by simp)
        exact (alloc_old _ _ _ _ (alloc_old _ _ _ _ h1)).trans h1.symm
    · exact (((((Below.refl _ w).alloc (Nat.le_refl _) _).alloc (by simp) _).alloc (by simp; omega) _).alloc (by simp; omega) _).drew
  · go_wp2_with fail
    go_ret
    refine ⟨w.heap.size + 1 + 1 + 1, w.heap.size + 1 + 1, w.heap.size + 1, rfl, ⟨?_, ⟨List.replicate (2 * n) 0, by simp, ?_⟩, ?_, by omega, by omega, by omega⟩, ?_⟩
    · exact alloc_at _ _ _ (by simp)
    · exact alloc_old _ _ _ _ (alloc_old _ _ _ _ (alloc_at _ _ _ (by simp)))
    · refine ownsMap_old (w := ((w.alloc (rgO P M q n)).alloc (bytesO (List.replicate (2 * n) 0))).alloc (.map #[] 0)) ?_ ?_
      · have := World.ownsMap_made ((w.alloc (rgO P M q n)).alloc (bytesO (List.replicate (2 * n) 0))) Tryd.prog 9 (plainElem (H := Unit) Tryd.prog 3)
        simpa using this
      · have h1 := alloc_at ((w.alloc (rgO P M q n)).alloc (bytesO (List.replicate (2 * n) 0))) (.map #[] 0) (w.heap.size + 1 + 1) (by simp)
        exact (alloc_old _ _ _ _ h1).trans h1.symm
    · exact (((((Below.refl _ w).alloc (Nat.le_refl _) _).alloc (by simp) _).alloc (by simp; omega) _).alloc (by simp; omega) _).drew
end Go.Proofs.YtiiopdomlepkmaaDoor
