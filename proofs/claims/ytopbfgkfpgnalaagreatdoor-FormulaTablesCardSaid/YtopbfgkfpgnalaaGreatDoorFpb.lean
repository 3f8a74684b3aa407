/-
  Contract of pack of package poly (at one and at two terms of two small exponents).
-/
import Derived.Test.YtopbfgkfpgnalaaGreatDoorFpa
namespace Go.Proofs.YtopbfgkfpgnalaaGreatDoor
set_option linter.unusedVariables false
open Go.RowKit Go.Maps

theorem Tryz.infoP : (Tryz.prog.info? 283).map (fun i => (i.zero, i.size, i.bytes)) = some (some (.agg #[.int .i64 0, .slice none 0 0]), 2, 32) := by kernel_rfl
theorem pk_put {wa : World} {g o : Nat} {cs : Array Value} {T : TypeId} (x y : Value) (h : wa.heap[g]? = some (.cells cs T (0, 0))) : ((wa.setCell ⟨g, o, none⟩ x).setCell ⟨g, o + 1, none⟩ y).heap[g]? = some (.cells ((cs.setIfInBounds o x).setIfInBounds (o + 1) y) T (0, 0)) ∧ ∀ b : Nat, b ≠ g → ((wa.setCell ⟨g, o, none⟩ x).setCell ⟨g, o + 1, none⟩ y).heap[b]? = wa.heap[b]? := by
  have h1 := heap_setCell_same wa g o cs T x h
  have h2 := heap_setCell_same _ g (o + 1) _ T y h1
  refine ⟨h2, fun b hb => ?_⟩
  rw [heap_setCell_other _ _ _ _ (by exact hb), heap_setCell_other _ _ _ _ (by exact hb)]
theorem pk_ne {W : World} {g h : Nat} {cs ds : Array Value} {fr fr' : Nat × Nat} (hg : W.heap[g]? = some (.cells cs 283 fr)) (hh : W.heap[h]? = some (.cells ds 121 fr')) : h ≠ g := by
  rintro rfl
  rw [hg] at hh
  cases hh
theorem pk_cells {W : World} {g : Nat} {cs : Array Value} {T : TypeId} (h : W.heap[g]? = some (.cells cs T (0, 0))) (o : Nat) {x : Value} (hx : cs[o]? = some x) : W.cell? ⟨g, o, none⟩ = some x ∧ W.frozen? ⟨g, o, none⟩ = false := by
  constructor
  · simp [World.cell?, h, hx]
  · simp [World.frozen?, h]
theorem made_pk1 : madeCells (Value.agg #[.int .i64 0, .slice none 0 0]).cells (1 * 2) = #[.int .i64 0, .slice none 0 0] := by kernel_rfl
theorem make_pk1 : ∀ w : World, (Instr.makeSlice 249 (.int .i64 1) (.int .i64 1)).run Tryz.prog w = .ok (.slice (some ⟨w.heap.size, 0, none⟩) 1 1) (w.alloc (.cells #[.int .i64 0, .slice none 0 0] 283)) := by
  intro w
  obtain ⟨i0, hi, hz0, hz1, hz2⟩ := info_parts Tryz.infoP
  have h := run_make (P := Tryz.prog) w 249 283 i0 (.agg #[.int .i64 0, .slice none 0 0]) Tryz.underlying249 hi hz0 .i64 .i64 1 1 (by omega) (by omega) (by rw [hz2]; omega) (by omega)
  rw [h, hz1, show Int.toNat 1 = 1 from rfl, made_pk1]
/-- The packed row behind k terms. -/
def PkS1 (a b : Nat) (w : World) (h0 : Nat) (k : Nat) (W : World) : Prop := match k with
  | 0 => W.heap[w.heap.size]? = some (.cells #[.int .i64 0, .slice none 0 0] 283 (0, 0))
  | _ => W.heap[w.heap.size]? = some (.cells #[.int .i64 1, .slice (some ⟨h0, 0, none⟩) 1 1] 283 (0, 0)) ∧ W.heap[h0]? = some (.cells #[.int .u64 (wdP a b 2)] 121 (0, 0))

set_option maxRecDepth 100000 in
set_option maxHeartbeats 4000000 in
theorem pack1_ok (a b : Nat) (ha : a ≤ 1) (hb : b ≤ 1) (A : Option Addr) (cp : Nat) (w : World) (hr : RdP w A (tms [(1, [a, b])])) :
    Calls Tryz.prog 199 #[.slice A 1 cp] w fun e w' => e = .returned (.slice (some ⟨w.heap.size, 0, none⟩) 1 1) ∧ (∃ h0, PkS1 a b w h0 1 w') ∧ Below w.heap.size w w' := by
  have HR := Lib.hid (fun W (hW : Below w.heap.size w W) => hr.below hW)
  have hmk := make_pk1
  have HP0 := Lib.hid (show PkS1 a b w 0 0 (w.alloc (.cells #[.int .i64 0, .slice none 0 0] 283)) from alloc_at _ _ _ rfl)
  clear hr
  go_enter Tryz.func199, Tryz.ntmps199
  go_wp2_with fail
  go_loopw [4, 5, 11] (fun _ _ i wr => ∃ k : Nat, k ≤ 1 ∧ i = .int .i64 k ∧ (∃ h0, PkS1 a b w h0 k wr) ∧ Below w.heap.size w wr) (fun _ _ i _ => 1 - (intOf i).toNat)
  case atStart => exact ⟨0, by omega, rfl, ⟨0, HP0.out⟩, below1 _ _⟩
  case round =>
    obtain ⟨k, hk, rfl, ⟨h0, hps⟩, hB⟩ := hrel
    have HB := Lib.hid hB
    have hk3 : k = 0 ∨ k = 1 := by omega
    rcases hk3 with rfl | rfl
    · rw [show ((0 : Nat) : Int) = 0 from rfl]
      have hg : wr.heap[w.heap.size]? = some (.cells #[.int .i64 0, .slice none 0 0] 283 (0, 0)) := hps
      obtain ⟨bk, off, u, rfl, k1, k2, k3⟩ := HR.out wr hB 0 ((1 : Int), nz [a, b]) (by simp [nz])
      obtain ⟨EA, ec, hu, -, -⟩ := id k3
      have hu2 : u = .slice EA 2 ec := hu
      subst hu2
      have hb1 := below1 wr (.cells #[.int .i64 1, .slice EA 2 ec] 144)
      have hri : RdI (wr.alloc (.cells #[.int .i64 1, .slice EA 2 ec] 144)).drew EA (nz [a, b]) := fun j x hj => by
        obtain ⟨EA', ec', hu', k4, _⟩ := k3
        cases hu'
        obtain ⟨ad, e1, e2⟩ := k4 j x hj
        exact ⟨ad, e1, (hb1.cell (World.block_lt_of_cell? wr _ e2)).trans e2⟩
      have HW := Lib.hid (wordsOf_ok a b ha hb EA ec _ hri)
      have hg1 := (hb1.block _ (Array.getElem?_eq_some_iff.1 hg).1).trans hg
      obtain ⟨j0, j1⟩ := (show (wr.alloc (.cells #[.int .i64 1, .slice EA 2 ec] 144)).cell? ⟨wr.heap.size, 0, none⟩ = some (.int .i64 1) ∧ (wr.alloc (.cells #[.int .i64 1, .slice EA 2 ec] 144)).cell? ⟨wr.heap.size, 1, none⟩ = some (.slice EA 2 ec) from ⟨World.cell?_alloc_new _ _ _ 0, World.cell?_alloc_new _ _ _ 1⟩)
      have HBW := Lib.hid (HB.out.trans (hb1.mono HB.out.size))
      have HG1 := Lib.hid hg1
      clear hps hg hb1 hri k3 hu hg1 hB
      simp at k1 k2
      go_wp2_with fail
      generalize wr.alloc (.cells #[.int .i64 1, .slice EA 2 ec] 144) = wq at *
      go_region_law (first
        | (go_simp; (with_reducible refine HW.out.mono ?_); rintro r wa ⟨rfl, hwd, hBa⟩; have hba := ((Below.refl wq.heap.size wq).drew).trans (hBa.mono (Nat.le_refl _)); have jj0 := (hba.cell (World.block_lt_of_cell? wq _ j0)).trans j0; have jj1 := (hba.cell (World.block_lt_of_cell? wq _ j1)).trans j1; have hga := (hba.block _ (Array.getElem?_eq_some_iff.1 HG1.out).1).trans HG1.out; obtain ⟨ca, fa⟩ := pk_cells hga 0 rfl; obtain ⟨cb, fb⟩ := pk_cells hga 1 rfl))
      all_goals
        have hp := pk_put (o := 0) (.int .i64 1) (.slice (some ⟨wq.drew.heap.size, 0, none⟩) 1 1) hga
        have HF : Hid ((∃ h0, PkS1 a b w h0 (0 + 1) ((wa.setCell ⟨w.heap.size, 0, none⟩ (.int .i64 1)).setCell ⟨w.heap.size, 0 + 1, none⟩ (.slice (some ⟨wq.drew.heap.size, 0, none⟩) 1 1))) ∧ Below w.heap.size w ((wa.setCell ⟨w.heap.size, 0, none⟩ (.int .i64 1)).setCell ⟨w.heap.size, 0 + 1, none⟩ (.slice (some ⟨wq.drew.heap.size, 0, none⟩) 1 1))) := Lib.hid ⟨⟨wq.drew.heap.size, by
          simp only [PkS1]
          exact ⟨hp.1, (hp.2 _ (pk_ne hga hwd)).trans hwd⟩⟩, ((HBW.out.trans (hba.mono HBW.out.size)).setCell (p := ⟨w.heap.size, 0, none⟩) (Nat.le_refl _) _).setCell (p := ⟨w.heap.size, 0 + 1, none⟩) (Nat.le_refl _) _⟩
        clear hp hga hwd hBa hba
        go_wp2_with fail
        go_roundw
        case rel => exact ⟨0 + 1, by omega, by go_num, HF.out⟩
        case measure => simp [intOf]
    · go_wp2_with fail
      go_ret
      exact ⟨rfl, ⟨h0, hps⟩, HB.out⟩
theorem made_pk2 : madeCells (Value.agg #[.int .i64 0, .slice none 0 0]).cells (2 * 2) = #[.int .i64 0, .slice none 0 0, .int .i64 0, .slice none 0 0] := by kernel_rfl
theorem make_pk2 : ∀ w : World, (Instr.makeSlice 249 (.int .i64 2) (.int .i64 2)).run Tryz.prog w = .ok (.slice (some ⟨w.heap.size, 0, none⟩) 2 2) (w.alloc (.cells #[.int .i64 0, .slice none 0 0, .int .i64 0, .slice none 0 0] 283)) := by
  intro w
  obtain ⟨i0, hi, hz0, hz1, hz2⟩ := info_parts Tryz.infoP
  have h := run_make (P := Tryz.prog) w 249 283 i0 (.agg #[.int .i64 0, .slice none 0 0]) Tryz.underlying249 hi hz0 .i64 .i64 2 2 (by omega) (by omega) (by rw [hz2]; omega) (by omega)
  rw [h, hz1, show Int.toNat 2 = 2 from rfl, made_pk2]
/-- The packed row behind k terms. -/
def PkS2 (a b : Nat) (c d : Nat) (w : World) (h0 h1 : Nat) (k : Nat) (W : World) : Prop := match k with
  | 0 => W.heap[w.heap.size]? = some (.cells #[.int .i64 0, .slice none 0 0, .int .i64 0, .slice none 0 0] 283 (0, 0))
  | 1 => W.heap[w.heap.size]? = some (.cells #[.int .i64 1, .slice (some ⟨h0, 0, none⟩) 1 1, .int .i64 0, .slice none 0 0] 283 (0, 0)) ∧ W.heap[h0]? = some (.cells #[.int .u64 (wdP a b 2)] 121 (0, 0))
  | _ => W.heap[w.heap.size]? = some (.cells #[.int .i64 1, .slice (some ⟨h0, 0, none⟩) 1 1, .int .i64 1, .slice (some ⟨h1, 0, none⟩) 1 1] 283 (0, 0)) ∧ W.heap[h0]? = some (.cells #[.int .u64 (wdP a b 2)] 121 (0, 0)) ∧ W.heap[h1]? = some (.cells #[.int .u64 (wdP c d 2)] 121 (0, 0))

set_option maxRecDepth 100000 in
set_option maxHeartbeats 4000000 in
theorem pack2_ok (a b : Nat) (c d : Nat) (ha : a ≤ 1) (hb : b ≤ 1) (hc : c ≤ 1) (hd : d ≤ 1) (A : Option Addr) (cp : Nat) (w : World) (hr : RdP w A (tms [(1, [a, b]), (1, [c, d])])) :
    Calls Tryz.prog 199 #[.slice A 2 cp] w fun e w' => e = .returned (.slice (some ⟨w.heap.size, 0, none⟩) 2 2) ∧ (∃ h0 h1, PkS2 a b c d w h0 h1 2 w') ∧ Below w.heap.size w w' := by
  have HR := Lib.hid (fun W (hW : Below w.heap.size w W) => hr.below hW)
  have hmk := make_pk2
  have HP0 := Lib.hid (show PkS2 a b c d w 0 0 0 (w.alloc (.cells #[.int .i64 0, .slice none 0 0, .int .i64 0, .slice none 0 0] 283)) from alloc_at _ _ _ rfl)
  clear hr
  go_enter Tryz.func199, Tryz.ntmps199
  go_wp2_with fail
  go_loopw [4, 5, 11] (fun _ _ i wr => ∃ k : Nat, k ≤ 2 ∧ i = .int .i64 k ∧ (∃ h0 h1, PkS2 a b c d w h0 h1 k wr) ∧ Below w.heap.size w wr) (fun _ _ i _ => 2 - (intOf i).toNat)
  case atStart => exact ⟨0, by omega, rfl, ⟨0, 0, HP0.out⟩, below1 _ _⟩
  case round =>
    obtain ⟨k, hk, rfl, ⟨h0, h1, hps⟩, hB⟩ := hrel
    have HB := Lib.hid hB
    have hk3 : k = 0 ∨ k = 1 ∨ k = 2 := by omega
    rcases hk3 with rfl | rfl | rfl
    · rw [show ((0 : Nat) : Int) = 0 from rfl]
      have hg : wr.heap[w.heap.size]? = some (.cells #[.int .i64 0, .slice none 0 0, .int .i64 0, .slice none 0 0] 283 (0, 0)) := hps
      obtain ⟨bk, off, u, rfl, k1, k2, k3⟩ := HR.out wr hB 0 ((1 : Int), nz [a, b]) (by simp [nz])
      obtain ⟨EA, ec, hu, -, -⟩ := id k3
      have hu2 : u = .slice EA 2 ec := hu
      subst hu2
      have hb1 := below1 wr (.cells #[.int .i64 1, .slice EA 2 ec] 144)
      have hri : RdI (wr.alloc (.cells #[.int .i64 1, .slice EA 2 ec] 144)).drew EA (nz [a, b]) := fun j x hj => by
        obtain ⟨EA', ec', hu', k4, _⟩ := k3
        cases hu'
        obtain ⟨ad, e1, e2⟩ := k4 j x hj
        exact ⟨ad, e1, (hb1.cell (World.block_lt_of_cell? wr _ e2)).trans e2⟩
      have HW := Lib.hid (wordsOf_ok a b ha hb EA ec _ hri)
      have hg1 := (hb1.block _ (Array.getElem?_eq_some_iff.1 hg).1).trans hg
      obtain ⟨j0, j1⟩ := (show (wr.alloc (.cells #[.int .i64 1, .slice EA 2 ec] 144)).cell? ⟨wr.heap.size, 0, none⟩ = some (.int .i64 1) ∧ (wr.alloc (.cells #[.int .i64 1, .slice EA 2 ec] 144)).cell? ⟨wr.heap.size, 1, none⟩ = some (.slice EA 2 ec) from ⟨World.cell?_alloc_new _ _ _ 0, World.cell?_alloc_new _ _ _ 1⟩)
      have HBW := Lib.hid (HB.out.trans (hb1.mono HB.out.size))
      have HG1 := Lib.hid hg1
      clear hps hg hb1 hri k3 hu hg1 hB
      simp at k1 k2
      go_wp2_with fail
      generalize wr.alloc (.cells #[.int .i64 1, .slice EA 2 ec] 144) = wq at *
      go_region_law (first
        | (go_simp; (with_reducible refine HW.out.mono ?_); rintro r wa ⟨rfl, hwd, hBa⟩; have hba := ((Below.refl wq.heap.size wq).drew).trans (hBa.mono (Nat.le_refl _)); have jj0 := (hba.cell (World.block_lt_of_cell? wq _ j0)).trans j0; have jj1 := (hba.cell (World.block_lt_of_cell? wq _ j1)).trans j1; have hga := (hba.block _ (Array.getElem?_eq_some_iff.1 HG1.out).1).trans HG1.out; obtain ⟨ca, fa⟩ := pk_cells hga 0 rfl; obtain ⟨cb, fb⟩ := pk_cells hga 1 rfl))
      all_goals
        have hp := pk_put (o := 0) (.int .i64 1) (.slice (some ⟨wq.drew.heap.size, 0, none⟩) 1 1) hga
        have HF : Hid ((∃ h0 h1, PkS2 a b c d w h0 h1 (0 + 1) ((wa.setCell ⟨w.heap.size, 0, none⟩ (.int .i64 1)).setCell ⟨w.heap.size, 0 + 1, none⟩ (.slice (some ⟨wq.drew.heap.size, 0, none⟩) 1 1))) ∧ Below w.heap.size w ((wa.setCell ⟨w.heap.size, 0, none⟩ (.int .i64 1)).setCell ⟨w.heap.size, 0 + 1, none⟩ (.slice (some ⟨wq.drew.heap.size, 0, none⟩) 1 1))) := Lib.hid ⟨⟨wq.drew.heap.size, 0, by
          simp only [PkS2]
          exact ⟨hp.1, (hp.2 _ (pk_ne hga hwd)).trans hwd⟩⟩, ((HBW.out.trans (hba.mono HBW.out.size)).setCell (p := ⟨w.heap.size, 0, none⟩) (Nat.le_refl _) _).setCell (p := ⟨w.heap.size, 0 + 1, none⟩) (Nat.le_refl _) _⟩
        clear hp hga hwd hBa hba
        go_wp2_with fail
        go_roundw
        case rel => exact ⟨0 + 1, by omega, by go_num, HF.out⟩
        case measure => simp [intOf]
    · rw [show ((1 : Nat) : Int) = 1 from rfl]
      have hps2 := hps
      simp only [PkS2] at hps2
      obtain ⟨hg, hq0⟩ := hps2
      obtain ⟨bk, off, u, rfl, k1, k2, k3⟩ := HR.out wr hB 1 ((1 : Int), nz [c, d]) (by simp [nz])
      obtain ⟨EA, ec, hu, -, -⟩ := id k3
      have hu2 : u = .slice EA 2 ec := hu
      subst hu2
      have hb1 := below1 wr (.cells #[.int .i64 1, .slice EA 2 ec] 144)
      have hri : RdI (wr.alloc (.cells #[.int .i64 1, .slice EA 2 ec] 144)).drew EA (nz [c, d]) := fun j x hj => by
        obtain ⟨EA', ec', hu', k4, _⟩ := k3
        cases hu'
        obtain ⟨ad, e1, e2⟩ := k4 j x hj
        exact ⟨ad, e1, (hb1.cell (World.block_lt_of_cell? wr _ e2)).trans e2⟩
      have HW := Lib.hid (wordsOf_ok c d hc hd EA ec _ hri)
      have hg1 := (hb1.block _ (Array.getElem?_eq_some_iff.1 hg).1).trans hg
      obtain ⟨j0, j1⟩ := (show (wr.alloc (.cells #[.int .i64 1, .slice EA 2 ec] 144)).cell? ⟨wr.heap.size, 0, none⟩ = some (.int .i64 1) ∧ (wr.alloc (.cells #[.int .i64 1, .slice EA 2 ec] 144)).cell? ⟨wr.heap.size, 1, none⟩ = some (.slice EA 2 ec) from ⟨World.cell?_alloc_new _ _ _ 0, World.cell?_alloc_new _ _ _ 1⟩)
      have HBW := Lib.hid (HB.out.trans (hb1.mono HB.out.size))
      have HG1 := Lib.hid hg1
      have HQ0 := Lib.hid ((hb1.block _ (Array.getElem?_eq_some_iff.1 hq0).1).trans hq0)
      clear hps hg hb1 hri k3 hu hg1 hB hq0
      simp at k1 k2
      go_wp2_with fail
      generalize wr.alloc (.cells #[.int .i64 1, .slice EA 2 ec] 144) = wq at *
      go_region_law (first
        | (go_simp; (with_reducible refine HW.out.mono ?_); rintro r wa ⟨rfl, hwd, hBa⟩; have hba := ((Below.refl wq.heap.size wq).drew).trans (hBa.mono (Nat.le_refl _)); have jj0 := (hba.cell (World.block_lt_of_cell? wq _ j0)).trans j0; have jj1 := (hba.cell (World.block_lt_of_cell? wq _ j1)).trans j1; have hga := (hba.block _ (Array.getElem?_eq_some_iff.1 HG1.out).1).trans HG1.out; obtain ⟨ca, fa⟩ := pk_cells hga 2 rfl; obtain ⟨cb, fb⟩ := pk_cells hga 3 rfl))
      all_goals
        have hp := pk_put (o := 2) (.int .i64 1) (.slice (some ⟨wq.drew.heap.size, 0, none⟩) 1 1) hga
        have HF : Hid ((∃ h0 h1, PkS2 a b c d w h0 h1 (1 + 1) ((wa.setCell ⟨w.heap.size, 2, none⟩ (.int .i64 1)).setCell ⟨w.heap.size, 2 + 1, none⟩ (.slice (some ⟨wq.drew.heap.size, 0, none⟩) 1 1))) ∧ Below w.heap.size w ((wa.setCell ⟨w.heap.size, 2, none⟩ (.int .i64 1)).setCell ⟨w.heap.size, 2 + 1, none⟩ (.slice (some ⟨wq.drew.heap.size, 0, none⟩) 1 1))) := Lib.hid ⟨⟨h0, wq.drew.heap.size, by
          simp only [PkS2]
          exact ⟨hp.1, (hp.2 _ (pk_ne hga ((hba.block _ (Array.getElem?_eq_some_iff.1 HQ0.out).1).trans HQ0.out))).trans ((hba.block _ (Array.getElem?_eq_some_iff.1 HQ0.out).1).trans HQ0.out), (hp.2 _ (pk_ne hga hwd)).trans hwd⟩⟩, ((HBW.out.trans (hba.mono HBW.out.size)).setCell (p := ⟨w.heap.size, 2, none⟩) (Nat.le_refl _) _).setCell (p := ⟨w.heap.size, 2 + 1, none⟩) (Nat.le_refl _) _⟩
        clear hp hga hwd hBa hba
        go_wp2_with fail
        go_roundw
        case rel => exact ⟨1 + 1, by omega, by go_num, HF.out⟩
        case measure => simp [intOf]
    · go_wp2_with fail
      go_ret
      exact ⟨rfl, ⟨h0, h1, hps⟩, HB.out⟩
end Go.Proofs.YtopbfgkfpgnalaaGreatDoor
