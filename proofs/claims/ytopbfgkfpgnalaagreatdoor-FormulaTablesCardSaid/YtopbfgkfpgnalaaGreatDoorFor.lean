/-
  Contract of the law's helper 'alive' of layer 5: it returns true in every world in which the listed variables read as the program's text lays them.
-/
import Derived.Test.YtopbfgkfpgnalaaGreatDoorFoq
import Derived.Test.YtopbfgkfpgnalaaGreatDoorVb
import Derived.Test.YtopbfgkfpgnalaaGreatDoorUs
namespace Go.Proofs.YtopbfgkfpgnalaaGreatDoor
set_option linter.unusedVariables false
open Go.RowKit Go.Maps

/-- What the listed variables hold. -/
structure LayF (w : World) : Prop where
  layp : LayP w
  errs : ErrsAt w
theorem LayF.below {w w' : World} (h : LayF w) (hB : Below w.heap.size w w') : LayF w' := ⟨h.layp.below hB, h.errs.below hB⟩

set_option maxRecDepth 100000 in
set_option maxHeartbeats 4000000 in
theorem polyOf_mul (v : Value) (w : World) (hL : Lays w) (hT : TreV 0 w alE v) :
    Calls Tryz.prog 102 #[.agg #[.int .i64 2, .int .i64 1], v, .int .i64 2] w (PoIs po1 w) := by
  obtain ⟨b, off, c, x, y, z, x', y', z', rfl, hk⟩ := kids2 hT
  obtain ⟨w0, hw0⟩ : ∃ w0, w0 = (w.alloc (.cells #[.int .i64 2, .int .i64 1] 49)).alloc (.cells #[.int .i64 3, .int .i64 0, .slice (some ⟨b, off, none⟩) 2 c] 52) := ⟨_, rfl⟩
  have hb0 : Below w.heap.size w w0 := by rw [hw0]; exact below2 _ _ _
  have hf0 : w0.heap[w.heap.size]? = some (.cells #[.int .i64 2, .int .i64 1] 49 (0, 0)) := by rw [hw0]; exact alloc_old _ _ _ _ (alloc_at _ _ _ rfl)
  have he0 : w0.heap[w.heap.size + 1]? = some (.cells #[.int .i64 3, .int .i64 0, .slice (some ⟨b, off, none⟩) 2 c] 52 (0, 0)) := by rw [hw0]; exact alloc_at _ _ _ (by simp)
  have hsz0 : w0.heap.size = w.heap.size + 2 := by rw [hw0]; simp
  obtain ⟨-, hTa, hTb⟩ := hk _ hb0
  obtain ⟨A2, c2, h2⟩ := leaf_val hTb
  obtain ⟨rfl, rfl, rfl⟩ : x' = .int .i64 0 ∧ y' = .int .i64 1 ∧ z' = .slice A2 0 c2 := by simpa using h2
  have HW0 := Lib.hid hw0
  have HB0 := Lib.hid hb0
  have hcl : ∀ W, Below w0.heap.size w0 W → (W.cell? ⟨b, off, none⟩ = some x ∧ W.cell? ⟨b, off + 1, none⟩ = some y ∧ W.cell? ⟨b, off + 2, none⟩ = some z ∧ W.cell? ⟨b, off + 3, none⟩ = some (.int .i64 0) ∧ W.cell? ⟨b, off + 4, none⟩ = some (.int .i64 1) ∧ W.cell? ⟨b, off + 5, none⟩ = some (.slice A2 0 c2)) ∧
      W.cell? ⟨w.heap.size, 0, none⟩ = some (.int .i64 2) ∧ W.cell? ⟨w.heap.size, 1, none⟩ = some (.int .i64 1) ∧ W.cell? ⟨w.heap.size + 1, 0, none⟩ = some (.int .i64 3) ∧ W.cell? ⟨w.heap.size + 1, 1, none⟩ = some (.int .i64 0) ∧ W.cell? ⟨w.heap.size + 1, 2, none⟩ = some (.slice (some ⟨b, off, none⟩) 2 c) := fun W hW => by
    have g1 := (hW.block _ (by omega)).trans hf0
    have g2 := (hW.block _ (by omega)).trans he0
    exact ⟨(hk W (hb0.trans (hW.mono hb0.size))).1, by simp [World.cell?, g1], by simp [World.cell?, g1], by simp [World.cell?, g2], by simp [World.cell?, g2], by simp [World.cell?, g2]⟩
  have HCL := Lib.hid hcl
  have HX : Hid (∀ W, Below w.heap.size w W → Calls Tryz.prog 102 #[.agg #[.int .i64 2, .int .i64 1], .agg #[x, y, z], .int .i64 2] W fun e w' => (∃ A c, e = .returned (.tuple #[.slice A 2 c, .int .i64 0]) ∧ RdP w' A (tms po0)) ∧ Below W.heap.size W w') := Lib.hid (fun W hW => polyOf_add _ W (hL.below hW) (hk W hW).2.1)
  have HC : Hid (∀ W, Calls Tryz.prog 102 #[.agg #[.int .i64 2, .int .i64 1], .agg #[.int .i64 0, .int .i64 1, .slice A2 0 c2], .int .i64 2] W fun e w' => (∃ A c, e = .returned (.tuple #[.slice A 1 c, .int .i64 0]) ∧ RdP w' A (tms [(1, [0, 1])])) ∧ Below W.heap.size W w') := Lib.hid (fun W => polyOf_x1 A2 c2 W)
  have HP : Hid (∀ W A B c d, Below w.heap.size w W → RdP W A (tms po0) → RdP W B (tms [(1, [0, 1])]) → Calls Tryz.prog 141 #[.agg #[.int .i64 2, .int .i64 1], .int .i64 2, .slice A 2 c, .slice B 1 d] W fun e w' => (∃ A c, e = .returned (.tuple #[.slice A 2 c, .int .i64 0]) ∧ RdP w' A (tms po1)) ∧ Below W.heap.size W w') := Lib.hid (fun W A B c d hW hr hr' => po_mul A B c d W (hL.below hW) hr hr')
  clear hw0 hb0 hf0 he0 hsz0 hTa hTb h2 hk hT hL
  obtain ⟨⟨e0, e1, e2, -, -, -⟩, f0, f1, g0, g1, g2⟩ := hcl w0 (Below.refl _ _)
  clear hcl
  go_enter Tryz.func102, Tryz.ntmps102
  go_upto_region 1 with fail
  rw [← HW0.out]
  go_wp2_with fail
  go_region_law (first
    | (go_simp; (with_reducible refine (HX.out _ HB0.out.drew).mono ?_); rintro e wa ⟨⟨A5, c5, rfl, hr5⟩, hBa⟩))
  all_goals
    have hB1 := Below.trans ((Below.refl w0.heap.size w0).drew) (hBa.mono (Nat.le_refl _))
    obtain ⟨⟨-, -, -, e3, e4, e5⟩, f0, f1, g0, g1, g2⟩ := HCL.out wa hB1
    have HB1 := Lib.hid hB1
    have HR5 := Lib.hid hr5
    clear hBa hr5 hB1
    go_wp2_with fail
    go_region_law (first
      | (go_simp; (with_reducible refine (HC.out _).mono ?_); rintro e wb ⟨⟨A6, c6, rfl, hr6⟩, hBb⟩))
    all_goals
      have hB2 := Below.trans ((Below.refl wa.heap.size wa).drew) (hBb.mono (Nat.le_refl _))
      have hB3 := HB1.out.trans (hB2.mono HB1.out.size)
      obtain ⟨-, f0, f1, g0, g1, g2⟩ := HCL.out wb hB3
      have HP2 := Lib.hid (HP.out wb A5 A6 c5 c6 (HB0.out.trans (hB3.mono HB0.out.size)) (HR5.out.below hB2) hr6)
      have HB3 := Lib.hid (HB0.out.trans (hB3.mono HB0.out.size))
      clear hBb hr6 hB2 hB3
      go_wp2_with fail
      refine HP2.out.mono ?_
      rintro e wc ⟨⟨A7, c7, rfl, hr7⟩, hBc⟩
      have HB4 := Lib.hid (HB3.out.trans (hBc.mono HB3.out.size))
      have HR7 := Lib.hid hr7
      clear hBc hr7
      go_wp2_with fail
      go_ret2
      exact ⟨⟨A7, c7, rfl, HR7.out⟩, HB4.out⟩

/-- A tree in a box of its own. -/
theorem box_keep {B : Nat} {w1 : World} {v0 v1 v2 : Value} {T : TypeId} {t : Tre} (hT : TreV B w1 t (.agg #[v0, v1, v2])) : ∀ W, Below (w1.alloc (.cells #[v0, v1, v2] T)).heap.size (w1.alloc (.cells #[v0, v1, v2] T)) W →
    (W.cell? ⟨w1.heap.size, 0, none⟩ = some v0 ∧ W.cell? ⟨w1.heap.size, 1, none⟩ = some v1 ∧ W.cell? ⟨w1.heap.size, 2, none⟩ = some v2) ∧ TreV 0 W t (.agg #[v0, v1, v2]) := fun W hW => by
  have h1 := (hW.block w1.heap.size (by simp)).trans (alloc_at w1 (.cells #[v0, v1, v2] T) _ rfl)
  refine ⟨by refine ⟨?_, ?_, ?_⟩ <;> simp [World.cell?, h1], ?_⟩
  have h2 := below1 w1 (.cells #[v0, v1, v2] T)
  exact (hT.mono (Nat.zero_le _)).below (h2.trans (hW.mono h2.size))
theorem tre_val {B : Nat} {w : World} {k n : Int} {ts : List Tre} {v : Value} (h : TreV B w (.mk k n ts) v) : ∃ A c, v = .agg #[.int .i64 k, .int .i64 n, .slice A ts.length c] := by
  unfold TreV at h
  obtain ⟨A, c, e, _⟩ := h
  exact ⟨A, c, e⟩
theorem po1_text : textP po1 = [49, 42, 120, 49, 32, 43, 32, 49, 42, 120, 48, 42, 120, 49] := by
  have h0 := itoa_small 0 (by omega)
  have h1 := itoa_small 1 (by omega)
  simp [textP, po1, catT, sepT, termT, expsT, expT]
  simp at h0 h1
  rw [h0, h1]
  decide

set_option maxRecDepth 100000 in
set_option maxHeartbeats 4000000 in
theorem PolyOf_al (v : Value) (w : World) (hL : LayF w) (hT : TreV 0 w alE v) :
    Calls Tryz.prog 49 #[.agg #[.int .i64 2, .int .i64 1], v, .int .i64 2] w (PoIs po1 w) := by
  obtain ⟨A, c, rfl⟩ := tre_val hT
  obtain ⟨w0, hw0⟩ : ∃ w0, w0 = (w.alloc (.cells #[.int .i64 2, .int .i64 1] 49)).alloc (.cells #[.int .i64 3, .int .i64 0, .slice A 2 c] 52) := ⟨_, rfl⟩
  have hb0 : Below w.heap.size w w0 := by rw [hw0]; exact below2 _ _ _
  have hf0 : w0.heap[w.heap.size]? = some (.cells #[.int .i64 2, .int .i64 1] 49 (0, 0)) := by rw [hw0]; exact alloc_old _ _ _ _ (alloc_at _ _ _ rfl)
  have he0 : w0.heap[w.heap.size + 1]? = some (.cells #[.int .i64 3, .int .i64 0, .slice A 2 c] 52 (0, 0)) := by rw [hw0]; exact alloc_at _ _ _ (by simp)
  have hsz0 : w0.heap.size = w.heap.size + 2 := by rw [hw0]; simp
  have hcl : ∀ W, Below w0.heap.size w0 W → W.cell? ⟨w.heap.size, 0, none⟩ = some (.int .i64 2) ∧ W.cell? ⟨w.heap.size, 1, none⟩ = some (.int .i64 1) ∧ W.cell? ⟨w.heap.size + 1, 0, none⟩ = some (.int .i64 3) ∧ W.cell? ⟨w.heap.size + 1, 1, none⟩ = some (.int .i64 0) ∧ W.cell? ⟨w.heap.size + 1, 2, none⟩ = some (.slice A 2 c) := fun W hW => by
    have g1 := (hW.block _ (by omega)).trans hf0
    have g2 := (hW.block _ (by omega)).trans he0
    exact ⟨by simp [World.cell?, g1], by simp [World.cell?, g1], by simp [World.cell?, g2], by simp [World.cell?, g2], by simp [World.cell?, g2]⟩
  have HCL := Lib.hid hcl
  have HW0 := Lib.hid hw0
  have HB0 := Lib.hid hb0
  have HM : Hid (Calls Tryz.prog 89 #[.agg #[.int .i64 2, .int .i64 1], .agg #[.int .i64 3, .int .i64 0, .slice A 2 c]] w0 fun e w' => e = .returned (.tuple #[.agg #[.int .i64 5, .int .i64 2, .int .i64 3, .int .i64 2], .bool true]) ∧ Below w0.heap.size w0 w') := Lib.hid (by
    have h := X.measureExpr_ok 2 1 2 al_f2 alE _ w0 (hL.layp.lays.below hb0) (hT.below hb0)
    rw [mes_alE, mesV_eq] at h
    exact h)
  have HP : Hid (∀ W, Below w.heap.size w W → Calls Tryz.prog 102 #[.agg #[.int .i64 2, .int .i64 1], .agg #[.int .i64 3, .int .i64 0, .slice A 2 c], .int .i64 2] W fun e w' => (∃ A c, e = .returned (.tuple #[.slice A 2 c, .int .i64 0]) ∧ RdP w' A (tms po1)) ∧ Below W.heap.size W w') := Lib.hid (fun W hW => polyOf_mul _ W (hL.layp.lays.below hW) (hT.below hW))
  clear hw0 hb0 hf0 he0 hsz0 hT hL
  obtain ⟨f0, f1, g0, g1, g2⟩ := hcl w0 (Below.refl _ _)
  clear hcl
  go_enter Tryz.func49, Tryz.ntmps49
  go_upto_region 1 with fail
  rw [← HW0.out]
  go_wp2_with fail
  refine HM.out.mono ?_
  rintro e w1 ⟨rfl, hB1⟩
  have hb2 := hB1.alloc (Nat.le_trans (Nat.le_refl _) hB1.size) (.cells #[.int .i64 5, .int .i64 2, .int .i64 3, .int .i64 2] 110)
  obtain ⟨f0, f1, g0, g1, g2⟩ := HCL.out _ hb2
  have HP2 := Lib.hid (HP.out _ (HB0.out.trans (hb2.mono HB0.out.size)))
  have HB2 := Lib.hid (HB0.out.trans (hb2.mono HB0.out.size))
  clear hB1 hb2
  go_wp2_with fail
  refine HP2.out.mono ?_
  rintro e w2 ⟨⟨A7, c7, rfl, hr7⟩, hB3⟩
  have HB3 := Lib.hid (HB2.out.trans (hB3.mono HB2.out.size))
  have HR7 := Lib.hid hr7
  clear hB3 hr7
  go_wp2_with fail
  go_ret2
  exact ⟨⟨A7, c7, rfl, HR7.out⟩, HB3.out⟩
end Go.Proofs.YtopbfgkfpgnalaaGreatDoor
