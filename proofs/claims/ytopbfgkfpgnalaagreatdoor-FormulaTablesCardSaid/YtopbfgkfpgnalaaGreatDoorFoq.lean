/-
  polyOf at the leaves and the nodes of the expression that alive parses.
-/
import Derived.Test.YtopbfgkfpgnalaaGreatDoorFpj
import Derived.Test.YtopbfgkfpgnalaaGreatDoorUl
import Derived.Test.YtopbfgkfpgnalaaGreatDoorUi
namespace Go.Proofs.YtopbfgkfpgnalaaGreatDoor
set_option linter.unusedVariables false
open Go.RowKit Go.Maps

theorem two_rd {w : World} {g h' : Nat} (c a b : Nat) (h1 : w.cell? ⟨g, 0, none⟩ = some (.int .i64 (c : Int))) (h2 : w.cell? ⟨g, 1, none⟩ = some (.slice (some ⟨h', 0, none⟩) 2 2)) (h3 : w.cell? ⟨h', 0, none⟩ = some (.int .i64 (a : Int))) (h4 : w.cell? ⟨h', 1, none⟩ = some (.int .i64 (b : Int))) : RdP w (some ⟨g, 0, none⟩) (tms [(c, [a, b])]) := fun k t hk => by
  match k, hk with
  | 0, hk =>
    simp at hk
    subst hk
    refine ⟨g, 0, _, rfl, h1, h2, some ⟨h', 0, none⟩, 2, by simp [nz], ?_, by simp [nz]⟩
    intro k x hk
    match k, hk with
    | 0, hk =>
      simp [nz] at hk
      subst hk
      exact ⟨_, rfl, h3⟩
    | 1, hk =>
      simp [nz] at hk
      subst hk
      exact ⟨_, rfl, h4⟩
    | k + 2, hk => simp [nz] at hk
  | k + 1, hk => simp at hk
theorem leaf_val {B : Nat} {w : World} {k n : Int} {v : Value} (h : TreV B w (.mk k n []) v) : ∃ A c, v = .agg #[.int .i64 k, .int .i64 n, .slice A 0 c] := by
  unfold TreV at h
  obtain ⟨A, c, e, _⟩ := h
  exact ⟨A, c, e⟩
theorem kids2 {w : World} {k n : Int} {ta tb : Tre} {v : Value} (h : TreV 0 w (.mk k n [ta, tb]) v) : ∃ b off c x y z x' y' z', v = .agg #[.int .i64 k, .int .i64 n, .slice (some ⟨b, off, none⟩) 2 c] ∧
    ∀ W, Below w.heap.size w W → (W.cell? ⟨b, off, none⟩ = some x ∧ W.cell? ⟨b, off + 1, none⟩ = some y ∧ W.cell? ⟨b, off + 2, none⟩ = some z ∧ W.cell? ⟨b, off + 3, none⟩ = some x' ∧ W.cell? ⟨b, off + 4, none⟩ = some y' ∧ W.cell? ⟨b, off + 5, none⟩ = some z') ∧ TreV 0 W ta (.agg #[x, y, z]) ∧ TreV 0 W tb (.agg #[x', y', z']) := by
  unfold TreV at h
  obtain ⟨A, c, rfl, hr⟩ := h
  obtain ⟨b, off, x, y, z, rfl, _, e0, e1, e2, hT⟩ := hr.at (j := 0) (t := ta) rfl
  obtain ⟨b2, off2, x', y', z', hA, _, f0, f1, f2, hT'⟩ := hr.at (j := 1) (t := tb) rfl
  cases hA
  have cl : ∀ W, Below w.heap.size w W → ∀ {p : Addr} {u : Value}, w.cell? p = some u → W.cell? p = some u := fun W hW p u hu => (hW.cell (World.block_lt_of_cell? w _ hu)).trans hu
  exact ⟨b, off, c, x, y, z, x', y', z', rfl, fun W hW => ⟨⟨cl W hW e0, cl W hW e1, cl W hW e2, cl W hW f0, cl W hW f1, cl W hW f2⟩, hT.keep (KeepB.of_below 0 hW), hT'.keep (KeepB.of_below 0 hW)⟩⟩

/-- What polyOf leaves. -/
def PoIs (p : List Tm) (w : World) (e : Ending) (w' : World) : Prop := (∃ A c, e = .returned (.tuple #[.slice A p.length c, .int .i64 0]) ∧ RdP w' A (tms p)) ∧ Below w.heap.size w w'

theorem cell?_drew (w : World) (p : Addr) : w.drew.cell? p = w.cell? p := rfl
set_option maxRecDepth 100000 in
set_option maxHeartbeats 4000000 in
theorem polyOf_x0 (A : Option Addr) (c : Nat) (w : World) :
    Calls Tryz.prog 102 #[.agg #[.int .i64 2, .int .i64 1], .agg #[.int .i64 0, .int .i64 0, .slice A 0 c], .int .i64 2] w (PoIs [(1, [1, 0])] w) := by
  have hmk : ∀ w, (Instr.makeSlice 57 (.int .i64 2) (.int .i64 2)).run Tryz.prog w = .ok (.slice (some ⟨w.heap.size, 0, none⟩) 2 2) (w.alloc (.cells #[.int .i64 0, .int .i64 0] 3)) := make_ints 2 (by omega)
  go_enter Tryz.func102, Tryz.ntmps102
  go_wp2_with fail
  go_ret2
  refine ⟨⟨_, _, rfl, two_rd (g := w.heap.size + 1 + 1 + 1 + 1) (h' := w.heap.size + 1 + 1) 1 1 0 ?_ ?_ ?_ ?_⟩, ?_⟩
  · rw [World.cell?, alloc_at ((((w.alloc (Obj.cells #[Value.int IntKind.i64 2, Value.int IntKind.i64 1] 49)).alloc (Obj.cells #[Value.int IntKind.i64 0, Value.int IntKind.i64 0, Value.slice A 0 c] 52)).alloc (Obj.cells #[Value.int IntKind.i64 1, Value.int IntKind.i64 0] 3)).alloc (Obj.cells #[Value.int IntKind.i64 1, Value.slice (some { block := w.heap.size + 1 + 1, off := 0 }) 2 2] 144)) (Obj.cells #[Value.int IntKind.i64 1, Value.slice (some { block := w.heap.size + 1 + 1, off := 0 }) 2 2] 144) (w.heap.size + 1 + 1 + 1 + 1) (by simp)]; rfl
  · rw [World.cell?, alloc_at ((((w.alloc (Obj.cells #[Value.int IntKind.i64 2, Value.int IntKind.i64 1] 49)).alloc (Obj.cells #[Value.int IntKind.i64 0, Value.int IntKind.i64 0, Value.slice A 0 c] 52)).alloc (Obj.cells #[Value.int IntKind.i64 1, Value.int IntKind.i64 0] 3)).alloc (Obj.cells #[Value.int IntKind.i64 1, Value.slice (some { block := w.heap.size + 1 + 1, off := 0 }) 2 2] 144)) (Obj.cells #[Value.int IntKind.i64 1, Value.slice (some { block := w.heap.size + 1 + 1, off := 0 }) 2 2] 144) (w.heap.size + 1 + 1 + 1 + 1) (by simp)]; rfl
  · rw [World.cell?, alloc_old _ _ _ _ (alloc_old _ _ _ _ (alloc_at ((w.alloc (Obj.cells #[Value.int IntKind.i64 2, Value.int IntKind.i64 1] 49)).alloc (Obj.cells #[Value.int IntKind.i64 0, Value.int IntKind.i64 0, Value.slice A 0 c] 52)) (Obj.cells #[Value.int IntKind.i64 1, Value.int IntKind.i64 0] 3) (w.heap.size + 1 + 1) (by simp)))]; rfl
  · rw [World.cell?, alloc_old _ _ _ _ (alloc_old _ _ _ _ (alloc_at ((w.alloc (Obj.cells #[Value.int IntKind.i64 2, Value.int IntKind.i64 1] 49)).alloc (Obj.cells #[Value.int IntKind.i64 0, Value.int IntKind.i64 0, Value.slice A 0 c] 52)) (Obj.cells #[Value.int IntKind.i64 1, Value.int IntKind.i64 0] 3) (w.heap.size + 1 + 1) (by simp)))]; rfl
  · exact (((((Below.refl _ w).alloc (Nat.le_refl _) _).alloc (by simp) _).alloc (by simp; omega) _).alloc (by simp; omega) _).alloc (by simp; omega) _
set_option maxRecDepth 100000 in
set_option maxHeartbeats 4000000 in
theorem polyOf_x1 (A : Option Addr) (c : Nat) (w : World) :
    Calls Tryz.prog 102 #[.agg #[.int .i64 2, .int .i64 1], .agg #[.int .i64 0, .int .i64 1, .slice A 0 c], .int .i64 2] w (PoIs [(1, [0, 1])] w) := by
  have hmk : ∀ w, (Instr.makeSlice 57 (.int .i64 2) (.int .i64 2)).run Tryz.prog w = .ok (.slice (some ⟨w.heap.size, 0, none⟩) 2 2) (w.alloc (.cells #[.int .i64 0, .int .i64 0] 3)) := make_ints 2 (by omega)
  go_enter Tryz.func102, Tryz.ntmps102
  go_wp2_with fail
  go_ret2
  refine ⟨⟨_, _, rfl, two_rd (g := w.heap.size + 1 + 1 + 1 + 1) (h' := w.heap.size + 1 + 1) 1 0 1 ?_ ?_ ?_ ?_⟩, ?_⟩
  · rw [World.cell?, alloc_at ((((w.alloc (Obj.cells #[Value.int IntKind.i64 2, Value.int IntKind.i64 1] 49)).alloc (Obj.cells #[Value.int IntKind.i64 0, Value.int IntKind.i64 1, Value.slice A 0 c] 52)).alloc (Obj.cells #[Value.int IntKind.i64 0, Value.int IntKind.i64 1] 3)).alloc (Obj.cells #[Value.int IntKind.i64 1, Value.slice (some { block := w.heap.size + 1 + 1, off := 0 }) 2 2] 144)) (Obj.cells #[Value.int IntKind.i64 1, Value.slice (some { block := w.heap.size + 1 + 1, off := 0 }) 2 2] 144) (w.heap.size + 1 + 1 + 1 + 1) (by simp)]; rfl
  · rw [World.cell?, alloc_at ((((w.alloc (Obj.cells #[Value.int IntKind.i64 2, Value.int IntKind.i64 1] 49)).alloc (Obj.cells #[Value.int IntKind.i64 0, Value.int IntKind.i64 1, Value.slice A 0 c] 52)).alloc (Obj.cells #[Value.int IntKind.i64 0, Value.int IntKind.i64 1] 3)).alloc (Obj.cells #[Value.int IntKind.i64 1, Value.slice (some { block := w.heap.size + 1 + 1, off := 0 }) 2 2] 144)) (Obj.cells #[Value.int IntKind.i64 1, Value.slice (some { block := w.heap.size + 1 + 1, off := 0 }) 2 2] 144) (w.heap.size + 1 + 1 + 1 + 1) (by simp)]; rfl
  · rw [World.cell?, alloc_old _ _ _ _ (alloc_old _ _ _ _ (alloc_at ((w.alloc (Obj.cells #[Value.int IntKind.i64 2, Value.int IntKind.i64 1] 49)).alloc (Obj.cells #[Value.int IntKind.i64 0, Value.int IntKind.i64 1, Value.slice A 0 c] 52)) (Obj.cells #[Value.int IntKind.i64 0, Value.int IntKind.i64 1] 3) (w.heap.size + 1 + 1) (by simp)))]; rfl
  · rw [World.cell?, alloc_old _ _ _ _ (alloc_old _ _ _ _ (alloc_at ((w.alloc (Obj.cells #[Value.int IntKind.i64 2, Value.int IntKind.i64 1] 49)).alloc (Obj.cells #[Value.int IntKind.i64 0, Value.int IntKind.i64 1, Value.slice A 0 c] 52)) (Obj.cells #[Value.int IntKind.i64 0, Value.int IntKind.i64 1] 3) (w.heap.size + 1 + 1) (by simp)))]; rfl
  · exact (((((Below.refl _ w).alloc (Nat.le_refl _) _).alloc (by simp) _).alloc (by simp; omega) _).alloc (by simp; omega) _).alloc (by simp; omega) _
set_option maxRecDepth 100000 in
set_option maxHeartbeats 4000000 in
theorem polyOf_c1 (A : Option Addr) (c : Nat) (w : World) :
    Calls Tryz.prog 102 #[.agg #[.int .i64 2, .int .i64 1], .agg #[.int .i64 1, .int .i64 1, .slice A 0 c], .int .i64 2] w (PoIs [(1, [0, 0])] w) := by
  have hmk : ∀ w, (Instr.makeSlice 57 (.int .i64 2) (.int .i64 2)).run Tryz.prog w = .ok (.slice (some ⟨w.heap.size, 0, none⟩) 2 2) (w.alloc (.cells #[.int .i64 0, .int .i64 0] 3)) := make_ints 2 (by omega)
  go_enter Tryz.func102, Tryz.ntmps102
  go_wp2_with fail
  go_region
  go_wp2_with fail
  go_ret2
  refine ⟨⟨_, _, rfl, two_rd (g := w.heap.size + 1 + 1 + 1) (h' := w.heap.size + 1 + 1) 1 0 0 ?_ ?_ ?_ ?_⟩, ?_⟩
  · rw [cell?_drew, World.cell?, alloc_at (((w.alloc (Obj.cells #[Value.int IntKind.i64 2, Value.int IntKind.i64 1] 49)).alloc (Obj.cells #[Value.int IntKind.i64 1, Value.int IntKind.i64 1, Value.slice A 0 c] 52)).alloc (Obj.cells #[Value.int IntKind.i64 0, Value.int IntKind.i64 0] 3)) (Obj.cells #[Value.int IntKind.i64 1, Value.slice (some { block := w.heap.size + 1 + 1, off := 0 }) 2 2] 144) (w.heap.size + 1 + 1 + 1) (by simp)]; rfl
  · rw [cell?_drew, World.cell?, alloc_at (((w.alloc (Obj.cells #[Value.int IntKind.i64 2, Value.int IntKind.i64 1] 49)).alloc (Obj.cells #[Value.int IntKind.i64 1, Value.int IntKind.i64 1, Value.slice A 0 c] 52)).alloc (Obj.cells #[Value.int IntKind.i64 0, Value.int IntKind.i64 0] 3)) (Obj.cells #[Value.int IntKind.i64 1, Value.slice (some { block := w.heap.size + 1 + 1, off := 0 }) 2 2] 144) (w.heap.size + 1 + 1 + 1) (by simp)]; rfl
  · rw [cell?_drew, World.cell?, alloc_old _ _ _ _ (alloc_at ((w.alloc (Obj.cells #[Value.int IntKind.i64 2, Value.int IntKind.i64 1] 49)).alloc (Obj.cells #[Value.int IntKind.i64 1, Value.int IntKind.i64 1, Value.slice A 0 c] 52)) (Obj.cells #[Value.int IntKind.i64 0, Value.int IntKind.i64 0] 3) (w.heap.size + 1 + 1) (by simp))]; rfl
  · rw [cell?_drew, World.cell?, alloc_old _ _ _ _ (alloc_at ((w.alloc (Obj.cells #[Value.int IntKind.i64 2, Value.int IntKind.i64 1] 49)).alloc (Obj.cells #[Value.int IntKind.i64 1, Value.int IntKind.i64 1, Value.slice A 0 c] 52)) (Obj.cells #[Value.int IntKind.i64 0, Value.int IntKind.i64 0] 3) (w.heap.size + 1 + 1) (by simp))]; rfl
  · exact (((((Below.refl _ w).alloc (Nat.le_refl _) _).alloc (by simp) _).alloc (by simp; omega) _).alloc (by simp; omega) _).drew

theorem po0_cfs (e : List Nat) : cfs (addN 2 1) ([(1, [1, 0])] ++ [(1, [0, 0])]) e = cfs (addN 2 1) po0 e := by
  by_cases h0 : e = [0, 0]
  · subst h0; decide
  · by_cases h1 : e = [1, 0]
    · subst h1; decide
    · rw [cfs_none, cfs_none]
      · intro t ht e'
        simp [po0] at ht
        rcases ht with rfl | rfl
        · exact h0 e'.symm
        · exact h1 e'.symm
      · intro t ht e'
        simp at ht
        rcases ht with rfl | rfl
        · exact h1 e'.symm
        · exact h0 e'.symm
theorem po0_eq {p : List Tm} (hr : Ris 2 2 p) (hc : ∀ e, cfs (addN 2 1) p e = cfs (addN 2 1) ([(1, [1, 0])] ++ [(1, [0, 0])]) e) : p = po0 :=
  hr.ext al_f2.fl.toRng po0_ris fun e => (hc e).trans (po0_cfs e)
theorem po_add (A B : Option Addr) (c d : Nat) (w : World) (hL : Lays w) (hr : RdP w A (tms [(1, [1, 0])])) (hr' : RdP w B (tms [(1, [0, 0])])) :
    Calls Tryz.prog 140 #[.agg #[.int .i64 2, .int .i64 1], .int .i64 2, .slice A 1 c, .slice B 1 d] w (PoIs po0 w) := by
  refine (PAdd_ok 2 1 2 2 al_f2 (by omega) (by omega) A B c d [(1, [1, 0])] [(1, [0, 0])] w hL hr hr' (one_ris 1 0) (one_ris 0 0) (po_ex (by omega) (by omega)) (po_ex (by omega) (by omega)) (by decide) (by decide)).mono ?_
  rintro e w' ⟨hB, p, h1, h2, h3, h4, h5⟩
  obtain rfl := po0_eq h1 h2
  rcases h5 with ⟨_, A', c', rfl, hr⟩ | ⟨h5, _⟩
  · exact ⟨⟨A', c', rfl, hr⟩, hB⟩
  · exact absurd h5 (by decide)
set_option maxRecDepth 100000 in
set_option maxHeartbeats 4000000 in
theorem polyOf_add (v : Value) (w : World) (hL : Lays w) (hT : TreV 0 w (.mk 2 0 [.mk 0 0 [], .mk 1 1 []]) v) :
    Calls Tryz.prog 102 #[.agg #[.int .i64 2, .int .i64 1], v, .int .i64 2] w (PoIs po0 w) := by
  obtain ⟨b, off, c, x, y, z, x', y', z', rfl, hk⟩ := kids2 hT
  obtain ⟨w0, hw0⟩ : ∃ w0, w0 = (w.alloc (.cells #[.int .i64 2, .int .i64 1] 49)).alloc (.cells #[.int .i64 2, .int .i64 0, .slice (some ⟨b, off, none⟩) 2 c] 52) := ⟨_, rfl⟩
  have hb0 : Below w.heap.size w w0 := by rw [hw0]; exact below2 _ _ _
  have hf0 : w0.heap[w.heap.size]? = some (.cells #[.int .i64 2, .int .i64 1] 49 (0, 0)) := by rw [hw0]; exact alloc_old _ _ _ _ (alloc_at _ _ _ rfl)
  have he0 : w0.heap[w.heap.size + 1]? = some (.cells #[.int .i64 2, .int .i64 0, .slice (some ⟨b, off, none⟩) 2 c] 52 (0, 0)) := by rw [hw0]; exact alloc_at _ _ _ (by simp)
  have hsz0 : w0.heap.size = w.heap.size + 2 := by rw [hw0]; simp
  obtain ⟨-, hTa, hTb⟩ := hk _ hb0
  obtain ⟨A1, c1, h1⟩ := leaf_val hTa
  obtain ⟨A2, c2, h2⟩ := leaf_val hTb
  obtain ⟨rfl, rfl, rfl⟩ : x = .int .i64 0 ∧ y = .int .i64 0 ∧ z = .slice A1 0 c1 := by simpa using h1
  obtain ⟨rfl, rfl, rfl⟩ : x' = .int .i64 1 ∧ y' = .int .i64 1 ∧ z' = .slice A2 0 c2 := by simpa using h2
  have HW0 := Lib.hid hw0
  have HB0 := Lib.hid hb0
  have hcl : ∀ W, Below w0.heap.size w0 W → (W.cell? ⟨b, off, none⟩ = some (.int .i64 0) ∧ W.cell? ⟨b, off + 1, none⟩ = some (.int .i64 0) ∧ W.cell? ⟨b, off + 2, none⟩ = some (.slice A1 0 c1) ∧ W.cell? ⟨b, off + 3, none⟩ = some (.int .i64 1) ∧ W.cell? ⟨b, off + 4, none⟩ = some (.int .i64 1) ∧ W.cell? ⟨b, off + 5, none⟩ = some (.slice A2 0 c2)) ∧
      W.cell? ⟨w.heap.size, 0, none⟩ = some (.int .i64 2) ∧ W.cell? ⟨w.heap.size, 1, none⟩ = some (.int .i64 1) ∧ W.cell? ⟨w.heap.size + 1, 0, none⟩ = some (.int .i64 2) ∧ W.cell? ⟨w.heap.size + 1, 1, none⟩ = some (.int .i64 0) ∧ W.cell? ⟨w.heap.size + 1, 2, none⟩ = some (.slice (some ⟨b, off, none⟩) 2 c) := fun W hW => by
    have g1 := (hW.block _ (by omega)).trans hf0
    have g2 := (hW.block _ (by omega)).trans he0
    exact ⟨(hk W (hb0.trans (hW.mono hb0.size))).1, by simp [World.cell?, g1], by simp [World.cell?, g1], by simp [World.cell?, g2], by simp [World.cell?, g2], by simp [World.cell?, g2]⟩
  have HCL := Lib.hid hcl
  have HX : Hid (∀ W, Calls Tryz.prog 102 #[.agg #[.int .i64 2, .int .i64 1], .agg #[.int .i64 0, .int .i64 0, .slice A1 0 c1], .int .i64 2] W fun e w' => (∃ A c, e = .returned (.tuple #[.slice A 1 c, .int .i64 0]) ∧ RdP w' A (tms [(1, [1, 0])])) ∧ Below W.heap.size W w') := Lib.hid (fun W => polyOf_x0 A1 c1 W)
  have HC : Hid (∀ W, Calls Tryz.prog 102 #[.agg #[.int .i64 2, .int .i64 1], .agg #[.int .i64 1, .int .i64 1, .slice A2 0 c2], .int .i64 2] W fun e w' => (∃ A c, e = .returned (.tuple #[.slice A 1 c, .int .i64 0]) ∧ RdP w' A (tms [(1, [0, 0])])) ∧ Below W.heap.size W w') := Lib.hid (fun W => polyOf_c1 A2 c2 W)
  have HP : Hid (∀ W A B c d, Below w.heap.size w W → RdP W A (tms [(1, [1, 0])]) → RdP W B (tms [(1, [0, 0])]) → Calls Tryz.prog 140 #[.agg #[.int .i64 2, .int .i64 1], .int .i64 2, .slice A 1 c, .slice B 1 d] W fun e w' => (∃ A c, e = .returned (.tuple #[.slice A 2 c, .int .i64 0]) ∧ RdP w' A (tms po0)) ∧ Below W.heap.size W w') := Lib.hid (fun W A B c d hW hr hr' => po_add A B c d W (hL.below hW) hr hr')
  clear hw0 hb0 hf0 he0 hsz0 hTa hTb h1 h2 hk hT hL
  obtain ⟨⟨e0, e1, e2, -, -, -⟩, f0, f1, g0, g1, g2⟩ := hcl w0 (Below.refl _ _)
  clear hcl
  go_enter Tryz.func102, Tryz.ntmps102
  go_upto_region 1 with fail
  rw [← HW0.out]
  go_wp2_with fail
  go_region_law (first
    | (go_simp; (with_reducible refine (HX.out _).mono ?_); rintro e wa ⟨⟨A5, c5, rfl, hr5⟩, hBa⟩))
  all_goals
    have hB1 := Below.trans ((Below.refl w0.heap.size w0).drew) (hBa.mono (Nat.le_refl _))
    obtain ⟨⟨-, -, -, e3, e4, e5⟩, f0, f1, g0, g1, g2⟩ := HCL.out wa hB1
    have HB1 := Lib.hid hB1
    have HR5 := Lib.hid hr5
    clear hBa hr5 hB1
    go_wp2_with fail
    go_region_law (first
      | (go_simp; (with_reducible refine (HC.out _).mono ?_); rintro e wb ⟨⟨A6, c6, rfl, hr6⟩, hBb⟩))
    all_goals
      have hB2 := Below.trans ((Below.refl wa.heap.size wa).drew) (hBb.mono (Nat.le_refl _))
      have hB3 := HB1.out.trans (hB2.mono HB1.out.size)
      obtain ⟨-, f0, f1, g0, g1, g2⟩ := HCL.out wb hB3
      have HP2 := Lib.hid (HP.out wb A5 A6 c5 c6 (HB0.out.trans (hB3.mono HB0.out.size)) (HR5.out.below hB2) hr6)
      have HB3 := Lib.hid (HB0.out.trans (hB3.mono HB0.out.size))
      clear hBb hr6 hB2 hB3
      go_wp2_with fail
      refine HP2.out.mono ?_
      rintro e wc ⟨⟨A7, c7, rfl, hr7⟩, hBc⟩
      have HB4 := Lib.hid (HB3.out.trans (hBc.mono HB3.out.size))
      have HR7 := Lib.hid hr7
      clear hBc hr7
      go_wp2_with fail
      go_ret2
      exact ⟨⟨A7, c7, rfl, HR7.out⟩, HB4.out⟩
end Go.Proofs.YtopbfgkfpgnalaaGreatDoor
