/-
  Joined from Fnj: see there.
-/
import Derived.Test.YtopbfgkfpgnalaaGreatDoorUz
import Derived.Test.YtopbfgkfpgnalaaGreatDoorUu
namespace Go.Proofs.YtopbfgkfpgnalaaGreatDoor.X
set_option linter.unusedVariables false
open Go.RowKit

/-- The state of a law of a field and an expression behind its first step: their boxes. -/
structure BoxE (w : World) (P M k n : Int) (A : Option Addr) (len c : Nat) (W : World) : Prop where
  bel : Below w.heap.size w W
  c0 : W.cell? ⟨w.heap.size, 0, none⟩ = some (.int .i64 P)
  c1 : W.cell? ⟨w.heap.size, 1, none⟩ = some (.int .i64 M)
  box : W.heap[w.heap.size + 1]? = some (.cells #[.int .i64 k, .int .i64 n, .slice A len c] 52 (0, 0))
theorem BoxE.step {w W W' : World} {P M k n : Int} {A : Option Addr} {len c : Nat} (h : BoxE w P M k n A len c W) (hB : Below W.heap.size W W') : BoxE w P M k n A len c W' :=
  ⟨h.bel.trans (hB.mono h.bel.size), (hB.cell (World.block_lt_of_cell? W _ h.c0)).trans h.c0, (hB.cell (World.block_lt_of_cell? W _ h.c1)).trans h.c1, (hB.block _ (Array.getElem?_eq_some_iff.1 h.box).1).trans h.box⟩
theorem BoxE.start (w : World) (P M k n : Int) (A : Option Addr) (len c : Nat) : BoxE w P M k n A len c ((w.alloc (.cells #[.int .i64 P, .int .i64 M] 49)).alloc (.cells #[.int .i64 k, .int .i64 n, .slice A len c] 52)) :=
  ⟨below2 _ _ _, (World.cell?_alloc_lt _ _ _ (by simp)).trans (World.cell?_alloc_new _ _ _ 0), (World.cell?_alloc_lt _ _ _ (by simp)).trans (World.cell?_alloc_new _ _ _ 1), alloc_at _ _ _ (by simp)⟩
theorem BoxE.cells {w W : World} {P M k n : Int} {A : Option Addr} {len c : Nat} (h : BoxE w P M k n A len c W) : W.cell? ⟨w.heap.size, 0, none⟩ = some (.int .i64 P) ∧ W.cell? ⟨w.heap.size, 1, none⟩ = some (.int .i64 M) ∧ W.cell? ⟨w.heap.size + 1, 0, none⟩ = some (.int .i64 k) ∧ W.cell? ⟨w.heap.size + 1, 1, none⟩ = some (.int .i64 n) ∧ W.cell? ⟨w.heap.size + 1, 2, none⟩ = some (.slice A len c) :=
  ⟨h.c0, h.c1, (blk3_cells h.box).1⟩
theorem BoxE.drew {w W : World} {P M k n : Int} {A : Option Addr} {len c : Nat} (h : BoxE w P M k n A len c W) : BoxE w P M k n A len c W.drew := h.step (Below.refl _ W).drew

set_option maxRecDepth 100000 in
set_option maxHeartbeats 8000000 in
theorem fe_main (P M : Int) (t : Tre) (v : Value) (w : World) (hT : TreV 0 w t v) (hA : ∀ W, Below w.heap.size w W → Calls Tryz.prog 16 #[] W fun e w' => e = .returned (.bool true) ∧ Below W.heap.size W w')
    (r : Bool) (o : Option (Nat × Nat × Nat × Nat))
    (hM : ∀ W, Below w.heap.size w W → Calls Tryz.prog 89 #[.agg #[.int .i64 P, .int .i64 M], v] W fun e w' => e = .returned (.tuple #[mesV o, .bool o.isSome]) ∧ Below W.heap.size W w')
    (hR : nodT t ≤ 21000 → ∀ W, Below w.heap.size w W → Calls Tryz.prog 36 #[.agg #[.int .i64 P, .int .i64 M], v] W fun e w' => e = .returned (.bool r) ∧ Below W.heap.size W w')
    (hno : r = false → o = none) (hyes : r = true → ∃ Q, o = some (nodT t, inpT t, sizT t, depT (eSh Q) t) ∧ shN (eSh Q) t = true) :
    Calls Tryz.prog 6 #[.agg #[.int .i64 P, .int .i64 M], v] w fun e w' => e = .returned (.bool true) ∧ Below w.heap.size w w' := by
  have HA := Lib.hid hA
  obtain ⟨k, n, ts⟩ := t
  have hT2 := hT
  unfold TreV at hT2
  obtain ⟨A, c, rfl, -⟩ := hT2
  have hTW := fun W (hW : Below w.heap.size w W) => TreV.below hT hW
  have HS0 := Lib.hid (BoxE.start w P M k n A ts.length c)
  have HFEW := Lib.hid (FewExpr_ok 21000 (by omega) (.mk k n ts) _ _ (hTW _ HS0.out.bel))
  have HFN : Hid (decide (wN 21000 (.mk k n ts) 0 ≤ 21000) = true → nodT (.mk k n ts) ≤ 21000) := Lib.hid (fun h => by
    have h2 := of_decide_eq_true h
    have := wN_nod 21000 (.mk k n ts) 0 h2
    omega)
  have HRV := Lib.hid hR
  have hv := fun W hW => ValidE_ok o P M k n A ts.length c W (fun W' h => hM W' ((show Below w.heap.size w W from hW).trans (h.mono (show Below w.heap.size w W from hW).size)))
  have hi := fun W hW => InputsE_ok o P M k n A ts.length c W (fun W' h => hM W' ((show Below w.heap.size w W from hW).trans (h.mono (show Below w.heap.size w W from hW).size)))
  have hz := fun W hW => SizeE_ok o P M k n A ts.length c W (fun W' h => hM W' ((show Below w.heap.size w W from hW).trans (h.mono (show Below w.heap.size w W from hW).size)))
  have hd := fun W hW => DepthE_ok o P M k n A ts.length c W (fun W' h => hM W' ((show Below w.heap.size w W from hW).trans (h.mono (show Below w.heap.size w W from hW).size)))
  have HRI' := Lib.hid (fun Q W (hW : Below w.heap.size w W) h1 h2 => Inputs_ref Q _ (.mk k n ts) (Nat.lt_succ_self _) _ W (hTW W hW) h1 h2)
  have HRZ' := Lib.hid (fun Q W (hW : Below w.heap.size w W) h1 h2 => Size_ref Q _ (.mk k n ts) (Nat.lt_succ_self _) _ W (hTW W hW) h1 h2)
  have HRD' := Lib.hid (fun Q W (hW : Below w.heap.size w W) h1 h2 => Depth_ref Q _ (.mk k n ts) (Nat.lt_succ_self _) _ W (hTW W hW) h1 h2)
  have HNO := Lib.hid hno
  have HYES := Lib.hid hyes
  obtain ⟨c0, c1, c2, c3, c4⟩ := HS0.out.cells
  clear hA hT hTW hM hR hno hyes
  obtain ⟨b, hb⟩ : ∃ b, decide (wN 21000 (.mk k n ts) 0 ≤ 21000) = b := ⟨_, rfl⟩
  rw [hb] at HFEW HFN
  rw [show ((21000 : Nat) : Int) = 21000 from rfl] at HFEW
  clear hb
  go_enter Tryz.func6, Tryz.ntmps6
  go_wp2_with fail
  refine HFEW.out.mono ?_
  rintro e w2 ⟨rfl, hB2⟩
  have hs2 := HS0.out.step hB2
  have HS2 := Lib.hid hs2
  obtain ⟨c0, c1, c2, c3, c4⟩ := hs2.cells
  clear hs2 hB2 HS0
  cases b
  · go_wp2_with fail
    refine (HA.out _ HS2.out.bel).mono ?_
    rintro e w3 ⟨rfl, hB3⟩
    have HS3 := Lib.hid (HS2.out.step hB3)
    clear hB3
    go_wp2_with fail
    go_ret
    exact ⟨rfl, HS3.out.bel⟩
  · have hn21 := HFN.out rfl
    have HRV2 := Lib.hid (HRV.out hn21 w2 HS2.out.bel)
    have HN40 := Lib.hid (show nodT (.mk k n ts) ≤ 1099511627776 by omega)
    clear hn21
    go_wp2_with fail
    refine HRV2.out.mono ?_
    rintro e w3 ⟨rfl, hB3⟩
    have hs3 := HS2.out.step hB3
    have HS3 := Lib.hid hs3
    obtain ⟨c0, c1, c2, c3, c4⟩ := hs3.cells
    clear hs3 hB3 HS2
    cases r
    · have hmi := HNO.out rfl
      rw [hmi] at hv hi hz hd
      have HV : Hid (∀ W, Below w.heap.size w W → Calls Tryz.prog _ _ W fun e w' => e = .returned (.bool false) ∧ Below W.heap.size W w') := Lib.hid hv
      have HI : Hid (∀ W, Below w.heap.size w W → Calls Tryz.prog _ _ W fun e w' => e = .returned (.int .i64 (-1)) ∧ Below W.heap.size W w') := Lib.hid hi
      have HZ : Hid (∀ W, Below w.heap.size w W → Calls Tryz.prog _ _ W fun e w' => e = .returned (.int .i64 (-1)) ∧ Below W.heap.size W w') := Lib.hid hz
      have HD : Hid (∀ W, Below w.heap.size w W → Calls Tryz.prog _ _ W fun e w' => e = .returned (.int .i64 (-1)) ∧ Below W.heap.size W w') := Lib.hid hd
      clear hmi hv hi hz hd
      go_wp2_with fail
      refine (HV.out _ HS3.out.bel).mono ?_
      rintro e w4 ⟨rfl, hB4⟩
      have hs4 := HS3.out.step hB4
      have HS4 := Lib.hid hs4
      obtain ⟨c0, c1, c2, c3, c4⟩ := hs4.cells
      clear hs4 hB4
      go_wp2_with fail
      refine (HI.out _ HS4.out.bel).mono ?_
      rintro e w5 ⟨rfl, hB5⟩
      have hs5 := HS4.out.step hB5
      have HS5 := Lib.hid hs5
      obtain ⟨c0, c1, c2, c3, c4⟩ := hs5.cells
      clear hs5 hB5
      go_wp2_with fail
      refine (HZ.out _ HS5.out.bel).mono ?_
      rintro e w6 ⟨rfl, hB6⟩
      have hs6 := HS5.out.step hB6
      have HS6 := Lib.hid hs6
      obtain ⟨c0, c1, c2, c3, c4⟩ := hs6.cells
      clear hs6 hB6
      go_wp2_with fail
      refine (HD.out _ HS6.out.bel).mono ?_
      rintro e w7 ⟨rfl, hB7⟩
      have hs7 := HS6.out.step hB7
      have HS7 := Lib.hid hs7
      obtain ⟨c0, c1, c2, c3, c4⟩ := hs7.cells
      clear hs7 hB7
      go_wp2_with fail
      refine (HA.out _ HS7.out.bel).mono ?_
      rintro e w8 ⟨rfl, hB8⟩
      have hs8 := HS7.out.step hB8
      have HS8 := Lib.hid hs8
      obtain ⟨c0, c1, c2, c3, c4⟩ := hs8.cells
      clear hs8 hB8
      go_wp2_with fail
      go_ret
      exact ⟨rfl, HS8.out.bel⟩
    · obtain ⟨Q, hmi, hsh⟩ := HYES.out rfl
      rw [hmi] at hv hi hz hd
      have hv' : ∀ W, Below w.heap.size w W → Calls Tryz.prog _ _ W fun e w' => e = .returned (.bool true) ∧ Below W.heap.size W w' := hv
      have hi' : ∀ W, Below w.heap.size w W → Calls Tryz.prog _ _ W fun e w' => e = .returned (.int .i64 (inpT (.mk k n ts) : Nat)) ∧ Below W.heap.size W w' := hi
      have hz' : ∀ W, Below w.heap.size w W → Calls Tryz.prog _ _ W fun e w' => e = .returned (.int .i64 (sizT (.mk k n ts) : Nat)) ∧ Below W.heap.size W w' := hz
      have hd' : ∀ W, Below w.heap.size w W → Calls Tryz.prog _ _ W fun e w' => e = .returned (.int .i64 (depT (eSh Q) (.mk k n ts) : Nat)) ∧ Below W.heap.size W w' := hd
      have HV := Lib.hid hv'
      have HI := Lib.hid hi'
      have HZ := Lib.hid hz'
      have HD := Lib.hid hd'
      have HRI := Lib.hid (fun W hW => HRI'.out Q W hW HN40.out hsh)
      have HRZ := Lib.hid (fun W hW => HRZ'.out Q W hW HN40.out hsh)
      have HRD := Lib.hid (fun W hW => HRD'.out Q W hW HN40.out hsh)
      clear hmi hv hi hz hd hv' hi' hz' hd' hsh HRI' HRZ' HRD' HNO HYES HRV HRV2 HFN HN40 HFEW
      generalize inpT (.mk k n ts) = ni at *
      generalize sizT (.mk k n ts) = nz at *
      generalize depT (eSh Q) (.mk k n ts) = nd at *
      generalize ts.length = len at *
      go_upto_region 5 with fail
      refine wp_region_text (S := (fun W => BoxE w P M k n A len c W ∧ W.cell? ⟨w.heap.size, 0, none⟩ = some (.int .i64 P) ∧ W.cell? ⟨w.heap.size, 1, none⟩ = some (.int .i64 M) ∧ W.cell? ⟨w.heap.size + 1, 0, none⟩ = some (.int .i64 k) ∧ W.cell? ⟨w.heap.size + 1, 1, none⟩ = some (.int .i64 n) ∧ W.cell? ⟨w.heap.size + 1, 2, none⟩ = some (.slice A len c))) (by kernel_rfl) (by kernel_rfl) ⟨HS3.out.drew, HS3.out.drew.cells⟩ (b := ?bq) ?text ?post
      case text =>
        refine InText.pure (by rfl) (fun w hw => by (try dsimp only at hw); go_simp; try with_reducible rfl) ?_
        simp only [Act.put, List.setIfInBounds_toArray, List.set_cons_zero, List.set_cons_succ]
        refine InText.pure (by rfl) (fun w hw => by (try dsimp only at hw); go_simp; try with_reducible rfl) ?_
        simp only [Act.put, List.setIfInBounds_toArray, List.set_cons_zero, List.set_cons_succ]
        refine InText.call (.bool true) (by rfl) (fun w hw => ?_) ?_
        · go_simp
          refine (HV.out w hw.1.bel).mono ?_
          rintro e wx ⟨rfl, hB⟩
          exact ⟨rfl, hw.1.step hB, (hw.1.step hB).cells⟩
        simp only [Act.put, List.setIfInBounds_toArray, List.set_cons_zero, List.set_cons_succ]
        refine InText.pure (by rfl) (fun w hw => by (try dsimp only at hw); go_simp; try with_reducible rfl) ?_
        simp only [Act.put, List.setIfInBounds_toArray, List.set_cons_zero, List.set_cons_succ]
        refine InText.pure (by rfl) (fun w hw => by (try dsimp only at hw); go_simp; try with_reducible rfl) ?_
        simp only [Act.put, List.setIfInBounds_toArray, List.set_cons_zero, List.set_cons_succ]
        refine InText.pure (by rfl) (fun w hw => by (try dsimp only at hw); go_simp; try with_reducible rfl) ?_
        simp only [Act.put, List.setIfInBounds_toArray, List.set_cons_zero, List.set_cons_succ]
        refine InText.call (.int .i64 (ni : Nat)) (by rfl) (fun w hw => ?_) ?_
        · go_simp
          refine (HI.out w hw.1.bel).mono ?_
          rintro e wx ⟨rfl, hB⟩
          exact ⟨rfl, hw.1.step hB, (hw.1.step hB).cells⟩
        simp only [Act.put, List.setIfInBounds_toArray, List.set_cons_zero, List.set_cons_succ]
        refine InText.pure (by rfl) (fun w hw => by (try dsimp only at hw); go_simp; try with_reducible rfl) ?_
        simp only [Act.put, List.setIfInBounds_toArray, List.set_cons_zero, List.set_cons_succ]
        refine InText.call (.int .i64 (ni : Nat)) (by rfl) (fun w hw => ?_) ?_
        · go_simp
          refine (HRI.out w hw.1.bel).mono ?_
          rintro e wx ⟨rfl, hB⟩
          exact ⟨rfl, hw.1.step hB, (hw.1.step hB).cells⟩
        simp only [Act.put, List.setIfInBounds_toArray, List.set_cons_zero, List.set_cons_succ]
        refine InText.pure (by rfl) (fun w hw => by (try dsimp only at hw); go_simp; try with_reducible rfl) ?_
        simp only [Act.put, List.setIfInBounds_toArray, List.set_cons_zero, List.set_cons_succ]
        refine InText.pure (by rfl) (fun w hw => by (try dsimp only at hw); go_simp; try with_reducible rfl) ?_
        simp only [Act.put, List.setIfInBounds_toArray, List.set_cons_zero, List.set_cons_succ]
        refine InText.pure (by rfl) (fun w hw => by (try dsimp only at hw); go_simp; try with_reducible rfl) ?_
        simp only [Act.put, List.setIfInBounds_toArray, List.set_cons_zero, List.set_cons_succ]
        refine InText.pure (by rfl) (fun w hw => by (try dsimp only at hw); go_simp; try with_reducible rfl) ?_
        simp only [Act.put, List.setIfInBounds_toArray, List.set_cons_zero, List.set_cons_succ]
        refine InText.pure (by rfl) (fun w hw => by (try dsimp only at hw); go_simp; try with_reducible rfl) ?_
        simp only [Act.put, List.setIfInBounds_toArray, List.set_cons_zero, List.set_cons_succ]
        refine InText.call (.int .i64 (nz : Nat)) (by rfl) (fun w hw => ?_) ?_
        · go_simp
          refine (HZ.out w hw.1.bel).mono ?_
          rintro e wx ⟨rfl, hB⟩
          exact ⟨rfl, hw.1.step hB, (hw.1.step hB).cells⟩
        simp only [Act.put, List.setIfInBounds_toArray, List.set_cons_zero, List.set_cons_succ]
        refine InText.pure (by rfl) (fun w hw => by (try dsimp only at hw); go_simp; try with_reducible rfl) ?_
        simp only [Act.put, List.setIfInBounds_toArray, List.set_cons_zero, List.set_cons_succ]
        refine InText.call (.int .i64 (nz : Nat)) (by rfl) (fun w hw => ?_) ?_
        · go_simp
          refine (HRZ.out w hw.1.bel).mono ?_
          rintro e wx ⟨rfl, hB⟩
          exact ⟨rfl, hw.1.step hB, (hw.1.step hB).cells⟩
        simp only [Act.put, List.setIfInBounds_toArray, List.set_cons_zero, List.set_cons_succ]
        refine InText.pure (by rfl) (fun w hw => by (try dsimp only at hw); go_simp; try with_reducible rfl) ?_
        simp only [Act.put, List.setIfInBounds_toArray, List.set_cons_zero, List.set_cons_succ]
        refine InText.pure (by rfl) (fun w hw => by (try dsimp only at hw); go_simp; try with_reducible rfl) ?_
        simp only [Act.put, List.setIfInBounds_toArray, List.set_cons_zero, List.set_cons_succ]
        refine InText.pure (by rfl) (fun w hw => by (try dsimp only at hw); go_simp; try with_reducible rfl) ?_
        simp only [Act.put, List.setIfInBounds_toArray, List.set_cons_zero, List.set_cons_succ]
        refine InText.pure (by rfl) (fun w hw => by (try dsimp only at hw); go_simp; try with_reducible rfl) ?_
        simp only [Act.put, List.setIfInBounds_toArray, List.set_cons_zero, List.set_cons_succ]
        refine InText.pure (by rfl) (fun w hw => by (try dsimp only at hw); go_simp; try with_reducible rfl) ?_
        simp only [Act.put, List.setIfInBounds_toArray, List.set_cons_zero, List.set_cons_succ]
        refine InText.call (.int .i64 (nd : Nat)) (by rfl) (fun w hw => ?_) ?_
        · go_simp
          refine (HD.out w hw.1.bel).mono ?_
          rintro e wx ⟨rfl, hB⟩
          exact ⟨rfl, hw.1.step hB, (hw.1.step hB).cells⟩
        simp only [Act.put, List.setIfInBounds_toArray, List.set_cons_zero, List.set_cons_succ]
        refine InText.pure (by rfl) (fun w hw => by (try dsimp only at hw); go_simp; try with_reducible rfl) ?_
        simp only [Act.put, List.setIfInBounds_toArray, List.set_cons_zero, List.set_cons_succ]
        refine InText.call (.int .i64 (nd : Nat)) (by rfl) (fun w hw => ?_) ?_
        · go_simp
          refine (HRD.out w hw.1.bel).mono ?_
          rintro e wx ⟨rfl, hB⟩
          exact ⟨rfl, hw.1.step hB, (hw.1.step hB).cells⟩
        simp only [Act.put, List.setIfInBounds_toArray, List.set_cons_zero, List.set_cons_succ]
        refine InText.pure (by rfl) (fun w hw => by (try dsimp only at hw); go_simp; try with_reducible rfl) ?_
        simp only [Act.put, List.setIfInBounds_toArray, List.set_cons_zero, List.set_cons_succ]
        refine InText.pure (by rfl) (fun w hw => by (try dsimp only at hw); go_simp; try with_reducible rfl) ?_
        simp only [Act.put, List.setIfInBounds_toArray, List.set_cons_zero, List.set_cons_succ]
        refine InText.pure (by rfl) (fun w hw => by (try dsimp only at hw); go_simp; try with_reducible rfl) ?_
        simp only [Act.put, List.setIfInBounds_toArray, List.set_cons_zero, List.set_cons_succ]
        refine InText.call (.bool true) (by rfl) (fun w hw => ?_) ?_
        · go_simp
          refine (HA.out w hw.1.bel).mono ?_
          rintro e wx ⟨rfl, hB⟩
          exact ⟨rfl, hw.1.step hB, (hw.1.step hB).cells⟩
        simp only [Act.put, List.setIfInBounds_toArray, List.set_cons_zero, List.set_cons_succ]
        refine InText.pure (by rfl) (fun w hw => by (try dsimp only at hw); go_simp; try with_reducible rfl) ?_
        simp only [Act.put, List.setIfInBounds_toArray, List.set_cons_zero, List.set_cons_succ]
        refine InText.pure (by rfl) (fun w hw => by (try dsimp only at hw); go_simp; try with_reducible rfl) ?_
        (try simp only [Act.put, List.setIfInBounds_toArray, List.set_cons_zero, List.set_cons_succ])
        exact InText.done
      case post =>
        rintro w' ⟨hst', _⟩
        have HS9 := Lib.hid hst'
        clear hst'
        go_wp2_with fail
        go_ret
        exact ⟨rfl, HS9.out.bel⟩
/-- FormulaExprs at every field and expression, given alive. -/
theorem formulaExprs_any (P M : Int) (t : Tre) (v : Value) (w : World) (hL : Lays w) (hT : TreV 0 w t v) (hA : ∀ W, Below w.heap.size w W → Calls Tryz.prog 16 #[] W fun e w' => e = .returned (.bool true) ∧ Below W.heap.size W w') :
    Calls Tryz.prog 6 #[.agg #[.int .i64 P, .int .i64 M], v] w fun e w' => e = .returned (.bool true) ∧ Below w.heap.size w w' := by
  by_cases h : OkF P M
  · obtain ⟨P', M', q, rfl, rfl, hf⟩ := h.fld
    exact fe_main P' M' t v w hT hA (okR (eSh q) t) (mesI (eSh q) t)
      (fun W hW => measureExpr_ok P' M' q hf t v W (hL.below hW) (hT.below hW))
      (fun hn W hW => ValidE_ref P' M' q hf t v W (hT.below hW) (by omega))
      mesI_no (fun h => ⟨q, (mesI_yes h).1, (mesI_yes h).2.1⟩)
  · exact fe_main P M t v w hT hA false none
      (fun W hW => measureExpr_bad P M h t v W (hL.below hW) (hT.below hW))
      (fun hn W hW => ValidE_refbad P M h t v W (hT.below hW) (by omega))
      (fun _ => rfl) (fun h => by cases h)
end Go.Proofs.YtopbfgkfpgnalaaGreatDoor.X
