/-
  Joined from Fne: see there.
-/
import Derived.Test.YtopbfgkfpgnalaaGreatDoorUw
import Derived.Test.YtopbfgkfpgnalaaGreatDoorRg
namespace Go.Proofs.YtopbfgkfpgnalaaGreatDoor
set_option linter.unusedVariables false
open Go.RowKit

/-- The state of a law of one formula behind its first step: the formula's box. -/
structure BoxF (w : World) (k n : Int) (A : Option Addr) (len c : Nat) (W : World) : Prop where
  bel : Below w.heap.size w W
  box : W.heap[w.heap.size]? = some (.cells #[.int .i64 k, .int .i64 n, .slice A len c] 24 (0, 0))
theorem BoxF.step {w W W' : World} {k n : Int} {A : Option Addr} {len c : Nat} (h : BoxF w k n A len c W) (hB : Below W.heap.size W W') : BoxF w k n A len c W' :=
  ⟨h.bel.trans (hB.mono h.bel.size), (hB.block _ (Array.getElem?_eq_some_iff.1 h.box).1).trans h.box⟩
theorem BoxF.start (w : World) (k n : Int) (A : Option Addr) (len c : Nat) : BoxF w k n A len c (w.alloc (.cells #[.int .i64 k, .int .i64 n, .slice A len c] 24)) :=
  ⟨below1 _ _, alloc_at _ _ _ rfl⟩
theorem BoxF.cells {w W : World} {k n : Int} {A : Option Addr} {len c : Nat} (h : BoxF w k n A len c W) : W.cell? ⟨w.heap.size, 0, none⟩ = some (.int .i64 k) ∧ W.cell? ⟨w.heap.size, 1, none⟩ = some (.int .i64 n) ∧ W.cell? ⟨w.heap.size, 2, none⟩ = some (.slice A len c) := (blk3_cells h.box).1
theorem BoxF.drew {w W : World} {k n : Int} {A : Option Addr} {len c : Nat} (h : BoxF w k n A len c W) : BoxF w k n A len c W.drew := h.step (Below.refl _ W).drew
theorem wL_one (L : Nat) (t : Tre) : wL L [t] 0 = wN L t 0 := by
  rw [wL, if_pos (Nat.zero_le _), wL]
theorem rowV_one {W : World} {g : Nat} {t : Tre} {x y z : Value} {T : TypeId} (h : W.heap[g]? = some (.cells #[x, y, z] T (0, 0))) (hT : TreV 0 W t (.agg #[x, y, z])) : RowV 0 W [t] (some ⟨g, 0, none⟩) 0 := by
  obtain ⟨⟨v0, v1, v2⟩, _⟩ := blk3_cells h
  unfold RowV
  refine ⟨⟨g, 0, x, y, z, rfl, Nat.zero_le _, by simpa using v0, by simpa using v1, by simpa using v2, hT⟩, by unfold RowV; trivial⟩

set_option maxRecDepth 100000 in
set_option maxHeartbeats 8000000 in
theorem formulaValid_any (t : Tre) (v : Value) (w : World) (hT : TreV 0 w t v) (hA : ∀ W, Below w.heap.size w W → Calls Tryz.prog 16 #[] W fun e w' => e = .returned (.bool true) ∧ Below W.heap.size W w') :
    Calls Tryz.prog 3 #[v] w fun e w' => e = .returned (.bool true) ∧ Below w.heap.size w w' := by
  have HA := Lib.hid hA
  obtain ⟨k, n, ts⟩ := t
  have hT2 := hT
  unfold TreV at hT2
  obtain ⟨A, c, rfl, -⟩ := hT2
  have hTW := fun W (hW : BoxF w k n A ts.length c W) => TreV.below hT hW.bel
  have HS0 := Lib.hid (BoxF.start w k n A ts.length c)
  have hb1 := below1 (w.alloc (.cells #[.int .i64 k, .int .i64 n, .slice A ts.length c] 24)) (.cells #[.int .i64 k, .int .i64 n, .slice A ts.length c] 24)
  have hs1 := HS0.out.step hb1
  have HS1 := Lib.hid hs1
  have hrow : RowV 0 ((w.alloc (.cells #[.int .i64 k, .int .i64 n, .slice A ts.length c] 24)).alloc (.cells #[.int .i64 k, .int .i64 n, .slice A ts.length c] 24)) [.mk k n ts] (some ⟨w.heap.size + 1, 0, none⟩) 0 :=
    rowV_one (alloc_at _ _ _ (by simp)) (hTW _ hs1)
  have HFEW := Lib.hid (Few_ok 21000 (by omega) [.mk k n ts] (some ⟨w.heap.size + 1, 0, none⟩) 1 _ hrow)
  have HRV := Lib.hid (fun W (hW : BoxF w k n A ts.length c W) (hn : nodT (.mk k n ts) ≤ 21000) => Valid_ref (.mk k n ts) _ W (hTW W hW) (by omega))
  have hv := fun W (hW : BoxF w k n A ts.length c W) => Valid_ok (.mk k n ts) _ W (hTW W hW)
  have hi := fun W (hW : BoxF w k n A ts.length c W) => Inputs_ok (.mk k n ts) _ W (hTW W hW)
  have hz := fun W (hW : BoxF w k n A ts.length c W) => Size_ok (.mk k n ts) _ W (hTW W hW)
  have hd := fun W (hW : BoxF w k n A ts.length c W) => Depth_ok (.mk k n ts) _ W (hTW W hW)
  have HRI' := Lib.hid (fun W (hW : BoxF w k n A ts.length c W) h1 h2 => Inputs_ref _ (.mk k n ts) (Nat.lt_succ_self _) _ W (hTW W hW) h1 h2)
  have HRZ' := Lib.hid (fun W (hW : BoxF w k n A ts.length c W) h1 => Size_ref _ (.mk k n ts) (Nat.lt_succ_self _) _ W (hTW W hW) h1)
  have HRD' := Lib.hid (fun W (hW : BoxF w k n A ts.length c W) h1 => Depth_ref _ (.mk k n ts) (Nat.lt_succ_self _) _ W (hTW W hW) h1)
  have HFN : Hid (decide (wL 21000 [.mk k n ts] 0 ≤ 21000) = true → nodT (.mk k n ts) ≤ 21000) := Lib.hid (fun h => by
    have h2 := of_decide_eq_true h
    rw [wL_one] at h2
    have := wN_nod 21000 (.mk k n ts) 0 h2
    omega)
  obtain ⟨c0, c1, c2⟩ := HS0.out.cells
  clear hA hT hTW hb1 hs1 hrow
  have HY : Hid (okR fSh (.mk k n ts) = true → mesI fSh (.mk k n ts) = some (nodT (.mk k n ts), inpT (.mk k n ts), sizT (.mk k n ts), depT fSh (.mk k n ts)) ∧ shN fSh (.mk k n ts) = true ∧ nodT (.mk k n ts) ≤ 20000) := Lib.hid mesI_yes
  have HN : Hid (okR fSh (.mk k n ts) = false → mesI fSh (.mk k n ts) = none) := Lib.hid mesI_no
  change Hid (∀ W (hW : BoxF w k n A ts.length c W) (hn : nodT (.mk k n ts) ≤ 21000), Calls _ _ _ W fun e w' => e = .returned (.bool (okR fSh (.mk k n ts))) ∧ Below W.heap.size W w') at HRV
  obtain ⟨b, hb⟩ : ∃ b, decide (wL 21000 [.mk k n ts] 0 ≤ 21000) = b := ⟨_, rfl⟩
  rw [hb] at HFEW HFN
  have HFEW2 : Hid (Calls Tryz.prog 15 #[.int .i64 21000, .slice (some ⟨w.heap.size + 1, 0, none⟩) 1 1] _ _) := HFEW
  generalize okR fSh (.mk k n ts) = r at *
  clear hb HFEW
  go_enter Tryz.func3, Tryz.ntmps3
  go_wp2_with fail
  refine HFEW2.out.mono ?_
  rintro e w2 ⟨rfl, hB2⟩
  have hs2 := HS1.out.step hB2
  have HS2 := Lib.hid hs2
  obtain ⟨c0, c1, c2⟩ := hs2.cells
  clear hs2 hB2 HS1 HS0
  cases b
  · go_wp2_with fail
    refine (HA.out _ HS2.out.bel).mono ?_
    rintro e w3 ⟨rfl, hB3⟩
    have HS3 := Lib.hid (HS2.out.step hB3)
    clear hB3
    go_wp2_with fail
    go_ret
    exact ⟨rfl, HS3.out.bel⟩
  · have hn21 := HFN.out rfl
    have HRV2 := Lib.hid (HRV.out w2 HS2.out hn21)
    have HN40 := Lib.hid (show nodT (.mk k n ts) ≤ 1099511627776 by omega)
    clear hn21
    go_wp2_with fail
    refine HRV2.out.mono ?_
    rintro e w3 ⟨rfl, hB3⟩
    have hs3 := HS2.out.step hB3
    have HS3 := Lib.hid hs3
    obtain ⟨c0, c1, c2⟩ := hs3.cells
    clear hs3 hB3 HS2
    cases r
    · have hmi := HN.out rfl
      rw [hmi] at hv hi hz hd
      have HV : Hid (∀ W, BoxF w k n A ts.length c W → Calls Tryz.prog _ _ W fun e w' => e = .returned (.bool false) ∧ Below W.heap.size W w') := Lib.hid hv
      have HI : Hid (∀ W, BoxF w k n A ts.length c W → Calls Tryz.prog _ _ W fun e w' => e = .returned (.int .i64 (-1)) ∧ Below W.heap.size W w') := Lib.hid hi
      have HZ : Hid (∀ W, BoxF w k n A ts.length c W → Calls Tryz.prog _ _ W fun e w' => e = .returned (.int .i64 (-1)) ∧ Below W.heap.size W w') := Lib.hid hz
      have HD : Hid (∀ W, BoxF w k n A ts.length c W → Calls Tryz.prog _ _ W fun e w' => e = .returned (.int .i64 (-1)) ∧ Below W.heap.size W w') := Lib.hid hd
      clear hmi hv hi hz hd
      go_wp2_with fail
      refine (HV.out _ HS3.out).mono ?_
      rintro e w4 ⟨rfl, hB4⟩
      have hs4 := HS3.out.step hB4
      have HS4 := Lib.hid hs4
      obtain ⟨c0, c1, c2⟩ := hs4.cells
      clear hs4 hB4
      go_wp2_with fail
      refine (HI.out _ HS4.out).mono ?_
      rintro e w5 ⟨rfl, hB5⟩
      have hs5 := HS4.out.step hB5
      have HS5 := Lib.hid hs5
      obtain ⟨c0, c1, c2⟩ := hs5.cells
      clear hs5 hB5
      go_wp2_with fail
      refine (HZ.out _ HS5.out).mono ?_
      rintro e w6 ⟨rfl, hB6⟩
      have hs6 := HS5.out.step hB6
      have HS6 := Lib.hid hs6
      obtain ⟨c0, c1, c2⟩ := hs6.cells
      clear hs6 hB6
      go_wp2_with fail
      refine (HD.out _ HS6.out).mono ?_
      rintro e w7 ⟨rfl, hB7⟩
      have hs7 := HS6.out.step hB7
      have HS7 := Lib.hid hs7
      obtain ⟨c0, c1, c2⟩ := hs7.cells
      clear hs7 hB7
      go_wp2_with fail
      refine (HA.out _ HS7.out.bel).mono ?_
      rintro e w8 ⟨rfl, hB8⟩
      have hs8 := HS7.out.step hB8
      have HS8 := Lib.hid hs8
      obtain ⟨c0, c1, c2⟩ := hs8.cells
      clear hs8 hB8
      go_wp2_with fail
      go_ret
      exact ⟨rfl, HS8.out.bel⟩
    · obtain ⟨hmi, hsh, hn20⟩ := HY.out rfl
      rw [hmi] at hv hi hz hd
      have hv' : ∀ W, BoxF w k n A ts.length c W → Calls Tryz.prog _ _ W fun e w' => e = .returned (.bool true) ∧ Below W.heap.size W w' := hv
      have hi' : ∀ W, BoxF w k n A ts.length c W → Calls Tryz.prog _ _ W fun e w' => e = .returned (.int .i64 (inpT (.mk k n ts) : Nat)) ∧ Below W.heap.size W w' := hi
      have hz' : ∀ W, BoxF w k n A ts.length c W → Calls Tryz.prog _ _ W fun e w' => e = .returned (.int .i64 (sizT (.mk k n ts) : Nat)) ∧ Below W.heap.size W w' := hz
      have hd' : ∀ W, BoxF w k n A ts.length c W → Calls Tryz.prog _ _ W fun e w' => e = .returned (.int .i64 (depT fSh (.mk k n ts) : Nat)) ∧ Below W.heap.size W w' := hd
      have HV := Lib.hid hv'
      have HI := Lib.hid hi'
      have HZ := Lib.hid hz'
      have HD := Lib.hid hd'
      have HRI := Lib.hid (fun W hW => HRI'.out W hW HN40.out hsh)
      have HRZ := Lib.hid (fun W hW => HRZ'.out W hW HN40.out)
      have HRD := Lib.hid (fun W hW => HRD'.out W hW HN40.out)
      clear hmi hv hi hz hd hv' hi' hz' hd' hsh hn20 HRI' HRZ' HRD' HY HN HRV HRV2 HFN HN40 HFEW2
      generalize inpT (.mk k n ts) = ni at *
      generalize sizT (.mk k n ts) = nz at *
      generalize depT fSh (.mk k n ts) = nd at *
      generalize ts.length = len at *
      clear c0 c1 c2
      obtain ⟨c0, c1, c2⟩ := HS3.out.cells
      go_upto_region 5 with fail
      refine wp_region_text (S := (fun w' => BoxF w k n A len c w' ∧ w'.cell? ⟨w.heap.size, 0, none⟩ = some (.int .i64 k) ∧ w'.cell? ⟨w.heap.size, 1, none⟩ = some (.int .i64 n) ∧ w'.cell? ⟨w.heap.size, 2, none⟩ = some (.slice A len c))) (by kernel_rfl) (by kernel_rfl) ⟨HS3.out.drew, HS3.out.drew.cells⟩ (b := ?b) ?text ?post
      case text =>
          refine InText.pure (by rfl) (fun w hw => by (try dsimp only at hw); go_simp; try with_reducible rfl) ?_
          simp only [Act.put, List.setIfInBounds_toArray, List.set_cons_zero, List.set_cons_succ]
          refine InText.call (.bool true) (by rfl) (fun w hw => ?_) ?_
          · go_simp
            refine (HV.out w hw.1).mono ?_
            rintro e wx ⟨rfl, hB⟩
            exact ⟨rfl, hw.1.step hB, (hw.1.step hB).cells⟩
          simp only [Act.put, List.setIfInBounds_toArray, List.set_cons_zero, List.set_cons_succ]
          refine InText.pure (by rfl) (fun w hw => by (try dsimp only at hw); go_simp; try with_reducible rfl) ?_
          simp only [Act.put, List.setIfInBounds_toArray, List.set_cons_zero, List.set_cons_succ]
          refine InText.pure (by rfl) (fun w hw => by (try dsimp only at hw); go_simp; try with_reducible rfl) ?_
          simp only [Act.put, List.setIfInBounds_toArray, List.set_cons_zero, List.set_cons_succ]
          refine InText.call (.int .i64 (ni : Nat)) (by rfl) (fun w hw => ?_) ?_
          · go_simp
            refine (HI.out w hw.1).mono ?_
            rintro e wx ⟨rfl, hB⟩
            exact ⟨rfl, hw.1.step hB, (hw.1.step hB).cells⟩
          simp only [Act.put, List.setIfInBounds_toArray, List.set_cons_zero, List.set_cons_succ]
          refine InText.pure (by rfl) (fun w hw => by (try dsimp only at hw); go_simp; try with_reducible rfl) ?_
          simp only [Act.put, List.setIfInBounds_toArray, List.set_cons_zero, List.set_cons_succ]
          refine InText.call (.int .i64 (ni : Nat)) (by rfl) (fun w hw => ?_) ?_
          · go_simp
            refine (HRI.out w hw.1).mono ?_
            rintro e wx ⟨rfl, hB⟩
            exact ⟨rfl, hw.1.step hB, (hw.1.step hB).cells⟩
          simp only [Act.put, List.setIfInBounds_toArray, List.set_cons_zero, List.set_cons_succ]
          refine InText.pure (by rfl) (fun w hw => by (try dsimp only at hw); go_simp; try with_reducible rfl) ?_
          simp only [Act.put, List.setIfInBounds_toArray, List.set_cons_zero, List.set_cons_succ]
          refine InText.pure (by rfl) (fun w hw => by (try dsimp only at hw); go_simp; try with_reducible rfl) ?_
          simp only [Act.put, List.setIfInBounds_toArray, List.set_cons_zero, List.set_cons_succ]
          refine InText.pure (by rfl) (fun w hw => by (try dsimp only at hw); go_simp; try with_reducible rfl) ?_
          simp only [Act.put, List.setIfInBounds_toArray, List.set_cons_zero, List.set_cons_succ]
          refine InText.pure (by rfl) (fun w hw => by (try dsimp only at hw); go_simp; try with_reducible rfl) ?_
          simp only [Act.put, List.setIfInBounds_toArray, List.set_cons_zero, List.set_cons_succ]
          refine InText.call (.int .i64 (nz : Nat)) (by rfl) (fun w hw => ?_) ?_
          · go_simp
            refine (HZ.out w hw.1).mono ?_
            rintro e wx ⟨rfl, hB⟩
            exact ⟨rfl, hw.1.step hB, (hw.1.step hB).cells⟩
          simp only [Act.put, List.setIfInBounds_toArray, List.set_cons_zero, List.set_cons_succ]
          refine InText.pure (by rfl) (fun w hw => by (try dsimp only at hw); go_simp; try with_reducible rfl) ?_
          simp only [Act.put, List.setIfInBounds_toArray, List.set_cons_zero, List.set_cons_succ]
          refine InText.call (.int .i64 (nz : Nat)) (by rfl) (fun w hw => ?_) ?_
          · go_simp
            refine (HRZ.out w hw.1).mono ?_
            rintro e wx ⟨rfl, hB⟩
            exact ⟨rfl, hw.1.step hB, (hw.1.step hB).cells⟩
          simp only [Act.put, List.setIfInBounds_toArray, List.set_cons_zero, List.set_cons_succ]
          refine InText.pure (by rfl) (fun w hw => by (try dsimp only at hw); go_simp; try with_reducible rfl) ?_
          simp only [Act.put, List.setIfInBounds_toArray, List.set_cons_zero, List.set_cons_succ]
          refine InText.pure (by rfl) (fun w hw => by (try dsimp only at hw); go_simp; try with_reducible rfl) ?_
          simp only [Act.put, List.setIfInBounds_toArray, List.set_cons_zero, List.set_cons_succ]
          refine InText.pure (by rfl) (fun w hw => by (try dsimp only at hw); go_simp; try with_reducible rfl) ?_
          simp only [Act.put, List.setIfInBounds_toArray, List.set_cons_zero, List.set_cons_succ]
          refine InText.pure (by rfl) (fun w hw => by (try dsimp only at hw); go_simp; try with_reducible rfl) ?_
          simp only [Act.put, List.setIfInBounds_toArray, List.set_cons_zero, List.set_cons_succ]
          refine InText.call (.int .i64 (nd : Nat)) (by rfl) (fun w hw => ?_) ?_
          · go_simp
            refine (HD.out w hw.1).mono ?_
            rintro e wx ⟨rfl, hB⟩
            exact ⟨rfl, hw.1.step hB, (hw.1.step hB).cells⟩
          simp only [Act.put, List.setIfInBounds_toArray, List.set_cons_zero, List.set_cons_succ]
          refine InText.pure (by rfl) (fun w hw => by (try dsimp only at hw); go_simp; try with_reducible rfl) ?_
          simp only [Act.put, List.setIfInBounds_toArray, List.set_cons_zero, List.set_cons_succ]
          refine InText.call (.int .i64 (nd : Nat)) (by rfl) (fun w hw => ?_) ?_
          · go_simp
            refine (HRD.out w hw.1).mono ?_
            rintro e wx ⟨rfl, hB⟩
            exact ⟨rfl, hw.1.step hB, (hw.1.step hB).cells⟩
          simp only [Act.put, List.setIfInBounds_toArray, List.set_cons_zero, List.set_cons_succ]
          refine InText.pure (by rfl) (fun w hw => by (try dsimp only at hw); go_simp; try with_reducible rfl) ?_
          simp only [Act.put, List.setIfInBounds_toArray, List.set_cons_zero, List.set_cons_succ]
          refine InText.pure (by rfl) (fun w hw => by (try dsimp only at hw); go_simp; try with_reducible rfl) ?_
          simp only [Act.put, List.setIfInBounds_toArray, List.set_cons_zero, List.set_cons_succ]
          refine InText.pure (by rfl) (fun w hw => by (try dsimp only at hw); go_simp; try with_reducible rfl) ?_
          simp only [Act.put, List.setIfInBounds_toArray, List.set_cons_zero, List.set_cons_succ]
          refine InText.call (.bool true) (by rfl) (fun w hw => ?_) ?_
          · go_simp
            refine (HA.out w hw.1.bel).mono ?_
            rintro e wx ⟨rfl, hB⟩
            exact ⟨rfl, hw.1.step hB, (hw.1.step hB).cells⟩
          simp only [Act.put, List.setIfInBounds_toArray, List.set_cons_zero, List.set_cons_succ]
          refine InText.pure (by rfl) (fun w hw => by (try dsimp only at hw); go_simp; try with_reducible rfl) ?_
          simp only [Act.put, List.setIfInBounds_toArray, List.set_cons_zero, List.set_cons_succ]
          refine InText.pure (by rfl) (fun w hw => by (try dsimp only at hw); go_simp; try with_reducible rfl) ?_
          (try simp only [Act.put, List.setIfInBounds_toArray, List.set_cons_zero, List.set_cons_succ])
          exact InText.done
      case post =>
        rintro w' ⟨hst', _, _, _⟩
        have HS9 := Lib.hid hst'
        clear hst'
        go_wp2_with fail
        go_ret
        exact ⟨rfl, HS9.out.bel⟩
end Go.Proofs.YtopbfgkfpgnalaaGreatDoor
