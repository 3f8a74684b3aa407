/-
  The walk of CircuitValid, given the contract of alive.
-/
import Derived.Test.YtcophfhnhlaonaaDoorCig
import Derived.Test.YtcophfhnhlaonaaDoorRg
namespace Go.Proofs.YtcophfhnhlaonaaDoor
set_option linter.unusedVariables false
open Go.RowKit

theorem rdC_one {W : World} {g : Nat} {inp : Int} {A : Option Addr} {c : Nat} {gs : List Gat} {T : TypeId} (h : W.heap[g]? = some (.cells #[.int .i64 inp, .slice A gs.length c] T (0, 0))) (hr : RdG W A gs) (hl : gs.length ≤ 1152921504606846976) : RdC W (some ⟨g, 0, none⟩) [gs] := fun i x hi => by
  match i, hi with
  | 0, hi =>
    simp at hi
    subst hi
    exact ⟨g, 0, A, c, rfl, (blk2_cells h).1.2, hr, hl⟩
  | i + 1, hi => simp at hi

set_option maxRecDepth 100000 in
set_option maxHeartbeats 8000000 in
theorem circuitValid_any (inp : Int) (gs : List Gat) (v : Value) (w : World) (hv : CirV w v inp gs) (hA : ∀ W, Below w.heap.size w W → Calls Tryd.prog 8 #[] W fun e w' => e = .returned (.bool true) ∧ Below W.heap.size W w') :
    Calls Tryd.prog 3 #[v] w fun e w' => e = .returned (.bool true) ∧ Below w.heap.size w w' := by
  have HA := Lib.hid hA
  have hv0 := hv
  obtain ⟨A, c, rfl, hr, hl⟩ := hv
  have HS0 := Lib.hid (BoxC.start w inp A gs.length c)
  have hb1 := below1 (w.alloc (.cells #[.int .i64 inp, .slice A gs.length c] 24)) (.cells #[.int .i64 inp, .slice A gs.length c] 24)
  have hs1 := HS0.out.step hb1
  have HS1 := Lib.hid hs1
  have hrow : RdC ((w.alloc (.cells #[.int .i64 inp, .slice A gs.length c] 24)).alloc (.cells #[.int .i64 inp, .slice A gs.length c] 24)) (some ⟨w.heap.size + 1, 0, none⟩) [gs] :=
    rdC_one (alloc_at _ _ _ (by simp)) (hr.below hs1.bel) hl
  have hFEW := FewC_ok 65000 (by omega) [gs] (by simp) (some ⟨w.heap.size + 1, 0, none⟩) 1 _ hrow
  have HRV := Lib.hid (fun W (hW : BoxC w inp A gs.length c W) => CValid_ref inp _ gs W (hv0.below hW.bel))
  have HPV := Lib.hid (fun W (hW : BoxC w inp A gs.length c W) => CValid_ok inp _ gs W (hv0.below hW.bel))
  have HPD := Lib.hid (fun W (hW : BoxC w inp A gs.length c W) => CDepth_ok inp _ gs W (hv0.below hW.bel))
  have HRD := Lib.hid (fun (h : okC inp gs = true) W (hW : BoxC w inp A gs.length c W) => CDepth_ref inp _ gs W (hv0.below hW.bel) h)
  obtain ⟨c0, c1⟩ := HS0.out.cells
  clear hA hv0 hb1 hs1 hrow hr
  obtain ⟨b, hb⟩ : ∃ b, decide (fL 65000 [gs] 0 ≤ 65000) = b := ⟨_, rfl⟩
  rw [hb] at hFEW
  have HFEW : Hid (Calls Tryd.prog 7 #[.int .i64 65000, .slice (some ⟨w.heap.size + 1, 0, none⟩) 1 1] _ _) := Lib.hid hFEW
  obtain ⟨r, hr⟩ : ∃ r, okC inp gs = r := ⟨_, rfl⟩
  rw [hr] at HRV HPV HPD HRD
  generalize depC gs = dd at *
  generalize gs.length = len at *
  clear hb hFEW hr hl
  go_enter Tryd.func3, Tryd.ntmps3
  go_wp2_with fail
  refine HFEW.out.mono ?_
  rintro e w2 ⟨rfl, rfl⟩
  have hs2 := HS1.out
  generalize hw2 : (w.alloc (.cells #[.int .i64 inp, .slice A len c] 24)).alloc (.cells #[.int .i64 inp, .slice A len c] 24) = w2 at *
  have HS2 := Lib.hid hs2
  obtain ⟨c0, c1⟩ := hs2.cells
  clear hs2 HS1 hw2 HFEW
  cases b
  · go_wp2_with fail
    refine (HA.out _ HS2.out.bel).mono ?_
    rintro e w3 ⟨rfl, hB3⟩
    have HS3 := Lib.hid (HS2.out.step hB3)
    clear hB3
    go_wp2_with fail
    go_ret
    exact ⟨rfl, HS3.out.bel⟩
  go_wp2_with fail
  refine (HRV.out _ HS2.out).mono ?_
  rintro e w3 ⟨rfl, hB3⟩
  have hs3 := HS2.out.step hB3
  have HS3 := Lib.hid hs3
  obtain ⟨c0, c1⟩ := hs3.cells
  clear hs3 hB3
  cases r
  · have HPD0 : Hid (∀ W, BoxC w inp A len c W → Calls Tryd.prog _ _ W fun e w' => e = .returned (.int .i64 (-1)) ∧ Below W.heap.size W w') := Lib.hid (fun W hW => (HPD.out W hW).mono (fun e w' h => by simpa using h))
    go_wp2_with fail
    refine (HPV.out _ HS3.out).mono ?_
    rintro e w4 ⟨rfl, hB4⟩
    have hs4 := HS3.out.step hB4
    have HS4 := Lib.hid hs4
    obtain ⟨c0, c1⟩ := hs4.cells
    clear hs4 hB4
    go_wp2_with fail
    refine (HPD0.out _ HS4.out).mono ?_
    rintro e w5 ⟨rfl, hB5⟩
    have hs5 := HS4.out.step hB5
    have HS5 := Lib.hid hs5
    obtain ⟨c0, c1⟩ := hs5.cells
    clear hs5 hB5
    go_wp2_with fail
    refine (HA.out _ HS5.out.bel).mono ?_
    rintro e w6 ⟨rfl, hB6⟩
    have HS6 := Lib.hid (HS5.out.step hB6)
    clear hB6
    go_wp2_with fail
    go_ret
    exact ⟨rfl, HS6.out.bel⟩
  · have HPD1 : Hid (∀ W, BoxC w inp A len c W → Calls Tryd.prog 11 #[.agg #[.int .i64 inp, .slice A len c]] W fun e w' => e = .returned (.int .i64 (dd : Nat)) ∧ Below W.heap.size W w') := Lib.hid (fun W hW => (HPD.out W hW).mono (fun e w' h => by simpa using h))
    have HRD1 := Lib.hid (HRD.out rfl)
    clear HPD HRD
    go_upto_region 5 with fail
    refine wp_region_text (S := (fun w' => BoxC w inp A len c w' ∧ w'.cell? ⟨w.heap.size, 0, none⟩ = some (.int .i64 inp) ∧ w'.cell? ⟨w.heap.size, 1, none⟩ = some (.slice A len c))) (by kernel_rfl) (by kernel_rfl) ⟨HS3.out.drew, HS3.out.drew.cells⟩ (b := ?bq) ?text ?post
    case text =>
        refine InText.pure (by rfl) (fun w hw => by (try dsimp only at hw); go_simp; try with_reducible rfl) ?_
        simp only [Act.put, List.setIfInBounds_toArray, List.set_cons_zero, List.set_cons_succ]
        refine InText.call (.bool true) (by rfl) (fun w hw => ?_) ?_
        · go_simp
          refine (HPV.out w hw.1).mono ?_
          rintro e wx ⟨rfl, hB⟩
          exact ⟨rfl, hw.1.step hB, (hw.1.step hB).cells⟩
        simp only [Act.put, List.setIfInBounds_toArray, List.set_cons_zero, List.set_cons_succ]
        refine InText.pure (by rfl) (fun w hw => by (try dsimp only at hw); go_simp; try with_reducible rfl) ?_
        simp only [Act.put, List.setIfInBounds_toArray, List.set_cons_zero, List.set_cons_succ]
        refine InText.pure (by rfl) (fun w hw => by (try dsimp only at hw); go_simp; try with_reducible rfl) ?_
        simp only [Act.put, List.setIfInBounds_toArray, List.set_cons_zero, List.set_cons_succ]
        refine InText.call (.int .i64 (dd : Nat)) (by rfl) (fun w hw => ?_) ?_
        · go_simp
          refine (HPD1.out w hw.1).mono ?_
          rintro e wx ⟨rfl, hB⟩
          exact ⟨rfl, hw.1.step hB, (hw.1.step hB).cells⟩
        simp only [Act.put, List.setIfInBounds_toArray, List.set_cons_zero, List.set_cons_succ]
        refine InText.pure (by rfl) (fun w hw => by (try dsimp only at hw); go_simp; try with_reducible rfl) ?_
        simp only [Act.put, List.setIfInBounds_toArray, List.set_cons_zero, List.set_cons_succ]
        refine InText.call (.int .i64 (dd : Nat)) (by rfl) (fun w hw => ?_) ?_
        · go_simp
          refine (HRD1.out w hw.1).mono ?_
          rintro e wx ⟨rfl, hB⟩
          exact ⟨rfl, hw.1.step hB, (hw.1.step hB).cells⟩
        simp only [Act.put, List.setIfInBounds_toArray, List.set_cons_zero, List.set_cons_succ]
        refine InText.pure (by rfl) (fun w hw => by (try dsimp only at hw); go_simp; try with_reducible rfl) ?_
        simp only [Act.put, List.setIfInBounds_toArray, List.set_cons_zero, List.set_cons_succ]
        refine InText.pure (by rfl) (fun w hw => by (try dsimp only at hw); go_simp; try with_reducible rfl) ?_
        simp only [Act.put, List.setIfInBounds_toArray, List.set_cons_zero, List.set_cons_succ]
        refine InText.pure (by rfl) (fun w hw => by (try dsimp only at hw); go_simp; try with_reducible rfl) ?_
        simp only [Act.put, List.setIfInBounds_toArray, List.set_cons_zero, List.set_cons_succ]
        refine InText.call (.bool true) (by rfl) (fun w hw => ?_) ?_
        · go_simp
          refine (HA.out w hw.1.bel).mono ?_
          rintro e wx ⟨rfl, hB⟩
          exact ⟨rfl, hw.1.step hB, (hw.1.step hB).cells⟩
        simp only [Act.put, List.setIfInBounds_toArray, List.set_cons_zero, List.set_cons_succ]
        refine InText.pure (by rfl) (fun w hw => by (try dsimp only at hw); go_simp; try with_reducible rfl) ?_
        simp only [Act.put, List.setIfInBounds_toArray, List.set_cons_zero, List.set_cons_succ]
        refine InText.pure (by rfl) (fun w hw => by (try dsimp only at hw); go_simp; try with_reducible rfl) ?_
        (try simp only [Act.put, List.setIfInBounds_toArray, List.set_cons_zero, List.set_cons_succ])
        exact InText.done
    case post =>
      rintro w' ⟨hst', _⟩
      have HS9 := Lib.hid hst'
      clear hst'
      go_wp2_with fail
      go_ret
      exact ⟨rfl, HS9.out.bel⟩
end Go.Proofs.YtcophfhnhlaonaaDoor
