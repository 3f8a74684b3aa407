/-
  Joined from Cip, Ciw: see there.
-/
import Derived.Test.YtcophfhnhlaonaaDoorJb
import Derived.Test.YtcophfhnhlaonaaDoorRg
import Derived.Test.YtcophfhnhlaonaaDoorJg
namespace Go.Proofs.YtcophfhnhlaonaaDoor
set_option linter.unusedVariables false
open Go.RowKit

theorem rdC_one {W : World} {g : Nat} {inp : Int} {A : Option Addr} {c : Nat} {gs : List Gat} {T : TypeId} (h : W.heap[g]? = some (.cells #[.int .i64 inp, .slice A gs.length c] T (0, 0))) (hr : RdG W A gs) (hl : gs.length ≤ 1152921504606846976) : RdC W (some ⟨g, 0, none⟩) [gs] := fun i x hi => by
  match i, hi with
  | 0, hi =>
    simp at hi
    subst hi
    exact ⟨g, 0, A, c, rfl, (blk2_cells h).1.2, hr, hl⟩
  | i + 1, hi => simp at hi

set_option maxRecDepth 100000 in
set_option maxHeartbeats 8000000 in
theorem circuitValid_any (inp : Int) (gs : List Gat) (v : Value) (w : World) (hv : CirV w v inp gs) (hA : ∀ W, Below w.heap.size w W → Calls Tryd.prog 8 #[] W fun e w' => e = .returned (.bool true) ∧ Below W.heap.size W w') :
    Calls Tryd.prog 3 #[v] w fun e w' => e = .returned (.bool true) ∧ Below w.heap.size w w' := by
  have HA := Lib.hid hA
  have hv0 := hv
  obtain ⟨A, c, rfl, hr, hl⟩ := hv
  have HS0 := Lib.hid (BoxC.start w inp A gs.length c)
  have hb1 := below1 (w.alloc (.cells #[.int .i64 inp, .slice A gs.length c] 24)) (.cells #[.int .i64 inp, .slice A gs.length c] 24)
  have hs1 := HS0.out.step hb1
  have HS1 := Lib.hid hs1
  have hrow : RdC ((w.alloc (.cells #[.int .i64 inp, .slice A gs.length c] 24)).alloc (.cells #[.int .i64 inp, .slice A gs.length c] 24)) (some ⟨w.heap.size + 1, 0, none⟩) [gs] :=
    rdC_one (alloc_at _ _ _ (by simp)) (hr.below hs1.bel) hl
  have hFEW := FewC_ok 65000 (by omega) [gs] (by simp) (some ⟨w.heap.size + 1, 0, none⟩) 1 _ hrow
  have HRV := Lib.hid (fun W (hW : BoxC w inp A gs.length c W) => CValid_ref inp _ gs W (hv0.below hW.bel))
  have HPV := Lib.hid (fun W (hW : BoxC w inp A gs.length c W) => CValid_ok inp _ gs W (hv0.below hW.bel))
  have HPD := Lib.hid (fun W (hW : BoxC w inp A gs.length c W) => CDepth_ok inp _ gs W (hv0.below hW.bel))
  have HRD := Lib.hid (fun (h : okC inp gs = true) W (hW : BoxC w inp A gs.length c W) => CDepth_ref inp _ gs W (hv0.below hW.bel) h)
  obtain ⟨c0, c1⟩ := HS0.out.cells
  clear hA hv0 hb1 hs1 hrow hr
  obtain ⟨b, hb⟩ : ∃ b, decide (fL 65000 [gs] 0 ≤ 65000) = b := ⟨_, rfl⟩
  rw [hb] at hFEW
  have HFEW : Hid (Calls Tryd.prog 7 #[.int .i64 65000, .slice (some ⟨w.heap.size + 1, 0, none⟩) 1 1] _ _) := Lib.hid hFEW
  obtain ⟨r, hr⟩ : ∃ r, okC inp gs = r := ⟨_, rfl⟩
  rw [hr] at HRV HPV HPD HRD
  generalize depC gs = dd at *
  generalize gs.length = len at *
  clear hb hFEW hr hl
  go_enter Tryd.func3, Tryd.ntmps3
  go_wp2_with fail
  refine HFEW.out.mono ?_
  rintro e w2 ⟨rfl, rfl⟩
  have hs2 := HS1.out
  generalize hw2 : (w.alloc (.cells #[.int .i64 inp, .slice A len c] 24)).alloc (.cells #[.int .i64 inp, .slice A len c] 24) = w2 at *
  have HS2 := Lib.hid hs2
  obtain ⟨c0, c1⟩ := hs2.cells
  clear hs2 HS1 hw2 HFEW
  cases b
  · go_wp2_with fail
    refine (HA.out _ HS2.out.bel).mono ?_
    rintro e w3 ⟨rfl, hB3⟩
    have HS3 := Lib.hid (HS2.out.step hB3)
    clear hB3
    go_wp2_with fail
    go_ret
    exact ⟨rfl, HS3.out.bel⟩
  go_wp2_with fail
  refine (HRV.out _ HS2.out).mono ?_
  rintro e w3 ⟨rfl, hB3⟩
  have hs3 := HS2.out.step hB3
  have HS3 := Lib.hid hs3
  obtain ⟨c0, c1⟩ := hs3.cells
  clear hs3 hB3
  cases r
  · have HPD0 : Hid (∀ W, BoxC w inp A len c W → Calls Tryd.prog _ _ W fun e w' => e = .returned (.int .i64 (-1)) ∧ Below W.heap.size W w') := Lib.hid (fun W hW => (HPD.out W hW).mono (fun e w' h => by simpa using h))
    go_wp2_with fail
    refine (HPV.out _ HS3.out).mono ?_
    rintro e w4 ⟨rfl, hB4⟩
    have hs4 := HS3.out.step hB4
    have HS4 := Lib.hid hs4
    obtain ⟨c0, c1⟩ := hs4.cells
    clear hs4 hB4
    go_wp2_with fail
    refine (HPD0.out _ HS4.out).mono ?_
    rintro e w5 ⟨rfl, hB5⟩
    have hs5 := HS4.out.step hB5
    have HS5 := Lib.hid hs5
    obtain ⟨c0, c1⟩ := hs5.cells
    clear hs5 hB5
    go_wp2_with fail
    refine (HA.out _ HS5.out.bel).mono ?_
    rintro e w6 ⟨rfl, hB6⟩
    have HS6 := Lib.hid (HS5.out.step hB6)
    clear hB6
    go_wp2_with fail
    go_ret
    exact ⟨rfl, HS6.out.bel⟩
  · have HPD1 : Hid (∀ W, BoxC w inp A len c W → Calls Tryd.prog 11 #[.agg #[.int .i64 inp, .slice A len c]] W fun e w' => e = .returned (.int .i64 (dd : Nat)) ∧ Below W.heap.size W w') := Lib.hid (fun W hW => (HPD.out W hW).mono (fun e w' h => by simpa using h))
    have HRD1 := Lib.hid (HRD.out rfl)
    clear HPD HRD
    go_upto_region 5 with fail
    refine wp_region_text (S := (fun w' => BoxC w inp A len c w' ∧ w'.cell? ⟨w.heap.size, 0, none⟩ = some (.int .i64 inp) ∧ w'.cell? ⟨w.heap.size, 1, none⟩ = some (.slice A len c))) (by kernel_rfl) (by kernel_rfl) ⟨HS3.out.drew, HS3.out.drew.cells⟩ (b := ?bq) ?text ?post
    case text =>
        refine InText.pure (by rfl) (fun w hw => by (try dsimp only at hw); go_simp; try with_reducible rfl) ?_
        simp only [Act.put, List.setIfInBounds_toArray, List.set_cons_zero, List.set_cons_succ]
        refine InText.call (.bool true) (by rfl) (fun w hw => ?_) ?_
        · go_simp
          refine (HPV.out w hw.1).mono ?_
          rintro e wx ⟨rfl, hB⟩
          exact ⟨rfl, hw.1.step hB, (hw.1.step hB).cells⟩
        simp only [Act.put, List.setIfInBounds_toArray, List.set_cons_zero, List.set_cons_succ]
        refine InText.pure (by rfl) (fun w hw => by (try dsimp only at hw); go_simp; try with_reducible rfl) ?_
        simp only [Act.put, List.setIfInBounds_toArray, List.set_cons_zero, List.set_cons_succ]
        refine InText.pure (by rfl) (fun w hw => by (try dsimp only at hw); go_simp; try with_reducible rfl) ?_
        simp only [Act.put, List.setIfInBounds_toArray, List.set_cons_zero, List.set_cons_succ]
        refine InText.call (.int .i64 (dd : Nat)) (by rfl) (fun w hw => ?_) ?_
        · go_simp
          refine (HPD1.out w hw.1).mono ?_
          rintro e wx ⟨rfl, hB⟩
          exact ⟨rfl, hw.1.step hB, (hw.1.step hB).cells⟩
        simp only [Act.put, List.setIfInBounds_toArray, List.set_cons_zero, List.set_cons_succ]
        refine InText.pure (by rfl) (fun w hw => by (try dsimp only at hw); go_simp; try with_reducible rfl) ?_
        simp only [Act.put, List.setIfInBounds_toArray, List.set_cons_zero, List.set_cons_succ]
        refine InText.call (.int .i64 (dd : Nat)) (by rfl) (fun w hw => ?_) ?_
        · go_simp
          refine (HRD1.out w hw.1).mono ?_
          rintro e wx ⟨rfl, hB⟩
          exact ⟨rfl, hw.1.step hB, (hw.1.step hB).cells⟩
        simp only [Act.put, List.setIfInBounds_toArray, List.set_cons_zero, List.set_cons_succ]
        refine InText.pure (by rfl) (fun w hw => by (try dsimp only at hw); go_simp; try with_reducible rfl) ?_
        simp only [Act.put, List.setIfInBounds_toArray, List.set_cons_zero, List.set_cons_succ]
        refine InText.pure (by rfl) (fun w hw => by (try dsimp only at hw); go_simp; try with_reducible rfl) ?_
        simp only [Act.put, List.setIfInBounds_toArray, List.set_cons_zero, List.set_cons_succ]
        refine InText.pure (by rfl) (fun w hw => by (try dsimp only at hw); go_simp; try with_reducible rfl) ?_
        simp only [Act.put, List.setIfInBounds_toArray, List.set_cons_zero, List.set_cons_succ]
        refine InText.call (.bool true) (by rfl) (fun w hw => ?_) ?_
        · go_simp
          refine (HA.out w hw.1.bel).mono ?_
          rintro e wx ⟨rfl, hB⟩
          exact ⟨rfl, hw.1.step hB, (hw.1.step hB).cells⟩
        simp only [Act.put, List.setIfInBounds_toArray, List.set_cons_zero, List.set_cons_succ]
        refine InText.pure (by rfl) (fun w hw => by (try dsimp only at hw); go_simp; try with_reducible rfl) ?_
        simp only [Act.put, List.setIfInBounds_toArray, List.set_cons_zero, List.set_cons_succ]
        refine InText.pure (by rfl) (fun w hw => by (try dsimp only at hw); go_simp; try with_reducible rfl) ?_
        (try simp only [Act.put, List.setIfInBounds_toArray, List.set_cons_zero, List.set_cons_succ])
        exact InText.done
    case post =>
      rintro w' ⟨hst', _⟩
      have HS9 := Lib.hid hst'
      clear hst'
      go_wp2_with fail
      go_ret
      exact ⟨rfl, HS9.out.bel⟩
end Go.Proofs.YtcophfhnhlaonaaDoor
namespace Go.Proofs.YtcophfhnhlaonaaDoor
set_option linter.unusedVariables false
open Go.RowKit

set_option maxRecDepth 100000 in
set_option maxHeartbeats 16000000 in
theorem circuitEvals_any (inp : Int) (gs : List Gat) (v : Value) (AX : Option Addr) (cx : Nat) (xs : List Bool) (w : World) (hv : CirV w v inp gs) (hX : BlR w AX xs) (hA : ∀ W, Below w.heap.size w W → Calls Tryd.prog 8 #[] W fun e w' => e = .returned (.bool true) ∧ Below W.heap.size W w') :
    Calls Tryd.prog 4 #[v, .slice AX xs.length cx] w fun e w' => e = .returned (.bool true) ∧ Below w.heap.size w w' := by
  have HA := Lib.hid hA
  have hv0 := hv
  obtain ⟨A, c, rfl, hr, hl⟩ := hv
  have HS0 := Lib.hid (BoxC.start w inp A gs.length c)
  have hb1 := below1 (w.alloc (.cells #[.int .i64 inp, .slice A gs.length c] 24)) (.cells #[.int .i64 inp, .slice A gs.length c] 24)
  have hs1 := HS0.out.step hb1
  have HS1 := Lib.hid hs1
  have hrow : RdC ((w.alloc (.cells #[.int .i64 inp, .slice A gs.length c] 24)).alloc (.cells #[.int .i64 inp, .slice A gs.length c] 24)) (some ⟨w.heap.size + 1, 0, none⟩) [gs] :=
    rdC_one (alloc_at _ _ _ (by simp)) (hr.below hs1.bel) hl
  have hFEW := FewC_ok 300 (by omega) [gs] (by simp) (some ⟨w.heap.size + 1, 0, none⟩) 1 _ hrow
  have HRV := Lib.hid (fun W (hW : BoxC w inp A gs.length c W) => CValid_ref inp _ gs W (hv0.below hW.bel))
  have HPE := Lib.hid (fun (hx : xs.length ≤ 1099511627776) W (hW : BoxC w inp A gs.length c W) => CEval_ok inp _ gs AX cx xs W (hv0.below hW.bel) (hX.below hW.bel) hx)
  have HPT := Lib.hid (fun W (hW : BoxC w inp A gs.length c W) => CTable_ok inp _ gs W (hv0.below hW.bel))
  have HRE := Lib.hid (fun (h : okC inp gs = true) (hx : inp ≤ (xs.length : Int)) (hx4 : xs.length ≤ 1099511627776) W (hW : BoxC w inp A gs.length c W) => CEval_ref inp _ gs AX cx xs W (hv0.below hW.bel) h (hX.below hW.bel) hx hx4)
  have HRT := Lib.hid (fun (n : Nat) (hn : inp = n) (h : okC inp gs = true) (h12 : n ≤ 12) W (hW : BoxC w inp A gs.length c W) => CTruth_ref n (.agg #[.int .i64 inp, .slice A gs.length c]) gs W (hn ▸ hv0.below hW.bel) (hn ▸ h) h12)
  have HTG := Lib.hid (fun (h : okC inp gs = true) i => tabC_gv h i)
  have HSB : Hid (∀ (L : Nat) (l : List Bool), l.length = L → L ≤ 4096 → ∀ W A A' c c', BlR W A l → BlR W A' l → Calls Tryd.prog 16 #[.slice A L c, .slice A' L c'] W fun e w' => e = .returned (.bool true) ∧ Below W.heap.size W w') := Lib.hid (fun L l hl h40 W A A' c c' h h' => by
    subst hl
    exact (SameBools_ok l l A A' c c' W h h' (by omega)).mono (fun e w' h => by simpa using h))
  have HOK : Hid (okC inp gs = true → 0 ≤ inp ∧ inp ≤ 16) := Lib.hid (fun h => ⟨(okC_iff.1 h).1, (okC_iff.1 h).2.1⟩)
  obtain ⟨c0, c1⟩ := HS0.out.cells
  clear hA hv0 hb1 hs1 hrow hr hX
  obtain ⟨b, hb⟩ : ∃ b, decide (fL 300 [gs] 0 ≤ 300) = b := ⟨_, rfl⟩
  rw [hb] at hFEW
  have HFEW : Hid (Calls Tryd.prog 7 #[.int .i64 300, .slice (some ⟨w.heap.size + 1, 0, none⟩) 1 1] _ _) := Lib.hid hFEW
  generalize gs.length = len at *
  generalize hxl : xs.length = xl at *
  have HXL := Lib.hid hxl
  clear hb hFEW hl hxl
  go_enter Tryd.func4, Tryd.ntmps4
  go_wp2_with fail
  refine HFEW.out.mono ?_
  rintro e w2 ⟨rfl, rfl⟩
  have hs2 := HS1.out
  generalize hw2 : (w.alloc (.cells #[.int .i64 inp, .slice A len c] 24)).alloc (.cells #[.int .i64 inp, .slice A len c] 24) = w2 at *
  have HS2 := Lib.hid hs2
  obtain ⟨c0, c1⟩ := hs2.cells
  clear hs2 HS1 hw2 HFEW
  cases b
  · go_wp2_with fail
    refine (HA.out _ HS2.out.bel).mono ?_
    rintro e w3 ⟨rfl, hB3⟩
    have HS3 := Lib.hid (HS2.out.step hB3)
    clear hB3
    go_wp2_with fail
    go_ret
    exact ⟨rfl, HS3.out.bel⟩
  by_cases h100 : 100 < xl
  · have d1 : decide ((100 : Int) < (xl : Int)) = true := decide_eq_true (by omega)
    have d1' : decide (100 < xl) = true := decide_eq_true h100
    go_wp2_with fail
    refine (HA.out _ HS2.out.bel).mono ?_
    rintro e w3 ⟨rfl, hB3⟩
    have HS3 := Lib.hid (HS2.out.step hB3)
    clear hB3
    go_wp2_with fail
    go_ret
    exact ⟨rfl, HS3.out.bel⟩
  have d1 : decide ((100 : Int) < (xl : Int)) = false := decide_eq_false (by omega)
  have d1' : decide (100 < xl) = false := decide_eq_false h100
  have HPE2 := Lib.hid (HPE.out (by omega))
  have HX100 := Lib.hid h100
  clear HPE h100
  go_wp2_with fail
  refine (HPE2.out _ HS2.out).mono ?_
  rintro e w3 ⟨hE, hB3⟩
  have HE := Lib.hid hE
  have hs3 := HS2.out.step hB3
  have HS3 := Lib.hid hs3
  obtain ⟨c0, c1⟩ := hs3.cells
  clear hs3 hB3 hE HPE2
  cases hr : okC inp gs with
  | false =>
    rw [hr] at HRV
    obtain rfl := HE.out.bad hr
    have HR := Lib.hid hr
    clear HE hr
    go_wp2_with fail
    refine (HPT.out _ HS3.out).mono ?_
    rintro e w4 ⟨hT, hB4⟩
    obtain rfl := hT.bad HR.out
    have hs4 := HS3.out.step hB4
    have HS4 := Lib.hid hs4
    obtain ⟨c0, c1⟩ := hs4.cells
    clear hs4 hB4 hT
    go_wp2_with fail
    refine (HRV.out _ HS4.out).mono ?_
    rintro e w5 ⟨rfl, hB5⟩
    have hs5 := HS4.out.step hB5
    have HS5 := Lib.hid hs5
    obtain ⟨c0, c1⟩ := hs5.cells
    clear hs5 hB5
    go_wp2_with fail
    refine (HA.out _ HS5.out.bel).mono ?_
    rintro e w6 ⟨rfl, hB6⟩
    have HS6 := Lib.hid (HS5.out.step hB6)
    clear hB6
    go_wp2_with fail
    go_ret
    exact ⟨rfl, HS6.out.bel⟩
  | true =>
    rw [hr] at HRV
    obtain ⟨h0, h16⟩ := HOK.out hr
    obtain ⟨n, rfl⟩ : ∃ n : Nat, inp = n := ⟨inp.toNat, by omega⟩
    have HR := Lib.hid hr
    have HRT2 := Lib.hid (fun (h12 : n ≤ 12) => HRT.out n rfl hr h12)
    have HTG2 := Lib.hid (HTG.out hr)
    have HRE2 := Lib.hid (HRE.out hr)
    clear HRT HTG HRE HOK hr
    -- the result of Eval
    obtain ⟨ev, ee, hEv⟩ : ∃ (ev : Bool) (ee : Int), e = .returned (.tuple #[.bool ev, .int .i64 ee]) ∧ ((xl : Int) ≠ n ∧ ev = false ∧ ee = 2 ∨ (xl : Int) = n ∧ ev = gvC (fun a => xs[a]?.getD false) gs ∧ ee = 0) := by
      by_cases hq : (xl : Int) = n
      · exact ⟨_, 0, HE.out.val HR.out (by rw [HXL.out]; exact hq), .inr ⟨hq, rfl, rfl⟩⟩
      · exact ⟨false, 2, HE.out.arg HR.out (by rw [HXL.out]; exact hq), .inl ⟨hq, rfl, rfl⟩⟩
    obtain ⟨rfl, hcase⟩ := hEv
    have HCASE := Lib.hid hcase
    clear hcase HE
    go_wp2_with fail
    refine (HPT.out _ HS3.out).mono ?_
    rintro e w4 ⟨hT, hB4⟩
    have HT := Lib.hid hT
    have hs4 := HS3.out.step hB4
    have HS4 := Lib.hid hs4
    obtain ⟨c0, c1⟩ := hs4.cells
    clear hs4 hB4 hT
    -- the result of Table
    have hle : n ≤ 12 → 2 ^ n ≤ 4096 := fun h => Nat.pow_le_pow_right (n := 2) (by omega) h
    obtain ⟨TA, TL, tc, te, hTv⟩ : ∃ (TA : Option Addr) (TL tc : Nat) (te : Int), e = .returned (.tuple #[.slice TA TL tc, .int .i64 te]) ∧ (12 < n ∧ TL = 0 ∧ te = 5 ∨ n ≤ 12 ∧ TL = 2 ^ n ∧ te = 0 ∧ BlR w4 TA (tbR (gvB gs) TL TL)) := by
      by_cases hq : n ≤ 12
      · obtain ⟨g, _, rfl, hb⟩ := HT.out.tab HR.out (by omega)
        rw [Int.toNat_natCast] at hb ⊢
        refine ⟨_, _, _, _, rfl, .inr ⟨hq, rfl, rfl, ?_⟩⟩
        have := blO_rdS hb
        have e1 : ∀ a, tabC gs n a = gvB gs a := fun a => by
          have := HTG2.out a
          rwa [Int.toNat_natCast] at this
        rw [tbR_congr e1] at this
        exact this
      · exact ⟨none, 0, 0, 5, HT.out.big HR.out (by omega), .inl ⟨by omega, rfl, rfl⟩⟩
    obtain ⟨rfl, htab⟩ := hTv
    have HTAB := Lib.hid (And.intro htab hle)
    clear htab hle HT
    go_wp2_with fail
    refine (HRV.out _ HS4.out).mono ?_
    rintro e w5 ⟨rfl, hB5⟩
    have hs5 := HS4.out.step hB5
    have HS5 := Lib.hid hs5
    have HB45 := Lib.hid hB5
    obtain ⟨c0, c1⟩ := hs5.cells
    clear hs5 hB5
    -- the end, behind the look at Eval
    have HEND : Hid (∀ W, BoxC w n A len c W → Below w4.heap.size w4 W → ∀ L : Nat, L = TL → n ≤ 12 → ∀ g W', W'.heap[g]? = some (blO (tbR (gvB gs) (2 ^ n) (2 ^ n))) → Below W.heap.size W W' → Calls Tryd.prog 16 #[.slice TA TL tc, .slice (some ⟨g, 0, none⟩) (2 ^ n) (2 ^ n)] W' fun e w' => e = .returned (.bool true) ∧ Below W'.heap.size W' w') := Lib.hid (fun W hW h4 L hL hn g W' hg hB => by
      rcases HTAB.out.1 with ⟨h, _⟩ | ⟨_, h1, _, h3⟩
      · omega
      · have h4k := HTAB.out.2 hn
        rw [← h1] at hg ⊢
        refine HSB.out TL _ (tbR_length _ _ _) (by omega) W' TA _ tc TL (h3.below (h4.trans (hB.mono h4.size))) (blO_rdS hg))
    rcases HCASE.out with ⟨hq, he, hee⟩ | ⟨hq, he, hee⟩
    · have dq : ((xl : Int) == (n : Int)) = false := by rw [beq_eq_false_iff_ne]; exact hq
      subst he
      subst hee
      have HSK := Lib.hid HS5.out
      have HBK := Lib.hid HB45.out
      clear hq
      rcases HTAB.out.1 with ⟨h12, hTL, hte⟩ | ⟨h12, hTL, hte, _⟩
      · have d12 : decide ((12 : Int) < (n : Int)) = true := decide_eq_true (by omega)
        have d12' : decide (12 < n) = true := decide_eq_true h12
        subst hTL
        subst hte
        clear h12
        go_wp2_with fail
        refine (HA.out _ HSK.out.bel).mono ?_
        rintro e w7 ⟨rfl, hB7⟩
        have HS7 := Lib.hid (HSK.out.step hB7)
        clear hB7
        go_wp2_with fail
        go_ret
        exact ⟨rfl, HS7.out.bel⟩
      · have d12 : decide ((12 : Int) < (n : Int)) = false := decide_eq_false (by omega)
        have d12' : decide (12 < n) = false := decide_eq_false (by omega)
        have HEN := Lib.hid (fun W hW h4 => HEND.out W hW h4 TL rfl h12)
        have HRT3 := Lib.hid (HRT2.out h12)
        have HTL := Lib.hid hTL
        subst hte
        clear h12 hTL
        go_wp2_with fail
        refine (HRT3.out _ HSK.out).mono ?_
        rintro e w7 ⟨g7, _, rfl, hb7, hB7⟩
        have hs7 := HSK.out.step hB7
        have HS7 := Lib.hid hs7
        have HSB7 := Lib.hid (HEN.out _ HSK.out HBK.out g7 w7 hb7 hB7)
        obtain ⟨c0, c1⟩ := hs7.cells
        clear hs7 hb7 hB7
        generalize 2 ^ n = p2 at *
        go_wp2_with fail
        refine HSB7.out.mono ?_
        rintro e w8 ⟨rfl, hB8⟩
        have HS8 := Lib.hid (HS7.out.step hB8)
        clear hB8
        go_wp2_with fail
        refine (HA.out _ HS8.out.bel).mono ?_
        rintro e w9 ⟨rfl, hB9⟩
        have HS9 := Lib.hid (HS8.out.step hB9)
        clear hB9
        go_wp2_with fail
        go_ret
        exact ⟨rfl, HS9.out.bel⟩
    · have dq : ((xl : Int) == (n : Int)) = true := by rw [hq]; simp
      subst hee
      have HRE3 := Lib.hid (HRE2.out (by omega) (by have := HX100.out; omega) _ HS5.out)
      rw [← he] at HRE3
      clear hq he
      go_upto_region 10 with fail
      cases ev <;> (
        go_wp2_with fail
        refine HRE3.out.mono ?_
        rintro e w6 ⟨rfl, hB6⟩
        have hs6 := HS5.out.step hB6
        have HSK := Lib.hid hs6
        have HBK := Lib.hid (HB45.out.trans (hB6.mono HB45.out.size))
        obtain ⟨c0, c1⟩ := hs6.cells
        clear hs6 hB6
        rcases HTAB.out.1 with ⟨h12, hTL, hte⟩ | ⟨h12, hTL, hte, _⟩
        · have d12 : decide ((12 : Int) < (n : Int)) = true := decide_eq_true (by omega)
          have d12' : decide (12 < n) = true := decide_eq_true h12
          subst hTL
          subst hte
          clear h12
          go_wp2_with fail
          refine (HA.out _ HSK.out.bel).mono ?_
          rintro e w7 ⟨rfl, hB7⟩
          have HS7 := Lib.hid (HSK.out.step hB7)
          clear hB7
          go_wp2_with fail
          go_ret
          exact ⟨rfl, HS7.out.bel⟩
        · have d12 : decide ((12 : Int) < (n : Int)) = false := decide_eq_false (by omega)
          have d12' : decide (12 < n) = false := decide_eq_false (by omega)
          have HEN := Lib.hid (fun W hW h4 => HEND.out W hW h4 TL rfl h12)
          have HRT3 := Lib.hid (HRT2.out h12)
          have HTL := Lib.hid hTL
          subst hte
          clear h12 hTL
          go_wp2_with fail
          refine (HRT3.out _ HSK.out).mono ?_
          rintro e w7 ⟨g7, _, rfl, hb7, hB7⟩
          have hs7 := HSK.out.step hB7
          have HS7 := Lib.hid hs7
          have HSB7 := Lib.hid (HEN.out _ HSK.out HBK.out g7 w7 hb7 hB7)
          obtain ⟨c0, c1⟩ := hs7.cells
          clear hs7 hb7 hB7
          generalize 2 ^ n = p2 at *
          go_wp2_with fail
          refine HSB7.out.mono ?_
          rintro e w8 ⟨rfl, hB8⟩
          have HS8 := Lib.hid (HS7.out.step hB8)
          clear hB8
          go_wp2_with fail
          refine (HA.out _ HS8.out.bel).mono ?_
          rintro e w9 ⟨rfl, hB9⟩
          have HS9 := Lib.hid (HS8.out.step hB9)
          clear hB9
          go_wp2_with fail
          go_ret
          exact ⟨rfl, HS9.out.bel⟩)
end Go.Proofs.YtcophfhnhlaonaaDoor
