/-
  The elements of every valid field form a field: the law FieldLaws's walk.
-/
import Derived.Test.YtfkeemhbehhclaaDoorFek
import Derived.Test.YtfkeemhbehhclaaDoorRg
namespace Go.Proofs.YtfkeemhbehhclaaDoor
open Go.RowKit

set_option maxRecDepth 100000 in
set_option maxHeartbeats 4000000 in
theorem fl_form (P M a b c : Int) (h : ¬ OkF P M) (w : World) (hL : Lays w) :
    Calls Tryd.prog 7 #[.agg #[.int .i64 P, .int .i64 M], .agg #[.int .i64 a, .int .i64 b, .int .i64 c]] w fun e w' => e = .returned (.bool true) ∧ Below w.heap.size w w' := by
  have H := Lib.hid h
  clear h
  have hst : St2 w P M ((w.alloc (.cells #[.int .i64 P, .int .i64 M] 23)).alloc (.cells #[.int .i64 a, .int .i64 b, .int .i64 c] 40)) :=
    ⟨below2 w _ _, hL.below (below2 w _ _), (fAt_new w P M).below (below1 _ _)⟩
  have HS0 := Lib.hid hst
  clear hL hst
  go_enter Tryd.func7, Tryd.ntmps7
  go_wp2_with fail
  go_quiet (fail)
  generalize hz : World.drewN _ _ = w1
  have HS1 : Hid (St2 w P M w1) := by rw [← hz]; exact HS0.out.drewN _
  clear hz
  obtain ⟨c0, c1⟩ := HS1.out.cells
  go_wp2_with fail
  refine (elem_form P M H.out _ _ (HS1.out.lays.below (below1 w1 _))).mono ?_
  rintro e w2 ⟨rfl, hB⟩
  have HS2 := Lib.hid ((HS1.out.step (below1 w1 _)).step hB)
  clear hB c0 c1
  obtain ⟨c0, c1⟩ := HS2.out.cells
  go_wp2_with fail
  refine (alive_any _ HS2.out.lays).mono ?_
  rintro e w3 ⟨rfl, hB⟩
  have HS3 := Lib.hid (HS2.out.step hB)
  clear hB c0 c1
  obtain ⟨c0, c1⟩ := HS3.out.cells
  try unfold Ret2
  go_wp2_with fail
  go_ret
  exact ⟨rfl, HS3.out.bel⟩
set_option maxRecDepth 100000 in
set_option maxHeartbeats 4000000 in
theorem fl_not (P M q : Nat) (h : Fld P M q) (a b c : Int) (hn : ¬ ∀ x ∈ [a, b, c], InQ q x) (w : World) (hL : Lays w) :
    Calls Tryd.prog 7 #[.agg #[.int .i64 (P : Int), .int .i64 (M : Int)], .agg #[.int .i64 a, .int .i64 b, .int .i64 c]] w fun e w' => e = .returned (.bool true) ∧ Below w.heap.size w w' := by
  have H := Lib.hid h
  have HN := Lib.hid hn
  clear h hn
  have hst : St2 w (P : Int) (M : Int) ((w.alloc (.cells #[.int .i64 (P : Int), .int .i64 (M : Int)] 23)).alloc (.cells #[.int .i64 a, .int .i64 b, .int .i64 c] 40)) :=
    ⟨below2 w _ _, hL.below (below2 w _ _), (fAt_new w (P : Int) (M : Int)).below (below1 _ _)⟩
  have HS0 := Lib.hid hst
  clear hL hst
  go_enter Tryd.func7, Tryd.ntmps7
  go_wp2_with fail
  go_quiet (fail)
  generalize hz : World.drewN _ _ = w1
  have HS1 : Hid (St2 w (P : Int) (M : Int) w1) := by rw [← hz]; exact HS0.out.drewN _
  clear hz
  obtain ⟨c0, c1⟩ := HS1.out.cells
  go_wp2_with fail
  refine (elem_any P M q H.out (some ⟨w1.heap.size, 0, none⟩) [a, b, c] 3 3 rfl (by omega) _ (HS1.out.lays.below (below1 w1 _)) (rd3 w1 _ _ _)).mono ?_
  rintro e w2 ⟨hB, ⟨hE, rfl⟩ | ⟨hE, rfl⟩⟩
  case inl => exact absurd hE HN.out
  have HS2 := Lib.hid ((HS1.out.step (below1 w1 _)).step hB)
  clear hB c0 c1 hE
  obtain ⟨c0, c1⟩ := HS2.out.cells
  go_wp2_with fail
  refine (alive_any _ HS2.out.lays).mono ?_
  rintro e w3 ⟨rfl, hB⟩
  have HS3 := Lib.hid (HS2.out.step hB)
  clear hB c0 c1
  obtain ⟨c0, c1⟩ := HS3.out.cells
  try unfold Ret2
  go_wp2_with fail
  go_ret
  exact ⟨rfl, HS3.out.bel⟩
set_option maxRecDepth 100000 in
set_option maxHeartbeats 4000000 in
theorem fl_main (P M q : Nat) (h : Fld P M q) (a b c : Nat) (ha : a < q) (hb : b < q) (hc : c < q) (w : World) (hL : Lays w) :
    Calls Tryd.prog 7 #[.agg #[.int .i64 (P : Int), .int .i64 (M : Int)], .agg #[.int .i64 (a : Int), .int .i64 (b : Int), .int .i64 (c : Int)]] w fun e w' => e = .returned (.bool true) ∧ Below w.heap.size w w' := by
  have H := Lib.hid h
  have hr := h.rng
  have hq2 := h.q_ge
  have hfl := h.fl
  have hz : 0 < q := by omega
  have h1 : 1 < q := by omega
  obtain ⟨s, hs⟩ : ∃ s, addN P M a b = s := ⟨_, rfl⟩
  obtain ⟨p, hp⟩ : ∃ p, mulN P M a b = p := ⟨_, rfl⟩
  obtain ⟨u, hu⟩ : ∃ u, addN P M b c = u := ⟨_, rfl⟩
  obtain ⟨v, hv⟩ : ∃ v, mulN P M b c = v := ⟨_, rfl⟩
  obtain ⟨r, hrr⟩ : ∃ r, mulN P M a c = r := ⟨_, rfl⟩
  obtain ⟨t, ht⟩ : ∃ t, addN P M s c = t := ⟨_, rfl⟩
  obtain ⟨t2, ht2⟩ : ∃ t2, mulN P M p c = t2 := ⟨_, rfl⟩
  obtain ⟨t3, ht3⟩ : ∃ t3, mulN P M a u = t3 := ⟨_, rfl⟩
  obtain ⟨i, hi⟩ : ∃ i, powN P M a (q - 2) = i := ⟨_, rfl⟩
  have Hs := Lib.hid (show s < q by rw [← hs]; exact hr.add_lt ha hb)
  have Hp := Lib.hid (show p < q by rw [← hp]; exact hr.lt ha hb)
  have Hu := Lib.hid (show u < q by rw [← hu]; exact hr.add_lt hb hc)
  have Hv := Lib.hid (show v < q by rw [← hv]; exact hr.lt hb hc)
  have Hr := Lib.hid (show r < q by rw [← hrr]; exact hr.lt ha hc)
  have Hab := Lib.hid hs
  have Hba := Lib.hid ((hr.add_comm hb ha).trans hs)
  have Hsb := Lib.hid (show subN P M s b = a by rw [← hs]; exact hr.sub_add ha hb)
  have Mab := Lib.hid hp
  have Mba := Lib.hid ((hr.comm hb ha).trans hp)
  have Hsc := Lib.hid ht
  have Hbc := Lib.hid hu
  have Hau := Lib.hid (show addN P M a u = t by rw [← hu, ← ht, ← hs]; exact (hr.add_assoc ha hb hc).symm)
  have Mpc := Lib.hid ht2
  have Mbc := Lib.hid hv
  have Mav := Lib.hid (show mulN P M a v = t2 by rw [← hv, ← ht2, ← hp]; exact (hr.assoc ha hb hc).symm)
  have Mau := Lib.hid ht3
  have Mac := Lib.hid hrr
  have Hpr := Lib.hid (show addN P M p r = t3 by rw [← hp, ← hrr, ← ht3, ← hu]; exact (hr.distrib ha hb hc).symm)
  have Ha0 := Lib.hid (hr.add_zero ha)
  have Ma1 := Lib.hid (hr.mul_one ha)
  have Ma0 := Lib.hid (hr.zero ha)
  have Hiv := Lib.hid hi
  have Hi := Lib.hid (show i < q by rw [← hi]; exact h.powN_lt ha _)
  have Hai := Lib.hid (fun h0 : 0 < a => show mulN P M a i = 1 by rw [← hi, h.pow_eq ha]; exact hfl.inv h0 ha)
  obtain ⟨v', g', HIV, HG0, HG1⟩ : ∃ v' g' : Int, Hid (∀ (w : World), Lays w → Calls Tryd.prog 26 #[.agg #[.int .i64 (P : Int), .int .i64 (M : Int)], .int .i64 a] w fun e w' => e = .returned (.tuple #[.int .i64 v', .int .i64 g']) ∧ Below w.heap.size w w') ∧ Hid (a = 0 → g' = 6) ∧ Hid (0 < a → g' = 0 ∧ v' = (i : Int)) := by
    by_cases h0 : a = 0
    · exact ⟨0, 6, fun w hL => lz h h0 w hL, fun _ => rfl, fun h1 => by omega⟩
    · exact ⟨i, 0, fun w hL => li h (by omega) ha hi w hL, fun h1 => absurd h1 h0, fun _ => ⟨rfl, rfl⟩⟩
  clear h hr hs hp hu hv hrr ht ht2 ht3 hi hfl
  have hst : St2 w (P : Int) (M : Int) ((w.alloc (.cells #[.int .i64 (P : Int), .int .i64 (M : Int)] 23)).alloc (.cells #[.int .i64 (a : Int), .int .i64 (b : Int), .int .i64 (c : Int)] 40)) :=
    ⟨below2 w _ _, hL.below (below2 w _ _), (fAt_new w (P : Int) (M : Int)).below (below1 _ _)⟩
  have HS0 := Lib.hid hst
  clear hL hst
  go_enter Tryd.func7, Tryd.ntmps7
  go_wp2_with fail
  go_quiet (fail)
  generalize hz : World.drewN _ _ = w1
  have HS1 : Hid (St2 w (P : Int) (M : Int) w1) := by rw [← hz]; exact HS0.out.drewN _
  clear hz
  obtain ⟨c0, c1⟩ := HS1.out.cells
  go_wp2_with fail
  refine (elem_any P M q H.out (some ⟨w1.heap.size, 0, none⟩) [(a : Int), (b : Int), (c : Int)] 3 3 rfl (by omega) _ (HS1.out.lays.below (below1 w1 _)) (rd3 w1 _ _ _)).mono ?_
  rintro e w2 ⟨hB, ⟨hE, rfl⟩ | ⟨hE, rfl⟩⟩
  case inr =>
    obtain ⟨x, hx, hn⟩ := hE
    simp only [List.mem_cons, List.not_mem_nil, or_false] at hx
    rcases hx with rfl | rfl | rfl
    · exact absurd (inq_of ha) hn
    · exact absurd (inq_of hb) hn
    · exact absurd (inq_of hc) hn
  have HS2 := Lib.hid ((HS1.out.step (below1 w1 _)).step hB)
  clear hB c0 c1 hE
  obtain ⟨c0, c1⟩ := HS2.out.cells
  have st : St2 w (P : Int) (M : Int) w2.drew := HS2.out.drew
  obtain ⟨z0, z1⟩ := st.cells
  go_upto_region 4 with fail
  go_cut [8, 9] (fun s8 s9 wx => s8 = .int .i64 (a : Int) ∧ s9 = .int .i64 0 ∧ St2 w (P : Int) (M : Int) wx)
  case first =>
    go_region_held3 (fun w' => St2 w (P : Int) (M : Int) w' ∧ w'.cell? ⟨w.heap.size, 0, none⟩ = some (.int .i64 (P : Int)) ∧ w'.cell? ⟨w.heap.size, 1, none⟩ = some (.int .i64 (M : Int)))
      (first | (refine ⟨?_, ?_, ?_⟩ <;> assumption))
      (first
        | (go_at_call 35; (with_reducible refine (la H.out ha hb Hab.out _ (St2.lays (by assumption))).mono ?_); rintro e wx ⟨rfl, hBx⟩; have sx := St2.step (by assumption) hBx; obtain ⟨y0, y1⟩ := sx.cells; clear hBx)
        | (go_at_call 18; (with_reducible refine (ls H.out Hs.out hb Hsb.out _ (St2.lays (by assumption))).mono ?_); rintro e wx ⟨rfl, hBx⟩; have sx := St2.step (by assumption) hBx; obtain ⟨y0, y1⟩ := sx.cells; clear hBx))
    all_goals
      go_wp2_with fail
      go_meet
      exact ⟨rfl, rfl, by assumption⟩
  case rest =>
    obtain ⟨rfl, rfl, hst⟩ := hcut
    have HS3 := Lib.hid hst
    clear hst st z0 z1 c0 c1
    obtain ⟨c0, c1⟩ := HS3.out.cells
    go_wp2_with fail
    refine (HIV.out _ HS3.out.lays).mono ?_
    rintro e w4 ⟨rfl, hB⟩
    have HS4 := Lib.hid (HS3.out.step hB)
    clear hB c0 c1
    obtain ⟨c0, c1⟩ := HS4.out.cells
    try unfold Ret2
    go_upto_region 6 with fail
    go_cut [62] (fun s62 wx => s62 = .bool false ∧ St2 w (P : Int) (M : Int) wx)
    case first =>
      by_cases h0 : a = 0
      · have e1 : ((a : Int) == 0) = true := by rw [h0]; rfl
        have e2 : ((a : Int) != 0) = false := by rw [h0]; rfl
        have hg := HG0.out h0
        subst hg
        clear h0
        go_wp2_with fail
        go_meet
        exact ⟨rfl, HS4.out⟩
      · have h0 : 0 < a := by omega
        obtain ⟨hg, hv⟩ := HG1.out h0
        subst hg hv
        go_wp2_with fail
        refine (lm H.out ha Hi.out (Hai.out h0) _ HS4.out.lays).mono ?_
        rintro e w5 ⟨rfl, hB⟩
        have HS5 := Lib.hid (HS4.out.step hB)
        clear hB c0 c1
        obtain ⟨c0, c1⟩ := HS5.out.cells
        try unfold Ret2
        go_wp2_with fail
        go_meet
        exact ⟨rfl, HS5.out⟩
    case rest =>
      obtain ⟨rfl, hst⟩ := hcut
      have st := hst.drew
      obtain ⟨z0, z1⟩ := st.cells
      clear c0 c1
      go_wp2_with fail
      simp only [List.append]
      refine wp_region_text (S := (fun w' => St2 w (P : Int) (M : Int) w' ∧ w'.cell? ⟨w.heap.size, 0, none⟩ = some (.int .i64 (P : Int)) ∧ w'.cell? ⟨w.heap.size, 1, none⟩ = some (.int .i64 (M : Int)))) (by kernel_rfl) (by kernel_rfl) ⟨st, z0, z1⟩ (b := ?b) ?text ?post
      case text =>
        refine InText.pure (by rfl) (fun w hw => by (try dsimp only at hw); go_simp; try with_reducible rfl) ?_
        simp only [Act.put, List.setIfInBounds_toArray, List.set_cons_zero, List.set_cons_succ]
        refine InText.pure (by rfl) (fun w hw => by (try dsimp only at hw); go_simp; try with_reducible rfl) ?_
        simp only [Act.put, List.setIfInBounds_toArray, List.set_cons_zero, List.set_cons_succ]
        refine InText.pure (by rfl) (fun w hw => by (try dsimp only at hw); go_simp; try with_reducible rfl) ?_
        simp only [Act.put, List.setIfInBounds_toArray, List.set_cons_zero, List.set_cons_succ]
        refine InText.pure (by rfl) (fun w hw => by (try dsimp only at hw); go_simp; try with_reducible rfl) ?_
        simp only [Act.put, List.setIfInBounds_toArray, List.set_cons_zero, List.set_cons_succ]
        refine InText.pure (by rfl) (fun w hw => by (try dsimp only at hw); go_simp; try with_reducible rfl) ?_
        simp only [Act.put, List.setIfInBounds_toArray, List.set_cons_zero, List.set_cons_succ]
        refine InText.pure (by rfl) (fun w hw => by (try dsimp only at hw); go_simp; try with_reducible rfl) ?_
        simp only [Act.put, List.setIfInBounds_toArray, List.set_cons_zero, List.set_cons_succ]
        refine InText.pure (by rfl) (fun w hw => by (try dsimp only at hw); go_simp; try with_reducible rfl) ?_
        simp only [Act.put, List.setIfInBounds_toArray, List.set_cons_zero, List.set_cons_succ]
        refine InText.pure (by rfl) (fun w hw => by (try dsimp only at hw); go_simp; try with_reducible rfl) ?_
        simp only [Act.put, List.setIfInBounds_toArray, List.set_cons_zero, List.set_cons_succ]
        refine InText.pure (by rfl) (fun w hw => by (try dsimp only at hw); go_simp; try with_reducible rfl) ?_
        simp only [Act.put, List.setIfInBounds_toArray, List.set_cons_zero, List.set_cons_succ]
        refine InText.pure (by rfl) (fun w hw => by (try dsimp only at hw); go_simp; try with_reducible rfl) ?_
        simp only [Act.put, List.setIfInBounds_toArray, List.set_cons_zero, List.set_cons_succ]
        refine InText.pure (by rfl) (fun w hw => by (try dsimp only at hw); go_simp; try with_reducible rfl) ?_
        simp only [Act.put, List.setIfInBounds_toArray, List.set_cons_zero, List.set_cons_succ]
        refine InText.call (.int .i64 (s : Int)) (by rfl) (fun w hw => ?_) ?_
        · go_simp
          refine (la H.out ha hb Hab.out _ hw.1.lays).mono ?_
          rintro e wx ⟨rfl, hB⟩
          exact ⟨rfl, hw.1.step hB, (hw.1.step hB).cells⟩
        simp only [Act.put, List.setIfInBounds_toArray, List.set_cons_zero, List.set_cons_succ]
        refine InText.pure (by rfl) (fun w hw => by (try dsimp only at hw); go_simp; try with_reducible rfl) ?_
        simp only [Act.put, List.setIfInBounds_toArray, List.set_cons_zero, List.set_cons_succ]
        refine InText.pure (by rfl) (fun w hw => by (try dsimp only at hw); go_simp; try with_reducible rfl) ?_
        simp only [Act.put, List.setIfInBounds_toArray, List.set_cons_zero, List.set_cons_succ]
        refine InText.pure (by rfl) (fun w hw => by (try dsimp only at hw); go_simp; try with_reducible rfl) ?_
        simp only [Act.put, List.setIfInBounds_toArray, List.set_cons_zero, List.set_cons_succ]
        refine InText.call (.int .i64 (s : Int)) (by rfl) (fun w hw => ?_) ?_
        · go_simp
          refine (la H.out hb ha Hba.out _ hw.1.lays).mono ?_
          rintro e wx ⟨rfl, hB⟩
          exact ⟨rfl, hw.1.step hB, (hw.1.step hB).cells⟩
        simp only [Act.put, List.setIfInBounds_toArray, List.set_cons_zero, List.set_cons_succ]
        refine InText.pure (by rfl) (fun w hw => by (try dsimp only at hw); go_simp; try with_reducible rfl) ?_
        simp only [Act.put, List.setIfInBounds_toArray, List.set_cons_zero, List.set_cons_succ]
        refine InText.pure (by rfl) (fun w hw => by (try dsimp only at hw); go_simp; try with_reducible rfl) ?_
        simp only [Act.put, List.setIfInBounds_toArray, List.set_cons_zero, List.set_cons_succ]
        refine InText.pure (by rfl) (fun w hw => by (try dsimp only at hw); go_simp; try with_reducible rfl) ?_
        simp only [Act.put, List.setIfInBounds_toArray, List.set_cons_zero, List.set_cons_succ]
        refine InText.pure (by rfl) (fun w hw => by (try dsimp only at hw); go_simp; try with_reducible rfl) ?_
        simp only [Act.put, List.setIfInBounds_toArray, List.set_cons_zero, List.set_cons_succ]
        refine InText.pure (by rfl) (fun w hw => by (try dsimp only at hw); go_simp; try with_reducible rfl) ?_
        simp only [Act.put, List.setIfInBounds_toArray, List.set_cons_zero, List.set_cons_succ]
        refine InText.pure (by rfl) (fun w hw => by (try dsimp only at hw); go_simp; try with_reducible rfl) ?_
        simp only [Act.put, List.setIfInBounds_toArray, List.set_cons_zero, List.set_cons_succ]
        refine InText.call (.int .i64 (p : Int)) (by rfl) (fun w hw => ?_) ?_
        · go_simp
          refine (lm H.out ha hb Mab.out _ hw.1.lays).mono ?_
          rintro e wx ⟨rfl, hB⟩
          exact ⟨rfl, hw.1.step hB, (hw.1.step hB).cells⟩
        simp only [Act.put, List.setIfInBounds_toArray, List.set_cons_zero, List.set_cons_succ]
        refine InText.pure (by rfl) (fun w hw => by (try dsimp only at hw); go_simp; try with_reducible rfl) ?_
        simp only [Act.put, List.setIfInBounds_toArray, List.set_cons_zero, List.set_cons_succ]
        refine InText.pure (by rfl) (fun w hw => by (try dsimp only at hw); go_simp; try with_reducible rfl) ?_
        simp only [Act.put, List.setIfInBounds_toArray, List.set_cons_zero, List.set_cons_succ]
        refine InText.pure (by rfl) (fun w hw => by (try dsimp only at hw); go_simp; try with_reducible rfl) ?_
        simp only [Act.put, List.setIfInBounds_toArray, List.set_cons_zero, List.set_cons_succ]
        refine InText.call (.int .i64 (p : Int)) (by rfl) (fun w hw => ?_) ?_
        · go_simp
          refine (lm H.out hb ha Mba.out _ hw.1.lays).mono ?_
          rintro e wx ⟨rfl, hB⟩
          exact ⟨rfl, hw.1.step hB, (hw.1.step hB).cells⟩
        simp only [Act.put, List.setIfInBounds_toArray, List.set_cons_zero, List.set_cons_succ]
        refine InText.pure (by rfl) (fun w hw => by (try dsimp only at hw); go_simp; try with_reducible rfl) ?_
        simp only [Act.put, List.setIfInBounds_toArray, List.set_cons_zero, List.set_cons_succ]
        refine InText.pure (by rfl) (fun w hw => by (try dsimp only at hw); go_simp; try with_reducible rfl) ?_
        simp only [Act.put, List.setIfInBounds_toArray, List.set_cons_zero, List.set_cons_succ]
        refine InText.pure (by rfl) (fun w hw => by (try dsimp only at hw); go_simp; try with_reducible rfl) ?_
        simp only [Act.put, List.setIfInBounds_toArray, List.set_cons_zero, List.set_cons_succ]
        refine InText.pure (by rfl) (fun w hw => by (try dsimp only at hw); go_simp; try with_reducible rfl) ?_
        simp only [Act.put, List.setIfInBounds_toArray, List.set_cons_zero, List.set_cons_succ]
        refine InText.pure (by rfl) (fun w hw => by (try dsimp only at hw); go_simp; try with_reducible rfl) ?_
        simp only [Act.put, List.setIfInBounds_toArray, List.set_cons_zero, List.set_cons_succ]
        refine InText.pure (by rfl) (fun w hw => by (try dsimp only at hw); go_simp; try with_reducible rfl) ?_
        simp only [Act.put, List.setIfInBounds_toArray, List.set_cons_zero, List.set_cons_succ]
        refine InText.pure (by rfl) (fun w hw => by (try dsimp only at hw); go_simp; try with_reducible rfl) ?_
        simp only [Act.put, List.setIfInBounds_toArray, List.set_cons_zero, List.set_cons_succ]
        refine InText.call (.int .i64 (s : Int)) (by rfl) (fun w hw => ?_) ?_
        · go_simp
          refine (la H.out ha hb Hab.out _ hw.1.lays).mono ?_
          rintro e wx ⟨rfl, hB⟩
          exact ⟨rfl, hw.1.step hB, (hw.1.step hB).cells⟩
        simp only [Act.put, List.setIfInBounds_toArray, List.set_cons_zero, List.set_cons_succ]
        refine InText.pure (by rfl) (fun w hw => by (try dsimp only at hw); go_simp; try with_reducible rfl) ?_
        simp only [Act.put, List.setIfInBounds_toArray, List.set_cons_zero, List.set_cons_succ]
        refine InText.call (.int .i64 (t : Int)) (by rfl) (fun w hw => ?_) ?_
        · go_simp
          refine (la H.out Hs.out hc Hsc.out _ hw.1.lays).mono ?_
          rintro e wx ⟨rfl, hB⟩
          exact ⟨rfl, hw.1.step hB, (hw.1.step hB).cells⟩
        simp only [Act.put, List.setIfInBounds_toArray, List.set_cons_zero, List.set_cons_succ]
        refine InText.pure (by rfl) (fun w hw => by (try dsimp only at hw); go_simp; try with_reducible rfl) ?_
        simp only [Act.put, List.setIfInBounds_toArray, List.set_cons_zero, List.set_cons_succ]
        refine InText.pure (by rfl) (fun w hw => by (try dsimp only at hw); go_simp; try with_reducible rfl) ?_
        simp only [Act.put, List.setIfInBounds_toArray, List.set_cons_zero, List.set_cons_succ]
        refine InText.pure (by rfl) (fun w hw => by (try dsimp only at hw); go_simp; try with_reducible rfl) ?_
        simp only [Act.put, List.setIfInBounds_toArray, List.set_cons_zero, List.set_cons_succ]
        refine InText.pure (by rfl) (fun w hw => by (try dsimp only at hw); go_simp; try with_reducible rfl) ?_
        simp only [Act.put, List.setIfInBounds_toArray, List.set_cons_zero, List.set_cons_succ]
        refine InText.pure (by rfl) (fun w hw => by (try dsimp only at hw); go_simp; try with_reducible rfl) ?_
        simp only [Act.put, List.setIfInBounds_toArray, List.set_cons_zero, List.set_cons_succ]
        refine InText.call (.int .i64 (u : Int)) (by rfl) (fun w hw => ?_) ?_
        · go_simp
          refine (la H.out hb hc Hbc.out _ hw.1.lays).mono ?_
          rintro e wx ⟨rfl, hB⟩
          exact ⟨rfl, hw.1.step hB, (hw.1.step hB).cells⟩
        simp only [Act.put, List.setIfInBounds_toArray, List.set_cons_zero, List.set_cons_succ]
        refine InText.call (.int .i64 (t : Int)) (by rfl) (fun w hw => ?_) ?_
        · go_simp
          refine (la H.out ha Hu.out Hau.out _ hw.1.lays).mono ?_
          rintro e wx ⟨rfl, hB⟩
          exact ⟨rfl, hw.1.step hB, (hw.1.step hB).cells⟩
        simp only [Act.put, List.setIfInBounds_toArray, List.set_cons_zero, List.set_cons_succ]
        refine InText.pure (by rfl) (fun w hw => by (try dsimp only at hw); go_simp; try with_reducible rfl) ?_
        simp only [Act.put, List.setIfInBounds_toArray, List.set_cons_zero, List.set_cons_succ]
        refine InText.pure (by rfl) (fun w hw => by (try dsimp only at hw); go_simp; try with_reducible rfl) ?_
        simp only [Act.put, List.setIfInBounds_toArray, List.set_cons_zero, List.set_cons_succ]
        refine InText.pure (by rfl) (fun w hw => by (try dsimp only at hw); go_simp; try with_reducible rfl) ?_
        simp only [Act.put, List.setIfInBounds_toArray, List.set_cons_zero, List.set_cons_succ]
        refine InText.pure (by rfl) (fun w hw => by (try dsimp only at hw); go_simp; try with_reducible rfl) ?_
        simp only [Act.put, List.setIfInBounds_toArray, List.set_cons_zero, List.set_cons_succ]
        refine InText.pure (by rfl) (fun w hw => by (try dsimp only at hw); go_simp; try with_reducible rfl) ?_
        simp only [Act.put, List.setIfInBounds_toArray, List.set_cons_zero, List.set_cons_succ]
        refine InText.pure (by rfl) (fun w hw => by (try dsimp only at hw); go_simp; try with_reducible rfl) ?_
        simp only [Act.put, List.setIfInBounds_toArray, List.set_cons_zero, List.set_cons_succ]
        refine InText.pure (by rfl) (fun w hw => by (try dsimp only at hw); go_simp; try with_reducible rfl) ?_
        simp only [Act.put, List.setIfInBounds_toArray, List.set_cons_zero, List.set_cons_succ]
        refine InText.call (.int .i64 (p : Int)) (by rfl) (fun w hw => ?_) ?_
        · go_simp
          refine (lm H.out ha hb Mab.out _ hw.1.lays).mono ?_
          rintro e wx ⟨rfl, hB⟩
          exact ⟨rfl, hw.1.step hB, (hw.1.step hB).cells⟩
        simp only [Act.put, List.setIfInBounds_toArray, List.set_cons_zero, List.set_cons_succ]
        refine InText.pure (by rfl) (fun w hw => by (try dsimp only at hw); go_simp; try with_reducible rfl) ?_
        simp only [Act.put, List.setIfInBounds_toArray, List.set_cons_zero, List.set_cons_succ]
        refine InText.call (.int .i64 (t2 : Int)) (by rfl) (fun w hw => ?_) ?_
        · go_simp
          refine (lm H.out Hp.out hc Mpc.out _ hw.1.lays).mono ?_
          rintro e wx ⟨rfl, hB⟩
          exact ⟨rfl, hw.1.step hB, (hw.1.step hB).cells⟩
        simp only [Act.put, List.setIfInBounds_toArray, List.set_cons_zero, List.set_cons_succ]
        refine InText.pure (by rfl) (fun w hw => by (try dsimp only at hw); go_simp; try with_reducible rfl) ?_
        simp only [Act.put, List.setIfInBounds_toArray, List.set_cons_zero, List.set_cons_succ]
        refine InText.pure (by rfl) (fun w hw => by (try dsimp only at hw); go_simp; try with_reducible rfl) ?_
        simp only [Act.put, List.setIfInBounds_toArray, List.set_cons_zero, List.set_cons_succ]
        refine InText.pure (by rfl) (fun w hw => by (try dsimp only at hw); go_simp; try with_reducible rfl) ?_
        simp only [Act.put, List.setIfInBounds_toArray, List.set_cons_zero, List.set_cons_succ]
        refine InText.pure (by rfl) (fun w hw => by (try dsimp only at hw); go_simp; try with_reducible rfl) ?_
        simp only [Act.put, List.setIfInBounds_toArray, List.set_cons_zero, List.set_cons_succ]
        refine InText.pure (by rfl) (fun w hw => by (try dsimp only at hw); go_simp; try with_reducible rfl) ?_
        simp only [Act.put, List.setIfInBounds_toArray, List.set_cons_zero, List.set_cons_succ]
        refine InText.call (.int .i64 (v : Int)) (by rfl) (fun w hw => ?_) ?_
        · go_simp
          refine (lm H.out hb hc Mbc.out _ hw.1.lays).mono ?_
          rintro e wx ⟨rfl, hB⟩
          exact ⟨rfl, hw.1.step hB, (hw.1.step hB).cells⟩
        simp only [Act.put, List.setIfInBounds_toArray, List.set_cons_zero, List.set_cons_succ]
        refine InText.call (.int .i64 (t2 : Int)) (by rfl) (fun w hw => ?_) ?_
        · go_simp
          refine (lm H.out ha Hv.out Mav.out _ hw.1.lays).mono ?_
          rintro e wx ⟨rfl, hB⟩
          exact ⟨rfl, hw.1.step hB, (hw.1.step hB).cells⟩
        simp only [Act.put, List.setIfInBounds_toArray, List.set_cons_zero, List.set_cons_succ]
        refine InText.pure (by rfl) (fun w hw => by (try dsimp only at hw); go_simp; try with_reducible rfl) ?_
        simp only [Act.put, List.setIfInBounds_toArray, List.set_cons_zero, List.set_cons_succ]
        refine InText.pure (by rfl) (fun w hw => by (try dsimp only at hw); go_simp; try with_reducible rfl) ?_
        simp only [Act.put, List.setIfInBounds_toArray, List.set_cons_zero, List.set_cons_succ]
        refine InText.pure (by rfl) (fun w hw => by (try dsimp only at hw); go_simp; try with_reducible rfl) ?_
        simp only [Act.put, List.setIfInBounds_toArray, List.set_cons_zero, List.set_cons_succ]
        refine InText.pure (by rfl) (fun w hw => by (try dsimp only at hw); go_simp; try with_reducible rfl) ?_
        simp only [Act.put, List.setIfInBounds_toArray, List.set_cons_zero, List.set_cons_succ]
        refine InText.pure (by rfl) (fun w hw => by (try dsimp only at hw); go_simp; try with_reducible rfl) ?_
        simp only [Act.put, List.setIfInBounds_toArray, List.set_cons_zero, List.set_cons_succ]
        refine InText.pure (by rfl) (fun w hw => by (try dsimp only at hw); go_simp; try with_reducible rfl) ?_
        simp only [Act.put, List.setIfInBounds_toArray, List.set_cons_zero, List.set_cons_succ]
        refine InText.pure (by rfl) (fun w hw => by (try dsimp only at hw); go_simp; try with_reducible rfl) ?_
        simp only [Act.put, List.setIfInBounds_toArray, List.set_cons_zero, List.set_cons_succ]
        refine InText.pure (by rfl) (fun w hw => by (try dsimp only at hw); go_simp; try with_reducible rfl) ?_
        simp only [Act.put, List.setIfInBounds_toArray, List.set_cons_zero, List.set_cons_succ]
        refine InText.call (.int .i64 (u : Int)) (by rfl) (fun w hw => ?_) ?_
        · go_simp
          refine (la H.out hb hc Hbc.out _ hw.1.lays).mono ?_
          rintro e wx ⟨rfl, hB⟩
          exact ⟨rfl, hw.1.step hB, (hw.1.step hB).cells⟩
        simp only [Act.put, List.setIfInBounds_toArray, List.set_cons_zero, List.set_cons_succ]
        refine InText.call (.int .i64 (t3 : Int)) (by rfl) (fun w hw => ?_) ?_
        · go_simp
          refine (lm H.out ha Hu.out Mau.out _ hw.1.lays).mono ?_
          rintro e wx ⟨rfl, hB⟩
          exact ⟨rfl, hw.1.step hB, (hw.1.step hB).cells⟩
        simp only [Act.put, List.setIfInBounds_toArray, List.set_cons_zero, List.set_cons_succ]
        refine InText.pure (by rfl) (fun w hw => by (try dsimp only at hw); go_simp; try with_reducible rfl) ?_
        simp only [Act.put, List.setIfInBounds_toArray, List.set_cons_zero, List.set_cons_succ]
        refine InText.pure (by rfl) (fun w hw => by (try dsimp only at hw); go_simp; try with_reducible rfl) ?_
        simp only [Act.put, List.setIfInBounds_toArray, List.set_cons_zero, List.set_cons_succ]
        refine InText.pure (by rfl) (fun w hw => by (try dsimp only at hw); go_simp; try with_reducible rfl) ?_
        simp only [Act.put, List.setIfInBounds_toArray, List.set_cons_zero, List.set_cons_succ]
        refine InText.pure (by rfl) (fun w hw => by (try dsimp only at hw); go_simp; try with_reducible rfl) ?_
        simp only [Act.put, List.setIfInBounds_toArray, List.set_cons_zero, List.set_cons_succ]
        refine InText.call (.int .i64 (p : Int)) (by rfl) (fun w hw => ?_) ?_
        · go_simp
          refine (lm H.out ha hb Mab.out _ hw.1.lays).mono ?_
          rintro e wx ⟨rfl, hB⟩
          exact ⟨rfl, hw.1.step hB, (hw.1.step hB).cells⟩
        simp only [Act.put, List.setIfInBounds_toArray, List.set_cons_zero, List.set_cons_succ]
        refine InText.pure (by rfl) (fun w hw => by (try dsimp only at hw); go_simp; try with_reducible rfl) ?_
        simp only [Act.put, List.setIfInBounds_toArray, List.set_cons_zero, List.set_cons_succ]
        refine InText.pure (by rfl) (fun w hw => by (try dsimp only at hw); go_simp; try with_reducible rfl) ?_
        simp only [Act.put, List.setIfInBounds_toArray, List.set_cons_zero, List.set_cons_succ]
        refine InText.pure (by rfl) (fun w hw => by (try dsimp only at hw); go_simp; try with_reducible rfl) ?_
        simp only [Act.put, List.setIfInBounds_toArray, List.set_cons_zero, List.set_cons_succ]
        refine InText.call (.int .i64 (r : Int)) (by rfl) (fun w hw => ?_) ?_
        · go_simp
          refine (lm H.out ha hc Mac.out _ hw.1.lays).mono ?_
          rintro e wx ⟨rfl, hB⟩
          exact ⟨rfl, hw.1.step hB, (hw.1.step hB).cells⟩
        simp only [Act.put, List.setIfInBounds_toArray, List.set_cons_zero, List.set_cons_succ]
        refine InText.call (.int .i64 (t3 : Int)) (by rfl) (fun w hw => ?_) ?_
        · go_simp
          refine (la H.out Hp.out Hr.out Hpr.out _ hw.1.lays).mono ?_
          rintro e wx ⟨rfl, hB⟩
          exact ⟨rfl, hw.1.step hB, (hw.1.step hB).cells⟩
        simp only [Act.put, List.setIfInBounds_toArray, List.set_cons_zero, List.set_cons_succ]
        refine InText.pure (by rfl) (fun w hw => by (try dsimp only at hw); go_simp; try with_reducible rfl) ?_
        simp only [Act.put, List.setIfInBounds_toArray, List.set_cons_zero, List.set_cons_succ]
        refine InText.pure (by rfl) (fun w hw => by (try dsimp only at hw); go_simp; try with_reducible rfl) ?_
        simp only [Act.put, List.setIfInBounds_toArray, List.set_cons_zero, List.set_cons_succ]
        refine InText.pure (by rfl) (fun w hw => by (try dsimp only at hw); go_simp; try with_reducible rfl) ?_
        simp only [Act.put, List.setIfInBounds_toArray, List.set_cons_zero, List.set_cons_succ]
        refine InText.pure (by rfl) (fun w hw => by (try dsimp only at hw); go_simp; try with_reducible rfl) ?_
        simp only [Act.put, List.setIfInBounds_toArray, List.set_cons_zero, List.set_cons_succ]
        refine InText.pure (by rfl) (fun w hw => by (try dsimp only at hw); go_simp; try with_reducible rfl) ?_
        simp only [Act.put, List.setIfInBounds_toArray, List.set_cons_zero, List.set_cons_succ]
        refine InText.call (.int .i64 (a : Int)) (by rfl) (fun w hw => ?_) ?_
        · go_simp
          refine (la0 H.out ha _ hw.1.lays).mono ?_
          rintro e wx ⟨rfl, hB⟩
          exact ⟨rfl, hw.1.step hB, (hw.1.step hB).cells⟩
        simp only [Act.put, List.setIfInBounds_toArray, List.set_cons_zero, List.set_cons_succ]
        refine InText.pure (by rfl) (fun w hw => by (try dsimp only at hw); go_simp; try with_reducible rfl) ?_
        simp only [Act.put, List.setIfInBounds_toArray, List.set_cons_zero, List.set_cons_succ]
        refine InText.pure (by rfl) (fun w hw => by (try dsimp only at hw); go_simp; try with_reducible rfl) ?_
        simp only [Act.put, List.setIfInBounds_toArray, List.set_cons_zero, List.set_cons_succ]
        refine InText.pure (by rfl) (fun w hw => by (try dsimp only at hw); go_simp; try with_reducible rfl) ?_
        simp only [Act.put, List.setIfInBounds_toArray, List.set_cons_zero, List.set_cons_succ]
        refine InText.pure (by rfl) (fun w hw => by (try dsimp only at hw); go_simp; try with_reducible rfl) ?_
        simp only [Act.put, List.setIfInBounds_toArray, List.set_cons_zero, List.set_cons_succ]
        refine InText.pure (by rfl) (fun w hw => by (try dsimp only at hw); go_simp; try with_reducible rfl) ?_
        simp only [Act.put, List.setIfInBounds_toArray, List.set_cons_zero, List.set_cons_succ]
        refine InText.pure (by rfl) (fun w hw => by (try dsimp only at hw); go_simp; try with_reducible rfl) ?_
        simp only [Act.put, List.setIfInBounds_toArray, List.set_cons_zero, List.set_cons_succ]
        refine InText.call (.int .i64 (a : Int)) (by rfl) (fun w hw => ?_) ?_
        · go_simp
          refine (lm1 H.out ha _ hw.1.lays).mono ?_
          rintro e wx ⟨rfl, hB⟩
          exact ⟨rfl, hw.1.step hB, (hw.1.step hB).cells⟩
        simp only [Act.put, List.setIfInBounds_toArray, List.set_cons_zero, List.set_cons_succ]
        refine InText.pure (by rfl) (fun w hw => by (try dsimp only at hw); go_simp; try with_reducible rfl) ?_
        simp only [Act.put, List.setIfInBounds_toArray, List.set_cons_zero, List.set_cons_succ]
        refine InText.pure (by rfl) (fun w hw => by (try dsimp only at hw); go_simp; try with_reducible rfl) ?_
        simp only [Act.put, List.setIfInBounds_toArray, List.set_cons_zero, List.set_cons_succ]
        refine InText.pure (by rfl) (fun w hw => by (try dsimp only at hw); go_simp; try with_reducible rfl) ?_
        simp only [Act.put, List.setIfInBounds_toArray, List.set_cons_zero, List.set_cons_succ]
        refine InText.pure (by rfl) (fun w hw => by (try dsimp only at hw); go_simp; try with_reducible rfl) ?_
        simp only [Act.put, List.setIfInBounds_toArray, List.set_cons_zero, List.set_cons_succ]
        refine InText.pure (by rfl) (fun w hw => by (try dsimp only at hw); go_simp; try with_reducible rfl) ?_
        simp only [Act.put, List.setIfInBounds_toArray, List.set_cons_zero, List.set_cons_succ]
        refine InText.pure (by rfl) (fun w hw => by (try dsimp only at hw); go_simp; try with_reducible rfl) ?_
        simp only [Act.put, List.setIfInBounds_toArray, List.set_cons_zero, List.set_cons_succ]
        refine InText.call (.int .i64 0) (by rfl) (fun w hw => ?_) ?_
        · go_simp
          refine (lm0 H.out ha _ hw.1.lays).mono ?_
          rintro e wx ⟨rfl, hB⟩
          exact ⟨rfl, hw.1.step hB, (hw.1.step hB).cells⟩
        simp only [Act.put, List.setIfInBounds_toArray, List.set_cons_zero, List.set_cons_succ]
        refine InText.pure (by rfl) (fun w hw => by (try dsimp only at hw); go_simp; try with_reducible rfl) ?_
        simp only [Act.put, List.setIfInBounds_toArray, List.set_cons_zero, List.set_cons_succ]
        refine InText.pure (by rfl) (fun w hw => by (try dsimp only at hw); go_simp; try with_reducible rfl) ?_
        simp only [Act.put, List.setIfInBounds_toArray, List.set_cons_zero, List.set_cons_succ]
        refine InText.pure (by rfl) (fun w hw => by (try dsimp only at hw); go_simp; try with_reducible rfl) ?_
        simp only [Act.put, List.setIfInBounds_toArray, List.set_cons_zero, List.set_cons_succ]
        refine InText.call (.bool true) (by rfl) (fun w hw => ?_) ?_
        · go_simp
          refine (alive_any _ hw.1.lays).mono ?_
          rintro e wx ⟨rfl, hB⟩
          exact ⟨rfl, hw.1.step hB, (hw.1.step hB).cells⟩
        simp only [Act.put, List.setIfInBounds_toArray, List.set_cons_zero, List.set_cons_succ]
        refine InText.pure (by rfl) (fun w hw => by (try dsimp only at hw); go_simp; try with_reducible rfl) ?_
        simp only [Act.put, List.setIfInBounds_toArray, List.set_cons_zero, List.set_cons_succ]
        refine InText.pure (by rfl) (fun w hw => by (try dsimp only at hw); go_simp; try with_reducible rfl) ?_
        simp only [Act.put, List.setIfInBounds_toArray, List.set_cons_zero, List.set_cons_succ]
        exact InText.done
      case post =>
        rintro w' ⟨hst', _, _⟩
        go_wp2_with fail
        go_ret
        exact ⟨rfl, hst'.bel⟩
theorem fieldLaws_any (P M a b c : Int) (w : World) (hL : Lays w) :
    Calls Tryd.prog 7 #[.agg #[.int .i64 P, .int .i64 M], .agg #[.int .i64 a, .int .i64 b, .int .i64 c]] w fun e w' => e = .returned (.bool true) ∧ Below w.heap.size w w' := by
  by_cases h : OkF P M
  · obtain ⟨P', M', q, rfl, rfl, hf⟩ := h.fld
    by_cases hin : ∀ x ∈ [a, b, c], InQ q x
    · obtain ⟨a', rfl, ha⟩ := inq_nat (hin a (by simp))
      obtain ⟨b', rfl, hb⟩ := inq_nat (hin b (by simp))
      obtain ⟨c', rfl, hc⟩ := inq_nat (hin c (by simp))
      exact fl_main P' M' q hf a' b' c' ha hb hc w hL
    · exact fl_not P' M' q hf a b c hin w hL
  · exact fl_form P M a b c h w hL
end Go.Proofs.YtfkeemhbehhclaaDoor
