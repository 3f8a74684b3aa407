/-
  The power of an element by the order of the field is the element, and raising to the power P is additive: the law FieldFermat's walk.
-/
import Derived.Test.YtfkeemhbehhclaaDoorFek
import Derived.Test.YtfkeemhbehhclaaDoorFed
namespace Go.Proofs.YtfkeemhbehhclaaDoor
open Go.RowKit

set_option maxRecDepth 100000 in
set_option maxHeartbeats 4000000 in
theorem ff_form (P M a b : Int) (h : ¬ OkF P M) (w : World) (hL : Lays w) :
    Calls Tryd.prog 8 #[.agg #[.int .i64 P, .int .i64 M], .int .i64 a, .int .i64 b] w fun e w' => e = .returned (.bool true) ∧ Below w.heap.size w w' := by
  have H := Lib.hid h
  clear h
  have hst : ∀ o, St2 w P M ((w.alloc (.cells #[.int .i64 P, .int .i64 M] 23)).alloc o) := fun o => ⟨below2 w _ _, hL.below (below2 w _ _), (fAt_new w P M).below (below1 _ _)⟩
  have hst1 : St2 w P M (w.alloc (.cells #[.int .i64 P, .int .i64 M] 23)) := ⟨below1 w _, hL.below (below1 w _), fAt_new w P M⟩
  have HST := Lib.hid hst
  have HS1 := Lib.hid hst1
  obtain ⟨c0, c1⟩ := hst1.cells
  clear hL hst hst1
  go_enter Tryd.func8, Tryd.ntmps8
  go_wp2_with fail
  refine (elem_form P M H.out _ _ (HST.out _).lays).mono ?_
  rintro e w2 ⟨rfl, hB⟩
  have HS2 := Lib.hid ((HST.out _).step hB)
  clear hB c0 c1
  obtain ⟨c0, c1⟩ := HS2.out.cells
  go_wp2_with fail
  refine (alive_any _ HS2.out.lays).mono ?_
  rintro e w3 ⟨rfl, hB⟩
  have HS3 := Lib.hid (HS2.out.step hB)
  clear hB c0 c1
  obtain ⟨c0, c1⟩ := HS3.out.cells
  try unfold Ret2
  go_wp2_with fail
  go_ret
  exact ⟨rfl, HS3.out.bel⟩
set_option maxRecDepth 100000 in
set_option maxHeartbeats 4000000 in
theorem ff_not (P M q : Nat) (h : Fld P M q) (a b : Int) (hn : ¬ (InQ q a ∧ InQ q b)) (w : World) (hL : Lays w) :
    Calls Tryd.prog 8 #[.agg #[.int .i64 (P : Int), .int .i64 (M : Int)], .int .i64 a, .int .i64 b] w fun e w' => e = .returned (.bool true) ∧ Below w.heap.size w w' := by
  have H := Lib.hid h
  have HN := Lib.hid hn
  clear h hn
  have hst : ∀ o, St2 w (P : Int) (M : Int) ((w.alloc (.cells #[.int .i64 (P : Int), .int .i64 (M : Int)] 23)).alloc o) := fun o => ⟨below2 w _ _, hL.below (below2 w _ _), (fAt_new w (P : Int) (M : Int)).below (below1 _ _)⟩
  have hst1 : St2 w (P : Int) (M : Int) (w.alloc (.cells #[.int .i64 (P : Int), .int .i64 (M : Int)] 23)) := ⟨below1 w _, hL.below (below1 w _), fAt_new w (P : Int) (M : Int)⟩
  have HST := Lib.hid hst
  have HS1 := Lib.hid hst1
  obtain ⟨c0, c1⟩ := hst1.cells
  clear hL hst hst1
  go_enter Tryd.func8, Tryd.ntmps8
  go_wp2_with fail
  refine (elem_any P M q H.out (some ⟨w.heap.size + 1, 0, none⟩) [a, b] 2 2 rfl (by omega) _ (HST.out _).lays (rd2 w _ _ _)).mono ?_
  rintro e w2 ⟨hB, ⟨hE, rfl⟩ | ⟨hE, rfl⟩⟩
  case inl => exact absurd (two_inq hE) HN.out
  have HS2 := Lib.hid ((HST.out _).step hB)
  clear hB c0 c1 hE
  obtain ⟨c0, c1⟩ := HS2.out.cells
  go_wp2_with fail
  refine (alive_any _ HS2.out.lays).mono ?_
  rintro e w3 ⟨rfl, hB⟩
  have HS3 := Lib.hid (HS2.out.step hB)
  clear hB c0 c1
  obtain ⟨c0, c1⟩ := HS3.out.cells
  try unfold Ret2
  go_wp2_with fail
  go_ret
  exact ⟨rfl, HS3.out.bel⟩
set_option maxRecDepth 100000 in
set_option maxHeartbeats 4000000 in
theorem ff_ok (P M q : Nat) (h : Fld P M q) (a b : Nat) (ha : a < q) (hb : b < q) (w : World) (hL : Lays w) :
    Calls Tryd.prog 8 #[.agg #[.int .i64 (P : Int), .int .i64 (M : Int)], .int .i64 (a : Int), .int .i64 (b : Int)] w fun e w' => e = .returned (.bool true) ∧ Below w.heap.size w w' := by
  have H := Lib.hid h
  have hr := h.rng
  have hq2 := h.q_ge
  have hq3 := h.q_le
  have hP := h.p_le
  obtain ⟨s, hs⟩ : ∃ s, addN P M a b = s := ⟨_, rfl⟩
  obtain ⟨x, hx⟩ : ∃ x, powN P M a P = x := ⟨_, rfl⟩
  obtain ⟨y, hy⟩ : ∃ y, powN P M b P = y := ⟨_, rfl⟩
  obtain ⟨z, hz⟩ : ∃ z, powN P M s P = z := ⟨_, rfl⟩
  have Haq := Lib.hid (h.pow_ord ha)
  have Hab := Lib.hid hs
  have Hs := Lib.hid (show s < q by rw [← hs]; exact hr.add_lt ha hb)
  have Hx := Lib.hid hx
  have Hy := Lib.hid hy
  have Hz := Lib.hid hz
  have Hxl := Lib.hid (show x < q by rw [← hx]; exact h.powN_lt ha _)
  have Hyl := Lib.hid (show y < q by rw [← hy]; exact h.powN_lt hb _)
  have Hxy := Lib.hid (show addN P M x y = z by rw [← hz, ← hx, ← hy, ← hs]; exact (h.frob ha hb).symm)
  clear h hr hs hx hy hz
  have hst : ∀ o, St2 w (P : Int) (M : Int) ((w.alloc (.cells #[.int .i64 (P : Int), .int .i64 (M : Int)] 23)).alloc o) := fun o => ⟨below2 w _ _, hL.below (below2 w _ _), (fAt_new w (P : Int) (M : Int)).below (below1 _ _)⟩
  have hst1 : St2 w (P : Int) (M : Int) (w.alloc (.cells #[.int .i64 (P : Int), .int .i64 (M : Int)] 23)) := ⟨below1 w _, hL.below (below1 w _), fAt_new w (P : Int) (M : Int)⟩
  have HST := Lib.hid hst
  have HS1 := Lib.hid hst1
  obtain ⟨c0, c1⟩ := hst1.cells
  clear hL hst hst1
  go_enter Tryd.func8, Tryd.ntmps8
  go_wp2_with fail
  refine (elem_any P M q H.out (some ⟨w.heap.size + 1, 0, none⟩) [(a : Int), (b : Int)] 2 2 rfl (by omega) _ (HST.out _).lays (rd2 w _ _ _)).mono ?_
  rintro e w2 ⟨hB, ⟨hE, rfl⟩ | ⟨hE, rfl⟩⟩
  case inr => exact absurd ⟨inq_of ha, inq_of hb⟩ (two_not hE)
  have HS2 := Lib.hid ((HST.out _).step hB)
  clear hB c0 c1 hE
  obtain ⟨c0, c1⟩ := HS2.out.cells
  have st : St2 w (P : Int) (M : Int) w2.drew := HS2.out.drew
  obtain ⟨z0, z1⟩ := st.cells
  go_upto_region 3 with fail
  go_cut [7, 8] (fun t1 t2 wx => t1 = .int .i64 (a : Int) ∧ t2 = .int .i64 0 ∧ St2 w (P : Int) (M : Int) wx)
  case first =>
    go_region_held3 (fun w' => St2 w (P : Int) (M : Int) w' ∧ w'.cell? ⟨w.heap.size, 0, none⟩ = some (.int .i64 (P : Int)) ∧ w'.cell? ⟨w.heap.size, 1, none⟩ = some (.int .i64 (M : Int)))
      (first | (refine ⟨?_, ?_, ?_⟩ <;> assumption))
      (first
        | (go_at_call 14; (with_reducible refine (lo H.out _ (St2.lays (by assumption))).mono ?_); rintro e wx ⟨rfl, hBx⟩; have sx := St2.step (by assumption) hBx; obtain ⟨y0, y1⟩ := sx.cells; clear hBx)
        | (go_at_call 27; (with_reducible refine (lp H.out ha hq3 Haq.out _ (St2.lays (by assumption))).mono ?_); rintro e wx ⟨rfl, hBx⟩; have sx := St2.step (by assumption) hBx; obtain ⟨y0, y1⟩ := sx.cells; clear hBx))
    all_goals
      go_wp2_with fail
      go_meet
      exact ⟨rfl, rfl, by assumption⟩
  case rest =>
    obtain ⟨rfl, rfl, hst⟩ := hcut
    have HS3 := Lib.hid hst
    clear hst st z0 z1 c0 c1
    obtain ⟨c0, c1⟩ := HS3.out.cells
    go_wp2_with fail
    refine (lp H.out ha hP Hx.out _ HS3.out.lays).mono ?_
    rintro e w4 ⟨rfl, hB⟩
    have HS4 := Lib.hid (HS3.out.step hB)
    clear hB c0 c1
    obtain ⟨c0, c1⟩ := HS4.out.cells
    try unfold Ret2
    go_wp2_with fail
    refine (lp H.out hb hP Hy.out _ HS4.out.lays).mono ?_
    rintro e w5 ⟨rfl, hB⟩
    have HS5 := Lib.hid (HS4.out.step hB)
    clear hB c0 c1
    obtain ⟨c0, c1⟩ := HS5.out.cells
    try unfold Ret2
    have st : St2 w (P : Int) (M : Int) w5.drew := HS5.out.drew
    obtain ⟨z0, z1⟩ := st.cells
    go_upto_region 6 with fail
    go_cut [13, 14] (fun t1 t2 wx => t1 = .int .i64 (z : Int) ∧ t2 = .int .i64 0 ∧ St2 w (P : Int) (M : Int) wx)
    case first =>
      go_region_held3 (fun w' => St2 w (P : Int) (M : Int) w' ∧ w'.cell? ⟨w.heap.size, 0, none⟩ = some (.int .i64 (P : Int)) ∧ w'.cell? ⟨w.heap.size, 1, none⟩ = some (.int .i64 (M : Int)))
        (first | (refine ⟨?_, ?_, ?_⟩ <;> assumption))
        (first
          | (go_at_call 35; (with_reducible refine (la H.out ha hb Hab.out _ (St2.lays (by assumption))).mono ?_); rintro e wx ⟨rfl, hBx⟩; have sx := St2.step (by assumption) hBx; obtain ⟨y0, y1⟩ := sx.cells; clear hBx)
          | (go_at_call 27; (with_reducible refine (lp H.out Hs.out hP Hz.out _ (St2.lays (by assumption))).mono ?_); rintro e wx ⟨rfl, hBx⟩; have sx := St2.step (by assumption) hBx; obtain ⟨y0, y1⟩ := sx.cells; clear hBx))
      all_goals
        go_wp2_with fail
        go_meet
        exact ⟨rfl, rfl, by assumption⟩
    case rest =>
      obtain ⟨rfl, rfl, hst⟩ := hcut
      have HS6 := Lib.hid hst
      clear hst st z0 z1 c0 c1
      obtain ⟨c0, c1⟩ := HS6.out.cells
      go_wp2_with fail
      go_loopw [15, 16] (fun u v wr => ∃ k t : Nat, k ≤ P ∧ k ≤ 100 ∧ t < q ∧ u = .int .i64 t ∧ v = .int .i64 k ∧ Hid (t = nsum (addN P M) (fun _ => a) k) ∧ Hid (St2 w (P : Int) (M : Int) wr)) (fun _ v _ => 100 - (intOf v).toNat)
      case atStart => exact ⟨0, 0, by omega, by omega, by omega, rfl, rfl, rfl, HS6⟩
      case round =>
        clear c0 c1
        obtain ⟨k, t, hk, hk2, ht, rfl, rfl, HT, HSr⟩ := hrel
        obtain ⟨c0, c1⟩ := HSr.out.cells
        by_cases hlt : k < P
        · by_cases hlt2 : k < 100
          · obtain ⟨t2, ht2⟩ : ∃ t2, addN P M t a = t2 := ⟨_, rfl⟩
            have HT2 := Lib.hid ht2
            have ht3 : t2 < q := by rw [← ht2]; exact H.out.rng.add_lt ht ha
            have HTS : Hid (t2 = nsum (addN P M) (fun _ => a) (k + 1)) := by show _ = addN P M _ a; rw [← HT.out]; exact ht2.symm
            clear ht2
            go_wp2_with fail
            refine (la H.out ht ha HT2.out _ HSr.out.lays).mono ?_
            rintro e wn ⟨rfl, hB⟩
            have HSn := Lib.hid (HSr.out.step hB)
            clear hB c0 c1
            go_wp2_with fail
            go_roundw
            case rel => exact ⟨k + 1, t2, by omega, by omega, ht3, rfl, by go_num, HTS, HSn⟩
            case measure => simp [intOf]; omega
          · have hP100 : ¬ P ≤ 100 ∨ P = 100 := by omega
            rcases hP100 with hP1 | hP1
            · go_wp2_with fail
              refine (la H.out Hxl.out Hyl.out Hxy.out _ HSr.out.lays).mono ?_
              rintro e wn ⟨rfl, hB⟩
              have HSn := Lib.hid (HSr.out.step hB)
              clear hB c0 c1
              obtain ⟨c0, c1⟩ := HSn.out.cells
              go_wp2_with fail
              refine (alive_any _ HSn.out.lays).mono ?_
              rintro e wm ⟨rfl, hB⟩
              have HSm := Lib.hid (HSn.out.step hB)
              clear hB c0 c1
              go_wp2_with fail
              go_ret
              exact ⟨rfl, HSm.out.bel⟩
            · exfalso; omega
        · have hkP : k = P := by omega
          have ht0 : t = 0 := by rw [HT.out, hkP]; exact H.out.nsum_p ha
          have hP1 : P ≤ 100 := by omega
          subst ht0
          clear hkP
          go_wp2_with fail
          refine (la H.out Hxl.out Hyl.out Hxy.out _ HSr.out.lays).mono ?_
          rintro e wn ⟨rfl, hB⟩
          have HSn := Lib.hid (HSr.out.step hB)
          clear hB c0 c1
          obtain ⟨c0, c1⟩ := HSn.out.cells
          go_wp2_with fail
          refine (alive_any _ HSn.out.lays).mono ?_
          rintro e wm ⟨rfl, hB⟩
          have HSm := Lib.hid (HSn.out.step hB)
          clear hB c0 c1
          go_wp2_with fail
          go_ret
          exact ⟨rfl, HSm.out.bel⟩
theorem fieldFermat_any (P M a b : Int) (w : World) (hL : Lays w) :
    Calls Tryd.prog 8 #[.agg #[.int .i64 P, .int .i64 M], .int .i64 a, .int .i64 b] w fun e w' => e = .returned (.bool true) ∧ Below w.heap.size w w' := by
  by_cases h : OkF P M
  · obtain ⟨P', M', q, rfl, rfl, hf⟩ := h.fld
    by_cases hin : InQ q a ∧ InQ q b
    · obtain ⟨a', rfl, ha⟩ := inq_nat hin.1
      obtain ⟨b', rfl, hb⟩ := inq_nat hin.2
      exact ff_ok P' M' q hf a' b' ha hb w hL
    · exact ff_not P' M' q hf a b hin w hL
  · exact ff_form P M a b h w hL
end Go.Proofs.YtfkeemhbehhclaaDoor
