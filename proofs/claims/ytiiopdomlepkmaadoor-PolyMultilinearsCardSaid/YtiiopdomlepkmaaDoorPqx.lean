/-
  The walk of the law PolyValid.
-/
import Derived.Test.YtiiopdomlepkmaaDoorPqw
namespace Go.Proofs.YtiiopdomlepkmaaDoor
set_option linter.unusedVariables false
open Go.RowKit Go.Maps

theorem validPs_one {P M n : Int} {ts : List (Int × List Int)} (h : ValidPs P M n [ts]) : ∃ (P' M' q n' : Nat) (p : List Tm), P = P' ∧ M = M' ∧ n = n' ∧ Fld P' M' q ∧ n' ≤ 80 ∧ ts = tms p ∧ Ris q n' p ∧ (∀ t ∈ p, Ex n' t.2) ∧ p.length ≤ 20000 := by
  obtain ⟨P', M', q, n', rfl, rfl, rfl, hf, hn, h⟩ := h
  obtain ⟨hl, p, rfl, h1, h2⟩ := h ts (by simp)
  exact ⟨P', M', q, n', p, rfl, rfl, rfl, hf, hn, rfl, h1, h2, by simpa using hl⟩
theorem validPs_of {P M q n : Nat} {p : List Tm} (hf : Fld P M q) (hn : n ≤ 80) (h1 : Ris q n p) (h2 : ∀ t ∈ p, Ex n t.2) (hl : p.length ≤ 20000) : ValidPs P M n [tms p] :=
  ⟨P, M, q, n, rfl, rfl, rfl, hf, hn, fun x hx => by
    simp at hx
    subst hx
    exact ⟨by simpa using hl, p, rfl, h1, h2⟩⟩
theorem pvalR_no (P M n : Int) (v : Value) (ts : List (Int × List Int)) (w : World) (hv : PolyV w v ts) (h : ¬ ValidPs P M n [ts]) :
    Calls Tryd.prog 13 #[.agg #[.int .i64 P, .int .i64 M], .int .i64 n, v] w fun e w' => e = .returned (.bool false) ∧ Below w.heap.size w w' := by
  by_cases hb : n < 0 ∨ 80 < n ∨ 20000 < ts.length ∨ ¬ OkF P M
  · exact validR_bad P M n v ts w hv hb
  · have hOk : OkF P M := Classical.byContradiction fun h => hb (.inr (.inr (.inr h)))
    obtain ⟨P', M', q, rfl, rfl, hf⟩ := hOk.fld
    obtain ⟨n', rfl⟩ : ∃ n' : Nat, n = n' := ⟨n.toNat, by omega⟩
    refine (validR_fld P' M' q n' hf (by omega) v ts w hv (by omega)).mono ?_
    rintro e w' ⟨hB, ⟨h1, _⟩ | ⟨_, rfl⟩⟩
    · exact absurd ⟨P', M', q, n', rfl, rfl, rfl, hf, by omega, fun x hx => by simp at hx; subst hx; exact h1⟩ h
    · exact ⟨rfl, hB⟩
theorem pvalR_yes (P M q n : Nat) (hf : Fld P M q) (hn : n ≤ 80) (v : Value) (ts : List (Int × List Int)) (w : World) (hv : PolyV w v ts) (h : OkP q n ts) :
    Calls Tryd.prog 13 #[.agg #[.int .i64 (P : Int), .int .i64 (M : Int)], .int .i64 (n : Int), v] w fun e w' => e = .returned (.bool true) ∧ Below w.heap.size w w' := by
  refine (validR_fld P M q n hf hn v ts w hv h.1).mono ?_
  rintro e w' ⟨hB, ⟨_, rfl⟩ | ⟨h1, _⟩⟩
  · exact ⟨rfl, hB⟩
  · exact absurd h h1

/-- A world behind the law's first step: the field's box stands. -/
structure BoxS (w : World) (P M : Int) (W : World) : Prop where
  bel : Below w.heap.size w W
  c0 : W.cell? ⟨w.heap.size, 0, none⟩ = some (.int .i64 P)
  c1 : W.cell? ⟨w.heap.size, 1, none⟩ = some (.int .i64 M)
theorem BoxS.step {w W W' : World} {P M : Int} (h : BoxS w P M W) (hB : Below W.heap.size W W') : BoxS w P M W' :=
  ⟨h.bel.trans (hB.mono h.bel.size), (hB.cell (World.block_lt_of_cell? W _ h.c0)).trans h.c0, (hB.cell (World.block_lt_of_cell? W _ h.c1)).trans h.c1⟩
theorem BoxS.start (w : World) (P M : Int) : BoxS w P M (w.alloc (.cells #[.int .i64 P, .int .i64 M] 23)) :=
  ⟨below1 _ _, World.cell?_alloc_new _ _ _ 0, World.cell?_alloc_new _ _ _ 1⟩

set_option maxRecDepth 100000 in
set_option maxHeartbeats 4000000 in
theorem polyValid_any (P M n : Int) (hn0 : -9223372036854775808 ≤ n) (hn1 : n ≤ 9223372036854775807) (v : Value) (ts : List (Int × List Int)) (w : World) (hL : LayP w) (hv : PolyV w v ts) :
    Calls Tryd.prog 3 #[.agg #[.int .i64 P, .int .i64 M], .int .i64 n, v] w fun e w' => e = .returned (.bool true) ∧ Below w.heap.size w w' := by
  have HL := Lib.hid hL
  have HV := Lib.hid hv
  have HAL := Lib.hid (fun W (hW : BoxS w P M W) => alive_ok W (hL.below hW.bel))
  have HS0 := Lib.hid (BoxS.start w P M)
  have HB2 := Lib.hid (below1 (w.alloc (.cells #[.int .i64 P, .int .i64 M] 23)) (.cells #[v] 25))
  have HFEW := Lib.hid (few1_ok 3000 (by omega) (w.heap.size + 1) v ts ((w.alloc (.cells #[.int .i64 P, .int .i64 M] 23)).alloc (.cells #[v] 25)) (snd_cell _ _ _ _ _) (hv.below (below2 _ _ _)))
  have HS1 := Lib.hid (HS0.out.step HB2.out)
  obtain ⟨VA, VC, rfl, -, -⟩ := hv
  by_cases hval : ValidPs P M n [ts]
  · obtain ⟨P, M, q, n, p, rfl, rfl, rfl, hf, hn, rfl, hp, hx, hlen⟩ := validPs_one hval
    have hR := (show RdP w VA (tms p) from by
      obtain ⟨A', c', e, h1, _⟩ := HV.out
      simp only [Value.slice.injEq] at e
      rw [e.1]; exact h1)
    have htl : (tms p).length = p.length := by simp
    rw [htl] at HV HFEW HS1 HB2
    rw [htl]
    have hok : OkP q n (tms p) := ⟨by simpa using hlen, p, rfl, hp, hx⟩
    have hq := hf.q_le
    have hco : ∀ t ∈ p, t.1 ≤ 65536 := fun t ht => by have := (hp.co t ht).2; omega
    have HD := Lib.hid (fun W (hW : BoxS w P M W) => Degree_ok P M q n hf hn VA VC p W (hL.below hW.bel).lays (hR.below hW.bel) hp hx hlen)
    have HT := Lib.hid (fun W (hW : BoxS w P M W) => Text_ok P M q n hf hn VA VC p W (hL.below hW.bel) (hR.below hW.bel) hp hx hlen)
    have HR := Lib.hid (fun W (hW : BoxS w P M W) => pvalR_yes P M q n hf hn _ (tms p) W (HV.out.below hW.bel) hok)
    have HW := Lib.hid (fun W (hW : BoxS w P M W) => PValid_yes P M q n hf hn _ (tms p) W (hL.below hW.bel).lays (HV.out.below hW.bel) hok)
    have HTR := Lib.hid (fun W (hW : BoxS w P M W) => textR_ok n hn VA VC p W (hL.below hW.bel) (hR.below hW.bel) hx hco hlen)
    have HDR := Lib.hid (fun W (hW : BoxS w P M W) => degreeR_ok n hn VA VC p W (hR.below hW.bel) hx hlen)
    have htxl : (ByteArray.size ⟨(textP p).toArray⟩ : Nat) = (textP p).length := by simp [ByteArray.size]
    generalize p.length = tl at *
    generalize degP p = dp at *
    clear hL hval hn0 hn1 hok hR hp hx hco htl hlen
    go_enter Tryd.func3, Tryd.ntmps3
    go_wp2_with fail
    refine HFEW.out.mono ?_
    rintro e w1 ⟨⟨b, rfl, -⟩, hB1⟩
    have hs1 := HS1.out.step hB1
    clear hB1 HS1 HFEW HB2 HS0
    cases b
    · have HS2 := Lib.hid hs1
      clear hs1
      go_wp2_with fail
      refine (HAL.out _ HS2.out).mono ?_
      rintro e w2 ⟨rfl, hB2⟩
      have HS3 := Lib.hid (HS2.out.step hB2)
      go_wp2_with fail
      go_ret
      exact ⟨rfl, HS3.out.bel⟩
    · have HS2 := Lib.hid hs1
      have c0 := hs1.c0
      have c1 := hs1.c1
      clear hs1
      go_wp2_with fail
      refine (HD.out _ HS2.out).mono ?_
      rintro e w2 ⟨rfl, hB2⟩
      have hs := HS2.out.step hB2
      have HS3 := Lib.hid hs
      have c0 := hs.c0
      have c1 := hs.c1
      clear hB2 hs HS2
      go_wp2_with fail
      refine (HT.out _ HS3.out).mono ?_
      rintro e w3 ⟨hB2, hcase⟩
      have hs := HS3.out.step hB2
      have HS4 := Lib.hid hs
      have c0 := hs.c0
      have c1 := hs.c1
      clear hB2 hs HS3
      rcases hcase with ⟨hsz, rfl⟩ | ⟨hsz, rfl⟩
      · go_wp2_with fail
        refine (HR.out _ HS4.out).mono ?_
        rintro e w4 ⟨rfl, hB2⟩
        have HS5 := Lib.hid (HS4.out.step hB2)
        clear hB2 HS4
        go_wp2_with fail
        refine (HTR.out _ HS5.out).mono ?_
        rintro e w5 ⟨rfl, hB2⟩
        have hs := HS5.out.step hB2
        have HS6 := Lib.hid hs
        have c0 := hs.c0
        have c1 := hs.c1
        clear hB2 hs HS5
        go_wp2_with fail
        refine (HW.out _ HS6.out).mono ?_
        rintro e w6 ⟨rfl, hB2⟩
        have HS7 := Lib.hid (HS6.out.step hB2)
        clear hB2 HS6
        go_wp2_with fail
        refine (HDR.out _ HS7.out).mono ?_
        rintro e w7 ⟨rfl, hB2⟩
        have HS8 := Lib.hid (HS7.out.step hB2)
        clear hB2 HS7
        go_wp2_with fail
        refine (number_ok _ _).mono ?_
        rintro e w8 ⟨rfl, rfl⟩
        go_wp2_with fail
        refine (HAL.out _ HS8.out).mono ?_
        rintro e w9 ⟨rfl, hB2⟩
        have HS9 := Lib.hid (HS8.out.step hB2)
        go_wp2_with fail
        go_ret
        exact ⟨rfl, HS9.out.bel⟩
      · go_wp2_with fail
        refine (HR.out _ HS4.out).mono ?_
        rintro e w4 ⟨rfl, hB2⟩
        have HS5 := Lib.hid (HS4.out.step hB2)
        clear hB2 HS4
        go_wp2_with fail
        refine (HTR.out _ HS5.out).mono ?_
        rintro e w5 ⟨rfl, hB2⟩
        have hs := HS5.out.step hB2
        have HS6 := Lib.hid hs
        have c0 := hs.c0
        have c1 := hs.c1
        clear hB2 hs HS5
        go_wp2_with fail
        refine (HW.out _ HS6.out).mono ?_
        rintro e w6 ⟨rfl, hB2⟩
        have HS7 := Lib.hid (HS6.out.step hB2)
        clear hB2 HS6
        go_wp2_with fail
        refine (HDR.out _ HS7.out).mono ?_
        rintro e w7 ⟨rfl, hB2⟩
        have HS8 := Lib.hid (HS7.out.step hB2)
        clear hB2 HS7
        go_wp2_with fail
        refine (number_ok _ _).mono ?_
        rintro e w8 ⟨rfl, rfl⟩
        go_wp2_with fail
        refine (HAL.out _ HS8.out).mono ?_
        rintro e w9 ⟨rfl, hB2⟩
        have HS9 := Lib.hid (HS8.out.step hB2)
        go_wp2_with fail
        go_ret
        exact ⟨rfl, HS9.out.bel⟩
  · have HD := Lib.hid (fun W (hW : BoxS w P M W) => Degree_no P M n hn0 hn1 _ ts W (hL.below hW.bel).lays (HV.out.below hW.bel) hval)
    have HT := Lib.hid (fun W (hW : BoxS w P M W) => Text_no P M n hn0 hn1 _ ts W (hL.below hW.bel).lays (HV.out.below hW.bel) hval)
    have HR := Lib.hid (fun W (hW : BoxS w P M W) => pvalR_no P M n _ ts W (HV.out.below hW.bel) hval)
    have HW := Lib.hid (fun W (hW : BoxS w P M W) => PValid_no P M n hn0 hn1 _ ts W (hL.below hW.bel).lays (HV.out.below hW.bel) hval)
    generalize ts.length = tl at *
    clear hL hval hn0 hn1
    go_enter Tryd.func3, Tryd.ntmps3
    go_wp2_with fail
    refine HFEW.out.mono ?_
    rintro e w1 ⟨⟨b, rfl, -⟩, hB1⟩
    have hs1 := HS1.out.step hB1
    clear hB1 HS1 HFEW HB2 HS0
    cases b
    · have HS2 := Lib.hid hs1
      clear hs1
      go_wp2_with fail
      refine (HAL.out _ HS2.out).mono ?_
      rintro e w2 ⟨rfl, hB2⟩
      have HS3 := Lib.hid (HS2.out.step hB2)
      go_wp2_with fail
      go_ret
      exact ⟨rfl, HS3.out.bel⟩
    · have HS2 := Lib.hid hs1
      have c0 := hs1.c0
      have c1 := hs1.c1
      clear hs1
      go_wp2_with fail
      refine (HD.out _ HS2.out).mono ?_
      rintro e w2 ⟨rfl, hB2⟩
      have hs := HS2.out.step hB2
      have HS3 := Lib.hid hs
      have c0 := hs.c0
      have c1 := hs.c1
      clear hB2 hs HS2
      go_wp2_with fail
      refine (HT.out _ HS3.out).mono ?_
      rintro e w3 ⟨rfl, hB2⟩
      have hs := HS3.out.step hB2
      have HS4 := Lib.hid hs
      have c0 := hs.c0
      have c1 := hs.c1
      clear hB2 hs HS3
      go_wp2_with fail
      refine (HR.out _ HS4.out).mono ?_
      rintro e w4 ⟨rfl, hB2⟩
      have hs := HS4.out.step hB2
      have HS5 := Lib.hid hs
      have c0 := hs.c0
      have c1 := hs.c1
      clear hB2 hs HS4
      go_wp2_with fail
      refine (HW.out _ HS5.out).mono ?_
      rintro e w5 ⟨rfl, hB2⟩
      have hs := HS5.out.step hB2
      have HS6 := Lib.hid hs
      have c0 := hs.c0
      have c1 := hs.c1
      clear hB2 hs HS5
      go_wp2_with fail
      refine (number_bad _).mono ?_
      rintro e w6 ⟨rfl, rfl⟩
      go_wp2_with fail
      refine (HAL.out _ HS6.out).mono ?_
      rintro e w7 ⟨rfl, hB2⟩
      have HS7 := Lib.hid (HS6.out.step hB2)
      go_wp2_with fail
      go_ret
      exact ⟨rfl, HS7.out.bel⟩
end Go.Proofs.YtiiopdomlepkmaaDoor
