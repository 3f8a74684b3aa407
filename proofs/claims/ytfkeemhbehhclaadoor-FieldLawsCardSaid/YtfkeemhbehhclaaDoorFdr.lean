/-
  Valid, Order and Modulus of package field return what the reference asks for: the law FieldValid's walk.
-/
import Derived.Test.YtfkeemhbehhclaaDoorFdq
namespace Go.Proofs.YtfkeemhbehhclaaDoor
open Go.RowKit

def FAt (w : World) (g : Nat) (P M : Int) : Prop := w.cell? ⟨g, 0, none⟩ = some (.int .i64 P) ∧ w.cell? ⟨g, 1, none⟩ = some (.int .i64 M)
theorem FAt.below {w w' : World} {g : Nat} {P M : Int} (h : FAt w g P M) (hb : Below w.heap.size w w') : FAt w' g P M :=
  ⟨(hb.cell (World.block_lt_of_cell? w _ h.1)).trans h.1, (hb.cell (World.block_lt_of_cell? w _ h.2)).trans h.2⟩
theorem KitAt.low {w w' : World} {g P M q : Nat} (h : KitAt w g P M q) (hb : Below w.heap.size w w') : KitAt w' g P M q := h.below hb (World.block_lt_of_cell? w _ h.1)
theorem fAt_new (w : World) (P M : Int) : FAt (w.alloc (.cells #[.int .i64 P, .int .i64 M] 23)) w.heap.size P M := ⟨by simp, by simp⟩

set_option maxRecDepth 100000 in
set_option maxHeartbeats 1000000 in
theorem fv_no (P M : Int) (h : ¬ OkF P M) (w : World) (hL : Lays w) :
    Calls Tryd.prog 3 #[.agg #[.int .i64 P, .int .i64 M]] w fun e w' => e = .returned (.bool true) ∧ Below w.heap.size w w' := by
  have H := Lib.hid h
  clear h
  have HB0 := Lib.hid (below1 w (.cells #[.int .i64 P, .int .i64 M] 23))
  have HL0 := Lib.hid (hL.below HB0.out)
  have HF0 := Lib.hid (fAt_new w P M)
  obtain ⟨c0, c1⟩ := HF0.out
  clear hL
  go_enter Tryd.func3, Tryd.ntmps3
  go_wp2_with fail
  refine (ordR_no P M H.out _).mono ?_
  rintro e w1 ⟨rfl, hB⟩
  have HB1 := Lib.hid (HB0.out.trans (hB.mono HB0.out.size))
  have HL1 := Lib.hid (HL0.out.below hB)
  have HF1 := Lib.hid (HF0.out.below hB)
  clear c0 c1
  obtain ⟨c0, c1⟩ := HF1.out
  clear hB
  try unfold Ret2
  go_wp2_with fail
  refine (Modulus_form P M H.out _ HL1.out).mono ?_
  rintro e w2 ⟨rfl, hB⟩
  have HB2 := Lib.hid (HB1.out.trans (hB.mono HB1.out.size))
  have HL2 := Lib.hid (HL1.out.below hB)
  have HF2 := Lib.hid (HF1.out.below hB)
  clear c0 c1
  obtain ⟨c0, c1⟩ := HF2.out
  clear hB
  try unfold Ret2
  go_wp2_with fail
  refine (valid_no P M _ HL2.out H.out).mono ?_
  rintro e w3 ⟨rfl, hB⟩
  have HB3 := Lib.hid (HB2.out.trans (hB.mono HB2.out.size))
  have HL3 := Lib.hid (HL2.out.below hB)
  have HF3 := Lib.hid (HF2.out.below hB)
  clear c0 c1
  obtain ⟨c0, c1⟩ := HF3.out
  clear hB
  try unfold Ret2
  go_wp2_with fail
  refine (Order_form P M H.out _ HL3.out).mono ?_
  rintro e w4 ⟨rfl, hB⟩
  have HB4 := Lib.hid (HB3.out.trans (hB.mono HB3.out.size))
  have HL4 := Lib.hid (HL3.out.below hB)
  have HF4 := Lib.hid (HF3.out.below hB)
  clear c0 c1
  obtain ⟨c0, c1⟩ := HF4.out
  clear hB
  try unfold Ret2
  go_wp2_with fail
  refine (is_err 1 (by omega) _ _).mono ?_
  rintro e wq ⟨rfl, rfl⟩
  go_wp2_with fail
  refine (alive_any _ HL4.out).mono ?_
  rintro e w5 ⟨rfl, hB⟩
  have HB5 := Lib.hid (HB4.out.trans (hB.mono HB4.out.size))
  have HL5 := Lib.hid (HL4.out.below hB)
  have HF5 := Lib.hid (HF4.out.below hB)
  clear c0 c1
  obtain ⟨c0, c1⟩ := HF5.out
  clear hB
  try unfold Ret2
  go_wp2_with fail
  go_ret
  exact ⟨rfl, HB5.out⟩
set_option maxRecDepth 100000 in
set_option maxHeartbeats 1000000 in
theorem fv_one (P q : Nat) (h : Fld P 1 q) (w : World) (hL : Lays w) :
    Calls Tryd.prog 3 #[.agg #[.int .i64 (P : Int), .int .i64 1]] w fun e w' => e = .returned (.bool true) ∧ Below w.heap.size w w' := by
  have H := Lib.hid h
  have hq2 := h.q_ge
  clear h
  have HB0 := Lib.hid (below1 w (.cells #[.int .i64 (P : Int), .int .i64 1] 23))
  have HL0 := Lib.hid (hL.below HB0.out)
  have HF0 := Lib.hid (fAt_new w (P : Int) 1)
  obtain ⟨c0, c1⟩ := HF0.out
  clear hL
  go_enter Tryd.func3, Tryd.ntmps3
  go_wp2_with fail
  refine (ordR_ok P 1 q H.out _).mono ?_
  rintro e w1 ⟨rfl, hB⟩
  have HB1 := Lib.hid (HB0.out.trans (hB.mono HB0.out.size))
  have HL1 := Lib.hid (HL0.out.below hB)
  have HF1 := Lib.hid (HF0.out.below hB)
  clear c0 c1
  obtain ⟨c0, c1⟩ := HF1.out
  clear hB
  try unfold Ret2
  go_wp2_with fail
  refine (Modulus_one P H.out.ok _ HL1.out).mono ?_
  rintro e w2 ⟨rfl, hB⟩
  have HB2 := Lib.hid (HB1.out.trans (hB.mono HB1.out.size))
  have HL2 := Lib.hid (HL1.out.below hB)
  have HF2 := Lib.hid (HF1.out.below hB)
  clear c0 c1
  obtain ⟨c0, c1⟩ := HF2.out
  clear hB
  try unfold Ret2
  go_wp2_with fail
  refine (valid_yes P 1 _ HL2.out H.out.ok).mono ?_
  rintro e w3 ⟨rfl, hB⟩
  have HB3 := Lib.hid (HB2.out.trans (hB.mono HB2.out.size))
  have HL3 := Lib.hid (HL2.out.below hB)
  have HF3 := Lib.hid (HF2.out.below hB)
  clear c0 c1
  obtain ⟨c0, c1⟩ := HF3.out
  clear hB
  try unfold Ret2
  go_wp2_with fail
  refine (Order_ok P 1 q H.out _ HL3.out).mono ?_
  rintro e w4 ⟨rfl, hB⟩
  have HB4 := Lib.hid (HB3.out.trans (hB.mono HB3.out.size))
  have HL4 := Lib.hid (HL3.out.below hB)
  have HF4 := Lib.hid (HF3.out.below hB)
  clear c0 c1
  obtain ⟨c0, c1⟩ := HF4.out
  clear hB
  try unfold Ret2
  go_wp2_with fail
  refine (is_err 6 (by omega) _ _).mono ?_
  rintro e wq ⟨rfl, rfl⟩
  go_wp2_with fail
  refine (alive_any _ HL4.out).mono ?_
  rintro e w5 ⟨rfl, hB⟩
  have HB5 := Lib.hid (HB4.out.trans (hB.mono HB4.out.size))
  have HL5 := Lib.hid (HL4.out.below hB)
  have HF5 := Lib.hid (HF4.out.below hB)
  clear c0 c1
  obtain ⟨c0, c1⟩ := HF5.out
  clear hB
  try unfold Ret2
  go_wp2_with fail
  go_ret
  exact ⟨rfl, HB5.out⟩
set_option maxRecDepth 100000 in
set_option maxHeartbeats 1000000 in
theorem fv_more (M q : Nat) (hM : 2 ≤ M) (h : Fld 2 M q) (w : World) (hL : Lays w) :
    Calls Tryd.prog 3 #[.agg #[.int .i64 2, .int .i64 (M : Int)]] w fun e w' => e = .returned (.bool true) ∧ Below w.heap.size w w' := by
  have H := Lib.hid h
  have hq2 := h.q_ge
  clear h
  have HB0 := Lib.hid (below1 w (.cells #[.int .i64 2, .int .i64 (M : Int)] 23))
  have HL0 := Lib.hid (hL.below HB0.out)
  have HF0 := Lib.hid (fAt_new w 2 (M : Int))
  obtain ⟨c0, c1⟩ := HF0.out
  clear hL
  go_enter Tryd.func3, Tryd.ntmps3
  go_wp2_with fail
  refine (ordR_ok 2 M q H.out _).mono ?_
  rintro e w1 ⟨rfl, hB⟩
  have HB1 := Lib.hid (HB0.out.trans (hB.mono HB0.out.size))
  have HL1 := Lib.hid (HL0.out.below hB)
  have HF1 := Lib.hid (HF0.out.below hB)
  clear c0 c1
  obtain ⟨c0, c1⟩ := HF1.out
  clear hB
  try unfold Ret2
  go_wp2_with fail
  refine (modR_any M hM H.out.m_le _).mono ?_
  rintro e wq ⟨rfl, rfl⟩
  go_wp2_with fail
  refine (Modulus_ok M hM H.out.m_le _ HL1.out).mono ?_
  rintro e w2 ⟨rfl, hB⟩
  have HB2 := Lib.hid (HB1.out.trans (hB.mono HB1.out.size))
  have HL2 := Lib.hid (HL1.out.below hB)
  have HF2 := Lib.hid (HF1.out.below hB)
  clear c0 c1
  obtain ⟨c0, c1⟩ := HF2.out
  clear hB
  try unfold Ret2
  go_wp2_with fail
  refine (valid_yes 2 M _ HL2.out H.out.ok).mono ?_
  rintro e w3 ⟨rfl, hB⟩
  have HB3 := Lib.hid (HB2.out.trans (hB.mono HB2.out.size))
  have HL3 := Lib.hid (HL2.out.below hB)
  have HF3 := Lib.hid (HF2.out.below hB)
  clear c0 c1
  obtain ⟨c0, c1⟩ := HF3.out
  clear hB
  try unfold Ret2
  go_wp2_with fail
  refine (Order_ok 2 M q H.out _ HL3.out).mono ?_
  rintro e w4 ⟨rfl, hB⟩
  have HB4 := Lib.hid (HB3.out.trans (hB.mono HB3.out.size))
  have HL4 := Lib.hid (HL3.out.below hB)
  have HF4 := Lib.hid (HF3.out.below hB)
  clear c0 c1
  obtain ⟨c0, c1⟩ := HF4.out
  clear hB
  try unfold Ret2
  go_wp2_with fail
  refine (is_ok _ _ rfl _).mono ?_
  rintro e wq ⟨rfl, rfl⟩
  go_wp2_with fail
  refine (alive_any _ HL4.out).mono ?_
  rintro e w5 ⟨rfl, hB⟩
  have HB5 := Lib.hid (HB4.out.trans (hB.mono HB4.out.size))
  have HL5 := Lib.hid (HL4.out.below hB)
  have HF5 := Lib.hid (HF4.out.below hB)
  clear c0 c1
  obtain ⟨c0, c1⟩ := HF5.out
  clear hB
  try unfold Ret2
  go_wp2_with fail
  go_ret
  exact ⟨rfl, HB5.out⟩
theorem fieldValid_any (P M : Int) (w : World) (hL : Lays w) :
    Calls Tryd.prog 3 #[.agg #[.int .i64 P, .int .i64 M]] w fun e w' => e = .returned (.bool true) ∧ Below w.heap.size w w' := by
  by_cases h : OkF P M
  · obtain ⟨P', M', q, rfl, rfl, hf⟩ := h.fld
    by_cases hM : M' = 1
    · subst hM; exact fv_one P' q hf w hL
    · have hM2 : 2 ≤ M' := by have := hf.m_ge; omega
      obtain rfl := hf.p_two hM2
      exact fv_more M' q hM2 hf w hL
  · exact fv_no P M h w hL
end Go.Proofs.YtfkeemhbehhclaaDoor
