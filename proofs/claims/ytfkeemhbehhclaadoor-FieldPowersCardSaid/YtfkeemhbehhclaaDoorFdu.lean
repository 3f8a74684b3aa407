/-
  Inverse and Power of package field return what the reference asks for: the law FieldPowers's walk.
-/
import Derived.Test.YtfkeemhbehhclaaDoorFdr
namespace Go.Proofs.YtfkeemhbehhclaaDoor
open Go.RowKit

set_option maxRecDepth 100000 in
set_option maxHeartbeats 2000000 in
theorem fp_no (P M a n : Int) (h : ¬ OkF P M) (w : World) (hL : Lays w) :
    Calls Tryd.prog 5 #[.agg #[.int .i64 P, .int .i64 M], .int .i64 a, .int .i64 n] w fun e w' => e = .returned (.bool true) ∧ Below w.heap.size w w' := by
  have H := Lib.hid h
  clear h
  have HB0 := Lib.hid (below1 w (.cells #[.int .i64 P, .int .i64 M] 23))
  have HL0 := Lib.hid (hL.below HB0.out)
  have HF0 := Lib.hid (fAt_new w P M)
  obtain ⟨c0, c1⟩ := HF0.out
  clear hL
  go_enter Tryd.func5, Tryd.ntmps5
  go_wp2_with fail
  refine (Inverse_form P M a H.out _ HL0.out).mono ?_
  rintro e w1 ⟨rfl, hB⟩
  have HB1 := Lib.hid (HB0.out.trans (hB.mono HB0.out.size))
  have HL1 := Lib.hid (HL0.out.below hB)
  have HF1 := Lib.hid (HF0.out.below hB)
  clear c0 c1
  obtain ⟨c0, c1⟩ := HF1.out
  clear hB
  try unfold Ret2
  go_wp2_with fail
  refine (Power_form P M a n H.out _ HL1.out).mono ?_
  rintro e w2 ⟨rfl, hB⟩
  have HB2 := Lib.hid (HB1.out.trans (hB.mono HB1.out.size))
  have HL2 := Lib.hid (HL1.out.below hB)
  have HF2 := Lib.hid (HF1.out.below hB)
  clear c0 c1
  obtain ⟨c0, c1⟩ := HF2.out
  clear hB
  try unfold Ret2
  go_wp2_with fail
  refine (validR_no P M H.out _).mono ?_
  rintro e w3 ⟨rfl, hB⟩
  have HB3 := Lib.hid (HB2.out.trans (hB.mono HB2.out.size))
  have HL3 := Lib.hid (HL2.out.below hB)
  have HF3 := Lib.hid (HF2.out.below hB)
  clear c0 c1
  obtain ⟨c0, c1⟩ := HF3.out
  clear hB
  try unfold Ret2
  go_wp2_with fail
  refine (is_err 1 (by omega) _ _).mono ?_
  rintro e wq ⟨rfl, rfl⟩
  go_wp2_with fail
  refine (is_err 1 (by omega) _ _).mono ?_
  rintro e wq ⟨rfl, rfl⟩
  go_wp2_with fail
  refine (alive_any _ HL3.out).mono ?_
  rintro e w4 ⟨rfl, hB⟩
  have HB4 := Lib.hid (HB3.out.trans (hB.mono HB3.out.size))
  have HL4 := Lib.hid (HL3.out.below hB)
  have HF4 := Lib.hid (HF3.out.below hB)
  clear c0 c1
  obtain ⟨c0, c1⟩ := HF4.out
  clear hB
  try unfold Ret2
  go_wp2_with fail
  go_ret
  exact ⟨rfl, HB4.out⟩
set_option maxRecDepth 100000 in
set_option maxHeartbeats 2000000 in
theorem fp_arg (P M q : Nat) (h : Fld P M q) (a n : Int) (ha : ¬ InQ q a) (w : World) (hL : Lays w) :
    Calls Tryd.prog 5 #[.agg #[.int .i64 (P : Int), .int .i64 (M : Int)], .int .i64 a, .int .i64 n] w fun e w' => e = .returned (.bool true) ∧ Below w.heap.size w w' := by
  have H := Lib.hid h
  have HA := Lib.hid ha
  clear h ha
  have HB0 := Lib.hid (below1 w (.cells #[.int .i64 (P : Int), .int .i64 (M : Int)] 23))
  have HL0 := Lib.hid (hL.below HB0.out)
  have HF0 := Lib.hid (fAt_new w (P : Int) (M : Int))
  obtain ⟨c0, c1⟩ := HF0.out
  clear hL
  go_enter Tryd.func5, Tryd.ntmps5
  go_wp2_with fail
  refine (Inverse_arg P M q H.out a HA.out _ HL0.out).mono ?_
  rintro e w1 ⟨rfl, hB⟩
  have HB1 := Lib.hid (HB0.out.trans (hB.mono HB0.out.size))
  have HL1 := Lib.hid (HL0.out.below hB)
  have HF1 := Lib.hid (HF0.out.below hB)
  clear c0 c1
  obtain ⟨c0, c1⟩ := HF1.out
  clear hB
  try unfold Ret2
  go_wp2_with fail
  refine (Power_arg P M q H.out a n HA.out _ HL1.out).mono ?_
  rintro e w2 ⟨rfl, hB⟩
  have HB2 := Lib.hid (HB1.out.trans (hB.mono HB1.out.size))
  have HL2 := Lib.hid (HL1.out.below hB)
  have HF2 := Lib.hid (HF1.out.below hB)
  clear c0 c1
  obtain ⟨c0, c1⟩ := HF2.out
  clear hB
  try unfold Ret2
  go_wp2_with fail
  refine (validR_ok P M q H.out _).mono ?_
  rintro e w3 ⟨rfl, hB⟩
  have HB3 := Lib.hid (HB2.out.trans (hB.mono HB2.out.size))
  have HL3 := Lib.hid (HL2.out.below hB)
  have HF3 := Lib.hid (HF2.out.below hB)
  clear c0 c1
  obtain ⟨c0, c1⟩ := HF3.out
  clear hB
  try unfold Ret2
  go_wp2_with fail
  refine (of_any P M q H.out _).mono ?_
  rintro e w4 ⟨rfl, hB⟩
  have HB4 := Lib.hid (HB3.out.trans (hB.mono HB3.out.size))
  have HL4 := Lib.hid (HL3.out.below hB)
  have HF4 := Lib.hid (HF3.out.below hB)
  clear c0 c1
  obtain ⟨c0, c1⟩ := HF4.out
  clear hB
  try unfold Ret2
  have hbx := below1 w4 (kitBox P M q)
  have HK5 := Lib.hid (kitAt_new w4 P M q)
  have HB5 := Lib.hid (HB4.out.trans (hbx.mono HB4.out.size))
  have HL5 := Lib.hid (HL4.out.below hbx)
  have HF5 := Lib.hid (HF4.out.below hbx)
  clear hbx c0 c1
  unfold kitBox at HK5 HB5 HL5 HF5
  unfold kitV
  obtain ⟨c0, c1⟩ := HF5.out
  obtain ⟨k0, k1, k2, k3⟩ := HK5.out
  go_wp2_with fail
  refine (kitIs_no P M q a HA.out _).mono ?_
  rintro e w6 ⟨rfl, hB⟩
  have HB6 := Lib.hid (HB5.out.trans (hB.mono HB5.out.size))
  have HL6 := Lib.hid (HL5.out.below hB)
  have HF6 := Lib.hid (HF5.out.below hB)
  clear c0 c1
  obtain ⟨c0, c1⟩ := HF6.out
  have HK6 := Lib.hid (HK5.out.low hB)
  clear k0 k1 k2 k3
  obtain ⟨k0, k1, k2, k3⟩ := HK6.out
  clear hB
  try unfold Ret2
  go_wp2_with fail
  refine (is_err 2 (by omega) _ _).mono ?_
  rintro e wq ⟨rfl, rfl⟩
  go_wp2_with fail
  refine (is_err 2 (by omega) _ _).mono ?_
  rintro e wq ⟨rfl, rfl⟩
  go_wp2_with fail
  refine (alive_any _ HL6.out).mono ?_
  rintro e w7 ⟨rfl, hB⟩
  have HB7 := Lib.hid (HB6.out.trans (hB.mono HB6.out.size))
  have HL7 := Lib.hid (HL6.out.below hB)
  have HF7 := Lib.hid (HF6.out.below hB)
  clear c0 c1
  obtain ⟨c0, c1⟩ := HF7.out
  clear hB
  try unfold Ret2
  go_wp2_with fail
  go_ret
  exact ⟨rfl, HB7.out⟩
set_option maxRecDepth 100000 in
set_option maxHeartbeats 2000000 in
theorem fp_zn (P M q : Nat) (h : Fld P M q)  (n : Int) (hn : n < 0) (w : World) (hL : Lays w) :
    Calls Tryd.prog 5 #[.agg #[.int .i64 (P : Int), .int .i64 (M : Int)], .int .i64 0, .int .i64 n] w fun e w' => e = .returned (.bool true) ∧ Below w.heap.size w w' := by
  have H := Lib.hid h
  have ha : 0 < q := by have := h.q_ge; omega
  clear h
  have HB0 := Lib.hid (below1 w (.cells #[.int .i64 (P : Int), .int .i64 (M : Int)] 23))
  have HL0 := Lib.hid (hL.below HB0.out)
  have HF0 := Lib.hid (fAt_new w (P : Int) (M : Int))
  obtain ⟨c0, c1⟩ := HF0.out
  clear hL
  go_enter Tryd.func5, Tryd.ntmps5
  go_wp2_with fail
  refine (Inverse_zero P M q H.out _ HL0.out).mono ?_
  rintro e w1 ⟨rfl, hB⟩
  have HB1 := Lib.hid (HB0.out.trans (hB.mono HB0.out.size))
  have HL1 := Lib.hid (HL0.out.below hB)
  have HF1 := Lib.hid (HF0.out.below hB)
  clear c0 c1
  obtain ⟨c0, c1⟩ := HF1.out
  clear hB
  try unfold Ret2
  go_wp2_with fail
  refine (Power_neg P M q H.out 0 n ha hn _ HL1.out).mono ?_
  rintro e w2 ⟨rfl, hB⟩
  have HB2 := Lib.hid (HB1.out.trans (hB.mono HB1.out.size))
  have HL2 := Lib.hid (HL1.out.below hB)
  have HF2 := Lib.hid (HF1.out.below hB)
  clear c0 c1
  obtain ⟨c0, c1⟩ := HF2.out
  clear hB
  try unfold Ret2
  go_wp2_with fail
  refine (validR_ok P M q H.out _).mono ?_
  rintro e w3 ⟨rfl, hB⟩
  have HB3 := Lib.hid (HB2.out.trans (hB.mono HB2.out.size))
  have HL3 := Lib.hid (HL2.out.below hB)
  have HF3 := Lib.hid (HF2.out.below hB)
  clear c0 c1
  obtain ⟨c0, c1⟩ := HF3.out
  clear hB
  try unfold Ret2
  go_wp2_with fail
  refine (of_any P M q H.out _).mono ?_
  rintro e w4 ⟨rfl, hB⟩
  have HB4 := Lib.hid (HB3.out.trans (hB.mono HB3.out.size))
  have HL4 := Lib.hid (HL3.out.below hB)
  have HF4 := Lib.hid (HF3.out.below hB)
  clear c0 c1
  obtain ⟨c0, c1⟩ := HF4.out
  clear hB
  try unfold Ret2
  have hbx := below1 w4 (kitBox P M q)
  have HK5 := Lib.hid (kitAt_new w4 P M q)
  have HB5 := Lib.hid (HB4.out.trans (hbx.mono HB4.out.size))
  have HL5 := Lib.hid (HL4.out.below hbx)
  have HF5 := Lib.hid (HF4.out.below hbx)
  clear hbx c0 c1
  unfold kitBox at HK5 HB5 HL5 HF5
  unfold kitV
  obtain ⟨c0, c1⟩ := HF5.out
  obtain ⟨k0, k1, k2, k3⟩ := HK5.out
  go_wp2_with fail
  refine (kitIs_yes P M q 0 (inq_of ha) _).mono ?_
  rintro e w6 ⟨rfl, hB⟩
  have HB6 := Lib.hid (HB5.out.trans (hB.mono HB5.out.size))
  have HL6 := Lib.hid (HL5.out.below hB)
  have HF6 := Lib.hid (HF5.out.below hB)
  clear c0 c1
  obtain ⟨c0, c1⟩ := HF6.out
  have HK6 := Lib.hid (HK5.out.low hB)
  clear k0 k1 k2 k3
  obtain ⟨k0, k1, k2, k3⟩ := HK6.out
  clear hB
  try unfold Ret2
  go_wp2_with fail
  refine (kitInverse P M q 0 H.out ha _).mono ?_
  rintro e w7 ⟨rfl, hB⟩
  have HB7 := Lib.hid (HB6.out.trans (hB.mono HB6.out.size))
  have HL7 := Lib.hid (HL6.out.below hB)
  have HF7 := Lib.hid (HF6.out.below hB)
  clear c0 c1
  obtain ⟨c0, c1⟩ := HF7.out
  have HK7 := Lib.hid (HK6.out.low hB)
  clear k0 k1 k2 k3
  obtain ⟨k0, k1, k2, k3⟩ := HK7.out
  clear hB
  try unfold Ret2
  go_wp2_with fail
  refine (is_err 6 (by omega) _ _).mono ?_
  rintro e wq ⟨rfl, rfl⟩
  go_wp2_with fail
  refine (is_err 2 (by omega) _ _).mono ?_
  rintro e wq ⟨rfl, rfl⟩
  go_wp2_with fail
  refine (alive_any _ HL7.out).mono ?_
  rintro e w8 ⟨rfl, hB⟩
  have HB8 := Lib.hid (HB7.out.trans (hB.mono HB7.out.size))
  have HL8 := Lib.hid (HL7.out.below hB)
  have HF8 := Lib.hid (HF7.out.below hB)
  clear c0 c1
  obtain ⟨c0, c1⟩ := HF8.out
  clear hB
  try unfold Ret2
  go_wp2_with fail
  go_ret
  exact ⟨rfl, HB8.out⟩
set_option maxRecDepth 100000 in
set_option maxHeartbeats 2000000 in
theorem fp_zk (P M q : Nat) (h : Fld P M q)  (n : Nat) (hn : n < 9223372036854775808) (w : World) (hL : Lays w) :
    Calls Tryd.prog 5 #[.agg #[.int .i64 (P : Int), .int .i64 (M : Int)], .int .i64 0, .int .i64 n] w fun e w' => e = .returned (.bool true) ∧ Below w.heap.size w w' := by
  have H := Lib.hid h
  have ha : 0 < q := by have := h.q_ge; omega
  clear h
  have HB0 := Lib.hid (below1 w (.cells #[.int .i64 (P : Int), .int .i64 (M : Int)] 23))
  have HL0 := Lib.hid (hL.below HB0.out)
  have HF0 := Lib.hid (fAt_new w (P : Int) (M : Int))
  obtain ⟨c0, c1⟩ := HF0.out
  clear hL
  go_enter Tryd.func5, Tryd.ntmps5
  go_wp2_with fail
  refine (Inverse_zero P M q H.out _ HL0.out).mono ?_
  rintro e w1 ⟨rfl, hB⟩
  have HB1 := Lib.hid (HB0.out.trans (hB.mono HB0.out.size))
  have HL1 := Lib.hid (HL0.out.below hB)
  have HF1 := Lib.hid (HF0.out.below hB)
  clear c0 c1
  obtain ⟨c0, c1⟩ := HF1.out
  clear hB
  try unfold Ret2
  go_wp2_with fail
  refine (Power_ok P M q H.out 0 n ha hn _ HL1.out).mono ?_
  rintro e w2 ⟨rfl, hB⟩
  have HB2 := Lib.hid (HB1.out.trans (hB.mono HB1.out.size))
  have HL2 := Lib.hid (HL1.out.below hB)
  have HF2 := Lib.hid (HF1.out.below hB)
  clear c0 c1
  obtain ⟨c0, c1⟩ := HF2.out
  clear hB
  try unfold Ret2
  go_wp2_with fail
  refine (validR_ok P M q H.out _).mono ?_
  rintro e w3 ⟨rfl, hB⟩
  have HB3 := Lib.hid (HB2.out.trans (hB.mono HB2.out.size))
  have HL3 := Lib.hid (HL2.out.below hB)
  have HF3 := Lib.hid (HF2.out.below hB)
  clear c0 c1
  obtain ⟨c0, c1⟩ := HF3.out
  clear hB
  try unfold Ret2
  go_wp2_with fail
  refine (of_any P M q H.out _).mono ?_
  rintro e w4 ⟨rfl, hB⟩
  have HB4 := Lib.hid (HB3.out.trans (hB.mono HB3.out.size))
  have HL4 := Lib.hid (HL3.out.below hB)
  have HF4 := Lib.hid (HF3.out.below hB)
  clear c0 c1
  obtain ⟨c0, c1⟩ := HF4.out
  clear hB
  try unfold Ret2
  have hbx := below1 w4 (kitBox P M q)
  have HK5 := Lib.hid (kitAt_new w4 P M q)
  have HB5 := Lib.hid (HB4.out.trans (hbx.mono HB4.out.size))
  have HL5 := Lib.hid (HL4.out.below hbx)
  have HF5 := Lib.hid (HF4.out.below hbx)
  clear hbx c0 c1
  unfold kitBox at HK5 HB5 HL5 HF5
  unfold kitV
  obtain ⟨c0, c1⟩ := HF5.out
  obtain ⟨k0, k1, k2, k3⟩ := HK5.out
  go_wp2_with fail
  refine (kitIs_yes P M q 0 (inq_of ha) _).mono ?_
  rintro e w6 ⟨rfl, hB⟩
  have HB6 := Lib.hid (HB5.out.trans (hB.mono HB5.out.size))
  have HL6 := Lib.hid (HL5.out.below hB)
  have HF6 := Lib.hid (HF5.out.below hB)
  clear c0 c1
  obtain ⟨c0, c1⟩ := HF6.out
  have HK6 := Lib.hid (HK5.out.low hB)
  clear k0 k1 k2 k3
  obtain ⟨k0, k1, k2, k3⟩ := HK6.out
  clear hB
  try unfold Ret2
  go_wp2_with fail
  refine (kitInverse P M q 0 H.out ha _).mono ?_
  rintro e w7 ⟨rfl, hB⟩
  have HB7 := Lib.hid (HB6.out.trans (hB.mono HB6.out.size))
  have HL7 := Lib.hid (HL6.out.below hB)
  have HF7 := Lib.hid (HF6.out.below hB)
  clear c0 c1
  obtain ⟨c0, c1⟩ := HF7.out
  have HK7 := Lib.hid (HK6.out.low hB)
  clear k0 k1 k2 k3
  obtain ⟨k0, k1, k2, k3⟩ := HK7.out
  clear hB
  try unfold Ret2
  go_wp2_with fail
  refine (is_err 6 (by omega) _ _).mono ?_
  rintro e wq ⟨rfl, rfl⟩
  go_wp2_with fail
  refine (kitPower P M q 0 n H.out ha hn _).mono ?_
  rintro e w8 ⟨rfl, hB⟩
  have HB8 := Lib.hid (HB7.out.trans (hB.mono HB7.out.size))
  have HL8 := Lib.hid (HL7.out.below hB)
  have HF8 := Lib.hid (HF7.out.below hB)
  clear c0 c1
  obtain ⟨c0, c1⟩ := HF8.out
  have HK8 := Lib.hid (HK7.out.low hB)
  clear k0 k1 k2 k3
  obtain ⟨k0, k1, k2, k3⟩ := HK8.out
  clear hB
  try unfold Ret2
  go_wp2_with fail
  refine (is_ok _ _ rfl _).mono ?_
  rintro e wq ⟨rfl, rfl⟩
  go_wp2_with fail
  refine (alive_any _ HL8.out).mono ?_
  rintro e w9 ⟨rfl, hB⟩
  have HB9 := Lib.hid (HB8.out.trans (hB.mono HB8.out.size))
  have HL9 := Lib.hid (HL8.out.below hB)
  have HF9 := Lib.hid (HF8.out.below hB)
  clear c0 c1
  obtain ⟨c0, c1⟩ := HF9.out
  clear hB
  try unfold Ret2
  go_wp2_with fail
  go_ret
  exact ⟨rfl, HB9.out⟩
set_option maxRecDepth 100000 in
set_option maxHeartbeats 2000000 in
theorem fp_pn (P M q : Nat) (h : Fld P M q) (a : Nat) (h0 : 0 < a) (ha : a < q) (n : Int) (hn : n < 0) (w : World) (hL : Lays w) :
    Calls Tryd.prog 5 #[.agg #[.int .i64 (P : Int), .int .i64 (M : Int)], .int .i64 a, .int .i64 n] w fun e w' => e = .returned (.bool true) ∧ Below w.heap.size w w' := by
  have H := Lib.hid h
  clear h
  have HB0 := Lib.hid (below1 w (.cells #[.int .i64 (P : Int), .int .i64 (M : Int)] 23))
  have HL0 := Lib.hid (hL.below HB0.out)
  have HF0 := Lib.hid (fAt_new w (P : Int) (M : Int))
  obtain ⟨c0, c1⟩ := HF0.out
  clear hL
  go_enter Tryd.func5, Tryd.ntmps5
  go_wp2_with fail
  refine (Inverse_ok P M q H.out a h0 ha _ HL0.out).mono ?_
  rintro e w1 ⟨rfl, hB⟩
  have HB1 := Lib.hid (HB0.out.trans (hB.mono HB0.out.size))
  have HL1 := Lib.hid (HL0.out.below hB)
  have HF1 := Lib.hid (HF0.out.below hB)
  clear c0 c1
  obtain ⟨c0, c1⟩ := HF1.out
  clear hB
  try unfold Ret2
  go_wp2_with fail
  refine (Power_neg P M q H.out a n ha hn _ HL1.out).mono ?_
  rintro e w2 ⟨rfl, hB⟩
  have HB2 := Lib.hid (HB1.out.trans (hB.mono HB1.out.size))
  have HL2 := Lib.hid (HL1.out.below hB)
  have HF2 := Lib.hid (HF1.out.below hB)
  clear c0 c1
  obtain ⟨c0, c1⟩ := HF2.out
  clear hB
  try unfold Ret2
  go_wp2_with fail
  refine (validR_ok P M q H.out _).mono ?_
  rintro e w3 ⟨rfl, hB⟩
  have HB3 := Lib.hid (HB2.out.trans (hB.mono HB2.out.size))
  have HL3 := Lib.hid (HL2.out.below hB)
  have HF3 := Lib.hid (HF2.out.below hB)
  clear c0 c1
  obtain ⟨c0, c1⟩ := HF3.out
  clear hB
  try unfold Ret2
  go_wp2_with fail
  refine (of_any P M q H.out _).mono ?_
  rintro e w4 ⟨rfl, hB⟩
  have HB4 := Lib.hid (HB3.out.trans (hB.mono HB3.out.size))
  have HL4 := Lib.hid (HL3.out.below hB)
  have HF4 := Lib.hid (HF3.out.below hB)
  clear c0 c1
  obtain ⟨c0, c1⟩ := HF4.out
  clear hB
  try unfold Ret2
  have hbx := below1 w4 (kitBox P M q)
  have HK5 := Lib.hid (kitAt_new w4 P M q)
  have HB5 := Lib.hid (HB4.out.trans (hbx.mono HB4.out.size))
  have HL5 := Lib.hid (HL4.out.below hbx)
  have HF5 := Lib.hid (HF4.out.below hbx)
  clear hbx c0 c1
  unfold kitBox at HK5 HB5 HL5 HF5
  unfold kitV
  obtain ⟨c0, c1⟩ := HF5.out
  obtain ⟨k0, k1, k2, k3⟩ := HK5.out
  go_wp2_with fail
  refine (kitIs_yes P M q a (inq_of ha) _).mono ?_
  rintro e w6 ⟨rfl, hB⟩
  have HB6 := Lib.hid (HB5.out.trans (hB.mono HB5.out.size))
  have HL6 := Lib.hid (HL5.out.below hB)
  have HF6 := Lib.hid (HF5.out.below hB)
  clear c0 c1
  obtain ⟨c0, c1⟩ := HF6.out
  have HK6 := Lib.hid (HK5.out.low hB)
  clear k0 k1 k2 k3
  obtain ⟨k0, k1, k2, k3⟩ := HK6.out
  clear hB
  try unfold Ret2
  go_wp2_with fail
  refine (kitInverse P M q a H.out ha _).mono ?_
  rintro e w7 ⟨rfl, hB⟩
  have HB7 := Lib.hid (HB6.out.trans (hB.mono HB6.out.size))
  have HL7 := Lib.hid (HL6.out.below hB)
  have HF7 := Lib.hid (HF6.out.below hB)
  clear c0 c1
  obtain ⟨c0, c1⟩ := HF7.out
  have HK7 := Lib.hid (HK6.out.low hB)
  clear k0 k1 k2 k3
  obtain ⟨k0, k1, k2, k3⟩ := HK7.out
  clear hB
  try unfold Ret2
  go_wp2_with fail
  refine (is_ok _ _ rfl _).mono ?_
  rintro e wq ⟨rfl, rfl⟩
  go_wp2_with fail
  refine (is_err 2 (by omega) _ _).mono ?_
  rintro e wq ⟨rfl, rfl⟩
  go_wp2_with fail
  refine (alive_any _ HL7.out).mono ?_
  rintro e w8 ⟨rfl, hB⟩
  have HB8 := Lib.hid (HB7.out.trans (hB.mono HB7.out.size))
  have HL8 := Lib.hid (HL7.out.below hB)
  have HF8 := Lib.hid (HF7.out.below hB)
  clear c0 c1
  obtain ⟨c0, c1⟩ := HF8.out
  clear hB
  try unfold Ret2
  go_wp2_with fail
  go_ret
  exact ⟨rfl, HB8.out⟩
set_option maxRecDepth 100000 in
set_option maxHeartbeats 2000000 in
theorem fp_pk (P M q : Nat) (h : Fld P M q) (a : Nat) (h0 : 0 < a) (ha : a < q) (n : Nat) (hn : n < 9223372036854775808) (w : World) (hL : Lays w) :
    Calls Tryd.prog 5 #[.agg #[.int .i64 (P : Int), .int .i64 (M : Int)], .int .i64 a, .int .i64 n] w fun e w' => e = .returned (.bool true) ∧ Below w.heap.size w w' := by
  have H := Lib.hid h
  clear h
  have HB0 := Lib.hid (below1 w (.cells #[.int .i64 (P : Int), .int .i64 (M : Int)] 23))
  have HL0 := Lib.hid (hL.below HB0.out)
  have HF0 := Lib.hid (fAt_new w (P : Int) (M : Int))
  obtain ⟨c0, c1⟩ := HF0.out
  clear hL
  go_enter Tryd.func5, Tryd.ntmps5
  go_wp2_with fail
  refine (Inverse_ok P M q H.out a h0 ha _ HL0.out).mono ?_
  rintro e w1 ⟨rfl, hB⟩
  have HB1 := Lib.hid (HB0.out.trans (hB.mono HB0.out.size))
  have HL1 := Lib.hid (HL0.out.below hB)
  have HF1 := Lib.hid (HF0.out.below hB)
  clear c0 c1
  obtain ⟨c0, c1⟩ := HF1.out
  clear hB
  try unfold Ret2
  go_wp2_with fail
  refine (Power_ok P M q H.out a n ha hn _ HL1.out).mono ?_
  rintro e w2 ⟨rfl, hB⟩
  have HB2 := Lib.hid (HB1.out.trans (hB.mono HB1.out.size))
  have HL2 := Lib.hid (HL1.out.below hB)
  have HF2 := Lib.hid (HF1.out.below hB)
  clear c0 c1
  obtain ⟨c0, c1⟩ := HF2.out
  clear hB
  try unfold Ret2
  go_wp2_with fail
  refine (validR_ok P M q H.out _).mono ?_
  rintro e w3 ⟨rfl, hB⟩
  have HB3 := Lib.hid (HB2.out.trans (hB.mono HB2.out.size))
  have HL3 := Lib.hid (HL2.out.below hB)
  have HF3 := Lib.hid (HF2.out.below hB)
  clear c0 c1
  obtain ⟨c0, c1⟩ := HF3.out
  clear hB
  try unfold Ret2
  go_wp2_with fail
  refine (of_any P M q H.out _).mono ?_
  rintro e w4 ⟨rfl, hB⟩
  have HB4 := Lib.hid (HB3.out.trans (hB.mono HB3.out.size))
  have HL4 := Lib.hid (HL3.out.below hB)
  have HF4 := Lib.hid (HF3.out.below hB)
  clear c0 c1
  obtain ⟨c0, c1⟩ := HF4.out
  clear hB
  try unfold Ret2
  have hbx := below1 w4 (kitBox P M q)
  have HK5 := Lib.hid (kitAt_new w4 P M q)
  have HB5 := Lib.hid (HB4.out.trans (hbx.mono HB4.out.size))
  have HL5 := Lib.hid (HL4.out.below hbx)
  have HF5 := Lib.hid (HF4.out.below hbx)
  clear hbx c0 c1
  unfold kitBox at HK5 HB5 HL5 HF5
  unfold kitV
  obtain ⟨c0, c1⟩ := HF5.out
  obtain ⟨k0, k1, k2, k3⟩ := HK5.out
  go_wp2_with fail
  refine (kitIs_yes P M q a (inq_of ha) _).mono ?_
  rintro e w6 ⟨rfl, hB⟩
  have HB6 := Lib.hid (HB5.out.trans (hB.mono HB5.out.size))
  have HL6 := Lib.hid (HL5.out.below hB)
  have HF6 := Lib.hid (HF5.out.below hB)
  clear c0 c1
  obtain ⟨c0, c1⟩ := HF6.out
  have HK6 := Lib.hid (HK5.out.low hB)
  clear k0 k1 k2 k3
  obtain ⟨k0, k1, k2, k3⟩ := HK6.out
  clear hB
  try unfold Ret2
  go_wp2_with fail
  refine (kitInverse P M q a H.out ha _).mono ?_
  rintro e w7 ⟨rfl, hB⟩
  have HB7 := Lib.hid (HB6.out.trans (hB.mono HB6.out.size))
  have HL7 := Lib.hid (HL6.out.below hB)
  have HF7 := Lib.hid (HF6.out.below hB)
  clear c0 c1
  obtain ⟨c0, c1⟩ := HF7.out
  have HK7 := Lib.hid (HK6.out.low hB)
  clear k0 k1 k2 k3
  obtain ⟨k0, k1, k2, k3⟩ := HK7.out
  clear hB
  try unfold Ret2
  go_wp2_with fail
  refine (is_ok _ _ rfl _).mono ?_
  rintro e wq ⟨rfl, rfl⟩
  go_wp2_with fail
  refine (kitPower P M q a n H.out ha hn _).mono ?_
  rintro e w8 ⟨rfl, hB⟩
  have HB8 := Lib.hid (HB7.out.trans (hB.mono HB7.out.size))
  have HL8 := Lib.hid (HL7.out.below hB)
  have HF8 := Lib.hid (HF7.out.below hB)
  clear c0 c1
  obtain ⟨c0, c1⟩ := HF8.out
  have HK8 := Lib.hid (HK7.out.low hB)
  clear k0 k1 k2 k3
  obtain ⟨k0, k1, k2, k3⟩ := HK8.out
  clear hB
  try unfold Ret2
  go_wp2_with fail
  refine (is_ok _ _ rfl _).mono ?_
  rintro e wq ⟨rfl, rfl⟩
  go_wp2_with fail
  refine (alive_any _ HL8.out).mono ?_
  rintro e w9 ⟨rfl, hB⟩
  have HB9 := Lib.hid (HB8.out.trans (hB.mono HB8.out.size))
  have HL9 := Lib.hid (HL8.out.below hB)
  have HF9 := Lib.hid (HF8.out.below hB)
  clear c0 c1
  obtain ⟨c0, c1⟩ := HF9.out
  clear hB
  try unfold Ret2
  go_wp2_with fail
  go_ret
  exact ⟨rfl, HB9.out⟩
theorem fieldPowers_any (P M a n : Int) (hn : n ≤ 9223372036854775807) (w : World) (hL : Lays w) :
    Calls Tryd.prog 5 #[.agg #[.int .i64 P, .int .i64 M], .int .i64 a, .int .i64 n] w fun e w' => e = .returned (.bool true) ∧ Below w.heap.size w w' := by
  by_cases h : OkF P M
  · obtain ⟨P', M', q, rfl, rfl, hf⟩ := h.fld
    by_cases ha : InQ q a
    · obtain ⟨a', rfl, ha'⟩ := inq_nat ha
      by_cases h0 : a' = 0
      · subst h0
        by_cases hn0 : n < 0
        · exact fp_zn P' M' q hf n hn0 w hL
        · obtain ⟨k, rfl⟩ : ∃ k : Nat, n = k := ⟨n.toNat, by omega⟩
          exact fp_zk P' M' q hf k (by omega) w hL
      · by_cases hn0 : n < 0
        · exact fp_pn P' M' q hf a' (by omega) ha' n hn0 w hL
        · obtain ⟨k, rfl⟩ : ∃ k : Nat, n = k := ⟨n.toNat, by omega⟩
          exact fp_pk P' M' q hf a' (by omega) ha' k (by omega) w hL
    · exact fp_arg P' M' q hf a n ha w hL
  · exact fp_no P M a n h w hL
end Go.Proofs.YtfkeemhbehhclaaDoor
