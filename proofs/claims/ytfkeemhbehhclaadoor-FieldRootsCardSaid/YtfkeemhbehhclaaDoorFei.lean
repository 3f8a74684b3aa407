/-
  Root and Sum of package field return what the reference asks for: the law FieldRoots's walk.
-/
import Derived.Test.YtfkeemhbehhclaaDoorFeh
import Derived.Test.YtfkeemhbehhclaaDoorFdr
namespace Go.Proofs.YtfkeemhbehhclaaDoor
open Go.RowKit

set_option maxRecDepth 100000 in
set_option maxHeartbeats 4000000 in
theorem fr_form_s (P M : Int) (h : ¬ OkF P M) (n x : Int) (hn : n ≤ 3000) (w : World) (hL : Lays w) :
    Calls Tryd.prog 6 #[.agg #[.int .i64 P, .int .i64 M], .int .i64 n, .int .i64 x] w fun r w' => r = .returned (.bool true) ∧ Below w.heap.size w w' := by
  have H := Lib.hid h
  clear h
  have HB0 := Lib.hid (below1 w (.cells #[.int .i64 P, .int .i64 M] 23))
  have HL0 := Lib.hid (hL.below HB0.out)
  have HF0 := Lib.hid (fAt_new w P M)
  obtain ⟨c0, c1⟩ := HF0.out
  clear hL
  go_enter Tryd.func6, Tryd.ntmps6
  go_wp2_with fail
  refine (Root_form P M n H.out _ HL0.out).mono ?_
  rintro e w1 ⟨rfl, hB⟩
  have HB1 := Lib.hid (HB0.out.trans (hB.mono HB0.out.size))
  have HL1 := Lib.hid (HL0.out.below hB)
  have HF1 := Lib.hid (HF0.out.below hB)
  clear c0 c1
  obtain ⟨c0, c1⟩ := HF1.out
  clear hB
  try unfold Ret2
  go_wp2_with fail
  refine (Sum_form P M n x H.out _ HL1.out).mono ?_
  rintro e w2 ⟨rfl, hB⟩
  have HB2 := Lib.hid (HB1.out.trans (hB.mono HB1.out.size))
  have HL2 := Lib.hid (HL1.out.below hB)
  have HF2 := Lib.hid (HF1.out.below hB)
  clear c0 c1
  obtain ⟨c0, c1⟩ := HF2.out
  clear hB
  try unfold Ret2
  go_wp2_with fail
  refine (validR_no P M H.out _).mono ?_
  rintro e w3 ⟨rfl, hB⟩
  have HB3 := Lib.hid (HB2.out.trans (hB.mono HB2.out.size))
  have HL3 := Lib.hid (HL2.out.below hB)
  have HF3 := Lib.hid (HF2.out.below hB)
  clear c0 c1
  obtain ⟨c0, c1⟩ := HF3.out
  clear hB
  try unfold Ret2
  go_wp2_with fail
  refine (is_err 1 (by omega) _ _).mono ?_
  rintro e wq ⟨rfl, rfl⟩
  go_wp2_with fail
  refine (is_err 1 (by omega) _ _).mono ?_
  rintro e wq ⟨rfl, rfl⟩
  go_wp2_with fail
  refine (alive_any _ HL3.out).mono ?_
  rintro e w4 ⟨rfl, hB⟩
  have HB4 := Lib.hid (HB3.out.trans (hB.mono HB3.out.size))
  have HL4 := Lib.hid (HL3.out.below hB)
  have HF4 := Lib.hid (HF3.out.below hB)
  clear c0 c1
  obtain ⟨c0, c1⟩ := HF4.out
  clear hB
  try unfold Ret2
  go_wp2_with fail
  go_ret
  exact ⟨rfl, HB4.out⟩
set_option maxRecDepth 100000 in
set_option maxHeartbeats 4000000 in
theorem fr_form_b (P M : Int) (h : ¬ OkF P M) (n x : Int) (hn : 3000 < n) (w : World) (hL : Lays w) :
    Calls Tryd.prog 6 #[.agg #[.int .i64 P, .int .i64 M], .int .i64 n, .int .i64 x] w fun r w' => r = .returned (.bool true) ∧ Below w.heap.size w w' := by
  have H := Lib.hid h
  clear h
  have HB0 := Lib.hid (below1 w (.cells #[.int .i64 P, .int .i64 M] 23))
  have HL0 := Lib.hid (hL.below HB0.out)
  have HF0 := Lib.hid (fAt_new w P M)
  obtain ⟨c0, c1⟩ := HF0.out
  clear hL
  go_enter Tryd.func6, Tryd.ntmps6
  go_wp2_with fail
  refine (validR_no P M H.out _).mono ?_
  rintro e w1 ⟨rfl, hB⟩
  have HB1 := Lib.hid (HB0.out.trans (hB.mono HB0.out.size))
  have HL1 := Lib.hid (HL0.out.below hB)
  have HF1 := Lib.hid (HF0.out.below hB)
  clear c0 c1
  obtain ⟨c0, c1⟩ := HF1.out
  clear hB
  try unfold Ret2
  go_wp2_with fail
  refine (Root_form P M n H.out _ HL1.out).mono ?_
  rintro e w2 ⟨rfl, hB⟩
  have HB2 := Lib.hid (HB1.out.trans (hB.mono HB1.out.size))
  have HL2 := Lib.hid (HL1.out.below hB)
  have HF2 := Lib.hid (HF1.out.below hB)
  clear c0 c1
  obtain ⟨c0, c1⟩ := HF2.out
  clear hB
  try unfold Ret2
  go_wp2_with fail
  refine (Sum_form P M n x H.out _ HL2.out).mono ?_
  rintro e w3 ⟨rfl, hB⟩
  have HB3 := Lib.hid (HB2.out.trans (hB.mono HB2.out.size))
  have HL3 := Lib.hid (HL2.out.below hB)
  have HF3 := Lib.hid (HF2.out.below hB)
  clear c0 c1
  obtain ⟨c0, c1⟩ := HF3.out
  clear hB
  try unfold Ret2
  go_wp2_with fail
  refine (validR_no P M H.out _).mono ?_
  rintro e w4 ⟨rfl, hB⟩
  have HB4 := Lib.hid (HB3.out.trans (hB.mono HB3.out.size))
  have HL4 := Lib.hid (HL3.out.below hB)
  have HF4 := Lib.hid (HF3.out.below hB)
  clear c0 c1
  obtain ⟨c0, c1⟩ := HF4.out
  clear hB
  try unfold Ret2
  go_wp2_with fail
  refine (is_err 1 (by omega) _ _).mono ?_
  rintro e wq ⟨rfl, rfl⟩
  go_wp2_with fail
  refine (is_err 1 (by omega) _ _).mono ?_
  rintro e wq ⟨rfl, rfl⟩
  go_wp2_with fail
  refine (alive_any _ HL4.out).mono ?_
  rintro e w5 ⟨rfl, hB⟩
  have HB5 := Lib.hid (HB4.out.trans (hB.mono HB4.out.size))
  have HL5 := Lib.hid (HL4.out.below hB)
  have HF5 := Lib.hid (HF4.out.below hB)
  clear c0 c1
  obtain ⟨c0, c1⟩ := HF5.out
  clear hB
  try unfold Ret2
  go_wp2_with fail
  go_ret
  exact ⟨rfl, HB5.out⟩
set_option maxRecDepth 100000 in
set_option maxHeartbeats 4000000 in
theorem fr_big (P M q : Nat) (h : Fld P M q) (n x : Int) (hn : 3000 < n) (hd : ((q : Int) - 1) % n = 0) (w : World) (hL : Lays w) :
    Calls Tryd.prog 6 #[.agg #[.int .i64 (P : Int), .int .i64 (M : Int)], .int .i64 n, .int .i64 x] w fun r w' => r = .returned (.bool true) ∧ Below w.heap.size w w' := by
  have H := Lib.hid h
  have hq2 := h.q_ge
  have hq3 := h.q_le
  have e2 : (((q : Int) - 1) % n == 0) = true := by simpa using hd
  clear h hd
  have HB0 := Lib.hid (below1 w (.cells #[.int .i64 (P : Int), .int .i64 (M : Int)] 23))
  have HL0 := Lib.hid (hL.below HB0.out)
  have HF0 := Lib.hid (fAt_new w (P : Int) (M : Int))
  obtain ⟨c0, c1⟩ := HF0.out
  clear hL
  go_enter Tryd.func6, Tryd.ntmps6
  go_wp2_with fail
  refine (validR_ok P M q H.out _).mono ?_
  rintro e w1 ⟨rfl, hB⟩
  have HB1 := Lib.hid (HB0.out.trans (hB.mono HB0.out.size))
  have HL1 := Lib.hid (HL0.out.below hB)
  have HF1 := Lib.hid (HF0.out.below hB)
  clear c0 c1
  obtain ⟨c0, c1⟩ := HF1.out
  clear hB
  try unfold Ret2
  go_wp2_with fail
  refine (ordR_ok P M q H.out _).mono ?_
  rintro e w2 ⟨rfl, hB⟩
  have HB2 := Lib.hid (HB1.out.trans (hB.mono HB1.out.size))
  have HL2 := Lib.hid (HL1.out.below hB)
  have HF2 := Lib.hid (HF1.out.below hB)
  clear c0 c1
  obtain ⟨c0, c1⟩ := HF2.out
  clear hB
  try unfold Ret2
  go_wp2_with fail
  refine (alive_any _ HL2.out).mono ?_
  rintro e w3 ⟨rfl, hB⟩
  have HB3 := Lib.hid (HB2.out.trans (hB.mono HB2.out.size))
  have HL3 := Lib.hid (HL2.out.below hB)
  have HF3 := Lib.hid (HF2.out.below hB)
  clear c0 c1
  obtain ⟨c0, c1⟩ := HF3.out
  clear hB
  try unfold Ret2
  go_wp2_with fail
  go_ret
  exact ⟨rfl, HB3.out⟩
set_option maxRecDepth 100000 in
set_option maxHeartbeats 4000000 in
theorem fr_low_n (P M q : Nat) (h : Fld P M q) (n : Int) (hn : n < 1) (x : Int) (hx : x < 0) (w : World) (hL : Lays w) :
    Calls Tryd.prog 6 #[.agg #[.int .i64 (P : Int), .int .i64 (M : Int)], .int .i64 n, .int .i64 x] w fun r w' => r = .returned (.bool true) ∧ Below w.heap.size w w' := by
  have H := Lib.hid h
  clear h
  have HB0 := Lib.hid (below1 w (.cells #[.int .i64 (P : Int), .int .i64 (M : Int)] 23))
  have HL0 := Lib.hid (hL.below HB0.out)
  have HF0 := Lib.hid (fAt_new w (P : Int) (M : Int))
  obtain ⟨c0, c1⟩ := HF0.out
  clear hL
  go_enter Tryd.func6, Tryd.ntmps6
  go_wp2_with fail
  refine (root_bad P M q H.out n (.inl (by omega)) 2 (if_pos (by omega)).symm _ HL0.out).mono ?_
  rintro e w1 ⟨rfl, hB⟩
  have HB1 := Lib.hid (HB0.out.trans (hB.mono HB0.out.size))
  have HL1 := Lib.hid (HL0.out.below hB)
  have HF1 := Lib.hid (HF0.out.below hB)
  clear c0 c1
  obtain ⟨c0, c1⟩ := HF1.out
  clear hB
  try unfold Ret2
  go_wp2_with fail
  refine (sum_neg P M q H.out n x hx _ HL1.out).mono ?_
  rintro e w2 ⟨rfl, hB⟩
  have HB2 := Lib.hid (HB1.out.trans (hB.mono HB1.out.size))
  have HL2 := Lib.hid (HL1.out.below hB)
  have HF2 := Lib.hid (HF1.out.below hB)
  clear c0 c1
  obtain ⟨c0, c1⟩ := HF2.out
  clear hB
  try unfold Ret2
  go_wp2_with fail
  refine (validR_ok P M q H.out _).mono ?_
  rintro e w3 ⟨rfl, hB⟩
  have HB3 := Lib.hid (HB2.out.trans (hB.mono HB2.out.size))
  have HL3 := Lib.hid (HL2.out.below hB)
  have HF3 := Lib.hid (HF2.out.below hB)
  clear c0 c1
  obtain ⟨c0, c1⟩ := HF3.out
  clear hB
  try unfold Ret2
  go_wp2_with fail
  refine (of_any P M q H.out _).mono ?_
  rintro e w4 ⟨rfl, hB⟩
  have HB4 := Lib.hid (HB3.out.trans (hB.mono HB3.out.size))
  have HL4 := Lib.hid (HL3.out.below hB)
  have HF4 := Lib.hid (HF3.out.below hB)
  clear c0 c1
  obtain ⟨c0, c1⟩ := HF4.out
  clear hB
  try unfold Ret2
  have hbx := below1 w4 (kitBox P M q)
  have HK5 := Lib.hid (kitAt_new w4 P M q)
  have HB5 := Lib.hid (HB4.out.trans (hbx.mono HB4.out.size))
  have HL5 := Lib.hid (HL4.out.below hbx)
  have HF5 := Lib.hid (HF4.out.below hbx)
  clear hbx c0 c1
  unfold kitBox at HK5 HB5 HL5 HF5
  unfold kitV
  obtain ⟨c0, c1⟩ := HF5.out
  obtain ⟨k0, k1, k2, k3⟩ := HK5.out
  go_wp2_with fail
  refine (is_err 2 (by omega) _ _).mono ?_
  rintro e wq ⟨rfl, rfl⟩
  go_wp2_with fail
  refine (is_err 2 (by omega) _ _).mono ?_
  rintro e wq ⟨rfl, rfl⟩
  go_wp2_with fail
  refine (alive_any _ HL5.out).mono ?_
  rintro e w6 ⟨rfl, hB⟩
  have HB6 := Lib.hid (HB5.out.trans (hB.mono HB5.out.size))
  have HL6 := Lib.hid (HL5.out.below hB)
  have HF6 := Lib.hid (HF5.out.below hB)
  clear c0 c1
  obtain ⟨c0, c1⟩ := HF6.out
  clear hB
  try unfold Ret2
  go_wp2_with fail
  go_ret
  exact ⟨rfl, HB6.out⟩
set_option maxRecDepth 100000 in
set_option maxHeartbeats 4000000 in
theorem fr_not_sn (P M q : Nat) (h : Fld P M q) (n : Int) (hn : 1 ≤ n) (hn2 : n ≤ 3000) (hd : ¬ ((q : Int) - 1) % n = 0) (x : Int) (hx : x < 0) (w : World) (hL : Lays w) :
    Calls Tryd.prog 6 #[.agg #[.int .i64 (P : Int), .int .i64 (M : Int)], .int .i64 n, .int .i64 x] w fun r w' => r = .returned (.bool true) ∧ Below w.heap.size w w' := by
  have H := Lib.hid h
  have hq2 := h.q_ge
  have hq3 := h.q_le
  have e2 : (((q : Int) - 1) % n == 0) = false := by simpa using hd
  have e3 : (((q : Int) - 1) % n != 0) = true := by simpa using hd
  have HD := Lib.hid hd
  clear h hd
  have HB0 := Lib.hid (below1 w (.cells #[.int .i64 (P : Int), .int .i64 (M : Int)] 23))
  have HL0 := Lib.hid (hL.below HB0.out)
  have HF0 := Lib.hid (fAt_new w (P : Int) (M : Int))
  obtain ⟨c0, c1⟩ := HF0.out
  clear hL
  go_enter Tryd.func6, Tryd.ntmps6
  go_wp2_with fail
  refine (root_bad P M q H.out n (.inr HD.out) 6 (if_neg (by omega)).symm _ HL0.out).mono ?_
  rintro e w1 ⟨rfl, hB⟩
  have HB1 := Lib.hid (HB0.out.trans (hB.mono HB0.out.size))
  have HL1 := Lib.hid (HL0.out.below hB)
  have HF1 := Lib.hid (HF0.out.below hB)
  clear c0 c1
  obtain ⟨c0, c1⟩ := HF1.out
  clear hB
  try unfold Ret2
  go_wp2_with fail
  refine (sum_neg P M q H.out n x hx _ HL1.out).mono ?_
  rintro e w2 ⟨rfl, hB⟩
  have HB2 := Lib.hid (HB1.out.trans (hB.mono HB1.out.size))
  have HL2 := Lib.hid (HL1.out.below hB)
  have HF2 := Lib.hid (HF1.out.below hB)
  clear c0 c1
  obtain ⟨c0, c1⟩ := HF2.out
  clear hB
  try unfold Ret2
  go_wp2_with fail
  refine (validR_ok P M q H.out _).mono ?_
  rintro e w3 ⟨rfl, hB⟩
  have HB3 := Lib.hid (HB2.out.trans (hB.mono HB2.out.size))
  have HL3 := Lib.hid (HL2.out.below hB)
  have HF3 := Lib.hid (HF2.out.below hB)
  clear c0 c1
  obtain ⟨c0, c1⟩ := HF3.out
  clear hB
  try unfold Ret2
  go_wp2_with fail
  refine (of_any P M q H.out _).mono ?_
  rintro e w4 ⟨rfl, hB⟩
  have HB4 := Lib.hid (HB3.out.trans (hB.mono HB3.out.size))
  have HL4 := Lib.hid (HL3.out.below hB)
  have HF4 := Lib.hid (HF3.out.below hB)
  clear c0 c1
  obtain ⟨c0, c1⟩ := HF4.out
  clear hB
  try unfold Ret2
  have hbx := below1 w4 (kitBox P M q)
  have HK5 := Lib.hid (kitAt_new w4 P M q)
  have HB5 := Lib.hid (HB4.out.trans (hbx.mono HB4.out.size))
  have HL5 := Lib.hid (HL4.out.below hbx)
  have HF5 := Lib.hid (HF4.out.below hbx)
  clear hbx c0 c1
  unfold kitBox at HK5 HB5 HL5 HF5
  unfold kitV
  obtain ⟨c0, c1⟩ := HF5.out
  obtain ⟨k0, k1, k2, k3⟩ := HK5.out
  go_wp2_with fail
  refine (kitRoot_no P M q hq2 hq3 n (.inr ⟨by omega, HD.out⟩) _).mono ?_
  rintro e w6 ⟨rfl, hB⟩
  have HB6 := Lib.hid (HB5.out.trans (hB.mono HB5.out.size))
  have HL6 := Lib.hid (HL5.out.below hB)
  have HF6 := Lib.hid (HF5.out.below hB)
  clear c0 c1
  obtain ⟨c0, c1⟩ := HF6.out
  have HK6 := Lib.hid (HK5.out.low hB)
  clear k0 k1 k2 k3
  obtain ⟨k0, k1, k2, k3⟩ := HK6.out
  clear hB
  try unfold Ret2
  go_wp2_with fail
  refine (is_err 6 (by omega) _ _).mono ?_
  rintro e wq ⟨rfl, rfl⟩
  go_wp2_with fail
  refine (is_err 2 (by omega) _ _).mono ?_
  rintro e wq ⟨rfl, rfl⟩
  go_wp2_with fail
  refine (alive_any _ HL6.out).mono ?_
  rintro e w7 ⟨rfl, hB⟩
  have HB7 := Lib.hid (HB6.out.trans (hB.mono HB6.out.size))
  have HL7 := Lib.hid (HL6.out.below hB)
  have HF7 := Lib.hid (HF6.out.below hB)
  clear c0 c1
  obtain ⟨c0, c1⟩ := HF7.out
  clear hB
  try unfold Ret2
  go_wp2_with fail
  go_ret
  exact ⟨rfl, HB7.out⟩
set_option maxRecDepth 100000 in
set_option maxHeartbeats 4000000 in
theorem fr_not_bn (P M q : Nat) (h : Fld P M q) (n : Int) (hn : 1 ≤ n) (hn2 : 3000 < n) (hd : ¬ ((q : Int) - 1) % n = 0) (x : Int) (hx : x < 0) (w : World) (hL : Lays w) :
    Calls Tryd.prog 6 #[.agg #[.int .i64 (P : Int), .int .i64 (M : Int)], .int .i64 n, .int .i64 x] w fun r w' => r = .returned (.bool true) ∧ Below w.heap.size w w' := by
  have H := Lib.hid h
  have hq2 := h.q_ge
  have hq3 := h.q_le
  have e2 : (((q : Int) - 1) % n == 0) = false := by simpa using hd
  have e3 : (((q : Int) - 1) % n != 0) = true := by simpa using hd
  have HD := Lib.hid hd
  clear h hd
  have HB0 := Lib.hid (below1 w (.cells #[.int .i64 (P : Int), .int .i64 (M : Int)] 23))
  have HL0 := Lib.hid (hL.below HB0.out)
  have HF0 := Lib.hid (fAt_new w (P : Int) (M : Int))
  obtain ⟨c0, c1⟩ := HF0.out
  clear hL
  go_enter Tryd.func6, Tryd.ntmps6
  go_wp2_with fail
  refine (validR_ok P M q H.out _).mono ?_
  rintro e w1 ⟨rfl, hB⟩
  have HB1 := Lib.hid (HB0.out.trans (hB.mono HB0.out.size))
  have HL1 := Lib.hid (HL0.out.below hB)
  have HF1 := Lib.hid (HF0.out.below hB)
  clear c0 c1
  obtain ⟨c0, c1⟩ := HF1.out
  clear hB
  try unfold Ret2
  go_wp2_with fail
  refine (ordR_ok P M q H.out _).mono ?_
  rintro e w2 ⟨rfl, hB⟩
  have HB2 := Lib.hid (HB1.out.trans (hB.mono HB1.out.size))
  have HL2 := Lib.hid (HL1.out.below hB)
  have HF2 := Lib.hid (HF1.out.below hB)
  clear c0 c1
  obtain ⟨c0, c1⟩ := HF2.out
  clear hB
  try unfold Ret2
  go_wp2_with fail
  refine (root_bad P M q H.out n (.inr HD.out) 6 (if_neg (by omega)).symm _ HL2.out).mono ?_
  rintro e w3 ⟨rfl, hB⟩
  have HB3 := Lib.hid (HB2.out.trans (hB.mono HB2.out.size))
  have HL3 := Lib.hid (HL2.out.below hB)
  have HF3 := Lib.hid (HF2.out.below hB)
  clear c0 c1
  obtain ⟨c0, c1⟩ := HF3.out
  clear hB
  try unfold Ret2
  go_wp2_with fail
  refine (sum_neg P M q H.out n x hx _ HL3.out).mono ?_
  rintro e w4 ⟨rfl, hB⟩
  have HB4 := Lib.hid (HB3.out.trans (hB.mono HB3.out.size))
  have HL4 := Lib.hid (HL3.out.below hB)
  have HF4 := Lib.hid (HF3.out.below hB)
  clear c0 c1
  obtain ⟨c0, c1⟩ := HF4.out
  clear hB
  try unfold Ret2
  go_wp2_with fail
  refine (validR_ok P M q H.out _).mono ?_
  rintro e w5 ⟨rfl, hB⟩
  have HB5 := Lib.hid (HB4.out.trans (hB.mono HB4.out.size))
  have HL5 := Lib.hid (HL4.out.below hB)
  have HF5 := Lib.hid (HF4.out.below hB)
  clear c0 c1
  obtain ⟨c0, c1⟩ := HF5.out
  clear hB
  try unfold Ret2
  go_wp2_with fail
  refine (of_any P M q H.out _).mono ?_
  rintro e w6 ⟨rfl, hB⟩
  have HB6 := Lib.hid (HB5.out.trans (hB.mono HB5.out.size))
  have HL6 := Lib.hid (HL5.out.below hB)
  have HF6 := Lib.hid (HF5.out.below hB)
  clear c0 c1
  obtain ⟨c0, c1⟩ := HF6.out
  clear hB
  try unfold Ret2
  have hbx := below1 w6 (kitBox P M q)
  have HK7 := Lib.hid (kitAt_new w6 P M q)
  have HB7 := Lib.hid (HB6.out.trans (hbx.mono HB6.out.size))
  have HL7 := Lib.hid (HL6.out.below hbx)
  have HF7 := Lib.hid (HF6.out.below hbx)
  clear hbx c0 c1
  unfold kitBox at HK7 HB7 HL7 HF7
  unfold kitV
  obtain ⟨c0, c1⟩ := HF7.out
  obtain ⟨k0, k1, k2, k3⟩ := HK7.out
  go_wp2_with fail
  refine (kitRoot_no P M q hq2 hq3 n (.inr ⟨by omega, HD.out⟩) _).mono ?_
  rintro e w8 ⟨rfl, hB⟩
  have HB8 := Lib.hid (HB7.out.trans (hB.mono HB7.out.size))
  have HL8 := Lib.hid (HL7.out.below hB)
  have HF8 := Lib.hid (HF7.out.below hB)
  clear c0 c1
  obtain ⟨c0, c1⟩ := HF8.out
  have HK8 := Lib.hid (HK7.out.low hB)
  clear k0 k1 k2 k3
  obtain ⟨k0, k1, k2, k3⟩ := HK8.out
  clear hB
  try unfold Ret2
  go_wp2_with fail
  refine (is_err 6 (by omega) _ _).mono ?_
  rintro e wq ⟨rfl, rfl⟩
  go_wp2_with fail
  refine (is_err 2 (by omega) _ _).mono ?_
  rintro e wq ⟨rfl, rfl⟩
  go_wp2_with fail
  refine (alive_any _ HL8.out).mono ?_
  rintro e w9 ⟨rfl, hB⟩
  have HB9 := Lib.hid (HB8.out.trans (hB.mono HB8.out.size))
  have HL9 := Lib.hid (HL8.out.below hB)
  have HF9 := Lib.hid (HF8.out.below hB)
  clear c0 c1
  obtain ⟨c0, c1⟩ := HF9.out
  clear hB
  try unfold Ret2
  go_wp2_with fail
  go_ret
  exact ⟨rfl, HB9.out⟩
set_option maxRecDepth 100000 in
set_option maxHeartbeats 4000000 in
theorem fr_yes_n (P M q : Nat) (h : Fld P M q) (n : Nat) (hn : 1 ≤ n) (hn2 : n ≤ 3000) (hd : (q - 1) % n = 0) (x : Int) (hx : x < 0) (w : World) (hL : Lays w) :
    Calls Tryd.prog 6 #[.agg #[.int .i64 (P : Int), .int .i64 (M : Int)], .int .i64 n, .int .i64 x] w fun r w' => r = .returned (.bool true) ∧ Below w.heap.size w w' := by
  have H := Lib.hid h
  have hq2 := h.q_ge
  have hq3 := h.q_le
  have hki : ((q : Int) - 1) % (n : Int) = 0 := by
    have : ((q : Int) - 1) = ((q - 1 : Nat) : Int) := by omega
    rw [this, ← Int.natCast_emod, hd]; rfl
  have e2 : (((q : Int) - 1) % (n : Int) == 0) = true := by simpa using hki
  have e3 : (((q : Int) - 1) % (n : Int) != 0) = false := by simpa using hki
  obtain ⟨r, hr⟩ := h.root_ex (n := n) (by omega) hd
  have HR := Lib.hid hr
  have HD := Lib.hid hd
  clear h hd hki hr
  have HB0 := Lib.hid (below1 w (.cells #[.int .i64 (P : Int), .int .i64 (M : Int)] 23))
  have HL0 := Lib.hid (hL.below HB0.out)
  have HF0 := Lib.hid (fAt_new w (P : Int) (M : Int))
  obtain ⟨c0, c1⟩ := HF0.out
  clear hL
  go_enter Tryd.func6, Tryd.ntmps6
  go_wp2_with fail
  refine (root_is P M q n r H.out hn HD.out HR.out _ HL0.out).mono ?_
  rintro e w1 ⟨rfl, hB⟩
  have HB1 := Lib.hid (HB0.out.trans (hB.mono HB0.out.size))
  have HL1 := Lib.hid (HL0.out.below hB)
  have HF1 := Lib.hid (HF0.out.below hB)
  clear c0 c1
  obtain ⟨c0, c1⟩ := HF1.out
  clear hB
  try unfold Ret2
  go_wp2_with fail
  refine (sum_neg P M q H.out n x hx _ HL1.out).mono ?_
  rintro e w2 ⟨rfl, hB⟩
  have HB2 := Lib.hid (HB1.out.trans (hB.mono HB1.out.size))
  have HL2 := Lib.hid (HL1.out.below hB)
  have HF2 := Lib.hid (HF1.out.below hB)
  clear c0 c1
  obtain ⟨c0, c1⟩ := HF2.out
  clear hB
  try unfold Ret2
  go_wp2_with fail
  refine (validR_ok P M q H.out _).mono ?_
  rintro e w3 ⟨rfl, hB⟩
  have HB3 := Lib.hid (HB2.out.trans (hB.mono HB2.out.size))
  have HL3 := Lib.hid (HL2.out.below hB)
  have HF3 := Lib.hid (HF2.out.below hB)
  clear c0 c1
  obtain ⟨c0, c1⟩ := HF3.out
  clear hB
  try unfold Ret2
  go_wp2_with fail
  refine (of_any P M q H.out _).mono ?_
  rintro e w4 ⟨rfl, hB⟩
  have HB4 := Lib.hid (HB3.out.trans (hB.mono HB3.out.size))
  have HL4 := Lib.hid (HL3.out.below hB)
  have HF4 := Lib.hid (HF3.out.below hB)
  clear c0 c1
  obtain ⟨c0, c1⟩ := HF4.out
  clear hB
  try unfold Ret2
  have hbx := below1 w4 (kitBox P M q)
  have HK5 := Lib.hid (kitAt_new w4 P M q)
  have HB5 := Lib.hid (HB4.out.trans (hbx.mono HB4.out.size))
  have HL5 := Lib.hid (HL4.out.below hbx)
  have HF5 := Lib.hid (HF4.out.below hbx)
  clear hbx c0 c1
  unfold kitBox at HK5 HB5 HL5 HF5
  unfold kitV
  obtain ⟨c0, c1⟩ := HF5.out
  obtain ⟨k0, k1, k2, k3⟩ := HK5.out
  go_wp2_with fail
  refine (kitRoot_is P M q n r H.out hn HD.out HR.out _).mono ?_
  rintro e w6 ⟨rfl, hB⟩
  have HB6 := Lib.hid (HB5.out.trans (hB.mono HB5.out.size))
  have HL6 := Lib.hid (HL5.out.below hB)
  have HF6 := Lib.hid (HF5.out.below hB)
  clear c0 c1
  obtain ⟨c0, c1⟩ := HF6.out
  have HK6 := Lib.hid (HK5.out.low hB)
  clear k0 k1 k2 k3
  obtain ⟨k0, k1, k2, k3⟩ := HK6.out
  clear hB
  try unfold Ret2
  go_wp2_with fail
  refine (is_ok _ _ rfl _).mono ?_
  rintro e wq ⟨rfl, rfl⟩
  go_wp2_with fail
  refine (is_err 2 (by omega) _ _).mono ?_
  rintro e wq ⟨rfl, rfl⟩
  go_wp2_with fail
  refine (alive_any _ HL6.out).mono ?_
  rintro e w7 ⟨rfl, hB⟩
  have HB7 := Lib.hid (HB6.out.trans (hB.mono HB6.out.size))
  have HL7 := Lib.hid (HL6.out.below hB)
  have HF7 := Lib.hid (HF6.out.below hB)
  clear c0 c1
  obtain ⟨c0, c1⟩ := HF7.out
  clear hB
  try unfold Ret2
  go_wp2_with fail
  go_ret
  exact ⟨rfl, HB7.out⟩
set_option maxRecDepth 100000 in
set_option maxHeartbeats 4000000 in
theorem fr_low_p (P M q : Nat) (h : Fld P M q) (n : Int) (hn : n < 1) (x : Int) (hx : 0 ≤ x) (hx2 : x ≤ 9223372036854775807) (w : World) (hL : Lays w) :
    Calls Tryd.prog 6 #[.agg #[.int .i64 (P : Int), .int .i64 (M : Int)], .int .i64 n, .int .i64 x] w fun r w' => r = .returned (.bool true) ∧ Below w.heap.size w w' := by
  have H := Lib.hid h
  clear h
  have HB0 := Lib.hid (below1 w (.cells #[.int .i64 (P : Int), .int .i64 (M : Int)] 23))
  have HL0 := Lib.hid (hL.below HB0.out)
  have HF0 := Lib.hid (fAt_new w (P : Int) (M : Int))
  obtain ⟨c0, c1⟩ := HF0.out
  clear hL
  go_enter Tryd.func6, Tryd.ntmps6
  go_wp2_with fail
  refine (root_bad P M q H.out n (.inl (by omega)) 2 (if_pos (by omega)).symm _ HL0.out).mono ?_
  rintro e w1 ⟨rfl, hB⟩
  have HB1 := Lib.hid (HB0.out.trans (hB.mono HB0.out.size))
  have HL1 := Lib.hid (HL0.out.below hB)
  have HF1 := Lib.hid (HF0.out.below hB)
  clear c0 c1
  obtain ⟨c0, c1⟩ := HF1.out
  clear hB
  try unfold Ret2
  go_wp2_with fail
  refine (sum_bad P M q H.out n (.inl (by omega)) 2 (if_pos (by omega)).symm x hx hx2 _ HL1.out).mono ?_
  rintro e w2 ⟨rfl, hB⟩
  have HB2 := Lib.hid (HB1.out.trans (hB.mono HB1.out.size))
  have HL2 := Lib.hid (HL1.out.below hB)
  have HF2 := Lib.hid (HF1.out.below hB)
  clear c0 c1
  obtain ⟨c0, c1⟩ := HF2.out
  clear hB
  try unfold Ret2
  go_wp2_with fail
  refine (validR_ok P M q H.out _).mono ?_
  rintro e w3 ⟨rfl, hB⟩
  have HB3 := Lib.hid (HB2.out.trans (hB.mono HB2.out.size))
  have HL3 := Lib.hid (HL2.out.below hB)
  have HF3 := Lib.hid (HF2.out.below hB)
  clear c0 c1
  obtain ⟨c0, c1⟩ := HF3.out
  clear hB
  try unfold Ret2
  go_wp2_with fail
  refine (of_any P M q H.out _).mono ?_
  rintro e w4 ⟨rfl, hB⟩
  have HB4 := Lib.hid (HB3.out.trans (hB.mono HB3.out.size))
  have HL4 := Lib.hid (HL3.out.below hB)
  have HF4 := Lib.hid (HF3.out.below hB)
  clear c0 c1
  obtain ⟨c0, c1⟩ := HF4.out
  clear hB
  try unfold Ret2
  have hbx := below1 w4 (kitBox P M q)
  have HK5 := Lib.hid (kitAt_new w4 P M q)
  have HB5 := Lib.hid (HB4.out.trans (hbx.mono HB4.out.size))
  have HL5 := Lib.hid (HL4.out.below hbx)
  have HF5 := Lib.hid (HF4.out.below hbx)
  clear hbx c0 c1
  unfold kitBox at HK5 HB5 HL5 HF5
  unfold kitV
  obtain ⟨c0, c1⟩ := HF5.out
  obtain ⟨k0, k1, k2, k3⟩ := HK5.out
  go_wp2_with fail
  refine (is_err 2 (by omega) _ _).mono ?_
  rintro e wq ⟨rfl, rfl⟩
  go_wp2_with fail
  refine (is_err 2 (by omega) _ _).mono ?_
  rintro e wq ⟨rfl, rfl⟩
  go_wp2_with fail
  refine (alive_any _ HL5.out).mono ?_
  rintro e w6 ⟨rfl, hB⟩
  have HB6 := Lib.hid (HB5.out.trans (hB.mono HB5.out.size))
  have HL6 := Lib.hid (HL5.out.below hB)
  have HF6 := Lib.hid (HF5.out.below hB)
  clear c0 c1
  obtain ⟨c0, c1⟩ := HF6.out
  clear hB
  try unfold Ret2
  go_wp2_with fail
  go_ret
  exact ⟨rfl, HB6.out⟩
set_option maxRecDepth 100000 in
set_option maxHeartbeats 4000000 in
theorem fr_not_sp (P M q : Nat) (h : Fld P M q) (n : Int) (hn : 1 ≤ n) (hn2 : n ≤ 3000) (hd : ¬ ((q : Int) - 1) % n = 0) (x : Int) (hx : 0 ≤ x) (hx2 : x ≤ 9223372036854775807) (w : World) (hL : Lays w) :
    Calls Tryd.prog 6 #[.agg #[.int .i64 (P : Int), .int .i64 (M : Int)], .int .i64 n, .int .i64 x] w fun r w' => r = .returned (.bool true) ∧ Below w.heap.size w w' := by
  have H := Lib.hid h
  have hq2 := h.q_ge
  have hq3 := h.q_le
  have e2 : (((q : Int) - 1) % n == 0) = false := by simpa using hd
  have e3 : (((q : Int) - 1) % n != 0) = true := by simpa using hd
  have HD := Lib.hid hd
  clear h hd
  have HB0 := Lib.hid (below1 w (.cells #[.int .i64 (P : Int), .int .i64 (M : Int)] 23))
  have HL0 := Lib.hid (hL.below HB0.out)
  have HF0 := Lib.hid (fAt_new w (P : Int) (M : Int))
  obtain ⟨c0, c1⟩ := HF0.out
  clear hL
  go_enter Tryd.func6, Tryd.ntmps6
  go_wp2_with fail
  refine (root_bad P M q H.out n (.inr HD.out) 6 (if_neg (by omega)).symm _ HL0.out).mono ?_
  rintro e w1 ⟨rfl, hB⟩
  have HB1 := Lib.hid (HB0.out.trans (hB.mono HB0.out.size))
  have HL1 := Lib.hid (HL0.out.below hB)
  have HF1 := Lib.hid (HF0.out.below hB)
  clear c0 c1
  obtain ⟨c0, c1⟩ := HF1.out
  clear hB
  try unfold Ret2
  go_wp2_with fail
  refine (sum_bad P M q H.out n (.inr HD.out) 6 (if_neg (by omega)).symm x hx hx2 _ HL1.out).mono ?_
  rintro e w2 ⟨rfl, hB⟩
  have HB2 := Lib.hid (HB1.out.trans (hB.mono HB1.out.size))
  have HL2 := Lib.hid (HL1.out.below hB)
  have HF2 := Lib.hid (HF1.out.below hB)
  clear c0 c1
  obtain ⟨c0, c1⟩ := HF2.out
  clear hB
  try unfold Ret2
  go_wp2_with fail
  refine (validR_ok P M q H.out _).mono ?_
  rintro e w3 ⟨rfl, hB⟩
  have HB3 := Lib.hid (HB2.out.trans (hB.mono HB2.out.size))
  have HL3 := Lib.hid (HL2.out.below hB)
  have HF3 := Lib.hid (HF2.out.below hB)
  clear c0 c1
  obtain ⟨c0, c1⟩ := HF3.out
  clear hB
  try unfold Ret2
  go_wp2_with fail
  refine (of_any P M q H.out _).mono ?_
  rintro e w4 ⟨rfl, hB⟩
  have HB4 := Lib.hid (HB3.out.trans (hB.mono HB3.out.size))
  have HL4 := Lib.hid (HL3.out.below hB)
  have HF4 := Lib.hid (HF3.out.below hB)
  clear c0 c1
  obtain ⟨c0, c1⟩ := HF4.out
  clear hB
  try unfold Ret2
  have hbx := below1 w4 (kitBox P M q)
  have HK5 := Lib.hid (kitAt_new w4 P M q)
  have HB5 := Lib.hid (HB4.out.trans (hbx.mono HB4.out.size))
  have HL5 := Lib.hid (HL4.out.below hbx)
  have HF5 := Lib.hid (HF4.out.below hbx)
  clear hbx c0 c1
  unfold kitBox at HK5 HB5 HL5 HF5
  unfold kitV
  obtain ⟨c0, c1⟩ := HF5.out
  obtain ⟨k0, k1, k2, k3⟩ := HK5.out
  go_wp2_with fail
  refine (kitRoot_no P M q hq2 hq3 n (.inr ⟨by omega, HD.out⟩) _).mono ?_
  rintro e w6 ⟨rfl, hB⟩
  have HB6 := Lib.hid (HB5.out.trans (hB.mono HB5.out.size))
  have HL6 := Lib.hid (HL5.out.below hB)
  have HF6 := Lib.hid (HF5.out.below hB)
  clear c0 c1
  obtain ⟨c0, c1⟩ := HF6.out
  have HK6 := Lib.hid (HK5.out.low hB)
  clear k0 k1 k2 k3
  obtain ⟨k0, k1, k2, k3⟩ := HK6.out
  clear hB
  try unfold Ret2
  go_wp2_with fail
  refine (is_err 6 (by omega) _ _).mono ?_
  rintro e wq ⟨rfl, rfl⟩
  go_wp2_with fail
  refine (is_err 6 (by omega) _ _).mono ?_
  rintro e wq ⟨rfl, rfl⟩
  go_wp2_with fail
  refine (alive_any _ HL6.out).mono ?_
  rintro e w7 ⟨rfl, hB⟩
  have HB7 := Lib.hid (HB6.out.trans (hB.mono HB6.out.size))
  have HL7 := Lib.hid (HL6.out.below hB)
  have HF7 := Lib.hid (HF6.out.below hB)
  clear c0 c1
  obtain ⟨c0, c1⟩ := HF7.out
  clear hB
  try unfold Ret2
  go_wp2_with fail
  go_ret
  exact ⟨rfl, HB7.out⟩
set_option maxRecDepth 100000 in
set_option maxHeartbeats 4000000 in
theorem fr_not_bp (P M q : Nat) (h : Fld P M q) (n : Int) (hn : 1 ≤ n) (hn2 : 3000 < n) (hd : ¬ ((q : Int) - 1) % n = 0) (x : Int) (hx : 0 ≤ x) (hx2 : x ≤ 9223372036854775807) (w : World) (hL : Lays w) :
    Calls Tryd.prog 6 #[.agg #[.int .i64 (P : Int), .int .i64 (M : Int)], .int .i64 n, .int .i64 x] w fun r w' => r = .returned (.bool true) ∧ Below w.heap.size w w' := by
  have H := Lib.hid h
  have hq2 := h.q_ge
  have hq3 := h.q_le
  have e2 : (((q : Int) - 1) % n == 0) = false := by simpa using hd
  have e3 : (((q : Int) - 1) % n != 0) = true := by simpa using hd
  have HD := Lib.hid hd
  clear h hd
  have HB0 := Lib.hid (below1 w (.cells #[.int .i64 (P : Int), .int .i64 (M : Int)] 23))
  have HL0 := Lib.hid (hL.below HB0.out)
  have HF0 := Lib.hid (fAt_new w (P : Int) (M : Int))
  obtain ⟨c0, c1⟩ := HF0.out
  clear hL
  go_enter Tryd.func6, Tryd.ntmps6
  go_wp2_with fail
  refine (validR_ok P M q H.out _).mono ?_
  rintro e w1 ⟨rfl, hB⟩
  have HB1 := Lib.hid (HB0.out.trans (hB.mono HB0.out.size))
  have HL1 := Lib.hid (HL0.out.below hB)
  have HF1 := Lib.hid (HF0.out.below hB)
  clear c0 c1
  obtain ⟨c0, c1⟩ := HF1.out
  clear hB
  try unfold Ret2
  go_wp2_with fail
  refine (ordR_ok P M q H.out _).mono ?_
  rintro e w2 ⟨rfl, hB⟩
  have HB2 := Lib.hid (HB1.out.trans (hB.mono HB1.out.size))
  have HL2 := Lib.hid (HL1.out.below hB)
  have HF2 := Lib.hid (HF1.out.below hB)
  clear c0 c1
  obtain ⟨c0, c1⟩ := HF2.out
  clear hB
  try unfold Ret2
  go_wp2_with fail
  refine (root_bad P M q H.out n (.inr HD.out) 6 (if_neg (by omega)).symm _ HL2.out).mono ?_
  rintro e w3 ⟨rfl, hB⟩
  have HB3 := Lib.hid (HB2.out.trans (hB.mono HB2.out.size))
  have HL3 := Lib.hid (HL2.out.below hB)
  have HF3 := Lib.hid (HF2.out.below hB)
  clear c0 c1
  obtain ⟨c0, c1⟩ := HF3.out
  clear hB
  try unfold Ret2
  go_wp2_with fail
  refine (sum_bad P M q H.out n (.inr HD.out) 6 (if_neg (by omega)).symm x hx hx2 _ HL3.out).mono ?_
  rintro e w4 ⟨rfl, hB⟩
  have HB4 := Lib.hid (HB3.out.trans (hB.mono HB3.out.size))
  have HL4 := Lib.hid (HL3.out.below hB)
  have HF4 := Lib.hid (HF3.out.below hB)
  clear c0 c1
  obtain ⟨c0, c1⟩ := HF4.out
  clear hB
  try unfold Ret2
  go_wp2_with fail
  refine (validR_ok P M q H.out _).mono ?_
  rintro e w5 ⟨rfl, hB⟩
  have HB5 := Lib.hid (HB4.out.trans (hB.mono HB4.out.size))
  have HL5 := Lib.hid (HL4.out.below hB)
  have HF5 := Lib.hid (HF4.out.below hB)
  clear c0 c1
  obtain ⟨c0, c1⟩ := HF5.out
  clear hB
  try unfold Ret2
  go_wp2_with fail
  refine (of_any P M q H.out _).mono ?_
  rintro e w6 ⟨rfl, hB⟩
  have HB6 := Lib.hid (HB5.out.trans (hB.mono HB5.out.size))
  have HL6 := Lib.hid (HL5.out.below hB)
  have HF6 := Lib.hid (HF5.out.below hB)
  clear c0 c1
  obtain ⟨c0, c1⟩ := HF6.out
  clear hB
  try unfold Ret2
  have hbx := below1 w6 (kitBox P M q)
  have HK7 := Lib.hid (kitAt_new w6 P M q)
  have HB7 := Lib.hid (HB6.out.trans (hbx.mono HB6.out.size))
  have HL7 := Lib.hid (HL6.out.below hbx)
  have HF7 := Lib.hid (HF6.out.below hbx)
  clear hbx c0 c1
  unfold kitBox at HK7 HB7 HL7 HF7
  unfold kitV
  obtain ⟨c0, c1⟩ := HF7.out
  obtain ⟨k0, k1, k2, k3⟩ := HK7.out
  go_wp2_with fail
  refine (kitRoot_no P M q hq2 hq3 n (.inr ⟨by omega, HD.out⟩) _).mono ?_
  rintro e w8 ⟨rfl, hB⟩
  have HB8 := Lib.hid (HB7.out.trans (hB.mono HB7.out.size))
  have HL8 := Lib.hid (HL7.out.below hB)
  have HF8 := Lib.hid (HF7.out.below hB)
  clear c0 c1
  obtain ⟨c0, c1⟩ := HF8.out
  have HK8 := Lib.hid (HK7.out.low hB)
  clear k0 k1 k2 k3
  obtain ⟨k0, k1, k2, k3⟩ := HK8.out
  clear hB
  try unfold Ret2
  go_wp2_with fail
  refine (is_err 6 (by omega) _ _).mono ?_
  rintro e wq ⟨rfl, rfl⟩
  go_wp2_with fail
  refine (is_err 6 (by omega) _ _).mono ?_
  rintro e wq ⟨rfl, rfl⟩
  go_wp2_with fail
  refine (alive_any _ HL8.out).mono ?_
  rintro e w9 ⟨rfl, hB⟩
  have HB9 := Lib.hid (HB8.out.trans (hB.mono HB8.out.size))
  have HL9 := Lib.hid (HL8.out.below hB)
  have HF9 := Lib.hid (HF8.out.below hB)
  clear c0 c1
  obtain ⟨c0, c1⟩ := HF9.out
  clear hB
  try unfold Ret2
  go_wp2_with fail
  go_ret
  exact ⟨rfl, HB9.out⟩
set_option maxRecDepth 100000 in
set_option maxHeartbeats 4000000 in
theorem fr_yes_p (P M q : Nat) (h : Fld P M q) (n : Nat) (hn : 1 ≤ n) (hn2 : n ≤ 3000) (hd : (q - 1) % n = 0) (x : Nat) (hx : x < 9223372036854775808) (w : World) (hL : Lays w) :
    Calls Tryd.prog 6 #[.agg #[.int .i64 (P : Int), .int .i64 (M : Int)], .int .i64 n, .int .i64 x] w fun r w' => r = .returned (.bool true) ∧ Below w.heap.size w w' := by
  have H := Lib.hid h
  have hq2 := h.q_ge
  have hq3 := h.q_le
  have hki : ((q : Int) - 1) % (n : Int) = 0 := by
    have : ((q : Int) - 1) = ((q - 1 : Nat) : Int) := by omega
    rw [this, ← Int.natCast_emod, hd]; rfl
  have e2 : (((q : Int) - 1) % (n : Int) == 0) = true := by simpa using hki
  have e3 : (((q : Int) - 1) % (n : Int) != 0) = false := by simpa using hki
  obtain ⟨r, hr⟩ := h.root_ex (n := n) (by omega) hd
  have HR := Lib.hid hr
  have HD := Lib.hid hd
  clear h hd hki hr
  have HB0 := Lib.hid (below1 w (.cells #[.int .i64 (P : Int), .int .i64 (M : Int)] 23))
  have HL0 := Lib.hid (hL.below HB0.out)
  have HF0 := Lib.hid (fAt_new w (P : Int) (M : Int))
  obtain ⟨c0, c1⟩ := HF0.out
  clear hL
  go_enter Tryd.func6, Tryd.ntmps6
  go_wp2_with fail
  refine (root_is P M q n r H.out hn HD.out HR.out _ HL0.out).mono ?_
  rintro e w1 ⟨rfl, hB⟩
  have HB1 := Lib.hid (HB0.out.trans (hB.mono HB0.out.size))
  have HL1 := Lib.hid (HL0.out.below hB)
  have HF1 := Lib.hid (HF0.out.below hB)
  clear c0 c1
  obtain ⟨c0, c1⟩ := HF1.out
  clear hB
  try unfold Ret2
  go_wp2_with fail
  refine (sum_is P M q n x H.out hn HD.out hx _ HL1.out).mono ?_
  rintro e w2 ⟨rfl, hB⟩
  have HB2 := Lib.hid (HB1.out.trans (hB.mono HB1.out.size))
  have HL2 := Lib.hid (HL1.out.below hB)
  have HF2 := Lib.hid (HF1.out.below hB)
  clear c0 c1
  obtain ⟨c0, c1⟩ := HF2.out
  clear hB
  try unfold Ret2
  go_wp2_with fail
  refine (validR_ok P M q H.out _).mono ?_
  rintro e w3 ⟨rfl, hB⟩
  have HB3 := Lib.hid (HB2.out.trans (hB.mono HB2.out.size))
  have HL3 := Lib.hid (HL2.out.below hB)
  have HF3 := Lib.hid (HF2.out.below hB)
  clear c0 c1
  obtain ⟨c0, c1⟩ := HF3.out
  clear hB
  try unfold Ret2
  go_wp2_with fail
  refine (of_any P M q H.out _).mono ?_
  rintro e w4 ⟨rfl, hB⟩
  have HB4 := Lib.hid (HB3.out.trans (hB.mono HB3.out.size))
  have HL4 := Lib.hid (HL3.out.below hB)
  have HF4 := Lib.hid (HF3.out.below hB)
  clear c0 c1
  obtain ⟨c0, c1⟩ := HF4.out
  clear hB
  try unfold Ret2
  have hbx := below1 w4 (kitBox P M q)
  have HK5 := Lib.hid (kitAt_new w4 P M q)
  have HB5 := Lib.hid (HB4.out.trans (hbx.mono HB4.out.size))
  have HL5 := Lib.hid (HL4.out.below hbx)
  have HF5 := Lib.hid (HF4.out.below hbx)
  clear hbx c0 c1
  unfold kitBox at HK5 HB5 HL5 HF5
  unfold kitV
  obtain ⟨c0, c1⟩ := HF5.out
  obtain ⟨k0, k1, k2, k3⟩ := HK5.out
  go_wp2_with fail
  refine (kitRoot_is P M q n r H.out hn HD.out HR.out _).mono ?_
  rintro e w6 ⟨rfl, hB⟩
  have HB6 := Lib.hid (HB5.out.trans (hB.mono HB5.out.size))
  have HL6 := Lib.hid (HL5.out.below hB)
  have HF6 := Lib.hid (HF5.out.below hB)
  clear c0 c1
  obtain ⟨c0, c1⟩ := HF6.out
  have HK6 := Lib.hid (HK5.out.low hB)
  clear k0 k1 k2 k3
  obtain ⟨k0, k1, k2, k3⟩ := HK6.out
  clear hB
  try unfold Ret2
  go_wp2_with fail
  refine (is_ok _ _ rfl _).mono ?_
  rintro e wq ⟨rfl, rfl⟩
  go_wp2_with fail
  refine (kitSum_is P M q n x r H.out hn (by omega) HD.out HR.out hx _).mono ?_
  rintro e w7 ⟨rfl, hB⟩
  have HB7 := Lib.hid (HB6.out.trans (hB.mono HB6.out.size))
  have HL7 := Lib.hid (HL6.out.below hB)
  have HF7 := Lib.hid (HF6.out.below hB)
  clear c0 c1
  obtain ⟨c0, c1⟩ := HF7.out
  have HK7 := Lib.hid (HK6.out.low hB)
  clear k0 k1 k2 k3
  obtain ⟨k0, k1, k2, k3⟩ := HK7.out
  clear hB
  try unfold Ret2
  go_wp2_with fail
  refine (is_ok _ _ rfl _).mono ?_
  rintro e wq ⟨rfl, rfl⟩
  go_wp2_with fail
  refine (alive_any _ HL7.out).mono ?_
  rintro e w8 ⟨rfl, hB⟩
  have HB8 := Lib.hid (HB7.out.trans (hB.mono HB7.out.size))
  have HL8 := Lib.hid (HL7.out.below hB)
  have HF8 := Lib.hid (HF7.out.below hB)
  clear c0 c1
  obtain ⟨c0, c1⟩ := HF8.out
  clear hB
  try unfold Ret2
  go_wp2_with fail
  go_ret
  exact ⟨rfl, HB8.out⟩
theorem fieldRoots_any (P M n x : Int) (hx : x ≤ 9223372036854775807) (w : World) (hL : Lays w) :
    Calls Tryd.prog 6 #[.agg #[.int .i64 P, .int .i64 M], .int .i64 n, .int .i64 x] w fun r w' => r = .returned (.bool true) ∧ Below w.heap.size w w' := by
  by_cases h : OkF P M
  · obtain ⟨P', M', q, rfl, rfl, hf⟩ := h.fld
    have hq2 := hf.q_ge
    by_cases h1 : n < 1
    · by_cases h2 : x < 0
      · exact fr_low_n P' M' q hf n h1 x h2 w hL
      · exact fr_low_p P' M' q hf n h1 x (by omega) hx w hL
    · by_cases hd : ((q : Int) - 1) % n = 0
      · by_cases hb : 3000 < n
        · exact fr_big P' M' q hf n x hb hd w hL
        · obtain ⟨k, rfl⟩ : ∃ k : Nat, n = k := ⟨n.toNat, by omega⟩
          have hdk : (q - 1) % k = 0 := by
            have e : ((q : Int) - 1) = ((q - 1 : Nat) : Int) := by omega
            rw [e, ← Int.natCast_emod] at hd
            omega
          by_cases h2 : x < 0
          · exact fr_yes_n P' M' q hf k (by omega) (by omega) hdk x h2 w hL
          · obtain ⟨y, rfl⟩ : ∃ y : Nat, x = y := ⟨x.toNat, by omega⟩
            exact fr_yes_p P' M' q hf k (by omega) (by omega) hdk y (by omega) w hL
      · by_cases hb : 3000 < n
        · by_cases h2 : x < 0
          · exact fr_not_bn P' M' q hf n (by omega) hb hd x h2 w hL
          · exact fr_not_bp P' M' q hf n (by omega) hb hd x (by omega) hx w hL
        · by_cases h2 : x < 0
          · exact fr_not_sn P' M' q hf n (by omega) (by omega) hd x h2 w hL
          · exact fr_not_sp P' M' q hf n (by omega) (by omega) hd x (by omega) hx w hL
  · by_cases hb : 3000 < n
    · exact fr_form_b P M h n x hb w hL
    · exact fr_form_s P M h n x (by omega) w hL
end Go.Proofs.YtfkeemhbehhclaaDoor
