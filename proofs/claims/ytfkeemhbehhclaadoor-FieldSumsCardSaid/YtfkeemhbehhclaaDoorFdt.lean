/-
  Add, Sub and Mul of package field return what the reference asks for: the law FieldMakes's walk.
-/
import Derived.Test.YtfkeemhbehhclaaDoorFdr
import Derived.Deep.RegionHeld3

namespace Go.Proofs.YtfkeemhbehhclaaDoor
open Go.RowKit

set_option maxRecDepth 100000 in
set_option maxHeartbeats 2000000 in
theorem fm_no (P M a b : Int) (h : ¬ OkF P M) (w : World) (hL : Lays w) :
    Calls Tryd.prog 4 #[.agg #[.int .i64 P, .int .i64 M], .int .i64 a, .int .i64 b] w fun e w' => e = .returned (.bool true) ∧ Below w.heap.size w w' := by
  have H := Lib.hid h
  clear h
  have HB0 := Lib.hid (below1 w (.cells #[.int .i64 P, .int .i64 M] 23))
  have HL0 := Lib.hid (hL.below HB0.out)
  have HF0 := Lib.hid (fAt_new w P M)
  obtain ⟨c0, c1⟩ := HF0.out
  clear hL
  go_enter Tryd.func4, Tryd.ntmps4
  go_wp2_with fail
  refine (Add_form P M a b H.out _ HL0.out).mono ?_
  rintro e w1 ⟨rfl, hB⟩
  have HB1 := Lib.hid (HB0.out.trans (hB.mono HB0.out.size))
  have HL1 := Lib.hid (HL0.out.below hB)
  have HF1 := Lib.hid (HF0.out.below hB)
  clear c0 c1
  obtain ⟨c0, c1⟩ := HF1.out
  clear hB
  try unfold Ret2
  go_wp2_with fail
  refine (Sub_form P M a b H.out _ HL1.out).mono ?_
  rintro e w2 ⟨rfl, hB⟩
  have HB2 := Lib.hid (HB1.out.trans (hB.mono HB1.out.size))
  have HL2 := Lib.hid (HL1.out.below hB)
  have HF2 := Lib.hid (HF1.out.below hB)
  clear c0 c1
  obtain ⟨c0, c1⟩ := HF2.out
  clear hB
  try unfold Ret2
  go_wp2_with fail
  refine (Mul_form P M a b H.out _ HL2.out).mono ?_
  rintro e w3 ⟨rfl, hB⟩
  have HB3 := Lib.hid (HB2.out.trans (hB.mono HB2.out.size))
  have HL3 := Lib.hid (HL2.out.below hB)
  have HF3 := Lib.hid (HF2.out.below hB)
  clear c0 c1
  obtain ⟨c0, c1⟩ := HF3.out
  clear hB
  try unfold Ret2
  go_wp2_with fail
  refine (validR_no P M H.out _).mono ?_
  rintro e w4 ⟨rfl, hB⟩
  have HB4 := Lib.hid (HB3.out.trans (hB.mono HB3.out.size))
  have HL4 := Lib.hid (HL3.out.below hB)
  have HF4 := Lib.hid (HF3.out.below hB)
  clear c0 c1
  obtain ⟨c0, c1⟩ := HF4.out
  clear hB
  try unfold Ret2
  go_wp2_with fail
  refine (is_err 1 (by omega) _ _).mono ?_
  rintro e wq ⟨rfl, rfl⟩
  go_wp2_with fail
  refine (is_err 1 (by omega) _ _).mono ?_
  rintro e wq ⟨rfl, rfl⟩
  go_wp2_with fail
  refine (is_err 1 (by omega) _ _).mono ?_
  rintro e wq ⟨rfl, rfl⟩
  go_wp2_with fail
  refine (alive_any _ HL4.out).mono ?_
  rintro e w5 ⟨rfl, hB⟩
  have HB5 := Lib.hid (HB4.out.trans (hB.mono HB4.out.size))
  have HL5 := Lib.hid (HL4.out.below hB)
  have HF5 := Lib.hid (HF4.out.below hB)
  clear c0 c1
  obtain ⟨c0, c1⟩ := HF5.out
  clear hB
  try unfold Ret2
  go_wp2_with fail
  go_ret
  exact ⟨rfl, HB5.out⟩
set_option maxRecDepth 100000 in
set_option maxHeartbeats 2000000 in
theorem fm_arg1 (P M q : Nat) (h : Fld P M q) (a b : Int) (ha : ¬ InQ q a) (w : World) (hL : Lays w) :
    Calls Tryd.prog 4 #[.agg #[.int .i64 (P : Int), .int .i64 (M : Int)], .int .i64 a, .int .i64 b] w fun e w' => e = .returned (.bool true) ∧ Below w.heap.size w w' := by
  have H := Lib.hid h
  have HA := Lib.hid ha
  have HAB : Hid (¬ (InQ q a ∧ InQ q b)) := fun h => ha h.1
  clear h ha
  have HB0 := Lib.hid (below1 w (.cells #[.int .i64 (P : Int), .int .i64 (M : Int)] 23))
  have HL0 := Lib.hid (hL.below HB0.out)
  have HF0 := Lib.hid (fAt_new w (P : Int) (M : Int))
  obtain ⟨c0, c1⟩ := HF0.out
  clear hL
  go_enter Tryd.func4, Tryd.ntmps4
  go_wp2_with fail
  refine (Add_arg P M q H.out a b HAB.out _ HL0.out).mono ?_
  rintro e w1 ⟨rfl, hB⟩
  have HB1 := Lib.hid (HB0.out.trans (hB.mono HB0.out.size))
  have HL1 := Lib.hid (HL0.out.below hB)
  have HF1 := Lib.hid (HF0.out.below hB)
  clear c0 c1
  obtain ⟨c0, c1⟩ := HF1.out
  clear hB
  try unfold Ret2
  go_wp2_with fail
  refine (Sub_arg P M q H.out a b HAB.out _ HL1.out).mono ?_
  rintro e w2 ⟨rfl, hB⟩
  have HB2 := Lib.hid (HB1.out.trans (hB.mono HB1.out.size))
  have HL2 := Lib.hid (HL1.out.below hB)
  have HF2 := Lib.hid (HF1.out.below hB)
  clear c0 c1
  obtain ⟨c0, c1⟩ := HF2.out
  clear hB
  try unfold Ret2
  go_wp2_with fail
  refine (Mul_arg P M q H.out a b HAB.out _ HL2.out).mono ?_
  rintro e w3 ⟨rfl, hB⟩
  have HB3 := Lib.hid (HB2.out.trans (hB.mono HB2.out.size))
  have HL3 := Lib.hid (HL2.out.below hB)
  have HF3 := Lib.hid (HF2.out.below hB)
  clear c0 c1
  obtain ⟨c0, c1⟩ := HF3.out
  clear hB
  try unfold Ret2
  go_wp2_with fail
  refine (validR_ok P M q H.out _).mono ?_
  rintro e w4 ⟨rfl, hB⟩
  have HB4 := Lib.hid (HB3.out.trans (hB.mono HB3.out.size))
  have HL4 := Lib.hid (HL3.out.below hB)
  have HF4 := Lib.hid (HF3.out.below hB)
  clear c0 c1
  obtain ⟨c0, c1⟩ := HF4.out
  clear hB
  try unfold Ret2
  go_wp2_with fail
  refine (of_any P M q H.out _).mono ?_
  rintro e w5 ⟨rfl, hB⟩
  have HB5 := Lib.hid (HB4.out.trans (hB.mono HB4.out.size))
  have HL5 := Lib.hid (HL4.out.below hB)
  have HF5 := Lib.hid (HF4.out.below hB)
  clear c0 c1
  obtain ⟨c0, c1⟩ := HF5.out
  clear hB
  try unfold Ret2
  have hbx := below1 w5 (kitBox P M q)
  have HK6 := Lib.hid (kitAt_new w5 P M q)
  have HB6 := Lib.hid (HB5.out.trans (hbx.mono HB5.out.size))
  have HL6 := Lib.hid (HL5.out.below hbx)
  have HF6 := Lib.hid (HF5.out.below hbx)
  clear hbx c0 c1
  unfold kitBox at HK6 HB6 HL6 HF6
  unfold kitV
  obtain ⟨c0, c1⟩ := HF6.out
  obtain ⟨k0, k1, k2, k3⟩ := HK6.out
  go_wp2_with fail
  refine (kitIs_no P M q a HA.out _).mono ?_
  rintro e w7 ⟨rfl, hB⟩
  have HB7 := Lib.hid (HB6.out.trans (hB.mono HB6.out.size))
  have HL7 := Lib.hid (HL6.out.below hB)
  have HF7 := Lib.hid (HF6.out.below hB)
  clear c0 c1
  obtain ⟨c0, c1⟩ := HF7.out
  have HK7 := Lib.hid (HK6.out.low hB)
  clear k0 k1 k2 k3
  obtain ⟨k0, k1, k2, k3⟩ := HK7.out
  clear hB
  try unfold Ret2
  go_wp2_with fail
  refine (is_err 2 (by omega) _ _).mono ?_
  rintro e wq ⟨rfl, rfl⟩
  go_wp2_with fail
  refine (is_err 2 (by omega) _ _).mono ?_
  rintro e wq ⟨rfl, rfl⟩
  go_wp2_with fail
  refine (is_err 2 (by omega) _ _).mono ?_
  rintro e wq ⟨rfl, rfl⟩
  go_wp2_with fail
  refine (alive_any _ HL7.out).mono ?_
  rintro e w8 ⟨rfl, hB⟩
  have HB8 := Lib.hid (HB7.out.trans (hB.mono HB7.out.size))
  have HL8 := Lib.hid (HL7.out.below hB)
  have HF8 := Lib.hid (HF7.out.below hB)
  clear c0 c1
  obtain ⟨c0, c1⟩ := HF8.out
  clear hB
  try unfold Ret2
  go_wp2_with fail
  go_ret
  exact ⟨rfl, HB8.out⟩
set_option maxRecDepth 100000 in
set_option maxHeartbeats 2000000 in
theorem fm_arg2 (P M q : Nat) (h : Fld P M q) (a b : Int) (ha : InQ q a) (hb : ¬ InQ q b) (w : World) (hL : Lays w) :
    Calls Tryd.prog 4 #[.agg #[.int .i64 (P : Int), .int .i64 (M : Int)], .int .i64 a, .int .i64 b] w fun e w' => e = .returned (.bool true) ∧ Below w.heap.size w w' := by
  have H := Lib.hid h
  have HA := Lib.hid ha
  have HQ := Lib.hid hb
  have HAB : Hid (¬ (InQ q a ∧ InQ q b)) := fun h => hb h.2
  clear h ha hb
  have HB0 := Lib.hid (below1 w (.cells #[.int .i64 (P : Int), .int .i64 (M : Int)] 23))
  have HL0 := Lib.hid (hL.below HB0.out)
  have HF0 := Lib.hid (fAt_new w (P : Int) (M : Int))
  obtain ⟨c0, c1⟩ := HF0.out
  clear hL
  go_enter Tryd.func4, Tryd.ntmps4
  go_wp2_with fail
  refine (Add_arg P M q H.out a b HAB.out _ HL0.out).mono ?_
  rintro e w1 ⟨rfl, hB⟩
  have HB1 := Lib.hid (HB0.out.trans (hB.mono HB0.out.size))
  have HL1 := Lib.hid (HL0.out.below hB)
  have HF1 := Lib.hid (HF0.out.below hB)
  clear c0 c1
  obtain ⟨c0, c1⟩ := HF1.out
  clear hB
  try unfold Ret2
  go_wp2_with fail
  refine (Sub_arg P M q H.out a b HAB.out _ HL1.out).mono ?_
  rintro e w2 ⟨rfl, hB⟩
  have HB2 := Lib.hid (HB1.out.trans (hB.mono HB1.out.size))
  have HL2 := Lib.hid (HL1.out.below hB)
  have HF2 := Lib.hid (HF1.out.below hB)
  clear c0 c1
  obtain ⟨c0, c1⟩ := HF2.out
  clear hB
  try unfold Ret2
  go_wp2_with fail
  refine (Mul_arg P M q H.out a b HAB.out _ HL2.out).mono ?_
  rintro e w3 ⟨rfl, hB⟩
  have HB3 := Lib.hid (HB2.out.trans (hB.mono HB2.out.size))
  have HL3 := Lib.hid (HL2.out.below hB)
  have HF3 := Lib.hid (HF2.out.below hB)
  clear c0 c1
  obtain ⟨c0, c1⟩ := HF3.out
  clear hB
  try unfold Ret2
  go_wp2_with fail
  refine (validR_ok P M q H.out _).mono ?_
  rintro e w4 ⟨rfl, hB⟩
  have HB4 := Lib.hid (HB3.out.trans (hB.mono HB3.out.size))
  have HL4 := Lib.hid (HL3.out.below hB)
  have HF4 := Lib.hid (HF3.out.below hB)
  clear c0 c1
  obtain ⟨c0, c1⟩ := HF4.out
  clear hB
  try unfold Ret2
  go_wp2_with fail
  refine (of_any P M q H.out _).mono ?_
  rintro e w5 ⟨rfl, hB⟩
  have HB5 := Lib.hid (HB4.out.trans (hB.mono HB4.out.size))
  have HL5 := Lib.hid (HL4.out.below hB)
  have HF5 := Lib.hid (HF4.out.below hB)
  clear c0 c1
  obtain ⟨c0, c1⟩ := HF5.out
  clear hB
  try unfold Ret2
  have hbx := below1 w5 (kitBox P M q)
  have HK6 := Lib.hid (kitAt_new w5 P M q)
  have HB6 := Lib.hid (HB5.out.trans (hbx.mono HB5.out.size))
  have HL6 := Lib.hid (HL5.out.below hbx)
  have HF6 := Lib.hid (HF5.out.below hbx)
  clear hbx c0 c1
  unfold kitBox at HK6 HB6 HL6 HF6
  unfold kitV
  obtain ⟨c0, c1⟩ := HF6.out
  obtain ⟨k0, k1, k2, k3⟩ := HK6.out
  go_wp2_with fail
  refine (kitIs_yes P M q a HA.out _).mono ?_
  rintro e w7 ⟨rfl, hB⟩
  have HB7 := Lib.hid (HB6.out.trans (hB.mono HB6.out.size))
  have HL7 := Lib.hid (HL6.out.below hB)
  have HF7 := Lib.hid (HF6.out.below hB)
  clear c0 c1
  obtain ⟨c0, c1⟩ := HF7.out
  have HK7 := Lib.hid (HK6.out.low hB)
  clear k0 k1 k2 k3
  obtain ⟨k0, k1, k2, k3⟩ := HK7.out
  clear hB
  try unfold Ret2
  go_wp2_with fail
  refine (kitIs_no P M q b HQ.out _).mono ?_
  rintro e w8 ⟨rfl, hB⟩
  have HB8 := Lib.hid (HB7.out.trans (hB.mono HB7.out.size))
  have HL8 := Lib.hid (HL7.out.below hB)
  have HF8 := Lib.hid (HF7.out.below hB)
  clear c0 c1
  obtain ⟨c0, c1⟩ := HF8.out
  have HK8 := Lib.hid (HK7.out.low hB)
  clear k0 k1 k2 k3
  obtain ⟨k0, k1, k2, k3⟩ := HK8.out
  clear hB
  try unfold Ret2
  go_wp2_with fail
  refine (is_err 2 (by omega) _ _).mono ?_
  rintro e wq ⟨rfl, rfl⟩
  go_wp2_with fail
  refine (is_err 2 (by omega) _ _).mono ?_
  rintro e wq ⟨rfl, rfl⟩
  go_wp2_with fail
  refine (is_err 2 (by omega) _ _).mono ?_
  rintro e wq ⟨rfl, rfl⟩
  go_wp2_with fail
  refine (alive_any _ HL8.out).mono ?_
  rintro e w9 ⟨rfl, hB⟩
  have HB9 := Lib.hid (HB8.out.trans (hB.mono HB8.out.size))
  have HL9 := Lib.hid (HL8.out.below hB)
  have HF9 := Lib.hid (HF8.out.below hB)
  clear c0 c1
  obtain ⟨c0, c1⟩ := HF9.out
  clear hB
  try unfold Ret2
  go_wp2_with fail
  go_ret
  exact ⟨rfl, HB9.out⟩
/-- What holds of the world from the kit on. -/
def St (w0 : World) (g P M q : Nat) (w : World) : Prop := Below w0.heap.size w0 w ∧ Lays w ∧ FAt w w0.heap.size P M ∧ KitAt w g P M q
theorem St.step {w0 w w1 : World} {g P M q : Nat} (h : St w0 g P M q w) (hB : Below w.heap.size w w1) : St w0 g P M q w1 :=
  ⟨h.1.trans (hB.mono h.1.size), h.2.1.below hB, h.2.2.1.below hB, h.2.2.2.low hB⟩
theorem St.bel {w0 w : World} {g P M q : Nat} (h : St w0 g P M q w) : Below w0.heap.size w0 w := h.1
theorem St.lays {w0 w : World} {g P M q : Nat} (h : St w0 g P M q w) : Lays w := h.2.1
theorem fm_sub {P M q a b : Nat} (h : Fld P M q) : ((subN P M a b : Nat) : Int) = ((addN P M a (negN P M b) : Nat) : Int) := by rw [h.add_neg]
theorem kitAdd' (P M q a b : Nat) (hf : Fld P M q) (ha : a < q) (hb : b < q) (w : World) :
    Calls Tryd.prog 23 #[.agg #[.int .i64 (P : Int), .int .i64 (M : Int), .int .i64 (q : Int), .int .i64 (modOf M : Int)], .int .i64 a, .int .i64 b] w fun e w' => e = .returned (.int .i64 (addN P M a b : Nat)) ∧ Below w.heap.size w w' := kitAdd P M q a b hf ha hb w
theorem kitNeg' (P M q a : Nat) (hf : Fld P M q) (ha : a < q) (w : World) :
    Calls Tryd.prog 24 #[.agg #[.int .i64 (P : Int), .int .i64 (M : Int), .int .i64 (q : Int), .int .i64 (modOf M : Int)], .int .i64 a] w fun e w' => e = .returned (.int .i64 (negN P M a : Nat)) ∧ Below w.heap.size w w' := kitNeg P M q a hf ha w
theorem kitMul' (P M q a b : Nat) (hf : Fld P M q) (ha : a < q) (hb : b < q) (w : World) :
    Calls Tryd.prog 25 #[.agg #[.int .i64 (P : Int), .int .i64 (M : Int), .int .i64 (q : Int), .int .i64 (modOf M : Int)], .int .i64 a, .int .i64 b] w fun e w' => e = .returned (.int .i64 (mulN P M a b : Nat)) ∧ Below w.heap.size w w' := kitMul P M q a b hf ha hb w
theorem St.drew {w0 w : World} {g P M q : Nat} (h : St w0 g P M q w) : St w0 g P M q w.drew := ⟨h.1.drew, h.2.1, h.2.2.1, h.2.2.2⟩

set_option maxRecDepth 100000 in
set_option maxHeartbeats 2000000 in
theorem fm_ok (P M q : Nat) (h : Fld P M q) (a b : Nat) (ha : a < q) (hb : b < q) (w : World) (hL : Lays w) :
    Calls Tryd.prog 4 #[.agg #[.int .i64 (P : Int), .int .i64 (M : Int)], .int .i64 a, .int .i64 b] w fun e w' => e = .returned (.bool true) ∧ Below w.heap.size w w' := by
  have H := Lib.hid h
  clear h
  have HB0 := Lib.hid (below1 w (.cells #[.int .i64 (P : Int), .int .i64 (M : Int)] 23))
  have HL0 := Lib.hid (hL.below HB0.out)
  have HF0 := Lib.hid (fAt_new w (P : Int) (M : Int))
  obtain ⟨c0, c1⟩ := HF0.out
  clear hL
  go_enter Tryd.func4, Tryd.ntmps4
  go_wp2_with fail
  refine (Add_ok P M q H.out a b ha hb _ HL0.out).mono ?_
  rintro e w1 ⟨rfl, hB⟩
  have HB1 := Lib.hid (HB0.out.trans (hB.mono HB0.out.size))
  have HL1 := Lib.hid (HL0.out.below hB)
  have HF1 := Lib.hid (HF0.out.below hB)
  clear c0 c1
  obtain ⟨c0, c1⟩ := HF1.out
  clear hB
  try unfold Ret2
  go_wp2_with fail
  refine (Sub_ok P M q H.out a b ha hb _ HL1.out).mono ?_
  rintro e w2 ⟨rfl, hB⟩
  have HB2 := Lib.hid (HB1.out.trans (hB.mono HB1.out.size))
  have HL2 := Lib.hid (HL1.out.below hB)
  have HF2 := Lib.hid (HF1.out.below hB)
  clear c0 c1
  obtain ⟨c0, c1⟩ := HF2.out
  clear hB
  try unfold Ret2
  go_wp2_with fail
  refine (Mul_ok P M q H.out a b ha hb _ HL2.out).mono ?_
  rintro e w3 ⟨rfl, hB⟩
  have HB3 := Lib.hid (HB2.out.trans (hB.mono HB2.out.size))
  have HL3 := Lib.hid (HL2.out.below hB)
  have HF3 := Lib.hid (HF2.out.below hB)
  clear c0 c1
  obtain ⟨c0, c1⟩ := HF3.out
  clear hB
  try unfold Ret2
  go_wp2_with fail
  refine (validR_ok P M q H.out _).mono ?_
  rintro e w4 ⟨rfl, hB⟩
  have HB4 := Lib.hid (HB3.out.trans (hB.mono HB3.out.size))
  have HL4 := Lib.hid (HL3.out.below hB)
  have HF4 := Lib.hid (HF3.out.below hB)
  clear c0 c1
  obtain ⟨c0, c1⟩ := HF4.out
  clear hB
  try unfold Ret2
  go_wp2_with fail
  refine (of_any P M q H.out _).mono ?_
  rintro e w5 ⟨rfl, hB⟩
  have HB5 := Lib.hid (HB4.out.trans (hB.mono HB4.out.size))
  have HL5 := Lib.hid (HL4.out.below hB)
  have HF5 := Lib.hid (HF4.out.below hB)
  clear c0 c1
  obtain ⟨c0, c1⟩ := HF5.out
  clear hB
  try unfold Ret2
  have hbx := below1 w5 (kitBox P M q)
  have HK6 := Lib.hid (kitAt_new w5 P M q)
  have HB6 := Lib.hid (HB5.out.trans (hbx.mono HB5.out.size))
  have HL6 := Lib.hid (HL5.out.below hbx)
  have HF6 := Lib.hid (HF5.out.below hbx)
  clear hbx c0 c1
  unfold kitBox at HK6 HB6 HL6 HF6
  unfold kitV
  obtain ⟨c0, c1⟩ := HF6.out
  obtain ⟨k0, k1, k2, k3⟩ := HK6.out
  go_wp2_with fail
  refine (kitIs_yes P M q a (inq_of ha) _).mono ?_
  rintro e w7 ⟨rfl, hB⟩
  have HB7 := Lib.hid (HB6.out.trans (hB.mono HB6.out.size))
  have HL7 := Lib.hid (HL6.out.below hB)
  have HF7 := Lib.hid (HF6.out.below hB)
  clear c0 c1
  obtain ⟨c0, c1⟩ := HF7.out
  have HK7 := Lib.hid (HK6.out.low hB)
  clear k0 k1 k2 k3
  obtain ⟨k0, k1, k2, k3⟩ := HK7.out
  clear hB
  try unfold Ret2
  go_wp2_with fail
  refine (kitIs_yes P M q b (inq_of hb) _).mono ?_
  rintro e w8 ⟨rfl, hB⟩
  have HB8 := Lib.hid (HB7.out.trans (hB.mono HB7.out.size))
  have HL8 := Lib.hid (HL7.out.below hB)
  have HF8 := Lib.hid (HF7.out.below hB)
  clear c0 c1
  obtain ⟨c0, c1⟩ := HF8.out
  have HK8 := Lib.hid (HK7.out.low hB)
  clear k0 k1 k2 k3
  obtain ⟨k0, k1, k2, k3⟩ := HK8.out
  clear hB
  try unfold Ret2
  have st : St w w5.heap.size P M q w8.drew := ⟨HB8.out.drew, HL8.out, HF8.out, HK8.out⟩
  obtain ⟨j0, j1, j2, j3⟩ := st.2.2.2
  clear c0 c1 k0 k1 k2 k3
  go_wp2_with fail
  go_region_held3 (fun w' => St w w5.heap.size P M q w' ∧ w'.cell? ⟨w5.heap.size, 0, none⟩ = some (.int .i64 (P : Int)) ∧ w'.cell? ⟨w5.heap.size, 1, none⟩ = some (.int .i64 (M : Int)) ∧ w'.cell? ⟨w5.heap.size, 2, none⟩ = some (.int .i64 (q : Int)) ∧ w'.cell? ⟨w5.heap.size, 3, none⟩ = some (.int .i64 (modOf M : Int)))
    (first | (refine ⟨?_, ?_, ?_, ?_, ?_⟩ <;> assumption))
    (first
      | (go_at_call 23; (with_reducible refine (kitAdd' P M q a b H.out ha hb _).mono ?_); rintro e wx ⟨rfl, hB⟩; have sx := St.step (by assumption) hB; obtain ⟨y0, y1, y2, y3⟩ := sx.2.2.2; clear hB)
      | (go_at_call 23; (with_reducible refine (kitAdd' P M q a (negN P M b) H.out ha (H.out.negN_lt hb) _).mono ?_); rintro e wx ⟨rfl, hB⟩; have sx := St.step (by assumption) hB; obtain ⟨y0, y1, y2, y3⟩ := sx.2.2.2; clear hB)
      | (go_at_call 24; (with_reducible refine (kitNeg' P M q b H.out hb _).mono ?_); rintro e wx ⟨rfl, hB⟩; have sx := St.step (by assumption) hB; obtain ⟨y0, y1, y2, y3⟩ := sx.2.2.2; clear hB)
      | (go_at_call 25; (with_reducible refine (kitMul' P M q a b H.out ha hb _).mono ?_); rintro e wx ⟨rfl, hB⟩; have sx := St.step (by assumption) hB; obtain ⟨y0, y1, y2, y3⟩ := sx.2.2.2; clear hB)
      | (go_at_call 15; (with_reducible refine (is_ok _ _ rfl _).mono ?_); rintro e wx ⟨rfl, rfl⟩)
      | (go_at_call 15; (with_reducible refine (is_ok _ _ (fm_sub H.out) _).mono ?_); rintro e wx ⟨rfl, rfl⟩)
      | (go_at_call 16; refine (alive_any _ (St.lays (by assumption))).mono ?_; rintro e wx ⟨rfl, hB⟩; have sx := St.step (by assumption) hB; obtain ⟨y0, y1, y2, y3⟩ := sx.2.2.2; clear hB))
  all_goals
    go_wp2_with fail
    go_ret
    exact ⟨rfl, St.bel (by assumption)⟩
theorem fieldMakes_any (P M a b : Int) (w : World) (hL : Lays w) :
    Calls Tryd.prog 4 #[.agg #[.int .i64 P, .int .i64 M], .int .i64 a, .int .i64 b] w fun e w' => e = .returned (.bool true) ∧ Below w.heap.size w w' := by
  by_cases h : OkF P M
  · obtain ⟨P', M', q, rfl, rfl, hf⟩ := h.fld
    by_cases ha : InQ q a
    · by_cases hb : InQ q b
      · obtain ⟨a', rfl, ha'⟩ := inq_nat ha
        obtain ⟨b', rfl, hb'⟩ := inq_nat hb
        exact fm_ok P' M' q hf a' b' ha' hb' w hL
      · exact fm_arg2 P' M' q hf a b ha hb w hL
    · exact fm_arg1 P' M' q hf a b ha w hL
  · exact fm_no P M a b h w hL
end Go.Proofs.YtfkeemhbehhclaaDoor
