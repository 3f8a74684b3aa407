/-
  Contracts of Order, Modulus, Inverse and Power of package field, at every field and all numbers.
-/
import Derived.Test.YtiiopdomlepkmaaDoorFdf
namespace Go.Proofs.YtiiopdomlepkmaaDoor
open Go.RowKit

theorem one_inq {q : Nat} {a : Int} (h : ∀ x ∈ [a], InQ q x) : InQ q a := h a (by simp)
theorem one_not {q : Nat} {a : Int} (h : ∃ x ∈ [a], ¬ InQ q x) : ¬ InQ q a := by
  obtain ⟨x, hx, hn⟩ := h
  simp only [List.mem_cons, List.not_mem_nil, or_false] at hx
  subst hx
  exact hn
theorem below1 (w : World) (o : Obj) : Below w.heap.size w (w.alloc o) := (Below.refl _ w).alloc (Nat.le_refl _) _

theorem Order_form (P M : Int) (h : ¬ OkF P M) (w : World) (hL : Lays w) :
    Calls Tryd.prog 54 #[.agg #[.int .i64 P, .int .i64 M]] w fun e w' => e = .returned (.int .i64 0) ∧ Below w.heap.size w w' := by
  have H := Lib.hid (fun o v => open_no P M h v _ (hL.below (below1 w o)))
  clear hL h
  go_enter Tryd.func54, Tryd.ntmps54
  go_wp2_with fail
  refine (H.out _ _).mono ?_
  rintro e w1 ⟨rfl, hB⟩
  have HB := Lib.hid ((below1 w _).trans (hB.mono (below1 w _).size))
  clear hB
  go_wp2_with fail
  go_ret
  exact ⟨rfl, HB.out⟩
theorem Order_ok_p (q : Nat) (hf : Fld q 1 q) (w : World) (hL : Lays w) :
    Calls Tryd.prog 54 #[.agg #[.int .i64 (q : Int), .int .i64 1]] w fun e w' => e = .returned (.int .i64 (q : Nat)) ∧ Below w.heap.size w w' := by
  have H := Lib.hid (fun o => open_p q hf none [] 0 0 rfl (by omega) _ (hL.below (below1 w o)) (RdI.nil _ _))
  have HM := Lib.hid (fun w => p_order q w)
  have hmm := m_order_p q
  clear hL hf
  go_enter Tryd.func54, Tryd.ntmps54
  go_wp2_with fail
  refine (H.out _).mono ?_
  rintro e w1 ⟨hB, ⟨hO, rfl⟩ | ⟨hO, rfl⟩⟩
  case inr =>
    obtain ⟨x, hx, _⟩ := hO
    cases hx
  have HB := Lib.hid ((below1 w _).trans (hB.mono (below1 w _).size))
  clear hB hO
  go_wp2_with fail
  refine (HM.out _).mono ?_
  rintro e w2 ⟨rfl, rfl⟩
  go_wp2_with fail
  go_ret
  exact ⟨rfl, HB.out⟩
theorem Order_ok_q (M q : Nat) (hM : 2 ≤ M) (hf : Fld 2 M q) (w : World) (hL : Lays w) :
    Calls Tryd.prog 54 #[.agg #[.int .i64 2, .int .i64 (M : Int)]] w fun e w' => e = .returned (.int .i64 (q : Nat)) ∧ Below w.heap.size w w' := by
  have H := Lib.hid (fun o => open_q M q hM hf none [] 0 0 rfl (by omega) _ (hL.below (below1 w o)) (RdI.nil _ _))
  have HM := Lib.hid (fun w => q_order M q hf.m_le (hf.q_eq hM) w)
  have hmm := m_order_q M
  clear hL hf
  go_enter Tryd.func54, Tryd.ntmps54
  go_wp2_with fail
  refine (H.out _).mono ?_
  rintro e w1 ⟨hB, ⟨hO, rfl⟩ | ⟨hO, rfl⟩⟩
  case inr =>
    obtain ⟨x, hx, _⟩ := hO
    cases hx
  have HB := Lib.hid ((below1 w _).trans (hB.mono (below1 w _).size))
  clear hB hO
  go_wp2_with fail
  refine (HM.out _).mono ?_
  rintro e w2 ⟨rfl, rfl⟩
  go_wp2_with fail
  go_ret
  exact ⟨rfl, HB.out⟩

theorem Order_ok (P M q : Nat) (hf : Fld P M q) (w : World) (hL : Lays w) :
    Calls Tryd.prog 54 #[.agg #[.int .i64 (P : Int), .int .i64 (M : Int)]] w fun e w' => e = .returned (.int .i64 (q : Nat)) ∧ Below w.heap.size w w' := by
  rcases hf.cases with ⟨rfl, rfl⟩ | ⟨rfl, hM⟩
  · exact Order_ok_p _ hf w hL
  · exact Order_ok_q M q hM hf w hL

theorem Power_form (P M a k : Int) (h : ¬ OkF P M) (w : World) (hL : Lays w) :
    Calls Tryd.prog 88 #[.agg #[.int .i64 P, .int .i64 M], .int .i64 a, .int .i64 k] w fun e w' => e = Ret2 0 1 ∧ Below w.heap.size w w' := by
  have H := Lib.hid (fun o o' v => open_no P M h v _ (hL.below (below2 w o o')))
  clear hL h
  go_enter Tryd.func88, Tryd.ntmps88
  go_wp2_with fail
  refine (H.out _ _ _).mono ?_
  rintro e w1 ⟨rfl, hB⟩
  have HB := Lib.hid ((below2 w _ _).trans (hB.mono (below2 w _ _).size))
  clear hB
  go_wp2_with fail
  go_ret2
  exact ⟨rfl, HB.out⟩
set_option maxHeartbeats 400000 in
theorem Power_arg_p (q : Nat) (hf : Fld q 1 q) (a k : Int) (ha : ¬ InQ q a) (w : World) (hL : Lays w) :
    Calls Tryd.prog 88 #[.agg #[.int .i64 (q : Int), .int .i64 1], .int .i64 a, .int .i64 k] w fun e w' => e = Ret2 0 2 ∧ Below w.heap.size w w' := by
  have H := Lib.hid (fun o => open_p q hf (some ⟨w.heap.size + 1, 0, none⟩) [a] 1 1 rfl (by omega) _ (hL.below (below2 w o _)) (rd1 w o a))
  have HA := Lib.hid ha
  clear hL ha hf
  go_enter Tryd.func88, Tryd.ntmps88
  go_wp2_with fail
  refine (H.out _).mono ?_
  rintro e w1 ⟨hB, ⟨hO, rfl⟩ | ⟨hO, rfl⟩⟩
  case inl => exact absurd (one_inq hO) HA.out
  have HB := Lib.hid ((below2 w _ _).trans (hB.mono (below2 w _ _).size))
  clear hB hO
  go_wp2_with fail
  go_ret2
  exact ⟨rfl, HB.out⟩
set_option maxHeartbeats 400000 in
theorem Power_neg_p (q : Nat) (hf : Fld q 1 q) (a : Nat) (k : Int) (ha : a < q) (hk : k < 0) (w : World) (hL : Lays w) :
    Calls Tryd.prog 88 #[.agg #[.int .i64 (q : Int), .int .i64 1], .int .i64 a, .int .i64 k] w fun e w' => e = Ret2 0 2 ∧ Below w.heap.size w w' := by
  have H := Lib.hid (fun o => open_p q hf (some ⟨w.heap.size + 1, 0, none⟩) [(a : Int)] 1 1 rfl (by omega) _ (hL.below (below2 w o _)) (rd1 w o (a : Int)))
  clear hL hf
  go_enter Tryd.func88, Tryd.ntmps88
  go_wp2_with fail
  refine (H.out _).mono ?_
  rintro e w1 ⟨hB, ⟨hO, rfl⟩ | ⟨hO, rfl⟩⟩
  case inr => exact absurd (inq_of ha) (one_not hO)
  have HB := Lib.hid ((below2 w _ _).trans (hB.mono (below2 w _ _).size))
  clear hB hO
  go_wp2_with fail
  go_ret2
  exact ⟨rfl, HB.out⟩
set_option maxHeartbeats 400000 in
theorem Power_ok_p (q : Nat) (hf : Fld q 1 q) (a k : Nat) (ha : a < q) (hk : k < 9223372036854775808) (w : World) (hL : Lays w) :
    Calls Tryd.prog 88 #[.agg #[.int .i64 (q : Int), .int .i64 1], .int .i64 a, .int .i64 k] w fun e w' => e = Ret2 (powN q 1 a k : Nat) 0 ∧ Below w.heap.size w w' := by
  have H := Lib.hid (fun o => open_p q hf (some ⟨w.heap.size + 1, 0, none⟩) [(a : Int)] 1 1 rfl (by omega) _ (hL.below (below2 w o _)) (rd1 w o (a : Int)))
  have HP := Lib.hid (fun w hL => power_p q hf a k ha hk w hL)
  have HL := Lib.hid hL
  clear hL hf
  go_enter Tryd.func88, Tryd.ntmps88
  go_wp2_with fail
  refine (H.out _).mono ?_
  rintro e w1 ⟨hB, ⟨hO, rfl⟩ | ⟨hO, rfl⟩⟩
  case inr => exact absurd (inq_of ha) (one_not hO)
  have HB := Lib.hid ((below2 w _ _).trans (hB.mono (below2 w _ _).size))
  clear hB hO
  have HL1 := Lib.hid (HL.out.below HB.out)
  go_wp2_with fail
  refine (HP.out _ HL1.out).mono ?_
  rintro e w3 ⟨rfl, rfl⟩
  go_wp2_with fail
  go_ret2
  exact ⟨rfl, HB.out⟩
set_option maxHeartbeats 400000 in
theorem Power_arg_q (M q : Nat) (hM : 2 ≤ M) (hf : Fld 2 M q) (a k : Int) (ha : ¬ InQ q a) (w : World) (hL : Lays w) :
    Calls Tryd.prog 88 #[.agg #[.int .i64 2, .int .i64 (M : Int)], .int .i64 a, .int .i64 k] w fun e w' => e = Ret2 0 2 ∧ Below w.heap.size w w' := by
  have H := Lib.hid (fun o => open_q M q hM hf (some ⟨w.heap.size + 1, 0, none⟩) [a] 1 1 rfl (by omega) _ (hL.below (below2 w o _)) (rd1 w o a))
  have HA := Lib.hid ha
  clear hL ha hf
  go_enter Tryd.func88, Tryd.ntmps88
  go_wp2_with fail
  refine (H.out _).mono ?_
  rintro e w1 ⟨hB, ⟨hO, rfl⟩ | ⟨hO, rfl⟩⟩
  case inl => exact absurd (one_inq hO) HA.out
  have HB := Lib.hid ((below2 w _ _).trans (hB.mono (below2 w _ _).size))
  clear hB hO
  go_wp2_with fail
  go_ret2
  exact ⟨rfl, HB.out⟩
set_option maxHeartbeats 400000 in
theorem Power_neg_q (M q : Nat) (hM : 2 ≤ M) (hf : Fld 2 M q) (a : Nat) (k : Int) (ha : a < q) (hk : k < 0) (w : World) (hL : Lays w) :
    Calls Tryd.prog 88 #[.agg #[.int .i64 2, .int .i64 (M : Int)], .int .i64 a, .int .i64 k] w fun e w' => e = Ret2 0 2 ∧ Below w.heap.size w w' := by
  have H := Lib.hid (fun o => open_q M q hM hf (some ⟨w.heap.size + 1, 0, none⟩) [(a : Int)] 1 1 rfl (by omega) _ (hL.below (below2 w o _)) (rd1 w o (a : Int)))
  clear hL hf
  go_enter Tryd.func88, Tryd.ntmps88
  go_wp2_with fail
  refine (H.out _).mono ?_
  rintro e w1 ⟨hB, ⟨hO, rfl⟩ | ⟨hO, rfl⟩⟩
  case inr => exact absurd (inq_of ha) (one_not hO)
  have HB := Lib.hid ((below2 w _ _).trans (hB.mono (below2 w _ _).size))
  clear hB hO
  go_wp2_with fail
  go_ret2
  exact ⟨rfl, HB.out⟩
theorem Power_arg (P M q : Nat) (hf : Fld P M q) (a k : Int) (ha : ¬ InQ q a) (w : World) (hL : Lays w) :
    Calls Tryd.prog 88 #[.agg #[.int .i64 (P : Int), .int .i64 (M : Int)], .int .i64 a, .int .i64 k] w fun e w' => e = Ret2 0 2 ∧ Below w.heap.size w w' := by
  rcases hf.cases with ⟨rfl, rfl⟩ | ⟨rfl, hM⟩
  · exact Power_arg_p _ hf a k ha w hL
  · exact Power_arg_q M q hM hf a k ha w hL
theorem Power_neg (P M q : Nat) (hf : Fld P M q) (a : Nat) (k : Int) (ha : a < q) (hk : k < 0) (w : World) (hL : Lays w) :
    Calls Tryd.prog 88 #[.agg #[.int .i64 (P : Int), .int .i64 (M : Int)], .int .i64 a, .int .i64 k] w fun e w' => e = Ret2 0 2 ∧ Below w.heap.size w w' := by
  rcases hf.cases with ⟨rfl, rfl⟩ | ⟨rfl, hM⟩
  · exact Power_neg_p _ hf a k ha hk w hL
  · exact Power_neg_q M q hM hf a k ha hk w hL
end Go.Proofs.YtiiopdomlepkmaaDoor
