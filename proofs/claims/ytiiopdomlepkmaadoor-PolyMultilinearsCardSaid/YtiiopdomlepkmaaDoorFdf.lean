/-
  Contracts of Add, Sub and Mul of package field, at every field and all numbers.
-/
import Derived.Test.YtiiopdomlepkmaaDoorFde
namespace Go.Proofs.YtiiopdomlepkmaaDoor
open Go.RowKit

theorem below2 (w : World) (o o' : Obj) : Below w.heap.size w ((w.alloc o).alloc o') := ((Below.refl _ w).alloc (Nat.le_refl _) _).alloc (by simp) _
theorem rd2 (w : World) (o : Obj) (a b : Int) : RdI ((w.alloc o).alloc (.cells #[.int .i64 a, .int .i64 b] 3)) (some ⟨w.heap.size + 1, 0, none⟩) [a, b] := by
  intro k x hx
  refine ⟨_, rfl, ?_⟩
  match k, hx with
  | 0, hx => cases hx; simp [Addr.add, World.cell?_alloc_at]
  | 1, hx => cases hx; simp [Addr.add, World.cell?_alloc_at]
theorem rd1 (w : World) (o : Obj) (a : Int) : RdI ((w.alloc o).alloc (.cells #[.int .i64 a] 3)) (some ⟨w.heap.size + 1, 0, none⟩) [a] := by
  intro k x hx
  refine ⟨_, rfl, ?_⟩
  match k, hx with
  | 0, hx => cases hx; simp [Addr.add, World.cell?_alloc_at]

theorem two_inq {q : Nat} {a b : Int} (h : ∀ x ∈ [a, b], InQ q x) : InQ q a ∧ InQ q b := ⟨h a (by simp), h b (by simp)⟩
theorem two_not {q : Nat} {a b : Int} (h : ∃ x ∈ [a, b], ¬ InQ q x) : ¬ (InQ q a ∧ InQ q b) := by
  obtain ⟨x, hx, hn⟩ := h
  intro hh
  simp only [List.mem_cons, List.not_mem_nil, or_false] at hx
  rcases hx with rfl | rfl
  · exact hn hh.1
  · exact hn hh.2
theorem inq_nat {q : Nat} {a : Int} (h : InQ q a) : ∃ n : Nat, a = n ∧ n < q := ⟨a.toNat, by have := h.1; omega, by have := h.1; have := h.2; omega⟩
theorem inq_of {q n : Nat} (h : n < q) : InQ q (n : Int) := ⟨by omega, by omega⟩

theorem add_p {q a b : Nat} (hf : Fld q 1 q) (w : World) (ha : a < q) (hb : b < q) :
    Calls Tryd.prog 139 #[.int .i64 q, .int .i64 a, .int .i64 b] w fun e w' => e = .returned (.int .i64 (addN q 1 a b : Nat)) ∧ w = w' :=
  p_add q a b hf.q_ge hf.q_le ha hb w
theorem sub_p {q a b : Nat} (hf : Fld q 1 q) (w : World) (ha : a < q) (hb : b < q) :
    Calls Tryd.prog 142 #[.int .i64 q, .int .i64 a, .int .i64 b] w fun e w' => e = .returned (.int .i64 (subN q 1 a b : Nat)) ∧ w = w' :=
  p_sub q a b hf.q_ge hf.q_le ha hb w
theorem add_q {M q a b : Nat} (hM : 2 ≤ M) (hf : Fld 2 M q) (w : World) (_ : Lays w) (ha : a < q) (hb : b < q) :
    Calls Tryd.prog 143 #[.int .i64 M, .int .i64 a, .int .i64 b] w fun e w' => e = .returned (.int .i64 (addN 2 M a b : Nat)) ∧ w = w' := by
  unfold addN
  rw [if_neg (by omega)]
  have := hf.q_le
  exact q_add M a b (by omega) (by omega) w
theorem sub_q {M q a b : Nat} (hM : 2 ≤ M) (hf : Fld 2 M q) (w : World) (_ : Lays w) (ha : a < q) (hb : b < q) :
    Calls Tryd.prog 147 #[.int .i64 M, .int .i64 a, .int .i64 b] w fun e w' => e = .returned (.int .i64 (subN 2 M a b : Nat)) ∧ w = w' := by
  unfold subN
  rw [if_neg (by omega)]
  have := hf.q_le
  exact q_sub M a b (by omega) (by omega) w

def Ret2 (x e : Int) : Ending := .returned (.tuple #[.int .i64 x, .int .i64 e])

theorem Fld.cases {P M q : Nat} (h : Fld P M q) : (M = 1 ∧ q = P) ∨ (P = 2 ∧ 2 ≤ M) := by
  rcases h with ⟨h0, h1, h2, h3⟩ | ⟨h0, h1, h2, h3⟩
  · exact .inl ⟨h0, h3⟩
  · exact .inr ⟨h0, h1⟩

theorem Add_form (P M a b : Int) (h : ¬ OkF P M) (w : World) (hL : Lays w) :
    Calls Tryd.prog 71 #[.agg #[.int .i64 P, .int .i64 M], .int .i64 a, .int .i64 b] w fun e w' => e = Ret2 0 1 ∧ Below w.heap.size w w' := by
  have H := Lib.hid (fun o o' v => open_no P M h v _ (hL.below (below2 w o o')))
  clear hL h
  go_enter Tryd.func71, Tryd.ntmps71
  go_wp2_with fail
  refine (H.out _ _ _).mono ?_
  rintro e w1 ⟨rfl, hB⟩
  have HB := Lib.hid ((below2 w _ _).trans (hB.mono (below2 w _ _).size))
  clear hB
  go_wp2_with fail
  go_ret2
  exact ⟨rfl, HB.out⟩
theorem Add_arg_p (q : Nat) (hf : Fld q 1 q) (a b : Int) (hab : ¬ (InQ q a ∧ InQ q b)) (w : World) (hL : Lays w) :
    Calls Tryd.prog 71 #[.agg #[.int .i64 (q : Int), .int .i64 1], .int .i64 a, .int .i64 b] w fun e w' => e = Ret2 0 2 ∧ Below w.heap.size w w' := by
  have H := Lib.hid (fun o => open_p q hf (some ⟨w.heap.size + 1, 0, none⟩) [a, b] 2 2 rfl (by omega) _ (hL.below (below2 w o _)) (rd2 w o a b))
  have HAB := Lib.hid hab
  clear hL hf hab
  go_enter Tryd.func71, Tryd.ntmps71
  go_wp2_with fail
  refine (H.out _).mono ?_
  rintro e w1 ⟨hB, ⟨hO, rfl⟩ | ⟨hO, rfl⟩⟩
  · exact absurd (two_inq hO) HAB.out
  have HB := Lib.hid ((below2 w _ _).trans (hB.mono (below2 w _ _).size))
  clear hB hO
  go_wp2_with fail
  go_ret2
  exact ⟨rfl, HB.out⟩
set_option maxHeartbeats 400000 in
theorem Add_ok_p (q : Nat) (hf : Fld q 1 q) (a b : Nat) (ha : a < q) (hb : b < q) (w : World) (hL : Lays w) :
    Calls Tryd.prog 71 #[.agg #[.int .i64 (q : Int), .int .i64 1], .int .i64 a, .int .i64 b] w fun e w' => e = Ret2 (addN q 1 a b : Nat) 0 ∧ Below w.heap.size w w' := by
  have H := Lib.hid (fun o => open_p q hf (some ⟨w.heap.size + 1, 0, none⟩) [(a : Int), (b : Int)] 2 2 rfl (by omega) _ (hL.below (below2 w o _)) (rd2 w o a b))
  have HM := Lib.hid (fun w (hL : Lays w) => add_p hf w ha hb)
  have HL := Lib.hid hL
  have hmm := m_add_p q
  clear hL hf
  go_enter Tryd.func71, Tryd.ntmps71
  go_wp2_with fail
  refine (H.out _).mono ?_
  rintro e w1 ⟨hB, ⟨hO, rfl⟩ | ⟨hO, rfl⟩⟩
  case inr => exact absurd ⟨inq_of ha, inq_of hb⟩ (two_not hO)
  have HB := Lib.hid ((below2 w _ _).trans (hB.mono (below2 w _ _).size))
  clear hB hO
  have HL1 := Lib.hid (HL.out.below HB.out)
  go_wp2_with fail
  refine (HM.out _ HL1.out).mono ?_
  rintro e w2 ⟨rfl, rfl⟩
  go_wp2_with fail
  go_ret2
  exact ⟨rfl, HB.out⟩
theorem Add_arg_q (M q : Nat) (hM : 2 ≤ M) (hf : Fld 2 M q) (a b : Int) (hab : ¬ (InQ q a ∧ InQ q b)) (w : World) (hL : Lays w) :
    Calls Tryd.prog 71 #[.agg #[.int .i64 2, .int .i64 (M : Int)], .int .i64 a, .int .i64 b] w fun e w' => e = Ret2 0 2 ∧ Below w.heap.size w w' := by
  have H := Lib.hid (fun o => open_q M q hM hf (some ⟨w.heap.size + 1, 0, none⟩) [a, b] 2 2 rfl (by omega) _ (hL.below (below2 w o _)) (rd2 w o a b))
  have HAB := Lib.hid hab
  clear hL hf hab
  go_enter Tryd.func71, Tryd.ntmps71
  go_wp2_with fail
  refine (H.out _).mono ?_
  rintro e w1 ⟨hB, ⟨hO, rfl⟩ | ⟨hO, rfl⟩⟩
  · exact absurd (two_inq hO) HAB.out
  have HB := Lib.hid ((below2 w _ _).trans (hB.mono (below2 w _ _).size))
  clear hB hO
  go_wp2_with fail
  go_ret2
  exact ⟨rfl, HB.out⟩
set_option maxHeartbeats 400000 in
theorem Add_ok_q (M q : Nat) (hM : 2 ≤ M) (hf : Fld 2 M q) (a b : Nat) (ha : a < q) (hb : b < q) (w : World) (hL : Lays w) :
    Calls Tryd.prog 71 #[.agg #[.int .i64 2, .int .i64 (M : Int)], .int .i64 a, .int .i64 b] w fun e w' => e = Ret2 (addN 2 M a b : Nat) 0 ∧ Below w.heap.size w w' := by
  have H := Lib.hid (fun o => open_q M q hM hf (some ⟨w.heap.size + 1, 0, none⟩) [(a : Int), (b : Int)] 2 2 rfl (by omega) _ (hL.below (below2 w o _)) (rd2 w o a b))
  have HM := Lib.hid (fun w (hL : Lays w) => add_q hM hf w hL ha hb)
  have HL := Lib.hid hL
  have hmm := m_add_q M
  clear hL hf
  go_enter Tryd.func71, Tryd.ntmps71
  go_wp2_with fail
  refine (H.out _).mono ?_
  rintro e w1 ⟨hB, ⟨hO, rfl⟩ | ⟨hO, rfl⟩⟩
  case inr => exact absurd ⟨inq_of ha, inq_of hb⟩ (two_not hO)
  have HB := Lib.hid ((below2 w _ _).trans (hB.mono (below2 w _ _).size))
  clear hB hO
  have HL1 := Lib.hid (HL.out.below HB.out)
  go_wp2_with fail
  refine (HM.out _ HL1.out).mono ?_
  rintro e w2 ⟨rfl, rfl⟩
  go_wp2_with fail
  go_ret2
  exact ⟨rfl, HB.out⟩
theorem Add_arg (P M q : Nat) (hf : Fld P M q) (a b : Int) (hab : ¬ (InQ q a ∧ InQ q b)) (w : World) (hL : Lays w) :
    Calls Tryd.prog 71 #[.agg #[.int .i64 (P : Int), .int .i64 (M : Int)], .int .i64 a, .int .i64 b] w fun e w' => e = Ret2 0 2 ∧ Below w.heap.size w w' := by
  rcases hf.cases with ⟨rfl, rfl⟩ | ⟨rfl, hM⟩
  · exact Add_arg_p _ hf a b hab w hL
  · exact Add_arg_q M q hM hf a b hab w hL
theorem Add_ok (P M q : Nat) (hf : Fld P M q) (a b : Nat) (ha : a < q) (hb : b < q) (w : World) (hL : Lays w) :
    Calls Tryd.prog 71 #[.agg #[.int .i64 (P : Int), .int .i64 (M : Int)], .int .i64 a, .int .i64 b] w fun e w' => e = Ret2 (addN P M a b : Nat) 0 ∧ Below w.heap.size w w' := by
  rcases hf.cases with ⟨rfl, rfl⟩ | ⟨rfl, hM⟩
  · exact Add_ok_p _ hf a b ha hb w hL
  · exact Add_ok_q M q hM hf a b ha hb w hL

theorem Sub_form (P M a b : Int) (h : ¬ OkF P M) (w : World) (hL : Lays w) :
    Calls Tryd.prog 84 #[.agg #[.int .i64 P, .int .i64 M], .int .i64 a, .int .i64 b] w fun e w' => e = Ret2 0 1 ∧ Below w.heap.size w w' := by
  have H := Lib.hid (fun o o' v => open_no P M h v _ (hL.below (below2 w o o')))
  clear hL h
  go_enter Tryd.func84, Tryd.ntmps84
  go_wp2_with fail
  refine (H.out _ _ _).mono ?_
  rintro e w1 ⟨rfl, hB⟩
  have HB := Lib.hid ((below2 w _ _).trans (hB.mono (below2 w _ _).size))
  clear hB
  go_wp2_with fail
  go_ret2
  exact ⟨rfl, HB.out⟩
theorem Sub_arg_p (q : Nat) (hf : Fld q 1 q) (a b : Int) (hab : ¬ (InQ q a ∧ InQ q b)) (w : World) (hL : Lays w) :
    Calls Tryd.prog 84 #[.agg #[.int .i64 (q : Int), .int .i64 1], .int .i64 a, .int .i64 b] w fun e w' => e = Ret2 0 2 ∧ Below w.heap.size w w' := by
  have H := Lib.hid (fun o => open_p q hf (some ⟨w.heap.size + 1, 0, none⟩) [a, b] 2 2 rfl (by omega) _ (hL.below (below2 w o _)) (rd2 w o a b))
  have HAB := Lib.hid hab
  clear hL hf hab
  go_enter Tryd.func84, Tryd.ntmps84
  go_wp2_with fail
  refine (H.out _).mono ?_
  rintro e w1 ⟨hB, ⟨hO, rfl⟩ | ⟨hO, rfl⟩⟩
  · exact absurd (two_inq hO) HAB.out
  have HB := Lib.hid ((below2 w _ _).trans (hB.mono (below2 w _ _).size))
  clear hB hO
  go_wp2_with fail
  go_ret2
  exact ⟨rfl, HB.out⟩
set_option maxHeartbeats 400000 in
theorem Sub_ok_p (q : Nat) (hf : Fld q 1 q) (a b : Nat) (ha : a < q) (hb : b < q) (w : World) (hL : Lays w) :
    Calls Tryd.prog 84 #[.agg #[.int .i64 (q : Int), .int .i64 1], .int .i64 a, .int .i64 b] w fun e w' => e = Ret2 (subN q 1 a b : Nat) 0 ∧ Below w.heap.size w w' := by
  have H := Lib.hid (fun o => open_p q hf (some ⟨w.heap.size + 1, 0, none⟩) [(a : Int), (b : Int)] 2 2 rfl (by omega) _ (hL.below (below2 w o _)) (rd2 w o a b))
  have HM := Lib.hid (fun w (hL : Lays w) => sub_p hf w ha hb)
  have HL := Lib.hid hL
  have hmm := m_sub_p q
  clear hL hf
  go_enter Tryd.func84, Tryd.ntmps84
  go_wp2_with fail
  refine (H.out _).mono ?_
  rintro e w1 ⟨hB, ⟨hO, rfl⟩ | ⟨hO, rfl⟩⟩
  case inr => exact absurd ⟨inq_of ha, inq_of hb⟩ (two_not hO)
  have HB := Lib.hid ((below2 w _ _).trans (hB.mono (below2 w _ _).size))
  clear hB hO
  have HL1 := Lib.hid (HL.out.below HB.out)
  go_wp2_with fail
  refine (HM.out _ HL1.out).mono ?_
  rintro e w2 ⟨rfl, rfl⟩
  go_wp2_with fail
  go_ret2
  exact ⟨rfl, HB.out⟩
theorem Sub_arg_q (M q : Nat) (hM : 2 ≤ M) (hf : Fld 2 M q) (a b : Int) (hab : ¬ (InQ q a ∧ InQ q b)) (w : World) (hL : Lays w) :
    Calls Tryd.prog 84 #[.agg #[.int .i64 2, .int .i64 (M : Int)], .int .i64 a, .int .i64 b] w fun e w' => e = Ret2 0 2 ∧ Below w.heap.size w w' := by
  have H := Lib.hid (fun o => open_q M q hM hf (some ⟨w.heap.size + 1, 0, none⟩) [a, b] 2 2 rfl (by omega) _ (hL.below (below2 w o _)) (rd2 w o a b))
  have HAB := Lib.hid hab
  clear hL hf hab
  go_enter Tryd.func84, Tryd.ntmps84
  go_wp2_with fail
  refine (H.out _).mono ?_
  rintro e w1 ⟨hB, ⟨hO, rfl⟩ | ⟨hO, rfl⟩⟩
  · exact absurd (two_inq hO) HAB.out
  have HB := Lib.hid ((below2 w _ _).trans (hB.mono (below2 w _ _).size))
  clear hB hO
  go_wp2_with fail
  go_ret2
  exact ⟨rfl, HB.out⟩
set_option maxHeartbeats 400000 in
theorem Sub_ok_q (M q : Nat) (hM : 2 ≤ M) (hf : Fld 2 M q) (a b : Nat) (ha : a < q) (hb : b < q) (w : World) (hL : Lays w) :
    Calls Tryd.prog 84 #[.agg #[.int .i64 2, .int .i64 (M : Int)], .int .i64 a, .int .i64 b] w fun e w' => e = Ret2 (subN 2 M a b : Nat) 0 ∧ Below w.heap.size w w' := by
  have H := Lib.hid (fun o => open_q M q hM hf (some ⟨w.heap.size + 1, 0, none⟩) [(a : Int), (b : Int)] 2 2 rfl (by omega) _ (hL.below (below2 w o _)) (rd2 w o a b))
  have HM := Lib.hid (fun w (hL : Lays w) => sub_q hM hf w hL ha hb)
  have HL := Lib.hid hL
  have hmm := m_sub_q M
  clear hL hf
  go_enter Tryd.func84, Tryd.ntmps84
  go_wp2_with fail
  refine (H.out _).mono ?_
  rintro e w1 ⟨hB, ⟨hO, rfl⟩ | ⟨hO, rfl⟩⟩
  case inr => exact absurd ⟨inq_of ha, inq_of hb⟩ (two_not hO)
  have HB := Lib.hid ((below2 w _ _).trans (hB.mono (below2 w _ _).size))
  clear hB hO
  have HL1 := Lib.hid (HL.out.below HB.out)
  go_wp2_with fail
  refine (HM.out _ HL1.out).mono ?_
  rintro e w2 ⟨rfl, rfl⟩
  go_wp2_with fail
  go_ret2
  exact ⟨rfl, HB.out⟩
theorem Sub_arg (P M q : Nat) (hf : Fld P M q) (a b : Int) (hab : ¬ (InQ q a ∧ InQ q b)) (w : World) (hL : Lays w) :
    Calls Tryd.prog 84 #[.agg #[.int .i64 (P : Int), .int .i64 (M : Int)], .int .i64 a, .int .i64 b] w fun e w' => e = Ret2 0 2 ∧ Below w.heap.size w w' := by
  rcases hf.cases with ⟨rfl, rfl⟩ | ⟨rfl, hM⟩
  · exact Sub_arg_p _ hf a b hab w hL
  · exact Sub_arg_q M q hM hf a b hab w hL
theorem Sub_ok (P M q : Nat) (hf : Fld P M q) (a b : Nat) (ha : a < q) (hb : b < q) (w : World) (hL : Lays w) :
    Calls Tryd.prog 84 #[.agg #[.int .i64 (P : Int), .int .i64 (M : Int)], .int .i64 a, .int .i64 b] w fun e w' => e = Ret2 (subN P M a b : Nat) 0 ∧ Below w.heap.size w w' := by
  rcases hf.cases with ⟨rfl, rfl⟩ | ⟨rfl, hM⟩
  · exact Sub_ok_p _ hf a b ha hb w hL
  · exact Sub_ok_q M q hM hf a b ha hb w hL

theorem Mul_form (P M a b : Int) (h : ¬ OkF P M) (w : World) (hL : Lays w) :
    Calls Tryd.prog 87 #[.agg #[.int .i64 P, .int .i64 M], .int .i64 a, .int .i64 b] w fun e w' => e = Ret2 0 1 ∧ Below w.heap.size w w' := by
  have H := Lib.hid (fun o o' v => open_no P M h v _ (hL.below (below2 w o o')))
  clear hL h
  go_enter Tryd.func87, Tryd.ntmps87
  go_wp2_with fail
  refine (H.out _ _ _).mono ?_
  rintro e w1 ⟨rfl, hB⟩
  have HB := Lib.hid ((below2 w _ _).trans (hB.mono (below2 w _ _).size))
  clear hB
  go_wp2_with fail
  go_ret2
  exact ⟨rfl, HB.out⟩
theorem Mul_arg_p (q : Nat) (hf : Fld q 1 q) (a b : Int) (hab : ¬ (InQ q a ∧ InQ q b)) (w : World) (hL : Lays w) :
    Calls Tryd.prog 87 #[.agg #[.int .i64 (q : Int), .int .i64 1], .int .i64 a, .int .i64 b] w fun e w' => e = Ret2 0 2 ∧ Below w.heap.size w w' := by
  have H := Lib.hid (fun o => open_p q hf (some ⟨w.heap.size + 1, 0, none⟩) [a, b] 2 2 rfl (by omega) _ (hL.below (below2 w o _)) (rd2 w o a b))
  have HAB := Lib.hid hab
  clear hL hf hab
  go_enter Tryd.func87, Tryd.ntmps87
  go_wp2_with fail
  refine (H.out _).mono ?_
  rintro e w1 ⟨hB, ⟨hO, rfl⟩ | ⟨hO, rfl⟩⟩
  · exact absurd (two_inq hO) HAB.out
  have HB := Lib.hid ((below2 w _ _).trans (hB.mono (below2 w _ _).size))
  clear hB hO
  go_wp2_with fail
  go_ret2
  exact ⟨rfl, HB.out⟩
set_option maxHeartbeats 400000 in
theorem Mul_ok_p (q : Nat) (hf : Fld q 1 q) (a b : Nat) (ha : a < q) (hb : b < q) (w : World) (hL : Lays w) :
    Calls Tryd.prog 87 #[.agg #[.int .i64 (q : Int), .int .i64 1], .int .i64 a, .int .i64 b] w fun e w' => e = Ret2 (mulN q 1 a b : Nat) 0 ∧ Below w.heap.size w w' := by
  have H := Lib.hid (fun o => open_p q hf (some ⟨w.heap.size + 1, 0, none⟩) [(a : Int), (b : Int)] 2 2 rfl (by omega) _ (hL.below (below2 w o _)) (rd2 w o a b))
  have HM := Lib.hid (fun w (hL : Lays w) => mul_p hf w ha hb)
  have HL := Lib.hid hL
  have hmm := m_mul_p q
  clear hL hf
  go_enter Tryd.func87, Tryd.ntmps87
  go_wp2_with fail
  refine (H.out _).mono ?_
  rintro e w1 ⟨hB, ⟨hO, rfl⟩ | ⟨hO, rfl⟩⟩
  case inr => exact absurd ⟨inq_of ha, inq_of hb⟩ (two_not hO)
  have HB := Lib.hid ((below2 w _ _).trans (hB.mono (below2 w _ _).size))
  clear hB hO
  have HL1 := Lib.hid (HL.out.below HB.out)
  go_wp2_with fail
  refine (HM.out _ HL1.out).mono ?_
  rintro e w2 ⟨rfl, rfl⟩
  go_wp2_with fail
  go_ret2
  exact ⟨rfl, HB.out⟩
theorem Mul_arg_q (M q : Nat) (hM : 2 ≤ M) (hf : Fld 2 M q) (a b : Int) (hab : ¬ (InQ q a ∧ InQ q b)) (w : World) (hL : Lays w) :
    Calls Tryd.prog 87 #[.agg #[.int .i64 2, .int .i64 (M : Int)], .int .i64 a, .int .i64 b] w fun e w' => e = Ret2 0 2 ∧ Below w.heap.size w w' := by
  have H := Lib.hid (fun o => open_q M q hM hf (some ⟨w.heap.size + 1, 0, none⟩) [a, b] 2 2 rfl (by omega) _ (hL.below (below2 w o _)) (rd2 w o a b))
  have HAB := Lib.hid hab
  clear hL hf hab
  go_enter Tryd.func87, Tryd.ntmps87
  go_wp2_with fail
  refine (H.out _).mono ?_
  rintro e w1 ⟨hB, ⟨hO, rfl⟩ | ⟨hO, rfl⟩⟩
  · exact absurd (two_inq hO) HAB.out
  have HB := Lib.hid ((below2 w _ _).trans (hB.mono (below2 w _ _).size))
  clear hB hO
  go_wp2_with fail
  go_ret2
  exact ⟨rfl, HB.out⟩
theorem Mul_arg (P M q : Nat) (hf : Fld P M q) (a b : Int) (hab : ¬ (InQ q a ∧ InQ q b)) (w : World) (hL : Lays w) :
    Calls Tryd.prog 87 #[.agg #[.int .i64 (P : Int), .int .i64 (M : Int)], .int .i64 a, .int .i64 b] w fun e w' => e = Ret2 0 2 ∧ Below w.heap.size w w' := by
  rcases hf.cases with ⟨rfl, rfl⟩ | ⟨rfl, hM⟩
  · exact Mul_arg_p _ hf a b hab w hL
  · exact Mul_arg_q M q hM hf a b hab w hL
end Go.Proofs.YtiiopdomlepkmaaDoor
