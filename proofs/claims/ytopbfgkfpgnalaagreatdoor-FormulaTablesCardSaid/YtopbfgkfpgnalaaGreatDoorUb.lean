/-
  Joined from Fdf, Fdg, Fdh, Fdi, Fdj: see there.
-/
import Derived.Test.YtopbfgkfpgnalaaGreatDoorUa
namespace Go.Proofs.YtopbfgkfpgnalaaGreatDoor
open Go.RowKit

theorem below2 (w : World) (o o' : Obj) : Below w.heap.size w ((w.alloc o).alloc o') := ((Below.refl _ w).alloc (Nat.le_refl _) _).alloc (by simp) _
theorem rd2 (w : World) (o : Obj) (a b : Int) : RdI ((w.alloc o).alloc (.cells #[.int .i64 a, .int .i64 b] 3)) (some ⟨w.heap.size + 1, 0, none⟩) [a, b] := by
  intro k x hx
  refine ⟨_, rfl, ?_⟩
  match k, hx with
  | 0, hx => cases hx; simp [Addr.add, World.cell?_alloc_at]
  | 1, hx => cases hx; simp [Addr.add, World.cell?_alloc_at]
theorem rd1 (w : World) (o : Obj) (a : Int) : RdI ((w.alloc o).alloc (.cells #[.int .i64 a] 3)) (some ⟨w.heap.size + 1, 0, none⟩) [a] := by
  intro k x hx
  refine ⟨_, rfl, ?_⟩
  match k, hx with
  | 0, hx => cases hx; simp [Addr.add, World.cell?_alloc_at]

theorem two_inq {q : Nat} {a b : Int} (h : ∀ x ∈ [a, b], InQ q x) : InQ q a ∧ InQ q b := ⟨h a (by simp), h b (by simp)⟩
theorem two_not {q : Nat} {a b : Int} (h : ∃ x ∈ [a, b], ¬ InQ q x) : ¬ (InQ q a ∧ InQ q b) := by
  obtain ⟨x, hx, hn⟩ := h
  intro hh
  simp only [List.mem_cons, List.not_mem_nil, or_false] at hx
  rcases hx with rfl | rfl
  · exact hn hh.1
  · exact hn hh.2
theorem inq_nat {q : Nat} {a : Int} (h : InQ q a) : ∃ n : Nat, a = n ∧ n < q := ⟨a.toNat, by have := h.1; omega, by have := h.1; have := h.2; omega⟩
theorem inq_of {q n : Nat} (h : n < q) : InQ q (n : Int) := ⟨by omega, by omega⟩

theorem add_p {q a b : Nat} (hf : Fld q 1 q) (w : World) (ha : a < q) (hb : b < q) :
    Calls Tryz.prog 300 #[.int .i64 q, .int .i64 a, .int .i64 b] w fun e w' => e = .returned (.int .i64 (addN q 1 a b : Nat)) ∧ w = w' :=
  p_add q a b hf.q_ge hf.q_le ha hb w
theorem sub_p {q a b : Nat} (hf : Fld q 1 q) (w : World) (ha : a < q) (hb : b < q) :
    Calls Tryz.prog 303 #[.int .i64 q, .int .i64 a, .int .i64 b] w fun e w' => e = .returned (.int .i64 (subN q 1 a b : Nat)) ∧ w = w' :=
  p_sub q a b hf.q_ge hf.q_le ha hb w
theorem add_q {M q a b : Nat} (hM : 2 ≤ M) (hf : Fld 2 M q) (w : World) (_ : Lays w) (ha : a < q) (hb : b < q) :
    Calls Tryz.prog 304 #[.int .i64 M, .int .i64 a, .int .i64 b] w fun e w' => e = .returned (.int .i64 (addN 2 M a b : Nat)) ∧ w = w' := by
  unfold addN
  rw [if_neg (by omega)]
  have := hf.q_le
  exact q_add M a b (by omega) (by omega) w
theorem sub_q {M q a b : Nat} (hM : 2 ≤ M) (hf : Fld 2 M q) (w : World) (_ : Lays w) (ha : a < q) (hb : b < q) :
    Calls Tryz.prog 308 #[.int .i64 M, .int .i64 a, .int .i64 b] w fun e w' => e = .returned (.int .i64 (subN 2 M a b : Nat)) ∧ w = w' := by
  unfold subN
  rw [if_neg (by omega)]
  have := hf.q_le
  exact q_sub M a b (by omega) (by omega) w

def Ret2 (x e : Int) : Ending := .returned (.tuple #[.int .i64 x, .int .i64 e])

theorem Fld.cases {P M q : Nat} (h : Fld P M q) : (M = 1 ∧ q = P) ∨ (P = 2 ∧ 2 ≤ M) := by
  rcases h with ⟨h0, h1, h2, h3⟩ | ⟨h0, h1, h2, h3⟩
  · exact .inl ⟨h0, h3⟩
  · exact .inr ⟨h0, h1⟩

theorem Add_form (P M a b : Int) (h : ¬ OkF P M) (w : World) (hL : Lays w) :
    Calls Tryz.prog 155 #[.agg #[.int .i64 P, .int .i64 M], .int .i64 a, .int .i64 b] w fun e w' => e = Ret2 0 1 ∧ Below w.heap.size w w' := by
  have H := Lib.hid (fun o o' v => open_no P M h v _ (hL.below (below2 w o o')))
  clear hL h
  go_enter Tryz.func155, Tryz.ntmps155
  go_wp2_with fail
  refine (H.out _ _ _).mono ?_
  rintro e w1 ⟨rfl, hB⟩
  have HB := Lib.hid ((below2 w _ _).trans (hB.mono (below2 w _ _).size))
  clear hB
  go_wp2_with fail
  go_ret2
  exact ⟨rfl, HB.out⟩
theorem Add_arg_p (q : Nat) (hf : Fld q 1 q) (a b : Int) (hab : ¬ (InQ q a ∧ InQ q b)) (w : World) (hL : Lays w) :
    Calls Tryz.prog 155 #[.agg #[.int .i64 (q : Int), .int .i64 1], .int .i64 a, .int .i64 b] w fun e w' => e = Ret2 0 2 ∧ Below w.heap.size w w' := by
  have H := Lib.hid (fun o => open_p q hf (some ⟨w.heap.size + 1, 0, none⟩) [a, b] 2 2 rfl (by omega) _ (hL.below (below2 w o _)) (rd2 w o a b))
  have HAB := Lib.hid hab
  clear hL hf hab
  go_enter Tryz.func155, Tryz.ntmps155
  go_wp2_with fail
  refine (H.out _).mono ?_
  rintro e w1 ⟨hB, ⟨hO, rfl⟩ | ⟨hO, rfl⟩⟩
  · exact absurd (two_inq hO) HAB.out
  have HB := Lib.hid ((below2 w _ _).trans (hB.mono (below2 w _ _).size))
  clear hB hO
  go_wp2_with fail
  go_ret2
  exact ⟨rfl, HB.out⟩
set_option maxHeartbeats 400000 in
theorem Add_ok_p (q : Nat) (hf : Fld q 1 q) (a b : Nat) (ha : a < q) (hb : b < q) (w : World) (hL : Lays w) :
    Calls Tryz.prog 155 #[.agg #[.int .i64 (q : Int), .int .i64 1], .int .i64 a, .int .i64 b] w fun e w' => e = Ret2 (addN q 1 a b : Nat) 0 ∧ Below w.heap.size w w' := by
  have H := Lib.hid (fun o => open_p q hf (some ⟨w.heap.size + 1, 0, none⟩) [(a : Int), (b : Int)] 2 2 rfl (by omega) _ (hL.below (below2 w o _)) (rd2 w o a b))
  have HM := Lib.hid (fun w (hL : Lays w) => add_p hf w ha hb)
  have HL := Lib.hid hL
  have hmm := m_add_p q
  clear hL hf
  go_enter Tryz.func155, Tryz.ntmps155
  go_wp2_with fail
  refine (H.out _).mono ?_
  rintro e w1 ⟨hB, ⟨hO, rfl⟩ | ⟨hO, rfl⟩⟩
  case inr => exact absurd ⟨inq_of ha, inq_of hb⟩ (two_not hO)
  have HB := Lib.hid ((below2 w _ _).trans (hB.mono (below2 w _ _).size))
  clear hB hO
  have HL1 := Lib.hid (HL.out.below HB.out)
  go_wp2_with fail
  refine (HM.out _ HL1.out).mono ?_
  rintro e w2 ⟨rfl, rfl⟩
  go_wp2_with fail
  go_ret2
  exact ⟨rfl, HB.out⟩
theorem Add_arg_q (M q : Nat) (hM : 2 ≤ M) (hf : Fld 2 M q) (a b : Int) (hab : ¬ (InQ q a ∧ InQ q b)) (w : World) (hL : Lays w) :
    Calls Tryz.prog 155 #[.agg #[.int .i64 2, .int .i64 (M : Int)], .int .i64 a, .int .i64 b] w fun e w' => e = Ret2 0 2 ∧ Below w.heap.size w w' := by
  have H := Lib.hid (fun o => open_q M q hM hf (some ⟨w.heap.size + 1, 0, none⟩) [a, b] 2 2 rfl (by omega) _ (hL.below (below2 w o _)) (rd2 w o a b))
  have HAB := Lib.hid hab
  clear hL hf hab
  go_enter Tryz.func155, Tryz.ntmps155
  go_wp2_with fail
  refine (H.out _).mono ?_
  rintro e w1 ⟨hB, ⟨hO, rfl⟩ | ⟨hO, rfl⟩⟩
  · exact absurd (two_inq hO) HAB.out
  have HB := Lib.hid ((below2 w _ _).trans (hB.mono (below2 w _ _).size))
  clear hB hO
  go_wp2_with fail
  go_ret2
  exact ⟨rfl, HB.out⟩
set_option maxHeartbeats 400000 in
theorem Add_ok_q (M q : Nat) (hM : 2 ≤ M) (hf : Fld 2 M q) (a b : Nat) (ha : a < q) (hb : b < q) (w : World) (hL : Lays w) :
    Calls Tryz.prog 155 #[.agg #[.int .i64 2, .int .i64 (M : Int)], .int .i64 a, .int .i64 b] w fun e w' => e = Ret2 (addN 2 M a b : Nat) 0 ∧ Below w.heap.size w w' := by
  have H := Lib.hid (fun o => open_q M q hM hf (some ⟨w.heap.size + 1, 0, none⟩) [(a : Int), (b : Int)] 2 2 rfl (by omega) _ (hL.below (below2 w o _)) (rd2 w o a b))
  have HM := Lib.hid (fun w (hL : Lays w) => add_q hM hf w hL ha hb)
  have HL := Lib.hid hL
  have hmm := m_add_q M
  clear hL hf
  go_enter Tryz.func155, Tryz.ntmps155
  go_wp2_with fail
  refine (H.out _).mono ?_
  rintro e w1 ⟨hB, ⟨hO, rfl⟩ | ⟨hO, rfl⟩⟩
  case inr => exact absurd ⟨inq_of ha, inq_of hb⟩ (two_not hO)
  have HB := Lib.hid ((below2 w _ _).trans (hB.mono (below2 w _ _).size))
  clear hB hO
  have HL1 := Lib.hid (HL.out.below HB.out)
  go_wp2_with fail
  refine (HM.out _ HL1.out).mono ?_
  rintro e w2 ⟨rfl, rfl⟩
  go_wp2_with fail
  go_ret2
  exact ⟨rfl, HB.out⟩
theorem Add_arg (P M q : Nat) (hf : Fld P M q) (a b : Int) (hab : ¬ (InQ q a ∧ InQ q b)) (w : World) (hL : Lays w) :
    Calls Tryz.prog 155 #[.agg #[.int .i64 (P : Int), .int .i64 (M : Int)], .int .i64 a, .int .i64 b] w fun e w' => e = Ret2 0 2 ∧ Below w.heap.size w w' := by
  rcases hf.cases with ⟨rfl, rfl⟩ | ⟨rfl, hM⟩
  · exact Add_arg_p _ hf a b hab w hL
  · exact Add_arg_q M q hM hf a b hab w hL
theorem Add_ok (P M q : Nat) (hf : Fld P M q) (a b : Nat) (ha : a < q) (hb : b < q) (w : World) (hL : Lays w) :
    Calls Tryz.prog 155 #[.agg #[.int .i64 (P : Int), .int .i64 (M : Int)], .int .i64 a, .int .i64 b] w fun e w' => e = Ret2 (addN P M a b : Nat) 0 ∧ Below w.heap.size w w' := by
  rcases hf.cases with ⟨rfl, rfl⟩ | ⟨rfl, hM⟩
  · exact Add_ok_p _ hf a b ha hb w hL
  · exact Add_ok_q M q hM hf a b ha hb w hL

theorem Sub_form (P M a b : Int) (h : ¬ OkF P M) (w : World) (hL : Lays w) :
    Calls Tryz.prog 200 #[.agg #[.int .i64 P, .int .i64 M], .int .i64 a, .int .i64 b] w fun e w' => e = Ret2 0 1 ∧ Below w.heap.size w w' := by
  have H := Lib.hid (fun o o' v => open_no P M h v _ (hL.below (below2 w o o')))
  clear hL h
  go_enter Tryz.func200, Tryz.ntmps200
  go_wp2_with fail
  refine (H.out _ _ _).mono ?_
  rintro e w1 ⟨rfl, hB⟩
  have HB := Lib.hid ((below2 w _ _).trans (hB.mono (below2 w _ _).size))
  clear hB
  go_wp2_with fail
  go_ret2
  exact ⟨rfl, HB.out⟩
theorem Sub_arg_p (q : Nat) (hf : Fld q 1 q) (a b : Int) (hab : ¬ (InQ q a ∧ InQ q b)) (w : World) (hL : Lays w) :
    Calls Tryz.prog 200 #[.agg #[.int .i64 (q : Int), .int .i64 1], .int .i64 a, .int .i64 b] w fun e w' => e = Ret2 0 2 ∧ Below w.heap.size w w' := by
  have H := Lib.hid (fun o => open_p q hf (some ⟨w.heap.size + 1, 0, none⟩) [a, b] 2 2 rfl (by omega) _ (hL.below (below2 w o _)) (rd2 w o a b))
  have HAB := Lib.hid hab
  clear hL hf hab
  go_enter Tryz.func200, Tryz.ntmps200
  go_wp2_with fail
  refine (H.out _).mono ?_
  rintro e w1 ⟨hB, ⟨hO, rfl⟩ | ⟨hO, rfl⟩⟩
  · exact absurd (two_inq hO) HAB.out
  have HB := Lib.hid ((below2 w _ _).trans (hB.mono (below2 w _ _).size))
  clear hB hO
  go_wp2_with fail
  go_ret2
  exact ⟨rfl, HB.out⟩
set_option maxHeartbeats 400000 in
theorem Sub_ok_p (q : Nat) (hf : Fld q 1 q) (a b : Nat) (ha : a < q) (hb : b < q) (w : World) (hL : Lays w) :
    Calls Tryz.prog 200 #[.agg #[.int .i64 (q : Int), .int .i64 1], .int .i64 a, .int .i64 b] w fun e w' => e = Ret2 (subN q 1 a b : Nat) 0 ∧ Below w.heap.size w w' := by
  have H := Lib.hid (fun o => open_p q hf (some ⟨w.heap.size + 1, 0, none⟩) [(a : Int), (b : Int)] 2 2 rfl (by omega) _ (hL.below (below2 w o _)) (rd2 w o a b))
  have HM := Lib.hid (fun w (hL : Lays w) => sub_p hf w ha hb)
  have HL := Lib.hid hL
  have hmm := m_sub_p q
  clear hL hf
  go_enter Tryz.func200, Tryz.ntmps200
  go_wp2_with fail
  refine (H.out _).mono ?_
  rintro e w1 ⟨hB, ⟨hO, rfl⟩ | ⟨hO, rfl⟩⟩
  case inr => exact absurd ⟨inq_of ha, inq_of hb⟩ (two_not hO)
  have HB := Lib.hid ((below2 w _ _).trans (hB.mono (below2 w _ _).size))
  clear hB hO
  have HL1 := Lib.hid (HL.out.below HB.out)
  go_wp2_with fail
  refine (HM.out _ HL1.out).mono ?_
  rintro e w2 ⟨rfl, rfl⟩
  go_wp2_with fail
  go_ret2
  exact ⟨rfl, HB.out⟩
theorem Sub_arg_q (M q : Nat) (hM : 2 ≤ M) (hf : Fld 2 M q) (a b : Int) (hab : ¬ (InQ q a ∧ InQ q b)) (w : World) (hL : Lays w) :
    Calls Tryz.prog 200 #[.agg #[.int .i64 2, .int .i64 (M : Int)], .int .i64 a, .int .i64 b] w fun e w' => e = Ret2 0 2 ∧ Below w.heap.size w w' := by
  have H := Lib.hid (fun o => open_q M q hM hf (some ⟨w.heap.size + 1, 0, none⟩) [a, b] 2 2 rfl (by omega) _ (hL.below (below2 w o _)) (rd2 w o a b))
  have HAB := Lib.hid hab
  clear hL hf hab
  go_enter Tryz.func200, Tryz.ntmps200
  go_wp2_with fail
  refine (H.out _).mono ?_
  rintro e w1 ⟨hB, ⟨hO, rfl⟩ | ⟨hO, rfl⟩⟩
  · exact absurd (two_inq hO) HAB.out
  have HB := Lib.hid ((below2 w _ _).trans (hB.mono (below2 w _ _).size))
  clear hB hO
  go_wp2_with fail
  go_ret2
  exact ⟨rfl, HB.out⟩
set_option maxHeartbeats 400000 in
theorem Sub_ok_q (M q : Nat) (hM : 2 ≤ M) (hf : Fld 2 M q) (a b : Nat) (ha : a < q) (hb : b < q) (w : World) (hL : Lays w) :
    Calls Tryz.prog 200 #[.agg #[.int .i64 2, .int .i64 (M : Int)], .int .i64 a, .int .i64 b] w fun e w' => e = Ret2 (subN 2 M a b : Nat) 0 ∧ Below w.heap.size w w' := by
  have H := Lib.hid (fun o => open_q M q hM hf (some ⟨w.heap.size + 1, 0, none⟩) [(a : Int), (b : Int)] 2 2 rfl (by omega) _ (hL.below (below2 w o _)) (rd2 w o a b))
  have HM := Lib.hid (fun w (hL : Lays w) => sub_q hM hf w hL ha hb)
  have HL := Lib.hid hL
  have hmm := m_sub_q M
  clear hL hf
  go_enter Tryz.func200, Tryz.ntmps200
  go_wp2_with fail
  refine (H.out _).mono ?_
  rintro e w1 ⟨hB, ⟨hO, rfl⟩ | ⟨hO, rfl⟩⟩
  case inr => exact absurd ⟨inq_of ha, inq_of hb⟩ (two_not hO)
  have HB := Lib.hid ((below2 w _ _).trans (hB.mono (below2 w _ _).size))
  clear hB hO
  have HL1 := Lib.hid (HL.out.below HB.out)
  go_wp2_with fail
  refine (HM.out _ HL1.out).mono ?_
  rintro e w2 ⟨rfl, rfl⟩
  go_wp2_with fail
  go_ret2
  exact ⟨rfl, HB.out⟩
theorem Sub_arg (P M q : Nat) (hf : Fld P M q) (a b : Int) (hab : ¬ (InQ q a ∧ InQ q b)) (w : World) (hL : Lays w) :
    Calls Tryz.prog 200 #[.agg #[.int .i64 (P : Int), .int .i64 (M : Int)], .int .i64 a, .int .i64 b] w fun e w' => e = Ret2 0 2 ∧ Below w.heap.size w w' := by
  rcases hf.cases with ⟨rfl, rfl⟩ | ⟨rfl, hM⟩
  · exact Sub_arg_p _ hf a b hab w hL
  · exact Sub_arg_q M q hM hf a b hab w hL
theorem Sub_ok (P M q : Nat) (hf : Fld P M q) (a b : Nat) (ha : a < q) (hb : b < q) (w : World) (hL : Lays w) :
    Calls Tryz.prog 200 #[.agg #[.int .i64 (P : Int), .int .i64 (M : Int)], .int .i64 a, .int .i64 b] w fun e w' => e = Ret2 (subN P M a b : Nat) 0 ∧ Below w.heap.size w w' := by
  rcases hf.cases with ⟨rfl, rfl⟩ | ⟨rfl, hM⟩
  · exact Sub_ok_p _ hf a b ha hb w hL
  · exact Sub_ok_q M q hM hf a b ha hb w hL

theorem Mul_form (P M a b : Int) (h : ¬ OkF P M) (w : World) (hL : Lays w) :
    Calls Tryz.prog 166 #[.agg #[.int .i64 P, .int .i64 M], .int .i64 a, .int .i64 b] w fun e w' => e = Ret2 0 1 ∧ Below w.heap.size w w' := by
  have H := Lib.hid (fun o o' v => open_no P M h v _ (hL.below (below2 w o o')))
  clear hL h
  go_enter Tryz.func166, Tryz.ntmps166
  go_wp2_with fail
  refine (H.out _ _ _).mono ?_
  rintro e w1 ⟨rfl, hB⟩
  have HB := Lib.hid ((below2 w _ _).trans (hB.mono (below2 w _ _).size))
  clear hB
  go_wp2_with fail
  go_ret2
  exact ⟨rfl, HB.out⟩
theorem Mul_arg_p (q : Nat) (hf : Fld q 1 q) (a b : Int) (hab : ¬ (InQ q a ∧ InQ q b)) (w : World) (hL : Lays w) :
    Calls Tryz.prog 166 #[.agg #[.int .i64 (q : Int), .int .i64 1], .int .i64 a, .int .i64 b] w fun e w' => e = Ret2 0 2 ∧ Below w.heap.size w w' := by
  have H := Lib.hid (fun o => open_p q hf (some ⟨w.heap.size + 1, 0, none⟩) [a, b] 2 2 rfl (by omega) _ (hL.below (below2 w o _)) (rd2 w o a b))
  have HAB := Lib.hid hab
  clear hL hf hab
  go_enter Tryz.func166, Tryz.ntmps166
  go_wp2_with fail
  refine (H.out _).mono ?_
  rintro e w1 ⟨hB, ⟨hO, rfl⟩ | ⟨hO, rfl⟩⟩
  · exact absurd (two_inq hO) HAB.out
  have HB := Lib.hid ((below2 w _ _).trans (hB.mono (below2 w _ _).size))
  clear hB hO
  go_wp2_with fail
  go_ret2
  exact ⟨rfl, HB.out⟩
set_option maxHeartbeats 400000 in
theorem Mul_ok_p (q : Nat) (hf : Fld q 1 q) (a b : Nat) (ha : a < q) (hb : b < q) (w : World) (hL : Lays w) :
    Calls Tryz.prog 166 #[.agg #[.int .i64 (q : Int), .int .i64 1], .int .i64 a, .int .i64 b] w fun e w' => e = Ret2 (mulN q 1 a b : Nat) 0 ∧ Below w.heap.size w w' := by
  have H := Lib.hid (fun o => open_p q hf (some ⟨w.heap.size + 1, 0, none⟩) [(a : Int), (b : Int)] 2 2 rfl (by omega) _ (hL.below (below2 w o _)) (rd2 w o a b))
  have HM := Lib.hid (fun w (hL : Lays w) => mul_p hf w ha hb)
  have HL := Lib.hid hL
  have hmm := m_mul_p q
  clear hL hf
  go_enter Tryz.func166, Tryz.ntmps166
  go_wp2_with fail
  refine (H.out _).mono ?_
  rintro e w1 ⟨hB, ⟨hO, rfl⟩ | ⟨hO, rfl⟩⟩
  case inr => exact absurd ⟨inq_of ha, inq_of hb⟩ (two_not hO)
  have HB := Lib.hid ((below2 w _ _).trans (hB.mono (below2 w _ _).size))
  clear hB hO
  have HL1 := Lib.hid (HL.out.below HB.out)
  go_wp2_with fail
  refine (HM.out _ HL1.out).mono ?_
  rintro e w2 ⟨rfl, rfl⟩
  go_wp2_with fail
  go_ret2
  exact ⟨rfl, HB.out⟩
theorem Mul_arg_q (M q : Nat) (hM : 2 ≤ M) (hf : Fld 2 M q) (a b : Int) (hab : ¬ (InQ q a ∧ InQ q b)) (w : World) (hL : Lays w) :
    Calls Tryz.prog 166 #[.agg #[.int .i64 2, .int .i64 (M : Int)], .int .i64 a, .int .i64 b] w fun e w' => e = Ret2 0 2 ∧ Below w.heap.size w w' := by
  have H := Lib.hid (fun o => open_q M q hM hf (some ⟨w.heap.size + 1, 0, none⟩) [a, b] 2 2 rfl (by omega) _ (hL.below (below2 w o _)) (rd2 w o a b))
  have HAB := Lib.hid hab
  clear hL hf hab
  go_enter Tryz.func166, Tryz.ntmps166
  go_wp2_with fail
  refine (H.out _).mono ?_
  rintro e w1 ⟨hB, ⟨hO, rfl⟩ | ⟨hO, rfl⟩⟩
  · exact absurd (two_inq hO) HAB.out
  have HB := Lib.hid ((below2 w _ _).trans (hB.mono (below2 w _ _).size))
  clear hB hO
  go_wp2_with fail
  go_ret2
  exact ⟨rfl, HB.out⟩
theorem Mul_arg (P M q : Nat) (hf : Fld P M q) (a b : Int) (hab : ¬ (InQ q a ∧ InQ q b)) (w : World) (hL : Lays w) :
    Calls Tryz.prog 166 #[.agg #[.int .i64 (P : Int), .int .i64 (M : Int)], .int .i64 a, .int .i64 b] w fun e w' => e = Ret2 0 2 ∧ Below w.heap.size w w' := by
  rcases hf.cases with ⟨rfl, rfl⟩ | ⟨rfl, hM⟩
  · exact Mul_arg_p _ hf a b hab w hL
  · exact Mul_arg_q M q hM hf a b hab w hL
end Go.Proofs.YtopbfgkfpgnalaaGreatDoor
namespace Go.Proofs.YtopbfgkfpgnalaaGreatDoor
open Go.RowKit

theorem one_inq {q : Nat} {a : Int} (h : ∀ x ∈ [a], InQ q x) : InQ q a := h a (by simp)
theorem one_not {q : Nat} {a : Int} (h : ∃ x ∈ [a], ¬ InQ q x) : ¬ InQ q a := by
  obtain ⟨x, hx, hn⟩ := h
  simp only [List.mem_cons, List.not_mem_nil, or_false] at hx
  subst hx
  exact hn
theorem below1 (w : World) (o : Obj) : Below w.heap.size w (w.alloc o) := (Below.refl _ w).alloc (Nat.le_refl _) _

theorem Order_form (P M : Int) (h : ¬ OkF P M) (w : World) (hL : Lays w) :
    Calls Tryz.prog 90 #[.agg #[.int .i64 P, .int .i64 M]] w fun e w' => e = .returned (.int .i64 0) ∧ Below w.heap.size w w' := by
  have H := Lib.hid (fun o v => open_no P M h v _ (hL.below (below1 w o)))
  clear hL h
  go_enter Tryz.func90, Tryz.ntmps90
  go_wp2_with fail
  refine (H.out _ _).mono ?_
  rintro e w1 ⟨rfl, hB⟩
  have HB := Lib.hid ((below1 w _).trans (hB.mono (below1 w _).size))
  clear hB
  go_wp2_with fail
  go_ret
  exact ⟨rfl, HB.out⟩
theorem Order_ok_p (q : Nat) (hf : Fld q 1 q) (w : World) (hL : Lays w) :
    Calls Tryz.prog 90 #[.agg #[.int .i64 (q : Int), .int .i64 1]] w fun e w' => e = .returned (.int .i64 (q : Nat)) ∧ Below w.heap.size w w' := by
  have H := Lib.hid (fun o => open_p q hf none [] 0 0 rfl (by omega) _ (hL.below (below1 w o)) (RdI.nil _ _))
  have HM := Lib.hid (fun w => p_order q w)
  have hmm := m_order_p q
  clear hL hf
  go_enter Tryz.func90, Tryz.ntmps90
  go_wp2_with fail
  refine (H.out _).mono ?_
  rintro e w1 ⟨hB, ⟨hO, rfl⟩ | ⟨hO, rfl⟩⟩
  case inr =>
    obtain ⟨x, hx, _⟩ := hO
    cases hx
  have HB := Lib.hid ((below1 w _).trans (hB.mono (below1 w _).size))
  clear hB hO
  go_wp2_with fail
  refine (HM.out _).mono ?_
  rintro e w2 ⟨rfl, rfl⟩
  go_wp2_with fail
  go_ret
  exact ⟨rfl, HB.out⟩
theorem Order_ok_q (M q : Nat) (hM : 2 ≤ M) (hf : Fld 2 M q) (w : World) (hL : Lays w) :
    Calls Tryz.prog 90 #[.agg #[.int .i64 2, .int .i64 (M : Int)]] w fun e w' => e = .returned (.int .i64 (q : Nat)) ∧ Below w.heap.size w w' := by
  have H := Lib.hid (fun o => open_q M q hM hf none [] 0 0 rfl (by omega) _ (hL.below (below1 w o)) (RdI.nil _ _))
  have HM := Lib.hid (fun w => q_order M q hf.m_le (hf.q_eq hM) w)
  have hmm := m_order_q M
  clear hL hf
  go_enter Tryz.func90, Tryz.ntmps90
  go_wp2_with fail
  refine (H.out _).mono ?_
  rintro e w1 ⟨hB, ⟨hO, rfl⟩ | ⟨hO, rfl⟩⟩
  case inr =>
    obtain ⟨x, hx, _⟩ := hO
    cases hx
  have HB := Lib.hid ((below1 w _).trans (hB.mono (below1 w _).size))
  clear hB hO
  go_wp2_with fail
  refine (HM.out _).mono ?_
  rintro e w2 ⟨rfl, rfl⟩
  go_wp2_with fail
  go_ret
  exact ⟨rfl, HB.out⟩

theorem Order_ok (P M q : Nat) (hf : Fld P M q) (w : World) (hL : Lays w) :
    Calls Tryz.prog 90 #[.agg #[.int .i64 (P : Int), .int .i64 (M : Int)]] w fun e w' => e = .returned (.int .i64 (q : Nat)) ∧ Below w.heap.size w w' := by
  rcases hf.cases with ⟨rfl, rfl⟩ | ⟨rfl, hM⟩
  · exact Order_ok_p _ hf w hL
  · exact Order_ok_q M q hM hf w hL

theorem Inverse_form (P M a : Int) (h : ¬ OkF P M) (w : World) (hL : Lays w) :
    Calls Tryz.prog 176 #[.agg #[.int .i64 P, .int .i64 M], .int .i64 a] w fun e w' => e = Ret2 0 1 ∧ Below w.heap.size w w' := by
  have H := Lib.hid (fun o o' v => open_no P M h v _ (hL.below (below2 w o o')))
  clear hL h
  go_enter Tryz.func176, Tryz.ntmps176
  go_wp2_with fail
  refine (H.out _ _ _).mono ?_
  rintro e w1 ⟨rfl, hB⟩
  have HB := Lib.hid ((below2 w _ _).trans (hB.mono (below2 w _ _).size))
  clear hB
  go_wp2_with fail
  go_ret2
  exact ⟨rfl, HB.out⟩
theorem Power_form (P M a k : Int) (h : ¬ OkF P M) (w : World) (hL : Lays w) :
    Calls Tryz.prog 180 #[.agg #[.int .i64 P, .int .i64 M], .int .i64 a, .int .i64 k] w fun e w' => e = Ret2 0 1 ∧ Below w.heap.size w w' := by
  have H := Lib.hid (fun o o' v => open_no P M h v _ (hL.below (below2 w o o')))
  clear hL h
  go_enter Tryz.func180, Tryz.ntmps180
  go_wp2_with fail
  refine (H.out _ _ _).mono ?_
  rintro e w1 ⟨rfl, hB⟩
  have HB := Lib.hid ((below2 w _ _).trans (hB.mono (below2 w _ _).size))
  clear hB
  go_wp2_with fail
  go_ret2
  exact ⟨rfl, HB.out⟩
set_option maxHeartbeats 400000 in
theorem Inverse_arg_p (q : Nat) (hf : Fld q 1 q) (a : Int) (ha : ¬ InQ q a) (w : World) (hL : Lays w) :
    Calls Tryz.prog 176 #[.agg #[.int .i64 (q : Int), .int .i64 1], .int .i64 a] w fun e w' => e = Ret2 0 2 ∧ Below w.heap.size w w' := by
  have H := Lib.hid (fun o => open_p q hf (some ⟨w.heap.size + 1, 0, none⟩) [a] 1 1 rfl (by omega) _ (hL.below (below2 w o _)) (rd1 w o a))
  have HA := Lib.hid ha
  clear hL ha hf
  go_enter Tryz.func176, Tryz.ntmps176
  go_wp2_with fail
  refine (H.out _).mono ?_
  rintro e w1 ⟨hB, ⟨hO, rfl⟩ | ⟨hO, rfl⟩⟩
  case inl => exact absurd (one_inq hO) HA.out
  have HB := Lib.hid ((below2 w _ _).trans (hB.mono (below2 w _ _).size))
  clear hB hO
  go_wp2_with fail
  go_ret2
  exact ⟨rfl, HB.out⟩
set_option maxHeartbeats 400000 in
theorem Inverse_zero_p (q : Nat) (hf : Fld q 1 q)  (w : World) (hL : Lays w) :
    Calls Tryz.prog 176 #[.agg #[.int .i64 (q : Int), .int .i64 1], .int .i64 0] w fun e w' => e = Ret2 0 6 ∧ Below w.heap.size w w' := by
  have H := Lib.hid (fun o => open_p q hf (some ⟨w.heap.size + 1, 0, none⟩) [((0 : Nat) : Int)] 1 1 rfl (by omega) _ (hL.below (below2 w o _)) (rd1 w o ((0 : Nat) : Int)))
  have ha : 0 < q := by have := hf.q_ge; omega
  clear hL hf
  go_enter Tryz.func176, Tryz.ntmps176
  go_wp2_with fail
  refine (H.out _).mono ?_
  rintro e w1 ⟨hB, ⟨hO, rfl⟩ | ⟨hO, rfl⟩⟩
  case inr => exact absurd (inq_of ha) (one_not hO)
  have HB := Lib.hid ((below2 w _ _).trans (hB.mono (below2 w _ _).size))
  clear hB hO
  go_wp2_with fail
  go_ret2
  exact ⟨rfl, HB.out⟩
set_option maxHeartbeats 400000 in
theorem Inverse_ok_p (q : Nat) (hf : Fld q 1 q) (a : Nat) (h0 : 0 < a) (ha : a < q) (w : World) (hL : Lays w) :
    Calls Tryz.prog 176 #[.agg #[.int .i64 (q : Int), .int .i64 1], .int .i64 a] w fun e w' => e = Ret2 (powN q 1 a (q - 2) : Nat) 0 ∧ Below w.heap.size w w' := by
  have H := Lib.hid (fun o => open_p q hf (some ⟨w.heap.size + 1, 0, none⟩) [(a : Int)] 1 1 rfl (by omega) _ (hL.below (below2 w o _)) (rd1 w o (a : Int)))
  have hq2 := hf.q_ge
  have hq3 := hf.q_le
  have hqe : ((q - 2 : Nat) : Int) = (q : Int) - 2 := by omega
  have HP := Lib.hid (fun w hL => power_p q hf a (q - 2) ha (by omega) w hL)
  rw [hqe] at HP
  clear hqe
  have HO := Lib.hid (fun w => p_order q w)
  have HL := Lib.hid hL
  have hmm := m_order_p q
  clear hL hf
  go_enter Tryz.func176, Tryz.ntmps176
  go_wp2_with fail
  refine (H.out _).mono ?_
  rintro e w1 ⟨hB, ⟨hO, rfl⟩ | ⟨hO, rfl⟩⟩
  case inr => exact absurd (inq_of ha) (one_not hO)
  have HB := Lib.hid ((below2 w _ _).trans (hB.mono (below2 w _ _).size))
  clear hB hO
  have HL1 := Lib.hid (HL.out.below HB.out)
  go_wp2_with fail
  refine (HO.out _).mono ?_
  rintro e w2 ⟨rfl, rfl⟩
  go_wp2_with fail
  refine (HP.out _ HL1.out).mono ?_
  rintro e w3 ⟨rfl, rfl⟩
  go_wp2_with fail
  go_ret2
  exact ⟨rfl, HB.out⟩
set_option maxHeartbeats 400000 in
theorem Inverse_arg_q (M q : Nat) (hM : 2 ≤ M) (hf : Fld 2 M q) (a : Int) (ha : ¬ InQ q a) (w : World) (hL : Lays w) :
    Calls Tryz.prog 176 #[.agg #[.int .i64 2, .int .i64 (M : Int)], .int .i64 a] w fun e w' => e = Ret2 0 2 ∧ Below w.heap.size w w' := by
  have H := Lib.hid (fun o => open_q M q hM hf (some ⟨w.heap.size + 1, 0, none⟩) [a] 1 1 rfl (by omega) _ (hL.below (below2 w o _)) (rd1 w o a))
  have HA := Lib.hid ha
  clear hL ha hf
  go_enter Tryz.func176, Tryz.ntmps176
  go_wp2_with fail
  refine (H.out _).mono ?_
  rintro e w1 ⟨hB, ⟨hO, rfl⟩ | ⟨hO, rfl⟩⟩
  case inl => exact absurd (one_inq hO) HA.out
  have HB := Lib.hid ((below2 w _ _).trans (hB.mono (below2 w _ _).size))
  clear hB hO
  go_wp2_with fail
  go_ret2
  exact ⟨rfl, HB.out⟩
set_option maxHeartbeats 400000 in
theorem Inverse_zero_q (M q : Nat) (hM : 2 ≤ M) (hf : Fld 2 M q)  (w : World) (hL : Lays w) :
    Calls Tryz.prog 176 #[.agg #[.int .i64 2, .int .i64 (M : Int)], .int .i64 0] w fun e w' => e = Ret2 0 6 ∧ Below w.heap.size w w' := by
  have H := Lib.hid (fun o => open_q M q hM hf (some ⟨w.heap.size + 1, 0, none⟩) [((0 : Nat) : Int)] 1 1 rfl (by omega) _ (hL.below (below2 w o _)) (rd1 w o ((0 : Nat) : Int)))
  have ha : 0 < q := by have := hf.q_ge; omega
  clear hL hf
  go_enter Tryz.func176, Tryz.ntmps176
  go_wp2_with fail
  refine (H.out _).mono ?_
  rintro e w1 ⟨hB, ⟨hO, rfl⟩ | ⟨hO, rfl⟩⟩
  case inr => exact absurd (inq_of ha) (one_not hO)
  have HB := Lib.hid ((below2 w _ _).trans (hB.mono (below2 w _ _).size))
  clear hB hO
  go_wp2_with fail
  go_ret2
  exact ⟨rfl, HB.out⟩
theorem Inverse_arg (P M q : Nat) (hf : Fld P M q) (a : Int) (ha : ¬ InQ q a) (w : World) (hL : Lays w) :
    Calls Tryz.prog 176 #[.agg #[.int .i64 (P : Int), .int .i64 (M : Int)], .int .i64 a] w fun e w' => e = Ret2 0 2 ∧ Below w.heap.size w w' := by
  rcases hf.cases with ⟨rfl, rfl⟩ | ⟨rfl, hM⟩
  · exact Inverse_arg_p _ hf a ha w hL
  · exact Inverse_arg_q M q hM hf a ha w hL
theorem Inverse_zero (P M q : Nat) (hf : Fld P M q) (w : World) (hL : Lays w) :
    Calls Tryz.prog 176 #[.agg #[.int .i64 (P : Int), .int .i64 (M : Int)], .int .i64 0] w fun e w' => e = Ret2 0 6 ∧ Below w.heap.size w w' := by
  rcases hf.cases with ⟨rfl, rfl⟩ | ⟨rfl, hM⟩
  · exact Inverse_zero_p _ hf w hL
  · exact Inverse_zero_q M q hM hf w hL
set_option maxHeartbeats 400000 in
theorem Power_arg_p (q : Nat) (hf : Fld q 1 q) (a k : Int) (ha : ¬ InQ q a) (w : World) (hL : Lays w) :
    Calls Tryz.prog 180 #[.agg #[.int .i64 (q : Int), .int .i64 1], .int .i64 a, .int .i64 k] w fun e w' => e = Ret2 0 2 ∧ Below w.heap.size w w' := by
  have H := Lib.hid (fun o => open_p q hf (some ⟨w.heap.size + 1, 0, none⟩) [a] 1 1 rfl (by omega) _ (hL.below (below2 w o _)) (rd1 w o a))
  have HA := Lib.hid ha
  clear hL ha hf
  go_enter Tryz.func180, Tryz.ntmps180
  go_wp2_with fail
  refine (H.out _).mono ?_
  rintro e w1 ⟨hB, ⟨hO, rfl⟩ | ⟨hO, rfl⟩⟩
  case inl => exact absurd (one_inq hO) HA.out
  have HB := Lib.hid ((below2 w _ _).trans (hB.mono (below2 w _ _).size))
  clear hB hO
  go_wp2_with fail
  go_ret2
  exact ⟨rfl, HB.out⟩
set_option maxHeartbeats 400000 in
theorem Power_neg_p (q : Nat) (hf : Fld q 1 q) (a : Nat) (k : Int) (ha : a < q) (hk : k < 0) (w : World) (hL : Lays w) :
    Calls Tryz.prog 180 #[.agg #[.int .i64 (q : Int), .int .i64 1], .int .i64 a, .int .i64 k] w fun e w' => e = Ret2 0 2 ∧ Below w.heap.size w w' := by
  have H := Lib.hid (fun o => open_p q hf (some ⟨w.heap.size + 1, 0, none⟩) [(a : Int)] 1 1 rfl (by omega) _ (hL.below (below2 w o _)) (rd1 w o (a : Int)))
  clear hL hf
  go_enter Tryz.func180, Tryz.ntmps180
  go_wp2_with fail
  refine (H.out _).mono ?_
  rintro e w1 ⟨hB, ⟨hO, rfl⟩ | ⟨hO, rfl⟩⟩
  case inr => exact absurd (inq_of ha) (one_not hO)
  have HB := Lib.hid ((below2 w _ _).trans (hB.mono (below2 w _ _).size))
  clear hB hO
  go_wp2_with fail
  go_ret2
  exact ⟨rfl, HB.out⟩
set_option maxHeartbeats 400000 in
theorem Power_ok_p (q : Nat) (hf : Fld q 1 q) (a k : Nat) (ha : a < q) (hk : k < 9223372036854775808) (w : World) (hL : Lays w) :
    Calls Tryz.prog 180 #[.agg #[.int .i64 (q : Int), .int .i64 1], .int .i64 a, .int .i64 k] w fun e w' => e = Ret2 (powN q 1 a k : Nat) 0 ∧ Below w.heap.size w w' := by
  have H := Lib.hid (fun o => open_p q hf (some ⟨w.heap.size + 1, 0, none⟩) [(a : Int)] 1 1 rfl (by omega) _ (hL.below (below2 w o _)) (rd1 w o (a : Int)))
  have HP := Lib.hid (fun w hL => power_p q hf a k ha hk w hL)
  have HL := Lib.hid hL
  clear hL hf
  go_enter Tryz.func180, Tryz.ntmps180
  go_wp2_with fail
  refine (H.out _).mono ?_
  rintro e w1 ⟨hB, ⟨hO, rfl⟩ | ⟨hO, rfl⟩⟩
  case inr => exact absurd (inq_of ha) (one_not hO)
  have HB := Lib.hid ((below2 w _ _).trans (hB.mono (below2 w _ _).size))
  clear hB hO
  have HL1 := Lib.hid (HL.out.below HB.out)
  go_wp2_with fail
  refine (HP.out _ HL1.out).mono ?_
  rintro e w3 ⟨rfl, rfl⟩
  go_wp2_with fail
  go_ret2
  exact ⟨rfl, HB.out⟩
set_option maxHeartbeats 400000 in
theorem Power_arg_q (M q : Nat) (hM : 2 ≤ M) (hf : Fld 2 M q) (a k : Int) (ha : ¬ InQ q a) (w : World) (hL : Lays w) :
    Calls Tryz.prog 180 #[.agg #[.int .i64 2, .int .i64 (M : Int)], .int .i64 a, .int .i64 k] w fun e w' => e = Ret2 0 2 ∧ Below w.heap.size w w' := by
  have H := Lib.hid (fun o => open_q M q hM hf (some ⟨w.heap.size + 1, 0, none⟩) [a] 1 1 rfl (by omega) _ (hL.below (below2 w o _)) (rd1 w o a))
  have HA := Lib.hid ha
  clear hL ha hf
  go_enter Tryz.func180, Tryz.ntmps180
  go_wp2_with fail
  refine (H.out _).mono ?_
  rintro e w1 ⟨hB, ⟨hO, rfl⟩ | ⟨hO, rfl⟩⟩
  case inl => exact absurd (one_inq hO) HA.out
  have HB := Lib.hid ((below2 w _ _).trans (hB.mono (below2 w _ _).size))
  clear hB hO
  go_wp2_with fail
  go_ret2
  exact ⟨rfl, HB.out⟩
set_option maxHeartbeats 400000 in
theorem Power_neg_q (M q : Nat) (hM : 2 ≤ M) (hf : Fld 2 M q) (a : Nat) (k : Int) (ha : a < q) (hk : k < 0) (w : World) (hL : Lays w) :
    Calls Tryz.prog 180 #[.agg #[.int .i64 2, .int .i64 (M : Int)], .int .i64 a, .int .i64 k] w fun e w' => e = Ret2 0 2 ∧ Below w.heap.size w w' := by
  have H := Lib.hid (fun o => open_q M q hM hf (some ⟨w.heap.size + 1, 0, none⟩) [(a : Int)] 1 1 rfl (by omega) _ (hL.below (below2 w o _)) (rd1 w o (a : Int)))
  clear hL hf
  go_enter Tryz.func180, Tryz.ntmps180
  go_wp2_with fail
  refine (H.out _).mono ?_
  rintro e w1 ⟨hB, ⟨hO, rfl⟩ | ⟨hO, rfl⟩⟩
  case inr => exact absurd (inq_of ha) (one_not hO)
  have HB := Lib.hid ((below2 w _ _).trans (hB.mono (below2 w _ _).size))
  clear hB hO
  go_wp2_with fail
  go_ret2
  exact ⟨rfl, HB.out⟩
theorem Power_arg (P M q : Nat) (hf : Fld P M q) (a k : Int) (ha : ¬ InQ q a) (w : World) (hL : Lays w) :
    Calls Tryz.prog 180 #[.agg #[.int .i64 (P : Int), .int .i64 (M : Int)], .int .i64 a, .int .i64 k] w fun e w' => e = Ret2 0 2 ∧ Below w.heap.size w w' := by
  rcases hf.cases with ⟨rfl, rfl⟩ | ⟨rfl, hM⟩
  · exact Power_arg_p _ hf a k ha w hL
  · exact Power_arg_q M q hM hf a k ha w hL
theorem Power_neg (P M q : Nat) (hf : Fld P M q) (a : Nat) (k : Int) (ha : a < q) (hk : k < 0) (w : World) (hL : Lays w) :
    Calls Tryz.prog 180 #[.agg #[.int .i64 (P : Int), .int .i64 (M : Int)], .int .i64 a, .int .i64 k] w fun e w' => e = Ret2 0 2 ∧ Below w.heap.size w w' := by
  rcases hf.cases with ⟨rfl, rfl⟩ | ⟨rfl, hM⟩
  · exact Power_neg_p _ hf a k ha hk w hL
  · exact Power_neg_q M q hM hf a k ha hk w hL
end Go.Proofs.YtopbfgkfpgnalaaGreatDoor
namespace Go.Proofs.YtopbfgkfpgnalaaGreatDoor
open Go.RowKit

theorem ordR_cond (P M : Int) (h : P < 2 ∨ 65536 < P ∨ M < 1 ∨ 16 < M ∨ (1 < M ∧ P ≠ 2)) (w : World) :
    Calls Tryz.prog 86 #[.agg #[.int .i64 P, .int .i64 M]] w fun e w' => e = .returned (.int .i64 0) ∧ Below w.heap.size w w' := by
  by_cases h1 : P < 2
  · clear h
    go_enter Tryz.func86, Tryz.ntmps86
    go_wp2
    go_ret
    exact ⟨rfl, below1 w _⟩
  by_cases h2 : 65536 < P
  · clear h
    go_enter Tryz.func86, Tryz.ntmps86
    go_wp2
    go_ret
    exact ⟨rfl, below1 w _⟩
  by_cases h3 : M < 1
  · clear h
    go_enter Tryz.func86, Tryz.ntmps86
    go_wp2
    go_ret
    exact ⟨rfl, below1 w _⟩
  by_cases h4 : 16 < M
  · clear h
    go_enter Tryz.func86, Tryz.ntmps86
    go_wp2
    go_ret
    exact ⟨rfl, below1 w _⟩
  have h5 : 1 < M := by omega
  have h6 : P ≠ 2 := by omega
  clear h
  go_enter Tryz.func86, Tryz.ntmps86
  go_wp2
  go_ret
  exact ⟨rfl, below1 w _⟩

def OrdIs (P : Nat) (w : World) (e : Ending) (w' : World) : Prop := Below w.heap.size w w' ∧ (Pr P ∧ e = .returned (.int .i64 (P : Nat)) ∨ ¬ Pr P ∧ e = .returned (.int .i64 0))
def NoDiv (P k : Nat) : Prop := ∀ j, 2 ≤ j → j < k → P % j ≠ 0
theorem NoDiv.succ {P k : Nat} (h : NoDiv P k) (hk : P % k ≠ 0) : NoDiv P (k + 1) := fun j h2 hj => by
  by_cases he : j = k
  · subst he; exact hk
  · exact h j h2 (by omega)


set_option maxRecDepth 100000 in
set_option maxHeartbeats 1000000 in
theorem ordR_two (M q : Nat) (hM : 1 ≤ M) (hM2 : M ≤ 16) (hq : q = 2 ^ M) (w : World) :
    Calls Tryz.prog 86 #[.agg #[.int .i64 2, .int .i64 M]] w fun e w' => e = .returned (.int .i64 q) ∧ Below w.heap.size w w' := by
  have HB := Lib.hid (below1 w (.cells #[.int .i64 2, .int .i64 (M : Int)] 49))
  have HQ := Lib.hid hq
  clear hq
  by_cases hm1 : 1 < M
  all_goals
    go_enter Tryz.func86, Tryz.ntmps86
    go_wp2_with fail
    go_loop [3] (fun i => i = .int .i64 2) (fun i => 0)
    case atStart => rfl
    case round =>
      subst hrel
      go_wp2_with fail
      go_loop [4, 5] (fun r i => ∃ k z : Nat, k ≤ M ∧ i = .int .i64 k ∧ r = .int .i64 z ∧ z ≤ 65536 ∧ Hid (z = 2 ^ k)) (fun _ i => M - (intOf i).toNat)
      case atStart => exact ⟨0, 1, by omega, rfl, rfl, by omega, rfl⟩
      case round =>
        obtain ⟨k, z, hk, rfl, rfl, hz, HZ⟩ := hrel
        by_cases hlt : k < M
        · have hp := pow16 (M := k + 1) (by omega)
          rw [Nat.pow_succ, ← HZ.out] at hp
          have HZ2 := Lib.hid (show z * 2 = 2 ^ (k + 1) by rw [Nat.pow_succ, HZ.out])
          go_wp2_with fail
          go_round
          case rel => exact ⟨k + 1, z * 2, by omega, by go_num, int_val (by omega), hp, HZ2⟩
          case measure => simp [intOf]; omega
        · have hz2 : z = q := by rw [HZ.out, HQ.out, show k = M by omega]
          have HZ3 := Lib.hid hz2
          clear hz2
          go_wp2_with fail
          go_ret
          exact ⟨ret_int (congrArg Nat.cast HZ3.out), HB.out⟩

set_option maxRecDepth 100000 in
set_option maxHeartbeats 1000000 in
theorem ordR_one (P : Nat) (hP : 2 ≤ P) (hP2 : P ≤ 65536) (w : World) :
    Calls Tryz.prog 86 #[.agg #[.int .i64 P, .int .i64 1]] w (OrdIs P w) := by
  have HB := Lib.hid (below1 w (.cells #[.int .i64 (P : Int), .int .i64 1] 49))
  go_enter Tryz.func86, Tryz.ntmps86
  go_wp2_with fail
  go_loop [3] (fun i => ∃ k : Nat, 2 ≤ k ∧ k ≤ P ∧ i = .int .i64 k ∧ NoDiv P k) (fun i => P - (intOf i).toNat)
  case atStart => exact ⟨2, by omega, by omega, rfl, fun j h1 h2 => by omega⟩
  case round =>
    obtain ⟨k, hk2, hk, rfl, hn⟩ := hrel
    have HN := Lib.hid hn
    clear hn
    by_cases hlt : k < P
    · by_cases h3 : P % k = 0
      · go_wp2_with fail
        go_ret
        exact ⟨HB.out, .inr ⟨fun hp => hp.2 k hk2 hlt h3, rfl⟩⟩
      · go_wp2_with fail
        go_round
        case rel => exact ⟨k + 1, by omega, by omega, by go_num, HN.out.succ h3⟩
        case measure => simp [intOf]; omega
    · have hpr : Pr P := ⟨hP, fun d h1 h2 => HN.out d h1 (by omega)⟩
      have HPR := Lib.hid hpr
      clear hpr HN
      go_wp2_with fail
      go_loop [4, 5] (fun r i => ∃ k z : Nat, k ≤ 1 ∧ i = .int .i64 k ∧ r = .int .i64 z ∧ (k = 0 → z = 1) ∧ (k = 1 → z = P)) (fun _ i => 1 - (intOf i).toNat)
      case atStart => exact ⟨0, 1, by omega, rfl, rfl, fun _ => rfl, fun h => by cases h⟩
      case round =>
        obtain ⟨k, z, hk, rfl, rfl, hz0, hz1⟩ := hrel
        by_cases hlt2 : k = 0
        · have hz := hz0 hlt2
          subst hlt2
          subst hz
          clear hz0 hz1
          go_wp2_with fail
          go_round
          case rel => exact ⟨1, P, by omega, rfl, int_val (by omega), (fun h => by cases h), fun _ => rfl⟩
          case measure => simp [intOf]
        · have hz := hz1 (by omega)
          have hk1 : k = 1 := by omega
          subst hk1
          subst hz
          clear hz0 hz1
          go_wp2_with fail
          go_ret
          exact ⟨HB.out, .inl ⟨HPR.out, rfl⟩⟩
end Go.Proofs.YtopbfgkfpgnalaaGreatDoor
namespace Go.Proofs.YtopbfgkfpgnalaaGreatDoor
open Go.RowKit

theorem ordR_no (P M : Int) (h : ¬ OkF P M) (w : World) :
    Calls Tryz.prog 86 #[.agg #[.int .i64 P, .int .i64 M]] w fun e w' => e = .returned (.int .i64 0) ∧ Below w.heap.size w w' := by
  by_cases hc : P < 2 ∨ 65536 < P ∨ M < 1 ∨ 16 < M ∨ (1 < M ∧ P ≠ 2)
  · exact ordR_cond P M hc w
  · have hM : M = 1 := by
      by_cases h1 : M = 1
      · exact h1
      · exact absurd (.inl ⟨by omega, by omega, by omega⟩) h
    subst hM
    obtain ⟨k, rfl⟩ : ∃ k : Nat, P = k := ⟨P.toNat, by omega⟩
    refine (ordR_one k (by omega) (by omega) w).mono fun e w' ⟨hB, hh⟩ => ⟨?_, hB⟩
    rcases hh with ⟨hp, rfl⟩ | ⟨_, rfl⟩
    · exact absurd (Fld.ok (q := k) (M := 1) (.inl ⟨rfl, hp, by omega, rfl⟩)) h
    · rfl
theorem ordR_ok (P M q : Nat) (hf : Fld P M q) (w : World) :
    Calls Tryz.prog 86 #[.agg #[.int .i64 P, .int .i64 M]] w fun e w' => e = .returned (.int .i64 q) ∧ Below w.heap.size w w' := by
  rcases hf with ⟨rfl, h1, h2, rfl⟩ | ⟨rfl, h1, h2, rfl⟩
  · refine (ordR_one q h1.1 h2 w).mono fun e w' ⟨hB, hh⟩ => ⟨?_, hB⟩
    rcases hh with ⟨hp, rfl⟩ | ⟨hp, rfl⟩
    · rfl
    · exact absurd h1 hp
  · exact ordR_two M _ (by omega) h2 rfl w

theorem validR_no (P M : Int) (h : ¬ OkF P M) (w : World) :
    Calls Tryz.prog 54 #[.agg #[.int .i64 P, .int .i64 M]] w fun e w' => e = .returned (.bool false) ∧ Below w.heap.size w w' := by
  have H := Lib.hid (fun w => ordR_no P M h w)
  clear h
  go_enter Tryz.func54, Tryz.ntmps54
  go_wp2_with fail
  refine (H.out _).mono ?_
  rintro e w1 ⟨rfl, hB⟩
  have HB := Lib.hid ((below1 w _).trans (hB.mono (below1 w _).size))
  clear hB
  go_wp2_with fail
  go_ret
  exact ⟨rfl, HB.out⟩
theorem validR_ok (P M q : Nat) (hf : Fld P M q) (w : World) :
    Calls Tryz.prog 54 #[.agg #[.int .i64 P, .int .i64 M]] w fun e w' => e = .returned (.bool true) ∧ Below w.heap.size w w' := by
  have H := Lib.hid (fun w => ordR_ok P M q hf w)
  have hq := hf.q_ge
  clear hf
  go_enter Tryz.func54, Tryz.ntmps54
  go_wp2_with fail
  refine (H.out _).mono ?_
  rintro e w1 ⟨rfl, hB⟩
  have HB := Lib.hid ((below1 w _).trans (hB.mono (below1 w _).size))
  clear hB
  go_wp2_with fail
  go_ret
  exact ⟨ret_bool (decide_eq_true (by omega)), HB.out⟩

theorem blen_zero : blen 0 = 0 := rfl
theorem blen_pos {a : Nat} (h : 0 < a) : 0 < blen a := by
  have : ¬ blen a ≤ 0 := by rw [blen_le]; simp; omega
  omega

theorem degree_any (n l : Nat) (hn : n < 9223372036854775808) (hl : l = blen n) (w : World) :
    Calls Tryz.prog 137 #[.int .i64 n] w fun e w' => e = .returned (.int .i64 ((l : Int) - 1)) ∧ w = w' := by
  have hl63 : l ≤ 63 := by
    rw [hl]
    exact blen_le.2 (by have : (2 : Nat) ^ 63 = 9223372036854775808 := by decide
                        omega)
  have HL := Lib.hid hl
  clear hl
  go_enter Tryz.func137, Tryz.ntmps137
  go_wp2_with fail
  go_loop [0, 3] (fun u v => ∃ x j : Nat, x < 9223372036854775808 ∧ j ≤ l ∧ u = .int .i64 x ∧ v = .int .i64 ((j : Int) - 1) ∧ Hid (j + blen x = l)) (fun u _ => (intOf u).toNat)
  case atStart => exact ⟨n, 0, hn, by omega, rfl, rfl, by rw [HL.out]; exact Nat.zero_add _⟩
  case round =>
    obtain ⟨x, j, hx, hj, rfl, rfl, HJ⟩ := hrel
    by_cases h0 : 0 < x
    · have hh := blen_half x h0
      have H1 : Hid (j + 1 + blen (x / 2) = l) := by rw [← HJ.out, hh]; show _ = _; omega
      have hj2 : j + 1 ≤ l := by have := H1.out; omega
      clear hh
      go_wp2_with fail
      go_round
      case rel => exact ⟨x / 2, j + 1, by omega, hj2, int_val (by omega), int_val (by omega), H1⟩
      case measure => simp [intOf]; omega
    · have hx0 : x = 0 := by omega
      subst hx0
      have hjl : j = l := by have := HJ.out; rw [blen_zero] at this; omega
      have HJL := Lib.hid hjl
      clear hjl
      go_wp2_with fail
      go_ret
      exact ⟨ret_int (by rw [HJL.out]), rfl⟩

theorem rest_slot (x b lx lb : Nat) (hx : x < 1099511627776) (hb : 0 < b) (hlx40 : lx ≤ 40) (hlx : lx = blen x) (hlb : lb = blen b) (h : lb ≤ lx) :
    bits .xor .i64 (x : Int) (wrap64 ((b : Int) * 2 ^ (lx - 1 - (lb - 1)))) = ((x ^^^ b <<< (blen x - blen b) : Nat) : Int) ∧ x ^^^ b <<< (blen x - blen b) < 1099511627776 ∧ blen (x ^^^ b <<< (blen x - blen b)) < blen x := by
  have hlb1 := blen_pos hb
  have he : lx - 1 - (lb - 1) = blen x - blen b := by omega
  have hs : blen (b <<< (blen x - blen b)) ≤ 40 := by rw [blen_shift hb]; omega
  have hs2 := blen_le.1 hs
  have e40 : (2 : Nat) ^ 40 = 1099511627776 := by decide
  have hc : (b : Int) * 2 ^ (blen x - blen b) = ((b <<< (blen x - blen b) : Nat) : Int) := by rw [Nat.shiftLeft_eq]; simp
  have hst := blen_step (a := x) hb (by omega)
  refine ⟨?_, ?_, hst⟩
  · have hy : ∀ y : Nat, y < 2 ^ 40 → wrap64 (y : Int) = (y : Int) := fun y h => IntWalk.wrap64_in _ (by omega)
    rw [he, hc, hy _ hs2]
    exact xor_nat x _ (by omega) (Nat.lt_trans hs2 (by decide))
  · rw [← e40] at hx ⊢
    exact Nat.xor_lt_two_pow hx hs2

set_option maxHeartbeats 400000 in
theorem rest_any (a b : Nat) (ha : a < 1099511627776) (hb : 0 < b) (hb2 : b < 1099511627776) (w : World) :
    Calls Tryz.prog 138 #[.int .i64 a, .int .i64 b] w fun e w' => e = .returned (.int .i64 (restN a b : Nat)) ∧ w = w' := by
  obtain ⟨lb, hlb⟩ : ∃ lb, lb = blen b := ⟨_, rfl⟩
  have HLB := Lib.hid hlb
  have hlb1 : 1 ≤ lb := by have := blen_pos hb; omega
  clear hlb
  go_enter Tryz.func138, Tryz.ntmps138
  go_wp2_with fail
  go_loop [0] (fun u => ∃ x : Nat, x < 1099511627776 ∧ u = .int .i64 x ∧ Hid (restN x b = restN a b)) (fun u => blen (intOf u).toNat)
  case atStart => exact ⟨a, ha, rfl, rfl⟩
  case round =>
    obtain ⟨x, hx, rfl, HR⟩ := hrel
    obtain ⟨lx, hlx⟩ : ∃ lx, lx = blen x := ⟨_, rfl⟩
    have hlx40 : lx ≤ 40 := by rw [hlx]; exact blen_le.2 hx
    have HLX := Lib.hid hlx
    clear hlx
    go_wp2_with fail
    refine (degree_any x lx (by omega) HLX.out _).mono ?_
    rintro e w1 ⟨rfl, rfl⟩
    go_wp2_with fail
    refine (degree_any b lb (by omega) HLB.out _).mono ?_
    rintro e w1 ⟨rfl, rfl⟩
    by_cases h : lb ≤ lx
    · go_wp2_with fail
      refine (degree_any x lx (by omega) HLX.out _).mono ?_
      rintro e w1 ⟨rfl, rfl⟩
      go_wp2_with fail
      refine (degree_any b lb (by omega) HLB.out _).mono ?_
      rintro e w1 ⟨rfl, rfl⟩
      have hxb := Lib.hid (rest_slot x b lx lb hx hb hlx40 HLX.out HLB.out h)
      go_wp2_with fail
      go_round
      case rel => exact ⟨x ^^^ b <<< (blen x - blen b), hxb.out.2.1, int_val hxb.out.1, by rw [← HR.out]; exact (restN_step hb (by rw [← HLX.out, ← HLB.out]; exact h) (by rw [← HLX.out]; omega)).symm⟩
      case measure =>
        rw [hxb.out.1]
        show blen (((x ^^^ b <<< (blen x - blen b) : Nat) : Int)).toNat < blen ((x : Int)).toNat
        rw [Int.toNat_natCast, Int.toNat_natCast]
        exact hxb.out.2.2
    · go_wp2_with fail
      go_ret
      exact ⟨ret_int (congrArg Nat.cast (by rw [← HR.out, restN_done]; rw [← HLX.out, ← HLB.out]; omega)), rfl⟩
end Go.Proofs.YtopbfgkfpgnalaaGreatDoor
namespace Go.Proofs.YtopbfgkfpgnalaaGreatDoor
open Go.RowKit

theorem irr_succ (a b : Nat) (hb : 2 ≤ b) : irrUpto a (b + 1) = (irrUpto a b && restN a b != 0) := by
  unfold irrUpto
  rw [List.range_succ, List.all_append]
  have : decide (b < 2) = false := decide_eq_false (by omega)
  simp [this]
theorem irr_two (a : Nat) : irrUpto a 2 = true := by
  unfold irrUpto
  simp [List.range_succ]
theorem irr_mono {a b c : Nat} (h : irrUpto a b = false) (hbc : b ≤ c) : irrUpto a c = false := by
  unfold irrUpto at *
  rw [List.all_eq_false] at *
  obtain ⟨x, hx, hn⟩ := h
  exact ⟨x, List.mem_range.2 (by have := List.mem_range.1 hx; omega), hn⟩
theorem divB_le {M : Nat} (h : M ≤ 16) : divB M ≤ 512 := by
  have : 2 ^ (M / 2 + 1) ≤ 2 ^ 9 := Nat.pow_le_pow_right (by omega) (by omega)
  exact this
theorem divB_ge (M : Nat) : 2 ≤ divB M := by
  have : 2 ^ 1 ≤ 2 ^ (M / 2 + 1) := Nat.pow_le_pow_right (by omega) (by omega)
  exact this
theorem deg_le {M b l : Nat} (hl : l = blen b) (hb : 0 < b) : (2 * (l - 1) ≤ M) ↔ b < divB M := by
  unfold divB
  rw [← blen_le, ← hl]
  have := blen_pos hb
  omega

theorem low_red {M a : Nat} (h2 : 2 ≤ M) (h16 : M ≤ 16) (h : 2 ^ M ≤ a) (hlt : a < modN M) : irrUpto a (divB M) = false := by
  have := mod_least M (by omega) h2
  rw [List.all_eq_true] at this
  have := this (a - 2 ^ M) (List.mem_range.2 (by omega))
  rw [show 2 ^ M + (a - 2 ^ M) = a by omega] at this
  simpa using this

theorem shl_val (M : Nat) (h : M ≤ 16) : wrap64 ((2 : Int) ^ M) = ((2 ^ M : Nat) : Int) := by
  have : (2 : Int) ^ M = ((2 ^ M : Nat) : Int) := by simp
  have hy : ∀ y : Nat, y ≤ 65536 → wrap64 (y : Int) = (y : Int) := fun y h => IntWalk.wrap64_in _ (by omega)
  rw [this]
  exact hy _ (pow16 h)
theorem bne_cast (n : Nat) : ((n : Int) != 0) = (n != 0) := by
  rw [Bool.eq_iff_iff]; simp

set_option maxRecDepth 100000 in
set_option maxHeartbeats 1000000 in
theorem modR_any (M : Nat) (h2 : 2 ≤ M) (h16 : M ≤ 16) (w : World) :
    Calls Tryz.prog 94 #[.int .i64 M] w fun e w' => e = .returned (.int .i64 (modN M : Nat)) ∧ w = w' := by
  have hm := mod_at h2 h16
  have hmi := mod_irr M (by omega) h2
  have hB := divB_le h16
  have hB2 := divB_ge M
  have hL := fun a => low_red (a := a) h2 h16
  have hlo := hm.lo
  have hhi := hm.hi
  have hpb := pow16 h16
  obtain ⟨q, hq⟩ : ∃ q, q = 2 ^ M := ⟨_, rfl⟩
  obtain ⟨m, hmm⟩ : ∃ m, m = modN M := ⟨_, rfl⟩
  obtain ⟨B, hBB⟩ : ∃ B, B = divB M := ⟨_, rfl⟩
  have HV := Lib.hid (shl_val M h16)
  rw [← hq] at HV hlo hhi hpb
  rw [← hmm] at hlo hhi
  rw [← hBB] at hB hB2
  have HL := Lib.hid hL
  have HI := Lib.hid hmi
  rw [← hmm, ← hBB] at HI
  rw [← hq, ← hmm, ← hBB] at HL
  have HM := Lib.hid hmm
  have HBB := Lib.hid hBB
  clear hm hmi hL hq hmm hBB
  rw [← HM.out]
  go_enter Tryz.func94, Tryz.ntmps94
  go_wp2_with fail
  go_loop [3, 4, 5] (fun u _ _ => ∃ a : Nat, q ≤ a ∧ a ≤ m ∧ u = .int .i64 a) (fun u _ _ => m - (intOf u).toNat)
  case atStart => exact ⟨q, by omega, hlo, int_val HV.out⟩
  case round =>
    obtain ⟨a, ha1, ha2, rfl⟩ := hrel
    have HA : Hid (∀ {b : Nat}, false = irrUpto a b → b ≤ B → a < m) := fun {b} hf hb => by
      rcases Nat.lt_or_ge a m with h | h
      · exact h
      · have h1 := irr_mono hf.symm hb
        rw [show a = m by omega, HI.out] at h1
        cases h1
    go_wp2_with fail
    go_loop [4, 5] (fun u v => ∃ (b : Nat) (fl : Bool), 2 ≤ b ∧ b ≤ B ∧ u = .bool fl ∧ v = .int .i64 b ∧ Hid (fl = irrUpto a b)) (fun _ v => B - (intOf v).toNat)
    case atStart => exact ⟨2, true, by omega, hB2, rfl, rfl, (irr_two a).symm⟩
    case round =>
      obtain ⟨b, fl, hb1, hb2, rfl, rfl, HF⟩ := hrel
      obtain ⟨l, hl⟩ : ∃ l, l = blen b := ⟨_, rfl⟩
      have hdl := deg_le (M := M) hl (by omega)
      have HLL := Lib.hid hl
      rw [← HBB.out] at hdl
      have hl1 : 1 ≤ l := by rw [hl]; exact blen_pos (by omega)
      have hl20 : l ≤ 20 := by rw [hl]; exact blen_le.2 (by omega)
      clear hl
      by_cases hlt : b < B
      · have hd := hdl.2 hlt
        clear hdl
        cases fl
        · have ham : a < m := HA.out HF.out hb2
          go_wp2_with fail
          refine (degree_any b l (by omega) HLL.out _).mono ?_
          rintro e w1 ⟨rfl, rfl⟩
          go_wp2_with fail
          go_round
          case rel => exact ⟨a + 1, by omega, by omega, by go_num⟩
          case measure => simp [intOf]; omega
        · go_wp2_with fail
          refine (degree_any b l (by omega) HLL.out _).mono ?_
          rintro e w1 ⟨rfl, rfl⟩
          go_wp2_with fail
          refine (rest_any a b (by omega) (by omega) (by omega) _).mono ?_
          rintro e w1 ⟨rfl, rfl⟩
          go_wp2_with fail
          go_round
          case rel => exact ⟨b + 1, (restN a b != 0), by omega, by omega, by rw [bne_cast], by go_num, by show _ = _; rw [irr_succ a b hb1, ← HF.out, Bool.true_and]⟩
          case measure => simp [intOf]; omega
      · have hd : ¬ 2 * (l - 1) ≤ M := fun h => hlt (hdl.1 h)
        clear hdl
        cases fl
        · have ham : a < m := HA.out HF.out hb2
          go_wp2_with fail
          refine (degree_any b l (by omega) HLL.out _).mono ?_
          rintro e w1 ⟨rfl, rfl⟩
          go_wp2_with fail
          go_round
          case rel => exact ⟨a + 1, by omega, by omega, by go_num⟩
          case measure => simp [intOf]; omega
        · have ham : a = m := by
            rcases Nat.lt_or_ge a m with h | h
            · exfalso
              have h1 := HL.out a ha1 h
              have h2 := HF.out
              rw [show b = B by omega, h1] at h2
              cases h2
            · omega
          have HAM := Lib.hid ham
          clear ham
          go_wp2_with fail
          refine (degree_any b l (by omega) HLL.out _).mono ?_
          rintro e w1 ⟨rfl, rfl⟩
          go_wp2_with fail
          go_ret
          exact ⟨ret_int (congrArg Nat.cast HAM.out), rfl⟩
end Go.Proofs.YtopbfgkfpgnalaaGreatDoor
