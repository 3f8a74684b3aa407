/-
  Contracts of power, Add, Sub, Mul, Inverse, Power, Order and Modulus of package field, at every field and all numbers.
-/
import Derived.Test.YtiiopdomlepkmaaDoorFdd
namespace Go.Proofs.YtiiopdomlepkmaaDoor
open Go.RowKit
set_option linter.unusedVariables false

/-! What they compute. -/
def addN (P M a b : Nat) : Nat := if M = 1 then (a + b) % P else a ^^^ b
def subN (P M a b : Nat) : Nat := if M = 1 then (a + (P - b)) % P else a ^^^ b
def mulN (P M a b : Nat) : Nat := if M = 1 then a * b % P else pm (2 ^ M) (modN M) a b
def pw (mul : Nat → Nat → Nat) (r a k : Nat) : Nat :=
  if h : k = 0 then r else pw mul (if k % 2 = 1 then mul r a else r) (mul a a) (k / 2)
termination_by k
decreasing_by omega
def powN (P M a k : Nat) : Nat := pw (mulN P M) 1 a k

theorem pw_zero (mul : Nat → Nat → Nat) (r a : Nat) : pw mul r a 0 = r := by rw [pw]; simp
theorem pw_odd (mul : Nat → Nat → Nat) {r a k t : Nat} (h : k % 2 = 1) (hr : pw mul r a k = t) : pw mul (mul r a) (mul a a) (k / 2) = t := by
  rw [← hr, pw.eq_1 mul r a k, dif_neg (by omega), if_pos h]
theorem pw_even (mul : Nat → Nat → Nat) {r a k t : Nat} (h0 : 0 < k) (h : ¬ k % 2 = 1) (hr : pw mul r a k = t) : pw mul r (mul a a) (k / 2) = t := by
  rw [← hr, pw.eq_1 mul r a k, dif_neg (by omega), if_neg h]
theorem pw_lt {mul : Nat → Nat → Nat} {q : Nat} (hm : ∀ a b, a < q → b < q → mul a b < q) (k : Nat) : ∀ r a, r < q → a < q → pw mul r a k < q := by
  induction k using Nat.strongRecOn with
  | ind k ih =>
    intro r a hr ha
    by_cases h : k = 0
    · subst h; rw [pw_zero]; exact hr
    · rw [pw.eq_1, dif_neg h]
      refine ih (k / 2) (by omega) _ _ ?_ (hm _ _ ha ha)
      split
      · exact hm _ _ hr ha
      · exact hr

theorem Fld.mulN_lt {P M q a b : Nat} (h : Fld P M q) (ha : a < q) : mulN P M a b < q := by
  unfold mulN
  rcases h with ⟨rfl, h1, h2, rfl⟩ | ⟨rfl, h1, h2, rfl⟩
  · rw [if_pos rfl]; exact Nat.mod_lt _ (by have := h1.1; omega)
  · rw [if_neg (by omega)]; exact (mod_at h1 h2).pm_lt b ha
theorem Fld.addN_lt {P M q a b : Nat} (h : Fld P M q) (ha : a < q) (hb : b < q) : addN P M a b < q := by
  unfold addN
  rcases h with ⟨rfl, h1, h2, rfl⟩ | ⟨rfl, h1, h2, rfl⟩
  · rw [if_pos rfl]; exact Nat.mod_lt _ (by have := h1.1; omega)
  · rw [if_neg (by omega)]; exact Nat.xor_lt_two_pow ha hb
theorem Fld.subN_lt {P M q a b : Nat} (h : Fld P M q) (ha : a < q) (hb : b < q) : subN P M a b < q := by
  unfold subN
  rcases h with ⟨rfl, h1, h2, rfl⟩ | ⟨rfl, h1, h2, rfl⟩
  · rw [if_pos rfl]; exact Nat.mod_lt _ (by have := h1.1; omega)
  · rw [if_neg (by omega)]; exact Nat.xor_lt_two_pow ha hb
theorem Fld.powN_lt {P M q a : Nat} (h : Fld P M q) (ha : a < q) (k : Nat) : powN P M a k < q :=
  pw_lt (fun _ _ h1 _ => h.mulN_lt h1) k 1 a (by have := h.q_ge; omega) ha

theorem m_mul_p (P : Int) (w : World) (n : Nat) : (method (n + 1) 133 (.int .i64 P) "commodatum/field.mul").run Tryd.prog w = .ok (140, .int .i64 P) w := by kernel_rfl
theorem m_mul_q (M : Int) (w : World) (n : Nat) : (method (n + 1) 134 (.int .i64 M) "commodatum/field.mul").run Tryd.prog w = .ok (145, .int .i64 M) w := by kernel_rfl
theorem m_add_p (P : Int) (w : World) (n : Nat) : (method (n + 1) 133 (.int .i64 P) "commodatum/field.add").run Tryd.prog w = .ok (139, .int .i64 P) w := by kernel_rfl
theorem m_add_q (M : Int) (w : World) (n : Nat) : (method (n + 1) 134 (.int .i64 M) "commodatum/field.add").run Tryd.prog w = .ok (143, .int .i64 M) w := by kernel_rfl
theorem m_sub_p (P : Int) (w : World) (n : Nat) : (method (n + 1) 133 (.int .i64 P) "commodatum/field.sub").run Tryd.prog w = .ok (142, .int .i64 P) w := by kernel_rfl
theorem m_sub_q (M : Int) (w : World) (n : Nat) : (method (n + 1) 134 (.int .i64 M) "commodatum/field.sub").run Tryd.prog w = .ok (147, .int .i64 M) w := by kernel_rfl

theorem mul_p {q a b : Nat} (hf : Fld q 1 q) (w : World) (ha : a < q) (hb : b < q) :
    Calls Tryd.prog 140 #[.int .i64 q, .int .i64 a, .int .i64 b] w fun e w' => e = .returned (.int .i64 (mulN q 1 a b : Nat)) ∧ w = w' :=
  p_mul q a b hf.q_ge hf.q_le ha hb w
set_option maxHeartbeats 1000000 in
theorem power_p (q : Nat) (hf : Fld q 1 q) (a k : Nat) (ha : a < q) (hk : k < 9223372036854775808) (w : World) (hL : Lays w) :
    Calls Tryd.prog 100 #[.iface 133 (.int .i64 q), .int .i64 a, .int .i64 k] w fun e w' => e = .returned (.int .i64 (powN q 1 a k : Nat)) ∧ w = w' := by
  have HMU := Lib.hid (fun x y (hx : x < q) (hy : y < q) => mul_p hf w hx hy)
  have HF := Lib.hid hf
  have hq2 := hf.q_ge
  have hq3 := hf.q_le
  have hmm := m_mul_p q
  clear hL hf
  go_enter Tryd.func100, Tryd.ntmps100
  go_wp2
  go_loop [1, 2, 7] (fun u v p => ∃ x j z : Nat, x < q ∧ j < 9223372036854775808 ∧ z < q ∧ u = .int .i64 x ∧ v = .int .i64 j ∧ p = .int .i64 z ∧ pw (mulN q 1) z x j = powN q 1 a k) (fun _ v _ => (intOf v).toNat)
  case atStart => exact ⟨a, k, 1, ha, hk, by omega, rfl, rfl, rfl, rfl⟩
  case round =>
    obtain ⟨x, j, z, hx, hj, hz, rfl, rfl, rfl, hr⟩ := hrel
    have HR := Lib.hid hr
    clear hr
    by_cases h0 : 0 < j
    · have hxx := HF.out.mulN_lt (b := x) hx
      have hzx := HF.out.mulN_lt (b := x) hz
      by_cases h1 : j % 2 = 1
      · go_wp2_with fail
        refine (HMU.out _ _ hz hx).mono ?_
        rintro e w1 ⟨rfl, rfl⟩
        go_wp2_with fail
        refine (HMU.out _ _ hx hx).mono ?_
        rintro e w1 ⟨rfl, rfl⟩
        go_wp2_with fail
        go_round
        case rel => exact ⟨mulN q 1 x x, j / 2, mulN q 1 z x, hxx, by omega, hzx, rfl, int_val (by omega), rfl, pw_odd _ h1 HR.out⟩
        case measure => simp [intOf]; omega
      · go_wp2_with fail
        refine (HMU.out _ _ hx hx).mono ?_
        rintro e w1 ⟨rfl, rfl⟩
        go_wp2_with fail
        go_round
        case rel => exact ⟨mulN q 1 x x, j / 2, z, hxx, by omega, hz, rfl, int_val (by omega), rfl, pw_even _ h0 h1 HR.out⟩
        case measure => simp [intOf]; omega
    · have hj0 : j = 0 := by omega
      subst hj0
      have hr := HR.out
      rw [pw_zero] at hr
      have HR2 := Lib.hid hr
      clear hr
      go_wp2
      go_ret
      exact ⟨ret_int (congrArg Nat.cast HR2.out), rfl⟩

end Go.Proofs.YtiiopdomlepkmaaDoor
