/-
  Contracts of the methods of the reference's kit: Is, Add, Neg, Mul, Power, Inverse.
-/
import Derived.Test.YtiiopdomlepkmaaDoorFdk
namespace Go.Proofs.YtiiopdomlepkmaaDoor
open Go.RowKit

theorem Fld.m_ge {P M q : Nat} (h : Fld P M q) : 1 ≤ M := by
  rcases h with ⟨h, _⟩ | ⟨_, h, _⟩ <;> omega
theorem Fld.p_eq {P q : Nat} (h : Fld P 1 q) : q = P := by
  rcases h with ⟨_, _, _, h⟩ | ⟨_, h, _⟩
  · exact h
  · omega
theorem Fld.p_two {P M q : Nat} (h : Fld P M q) (hM : 2 ≤ M) : P = 2 := by
  rcases h with ⟨h, _⟩ | ⟨h, _⟩
  · omega
  · exact h

def negN (P M a : Nat) : Nat := if M = 1 then (P - a) % P else a
theorem Fld.negN_lt {P M q a : Nat} (h : Fld P M q) (ha : a < q) : negN P M a < q := by
  unfold negN
  by_cases hM : M = 1
  · subst hM
    rw [if_pos rfl, h.p_eq]
    exact Nat.mod_lt _ (by have := h.p_eq; omega)
  · rw [if_neg hM]; exact ha
theorem Fld.add_neg {P M q a b : Nat} (h : Fld P M q) : addN P M a (negN P M b) = subN P M a b := by
  unfold addN negN subN
  by_cases hM : M = 1
  · subst hM
    rw [if_pos rfl, if_pos rfl, if_pos rfl, Nat.add_mod_mod]
  · rw [if_neg hM, if_neg hM, if_neg hM]

theorem kitAdd (P M q a b : Nat) (hf : Fld P M q) (ha : a < q) (hb : b < q) (w : World) :
    Calls Tryd.prog 47 #[kitV P M q, .int .i64 a, .int .i64 b] w fun e w' => e = .returned (.int .i64 (addN P M a b : Nat)) ∧ Below w.heap.size w w' := by
  unfold kitV
  have hq3 := hf.q_le
  by_cases hM : M = 1
  · subst hM
    have hp := hf.p_eq
    have hA : addN P 1 a b = (a + b) % P := if_pos rfl
    have HA := Lib.hid hA
    have hq2 := hf.q_ge
    subst hp
    clear hA hf
    go_enter Tryd.func47, Tryd.ntmps47
    go_wp2
    go_ret
    exact ⟨ret_int (by rw [HA.out]; simp), below1 w _⟩
  · have hM2 : 1 < M := by have := hf.m_ge; omega
    have hA : addN P M a b = a ^^^ b := if_neg hM
    have HA := Lib.hid hA
    have HX := Lib.hid (xor_nat a b (by omega) (by omega))
    clear hA hf hM
    go_enter Tryd.func47, Tryd.ntmps47
    go_wp2
    go_ret
    exact ⟨ret_int (by rw [HA.out]; exact HX.out), below1 w _⟩

theorem kitNeg (P M q a : Nat) (hf : Fld P M q) (ha : a < q) (w : World) :
    Calls Tryd.prog 48 #[kitV P M q, .int .i64 a] w fun e w' => e = .returned (.int .i64 (negN P M a : Nat)) ∧ Below w.heap.size w w' := by
  unfold kitV
  have hq3 := hf.q_le
  by_cases hM : M = 1
  · subst hM
    have hp := hf.p_eq
    have hA : negN P 1 a = (P - a) % P := if_pos rfl
    have HA := Lib.hid hA
    have hq2 := hf.q_ge
    subst hp
    clear hA hf
    go_enter Tryd.func48, Tryd.ntmps48
    go_wp2
    go_ret
    exact ⟨ret_int (by rw [HA.out, Int.natCast_emod, Int.natCast_sub (by omega)]), below1 w _⟩
  · have hM2 : 1 < M := by have := hf.m_ge; omega
    have hA : negN P M a = a := if_neg hM
    have HA := Lib.hid hA
    clear hA hf hM
    go_enter Tryd.func48, Tryd.ntmps48
    go_wp2
    go_ret
    exact ⟨ret_int (by rw [HA.out]), below1 w _⟩

theorem bit_val (b i : Nat) (hb : b < 9223372036854775808) : bits .and .i64 ((b : Int) / 2 ^ i) 1 = ((b >>> i % 2 : Nat) : Int) := by
  have h1 : (b : Int) / 2 ^ i = ((b >>> i : Nat) : Int) := by rw [Nat.shiftRight_eq_div_pow]; simp
  rw [h1]
  exact and1_nat _ (Nat.lt_of_le_of_lt (by rw [Nat.shiftRight_eq_div_pow]; exact Nat.div_le_self _ _) hb)
theorem shl_slot (c a i : Nat) (hc : c < 4294967296) (ha : a < 65536) (hi : i < 16) : bits .xor .i64 (c : Int) (wrap64 ((a : Int) * 2 ^ i)) = ((c ^^^ a <<< i : Nat) : Int) ∧ c ^^^ a <<< i < 4294967296 := by
  have h1 : a <<< i < 4294967296 := by
    rw [Nat.shiftLeft_eq]
    have h2 : 2 ^ i ≤ 2 ^ 15 := Nat.pow_le_pow_right (by omega) (by omega)
    have h3 : a * 2 ^ i ≤ 65535 * 2 ^ 15 := Nat.mul_le_mul (by omega) h2
    exact Nat.lt_of_le_of_lt h3 (by decide)
  have hx : (a : Int) * 2 ^ i = ((a <<< i : Nat) : Int) := by rw [Nat.shiftLeft_eq]; simp
  have hy : ∀ y : Nat, y < 4294967296 → wrap64 (y : Int) = (y : Int) := fun y h => IntWalk.wrap64_in _ (by omega)
  have e32 : (4294967296 : Nat) = 2 ^ 32 := by decide
  refine ⟨?_, ?_⟩
  · rw [hx, hy _ h1]
    exact xor_nat c _ (by omega) (Nat.lt_trans h1 (by decide))
  · rw [e32] at hc h1 ⊢
    exact Nat.xor_lt_two_pow hc h1
theorem clm_round {a b c i t : Nat} (hr : c ^^^ clm (a <<< i) (b >>> i) = t) :
    (b >>> i % 2 = 1 → c ^^^ a <<< i ^^^ clm (a <<< (i + 1)) (b >>> (i + 1)) = t) ∧ (¬ b >>> i % 2 = 1 → c ^^^ clm (a <<< (i + 1)) (b >>> (i + 1)) = t) := by
  have h1 : a <<< (i + 1) = 2 * a <<< i := Nat.shiftLeft_succ _ _
  have h2 : b >>> (i + 1) = b >>> i / 2 := Nat.shiftRight_succ _ _
  rw [h1, h2]
  rw [clm_step] at hr
  exact ⟨fun h => by rw [if_pos h, ← Nat.xor_assoc] at hr; exact hr, fun h => by rw [if_neg h, Nat.zero_xor] at hr; exact hr⟩
theorem clm_done {M a b c : Nat} (hb : b < 2 ^ M) (hr : c ^^^ clm (a <<< M) (b >>> M) = clm a b) : c = clm a b := by
  rw [Nat.shiftRight_eq_div_pow, Nat.div_eq_of_lt hb, clm_zero, Nat.xor_zero] at hr
  exact hr

end Go.Proofs.YtiiopdomlepkmaaDoor
