/-
  Contracts of the operations of the two kinds of fields of package field (order, add, sub, mul, modulus): each holds at elements, in every world in which the table of the moduli and the list of the small primes read as the program's text lays them.
-/
import Derived.Test.YtiiopdomlepkmaaDoorRows
import Derived.Test.YtiiopdomlepkmaaDoorFda
import Derived.WalkKit
import Derived.WalkSpells
import Derived.WalkLawsBesides
import Derived.Lib.Hide
import Derived.Deep.QuietTactic
import Derived.BigQuiet
import Derived.RegionTactic
import Derived.Laws.BitsAllLaws
import Derived.Lib.QuoteBits
import Derived.Below
namespace Go.Proofs.YtiiopdomlepkmaaDoor
open Go.RowKit

theorem ret_int {k : IntKind} {a b : Int} (h : a = b) : Ending.returned (.int k a) = .returned (.int k b) := by rw [h]
theorem int_val {k : IntKind} {a b : Int} (h : a = b) : Value.int k a = .int k b := by rw [h]
theorem ret_bool {a b : Bool} (h : a = b) : Ending.returned (.bool a) = .returned (.bool b) := by rw [h]

/-! Bits of numbers that are not negative. -/
theorem xor_nat (a b : Nat) (ha : a < 9223372036854775808) (hb : b < 9223372036854775808) : bits .xor .i64 (a : Int) (b : Int) = ((a ^^^ b : Nat) : Int) := by
  show IntKind.i64.wrap ((BitVec.ofInt 64 (a : Int) ^^^ BitVec.ofInt 64 (b : Int)).toNat : Int) = _
  rw [BitVec.toNat_xor, ofInt_u64 a (by omega), ofInt_u64 b (by omega)]
  have e : (9223372036854775808 : Nat) = 2 ^ 63 := by decide
  exact Lib.wrap_i64_small _ (by rw [e] at ha hb ⊢; exact Nat.xor_lt_two_pow ha hb)
theorem and1_nat (a : Nat) (ha : a < 9223372036854775808) : bits .and .i64 (a : Int) 1 = ((a % 2 : Nat) : Int) := by
  show IntKind.i64.wrap ((BitVec.ofInt 64 (a : Int) &&& BitVec.ofInt 64 ((1 : Nat) : Int)).toNat : Int) = _
  rw [BitVec.toNat_and, ofInt_u64 a (by omega), ofInt_u64 1 (by omega), Nat.and_one_is_mod]
  exact Lib.wrap_i64_small _ (by omega)

theorem p_add (P a b : Nat) (hP : 2 ≤ P) (hP2 : P ≤ 65536) (ha : a < P) (hb : b < P) (w : World) :
    Calls Tryd.prog 139 #[.int .i64 P, .int .i64 a, .int .i64 b] w fun e w' => e = .returned (.int .i64 ((a + b) % P : Nat)) ∧ w = w' := by
  rcases Nat.lt_or_ge (a + b) P with h | h
  · have e : (a + b) % P = a + b := Nat.mod_eq_of_lt h
    have E := Lib.hid e
    clear e
    go_enter Tryd.func139, Tryd.ntmps139
    go_wp2
    go_ret
    exact ⟨ret_int (by rw [E.out]; omega), rfl⟩
  · have e : (a + b) % P = a + b - P := by rw [Nat.mod_eq_sub_mod h, Nat.mod_eq_of_lt (by omega)]
    have E := Lib.hid e
    clear e
    go_enter Tryd.func139, Tryd.ntmps139
    go_wp2
    go_ret
    exact ⟨ret_int (by rw [E.out]; omega), rfl⟩

theorem p_sub (P a b : Nat) (hP : 2 ≤ P) (hP2 : P ≤ 65536) (ha : a < P) (hb : b < P) (w : World) :
    Calls Tryd.prog 142 #[.int .i64 P, .int .i64 a, .int .i64 b] w fun e w' => e = .returned (.int .i64 ((a + (P - b)) % P : Nat)) ∧ w = w' := by
  rcases Nat.lt_or_ge a b with h | h
  · have e : (a + (P - b)) % P = a + (P - b) := Nat.mod_eq_of_lt (by omega)
    have E := Lib.hid e
    clear e
    go_enter Tryd.func142, Tryd.ntmps142
    go_wp2
    go_ret
    exact ⟨ret_int (by rw [E.out]; omega), rfl⟩
  · have e : (a + (P - b)) % P = a - b := by
      have h2 : a + (P - b) = (a - b) + P := by omega
      rw [h2, Nat.add_mod_right, Nat.mod_eq_of_lt (by omega)]
    have E := Lib.hid e
    clear e
    go_enter Tryd.func142, Tryd.ntmps142
    go_wp2
    go_ret
    exact ⟨ret_int (by rw [E.out]; omega), rfl⟩

theorem p_order (P : Nat) (w : World) :
    Calls Tryd.prog 141 #[.int .i64 P] w fun e w' => e = .returned (.int .i64 P) ∧ w = w' := by
  go_enter Tryd.func141, Tryd.ntmps141
  go_wp2
  go_ret
  exact ⟨rfl, rfl⟩

theorem p_mul_val (P a b : Nat) (hP2 : P ≤ 65536) (ha : a < P) (hb : b < P) : wrap64 ((a : Int) * (b : Int) % 4294967296 % (P : Int)) = ((a * b % P : Nat) : Int) := by
  have h1 : a * b ≤ 65535 * 65535 := Nat.mul_le_mul (by omega) (by omega)
  have h2 : (a : Int) * (b : Int) = ((a * b : Nat) : Int) := by simp
  have h3 : a * b % P < P := Nat.mod_lt _ (by omega)
  have h4 : ((a * b : Nat) : Int) % 4294967296 = ((a * b : Nat) : Int) := Int.emod_eq_of_lt (by omega) (by omega)
  rw [h2, h4, ← Int.natCast_emod]
  exact IntWalk.wrap64_in _ (by omega)

theorem p_mul (P a b : Nat) (hP : 2 ≤ P) (hP2 : P ≤ 65536) (ha : a < P) (hb : b < P) (w : World) :
    Calls Tryd.prog 140 #[.int .i64 P, .int .i64 a, .int .i64 b] w fun e w' => e = .returned (.int .i64 (a * b % P : Nat)) ∧ w = w' := by
  go_enter Tryd.func140, Tryd.ntmps140
  go_wp2
  go_ret
  exact ⟨ret_int (p_mul_val P a b hP2 ha hb), rfl⟩

theorem q_add (M a b : Nat) (ha : a < 9223372036854775808) (hb : b < 9223372036854775808) (w : World) :
    Calls Tryd.prog 143 #[.int .i64 M, .int .i64 a, .int .i64 b] w fun e w' => e = .returned (.int .i64 (a ^^^ b : Nat)) ∧ w = w' := by
  have E := Lib.hid (xor_nat a b ha hb)
  go_enter Tryd.func143, Tryd.ntmps143
  go_wp2
  go_ret
  exact ⟨ret_int E.out, rfl⟩

theorem q_sub (M a b : Nat) (ha : a < 9223372036854775808) (hb : b < 9223372036854775808) (w : World) :
    Calls Tryd.prog 147 #[.int .i64 M, .int .i64 a, .int .i64 b] w fun e w' => e = .returned (.int .i64 (a ^^^ b : Nat)) ∧ w = w' := by
  have E := Lib.hid (xor_nat a b ha hb)
  go_enter Tryd.func147, Tryd.ntmps147
  go_wp2
  go_ret
  exact ⟨ret_int E.out, rfl⟩

theorem pow16 {M : Nat} (hM : M ≤ 16) : 2 ^ M ≤ 65536 := by
  have := Nat.pow_le_pow_right (n := 2) (by omega) hM
  exact this

theorem q_order (M q : Nat) (hM : M ≤ 16) (hq : q = 2 ^ M) (w : World) :
    Calls Tryd.prog 146 #[.int .i64 M] w fun e w' => e = .returned (.int .i64 q) ∧ w = w' := by
  have hp := pow16 hM
  have e : wrap64 ((2 : Int) ^ M) = (q : Int) := by
    have : (2 : Int) ^ M = ((2 ^ M : Nat) : Int) := by simp
    rw [this, hq]
    exact IntWalk.wrap64_in _ (by omega)
  have E := Lib.hid e
  clear e hq
  go_enter Tryd.func146, Tryd.ntmps146
  go_wp2
  go_ret
  exact ⟨ret_int E.out, rfl⟩

/-! The package-level variables, as the program's text lays them. -/
def Lays (w : World) : Prop :=
  True ∧
  ∃ (a : Addr) (cap : Nat), 54 ≤ cap ∧ w.cell? ⟨0, 0, none⟩ = some (.slice (some a) 54 cap) ∧ ∀ i, i < 54 → w.cell? (a.add i) = some (.int .u32 (smallP[i]?.getD 0 : Nat))

theorem Lays.of_cells {w w' : World} (h : Lays w) (hc : ∀ p : Addr, p.block < w.heap.size → w'.cell? p = w.cell? p) : Lays w' := by
  have hk : ∀ (p : Addr) (v : Value), w.cell? p = some v → w'.cell? p = some v := fun p v hv => (hc p (World.block_lt_of_cell? w p hv)).trans hv
  obtain ⟨h1, a, cap, h2, h3, h4⟩ := h
  exact ⟨trivial, a, cap, h2, hk _ _ h3, fun i hi => hk _ _ (h4 i hi)⟩
theorem Lays.below {w w' : World} (h : Lays w) (hb : Below w.heap.size w w') : Lays w' := h.of_cells fun _ hp => hb.cell hp

end Go.Proofs.YtiiopdomlepkmaaDoor
