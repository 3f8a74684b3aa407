/-
  Contracts of the operations of the two kinds of fields of package field (order, add, sub, mul, modulus): each holds at elements, in every world in which the table of the moduli and the list of the small primes read as the program's text lays them.
-/
import Derived.Test.YtfkeemhbehhclaaDoorRows
import Derived.Test.YtfkeemhbehhclaaDoorFda
import Derived.WalkKit
import Derived.WalkSpells
import Derived.WalkLawsBesides
import Derived.Lib.Hide
import Derived.Deep.QuietTactic
import Derived.BigQuiet
import Derived.RegionTactic
import Derived.Laws.BitsAllLaws
import Derived.Lib.QuoteBits
import Derived.Below
namespace Go.Proofs.YtfkeemhbehhclaaDoor
open Go.RowKit

theorem ret_int {k : IntKind} {a b : Int} (h : a = b) : Ending.returned (.int k a) = .returned (.int k b) := by rw [h]
theorem int_val {k : IntKind} {a b : Int} (h : a = b) : Value.int k a = .int k b := by rw [h]
theorem ret_bool {a b : Bool} (h : a = b) : Ending.returned (.bool a) = .returned (.bool b) := by rw [h]

/-! Bits of numbers that are not negative. -/
theorem xor_nat (a b : Nat) (ha : a < 9223372036854775808) (hb : b < 9223372036854775808) : bits .xor .i64 (a : Int) (b : Int) = ((a ^^^ b : Nat) : Int) := by
  show IntKind.i64.wrap ((BitVec.ofInt 64 (a : Int) ^^^ BitVec.ofInt 64 (b : Int)).toNat : Int) = _
  rw [BitVec.toNat_xor, ofInt_u64 a (by omega), ofInt_u64 b (by omega)]
  have e : (9223372036854775808 : Nat) = 2 ^ 63 := by decide
  exact Lib.wrap_i64_small _ (by rw [e] at ha hb ⊢; exact Nat.xor_lt_two_pow ha hb)
theorem and1_nat (a : Nat) (ha : a < 9223372036854775808) : bits .and .i64 (a : Int) 1 = ((a % 2 : Nat) : Int) := by
  show IntKind.i64.wrap ((BitVec.ofInt 64 (a : Int) &&& BitVec.ofInt 64 ((1 : Nat) : Int)).toNat : Int) = _
  rw [BitVec.toNat_and, ofInt_u64 a (by omega), ofInt_u64 1 (by omega), Nat.and_one_is_mod]
  exact Lib.wrap_i64_small _ (by omega)

theorem p_add (P a b : Nat) (hP : 2 ≤ P) (hP2 : P ≤ 65536) (ha : a < P) (hb : b < P) (w : World) :
    Calls Tryd.prog 66 #[.int .i64 P, .int .i64 a, .int .i64 b] w fun e w' => e = .returned (.int .i64 ((a + b) % P : Nat)) ∧ w = w' := by
  rcases Nat.lt_or_ge (a + b) P with h | h
  · have e : (a + b) % P = a + b := Nat.mod_eq_of_lt h
    have E := Lib.hid e
    clear e
    go_enter Tryd.func66, Tryd.ntmps66
    go_wp2
    go_ret
    exact ⟨ret_int (by rw [E.out]; omega), rfl⟩
  · have e : (a + b) % P = a + b - P := by rw [Nat.mod_eq_sub_mod h, Nat.mod_eq_of_lt (by omega)]
    have E := Lib.hid e
    clear e
    go_enter Tryd.func66, Tryd.ntmps66
    go_wp2
    go_ret
    exact ⟨ret_int (by rw [E.out]; omega), rfl⟩

theorem p_sub (P a b : Nat) (hP : 2 ≤ P) (hP2 : P ≤ 65536) (ha : a < P) (hb : b < P) (w : World) :
    Calls Tryd.prog 69 #[.int .i64 P, .int .i64 a, .int .i64 b] w fun e w' => e = .returned (.int .i64 ((a + (P - b)) % P : Nat)) ∧ w = w' := by
  rcases Nat.lt_or_ge a b with h | h
  · have e : (a + (P - b)) % P = a + (P - b) := Nat.mod_eq_of_lt (by omega)
    have E := Lib.hid e
    clear e
    go_enter Tryd.func69, Tryd.ntmps69
    go_wp2
    go_ret
    exact ⟨ret_int (by rw [E.out]; omega), rfl⟩
  · have e : (a + (P - b)) % P = a - b := by
      have h2 : a + (P - b) = (a - b) + P := by omega
      rw [h2, Nat.add_mod_right, Nat.mod_eq_of_lt (by omega)]
    have E := Lib.hid e
    clear e
    go_enter Tryd.func69, Tryd.ntmps69
    go_wp2
    go_ret
    exact ⟨ret_int (by rw [E.out]; omega), rfl⟩

theorem p_order (P : Nat) (w : World) :
    Calls Tryd.prog 68 #[.int .i64 P] w fun e w' => e = .returned (.int .i64 P) ∧ w = w' := by
  go_enter Tryd.func68, Tryd.ntmps68
  go_wp2
  go_ret
  exact ⟨rfl, rfl⟩

theorem p_mul_val (P a b : Nat) (hP2 : P ≤ 65536) (ha : a < P) (hb : b < P) : wrap64 ((a : Int) * (b : Int) % 4294967296 % (P : Int)) = ((a * b % P : Nat) : Int) := by
  have h1 : a * b ≤ 65535 * 65535 := Nat.mul_le_mul (by omega) (by omega)
  have h2 : (a : Int) * (b : Int) = ((a * b : Nat) : Int) := by simp
  have h3 : a * b % P < P := Nat.mod_lt _ (by omega)
  have h4 : ((a * b : Nat) : Int) % 4294967296 = ((a * b : Nat) : Int) := Int.emod_eq_of_lt (by omega) (by omega)
  rw [h2, h4, ← Int.natCast_emod]
  exact IntWalk.wrap64_in _ (by omega)

theorem p_mul (P a b : Nat) (hP : 2 ≤ P) (hP2 : P ≤ 65536) (ha : a < P) (hb : b < P) (w : World) :
    Calls Tryd.prog 67 #[.int .i64 P, .int .i64 a, .int .i64 b] w fun e w' => e = .returned (.int .i64 (a * b % P : Nat)) ∧ w = w' := by
  go_enter Tryd.func67, Tryd.ntmps67
  go_wp2
  go_ret
  exact ⟨ret_int (p_mul_val P a b hP2 ha hb), rfl⟩

theorem q_add (M a b : Nat) (ha : a < 9223372036854775808) (hb : b < 9223372036854775808) (w : World) :
    Calls Tryd.prog 62 #[.int .i64 M, .int .i64 a, .int .i64 b] w fun e w' => e = .returned (.int .i64 (a ^^^ b : Nat)) ∧ w = w' := by
  have E := Lib.hid (xor_nat a b ha hb)
  go_enter Tryd.func62, Tryd.ntmps62
  go_wp2
  go_ret
  exact ⟨ret_int E.out, rfl⟩

theorem q_sub (M a b : Nat) (ha : a < 9223372036854775808) (hb : b < 9223372036854775808) (w : World) :
    Calls Tryd.prog 65 #[.int .i64 M, .int .i64 a, .int .i64 b] w fun e w' => e = .returned (.int .i64 (a ^^^ b : Nat)) ∧ w = w' := by
  have E := Lib.hid (xor_nat a b ha hb)
  go_enter Tryd.func65, Tryd.ntmps65
  go_wp2
  go_ret
  exact ⟨ret_int E.out, rfl⟩

theorem pow16 {M : Nat} (hM : M ≤ 16) : 2 ^ M ≤ 65536 := by
  have := Nat.pow_le_pow_right (n := 2) (by omega) hM
  exact this

theorem q_order (M q : Nat) (hM : M ≤ 16) (hq : q = 2 ^ M) (w : World) :
    Calls Tryd.prog 64 #[.int .i64 M] w fun e w' => e = .returned (.int .i64 q) ∧ w = w' := by
  have hp := pow16 hM
  have e : wrap64 ((2 : Int) ^ M) = (q : Int) := by
    have : (2 : Int) ^ M = ((2 ^ M : Nat) : Int) := by simp
    rw [this, hq]
    exact IntWalk.wrap64_in _ (by omega)
  have E := Lib.hid e
  clear e hq
  go_enter Tryd.func64, Tryd.ntmps64
  go_wp2
  go_ret
  exact ⟨ret_int E.out, rfl⟩

/-! The package-level variables, as the program's text lays them. -/
def Lays (w : World) : Prop :=
  (∀ i, i < 17 → w.cell? ⟨0, i, none⟩ = some (.int .i64 (modN i : Nat))) ∧
  ∃ (a : Addr) (cap : Nat), 54 ≤ cap ∧ w.cell? ⟨1, 0, none⟩ = some (.slice (some a) 54 cap) ∧ ∀ i, i < 54 → w.cell? (a.add i) = some (.int .u32 (smallP[i]?.getD 0 : Nat))

theorem Lays.of_cells {w w' : World} (h : Lays w) (hc : ∀ p : Addr, p.block < w.heap.size → w'.cell? p = w.cell? p) : Lays w' := by
  have hk : ∀ (p : Addr) (v : Value), w.cell? p = some v → w'.cell? p = some v := fun p v hv => (hc p (World.block_lt_of_cell? w p hv)).trans hv
  obtain ⟨h1, a, cap, h2, h3, h4⟩ := h
  exact ⟨fun i hi => hk _ _ (h1 i hi), a, cap, h2, hk _ _ h3, fun i hi => hk _ _ (h4 i hi)⟩
theorem Lays.below {w w' : World} (h : Lays w) (hb : Below w.heap.size w w') : Lays w' := h.of_cells fun _ hp => hb.cell hp

theorem q_modulus (M : Nat) (hM : M ≤ 16) (w : World) (hL : Lays w) :
    Calls Tryd.prog 39 #[.int .i64 M] w fun e w' => e = .returned (.int .i64 (modN M : Nat)) ∧ w = w' := by
  have hc := hL.1 M (by omega)
  clear hL
  go_enter Tryd.func39, Tryd.ntmps39
  go_wp2
  go_ret
  exact ⟨rfl, rfl⟩

theorem q_modulus' (M m : Nat) (hM : M ≤ 16) (hm : m = modN M) (w : World) (hL : Lays w) :
    Calls Tryd.prog 39 #[.int .i64 M] w fun e w' => e = .returned (.int .i64 m) ∧ w = w' := by
  rw [hm]
  exact q_modulus M hM w hL

set_option maxHeartbeats 400000 in
theorem q_mul (M q m a b : Nat) (hmod : Mod M q m) (hM : M ≤ 16) (hm : m = modN M) (ha : a < q) (hb : b < q) (w : World) (hL : Lays w) :
    Calls Tryd.prog 63 #[.int .i64 M, .int .i64 a, .int .i64 b] w fun e w' => e = .returned (.int .i64 (pm q m a b : Nat)) ∧ w = w' := by
  have hq : q ≤ 65536 := by rw [hmod.hq]; exact pow16 hM
  have hm2 : m < 131072 := by have := hmod.hi; omega
  have HO := Lib.hid (fun w => q_order M q hM hmod.hq w)
  have HM := Lib.hid (q_modulus' M m hM hm w hL)
  have HMO := Lib.hid hmod
  clear hm hL hmod
  go_enter Tryd.func63, Tryd.ntmps63
  go_wp2
  go_loop [1, 2, 7] (fun u v p => ∃ x y z : Nat, x < q ∧ y < q ∧ z < q ∧ u = .int .i64 x ∧ v = .int .i64 y ∧ p = .int .i64 z ∧ z ^^^ pm q m x y = pm q m a b) (fun _ v _ => (intOf v).toNat)
  case atStart => exact ⟨a, b, 0, ha, hb, by omega, rfl, rfl, rfl, Nat.zero_xor _⟩
  case round =>
    obtain ⟨x, y, z, hx, hy, hz, rfl, rfl, rfl, hr⟩ := hrel
    have HR := Lib.hid hr
    clear hr
    by_cases h0 : 0 < y
    · have hx1 := Lib.hid (xor_nat z x (by omega) (by omega))
      have hx2 := xor_nat (2 * x) m (by omega) (by omega)
      have hxe : ((2 * x : Nat) : Int) = (x : Int) * 2 := by omega
      rw [hxe] at hx2
      have HX2 := Lib.hid hx2
      have hlt := HMO.out.sred_lt (y := 2 * x) (by omega)
      have hzx := HMO.out.xor_lt hz hx
      have ha1 := and1_nat y (by omega)
      clear hx2 hxe
      by_cases h1 : y % 2 = 1 <;> by_cases h2 : q ≤ 2 * x
      all_goals
        first | (have e1 : bits .and .i64 (y : Int) 1 = 1 := by rw [ha1, h1]; rfl) | (have e1 : bits .and .i64 (y : Int) 1 = 0 := by rw [ha1]; omega)
        have H1 := Lib.hid h1
        clear ha1 h1
        go_wp2_with (first | (go_at_call 64; refine (HO.out _).mono ?_; rintro e w' ⟨rfl, rfl⟩) | (go_at_call 39; refine HM.out.mono ?_; rintro e w' ⟨rfl, rfl⟩))
        go_round
        case rel =>
          first
          | exact ⟨sred q m (2 * x), y / 2, z ^^^ x, hlt, by omega, hzx, int_val (by rw [sred_hi h2]; exact HX2.out), int_val (by omega), int_val hx1.out, pm_odd H1.out HR.out⟩
          | exact ⟨sred q m (2 * x), y / 2, z ^^^ x, hlt, by omega, hzx, int_val (by rw [sred_lo h2]; omega), int_val (by omega), int_val hx1.out, pm_odd H1.out HR.out⟩
          | exact ⟨sred q m (2 * x), y / 2, z, hlt, by omega, hz, int_val (by rw [sred_hi h2]; exact HX2.out), int_val (by omega), rfl, pm_even H1.out HR.out⟩
          | exact ⟨sred q m (2 * x), y / 2, z, hlt, by omega, hz, int_val (by rw [sred_lo h2]; omega), int_val (by omega), rfl, pm_even H1.out HR.out⟩
        case measure => simp [intOf]; omega
    · have hy0 : y = 0 := by omega
      have hr2 : z = pm q m a b := by have := HR.out; rw [hy0, pm_zero, Nat.xor_zero] at this; exact this
      have HR2 := Lib.hid hr2
      clear hr2 hy0
      go_wp2
      go_ret
      exact ⟨ret_int (congrArg Nat.cast HR2.out), rfl⟩
end Go.Proofs.YtfkeemhbehhclaaDoor
