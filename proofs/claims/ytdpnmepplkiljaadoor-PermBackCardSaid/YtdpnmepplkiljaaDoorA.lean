/-
  Contracts of the leaf functions of package perm that the statements of this seat call: fits, factorial, divisor; each holds for the stated ranges of its arguments, in every world.
-/
import Derived.Test.YtdpnmepplkiljaaDoorRows
import Derived.WalkKit
import Derived.WalkSpells
import Derived.WalkLawsBesides
import Derived.Lib.Hide
import Derived.Deep.QuietTactic
import Derived.BigQuiet
import Derived.RegionTactic
namespace Go.Proofs.YtdpnmepplkiljaaDoor
open Go.RowKit

theorem ret_int {k : IntKind} {a b : Int} (h : a = b) : Ending.returned (.int k a) = .returned (.int k b) := by rw [h]
theorem ret_bool {a b : Bool} (h : a = b) : Ending.returned (.bool a) = .returned (.bool b) := by rw [h]

theorem below_drewN' {B : Nat} {a w : World} (h : Below B a w) (n : Nat) : Below B a (w.drewN n) := ⟨h.os, h.tape, h.output, h.size, h.block⟩
theorem drewN_two (w : World) (q m : Nat) : ∃ r, (w.drewN q).drewN m = w.drewN r := ⟨_, World.drewN_drewN _ _ _⟩

theorem fits_any (n : Int) (w : World) :
    Calls Tryd.prog 36 #[.int .i64 n] w fun e w' => e = .returned (.bool (decide (1 ≤ n ∧ n ≤ 7))) ∧ w = w' := by
  by_cases h1 : 1 ≤ n
  · by_cases h2 : n ≤ 7
    · go_enter Tryd.func36, Tryd.ntmps36
      go_wp2
      go_ret
      exact ⟨ret_bool (by simp; omega), rfl⟩
    · go_enter Tryd.func36, Tryd.ntmps36
      go_wp2
      go_ret
      exact ⟨ret_bool (by simp; omega), rfl⟩
  · go_enter Tryd.func36, Tryd.ntmps36
    go_wp2
    go_ret
    exact ⟨ret_bool (by simp; omega), rfl⟩

theorem fits_yes (n : Int) (w : World) (h1 : 1 ≤ n) (h2 : n ≤ 7) :
    Calls Tryd.prog 36 #[.int .i64 n] w fun e w' => e = .returned (.bool true) ∧ w = w' :=
  (fits_any n w).mono fun _ _ ⟨he, hw⟩ => ⟨he.trans (ret_bool (decide_eq_true ⟨h1, h2⟩)), hw⟩

theorem fits_no (n : Int) (w : World) (h : n < 1 ∨ 7 < n) :
    Calls Tryd.prog 36 #[.int .i64 n] w fun e w' => e = .returned (.bool false) ∧ w = w' :=
  (fits_any n w).mono fun _ _ ⟨he, hw⟩ => ⟨he.trans (ret_bool (decide_eq_false (by omega))), hw⟩

def facI : Nat → Int
  | 0 => 1
  | n + 1 => (n + 1 : Int) * facI n

theorem facI_pos (n : Nat) : 1 ≤ facI n := by
  induction n with
  | zero => decide
  | succ n ih =>
    show 1 ≤ ((n : Int) + 1) * facI n
    have : (1 : Int) * 1 ≤ ((n : Int) + 1) * facI n := Int.mul_le_mul (by omega) ih (by omega) (by omega)
    omega

theorem facI_le (n : Nat) (h : n ≤ 7) : facI n ≤ 5040 := by
  match n, h with
  | 0, _ => decide
  | 1, _ => decide
  | 2, _ => decide
  | 3, _ => decide
  | 4, _ => decide
  | 5, _ => decide
  | 6, _ => decide
  | 7, _ => decide

theorem factorial_any (n : Nat) (w : World) (hn : n ≤ 7) :
    Calls Tryd.prog 29 #[.int .i64 n] w fun e w' => e = .returned (.int .i64 (facI n)) ∧ w = w' := by
  go_enter Tryd.func29, Tryd.ntmps29
  go_wp2
  go_loop [3, 4] (fun p k => ∃ m : Nat, 2 ≤ m ∧ m ≤ max 2 (n + 1) ∧ k = .int .i64 m ∧ p = .int .i64 (facI (m - 1))) (fun _ k => (n + 1) - (intOf k).toNat)
  case atStart => exact ⟨2, by omega, by omega, rfl, rfl⟩
  case round =>
    obtain ⟨m, hm1, hm2, rfl, rfl⟩ := hrel
    by_cases hlt : m ≤ n
    · have hb := facI_le (m - 1) (by omega)
      have hp := facI_pos (m - 1)
      have hs : facI (m + 1 - 1) = facI (m - 1) * (m : Int) := by
        obtain ⟨j, rfl⟩ : ∃ j, m = j + 1 := ⟨m - 1, by omega⟩
        show ((j : Int) + 1) * facI j = _
        rw [Int.mul_comm]; rfl
      have hb2 := facI_le (m + 1 - 1) (by omega)
      have hp2 := facI_pos (m + 1 - 1)
      rw [hs] at hb2 hp2
      have HS := Lib.hid hs
      clear hs
      go_wp2
      go_round
      case rel => exact ⟨m + 1, by omega, by omega, by go_num, by rw [HS.out]⟩
      case measure => simp [intOf]; omega
    · have hn' : facI (m - 1) = facI n := by
        by_cases h0 : n = 0
        · subst h0
          have : m = 2 := by omega
          subst this; rfl
        · have : m - 1 = n := by omega
          rw [this]
      have HN := Lib.hid hn'
      clear hn'
      go_wp2
      go_ret
      exact ⟨ret_int HN.out, rfl⟩

theorem divisor_any (a b : Nat) (w : World) (ha : a ≤ 10000) (hb : b ≤ 10000) :
    Calls Tryd.prog 39 #[.int .i64 a, .int .i64 b] w fun e w' => e = .returned (.int .i64 (Nat.gcd a b : Nat)) ∧ ∃ q, w' = w.drewN q := by
  go_enter Tryd.func39, Tryd.ntmps39
  go_wp2
  go_loopw [0, 1] (fun x y wr => ∃ c d : Nat, c ≤ 10000 ∧ d ≤ 10000 ∧ Nat.gcd c d = Nat.gcd a b ∧ x = .int .i64 c ∧ y = .int .i64 d ∧ ∃ q, wr = w.drewN q) (fun _ y _ => (intOf y).toNat)
  case atStart => exact ⟨a, b, ha, hb, rfl, rfl, rfl, 0, rfl⟩
  case round =>
    obtain ⟨c, d, hc, hd, hg, rfl, rfl, q, rfl⟩ := hrel
    have HG := Lib.hid hg
    clear hg
    by_cases hlt : 0 < d
    · have hm := Nat.mod_lt c hlt
      have hm2 : c % d ≤ 10000 := by omega
      have he : Nat.gcd d (c % d) = Nat.gcd a b := by
        rw [← HG.out, Nat.gcd_comm c d, Nat.gcd_rec d c, Nat.gcd_comm]
      have HE := Lib.hid he
      clear he
      go_wp2
      go_quiet (fail)
      go_wp2
      go_roundw
      case rel => exact ⟨d, c % d, hd, hm2, HE.out, rfl, by go_num, drewN_two _ _ _⟩
      case measure => simp [intOf]; omega
    · have h0 : d = 0 := by omega
      subst h0
      have he : c = Nat.gcd a b := by rw [← HG.out, Nat.gcd_zero_right]
      have HE := Lib.hid he
      clear he
      go_wp2
      go_ret
      exact ⟨ret_int (congrArg Nat.cast HE.out), _, rfl⟩
end Go.Proofs.YtdpnmepplkiljaaDoor
