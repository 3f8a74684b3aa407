/-
  Contracts of the reference for fields: Order, Valid, degree, rest and Modulus.
-/
import Derived.Test.YtiiopdomlepkmaaDoorFdg
namespace Go.Proofs.YtiiopdomlepkmaaDoor
open Go.RowKit

theorem ordR_cond (P M : Int) (h : P < 2 ∨ 65536 < P ∨ M < 1 ∨ 16 < M ∨ (1 < M ∧ P ≠ 2)) (w : World) :
    Calls Tryd.prog 30 #[.agg #[.int .i64 P, .int .i64 M]] w fun e w' => e = .returned (.int .i64 0) ∧ Below w.heap.size w w' := by
  by_cases h1 : P < 2
  · clear h
    go_enter Tryd.func30, Tryd.ntmps30
    go_wp2
    go_ret
    exact ⟨rfl, below1 w _⟩
  by_cases h2 : 65536 < P
  · clear h
    go_enter Tryd.func30, Tryd.ntmps30
    go_wp2
    go_ret
    exact ⟨rfl, below1 w _⟩
  by_cases h3 : M < 1
  · clear h
    go_enter Tryd.func30, Tryd.ntmps30
    go_wp2
    go_ret
    exact ⟨rfl, below1 w _⟩
  by_cases h4 : 16 < M
  · clear h
    go_enter Tryd.func30, Tryd.ntmps30
    go_wp2
    go_ret
    exact ⟨rfl, below1 w _⟩
  have h5 : 1 < M := by omega
  have h6 : P ≠ 2 := by omega
  clear h
  go_enter Tryd.func30, Tryd.ntmps30
  go_wp2
  go_ret
  exact ⟨rfl, below1 w _⟩

def OrdIs (P : Nat) (w : World) (e : Ending) (w' : World) : Prop := Below w.heap.size w w' ∧ (Pr P ∧ e = .returned (.int .i64 (P : Nat)) ∨ ¬ Pr P ∧ e = .returned (.int .i64 0))
def NoDiv (P k : Nat) : Prop := ∀ j, 2 ≤ j → j < k → P % j ≠ 0
theorem NoDiv.succ {P k : Nat} (h : NoDiv P k) (hk : P % k ≠ 0) : NoDiv P (k + 1) := fun j h2 hj => by
  by_cases he : j = k
  · subst he; exact hk
  · exact h j h2 (by omega)


set_option maxRecDepth 100000 in
set_option maxHeartbeats 1000000 in
theorem ordR_two (M q : Nat) (hM : 1 ≤ M) (hM2 : M ≤ 16) (hq : q = 2 ^ M) (w : World) :
    Calls Tryd.prog 30 #[.agg #[.int .i64 2, .int .i64 M]] w fun e w' => e = .returned (.int .i64 q) ∧ Below w.heap.size w w' := by
  have HB := Lib.hid (below1 w (.cells #[.int .i64 2, .int .i64 (M : Int)] 23))
  have HQ := Lib.hid hq
  clear hq
  by_cases hm1 : 1 < M
  all_goals
    go_enter Tryd.func30, Tryd.ntmps30
    go_wp2_with fail
    go_loop [3] (fun i => i = .int .i64 2) (fun i => 0)
    case atStart => rfl
    case round =>
      subst hrel
      go_wp2_with fail
      go_loop [4, 5] (fun r i => ∃ k z : Nat, k ≤ M ∧ i = .int .i64 k ∧ r = .int .i64 z ∧ z ≤ 65536 ∧ Hid (z = 2 ^ k)) (fun _ i => M - (intOf i).toNat)
      case atStart => exact ⟨0, 1, by omega, rfl, rfl, by omega, rfl⟩
      case round =>
        obtain ⟨k, z, hk, rfl, rfl, hz, HZ⟩ := hrel
        by_cases hlt : k < M
        · have hp := pow16 (M := k + 1) (by omega)
          rw [Nat.pow_succ, ← HZ.out] at hp
          have HZ2 := Lib.hid (show z * 2 = 2 ^ (k + 1) by rw [Nat.pow_succ, HZ.out])
          go_wp2_with fail
          go_round
          case rel => exact ⟨k + 1, z * 2, by omega, by go_num, int_val (by omega), hp, HZ2⟩
          case measure => simp [intOf]; omega
        · have hz2 : z = q := by rw [HZ.out, HQ.out, show k = M by omega]
          have HZ3 := Lib.hid hz2
          clear hz2
          go_wp2_with fail
          go_ret
          exact ⟨ret_int (congrArg Nat.cast HZ3.out), HB.out⟩

set_option maxRecDepth 100000 in
set_option maxHeartbeats 1000000 in
theorem ordR_one (P : Nat) (hP : 2 ≤ P) (hP2 : P ≤ 65536) (w : World) :
    Calls Tryd.prog 30 #[.agg #[.int .i64 P, .int .i64 1]] w (OrdIs P w) := by
  have HB := Lib.hid (below1 w (.cells #[.int .i64 (P : Int), .int .i64 1] 23))
  go_enter Tryd.func30, Tryd.ntmps30
  go_wp2_with fail
  go_loop [3] (fun i => ∃ k : Nat, 2 ≤ k ∧ k ≤ P ∧ i = .int .i64 k ∧ NoDiv P k) (fun i => P - (intOf i).toNat)
  case atStart => exact ⟨2, by omega, by omega, rfl, fun j h1 h2 => by omega⟩
  case round =>
    obtain ⟨k, hk2, hk, rfl, hn⟩ := hrel
    have HN := Lib.hid hn
    clear hn
    by_cases hlt : k < P
    · by_cases h3 : P % k = 0
      · go_wp2_with fail
        go_ret
        exact ⟨HB.out, .inr ⟨fun hp => hp.2 k hk2 hlt h3, rfl⟩⟩
      · go_wp2_with fail
        go_round
        case rel => exact ⟨k + 1, by omega, by omega, by go_num, HN.out.succ h3⟩
        case measure => simp [intOf]; omega
    · have hpr : Pr P := ⟨hP, fun d h1 h2 => HN.out d h1 (by omega)⟩
      have HPR := Lib.hid hpr
      clear hpr HN
      go_wp2_with fail
      go_loop [4, 5] (fun r i => ∃ k z : Nat, k ≤ 1 ∧ i = .int .i64 k ∧ r = .int .i64 z ∧ (k = 0 → z = 1) ∧ (k = 1 → z = P)) (fun _ i => 1 - (intOf i).toNat)
      case atStart => exact ⟨0, 1, by omega, rfl, rfl, fun _ => rfl, fun h => by cases h⟩
      case round =>
        obtain ⟨k, z, hk, rfl, rfl, hz0, hz1⟩ := hrel
        by_cases hlt2 : k = 0
        · have hz := hz0 hlt2
          subst hlt2
          subst hz
          clear hz0 hz1
          go_wp2_with fail
          go_round
          case rel => exact ⟨1, P, by omega, rfl, int_val (by omega), (fun h => by cases h), fun _ => rfl⟩
          case measure => simp [intOf]
        · have hz := hz1 (by omega)
          have hk1 : k = 1 := by omega
          subst hk1
          subst hz
          clear hz0 hz1
          go_wp2_with fail
          go_ret
          exact ⟨HB.out, .inl ⟨HPR.out, rfl⟩⟩
end Go.Proofs.YtiiopdomlepkmaaDoor
