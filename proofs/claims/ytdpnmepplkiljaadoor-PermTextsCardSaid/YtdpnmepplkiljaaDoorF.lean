/-
  Contract of unused of package perm at every array of seven flags, and of Unrank.
-/
import Derived.Test.YtdpnmepplkiljaaDoorE
namespace Go.Proofs.YtdpnmepplkiljaaDoor
open Go.RowKit

theorem idx7_0 (b0 b1 b2 b3 b4 b5 b6 : Bool) (w : World) : (Instr.index 62 (.agg #[.bool b0, .bool b1, .bool b2, .bool b3, .bool b4, .bool b5, .bool b6]) (.int .i64 0)).run Tryd.prog w = .ok (.bool b0) w := by kernel_rfl
theorem idx7_1 (b0 b1 b2 b3 b4 b5 b6 : Bool) (w : World) : (Instr.index 62 (.agg #[.bool b0, .bool b1, .bool b2, .bool b3, .bool b4, .bool b5, .bool b6]) (.int .i64 1)).run Tryd.prog w = .ok (.bool b1) w := by kernel_rfl
theorem idx7_2 (b0 b1 b2 b3 b4 b5 b6 : Bool) (w : World) : (Instr.index 62 (.agg #[.bool b0, .bool b1, .bool b2, .bool b3, .bool b4, .bool b5, .bool b6]) (.int .i64 2)).run Tryd.prog w = .ok (.bool b2) w := by kernel_rfl
theorem idx7_3 (b0 b1 b2 b3 b4 b5 b6 : Bool) (w : World) : (Instr.index 62 (.agg #[.bool b0, .bool b1, .bool b2, .bool b3, .bool b4, .bool b5, .bool b6]) (.int .i64 3)).run Tryd.prog w = .ok (.bool b3) w := by kernel_rfl
theorem idx7_4 (b0 b1 b2 b3 b4 b5 b6 : Bool) (w : World) : (Instr.index 62 (.agg #[.bool b0, .bool b1, .bool b2, .bool b3, .bool b4, .bool b5, .bool b6]) (.int .i64 4)).run Tryd.prog w = .ok (.bool b4) w := by kernel_rfl
theorem idx7_5 (b0 b1 b2 b3 b4 b5 b6 : Bool) (w : World) : (Instr.index 62 (.agg #[.bool b0, .bool b1, .bool b2, .bool b3, .bool b4, .bool b5, .bool b6]) (.int .i64 5)).run Tryd.prog w = .ok (.bool b5) w := by kernel_rfl
theorem idx7_6 (b0 b1 b2 b3 b4 b5 b6 : Bool) (w : World) : (Instr.index 62 (.agg #[.bool b0, .bool b1, .bool b2, .bool b3, .bool b4, .bool b5, .bool b6]) (.int .i64 6)).run Tryd.prog w = .ok (.bool b6) w := by kernel_rfl
theorem idx7 (b0 b1 b2 b3 b4 b5 b6 : Bool) : ∀ k : Nat, k < 7 → ∀ w, (Instr.index 62 (.agg #[.bool b0, .bool b1, .bool b2, .bool b3, .bool b4, .bool b5, .bool b6]) (.int .i64 (k : Int))).run Tryd.prog w = .ok (.bool ([b0, b1, b2, b3, b4, b5, b6][k]?.getD false)) w
  | 0, _, w => idx7_0 b0 b1 b2 b3 b4 b5 b6 w
  | 1, _, w => idx7_1 b0 b1 b2 b3 b4 b5 b6 w
  | 2, _, w => idx7_2 b0 b1 b2 b3 b4 b5 b6 w
  | 3, _, w => idx7_3 b0 b1 b2 b3 b4 b5 b6 w
  | 4, _, w => idx7_4 b0 b1 b2 b3 b4 b5 b6 w
  | 5, _, w => idx7_5 b0 b1 b2 b3 b4 b5 b6 w
  | 6, _, w => idx7_6 b0 b1 b2 b3 b4 b5 b6 w
  | k + 7, hk, _ => absurd hk (by omega)

def unusedFrom : List Bool → Nat → Nat → Nat
  | [], at_, _ => at_
  | true :: t, at_, skip => unusedFrom t (at_ + 1) skip
  | false :: t, at_, skip => if skip = 0 then at_ else unusedFrom t (at_ + 1) (skip - 1)

theorem unusedFrom_true (u : List Bool) (k skip : Nat) (hk : k < u.length) (h : u[k]?.getD false = true) : unusedFrom (u.drop k) k skip = unusedFrom (u.drop (k + 1)) (k + 1) skip := by
  rw [List.drop_eq_getElem_cons hk]
  have : u[k] = true := by simpa [hk] using h
  rw [this]; rfl

theorem unusedFrom_false (u : List Bool) (k skip : Nat) (hk : k < u.length) (h : u[k]?.getD false = false) (h0 : skip ≠ 0) : unusedFrom (u.drop k) k skip = unusedFrom (u.drop (k + 1)) (k + 1) (skip - 1) := by
  rw [List.drop_eq_getElem_cons hk]
  have : u[k] = false := by simpa [hk] using h
  rw [this]; simp [unusedFrom, h0]

theorem unusedFrom_stop (u : List Bool) (k : Nat) (hk : k < u.length) (h : u[k]?.getD false = false) : unusedFrom (u.drop k) k 0 = k := by
  rw [List.drop_eq_getElem_cons hk]
  have : u[k] = false := by simpa [hk] using h
  rw [this]; simp [unusedFrom]

set_option maxHeartbeats 400000 in
theorem unused_any (b0 b1 b2 b3 b4 b5 b6 : Bool) (skip : Nat) (w : World) (hs : skip ≤ 10000) :
    Calls Tryd.prog 37 #[.agg #[.bool b0, .bool b1, .bool b2, .bool b3, .bool b4, .bool b5, .bool b6], .int .i64 skip] w fun e w' => e = .returned (.int .i64 (unusedFrom [b0, b1, b2, b3, b4, b5, b6] 0 skip : Nat)) ∧ Below w.heap.size w w' := by
  obtain ⟨u, hu⟩ : ∃ u, [b0, b1, b2, b3, b4, b5, b6] = u := ⟨_, rfl⟩
  have hul : u.length = 7 := by rw [← hu]; rfl
  have hix := idx7 b0 b1 b2 b3 b4 b5 b6
  rw [hu] at hix ⊢
  have HUL := Lib.hid hul
  have HIX := Lib.hid hix
  clear hix hul hu
  have hB := (Below.refl w.heap.size w).alloc (Nat.le_refl _) (.cells #[.bool b0, .bool b1, .bool b2, .bool b3, .bool b4, .bool b5, .bool b6] 62)
  go_enter Tryd.func37, Tryd.ntmps37
  go_wp2
  go_loop [1, 8] (fun s i => ∃ k t : Nat, k ≤ 7 ∧ t ≤ 10000 ∧ i = .int .i64 k ∧ s = .int .i64 t ∧ unusedFrom (u.drop k) k t = unusedFrom u 0 skip) (fun _ i => 7 - (intOf i).toNat)
  case atStart => exact ⟨0, skip, Nat.zero_le _, hs, rfl, rfl, rfl⟩
  case round =>
    obtain ⟨k, t, hk, ht, rfl, rfl, he⟩ := hrel
    have HE := Lib.hid he
    clear he
    by_cases hkn : k < 7
    · have hkl : k < u.length := by rw [HUL.out]; exact hkn
      have hi := HIX.out k hkn
      by_cases hb : u[k]?.getD false = true
      · rw [hb] at hi
        have he := unusedFrom_true u k t hkl hb
        rw [HE.out] at he
        have HE2 := Lib.hid he.symm
        clear he hb
        go_wp2
        go_round
        case rel => exact ⟨k + 1, t, by omega, ht, by go_num, rfl, HE2.out⟩
        case measure => simp [intOf]; omega
      · have hb' : u[k]?.getD false = false := by simpa using hb
        rw [hb'] at hi
        clear hb
        by_cases h0 : t = 0
        · subst h0
          have he := unusedFrom_stop u k hkl hb'
          rw [HE.out] at he
          have HE2 := Lib.hid he.symm
          clear he hb'
          go_wp2
          go_ret
          exact ⟨ret_int (congrArg Nat.cast HE2.out), hB⟩
        · have he := unusedFrom_false u k t hkl hb' h0
          rw [HE.out] at he
          have HE2 := Lib.hid he.symm
          have hz : ((t : Int) == 0) = false := by rw [beq_eq_false_iff_ne]; omega
          have h1 : 1 ≤ t := by omega
          clear he hb' h0
          go_wp2
          go_round
          case rel => exact ⟨k + 1, t - 1, by omega, by omega, by go_num, by go_num, HE2.out⟩
          case measure => simp [intOf]; omega
    · have hkn2 : k = 7 := by omega
      subst hkn2
      have hd : u.drop 7 = [] := List.drop_of_length_le (by rw [HUL.out]; exact Nat.le_refl _)
      have he := HE.out
      rw [hd] at he
      have HE2 := Lib.hid he
      clear he hd
      go_wp2
      go_ret
      exact ⟨ret_int (congrArg Nat.cast HE2.out), hB⟩
end Go.Proofs.YtdpnmepplkiljaaDoor
