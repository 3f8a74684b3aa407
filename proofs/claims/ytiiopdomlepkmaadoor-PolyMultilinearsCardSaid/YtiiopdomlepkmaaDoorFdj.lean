/-
  Contract of Modulus of the reference: at degrees from 2 to 16 it returns the modulus of the table.
-/
import Derived.Test.YtiiopdomlepkmaaDoorFdi
namespace Go.Proofs.YtiiopdomlepkmaaDoor
open Go.RowKit

theorem irr_succ (a b : Nat) (hb : 2 ≤ b) : irrUpto a (b + 1) = (irrUpto a b && restN a b != 0) := by
  unfold irrUpto
  rw [List.range_succ, List.all_append]
  have : decide (b < 2) = false := decide_eq_false (by omega)
  simp [this]
theorem irr_two (a : Nat) : irrUpto a 2 = true := by
  unfold irrUpto
  simp [List.range_succ]
theorem irr_mono {a b c : Nat} (h : irrUpto a b = false) (hbc : b ≤ c) : irrUpto a c = false := by
  unfold irrUpto at *
  rw [List.all_eq_false] at *
  obtain ⟨x, hx, hn⟩ := h
  exact ⟨x, List.mem_range.2 (by have := List.mem_range.1 hx; omega), hn⟩
theorem divB_le {M : Nat} (h : M ≤ 16) : divB M ≤ 512 := by
  have : 2 ^ (M / 2 + 1) ≤ 2 ^ 9 := Nat.pow_le_pow_right (by omega) (by omega)
  exact this
theorem divB_ge (M : Nat) : 2 ≤ divB M := by
  have : 2 ^ 1 ≤ 2 ^ (M / 2 + 1) := Nat.pow_le_pow_right (by omega) (by omega)
  exact this
theorem deg_le {M b l : Nat} (hl : l = blen b) (hb : 0 < b) : (2 * (l - 1) ≤ M) ↔ b < divB M := by
  unfold divB
  rw [← blen_le, ← hl]
  have := blen_pos hb
  omega

theorem low_red {M a : Nat} (h2 : 2 ≤ M) (h16 : M ≤ 16) (h : 2 ^ M ≤ a) (hlt : a < modN M) : irrUpto a (divB M) = false := by
  have := mod_least M (by omega) h2
  rw [List.all_eq_true] at this
  have := this (a - 2 ^ M) (List.mem_range.2 (by omega))
  rw [show 2 ^ M + (a - 2 ^ M) = a by omega] at this
  simpa using this

theorem shl_val (M : Nat) (h : M ≤ 16) : wrap64 ((2 : Int) ^ M) = ((2 ^ M : Nat) : Int) := by
  have : (2 : Int) ^ M = ((2 ^ M : Nat) : Int) := by simp
  have hy : ∀ y : Nat, y ≤ 65536 → wrap64 (y : Int) = (y : Int) := fun y h => IntWalk.wrap64_in _ (by omega)
  rw [this]
  exact hy _ (pow16 h)
theorem bne_cast (n : Nat) : ((n : Int) != 0) = (n != 0) := by
  rw [Bool.eq_iff_iff]; simp

set_option maxRecDepth 100000 in
set_option maxHeartbeats 1000000 in
theorem modR_any (M : Nat) (h2 : 2 ≤ M) (h16 : M ≤ 16) (w : World) :
    Calls Tryd.prog 43 #[.int .i64 M] w fun e w' => e = .returned (.int .i64 (modN M : Nat)) ∧ w = w' := by
  have hm := mod_at h2 h16
  have hmi := mod_irr M (by omega) h2
  have hB := divB_le h16
  have hB2 := divB_ge M
  have hL := fun a => low_red (a := a) h2 h16
  have hlo := hm.lo
  have hhi := hm.hi
  have hpb := pow16 h16
  obtain ⟨q, hq⟩ : ∃ q, q = 2 ^ M := ⟨_, rfl⟩
  obtain ⟨m, hmm⟩ : ∃ m, m = modN M := ⟨_, rfl⟩
  obtain ⟨B, hBB⟩ : ∃ B, B = divB M := ⟨_, rfl⟩
  have HV := Lib.hid (shl_val M h16)
  rw [← hq] at HV hlo hhi hpb
  rw [← hmm] at hlo hhi
  rw [← hBB] at hB hB2
  have HL := Lib.hid hL
  have HI := Lib.hid hmi
  rw [← hmm, ← hBB] at HI
  rw [← hq, ← hmm, ← hBB] at HL
  have HM := Lib.hid hmm
  have HBB := Lib.hid hBB
  clear hm hmi hL hq hmm hBB
  rw [← HM.out]
  go_enter Tryd.func43, Tryd.ntmps43
  go_wp2_with fail
  go_loop [3, 4, 5] (fun u _ _ => ∃ a : Nat, q ≤ a ∧ a ≤ m ∧ u = .int .i64 a) (fun u _ _ => m - (intOf u).toNat)
  case atStart => exact ⟨q, by omega, hlo, int_val HV.out⟩
  case round =>
    obtain ⟨a, ha1, ha2, rfl⟩ := hrel
    have HA : Hid (∀ {b : Nat}, false = irrUpto a b → b ≤ B → a < m) := fun {b} hf hb => by
      rcases Nat.lt_or_ge a m with h | h
      · exact h
      · have h1 := irr_mono hf.symm hb
        rw [show a = m by omega, HI.out] at h1
        cases h1
    go_wp2_with fail
    go_loop [4, 5] (fun u v => ∃ (b : Nat) (fl : Bool), 2 ≤ b ∧ b ≤ B ∧ u = .bool fl ∧ v = .int .i64 b ∧ Hid (fl = irrUpto a b)) (fun _ v => B - (intOf v).toNat)
    case atStart => exact ⟨2, true, by omega, hB2, rfl, rfl, (irr_two a).symm⟩
    case round =>
      obtain ⟨b, fl, hb1, hb2, rfl, rfl, HF⟩ := hrel
      obtain ⟨l, hl⟩ : ∃ l, l = blen b := ⟨_, rfl⟩
      have hdl := deg_le (M := M) hl (by omega)
      have HLL := Lib.hid hl
      rw [← HBB.out] at hdl
      have hl1 : 1 ≤ l := by rw [hl]; exact blen_pos (by omega)
      have hl20 : l ≤ 20 := by rw [hl]; exact blen_le.2 (by omega)
      clear hl
      by_cases hlt : b < B
      · have hd := hdl.2 hlt
        clear hdl
        cases fl
        · have ham : a < m := HA.out HF.out hb2
          go_wp2_with fail
          refine (degree_any b l (by omega) HLL.out _).mono ?_
          rintro e w1 ⟨rfl, rfl⟩
          go_wp2_with fail
          go_round
          case rel => exact ⟨a + 1, by omega, by omega, by go_num⟩
          case measure => simp [intOf]; omega
        · go_wp2_with fail
          refine (degree_any b l (by omega) HLL.out _).mono ?_
          rintro e w1 ⟨rfl, rfl⟩
          go_wp2_with fail
          refine (rest_any a b (by omega) (by omega) (by omega) _).mono ?_
          rintro e w1 ⟨rfl, rfl⟩
          go_wp2_with fail
          go_round
          case rel => exact ⟨b + 1, (restN a b != 0), by omega, by omega, by rw [bne_cast], by go_num, by show _ = _; rw [irr_succ a b hb1, ← HF.out, Bool.true_and]⟩
          case measure => simp [intOf]; omega
      · have hd : ¬ 2 * (l - 1) ≤ M := fun h => hlt (hdl.1 h)
        clear hdl
        cases fl
        · have ham : a < m := HA.out HF.out hb2
          go_wp2_with fail
          refine (degree_any b l (by omega) HLL.out _).mono ?_
          rintro e w1 ⟨rfl, rfl⟩
          go_wp2_with fail
          go_round
          case rel => exact ⟨a + 1, by omega, by omega, by go_num⟩
          case measure => simp [intOf]; omega
        · have ham : a = m := by
            rcases Nat.lt_or_ge a m with h | h
            · exfalso
              have h1 := HL.out a ha1 h
              have h2 := HF.out
              rw [show b = B by omega, h1] at h2
              cases h2
            · omega
          have HAM := Lib.hid ham
          clear ham
          go_wp2_with fail
          refine (degree_any b l (by omega) HLL.out _).mono ?_
          rintro e w1 ⟨rfl, rfl⟩
          go_wp2_with fail
          go_ret
          exact ⟨ret_int (congrArg Nat.cast HAM.out), rfl⟩
end Go.Proofs.YtiiopdomlepkmaaDoor
