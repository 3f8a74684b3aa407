/-
  Contracts of the reference for fields: Order at every field, Valid, degree and rest.
-/
import Derived.Test.YtiiopdomlepkmaaDoorFdh
namespace Go.Proofs.YtiiopdomlepkmaaDoor
open Go.RowKit

theorem ordR_no (P M : Int) (h : ¬ OkF P M) (w : World) :
    Calls Tryd.prog 30 #[.agg #[.int .i64 P, .int .i64 M]] w fun e w' => e = .returned (.int .i64 0) ∧ Below w.heap.size w w' := by
  by_cases hc : P < 2 ∨ 65536 < P ∨ M < 1 ∨ 16 < M ∨ (1 < M ∧ P ≠ 2)
  · exact ordR_cond P M hc w
  · have hM : M = 1 := by
      by_cases h1 : M = 1
      · exact h1
      · exact absurd (.inl ⟨by omega, by omega, by omega⟩) h
    subst hM
    obtain ⟨k, rfl⟩ : ∃ k : Nat, P = k := ⟨P.toNat, by omega⟩
    refine (ordR_one k (by omega) (by omega) w).mono fun e w' ⟨hB, hh⟩ => ⟨?_, hB⟩
    rcases hh with ⟨hp, rfl⟩ | ⟨_, rfl⟩
    · exact absurd (Fld.ok (q := k) (M := 1) (.inl ⟨rfl, hp, by omega, rfl⟩)) h
    · rfl
theorem ordR_ok (P M q : Nat) (hf : Fld P M q) (w : World) :
    Calls Tryd.prog 30 #[.agg #[.int .i64 P, .int .i64 M]] w fun e w' => e = .returned (.int .i64 q) ∧ Below w.heap.size w w' := by
  rcases hf with ⟨rfl, h1, h2, rfl⟩ | ⟨rfl, h1, h2, rfl⟩
  · refine (ordR_one q h1.1 h2 w).mono fun e w' ⟨hB, hh⟩ => ⟨?_, hB⟩
    rcases hh with ⟨hp, rfl⟩ | ⟨hp, rfl⟩
    · rfl
    · exact absurd h1 hp
  · exact ordR_two M _ (by omega) h2 rfl w

theorem validR_no (P M : Int) (h : ¬ OkF P M) (w : World) :
    Calls Tryd.prog 24 #[.agg #[.int .i64 P, .int .i64 M]] w fun e w' => e = .returned (.bool false) ∧ Below w.heap.size w w' := by
  have H := Lib.hid (fun w => ordR_no P M h w)
  clear h
  go_enter Tryd.func24, Tryd.ntmps24
  go_wp2_with fail
  refine (H.out _).mono ?_
  rintro e w1 ⟨rfl, hB⟩
  have HB := Lib.hid ((below1 w _).trans (hB.mono (below1 w _).size))
  clear hB
  go_wp2_with fail
  go_ret
  exact ⟨rfl, HB.out⟩
theorem validR_ok (P M q : Nat) (hf : Fld P M q) (w : World) :
    Calls Tryd.prog 24 #[.agg #[.int .i64 P, .int .i64 M]] w fun e w' => e = .returned (.bool true) ∧ Below w.heap.size w w' := by
  have H := Lib.hid (fun w => ordR_ok P M q hf w)
  have hq := hf.q_ge
  clear hf
  go_enter Tryd.func24, Tryd.ntmps24
  go_wp2_with fail
  refine (H.out _).mono ?_
  rintro e w1 ⟨rfl, hB⟩
  have HB := Lib.hid ((below1 w _).trans (hB.mono (below1 w _).size))
  clear hB
  go_wp2_with fail
  go_ret
  exact ⟨ret_bool (decide_eq_true (by omega)), HB.out⟩

theorem blen_zero : blen 0 = 0 := rfl
theorem blen_pos {a : Nat} (h : 0 < a) : 0 < blen a := by
  have : ¬ blen a ≤ 0 := by rw [blen_le]; simp; omega
  omega

theorem degree_any (n l : Nat) (hn : n < 9223372036854775808) (hl : l = blen n) (w : World) :
    Calls Tryd.prog 63 #[.int .i64 n] w fun e w' => e = .returned (.int .i64 ((l : Int) - 1)) ∧ w = w' := by
  have hl63 : l ≤ 63 := by
    rw [hl]
    exact blen_le.2 (by have : (2 : Nat) ^ 63 = 9223372036854775808 := by decide
                        omega)
  have HL := Lib.hid hl
  clear hl
  go_enter Tryd.func63, Tryd.ntmps63
  go_wp2_with fail
  go_loop [0, 3] (fun u v => ∃ x j : Nat, x < 9223372036854775808 ∧ j ≤ l ∧ u = .int .i64 x ∧ v = .int .i64 ((j : Int) - 1) ∧ Hid (j + blen x = l)) (fun u _ => (intOf u).toNat)
  case atStart => exact ⟨n, 0, hn, by omega, rfl, rfl, by rw [HL.out]; exact Nat.zero_add _⟩
  case round =>
    obtain ⟨x, j, hx, hj, rfl, rfl, HJ⟩ := hrel
    by_cases h0 : 0 < x
    · have hh := blen_half x h0
      have H1 : Hid (j + 1 + blen (x / 2) = l) := by rw [← HJ.out, hh]; show _ = _; omega
      have hj2 : j + 1 ≤ l := by have := H1.out; omega
      clear hh
      go_wp2_with fail
      go_round
      case rel => exact ⟨x / 2, j + 1, by omega, hj2, int_val (by omega), int_val (by omega), H1⟩
      case measure => simp [intOf]; omega
    · have hx0 : x = 0 := by omega
      subst hx0
      have hjl : j = l := by have := HJ.out; rw [blen_zero] at this; omega
      have HJL := Lib.hid hjl
      clear hjl
      go_wp2_with fail
      go_ret
      exact ⟨ret_int (by rw [HJL.out]), rfl⟩

theorem rest_slot (x b lx lb : Nat) (hx : x < 1099511627776) (hb : 0 < b) (hlx40 : lx ≤ 40) (hlx : lx = blen x) (hlb : lb = blen b) (h : lb ≤ lx) :
    bits .xor .i64 (x : Int) (wrap64 ((b : Int) * 2 ^ (lx - 1 - (lb - 1)))) = ((x ^^^ b <<< (blen x - blen b) : Nat) : Int) ∧ x ^^^ b <<< (blen x - blen b) < 1099511627776 ∧ blen (x ^^^ b <<< (blen x - blen b)) < blen x := by
  have hlb1 := blen_pos hb
  have he : lx - 1 - (lb - 1) = blen x - blen b := by omega
  have hs : blen (b <<< (blen x - blen b)) ≤ 40 := by rw [blen_shift hb]; omega
  have hs2 := blen_le.1 hs
  have e40 : (2 : Nat) ^ 40 = 1099511627776 := by decide
  have hc : (b : Int) * 2 ^ (blen x - blen b) = ((b <<< (blen x - blen b) : Nat) : Int) := by rw [Nat.shiftLeft_eq]; simp
  have hst := blen_step (a := x) hb (by omega)
  refine ⟨?_, ?_, hst⟩
  · have hy : ∀ y : Nat, y < 2 ^ 40 → wrap64 (y : Int) = (y : Int) := fun y h => IntWalk.wrap64_in _ (by omega)
    rw [he, hc, hy _ hs2]
    exact xor_nat x _ (by omega) (Nat.lt_trans hs2 (by decide))
  · rw [← e40] at hx ⊢
    exact Nat.xor_lt_two_pow hx hs2

set_option maxHeartbeats 400000 in
theorem rest_any (a b : Nat) (ha : a < 1099511627776) (hb : 0 < b) (hb2 : b < 1099511627776) (w : World) :
    Calls Tryd.prog 64 #[.int .i64 a, .int .i64 b] w fun e w' => e = .returned (.int .i64 (restN a b : Nat)) ∧ w = w' := by
  obtain ⟨lb, hlb⟩ : ∃ lb, lb = blen b := ⟨_, rfl⟩
  have HLB := Lib.hid hlb
  have hlb1 : 1 ≤ lb := by have := blen_pos hb; omega
  clear hlb
  go_enter Tryd.func64, Tryd.ntmps64
  go_wp2_with fail
  go_loop [0] (fun u => ∃ x : Nat, x < 1099511627776 ∧ u = .int .i64 x ∧ Hid (restN x b = restN a b)) (fun u => blen (intOf u).toNat)
  case atStart => exact ⟨a, ha, rfl, rfl⟩
  case round =>
    obtain ⟨x, hx, rfl, HR⟩ := hrel
    obtain ⟨lx, hlx⟩ : ∃ lx, lx = blen x := ⟨_, rfl⟩
    have hlx40 : lx ≤ 40 := by rw [hlx]; exact blen_le.2 hx
    have HLX := Lib.hid hlx
    clear hlx
    go_wp2_with fail
    refine (degree_any x lx (by omega) HLX.out _).mono ?_
    rintro e w1 ⟨rfl, rfl⟩
    go_wp2_with fail
    refine (degree_any b lb (by omega) HLB.out _).mono ?_
    rintro e w1 ⟨rfl, rfl⟩
    by_cases h : lb ≤ lx
    · go_wp2_with fail
      refine (degree_any x lx (by omega) HLX.out _).mono ?_
      rintro e w1 ⟨rfl, rfl⟩
      go_wp2_with fail
      refine (degree_any b lb (by omega) HLB.out _).mono ?_
      rintro e w1 ⟨rfl, rfl⟩
      have hxb := Lib.hid (rest_slot x b lx lb hx hb hlx40 HLX.out HLB.out h)
      go_wp2_with fail
      go_round
      case rel => exact ⟨x ^^^ b <<< (blen x - blen b), hxb.out.2.1, int_val hxb.out.1, by rw [← HR.out]; exact (restN_step hb (by rw [← HLX.out, ← HLB.out]; exact h) (by rw [← HLX.out]; omega)).symm⟩
      case measure =>
        rw [hxb.out.1]
        show blen (((x ^^^ b <<< (blen x - blen b) : Nat) : Int)).toNat < blen ((x : Int)).toNat
        rw [Int.toNat_natCast, Int.toNat_natCast]
        exact hxb.out.2.2
    · go_wp2_with fail
      go_ret
      exact ⟨ret_int (congrArg Nat.cast (by rw [← HR.out, restN_done]; rw [← HLX.out, ← HLB.out]; omega)), rfl⟩
end Go.Proofs.YtiiopdomlepkmaaDoor
