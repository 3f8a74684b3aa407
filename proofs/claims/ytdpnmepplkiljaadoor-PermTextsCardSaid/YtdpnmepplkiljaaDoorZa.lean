/-
  Contracts of Factorial and Identity of the reference.
-/
import Derived.Test.YtdpnmepplkiljaaDoorW
namespace Go.Proofs.YtdpnmepplkiljaaDoor
open Go.RowKit

theorem rfact_any : ∀ (n : Nat) (w : World), n ≤ 7 → Calls Tryd.prog 22 #[.int .i64 n] w fun e w' => e = .returned (.int .i64 (facN n : Nat)) ∧ w = w' := by
  intro n
  induction n with
  | zero =>
    intro w _
    go_enter Tryd.func22, Tryd.ntmps22
    go_wp2_with fail
    go_ret
    exact ⟨rfl, rfl⟩
  | succ k ih =>
    intro w hk
    by_cases h0 : k = 0
    · subst h0
      go_enter Tryd.func22, Tryd.ntmps22
      go_wp2_with fail
      go_ret
      exact ⟨rfl, rfl⟩
    · have h1 : 1 ≤ k := by omega
      have hf : ((k + 1 : Nat) : Int) * ((facN k : Nat) : Int) = ((facN (k + 1) : Nat) : Int) := by simp [facN]
      have hl := facN_le (k + 1) hk
      have hb : ((k + 1 : Nat) : Int) * ((facN k : Nat) : Int) ≤ 5040 := by rw [hf]; omega
      have hb0 : 0 ≤ ((k + 1 : Nat) : Int) * ((facN k : Nat) : Int) := by rw [hf]; omega
      obtain ⟨m, hm⟩ : ∃ m : Int, ((k + 1 : Nat) : Int) = m := ⟨_, rfl⟩
      rw [hm] at hf hb hb0 ⊢
      have hm1 : m - 1 = (k : Int) := by omega
      have hm2 : 2 ≤ m := by omega
      have hm3 : m ≤ 8 := by omega
      have hi := ih w (by omega)
      rw [← hm1] at hi
      have HI := Lib.hid hi
      have HF := Lib.hid hf
      clear hm hf hm1 h0 ih hi hl
      go_enter Tryd.func22, Tryd.ntmps22
      go_wp2_with fail
      refine HI.out.mono ?_
      rintro e w1 ⟨rfl, rfl⟩
      go_wp2_with fail
      go_ret
      exact ⟨ret_int HF.out, rfl⟩

theorem rfact_int (m : Int) (n : Nat) (hm : m = n) (w : World) (hn : n ≤ 7) : Calls Tryd.prog 22 #[.int .i64 m] w fun e w' => e = .returned (.int .i64 (facN n : Nat)) ∧ w = w' := by
  rw [hm]; exact rfact_any n w hn

set_option maxHeartbeats 1000000 in
theorem rident_any (n : Nat) (w : World) (h7 : n ≤ 7) :
    Calls Tryd.prog 32 #[.int .i64 n] w fun e w' => ∃ g, e = .returned (.slice (some ⟨g, 0, none⟩) n n) ∧ w.heap.size ≤ g ∧ Blk w' g (List.range n) ∧ Below w.heap.size w w' := by
  obtain ⟨i0, hi, hz0, hz1, hz2⟩ := info_parts Tryd.info3
  go_enter Tryd.func32, Tryd.ntmps32
  go_wp2_with (at_make; refine wpList_make_full _ rfl _ _ 23 rfl w.heap.size 3 i0 (.int .i64 0) 1 Tryd.underlying23 hi hz0 hz1 .i64 .i64 _ _ n rfl rfl rfl rfl (by rw [hz2]; omega) (by unfold maxLen; omega) (Nat.le_refl _) ?_; intro w1 hown hgrow)
  clear hi hz0 hz1 hz2
  have hB1 : Below w.heap.size w w1 := (Below.refl _ w).grown hgrow (Nat.le_refl _) (fun k e => by cases e)
  clear hgrow
  rw [fillPart_zero (List.range n)] at hown
  go_loopw [4] (fun i wr => ∃ k : Nat, k ≤ n ∧ i = .int .i64 k ∧ wr.ownsRow w.heap.size 3 1 (.slice (some ⟨w.heap.size, 0, none⟩) n n) n (fillPart (List.range n) n k) ∧ Below w.heap.size w wr) (fun i _ => n - (intOf i).toNat)
  case atStart => exact ⟨0, Nat.zero_le _, rfl, hown, hB1⟩
  case round =>
    clear hown hB1
    obtain ⟨k, hk, rfl, hown, hB⟩ := hrel
    by_cases hkn : k < n
    · have c3 : wr.cell? ⟨w.heap.size, k, none⟩ = (fillPart (List.range n) n k)[k]? := hown.cellAt k (by omega)
      have c4 : (fillPart (List.range n) n k)[k]? = some (.int .i64 0) := by simp [fillPart, hkn]
      rw [c4] at c3
      have f3 := hown.frozenAt k
      have hst := hown.stored k (.int .i64 (((List.range n)[k]?.getD 0 : Nat) : Int))
      rw [fillPart_succ, range_get n k hkn] at hst
      have HST := Lib.hid hst
      clear hst c4
      go_wp2
      go_roundw
      case rel => exact ⟨k + 1, by omega, by go_num, HST.out.1, hB.setCell (p := ⟨w.heap.size, k, none⟩) (Nat.le_refl _) _⟩
      case measure => simp [intOf]; omega
    · have hkn2 : k = n := by omega
      subst hkn2
      have hfull := hown
      rw [fillPart_full (List.range k) k List.length_range] at hfull
      go_wp2
      go_ret
      exact ⟨_, rfl, Nat.le_refl _, Blk.of_owns hfull, hB⟩
end Go.Proofs.YtdpnmepplkiljaaDoor
