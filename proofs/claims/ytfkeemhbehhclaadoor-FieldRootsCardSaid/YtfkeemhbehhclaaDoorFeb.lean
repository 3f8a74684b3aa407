/-
  By the kernel: the primes up to 65537 have primitive roots; so every field has a primitive element.
-/
import Derived.Test.YtfkeemhbehhclaaDoorFea
namespace Go.Proofs.YtfkeemhbehhclaaDoor
open Go.RowKit

/-! Every prime up to 65537 has a primitive root, by the kernel. -/
theorem chk_8 : allUpto (fun j => chkP (32770 + j)) 4096 = true := by decide +kernel
theorem chk_9 : allUpto (fun j => chkP (36866 + j)) 4096 = true := by decide +kernel
theorem chk_10 : allUpto (fun j => chkP (40962 + j)) 4096 = true := by decide +kernel
theorem chk_11 : allUpto (fun j => chkP (45058 + j)) 4096 = true := by decide +kernel
theorem chk_12 : allUpto (fun j => chkP (49154 + j)) 4096 = true := by decide +kernel
theorem chk_13 : allUpto (fun j => chkP (53250 + j)) 4096 = true := by decide +kernel
theorem chk_14 : allUpto (fun j => chkP (57346 + j)) 4096 = true := by decide +kernel
theorem chk_15 : allUpto (fun j => chkP (61442 + j)) 4096 = true := by decide +kernel
theorem chk_in {f : Nat → Bool} {b : Nat} (h : allUpto (fun j => f (b + j)) 4096 = true) (p : Nat) (h1 : b ≤ p) (h2 : p < b + 4096) : f p = true := by
  have := allUpto_at h (p - b) (by omega)
  rw [show b + (p - b) = p by omega] at this
  exact this
theorem chkP_all (p : Nat) (h2 : 2 ≤ p) (h : p ≤ 65536) : chkP p = true := by
  by_cases h10 : p < 4098
  · exact chk_in chk_0 p (by omega) (by omega)
  by_cases h11 : p < 8194
  · exact chk_in chk_1 p (by omega) (by omega)
  by_cases h12 : p < 12290
  · exact chk_in chk_2 p (by omega) (by omega)
  by_cases h13 : p < 16386
  · exact chk_in chk_3 p (by omega) (by omega)
  by_cases h14 : p < 20482
  · exact chk_in chk_4 p (by omega) (by omega)
  by_cases h15 : p < 24578
  · exact chk_in chk_5 p (by omega) (by omega)
  by_cases h16 : p < 28674
  · exact chk_in chk_6 p (by omega) (by omega)
  by_cases h17 : p < 32770
  · exact chk_in chk_7 p (by omega) (by omega)
  by_cases h18 : p < 36866
  · exact chk_in chk_8 p (by omega) (by omega)
  by_cases h19 : p < 40962
  · exact chk_in chk_9 p (by omega) (by omega)
  by_cases h20 : p < 45058
  · exact chk_in chk_10 p (by omega) (by omega)
  by_cases h21 : p < 49154
  · exact chk_in chk_11 p (by omega) (by omega)
  by_cases h22 : p < 53250
  · exact chk_in chk_12 p (by omega) (by omega)
  by_cases h23 : p < 57346
  · exact chk_in chk_13 p (by omega) (by omega)
  by_cases h24 : p < 61442
  · exact chk_in chk_14 p (by omega) (by omega)
  by_cases h25 : p < 65538
  · exact chk_in chk_15 p (by omega) (by omega)
  omega
theorem Fld.prim {P M q : Nat} (h : Fld P M q) : ∃ g, PrimEl P M q g := by
  rcases h with ⟨rfl, h1, h2, rfl⟩ | ⟨rfl, h1, h2, rfl⟩
  · exact chkP_sound h1 h2 (chkP_all _ h1.1 h2)
  · exact prim_q h1 h2
end Go.Proofs.YtfkeemhbehhclaaDoor
