/-
  Contracts of the law's helpers 'is' and 'alive': alive returns true in every world in which the package's tables read as the program's text lays them.
-/
import Derived.Test.YtfkeemhbehhclaaDoorFdp
namespace Go.Proofs.YtfkeemhbehhclaaDoor
open Go.RowKit

theorem is_err (e : Int) (he : e ≠ 0) (x : Int) (w : World) :
    Calls Tryd.prog 15 #[.int .i64 0, .int .i64 e, .int .i64 x, .int .i64 e] w fun r w' => r = .returned (.bool true) ∧ w = w' := by
  go_enter Tryd.func15, Tryd.ntmps15
  go_wp2
  go_ret
  exact ⟨rfl, rfl⟩
theorem is_ok (x y : Int) (h : x = y) (w : World) :
    Calls Tryd.prog 15 #[.int .i64 x, .int .i64 0, .int .i64 y, .int .i64 0] w fun r w' => r = .returned (.bool true) ∧ w = w' := by
  subst h
  go_enter Tryd.func15, Tryd.ntmps15
  go_wp2
  go_ret
  exact ⟨rfl, rfl⟩

theorem al_mul : mulN 2 2 2 2 = 3 := by
  have : pm 4 7 2 2 = 3 := by
    rw [pm_step, pm_step, show 2 / 2 / 2 = 0 from rfl, pm_zero]
    decide
  exact this
theorem al_7 : Pr 7 := ⟨by omega, fun d h1 h2 => by
  have : d = 2 ∨ d = 3 ∨ d = 4 ∨ d = 5 ∨ d = 6 := by omega
  rcases this with rfl | rfl | rfl | rfl | rfl <;> decide⟩
theorem al_f7 : Fld 7 1 7 := .inl ⟨rfl, al_7, by omega, rfl⟩
theorem al_f4 : Fld 2 2 4 := .inr ⟨rfl, by omega, by omega, rfl⟩
theorem al_f16 : Fld 2 4 16 := .inr ⟨rfl, by omega, by omega, rfl⟩
theorem al_pw (r : Nat) : powN 7 1 r 3 = mulN 7 1 (mulN 7 1 1 r) (mulN 7 1 r r) := by
  unfold powN
  rw [← pw_odd (mulN 7 1) (r := 1) (a := r) (k := 3) rfl rfl, show 3 / 2 = 1 from rfl, ← pw_odd (mulN 7 1) (k := 1) rfl rfl, show 1 / 2 = 0 from rfl, pw_zero]
theorem al_pw1 (r : Nat) : powN 7 1 r 1 = mulN 7 1 1 r := by
  unfold powN
  rw [← pw_odd (mulN 7 1) (r := 1) (a := r) (k := 1) rfl rfl, show 1 / 2 = 0 from rfl, pw_zero]
theorem al_dvd3 {d : Nat} (hd : Pr d) (h : d ∣ 3) : d = 3 := by
  have hle := Nat.le_of_dvd (by omega) h
  have h2 := hd.1
  by_cases h3 : d = 2
  · subst h3; exact absurd (Nat.mod_eq_zero_of_dvd h) (by decide)
  · omega
theorem al_pr3 : Pr 3 := ⟨by omega, fun d h1 h2 => by
  have : d = 2 := by omega
  subst this; decide⟩
theorem al_rt2 : IsRt 7 1 3 2 := ⟨by rw [al_pw]; decide, fun d hd hk => by rw [al_dvd3 hd hk, show 3 / 3 = 1 from rfl, al_pw1]; decide⟩
theorem al_rt1 : ¬ IsRt 7 1 3 1 := fun h => h.2 3 al_pr3 (Nat.dvd_refl _) (by rw [show 3 / 3 = 1 from rfl, al_pw1]; decide)

theorem al_one (w : World) (hL : Lays w) : Calls Tryd.prog 12 #[.agg #[.int .i64 2, .int .i64 4]] w fun e w' => e = Ret2 19 0 ∧ Below w.heap.size w w' :=
  Modulus_ok 4 (by omega) (by omega) w hL
theorem al_two (w : World) (hL : Lays w) : Calls Tryd.prog 19 #[.agg #[.int .i64 2, .int .i64 2], .int .i64 2, .int .i64 2] w fun e w' => e = Ret2 3 0 ∧ Below w.heap.size w w' := by
  have := Mul_ok 2 2 4 al_f4 2 2 (by omega) (by omega) w hL
  rw [al_mul] at this
  exact this
theorem al_three (w : World) (hL : Lays w) : Calls Tryd.prog 30 #[.agg #[.int .i64 7, .int .i64 1], .int .i64 3] w fun e w' => e = Ret2 2 0 ∧ Below w.heap.size w w' := by
  refine (Root_ok_p 7 al_f7 3 (by omega) rfl w hL).mono fun e w' ⟨hB, h⟩ => ⟨?_, hB⟩
  rcases h with ⟨r, h1, h2, h3, h4, rfl⟩ | ⟨h, _⟩
  · have : r = 2 := by
      by_cases hr1 : r = 1
      · subst hr1; exact absurd h3 al_rt1
      · by_cases hr2 : r = 2
        · exact hr2
        · exact absurd al_rt2 (h4 2 (by omega) (by omega))
    subst this; rfl
  · exact absurd al_rt2 (h 2 (by omega) (by omega))
theorem al_four (w : World) (hL : Lays w) : Calls Tryd.prog 31 #[.agg #[.int .i64 2, .int .i64 4], .int .i64 5, .int .i64 10] w fun e w' => e = Ret2 1 0 ∧ Below w.heap.size w w' := by
  refine (Sum_all_q 4 16 (by omega) al_f16 5 10 (by omega) (by omega) w hL).mono fun e w' ⟨hB, h⟩ => ⟨?_, hB⟩
  rcases h with ⟨h, _⟩ | ⟨⟨_, h⟩, _⟩ | ⟨_, ⟨h, _⟩ | ⟨_, rfl⟩⟩
  · omega
  · exact absurd (by decide) h
  · exact absurd (by decide) h
  · rfl

theorem alive_any (w : World) (hL : Lays w) :
    Calls Tryd.prog 16 #[] w fun e w' => e = .returned (.bool true) ∧ Below w.heap.size w w' := by
  have HL := Lib.hid hL
  clear hL
  go_enter Tryd.func16, Tryd.ntmps16
  go_wp2_with fail
  refine (al_one _ HL.out).mono ?_
  rintro e w1 ⟨rfl, hB⟩
  have HB1 := Lib.hid hB
  have HL1 := Lib.hid (HL.out.below hB)
  clear hB
  unfold Ret2
  go_wp2_with fail
  refine (al_two _ HL1.out).mono ?_
  rintro e w2 ⟨rfl, hB⟩
  have HB2 := Lib.hid (HB1.out.trans (hB.mono HB1.out.size))
  have HL2 := Lib.hid (HL1.out.below hB)
  clear hB
  unfold Ret2
  go_wp2_with fail
  refine (al_three _ HL2.out).mono ?_
  rintro e w3 ⟨rfl, hB⟩
  have HB3 := Lib.hid (HB2.out.trans (hB.mono HB2.out.size))
  have HL3 := Lib.hid (HL2.out.below hB)
  clear hB
  unfold Ret2
  go_wp2_with fail
  refine (al_four _ HL3.out).mono ?_
  rintro e w4 ⟨rfl, hB⟩
  have HB4 := Lib.hid (HB3.out.trans (hB.mono HB3.out.size))
  clear hB
  unfold Ret2
  go_wp2_with fail
  go_ret
  exact ⟨rfl, HB4.out⟩
end Go.Proofs.YtfkeemhbehhclaaDoor
