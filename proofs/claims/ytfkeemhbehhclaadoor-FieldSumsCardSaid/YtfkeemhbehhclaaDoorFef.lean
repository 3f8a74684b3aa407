/-
  Contracts of the reference's Root and Sum.
-/
import Derived.Test.YtfkeemhbehhclaaDoorFdm
import Derived.Test.YtfkeemhbehhclaaDoorFed
import Derived.Test.YtfkeemhbehhclaaDoorFdo
import Derived.Deep.RegionHeld3
import Derived.Deep.DeepCutAuto
namespace Go.Proofs.YtfkeemhbehhclaaDoor
open Go.RowKit

theorem Fld.ord_of {P M q : Nat} (h : Fld P M q) {r k : Nat} (hr : r < q) (hk : 0 < k) (hi : IsRt P M k r) : Ord (mulN P M) k r :=
  ord_of_primes h.rng.toMon hr hk (by rw [← h.pow_eq hr]; exact hi.1) fun d hd hdk => by rw [← h.pow_eq hr]; exact hi.2 d hd hdk
theorem Fld.rt_of {P M q : Nat} (h : Fld P M q) {r k : Nat} (hr : r < q) (hk : 0 < k) (ho : Ord (mulN P M) k r) : IsRt P M k r :=
  ⟨by rw [h.pow_eq hr]; exact ho.1, fun d hd hdk => by
    rw [h.pow_eq hr]
    have hd2 := hd.1
    exact ho.2 _ (Nat.div_pos (Nat.le_of_dvd hk hdk) (by omega)) (Nat.div_lt_self hk hd2)⟩
theorem Fld.ord_ex {P M q : Nat} (h : Fld P M q) {n : Nat} (hn : 0 < n) (hd : (q - 1) % n = 0) : ∃ r, 0 < r ∧ r < q ∧ Ord (mulN P M) n r := by
  obtain ⟨g, hg0, hg, hg2⟩ := h.prim
  have hq2 := h.q_ge
  have ho := ord_of_primes h.rng.toMon hg (by omega) (h.fl.fermat hg0 hg) hg2
  obtain ⟨c, hc⟩ := Nat.dvd_of_mod_eq_zero hd
  exact ⟨_, h.fl.np_pos hg0 hg c, h.rng.np_lt hg c, prim_ord h.fl hg ho (by rw [hc, Nat.mul_comm])⟩

/-- The element that Root is about. -/
def RootOf (P M q n r : Nat) : Prop := 0 < r ∧ r < q ∧ Ord (mulN P M) n r ∧ ∀ s, 0 < s → s < r → ¬ Ord (mulN P M) n s
theorem RootOf.uniq {P M q n r s : Nat} (h1 : RootOf P M q n r) (h2 : RootOf P M q n s) : r = s := by
  rcases Nat.lt_trichotomy r s with h | h | h
  · exact absurd h1.2.2.1 (h2.2.2.2 r h1.1 h)
  · exact h
  · exact absurd h2.2.2.1 (h1.2.2.2 s h2.1 h)

def NoPow (P M n r i : Nat) : Prop := ∀ s, 0 < s → s < i → n % s = 0 → powN P M r s ≠ 1
theorem NoPow.succ {P M n r i : Nat} (h : NoPow P M n r i) (hi : n % i = 0 → powN P M r i ≠ 1) : NoPow P M n r (i + 1) := fun s h0 h1 h2 => by
  by_cases he : s = i
  · subst he; exact hi h2
  · exact h s h0 (by omega) h2
theorem Fld.ord_nopow {P M q : Nat} (h : Fld P M q) {r n : Nat} (hr : r < q) (hn : 0 < n) (h1 : powN P M r n = 1) (h2 : NoPow P M n r n) : Ord (mulN P M) n r := by
  refine ord_of_primes h.rng.toMon hr hn (by rw [← h.pow_eq hr]; exact h1) fun d hd hdn => ?_
  rw [← h.pow_eq hr]
  have hd2 := hd.1
  refine h2 _ (Nat.div_pos (Nat.le_of_dvd hn hdn) (by omega)) (Nat.div_lt_self hn hd2) ?_
  obtain ⟨c, hc⟩ := hdn
  have : n / d = c := by rw [hc]; exact Nat.mul_div_cancel_left _ (by omega)
  rw [this, hc]
  exact Nat.mul_mod_left _ _

theorem kitRoot_no (P M q : Nat) (hq : 2 ≤ q) (hq3 : q ≤ 65536) (n : Int) (hn : n < 1 ∨ (1 ≤ n ∧ ¬ ((q : Int) - 1) % n = 0)) (w : World) :
    Calls Tryd.prog 32 #[kitV P M q, .int .i64 n] w fun e w' => e = .returned (.int .i64 0) ∧ Below w.heap.size w w' := by
  unfold kitV
  rcases hn with h | ⟨h1, h2⟩
  · go_enter Tryd.func32, Tryd.ntmps32
    go_wp2
    go_ret
    exact ⟨rfl, below1 w _⟩
  · have e2 : (((q : Int) - 1) % n != 0) = true := by simpa using h2
    go_enter Tryd.func32, Tryd.ntmps32
    go_wp2
    go_ret
    exact ⟨rfl, below1 w _⟩

theorem kitPower' (P M q a k : Nat) (hf : Fld P M q) (ha : a < q) (hk : k < 9223372036854775808) (w : World) :
    Calls Tryd.prog 29 #[.agg #[.int .i64 (P : Int), .int .i64 (M : Int), .int .i64 (q : Int), .int .i64 (modOf M : Int)], .int .i64 a, .int .i64 k] w fun e w' => e = .returned (.int .i64 (powN P M a k : Nat)) ∧ Below w.heap.size w w' := kitPower P M q a k hf ha hk w
theorem kitPowIs {P M q a k z : Nat} (hf : Fld P M q) (ha : a < q) (hk : k < 9223372036854775808) (h : powN P M a k = z) (w : World) :
    Calls Tryd.prog 29 #[.agg #[.int .i64 (P : Int), .int .i64 (M : Int), .int .i64 (q : Int), .int .i64 (modOf M : Int)], .int .i64 a, .int .i64 k] w fun e w' => e = .returned (.int .i64 (z : Nat)) ∧ Below w.heap.size w w' := by
  rw [← h]; exact kitPower P M q a k hf ha hk w

/-- What holds of the world while a method of the kit runs. -/
def Kt (w0 : World) (P M q : Nat) (w : World) : Prop := Below w0.heap.size w0 w ∧ KitAt w w0.heap.size P M q
theorem Kt.step {w0 w w1 : World} {P M q : Nat} (h : Kt w0 P M q w) (hB : Below w.heap.size w w1) : Kt w0 P M q w1 := ⟨h.1.trans (hB.mono h.1.size), h.2.below hB (World.block_lt_of_cell? w _ h.2.1)⟩
theorem Kt.drew {w0 w : World} {P M q : Nat} (h : Kt w0 P M q w) : Kt w0 P M q w.drew := ⟨h.1.drew, h.2⟩
theorem Kt.new (w : World) (P M q : Nat) : Kt w P M q (w.alloc (.cells #[.int .i64 (P : Int), .int .i64 (M : Int), .int .i64 (q : Int), .int .i64 (modOf M : Int)] 34)) := ⟨below1 w _, kitAt_new w P M q⟩

def RootRes (P M q n : Nat) (w : World) (e : Ending) (w' : World) : Prop := Below w.heap.size w w' ∧ ∃ r : Nat, e = .returned (.int .i64 (r : Int)) ∧ RootOf P M q n r
def NoOrd (P M n r : Nat) : Prop := ∀ s, 0 < s → s < r → ¬ Ord (mulN P M) n s
theorem NoOrd.succ {P M n r : Nat} (h : NoOrd P M n r) (hn : ¬ Ord (mulN P M) n r) : NoOrd P M n (r + 1) := fun s h0 h1 => by
  by_cases he : s = r
  · subst he; exact hn
  · exact h s h0 (by omega)

set_option maxRecDepth 100000 in
set_option maxHeartbeats 1000000 in
theorem kitRoot_ok (P M q n : Nat) (hf : Fld P M q) (hn : 1 ≤ n) (hd : (q - 1) % n = 0) (w : World) :
    Calls Tryd.prog 32 #[kitV P M q, .int .i64 n] w (RootRes P M q n w) := by
  have hq2 := hf.q_ge
  have hq3 := hf.q_le
  have hnq : n ≤ 65536 := by have := Nat.le_of_dvd (by omega) (Nat.dvd_of_mod_eq_zero hd); omega
  have hki : ((q : Int) - 1) % (n : Int) = 0 := by
    have : ((q : Int) - 1) = ((q - 1 : Nat) : Int) := by omega
    rw [this, ← Int.natCast_emod, hd]; rfl
  obtain ⟨r0, hr0⟩ := hf.ord_ex hn hd
  have HE := Lib.hid hr0
  have HF := Lib.hid hf
  have HK0 := Lib.hid (Kt.new w P M q)
  unfold kitV
  clear hf hr0 hd
  go_enter Tryd.func32, Tryd.ntmps32
  go_wp2_with fail
  clear hki
  go_loopw [5, 6, 7] (fun u _ _ wr => ∃ r : Nat, 1 ≤ r ∧ r ≤ q ∧ u = .int .i64 r ∧ Hid (NoOrd P M n r) ∧ Hid (Kt w P M q wr)) (fun u _ _ _ => q - (intOf u).toNat)
  case atStart => exact ⟨1, by omega, by omega, rfl, fun s h1 h2 => by omega, HK0⟩
  case round =>
    obtain ⟨r, hr1, hr2, rfl, HN, HK⟩ := hrel
    obtain ⟨c0, c1, c2, c3⟩ := HK.out.2
    by_cases hlt : r < q
    · obtain ⟨x, hx⟩ : ∃ x, powN P M r n = x := ⟨_, rfl⟩
      have HX := Lib.hid hx
      clear hx
      by_cases hx1 : x = 1
      · subst hx1
        go_wp2_with fail
        refine (kitPowIs HF.out hlt (by omega) HX.out _).mono ?_
        rintro e w1 ⟨rfl, hB⟩
        have HK1 := Lib.hid (HK.out.step hB)
        clear hB c0 c1 c2 c3
        obtain ⟨wo, hwo⟩ : ∃ wo : World, wo = w1 := ⟨_, rfl⟩
        have HKo : Hid (Kt w P M q wo) := by rw [hwo]; exact HK1.out
        clear hwo
        go_wp2_with fail
        go_loopw [6, 7] (fun u v wz => ∃ (fl : Bool) (i : Nat), 1 ≤ i ∧ i ≤ n ∧ u = .bool fl ∧ v = .int .i64 i ∧ Hid (if fl = true then NoPow P M n r i else ¬ Ord (mulN P M) n r) ∧ Hid (Kt w P M q wz)) (fun _ v _ => n - (intOf v).toNat)
        case atStart => exact ⟨true, 1, by omega, hn, rfl, rfl, fun s h1 h2 => by omega, HK1⟩
        case round =>
          obtain ⟨fl, i, hi1, hi2, rfl, rfl, HI, HKz⟩ := hrel
          obtain ⟨d0, d1, d2, d3⟩ := HKz.out.2
          cases fl
          · have hno : ¬ Ord (mulN P M) n r := by have := HI.out; simpa using this
            have HNO := Lib.hid hno
            clear hno
            by_cases hlt2 : i < n
            all_goals
              go_wp2_with fail
              go_roundw
              case rel => exact ⟨r + 1, by omega, by omega, by go_num, HN.out.succ HNO.out, HKz⟩
              case measure => simp [intOf]; omega
          · have hnp : NoPow P M n r i := by have := HI.out; simpa using this
            have HNP := Lib.hid hnp
            clear hnp
            by_cases hlt2 : i < n
            · by_cases hm : n % i = 0
              · obtain ⟨y, hy⟩ : ∃ y, powN P M r i = y := ⟨_, rfl⟩
                have HY := Lib.hid hy
                clear hy
                by_cases hy1 : y = 1
                · subst hy1
                  go_wp2_with fail
                  refine (kitPowIs HF.out hlt (by omega) HY.out _).mono ?_
                  rintro e w2 ⟨rfl, hB⟩
                  have HK2 := Lib.hid (HKz.out.step hB)
                  clear hB d0 d1 d2 d3
                  go_wp2_with fail
                  go_roundw
                  case rel => exact ⟨false, i + 1, by omega, by omega, rfl, by go_num, by show if false = true then _ else _; rw [if_neg (by simp)]; exact fun ho => ho.2 i hi1 hlt2 (by rw [← HF.out.pow_eq hlt]; exact HY.out), HK2⟩
                  case measure => simp [intOf]; omega
                · go_wp2_with fail
                  refine (kitPowIs HF.out hlt (by omega) HY.out _).mono ?_
                  rintro e w2 ⟨rfl, hB⟩
                  have HK2 := Lib.hid (HKz.out.step hB)
                  clear hB d0 d1 d2 d3
                  go_wp2_with fail
                  go_roundw
                  case rel => exact ⟨true, i + 1, by omega, by omega, by first | rfl | (congr 1; simp; omega), by go_num, by show if true = true then _ else _; rw [if_pos rfl]; exact HNP.out.succ fun _ => by rw [HY.out]; exact hy1, HK2⟩
                  case measure => simp [intOf]; omega
              · go_wp2_with fail
                go_roundw
                case rel => exact ⟨true, i + 1, by omega, by omega, by first | rfl | (congr 1; simp; omega), by go_num, by show if true = true then _ else _; rw [if_pos rfl]; exact HNP.out.succ fun h => absurd h hm, HKz⟩
                case measure => simp [intOf]; omega
            · have hin : i = n := by omega
              subst hin
              go_wp2_with fail
              go_ret
              exact ⟨HKz.out.1, r, rfl, hr1, hlt, HF.out.ord_nopow hlt (by omega) HX.out HNP.out, HN.out⟩
      · have hno : ¬ Ord (mulN P M) n r := fun ho => hx1 (by rw [← HX.out, HF.out.pow_eq hlt]; exact ho.1)
        have HNO := Lib.hid hno
        clear hno
        go_wp2_with fail
        refine (kitPowIs HF.out hlt (by omega) HX.out _).mono ?_
        rintro e w1 ⟨rfl, hB⟩
        have HK1 := Lib.hid (HK.out.step hB)
        clear hB c0 c1 c2 c3
        go_wp2_with fail
        go_roundw
        case rel => exact ⟨r + 1, by omega, by omega, by go_num, HN.out.succ HNO.out, HK1⟩
        case measure => simp [intOf]; omega
    · exfalso
      have := HE.out
      exact HN.out r0 this.1 (by omega) this.2.2
end Go.Proofs.YtfkeemhbehhclaaDoor
