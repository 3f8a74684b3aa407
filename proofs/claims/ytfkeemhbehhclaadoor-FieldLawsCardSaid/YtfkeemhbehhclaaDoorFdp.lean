/-
  Contracts of Root and Sum of package field, at every field and all numbers.
-/
import Derived.Test.YtfkeemhbehhclaaDoorFdo
namespace Go.Proofs.YtfkeemhbehhclaaDoor
open Go.RowKit

def RootBad (k : Int) (w : World) (e : Ending) (w' : World) : Prop := Below w.heap.size w w' ∧ e = Ret2 0 (if k < 1 then 2 else 6)
def RootIs (P M q k : Nat) (w : World) (e : Ending) (w' : World) : Prop :=
  Below w.heap.size w w' ∧ ((∃ r : Nat, 1 ≤ r ∧ r < q ∧ IsRt P M k r ∧ (∀ s, 1 ≤ s → s < r → ¬ IsRt P M k s) ∧ e = Ret2 r 0) ∨ ((∀ s, 1 ≤ s → s < q → ¬ IsRt P M k s) ∧ e = Ret2 0 6))
def NoRt (P M k r : Nat) : Prop := ∀ s, 1 ≤ s → s < r → ¬ IsRt P M k s
theorem NoRt.succ {P M k r : Nat} (h : NoRt P M k r) (hn : ¬ IsRt P M k r) : NoRt P M k (r + 1) := fun s h1 h2 => by
  by_cases he : s = r
  · subst he; exact hn
  · exact h s h1 (by omega)

theorem Root_form (P M k : Int) (h : ¬ OkF P M) (w : World) (hL : Lays w) :
    Calls Tryd.prog 30 #[.agg #[.int .i64 P, .int .i64 M], .int .i64 k] w fun e w' => e = Ret2 0 1 ∧ Below w.heap.size w w' := by
  have H := Lib.hid (fun o => openRoots_form P M k h _ (hL.below (below1 w o)))
  clear hL h
  go_enter Tryd.func30, Tryd.ntmps30
  go_wp2_with fail
  refine (H.out _).mono ?_
  rintro e w1 ⟨rfl, hB⟩
  have HB := Lib.hid ((below1 w _).trans (hB.mono (below1 w _).size))
  clear hB
  go_wp2_with fail
  go_ret2
  exact ⟨rfl, HB.out⟩
theorem Sum_form (P M k x : Int) (h : ¬ OkF P M) (w : World) (hL : Lays w) :
    Calls Tryd.prog 31 #[.agg #[.int .i64 P, .int .i64 M], .int .i64 k, .int .i64 x] w fun e w' => e = Ret2 0 1 ∧ Below w.heap.size w w' := by
  have HV := Lib.hid (fun o => valid_no P M _ (hL.below (below1 w o)) h)
  have H := Lib.hid (fun w hL => openRoots_form P M k h w hL)
  have HL := Lib.hid hL
  clear hL h
  go_enter Tryd.func31, Tryd.ntmps31
  go_wp2_with fail
  refine (HV.out _).mono ?_
  rintro e w1 ⟨rfl, hB⟩
  have HB := Lib.hid ((below1 w _).trans (hB.mono (below1 w _).size))
  have hc0 : w1.cell? ⟨w.heap.size, 0, none⟩ = some (.int .i64 P) := (hB.cell (by simp)).trans (by simp)
  have hc1 : w1.cell? ⟨w.heap.size, 1, none⟩ = some (.int .i64 M) := (hB.cell (by simp)).trans (by simp)
  have HL1 := Lib.hid (HL.out.below HB.out)
  clear hB
  go_wp2_with fail
  refine (H.out _ HL1.out).mono ?_
  rintro e w2 ⟨rfl, hB⟩
  have HB2 := Lib.hid (HB.out.trans (hB.mono HB.out.size))
  clear hB hc0 hc1
  go_wp2_with fail
  go_ret2
  exact ⟨rfl, HB2.out⟩
set_option maxHeartbeats 400000 in
theorem Root_bad_p (q : Nat) (hf : Fld q 1 q) (k : Int) (w : World) (hL : Lays w) (hk : k < 1 ∨ ¬ ((q : Int) - 1) % k = 0) :
    Calls Tryd.prog 30 #[.agg #[.int .i64 (q : Int), .int .i64 1], .int .i64 k] w (RootBad k w) := by
  have H := Lib.hid (fun o => openRoots_p q hf k _ (hL.below (below1 w o)))
  have HK := Lib.hid hk
  clear hL hf hk
  go_enter Tryd.func30, Tryd.ntmps30
  go_wp2_with fail
  refine (H.out _).mono ?_
  rintro e w1 ⟨hB, ⟨hO, rfl⟩ | ⟨hO, rfl⟩ | ⟨hO, rfl⟩⟩
  case inr.inr =>
    rcases HK.out with h | h
    · have := hO.1; omega
    · exact absurd hO.2 h
  · have HB := Lib.hid ((below1 w _).trans (hB.mono (below1 w _).size))
    have hi : (if k < 1 then 2 else 6 : Int) = 2 := if_pos hO
    have HI := Lib.hid hi
    clear hB hO hi
    go_wp2_with fail
    go_ret2
    exact ⟨HB.out, by rw [HI.out]; rfl⟩
  · have HB := Lib.hid ((below1 w _).trans (hB.mono (below1 w _).size))
    have hi : (if k < 1 then 2 else 6 : Int) = 6 := if_neg (by have := hO.1; omega)
    have HI := Lib.hid hi
    clear hB hO hi
    go_wp2_with fail
    go_ret2
    exact ⟨HB.out, by rw [HI.out]; rfl⟩

set_option maxHeartbeats 1000000 in
theorem Root_ok_p (q : Nat) (hf : Fld q 1 q) (k : Nat) (hk1 : 1 ≤ k) (hk : (q - 1) % k = 0) (w : World) (hL : Lays w) :
    Calls Tryd.prog 30 #[.agg #[.int .i64 (q : Int), .int .i64 1], .int .i64 k] w (RootIs q 1 q k w) := by
  have hq2 := hf.q_ge
  have hq3 := hf.q_le
  have hkq : k ≤ 65536 := by have := Nat.le_of_dvd (by omega) (Nat.dvd_of_mod_eq_zero hk); omega
  have hki : ((q : Int) - 1) % (k : Int) = 0 := by
    have : ((q : Int) - 1) = ((q - 1 : Nat) : Int) := by omega
    rw [this, ← Int.natCast_emod, hk]; rfl
  have HKI := Lib.hid hki
  have H := Lib.hid (fun o => openRoots_p q hf k _ (hL.below (below1 w o)))
  have HM := Lib.hid (fun w => p_order q w)
  have HIR := Lib.hid (fun r (hr : r < q) A c ds hp hl w hL hrd => isRoot_p q hf r k hr hk1 hkq A c ds hp hl w hL hrd)
  have hmm := m_order_p q
  have HL := Lib.hid hL
  clear hL hf hki hk
  go_enter Tryd.func30, Tryd.ntmps30
  go_wp2_with fail
  refine (H.out _).mono ?_
  rintro e w1 ⟨hB, ⟨hO, rfl⟩ | ⟨hO, rfl⟩ | ⟨hO, rfl⟩⟩
  · omega
  · exact absurd HKI.out hO.2
  have HB := Lib.hid ((below1 w _).trans (hB.mono (below1 w _).size))
  clear hB hO H
  go_wp2_with fail
  refine (divs_any k hk1 hkq _).mono ?_
  rintro e w2 ⟨v, ds, rfl, hp, hl, hown, hB⟩
  obtain ⟨A, c, rfl, hrd⟩ := rdf_of_owns hown
  have HB2 := Lib.hid (HB.out.trans (hB.mono HB.out.size))
  have HP := Lib.hid hp
  have HRD := Lib.hid hrd
  have HL2 := Lib.hid (HL.out.below HB2.out)
  clear hB hown hp hrd HB
  go_wp2_with fail
  go_loop [9] (fun u => ∃ r : Nat, 1 ≤ r ∧ r ≤ q ∧ u = .int .i64 r ∧ Hid (NoRt q 1 k r)) (fun u => q - (intOf u).toNat)
  case atStart => exact ⟨1, by omega, by omega, rfl, fun s h1 h2 => by omega⟩
  case round =>
    obtain ⟨r, hr1, hr2, rfl, HN⟩ := hrel
    go_wp2_with fail
    refine (HM.out _).mono ?_
    rintro e w3 ⟨rfl, rfl⟩
    by_cases hlt : r < q
    · go_wp2_with fail
      refine (HIR.out r hlt A c ds HP.out hl _ HL2.out HRD.out).mono ?_
      rintro e w3 ⟨b, rfl, hb, rfl⟩
      have HBB := Lib.hid hb
      clear hb
      cases b
      · go_wp2_with fail
        go_round
        case rel => exact ⟨r + 1, by omega, by omega, by go_num, HN.out.succ (fun h => by have := HBB.out.2 h; cases this)⟩
        case measure => simp [intOf]; omega
      · go_wp2_with fail
        go_ret2
        exact ⟨HB2.out, .inl ⟨r, hr1, hlt, HBB.out.1 (by simp), HN.out, rfl⟩⟩
    · go_wp2_with fail
      go_ret2
      have hrq : r = q := by omega
      exact ⟨HB2.out, .inr ⟨fun s h1 h2 => HN.out s h1 (by omega), rfl⟩⟩

set_option maxHeartbeats 400000 in
theorem Sum_neg_p (q : Nat) (hf : Fld q 1 q) (k x : Int) (hx : x < 0) (w : World) (hL : Lays w) :
    Calls Tryd.prog 31 #[.agg #[.int .i64 (q : Int), .int .i64 1], .int .i64 k, .int .i64 x] w fun e w' => e = Ret2 0 2 ∧ Below w.heap.size w w' := by
  have HV := Lib.hid (fun o => valid_yes (q : Int) 1 _ (hL.below (below1 w o)) hf.ok)
  clear hL hf
  go_enter Tryd.func31, Tryd.ntmps31
  go_wp2_with fail
  refine (HV.out _).mono ?_
  rintro e w1 ⟨rfl, hB⟩
  have HB := Lib.hid ((below1 w _).trans (hB.mono (below1 w _).size))
  clear hB
  go_wp2_with fail
  go_ret2
  exact ⟨rfl, HB.out⟩
def SumIs_p (q : Nat) (p k x : Int) (w : World) (e : Ending) (w' : World) : Prop := Below w.heap.size w w' ∧
  (k < 1 ∧ e = Ret2 0 2 ∨ (1 ≤ k ∧ ¬ ((q : Int) - 1) % k = 0) ∧ e = Ret2 0 6 ∨ (1 ≤ k ∧ ((q : Int) - 1) % k = 0) ∧ (¬ x % k = 0 ∧ e = Ret2 0 0 ∨ x % k = 0 ∧ e = Ret2 (k % p) 0))
set_option maxHeartbeats 1000000 in
theorem Sum_all_p (q : Nat) (hf : Fld q 1 q) (k x : Int) (hx : 0 ≤ x) (hx2 : x ≤ 9223372036854775807) (w : World) (hL : Lays w) :
    Calls Tryd.prog 31 #[.agg #[.int .i64 (q : Int), .int .i64 1], .int .i64 k, .int .i64 x] w (SumIs_p q (q : Int) k x w) := by
  have HV := Lib.hid (fun o => valid_yes (q : Int) 1 _ (hL.below (below1 w o)) hf.ok)
  have H := Lib.hid (fun w hL => openRoots_p q hf k w hL)
  have HL := Lib.hid hL
  have hq2 := hf.q_ge
  have hq3 := hf.q_le
  clear hL hf
  go_enter Tryd.func31, Tryd.ntmps31
  go_wp2_with fail
  refine (HV.out _).mono ?_
  rintro e w1 ⟨rfl, hB⟩
  have HB := Lib.hid ((below1 w _).trans (hB.mono (below1 w _).size))
  have hc0 : w1.cell? ⟨w.heap.size, 0, none⟩ = some (.int .i64 (q : Int)) := (hB.cell (by simp)).trans (by simp)
  have hc1 : w1.cell? ⟨w.heap.size, 1, none⟩ = some (.int .i64 1) := (hB.cell (by simp)).trans (by simp)
  have hs1 := hB.size
  simp at hs1
  have HL1 := Lib.hid (HL.out.below HB.out)
  clear hB
  go_wp2_with fail
  refine (H.out _ HL1.out).mono ?_
  rintro e w2 ⟨hB, ⟨hO, rfl⟩ | ⟨hO, rfl⟩ | ⟨hO, rfl⟩⟩
  · have HB2 := Lib.hid (HB.out.trans (hB.mono HB.out.size))
    clear hB hc0 hc1
    go_wp2_with fail
    go_ret2
    exact ⟨HB2.out, .inl ⟨by omega, rfl⟩⟩
  · have HB2 := Lib.hid (HB.out.trans (hB.mono HB.out.size))
    have HO := Lib.hid hO
    clear hB hc0 hc1 hO
    go_wp2_with fail
    go_ret2
    exact ⟨HB2.out, .inr (.inl ⟨HO.out, rfl⟩)⟩
  · have HB2 := Lib.hid (HB.out.trans (hB.mono HB.out.size))
    have HO := Lib.hid hO
    have hk1 := hO.1
    have hk2 : k ≤ 65536 := by have := Int.le_of_dvd (by omega) (Int.dvd_of_emod_eq_zero hO.2); omega
    have d0 : w2.cell? ⟨w.heap.size, 0, none⟩ = some (.int .i64 (q : Int)) := (hB.cell (p := ⟨w.heap.size, 0, none⟩) (by show w.heap.size < w1.heap.size; omega)).trans hc0
    clear hB hc0 hc1 hO
    by_cases hxk : x % k = 0
    · go_wp2_with fail
      go_ret2
      exact ⟨HB2.out, .inr (.inr ⟨HO.out, .inr ⟨hxk, rfl⟩⟩)⟩
    · go_wp2_with fail
      go_ret2
      exact ⟨HB2.out, .inr (.inr ⟨HO.out, .inl ⟨hxk, rfl⟩⟩)⟩
set_option maxHeartbeats 400000 in
theorem Root_bad_q (M q : Nat) (hM : 2 ≤ M) (hf : Fld 2 M q) (k : Int) (w : World) (hL : Lays w) (hk : k < 1 ∨ ¬ ((q : Int) - 1) % k = 0) :
    Calls Tryd.prog 30 #[.agg #[.int .i64 2, .int .i64 (M : Int)], .int .i64 k] w (RootBad k w) := by
  have H := Lib.hid (fun o => openRoots_q M q hM hf k _ (hL.below (below1 w o)))
  have HK := Lib.hid hk
  clear hL hf hk
  go_enter Tryd.func30, Tryd.ntmps30
  go_wp2_with fail
  refine (H.out _).mono ?_
  rintro e w1 ⟨hB, ⟨hO, rfl⟩ | ⟨hO, rfl⟩ | ⟨hO, rfl⟩⟩
  case inr.inr =>
    rcases HK.out with h | h
    · have := hO.1; omega
    · exact absurd hO.2 h
  · have HB := Lib.hid ((below1 w _).trans (hB.mono (below1 w _).size))
    have hi : (if k < 1 then 2 else 6 : Int) = 2 := if_pos hO
    have HI := Lib.hid hi
    clear hB hO hi
    go_wp2_with fail
    go_ret2
    exact ⟨HB.out, by rw [HI.out]; rfl⟩
  · have HB := Lib.hid ((below1 w _).trans (hB.mono (below1 w _).size))
    have hi : (if k < 1 then 2 else 6 : Int) = 6 := if_neg (by have := hO.1; omega)
    have HI := Lib.hid hi
    clear hB hO hi
    go_wp2_with fail
    go_ret2
    exact ⟨HB.out, by rw [HI.out]; rfl⟩

set_option maxHeartbeats 1000000 in
theorem Root_ok_q (M q : Nat) (hM : 2 ≤ M) (hf : Fld 2 M q) (k : Nat) (hk1 : 1 ≤ k) (hk : (q - 1) % k = 0) (w : World) (hL : Lays w) :
    Calls Tryd.prog 30 #[.agg #[.int .i64 2, .int .i64 (M : Int)], .int .i64 k] w (RootIs 2 M q k w) := by
  have hq2 := hf.q_ge
  have hq3 := hf.q_le
  have hkq : k ≤ 65536 := by have := Nat.le_of_dvd (by omega) (Nat.dvd_of_mod_eq_zero hk); omega
  have hki : ((q : Int) - 1) % (k : Int) = 0 := by
    have : ((q : Int) - 1) = ((q - 1 : Nat) : Int) := by omega
    rw [this, ← Int.natCast_emod, hk]; rfl
  have HKI := Lib.hid hki
  have H := Lib.hid (fun o => openRoots_q M q hM hf k _ (hL.below (below1 w o)))
  have HM := Lib.hid (fun w => q_order M q hf.m_le (hf.q_eq hM) w)
  have HIR := Lib.hid (fun r (hr : r < q) A c ds hp hl w hL hrd => isRoot_q M q hM hf r k hr hk1 hkq A c ds hp hl w hL hrd)
  have hmm := m_order_q M
  have HL := Lib.hid hL
  clear hL hf hki hk
  go_enter Tryd.func30, Tryd.ntmps30
  go_wp2_with fail
  refine (H.out _).mono ?_
  rintro e w1 ⟨hB, ⟨hO, rfl⟩ | ⟨hO, rfl⟩ | ⟨hO, rfl⟩⟩
  · omega
  · exact absurd HKI.out hO.2
  have HB := Lib.hid ((below1 w _).trans (hB.mono (below1 w _).size))
  clear hB hO H
  go_wp2_with fail
  refine (divs_any k hk1 hkq _).mono ?_
  rintro e w2 ⟨v, ds, rfl, hp, hl, hown, hB⟩
  obtain ⟨A, c, rfl, hrd⟩ := rdf_of_owns hown
  have HB2 := Lib.hid (HB.out.trans (hB.mono HB.out.size))
  have HP := Lib.hid hp
  have HRD := Lib.hid hrd
  have HL2 := Lib.hid (HL.out.below HB2.out)
  clear hB hown hp hrd HB
  go_wp2_with fail
  go_loop [9] (fun u => ∃ r : Nat, 1 ≤ r ∧ r ≤ q ∧ u = .int .i64 r ∧ Hid (NoRt 2 M k r)) (fun u => q - (intOf u).toNat)
  case atStart => exact ⟨1, by omega, by omega, rfl, fun s h1 h2 => by omega⟩
  case round =>
    obtain ⟨r, hr1, hr2, rfl, HN⟩ := hrel
    go_wp2_with fail
    refine (HM.out _).mono ?_
    rintro e w3 ⟨rfl, rfl⟩
    by_cases hlt : r < q
    · go_wp2_with fail
      refine (HIR.out r hlt A c ds HP.out hl _ HL2.out HRD.out).mono ?_
      rintro e w3 ⟨b, rfl, hb, rfl⟩
      have HBB := Lib.hid hb
      clear hb
      cases b
      · go_wp2_with fail
        go_round
        case rel => exact ⟨r + 1, by omega, by omega, by go_num, HN.out.succ (fun h => by have := HBB.out.2 h; cases this)⟩
        case measure => simp [intOf]; omega
      · go_wp2_with fail
        go_ret2
        exact ⟨HB2.out, .inl ⟨r, hr1, hlt, HBB.out.1 (by simp), HN.out, rfl⟩⟩
    · go_wp2_with fail
      go_ret2
      have hrq : r = q := by omega
      exact ⟨HB2.out, .inr ⟨fun s h1 h2 => HN.out s h1 (by omega), rfl⟩⟩

set_option maxHeartbeats 400000 in
theorem Sum_neg_q (M q : Nat) (hM : 2 ≤ M) (hf : Fld 2 M q) (k x : Int) (hx : x < 0) (w : World) (hL : Lays w) :
    Calls Tryd.prog 31 #[.agg #[.int .i64 2, .int .i64 (M : Int)], .int .i64 k, .int .i64 x] w fun e w' => e = Ret2 0 2 ∧ Below w.heap.size w w' := by
  have HV := Lib.hid (fun o => valid_yes 2 (M : Int) _ (hL.below (below1 w o)) hf.ok)
  clear hL hf
  go_enter Tryd.func31, Tryd.ntmps31
  go_wp2_with fail
  refine (HV.out _).mono ?_
  rintro e w1 ⟨rfl, hB⟩
  have HB := Lib.hid ((below1 w _).trans (hB.mono (below1 w _).size))
  clear hB
  go_wp2_with fail
  go_ret2
  exact ⟨rfl, HB.out⟩
def SumIs_q (q : Nat) (p k x : Int) (w : World) (e : Ending) (w' : World) : Prop := Below w.heap.size w w' ∧
  (k < 1 ∧ e = Ret2 0 2 ∨ (1 ≤ k ∧ ¬ ((q : Int) - 1) % k = 0) ∧ e = Ret2 0 6 ∨ (1 ≤ k ∧ ((q : Int) - 1) % k = 0) ∧ (¬ x % k = 0 ∧ e = Ret2 0 0 ∨ x % k = 0 ∧ e = Ret2 (k % p) 0))
set_option maxHeartbeats 1000000 in
theorem Sum_all_q (M q : Nat) (hM : 2 ≤ M) (hf : Fld 2 M q) (k x : Int) (hx : 0 ≤ x) (hx2 : x ≤ 9223372036854775807) (w : World) (hL : Lays w) :
    Calls Tryd.prog 31 #[.agg #[.int .i64 2, .int .i64 (M : Int)], .int .i64 k, .int .i64 x] w (SumIs_q q 2 k x w) := by
  have HV := Lib.hid (fun o => valid_yes 2 (M : Int) _ (hL.below (below1 w o)) hf.ok)
  have H := Lib.hid (fun w hL => openRoots_q M q hM hf k w hL)
  have HL := Lib.hid hL
  have hq2 := hf.q_ge
  have hq3 := hf.q_le
  clear hL hf
  go_enter Tryd.func31, Tryd.ntmps31
  go_wp2_with fail
  refine (HV.out _).mono ?_
  rintro e w1 ⟨rfl, hB⟩
  have HB := Lib.hid ((below1 w _).trans (hB.mono (below1 w _).size))
  have hc0 : w1.cell? ⟨w.heap.size, 0, none⟩ = some (.int .i64 2) := (hB.cell (by simp)).trans (by simp)
  have hc1 : w1.cell? ⟨w.heap.size, 1, none⟩ = some (.int .i64 (M : Int)) := (hB.cell (by simp)).trans (by simp)
  have hs1 := hB.size
  simp at hs1
  have HL1 := Lib.hid (HL.out.below HB.out)
  clear hB
  go_wp2_with fail
  refine (H.out _ HL1.out).mono ?_
  rintro e w2 ⟨hB, ⟨hO, rfl⟩ | ⟨hO, rfl⟩ | ⟨hO, rfl⟩⟩
  · have HB2 := Lib.hid (HB.out.trans (hB.mono HB.out.size))
    clear hB hc0 hc1
    go_wp2_with fail
    go_ret2
    exact ⟨HB2.out, .inl ⟨by omega, rfl⟩⟩
  · have HB2 := Lib.hid (HB.out.trans (hB.mono HB.out.size))
    have HO := Lib.hid hO
    clear hB hc0 hc1 hO
    go_wp2_with fail
    go_ret2
    exact ⟨HB2.out, .inr (.inl ⟨HO.out, rfl⟩)⟩
  · have HB2 := Lib.hid (HB.out.trans (hB.mono HB.out.size))
    have HO := Lib.hid hO
    have hk1 := hO.1
    have hk2 : k ≤ 65536 := by have := Int.le_of_dvd (by omega) (Int.dvd_of_emod_eq_zero hO.2); omega
    have d0 : w2.cell? ⟨w.heap.size, 0, none⟩ = some (.int .i64 2) := (hB.cell (p := ⟨w.heap.size, 0, none⟩) (by show w.heap.size < w1.heap.size; omega)).trans hc0
    clear hB hc0 hc1 hO
    by_cases hxk : x % k = 0
    · go_wp2_with fail
      go_ret2
      exact ⟨HB2.out, .inr (.inr ⟨HO.out, .inr ⟨hxk, rfl⟩⟩)⟩
    · go_wp2_with fail
      go_ret2
      exact ⟨HB2.out, .inr (.inr ⟨HO.out, .inl ⟨hxk, rfl⟩⟩)⟩
end Go.Proofs.YtfkeemhbehhclaaDoor
