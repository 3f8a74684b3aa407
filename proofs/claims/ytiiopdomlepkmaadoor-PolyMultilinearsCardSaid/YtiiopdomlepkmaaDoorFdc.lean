/-
  Contracts of isPrime, Valid, operationsOf and open of package field: which fields are valid, and which operations belong to them.
-/
import Derived.Test.YtiiopdomlepkmaaDoorFdb
namespace Go.Proofs.YtiiopdomlepkmaaDoor
open Go.RowKit

def PrimeIs (n : Nat) (w : World) (e : Ending) (w' : World) : Prop := ∃ b : Bool, e = .returned (.bool b) ∧ (b = true ↔ Pr n) ∧ w = w'

def NoneUpto (n k : Nat) : Prop := ∀ j, j < k → ∀ p, smallP[j]? = some p → p * p ≤ n ∧ n % p ≠ 0

theorem smallP_at {k : Nat} (h : k < 54) : ∃ p, smallP[k]? = some p ∧ 2 ≤ p ∧ p ≤ 251 := by
  have hl : k < smallP.length := by show k < 54; exact h
  have hb := smallP_bd _ (List.getElem_mem hl)
  exact ⟨smallP[k], List.getElem?_eq_getElem hl, hb⟩

theorem NoneUpto.succ {n k p : Nat} (h : NoneUpto n k) (hp : smallP[k]? = some p) (h1 : p * p ≤ n) (h2 : n % p ≠ 0) : NoneUpto n (k + 1) := by
  intro j hj r hr
  rcases Nat.lt_or_ge j k with hlt | hge
  · exact h j hlt r hr
  · have : j = k := by omega
    subst this
    rw [hp] at hr
    cases hr
    exact ⟨h1, h2⟩

theorem smallP_mono : ∀ i, i < 54 → ∀ j, j < 54 → i ≤ j → smallP[i]?.getD 0 ≤ smallP[j]?.getD 0 := by decide +kernel

theorem NoneUpto.prime {n k p : Nat} (h2 : 2 ≤ n) (hm : n ≤ 65536) (hk : k < 54) (h : NoneUpto n k) (hp : smallP[k]? = some p) (hlt : n < p * p) : Pr n := by
  refine pr_of_none h2 hm fun r hr hrr => ?_
  obtain ⟨j, hj, rfl⟩ := List.getElem_of_mem hr
  have hj54 : j < 54 := hj
  rcases Nat.lt_or_ge j k with hlt2 | hge
  · exact (h j hlt2 _ (List.getElem?_eq_getElem hj)).2
  · exfalso
    have := smallP_mono k hk j hj54 hge
    rw [hp, List.getElem?_eq_getElem hj] at this
    simp only [Option.getD_some] at this
    have := Nat.mul_le_mul this this
    omega

theorem NoneUpto.all {n : Nat} (h2 : 2 ≤ n) (hm : n ≤ 65536) (h : NoneUpto n 54) : Pr n := by
  refine pr_of_none h2 hm fun r hr _ => ?_
  obtain ⟨j, hj, rfl⟩ := List.getElem_of_mem hr
  exact (h j hj _ (List.getElem?_eq_getElem hj)).2

set_option maxHeartbeats 400000 in
theorem isPrime_in (n : Nat) (w : World) (hL : Lays w) (h2 : 2 ≤ n) (hm : n ≤ 65536) :
    Calls Tryd.prog 65 #[.int .i64 n] w (PrimeIs n w) := by
  obtain ⟨_, a, cap, hcap, hc, hcells⟩ := hL
  have HC := Lib.hid hcells
  clear hcells
  go_enter Tryd.func65, Tryd.ntmps65
  go_wp2
  go_loop [4, 13] (fun _ i => ∃ k : Nat, k ≤ 54 ∧ i = .int .i64 k ∧ NoneUpto n k) (fun _ i => 54 - (intOf i).toNat)
  case atStart => exact ⟨0, by omega, rfl, fun j hj => by omega⟩
  case round =>
    obtain ⟨k, hk, rfl, hn⟩ := hrel
    have HN := Lib.hid hn
    clear hn
    by_cases hlt : k < 54
    · obtain ⟨p, hp, hp2, hp3⟩ := smallP_at hlt
      have hcell := HC.out k hlt
      rw [hp] at hcell
      have hcell : w.cell? (a.add k) = some (.int .u32 (p : Int)) := hcell
      have HP := Lib.hid hp
      clear hp
      have hpp : p * p ≤ 251 * 251 := Nat.mul_le_mul hp3 hp3
      have hcast : (p : Int) * (p : Int) = ((p * p : Nat) : Int) := by simp
      obtain ⟨r, hr⟩ : ∃ r, r = p * p := ⟨_, rfl⟩
      rw [← hr] at hpp hcast
      have HRR := Lib.hid hr
      clear hr
      by_cases h1 : n < r
      · go_wp2
        go_ret
        exact ⟨true, rfl, ⟨fun _ => HN.out.prime h2 hm hlt HP.out (by rw [← HRR.out]; exact h1), fun _ => rfl⟩, rfl⟩
      · by_cases h3 : n % p = 0
        · go_wp2
          go_ret
          exact ⟨false, rfl, ⟨(fun h => by cases h), fun h => absurd h (not_pr hp2 (by rw [← HRR.out]; omega) h3)⟩, rfl⟩
        · go_wp2
          go_round
          case rel => exact ⟨k + 1, by omega, by go_num, HN.out.succ HP.out (by rw [← HRR.out]; omega) h3⟩
          case measure => simp [intOf]; omega
    · have hk54 : k = 54 := by omega
      subst hk54
      go_wp2
      go_ret
      exact ⟨true, rfl, ⟨fun _ => HN.out.all h2 hm, fun _ => rfl⟩, rfl⟩

def OkF (P M : Int) : Prop := (P = 2 ∧ 1 ≤ M ∧ M ≤ 16) ∨ (P ≠ 2 ∧ M = 1 ∧ 2 ≤ P ∧ P ≤ 65536 ∧ Pr P.toNat)

theorem isPrime_yes (n : Nat) (w : World) (hL : Lays w) (hm : n ≤ 65536) (hp : Pr n) :
    Calls Tryd.prog 65 #[.int .i64 n] w fun e w' => e = .returned (.bool true) ∧ w = w' :=
  (isPrime_in n w hL hp.1 hm).mono fun _ _ ⟨_, he, hb, hw⟩ => ⟨by rw [he, hb.2 hp], hw⟩

theorem isPrime_no (n : Int) (w : World) (hL : Lays w) (hp : ¬ (2 ≤ n ∧ n ≤ 65536 ∧ Pr n.toNat)) :
    Calls Tryd.prog 65 #[.int .i64 n] w fun e w' => e = .returned (.bool false) ∧ w = w' := by
  by_cases h : 2 ≤ n ∧ n ≤ 65536
  · obtain ⟨k, rfl⟩ : ∃ k : Nat, n = k := ⟨n.toNat, by omega⟩
    refine (isPrime_in k w hL (by omega) (by omega)).mono fun _ _ ⟨b, he, hb, hw⟩ => ⟨?_, hw⟩
    rw [he]
    cases b
    · rfl
    · exact absurd ⟨h.1, h.2, hb.1 rfl⟩ hp
  · clear hp hL
    by_cases h1 : n < 2
    · go_enter Tryd.func65, Tryd.ntmps65
      go_wp2
      go_ret
      exact ⟨rfl, rfl⟩
    · have h2 : 65536 < n := by omega
      clear h
      go_enter Tryd.func65, Tryd.ntmps65
      go_wp2
      go_ret
      exact ⟨rfl, rfl⟩

theorem valid_yes (P M : Int) (w : World) (hL : Lays w) (h : OkF P M) :
    Calls Tryd.prog 44 #[.agg #[.int .i64 P, .int .i64 M]] w fun e w' => e = .returned (.bool true) ∧ Below w.heap.size w w' := by
  rcases h with ⟨rfl, h1, h2⟩ | ⟨h0, rfl, h1, h2, h3⟩
  · clear hL
    go_enter Tryd.func44, Tryd.ntmps44
    go_wp2
    go_ret
    exact ⟨ret_bool (decide_eq_true (by omega)), (Below.refl _ _).alloc (Nat.le_refl _) _⟩
  · obtain ⟨k, rfl⟩ : ∃ k : Nat, P = k := ⟨P.toNat, by omega⟩
    have hL1 := hL.below ((Below.refl w.heap.size w).alloc (Nat.le_refl _) (.cells #[.int .i64 (k : Int), .int .i64 1] 23))
    have HP := Lib.hid (isPrime_yes k _ hL1 (by omega) h3)
    clear hL hL1 h3
    go_enter Tryd.func44, Tryd.ntmps44
    go_wp2_with (go_at_call 65; refine HP.out.mono ?_; rintro e w1 ⟨rfl, rfl⟩)
    go_ret
    exact ⟨rfl, (Below.refl _ _).alloc (Nat.le_refl _) _⟩

theorem valid_no (P M : Int) (w : World) (hL : Lays w) (h : ¬ OkF P M) :
    Calls Tryd.prog 44 #[.agg #[.int .i64 P, .int .i64 M]] w fun e w' => e = .returned (.bool false) ∧ Below w.heap.size w w' := by
  have hL1 := hL.below ((Below.refl w.heap.size w).alloc (Nat.le_refl _) (.cells #[.int .i64 P, .int .i64 M] 23))
  clear hL
  by_cases h0 : P = 2
  · subst h0
    by_cases h1 : 1 ≤ M
    · have h2 : ¬ M ≤ 16 := fun h2 => h (.inl ⟨rfl, h1, h2⟩)
      clear h hL1
      go_enter Tryd.func44, Tryd.ntmps44
      go_wp2
      go_ret
      exact ⟨ret_bool (decide_eq_false (by omega)), (Below.refl _ _).alloc (Nat.le_refl _) _⟩
    · clear h hL1
      go_enter Tryd.func44, Tryd.ntmps44
      go_wp2
      go_ret
      exact ⟨rfl, (Below.refl _ _).alloc (Nat.le_refl _) _⟩
  · by_cases h1 : M = 1
    · have HP := Lib.hid (isPrime_no P _ hL1 fun hp => h (.inr ⟨h0, h1, hp.1, hp.2.1, hp.2.2⟩))
      subst h1
      clear h hL1
      go_enter Tryd.func44, Tryd.ntmps44
      go_wp2_with (go_at_call 65; refine HP.out.mono ?_; rintro e w1 ⟨rfl, rfl⟩)
      go_ret
      exact ⟨rfl, (Below.refl _ _).alloc (Nat.le_refl _) _⟩
    · clear h hL1
      go_enter Tryd.func44, Tryd.ntmps44
      go_wp2
      go_ret
      exact ⟨rfl, (Below.refl _ _).alloc (Nat.le_refl _) _⟩

/-- The operations of a valid field, as a value: numbers below a prime, or polynomials. -/
def opsV (P M : Nat) : Value := if M = 1 then .iface 133 (.int .i64 (P : Int)) else .iface 134 (.int .i64 (M : Int))

theorem opsOf_one (P : Int) (w : World) :
    Calls Tryd.prog 89 #[.agg #[.int .i64 P, .int .i64 1]] w fun e w' => e = .returned (.iface 133 (.int .i64 P)) ∧ Below w.heap.size w w' := by
  go_enter Tryd.func89, Tryd.ntmps89
  go_wp2
  go_ret
  exact ⟨rfl, (Below.refl _ _).alloc (Nat.le_refl _) _⟩
theorem opsOf_more (P M : Int) (hM : M ≠ 1) (w : World) :
    Calls Tryd.prog 89 #[.agg #[.int .i64 P, .int .i64 M]] w fun e w' => e = .returned (.iface 134 (.int .i64 M)) ∧ Below w.heap.size w w' := by
  go_enter Tryd.func89, Tryd.ntmps89
  go_wp2
  go_ret
  exact ⟨rfl, (Below.refl _ _).alloc (Nat.le_refl _) _⟩
end Go.Proofs.YtiiopdomlepkmaaDoor
