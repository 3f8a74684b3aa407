/-
  Joined from Fda, Fdb, Fdc, Fdd, Fde: see there.
-/
import Derived.Test.YtcophfhnhlaonaaGreatDoorRows
import Derived.WalkKit
import Derived.WalkSpells
import Derived.WalkLawsBesides
import Derived.Lib.Hide
import Derived.Deep.QuietTactic
import Derived.BigQuiet
import Derived.RegionTactic
import Derived.Laws.BitsAllLaws
import Derived.Lib.QuoteBits
import Derived.Below
namespace Go.Proofs.YtcophfhnhlaonaaGreatDoor

/-! Prime numbers. -/

def Pr (n : Nat) : Prop := 2 ≤ n ∧ ∀ d, 2 ≤ d → d < n → n % d ≠ 0

def smallP : List Nat := [2, 3, 5, 7, 11, 13, 17, 19, 23, 29, 31, 37, 41, 43, 47, 53, 59, 61, 67, 71, 73, 79, 83, 89, 97, 101, 103, 107, 109, 113, 127, 131, 137, 139, 149, 151, 157, 163, 167, 173, 179, 181, 191, 193, 197, 199, 211, 223, 227, 229, 233, 239, 241, 251]

theorem smallP_cover : ∀ d, d < 257 → 2 ≤ d → smallP.any (fun p => d % p == 0 && decide (p ≤ d)) = true := by decide +kernel
theorem smallP_bd : ∀ p ∈ smallP, 2 ≤ p ∧ p ≤ 251 := by decide +kernel

/-- A number that has a divisor has one of those below it whose square it is not below. -/
theorem small_div {n d : Nat} (hd : 2 ≤ d) (hn : d < n) (h : n % d = 0) (hm : n ≤ 65536) : ∃ p ∈ smallP, p * p ≤ n ∧ n % p = 0 := by
  have key : ∃ e, 2 ≤ e ∧ e * e ≤ n ∧ n % e = 0 := by
    rcases Nat.lt_or_ge n (d * d) with hlt | hge
    · obtain ⟨c, hc⟩ := Nat.dvd_of_mod_eq_zero h
      have hcd : c < d := by
        rw [hc] at hlt
        exact Nat.lt_of_mul_lt_mul_left hlt
      have hc2 : 2 ≤ c := by
        rcases c with _ | _ | c
        · omega
        · omega
        · omega
      refine ⟨c, hc2, ?_, ?_⟩
      · rw [hc]; exact Nat.mul_le_mul_right _ (by omega)
      · rw [hc]; exact Nat.mul_mod_left _ _
    · exact ⟨d, hd, hge, h⟩
  obtain ⟨e, he, hee, hne⟩ := key
  have he2 : e < 257 := by
    rcases Nat.lt_or_ge e 257 with h | h
    · exact h
    · have := Nat.mul_le_mul h h
      omega
  have hc := smallP_cover e he2 he
  rw [List.any_eq_true] at hc
  obtain ⟨p, hp, hpe⟩ := hc
  simp only [Bool.and_eq_true, beq_iff_eq, decide_eq_true_eq] at hpe
  refine ⟨p, hp, Nat.le_trans (Nat.mul_le_mul hpe.2 hpe.2) hee, ?_⟩
  exact Nat.mod_eq_zero_of_dvd (Nat.dvd_trans (Nat.dvd_of_mod_eq_zero hpe.1) (Nat.dvd_of_mod_eq_zero hne))

theorem pr_of_none {n : Nat} (h2 : 2 ≤ n) (hm : n ≤ 65536) (h : ∀ p ∈ smallP, p * p ≤ n → n % p ≠ 0) : Pr n :=
  ⟨h2, fun d hd hdn he => by
    obtain ⟨p, hp, hpp, hpn⟩ := small_div hd hdn he hm
    exact h p hp hpp hpn⟩

theorem not_pr {n p : Nat} (hp : 2 ≤ p) (hpp : p * p ≤ n) (h : n % p = 0) : ¬ Pr n := by
  intro hh
  have : p * 2 ≤ p * p := Nat.mul_le_mul_left _ hp
  exact hh.2 p hp (by omega) h

theorem pr_two : Pr 2 := ⟨by omega, fun d h1 h2 => by omega⟩
theorem not_pr_big : ¬ Pr 65536 := fun h => h.2 2 (by omega) (by omega) rfl

/-! Polynomials over the field of two elements, as numbers. -/

def sred (q m y : Nat) : Nat := if q ≤ y then y ^^^ m else y

def red (q m : Nat) (a : Nat) : Nat :=
  if _h : a = 0 then 0 else sred q m (2 * red q m (a / 2) + a % 2)
termination_by a
decreasing_by omega

theorem red_zero (q m : Nat) : red q m 0 = 0 := by rw [red]; simp
theorem red_step (q m a : Nat) (hq : 0 < q) : red q m a = sred q m (2 * red q m (a / 2) + a % 2) := by
  by_cases h : a = 0
  · subst h
    rw [red_zero]
    unfold sred
    rw [if_neg (by omega)]
  · rw [red]
    simp only [dif_neg h]

theorem two_div (a b : Nat) : (a ^^^ b) / 2 = a / 2 ^^^ b / 2 := Nat.xor_div_two
theorem two_mod (a b : Nat) : (a ^^^ b) % 2 = (a % 2 + b % 2) % 2 := by
  have h : (a ^^^ b) % 2 = (a % 2) ^^^ (b % 2) := Nat.xor_mod_two_pow (n := 1)
  rw [h]
  rcases Nat.mod_two_eq_zero_or_one a with e | e <;> rcases Nat.mod_two_eq_zero_or_one b with f | f <;> rw [e, f] <;> rfl
theorem two_ext {a b : Nat} (h1 : a / 2 = b / 2) (h2 : a % 2 = b % 2) : a = b := by omega
theorem two_xor (a b c d : Nat) (hc : c < 2) (hd : d < 2) : (2 * a + c) ^^^ (2 * b + d) = 2 * (a ^^^ b) + (c + d) % 2 := by
  apply two_ext
  · rw [two_div]
    have e1 : (2 * a + c) / 2 = a := by omega
    have e2 : (2 * b + d) / 2 = b := by omega
    have e3 : (2 * (a ^^^ b) + (c + d) % 2) / 2 = a ^^^ b := by omega
    rw [e1, e2, e3]
  · rw [two_mod]; omega

structure Mod (M q m : Nat) : Prop where
  hq : q = 2 ^ M
  hM : 0 < M
  lo : q ≤ m
  hi : m < 2 * q

section
variable {M q m : Nat}
theorem Mod.pos (h : Mod M q m) : 0 < q := by rw [h.hq]; exact Nat.two_pow_pos _
theorem Mod.even (h : Mod M q m) : ∃ r, q = 2 * r ∧ 0 < r := by
  obtain ⟨k, rfl⟩ : ∃ k, M = k + 1 := ⟨M - 1, by have := h.hM; omega⟩
  exact ⟨2 ^ k, by rw [h.hq, Nat.pow_succ]; omega, Nat.two_pow_pos _⟩

theorem xor_top (M x y : Nat) (hx : 2 ^ M ≤ x) (hx2 : x < 2 * 2 ^ M) (hy : 2 ^ M ≤ y) (hy2 : y < 2 * 2 ^ M) : x ^^^ y < 2 ^ M := by
  have h2 : 2 * 2 ^ M = 2 ^ (M + 1) := by rw [Nat.pow_succ]; omega
  have tb : ∀ z, 2 ^ M ≤ z → z < 2 * 2 ^ M → z.testBit M = true := by
    intro z h1 h3
    rw [Nat.testBit_eq_decide_div_mod_eq]
    have : z / 2 ^ M = 1 := by
      apply Nat.div_eq_of_lt_le
      · omega
      · omega
    rw [this]; rfl
  apply Nat.lt_pow_two_of_testBit
  intro i hi
  rcases Nat.lt_or_ge M i with h | h
  · rw [Nat.testBit_xor, Nat.testBit_lt_two_pow (x := x), Nat.testBit_lt_two_pow (x := y)]
    · rfl
    · exact Nat.lt_of_lt_of_le hy2 (by rw [h2]; exact Nat.pow_le_pow_right (by omega) h)
    · exact Nat.lt_of_lt_of_le hx2 (by rw [h2]; exact Nat.pow_le_pow_right (by omega) h)
  · have : i = M := by omega
    subst this
    rw [Nat.testBit_xor, tb x hx hx2, tb y hy hy2]
    rfl
theorem xor_lo (M x y : Nat) (hx : x < 2 ^ M) (hy : y < 2 ^ M) : x ^^^ y < 2 ^ M := Nat.xor_lt_two_pow hx hy
theorem xor_mid (M x y : Nat) (hx : 2 ^ M ≤ x) (hy : y < 2 ^ M) : 2 ^ M ≤ x ^^^ y := by
  rcases Nat.lt_or_ge (x ^^^ y) (2 ^ M) with h | h
  · exfalso
    have := xor_lo M _ _ h hy
    rw [Nat.xor_assoc, Nat.xor_self, Nat.xor_zero] at this
    omega
  · exact h

theorem Mod.sred_lt (h : Mod M q m) {y : Nat} (hy : y < 2 * q) : sred q m y < q := by
  unfold sred
  have h1 := h.lo
  have h2 := h.hi
  have := h.hq
  subst this
  split
  · exact xor_top M y m (by omega) hy h1 h2
  · omega

theorem Mod.sred_xor (h : Mod M q m) {x y : Nat} (hx : x < 2 * q) (hy : y < 2 * q) : sred q m (x ^^^ y) = sred q m x ^^^ sred q m y := by
  have h1 := h.lo
  have h2 := h.hi
  have := h.hq
  subst this
  unfold sred
  by_cases a : 2 ^ M ≤ x <;> by_cases b : 2 ^ M ≤ y
  · rw [if_neg (by have := xor_top M x y a hx b hy; omega), if_pos a, if_pos b]
    rw [Nat.xor_comm y m, Nat.xor_assoc, ← Nat.xor_assoc m m, Nat.xor_self, Nat.zero_xor]
  · rw [if_pos (xor_mid M x y a (by omega)), if_pos a, if_neg b, Nat.xor_assoc, Nat.xor_comm y m, ← Nat.xor_assoc]
  · rw [if_pos (by rw [Nat.xor_comm]; exact xor_mid M y x b (by omega)), if_neg a, if_pos b, Nat.xor_assoc]
  · rw [if_neg (by have := xor_lo M x y (by omega) (by omega); omega), if_neg a, if_neg b]

theorem Mod.red_lt (h : Mod M q m) (a : Nat) : red q m a < q := by
  induction a using Nat.strongRecOn with
  | ind a ih =>
    rw [red_step _ _ _ h.pos]
    by_cases h0 : a = 0
    · subst h0
      simp only [Nat.zero_div, red_zero, Nat.zero_mod]
      exact h.sred_lt (by have := h.pos; omega)
    · have := ih (a / 2) (by omega)
      exact h.sred_lt (by omega)

theorem Mod.red_xor (h : Mod M q m) (a b : Nat) : red q m (a ^^^ b) = red q m a ^^^ red q m b := by
  induction a using Nat.strongRecOn generalizing b with
  | ind a ih =>
    by_cases h0 : a = 0
    · subst h0
      rw [red_zero, Nat.zero_xor, Nat.zero_xor]
    · rw [red_step _ _ (a ^^^ b) h.pos, red_step _ _ a h.pos, red_step _ _ b h.pos, two_div, ih (a / 2) (by omega), two_mod]
      have h1 := h.red_lt (a / 2)
      have h2 := h.red_lt (b / 2)
      rw [← h.sred_xor (by omega) (by omega), two_xor _ _ _ _ (by omega) (by omega)]

theorem Mod.red_small (h : Mod M q m) {a : Nat} (ha : a < q) : red q m a = a := by
  induction a using Nat.strongRecOn with
  | ind a ih =>
    by_cases h0 : a = 0
    · subst h0; exact red_zero _ _
    · rw [red_step _ _ _ h.pos, ih (a / 2) (by omega) (by omega)]
      have : 2 * (a / 2) + a % 2 = a := by omega
      rw [this]
      unfold sred
      rw [if_neg (by omega)]

theorem Mod.red_idem (h : Mod M q m) (a : Nat) : red q m (red q m a) = red q m a := h.red_small (h.red_lt a)

theorem Mod.red_two (h : Mod M q m) (a : Nat) : red q m (2 * a) = sred q m (2 * red q m a) := by
  rw [red_step _ _ _ h.pos]
  have e1 : 2 * a / 2 = a := by omega
  have e2 : 2 * a % 2 = 0 := by omega
  rw [e1, e2, Nat.add_zero]

theorem Mod.red_mod (h : Mod M q m) : red q m m = 0 := by
  obtain ⟨r, hr, _⟩ := h.even
  have h1 := h.lo
  have h2 := h.hi
  rw [red_step _ _ _ h.pos, h.red_small (by omega)]
  have : 2 * (m / 2) + m % 2 = m := by omega
  rw [this]
  unfold sred
  rw [if_pos h1, Nat.xor_self]

theorem Mod.red_shift (h : Mod M q m) (k : Nat) : red q m (m <<< k) = 0 := by
  induction k with
  | zero => rw [Nat.shiftLeft_zero]; exact h.red_mod
  | succ k ih =>
    rw [Nat.shiftLeft_succ, h.red_two, ih]
    unfold sred
    have := h.pos
    rw [if_neg (by omega)]
end

/-- The product without carries. -/
def clm (a b : Nat) : Nat :=
  if _h : b = 0 then 0 else (if b % 2 = 1 then a else 0) ^^^ clm (2 * a) (b / 2)
termination_by b
decreasing_by omega

/-- The product of the program: reduced at each step. -/
def pm (q m : Nat) (a b : Nat) : Nat :=
  if _h : b = 0 then 0 else (if b % 2 = 1 then a else 0) ^^^ pm q m (sred q m (2 * a)) (b / 2)
termination_by b
decreasing_by omega

theorem clm_zero (a : Nat) : clm a 0 = 0 := by rw [clm]; simp
theorem pm_zero (q m a : Nat) : pm q m a 0 = 0 := by rw [pm]; simp
theorem clm_step (a b : Nat) : clm a b = (if b % 2 = 1 then a else 0) ^^^ clm (2 * a) (b / 2) := by
  by_cases h : b = 0
  · subst h; simp [clm_zero]
  · rw [clm]; simp only [dif_neg h]
theorem pm_step (q m a b : Nat) : pm q m a b = (if b % 2 = 1 then a else 0) ^^^ pm q m (sred q m (2 * a)) (b / 2) := by
  by_cases h : b = 0
  · subst h; simp [pm_zero]
  · rw [pm]; simp only [dif_neg h]

theorem Mod.red_clm {M q m : Nat} (h : Mod M q m) (a b : Nat) : red q m (clm a b) = pm q m (red q m a) b := by
  induction b using Nat.strongRecOn generalizing a with
  | ind b ih =>
    by_cases h0 : b = 0
    · subst h0; rw [clm_zero, pm_zero, red_zero]
    · rw [clm_step, pm_step, h.red_xor, ih (b / 2) (by omega), h.red_two]
      by_cases h1 : b % 2 = 1
      · rw [if_pos h1, if_pos h1]
      · rw [if_neg h1, if_neg h1, red_zero]

theorem Mod.pm_lt {M q m : Nat} (h : Mod M q m) {a : Nat} (b : Nat) (ha : a < q) : pm q m a b < q := by
  rw [← h.red_small ha, ← h.red_clm]
  exact h.red_lt _

theorem Mod.xor_lt {M q m : Nat} (h : Mod M q m) {a b : Nat} (ha : a < q) (hb : b < q) : a ^^^ b < q := by
  have := h.hq
  subst this
  exact Nat.xor_lt_two_pow ha hb
theorem sred_hi {q m y : Nat} (h : q ≤ y) : sred q m y = y ^^^ m := if_pos h
theorem sred_lo {q m y : Nat} (h : ¬ q ≤ y) : sred q m y = y := if_neg h
theorem pm_odd {q m x y z t : Nat} (h : y % 2 = 1) (hr : z ^^^ pm q m x y = t) : z ^^^ x ^^^ pm q m (sred q m (2 * x)) (y / 2) = t := by
  rw [pm_step, if_pos h, ← Nat.xor_assoc] at hr
  exact hr
theorem pm_even {q m x y z t : Nat} (h : ¬ y % 2 = 1) (hr : z ^^^ pm q m x y = t) : z ^^^ pm q m (sred q m (2 * x)) (y / 2) = t := by
  rw [pm_step, if_neg h, Nat.zero_xor] at hr
  exact hr

/-! Remainders, as the reference computes them. -/

def blen (a : Nat) : Nat := if a = 0 then 0 else Nat.log2 a + 1

def restF : Nat → Nat → Nat → Nat
  | 0, a, _ => a
  | f + 1, a, b => if blen a < blen b then a else restF f (a ^^^ b <<< (blen a - blen b)) b

theorem blen_le {a k : Nat} : blen a ≤ k ↔ a < 2 ^ k := by
  unfold blen
  split
  · rename_i h; subst h; simp [Nat.two_pow_pos]
  · rename_i h
    rw [← Nat.log2_lt h]; omega
theorem blen_half (a : Nat) (h : 0 < a) : blen a = blen (a / 2) + 1 := by
  have h1 : ∀ k, blen a ≤ k + 1 ↔ blen (a / 2) ≤ k := by
    intro k
    rw [blen_le, blen_le, Nat.pow_succ]; omega
  have h0 : ¬ blen a ≤ 0 := by rw [blen_le]; simp; omega
  have := (h1 (blen (a / 2))).2 (Nat.le_refl _)
  have h2 : ¬ (blen a ≤ blen (a / 2)) := by
    intro hh
    by_cases hz : blen (a / 2) = 0
    · omega
    · have := (h1 (blen (a / 2) - 1)).1 (by omega)
      omega
  omega
theorem blen_bd {a : Nat} (h : 0 < a) : 2 ^ (blen a - 1) ≤ a ∧ a < 2 * 2 ^ (blen a - 1) := by
  have h0 : ¬ blen a ≤ 0 := by rw [blen_le]; simp; omega
  have h1 : ¬ blen a ≤ blen a - 1 := by omega
  rw [blen_le] at h1
  have h2 := (blen_le (a := a) (k := blen a - 1 + 1)).1 (by omega)
  rw [Nat.pow_succ] at h2
  omega
theorem blen_shift {b : Nat} (h : 0 < b) (k : Nat) : blen (b <<< k) = blen b + k := by
  induction k with
  | zero => rfl
  | succ k ih =>
    rw [Nat.shiftLeft_succ, blen_half _ (by have : 0 < b <<< k := by rw [Nat.shiftLeft_eq]; exact Nat.mul_pos h (Nat.two_pow_pos _)
                                            omega)]
    have : 2 * b <<< k / 2 = b <<< k := by omega
    rw [this, ih]; omega

theorem blen_step {a b : Nat} (hb : 0 < b) (h : blen b ≤ blen a) : blen (a ^^^ b <<< (blen a - blen b)) < blen a := by
  have h0 : ¬ blen b ≤ 0 := by rw [blen_le]; simp; omega
  have ha : 0 < a := by
    rcases Nat.eq_zero_or_pos a with e | e
    · subst e; exfalso; unfold blen at h; rw [if_pos rfl] at h; unfold blen at h0; omega
    · exact e
  have hs := blen_shift hb (blen a - blen b)
  have hsp : 0 < b <<< (blen a - blen b) := by rw [Nat.shiftLeft_eq]; exact Nat.mul_pos hb (Nat.two_pow_pos _)
  have h1 := blen_bd ha
  have h2 := blen_bd hsp
  rw [hs] at h2
  have e : blen b + (blen a - blen b) - 1 = blen a - 1 := by omega
  rw [e] at h2
  have h3 := xor_top (blen a - 1) _ _ h1.1 h1.2 h2.1 h2.2
  have := blen_le.2 h3
  omega

theorem rest_enough {b : Nat} (hb : 0 < b) (f : Nat) : ∀ a, blen a ≤ f → ∀ g, blen a ≤ g → restF f a b = restF g a b := by
  have h0 : ¬ blen b ≤ 0 := by rw [blen_le]; simp; omega
  induction f with
  | zero =>
    intro a ha g _
    cases g with
    | zero => rfl
    | succ g => rw [restF, restF, if_pos (by omega)]
  | succ f ih =>
    intro a ha g hg
    cases g with
    | zero => rw [restF, restF, if_pos (by omega)]
    | succ g =>
      rw [restF, restF]
      split
      · rfl
      · rename_i h
        have := blen_step hb (Nat.le_of_not_lt h)
        exact ih _ (by omega) _ (by omega)

def restN (a b : Nat) : Nat := restF 64 a b
theorem restN_done {a b : Nat} (h : blen a < blen b) : restN a b = a := by
  show restF (63 + 1) a b = a
  rw [restF, if_pos h]
theorem restN_step {a b : Nat} (hb : 0 < b) (h : blen b ≤ blen a) (ha : blen a ≤ 64) : restN a b = restN (a ^^^ b <<< (blen a - blen b)) b := by
  have := blen_step hb h
  show restF (63 + 1) a b = _
  rw [restF, if_neg (by omega)]
  exact rest_enough hb _ _ (by omega) _ (by omega)

theorem Mod.blen_m {M q m : Nat} (h : Mod M q m) : blen m = M + 1 := by
  have h1 := h.lo
  have h2 := h.hi
  have := h.hq
  subst this
  have a1 := (blen_le (a := m) (k := M + 1)).2 (by rw [Nat.pow_succ]; omega)
  have a2 : ¬ blen m ≤ M := by rw [blen_le]; omega
  omega

theorem Mod.restF_red {M q m : Nat} (h : Mod M q m) (f : Nat) : ∀ a, blen a ≤ f → restF f a m = red q m a := by
  have hm : 0 < m := by have := h.pos; have := h.lo; omega
  induction f with
  | zero =>
    intro a ha
    have := (blen_le (a := a) (k := 0)).1 ha
    have : a = 0 := by simpa using this
    subst this
    rw [restF, red_zero]
  | succ f ih =>
    intro a ha
    rw [restF]
    split
    · rename_i hlt
      rw [h.red_small]
      rw [h.blen_m] at hlt
      rw [h.hq]
      exact blen_le.1 (by omega)
    · rename_i hlt
      have := blen_step hm (Nat.le_of_not_lt hlt)
      rw [ih _ (by omega), h.red_xor, h.red_shift, Nat.xor_zero]
theorem Mod.rest_red {M q m : Nat} (h : Mod M q m) {a : Nat} (ha : blen a ≤ 64) : restN a m = red q m a := h.restF_red 64 a ha

/-! The moduli. -/

def modT : List Nat := [0, 0, 7, 11, 19, 37, 67, 131, 283, 515, 1033, 2053, 4105, 8219, 16417, 32771, 65579]
def modN (M : Nat) : Nat := modT[M]?.getD 0

theorem modN_mod : ∀ M, M < 17 → 2 ≤ M → 2 ^ M ≤ modN M ∧ modN M < 2 * 2 ^ M := by decide +kernel
theorem mod_at {M : Nat} (h2 : 2 ≤ M) (h : M ≤ 16) : Mod M (2 ^ M) (modN M) := ⟨rfl, by omega, (modN_mod M (by omega) h2).1, (modN_mod M (by omega) h2).2⟩

/-- Whether no polynomial of degree 1 to half of M divides a. -/
def irrUpto (a b : Nat) : Bool := (List.range b).all (fun c => decide (c < 2) || restN a c != 0)
/-- The bound of the divisors that the reference tries: 2 * degree ≤ M. -/
def divB (M : Nat) : Nat := 2 ^ (M / 2 + 1)

theorem mod_irr : ∀ M, M < 17 → 2 ≤ M → irrUpto (modN M) (divB M) = true := by decide +kernel
theorem mod_least : ∀ M, M < 17 → 2 ≤ M → (List.range (modN M - 2 ^ M)).all (fun i => !irrUpto (2 ^ M + i) (divB M)) = true := by decide +kernel
end Go.Proofs.YtcophfhnhlaonaaGreatDoor
namespace Go.Proofs.YtcophfhnhlaonaaGreatDoor
open Go.RowKit

theorem ret_int {k : IntKind} {a b : Int} (h : a = b) : Ending.returned (.int k a) = .returned (.int k b) := by rw [h]
theorem int_val {k : IntKind} {a b : Int} (h : a = b) : Value.int k a = .int k b := by rw [h]
theorem ret_bool {a b : Bool} (h : a = b) : Ending.returned (.bool a) = .returned (.bool b) := by rw [h]

/-! Bits of numbers that are not negative. -/
theorem xor_nat (a b : Nat) (ha : a < 9223372036854775808) (hb : b < 9223372036854775808) : bits .xor .i64 (a : Int) (b : Int) = ((a ^^^ b : Nat) : Int) := by
  show IntKind.i64.wrap ((BitVec.ofInt 64 (a : Int) ^^^ BitVec.ofInt 64 (b : Int)).toNat : Int) = _
  rw [BitVec.toNat_xor, ofInt_u64 a (by omega), ofInt_u64 b (by omega)]
  have e : (9223372036854775808 : Nat) = 2 ^ 63 := by decide
  exact Lib.wrap_i64_small _ (by rw [e] at ha hb ⊢; exact Nat.xor_lt_two_pow ha hb)
theorem and1_nat (a : Nat) (ha : a < 9223372036854775808) : bits .and .i64 (a : Int) 1 = ((a % 2 : Nat) : Int) := by
  show IntKind.i64.wrap ((BitVec.ofInt 64 (a : Int) &&& BitVec.ofInt 64 ((1 : Nat) : Int)).toNat : Int) = _
  rw [BitVec.toNat_and, ofInt_u64 a (by omega), ofInt_u64 1 (by omega), Nat.and_one_is_mod]
  exact Lib.wrap_i64_small _ (by omega)

theorem p_mul_val (P a b : Nat) (hP2 : P ≤ 65536) (ha : a < P) (hb : b < P) : wrap64 ((a : Int) * (b : Int) % 4294967296 % (P : Int)) = ((a * b % P : Nat) : Int) := by
  have h1 : a * b ≤ 65535 * 65535 := Nat.mul_le_mul (by omega) (by omega)
  have h2 : (a : Int) * (b : Int) = ((a * b : Nat) : Int) := by simp
  have h3 : a * b % P < P := Nat.mod_lt _ (by omega)
  have h4 : ((a * b : Nat) : Int) % 4294967296 = ((a * b : Nat) : Int) := Int.emod_eq_of_lt (by omega) (by omega)
  rw [h2, h4, ← Int.natCast_emod]
  exact IntWalk.wrap64_in _ (by omega)

theorem pow16 {M : Nat} (hM : M ≤ 16) : 2 ^ M ≤ 65536 := by
  have := Nat.pow_le_pow_right (n := 2) (by omega) hM
  exact this

/-! The package-level variables, as the program's text lays them. -/
end Go.Proofs.YtcophfhnhlaonaaGreatDoor
namespace Go.Proofs.YtcophfhnhlaonaaGreatDoor
open Go.RowKit

def PrimeIs (n : Nat) (w : World) (e : Ending) (w' : World) : Prop := ∃ b : Bool, e = .returned (.bool b) ∧ (b = true ↔ Pr n) ∧ w = w'

def NoneUpto (n k : Nat) : Prop := ∀ j, j < k → ∀ p, smallP[j]? = some p → p * p ≤ n ∧ n % p ≠ 0

theorem smallP_at {k : Nat} (h : k < 54) : ∃ p, smallP[k]? = some p ∧ 2 ≤ p ∧ p ≤ 251 := by
  have hl : k < smallP.length := by show k < 54; exact h
  have hb := smallP_bd _ (List.getElem_mem hl)
  exact ⟨smallP[k], List.getElem?_eq_getElem hl, hb⟩

theorem NoneUpto.succ {n k p : Nat} (h : NoneUpto n k) (hp : smallP[k]? = some p) (h1 : p * p ≤ n) (h2 : n % p ≠ 0) : NoneUpto n (k + 1) := by
  intro j hj r hr
  rcases Nat.lt_or_ge j k with hlt | hge
  · exact h j hlt r hr
  · have : j = k := by omega
    subst this
    rw [hp] at hr
    cases hr
    exact ⟨h1, h2⟩

theorem smallP_mono : ∀ i, i < 54 → ∀ j, j < 54 → i ≤ j → smallP[i]?.getD 0 ≤ smallP[j]?.getD 0 := by decide +kernel

theorem NoneUpto.prime {n k p : Nat} (h2 : 2 ≤ n) (hm : n ≤ 65536) (hk : k < 54) (h : NoneUpto n k) (hp : smallP[k]? = some p) (hlt : n < p * p) : Pr n := by
  refine pr_of_none h2 hm fun r hr hrr => ?_
  obtain ⟨j, hj, rfl⟩ := List.getElem_of_mem hr
  have hj54 : j < 54 := hj
  rcases Nat.lt_or_ge j k with hlt2 | hge
  · exact (h j hlt2 _ (List.getElem?_eq_getElem hj)).2
  · exfalso
    have := smallP_mono k hk j hj54 hge
    rw [hp, List.getElem?_eq_getElem hj] at this
    simp only [Option.getD_some] at this
    have := Nat.mul_le_mul this this
    omega

theorem NoneUpto.all {n : Nat} (h2 : 2 ≤ n) (hm : n ≤ 65536) (h : NoneUpto n 54) : Pr n := by
  refine pr_of_none h2 hm fun r hr _ => ?_
  obtain ⟨j, hj, rfl⟩ := List.getElem_of_mem hr
  exact (h j hj _ (List.getElem?_eq_getElem hj)).2

def OkF (P M : Int) : Prop := (P = 2 ∧ 1 ≤ M ∧ M ≤ 16) ∨ (P ≠ 2 ∧ M = 1 ∧ 2 ≤ P ∧ P ≤ 65536 ∧ Pr P.toNat)

end Go.Proofs.YtcophfhnhlaonaaGreatDoor
namespace Go.Proofs.YtcophfhnhlaonaaGreatDoor
open Go.RowKit

/-- A valid field: its characteristic, its degree, its order. -/
def Fld (P M q : Nat) : Prop := (M = 1 ∧ Pr P ∧ P ≤ 65536 ∧ q = P) ∨ (P = 2 ∧ 2 ≤ M ∧ M ≤ 16 ∧ q = 2 ^ M)

theorem Fld.ok {P M q : Nat} (h : Fld P M q) : OkF P M := by
  rcases h with ⟨rfl, h1, h2, rfl⟩ | ⟨rfl, h1, h2, rfl⟩
  · by_cases h0 : q = 2
    · subst h0; exact .inl ⟨rfl, by omega, by omega⟩
    · exact .inr ⟨by omega, rfl, by have := h1.1; omega, by omega, h1⟩
  · exact .inl ⟨rfl, by omega, by omega⟩

theorem OkF.fld {P M : Int} (h : OkF P M) : ∃ P' M' q : Nat, P = P' ∧ M = M' ∧ Fld P' M' q := by
  rcases h with ⟨rfl, h1, h2⟩ | ⟨h0, rfl, h1, h2, h3⟩
  · by_cases h0 : M = 1
    · exact ⟨2, 1, 2, rfl, h0, .inl ⟨rfl, pr_two, by omega, rfl⟩⟩
    · exact ⟨2, M.toNat, 2 ^ M.toNat, rfl, by omega, .inr ⟨rfl, by omega, by omega, rfl⟩⟩
  · exact ⟨P.toNat, 1, P.toNat, by omega, rfl, .inl ⟨rfl, h3, by omega, rfl⟩⟩

theorem Fld.q_le {P M q : Nat} (h : Fld P M q) : q ≤ 65536 := by
  rcases h with ⟨rfl, h1, h2, rfl⟩ | ⟨rfl, h1, h2, rfl⟩
  · exact h2
  · exact pow16 h2
theorem Fld.m_le {P M q : Nat} (h : Fld P M q) : M ≤ 16 := by
  rcases h with ⟨rfl, _⟩ | ⟨_, _, h2, _⟩
  · omega
  · exact h2
theorem Fld.q_eq {P M q : Nat} (h : Fld P M q) (hM : 2 ≤ M) : q = 2 ^ M := by
  rcases h with ⟨rfl, _⟩ | ⟨_, _, _, h3⟩
  · omega
  · exact h3
theorem Fld.q_ge {P M q : Nat} (h : Fld P M q) : 2 ≤ q := by
  rcases h with ⟨rfl, h1, h2, rfl⟩ | ⟨rfl, h1, h2, rfl⟩
  · exact h1.1
  · have : 2 ^ 1 ≤ 2 ^ M := Nat.pow_le_pow_right (by omega) (by omega)
    exact this

/-- A list of integers behind a slice's address. -/
def RdI (w : World) (A : Option Addr) (xs : List Int) : Prop := ∀ k x, xs[k]? = some x → ∃ a, A = some a ∧ w.cell? (a.add k) = some (.int .i64 x)

theorem RdI.nil (w : World) (A : Option Addr) : RdI w A [] := fun k x h => by simp at h
theorem RdI.of_cells {w w' : World} {A : Option Addr} {xs : List Int} (h : RdI w A xs) (hc : ∀ p : Addr, p.block < w.heap.size → w'.cell? p = w.cell? p) : RdI w' A xs := fun k x hx => by
  obtain ⟨a, ha, hv⟩ := h k x hx
  exact ⟨a, ha, (hc _ (World.block_lt_of_cell? w _ hv)).trans hv⟩
theorem RdI.below {w w' : World} {A : Option Addr} {xs : List Int} (h : RdI w A xs) (hb : Below w.heap.size w w') : RdI w' A xs := h.of_cells fun _ hp => hb.cell hp

def InQ (q : Nat) (x : Int) : Prop := 0 ≤ x ∧ x < q
def OpenIs (o : Value) (q : Nat) (xs : List Int) (w : World) (e : Ending) (w' : World) : Prop :=
  Below w.heap.size w w' ∧ ((∀ x ∈ xs, InQ q x) ∧ e = .returned (.tuple #[o, .int .i64 0]) ∨ (∃ x ∈ xs, ¬ InQ q x) ∧ e = .returned (.tuple #[.nilIface, .int .i64 2]))

def PreQ (q : Nat) (xs : List Int) (k : Nat) : Prop := ∀ j x, j < k → xs[j]? = some x → InQ q x
theorem PreQ.succ {q : Nat} {xs : List Int} {k : Nat} {x : Int} (h : PreQ q xs k) (hx : xs[k]? = some x) (hq : InQ q x) : PreQ q xs (k + 1) := fun j y hj hy => by
  rcases Nat.lt_or_ge j k with h1 | h1
  · exact h j y h1 hy
  · have : j = k := by omega
    subst this
    rw [hx] at hy
    cases hy
    exact hq
theorem PreQ.all {q : Nat} {xs : List Int} (h : PreQ q xs xs.length) : ∀ x ∈ xs, InQ q x := fun x hx => by
  obtain ⟨j, hj, rfl⟩ := List.getElem_of_mem hx
  exact h j _ hj (List.getElem?_eq_getElem hj)

end Go.Proofs.YtcophfhnhlaonaaGreatDoor
namespace Go.Proofs.YtcophfhnhlaonaaGreatDoor
open Go.RowKit
set_option linter.unusedVariables false

/-! What they compute. -/
def addN (P M a b : Nat) : Nat := if M = 1 then (a + b) % P else a ^^^ b
def subN (P M a b : Nat) : Nat := if M = 1 then (a + (P - b)) % P else a ^^^ b
def mulN (P M a b : Nat) : Nat := if M = 1 then a * b % P else pm (2 ^ M) (modN M) a b
def pw (mul : Nat → Nat → Nat) (r a k : Nat) : Nat :=
  if h : k = 0 then r else pw mul (if k % 2 = 1 then mul r a else r) (mul a a) (k / 2)
termination_by k
decreasing_by omega
def powN (P M a k : Nat) : Nat := pw (mulN P M) 1 a k

theorem pw_zero (mul : Nat → Nat → Nat) (r a : Nat) : pw mul r a 0 = r := by rw [pw]; simp
theorem pw_odd (mul : Nat → Nat → Nat) {r a k t : Nat} (h : k % 2 = 1) (hr : pw mul r a k = t) : pw mul (mul r a) (mul a a) (k / 2) = t := by
  rw [← hr, pw.eq_1 mul r a k, dif_neg (by omega), if_pos h]
theorem pw_even (mul : Nat → Nat → Nat) {r a k t : Nat} (h0 : 0 < k) (h : ¬ k % 2 = 1) (hr : pw mul r a k = t) : pw mul r (mul a a) (k / 2) = t := by
  rw [← hr, pw.eq_1 mul r a k, dif_neg (by omega), if_neg h]
theorem pw_lt {mul : Nat → Nat → Nat} {q : Nat} (hm : ∀ a b, a < q → b < q → mul a b < q) (k : Nat) : ∀ r a, r < q → a < q → pw mul r a k < q := by
  induction k using Nat.strongRecOn with
  | ind k ih =>
    intro r a hr ha
    by_cases h : k = 0
    · subst h; rw [pw_zero]; exact hr
    · rw [pw.eq_1, dif_neg h]
      refine ih (k / 2) (by omega) _ _ ?_ (hm _ _ ha ha)
      split
      · exact hm _ _ hr ha
      · exact hr

theorem Fld.mulN_lt {P M q a b : Nat} (h : Fld P M q) (ha : a < q) : mulN P M a b < q := by
  unfold mulN
  rcases h with ⟨rfl, h1, h2, rfl⟩ | ⟨rfl, h1, h2, rfl⟩
  · rw [if_pos rfl]; exact Nat.mod_lt _ (by have := h1.1; omega)
  · rw [if_neg (by omega)]; exact (mod_at h1 h2).pm_lt b ha
theorem Fld.addN_lt {P M q a b : Nat} (h : Fld P M q) (ha : a < q) (hb : b < q) : addN P M a b < q := by
  unfold addN
  rcases h with ⟨rfl, h1, h2, rfl⟩ | ⟨rfl, h1, h2, rfl⟩
  · rw [if_pos rfl]; exact Nat.mod_lt _ (by have := h1.1; omega)
  · rw [if_neg (by omega)]; exact Nat.xor_lt_two_pow ha hb
theorem Fld.subN_lt {P M q a b : Nat} (h : Fld P M q) (ha : a < q) (hb : b < q) : subN P M a b < q := by
  unfold subN
  rcases h with ⟨rfl, h1, h2, rfl⟩ | ⟨rfl, h1, h2, rfl⟩
  · rw [if_pos rfl]; exact Nat.mod_lt _ (by have := h1.1; omega)
  · rw [if_neg (by omega)]; exact Nat.xor_lt_two_pow ha hb
theorem Fld.powN_lt {P M q a : Nat} (h : Fld P M q) (ha : a < q) (k : Nat) : powN P M a k < q :=
  pw_lt (fun _ _ h1 _ => h.mulN_lt h1) k 1 a (by have := h.q_ge; omega) ha

end Go.Proofs.YtcophfhnhlaonaaGreatDoor
