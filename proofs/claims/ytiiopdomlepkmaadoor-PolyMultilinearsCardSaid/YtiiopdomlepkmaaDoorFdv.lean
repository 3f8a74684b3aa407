/-
  Plain facts: commutative monoids and rings on the numbers below q, powers in them; the integers modulo a prime and the polynomials modulo a modulus are rings.
-/
import Derived.Test.YtiiopdomlepkmaaDoorFdo
namespace Go.Proofs.YtiiopdomlepkmaaDoor
open Go.RowKit

/-! Commutative monoids on the numbers below q, and powers. -/

structure Mon (q : Nat) (mul : Nat → Nat → Nat) : Prop where
  two : 2 ≤ q
  lt : ∀ {a b : Nat}, a < q → b < q → mul a b < q
  comm : ∀ {a b : Nat}, a < q → b < q → mul a b = mul b a
  assoc : ∀ {a b c : Nat}, a < q → b < q → c < q → mul (mul a b) c = mul a (mul b c)
  one : ∀ {a : Nat}, a < q → mul 1 a = a

def np (mul : Nat → Nat → Nat) (a : Nat) : Nat → Nat
  | 0 => 1
  | k + 1 => mul (np mul a k) a

section
variable {q : Nat} {mul : Nat → Nat → Nat}
theorem Mon.mul_one (h : Mon q mul) {a : Nat} (ha : a < q) : mul a 1 = a := by
  rw [h.comm ha (by have := h.two; omega)]; exact h.one ha
theorem Mon.np_lt (h : Mon q mul) {a : Nat} (ha : a < q) (k : Nat) : np mul a k < q := by
  induction k with
  | zero => have := h.two; show 1 < q; omega
  | succ k ih => exact h.lt ih ha
theorem Mon.np_one (h : Mon q mul) {a : Nat} (ha : a < q) : np mul a 1 = a := h.one ha
theorem Mon.np_add (h : Mon q mul) {a : Nat} (ha : a < q) (j k : Nat) : np mul a (j + k) = mul (np mul a j) (np mul a k) := by
  induction k with
  | zero => exact (h.mul_one (h.np_lt ha j)).symm
  | succ k ih =>
    show mul (np mul a (j + k)) a = mul (np mul a j) (mul (np mul a k) a)
    rw [ih, h.assoc (h.np_lt ha j) (h.np_lt ha k) ha]
theorem Mon.np_ones (h : Mon q mul) (k : Nat) : np mul 1 k = 1 := by
  induction k with
  | zero => rfl
  | succ k ih => show mul (np mul 1 k) 1 = 1; rw [ih]; exact h.one (by have := h.two; omega)
theorem Mon.np_mul (h : Mon q mul) {a : Nat} (ha : a < q) (j k : Nat) : np mul (np mul a j) k = np mul a (j * k) := by
  induction k with
  | zero => rfl
  | succ k ih =>
    show mul (np mul (np mul a j) k) (np mul a j) = _
    rw [ih, ← h.np_add ha, Nat.mul_succ]
theorem Mon.np_prod (h : Mon q mul) {a b : Nat} (ha : a < q) (hb : b < q) (k : Nat) : np mul (mul a b) k = mul (np mul a k) (np mul b k) := by
  induction k with
  | zero => exact (h.one (show 1 < q by have := h.two; omega)).symm
  | succ k ih =>
    show mul (np mul (mul a b) k) (mul a b) = mul (mul (np mul a k) a) (mul (np mul b k) b)
    have h1 := h.np_lt ha k
    have h2 := h.np_lt hb k
    rw [ih, h.assoc h1 h2 (h.lt ha hb), h.assoc h1 ha (h.lt h2 hb), ← h.assoc h2 ha hb, h.comm h2 ha, h.assoc ha h2 hb]
theorem Mon.pw_eq (h : Mon q mul) (k : Nat) : ∀ {r a : Nat}, r < q → a < q → pw mul r a k = mul r (np mul a k) := by
  induction k using Nat.strongRecOn with
  | ind k ih =>
    intro r a hr ha
    by_cases h0 : k = 0
    · subst h0; rw [pw_zero]; exact (h.mul_one hr).symm
    · have h2 : np mul (mul a a) (k / 2) = np mul a (2 * (k / 2)) := by
        rw [← h.np_mul ha 2, show np mul a 2 = mul a a by show mul (mul 1 a) a = _; rw [h.one ha]]
      by_cases h1 : k % 2 = 1
      · rw [← pw_odd mul h1 rfl, ih (k / 2) (by omega) (h.lt hr ha) (h.lt ha ha), h2, h.assoc hr ha (h.np_lt ha _)]
        have : k = 1 + 2 * (k / 2) := by omega
        conv => rhs; rw [this]
        rw [h.np_add ha, h.np_one ha]
      · rw [← pw_even mul (by omega) h1 rfl, ih (k / 2) (by omega) hr (h.lt ha ha), h2]
        have : k = 2 * (k / 2) := by omega
        conv => rhs; rw [this]
end

/-- Rings on the numbers below q. -/
structure Rng (q : Nat) (add sub mul : Nat → Nat → Nat) : Prop extends Mon q mul where
  add_lt : ∀ {a b : Nat}, a < q → b < q → add a b < q
  sub_lt : ∀ {a b : Nat}, a < q → b < q → sub a b < q
  add_comm : ∀ {a b : Nat}, a < q → b < q → add a b = add b a
  add_assoc : ∀ {a b c : Nat}, a < q → b < q → c < q → add (add a b) c = add a (add b c)
  add_zero : ∀ {a : Nat}, a < q → add a 0 = a
  sub_add : ∀ {a b : Nat}, a < q → b < q → sub (add a b) b = a
  add_sub : ∀ {a b : Nat}, a < q → b < q → add (sub a b) b = a
  distrib : ∀ {a b c : Nat}, a < q → b < q → c < q → mul a (add b c) = add (mul a b) (mul a c)
  zero : ∀ {a : Nat}, a < q → mul a 0 = 0

/-! The integers modulo a prime. -/
theorem rng_p {p : Nat} (hp : Pr p) : Rng p (addN p 1) (subN p 1) (mulN p 1) := by
  have h2 := hp.1
  have hpos : 0 < p := by omega
  have hm : ∀ a b, mulN p 1 a b = a * b % p := fun _ _ => if_pos rfl
  have ha : ∀ a b, addN p 1 a b = (a + b) % p := fun _ _ => if_pos rfl
  have hs : ∀ a b, subN p 1 a b = (a + (p - b)) % p := fun _ _ => if_pos rfl
  constructor
  · constructor
    · exact h2
    · intro a b _ _; rw [hm]; exact Nat.mod_lt _ hpos
    · intro a b _ _; rw [hm, hm, Nat.mul_comm]
    · intro a b c _ _ _; rw [hm, hm, hm, hm, Nat.mod_mul_mod, Nat.mul_mod_mod, Nat.mul_assoc]
    · intro a h; rw [hm, Nat.one_mul, Nat.mod_eq_of_lt h]
  · intro a b _ _; rw [ha]; exact Nat.mod_lt _ hpos
  · intro a b _ _; rw [hs]; exact Nat.mod_lt _ hpos
  · intro a b _ _; rw [ha, ha, Nat.add_comm]
  · intro a b c _ _ _; rw [ha, ha, ha, ha, Nat.mod_add_mod, Nat.add_mod_mod, Nat.add_assoc]
  · intro a h; rw [ha, Nat.add_zero, Nat.mod_eq_of_lt h]
  · intro a b h1 h2
    rw [ha, hs, Nat.mod_add_mod, show a + b + (p - b) = a + p by omega, Nat.add_mod_right, Nat.mod_eq_of_lt h1]
  · intro a b h1 h2
    rw [ha, hs, Nat.mod_add_mod, show a + (p - b) + b = a + p by omega, Nat.add_mod_right, Nat.mod_eq_of_lt h1]
  · intro a b c _ _ _
    rw [hm, hm, hm, ha, ha, Nat.mul_mod_mod, Nat.mod_add_mod, Nat.add_mod_mod, Nat.mul_add]
  · intro a _; rw [hm, Nat.mul_zero, Nat.zero_mod]

/-! The carry-less product. -/
theorem two_mul_xor (a b : Nat) : 2 * (a ^^^ b) = 2 * a ^^^ 2 * b := by
  have := two_xor a b 0 0 (by omega) (by omega)
  simpa using this.symm
theorem two_xor_bit (x c : Nat) (hc : c < 2) : 2 * x ^^^ c = 2 * x + c := by
  have := two_xor x 0 0 c (by omega) hc
  simp only [Nat.add_zero, Nat.mul_zero, Nat.zero_add, Nat.xor_zero] at this
  rw [this, Nat.mod_eq_of_lt hc]
theorem clm_two_left (b : Nat) : ∀ a, clm (2 * a) b = 2 * clm a b := by
  induction b using Nat.strongRecOn with
  | ind b ih =>
    intro a
    by_cases h0 : b = 0
    · subst h0; rw [clm_zero, clm_zero]
    · rw [clm_step (2 * a), clm_step a, ih (b / 2) (by omega), two_mul_xor]
      congr 1
      split <;> rfl
theorem clm_rec (a b : Nat) : clm a b = (if b % 2 = 1 then a else 0) ^^^ 2 * clm a (b / 2) := by
  rw [← clm_two_left]; exact clm_step a b
theorem clm_zero_left (b : Nat) : clm 0 b = 0 := by
  induction b using Nat.strongRecOn with
  | ind b ih =>
    by_cases h0 : b = 0
    · subst h0; rw [clm_zero]
    · rw [clm_rec, ih (b / 2) (by omega)]; split <;> rfl
theorem clm_one_left (b : Nat) : clm 1 b = b := by
  induction b using Nat.strongRecOn with
  | ind b ih =>
    by_cases h0 : b = 0
    · subst h0; rw [clm_zero]
    · rw [clm_rec, ih (b / 2) (by omega), Nat.xor_comm]
      split
      · rw [two_xor_bit _ 1 (by omega)]; omega
      · rw [Nat.xor_zero]; omega
theorem xor_4 (a b c d : Nat) : (a ^^^ b) ^^^ (c ^^^ d) = (a ^^^ c) ^^^ (b ^^^ d) := by
  rw [Nat.xor_assoc, Nat.xor_assoc, ← Nat.xor_assoc b c d, ← Nat.xor_assoc c b d, Nat.xor_comm b c]
theorem clm_xor_left (c : Nat) : ∀ a b, clm (a ^^^ b) c = clm a c ^^^ clm b c := by
  induction c using Nat.strongRecOn with
  | ind c ih =>
    intro a b
    by_cases h0 : c = 0
    · subst h0; rw [clm_zero, clm_zero, clm_zero]; rfl
    · rw [clm_rec (a ^^^ b), clm_rec a, clm_rec b, ih (c / 2) (by omega), two_mul_xor, xor_4]
      congr 1
      split
      · rfl
      · rfl
theorem bit_split (a : Nat) : a = 2 * (a / 2) ^^^ a % 2 := by rw [two_xor_bit _ _ (by omega)]; omega
theorem clm_comm (a : Nat) : ∀ b, clm a b = clm b a := by
  induction a using Nat.strongRecOn with
  | ind a ih =>
    intro b
    by_cases h0 : a = 0
    · subst h0; rw [clm_zero, clm_zero_left]
    · conv => lhs; rw [bit_split a, clm_xor_left, clm_two_left, ih (a / 2) (by omega)]
      rw [clm_rec b a, Nat.xor_comm]
      congr 1
      split
      · rename_i h; rw [h, clm_one_left]
      · rename_i h; rw [show a % 2 = 0 by omega, clm_zero_left]
theorem clm_xor_right (a b c : Nat) : clm a (b ^^^ c) = clm a b ^^^ clm a c := by
  rw [clm_comm a, clm_xor_left, clm_comm b, clm_comm c]
theorem clm_two_right (a b : Nat) : clm a (2 * b) = 2 * clm a b := by rw [clm_comm a, clm_two_left, clm_comm b]
theorem clm_assoc (c : Nat) : ∀ a b, clm (clm a b) c = clm a (clm b c) := by
  induction c using Nat.strongRecOn with
  | ind c ih =>
    intro a b
    by_cases h0 : c = 0
    · subst h0; rw [clm_zero, clm_zero, clm_zero]
    · rw [clm_rec (clm a b), clm_rec b, clm_xor_right, clm_two_right, ih (c / 2) (by omega)]
      congr 1
      split
      · rfl
      · rw [clm_zero]

section
variable {M q m : Nat}
theorem Mod.pm_red (h : Mod M q m) {a : Nat} (ha : a < q) (b : Nat) : pm q m a b = red q m (clm a b) := by rw [h.red_clm, h.red_small ha]
theorem Mod.clm_red_left (h : Mod M q m) (x c : Nat) : red q m (clm (red q m x) c) = red q m (clm x c) := by rw [h.red_clm, h.red_clm, h.red_idem]
theorem Mod.clm_red_right (h : Mod M q m) (a x : Nat) : red q m (clm a (red q m x)) = red q m (clm a x) := by rw [clm_comm a, h.clm_red_left, clm_comm x]
end

/-! The polynomials modulo a modulus. -/
theorem rng_q {M : Nat} (h2 : 2 ≤ M) (h16 : M ≤ 16) : Rng (2 ^ M) (addN 2 M) (subN 2 M) (mulN 2 M) := by
  have hd := mod_at h2 h16
  have hne : ¬ M = 1 := by omega
  have hm : ∀ a b, mulN 2 M a b = pm (2 ^ M) (modN M) a b := fun _ _ => if_neg hne
  have ha : ∀ a b, addN 2 M a b = a ^^^ b := fun _ _ => if_neg hne
  have hs : ∀ a b, subN 2 M a b = a ^^^ b := fun _ _ => if_neg hne
  have hq2 : 2 ≤ 2 ^ M := by
    have : 2 ^ 1 ≤ 2 ^ M := Nat.pow_le_pow_right (by omega) (by omega)
    exact this
  constructor
  · constructor
    · exact hq2
    · intro a b h1 _; rw [hm]; exact hd.pm_lt b h1
    · intro a b h1 h2; rw [hm, hm, hd.pm_red h1, hd.pm_red h2, clm_comm]
    · intro a b c h1 h2 h3
      rw [hm, hm, hm, hm, hd.pm_red (hd.pm_lt b h1), hd.pm_red h1, hd.pm_red h1, hd.pm_red h2, hd.clm_red_left, hd.clm_red_right, clm_assoc]
    · intro a h1; rw [hm, hd.pm_red (by omega), clm_one_left, hd.red_small h1]
  · intro a b h1 h2; rw [ha]; exact hd.xor_lt h1 h2
  · intro a b h1 h2; rw [hs]; exact hd.xor_lt h1 h2
  · intro a b _ _; rw [ha, ha, Nat.xor_comm]
  · intro a b c _ _ _; rw [ha, ha, ha, ha, Nat.xor_assoc]
  · intro a _; rw [ha, Nat.xor_zero]
  · intro a b _ _; rw [ha, hs, Nat.xor_assoc, Nat.xor_self, Nat.xor_zero]
  · intro a b _ _; rw [ha, hs, Nat.xor_assoc, Nat.xor_self, Nat.xor_zero]
  · intro a b c h1 h2 h3
    rw [ha, ha, hm, hm, hm, hd.pm_red h1, hd.pm_red h1, hd.pm_red h1, clm_xor_right, hd.red_xor]
  · intro a _; rw [hm, pm_zero]

theorem Fld.rng {P M q : Nat} (h : Fld P M q) : Rng q (addN P M) (subN P M) (mulN P M) := by
  rcases h with ⟨rfl, h1, h2, rfl⟩ | ⟨rfl, h1, h2, rfl⟩
  · exact rng_p h1
  · exact rng_q h1 h2
theorem Fld.pow_eq {P M q a : Nat} (h : Fld P M q) (ha : a < q) (k : Nat) : powN P M a k = np (mulN P M) a k := by
  have hr := h.rng
  unfold powN
  rw [hr.pw_eq k (by have := h.q_ge; omega) ha]
  exact hr.one (hr.np_lt ha k)
end Go.Proofs.YtiiopdomlepkmaaDoor
