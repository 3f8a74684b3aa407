/-
  Plain facts: orders of elements, the solutions of x^n = 1, sums of powers.
-/
import Derived.Test.YtfkeemhbehhclaaDoorFeb
namespace Go.Proofs.YtfkeemhbehhclaaDoor
open Go.RowKit

/-! Orders of elements. -/
section
variable {q : Nat} {add sub mul : Nat → Nat → Nat}

/-- The least exponent. -/
theorem least_exp {f : Nat → Nat} (n : Nat) : ∀ m, m ≤ n → 0 < m → f m = 1 → ∃ t, 0 < t ∧ t ≤ m ∧ f t = 1 ∧ ∀ s, 0 < s → s < t → f s ≠ 1 := by
  induction n with
  | zero => intro m h1 h2; omega
  | succ n ih =>
    intro m h1 h2 h3
    by_cases h : ∃ s, 0 < s ∧ s < m ∧ f s = 1
    · obtain ⟨s, a, b, c⟩ := h
      obtain ⟨t, t1, t2, t3, t4⟩ := ih s (by omega) a c
      exact ⟨t, t1, by omega, t3, t4⟩
    · exact ⟨m, h2, Nat.le_refl _, h3, fun s a b c => h ⟨s, a, b, c⟩⟩

theorem Mon.np_dvd (h : Mon q mul) {a : Nat} (ha : a < q) {s e : Nat} (hs : np mul a s = 1) (hse : s ∣ e) : np mul a e = 1 := by
  obtain ⟨c, rfl⟩ := hse
  rw [← h.np_mul ha, hs, h.np_ones]

/-- The exponents with power 1 are the multiples of the least one. -/
theorem Mon.ord_dvd (h : Mon q mul) {a : Nat} (ha : a < q) {t : Nat} (h0 : 0 < t) (ht : np mul a t = 1) (hm : ∀ s, 0 < s → s < t → np mul a s ≠ 1) {e : Nat} (he : np mul a e = 1) : t ∣ e := by
  have h1 : e = t * (e / t) + e % t := (Nat.div_add_mod e t).symm
  have h2 : np mul a (e % t) = 1 := by
    rw [h1, h.np_add ha, h.np_dvd ha ht ⟨_, rfl⟩, h.one (h.np_lt ha _)] at he
    exact he
  have h3 := Nat.mod_lt e h0
  rcases Nat.eq_zero_or_pos (e % t) with h4 | h4
  · exact Nat.dvd_of_mod_eq_zero h4
  · exact absurd h2 (hm _ h4 h3)

/-- Order exactly k. -/
def Ord (mul : Nat → Nat → Nat) (k r : Nat) : Prop := np mul r k = 1 ∧ ∀ s, 0 < s → s < k → np mul r s ≠ 1

theorem ord_of_primes (h : Mon q mul) {r k : Nat} (hr : r < q) (hk : 0 < k) (h1 : np mul r k = 1) (h2 : ∀ d, Pr d → d ∣ k → np mul r (k / d) ≠ 1) : Ord mul k r := by
  obtain ⟨t, t1, t2, t3, t4⟩ := least_exp (f := np mul r) k k (Nat.le_refl _) hk h1
  obtain ⟨c, hc⟩ := h.ord_dvd hr t1 t3 t4 h1
  by_cases hc1 : c = 1
  · subst hc1
    rw [Nat.mul_one] at hc
    subst hc
    exact ⟨h1, t4⟩
  · exfalso
    have hc0 : 0 < c := by
      rcases Nat.eq_zero_or_pos c with h3 | h3
      · subst h3; simp at hc; omega
      · exact h3
    obtain ⟨d, hd, hdc⟩ := exists_pr (n := c) (by omega)
    obtain ⟨b, hb⟩ := hdc
    have hd0 := hd.1
    have hkd : k / d = t * b := by
      rw [hc, hb, show t * (d * b) = d * (t * b) by rw [← Nat.mul_assoc, Nat.mul_comm t d, Nat.mul_assoc]]
      exact Nat.mul_div_cancel_left _ (by omega)
    have := h2 d hd ⟨t * b, by rw [hc, hb, ← Nat.mul_assoc, Nat.mul_comm t d, Nat.mul_assoc]⟩
    rw [hkd] at this
    exact this (h.np_dvd hr t3 ⟨b, rfl⟩)
theorem Ord.dvd (h : Mon q mul) {r k e : Nat} (hr : r < q) (hk : 0 < k) (ho : Ord mul k r) : np mul r e = 1 ↔ k ∣ e :=
  ⟨fun he => h.ord_dvd hr hk ho.1 ho.2 he, fun he => h.np_dvd hr ho.1 he⟩

/-- Distinct powers. -/
theorem Ord.inj (h : Fl q add sub mul) {r k : Nat} (hr0 : 0 < r) (hr : r < q) (ho : Ord mul k r) {i j : Nat} (hi : i < k) (hj : j < k) (he : np mul r i = np mul r j) : i = j := by
  have key : ∀ i j, i < k → j < k → np mul r i = np mul r j → i ≤ j → i = j := by
    intro i j _ hj he hle
    have h1 : np mul r j = mul (np mul r i) (np mul r (j - i)) := by rw [← h.np_add hr]; congr 1; omega
    rw [← he] at h1
    have h2 : mul (np mul r i) (np mul r (j - i)) = mul (np mul r i) 1 := by rw [← h1, h.mul_one (h.np_lt hr i)]
    have h3 := h.cancel (h.np_pos hr0 hr i) (h.np_lt hr i) (h.np_lt hr _) (by have := h.two; omega) h2
    rcases Nat.eq_zero_or_pos (j - i) with h4 | h4
    · omega
    · exact absurd h3 (ho.2 _ h4 (by omega))
  rcases Nat.le_total i j with h1 | h1
  · exact key i j hi hj he h1
  · exact (key j i hj hi he.symm h1).symm

def powers (mul : Nat → Nat → Nat) (r k : Nat) : List Nat := (List.range k).map (np mul r)
theorem powers_nodup (h : Fl q add sub mul) {r k : Nat} (hr0 : 0 < r) (hr : r < q) (ho : Ord mul k r) : (powers mul r k).Nodup :=
  nodup_map_on (fun _ hx _ hy he => ho.inj h hr0 hr (List.mem_range.1 hx) (List.mem_range.1 hy) he) List.nodup_range
theorem powers_mem {r k x : Nat} : x ∈ powers mul r k ↔ ∃ j, j < k ∧ np mul r j = x := by
  unfold powers
  rw [List.mem_map]
  exact ⟨fun ⟨j, h1, h2⟩ => ⟨j, List.mem_range.1 h1, h2⟩, fun ⟨j, h1, h2⟩ => ⟨j, List.mem_range.2 h1, h2⟩⟩

/-- With a primitive element g: every element but 0 is a power of it. -/
theorem prim_all (h : Fl q add sub mul) {g : Nat} (hg0 : 0 < g) (hg : g < q) (ho : Ord mul (q - 1) g) {x : Nat} (hx0 : 0 < x) (hx : x < q) : ∃ j, j < q - 1 ∧ np mul g j = x := by
  have h1 := onto_of_inj (l := List.range' 1 (q - 1)) (powers_nodup h hg0 hg ho) (by simp [powers]) (fun y hy => by
    obtain ⟨j, _, rfl⟩ := powers_mem.1 hy
    rw [List.mem_range'_1]
    have := h.np_pos hg0 hg j
    have := h.np_lt hg j
    omega)
  exact powers_mem.1 (h1 x (by rw [List.mem_range'_1]; omega))

/-- .. and there is an element of each order that divides q - 1. -/
theorem prim_ord (h : Fl q add sub mul) {g : Nat} (hg : g < q) (ho : Ord mul (q - 1) g) {n c : Nat} (hc : q - 1 = c * n) : Ord mul n (np mul g c) := by
  have hq := h.two
  refine ⟨by rw [h.np_mul hg, ← hc]; exact ho.1, fun s h0 hs he => ?_⟩
  rw [h.np_mul hg] at he
  have h1 := (ho.dvd h.toMon hg (by omega)).1 he
  rw [hc] at h1
  have hc0 : 0 < c := by
    rcases Nat.eq_zero_or_pos c with h2 | h2
    · subst h2; omega
    · exact h2
  have h2 := Nat.dvd_of_mul_dvd_mul_left hc0 h1
  have := Nat.le_of_dvd h0 h2
  omega

/-- The solutions of x^n = 1 are the powers of an element of order n. -/
theorem roots_are (h : Fl q add sub mul) {g : Nat} (hg0 : 0 < g) (hg : g < q) (ho : Ord mul (q - 1) g) {n c : Nat} (hn : 0 < n) (hc : q - 1 = c * n) {r : Nat} (hr0 : 0 < r) (hr : r < q) (hro : Ord mul n r) {x : Nat} (hx0 : 0 < x) (hx : x < q) (hxn : np mul x n = 1) : ∃ j, j < n ∧ np mul r j = x := by
  have hq := h.two
  have hc0 : 0 < c := by
    rcases Nat.eq_zero_or_pos c with h2 | h2
    · subst h2; omega
    · exact h2
  have hz0 := h.np_pos hg0 hg c
  have hz := h.np_lt hg c
  have hzo := prim_ord h hg ho hc
  have hin : ∀ y, 0 < y → y < q → np mul y n = 1 → y ∈ powers mul (np mul g c) n := by
    intro y hy0 hy hyn
    obtain ⟨j, hj, rfl⟩ := prim_all h hg0 hg ho hy0 hy
    rw [h.np_mul hg] at hyn
    have h1 := (ho.dvd h.toMon hg (by omega)).1 hyn
    rw [hc] at h1
    obtain ⟨t, rfl⟩ := Nat.dvd_of_mul_dvd_mul_right hn h1
    rw [powers_mem]
    refine ⟨t, ?_, h.np_mul hg c t⟩
    rw [hc] at hj
    exact Nat.lt_of_mul_lt_mul_left hj
  have h1 := onto_of_inj (l := powers mul (np mul g c) n) (powers_nodup h hr0 hr hro) (by simp [powers]) (fun y hy => by
    obtain ⟨j, _, rfl⟩ := powers_mem.1 hy
    refine hin _ (h.np_pos hr0 hr j) (h.np_lt hr j) ?_
    rw [h.np_mul hr, Nat.mul_comm, ← h.np_mul hr, hro.1, h.np_ones])
  exact powers_mem.1 (h1 x (hin x hx0 hx hxn))

/-! Sums of powers. -/
def nsum (add : Nat → Nat → Nat) (f : Nat → Nat) : Nat → Nat
  | 0 => 0
  | k + 1 => add (nsum add f k) (f k)
theorem Rng.nsum_lt (h : Rng q add sub mul) {f : Nat → Nat} (hf : ∀ j, f j < q) (k : Nat) : nsum add f k < q := by
  induction k with
  | zero => have := h.two; show 0 < q; omega
  | succ k ih => exact h.add_lt ih (hf k)
theorem Rng.mul_nsum (h : Rng q add sub mul) {a : Nat} (ha : a < q) {f : Nat → Nat} (hf : ∀ j, f j < q) (k : Nat) : mul a (nsum add f k) = nsum add (fun j => mul a (f j)) k := by
  induction k with
  | zero => exact h.zero ha
  | succ k ih =>
    show mul a (add (nsum add f k) (f k)) = add (nsum add _ k) (mul a (f k))
    rw [h.distrib ha (h.nsum_lt hf k) (hf k), ih]
theorem Rng.shift (h : Rng q add sub mul) {f : Nat → Nat} (hf : ∀ j, f j < q) (k : Nat) : add (nsum add (fun j => f (j + 1)) k) (f 0) = add (nsum add f k) (f k) := by
  induction k with
  | zero => rfl
  | succ k ih =>
    have h1 := h.nsum_lt (fun j => hf (j + 1)) k
    have h2 := h.nsum_lt hf k
    show add (add (nsum add (fun j => f (j + 1)) k) (f (k + 1))) (f 0) = add (add (nsum add f k) (f k)) (f (k + 1))
    rw [h.add_assoc h1 (hf _) (hf _), h.add_comm (hf (k + 1)) (hf 0), ← h.add_assoc h1 (hf _) (hf _), ih]
theorem Rng.add_cancel (h : Rng q add sub mul) {a b c : Nat} (ha : a < q) (hb : b < q) (hc : c < q) (he : add a c = add b c) : a = b := by
  rw [← h.sub_add ha hc, he, h.sub_add hb hc]
/-- The sum of the powers of an element other than 1 whose k-th power is 1. -/
theorem Fl.sum_zero (h : Fl q add sub mul) {w k : Nat} (hw : w < q) (h1 : np mul w k = 1) (hne : w ≠ 1) : nsum add (np mul w) k = 0 := by
  have hlt := h.nsum_lt (fun j => h.np_lt hw j) k
  have hs := h.shift (fun j => h.np_lt hw j) k
  have hone : (1 : Nat) < q := by have := h.two; omega
  have e1 : nsum add (fun j => np mul w (j + 1)) k = mul w (nsum add (np mul w) k) := by
    rw [h.mul_nsum hw (fun j => h.np_lt hw j)]
    congr 1
    funext j
    exact h.comm (h.np_lt hw j) hw
  rw [h1, e1] at hs
  have h2 : mul w (nsum add (np mul w) k) = nsum add (np mul w) k := h.add_cancel (h.lt hw hlt) hlt hone hs
  rcases Nat.eq_zero_or_pos (nsum add (np mul w) k) with h3 | h3
  · exact h3
  · exfalso
    apply hne
    refine h.cancel h3 hlt hw hone ?_
    rw [h.comm hlt hw, h2, h.mul_one hlt]
end
theorem nsum_congr {add : Nat → Nat → Nat} {f g : Nat → Nat} (k : Nat) (h : ∀ j, j < k → f j = g j) : nsum add f k = nsum add g k := by
  induction k with
  | zero => rfl
  | succ k ih => show add (nsum add f k) (f k) = add (nsum add g k) (g k); rw [ih fun j hj => h j (by omega), h k (by omega)]
/-- Sums of equal elements. -/
theorem Fld.nsum_one {P M q : Nat} (h : Fld P M q) (k : Nat) : nsum (addN P M) (fun _ => 1) k = k % P := by
  rcases h with ⟨rfl, h1, h2, rfl⟩ | ⟨rfl, h1, h2, rfl⟩
  · induction k with
    | zero => exact (Nat.zero_mod _).symm
    | succ k ih =>
      show addN q 1 (nsum (addN q 1) (fun _ => 1) k) 1 = _
      rw [ih, show addN q 1 (k % q) 1 = (k % q + 1) % q from if_pos rfl, Nat.mod_add_mod]
  · induction k with
    | zero => rfl
    | succ k ih =>
      show addN 2 M (nsum (addN 2 M) (fun _ => 1) k) 1 = _
      rw [ih, show addN 2 M (k % 2) 1 = (k % 2) ^^^ 1 from if_neg (by omega)]
      rcases Nat.mod_two_eq_zero_or_one k with e | e
      · rw [e, show (k + 1) % 2 = 1 by omega]; rfl
      · rw [e, show (k + 1) % 2 = 0 by omega]; rfl
theorem Fld.nsum_p {P M q a : Nat} (h : Fld P M q) (ha : a < q) : nsum (addN P M) (fun _ => a) P = 0 := by
  have h1 : nsum (addN P M) (fun _ => a) P = mulN P M a (nsum (addN P M) (fun _ => 1) P) := by
    rw [h.rng.mul_nsum ha (fun _ => by have := h.q_ge; omega)]
    congr 1
    funext j
    exact (h.rng.mul_one ha).symm
  rw [h1, h.nsum_one, Nat.mod_self]
  exact h.rng.zero ha
/-- Raising to the power P is additive. -/
theorem Fld.frob {P M q a b : Nat} (h : Fld P M q) (ha : a < q) (hb : b < q) : powN P M (addN P M a b) P = addN P M (powN P M a P) (powN P M b P) := by
  have hab := h.rng.add_lt ha hb
  have hfl := h.fl
  rcases h.cases with ⟨rfl, rfl⟩ | ⟨rfl, hM⟩
  · rw [h.pow_eq hab, h.pow_eq ha, h.pow_eq hb, hfl.pow_q hab, hfl.pow_q ha, hfl.pow_q hb]
  · rw [h.pow_eq hab, h.pow_eq ha, h.pow_eq hb]
    have e : ∀ x, x < q → np (mulN 2 M) x 2 = mulN 2 M x x := fun x hx => by show mulN 2 M (mulN 2 M 1 x) x = _; rw [h.rng.one hx]
    have hq := h.q_eq hM
    rw [e _ hab, e _ ha, e _ hb]
    have ea : ∀ x y, addN 2 M x y = x ^^^ y := fun _ _ => if_neg (by omega)
    rw [ea, ea]
    exact q_sq_xor hM h.m_le (by rw [← hq]; exact ha) (by rw [← hq]; exact hb)
theorem Fld.pow_ord {P M q a : Nat} (h : Fld P M q) (ha : a < q) : powN P M a q = a := by rw [h.pow_eq ha]; exact h.fl.pow_q ha
end Go.Proofs.YtfkeemhbehhclaaDoor
