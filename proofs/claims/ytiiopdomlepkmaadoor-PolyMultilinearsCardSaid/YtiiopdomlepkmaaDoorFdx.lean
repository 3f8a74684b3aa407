/-
  Plain facts: Fermat's theorem in the fields of polynomials; there are no divisors of zero.
-/
import Derived.Test.YtiiopdomlepkmaaDoorFdw
namespace Go.Proofs.YtiiopdomlepkmaaDoor
open Go.RowKit

theorem pow_xor (n : Nat) : ∀ x, x < 2 ^ n → 2 ^ n ^^^ x = 2 ^ n + x := by
  induction n with
  | zero => intro x hx; have : x = 0 := by simpa using hx
            subst this; rfl
  | succ n ih =>
    intro x hx
    rw [Nat.pow_succ] at hx ⊢
    have h1 := two_xor (2 ^ n) (x / 2) 0 (x % 2) (by omega) (by omega)
    rw [ih (x / 2) (by omega)] at h1
    have e1 : 2 ^ n * 2 = 2 * 2 ^ n + 0 := by omega
    have e2 : x = 2 * (x / 2) + x % 2 := by omega
    rw [e1]
    conv => lhs; rw [e2]
    rw [h1]
    omega
theorem low_part {n x : Nat} (h1 : 2 ^ n ≤ x) (h2 : x < 2 ^ (n + 1)) : x - 2 ^ n < 2 ^ n ∧ x = 2 ^ n ^^^ (x - 2 ^ n) := by
  rw [Nat.pow_succ] at h2
  have h3 : x - 2 ^ n < 2 ^ n := by omega
  exact ⟨h3, by rw [pow_xor n _ h3]; omega⟩

/-- A linear map that keeps the powers of x keeps all polynomials. -/
theorem lin_id {M : Nat} {L : Nat → Nat} (hl : ∀ a b, a < 2 ^ M → b < 2 ^ M → L (a ^^^ b) = L a ^^^ L b) (hb : ∀ i, i < M → L (2 ^ i) = 2 ^ i) (n : Nat) : n ≤ M → ∀ a, a < 2 ^ n → L a = a := by
  induction n with
  | zero =>
    intro _ a ha
    have : a = 0 := by simpa using ha
    subst this
    have := hl 0 0 (Nat.two_pow_pos _) (Nat.two_pow_pos _)
    rw [Nat.xor_self, Nat.xor_self] at this
    exact this
  | succ n ih =>
    intro hn a ha
    have hpow : 2 ^ (n + 1) ≤ 2 ^ M := Nat.pow_le_pow_right (by omega) hn
    have hpn : 2 ^ n < 2 ^ (n + 1) := by rw [Nat.pow_succ]; have := Nat.two_pow_pos n; omega
    rcases Nat.lt_or_ge a (2 ^ n) with h | h
    · exact ih (by omega) a h
    · obtain ⟨h1, h2⟩ := low_part h ha
      have h3 := hl (2 ^ n) (a - 2 ^ n) (by omega) (by omega)
      rw [← h2, hb n (by omega), ih (by omega) _ h1, ← h2] at h3
      exact h3

section
variable {M : Nat}
theorem q_mul_def (h2 : 2 ≤ M) (a b : Nat) : mulN 2 M a b = pm (2 ^ M) (modN M) a b := if_neg (by omega)
theorem q_sq_xor (h2 : 2 ≤ M) (h16 : M ≤ 16) {a b : Nat} (ha : a < 2 ^ M) (hb : b < 2 ^ M) : mulN 2 M (a ^^^ b) (a ^^^ b) = mulN 2 M a a ^^^ mulN 2 M b b := by
  have hd := mod_at h2 h16
  rw [q_mul_def h2, q_mul_def h2, q_mul_def h2, hd.pm_red (hd.xor_lt ha hb), hd.pm_red ha, hd.pm_red hb, ← hd.red_xor, clm_xor_left, clm_xor_right, clm_xor_right, clm_comm b a]
  congr 1
  rw [Nat.xor_assoc, ← Nat.xor_assoc (clm a b) (clm a b), Nat.xor_self, Nat.zero_xor]
theorem q_sqs_xor (h2 : 2 ≤ M) (h16 : M ≤ 16) (k : Nat) : ∀ a b, a < 2 ^ M → b < 2 ^ M → sqs (mulN 2 M) k (a ^^^ b) = sqs (mulN 2 M) k a ^^^ sqs (mulN 2 M) k b := by
  have hr := rng_q h2 h16
  induction k with
  | zero => intro a b _ _; rfl
  | succ k ih =>
    intro a b ha hb
    rw [sqs, sqs, sqs, q_sq_xor h2 h16 ha hb]
    exact ih _ _ (hr.lt ha ha) (hr.lt hb hb)
theorem sqs_congr {f g : Nat → Nat → Nat} {q : Nat} (h : ∀ a, a < q → f a a = g a a) (hg : ∀ a, a < q → g a a < q) (k : Nat) : ∀ a, a < q → sqs f k a = sqs g k a := by
  induction k with
  | zero => intro a _; rfl
  | succ k ih => intro a ha; rw [sqs, sqs, h a ha]; exact ih _ (hg a ha)
theorem q_pow_q (h2 : 2 ≤ M) (h16 : M ≤ 16) {a : Nat} (ha : a < 2 ^ M) : np (mulN 2 M) a (2 ^ M) = a := by
  have hr := rng_q h2 h16
  rw [← hr.sqs_np M ha]
  have hf := frob_all M (by omega) h2
  unfold frobOk at hf
  rw [List.all_eq_true] at hf
  refine lin_id (q_sqs_xor h2 h16 M) (fun i hi => ?_) M (Nat.le_refl _) a ha
  have hlt : 2 ^ i < 2 ^ M := Nat.pow_lt_pow_right (by omega) hi
  have := hf i (List.mem_range.2 hi)
  rw [beq_iff_eq] at this
  rw [← sqs_congr (f := pmF (2 ^ M) (modN M) M) (fun a ha => by rw [pmF_eq _ _ _ _ _ ha, q_mul_def h2]) (fun a ha => hr.lt ha ha) M _ hlt]
  exact this

def gD (M f : Nat) : Nat := mulN 2 M f f ^^^ f
theorem gD_xor (h2 : 2 ≤ M) (h16 : M ≤ 16) {a b : Nat} (ha : a < 2 ^ M) (hb : b < 2 ^ M) : gD M (a ^^^ b) = gD M a ^^^ gD M b := by
  unfold gD
  rw [q_sq_xor h2 h16 ha hb, xor_4]
theorem chk_sound (h2 : 2 ≤ M) (h16 : M ≤ 16) (n : Nat) : n ≤ M → ∀ e acc, chk (dsOf M n) e acc = true → ∀ f, f < 2 ^ n → acc ^^^ gD M f ≠ 0 ∨ e * 2 ^ n + f ≤ 1 := by
  induction n with
  | zero =>
    intro _ e acc h f hf
    have : f = 0 := by simpa using hf
    subst this
    have h0 : gD M 0 = 0 := by unfold gD; rw [q_mul_def h2, pm_zero]; rfl
    rw [h0, Nat.xor_zero]
    rw [dsOf, chk, Bool.or_eq_true] at h
    rcases h with h | h
    · exact .inl (by simpa using h)
    · refine .inr ?_
      have := Nat.le_of_ble_eq_true h
      simpa using this
  | succ n ih =>
    intro hn e acc h f hf
    have hpow : 2 ^ (n + 1) ≤ 2 ^ M := Nat.pow_le_pow_right (by omega) hn
    have hpn : 2 ^ n < 2 ^ (n + 1) := by rw [Nat.pow_succ]; have := Nat.two_pow_pos n; omega
    rw [dsOf, chk, Bool.and_eq_true] at h
    rcases Nat.lt_or_ge f (2 ^ n) with hlt | hge
    · rcases ih (by omega) _ _ h.1 f hlt with h1 | h1
      · exact .inl h1
      · refine .inr ?_
        rw [Nat.pow_succ]
        have : e * (2 ^ n * 2) = 2 * e * 2 ^ n := by rw [Nat.mul_comm (2 ^ n), ← Nat.mul_assoc, Nat.mul_comm e]
        omega
    · obtain ⟨h1, h3⟩ := low_part hge hf
      have hg := gD_xor h2 h16 (a := 2 ^ n) (b := f - 2 ^ n) (by omega) (by omega)
      rw [← h3] at hg
      have hD : pmF (2 ^ M) (modN M) M (2 ^ n) (2 ^ n) ^^^ 2 ^ n = gD M (2 ^ n) := by
        unfold gD
        rw [pmF_eq _ _ _ _ _ (by omega), q_mul_def h2]
      rcases ih (by omega) _ _ h.2 (f - 2 ^ n) h1 with h4 | h4
      · refine .inl ?_
        rw [hg, ← Nat.xor_assoc, ← hD]
        exact h4
      · refine .inr ?_
        rw [Nat.pow_succ]
        have e1 : e * (2 ^ n * 2) = 2 * e * 2 ^ n := by rw [Nat.mul_comm (2 ^ n), ← Nat.mul_assoc, Nat.mul_comm e]
        have e2 : (2 * e + 1) * 2 ^ n = 2 * e * 2 ^ n + 2 ^ n := by rw [Nat.add_mul, Nat.one_mul]
        omega
theorem q_idem (h2 : 2 ≤ M) (h16 : M ≤ 16) {e : Nat} (he : e < 2 ^ M) (h : mulN 2 M e e = e) : e ≤ 1 := by
  rcases chk_sound h2 h16 M (Nat.le_refl _) 0 0 (chk_all M (by omega) h2) e he with h1 | h1
  · exfalso
    apply h1
    unfold gD
    rw [h, Nat.xor_self]; rfl
  · omega
theorem fermat_q (h2 : 2 ≤ M) (h16 : M ≤ 16) {a : Nat} (h0 : 0 < a) (ha : a < 2 ^ M) : np (mulN 2 M) a (2 ^ M - 1) = 1 := by
  have hr := rng_q h2 h16
  have hq2 := hr.two
  obtain ⟨q, hq⟩ : ∃ q, q = 2 ^ M := ⟨_, rfl⟩
  have hpq := q_pow_q h2 h16 ha
  rw [← hq] at hr hq2 ha hpq ⊢
  have hn := hr.np_lt ha (q - 1)
  have hn2 := hr.np_lt ha (q - 2)
  have e1 : np (mulN 2 M) a (q - 1) = mulN 2 M (np (mulN 2 M) a (q - 2)) a := by rw [show q - 1 = q - 2 + 1 by omega]; rfl
  have e2 : np (mulN 2 M) a q = mulN 2 M (np (mulN 2 M) a (q - 1)) a := by
    conv => lhs; rw [show q = q - 1 + 1 by omega]
    rfl
  rw [hpq] at e2
  have hid : mulN 2 M (np (mulN 2 M) a (q - 1)) (np (mulN 2 M) a (q - 1)) = np (mulN 2 M) a (q - 1) := by
    have h3 : mulN 2 M (mulN 2 M (np (mulN 2 M) a (q - 2)) a) (np (mulN 2 M) a (q - 1)) = np (mulN 2 M) a (q - 1) := by
      rw [hr.assoc hn2 ha hn, hr.comm ha hn, ← e2]; exact e1.symm
    rw [← e1] at h3
    exact h3
  have h1 := q_idem h2 h16 (by rw [← hq]; exact hn) hid
  rcases Nat.eq_zero_or_pos (np (mulN 2 M) a (q - 1)) with h3 | h3
  · exfalso
    rw [h3, hr.comm (by omega) ha, hr.zero ha] at e2
    omega
  · omega
end

/-- Fields on the numbers below q: rings with Fermat's theorem. -/
structure Fl (q : Nat) (add sub mul : Nat → Nat → Nat) : Prop extends Rng q add sub mul where
  fermat : ∀ {a : Nat}, 0 < a → a < q → np mul a (q - 1) = 1

theorem Fld.fl {P M q : Nat} (h : Fld P M q) : Fl q (addN P M) (subN P M) (mulN P M) := by
  refine ⟨h.rng, fun {a} h0 ha => ?_⟩
  rcases h with ⟨rfl, h1, h2, rfl⟩ | ⟨rfl, h1, h2, rfl⟩
  · exact fermat_p h1 h0 ha
  · exact fermat_q h1 h2 h0 ha

section
variable {q : Nat} {add sub mul : Nat → Nat → Nat}
theorem Fl.inv (h : Fl q add sub mul) {a : Nat} (h0 : 0 < a) (ha : a < q) : mul a (np mul a (q - 2)) = 1 := by
  have := h.fermat h0 ha
  have h2 := h.two
  rw [show q - 1 = q - 2 + 1 by omega] at this
  rw [h.comm ha (h.np_lt ha _)]
  exact this
theorem Fl.nzd (h : Fl q add sub mul) {a b : Nat} (h0 : 0 < a) (ha : a < q) (hb : b < q) (hab : mul a b = 0) : b = 0 := by
  have hi := h.inv h0 ha
  have hn := h.np_lt ha (q - 2)
  have h1 : mul (mul a (np mul a (q - 2))) b = mul (np mul a (q - 2)) (mul a b) := by rw [h.comm ha hn, h.assoc hn ha hb]
  rw [hi, hab, h.one hb, h.zero hn] at h1
  exact h1
theorem Fl.pos (h : Fl q add sub mul) {a b : Nat} (h0 : 0 < a) (ha : a < q) (h1 : 0 < b) (hb : b < q) : 0 < mul a b := by
  rcases Nat.eq_zero_or_pos (mul a b) with h2 | h2
  · have := h.nzd h0 ha hb h2; omega
  · exact h2
theorem Fl.np_pos (h : Fl q add sub mul) {a : Nat} (h0 : 0 < a) (ha : a < q) (k : Nat) : 0 < np mul a k := by
  induction k with
  | zero => exact Nat.one_pos
  | succ k ih => exact h.pos ih (h.np_lt ha k) h0 ha
/-- Cancelling. -/
theorem Fl.cancel (h : Fl q add sub mul) {a x y : Nat} (h0 : 0 < a) (ha : a < q) (hx : x < q) (hy : y < q) (he : mul a x = mul a y) : x = y := by
  have hi := h.inv h0 ha
  have hn := h.np_lt ha (q - 2)
  have key : ∀ z, z < q → mul (np mul a (q - 2)) (mul a z) = z := fun z hz => by rw [← h.assoc hn ha hz, h.comm hn ha, hi, h.one hz]
  rw [← key x hx, he, key y hy]
theorem Fl.pow_q (h : Fl q add sub mul) {a : Nat} (ha : a < q) : np mul a q = a := by
  have h2 := h.two
  rcases Nat.eq_zero_or_pos a with h0 | h0
  · subst h0
    conv => lhs; rw [show q = q - 1 + 1 by omega]
    exact h.zero (h.np_lt (by omega) _)
  · conv => lhs; rw [show q = q - 1 + 1 by omega]
    show mul (np mul a (q - 1)) a = a
    rw [h.fermat h0 ha, h.one ha]
end
end Go.Proofs.YtiiopdomlepkmaaDoor
