/-
  Plain facts: the check for primitive elements is sound; by the kernel, the fields of polynomials have one.
-/
import Derived.Test.YtfkeemhbehhclaaDoorFdx
namespace Go.Proofs.YtfkeemhbehhclaaDoor
open Go.RowKit

/-! Primitive elements, by the kernel. -/

def stripD : Nat → Nat → Nat → Nat
  | 0, _, r => r
  | f + 1, d, r => if r % d == 0 then stripD f d (r / d) else r

/-- Whether pf n' is not 1 at each n' that is n divided by a prime of the list, or by what is left of n. -/
def okG (pf : Nat → Nat) (n : Nat) : List Nat → Nat → Bool
  | [], r => Nat.ble r 1 || pf (n / r) != 1
  | d :: ds, r => if r % d == 0 then pf (n / d) != 1 && okG pf n ds (stripD 17 d r) else okG pf n ds r

def gs : List Nat := [1, 2, 3, 5, 6, 7, 10, 11, 13, 14, 15, 17, 19, 21, 22, 23, 26, 29, 31, 33, 35, 37, 38]
def chkP (p : Nat) : Bool := smallP.any (fun s => Nat.ble (s * s) p && p % s == 0) || gs.any fun g => Nat.ble (g + 1) p && okG (fun k => g ^ k % p) (p - 1) smallP (p - 1)

def allUpto (f : Nat → Bool) : Nat → Bool
  | 0 => true
  | n + 1 => f n && allUpto f n
theorem allUpto_at {f : Nat → Bool} : ∀ {n : Nat}, allUpto f n = true → ∀ i, i < n → f i = true
  | 0, _, i, hi => by omega
  | n + 1, h, i, hi => by
    rw [allUpto, Bool.and_eq_true] at h
    by_cases he : i = n
    · subst he; exact h.1
    · exact allUpto_at h.2 i (by omega)


theorem strip_sound {d : Nat} (hd : 2 ≤ d) : ∀ (f r : Nat), 0 < r → r < 2 ^ f → (0 < stripD f d r ∧ stripD f d r ∣ r) ∧ ¬ d ∣ stripD f d r ∧ ∀ e, Pr e → e ∣ r → e ∣ d ∨ e ∣ stripD f d r
  | 0, r, h0, h => by
    have : r < 1 := h
    omega
  | f + 1, r, h0, h => by
    rw [stripD]
    by_cases hm : r % d = 0
    · rw [if_pos (by simpa using hm)]
      obtain ⟨c, hc⟩ := Nat.dvd_of_mod_eq_zero hm
      have hrc : r / d = c := by rw [hc]; exact Nat.mul_div_cancel_left _ (by omega)
      have hc0 : 0 < c := by
        rcases Nat.eq_zero_or_pos c with h1 | h1
        · subst h1; simp at hc; omega
        · exact h1
      have hlt : c < 2 ^ f := by
        rw [Nat.pow_succ] at h
        have : 2 * c ≤ d * c := Nat.mul_le_mul_right _ hd
        omega
      obtain ⟨⟨h1, h2⟩, h3, h4⟩ := strip_sound hd f c hc0 hlt
      rw [hrc]
      refine ⟨⟨h1, Nat.dvd_trans h2 ⟨d, by rw [hc, Nat.mul_comm]⟩⟩, h3, fun e he hed => ?_⟩
      rw [hc] at hed
      rcases he.dvd_mul hed with h5 | h5
      · exact .inl h5
      · exact h4 e he h5
    · rw [if_neg (by simpa using hm)]
      exact ⟨⟨h0, Nat.dvd_refl _⟩, fun hd2 => hm (Nat.mod_eq_zero_of_dvd hd2), fun e _ hed => .inr hed⟩

/-- A prime below 257 is on the list. -/
theorem small_mem {e : Nat} (he : Pr e) (h : e < 257) : e ∈ smallP := by
  have hc := smallP_cover e h he.1
  rw [List.any_eq_true] at hc
  obtain ⟨p, hp, hpe⟩ := hc
  simp only [Bool.and_eq_true, beq_iff_eq, decide_eq_true_eq] at hpe
  have hp2 := smallP_bd p hp
  by_cases h1 : p = e
  · rw [← h1]; exact hp
  · exact absurd hpe.1 (he.2 p hp2.1 (by omega))

theorem exists_pr {n : Nat} (h : 2 ≤ n) : ∃ e, Pr e ∧ e ∣ n := by
  induction n using Nat.strongRecOn with
  | ind n ih =>
    by_cases hp : Pr n
    · exact ⟨n, hp, Nat.dvd_refl _⟩
    · have : ∃ d, 2 ≤ d ∧ d < n ∧ n % d = 0 := by
        apply Classical.byContradiction
        intro hn
        apply hp
        exact ⟨h, fun d h1 h2 h3 => hn ⟨d, h1, h2, h3⟩⟩
      obtain ⟨d, h1, h2, h3⟩ := this
      obtain ⟨e, he, hed⟩ := ih d h2 h1
      exact ⟨e, he, Nat.dvd_trans hed (Nat.dvd_of_mod_eq_zero h3)⟩

theorem okG_sound {pf : Nat → Nat} {n : Nat} : ∀ (ds : List Nat) (r : Nat), 0 < r → r ≤ 65535 → (∀ d ∈ ds, Pr d) → (∀ e, Pr e → e < 257 → e ∣ r → e ∈ ds) → okG pf n ds r = true → ∀ e, Pr e → e ∣ r → pf (n / e) ≠ 1
  | [], r, h0, h1, _, hs, hk, e, he, her => by
    have h257 : ∀ x, Pr x → x ∣ r → 257 ≤ x := by
      intro x hx hxr
      rcases Nat.lt_or_ge x 257 with h2 | h2
      · have := hs x hx h2 hxr; cases this
      · exact h2
    have hre : e = r := by
      obtain ⟨c, hc⟩ := her
      have hc0 : 0 < c := by
        rcases Nat.eq_zero_or_pos c with h2 | h2
        · subst h2; simp at hc; omega
        · exact h2
      by_cases h2 : c = 1
      · subst h2; omega
      · obtain ⟨x, hx, hxc⟩ := exists_pr (n := c) (by omega)
        have h3 := h257 x hx (Nat.dvd_trans hxc ⟨e, by rw [hc, Nat.mul_comm]⟩)
        have h4 := h257 e he ⟨c, hc⟩
        have h5 := Nat.le_of_dvd hc0 hxc
        have : 257 * 257 ≤ e * c := Nat.mul_le_mul h4 (by omega)
        omega
    subst hre
    rw [okG, Bool.or_eq_true] at hk
    rcases hk with h2 | h2
    · have := Nat.le_of_ble_eq_true h2
      have := he.1
      omega
    · simpa using h2
  | d :: ds, r, h0, h1, hp, hs, hk, e, he, her => by
    rw [okG] at hk
    have hd := hp d List.mem_cons_self
    by_cases hm : r % d = 0
    · rw [if_pos (by simpa using hm), Bool.and_eq_true] at hk
      obtain ⟨⟨h2, h3⟩, h4, h5⟩ := strip_sound hd.1 17 r h0 (by have : (2 : Nat) ^ 17 = 131072 := by decide
                                                                omega)
      rcases h5 e he her with h6 | h6
      · rw [he.dvd_pr hd h6]
        simpa using hk.1
      · refine okG_sound ds _ h2 (Nat.le_trans (Nat.le_of_dvd h0 h3) h1) (fun x hx => hp x (List.mem_cons_of_mem _ hx)) (fun x hx hx2 hxr => ?_) hk.2 e he h6
        rcases List.mem_cons.1 (hs x hx hx2 (Nat.dvd_trans hxr h3)) with h7 | h7
        · subst h7; exact absurd hxr h4
        · exact h7
    · rw [if_neg (by simpa using hm)] at hk
      refine okG_sound ds r h0 h1 (fun x hx => hp x (List.mem_cons_of_mem _ hx)) (fun x hx hx2 hxr => ?_) hk e he her
      rcases List.mem_cons.1 (hs x hx hx2 hxr) with h7 | h7
      · subst h7; exact absurd (Nat.mod_eq_zero_of_dvd hxr) hm
      · exact h7

theorem smallP_pr : ∀ p ∈ smallP, Pr p := by
  intro p hp
  have hb := smallP_bd p hp
  refine pr_of_none hb.1 (by omega) fun r hr hrr => ?_
  have : smallP.all (fun p => smallP.all fun r => Nat.ble (p + 1) (r * r) || p % r != 0) = true := by decide +kernel
  rw [List.all_eq_true] at this
  have := this p hp
  rw [List.all_eq_true] at this
  have := this r hr
  rw [Bool.or_eq_true] at this
  rcases this with h | h
  · have := Nat.le_of_ble_eq_true h; omega
  · simpa using h

theorem np_p {p g : Nat} (hp : 2 ≤ p) (k : Nat) : np (mulN p 1) g k = g ^ k % p := by
  induction k with
  | zero => show 1 = 1 % p; rw [Nat.mod_eq_of_lt (by omega)]
  | succ k ih =>
    show mulN p 1 (np (mulN p 1) g k) g = _
    rw [ih, show mulN p 1 (g ^ k % p) g = g ^ k % p * g % p from if_pos rfl, Nat.mod_mul_mod, Nat.pow_succ]

/-- A primitive element. -/
def PrimEl (P M q g : Nat) : Prop := 0 < g ∧ g < q ∧ ∀ e, Pr e → e ∣ q - 1 → np (mulN P M) g ((q - 1) / e) ≠ 1

theorem chkP_sound {p : Nat} (hp : Pr p) (h : p ≤ 65536) (hc : chkP p = true) : ∃ g, PrimEl p 1 p g := by
  rw [chkP, Bool.or_eq_true] at hc
  have h2 := hp.1
  rcases hc with h1 | h1
  · exfalso
    rw [List.any_eq_true] at h1
    obtain ⟨s, hs, h3⟩ := h1
    rw [Bool.and_eq_true] at h3
    exact not_pr (smallP_bd s hs).1 (Nat.le_of_ble_eq_true h3.1) (by simpa using h3.2) hp
  · rw [List.any_eq_true] at h1
    obtain ⟨g, hg, h3⟩ := h1
    rw [Bool.and_eq_true] at h3
    have hgp := Nat.le_of_ble_eq_true h3.1
    have hg1 : 0 < g := by
      have : gs.all (fun g => Nat.ble 1 g) = true := by decide
      rw [List.all_eq_true] at this
      exact Nat.le_of_ble_eq_true (this g hg)
    refine ⟨g, hg1, by omega, fun e he hed => ?_⟩
    have := okG_sound (pf := fun k => g ^ k % p) (n := p - 1) smallP (p - 1) (by omega) (by omega) smallP_pr (fun e he h257 _ => small_mem he h257) h3.2 e he hed
    rw [np_p h2]
    exact this

/-! Of polynomials: powers that the kernel reckons. -/
def pwK (q m w : Nat) : Nat → Nat → Nat → Nat → Nat
  | 0, r, _, _ => r
  | f + 1, r, a, k => if Nat.beq k 0 then r else pwK q m w f (if k % 2 == 1 then pmF q m w r a else r) (pmF q m w a a) (k / 2)
theorem pwK_eq {M : Nat} (h2 : 2 ≤ M) (h16 : M ≤ 16) (f : Nat) : ∀ r a k, r < 2 ^ M → a < 2 ^ M → k < 2 ^ f → pwK (2 ^ M) (modN M) M f r a k = pw (mulN 2 M) r a k := by
  have hr := rng_q h2 h16
  induction f with
  | zero => intro r a k _ _ hk; have : k = 0 := by simpa using hk
            subst this; rw [pw_zero]; rfl
  | succ f ih =>
    intro r a k h1 h3 hk
    rw [pwK]
    by_cases h0 : k = 0
    · subst h0; rw [pw_zero]; rfl
    · rw [if_neg (by simpa using h0)]
      have e1 : pmF (2 ^ M) (modN M) M r a = mulN 2 M r a := by rw [pmF_eq _ _ _ _ _ h3, q_mul_def h2]
      have e2 : pmF (2 ^ M) (modN M) M a a = mulN 2 M a a := by rw [pmF_eq _ _ _ _ _ h3, q_mul_def h2]
      rw [e1, e2, Nat.pow_succ] at *
      by_cases hodd : k % 2 = 1
      · rw [if_pos (by simpa using hodd), ih _ _ _ (hr.lt h1 h3) (hr.lt h3 h3) (by omega)]
        exact pw_odd _ hodd rfl
      · rw [if_neg (by simpa using hodd), ih _ _ _ h1 (hr.lt h3 h3) (by omega)]
        exact pw_even _ (by omega) hodd rfl
def chkQ (M : Nat) : Bool := [2, 3, 5, 6, 7, 9, 11, 13].any fun g => Nat.ble (g + 1) (2 ^ M) && okG (fun k => pwK (2 ^ M) (modN M) M 17 1 g k) (2 ^ M - 1) smallP (2 ^ M - 1)
theorem chkQ_all : ∀ M, M < 17 → 2 ≤ M → chkQ M = true := by decide +kernel
theorem prim_q {M : Nat} (h2 : 2 ≤ M) (h16 : M ≤ 16) : ∃ g, PrimEl 2 M (2 ^ M) g := by
  have hr := rng_q h2 h16
  have hc := chkQ_all M (by omega) h2
  rw [chkQ, List.any_eq_true] at hc
  obtain ⟨g, hg, h3⟩ := hc
  rw [Bool.and_eq_true] at h3
  have hgp := Nat.le_of_ble_eq_true h3.1
  have hq := pow16 h16
  have hq2 := hr.two
  have hg1 : 0 < g := by
    rcases Nat.eq_zero_or_pos g with h | h
    · subst h; simp at hg
    · exact h
  refine ⟨g, hg1, by omega, fun e he hed => ?_⟩
  have := okG_sound (pf := fun k => pwK (2 ^ M) (modN M) M 17 1 g k) (n := 2 ^ M - 1) smallP (2 ^ M - 1) (by omega) (by omega) smallP_pr (fun e he h257 _ => small_mem he h257) h3.2 e he hed
  have hle : (2 ^ M - 1) / e ≤ 2 ^ M - 1 := Nat.div_le_self _ _
  have e17 : (2 : Nat) ^ 17 = 131072 := by decide
  rw [pwK_eq h2 h16 17 1 g _ (by omega) (by omega) (by omega), hr.pw_eq _ (by omega) (by omega), hr.one (hr.np_lt (by omega) _)] at this
  exact this
end Go.Proofs.YtfkeemhbehhclaaDoor
