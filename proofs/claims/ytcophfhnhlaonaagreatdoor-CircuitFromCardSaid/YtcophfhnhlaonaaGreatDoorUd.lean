/-
  Joined from Fdv, Fdw, Fdx: see there.
-/
import Derived.Test.YtcophfhnhlaonaaGreatDoorUc
namespace Go.Proofs.YtcophfhnhlaonaaGreatDoor
open Go.RowKit

/-! Commutative monoids on the numbers below q, and powers. -/

structure Mon (q : Nat) (mul : Nat → Nat → Nat) : Prop where
  two : 2 ≤ q
  lt : ∀ {a b : Nat}, a < q → b < q → mul a b < q
  comm : ∀ {a b : Nat}, a < q → b < q → mul a b = mul b a
  assoc : ∀ {a b c : Nat}, a < q → b < q → c < q → mul (mul a b) c = mul a (mul b c)
  one : ∀ {a : Nat}, a < q → mul 1 a = a

def np (mul : Nat → Nat → Nat) (a : Nat) : Nat → Nat
  | 0 => 1
  | k + 1 => mul (np mul a k) a

section
variable {q : Nat} {mul : Nat → Nat → Nat}
theorem Mon.mul_one (h : Mon q mul) {a : Nat} (ha : a < q) : mul a 1 = a := by
  rw [h.comm ha (by have := h.two; omega)]; exact h.one ha
theorem Mon.np_lt (h : Mon q mul) {a : Nat} (ha : a < q) (k : Nat) : np mul a k < q := by
  induction k with
  | zero => have := h.two; show 1 < q; omega
  | succ k ih => exact h.lt ih ha
theorem Mon.np_one (h : Mon q mul) {a : Nat} (ha : a < q) : np mul a 1 = a := h.one ha
theorem Mon.np_add (h : Mon q mul) {a : Nat} (ha : a < q) (j k : Nat) : np mul a (j + k) = mul (np mul a j) (np mul a k) := by
  induction k with
  | zero => exact (h.mul_one (h.np_lt ha j)).symm
  | succ k ih =>
    show mul (np mul a (j + k)) a = mul (np mul a j) (mul (np mul a k) a)
    rw [ih, h.assoc (h.np_lt ha j) (h.np_lt ha k) ha]
theorem Mon.np_ones (h : Mon q mul) (k : Nat) : np mul 1 k = 1 := by
  induction k with
  | zero => rfl
  | succ k ih => show mul (np mul 1 k) 1 = 1; rw [ih]; exact h.one (by have := h.two; omega)
theorem Mon.np_mul (h : Mon q mul) {a : Nat} (ha : a < q) (j k : Nat) : np mul (np mul a j) k = np mul a (j * k) := by
  induction k with
  | zero => rfl
  | succ k ih =>
    show mul (np mul (np mul a j) k) (np mul a j) = _
    rw [ih, ← h.np_add ha, Nat.mul_succ]
theorem Mon.np_prod (h : Mon q mul) {a b : Nat} (ha : a < q) (hb : b < q) (k : Nat) : np mul (mul a b) k = mul (np mul a k) (np mul b k) := by
  induction k with
  | zero => exact (h.one (show 1 < q by have := h.two; omega)).symm
  | succ k ih =>
    show mul (np mul (mul a b) k) (mul a b) = mul (mul (np mul a k) a) (mul (np mul b k) b)
    have h1 := h.np_lt ha k
    have h2 := h.np_lt hb k
    rw [ih, h.assoc h1 h2 (h.lt ha hb), h.assoc h1 ha (h.lt h2 hb), ← h.assoc h2 ha hb, h.comm h2 ha, h.assoc ha h2 hb]
theorem Mon.pw_eq (h : Mon q mul) (k : Nat) : ∀ {r a : Nat}, r < q → a < q → pw mul r a k = mul r (np mul a k) := by
  induction k using Nat.strongRecOn with
  | ind k ih =>
    intro r a hr ha
    by_cases h0 : k = 0
    · subst h0; rw [pw_zero]; exact (h.mul_one hr).symm
    · have h2 : np mul (mul a a) (k / 2) = np mul a (2 * (k / 2)) := by
        rw [← h.np_mul ha 2, show np mul a 2 = mul a a by show mul (mul 1 a) a = _; rw [h.one ha]]
      by_cases h1 : k % 2 = 1
      · rw [← pw_odd mul h1 rfl, ih (k / 2) (by omega) (h.lt hr ha) (h.lt ha ha), h2, h.assoc hr ha (h.np_lt ha _)]
        have : k = 1 + 2 * (k / 2) := by omega
        conv => rhs; rw [this]
        rw [h.np_add ha, h.np_one ha]
      · rw [← pw_even mul (by omega) h1 rfl, ih (k / 2) (by omega) hr (h.lt ha ha), h2]
        have : k = 2 * (k / 2) := by omega
        conv => rhs; rw [this]
end

/-- Rings on the numbers below q. -/
structure Rng (q : Nat) (add sub mul : Nat → Nat → Nat) : Prop extends Mon q mul where
  add_lt : ∀ {a b : Nat}, a < q → b < q → add a b < q
  sub_lt : ∀ {a b : Nat}, a < q → b < q → sub a b < q
  add_comm : ∀ {a b : Nat}, a < q → b < q → add a b = add b a
  add_assoc : ∀ {a b c : Nat}, a < q → b < q → c < q → add (add a b) c = add a (add b c)
  add_zero : ∀ {a : Nat}, a < q → add a 0 = a
  sub_add : ∀ {a b : Nat}, a < q → b < q → sub (add a b) b = a
  add_sub : ∀ {a b : Nat}, a < q → b < q → add (sub a b) b = a
  distrib : ∀ {a b c : Nat}, a < q → b < q → c < q → mul a (add b c) = add (mul a b) (mul a c)
  zero : ∀ {a : Nat}, a < q → mul a 0 = 0

/-! The integers modulo a prime. -/
theorem rng_p {p : Nat} (hp : Pr p) : Rng p (addN p 1) (subN p 1) (mulN p 1) := by
  have h2 := hp.1
  have hpos : 0 < p := by omega
  have hm : ∀ a b, mulN p 1 a b = a * b % p := fun _ _ => if_pos rfl
  have ha : ∀ a b, addN p 1 a b = (a + b) % p := fun _ _ => if_pos rfl
  have hs : ∀ a b, subN p 1 a b = (a + (p - b)) % p := fun _ _ => if_pos rfl
  constructor
  · constructor
    · exact h2
    · intro a b _ _; rw [hm]; exact Nat.mod_lt _ hpos
    · intro a b _ _; rw [hm, hm, Nat.mul_comm]
    · intro a b c _ _ _; rw [hm, hm, hm, hm, Nat.mod_mul_mod, Nat.mul_mod_mod, Nat.mul_assoc]
    · intro a h; rw [hm, Nat.one_mul, Nat.mod_eq_of_lt h]
  · intro a b _ _; rw [ha]; exact Nat.mod_lt _ hpos
  · intro a b _ _; rw [hs]; exact Nat.mod_lt _ hpos
  · intro a b _ _; rw [ha, ha, Nat.add_comm]
  · intro a b c _ _ _; rw [ha, ha, ha, ha, Nat.mod_add_mod, Nat.add_mod_mod, Nat.add_assoc]
  · intro a h; rw [ha, Nat.add_zero, Nat.mod_eq_of_lt h]
  · intro a b h1 h2
    rw [ha, hs, Nat.mod_add_mod, show a + b + (p - b) = a + p by omega, Nat.add_mod_right, Nat.mod_eq_of_lt h1]
  · intro a b h1 h2
    rw [ha, hs, Nat.mod_add_mod, show a + (p - b) + b = a + p by omega, Nat.add_mod_right, Nat.mod_eq_of_lt h1]
  · intro a b c _ _ _
    rw [hm, hm, hm, ha, ha, Nat.mul_mod_mod, Nat.mod_add_mod, Nat.add_mod_mod, Nat.mul_add]
  · intro a _; rw [hm, Nat.mul_zero, Nat.zero_mod]

/-! The carry-less product. -/
theorem two_mul_xor (a b : Nat) : 2 * (a ^^^ b) = 2 * a ^^^ 2 * b := by
  have := two_xor a b 0 0 (by omega) (by omega)
  simpa using this.symm
theorem two_xor_bit (x c : Nat) (hc : c < 2) : 2 * x ^^^ c = 2 * x + c := by
  have := two_xor x 0 0 c (by omega) hc
  simp only [Nat.add_zero, Nat.mul_zero, Nat.zero_add, Nat.xor_zero] at this
  rw [this, Nat.mod_eq_of_lt hc]
theorem clm_two_left (b : Nat) : ∀ a, clm (2 * a) b = 2 * clm a b := by
  induction b using Nat.strongRecOn with
  | ind b ih =>
    intro a
    by_cases h0 : b = 0
    · subst h0; rw [clm_zero, clm_zero]
    · rw [clm_step (2 * a), clm_step a, ih (b / 2) (by omega), two_mul_xor]
      congr 1
      split <;> rfl
theorem clm_rec (a b : Nat) : clm a b = (if b % 2 = 1 then a else 0) ^^^ 2 * clm a (b / 2) := by
  rw [← clm_two_left]; exact clm_step a b
theorem clm_zero_left (b : Nat) : clm 0 b = 0 := by
  induction b using Nat.strongRecOn with
  | ind b ih =>
    by_cases h0 : b = 0
    · subst h0; rw [clm_zero]
    · rw [clm_rec, ih (b / 2) (by omega)]; split <;> rfl
theorem clm_one_left (b : Nat) : clm 1 b = b := by
  induction b using Nat.strongRecOn with
  | ind b ih =>
    by_cases h0 : b = 0
    · subst h0; rw [clm_zero]
    · rw [clm_rec, ih (b / 2) (by omega), Nat.xor_comm]
      split
      · rw [two_xor_bit _ 1 (by omega)]; omega
      · rw [Nat.xor_zero]; omega
theorem xor_4 (a b c d : Nat) : (a ^^^ b) ^^^ (c ^^^ d) = (a ^^^ c) ^^^ (b ^^^ d) := by
  rw [Nat.xor_assoc, Nat.xor_assoc, ← Nat.xor_assoc b c d, ← Nat.xor_assoc c b d, Nat.xor_comm b c]
theorem clm_xor_left (c : Nat) : ∀ a b, clm (a ^^^ b) c = clm a c ^^^ clm b c := by
  induction c using Nat.strongRecOn with
  | ind c ih =>
    intro a b
    by_cases h0 : c = 0
    · subst h0; rw [clm_zero, clm_zero, clm_zero]; rfl
    · rw [clm_rec (a ^^^ b), clm_rec a, clm_rec b, ih (c / 2) (by omega), two_mul_xor, xor_4]
      congr 1
      split
      · rfl
      · rfl
theorem bit_split (a : Nat) : a = 2 * (a / 2) ^^^ a % 2 := by rw [two_xor_bit _ _ (by omega)]; omega
theorem clm_comm (a : Nat) : ∀ b, clm a b = clm b a := by
  induction a using Nat.strongRecOn with
  | ind a ih =>
    intro b
    by_cases h0 : a = 0
    · subst h0; rw [clm_zero, clm_zero_left]
    · conv => lhs; rw [bit_split a, clm_xor_left, clm_two_left, ih (a / 2) (by omega)]
      rw [clm_rec b a, Nat.xor_comm]
      congr 1
      split
      · rename_i h; rw [h, clm_one_left]
      · rename_i h; rw [show a % 2 = 0 by omega, clm_zero_left]
theorem clm_xor_right (a b c : Nat) : clm a (b ^^^ c) = clm a b ^^^ clm a c := by
  rw [clm_comm a, clm_xor_left, clm_comm b, clm_comm c]
theorem clm_two_right (a b : Nat) : clm a (2 * b) = 2 * clm a b := by rw [clm_comm a, clm_two_left, clm_comm b]
theorem clm_assoc (c : Nat) : ∀ a b, clm (clm a b) c = clm a (clm b c) := by
  induction c using Nat.strongRecOn with
  | ind c ih =>
    intro a b
    by_cases h0 : c = 0
    · subst h0; rw [clm_zero, clm_zero, clm_zero]
    · rw [clm_rec (clm a b), clm_rec b, clm_xor_right, clm_two_right, ih (c / 2) (by omega)]
      congr 1
      split
      · rfl
      · rw [clm_zero]

section
variable {M q m : Nat}
theorem Mod.pm_red (h : Mod M q m) {a : Nat} (ha : a < q) (b : Nat) : pm q m a b = red q m (clm a b) := by rw [h.red_clm, h.red_small ha]
theorem Mod.clm_red_left (h : Mod M q m) (x c : Nat) : red q m (clm (red q m x) c) = red q m (clm x c) := by rw [h.red_clm, h.red_clm, h.red_idem]
theorem Mod.clm_red_right (h : Mod M q m) (a x : Nat) : red q m (clm a (red q m x)) = red q m (clm a x) := by rw [clm_comm a, h.clm_red_left, clm_comm x]
end

/-! The polynomials modulo a modulus. -/
theorem rng_q {M : Nat} (h2 : 2 ≤ M) (h16 : M ≤ 16) : Rng (2 ^ M) (addN 2 M) (subN 2 M) (mulN 2 M) := by
  have hd := mod_at h2 h16
  have hne : ¬ M = 1 := by omega
  have hm : ∀ a b, mulN 2 M a b = pm (2 ^ M) (modN M) a b := fun _ _ => if_neg hne
  have ha : ∀ a b, addN 2 M a b = a ^^^ b := fun _ _ => if_neg hne
  have hs : ∀ a b, subN 2 M a b = a ^^^ b := fun _ _ => if_neg hne
  have hq2 : 2 ≤ 2 ^ M := by
    have : 2 ^ 1 ≤ 2 ^ M := Nat.pow_le_pow_right (by omega) (by omega)
    exact this
  constructor
  · constructor
    · exact hq2
    · intro a b h1 _; rw [hm]; exact hd.pm_lt b h1
    · intro a b h1 h2; rw [hm, hm, hd.pm_red h1, hd.pm_red h2, clm_comm]
    · intro a b c h1 h2 h3
      rw [hm, hm, hm, hm, hd.pm_red (hd.pm_lt b h1), hd.pm_red h1, hd.pm_red h1, hd.pm_red h2, hd.clm_red_left, hd.clm_red_right, clm_assoc]
    · intro a h1; rw [hm, hd.pm_red (by omega), clm_one_left, hd.red_small h1]
  · intro a b h1 h2; rw [ha]; exact hd.xor_lt h1 h2
  · intro a b h1 h2; rw [hs]; exact hd.xor_lt h1 h2
  · intro a b _ _; rw [ha, ha, Nat.xor_comm]
  · intro a b c _ _ _; rw [ha, ha, ha, ha, Nat.xor_assoc]
  · intro a _; rw [ha, Nat.xor_zero]
  · intro a b _ _; rw [ha, hs, Nat.xor_assoc, Nat.xor_self, Nat.xor_zero]
  · intro a b _ _; rw [ha, hs, Nat.xor_assoc, Nat.xor_self, Nat.xor_zero]
  · intro a b c h1 h2 h3
    rw [ha, ha, hm, hm, hm, hd.pm_red h1, hd.pm_red h1, hd.pm_red h1, clm_xor_right, hd.red_xor]
  · intro a _; rw [hm, pm_zero]

theorem Fld.rng {P M q : Nat} (h : Fld P M q) : Rng q (addN P M) (subN P M) (mulN P M) := by
  rcases h with ⟨rfl, h1, h2, rfl⟩ | ⟨rfl, h1, h2, rfl⟩
  · exact rng_p h1
  · exact rng_q h1 h2
theorem Fld.pow_eq {P M q a : Nat} (h : Fld P M q) (ha : a < q) (k : Nat) : powN P M a k = np (mulN P M) a k := by
  have hr := h.rng
  unfold powN
  rw [hr.pw_eq k (by have := h.q_ge; omega) ha]
  exact hr.one (hr.np_lt ha k)
end Go.Proofs.YtcophfhnhlaonaaGreatDoor
namespace Go.Proofs.YtcophfhnhlaonaaGreatDoor
open Go.RowKit

/-! Fermat's theorem modulo a prime. -/

theorem p_cancel {p a x y : Nat} (hp : Pr p) (ha : 0 < a) (hap : a < p) (hx : x < p) (hy : y < p) (h : a * x % p = a * y % p) : x = y := by
  have key : ∀ u v, u < p → v < p → a * u % p = a * v % p → v ≤ u → u = v := by
    intro u v hu hv he hle
    have h1 := Nat.sub_mod_eq_zero_of_mod_eq he
    rw [← Nat.mul_sub] at h1
    rcases hp.dvd_mul (Nat.dvd_of_mod_eq_zero h1) with h2 | h2
    · have := Nat.le_of_dvd ha h2; omega
    · by_cases h3 : u - v = 0
      · omega
      · have := Nat.le_of_dvd (by omega) h2; omega
  rcases Nat.le_total y x with h1 | h1
  · exact key x y hx hy h h1
  · exact (key y x hy hx h.symm h1).symm

theorem nodup_map_on {f : Nat → Nat} : ∀ {l : List Nat}, (∀ x ∈ l, ∀ y ∈ l, f x = f y → x = y) → l.Nodup → (l.map f).Nodup
  | [], _, _ => List.nodup_nil
  | a :: l, hf, hn => by
    rw [List.nodup_cons] at hn
    rw [List.map_cons, List.nodup_cons]
    refine ⟨fun hm => ?_, nodup_map_on (fun x hx y hy => hf x (List.mem_cons_of_mem _ hx) y (List.mem_cons_of_mem _ hy)) hn.2⟩
    obtain ⟨b, hb, he⟩ := List.mem_map.1 hm
    have := hf b (List.mem_cons_of_mem _ hb) a List.mem_cons_self he
    subst this
    exact hn.1 hb

/-- A map of a finite list into itself that is injective on it is onto. -/
theorem onto_of_inj {l l' : List Nat} (hl' : l'.Nodup) (hlen : l.length ≤ l'.length) (hsub : ∀ x ∈ l', x ∈ l) : ∀ x ∈ l, x ∈ l' := by
  intro x hx
  by_cases h : x ∈ l'
  · exact h
  · exfalso
    have hn : (x :: l').Nodup := List.nodup_cons.2 ⟨h, hl'⟩
    have hs : (x :: l') ⊆ l := by
      intro y hy
      rcases List.mem_cons.1 hy with rfl | hy
      · exact hx
      · exact hsub y hy
    have := List.Nodup.length_le_of_subset hn hs
    simp only [List.length_cons] at this
    omega

theorem prod_map {q : Nat} {mul : Nat → Nat → Nat} (h : Mon q mul) {a : Nat} (ha : a < q) : ∀ (l : List Nat), (∀ x ∈ l, x < q) → (l.foldr mul 1 < q) ∧ (l.map (mul a)).foldr mul 1 = mul (np mul a l.length) (l.foldr mul 1)
  | [], _ => ⟨show 1 < q by have := h.two; omega, (h.one (show 1 < q by have := h.two; omega)).symm⟩
  | x :: l, hl => by
    obtain ⟨h1, h2⟩ := prod_map h ha l (fun y hy => hl y (List.mem_cons_of_mem _ hy))
    have hx := hl x List.mem_cons_self
    refine ⟨h.lt hx h1, ?_⟩
    have hn := h.np_lt ha l.length
    show mul (mul a x) ((l.map (mul a)).foldr mul 1) = mul (mul (np mul a l.length) a) (mul x (l.foldr mul 1))
    rw [h2, h.assoc ha hx (h.lt hn h1), ← h.assoc hx hn h1, h.comm hx hn, h.assoc hn hx h1, ← h.assoc ha hn (h.lt hx h1), h.comm ha hn]

theorem fermat_p {p a : Nat} (hp : Pr p) (ha : 0 < a) (hap : a < p) : np (mulN p 1) a (p - 1) = 1 := by
  have hr := rng_p hp
  have hm : ∀ a b, mulN p 1 a b = a * b % p := fun _ _ => if_pos rfl
  have h2 := hp.1
  have hmem : ∀ x, x ∈ List.range' 1 (p - 1) ↔ 1 ≤ x ∧ x < p := fun x => by rw [List.mem_range'_1]; omega
  have hnz : ∀ x, 0 < x → x < p → 0 < mulN p 1 a x := by
    intro x h1 h3
    rcases Nat.eq_zero_or_pos (mulN p 1 a x) with h0 | h0
    · exfalso
      rw [hm] at h0
      have := p_cancel hp ha hap h3 (by omega : 0 < p) (by rw [h0, Nat.mul_zero, Nat.zero_mod])
      omega
    · exact h0
  have hnd : (List.range' 1 (p - 1)).Nodup := List.nodup_range'
  have hnd2 : ((List.range' 1 (p - 1)).map (mulN p 1 a)).Nodup := by
    refine nodup_map_on (fun x hx y hy he => ?_) hnd
    rw [hmem] at hx hy
    rw [hm, hm] at he
    exact p_cancel hp ha hap hx.2 hy.2 he
  have hsub : ∀ x ∈ (List.range' 1 (p - 1)).map (mulN p 1 a), x ∈ List.range' 1 (p - 1) := by
    intro x hx
    obtain ⟨y, hy, rfl⟩ := List.mem_map.1 hx
    rw [hmem] at hy ⊢
    have := hnz y (by omega) hy.2
    exact ⟨this, hr.lt hap hy.2⟩
  have hon := onto_of_inj hnd2 (by simp) hsub
  have hperm : ((List.range' 1 (p - 1)).map (mulN p 1 a)).Perm (List.range' 1 (p - 1)) := (List.perm_ext_iff_of_nodup hnd2 hnd).2 fun x => ⟨hsub x, hon x⟩
  have hlt : ∀ x ∈ List.range' 1 (p - 1), x < p := fun x hx => ((hmem x).1 hx).2
  obtain ⟨h3, h4⟩ := prod_map hr.toMon hap (List.range' 1 (p - 1)) hlt
  have h5 : ((List.range' 1 (p - 1)).map (mulN p 1 a)).foldr (mulN p 1) 1 = (List.range' 1 (p - 1)).foldr (mulN p 1) 1 := by
    refine hperm.foldr_eq' (fun x _ y _ z => ?_) 1
    rw [hm, hm, hm, hm, Nat.mul_mod_mod, Nat.mul_mod_mod, ← Nat.mul_assoc, ← Nat.mul_assoc, Nat.mul_comm y x]
  have hpos : ∀ l : List Nat, (∀ x ∈ l, 1 ≤ x ∧ x < p) → 0 < l.foldr (mulN p 1) 1 ∧ l.foldr (mulN p 1) 1 < p := by
    intro l
    induction l with
    | nil => intro _; exact ⟨Nat.one_pos, by show 1 < p; omega⟩
    | cons x l ih =>
      intro hl
      obtain ⟨i1, i2⟩ := ih fun y hy => hl y (List.mem_cons_of_mem _ hy)
      obtain ⟨j1, j2⟩ := hl x List.mem_cons_self
      refine ⟨?_, hr.lt j2 i2⟩
      show 0 < mulN p 1 x _
      rcases Nat.eq_zero_or_pos (mulN p 1 x (l.foldr (mulN p 1) 1)) with h0 | h0
      · exfalso
        rw [hm] at h0
        have := p_cancel hp j1 j2 i2 (by omega : 0 < p) (by rw [h0, Nat.mul_zero, Nat.zero_mod])
        omega
      · exact h0
  obtain ⟨k1, k2⟩ := hpos _ fun x hx => (hmem x).1 hx
  rw [h5] at h4
  have hlen : (List.range' 1 (p - 1)).length = p - 1 := List.length_range'
  rw [hlen] at h4
  generalize (List.range' 1 (p - 1)).foldr (mulN p 1) 1 = Z at h3 h4 k1 k2
  have hn := hr.np_lt hap (p - 1)
  have h6 : mulN p 1 Z (np (mulN p 1) a (p - 1)) = mulN p 1 Z 1 := by
    rw [hr.comm k2 hn, ← h4, hr.mul_one k2]
  rw [hm, hm] at h6
  exact p_cancel hp k1 k2 hn (by omega) h6

/-! Squares of polynomials. -/

def pmF (q m : Nat) : Nat → Nat → Nat → Nat
  | 0, _, _ => 0
  | f + 1, a, b => (if b % 2 = 1 then a else 0) ^^^ pmF q m f (sred q m (2 * a)) (b / 2)
theorem pmF_eq (q m : Nat) (f : Nat) : ∀ a b, b < 2 ^ f → pmF q m f a b = pm q m a b := by
  induction f with
  | zero => intro a b hb; have : b = 0 := by simpa using hb
            subst this; rw [pm_zero]; rfl
  | succ f ih =>
    intro a b hb
    rw [Nat.pow_succ] at hb
    rw [pm_step, pmF, ih _ _ (by omega)]

/-- Squaring k times. -/
def sqs (mul : Nat → Nat → Nat) : Nat → Nat → Nat
  | 0, a => a
  | k + 1, a => sqs mul k (mul a a)
theorem Mon.sqs_np {q : Nat} {mul : Nat → Nat → Nat} (h : Mon q mul) (k : Nat) : ∀ {a : Nat}, a < q → sqs mul k a = np mul a (2 ^ k) := by
  induction k with
  | zero => intro a ha; exact (h.np_one ha).symm
  | succ k ih =>
    intro a ha
    rw [sqs, ih (h.lt ha ha), Nat.pow_succ, Nat.mul_comm, ← h.np_mul ha 2, show np mul a 2 = mul a a by show mul (mul 1 a) a = _; rw [h.one ha]]

def frobOk (M : Nat) : Bool := (List.range M).all fun i => sqs (pmF (2 ^ M) (modN M) M) M (2 ^ i) == 2 ^ i
theorem frob_all : ∀ M, M < 17 → 2 ≤ M → frobOk M = true := by decide +kernel

def dsOf (M : Nat) : Nat → List Nat
  | 0 => []
  | n + 1 => (pmF (2 ^ M) (modN M) M (2 ^ n) (2 ^ n) ^^^ 2 ^ n) :: dsOf M n
def chk : List Nat → Nat → Nat → Bool
  | [], e, acc => acc != 0 || Nat.ble e 1
  | d :: ds, e, acc => chk ds (2 * e) acc && chk ds (2 * e + 1) (acc ^^^ d)
theorem chk_all : ∀ M, M < 17 → 2 ≤ M → chk (dsOf M M) 0 0 = true := by decide +kernel
end Go.Proofs.YtcophfhnhlaonaaGreatDoor
namespace Go.Proofs.YtcophfhnhlaonaaGreatDoor
open Go.RowKit

theorem pow_xor (n : Nat) : ∀ x, x < 2 ^ n → 2 ^ n ^^^ x = 2 ^ n + x := by
  induction n with
  | zero => intro x hx; have : x = 0 := by simpa using hx
            subst this; rfl
  | succ n ih =>
    intro x hx
    rw [Nat.pow_succ] at hx ⊢
    have h1 := two_xor (2 ^ n) (x / 2) 0 (x % 2) (by omega) (by omega)
    rw [ih (x / 2) (by omega)] at h1
    have e1 : 2 ^ n * 2 = 2 * 2 ^ n + 0 := by omega
    have e2 : x = 2 * (x / 2) + x % 2 := by omega
    rw [e1]
    conv => lhs; rw [e2]
    rw [h1]
    omega
theorem low_part {n x : Nat} (h1 : 2 ^ n ≤ x) (h2 : x < 2 ^ (n + 1)) : x - 2 ^ n < 2 ^ n ∧ x = 2 ^ n ^^^ (x - 2 ^ n) := by
  rw [Nat.pow_succ] at h2
  have h3 : x - 2 ^ n < 2 ^ n := by omega
  exact ⟨h3, by rw [pow_xor n _ h3]; omega⟩

/-- A linear map that keeps the powers of x keeps all polynomials. -/
theorem lin_id {M : Nat} {L : Nat → Nat} (hl : ∀ a b, a < 2 ^ M → b < 2 ^ M → L (a ^^^ b) = L a ^^^ L b) (hb : ∀ i, i < M → L (2 ^ i) = 2 ^ i) (n : Nat) : n ≤ M → ∀ a, a < 2 ^ n → L a = a := by
  induction n with
  | zero =>
    intro _ a ha
    have : a = 0 := by simpa using ha
    subst this
    have := hl 0 0 (Nat.two_pow_pos _) (Nat.two_pow_pos _)
    rw [Nat.xor_self, Nat.xor_self] at this
    exact this
  | succ n ih =>
    intro hn a ha
    have hpow : 2 ^ (n + 1) ≤ 2 ^ M := Nat.pow_le_pow_right (by omega) hn
    have hpn : 2 ^ n < 2 ^ (n + 1) := by rw [Nat.pow_succ]; have := Nat.two_pow_pos n; omega
    rcases Nat.lt_or_ge a (2 ^ n) with h | h
    · exact ih (by omega) a h
    · obtain ⟨h1, h2⟩ := low_part h ha
      have h3 := hl (2 ^ n) (a - 2 ^ n) (by omega) (by omega)
      rw [← h2, hb n (by omega), ih (by omega) _ h1, ← h2] at h3
      exact h3

section
variable {M : Nat}
theorem q_mul_def (h2 : 2 ≤ M) (a b : Nat) : mulN 2 M a b = pm (2 ^ M) (modN M) a b := if_neg (by omega)
theorem q_sq_xor (h2 : 2 ≤ M) (h16 : M ≤ 16) {a b : Nat} (ha : a < 2 ^ M) (hb : b < 2 ^ M) : mulN 2 M (a ^^^ b) (a ^^^ b) = mulN 2 M a a ^^^ mulN 2 M b b := by
  have hd := mod_at h2 h16
  rw [q_mul_def h2, q_mul_def h2, q_mul_def h2, hd.pm_red (hd.xor_lt ha hb), hd.pm_red ha, hd.pm_red hb, ← hd.red_xor, clm_xor_left, clm_xor_right, clm_xor_right, clm_comm b a]
  congr 1
  rw [Nat.xor_assoc, ← Nat.xor_assoc (clm a b) (clm a b), Nat.xor_self, Nat.zero_xor]
theorem q_sqs_xor (h2 : 2 ≤ M) (h16 : M ≤ 16) (k : Nat) : ∀ a b, a < 2 ^ M → b < 2 ^ M → sqs (mulN 2 M) k (a ^^^ b) = sqs (mulN 2 M) k a ^^^ sqs (mulN 2 M) k b := by
  have hr := rng_q h2 h16
  induction k with
  | zero => intro a b _ _; rfl
  | succ k ih =>
    intro a b ha hb
    rw [sqs, sqs, sqs, q_sq_xor h2 h16 ha hb]
    exact ih _ _ (hr.lt ha ha) (hr.lt hb hb)
theorem sqs_congr {f g : Nat → Nat → Nat} {q : Nat} (h : ∀ a, a < q → f a a = g a a) (hg : ∀ a, a < q → g a a < q) (k : Nat) : ∀ a, a < q → sqs f k a = sqs g k a := by
  induction k with
  | zero => intro a _; rfl
  | succ k ih => intro a ha; rw [sqs, sqs, h a ha]; exact ih _ (hg a ha)
theorem q_pow_q (h2 : 2 ≤ M) (h16 : M ≤ 16) {a : Nat} (ha : a < 2 ^ M) : np (mulN 2 M) a (2 ^ M) = a := by
  have hr := rng_q h2 h16
  rw [← hr.sqs_np M ha]
  have hf := frob_all M (by omega) h2
  unfold frobOk at hf
  rw [List.all_eq_true] at hf
  refine lin_id (q_sqs_xor h2 h16 M) (fun i hi => ?_) M (Nat.le_refl _) a ha
  have hlt : 2 ^ i < 2 ^ M := Nat.pow_lt_pow_right (by omega) hi
  have := hf i (List.mem_range.2 hi)
  rw [beq_iff_eq] at this
  rw [← sqs_congr (f := pmF (2 ^ M) (modN M) M) (fun a ha => by rw [pmF_eq _ _ _ _ _ ha, q_mul_def h2]) (fun a ha => hr.lt ha ha) M _ hlt]
  exact this

def gD (M f : Nat) : Nat := mulN 2 M f f ^^^ f
theorem gD_xor (h2 : 2 ≤ M) (h16 : M ≤ 16) {a b : Nat} (ha : a < 2 ^ M) (hb : b < 2 ^ M) : gD M (a ^^^ b) = gD M a ^^^ gD M b := by
  unfold gD
  rw [q_sq_xor h2 h16 ha hb, xor_4]
theorem chk_sound (h2 : 2 ≤ M) (h16 : M ≤ 16) (n : Nat) : n ≤ M → ∀ e acc, chk (dsOf M n) e acc = true → ∀ f, f < 2 ^ n → acc ^^^ gD M f ≠ 0 ∨ e * 2 ^ n + f ≤ 1 := by
  induction n with
  | zero =>
    intro _ e acc h f hf
    have : f = 0 := by simpa using hf
    subst this
    have h0 : gD M 0 = 0 := by unfold gD; rw [q_mul_def h2, pm_zero]; rfl
    rw [h0, Nat.xor_zero]
    rw [dsOf, chk, Bool.or_eq_true] at h
    rcases h with h | h
    · exact .inl (by simpa using h)
    · refine .inr ?_
      have := Nat.le_of_ble_eq_true h
      simpa using this
  | succ n ih =>
    intro hn e acc h f hf
    have hpow : 2 ^ (n + 1) ≤ 2 ^ M := Nat.pow_le_pow_right (by omega) hn
    have hpn : 2 ^ n < 2 ^ (n + 1) := by rw [Nat.pow_succ]; have := Nat.two_pow_pos n; omega
    rw [dsOf, chk, Bool.and_eq_true] at h
    rcases Nat.lt_or_ge f (2 ^ n) with hlt | hge
    · rcases ih (by omega) _ _ h.1 f hlt with h1 | h1
      · exact .inl h1
      · refine .inr ?_
        rw [Nat.pow_succ]
        have : e * (2 ^ n * 2) = 2 * e * 2 ^ n := by rw [Nat.mul_comm (2 ^ n), ← Nat.mul_assoc, Nat.mul_comm e]
        omega
    · obtain ⟨h1, h3⟩ := low_part hge hf
      have hg := gD_xor h2 h16 (a := 2 ^ n) (b := f - 2 ^ n) (by omega) (by omega)
      rw [← h3] at hg
      have hD : pmF (2 ^ M) (modN M) M (2 ^ n) (2 ^ n) ^^^ 2 ^ n = gD M (2 ^ n) := by
        unfold gD
        rw [pmF_eq _ _ _ _ _ (by omega), q_mul_def h2]
      rcases ih (by omega) _ _ h.2 (f - 2 ^ n) h1 with h4 | h4
      · refine .inl ?_
        rw [hg, ← Nat.xor_assoc, ← hD]
        exact h4
      · refine .inr ?_
        rw [Nat.pow_succ]
        have e1 : e * (2 ^ n * 2) = 2 * e * 2 ^ n := by rw [Nat.mul_comm (2 ^ n), ← Nat.mul_assoc, Nat.mul_comm e]
        have e2 : (2 * e + 1) * 2 ^ n = 2 * e * 2 ^ n + 2 ^ n := by rw [Nat.add_mul, Nat.one_mul]
        omega
theorem q_idem (h2 : 2 ≤ M) (h16 : M ≤ 16) {e : Nat} (he : e < 2 ^ M) (h : mulN 2 M e e = e) : e ≤ 1 := by
  rcases chk_sound h2 h16 M (Nat.le_refl _) 0 0 (chk_all M (by omega) h2) e he with h1 | h1
  · exfalso
    apply h1
    unfold gD
    rw [h, Nat.xor_self]; rfl
  · omega
theorem fermat_q (h2 : 2 ≤ M) (h16 : M ≤ 16) {a : Nat} (h0 : 0 < a) (ha : a < 2 ^ M) : np (mulN 2 M) a (2 ^ M - 1) = 1 := by
  have hr := rng_q h2 h16
  have hq2 := hr.two
  obtain ⟨q, hq⟩ : ∃ q, q = 2 ^ M := ⟨_, rfl⟩
  have hpq := q_pow_q h2 h16 ha
  rw [← hq] at hr hq2 ha hpq ⊢
  have hn := hr.np_lt ha (q - 1)
  have hn2 := hr.np_lt ha (q - 2)
  have e1 : np (mulN 2 M) a (q - 1) = mulN 2 M (np (mulN 2 M) a (q - 2)) a := by rw [show q - 1 = q - 2 + 1 by omega]; rfl
  have e2 : np (mulN 2 M) a q = mulN 2 M (np (mulN 2 M) a (q - 1)) a := by
    conv => lhs; rw [show q = q - 1 + 1 by omega]
    rfl
  rw [hpq] at e2
  have hid : mulN 2 M (np (mulN 2 M) a (q - 1)) (np (mulN 2 M) a (q - 1)) = np (mulN 2 M) a (q - 1) := by
    have h3 : mulN 2 M (mulN 2 M (np (mulN 2 M) a (q - 2)) a) (np (mulN 2 M) a (q - 1)) = np (mulN 2 M) a (q - 1) := by
      rw [hr.assoc hn2 ha hn, hr.comm ha hn, ← e2]; exact e1.symm
    rw [← e1] at h3
    exact h3
  have h1 := q_idem h2 h16 (by rw [← hq]; exact hn) hid
  rcases Nat.eq_zero_or_pos (np (mulN 2 M) a (q - 1)) with h3 | h3
  · exfalso
    rw [h3, hr.comm (by omega) ha, hr.zero ha] at e2
    omega
  · omega
end

/-- Fields on the numbers below q: rings with Fermat's theorem. -/
structure Fl (q : Nat) (add sub mul : Nat → Nat → Nat) : Prop extends Rng q add sub mul where
  fermat : ∀ {a : Nat}, 0 < a → a < q → np mul a (q - 1) = 1

theorem Fld.fl {P M q : Nat} (h : Fld P M q) : Fl q (addN P M) (subN P M) (mulN P M) := by
  refine ⟨h.rng, fun {a} h0 ha => ?_⟩
  rcases h with ⟨rfl, h1, h2, rfl⟩ | ⟨rfl, h1, h2, rfl⟩
  · exact fermat_p h1 h0 ha
  · exact fermat_q h1 h2 h0 ha

section
variable {q : Nat} {add sub mul : Nat → Nat → Nat}
theorem Fl.inv (h : Fl q add sub mul) {a : Nat} (h0 : 0 < a) (ha : a < q) : mul a (np mul a (q - 2)) = 1 := by
  have := h.fermat h0 ha
  have h2 := h.two
  rw [show q - 1 = q - 2 + 1 by omega] at this
  rw [h.comm ha (h.np_lt ha _)]
  exact this
theorem Fl.nzd (h : Fl q add sub mul) {a b : Nat} (h0 : 0 < a) (ha : a < q) (hb : b < q) (hab : mul a b = 0) : b = 0 := by
  have hi := h.inv h0 ha
  have hn := h.np_lt ha (q - 2)
  have h1 : mul (mul a (np mul a (q - 2))) b = mul (np mul a (q - 2)) (mul a b) := by rw [h.comm ha hn, h.assoc hn ha hb]
  rw [hi, hab, h.one hb, h.zero hn] at h1
  exact h1
theorem Fl.pos (h : Fl q add sub mul) {a b : Nat} (h0 : 0 < a) (ha : a < q) (h1 : 0 < b) (hb : b < q) : 0 < mul a b := by
  rcases Nat.eq_zero_or_pos (mul a b) with h2 | h2
  · have := h.nzd h0 ha hb h2; omega
  · exact h2
theorem Fl.np_pos (h : Fl q add sub mul) {a : Nat} (h0 : 0 < a) (ha : a < q) (k : Nat) : 0 < np mul a k := by
  induction k with
  | zero => exact Nat.one_pos
  | succ k ih => exact h.pos ih (h.np_lt ha k) h0 ha
/-- Cancelling. -/
theorem Fl.cancel (h : Fl q add sub mul) {a x y : Nat} (h0 : 0 < a) (ha : a < q) (hx : x < q) (hy : y < q) (he : mul a x = mul a y) : x = y := by
  have hi := h.inv h0 ha
  have hn := h.np_lt ha (q - 2)
  have key : ∀ z, z < q → mul (np mul a (q - 2)) (mul a z) = z := fun z hz => by rw [← h.assoc hn ha hz, h.comm hn ha, hi, h.one hz]
  rw [← key x hx, he, key y hy]
theorem Fl.pow_q (h : Fl q add sub mul) {a : Nat} (ha : a < q) : np mul a q = a := by
  have h2 := h.two
  rcases Nat.eq_zero_or_pos a with h0 | h0
  · subst h0
    conv => lhs; rw [show q = q - 1 + 1 by omega]
    exact h.zero (h.np_lt (by omega) _)
  · conv => lhs; rw [show q = q - 1 + 1 by omega]
    show mul (np mul a (q - 1)) a = a
    rw [h.fermat h0 ha, h.one ha]
end
end Go.Proofs.YtcophfhnhlaonaaGreatDoor
