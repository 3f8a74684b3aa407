/-
  Plain facts: Fermat's theorem modulo a prime; by the kernel, for each degree: which polynomials squaring degree times keeps, and which are their own squares.
-/
import Derived.Test.YtiiopdomlepkmaaDoorFdv
namespace Go.Proofs.YtiiopdomlepkmaaDoor
open Go.RowKit

/-! Fermat's theorem modulo a prime. -/

theorem p_cancel {p a x y : Nat} (hp : Pr p) (ha : 0 < a) (hap : a < p) (hx : x < p) (hy : y < p) (h : a * x % p = a * y % p) : x = y := by
  have key : ∀ u v, u < p → v < p → a * u % p = a * v % p → v ≤ u → u = v := by
    intro u v hu hv he hle
    have h1 := Nat.sub_mod_eq_zero_of_mod_eq he
    rw [← Nat.mul_sub] at h1
    rcases hp.dvd_mul (Nat.dvd_of_mod_eq_zero h1) with h2 | h2
    · have := Nat.le_of_dvd ha h2; omega
    · by_cases h3 : u - v = 0
      · omega
      · have := Nat.le_of_dvd (by omega) h2; omega
  rcases Nat.le_total y x with h1 | h1
  · exact key x y hx hy h h1
  · exact (key y x hy hx h.symm h1).symm

theorem nodup_map_on {f : Nat → Nat} : ∀ {l : List Nat}, (∀ x ∈ l, ∀ y ∈ l, f x = f y → x = y) → l.Nodup → (l.map f).Nodup
  | [], _, _ => List.nodup_nil
  | a :: l, hf, hn => by
    rw [List.nodup_cons] at hn
    rw [List.map_cons, List.nodup_cons]
    refine ⟨fun hm => ?_, nodup_map_on (fun x hx y hy => hf x (List.mem_cons_of_mem _ hx) y (List.mem_cons_of_mem _ hy)) hn.2⟩
    obtain ⟨b, hb, he⟩ := List.mem_map.1 hm
    have := hf b (List.mem_cons_of_mem _ hb) a List.mem_cons_self he
    subst this
    exact hn.1 hb

/-- A map of a finite list into itself that is injective on it is onto. -/
theorem onto_of_inj {l l' : List Nat} (hl' : l'.Nodup) (hlen : l.length ≤ l'.length) (hsub : ∀ x ∈ l', x ∈ l) : ∀ x ∈ l, x ∈ l' := by
  intro x hx
  by_cases h : x ∈ l'
  · exact h
  · exfalso
    have hn : (x :: l').Nodup := List.nodup_cons.2 ⟨h, hl'⟩
    have hs : (x :: l') ⊆ l := by
      intro y hy
      rcases List.mem_cons.1 hy with rfl | hy
      · exact hx
      · exact hsub y hy
    have := List.Nodup.length_le_of_subset hn hs
    simp only [List.length_cons] at this
    omega

theorem prod_map {q : Nat} {mul : Nat → Nat → Nat} (h : Mon q mul) {a : Nat} (ha : a < q) : ∀ (l : List Nat), (∀ x ∈ l, x < q) → (l.foldr mul 1 < q) ∧ (l.map (mul a)).foldr mul 1 = mul (np mul a l.length) (l.foldr mul 1)
  | [], _ => ⟨show 1 < q by have := h.two; omega, (h.one (show 1 < q by have := h.two; omega)).symm⟩
  | x :: l, hl => by
    obtain ⟨h1, h2⟩ := prod_map h ha l (fun y hy => hl y (List.mem_cons_of_mem _ hy))
    have hx := hl x List.mem_cons_self
    refine ⟨h.lt hx h1, ?_⟩
    have hn := h.np_lt ha l.length
    show mul (mul a x) ((l.map (mul a)).foldr mul 1) = mul (mul (np mul a l.length) a) (mul x (l.foldr mul 1))
    rw [h2, h.assoc ha hx (h.lt hn h1), ← h.assoc hx hn h1, h.comm hx hn, h.assoc hn hx h1, ← h.assoc ha hn (h.lt hx h1), h.comm ha hn]

theorem fermat_p {p a : Nat} (hp : Pr p) (ha : 0 < a) (hap : a < p) : np (mulN p 1) a (p - 1) = 1 := by
  have hr := rng_p hp
  have hm : ∀ a b, mulN p 1 a b = a * b % p := fun _ _ => if_pos rfl
  have h2 := hp.1
  have hmem : ∀ x, x ∈ List.range' 1 (p - 1) ↔ 1 ≤ x ∧ x < p := fun x => by rw [List.mem_range'_1]; omega
  have hnz : ∀ x, 0 < x → x < p → 0 < mulN p 1 a x := by
    intro x h1 h3
    rcases Nat.eq_zero_or_pos (mulN p 1 a x) with h0 | h0
    · exfalso
      rw [hm] at h0
      have := p_cancel hp ha hap h3 (by omega : 0 < p) (by rw [h0, Nat.mul_zero, Nat.zero_mod])
      omega
    · exact h0
  have hnd : (List.range' 1 (p - 1)).Nodup := List.nodup_range'
  have hnd2 : ((List.range' 1 (p - 1)).map (mulN p 1 a)).Nodup := by
    refine nodup_map_on (fun x hx y hy he => ?_) hnd
    rw [hmem] at hx hy
    rw [hm, hm] at he
    exact p_cancel hp ha hap hx.2 hy.2 he
  have hsub : ∀ x ∈ (List.range' 1 (p - 1)).map (mulN p 1 a), x ∈ List.range' 1 (p - 1) := by
    intro x hx
    obtain ⟨y, hy, rfl⟩ := List.mem_map.1 hx
    rw [hmem] at hy ⊢
    have := hnz y (by omega) hy.2
    exact ⟨this, hr.lt hap hy.2⟩
  have hon := onto_of_inj hnd2 (by simp) hsub
  have hperm : ((List.range' 1 (p - 1)).map (mulN p 1 a)).Perm (List.range' 1 (p - 1)) := (List.perm_ext_iff_of_nodup hnd2 hnd).2 fun x => ⟨hsub x, hon x⟩
  have hlt : ∀ x ∈ List.range' 1 (p - 1), x < p := fun x hx => ((hmem x).1 hx).2
  obtain ⟨h3, h4⟩ := prod_map hr.toMon hap (List.range' 1 (p - 1)) hlt
  have h5 : ((List.range' 1 (p - 1)).map (mulN p 1 a)).foldr (mulN p 1) 1 = (List.range' 1 (p - 1)).foldr (mulN p 1) 1 := by
    refine hperm.foldr_eq' (fun x _ y _ z => ?_) 1
    rw [hm, hm, hm, hm, Nat.mul_mod_mod, Nat.mul_mod_mod, ← Nat.mul_assoc, ← Nat.mul_assoc, Nat.mul_comm y x]
  have hpos : ∀ l : List Nat, (∀ x ∈ l, 1 ≤ x ∧ x < p) → 0 < l.foldr (mulN p 1) 1 ∧ l.foldr (mulN p 1) 1 < p := by
    intro l
    induction l with
    | nil => intro _; exact ⟨Nat.one_pos, by show 1 < p; omega⟩
    | cons x l ih =>
      intro hl
      obtain ⟨i1, i2⟩ := ih fun y hy => hl y (List.mem_cons_of_mem _ hy)
      obtain ⟨j1, j2⟩ := hl x List.mem_cons_self
      refine ⟨?_, hr.lt j2 i2⟩
      show 0 < mulN p 1 x _
      rcases Nat.eq_zero_or_pos (mulN p 1 x (l.foldr (mulN p 1) 1)) with h0 | h0
      · exfalso
        rw [hm] at h0
        have := p_cancel hp j1 j2 i2 (by omega : 0 < p) (by rw [h0, Nat.mul_zero, Nat.zero_mod])
        omega
      · exact h0
  obtain ⟨k1, k2⟩ := hpos _ fun x hx => (hmem x).1 hx
  rw [h5] at h4
  have hlen : (List.range' 1 (p - 1)).length = p - 1 := List.length_range'
  rw [hlen] at h4
  generalize (List.range' 1 (p - 1)).foldr (mulN p 1) 1 = Z at h3 h4 k1 k2
  have hn := hr.np_lt hap (p - 1)
  have h6 : mulN p 1 Z (np (mulN p 1) a (p - 1)) = mulN p 1 Z 1 := by
    rw [hr.comm k2 hn, ← h4, hr.mul_one k2]
  rw [hm, hm] at h6
  exact p_cancel hp k1 k2 hn (by omega) h6

/-! Squares of polynomials. -/

def pmF (q m : Nat) : Nat → Nat → Nat → Nat
  | 0, _, _ => 0
  | f + 1, a, b => (if b % 2 = 1 then a else 0) ^^^ pmF q m f (sred q m (2 * a)) (b / 2)
theorem pmF_eq (q m : Nat) (f : Nat) : ∀ a b, b < 2 ^ f → pmF q m f a b = pm q m a b := by
  induction f with
  | zero => intro a b hb; have : b = 0 := by simpa using hb
            subst this; rw [pm_zero]; rfl
  | succ f ih =>
    intro a b hb
    rw [Nat.pow_succ] at hb
    rw [pm_step, pmF, ih _ _ (by omega)]

/-- Squaring k times. -/
def sqs (mul : Nat → Nat → Nat) : Nat → Nat → Nat
  | 0, a => a
  | k + 1, a => sqs mul k (mul a a)
theorem Mon.sqs_np {q : Nat} {mul : Nat → Nat → Nat} (h : Mon q mul) (k : Nat) : ∀ {a : Nat}, a < q → sqs mul k a = np mul a (2 ^ k) := by
  induction k with
  | zero => intro a ha; exact (h.np_one ha).symm
  | succ k ih =>
    intro a ha
    rw [sqs, ih (h.lt ha ha), Nat.pow_succ, Nat.mul_comm, ← h.np_mul ha 2, show np mul a 2 = mul a a by show mul (mul 1 a) a = _; rw [h.one ha]]

def frobOk (M : Nat) : Bool := (List.range M).all fun i => sqs (pmF (2 ^ M) (modN M) M) M (2 ^ i) == 2 ^ i
theorem frob_all : ∀ M, M < 17 → 2 ≤ M → frobOk M = true := by decide +kernel

def dsOf (M : Nat) : Nat → List Nat
  | 0 => []
  | n + 1 => (pmF (2 ^ M) (modN M) M (2 ^ n) (2 ^ n) ^^^ 2 ^ n) :: dsOf M n
def chk : List Nat → Nat → Nat → Bool
  | [], e, acc => acc != 0 || Nat.ble e 1
  | d :: ds, e, acc => chk ds (2 * e) acc && chk ds (2 * e + 1) (acc ^^^ d)
theorem chk_all : ∀ M, M < 17 → 2 ≤ M → chk (dsOf M M) 0 0 = true := by decide +kernel
end Go.Proofs.YtiiopdomlepkmaaDoor
