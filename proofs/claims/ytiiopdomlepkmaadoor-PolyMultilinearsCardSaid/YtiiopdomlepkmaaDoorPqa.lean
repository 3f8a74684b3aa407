/-
  Polynomials as lists of terms, plainly: the coefficients of a sum of terms; a rising list of terms is told by its coefficients.
-/
import Derived.Test.YtiiopdomlepkmaaDoorLx
import Derived.Test.YtiiopdomlepkmaaDoorFdv
namespace Go.Proofs.YtiiopdomlepkmaaDoor
set_option linter.unusedVariables false
open Go.RowKit

/-- A term: its coefficient, its exponents. -/
abbrev Tm := Nat × List Nat

/-- The coefficient that terms, added one by one, give to these exponents. -/
def cfs (add : Nat → Nat → Nat) (ts : List Tm) (e : List Nat) : Nat := ts.foldl (fun s t => if t.2 = e then add s t.1 else s) 0

def CoLt (q : Nat) (ts : List Tm) : Prop := ∀ t ∈ ts, t.1 < q

section
variable {q : Nat} {add sub mul : Nat → Nat → Nat}

theorem cfs_nil (e : List Nat) : cfs add [] e = 0 := rfl
theorem cfs_snoc (ts : List Tm) (t : Tm) (e : List Nat) : cfs add (ts ++ [t]) e = if t.2 = e then add (cfs add ts e) t.1 else cfs add ts e := by
  simp [cfs]

theorem Rng.pos (h : Rng q add sub mul) : 0 < q := by have := h.two; omega
theorem Rng.zero_add (h : Rng q add sub mul) {a : Nat} (ha : a < q) : add 0 a = a := by rw [h.add_comm h.pos ha, h.add_zero ha]

theorem cfs_from (h : Rng q add sub mul) (e : List Nat) : ∀ (ts : List Tm), CoLt q ts → ∀ s, s < q →
    ts.foldl (fun s t => if t.2 = e then add s t.1 else s) s = add s (cfs add ts e) ∧ cfs add ts e < q
  | [], _, s, hs => ⟨(h.add_zero hs).symm, h.pos⟩
  | t :: ts, hc, s, hs => by
    have ht := hc t (by simp)
    have hc' : CoLt q ts := fun x hx => hc x (by simp [hx])
    have e2 : cfs add (t :: ts) e = ts.foldl (fun s t => if t.2 = e then add s t.1 else s) (if t.2 = e then add 0 t.1 else 0) := rfl
    rw [e2, List.foldl_cons]
    by_cases he : t.2 = e
    · rw [if_pos he, if_pos he, h.zero_add ht]
      obtain ⟨a1, a2⟩ := cfs_from h e ts hc' (add s t.1) (h.add_lt hs ht)
      obtain ⟨b1, b2⟩ := cfs_from h e ts hc' t.1 ht
      rw [a1, b1, h.add_assoc hs ht b2]
      exact ⟨rfl, h.add_lt ht b2⟩
    · rw [if_neg he, if_neg he]
      obtain ⟨a1, a2⟩ := cfs_from h e ts hc' s hs
      obtain ⟨b1, b2⟩ := cfs_from h e ts hc' 0 h.pos
      rw [a1, b1, h.zero_add b2]
      exact ⟨rfl, b2⟩

theorem cfs_lt (h : Rng q add sub mul) {ts : List Tm} (hc : CoLt q ts) (e : List Nat) : cfs add ts e < q := (cfs_from h e ts hc 0 h.pos).2
theorem cfs_append (h : Rng q add sub mul) {ts us : List Tm} (hc : CoLt q ts) (hu : CoLt q us) (e : List Nat) : cfs add (ts ++ us) e = add (cfs add ts e) (cfs add us e) := by
  have := (cfs_from h e us hu (cfs add ts e) (cfs_lt h hc e)).1
  rw [← this]
  simp [cfs, List.foldl_append]
theorem cfs_one (h : Rng q add sub mul) (t : Tm) (ht : t.1 < q) (e : List Nat) : cfs add [t] e = if t.2 = e then t.1 else 0 := by
  show (if t.2 = e then add 0 t.1 else 0) = _
  rw [h.zero_add ht]
theorem cfs_cons (h : Rng q add sub mul) {t : Tm} {ts : List Tm} (ht : t.1 < q) (hc : CoLt q ts) (e : List Nat) : cfs add (t :: ts) e = if t.2 = e then add t.1 (cfs add ts e) else cfs add ts e := by
  have := cfs_append h (ts := [t]) (us := ts) (fun x hx => by simp at hx; subst hx; exact ht) hc e
  rw [List.singleton_append] at this
  rw [this, cfs_one h t ht]
  by_cases he : t.2 = e
  · rw [if_pos he, if_pos he]
  · rw [if_neg he, if_neg he, h.zero_add (cfs_lt h hc e)]
theorem cfs_none {ts : List Tm} {e : List Nat} (hn : ∀ t ∈ ts, t.2 ≠ e) : cfs add ts e = 0 := by
  unfold cfs
  induction ts with
  | nil => rfl
  | cons t ts ih =>
    rw [List.foldl_cons, if_neg (hn t (by simp))]
    exact ih fun x hx => hn x (by simp [hx])

/-- A polynomial over the numbers below q in n variables: its terms rise, none is 0. -/
structure Ris (q n : Nat) (p : List Tm) : Prop where
  co : ∀ t ∈ p, 0 < t.1 ∧ t.1 < q
  ex : ∀ t ∈ p, t.2.length = n
  up : p.Pairwise (fun s t => cmpL s.2 t.2 < 0)

theorem Ris.lt {n : Nat} {p : List Tm} (h : Ris q n p) : CoLt q p := fun t ht => (h.co t ht).2
theorem Ris.nil (q n : Nat) : Ris q n [] := ⟨by simp, by simp, by simp⟩
theorem Ris.tail {n : Nat} {t : Tm} {p : List Tm} (h : Ris q n (t :: p)) : Ris q n p := ⟨fun x hx => h.co x (by simp [hx]), fun x hx => h.ex x (by simp [hx]), (List.pairwise_cons.1 h.up).2⟩
theorem Ris.ne {n : Nat} {t : Tm} {p : List Tm} (h : Ris q n (t :: p)) : ∀ x ∈ p, x.2 ≠ t.2 := fun x hx e => by
  have := (List.pairwise_cons.1 h.up).1 x hx
  rw [e, cmpL_self] at this
  omega

theorem Ris.cf_mem {n : Nat} (hr : Rng q add sub mul) : ∀ {p : List Tm}, Ris q n p → ∀ {t : Tm}, t ∈ p → cfs add p t.2 = t.1
  | [], _, _, ht => by simp at ht
  | s :: p, h, t, ht => by
    rw [cfs_cons hr (h.lt s (by simp)) h.tail.lt]
    simp only [List.mem_cons] at ht
    rcases ht with rfl | ht
    · rw [if_pos rfl, cfs_none h.ne, hr.add_zero (h.lt t (by simp))]
    · rw [if_neg (fun e => h.ne t ht e.symm)]
      exact Ris.cf_mem hr h.tail ht
theorem Ris.mem_iff {n : Nat} (hr : Rng q add sub mul) {p : List Tm} (h : Ris q n p) (t : Tm) : t ∈ p ↔ 0 < t.1 ∧ cfs add p t.2 = t.1 := by
  constructor
  · intro ht
    exact ⟨(h.co t ht).1, h.cf_mem hr ht⟩
  · rintro ⟨h0, h1⟩
    by_cases hx : ∃ s ∈ p, s.2 = t.2
    · obtain ⟨s, hs, e⟩ := hx
      have := h.cf_mem hr hs
      rw [e, h1] at this
      have : t = s := Prod.ext this e.symm
      rw [this]; exact hs
    · have := cfs_none (add := add) (ts := p) (e := t.2) fun s hs e => hx ⟨s, hs, e⟩
      omega
/-- THE COEFFICIENTS TELL A POLYNOMIAL. -/
theorem Ris.ext {n m : Nat} (hr : Rng q add sub mul) {p p' : List Tm} (h : Ris q n p) (h' : Ris q m p') (he : ∀ e, cfs add p e = cfs add p' e) : p = p' := by
  refine sorted_ext (r := fun s t : Tm => cmpL s.2 t.2 < 0) (fun a b h1 h2 => ?_) h.up h'.up fun x => ?_
  · rw [cmpL_neg] at h2; omega
  · rw [h.mem_iff hr, h'.mem_iff hr, he]

/-- What a polynomial's coefficient is where there is a term, and where there is none. -/
theorem Ris.cf_zero {n : Nat} {p : List Tm} (h : Ris q n p) {e : List Nat} (he : e.length ≠ n) : cfs add p e = 0 :=
  cfs_none fun t ht e' => he (e' ▸ h.ex t ht)
end
end Go.Proofs.YtiiopdomlepkmaaDoor
