/-
  Joined from Pqa, Pqb, Pqc: see there.
-/
import Derived.Test.YtcophfhnhlaonaaGreatDoorLx
import Derived.Test.YtcophfhnhlaonaaGreatDoorUd
import Derived.Maps.OwnSet
import Derived.Lib.SlMapFilter
import Derived.Sort.KeysCollected
import Derived.Test.YtcophfhnhlaonaaGreatDoorOn
import Derived.Test.YtcophfhnhlaonaaGreatDoorUb
namespace Go.Proofs.YtcophfhnhlaonaaGreatDoor
set_option linter.unusedVariables false
open Go.RowKit

/-- A term: its coefficient, its exponents. -/
abbrev Tm := Nat × List Nat

/-- The coefficient that terms, added one by one, give to these exponents. -/
def cfs (add : Nat → Nat → Nat) (ts : List Tm) (e : List Nat) : Nat := ts.foldl (fun s t => if t.2 = e then add s t.1 else s) 0

def CoLt (q : Nat) (ts : List Tm) : Prop := ∀ t ∈ ts, t.1 < q

section
variable {q : Nat} {add sub mul : Nat → Nat → Nat}

theorem cfs_nil (e : List Nat) : cfs add [] e = 0 := rfl
theorem cfs_snoc (ts : List Tm) (t : Tm) (e : List Nat) : cfs add (ts ++ [t]) e = if t.2 = e then add (cfs add ts e) t.1 else cfs add ts e := by
  simp [cfs]

theorem Rng.pos (h : Rng q add sub mul) : 0 < q := by have := h.two; omega
theorem Rng.zero_add (h : Rng q add sub mul) {a : Nat} (ha : a < q) : add 0 a = a := by rw [h.add_comm h.pos ha, h.add_zero ha]

theorem cfs_from (h : Rng q add sub mul) (e : List Nat) : ∀ (ts : List Tm), CoLt q ts → ∀ s, s < q →
    ts.foldl (fun s t => if t.2 = e then add s t.1 else s) s = add s (cfs add ts e) ∧ cfs add ts e < q
  | [], _, s, hs => ⟨(h.add_zero hs).symm, h.pos⟩
  | t :: ts, hc, s, hs => by
    have ht := hc t (by simp)
    have hc' : CoLt q ts := fun x hx => hc x (by simp [hx])
    have e2 : cfs add (t :: ts) e = ts.foldl (fun s t => if t.2 = e then add s t.1 else s) (if t.2 = e then add 0 t.1 else 0) := rfl
    rw [e2, List.foldl_cons]
    by_cases he : t.2 = e
    · rw [if_pos he, if_pos he, h.zero_add ht]
      obtain ⟨a1, a2⟩ := cfs_from h e ts hc' (add s t.1) (h.add_lt hs ht)
      obtain ⟨b1, b2⟩ := cfs_from h e ts hc' t.1 ht
      rw [a1, b1, h.add_assoc hs ht b2]
      exact ⟨rfl, h.add_lt ht b2⟩
    · rw [if_neg he, if_neg he]
      obtain ⟨a1, a2⟩ := cfs_from h e ts hc' s hs
      obtain ⟨b1, b2⟩ := cfs_from h e ts hc' 0 h.pos
      rw [a1, b1, h.zero_add b2]
      exact ⟨rfl, b2⟩

theorem cfs_lt (h : Rng q add sub mul) {ts : List Tm} (hc : CoLt q ts) (e : List Nat) : cfs add ts e < q := (cfs_from h e ts hc 0 h.pos).2
theorem cfs_append (h : Rng q add sub mul) {ts us : List Tm} (hc : CoLt q ts) (hu : CoLt q us) (e : List Nat) : cfs add (ts ++ us) e = add (cfs add ts e) (cfs add us e) := by
  have := (cfs_from h e us hu (cfs add ts e) (cfs_lt h hc e)).1
  rw [← this]
  simp [cfs, List.foldl_append]
theorem cfs_one (h : Rng q add sub mul) (t : Tm) (ht : t.1 < q) (e : List Nat) : cfs add [t] e = if t.2 = e then t.1 else 0 := by
  show (if t.2 = e then add 0 t.1 else 0) = _
  rw [h.zero_add ht]
theorem cfs_cons (h : Rng q add sub mul) {t : Tm} {ts : List Tm} (ht : t.1 < q) (hc : CoLt q ts) (e : List Nat) : cfs add (t :: ts) e = if t.2 = e then add t.1 (cfs add ts e) else cfs add ts e := by
  have := cfs_append h (ts := [t]) (us := ts) (fun x hx => by simp at hx; subst hx; exact ht) hc e
  rw [List.singleton_append] at this
  rw [this, cfs_one h t ht]
  by_cases he : t.2 = e
  · rw [if_pos he, if_pos he]
  · rw [if_neg he, if_neg he, h.zero_add (cfs_lt h hc e)]
theorem cfs_none {ts : List Tm} {e : List Nat} (hn : ∀ t ∈ ts, t.2 ≠ e) : cfs add ts e = 0 := by
  unfold cfs
  induction ts with
  | nil => rfl
  | cons t ts ih =>
    rw [List.foldl_cons, if_neg (hn t (by simp))]
    exact ih fun x hx => hn x (by simp [hx])

/-- A polynomial over the numbers below q in n variables: its terms rise, none is 0. -/
structure Ris (q n : Nat) (p : List Tm) : Prop where
  co : ∀ t ∈ p, 0 < t.1 ∧ t.1 < q
  ex : ∀ t ∈ p, t.2.length = n
  up : p.Pairwise (fun s t => cmpL s.2 t.2 < 0)

theorem Ris.lt {n : Nat} {p : List Tm} (h : Ris q n p) : CoLt q p := fun t ht => (h.co t ht).2
theorem Ris.nil (q n : Nat) : Ris q n [] := ⟨by simp, by simp, by simp⟩
theorem Ris.tail {n : Nat} {t : Tm} {p : List Tm} (h : Ris q n (t :: p)) : Ris q n p := ⟨fun x hx => h.co x (by simp [hx]), fun x hx => h.ex x (by simp [hx]), (List.pairwise_cons.1 h.up).2⟩
theorem Ris.ne {n : Nat} {t : Tm} {p : List Tm} (h : Ris q n (t :: p)) : ∀ x ∈ p, x.2 ≠ t.2 := fun x hx e => by
  have := (List.pairwise_cons.1 h.up).1 x hx
  rw [e, cmpL_self] at this
  omega

theorem Ris.cf_mem {n : Nat} (hr : Rng q add sub mul) : ∀ {p : List Tm}, Ris q n p → ∀ {t : Tm}, t ∈ p → cfs add p t.2 = t.1
  | [], _, _, ht => by simp at ht
  | s :: p, h, t, ht => by
    rw [cfs_cons hr (h.lt s (by simp)) h.tail.lt]
    simp only [List.mem_cons] at ht
    rcases ht with rfl | ht
    · rw [if_pos rfl, cfs_none h.ne, hr.add_zero (h.lt t (by simp))]
    · rw [if_neg (fun e => h.ne t ht e.symm)]
      exact Ris.cf_mem hr h.tail ht
theorem Ris.mem_iff {n : Nat} (hr : Rng q add sub mul) {p : List Tm} (h : Ris q n p) (t : Tm) : t ∈ p ↔ 0 < t.1 ∧ cfs add p t.2 = t.1 := by
  constructor
  · intro ht
    exact ⟨(h.co t ht).1, h.cf_mem hr ht⟩
  · rintro ⟨h0, h1⟩
    by_cases hx : ∃ s ∈ p, s.2 = t.2
    · obtain ⟨s, hs, e⟩ := hx
      have := h.cf_mem hr hs
      rw [e, h1] at this
      have : t = s := Prod.ext this e.symm
      rw [this]; exact hs
    · have := cfs_none (add := add) (ts := p) (e := t.2) fun s hs e => hx ⟨s, hs, e⟩
      omega
/-- THE COEFFICIENTS TELL A POLYNOMIAL. -/
theorem Ris.ext {n m : Nat} (hr : Rng q add sub mul) {p p' : List Tm} (h : Ris q n p) (h' : Ris q m p') (he : ∀ e, cfs add p e = cfs add p' e) : p = p' := by
  refine sorted_ext (r := fun s t : Tm => cmpL s.2 t.2 < 0) (fun a b h1 h2 => ?_) h.up h'.up fun x => ?_
  · rw [cmpL_neg] at h2; omega
  · rw [h.mem_iff hr, h'.mem_iff hr, he]

/-- What a polynomial's coefficient is where there is a term, and where there is none. -/
theorem Ris.cf_zero {n : Nat} {p : List Tm} (h : Ris q n p) {e : List Nat} (he : e.length ≠ n) : cfs add p e = 0 :=
  cfs_none fun t ht e' => he (e' ▸ h.ex t ht)
end
end Go.Proofs.YtcophfhnhlaonaaGreatDoor
namespace Go.Proofs.YtcophfhnhlaonaaGreatDoor
set_option linter.unusedVariables false
open Go.RowKit Go.Maps

def Ex (n : Nat) (e : List Nat) : Prop := e.length = n ∧ ∀ x ∈ e, x ≤ 65535

def keyB : List Nat → List UInt8
  | [] => []
  | x :: e => UInt8.ofNat (x / 256) :: UInt8.ofNat x :: keyB e
def decB : List UInt8 → List Nat
  | a :: b :: r => (a.toNat * 256 + b.toNat) :: decB r
  | _ => []

theorem keyB_length : ∀ e, (keyB e).length = 2 * e.length
  | [] => rfl
  | x :: e => by
    show (keyB e).length + 1 + 1 = 2 * (e.length + 1)
    rw [keyB_length e]; omega
theorem byte_hi {x : Nat} (h : x ≤ 65535) : (UInt8.ofNat (x / 256)).toNat = x / 256 := by
  rw [UInt8.toNat_ofNat']; omega
theorem byte_lo (x : Nat) : (UInt8.ofNat x).toNat = x % 256 := by
  rw [UInt8.toNat_ofNat']
theorem decB_keyB : ∀ e : List Nat, (∀ x ∈ e, x ≤ 65535) → decB (keyB e) = e
  | [], _ => rfl
  | x :: e, h => by
    have hx := h x (by simp)
    show ((UInt8.ofNat (x / 256)).toNat * 256 + (UInt8.ofNat x).toNat) :: decB (keyB e) = _
    rw [byte_hi hx, byte_lo, decB_keyB e (fun y hy => h y (by simp [hy]))]
    congr 1
    omega
theorem keyB_inj {e e' : List Nat} (h : ∀ x ∈ e, x ≤ 65535) (h' : ∀ x ∈ e', x ≤ 65535) (he : keyB e = keyB e') : e = e' := by
  rw [← decB_keyB e h, he, decB_keyB e' h']
theorem u8_lt {a b : UInt8} : a < b ↔ a.toNat < b.toNat := UInt8.lt_iff_toNat_lt
theorem u8_eq {a b : UInt8} : a = b ↔ a.toNat = b.toNat := ⟨fun h => by rw [h], fun h => UInt8.toNat_inj.1 h⟩
theorem keyB_lt : ∀ e e' : List Nat, e.length = e'.length → (∀ x ∈ e, x ≤ 65535) → (∀ x ∈ e', x ≤ 65535) → (keyB e < keyB e' ↔ cmpL e e' < 0)
  | [], [], _, _, _ => by simp [keyB, cmpL]
  | [], _ :: _, h, _, _ => by simp at h
  | _ :: _, [], h, _, _ => by simp at h
  | x :: e, y :: e', hl, h, h' => by
    have hx := h x (by simp)
    have hy := h' y (by simp)
    have ih := keyB_lt e e' (by simpa using hl) (fun z hz => h z (by simp [hz])) (fun z hz => h' z (by simp [hz]))
    unfold keyB cmpL
    rw [List.cons_lt_cons_iff, List.cons_lt_cons_iff, ih, u8_lt, u8_lt, u8_eq, u8_eq, byte_hi hx, byte_hi hy, byte_lo, byte_lo]
    by_cases h1 : x < y
    · rw [if_pos h1]
      constructor
      · intro _; omega
      · intro _
        by_cases h2 : x / 256 < y / 256
        · exact .inl h2
        · exact .inr ⟨by omega, .inl (by omega)⟩
    · by_cases h2 : y < x
      · rw [if_neg h1, if_pos h2]
        constructor
        · rintro (h3 | ⟨h3, h4 | ⟨h4, h5⟩⟩) <;> omega
        · intro h3; omega
      · have hxy : x = y := by omega
        subst hxy
        rw [if_neg h1, if_neg h1]
        constructor
        · rintro (h3 | ⟨h3, h4 | ⟨h4, h5⟩⟩)
          · omega
          · omega
          · exact h5
        · intro h3
          exact .inr ⟨rfl, .inr ⟨rfl, h3⟩⟩

def ent (e : List Nat) (c : Nat) : Lit × DataW Unit := (.string (keyB e), .lit (.int .u64 (c : Int)))
/-- The datum of a map from exponents to coefficients. -/
structure DOf (n : Nat) (f : List Nat → Option Nat) (D : DataW Unit) : Prop where
  has : ∃ es, D = .map es ∧ es.Pairwise (fun p q => p.1 ≠ q.1) ∧ (∀ p ∈ es, ∃ e c, Ex n e ∧ f e = some c ∧ p = ent e c) ∧ ∀ e c, f e = some c → Ex n e ∧ ent e c ∈ es

theorem mem_insertW {H : Type} (x p : Lit × DataW H) : ∀ l : List (Lit × DataW H), p ∈ DataW.insert x l ↔ p = x ∨ p ∈ l
  | [] => by simp [DataW.insert]
  | y :: r => by
    unfold DataW.insert
    split
    · simp
    · simp only [List.mem_cons, mem_insertW x p r]
      constructor
      · rintro (h | h | h) <;> simp [h]
      · rintro (h | h | h) <;> simp [h]
theorem length_insertW {H : Type} (x : Lit × DataW H) : ∀ l : List (Lit × DataW H), (DataW.insert x l).length = l.length + 1
  | [] => by simp [DataW.insert]
  | y :: r => by
    unfold DataW.insert
    split
    · simp
    · simp [length_insertW x r]
theorem pairwise_insertW {H : Type} (x : Lit × DataW H) : ∀ l : List (Lit × DataW H), l.Pairwise (fun p q => p.1 ≠ q.1) → (∀ p ∈ l, p.1 ≠ x.1) → (DataW.insert x l).Pairwise (fun p q => p.1 ≠ q.1)
  | [], _, _ => by simp [DataW.insert]
  | y :: r, h, hx => by
    unfold DataW.insert
    have h' := List.pairwise_cons.1 h
    split
    · exact List.pairwise_cons.2 ⟨fun p hp => (hx p hp).symm, h⟩
    · refine List.pairwise_cons.2 ⟨fun p hp => ?_, pairwise_insertW x r h'.2 fun p hp => hx p (by simp [hp])⟩
      rcases (mem_insertW x p r).1 hp with rfl | hp
      · exact hx y (by simp)
      · exact h'.1 p hp

theorem same_str (a b : List UInt8) : (Lit.string a).sameKey (.string b) = decide (a = b) := by
  rw [Bool.eq_iff_iff]; simp [Lit.sameKey]

def putE (f : List Nat → Option Nat) (e : List Nat) (c : Nat) (x : List Nat) : Option Nat := if x = e then some c else f x

theorem DOf.empty (n : Nat) : DOf n (fun _ => none) (.map []) := ⟨⟨[], rfl, by simp, by simp, by simp⟩⟩
theorem DOf.put {n : Nat} {f : List Nat → Option Nat} {D : DataW Unit} (h : DOf n f D) {e : List Nat} (he : Ex n e) (c : Nat) :
    DOf n (putE f e c) (D.put (.string (keyB e)) (.lit (.int .u64 (c : Int)))) := by
  obtain ⟨es, rfl, hp, hm, hf⟩ := h.has
  refine ⟨⟨_, rfl, ?_, fun p hp' => ?_, fun x d hx => ?_⟩⟩
  · refine pairwise_insertW _ _ (hp.filter _) fun p hp' => ?_
    have := (List.mem_filter.1 hp').2
    intro e'
    rw [e', same_str] at this
    simp at this
  · rcases (mem_insertW _ _ _).1 hp' with rfl | hp'
    · exact ⟨e, c, he, by simp [putE], rfl⟩
    · obtain ⟨h1, h2⟩ := List.mem_filter.1 hp'
      obtain ⟨x, d, hx, hfx, rfl⟩ := hm p h1
      refine ⟨x, d, hx, ?_, rfl⟩
      unfold putE
      rw [if_neg]
      · exact hfx
      · rintro rfl
        rw [ent, same_str] at h2
        simp at h2
  · unfold putE at hx
    by_cases hxe : x = e
    · rw [if_pos hxe] at hx
      cases hx
      subst hxe
      exact ⟨he, (mem_insertW _ _ _).2 (.inl rfl)⟩
    · rw [if_neg hxe] at hx
      obtain ⟨h1, h2⟩ := hf x d hx
      refine ⟨h1, (mem_insertW _ _ _).2 (.inr (List.mem_filter.2 ⟨h2, ?_⟩))⟩
      rw [ent, same_str]
      simp
      exact fun e' => hxe (keyB_inj h1.2 he.2 e')
theorem DOf.size_put {n : Nat} {f : List Nat → Option Nat} {D : DataW Unit} (h : DOf n f D) (k : Lit) (d : DataW Unit) : Maps.size (D.put k d) ≤ Maps.size D + 1 := by
  obtain ⟨es, rfl, _⟩ := h.has
  show (DataW.insert _ _).length ≤ es.length + 1
  rw [length_insertW]
  have := List.length_filter_le (fun p => !p.1.sameKey k) es
  omega
theorem DOf.at {n : Nat} {f : List Nat → Option Nat} {D : DataW Unit} (h : DOf n f D) {e : List Nat} (he : Ex n e) :
    Maps.has D (.string (keyB e)) = (f e).isSome ∧ ∀ c, f e = some c → ∀ z, D.atKey (.string (keyB e)) z = .lit (.int .u64 (c : Int)) := by
  obtain ⟨es, rfl, hp, hm, hf⟩ := h.has
  constructor
  · rw [Bool.eq_iff_iff, has_eq, List.any_eq_true]
    constructor
    · rintro ⟨p, hp', hs⟩
      obtain ⟨x, d, hx, hfx, rfl⟩ := hm p hp'
      rw [ent, same_str] at hs
      have := keyB_inj hx.2 he.2 (by simpa using hs)
      rw [← this, hfx]; rfl
    · intro hs
      obtain ⟨c, hc⟩ := Option.isSome_iff_exists.1 hs
      exact ⟨ent e c, (hf e c hc).2, by rw [ent, same_str]; simp⟩
  · intro c hc z
    exact WideAt.atKey_mem z (by show True; trivial) hp (hf e c hc).2

/-- What is made of what the map holds. -/
def stN (P M c : Nat) : Nat := if M = 1 then c % P else c
def pdS (st : Nat → Nat) (_ : Lit) (d : DataW Unit) : Bool := match d with | .lit (.int _ a) => decide (st a.toNat = 0) | _ => false
def swF (st : Nat → Nat) (f : List Nat → Option Nat) (e : List Nat) : Option Nat := match f e with | some c => if st c = 0 then none else some c | none => none
theorem swF_some {st : Nat → Nat} {f : List Nat → Option Nat} {e : List Nat} {c : Nat} (h : swF st f e = some c) : f e = some c ∧ st c ≠ 0 := by
  unfold swF at h
  cases hf : f e with
  | none => rw [hf] at h; simp at h
  | some d =>
    rw [hf] at h
    by_cases h0 : st d = 0
    · simp [h0] at h
    · simp [h0] at h
      subst h
      exact ⟨rfl, h0⟩
theorem DOf.sweep {n : Nat} {f : List Nat → Option Nat} {D : DataW Unit} (st : Nat → Nat) (h : DOf n f D) : DOf n (swF st f) (Lib.deleteFuncD (pdS st) D) := by
  obtain ⟨es, rfl, hp, hm, hf⟩ := h.has
  refine ⟨⟨_, rfl, hp.filter _, fun p hp' => ?_, fun x d hx => ?_⟩⟩
  · obtain ⟨h1, h2⟩ := List.mem_filter.1 hp'
    obtain ⟨x, d, hx, hfx, rfl⟩ := hm p h1
    refine ⟨x, d, hx, ?_, rfl⟩
    have hd : st d ≠ 0 := by
      intro h0
      simp [ent, pdS, h0] at h2
    simp [swF, hfx, hd]
  · obtain ⟨hfx, hd⟩ := swF_some hx
    obtain ⟨h1, h2⟩ := hf x d hfx
    refine ⟨h1, List.mem_filter.2 ⟨h2, ?_⟩⟩
    simp [ent, pdS, hd]
theorem DOf.size_sweep {n : Nat} {f : List Nat → Option Nat} {D : DataW Unit} (st : Nat → Nat) (h : DOf n f D) : Maps.size (Lib.deleteFuncD (pdS st) D) ≤ Maps.size D := by
  obtain ⟨es, rfl, _⟩ := h.has
  exact List.length_filter_le _ _

/-- THE KEYS IN ORDER. -/
theorem DOf.keys {n : Nat} {f : List Nat → Option Nat} {D : DataW Unit} (h : DOf n f D) {ss : List (List UInt8)} (hs : ss.Perm (strKeys D)) :
    ∃ E : List (List Nat), ss.mergeSort leB = E.map keyB ∧ E.Pairwise (fun a b => cmpL a b < 0) ∧ (∀ e ∈ E, Ex n e) ∧ (∀ e, e ∈ E ↔ (f e).isSome = true) ∧ E.length = Maps.size D ∧ E.length = ss.length := by
  obtain ⟨es, rfl, hp, hm, hf⟩ := h.has
  have hkeys : ∀ b ∈ ss.mergeSort leB, ∃ e, Ex n e ∧ (f e).isSome = true ∧ keyB e = b := fun b hb => by
    have hb' : b ∈ es.map fun p => strOf p.1 := hs.mem_iff.1 ((List.mergeSort_perm ss leB).mem_iff.1 hb)
    obtain ⟨p, hp', rfl⟩ := List.mem_map.1 hb'
    obtain ⟨x, d, hx, hfx, rfl⟩ := hm p hp'
    exact ⟨x, hx, by rw [hfx]; rfl, rfl⟩
  have hE : ∀ l : List (List UInt8), (∀ b ∈ l, ∃ e, Ex n e ∧ (f e).isSome = true ∧ keyB e = b) → ∃ E : List (List Nat), l = E.map keyB ∧ ∀ e ∈ E, Ex n e ∧ (f e).isSome = true := by
    intro l
    induction l with
    | nil => intro _; exact ⟨[], rfl, by simp⟩
    | cons b l ih =>
      intro hl
      obtain ⟨e, h1, h2, rfl⟩ := hl b (by simp)
      obtain ⟨E, rfl, h3⟩ := ih fun x hx => hl x (by simp [hx])
      refine ⟨e :: E, rfl, fun x hx => ?_⟩
      simp only [List.mem_cons] at hx
      rcases hx with rfl | hx
      · exact ⟨h1, h2⟩
      · exact h3 x hx
  obtain ⟨E, he, hEx⟩ := hE _ hkeys
  have hnd : (ss.mergeSort leB).Nodup := by
    have h1 : (es.map fun p => strOf p.1).Nodup := by
      refine List.pairwise_map.2 (hp.imp_of_mem fun {p q} hp' hq' hne e' => hne ?_)
      obtain ⟨x, d, hx, _, rfl⟩ := hm p hp'
      obtain ⟨y, d', hy, _, rfl⟩ := hm q hq'
      simp only [ent, strOf] at e' ⊢
      rw [e']
    exact ((List.mergeSort_perm ss leB).trans hs).nodup_iff.2 h1
  have tr : ∀ a b c : List UInt8, leB a b = true → leB b c = true → leB a c = true := fun a b c h1 h2 => by simp only [leB, decide_eq_true_eq] at *; exact List.le_trans h1 h2
  have tot : ∀ a b : List UInt8, (leB a b || leB b a) = true := fun a b => by simp only [leB, Bool.or_eq_true, decide_eq_true_eq]; exact List.le_total a b
  have hsort := List.pairwise_mergeSort tr tot ss
  rw [he] at hsort hnd
  have hlen : E.length = ss.length := by
    have := congrArg List.length he
    rw [List.length_mergeSort, List.length_map] at this
    exact this.symm
  have hss : ss.length = es.length := by
    have := hs.length_eq
    simpa [strKeys] using this
  refine ⟨E, he, ?_, fun e h' => (hEx e h').1, fun e => ⟨fun h' => (hEx e h').2, fun h' => ?_⟩, by rw [hlen, hss]; rfl, hlen⟩
  · refine (List.pairwise_map.1 (hsort.and hnd)).imp_of_mem fun {a b} ha hb hab => ?_
    obtain ⟨h1, h2⟩ := hab
    have h3 : keyB a < keyB b := by
      simp only [leB, decide_eq_true_eq] at h1
      by_cases h4 : keyB a < keyB b
      · exact h4
      · exact absurd (List.le_antisymm h1 (List.not_lt.1 h4)) h2
    exact (keyB_lt a b ((hEx a ha).1.1.trans (hEx b hb).1.1.symm) (hEx a ha).1.2 (hEx b hb).1.2).1 h3
  · obtain ⟨c, hc⟩ := Option.isSome_iff_exists.1 h'
    obtain ⟨h1, h2⟩ := hf e c hc
    have h3 : keyB e ∈ ss.mergeSort leB := (List.mergeSort_perm ss leB).mem_iff.2 (hs.mem_iff.2 (List.mem_map.2 ⟨_, h2, rfl⟩))
    rw [he] at h3
    obtain ⟨x, hx, hxe⟩ := List.mem_map.1 h3
    rwa [keyB_inj h1.2 (hEx x hx).1.2 hxe.symm]

section
variable {q : Nat} {add sub mul : Nat → Nat → Nat}

/-- What a sum of terms holds: a map that tells their coefficients. -/
def Tells (n : Nat) (st : Nat → Nat) (add : Nat → Nat → Nat) (ts : List Tm) (D : DataW Unit) : Prop := ∃ f, DOf n f D ∧ (∀ e, st ((f e).getD 0) = cfs add ts e) ∧ Maps.size D ≤ ts.length ∧ ∀ e, (f e).getD 0 ≤ ts.length * 4294967296

theorem Tells.empty (n : Nat) {st : Nat → Nat} (h0 : st 0 = 0) (add : Nat → Nat → Nat) : Tells n st add [] (.map []) := ⟨_, DOf.empty n, fun _ => h0, Nat.le_refl _, fun _ => Nat.le_refl _⟩
theorem Tells.at {n : Nat} {st : Nat → Nat} {ts : List Tm} {D : DataW Unit} (hT : Tells n st add ts D) {e : List Nat} (he : Ex n e) :
    ∃ v : Nat, D.atKey (.string (keyB e)) (.lit (.int .u64 0)) = .lit (.int .u64 (v : Int)) ∧ st v = cfs add ts e ∧ v ≤ ts.length * 4294967296 ∧
      ∀ (c v' : Nat), st v' = add (cfs add ts e) c → v' ≤ (ts.length + 1) * 4294967296 → Tells n st add (ts ++ [(c, e)]) (D.put (.string (keyB e)) (.lit (.int .u64 (v' : Int)))) := by
  obtain ⟨f, hf, hc, hs, hb⟩ := hT
  obtain ⟨h1, h2⟩ := hf.at he
  refine ⟨(f e).getD 0, ?_, hc e, hb e, fun c v' hv hv' => ⟨_, hf.put he v', fun x => ?_, ?_, fun x => ?_⟩⟩
  · cases hfe : f e with
    | none => rw [hfe] at h1; exact atKey_of_not_has h1 _
    | some c => exact h2 c hfe _
  · rw [cfs_snoc]
    unfold putE
    by_cases hx : x = e
    · subst hx
      rw [if_pos rfl, if_pos rfl]; exact hv
    · rw [if_neg hx, if_neg (fun e' => hx e'.symm), hc]
  · have := hf.size_put (.string (keyB e)) (.lit (.int .u64 (v' : Int)))
    simp
    omega
  · unfold putE
    rw [List.length_append, List.length_singleton]
    by_cases hx : x = e
    · rw [if_pos hx]; exact hv'
    · rw [if_neg hx]
      exact Nat.le_trans (hb x) (Nat.mul_le_mul_right _ (Nat.le_succ _))
/-- What a swept sum holds. -/
structure Swept (n : Nat) (st : Nat → Nat) (add : Nat → Nat → Nat) (ts : List Tm) (D : DataW Unit) : Prop where
  of : ∃ f, DOf n f D ∧ (∀ e, (f e).isSome = decide (cfs add ts e ≠ 0)) ∧ (∀ e c, f e = some c → st c = cfs add ts e) ∧ ∀ e c, f e = some c → c ≤ ts.length * 4294967296
theorem Tells.sweep {n : Nat} {st : Nat → Nat} (h0 : st 0 = 0) {ts : List Tm} {D : DataW Unit} (hT : Tells n st add ts D) :
    Tells n st add ts (Lib.deleteFuncD (pdS st) D) ∧ Swept n st add ts (Lib.deleteFuncD (pdS st) D) := by
  obtain ⟨f, hf, hc, hs, hb⟩ := hT
  have hd := hf.sweep st
  have hsz := hf.size_sweep st
  refine ⟨⟨_, hd, fun e => ?_, by omega, fun e => ?_⟩, ⟨_, hd, fun e => ?_, fun e c he => ?_, fun e c he => ?_⟩⟩
  · rw [← hc e]
    unfold swF
    cases hfe : f e with
    | none => simp
    | some c =>
      by_cases h1 : st c = 0
      · simp [h1, h0]
      · simp [h1]
  · have := hb e
    unfold swF
    cases hfe : f e with
    | none => simp
    | some c =>
      rw [hfe] at this
      by_cases h1 : st c = 0
      · simp [h1]
      · simpa [h1] using this
  · rw [← hc e]
    unfold swF
    cases hfe : f e with
    | none => simp [h0]
    | some c =>
      by_cases h1 : st c = 0
      · simp [h1]
      · simp [h1]
  · obtain ⟨h1, h2⟩ := swF_some he
    rw [← hc e, h1]; rfl
  · obtain ⟨h1, h2⟩ := swF_some he
    have := hb e
    rw [h1] at this
    exact this
theorem Swept.at {n : Nat} {st : Nat → Nat} {ts : List Tm} {D : DataW Unit} (h : Swept n st add ts D) {e : List Nat} (he : Ex n e) (hne : cfs add ts e ≠ 0) : ∃ v : Nat, (∀ z, D.atKey (.string (keyB e)) z = .lit (.int .u64 (v : Int))) ∧ st v = cfs add ts e ∧ v ≤ ts.length * 4294967296 := by
  obtain ⟨f, hf, h1, h2, h3⟩ := h.of
  have hs := h1 e
  rw [decide_eq_true hne] at hs
  obtain ⟨c, hc⟩ := Option.isSome_iff_exists.1 hs
  exact ⟨c, (hf.at he).2 c hc, h2 e c hc, h3 e c hc⟩

/-- THE SUM AS A POLYNOMIAL. -/
theorem Tells.poly (h : Rng q add sub mul) {n : Nat} {st : Nat → Nat} {ts : List Tm} (hlt : CoLt q ts) {D : DataW Unit} (hD : Swept n st add ts D) {ss : List (List UInt8)} (hs : ss.Perm (strKeys D)) :
    ∃ E : List (List Nat), ss.mergeSort leB = E.map keyB ∧ (∀ e ∈ E, Ex n e ∧ cfs add ts e ≠ 0) ∧ Ris q n (E.map fun e => (cfs add ts e, e)) ∧ (∀ e, cfs add (E.map fun e => (cfs add ts e, e)) e = cfs add ts e) ∧ E.length = Maps.size D ∧ E.length = ss.length := by
  obtain ⟨f, hf, hsome, _, _⟩ := hD.of
  obtain ⟨E, h1, h2, h3, h4, h5, h6⟩ := hf.keys hs
  have h0 : ∀ e ∈ E, cfs add ts e ≠ 0 := fun e he => by
    have := (h4 e).1 he
    rw [hsome] at this
    simpa using this
  have hr : Ris q n (E.map fun e => (cfs add ts e, e)) := ⟨fun t ht => by
    obtain ⟨e, he, rfl⟩ := List.mem_map.1 ht
    exact ⟨Nat.pos_of_ne_zero (h0 e he), cfs_lt h hlt e⟩, fun t ht => by
    obtain ⟨e, he, rfl⟩ := List.mem_map.1 ht
    exact (h3 e he).1, List.pairwise_map.2 h2⟩
  refine ⟨E, h1, fun e he => ⟨h3 e he, h0 e he⟩, hr, fun e => ?_, h5, h6⟩
  by_cases he : e ∈ E
  · exact hr.cf_mem h (t := (cfs add ts e, e)) (List.mem_map.2 ⟨e, he, rfl⟩)
  · rw [cfs_none]
    · by_cases hz : cfs add ts e = 0
      · exact hz.symm
      · exact absurd ((h4 e).2 (by rw [hsome]; simp [hz])) he
    · intro t ht e'
      obtain ⟨x, hx, rfl⟩ := List.mem_map.1 ht
      exact he (e' ▸ hx)
end
end Go.Proofs.YtcophfhnhlaonaaGreatDoor
namespace Go.Proofs.YtcophfhnhlaonaaGreatDoor
set_option linter.unusedVariables false
open Go.RowKit

theorem fst_cell (w : World) (cs : Array Value) (t : TypeId) (o : Obj) (j : Nat) : ((w.alloc (.cells cs t)).alloc o).cell? ⟨w.heap.size, j, none⟩ = cs[j]? := by
  rw [World.cell?_alloc_lt _ _ _ (by simp)]
  exact World.cell?_alloc_new w cs t j
theorem snd_cell (w : World) (o : Obj) (cs : Array Value) (t : TypeId) (j : Nat) : ((w.alloc o).alloc (.cells cs t)).cell? ⟨w.heap.size + 1, j, none⟩ = cs[j]? := by
  exact World.cell?_alloc_at cs t _ j (by simp)

/-- A ring of polynomials as a value. -/
abbrev rg (P M q n : Nat) : Value := .agg #[.int .i64 (P : Int), .int .i64 (M : Int), .int .i64 (q : Int), .int .i64 (n : Int)]

/-- A slice that reads as a list of integers (nil let in). -/
def SlR (w : World) (v : Value) (xs : List Int) : Prop := ∃ A c, v = .slice A xs.length c ∧ RdI w A xs ∧ xs.length ≤ 1152921504606846976

theorem SlR.below {w w' : World} {v : Value} {xs : List Int} (h : SlR w v xs) (hb : Below w.heap.size w w') : SlR w' v xs := by
  obtain ⟨A, c, e, hr, hl⟩ := h
  exact ⟨A, c, e, hr.below hb, hl⟩

def OkT (q n : Nat) (c : Int) (E : List Int) : Prop := 0 < c ∧ c < q ∧ E.length = n ∧ ∀ x ∈ E, 0 ≤ x ∧ x ≤ 65535
def PreE (E : List Int) (k : Nat) : Prop := ∀ j x, j < k → E[j]? = some x → 0 ≤ x ∧ x ≤ 65535
theorem PreE.succ {E : List Int} {k : Nat} {x : Int} (h : PreE E k) (hx : E[k]? = some x) (h1 : 0 ≤ x ∧ x ≤ 65535) : PreE E (k + 1) := fun j y hj hy => by
  rcases Nat.lt_or_ge j k with h2 | h2
  · exact h j y h2 hy
  · have : j = k := by omega
    subst this
    rw [hx] at hy
    cases hy
    exact h1
theorem PreE.all {E : List Int} (h : PreE E E.length) : ∀ x ∈ E, 0 ≤ x ∧ x ≤ 65535 := fun x hx => by
  obtain ⟨j, hj, rfl⟩ := List.getElem_of_mem hx
  exact h j _ hj (List.getElem?_eq_getElem hj)

def TermIs (q n : Nat) (c : Int) (E : List Int) (w : World) (e : Ending) (w' : World) : Prop :=
  Below w.heap.size w w' ∧ (OkT q n c E ∧ e = .returned (.bool true) ∨ ¬ OkT q n c E ∧ e = .returned (.bool false))

end Go.Proofs.YtcophfhnhlaonaaGreatDoor
