/-
  The textual form of a permutation, plainly, and two ways to read it back: by enumeration of all permutations of at most seven points.
-/
import Derived.Test.YtdpnmepplkiljaaDoorM
namespace Go.Proofs.YtdpnmepplkiljaaDoor
open Go.RowKit

def eltsAt (c : List Nat) (k : Nat) : List Nat := (List.range k).flatMap fun i => (bif Nat.beq i 0 then [] else [32]) ++ [48 + c[i]?.getD 0]
theorem eltsAt_succ (c : List Nat) (k : Nat) : eltsAt c (k + 1) = eltsAt c k ++ ((bif Nat.beq k 0 then [] else [32]) ++ [48 + c[k]?.getD 0]) := by
  simp only [eltsAt, List.range_succ, List.flatMap_append, List.flatMap_cons, List.flatMap_nil, List.append_nil]
def cycText (c : List Nat) : List Nat := 40 :: (eltsAt c c.length ++ [41])
def lcy (ps : List Nat) : List (List Nat) := (allCyc ps).filter fun c => decide (1 < c.length)
def textN (ps : List Nat) : List Nat := match lcy ps with
  | [] => [40, 41]
  | cs => cs.flatMap cycText

def readA (n : Nat) : List Nat → List Nat → Option (Nat × Nat) → Option (List Nat)
  | [], ps, _ => some ps
  | c :: t, ps, fl => bif Nat.beq c 40 then readA n t ps none else bif Nat.beq c 41 then (match fl with
      | none => readA n t ps none
      | some (f, l) => readA n t (ps.set l f) (some (f, l)))
    else bif Nat.beq c 32 then readA n t ps fl else bif Nat.blt c 48 then none else bif Nat.ble n (c - 48) then none else match fl with
      | none => readA n t ps (some (c - 48, c - 48))
      | some (f, l) => readA n t (ps.set l (c - 48)) (some (f, c - 48))

def closeC (c : List Nat) (k : Nat) (ps : List Nat) : List Nat := (List.range k).foldl (fun q i => q.set (c[i]?.getD 0) (c[(i + 1) % c.length]?.getD 0)) ps
theorem closeC_succ (c : List Nat) (k : Nat) (ps : List Nat) : closeC c (k + 1) ps = (closeC c k ps).set (c[k]?.getD 0) (c[(k + 1) % c.length]?.getD 0) := by
  simp only [closeC, List.range_succ, List.foldl_append, List.foldl_cons, List.foldl_nil]
theorem closeC_length (c : List Nat) (ps : List Nat) : ∀ k, (closeC c k ps).length = ps.length
  | 0 => rfl
  | k + 1 => by rw [closeC_succ, List.length_set, closeC_length c ps k]

def readR (n : Nat) : List Nat → List Nat → List Nat → Option (List Nat)
  | [], ps, _ => some ps
  | ch :: t, ps, c => bif Nat.beq ch 40 then readR n t ps [] else bif Nat.ble 48 ch && Nat.ble ch 57 then (bif Nat.ble n (ch - 48) then none else readR n t ps (c ++ [ch - 48]))
    else bif Nat.beq ch 41 then readR n t (closeC c c.length ps) c else readR n t ps c

theorem readA_length (n : Nat) : ∀ (l ps : List Nat) (fl : Option (Nat × Nat)) (qs : List Nat), readA n l ps fl = some qs → qs.length = ps.length
  | [], ps, _, qs, h => by cases h; rfl
  | c :: t, ps, fl, qs, h => by
    unfold readA at h
    rcases h1 : Nat.beq c 40 with _ | _
    · rw [h1] at h
      rcases h2 : Nat.beq c 41 with _ | _
      · rw [h2] at h
        rcases h3 : Nat.beq c 32 with _ | _
        · rw [h3] at h
          rcases h4 : Nat.blt c 48 with _ | _
          · rw [h4] at h
            rcases h5 : Nat.ble n (c - 48) with _ | _
            · rw [h5] at h
              rcases fl with _ | ⟨f, l⟩
              · exact readA_length n t ps _ qs h
              · have := readA_length n t _ _ qs h
                rwa [List.length_set] at this
            · rw [h5] at h; cases h
          · rw [h4] at h; cases h
        · rw [h3] at h
          exact readA_length n t ps _ qs h
      · rw [h2] at h
        rcases fl with _ | ⟨f, l⟩
        · exact readA_length n t ps _ qs h
        · have := readA_length n t _ _ qs h
          rwa [List.length_set] at this
    · rw [h1] at h
      exact readA_length n t ps _ qs h

theorem readR_length (n : Nat) : ∀ (l ps c qs : List Nat), readR n l ps c = some qs → qs.length = ps.length
  | [], ps, _, qs, h => by cases h; rfl
  | ch :: t, ps, c, qs, h => by
    unfold readR at h
    rcases h1 : Nat.beq ch 40 with _ | _
    · rw [h1] at h
      rcases h2 : (Nat.ble 48 ch && Nat.ble ch 57) with _ | _
      · rw [h2] at h
        rcases h3 : Nat.beq ch 41 with _ | _
        · rw [h3] at h
          exact readR_length n t ps _ qs h
        · rw [h3] at h
          have := readR_length n t _ _ qs h
          rwa [closeC_length] at this
      · rw [h2] at h
        rcases h3 : Nat.ble n (ch - 48) with _ | _
        · rw [h3] at h
          exact readR_length n t ps _ qs h
        · rw [h3] at h; cases h
    · rw [h1] at h
      exact readR_length n t ps _ qs h

def eqN : List Nat → List Nat → Bool
  | [], [] => true
  | a :: s, b :: t => Nat.beq a b && eqN s t
  | _, _ => false
theorem eqN_eq : ∀ {a b : List Nat}, eqN a b = true → a = b
  | [], [], _ => rfl
  | a :: s, b :: t, h => by
    simp only [eqN, Bool.and_eq_true] at h
    rw [Nat.eq_of_beq_eq_true h.1, eqN_eq h.2]
  | [], _ :: _, h => by cases h
  | _ :: _, [], h => by cases h
def okTo (ps : List Nat) : Option (List Nat) → Bool
  | none => false
  | some qs => eqN qs ps
def small256 : List Nat → Bool
  | [] => true
  | a :: s => Nat.blt a 256 && small256 s
theorem small256_lt : ∀ {l : List Nat}, small256 l = true → ∀ x ∈ l, x < 256
  | [], _, x, hx => by cases hx
  | a :: s, h, x, hx => by
    simp only [small256, Bool.and_eq_true] at h
    rcases List.mem_cons.1 hx with e | e
    · rw [e]
      have := h.1
      simpa [Nat.blt_eq] using this
    · exact small256_lt h.2 x e

def textOk (ps : List Nat) : Bool :=
  (fun l => small256 l && Nat.ble l.length 28 && okTo ps (readA ps.length l (List.range ps.length) none) && okTo ps (readR ps.length l (List.range ps.length) [])) (textN ps)

def with7t (x : Nat) : List (List Nat) := (genP 6 ((List.range 7).erase x)).map (x :: ·)
theorem t0 : (with7t 0).all textOk = true := by decide +kernel
theorem t1 : (with7t 1).all textOk = true := by decide +kernel
theorem t2 : (with7t 2).all textOk = true := by decide +kernel
theorem t3 : (with7t 3).all textOk = true := by decide +kernel
theorem t4 : (with7t 4).all textOk = true := by decide +kernel
theorem t5 : (with7t 5).all textOk = true := by decide +kernel
theorem t6 : (with7t 6).all textOk = true := by decide +kernel
theorem t7 : (perms 7).all textOk = true := by
  show ((List.range 7).flatMap with7t).all textOk = true
  rw [List.all_flatMap, List.all_eq_true]
  intro x hx
  have hx := List.mem_range.1 hx
  match x, hx with
  | 0, _ => exact t0
  | 1, _ => exact t1
  | 2, _ => exact t2
  | 3, _ => exact t3
  | 4, _ => exact t4
  | 5, _ => exact t5
  | 6, _ => exact t6
theorem textOk_all : ∀ n, 1 ≤ n → n ≤ 7 → (perms n).all textOk = true :=
  upto7 (by decide +kernel) (by decide +kernel) (by decide +kernel) (by decide +kernel) (by decide +kernel) (by decide +kernel) t7

theorem text_facts {ps : List Nat} (hp : IsPerm ps) : (∀ x ∈ textN ps, x < 256) ∧ (textN ps).length ≤ 28 ∧ readA ps.length (textN ps) (List.range ps.length) none = some ps ∧ readR ps.length (textN ps) (List.range ps.length) [] = some ps := by
  have h := all_perms textOk_all hp
  unfold textOk at h
  simp only [Bool.and_eq_true] at h
  obtain ⟨⟨⟨h1, h2⟩, h3⟩, h4⟩ := h
  refine ⟨small256_lt h1, by simpa using h2, ?_, ?_⟩
  · rcases e : readA ps.length (textN ps) (List.range ps.length) none with _ | qs
    · rw [e] at h3; cases h3
    · rw [e] at h3
      rw [eqN_eq h3]
  · rcases e : readR ps.length (textN ps) (List.range ps.length) [] with _ | qs
    · rw [e] at h4; cases h4
    · rw [e] at h4
      rw [eqN_eq h4]

/-! ### strings -/
def strOf (l : List Nat) : ByteArray := ⟨(l.map UInt8.ofNat).toArray⟩
def codes (s : ByteArray) : List Nat := s.data.toList.map UInt8.toNat
theorem codes_length (s : ByteArray) : (codes s).length = s.size := by
  unfold codes
  rw [List.length_map, Array.length_toList]
  rfl
theorem codes_strOf {l : List Nat} (h : ∀ x ∈ l, x < 256) : codes (strOf l) = l := by
  unfold codes strOf
  rw [List.map_map]
  conv => rhs; rw [← List.map_id l]
  refine List.map_congr_left fun x hx => ?_
  have := h x hx
  simp [Nat.mod_eq_of_lt this]

/-- s is the textual form of the permutation qs of n points. -/
def Parsed (n : Nat) (s : ByteArray) (qs : List Nat) : Prop := IsPerm qs ∧ qs.length = n ∧ strOf (textN qs) = s

theorem Parsed.facts {n : Nat} {s : ByteArray} {qs : List Nat} (h : Parsed n s qs) : s.size ≤ 28 ∧ readA n (codes s) (List.range n) none = some qs ∧ readR n (codes s) (List.range n) [] = some qs := by
  obtain ⟨hp, rfl, rfl⟩ := h
  obtain ⟨h1, h2, h3, h4⟩ := text_facts hp
  rw [codes_strOf h1]
  refine ⟨?_, h3, h4⟩
  rw [← codes_length, codes_strOf h1]
  exact h2

theorem Parsed.unique {n : Nat} {s : ByteArray} {qs rs : List Nat} (h : Parsed n s qs) (h' : Parsed n s rs) : qs = rs := by
  have e1 := h.facts.2.1
  have e2 := h'.facts.2.1
  rw [e1] at e2
  exact Option.some.inj e2
end Go.Proofs.YtdpnmepplkiljaaDoor
