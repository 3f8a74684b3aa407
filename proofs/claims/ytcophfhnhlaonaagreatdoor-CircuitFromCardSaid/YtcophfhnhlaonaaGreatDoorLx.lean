/-
  Joined from Lx: see there.
-/
import Derived.Test.YtcophfhnhlaonaaGreatDoorChecked
namespace Go.Proofs.YtcophfhnhlaonaaGreatDoor
set_option linter.unusedVariables false

def cmpI (a b : Int) : Int := if a < b then -1 else if b < a then 1 else 0

/-- The order of lists. -/
def cmpL : List Nat → List Nat → Int
  | [], [] => 0
  | [], _ :: _ => -1
  | _ :: _, [] => 1
  | a :: s, b :: t => if a < b then -1 else if b < a then 1 else cmpL s t

theorem cmpL_same : ∀ (s t : List Nat), s.length = t.length → ∀ k, k < s.length → cmpL (s.drop k) (t.drop k) = if s[k]?.getD 0 < t[k]?.getD 0 then -1 else if t[k]?.getD 0 < s[k]?.getD 0 then 1 else cmpL (s.drop (k + 1)) (t.drop (k + 1)) := fun s t h k hk => by
  have ht : k < t.length := by omega
  rw [List.drop_eq_getElem_cons hk, List.drop_eq_getElem_cons ht, List.getElem?_eq_getElem hk, List.getElem?_eq_getElem ht]
  rfl
theorem cmpL_self : ∀ s, cmpL s s = 0
  | [] => rfl
  | a :: s => by simp [cmpL, cmpL_self s]
theorem cmpL_zero : ∀ s t, cmpL s t = 0 → s = t
  | [], [], _ => rfl
  | [], _ :: _, h => by simp [cmpL] at h
  | _ :: _, [], h => by simp [cmpL] at h
  | a :: s, b :: t, h => by
    unfold cmpL at h
    split at h
    · simp at h
    · split at h
      · simp at h
      · rw [cmpL_zero s t h, show a = b by omega]
theorem cmpL_neg : ∀ s t, cmpL s t = - cmpL t s
  | [], [] => rfl
  | [], _ :: _ => rfl
  | _ :: _, [] => rfl
  | a :: s, b :: t => by
    unfold cmpL
    by_cases h1 : a < b
    · rw [if_pos h1, if_neg (by omega), if_pos h1]
    · by_cases h2 : b < a
      · rw [if_neg h1, if_pos h2, if_pos h2]; rfl
      · rw [if_neg h1, if_neg h2, if_neg h2, if_neg h1]; exact cmpL_neg s t
theorem cmpL_trans : ∀ s t u, cmpL s t < 0 → cmpL t u < 0 → cmpL s u < 0
  | [], t, [], h1, h2 => by
    cases t <;> simp [cmpL] at h1 h2
  | [], _, _ :: _, _, _ => by simp [cmpL]
  | _ :: _, [], _, h1, _ => by simp [cmpL] at h1
  | _ :: _, _ :: _, [], _, h2 => by simp [cmpL] at h2
  | a :: s, b :: t, c :: u, h1, h2 => by
    unfold cmpL at h1 h2 ⊢
    by_cases x1 : a < b
    · by_cases x2 : b < c
      · rw [if_pos (by omega)]; omega
      · rw [if_neg x2] at h2
        by_cases x3 : c < b
        · rw [if_pos x3] at h2; omega
        · rw [if_pos (by omega)]; omega
    · rw [if_neg x1] at h1
      by_cases y1 : b < a
      · rw [if_pos y1] at h1; omega
      · rw [if_neg y1] at h1
        by_cases x2 : b < c
        · rw [if_pos (by omega)]; omega
        · rw [if_neg x2] at h2
          by_cases x3 : c < b
          · rw [if_pos x3] at h2; omega
          · rw [if_neg x3] at h2
            rw [if_neg (by omega), if_neg (by omega)]
            exact cmpL_trans s t u h1 h2
theorem cmpL_range (s t : List Nat) : cmpL s t = -1 ∨ cmpL s t = 0 ∨ cmpL s t = 1 := by
  induction s generalizing t with
  | nil => cases t <;> simp [cmpL]
  | cons a s ih =>
    cases t with
    | nil => simp [cmpL]
    | cons b t =>
      unfold cmpL
      split
      · simp
      · split
        · simp
        · exact ih t

/-- Rising lists with the same members are the same. -/
theorem sorted_ext {α : Type} {r : α → α → Prop} (hasym : ∀ a b, r a b → ¬ r b a) : ∀ {l l' : List α}, l.Pairwise r → l'.Pairwise r → (∀ x, x ∈ l ↔ x ∈ l') → l = l'
  | [], [], _, _, _ => rfl
  | [], b :: l', _, _, h => absurd ((h b).2 (by simp)) (by simp)
  | a :: l, [], _, _, h => absurd ((h a).1 (by simp)) (by simp)
  | a :: l, b :: l', h1, h2, h => by
    rw [List.pairwise_cons] at h1 h2
    have hab : a = b := by
      have ha := (h a).1 (by simp)
      have hb := (h b).2 (by simp)
      simp only [List.mem_cons] at ha hb
      rcases ha with ha | ha
      · exact ha
      · rcases hb with hb | hb
        · exact hb.symm
        · exact absurd (h1.1 b hb) (hasym _ _ (h2.1 a ha))
    subst hab
    congr 1
    refine sorted_ext hasym h1.2 h2.2 fun x => ?_
    constructor
    · intro hx
      have := (h x).1 (by simp [hx])
      simp only [List.mem_cons] at this
      rcases this with rfl | h3
      · exact absurd (h1.1 x hx) (hasym _ _ (h1.1 x hx))
      · exact h3
    · intro hx
      have := (h x).2 (by simp [hx])
      simp only [List.mem_cons] at this
      rcases this with rfl | h3
      · exact absurd (h2.1 x hx) (hasym _ _ (h2.1 x hx))
      · exact h3
end Go.Proofs.YtcophfhnhlaonaaGreatDoor
