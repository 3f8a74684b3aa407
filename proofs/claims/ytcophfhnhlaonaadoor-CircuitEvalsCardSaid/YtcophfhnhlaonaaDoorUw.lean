/-
  Joined from Fnb, Fnc, Fnd: see there.
-/
import Derived.Test.YtcophfhnhlaonaaDoorUv
namespace Go.Proofs.YtcophfhnhlaonaaDoor
set_option linter.unusedVariables false
open Go.RowKit

end Go.Proofs.YtcophfhnhlaonaaDoor
namespace Go.Proofs.YtcophfhnhlaonaaDoor
set_option linter.unusedVariables false
open Go.RowKit

end Go.Proofs.YtcophfhnhlaonaaDoor
namespace Go.Proofs.YtcophfhnhlaonaaDoor
set_option linter.unusedVariables false
open Go.RowKit

mutual
def nestT : Tre → Nat
  | .mk _ _ ts => nestL ts + 1
def nestL : List Tre → Nat
  | [] => 0
  | t :: ts => max (nestT t) (nestL ts)
end
theorem inpL_max : ∀ (ts : List Tre) (a b : Nat), inpL ts (max a b) = max a (inpL ts b)
  | [], a, b => by simp [inpL]
  | t :: ts, a, b => by rw [inpL, inpL, Nat.max_assoc, inpL_max ts a]
mutual
theorem visN_some {sh : List Sh} : ∀ (t : Tre) (nest : Nat) (m m' : Ms) (d : Nat), m.nodes ≤ 20000 → visN sh t nest m = (some d, m') →
    m' = ⟨m.nodes + nodT t, max m.inputs (inpT t), m.size + sizT t⟩ ∧ d = depT sh t ∧ shN sh t = true ∧ nest + nestT t ≤ 1001 ∧ m.nodes + nodT t ≤ 20000
  | .mk k n ts, nest, m, m', d, hm, h => by
    rw [visN] at h
    split at h
    · simp at h
    · rename_i hc
      have hp : permN sh k n ts.length = true := by
        cases hp : permN sh k n ts.length
        · exact absurd (.inr (.inr hp)) hc
        · rfl
      split at h
      · simp at h
      · rename_i d1 m1 hv
        simp only [Prod.mk.injEq, Option.some.injEq] at h
        obtain ⟨rfl, rfl⟩ := h
        obtain ⟨e1, e2, e3, e4, e5⟩ := visL_some ts (nest + 1) _ m1 0 d1 (by show m.nodes + 1 ≤ 20000; omega) hv
        have hin : max (if k = 0 then max m.inputs (n + 1).toNat else m.inputs) (inpL ts 0) = max m.inputs (inpL ts (if k = 0 then (n + 1).toNat else 0)) := by
          split
          · rw [Nat.max_assoc, ← inpL_max, Nat.max_zero]
          · rfl
        have hsz : (if ts.length = 0 then m.size + 1 else m.size) + sizL ts = m.size + (if ts.length = 0 then 1 else sizL ts) := by
          split
          · rename_i hl
            rw [List.length_eq_zero_iff.1 hl, sizL]
          · rfl
        refine ⟨?_, ?_, ?_, ?_, ?_⟩
        · rw [e1]
          unfold nodT inpT sizT Ms.step
          simp only [Ms.mk.injEq]
          refine ⟨by omega, hin, hsz⟩
        · rw [e2]; unfold depT; rfl
        · rw [shN, e3, hp]; rfl
        · unfold nestT
          rcases e4 with e4 | e4
          · omega
          · rw [e4, nestL]
            have : ¬ 1000 < nest := fun h => hc (.inr (.inl h))
            omega
        · have h5 : m.nodes + 1 + nodL ts ≤ 20000 := e5
          unfold nodT
          omega
theorem visL_some {sh : List Sh} : ∀ (ts : List Tre) (nest : Nat) (m m' : Ms) (d d' : Nat), m.nodes ≤ 20000 → visL sh ts nest m d = (some d', m') →
    m' = ⟨m.nodes + nodL ts, max m.inputs (inpL ts 0), m.size + sizL ts⟩ ∧ d' = depL sh ts d ∧ shL sh ts = true ∧ (nest + nestL ts ≤ 1001 ∨ ts = []) ∧ m.nodes + nodL ts ≤ 20000
  | [], nest, m, m', d, d', hm, h => by
    simp only [visL, Prod.mk.injEq, Option.some.injEq] at h
    obtain ⟨rfl, rfl⟩ := h
    refine ⟨by simp [nodL, inpL, sizL], by simp [depL], rfl, .inr rfl, by simp [nodL]; exact hm⟩
  | t :: ts, nest, m, m', d, d', hm, h => by
    rw [visL] at h
    split at h
    · simp at h
    · rename_i x m1 hv
      obtain ⟨a1, a2, a3, a4, a5⟩ := visN_some t nest m m1 x hm hv
      obtain ⟨b1, b2, b3, b4, b5⟩ := visL_some ts nest m1 m' (max d x) d' (by rw [a1]; exact a5) h
      rw [a1] at b1 b5
      refine ⟨?_, ?_, ?_, ?_, ?_⟩
      · rw [b1]
        simp only [nodL, sizL, inpL, Ms.mk.injEq]
        refine ⟨by omega, ?_, by omega⟩
        rw [Nat.zero_max, Nat.max_assoc, ← inpL_max ts (inpT t) 0, Nat.max_zero]
      · rw [b2, depL, a2]
      · rw [shL, a3, b3]; rfl
      · left
        rw [nestL]
        rcases b4 with b4 | b4
        · omega
        · rw [b4, nestL]; omega
      · have h5 : m.nodes + nodT t + nodL ts ≤ 20000 := b5
        rw [nodL]; omega
end
mutual
theorem visN_of {sh : List Sh} : ∀ (t : Tre) (nest : Nat) (m : Ms), m.nodes + nodT t ≤ 20000 → nest + nestT t ≤ 1001 → shN sh t = true → ∃ d m', visN sh t nest m = (some d, m')
  | .mk k n ts, nest, m, hn, hd, hs => by
    rw [nodT] at hn
    rw [nestT] at hd
    rw [shN, Bool.and_eq_true] at hs
    obtain ⟨d, m', h⟩ := visL_of ts (nest + 1) (Ms.step { m with nodes := m.nodes + 1 } k n ts.length) 0 (by show m.nodes + 1 + nodL ts ≤ 20000; omega) (by omega) hs.1
    rw [visN, if_neg (by rintro (h | h | h); omega; omega; rw [hs.2] at h; cases h), h]
    exact ⟨_, _, rfl⟩
theorem visL_of {sh : List Sh} : ∀ (ts : List Tre) (nest : Nat) (m : Ms) (d : Nat), m.nodes + nodL ts ≤ 20000 → nest + nestL ts ≤ 1001 → shL sh ts = true → ∃ d' m', visL sh ts nest m d = (some d', m')
  | [], nest, m, d, _, _, _ => ⟨d, m, by rw [visL]⟩
  | t :: ts, nest, m, d, hn, hd, hs => by
    rw [nodL] at hn
    rw [nestL] at hd
    rw [shL, Bool.and_eq_true] at hs
    obtain ⟨x, m1, h1⟩ := visN_of t nest m (by omega) (by omega) hs.1
    have h1' := (visN_some t nest m m1 x (by omega) h1).1
    obtain ⟨d', m', h2⟩ := visL_of ts nest m1 (max d x) (by rw [h1']; show m.nodes + nodT t + nodL ts ≤ 20000; omega) (by omega) hs.2
    rw [visL, h1]
    exact ⟨d', m', h2⟩
end
theorem nestT_pos : ∀ t : Tre, 1 ≤ nestT t
  | .mk _ _ ts => by unfold nestT; omega
mutual
theorem cntN_eq : ∀ (t : Tre) (m : Nat), 1 ≤ m → (cntN t m).1 ≤ 20000 → (cntN t m).2 ≤ m → cntN t m = (nodT t, nestT t)
  | .mk k n ts, m, hm, h1, h2 => by
    rw [cntN] at h1 h2 ⊢
    split at h1
    · rename_i hc
      rw [if_pos hc] at h2 ⊢
      have h := cntL_eq ts (m - 1) 1 0 (by omega) h1 (by have : (cntL ts (m - 1) 1 0).2 + 1 ≤ m := h2; omega)
      rw [h, nodT, nestT]
      simp only [Prod.mk.injEq]
      omega
    · rename_i hc
      rw [if_neg hc] at h2 ⊢
      have h2' : (if 0 < ts.length then 1 else 0) + 1 ≤ m := h2
      split at h2'
      · omega
      · rename_i hl
        have : ts = [] := List.length_eq_zero_iff.1 (by omega)
        subst this
        simp [nodT, nestT, nodL, nestL]
theorem cntL_eq : ∀ (ts : List Tre) (m n d : Nat), 1 ≤ m → (cntL ts m n d).1 ≤ 20000 → (cntL ts m n d).2 ≤ m → cntL ts m n d = (n + nodL ts, max d (nestL ts))
  | [], m, n, d, hm, h1, h2 => by simp [cntL, nodL, nestL]
  | t :: ts, m, n, d, hm, h1, h2 => by
    rw [cntL] at h1 h2 ⊢
    split at h1
    · rename_i hc
      rw [if_pos hc] at h2 ⊢
      have hle := cntL_le ts m (n + (cntN t m).1) (max d (cntN t m).2)
      have hge := cntL_ge ts m (n + (cntN t m).1) (max d (cntN t m).2)
      have ht := cntN_eq t m hm (by omega) (by omega)
      rw [cntL_eq ts m _ _ hm h1 h2, ht, nodL, nestL]
      simp only [Prod.mk.injEq]
      omega
    · rename_i hc; exact absurd h1 hc
theorem cntL_ge : ∀ (ts : List Tre) (m n d : Nat), d ≤ (cntL ts m n d).2
  | [], m, n, d => by rw [cntL]; exact Nat.le_refl _
  | t :: ts, m, n, d => by
    rw [cntL]
    split
    · have := cntL_ge ts m (n + (cntN t m).1) (max d (cntN t m).2)
      omega
    · exact Nat.le_refl _
end
mutual
theorem cntN_of : ∀ (t : Tre) (m : Nat), 1 ≤ m → nodT t ≤ 20000 → nestT t ≤ m → cntN t m = (nodT t, nestT t)
  | .mk k n ts, m, hm, h1, h2 => by
    rw [nodT] at h1
    rw [nestT] at h2
    rw [cntN]
    by_cases hc : 1 < m
    · rw [if_pos hc, cntL_of ts (m - 1) 1 0 (by omega) (by omega) (by omega), nodT, nestT]
      simp only [Prod.mk.injEq]
      omega
    · rw [if_neg hc]
      have hz : nestL ts = 0 := by omega
      cases ts with
      | nil => simp [nodT, nestT, nodL, nestL]
      | cons u us =>
        rw [nestL] at hz
        have := nestT_pos u
        omega
theorem cntL_of : ∀ (ts : List Tre) (m n d : Nat), 1 ≤ m → n + nodL ts ≤ 20000 → nestL ts ≤ m → cntL ts m n d = (n + nodL ts, max d (nestL ts))
  | [], m, n, d, hm, h1, h2 => by simp [cntL, nodL, nestL]
  | t :: ts, m, n, d, hm, h1, h2 => by
    rw [nodL] at h1 ⊢
    rw [nestL] at h2 ⊢
    have := nodT_pos t
    rw [cntL, if_pos (by omega), cntN_of t m hm (by omega) (by omega), cntL_of ts m _ _ hm (by omega) (by omega)]
    simp only [Prod.mk.injEq]
    omega
end
/-- What the reference's Valid returns. -/
def okR (sh : List Sh) (t : Tre) : Bool := decide ((cntN t 1001).1 ≤ 20000) && decide ((cntN t 1001).2 ≤ 1000) && shN sh t
theorem mesI_yes {sh : List Sh} {t : Tre} (h : okR sh t = true) : mesI sh t = some (nodT t, inpT t, sizT t, depT sh t) ∧ shN sh t = true ∧ nodT t ≤ 20000 := by
  unfold okR at h
  rw [Bool.and_eq_true, Bool.and_eq_true, decide_eq_true_eq, decide_eq_true_eq] at h
  obtain ⟨⟨h1, h2⟩, h3⟩ := h
  have he := cntN_eq t 1001 (by omega) h1 (by omega)
  rw [he] at h1 h2
  have h1' : nodT t ≤ 20000 := h1
  have h2' : nestT t ≤ 1000 := h2
  obtain ⟨d, m', hv⟩ := visN_of t 1 ⟨0, 0, 0⟩ (by show 0 + nodT t ≤ 20000; omega) (by omega) h3
  obtain ⟨a1, a2, _⟩ := visN_some t 1 ⟨0, 0, 0⟩ m' d (by show 0 ≤ 20000; omega) hv
  refine ⟨?_, h3, h1'⟩
  unfold mesI
  rw [hv, a1, a2]
  simp
theorem mesI_no {sh : List Sh} {t : Tre} (h : okR sh t = false) : mesI sh t = none := by
  unfold mesI
  cases hv : visN sh t 1 ⟨0, 0, 0⟩ with
  | mk r m' =>
    cases r with
    | none => rfl
    | some d =>
      exfalso
      obtain ⟨a1, a2, a3, a4, a5⟩ := visN_some t 1 ⟨0, 0, 0⟩ m' d (by show 0 ≤ 20000; omega) hv
      have h5 : 0 + nodT t ≤ 20000 := a5
      have he := cntN_of t 1001 (by omega) (by omega) (by omega)
      unfold okR at h
      rw [he, a3, decide_eq_true (show (nodT t, nestT t).1 ≤ 20000 by show nodT t ≤ 20000; omega), decide_eq_true (show (nodT t, nestT t).2 ≤ 1000 by show nestT t ≤ 1000; omega)] at h
      cases h
end Go.Proofs.YtcophfhnhlaonaaDoor
