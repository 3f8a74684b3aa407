/-
  Joined from Fnq, Fnr: see there.
-/
import Derived.Test.YtcophfhnhlaonaaDoorVb
import Derived.Test.YtcophfhnhlaonaaDoorRg
namespace Go.Proofs.YtcophfhnhlaonaaDoor
set_option linter.unusedVariables false
open Go.RowKit

set_option maxHeartbeats 2000000 in
theorem Apply_ref (k : Int) (hk : k = 3 ∨ k = 4 ∨ k = 5) (f : Nat → Bool) (n : Int) (a b : Bool) (w : World) :
    Calls Tryd.prog 21 #[.int .i64 k, .bool a, .bool b] w fun e w' => e = .returned (.bool (evC f k n [a, b])) ∧ Below w.heap.size w w' := by
  rcases hk with rfl | rfl | rfl <;> cases a <;> cases b <;> (
    go_enter Tryd.func21, Tryd.ntmps21
    go_wp2_with fail
    go_ret
    exact ⟨rfl, Below.refl _ _⟩)

end Go.Proofs.YtcophfhnhlaonaaDoor
namespace Go.Proofs.YtcophfhnhlaonaaDoor
set_option linter.unusedVariables false
open Go.RowKit

mutual
theorem inpT_le {t : Tre} : shN fSh t = true → inpT t ≤ 16 := by
  match t with
  | .mk k n ts =>
    intro h
    rw [shN, Bool.and_eq_true] at h
    rw [inpT]
    refine inpL_le h.1 ?_
    split
    · rename_i hk
      obtain ⟨s, hs, a1, a2, a3, a4⟩ := permN_of h.2
      rw [hk] at hs
      cases hs
      have : n < 16 := a3
      omega
    · omega
theorem inpL_le {ts : List Tre} {d : Nat} : shL fSh ts = true → d ≤ 16 → inpL ts d ≤ 16 := by
  match ts with
  | [] => intro h hd; rw [inpL]; exact hd
  | t :: ts =>
    intro h hd
    rw [shL, Bool.and_eq_true] at h
    rw [inpL]
    have := inpT_le h.1
    exact inpL_le h.2 (by omega)
end
theorem mes_inp {t : Tre} {a b c d : Nat} (h : mesI fSh t = some (a, b, c, d)) : b ≤ 16 := by
  cases ho : okR fSh t with
  | false => rw [mesI_no ho] at h; cases h
  | true =>
    obtain ⟨h1, h2, _⟩ := mesI_yes ho
    rw [h1] at h
    cases h
    exact inpT_le h2
/-- What Eval leaves. -/
def EvlIs (o : Option (Nat × Nat × Nat × Nat)) (t : Tre) (xs : List Bool) (e : Ending) : Prop :=
  match o with
  | none => e = .returned (.tuple #[.bool false, .int .i64 1])
  | some x => (xs.length < x.2.1 ∧ e = .returned (.tuple #[.bool false, .int .i64 2])) ∨ (x.2.1 ≤ xs.length ∧ e = .returned (.tuple #[.bool (evT (fun a => xs[a]?.getD false) t), .int .i64 0]))
def evW (xs : List Bool) (m i : Nat) : List (BitVec 64) := (List.range m).map fun a => if a < i ∧ xs[a]?.getD false = true then 1 else 0
theorem evW_length (xs : List Bool) (m i : Nat) : (evW xs m i).length = m := by simp [evW]
theorem evW_zero (xs : List Bool) (m : Nat) : evW xs m 0 = List.replicate m 0 := by
  apply List.ext_getElem?
  intro a
  by_cases h : a < m <;> simp [evW, h]
theorem evW_at {xs : List Bool} {m i : Nat} (h : i < m) : (evW xs m i)[i]? = some 0 := by simp [evW, h]
theorem evW_no {xs : List Bool} {m i : Nat} (hx : xs[i]? = some false) : evW xs m (i + 1) = evW xs m i := by
  unfold evW
  refine List.map_congr_left fun a _ => ?_
  by_cases h : a = i
  · subst h; simp [hx]
  · have : a < i + 1 ↔ a < i := by omega
    simp only [this]
theorem evW_yes {xs : List Bool} {m i : Nat} (hx : xs[i]? = some true) (hi : i < m) : evW xs m (i + 1) = (evW xs m i).set i 1 := by
  apply List.ext_getElem?
  intro a
  rw [List.getElem?_set]
  by_cases h : i = a
  · subst h; simp [evW, hx, hi]
  · rw [if_neg h]
    by_cases ha : a < m
    · have : a < i + 1 ↔ a < i := by omega
      simp only [evW, List.getElem?_map, List.getElem?_range ha, Option.map_some, this]
    · simp [evW, ha]
mutual
theorem evT_congr {m : Nat} {f g : Nat → Bool} (h : ∀ a, a < m → f a = g a) : ∀ t : Tre, okT fSh m t → evT f t = evT g t
  | .mk k n ts, hk => by
    rw [okT] at hk
    rw [evT, evT, evL_congr h ts hk.2.2]
    unfold evC
    split
    · rename_i h0
      obtain ⟨s, hs, a1, a2, a3, a4⟩ := permN_of hk.1
      exact h _ (by have := hk.2.1 h0; omega)
    · rfl
theorem evL_congr {m : Nat} {f g : Nat → Bool} (h : ∀ a, a < m → f a = g a) : ∀ ts : List Tre, okL fSh m ts → evL f ts = evL g ts
  | [], _ => by rw [evL, evL]
  | t :: ts, hk => by
    rw [okL] at hk
    rw [evL, evL, evT_congr h t hk.1, evL_congr h ts hk.2]
end
theorem evW_val {xs : List Bool} {m : Nat} {t : Tre} (hk : okT fSh m t) (hl : m ≤ xs.length) : (valB (evW xs m m) t).getLsbD 0 = evT (fun a => xs[a]?.getD false) t := by
  rw [valB_bit _ 0 (by omega)]
  refine evT_congr (fun a ha => ?_) t hk
  simp only [evW, List.getElem?_map, List.getElem?_range ha, Option.map_some, Option.getD_some]
  cases xs[a]?.getD false <;> simp [ha]

end Go.Proofs.YtcophfhnhlaonaaDoor
