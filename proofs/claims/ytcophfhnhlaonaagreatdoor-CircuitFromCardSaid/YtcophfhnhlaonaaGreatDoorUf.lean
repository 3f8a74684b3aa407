/-
  Joined from Pqd, Pqe: see there.
-/
import Derived.Test.YtcophfhnhlaonaaGreatDoorUe
import Derived.Test.YtcophfhnhlaonaaGreatDoorRg
import Derived.Deep.RegionHeld3
import Derived.Deep.CutBlock
import Derived.Test.YtcophfhnhlaonaaGreatDoorUc
namespace Go.Proofs.YtcophfhnhlaonaaGreatDoor
set_option linter.unusedVariables false
open Go.RowKit

def nz (e : List Nat) : List Int := e.map fun (x : Nat) => (x : Int)
theorem nz_length (e : List Nat) : (nz e).length = e.length := by simp [nz]
theorem nz_at {e : List Nat} {k x : Nat} (h : e[k]? = some x) : (nz e)[k]? = some (x : Int) := by simp [nz, h]

/-- A polynomial's terms behind a slice's address. -/
def RdP (w : World) (A : Option Addr) (ts : List (Int × List Int)) : Prop :=
  ∀ k t, ts[k]? = some t → ∃ b off u, A = some ⟨b, off, none⟩ ∧ w.cell? ⟨b, off + k * 2, none⟩ = some (.int .i64 t.1) ∧ w.cell? ⟨b, off + k * 2 + 1, none⟩ = some u ∧ SlR w u t.2
theorem RdP.below {w w' : World} {A : Option Addr} {ts : List (Int × List Int)} (h : RdP w A ts) (hb : Below w.heap.size w w') : RdP w' A ts := fun k t hk => by
  obtain ⟨b, off, u, ha, h1, h2, h3⟩ := h k t hk
  exact ⟨b, off, u, ha, (hb.cell (World.block_lt_of_cell? w _ h1)).trans h1, (hb.cell (World.block_lt_of_cell? w _ h2)).trans h2, h3.below hb⟩

def OkP (q n : Nat) (ts : List (Int × List Int)) : Prop := ts.length ≤ 20000 ∧ ∃ p : List Tm, ts = p.map (fun t => ((t.1 : Int), nz t.2)) ∧ Ris q n p ∧ ∀ t ∈ p, Ex n t.2
/-- The first k terms are as they should be. -/
def PreP (q n : Nat) (ts : List (Int × List Int)) (k : Nat) : Prop := ∃ p : List Tm, ts.take k = p.map (fun t => ((t.1 : Int), nz t.2)) ∧ Ris q n p ∧ ∀ t ∈ p, Ex n t.2
def ContIs (q n : Nat) (ts : List (Int × List Int)) (w : World) (e : Ending) (w' : World) : Prop :=
  Below w.heap.size w w' ∧ (OkP q n ts ∧ e = .returned (.bool true) ∨ ¬ OkP q n ts ∧ e = .returned (.bool false))

section
variable {w0 w w1 wr : World} {P M q n tb : Nat} {c : Int} {u : Value}
end
theorem PreP.all {q n : Nat} {ts : List (Int × List Int)} (h : PreP q n ts ts.length) (hl : ts.length ≤ 20000) : OkP q n ts := by
  obtain ⟨p, h1, h2, h3⟩ := h
  rw [List.take_of_length_le (Nat.le_refl _)] at h1
  exact ⟨hl, p, h1, h2, h3⟩
theorem tm_inj : ∀ (p p' : List Tm), p.map (fun t => ((t.1 : Int), nz t.2)) = p'.map (fun t => ((t.1 : Int), nz t.2)) → p = p'
  | [], [], _ => rfl
  | [], _ :: _, h => by simp at h
  | _ :: _, [], h => by simp at h
  | a :: p, b :: p', h => by
    simp only [List.map_cons, List.cons.injEq, Prod.mk.injEq] at h
    have h2 : a.2 = b.2 := by
      have := h.1.2
      simp only [nz] at this
      have e := congrArg (List.map Int.toNat) this
      simpa [List.map_map, Function.comp_def] using e
    have h1 : a.1 = b.1 := by have := h.1.1; omega
    rw [tm_inj p p' h.2, Prod.ext h1 h2]
theorem nz_of {E : List Int} (h : ∀ x ∈ E, 0 ≤ x ∧ x ≤ 65535) : ∃ e : List Nat, E = nz e ∧ ∀ x ∈ e, x ≤ 65535 := by
  refine ⟨E.map Int.toNat, ?_, fun x hx => ?_⟩
  · unfold nz
    rw [List.map_map]
    conv => lhs; rw [← List.map_id E]
    refine List.map_congr_left fun x hx => ?_
    have := (h x hx).1
    simp; omega
  · obtain ⟨y, hy, rfl⟩ := List.mem_map.1 hx
    have := h y hy
    omega
theorem OkT.nat {q n : Nat} {c : Int} {E : List Int} (h : OkT q n c E) : ∃ t : Tm, c = t.1 ∧ E = nz t.2 ∧ 0 < t.1 ∧ t.1 < q ∧ Ex n t.2 := by
  obtain ⟨h1, h2, h3, h4⟩ := h
  obtain ⟨e, rfl, he⟩ := nz_of h4
  exact ⟨(c.toNat, e), by simp; omega, rfl, by simp; omega, by simp; omega, by rw [nz_length] at h3; exact h3, he⟩
theorem OkT.of {q n : Nat} {t : Tm} (h0 : 0 < t.1) (h1 : t.1 < q) (he : Ex n t.2) : OkT q n (t.1 : Int) (nz t.2) := by
  refine ⟨by omega, by omega, by rw [nz_length]; exact he.1, fun x hx => ?_⟩
  obtain ⟨y, hy, rfl⟩ := List.mem_map.1 hx
  have := he.2 y hy
  omega
theorem OkP.term {q n k : Nat} {ts : List (Int × List Int)} {c : Int} {E : List Int} (h : OkP q n ts) (hk : ts[k]? = some (c, E)) : OkT q n c E := by
  obtain ⟨_, p, rfl, h2, h3⟩ := h
  rw [List.getElem?_map] at hk
  obtain ⟨t, ht, e⟩ := Option.map_eq_some_iff.1 hk
  have hm := List.mem_of_getElem? ht
  have := OkT.of (h2.co t hm).1 (h2.co t hm).2 (h3 t hm)
  simp only [Prod.mk.injEq] at e
  rw [e.1, e.2] at this
  exact this
theorem PreP.first {q n : Nat} {ts : List (Int × List Int)} {c : Int} {E : List Int} (hk : ts[0]? = some (c, E)) (h : OkT q n c E) : PreP q n ts 1 := by
  obtain ⟨t, h1, h2, h3, h4, h5⟩ := h.nat
  refine ⟨[t], ?_, ⟨by simp [h3, h4], by simp [h5.1], by simp⟩, by simp [h5]⟩
  rw [List.take_add_one, hk, h1, h2]
  simp
theorem PreP.next {q n k : Nat} {ts : List (Int × List Int)} {c : Int} {E : List Int} (hp : PreP q n ts (k + 1)) (hk : ts[k + 1]? = some (c, E)) (h : OkT q n c E) :
    ∃ s t : Tm, ts[k]? = some ((s.1 : Int), nz s.2) ∧ E = nz t.2 ∧ Ex n s.2 ∧ Ex n t.2 ∧ (cmpL s.2 t.2 < 0 → PreP q n ts (k + 2)) ∧ (¬ cmpL s.2 t.2 < 0 → ¬ OkP q n ts) := by
  obtain ⟨p, h1, h2, h3⟩ := hp
  obtain ⟨t, t1, t2, t3, t4, t5⟩ := h.nat
  have hkl : k + 1 < ts.length := (List.getElem?_eq_some_iff.1 hk).1
  have hpl : p.length = k + 1 := by
    have := congrArg List.length h1
    simp at this
    omega
  have hs : ∃ s, p[k]? = some s := ⟨_, List.getElem?_eq_getElem (by omega)⟩
  obtain ⟨s, hs⟩ := hs
  have hsm := List.mem_of_getElem? hs
  have hsk : ts[k]? = some ((s.1 : Int), nz s.2) := by
    have := congrArg (fun l => l[k]?) h1
    simp only [List.getElem?_map, hs, Option.map_some] at this
    rw [← this, List.getElem?_take]
    simp
  refine ⟨s, t, hsk, t2, h3 s hsm, t5, fun hc => ?_, fun hc hok => hc ?_⟩
  · refine ⟨p ++ [t], ?_, ⟨fun x hx => ?_, fun x hx => ?_, ?_⟩, fun x hx => ?_⟩
    · rw [List.take_add_one, hk, h1, t1, t2]
      simp
    · simp at hx
      rcases hx with hx | rfl
      · exact h2.co x hx
      · exact ⟨t3, t4⟩
    · simp at hx
      rcases hx with hx | rfl
      · exact h2.ex x hx
      · exact t5.1
    · rw [List.pairwise_append]
      refine ⟨h2.up, by simp, fun x hx y hy => ?_⟩
      simp at hy
      subst hy
      obtain ⟨i, hi, rfl⟩ := List.getElem_of_mem hx
      by_cases hik : i = k
      · subst hik
        have : p[i] = s := (List.getElem?_eq_some_iff.1 hs).2
        rw [this]; exact hc
      · have h4 := List.pairwise_iff_getElem.1 h2.up i k hi (by omega) (by omega)
        have : p[k] = s := (List.getElem?_eq_some_iff.1 hs).2
        rw [this] at h4
        exact cmpL_trans _ _ _ h4 hc
    · simp at hx
      rcases hx with hx | rfl
      · exact h3 x hx
      · exact t5
  · obtain ⟨_, p', rfl, h5, _⟩ := hok
    rw [List.getElem?_map] at hk hsk
    obtain ⟨y, hy, e1⟩ := Option.map_eq_some_iff.1 hk
    obtain ⟨x, hx, e2⟩ := Option.map_eq_some_iff.1 hsk
    have h4 := List.pairwise_iff_getElem.1 h5.up k (k + 1) (List.getElem?_eq_some_iff.1 hx).1 (List.getElem?_eq_some_iff.1 hy).1 (by omega)
    rw [(List.getElem?_eq_some_iff.1 hx).2, (List.getElem?_eq_some_iff.1 hy).2] at h4
    have i1 := tm_inj [x] [s] (by simp; simpa using e2)
    have i2 := tm_inj [y] [t] (by simp; rw [t1, t2] at e1; simpa using e1)
    simp at i1 i2
    rw [i1, i2] at h4
    exact h4

end Go.Proofs.YtcophfhnhlaonaaGreatDoor
namespace Go.Proofs.YtcophfhnhlaonaaGreatDoor
set_option linter.unusedVariables false
open Go.RowKit

def zeroRing : Value := .agg #[.int .i64 0, .int .i64 0, .int .i64 0, .int .i64 0]
/-- The list of polynomials that open is handed. -/
def RdPs (w : World) (A : Option Addr) (ps : List (List (Int × List Int))) : Prop :=
  ∀ k p, ps[k]? = some p → ∃ b off A' c, A = some ⟨b, off, none⟩ ∧ w.cell? ⟨b, off + k, none⟩ = some (.slice A' p.length c) ∧ RdP w A' p ∧ p.length ≤ 1152921504606846976
theorem RdPs.below {w w' : World} {A : Option Addr} {ps : List (List (Int × List Int))} (h : RdPs w A ps) (hb : Below w.heap.size w w') : RdPs w' A ps := fun k t hk => by
  obtain ⟨b, off, A', c, ha, h1, h2, h3⟩ := h k t hk
  exact ⟨b, off, A', c, ha, (hb.cell (World.block_lt_of_cell? w _ h1)).trans h1, h2.below hb, h3⟩

theorem below_two {w : World} (o o' : Obj) {wx : World} (h : Below (w.heap.size + 2) ((w.alloc o).alloc o') wx) : Below w.heap.size w wx :=
  (below2 w o o').trans (h.mono (by omega))

def OpenPs (P M q n : Nat) (ps : List (List (Int × List Int))) (w : World) (e : Ending) (w' : World) : Prop :=
  Below w.heap.size w w' ∧ ((∀ p ∈ ps, OkP q n p) ∧ e = .returned (.tuple #[rg P M q n, .int .i64 0]) ∨ (¬ ∀ p ∈ ps, OkP q n p) ∧ e = .returned (.tuple #[zeroRing, .int .i64 1]))

end Go.Proofs.YtcophfhnhlaonaaGreatDoor
