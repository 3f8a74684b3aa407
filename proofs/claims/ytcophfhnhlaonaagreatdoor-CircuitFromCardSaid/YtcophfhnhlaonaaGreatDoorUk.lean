/-
  Joined from Pqw, Pqx, Pqy: see there.
-/
import Derived.Test.YtcophfhnhlaonaaGreatDoorUj
import Derived.LaidMore
import Derived.MakeChecks
import Derived.Lib.LaidTab
import Derived.SizedLaws
import Derived.Deep.Slices
import Derived.Deep.Fields
import Derived.ChangeSame
import Derived.ProofKit
namespace Go.Proofs.YtcophfhnhlaonaaGreatDoor
set_option linter.unusedVariables false
open Go.RowKit Go.Maps

/-- The order of lists of any numbers. -/
def cmpZ : List Int → List Int → Int
  | [], [] => 0
  | [], _ :: _ => -1
  | _ :: _, [] => 1
  | a :: s, b :: t => if a < b then -1 else if b < a then 1 else cmpZ s t
theorem cmpZ_nz : ∀ s t : List Nat, cmpZ (nz s) (nz t) = cmpL s t
  | [], [] => rfl
  | [], _ :: _ => rfl
  | _ :: _, [] => rfl
  | a :: s, b :: t => by
    show (if (a : Int) < (b : Int) then (-1 : Int) else if (b : Int) < (a : Int) then 1 else cmpZ (nz s) (nz t)) = if a < b then -1 else if b < a then 1 else cmpL s t
    rw [cmpZ_nz s t]
    by_cases h1 : a < b
    · rw [if_pos h1, if_pos (by omega)]
    · by_cases h2 : b < a
      · rw [if_neg h1, if_pos h2, if_neg (by omega), if_pos (by omega)]
      · rw [if_neg h1, if_neg h2, if_neg (by omega), if_neg (by omega)]
theorem cmpZ_range : ∀ s t : List Int, cmpZ s t = -1 ∨ cmpZ s t = 0 ∨ cmpZ s t = 1
  | [], [] => .inr (.inl rfl)
  | [], _ :: _ => .inl rfl
  | _ :: _, [] => .inr (.inr rfl)
  | a :: s, b :: t => by
    unfold cmpZ
    split
    · exact .inl rfl
    · split
      · exact .inr (.inr rfl)
      · exact cmpZ_range s t
theorem cmpZ_same (s t : List Int) (h : s.length = t.length) (k : Nat) (hk : k < s.length) : cmpZ (s.drop k) (t.drop k) = if s[k]?.getD 0 < t[k]?.getD 0 then -1 else if t[k]?.getD 0 < s[k]?.getD 0 then 1 else cmpZ (s.drop (k + 1)) (t.drop (k + 1)) := by
  have ht : k < t.length := by omega
  rw [List.drop_eq_getElem_cons hk, List.drop_eq_getElem_cons ht, List.getElem?_eq_getElem hk, List.getElem?_eq_getElem ht]
  rfl

theorem PreP.len {q n k : Nat} {ts : List (Int × List Int)} {c : Int} {E : List Int} (h : PreP q n ts (k + 1)) (hk : ts[k]? = some (c, E)) : E.length = n := by
  obtain ⟨p, h1, h2, h3⟩ := h
  have : (p.map (fun t : Tm => ((t.1 : Int), nz t.2)))[k]? = some (c, E) := by rw [← h1, List.getElem?_take, if_pos (by omega)]; exact hk
  obtain ⟨s, hs, e⟩ := tms_at this
  simp only [Prod.mk.injEq] at e
  rw [e.2, nz_length]
  exact (h3 s (List.mem_of_getElem? hs)).1
theorem PreP.up {q n k : Nat} {ts : List (Int × List Int)} {c c' : Int} {E E' : List Int} (h : PreP q n ts (k + 1)) (hk : ts[k + 1]? = some (c, E)) (hk' : ts[k]? = some (c', E')) (hT : OkT q n c E) (hc : cmpZ E' E < 0) : PreP q n ts (k + 2) := by
  obtain ⟨s, t, hs, he, _, _, h1, _⟩ := h.next hk hT
  rw [hs] at hk'
  simp only [Option.some.injEq, Prod.mk.injEq] at hk'
  rw [← hk'.2, he, cmpZ_nz] at hc
  exact h1 hc
theorem PreP.down {q n k : Nat} {ts : List (Int × List Int)} {c c' : Int} {E E' : List Int} (h : PreP q n ts (k + 1)) (hk : ts[k + 1]? = some (c, E)) (hk' : ts[k]? = some (c', E')) (hc : ¬ cmpZ E' E < 0) : ¬ OkP q n ts := fun hok => by
  obtain ⟨s, t, hs, he, _, _, _, h1⟩ := h.next hk (hok.term hk)
  rw [hs] at hk'
  simp only [Option.some.injEq, Prod.mk.injEq] at hk'
  rw [← hk'.2, he, cmpZ_nz] at hc
  exact h1 hc hok

theorem all_up {E : List Int} {j : Nat} {x : Int} (h : ∀ i x, i < j → E[i]? = some x → 0 ≤ x ∧ x ≤ 65535) (hx : E[j]? = some x) (h0 : ¬ x < 0) (h1 : ¬ 65535 < x) : ∀ i y, i < j + 1 → E[i]? = some y → 0 ≤ y ∧ y ≤ 65535 := fun i y hi hy => by
  rcases Nat.lt_or_ge i j with h2 | h2
  · exact h i y h2 hy
  · have e : i = j := by omega
    rw [e, hx] at hy
    cases hy
    omega

end Go.Proofs.YtcophfhnhlaonaaGreatDoor
namespace Go.Proofs.YtcophfhnhlaonaaGreatDoor
set_option linter.unusedVariables false
open Go.RowKit Go.Maps

theorem validPs_one {P M n : Int} {ts : List (Int × List Int)} (h : ValidPs P M n [ts]) : ∃ (P' M' q n' : Nat) (p : List Tm), P = P' ∧ M = M' ∧ n = n' ∧ Fld P' M' q ∧ n' ≤ 80 ∧ ts = tms p ∧ Ris q n' p ∧ (∀ t ∈ p, Ex n' t.2) ∧ p.length ≤ 20000 := by
  obtain ⟨P', M', q, n', rfl, rfl, rfl, hf, hn, h⟩ := h
  obtain ⟨hl, p, rfl, h1, h2⟩ := h ts (by simp)
  exact ⟨P', M', q, n', p, rfl, rfl, rfl, hf, hn, rfl, h1, h2, by simpa using hl⟩
theorem validPs_of {P M q n : Nat} {p : List Tm} (hf : Fld P M q) (hn : n ≤ 80) (h1 : Ris q n p) (h2 : ∀ t ∈ p, Ex n t.2) (hl : p.length ≤ 20000) : ValidPs P M n [tms p] :=
  ⟨P, M, q, n, rfl, rfl, rfl, hf, hn, fun x hx => by
    simp at hx
    subst hx
    exact ⟨by simpa using hl, p, rfl, h1, h2⟩⟩
/-- A world behind the law's first step: the field's box stands. -/
structure BoxS (w : World) (P M : Int) (W : World) : Prop where
  bel : Below w.heap.size w W
  c0 : W.cell? ⟨w.heap.size, 0, none⟩ = some (.int .i64 P)
  c1 : W.cell? ⟨w.heap.size, 1, none⟩ = some (.int .i64 M)
theorem BoxS.step {w W W' : World} {P M : Int} (h : BoxS w P M W) (hB : Below W.heap.size W W') : BoxS w P M W' :=
  ⟨h.bel.trans (hB.mono h.bel.size), (hB.cell (World.block_lt_of_cell? W _ h.c0)).trans h.c0, (hB.cell (World.block_lt_of_cell? W _ h.c1)).trans h.c1⟩
end Go.Proofs.YtcophfhnhlaonaaGreatDoor
namespace Go.Proofs.YtcophfhnhlaonaaGreatDoor
open Go.RowKit Go.ChangeShapes Go.WideShapes Go.Deep
set_option linter.unusedVariables false

theorem db_datum : (Rows.laid_math_bits_deBruijn64tab : DataW Unit) = Lib.tabData .u8 (Lib.deBruijn64tab.map fun (n : Nat) => (n : Int)) := by rfl
theorem pw_datum : (Rows.laid_internal_strconv_uint64pow10 : DataW Unit) = Lib.tabData .u64 Lib.pow10Tab := by rfl

section
variable {H : Type} {enc : TypeId × Value → H} {P : Program} {w : World} {base : Nat} {spare : Nat → Bool} {held : Bool}
theorem open_slice_fields {t e : TypeId} {fs : Array Field} {fuel : Nat} {cs : List Value} {x : DataW H × List MemPlace} (ht : P.underlying t = some (.slice e)) (he : P.underlying e = some (.struct fs))
    (hone : oneCellFields P fs = true) (hC : P.cellsOf e = fs.size) (h : DataW.trod enc P w base spare held fuel t cs = some x) :
    (cs = [.slice none 0 0] ∧ x = (.nil, [])) ∨
    ∃ (a : Addr) (len cap m : Nat) (D : Nat → DataW H) (Pl : Nat → List MemPlace), cs = [.slice (some a) len cap] ∧ base ≤ a.block ∧ len ≤ cap ∧ cap ≤ maxLen ∧ m = (if spare a.block then cap else len) ∧
      x = (.slice ((List.range len).map D) ((List.range (m - len)).map fun j => D (len + j)), MemPlace.row a (m * fs.size) ++ (List.range m).flatMap Pl) ∧
      ∀ i, i < m → ∃ (ys : List (DataW H × List MemPlace)) (n : Nat), D i = .agg (ys.map (·.1)) ∧ Pl i = ys.flatMap (·.2) ∧ ys.length = fs.size ∧
        ∀ (j : Nat) (f : Field), fs[j]? = some f → ∃ (v : Value) (y : DataW H × List MemPlace), w.cell? (a.add (i * fs.size + j)) = some v ∧ ys[j]? = some y ∧ DataW.trod enc P w base spare held n f.type [v] = some y := by
  rcases open_slice ht h with h0 | ⟨a, len, cap, m, n, D, Pl, hcs, hb, hl, hm, hmm, hx, hi⟩
  · exact .inl h0
  · refine .inr ⟨a, len, cap, m, D, Pl, hcs, hb, hl, hm, hmm, by rw [hC] at hx; exact hx, fun i him => ?_⟩
    obtain ⟨cs', hc, ht'⟩ := hi i him
    rw [hC] at hc
    obtain ⟨ys, n', hn', hy, hlen, hyl, hf⟩ := DataW.trod_struct he ht'
    obtain ⟨_, hcl, hat⟩ := World.cells?_some hc
    simp only [Prod.mk.injEq] at hy
    refine ⟨ys, n', hy.1, hy.2, hyl, fun j f hj => ?_⟩
    obtain ⟨ho, hk⟩ := hone_of hone j f hj
    have hjl : j < fs.size := (Array.getElem?_eq_some_iff.1 hj).1
    have hcell := hat j hjl
    have hv : cs'[j]? = some (cs'[j]'(by omega)) := List.getElem?_eq_getElem (by omega)
    have h1 := hf j f hj
    rw [ho, hk] at h1
    have hone' : (cs'.drop j).take 1 = [cs'[j]'(by omega)] := by
      rw [List.drop_eq_getElem_cons (by omega)]
      rfl
    rw [hone'] at h1
    have hys : ys[j]? = some (ys[j]'(by omega)) := List.getElem?_eq_getElem (by omega)
    refine ⟨_, _, ?_, hys, h1.trans hys⟩
    rw [← Go.Deep.add_add, hcell, hv]
end

theorem weights_all_mem {H : Type} {P : Program} {e : TypeId} : ∀ {l : List (DataW H)} {d : DataW H}, d ∈ l → ∀ n ∈ d.weights P e, n ∈ DataW.weightsAll P e l
  | [], d, hd, _, _ => by simp at hd
  | x :: l, d, hd, n, hn => by
    simp only [DataW.weightsAll, List.mem_append]
    rcases List.mem_cons.1 hd with rfl | h
    · exact Or.inl hn
    · exact Or.inr (weights_all_mem h n hn)

theorem spot_none {w : World} {a : Addr} {v : Value} (h : w.cell? a = some v) : a = ⟨a.block, a.off, none⟩ := by
  unfold World.cell? at h
  split at h
  · split at h
    · cases h
    · rename_i hs
      cases a with
      | mk b o s =>
        cases s with
        | none => rfl
        | some x => simp at hs
  · cases h
theorem add_none (b off n : Nat) : (⟨b, off, none⟩ : Addr).add n = ⟨b, off + n, none⟩ := by
  unfold Addr.add
  split
  · subst_vars; rfl
  · rfl

theorem list_choose {α : Type} [Inhabited α] (len : Nat) (Q : Nat → α → Prop) (h : ∀ i, i < len → ∃ t, Q i t) : ∃ l : List α, l.length = len ∧ ∀ i t, l[i]? = some t → Q i t := by
  induction len with
  | zero => exact ⟨[], rfl, fun i t h => by simp at h⟩
  | succ len ih =>
    obtain ⟨l, hl, hQ⟩ := ih (fun i hi => h i (by omega))
    obtain ⟨t, ht⟩ := h len (by omega)
    refine ⟨l ++ [t], by simp [hl], fun i x hx => ?_⟩
    rcases Nat.lt_or_ge i len with h1 | h1
    · rw [List.getElem?_append_left (by omega)] at hx
      exact hQ i x hx
    · rw [List.getElem?_append_right (by omega)] at hx
      have : i - l.length = 0 := by
        have := (List.getElem?_eq_some_iff.1 hx).1
        simp at this
        omega
      rw [this] at hx
      simp at hx
      subst hx
      have : i = len := by omega
      rw [this]; exact ht

end Go.Proofs.YtcophfhnhlaonaaGreatDoor
