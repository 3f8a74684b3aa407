/-
  Joined from Pqw, Pqx, Pqy: see there.
-/
import Derived.Test.YtopbfgkfpgnalaaGreatDoorUj
import Derived.LaidMore
import Derived.MakeChecks
import Derived.Lib.LaidTab
import Derived.SizedLaws
import Derived.Deep.Slices
import Derived.Deep.Fields
import Derived.ChangeSame
import Derived.ProofKit
namespace Go.Proofs.YtopbfgkfpgnalaaGreatDoor
set_option linter.unusedVariables false
open Go.RowKit Go.Maps

/-- The order of lists of any numbers. -/
def cmpZ : List Int → List Int → Int
  | [], [] => 0
  | [], _ :: _ => -1
  | _ :: _, [] => 1
  | a :: s, b :: t => if a < b then -1 else if b < a then 1 else cmpZ s t
theorem cmpZ_nz : ∀ s t : List Nat, cmpZ (nz s) (nz t) = cmpL s t
  | [], [] => rfl
  | [], _ :: _ => rfl
  | _ :: _, [] => rfl
  | a :: s, b :: t => by
    show (if (a : Int) < (b : Int) then (-1 : Int) else if (b : Int) < (a : Int) then 1 else cmpZ (nz s) (nz t)) = if a < b then -1 else if b < a then 1 else cmpL s t
    rw [cmpZ_nz s t]
    by_cases h1 : a < b
    · rw [if_pos h1, if_pos (by omega)]
    · by_cases h2 : b < a
      · rw [if_neg h1, if_pos h2, if_neg (by omega), if_pos (by omega)]
      · rw [if_neg h1, if_neg h2, if_neg (by omega), if_neg (by omega)]
theorem cmpZ_range : ∀ s t : List Int, cmpZ s t = -1 ∨ cmpZ s t = 0 ∨ cmpZ s t = 1
  | [], [] => .inr (.inl rfl)
  | [], _ :: _ => .inl rfl
  | _ :: _, [] => .inr (.inr rfl)
  | a :: s, b :: t => by
    unfold cmpZ
    split
    · exact .inl rfl
    · split
      · exact .inr (.inr rfl)
      · exact cmpZ_range s t
theorem cmpZ_same (s t : List Int) (h : s.length = t.length) (k : Nat) (hk : k < s.length) : cmpZ (s.drop k) (t.drop k) = if s[k]?.getD 0 < t[k]?.getD 0 then -1 else if t[k]?.getD 0 < s[k]?.getD 0 then 1 else cmpZ (s.drop (k + 1)) (t.drop (k + 1)) := by
  have ht : k < t.length := by omega
  rw [List.drop_eq_getElem_cons hk, List.drop_eq_getElem_cons ht, List.getElem?_eq_getElem hk, List.getElem?_eq_getElem ht]
  rfl

set_option maxHeartbeats 2000000 in
theorem cmpZ_ok (A B : Option Addr) (c1 c2 n : Nat) (ps qs : List Int) (w : World) (hp : ps.length = n) (hq : qs.length = n) (hn : n ≤ 80) (hr : RdI w A ps) (hr2 : RdI w B qs) :
    Calls Tryz.prog 103 #[.slice A n c1, .slice B n c2] w fun e w' => e = .returned (.int .i64 (cmpZ ps qs)) ∧ Below w.heap.size w w' := by
  have HR := Lib.hid hr
  have HR2 := Lib.hid hr2
  have HP := Lib.hid hp
  have HQ := Lib.hid hq
  clear hr hr2
  go_enter Tryz.func103, Tryz.ntmps103
  go_wp2_with fail
  go_loopw [5] (fun i wr => ∃ k : Nat, k ≤ n ∧ i = .int .i64 k ∧ cmpZ ps qs = cmpZ (ps.drop k) (qs.drop k) ∧ Below w.heap.size w wr) (fun i _ => n - (intOf i).toNat)
  case atStart => exact ⟨0, Nat.zero_le _, rfl, rfl, Below.refl _ _⟩
  case round =>
    obtain ⟨k, hk, rfl, hc, hB⟩ := hrel
    by_cases hkn : k < n
    · obtain ⟨x, hx⟩ : ∃ x, ps[k]? = some x := ⟨_, List.getElem?_eq_getElem (by rw [HP.out]; exact hkn)⟩
      obtain ⟨y, hy⟩ : ∃ y, qs[k]? = some y := ⟨_, List.getElem?_eq_getElem (by rw [HQ.out]; exact hkn)⟩
      obtain ⟨a, rfl, g1⟩ := HR.out k _ hx
      obtain ⟨b, rfl, g2⟩ := HR2.out k _ hy
      have k1 := (hB.cell (World.block_lt_of_cell? w _ g1)).trans g1
      have k2 := (hB.cell (World.block_lt_of_cell? w _ g2)).trans g2
      have hs := cmpZ_same ps qs (by rw [HP.out, HQ.out]) k (by rw [HP.out]; exact hkn)
      rw [hs, hx, hy] at hc
      simp only [Option.getD_some] at hc
      have HB := Lib.hid hB
      clear hs hx hy g1 g2 hB
      by_cases h1 : x < y
      · rw [if_pos h1] at hc
        have HC := Lib.hid hc
        have hd1 : decide (x < y) = true := decide_eq_true h1
        clear hc
        go_wp2_with fail
        go_region
        go_wp2_with fail
        go_ret
        exact ⟨by rw [HC.out]; rfl, HB.out.drew⟩
      · by_cases h2 : y < x
        · rw [if_neg h1, if_pos h2] at hc
          have HC := Lib.hid hc
          have hd1 : decide (x < y) = false := decide_eq_false h1
          have hd2 : decide (y < x) = true := decide_eq_true h2
          clear hc
          go_wp2_with fail
          go_region
          go_wp2_with fail
          go_region
          go_wp2_with fail
          go_ret
          exact ⟨by rw [HC.out]; rfl, HB.out.drew.drew⟩
        · rw [if_neg h1, if_neg h2] at hc
          have HC := Lib.hid hc
          have hd1 : decide (x < y) = false := decide_eq_false h1
          have hd2 : decide (y < x) = false := decide_eq_false h2
          clear hc
          go_wp2_with fail
          go_region
          go_wp2_with fail
          go_region
          go_wp2_with fail
          go_roundw
          case rel => exact ⟨k + 1, by omega, by go_num, HC.out, HB.out.drew.drew⟩
          case measure => simp [intOf]; omega
    · have hc0 : cmpZ ps qs = 0 := by
        rw [hc, List.drop_eq_nil_of_le (by have := HP.out; omega), List.drop_eq_nil_of_le (by have := HQ.out; omega)]
        rfl
      have HC := Lib.hid hc0
      have HB := Lib.hid hB
      clear hc hc0 hB
      go_wp2_with fail
      go_ret
      exact ⟨by rw [HC.out]; rfl, HB.out⟩

theorem PreP.len {q n k : Nat} {ts : List (Int × List Int)} {c : Int} {E : List Int} (h : PreP q n ts (k + 1)) (hk : ts[k]? = some (c, E)) : E.length = n := by
  obtain ⟨p, h1, h2, h3⟩ := h
  have : (p.map (fun t : Tm => ((t.1 : Int), nz t.2)))[k]? = some (c, E) := by rw [← h1, List.getElem?_take, if_pos (by omega)]; exact hk
  obtain ⟨s, hs, e⟩ := tms_at this
  simp only [Prod.mk.injEq] at e
  rw [e.2, nz_length]
  exact (h3 s (List.mem_of_getElem? hs)).1
theorem PreP.up {q n k : Nat} {ts : List (Int × List Int)} {c c' : Int} {E E' : List Int} (h : PreP q n ts (k + 1)) (hk : ts[k + 1]? = some (c, E)) (hk' : ts[k]? = some (c', E')) (hT : OkT q n c E) (hc : cmpZ E' E < 0) : PreP q n ts (k + 2) := by
  obtain ⟨s, t, hs, he, _, _, h1, _⟩ := h.next hk hT
  rw [hs] at hk'
  simp only [Option.some.injEq, Prod.mk.injEq] at hk'
  rw [← hk'.2, he, cmpZ_nz] at hc
  exact h1 hc
theorem PreP.down {q n k : Nat} {ts : List (Int × List Int)} {c c' : Int} {E E' : List Int} (h : PreP q n ts (k + 1)) (hk : ts[k + 1]? = some (c, E)) (hk' : ts[k]? = some (c', E')) (hc : ¬ cmpZ E' E < 0) : ¬ OkP q n ts := fun hok => by
  obtain ⟨s, t, hs, he, _, _, _, h1⟩ := h.next hk (hok.term hk)
  rw [hs] at hk'
  simp only [Option.some.injEq, Prod.mk.injEq] at hk'
  rw [← hk'.2, he, cmpZ_nz] at hc
  exact h1 hc hok

theorem all_up {E : List Int} {j : Nat} {x : Int} (h : ∀ i x, i < j → E[i]? = some x → 0 ≤ x ∧ x ≤ 65535) (hx : E[j]? = some x) (h0 : ¬ x < 0) (h1 : ¬ 65535 < x) : ∀ i y, i < j + 1 → E[i]? = some y → 0 ≤ y ∧ y ≤ 65535 := fun i y hi hy => by
  rcases Nat.lt_or_ge i j with h2 | h2
  · exact h i y h2 hy
  · have e : i = j := by omega
    rw [e, hx] at hy
    cases hy
    omega

end Go.Proofs.YtopbfgkfpgnalaaGreatDoor
namespace Go.Proofs.YtopbfgkfpgnalaaGreatDoor
set_option linter.unusedVariables false
open Go.RowKit Go.Maps

theorem validPs_one {P M n : Int} {ts : List (Int × List Int)} (h : ValidPs P M n [ts]) : ∃ (P' M' q n' : Nat) (p : List Tm), P = P' ∧ M = M' ∧ n = n' ∧ Fld P' M' q ∧ n' ≤ 80 ∧ ts = tms p ∧ Ris q n' p ∧ (∀ t ∈ p, Ex n' t.2) ∧ p.length ≤ 20000 := by
  obtain ⟨P', M', q, n', rfl, rfl, rfl, hf, hn, h⟩ := h
  obtain ⟨hl, p, rfl, h1, h2⟩ := h ts (by simp)
  exact ⟨P', M', q, n', p, rfl, rfl, rfl, hf, hn, rfl, h1, h2, by simpa using hl⟩
theorem validPs_of {P M q n : Nat} {p : List Tm} (hf : Fld P M q) (hn : n ≤ 80) (h1 : Ris q n p) (h2 : ∀ t ∈ p, Ex n t.2) (hl : p.length ≤ 20000) : ValidPs P M n [tms p] :=
  ⟨P, M, q, n, rfl, rfl, rfl, hf, hn, fun x hx => by
    simp at hx
    subst hx
    exact ⟨by simpa using hl, p, rfl, h1, h2⟩⟩
/-- A world behind the law's first step: the field's box stands. -/
structure BoxS (w : World) (P M : Int) (W : World) : Prop where
  bel : Below w.heap.size w W
  c0 : W.cell? ⟨w.heap.size, 0, none⟩ = some (.int .i64 P)
  c1 : W.cell? ⟨w.heap.size, 1, none⟩ = some (.int .i64 M)
theorem BoxS.step {w W W' : World} {P M : Int} (h : BoxS w P M W) (hB : Below W.heap.size W W') : BoxS w P M W' :=
  ⟨h.bel.trans (hB.mono h.bel.size), (hB.cell (World.block_lt_of_cell? W _ h.c0)).trans h.c0, (hB.cell (World.block_lt_of_cell? W _ h.c1)).trans h.c1⟩
theorem BoxS.start (w : World) (P M : Int) : BoxS w P M (w.alloc (.cells #[.int .i64 P, .int .i64 M] 49)) :=
  ⟨below1 _ _, World.cell?_alloc_new _ _ _ 0, World.cell?_alloc_new _ _ _ 1⟩

end Go.Proofs.YtopbfgkfpgnalaaGreatDoor
namespace Go.Proofs.YtopbfgkfpgnalaaGreatDoor
open Go.RowKit Go.ChangeShapes Go.WideShapes Go.Deep
set_option linter.unusedVariables false

theorem sp_datumP : (Rows.laid_commodatum_field_smallPrimes : DataW Unit) = .slice (smallP.map fun (n : Nat) => .lit (.int .u32 (n : Int))) [] := by rfl
theorem db_datum : (Rows.laid_math_bits_deBruijn64tab : DataW Unit) = Lib.tabData .u8 (Lib.deBruijn64tab.map fun (n : Nat) => (n : Int)) := by rfl
theorem pw_datum : (Rows.laid_internal_strconv_uint64pow10 : DataW Unit) = Lib.tabData .u64 Lib.pow10Tab := by rfl

theorem laysP_of {W : World} (h : laidMetH Tryz.prog [("commodatum/field.smallPrimes", Rows.laid_commodatum_field_smallPrimes), ("math/bits.deBruijn32tab", Rows.laid_math_bits_deBruijn32tab), ("math/bits.deBruijn64tab", Rows.laid_math_bits_deBruijn64tab), ("internal/strconv.uint64pow10", Rows.laid_internal_strconv_uint64pow10)] W) : LayP W := by
  rw [MakeChecks.laidMetH_plain _ _ _ (by kernel_rfl)] at h
  obtain ⟨ps, ⟨g, t, cs, fuel, p, q, hg, ht, hvar, hd, ⟨g1, t1, cs1, fuel1, p1, q1, hg1, ht1, hvar1, hd1, ⟨g2, t2, cs2, fuel2, p2, q2, hg2, ht2, hvar2, hd2, ⟨g3, t3, cs3, fuel3, p3, q3, hg3, ht3, hvar3, hd3, _⟩, _⟩, _⟩, _⟩, _⟩ := h
  have eg : Tryz.prog.globalNamed "commodatum/field.smallPrimes" = some 0 := by kernel_rfl
  have et : (Tryz.prog.globals[0]?).map (·.type) = some 215 := by kernel_rfl
  have eg2 : Tryz.prog.globalNamed "math/bits.deBruijn64tab" = some 5 := by kernel_rfl
  have et2 : (Tryz.prog.globals[5]?).map (·.type) = some 322 := by kernel_rfl
  have eg3 : Tryz.prog.globalNamed "internal/strconv.uint64pow10" = some 1 := by kernel_rfl
  have et3 : (Tryz.prog.globals[1]?).map (·.type) = some 285 := by kernel_rfl
  obtain rfl := Option.some.inj (eg.symm.trans hg)
  obtain rfl := Option.some.inj (et.symm.trans ht)
  obtain rfl := Option.some.inj (eg2.symm.trans hg2)
  obtain rfl := Option.some.inj (et2.symm.trans ht2)
  obtain rfl := Option.some.inj (eg3.symm.trans hg3)
  obtain rfl := Option.some.inj (et3.symm.trans ht3)
  refine ⟨⟨trivial, ?_⟩, fun i hi => ?_, ?_⟩
  · rw [sp_datumP] at hd
    obtain ⟨a, cap, hcs, hcap, hel⟩ := open_row Tryz.underlying215 (by kernel_rfl) hd
    have hlen : (smallP.map fun (n : Nat) => (DataW.lit (.int .u32 (n : Int)) : DataW Unit)).length = 54 := by simp; rfl
    rw [hlen] at hcs hcap
    refine ⟨a, cap, hcap, ?_, fun i hi => ?_⟩
    · have hc := World.var?_cell hg hvar 0
      rw [hc, ← Array.getElem?_toList, hcs]
      rfl
    · have hl : i < smallP.length := hi
      obtain ⟨v, n, q', hc, hr⟩ := hel i (.lit (.int .u32 ((smallP[i]'hl : Nat) : Int))) (by simp [hl])
      obtain ⟨z, hz, hx, _⟩ := DataW.trod_int Tryz.underlying216 hr
      simp at hz hx
      rw [hc, hz, ← hx.1]
      simp [hl]
  · rw [db_datum] at hd2
    have hcs := Lib.cells_of_tab Tryz.underlying322 Tryz.underlying5 (by kernel_rfl) (by kernel_rfl) hd2
    have hc := World.var?_cell hg2 hvar2 i
    rw [hc, ← Array.getElem?_toList, hcs]
    simp [List.getD, hi]
  · rw [pw_datum] at hd3
    have hcs := Lib.cells_of_tab Tryz.underlying285 Tryz.underlying121 (by kernel_rfl) (by kernel_rfl) hd3
    unfold Lib.TabIs
    rw [hvar3, ← hcs]

section
variable {H : Type} {enc : TypeId × Value → H} {P : Program} {w : World} {base : Nat} {spare : Nat → Bool} {held : Bool}
theorem open_slice_fields {t e : TypeId} {fs : Array Field} {fuel : Nat} {cs : List Value} {x : DataW H × List MemPlace} (ht : P.underlying t = some (.slice e)) (he : P.underlying e = some (.struct fs))
    (hone : oneCellFields P fs = true) (hC : P.cellsOf e = fs.size) (h : DataW.trod enc P w base spare held fuel t cs = some x) :
    (cs = [.slice none 0 0] ∧ x = (.nil, [])) ∨
    ∃ (a : Addr) (len cap m : Nat) (D : Nat → DataW H) (Pl : Nat → List MemPlace), cs = [.slice (some a) len cap] ∧ base ≤ a.block ∧ len ≤ cap ∧ cap ≤ maxLen ∧ m = (if spare a.block then cap else len) ∧
      x = (.slice ((List.range len).map D) ((List.range (m - len)).map fun j => D (len + j)), MemPlace.row a (m * fs.size) ++ (List.range m).flatMap Pl) ∧
      ∀ i, i < m → ∃ (ys : List (DataW H × List MemPlace)) (n : Nat), D i = .agg (ys.map (·.1)) ∧ Pl i = ys.flatMap (·.2) ∧ ys.length = fs.size ∧
        ∀ (j : Nat) (f : Field), fs[j]? = some f → ∃ (v : Value) (y : DataW H × List MemPlace), w.cell? (a.add (i * fs.size + j)) = some v ∧ ys[j]? = some y ∧ DataW.trod enc P w base spare held n f.type [v] = some y := by
  rcases open_slice ht h with h0 | ⟨a, len, cap, m, n, D, Pl, hcs, hb, hl, hm, hmm, hx, hi⟩
  · exact .inl h0
  · refine .inr ⟨a, len, cap, m, D, Pl, hcs, hb, hl, hm, hmm, by rw [hC] at hx; exact hx, fun i him => ?_⟩
    obtain ⟨cs', hc, ht'⟩ := hi i him
    rw [hC] at hc
    obtain ⟨ys, n', hn', hy, hlen, hyl, hf⟩ := DataW.trod_struct he ht'
    obtain ⟨_, hcl, hat⟩ := World.cells?_some hc
    simp only [Prod.mk.injEq] at hy
    refine ⟨ys, n', hy.1, hy.2, hyl, fun j f hj => ?_⟩
    obtain ⟨ho, hk⟩ := hone_of hone j f hj
    have hjl : j < fs.size := (Array.getElem?_eq_some_iff.1 hj).1
    have hcell := hat j hjl
    have hv : cs'[j]? = some (cs'[j]'(by omega)) := List.getElem?_eq_getElem (by omega)
    have h1 := hf j f hj
    rw [ho, hk] at h1
    have hone' : (cs'.drop j).take 1 = [cs'[j]'(by omega)] := by
      rw [List.drop_eq_getElem_cons (by omega)]
      rfl
    rw [hone'] at h1
    have hys : ys[j]? = some (ys[j]'(by omega)) := List.getElem?_eq_getElem (by omega)
    refine ⟨_, _, ?_, hys, h1.trans hys⟩
    rw [← Go.Deep.add_add, hcell, hv]
end

theorem weights_all_mem {H : Type} {P : Program} {e : TypeId} : ∀ {l : List (DataW H)} {d : DataW H}, d ∈ l → ∀ n ∈ d.weights P e, n ∈ DataW.weightsAll P e l
  | [], d, hd, _, _ => by simp at hd
  | x :: l, d, hd, n, hn => by
    simp only [DataW.weightsAll, List.mem_append]
    rcases List.mem_cons.1 hd with rfl | h
    · exact Or.inl hn
    · exact Or.inr (weights_all_mem h n hn)

theorem spot_none {w : World} {a : Addr} {v : Value} (h : w.cell? a = some v) : a = ⟨a.block, a.off, none⟩ := by
  unfold World.cell? at h
  split at h
  · split at h
    · cases h
    · rename_i hs
      cases a with
      | mk b o s =>
        cases s with
        | none => rfl
        | some x => simp at hs
  · cases h
theorem add_none (b off n : Nat) : (⟨b, off, none⟩ : Addr).add n = ⟨b, off + n, none⟩ := by
  unfold Addr.add
  split
  · subst_vars; rfl
  · rfl

theorem list_choose {α : Type} [Inhabited α] (len : Nat) (Q : Nat → α → Prop) (h : ∀ i, i < len → ∃ t, Q i t) : ∃ l : List α, l.length = len ∧ ∀ i t, l[i]? = some t → Q i t := by
  induction len with
  | zero => exact ⟨[], rfl, fun i t h => by simp at h⟩
  | succ len ih =>
    obtain ⟨l, hl, hQ⟩ := ih (fun i hi => h i (by omega))
    obtain ⟨t, ht⟩ := h len (by omega)
    refine ⟨l ++ [t], by simp [hl], fun i x hx => ?_⟩
    rcases Nat.lt_or_ge i len with h1 | h1
    · rw [List.getElem?_append_left (by omega)] at hx
      exact hQ i x hx
    · rw [List.getElem?_append_right (by omega)] at hx
      have : i - l.length = 0 := by
        have := (List.getElem?_eq_some_iff.1 hx).1
        simp at this
        omega
      rw [this] at hx
      simp at hx
      subst hx
      have : i = len := by omega
      rw [this]; exact ht

theorem open_poly {H : Type} {enc : TypeId × Value → H} {w : World} {fuel : Nat} {v : Value} {x : DataW H × List MemPlace} (h : DataW.trod enc Tryz.prog w 0 (fun _ => true) true fuel 67 [v] = some x)
    (hw : ∀ n ∈ x.1.weights Tryz.prog 67, n ≤ reachBytes) : ∃ ts, PolyV w v ts := by
  rcases open_slice_fields Tryz.underlying67 Tryz.underlying144 (by kernel_rfl) (by kernel_rfl) h with ⟨hcs, _⟩ | ⟨a, len, cap, m, D, Pl, hcs, _, hl, _, hm, rfl, hel⟩
  · simp at hcs
    subst hcs
    exact ⟨[], none, 0, rfl, fun k t hk => by simp at hk, by simp⟩
  · simp at hcs
    subst hcs
    have hml : len ≤ m := by rw [hm]; simp; exact hl
    have hlen : len ≤ reachBytes := by
      have h1 := hw ((((List.range len).map D).length + ((List.range (m - len)).map fun j => D (len + j)).length) * Tryz.prog.bytesOf 144) (by simp only [DataW.weights, Tryz.underlying67]; exact List.mem_cons_self)
      have h2 : Tryz.prog.bytesOf 144 = 32 := by kernel_rfl
      rw [h2] at h1
      simp at h1
      omega
    have hgood : ∀ i, i < len → ∃ t : Int × List Int, w.cell? (a.add (i * 2)) = some (.int .i64 t.1) ∧ ∃ u, w.cell? (a.add (i * 2 + 1)) = some u ∧ SlR w u t.2 := by
      intro i hi
      obtain ⟨ys, n, hD, _, hyl, hf⟩ := hel i (by omega)
      obtain ⟨v0, y0, c0, e0, t0⟩ := hf 0 _ rfl
      obtain ⟨v1, y1, c1, e1, t1⟩ := hf 1 _ rfl
      obtain ⟨c, hc, hc2, _⟩ := DataW.trod_int Tryz.underlying3 t0
      simp at hc
      subst hc
      have hDm : D i ∈ (List.range len).map D := List.mem_map.2 ⟨i, by simpa using hi, rfl⟩
      have hwi : ∀ n ∈ y1.1.weights Tryz.prog 57, n ≤ reachBytes := fun n hn => hw n (by
        simp only [DataW.weights, Tryz.underlying67]
        refine List.mem_cons_of_mem _ (List.mem_append_left _ (weights_all_mem hDm n ?_))
        rw [hD]
        simp only [DataW.weights, Tryz.underlying144]
        exact DataW.weights_mem_each (j := 1) (t := 57) (d := y1.1) rfl (by simp [e1]) n hn)
      rcases open_ints Tryz.underlying57 Tryz.underlying3 (by kernel_rfl) t1 with ⟨hcs, _⟩ | ⟨b, l, c', zs, hcs, _, hl2, _, hz, rfl, hcell, _⟩
      · simp at hcs
        subst hcs
        exact ⟨(c, []), c0, _, c1, none, 0, rfl, RdI.nil _ _, by simp⟩
      · simp at hcs
        subst hcs
        simp at hz
        have hzl : (zs.take l).length = l := by rw [List.length_take, hz]; omega
        refine ⟨(c, zs.take l), c0, _, c1, some b, c', by rw [hzl], fun k y hk => ?_, ?_⟩
        · have hkl := (List.getElem?_eq_some_iff.1 hk).1
          rw [hzl] at hkl
          rw [List.getElem?_take, if_pos hkl] at hk
          refine ⟨b, rfl, ?_⟩
          rw [hcell k (by omega)]
          simp [List.getD, hk]
        · rw [hzl]
          have h1 := hwi (((lits .i64 (zs.take l) : List (DataW H)).length + (lits .i64 (zs.drop l) : List (DataW H)).length) * Tryz.prog.bytesOf 3) (by simp only [DataW.weights, Tryz.underlying57]; exact List.mem_cons_self)
          have h2 : Tryz.prog.bytesOf 3 = 8 := by kernel_rfl
          have h3 : reachBytes = 140737488351232 := rfl
          rw [h2] at h1
          simp [lits] at h1
          omega
    obtain ⟨ts, htl, hQ⟩ := list_choose len _ hgood
    refine ⟨ts, some a, cap, by rw [htl], fun k t hk => ?_, ?_⟩
    · have hkl := (List.getElem?_eq_some_iff.1 hk).1
      obtain ⟨z, hz⟩ : ∃ z, ts[0]? = some z := ⟨_, List.getElem?_eq_getElem (by omega)⟩
      have ha := spot_none (a := a) (by have := (hQ 0 z hz).1; simpa [Addr.add] using this)
      obtain ⟨c0, u, c1, hu⟩ := hQ k t hk
      rw [ha, add_none] at c0 c1
      exact ⟨a.block, a.off, u, by rw [← ha], c0, by rw [Nat.add_assoc]; exact c1, hu⟩
    · rw [htl]
      have h3 : reachBytes = 140737488351232 := rfl
      omega
end Go.Proofs.YtopbfgkfpgnalaaGreatDoor
