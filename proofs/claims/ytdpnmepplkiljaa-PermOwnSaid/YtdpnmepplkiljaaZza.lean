/-
  The law PermOwn at every two slices of integers and every number.
-/
import Derived.Test.YtdpnmepplkiljaaZz
namespace Go.Proofs.Ytdpnmepplkiljaa
open Go.RowKit Go.Shelf

set_option maxRecDepth 100000 in
set_option maxHeartbeats 1000000 in
theorem own_long (a a' : Option Addr) (n cap n' cap' : Nat) (k : Int) (w : World) (hn : ¬ (n ≤ 100 ∧ n' ≤ 100)) :
    Calls Try.prog 12 #[.slice a n cap, .slice a' n' cap', .int .i64 k] w fun e w' => e = .returned (.bool true) ∧ Below w.heap.size w w' := by
  have hs := short_two a a' n cap n' cap' w false (by rw [decide_eq_false hn])
  have HS := Lib.hid hs
  clear hs hn
  go_enter Try.func12, Try.ntmps12
  go_wp2_with fail
  refine HS.out.mono ?_
  rintro e w1 ⟨rfl, rfl⟩
  go_wp2_with fail
  refine (alive_any _).mono ?_
  rintro e w2 ⟨rfl, hB⟩
  go_wp2_with fail
  go_ret
  exact ⟨rfl, (alloc_below w _).trans (hB.mono (by simp))⟩

def intCells (l : List Int) : List Value := l.map (Value.int .i64)
theorem intCells_length (l : List Int) : (intCells l).length = l.length := by simp [intCells]
theorem intCells_one (l : List Int) : ∀ u ∈ intCells l, u.oneCell' = true := by
  intro u hu
  obtain ⟨x, _, rfl⟩ := List.mem_map.1 hu
  rfl
theorem intCells_ints (ps : List Nat) : intCells (ints ps) = natCells ps := by simp [intCells, ints, natCells, List.map_map, Function.comp_def]

/-- The array of five slices in block g. -/
def Arr (w : World) (g : Nat) (vs : List Value) : Prop := w.ownsRow g 58 1 (.slice (some ⟨g, 0, none⟩) 5 5) 5 vs

theorem Arr.new (w : World) (v0 v1 v2 v3 v4 : Value) : Arr (w.alloc (.cells #[v0, v1, v2, v3, v4] 58)) w.heap.size [v0, v1, v2, v3, v4] :=
  World.ownsRow_lit (e := 58) (size := 1) w #[v0, v1, v2, v3, v4] 5 (Nat.le_refl _) (by unfold maxLen; omega) rfl

theorem SlI.of_owns_int {w : World} {base n : Nat} {v : Value} {l : List Int} (h : w.ownsRow base 3 1 v n (intCells l)) (hm : n ≤ 1000) : SlI w v l := by
  have hl : l.length = n := by have := h.1; rw [intCells_length] at this; omega
  obtain ⟨a, cap, rfl⟩ := owns_slice h
  refine ⟨a, cap, by rw [hl], by omega, fun h1 => ?_⟩
  obtain ⟨g, cap2, hv⟩ := owns_pos h (by omega)
  cases hv
  refine ⟨g, 0, rfl, (h.lt g rfl).2, fun j hj => ?_⟩
  have := h.cellAt j (by omega)
  rw [Nat.zero_add, this]
  simp [intCells, hj]

theorem Src.below {w w' : World} {v : Value} {news : List Value} (h : Src w v news) (hB : Below w.heap.size w w') : Src w' v news := by
  rcases h with h | ⟨ad, c, hv, hc⟩
  · exact .inl h
  · exact .inr ⟨ad, c, hv, fun j u hj => (hB.cell (World.block_lt_of_cell? w _ (hc j u hj))).trans (hc j u hj)⟩

theorem own_app {w W W2 : World} {l : List Int} {v' : Value} (hB : Below w.heap.size w W)
    (hown : W2.ownsRow w.heap.size 3 1 v' (0 + (intCells l).length) ([] ++ intCells l)) (hO : Only (fun k => Value.ownBlock (.slice (some ⟨W.heap.size, 0, none⟩) 0 0) = some k) (W.alloc (.cells #[] 3)) W2) :
    W2.ownsRow w.heap.size 3 1 v' l.length (intCells l) ∧ Below w.heap.size w W2 := by
  rw [intCells_length, Nat.zero_add, List.nil_append] at hown
  refine ⟨hown, (hB.alloc hB.size (.cells #[] 3)).trans (hO.below (by have := hB.size; simp; omega) (fun k hk => ?_))⟩
  have := hB.size
  simp only [Value.ownBlock, Option.some.injEq] at hk
  omega

theorem SlI.of_owns' {w : World} {base m : Nat} {v : Value} {L : List Nat} (h : w.ownsRow base 3 1 v m (natCells L)) (hL : L.length ≤ 7) : SlI w v (ints L) := by
  rw [← intCells_ints] at h
  refine SlI.of_owns_int h ?_
  have := h.1
  rw [intCells_length, ints_length] at this
  omega

theorem Only.drewN {S : Nat → Prop} {A W : World} (h : Only S A W) (n : Nat) : Only S A (W.drewN n) := ⟨h.os, h.tape, h.output, h.size, h.block⟩
theorem Arr.drewN {w : World} {g : Nat} {vs : List Value} (h : Arr w g vs) (n : Nat) : Arr (w.drewN n) g vs := h

/-- What stands at the head of a round of the law. -/
structure OwnB (F : Nat) (va vb : Value) (l l' : List Int) (Ls : List (List Nat)) (r : Nat) (w W : World) : Prop where
  below : Below w.heap.size w W
  ra : W.ownsRow w.heap.size 3 1 va l.length (intCells l)
  rb : W.ownsRow w.heap.size 3 1 vb l'.length (intCells l')
  lo : w.heap.size ≤ F
  hi : F < W.heap.size
  fs : ∃ fs, Arr W F fs ∧ (1 ≤ r → ∀ (j : Nat) (v : Value), fs[j]? = some v → W.ownsRow w.heap.size 3 1 v (Ls[j]?.getD []).length (natCells (Ls[j]?.getD [])))

/-- What stands in a round when some of the five calls have been made. -/
structure OwnR (Ls : List (List Nat)) (W : World) (vs : List Value) (W' : World) : Prop where
  below : Below W.heap.size W W'
  size : W.heap.size + 2 ≤ W'.heap.size
  arrL : Arr W' W.heap.size (vs ++ List.replicate (5 - vs.length) (.slice none 0 0))
  arrK : Arr W' (W.heap.size + 1) (List.replicate 5 (.slice none 0 0))
  rows : ∀ (j : Nat) (v : Value), vs[j]? = some v → W'.ownsRow (W.heap.size + 2) 3 1 v (Ls[j]?.getD []).length (natCells (Ls[j]?.getD []))
  dist : ∀ (i j : Nat) (v v' : Value) (g : Nat), i < j → vs[i]? = some v → vs[j]? = some v' → v.ownBlock = some g → v'.ownBlock ≠ some g

theorem Arr.below {w w' : World} {g : Nat} {vs : List Value} (h : Arr w g vs) (hB : Below w.heap.size w w') : Arr w' g vs := owns_below h hB
theorem Arr.cell {w : World} {g j : Nat} {vs : List Value} {v : Value} (h : Arr w g vs) (hj : vs[j]? = some v) : w.cell? ⟨g, j, none⟩ = some v := by
  have hl := h.1
  have : j < vs.length := (List.getElem?_eq_some_iff.1 hj).1
  rw [h.cellAt j (by omega)]
  exact hj
theorem Arr.frozen {w : World} {g : Nat} {vs : List Value} (h : Arr w g vs) (j : Nat) : w.frozen? ⟨g, j, none⟩ = false := h.frozenAt j

theorem OwnR.start (Ls : List (List Nat)) (W : World) (n0 : Value) (h0 : n0 = .slice none 0 0) : OwnR Ls W [] ((W.alloc (.cells #[n0, n0, n0, n0, n0] 58)).alloc (.cells #[n0, n0, n0, n0, n0] 58)) := by
  subst h0
  refine ⟨((Below.refl _ W).alloc (Nat.le_refl _) _).alloc (by simp) _, by simp, (Arr.new W _ _ _ _ _).alloc _, ?_, fun j v hj => by simp at hj, fun i j v v' g _ hi => by simp at hi⟩
  have := Arr.new (W.alloc (.cells #[.slice none 0 0, .slice none 0 0, .slice none 0 0, .slice none 0 0, .slice none 0 0] 58)) (.slice none 0 0) (.slice none 0 0) (.slice none 0 0) (.slice none 0 0) (.slice none 0 0)
  rw [World.size_alloc] at this
  exact this

theorem OwnR.step {Ls : List (List Nat)} {W W' w1 : World} {vs : List Value} {v : Value} {j : Nat} {L : List Nat} (h : OwnR Ls W vs W') (hj : vs.length = j) (hj5 : j < 5) (hL : Ls[j]? = some L)
    (hr : w1.ownsRow W'.heap.size 3 1 v L.length (natCells L)) (hB : Below W'.heap.size W' w1) :
    OwnR Ls W (vs ++ [v]) (w1.setCell ⟨W.heap.size, j, none⟩ v) ∧ w1.cell? ⟨W.heap.size, j, none⟩ = some (.slice none 0 0) ∧ w1.frozen? ⟨W.heap.size, j, none⟩ = false := by
  have hsz := h.size
  have hL1 := h.arrL.below hB
  have hK1 := h.arrK.below hB
  have hs1 := hB.size
  have hlist : (vs ++ List.replicate (5 - vs.length) (Value.slice none 0 0)).set j v = (vs ++ [v]) ++ List.replicate (5 - (vs ++ [v]).length) (.slice none 0 0) := by
    subst hj
    obtain ⟨m, hm⟩ : ∃ m, 5 - vs.length = m + 1 := ⟨5 - vs.length - 1, by omega⟩
    have hm2 : 5 - (vs ++ [v]).length = m := by simp; omega
    rw [hm, hm2, List.set_append_right _ _ (Nat.le_refl _), Nat.sub_self, List.replicate_succ, List.set_cons_zero, List.append_assoc, List.singleton_append]
  have keepR : ∀ (u : Value) (n : Nat) (xs : List Value) (b : Nat), w1.ownsRow b 3 1 u n xs → (w1.setCell ⟨W.heap.size, j, none⟩ v).ownsRow b 3 1 u n xs := fun u n xs b hu =>
    owns_only3 hu ((Only.refl (fun k => k = W.heap.size) w1).setCell (p := ⟨W.heap.size, j, none⟩) rfl v) (fun g hg e => by subst e; exact owns_ne hu hL1 (by decide) _ hg rfl)
  refine ⟨⟨(h.below.trans (hB.mono (by omega))).setCell (p := ⟨W.heap.size, j, none⟩) (Nat.le_refl _) _, by simpa [World.setCell] using (by omega : W.heap.size + 2 ≤ w1.heap.size), ?_, ?_, ?_, ?_⟩, ?_, hL1.frozen j⟩
  · rw [← hlist]; exact (World.ownsRow.stored hL1 j v).1
  · exact owns_only3 hK1 ((Only.refl (fun k => k = W.heap.size) w1).setCell (p := ⟨W.heap.size, j, none⟩) rfl v) (fun g hg e => by simp only [Value.ownBlock, Option.some.injEq] at hg; omega)
  · intro i u hi
    by_cases hil : i < vs.length
    · rw [List.getElem?_append_left hil] at hi
      exact keepR _ _ _ _ (owns_below (h.rows i u hi) hB)
    · have : i = j := by have := (List.getElem?_eq_some_iff.1 hi).1; simp at this; omega
      subst this
      rw [List.getElem?_append_right (by omega), hj, Nat.sub_self] at hi
      cases hi
      rw [hL]
      exact keepR _ _ _ _ (owns_weak hr (by omega))
  · intro i i' u u' g hii hi hi' hg hg'
    by_cases hil' : i' < vs.length
    · rw [List.getElem?_append_left hil'] at hi'
      rw [List.getElem?_append_left (by omega)] at hi
      exact h.dist i i' u u' g hii hi hi' hg hg'
    · have : i' = j := by have := (List.getElem?_eq_some_iff.1 hi').1; simp at this; omega
      subst this
      rw [List.getElem?_append_right (by omega), hj, Nat.sub_self] at hi'
      cases hi'
      rw [List.getElem?_append_left (by omega)] at hi
      have a1 := (World.ownsRow.lt (h.rows i u hi) g hg).2
      have a2 := (hr.lt g hg').1
      omega
  · refine hL1.cell (?_ : _ = some (Value.slice none 0 0))
    obtain ⟨m, hm⟩ : ∃ m, 5 - vs.length = m + 1 := ⟨5 - vs.length - 1, by omega⟩
    rw [hm, List.getElem?_append_right (by omega), hj, Nat.sub_self, List.replicate_succ]
    rfl

/-- What stands in a round when all six calls have been made. -/
structure OwnT (Ls : List (List Nat)) (F r : Nat) (va vb : Value) (l l' : List Int) (w W V : World) (vs fs : List Value) (T : World) : Prop where
  below : Below w.heap.size w T
  belowW : Below W.heap.size W T
  s1 : W.heap.size + 2 ≤ V.heap.size
  s2 : V.heap.size ≤ T.heap.size
  s3 : w.heap.size ≤ F
  s4 : F < W.heap.size
  arrL : Arr T W.heap.size vs
  arrK : Arr T (W.heap.size + 1) (List.replicate 5 (.slice none 0 0))
  arrF : Arr T F fs
  rows : ∀ (j : Nat) (v : Value), vs[j]? = some v → T.ownsRow (W.heap.size + 2) 3 1 v (Ls[j]?.getD []).length (natCells (Ls[j]?.getD []))
  top : ∀ (j : Nat) (v : Value) (g : Nat), vs[j]? = some v → v.ownBlock = some g → W.heap.size + 2 ≤ g ∧ g < V.heap.size
  dist : ∀ (i j : Nat) (v v' : Value) (g : Nat), i < j → vs[i]? = some v → vs[j]? = some v' → v.ownBlock = some g → v'.ownBlock ≠ some g
  frows : 1 ≤ r → ∀ (j : Nat) (v : Value), fs[j]? = some v → T.ownsRow w.heap.size 3 1 v (Ls[j]?.getD []).length (natCells (Ls[j]?.getD []))
  ftop : 1 ≤ r → ∀ (j : Nat) (v : Value) (g : Nat), fs[j]? = some v → v.ownBlock = some g → g < W.heap.size
  ra : T.ownsRow w.heap.size 3 1 va l.length (intCells l)
  rb : T.ownsRow w.heap.size 3 1 vb l'.length (intCells l')
  ta : ∀ g, va.ownBlock = some g ∨ vb.ownBlock = some g → g < W.heap.size

theorem own_T {Ls : List (List Nat)} {F r : Nat} {va vb : Value} {l l' : List Int} {w W V T : World} {vs : List Value} (hI : OwnB F va vb l l' Ls r w W) (h : OwnR Ls W vs V) (h5 : vs.length = 5) (hB : Below V.heap.size V T) :
    ∃ fs, OwnT Ls F r va vb l l' w W V vs fs T := by
  obtain ⟨fs, f1, f2⟩ := hI.fs
  have hWT : Below W.heap.size W T := h.below.trans (hB.mono (by have := h.size; omega))
  have hl := h.arrL
  rw [h5, Nat.sub_self, List.replicate_zero, List.append_nil] at hl
  exact ⟨fs, hI.below.trans (hWT.mono hI.below.size), hWT, h.size, hB.size, hI.lo, hI.hi, hl.below hB, h.arrK.below hB, f1.below hWT,
    fun j v hj => owns_below (h.rows j v hj) hB, fun j v g hj hg => World.ownsRow.lt (h.rows j v hj) g hg, h.dist, fun hr j v hj => owns_below (f2 hr j v hj) hWT, fun hr j v g hj hg => (World.ownsRow.lt (f2 hr j v hj) g hg).2,
    owns_below hI.ra hWT, owns_below hI.rb hWT, fun g hg => by rcases hg with hg | hg; exact (World.ownsRow.lt hI.ra g hg).2; exact (World.ownsRow.lt hI.rb g hg).2⟩

/-- What stands in the first inner loop: some have been copied. -/
structure OwnK (Ls : List (List Nat)) (K : Nat) (T : World) (i : Nat) (ks : List Value) (W' : World) : Prop where
  arr : Arr W' K ks
  rows : ∀ (j : Nat) (v : Value), j < i → ks[j]? = some v → W'.ownsRow T.heap.size 3 1 v (Ls[j]?.getD []).length (natCells (Ls[j]?.getD []))
  only : Only (fun g => g = K) T W'

theorem OwnK.step {Ls : List (List Nat)} {K : Nat} {T W' w2 : World} {i : Nat} {ks : List Value} {v : Value} {L : List Nat} (h : OwnK Ls K T i ks W') (hi : i < 5) (hK : K < T.heap.size) (hL : Ls[i]?.getD [] = L)
    (hown : w2.ownsRow T.heap.size 3 1 v L.length (natCells L)) (hO : Only (fun k => Value.ownBlock (.slice (some ⟨W'.heap.size, 0, none⟩) 0 0) = some k) (W'.alloc (.cells #[] 3)) w2) :
    OwnK Ls K T (i + 1) (ks.set i v) (w2.setCell ⟨K, i, none⟩ v) ∧ (∃ u, w2.cell? ⟨K, i, none⟩ = some u) ∧ w2.frozen? ⟨K, i, none⟩ = false := by
  have hsz := h.only.size
  have hB : Below W'.heap.size W' w2 := by
    refine ((Below.refl _ W').alloc (Nat.le_refl _) _).trans (hO.below (by simp) (fun k hk => ?_))
    simp only [Value.ownBlock, Option.some.injEq] at hk
    omega
  have hs2 := hB.size
  have ha := h.arr.below hB
  have hl : ks.length = 5 := by have := h.arr.1; omega
  have keepR : ∀ (u : Value) (n : Nat) (xs : List Value) (b : Nat), w2.ownsRow b 3 1 u n xs → (w2.setCell ⟨K, i, none⟩ v).ownsRow b 3 1 u n xs := fun u n xs b hu =>
    owns_only3 hu ((Only.refl (fun k => k = K) w2).setCell (p := ⟨K, i, none⟩) rfl v) (fun g hg e => by subst e; exact owns_ne hu ha (by decide) _ hg rfl)
  refine ⟨⟨(World.ownsRow.stored ha i v).1, fun j u hj hu => ?_, ?_⟩, ⟨ks[i], ha.cell (List.getElem?_eq_getElem (by omega))⟩, ha.frozen i⟩
  · by_cases hji : j = i
    · subst hji
      rw [List.getElem?_set_self (by omega)] at hu
      cases hu
      rw [hL]
      exact keepR _ _ _ _ hown
    · rw [List.getElem?_set_ne (by omega)] at hu
      exact keepR _ _ _ _ (owns_below (h.rows j u (by omega) hu) hB)
  · exact (h.only.trans ((Only.of_below hB).mono fun _ e => e)).setCell (p := ⟨K, i, none⟩) rfl _

theorem Arr.heap {w : World} {g : Nat} {vs : List Value} (h : Arr w g vs) : w.heap[g]? = some (.cells vs.toArray 58 (0, 0)) := by
  rcases h.2 with ⟨hv, _⟩ | ⟨g', cap, cur, hv, _, hh, _, _, hs, ht⟩
  · cases hv
  · cases hv
    have : cur.toList = vs := by rw [← ht]; exact (List.take_of_length_le (by rw [Array.length_toList, hs]; omega)).symm
    rw [hh, ← this]

theorem owns_slice3 {w : World} {base k : Nat} {v : Value} {e : TypeId} {xs : List Value} (h : w.ownsRow base e 1 v k xs) : ∃ a z cp, v = .slice a z cp := by
  obtain ⟨a, cp, hv⟩ := owns_slice h
  exact ⟨a, k, cp, hv⟩

theorem five (vs : List Value) (h : vs.length = 5) : ∃ a b c d e, vs = [a, b, c, d, e] := by
  match vs, h with
  | [a, b, c, d, e], _ => exact ⟨a, b, c, d, e, rfl⟩

theorem Arr.fill {w : World} {g : Nat} {fs : List Value} (h : Arr w g fs) (a b c d e : Value) :
    Arr (((((w.setCell ⟨g, 0, none⟩ a).setCell ⟨g, 1, none⟩ b).setCell ⟨g, 2, none⟩ c).setCell ⟨g, 3, none⟩ d).setCell ⟨g, 4, none⟩ e) g [a, b, c, d, e] ∧
    Only (fun k => k = g) w (((((w.setCell ⟨g, 0, none⟩ a).setCell ⟨g, 1, none⟩ b).setCell ⟨g, 2, none⟩ c).setCell ⟨g, 3, none⟩ d).setCell ⟨g, 4, none⟩ e) := by
  obtain ⟨x0, x1, x2, x3, x4, rfl⟩ := five fs (by have := h.1; omega)
  refine ⟨?_, ((((((Only.refl (fun k => k = g) w).setCell (p := ⟨g, 0, none⟩) rfl _).setCell (p := ⟨g, 1, none⟩) rfl _).setCell (p := ⟨g, 2, none⟩) rfl _).setCell (p := ⟨g, 3, none⟩) rfl _).setCell (p := ⟨g, 4, none⟩) rfl _)⟩
  exact (World.ownsRow.stored (World.ownsRow.stored (World.ownsRow.stored (World.ownsRow.stored (World.ownsRow.stored h 0 a).1 1 b).1 2 c).1 3 d).1 4 e).1

/-- What stands behind the copy into 'first'. -/
structure OwnX (Ls : List (List Nat)) (F K v0 : Nat) (T : World) (ks : List Value) (X : World) : Prop where
  only : Only (fun g => g = K ∨ g = F ∨ v0 ≤ g ∧ g < T.heap.size) T X
  arrK : Arr X K ks
  arrF : Arr X F ks
  rows : ∀ (j : Nat) (v : Value), ks[j]? = some v → X.ownsRow T.heap.size 3 1 v (Ls[j]?.getD []).length (natCells (Ls[j]?.getD []))

theorem OwnK.toX {Ls : List (List Nat)} {F K v0 : Nat} {T W' X : World} {ks : List Value} (h : OwnK Ls K T 5 ks W') (hFK : F ≠ K) (hFT : F < T.heap.size)
    (hA : Arr X F ks) (hO : Only (fun g => g = F) W' X) : OwnX Ls F K v0 T ks X := by
  refine ⟨(h.only.mono fun g e => .inl e).trans (hO.mono fun g e => .inr (.inl e)), owns_only3 h.arr hO (fun g hg e => ?_), hA, fun j v hj => ?_⟩
  · simp only [Value.ownBlock, Option.some.injEq] at hg
    omega
  · have hj5 : j < 5 := by have h1 := (List.getElem?_eq_some_iff.1 hj).1; have := h.arr.1; omega
    exact owns_only3 (h.rows j v hj5 hj) hO (fun g hg e => by have := ((h.rows j v hj5 hj).lt g hg).1; omega)

theorem OwnX.spoiled {Ls : List (List Nat)} {F K v0 : Nat} {T X Y : World} {ks : List Value} (h : OwnX Ls F K v0 T ks X) (hF : F < v0) (hK : K < v0) (hO : Only (fun g => v0 ≤ g ∧ g < T.heap.size) X Y) : OwnX Ls F K v0 T ks Y := by
  refine ⟨h.only.trans (hO.mono fun g e => .inr (.inr e)), owns_only3 h.arrK hO (fun g hg e => ?_), owns_only3 h.arrF hO (fun g hg e => ?_), fun j v hj => owns_only3 (h.rows j v hj) hO (fun g hg e => ?_)⟩
  · simp only [Value.ownBlock, Option.some.injEq] at hg
    omega
  · simp only [Value.ownBlock, Option.some.injEq] at hg
    omega
  · have := ((h.rows j v hj).lt g hg).1
    omega

/-- What stands in the second inner loop: some have been spoiled. -/
structure OwnZ (Ls : List (List Nat)) (a v0 : Nat) (vs : List Value) (Y : World) (i : Nat) (Z : World) : Prop where
  only : Only (fun g => a + 2 ≤ g ∧ g < v0) Y Z
  rows : ∀ (j : Nat) (v : Value), i ≤ j → vs[j]? = some v → Z.ownsRow (a + 2) 3 1 v (Ls[j]?.getD []).length (natCells (Ls[j]?.getD []))

set_option maxRecDepth 100000 in
set_option maxHeartbeats 4000000 in
theorem own_short (a a' : Option Addr) (n cap n' cap' : Nat) (l l' : List Int) (k : Int) (w : World) (h : SlI w (.slice a n cap) l) (h' : SlI w (.slice a' n' cap') l') (hs1 : Src w (.slice a n cap) (intCells l)) (hs2 : Src w (.slice a' n' cap') (intCells l')) (hn : n ≤ 100 ∧ n' ≤ 100) :
    Calls Try.prog 12 #[.slice a n cap, .slice a' n' cap', .int .i64 k] w fun e w' => e = .returned (.bool true) ∧ Below w.heap.size w w' := by
  have hs := short_two a a' n cap n' cap' w true (by rw [decide_eq_true hn])
  have HS := Lib.hid hs
  have HH := Lib.hid h
  have HH' := Lib.hid h'
  have HS1 := Lib.hid hs1
  have HS2 := Lib.hid hs2
  clear hs h h' hs1 hs2
  go_enter Try.func12, Try.ntmps12
  go_wp2_with fail
  refine HS.out.mono ?_
  rintro e w1 ⟨rfl, rfl⟩
  have hB1 := alloc_below w (.cells #[.slice a n cap, .slice a' n' cap'] 23)
  obtain ⟨W1, hW1⟩ : ∃ W1, w.alloc (.cells #[.slice a n cap, .slice a' n' cap'] 23) = W1 := ⟨_, rfl⟩
  rw [hW1] at hB1 ⊢
  clear hW1
  have hln : l.length = n := by obtain ⟨_, _, hv, _⟩ := HH.out; cases hv; rfl
  have hln' : l'.length = n' := by obtain ⟨_, _, hv, _⟩ := HH'.out; cases hv; rfl
  have hl1 : (intCells l).length ≤ 100 := by rw [intCells_length]; omega
  have hl2 : (intCells l').length ≤ 100 := by rw [intCells_length]; omega
  have HLN := Lib.hid hln
  have HLN' := Lib.hid hln'
  have O1 := Lib.hid (World.ownsRow_lit (e := 3) (size := 1) W1 #[] 0 (base := w.heap.size) hB1.size (by unfold maxLen; omega) rfl)
  have S1 := Lib.hid (HS1.out.below (hB1.alloc hB1.size (.cells #[] 3)))
  have hz1 := hB1.size
  have HB1 := Lib.hid hB1
  clear hB1 hln hln'
  go_wp2_with (first
    | (at_builtin; refine app2_list rfl (.tmp 22) (.tmp 23) 23 rfl Try.underlying23 w.heap.size (.slice (some ⟨W1.heap.size, 0, none⟩) 0 0) 0 [] rfl O1.out (.slice a n cap) (intCells l) rfl S1.out (intCells_one l) (by omega) (by simp; omega) ?_; intro va W2 ha1 ha2 _ _; have hA := own_app HB1.out ha1 ha2; have HA := Lib.hid hA.1; have HB2 := Lib.hid hA.2; have hz2 := hA.2.size; have O2 := Lib.hid (World.ownsRow_lit (e := 3) (size := 1) W2 #[] 0 (base := w.heap.size) hA.2.size (by unfold maxLen; omega) rfl); have S2 := Lib.hid (HS2.out.below (hA.2.alloc hA.2.size (.cells #[] 3))); clear ha1 ha2 hA O1 S1)
    | (at_builtin; refine app2_list rfl (.tmp 25) (.tmp 26) 23 rfl Try.underlying23 w.heap.size (.slice (some ⟨W2.heap.size, 0, none⟩) 0 0) 0 [] rfl O2.out (.slice a' n' cap') (intCells l') rfl S2.out (intCells_one l') (by omega) (by simp; omega) ?_; intro vb W3 hb1 hb2 _ _; have hA2 := own_app HB2.out hb1 hb2; have HBR := Lib.hid hA2.1; have HB3 := Lib.hid hA2.2; have hz3 := hA2.2.size; have HA3 := Lib.hid (owns_only3 (HA.out.alloc (.cells #[] 3)) hb2 (fun g hg hk => by have := (HA.out.lt g hg).2; simp only [Value.ownBlock, Option.some.injEq] at hk; omega)); clear hb1 hb2 hA2 O2 S2))
  obtain ⟨L0, c0, m0, G0⟩ := mul_gives l l'
  obtain ⟨L1, c1, m1, G1⟩ := comm_gives l l'
  obtain ⟨L2, c2, m2, G2⟩ := inv_gives l
  obtain ⟨L3, c3, m3, G3⟩ := pow_gives l k
  obtain ⟨L4, c4, m4, G4⟩ := conj_gives l l'
  have I0 : OwnB W3.heap.size va vb l l' [L0, L1, L2, L3, L4] 0 w (W3.alloc (.cells #[.slice none 0 0, .slice none 0 0, .slice none 0 0, .slice none 0 0, .slice none 0 0] 58)) :=
    ⟨HB3.out.alloc hz3 _, HA3.out.alloc _, HBR.out.alloc _, hz3, by simp, _, Arr.new W3 _ _ _ _ _, fun h => by omega⟩
  obtain ⟨Ls, e0, e1, e2, e3, e4, hLs, hL7⟩ : ∃ Ls : List (List Nat), Ls[0]? = some L0 ∧ Ls[1]? = some L1 ∧ Ls[2]? = some L2 ∧ Ls[3]? = some L3 ∧ Ls[4]? = some L4 ∧ [L0, L1, L2, L3, L4] = Ls ∧ ∀ (j : Nat), (Ls[j]?.getD []).length ≤ 7 :=
    ⟨[L0, L1, L2, L3, L4], rfl, rfl, rfl, rfl, rfl, rfl, fun j => by
        match j with
        | 0 => exact m0
        | 1 => exact m1
        | 2 => exact m2
        | 3 => exact m3
        | 4 => exact m4
        | _ + 5 => exact Nat.zero_le _⟩
  rw [hLs] at I0
  have HL7 := Lib.hid hL7
  have HE := Lib.hid (And.intro e0 (And.intro e1 (And.intro e2 (And.intro e3 e4))))
  have HI0 := Lib.hid I0
  have HG0 := Lib.hid G0
  have HG1 := Lib.hid G1
  have HG2 := Lib.hid G2
  have HG3 := Lib.hid G3
  have HG4 := Lib.hid G4
  clear hL7 hLs e0 e1 e2 e3 e4 m0 m1 m2 m3 m4 I0 G0 G1 G2 G3 G4 HB1 HB2 HB3 HA HA3 HBR hz1 hz2
  generalize W3.heap.size = F at HI0 ⊢
  go_loopw [10] (fun i W => ∃ r : Nat, r ≤ 2 ∧ i = .int .i64 r ∧ OwnB F va vb l l' Ls r w W) (fun i _ => 2 - (intOf i).toNat)
  case atStart => exact ⟨0, by omega, rfl, HI0.out⟩
  case round =>
    clear HI0
    obtain ⟨Wo, rfl⟩ : ∃ Wo : World, Wo = wr := ⟨_, rfl⟩
    obtain ⟨r, hr, rfl, hI⟩ := hrel
    by_cases hr2 : r < 2
    · have hWB := hI.below.size
      have HI := Lib.hid hI
      have hst := OwnR.start Ls Wo (.slice none 0 0) rfl
      have HST := Lib.hid hst
      clear hI hst
      go_wp2_with fail
      generalize (Wo.alloc (.cells #[.slice none 0 0, .slice none 0 0, .slice none 0 0, .slice none 0 0, .slice none 0 0] 58)).alloc (.cells #[.slice none 0 0, .slice none 0 0, .slice none 0 0, .slice none 0 0, .slice none 0 0] 58) = V0 at HST ⊢
      have hv0 := HI.out.below.trans (HST.out.below.mono hWB)
      refine (HG0.out _ _ _ (HH.out.below hv0) (HH'.out.below hv0)).mono ?_
      rintro e w1 ⟨_, rfl, hr, hB⟩
      obtain ⟨a0, p0, rfl⟩ := owns_slice hr
      obtain ⟨st, cc, ff⟩ := HST.out.step (j := 0) rfl (by omega) HE.out.1 hr hB
      have HST := Lib.hid st
      clear hv0 st hr hB
      go_wp2_with fail
      generalize w1.setCell ⟨Wo.heap.size, 0, none⟩ (.slice a0 L0.length p0) = V1 at HST ⊢
      clear cc ff
      have hv1 := HI.out.below.trans (HST.out.below.mono hWB)
      refine (HG1.out _ _ _ (HH.out.below hv1) (HH'.out.below hv1)).mono ?_
      rintro e w1 ⟨_, rfl, hr, hB⟩
      obtain ⟨a1, p1, rfl⟩ := owns_slice hr
      obtain ⟨st, cc, ff⟩ := HST.out.step (j := 1) rfl (by omega) HE.out.2.1 hr hB
      have HST := Lib.hid st
      clear hv1 st hr hB
      go_wp2_with fail
      generalize w1.setCell ⟨Wo.heap.size, 1, none⟩ (.slice a1 L1.length p1) = V2 at HST ⊢
      clear cc ff
      have hv2 := HI.out.below.trans (HST.out.below.mono hWB)
      refine (HG2.out _ _ (HH.out.below hv2)).mono ?_
      rintro e w1 ⟨_, rfl, hr, hB⟩
      obtain ⟨a2, p2, rfl⟩ := owns_slice hr
      obtain ⟨st, cc, ff⟩ := HST.out.step (j := 2) rfl (by omega) HE.out.2.2.1 hr hB
      have HST := Lib.hid st
      clear hv2 st hr hB
      go_wp2_with fail
      generalize w1.setCell ⟨Wo.heap.size, 2, none⟩ (.slice a2 L2.length p2) = V3 at HST ⊢
      clear cc ff
      have hv3 := HI.out.below.trans (HST.out.below.mono hWB)
      refine (HG3.out _ _ (HH.out.below hv3)).mono ?_
      rintro e w1 ⟨_, rfl, hr, hB⟩
      obtain ⟨a3, p3, rfl⟩ := owns_slice hr
      obtain ⟨st, cc, ff⟩ := HST.out.step (j := 3) rfl (by omega) HE.out.2.2.2.1 hr hB
      have HST := Lib.hid st
      clear hv3 st hr hB
      go_wp2_with fail
      generalize w1.setCell ⟨Wo.heap.size, 3, none⟩ (.slice a3 L3.length p3) = V4 at HST ⊢
      clear cc ff
      have hv4 := HI.out.below.trans (HST.out.below.mono hWB)
      refine (HG4.out _ _ _ (HH.out.below hv4) (HH'.out.below hv4)).mono ?_
      rintro e w1 ⟨_, rfl, hr, hB⟩
      obtain ⟨a4, p4, rfl⟩ := owns_slice hr
      obtain ⟨st, cc, ff⟩ := HST.out.step (j := 4) rfl (by omega) HE.out.2.2.2.2 hr hB
      have HST := Lib.hid st
      clear hv4 st hr hB
      go_wp2_with fail
      generalize w1.setCell ⟨Wo.heap.size, 4, none⟩ (.slice a4 L4.length p4) = V5 at HST ⊢
      clear cc ff
      clear HG0 HG1 HG2 HG3 HG4
      have hv5 := HI.out.below.trans (HST.out.below.mono hWB)
      refine (cyc_gives l _ _ (HH.out.below hv5)).mono ?_
      rintro e T ⟨lv, rfl, hrows, hBT⟩
      obtain ⟨al, pl, ml, rfl⟩ : ∃ al pl ml, lv = .slice al ml pl := by obtain ⟨m, _, h, _⟩ := id hrows; obtain ⟨x, y, rfl⟩ := owns_slice h; exact ⟨x, y, m, rfl⟩
      go_wp2_with fail
      obtain ⟨vs, hvs⟩ : ∃ vs, [] ++ [Value.slice a0 L0.length p0] ++ [Value.slice a1 L1.length p1] ++ [Value.slice a2 L2.length p2] ++ [Value.slice a3 L3.length p3] ++ [Value.slice a4 L4.length p4] = vs := ⟨_, rfl⟩
      rw [hvs] at HST
      have h5 : vs.length = 5 := by rw [← hvs]; rfl
      obtain ⟨fs, hT⟩ := own_T HI.out HST.out h5 hBT
      have HT := Lib.hid hT
      have HRW := Lib.hid hrows
      have H5 := Lib.hid h5
      have t1 := hT.s1
      have t2 := hT.s2
      have t3 := hT.s3
      have t4 := hT.s4
      clear hvs hT HST hrows h5 hBT hv5
      go_loopw [14] (fun ti W' => ∃ (i : Nat) (ks : List Value), i ≤ 5 ∧ ti = .int .i64 i ∧ OwnK Ls (Wo.heap.size + 1) T i ks W') (fun ti _ => 5 - (intOf ti).toNat)
      case atStart => exact ⟨0, _, by omega, rfl, ⟨HT.out.arrK, fun j v hj => by omega, Only.refl _ _⟩⟩
      case round =>
        obtain ⟨i, ks, hi5, rfl, hK⟩ := hrel
        by_cases hi : i < 5
        · have hvi : ∃ v, vs[i]? = some v := ⟨_, List.getElem?_eq_getElem (by rw [H5.out]; exact hi)⟩
          obtain ⟨v, hv⟩ := hvi
          have arrL5 := owns_only3 HT.out.arrL hK.only (fun g hg e => by simp only [Value.ownBlock, Option.some.injEq] at hg; omega)
          have row5 := owns_only3 (HT.out.rows i v hv) hK.only (fun g hg e => by have := (HT.out.top i v g hv hg).1; omega)
          have cL : (wr.alloc (.cells #[] 3)).cell? ⟨Wo.heap.size, i, none⟩ = some v := Arr.cell (World.ownsRow.alloc arrL5 (.cells #[] 3)) hv
          obtain ⟨L, hL⟩ : ∃ L, Ls[i]?.getD [] = L := ⟨_, rfl⟩
          have hll : L.length ≤ 7 := by rw [← hL]; exact HL7.out i
          rw [hL] at row5
          obtain ⟨av, pv, rfl⟩ := owns_slice row5
          have hT5 := hK.only.size
          have O5 := Lib.hid (World.ownsRow_lit (e := 3) (size := 1) wr #[] 0 (base := T.heap.size) hT5 (by unfold maxLen; omega) rfl)
          have S5 := Lib.hid (Src.of_owns (row5.alloc (.cells #[] 3)))
          have hcl : (natCells L).length ≤ 7 := by rw [natCells_length]; exact hll
          have HKK := Lib.hid hK
          have HLI := Lib.hid hL
          have HVI := Lib.hid hv
          clear hK hL hv arrL5 row5
          go_wp2_with (at_builtin; refine app2_list rfl (.tmp 73) (.tmp 76) 23 rfl Try.underlying23 T.heap.size (.slice (some ⟨wr.heap.size, 0, none⟩) 0 0) 0 [] rfl O5.out (.slice av L.length pv) (natCells L) rfl S5.out (natCells_one L) (by omega) (by simp; omega) ?_; intro kv W6 ho6 hn6 _ _; rw [natCells_length, Nat.zero_add, List.nil_append] at ho6; obtain ⟨ak, pk, rfl⟩ := owns_slice ho6; obtain ⟨st, ⟨uu, cK⟩, fK⟩ := HKK.out.step hi (by omega) HLI.out ho6 hn6; have HKN := Lib.hid st; clear st ho6 hn6)
          generalize W6.setCell ⟨Wo.heap.size + 1, i, none⟩ (.slice ak L.length pk) = W7 at HKN ⊢
          clear cK fK cL O5 S5
          have arrL7 := owns_only3 HT.out.arrL HKN.out.only (fun g hg e => by simp only [Value.ownBlock, Option.some.injEq] at hg; omega)
          have cL7 := Arr.cell arrL7 HVI.out
          have h700 : T.heap.size ≤ W7.heap.size := HKN.out.only.size
          by_cases hr0 : r = 0
          · have hd : decide (0 < r) = false := decide_eq_false (by omega)
            clear hr0 arrL7
            go_quiet (fail)
            go_wp2
            go_roundw
            case rel => exact ⟨i + 1, _, by omega, by go_num, ⟨HKN.out.arr.drewN _, HKN.out.rows, HKN.out.only.drewN _⟩⟩
            case measure => simp [intOf]; omega
          · have hfl : ∃ f, fs[i]? = some f := ⟨_, List.getElem?_eq_getElem (by have := HT.out.arrF.1; omega)⟩
            obtain ⟨f, hf⟩ := hfl
            have hr1 : 1 ≤ r := by omega
            have arrF7 := owns_only3 HT.out.arrF HKN.out.only (fun g hg e => by simp only [Value.ownBlock, Option.some.injEq] at hg; omega)
            have cF7 := Arr.cell arrF7 hf
            have row7 := owns_only3 (HT.out.rows i _ HVI.out) HKN.out.only (fun g hg e => by have := (HT.out.top i _ g HVI.out hg).1; omega)
            have frow7 := owns_only3 (HT.out.frows hr1 i _ hf) HKN.out.only (fun g hg e => by have := HT.out.ftop hr1 i _ g hf hg; omega)
            rw [HLI.out] at row7 frow7
            obtain ⟨af, pf, rfl⟩ := owns_slice frow7
            have hsm := fun N => same_yes _ _ _ _ (W7.drewN N) ((SlI.of_owns' row7 hll).drewN N) ((SlI.of_owns' frow7 hll).drewN N) rfl
            have HSM := Lib.hid hsm
            have hd : decide (0 < r) = true := decide_eq_true (by omega)
            clear hr0 arrL7 arrF7 row7 frow7 hsm hf
            go_quiet ((go_at_call 42; exact Calls.quiet_of (HSM.out _)))
            go_wp2
            go_roundw
            case rel => exact ⟨i + 1, _, by omega, by go_num, ⟨HKN.out.arr.drewN _, HKN.out.rows, HKN.out.only.drewN _⟩⟩
            case measure => simp [intOf]; omega
        · obtain rfl : i = 5 := by omega
          obtain ⟨k0, k1, k2, k3, k4, rfl⟩ := five ks (by have := hK.arr.1; omega)
          obtain ⟨b0, z0, q0, rfl⟩ := owns_slice3 (hK.rows 0 k0 (by omega) rfl)
          obtain ⟨b1, z1, q1, rfl⟩ := owns_slice3 (hK.rows 1 k1 (by omega) rfl)
          obtain ⟨b2, z2, q2, rfl⟩ := owns_slice3 (hK.rows 2 k2 (by omega) rfl)
          obtain ⟨b3, z3, q3, rfl⟩ := owns_slice3 (hK.rows 3 k3 (by omega) rfl)
          obtain ⟨b4, z4, q4, rfl⟩ := owns_slice3 (hK.rows 4 k4 (by omega) rfl)
          have arrF5 := owns_only3 HT.out.arrF hK.only (fun g hg e => by simp only [Value.ownBlock, Option.some.injEq] at hg; omega)
          have hKH := hK.arr.heap
          obtain ⟨y0, y1, y2, y3, y4, hfs⟩ := five fs (by have := HT.out.arrF.1; omega)
          rw [hfs] at arrF5
          have d0 := Arr.cell (j := 0) arrF5 rfl
          have d1 := Arr.cell (j := 1) arrF5 rfl
          have d2 := Arr.cell (j := 2) arrF5 rfl
          have d3 := Arr.cell (j := 3) arrF5 rfl
          have d4 := Arr.cell (j := 4) arrF5 rfl
          have g0 := Arr.frozen arrF5 0
          have g1 := Arr.frozen arrF5 1
          have g2 := Arr.frozen arrF5 2
          have g3 := Arr.frozen arrF5 3
          have g4 := Arr.frozen arrF5 4
          have hfill := Arr.fill arrF5 (.slice b0 z0 q0) (.slice b1 z1 q1) (.slice b2 z2 q2) (.slice b3 z3 q3) (.slice b4 z4 q4)
          have hX := OwnK.toX (v0 := V5.heap.size) hK (by omega) (by omega) hfill.1 hfill.2
          have hX2 : Only (fun g => g = Wo.heap.size + 1 ∨ g = F) T _ := (hK.only.mono fun g e => .inl e).trans (hfill.2.mono fun g e => .inr e)
          have HX := Lib.hid hX
          have HX2 := Lib.hid hX2
          have HKH := Lib.hid hKH
          clear hK hfs arrF5 hfill hX hX2 hKH
          have tok1 : True := trivial
          go_wp2_with (have _t := tok1; refine wpList_load_row rfl 58 (.tmp 12) rfl (Wo.heap.size + 1) rfl 58 #[.slice b0 z0 q0, .slice b1 z1 q1, .slice b2 z2 q2, .slice b3 z3 q3, .slice b4 z4 q4] (0, 0) _ HKH.out Try.underlying58 rfl (by kernel_rfl) ?_; clear tok1 _t)
          generalize ((((wr.setCell ⟨F, 0, none⟩ (.slice b0 z0 q0)).setCell ⟨F, 1, none⟩ (.slice b1 z1 q1)).setCell ⟨F, 2, none⟩ (.slice b2 z2 q2)).setCell ⟨F, 3, none⟩ (.slice b3 z3 q3)).setCell ⟨F, 4, none⟩ (.slice b4 z4 q4) = X at HX HX2 ⊢
          obtain ⟨ks, hks⟩ : ∃ ks, [Value.slice b0 z0 q0, Value.slice b1 z1 q1, Value.slice b2 z2 q2, Value.slice b3 z3 q3, Value.slice b4 z4 q4] = ks := ⟨_, rfl⟩
          rw [hks] at HX
          clear hks d0 d1 d2 d3 d4 g0 g1 g2 g3 g4 HKH
          obtain ⟨mm, vals, hr1, hr2, hr3⟩ := HRW.out
          have hFK : ∀ g, V5.heap.size ≤ g → ¬ (g = Wo.heap.size + 1 ∨ g = F) := fun g hg h => by omega
          have hXO := HX2.out
          have hsp := spoilL_any (.slice al ml pl) mm V5.heap.size vals X (owns_only3 hr1 hXO (fun g hg e => hFK g (hr1.lt g hg).1 e)) (fun j v hj => by obtain ⟨n0, x0, h0, h9⟩ := hr2 j v hj; exact ⟨n0, x0, owns_only3 h0 hXO (fun g hg e => hFK g (h0.lt g hg).1 e), h9⟩) hr3 (by have := hXO.size; omega) (fun g => V5.heap.size ≤ g ∧ g < T.heap.size) (fun g hg => hr1.lt g hg) (fun j v hj g hg => by obtain ⟨n0, x0, h0, _⟩ := hr2 j v hj; exact h0.lt g hg)
          refine hsp.mono ?_
          rintro e Y ⟨rfl, hOY⟩
          have hY := HX.out.spoiled (by omega) (by omega) hOY
          have HY := Lib.hid hY
          clear hsp hr1 hr2 hr3 hFK hXO hOY hY HX HX2 HRW
          go_wp2_with fail
          have hYsz := HY.out.only.size
          go_loopw [15] (fun ti Z => ∃ i : Nat, i ≤ 5 ∧ ti = .int .i64 i ∧ OwnZ Ls Wo.heap.size V5.heap.size vs Y i Z) (fun ti _ => 5 - (intOf ti).toNat)
          case atStart => exact ⟨0, by omega, rfl, ⟨Only.refl _ _, fun j v _ hj => owns_only3 (HT.out.rows j v hj) HY.out.only (fun g hg e => by have := HT.out.top j v g hj hg; omega)⟩⟩
          case round =>
            obtain ⟨i, hi5, rfl, hZ⟩ := hrel
            by_cases hi : i < 5
            · have hvi : ∃ v, vs[i]? = some v := ⟨_, List.getElem?_eq_getElem (by rw [H5.out]; exact hi)⟩
              obtain ⟨v, hv⟩ := hvi
              have hki : ∃ v, ks[i]? = some v := ⟨_, List.getElem?_eq_getElem (by have := HY.out.arrK.1; omega)⟩
              obtain ⟨kv, hkv⟩ := hki
              obtain ⟨L, hL⟩ : ∃ L, Ls[i]?.getD [] = L := ⟨_, rfl⟩
              have hll : L.length ≤ 7 := by rw [← hL]; exact HL7.out i
              have arrL := owns_only3 (owns_only3 HT.out.arrL HY.out.only (fun g hg e => by simp only [Value.ownBlock, Option.some.injEq] at hg; omega)) hZ.only (fun g hg e => by simp only [Value.ownBlock, Option.some.injEq] at hg; omega)
              have arrK := owns_only3 HY.out.arrK hZ.only (fun g hg e => by simp only [Value.ownBlock, Option.some.injEq] at hg; omega)
              have row := hZ.rows i v (Nat.le_refl _) hv
              have krow := owns_only3 (HY.out.rows i kv hkv) hZ.only (fun g hg e => by have := ((HY.out.rows i kv hkv).lt g hg).1; omega)
              have cL := Arr.cell arrL hv
              have cK := Arr.cell arrK hkv
              rw [hL] at row krow
              obtain ⟨av, pv, rfl⟩ := owns_slice row
              obtain ⟨ak, pk, rfl⟩ := owns_slice krow
              have hZsz := hZ.only.size
              have hsm := fun N => same_yes _ _ _ _ (wr.drewN N) ((SlI.of_owns' row hll).drewN N) ((SlI.of_owns' krow hll).drewN N) rfl
              have hspo := fun N => spoil_any _ _ (Wo.heap.size + 2) _ (wr.drewN N) (row : (wr.drewN N).ownsRow (Wo.heap.size + 2) 3 1 _ _ _) (by omega) (by show _ ≤ wr.heap.size; omega)
              have HSM := Lib.hid hsm
              have HSP := Lib.hid hspo
              have HZ := Lib.hid hZ
              have HVI := Lib.hid hv
              have HRO := Lib.hid row
              clear hsm hspo hZ hv row krow arrL arrK hL hkv
              go_wp2_with fail
              go_quiet ((go_at_call 42; exact Calls.quiet_of (HSM.out _)))
              go_wp2_with fail
              refine (HSP.out _).mono ?_
              rintro e Z2 ⟨rfl, hO2, hK2⟩
              go_wp2_with fail
              go_roundw
              case rel =>
                refine ⟨i + 1, by omega, by go_num, ⟨?_, fun j u hj hu => ?_⟩⟩
                · refine (HZ.out.only.drewN _).trans (hO2.mono fun g hg => ?_)
                  exact HT.out.top i _ g HVI.out hg
                · exact owns_only3 (show (wr.drewN _).ownsRow _ _ _ _ _ _ from HZ.out.rows j u (by omega) hu) hO2 (fun g hg e => HT.out.dist i j _ u g (by omega) HVI.out hu e hg)
              case measure => simp [intOf]; omega
            · have hZsz := hZ.only.size
              have hBY : Below w.heap.size w Y := HT.out.below.trans (HY.out.only.below (by omega) (fun g e => by omega))
              have hBZ : Below w.heap.size w wr := hBY.trans (hZ.only.below (by omega) (fun g e => by omega))
              have hra := owns_only3 (owns_only3 HT.out.ra HY.out.only (fun g hg e => by
                have h1 := HT.out.ta g (.inl hg)
                have h2 := owns_ne HT.out.ra HT.out.arrF (by decide) g hg
                simp only [Value.ownBlock, ne_eq, Option.some.injEq] at h2
                omega)) hZ.only (fun g hg e => by have h1 := HT.out.ta g (.inl hg); omega)
              have hrb := owns_only3 (owns_only3 HT.out.rb HY.out.only (fun g hg e => by
                have h1 := HT.out.ta g (.inr hg)
                have h2 := owns_ne HT.out.rb HT.out.arrF (by decide) g hg
                simp only [Value.ownBlock, ne_eq, Option.some.injEq] at h2
                omega)) hZ.only (fun g hg e => by have h1 := HT.out.ta g (.inr hg); omega)
              have hfs := owns_only3 HY.out.arrF hZ.only (fun g hg e => by simp only [Value.ownBlock, Option.some.injEq] at hg; omega)
              have hks : ∀ (j : Nat) (v : Value), ks[j]? = some v → wr.ownsRow w.heap.size 3 1 v (Ls[j]?.getD []).length (natCells (Ls[j]?.getD [])) := fun j v hj =>
                owns_weak (owns_only3 (HY.out.rows j v hj) hZ.only (fun g hg e => by have := ((HY.out.rows j v hj).lt g hg).1; omega)) (by omega)
              have hsa := fun N => same_yes _ _ l l (wr.drewN N) ((HH.out.below hBZ).drewN N) ((SlI.of_owns_int hra (by have := HLN.out; omega)).drewN N) rfl
              have hsb := fun N => same_yes _ _ l' l' (wr.drewN N) ((HH'.out.below hBZ).drewN N) ((SlI.of_owns_int hrb (by have := HLN'.out; omega)).drewN N) rfl
              have HSA := Lib.hid (hsa 0)
              have HSB := Lib.hid hsb
              have HRA := Lib.hid hra
              have HRB := Lib.hid hrb
              have HFS := Lib.hid hfs
              have HKS := Lib.hid hks
              have HBZ := Lib.hid hBZ
              clear hsa hsb hra hrb hfs hks hBZ hBY hZ
              go_wp2_with fail
              refine Calls.mono (show Calls Try.prog 42 _ wr _ from HSA.out) ?_
              rintro e w8 ⟨rfl, q, rfl⟩
              go_wp2_with fail
              refine (show Calls Try.prog 42 _ (wr.drewN q) _ from HSB.out q).mono ?_
              rintro e w9 ⟨rfl, q', rfl⟩
              go_wp2_with fail
              go_roundw
              case rel => exact ⟨r + 1, by omega, by go_num, ⟨below_drewN' HBZ.out _, HRA.out, HRB.out, by omega, by show F < wr.heap.size; omega, ks, HFS.out, fun _ => HKS.out⟩⟩
              case measure => simp [intOf]; omega
    · have hb := hI.below
      clear hI
      go_wp2_with fail
      refine (alive_any _).mono ?_
      rintro e w2 ⟨rfl, hB⟩
      go_wp2_with fail
      go_ret
      exact ⟨rfl, hb.trans (hB.mono hb.size)⟩

theorem isrow_src {w : World} {a : Option Addr} {len cap : Nat} {zs : List Int}
    (h : (a = none ∧ len = 0 ∧ cap = 0 ∧ zs = []) ∨
      ∃ x, a = some x ∧ len ≤ cap ∧ cap ≤ maxLen ∧ zs.length = cap ∧ (∀ i, i < zs.length → w.cell? (x.add i) = some (.int .i64 (zs.getD i 0))) ∧ ∀ n ∈ zs, (Lit.int .i64 n).wf = true) :
    Src w (.slice a len cap) (intCells (zs.take len)) := by
  rcases h with ⟨rfl, rfl, rfl, rfl⟩ | ⟨x, rfl, hl, hm, hz, hcell, _⟩
  · exact .inl ⟨rfl, rfl⟩
  · have hlen : (intCells (zs.take len)).length = len := by rw [intCells_length, List.length_take]; omega
    refine .inr ⟨x, cap, by rw [hlen], fun j u hj => ?_⟩
    have hj1 : j < len := by have := (List.getElem?_eq_some_iff.1 hj).1; omega
    rw [hcell j (by omega)]
    rw [← hj]
    have hjz : j < zs.length := by omega
    simp [intCells, hj1, hjz]

theorem own_any (a a' : Option Addr) (n cap n' cap' : Nat) (l l' : List Int) (k : Int) (w : World) (h : SlI w (.slice a n cap) l) (h' : SlI w (.slice a' n' cap') l') (hs1 : Src w (.slice a n cap) (intCells l)) (hs2 : Src w (.slice a' n' cap') (intCells l')) :
    Calls Try.prog 12 #[.slice a n cap, .slice a' n' cap', .int .i64 k] w fun e w' => e = .returned (.bool true) ∧ Below w.heap.size w w' := by
  by_cases hn : n ≤ 100 ∧ n' ≤ 100
  · exact own_short a a' n cap n' cap' l l' k w h h' hs1 hs2 hn
  · exact own_long a a' n cap n' cap' k w hn
end Go.Proofs.Ytdpnmepplkiljaa
