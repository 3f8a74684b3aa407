/-
  A map of the call's own, whatever its elements: told by a function from keys to elements. Made, looked up, stored into, carried.
-/
import Derived.Test.YtcophfhnhlaonaaDoorChecked
import Derived.Maps.OwnOps
import Derived.WalkKit
namespace Go.Proofs.YtcophfhnhlaonaaDoor
set_option linter.unusedVariables false
open Go.Maps (Keyed)
open Go.ChangeMaps (setBlock)
open Go.ChangeMaps (heap_setBlock_same heap_setBlock_other)

/-- Block b is a map of at most n entries, whose keys of type k have the elements that f tells. -/
structure MapOf (w : World) (P : Program) (k : TypeId) (b n : Nat) (f : Value → Option Value) : Prop where
  has : ∃ es clock, w.heap[b]? = some (.map es clock) ∧ es.size ≤ n ∧ es.toList.Pairwise (fun x y => x.key ≠ y.key) ∧ (∀ e ∈ es.toList, (∃ l, keyOf P k e.key = some l) ∧ f e.key = some e.val) ∧
    ∀ x v, f x = some v → ∃ e ∈ es.toList, e.key = x

open Classical in
/-- The function behind a store. -/
noncomputable def putF (f : Value → Option Value) (x v : Value) (y : Value) : Option Value := if y = x then some v else f y

theorem putF_self (f : Value → Option Value) (x v : Value) : putF f x v x = some v := by simp [putF]
theorem putF_ne {f : Value → Option Value} {x v y : Value} (h : y ≠ x) : putF f x v y = f y := by simp [putF, h]

theorem MapOf.made (w : World) (P : Program) (k : TypeId) : MapOf (w.alloc (.map #[] 0)) P k w.heap.size 0 (fun _ => none) :=
  ⟨⟨#[], 0, (MapKept.heap_alloc w _).1, Nat.le_refl _, by simp, by simp, by simp⟩⟩

section
variable {w : World} {P : Program} {k : TypeId} {b n : Nat} {f : Value → Option Value}

theorem MapOf.lt (h : MapOf w P k b n f) : b < w.heap.size := by
  obtain ⟨es, clock, hb, _⟩ := h.has
  exact (Array.getElem?_eq_some_iff.1 hb).1

theorem MapOf.mono (h : MapOf w P k b n f) {n' : Nat} (hn : n ≤ n') : MapOf w P k b n' f := by
  obtain ⟨es, clock, hb, hs, r⟩ := h.has
  exact ⟨es, clock, hb, Nat.le_trans hs hn, r⟩

theorem MapOf.block (h : MapOf w P k b n f) {w' : World} (hb : w'.heap[b]? = w.heap[b]?) : MapOf w' P k b n f := by
  obtain ⟨es, clock, hb', r⟩ := h.has
  exact ⟨es, clock, hb.trans hb', r⟩

theorem MapOf.kept {w' : World} {row : Option Nat} (h : MapOf w P k b n f) (hg : w.grownBy w' row) (hne : some b ≠ row) : MapOf w' P k b n f :=
  h.block (hg.block b h.lt hne)

theorem MapOf.alloc (h : MapOf w P k b n f) (o : Obj) : MapOf (w.alloc o) P k b n f := h.kept (World.grownBy_alloc w o none) (by simp)

theorem MapOf.congr (h : MapOf w P k b n f) {g : Value → Option Value} (hg : ∀ x, f x = g x) : MapOf w P k b n g := by
  have : f = g := funext hg
  exact this ▸ h

/-- A look-up turns no world. -/
theorem MapOf.lookup {t e : TypeId} (h : MapOf w P k b n f) (K : Keyed P k) (ht : P.underlying t = some (.map k e)) {z : Value} (hz : (zeroValue e).run P w = .ok z w) {key : Value} {kl : Lit} (hkey : keyOf P k key = some kl) (ok : Bool) :
    (Instr.lookup t (.map (some b)) key ok).run P w = .ok (if ok then .tuple #[(f key).getD z, .bool (f key).isSome] else (f key).getD z) w := by
  obtain ⟨es, clock, hb, hs, hp, hf, hfx⟩ := h.has
  rcases K.find w hkey es.toList (fun e he => (hf e he).1) with ⟨h1, h2⟩ | ⟨j, e0, h1, h2, h3⟩
  · have hn : f key = none := by
      cases hk : f key with
      | none => rfl
      | some v => obtain ⟨e, he, hek⟩ := hfx key v hk; exact absurd hek (h2 e he)
    simp [Instr.lookup, run_underlying ht, MapKept.run_getObj_map hb, K.check w _ hkey, h1, hz, hn, Result.andThen]
  · have hm : e0 ∈ es.toList := List.mem_of_getElem? h2
    have hv : f key = some e0.val := by rw [← h3]; exact (hf e0 hm).2
    simp [Instr.lookup, run_underlying ht, MapKept.run_getObj_map hb, K.check w _ hkey, h1, hv, Result.andThen]

/-- A store: some world in which the block has the new element; no other block has turned. -/
theorem MapOf.update {t e : TypeId} (h : MapOf w P k b n f) (K : Keyed P k) (ht : P.underlying t = some (.map k e)) {key val : Value} {kl : Lit} (hkey : keyOf P k key = some kl) :
    ∃ w', (Instr.mapUpdate t (.map (some b)) key val).run P w = .ok () w' ∧ MapOf w' P k b (n + 1) (putF f key val) ∧ w.grownBy w' (some b) := by
  obtain ⟨es, clock, hb, hs, hp, hf, hfx⟩ := h.has
  have grown : ∀ es' clock', w.grownBy (setBlock w b (.map es' clock')) (some b) := fun es' clock' =>
    ⟨rfl, rfl, rfl, by simp [setBlock], fun i _ hi => heap_setBlock_other hb _ (fun e => hi (by rw [e]))⟩
  rcases K.find w hkey es.toList (fun e he => (hf e he).1) with ⟨h1, h2⟩ | ⟨j, e0, h1, h2, h3⟩
  · refine ⟨setBlock w b (.map (es.push ⟨key, val, clock⟩) (clock + 1)), ?_, ⟨_, _, heap_setBlock_same hb _, by simp; omega, ?_, ?_, ?_⟩, grown _ _⟩
    · simp [Instr.mapUpdate, run_underlying ht, MapKept.run_getObj_map hb, K.check w false hkey, h1, MapKept.run_setObj_map _ hb, Result.andThen, setBlock]
    · rw [Array.toList_push, List.pairwise_append]
      refine ⟨hp, by simp, fun x hx y hy => ?_⟩
      simp at hy
      subst hy
      exact h2 x hx
    · intro x hx
      simp only [Array.toList_push, List.mem_append, List.mem_singleton] at hx
      rcases hx with hx | rfl
      · exact ⟨(hf x hx).1, by rw [putF_ne (h2 x hx)]; exact (hf x hx).2⟩
      · exact ⟨⟨kl, hkey⟩, putF_self _ _ _⟩
    · intro x v hx
      by_cases hxk : x = key
      · exact ⟨⟨key, val, clock⟩, by simp, hxk.symm⟩
      · rw [putF_ne hxk] at hx
        obtain ⟨e, he, hek⟩ := hfx x v hx
        exact ⟨e, by simp; exact Or.inl (by simpa using he), hek⟩
  · have hj : es[j]? = some e0 := by simpa using h2
    have hlist : (es.modify j (fun e' => { e' with key := key, val := val })).toList = es.toList.set j { e0 with key := key, val := val } := by
      rw [Array.toList_modify, ChangeMaps.modify_eq_set _ _ _ _ h2]
    have hjl : j < es.toList.length := (List.getElem?_eq_some_iff.1 h2).1
    have hkeys : (es.toList.set j { e0 with key := key, val := val }).map (·.key) = es.toList.map (·.key) := by
      rw [List.map_set]
      apply List.ext_getElem?
      intro i
      rw [List.getElem?_set]
      split
      · rename_i e; subst e; simp [h2, h3]; omega
      · rfl
    refine ⟨setBlock w b (.map (es.modify j (fun e' => { e' with key := key, val := val })) clock), ?_, ⟨_, _, heap_setBlock_same hb _, by simp; omega, ?_, ?_, ?_⟩, grown _ _⟩
    · simp [Instr.mapUpdate, run_underlying ht, MapKept.run_getObj_map hb, K.check w false hkey, h1, hj, h3, K.stays w hkey, MapKept.run_setObj_map _ hb, Result.andThen, setBlock]
    · rw [hlist]
      have : ((es.toList.set j { e0 with key := key, val := val }).map (·.key)).Pairwise (· ≠ ·) := by
        rw [hkeys, List.pairwise_map]; exact hp
      exact List.pairwise_map.1 this
    · intro x hx
      rw [hlist] at hx
      obtain ⟨i, hi, ex⟩ := List.getElem_of_mem hx
      rw [List.getElem_set] at ex
      split at ex
      · subst ex; exact ⟨⟨kl, hkey⟩, putF_self _ _ _⟩
      · rename_i hne
        have hi' : i < es.toList.length := by simpa using hi
        have hm : x ∈ es.toList := ex ▸ List.getElem_mem hi'
        refine ⟨(hf x hm).1, ?_⟩
        rw [putF_ne]
        · exact (hf x hm).2
        · intro hk
          have h2' : es.toList[j] = e0 := (List.getElem?_eq_some_iff.1 h2).2
          rcases Nat.lt_or_gt_of_ne hne with hlt | hlt
          · have := List.pairwise_iff_getElem.1 hp j i hjl hi' hlt
            rw [h2', ex] at this
            exact this (h3.trans hk.symm)
          · have := List.pairwise_iff_getElem.1 hp i j hi' hjl hlt
            rw [h2', ex] at this
            exact this (hk.trans h3.symm)
    · intro x v hx
      have hmem : x ∈ es.toList.map (·.key) := by
        by_cases hxk : x = key
        · subst hxk; exact List.mem_map.2 ⟨e0, List.mem_of_getElem? h2, h3⟩
        · rw [putF_ne hxk] at hx
          obtain ⟨e, he, hek⟩ := hfx x v hx
          exact List.mem_map.2 ⟨e, he, hek⟩
      rw [← hkeys] at hmem
      obtain ⟨e, he, hek⟩ := List.mem_map.1 hmem
      rw [hlist]
      exact ⟨e, he, hek⟩

end

/-- The look-up at the operation. -/
theorem wp_lookup_of {P : Program} (w : World) {ops : Array Oper} {rest : List Oper} {o : Oper} {a : Act} {Q : Exit → Act → World → Prop}
    (hg : o.guard = none) (m x : Operand) (t : TypeId) (ok : Bool) (hop : o.op = Op.lookup t m x ok)
    (k e : TypeId) (K : Keyed P k) (ht : P.underlying t = some (.map k e)) (z : Value) (hz : (zeroValue e).run P w = .ok z w) (b n : Nat) (f : Value → Option Value)
    (hm : a.eval m = .map (some b)) (h : MapOf w P k b n f) (key : Value) (kl : Lit) (hx : a.eval x = key) (hkey : keyOf P k key = some kl)
    (hK : wpList P ops Q rest (a.put o.dst (if ok then .tuple #[(f key).getD z, .bool (f key).isSome] else (f key).getD z)) w) :
    wpList P ops Q (o :: rest) a w := by
  refine wpList_plain hg fun K' hK' => ?_
  have hrun := h.lookup K ht hz hkey ok
  unfold Oper.wp
  simp [execOp, hop, hm, hx, hrun, Result.andThen]
  exact hK' _ _ (by simpa using hK)

/-- The store at the operation. -/
theorem wp_store_of {P : Program} (w : World) {ops : Array Oper} {rest : List Oper} {o : Oper} {a : Act} {Q : Exit → Act → World → Prop}
    (hg : o.guard = none) (m x v : Operand) (t : TypeId) (hop : o.op = Op.mapUpdate t m x v)
    (k e : TypeId) (K : Keyed P k) (ht : P.underlying t = some (.map k e)) (b n : Nat) (f : Value → Option Value)
    (hm : a.eval m = .map (some b)) (h : MapOf w P k b n f) (key val : Value) (kl : Lit) (hx : a.eval x = key) (hv : a.eval v = val) (hkey : keyOf P k key = some kl)
    (hK : ∀ w', MapOf w' P k b (n + 1) (putF f key val) → w.grownBy w' (some b) → wpList P ops Q rest (a.put o.dst undef) w') :
    wpList P ops Q (o :: rest) a w := by
  refine wpList_plain hg fun K' hK' => ?_
  obtain ⟨w', hrun, r1, r2⟩ := h.update (val := val) K ht hkey
  unfold Oper.wp
  simp [execOp, hop, hm, hx, hv, hrun, Result.andThen]
  exact hK' _ _ (hK w' r1 r2)

/-- The entry of a literal at the operation. -/
theorem wp_insert_of {P : Program} (w : World) {ops : Array Oper} {rest : List Oper} {o : Oper} {a : Act} {Q : Exit → Act → World → Prop}
    (hg : o.guard = none) (m x v : Operand) (t : TypeId) (hop : o.op = Op.insert t m x v)
    (k e : TypeId) (K : Keyed P k) (ht : P.underlying t = some (.map k e)) (b n : Nat) (f : Value → Option Value)
    (hm : a.eval m = .map (some b)) (h : MapOf w P k b n f) (key val : Value) (kl : Lit) (hx : a.eval x = key) (hv : a.eval v = val) (hkey : keyOf P k key = some kl)
    (hK : ∀ w', MapOf w' P k b (n + 1) (putF f key val) → w.grownBy w' (some b) → wpList P ops Q rest (a.put o.dst undef) w') :
    wpList P ops Q (o :: rest) a w := by
  refine wpList_plain hg fun K' hK' => ?_
  obtain ⟨w', hrun, r1, r2⟩ := h.update (val := val) K ht hkey
  unfold Oper.wp
  simp [execOp, hop, hm, hx, hv, hrun, Result.andThen]
  exact hK' _ _ (hK w' r1 r2)

/-- The store as one step of a region that draws its order. -/
theorem step_store_of {P : Program} (w : World) {ops : Array Oper} {o : Oper} {a : Act} {K : Act → World → Prop} {Q : Exit → Act → World → Prop} {E : Prop}
    (hg : o.guard = none) (m x v : Operand) (t : TypeId) (hop : o.op = Op.mapUpdate t m x v)
    (k e : TypeId) (Kd : Keyed P k) (ht : P.underlying t = some (.map k e)) (b n : Nat) (f : Value → Option Value)
    (hm : a.eval m = .map (some b)) (h : MapOf w P k b n f) (key val : Value) (kl : Lit) (hx : a.eval x = key) (hv : a.eval v = val) (hkey : keyOf P k key = some kl)
    (hK : ∀ w', MapOf w' P k b (n + 1) (putF f key val) → w.grownBy w' (some b) → K (a.put o.dst undef) w') :
    if Region.wanted o (yielded ops a.tmps) = true then Oper.wp P o a w K Q else E := by
  have hw : Region.wanted o (yielded ops a.tmps) = true := by simp [Region.wanted, hg]
  rw [if_pos hw]
  obtain ⟨w', hrun, r1, r2⟩ := h.update (val := val) Kd ht hkey
  unfold Oper.wp
  simp [execOp, hop, hm, hx, hv, hrun, Result.andThen]
  exact hK w' r1 r2

end Go.Proofs.YtcophfhnhlaonaaDoor
