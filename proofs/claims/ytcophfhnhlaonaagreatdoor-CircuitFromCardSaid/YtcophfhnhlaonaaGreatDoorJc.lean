/-
  Joined from Mp, Cih, Cii: see there.
-/
import Derived.Test.YtcophfhnhlaonaaGreatDoorChecked
import Derived.Maps.OwnOps
import Derived.WalkKit
import Derived.Test.YtcophfhnhlaonaaGreatDoorJb
import Derived.Test.YtcophfhnhlaonaaGreatDoorUk
import Derived.DeepKeys5
import Derived.Deep.AppendLies
import Derived.Deep.RegionLaw
namespace Go.Proofs.YtcophfhnhlaonaaGreatDoor
set_option linter.unusedVariables false
open Go.Maps (Keyed)
open Go.ChangeMaps (setBlock)
open Go.ChangeMaps (heap_setBlock_same heap_setBlock_other)

/-- Block b is a map of at most n entries, whose keys of type k have the elements that f tells. -/
structure MapOf (w : World) (P : Program) (k : TypeId) (b n : Nat) (f : Value → Option Value) : Prop where
  has : ∃ es clock, w.heap[b]? = some (.map es clock) ∧ es.size ≤ n ∧ es.toList.Pairwise (fun x y => x.key ≠ y.key) ∧ (∀ e ∈ es.toList, (∃ l, keyOf P k e.key = some l) ∧ f e.key = some e.val) ∧
    ∀ x v, f x = some v → ∃ e ∈ es.toList, e.key = x

open Classical in
/-- The function behind a store. -/
noncomputable def putF (f : Value → Option Value) (x v : Value) (y : Value) : Option Value := if y = x then some v else f y

theorem putF_self (f : Value → Option Value) (x v : Value) : putF f x v x = some v := by simp [putF]
theorem putF_ne {f : Value → Option Value} {x v y : Value} (h : y ≠ x) : putF f x v y = f y := by simp [putF, h]

theorem MapOf.made (w : World) (P : Program) (k : TypeId) : MapOf (w.alloc (.map #[] 0)) P k w.heap.size 0 (fun _ => none) :=
  ⟨⟨#[], 0, (MapKept.heap_alloc w _).1, Nat.le_refl _, by simp, by simp, by simp⟩⟩

section
variable {w : World} {P : Program} {k : TypeId} {b n : Nat} {f : Value → Option Value}

theorem MapOf.lt (h : MapOf w P k b n f) : b < w.heap.size := by
  obtain ⟨es, clock, hb, _⟩ := h.has
  exact (Array.getElem?_eq_some_iff.1 hb).1

theorem MapOf.mono (h : MapOf w P k b n f) {n' : Nat} (hn : n ≤ n') : MapOf w P k b n' f := by
  obtain ⟨es, clock, hb, hs, r⟩ := h.has
  exact ⟨es, clock, hb, Nat.le_trans hs hn, r⟩

theorem MapOf.block (h : MapOf w P k b n f) {w' : World} (hb : w'.heap[b]? = w.heap[b]?) : MapOf w' P k b n f := by
  obtain ⟨es, clock, hb', r⟩ := h.has
  exact ⟨es, clock, hb.trans hb', r⟩

theorem MapOf.kept {w' : World} {row : Option Nat} (h : MapOf w P k b n f) (hg : w.grownBy w' row) (hne : some b ≠ row) : MapOf w' P k b n f :=
  h.block (hg.block b h.lt hne)

theorem MapOf.alloc (h : MapOf w P k b n f) (o : Obj) : MapOf (w.alloc o) P k b n f := h.kept (World.grownBy_alloc w o none) (by simp)

theorem MapOf.congr (h : MapOf w P k b n f) {g : Value → Option Value} (hg : ∀ x, f x = g x) : MapOf w P k b n g := by
  have : f = g := funext hg
  exact this ▸ h

/-- A look-up turns no world. -/
theorem MapOf.lookup {t e : TypeId} (h : MapOf w P k b n f) (K : Keyed P k) (ht : P.underlying t = some (.map k e)) {z : Value} (hz : (zeroValue e).run P w = .ok z w) {key : Value} {kl : Lit} (hkey : keyOf P k key = some kl) (ok : Bool) :
    (Instr.lookup t (.map (some b)) key ok).run P w = .ok (if ok then .tuple #[(f key).getD z, .bool (f key).isSome] else (f key).getD z) w := by
  obtain ⟨es, clock, hb, hs, hp, hf, hfx⟩ := h.has
  rcases K.find w hkey es.toList (fun e he => (hf e he).1) with ⟨h1, h2⟩ | ⟨j, e0, h1, h2, h3⟩
  · have hn : f key = none := by
      cases hk : f key with
      | none => rfl
      | some v => obtain ⟨e, he, hek⟩ := hfx key v hk; exact absurd hek (h2 e he)
    simp [Instr.lookup, run_underlying ht, MapKept.run_getObj_map hb, K.check w _ hkey, h1, hz, hn, Result.andThen]
  · have hm : e0 ∈ es.toList := List.mem_of_getElem? h2
    have hv : f key = some e0.val := by rw [← h3]; exact (hf e0 hm).2
    simp [Instr.lookup, run_underlying ht, MapKept.run_getObj_map hb, K.check w _ hkey, h1, hv, Result.andThen]

/-- A store: some world in which the block has the new element; no other block has turned. -/
theorem MapOf.update {t e : TypeId} (h : MapOf w P k b n f) (K : Keyed P k) (ht : P.underlying t = some (.map k e)) {key val : Value} {kl : Lit} (hkey : keyOf P k key = some kl) :
    ∃ w', (Instr.mapUpdate t (.map (some b)) key val).run P w = .ok () w' ∧ MapOf w' P k b (n + 1) (putF f key val) ∧ w.grownBy w' (some b) := by
  obtain ⟨es, clock, hb, hs, hp, hf, hfx⟩ := h.has
  have grown : ∀ es' clock', w.grownBy (setBlock w b (.map es' clock')) (some b) := fun es' clock' =>
    ⟨rfl, rfl, rfl, by simp [setBlock], fun i _ hi => heap_setBlock_other hb _ (fun e => hi (by rw [e]))⟩
  rcases K.find w hkey es.toList (fun e he => (hf e he).1) with ⟨h1, h2⟩ | ⟨j, e0, h1, h2, h3⟩
  · refine ⟨setBlock w b (.map (es.push ⟨key, val, clock⟩) (clock + 1)), ?_, ⟨_, _, heap_setBlock_same hb _, by simp; omega, ?_, ?_, ?_⟩, grown _ _⟩
    · simp [Instr.mapUpdate, run_underlying ht, MapKept.run_getObj_map hb, K.check w false hkey, h1, MapKept.run_setObj_map _ hb, Result.andThen, setBlock]
    · rw [Array.toList_push, List.pairwise_append]
      refine ⟨hp, by simp, fun x hx y hy => ?_⟩
      simp at hy
      subst hy
      exact h2 x hx
    · intro x hx
      simp only [Array.toList_push, List.mem_append, List.mem_singleton] at hx
      rcases hx with hx | rfl
      · exact ⟨(hf x hx).1, by rw [putF_ne (h2 x hx)]; exact (hf x hx).2⟩
      · exact ⟨⟨kl, hkey⟩, putF_self _ _ _⟩
    · intro x v hx
      by_cases hxk : x = key
      · exact ⟨⟨key, val, clock⟩, by simp, hxk.symm⟩
      · rw [putF_ne hxk] at hx
        obtain ⟨e, he, hek⟩ := hfx x v hx
        exact ⟨e, by simp; exact Or.inl (by simpa using he), hek⟩
  · have hj : es[j]? = some e0 := by simpa using h2
    have hlist : (es.modify j (fun e' => { e' with key := key, val := val })).toList = es.toList.set j { e0 with key := key, val := val } := by
      rw [Array.toList_modify, ChangeMaps.modify_eq_set _ _ _ _ h2]
    have hjl : j < es.toList.length := (List.getElem?_eq_some_iff.1 h2).1
    have hkeys : (es.toList.set j { e0 with key := key, val := val }).map (·.key) = es.toList.map (·.key) := by
      rw [List.map_set]
      apply List.ext_getElem?
      intro i
      rw [List.getElem?_set]
      split
      · rename_i e; subst e; simp [h2, h3]; omega
      · rfl
    refine ⟨setBlock w b (.map (es.modify j (fun e' => { e' with key := key, val := val })) clock), ?_, ⟨_, _, heap_setBlock_same hb _, by simp; omega, ?_, ?_, ?_⟩, grown _ _⟩
    · simp [Instr.mapUpdate, run_underlying ht, MapKept.run_getObj_map hb, K.check w false hkey, h1, hj, h3, K.stays w hkey, MapKept.run_setObj_map _ hb, Result.andThen, setBlock]
    · rw [hlist]
      have : ((es.toList.set j { e0 with key := key, val := val }).map (·.key)).Pairwise (· ≠ ·) := by
        rw [hkeys, List.pairwise_map]; exact hp
      exact List.pairwise_map.1 this
    · intro x hx
      rw [hlist] at hx
      obtain ⟨i, hi, ex⟩ := List.getElem_of_mem hx
      rw [List.getElem_set] at ex
      split at ex
      · subst ex; exact ⟨⟨kl, hkey⟩, putF_self _ _ _⟩
      · rename_i hne
        have hi' : i < es.toList.length := by simpa using hi
        have hm : x ∈ es.toList := ex ▸ List.getElem_mem hi'
        refine ⟨(hf x hm).1, ?_⟩
        rw [putF_ne]
        · exact (hf x hm).2
        · intro hk
          have h2' : es.toList[j] = e0 := (List.getElem?_eq_some_iff.1 h2).2
          rcases Nat.lt_or_gt_of_ne hne with hlt | hlt
          · have := List.pairwise_iff_getElem.1 hp j i hjl hi' hlt
            rw [h2', ex] at this
            exact this (h3.trans hk.symm)
          · have := List.pairwise_iff_getElem.1 hp i j hi' hjl hlt
            rw [h2', ex] at this
            exact this (hk.trans h3.symm)
    · intro x v hx
      have hmem : x ∈ es.toList.map (·.key) := by
        by_cases hxk : x = key
        · subst hxk; exact List.mem_map.2 ⟨e0, List.mem_of_getElem? h2, h3⟩
        · rw [putF_ne hxk] at hx
          obtain ⟨e, he, hek⟩ := hfx x v hx
          exact List.mem_map.2 ⟨e, he, hek⟩
      rw [← hkeys] at hmem
      obtain ⟨e, he, hek⟩ := List.mem_map.1 hmem
      rw [hlist]
      exact ⟨e, he, hek⟩

end

/-- The look-up at the operation. -/
theorem wp_lookup_of {P : Program} (w : World) {ops : Array Oper} {rest : List Oper} {o : Oper} {a : Act} {Q : Exit → Act → World → Prop}
    (hg : o.guard = none) (m x : Operand) (t : TypeId) (ok : Bool) (hop : o.op = Op.lookup t m x ok)
    (k e : TypeId) (K : Keyed P k) (ht : P.underlying t = some (.map k e)) (z : Value) (hz : (zeroValue e).run P w = .ok z w) (b n : Nat) (f : Value → Option Value)
    (hm : a.eval m = .map (some b)) (h : MapOf w P k b n f) (key : Value) (kl : Lit) (hx : a.eval x = key) (hkey : keyOf P k key = some kl)
    (hK : wpList P ops Q rest (a.put o.dst (if ok then .tuple #[(f key).getD z, .bool (f key).isSome] else (f key).getD z)) w) :
    wpList P ops Q (o :: rest) a w := by
  refine wpList_plain hg fun K' hK' => ?_
  have hrun := h.lookup K ht hz hkey ok
  unfold Oper.wp
  simp [execOp, hop, hm, hx, hrun, Result.andThen]
  exact hK' _ _ (by simpa using hK)

/-- The store at the operation. -/
theorem wp_store_of {P : Program} (w : World) {ops : Array Oper} {rest : List Oper} {o : Oper} {a : Act} {Q : Exit → Act → World → Prop}
    (hg : o.guard = none) (m x v : Operand) (t : TypeId) (hop : o.op = Op.mapUpdate t m x v)
    (k e : TypeId) (K : Keyed P k) (ht : P.underlying t = some (.map k e)) (b n : Nat) (f : Value → Option Value)
    (hm : a.eval m = .map (some b)) (h : MapOf w P k b n f) (key val : Value) (kl : Lit) (hx : a.eval x = key) (hv : a.eval v = val) (hkey : keyOf P k key = some kl)
    (hK : ∀ w', MapOf w' P k b (n + 1) (putF f key val) → w.grownBy w' (some b) → wpList P ops Q rest (a.put o.dst undef) w') :
    wpList P ops Q (o :: rest) a w := by
  refine wpList_plain hg fun K' hK' => ?_
  obtain ⟨w', hrun, r1, r2⟩ := h.update (val := val) K ht hkey
  unfold Oper.wp
  simp [execOp, hop, hm, hx, hv, hrun, Result.andThen]
  exact hK' _ _ (hK w' r1 r2)

/-- The entry of a literal at the operation. -/
theorem wp_insert_of {P : Program} (w : World) {ops : Array Oper} {rest : List Oper} {o : Oper} {a : Act} {Q : Exit → Act → World → Prop}
    (hg : o.guard = none) (m x v : Operand) (t : TypeId) (hop : o.op = Op.insert t m x v)
    (k e : TypeId) (K : Keyed P k) (ht : P.underlying t = some (.map k e)) (b n : Nat) (f : Value → Option Value)
    (hm : a.eval m = .map (some b)) (h : MapOf w P k b n f) (key val : Value) (kl : Lit) (hx : a.eval x = key) (hv : a.eval v = val) (hkey : keyOf P k key = some kl)
    (hK : ∀ w', MapOf w' P k b (n + 1) (putF f key val) → w.grownBy w' (some b) → wpList P ops Q rest (a.put o.dst undef) w') :
    wpList P ops Q (o :: rest) a w := by
  refine wpList_plain hg fun K' hK' => ?_
  obtain ⟨w', hrun, r1, r2⟩ := h.update (val := val) K ht hkey
  unfold Oper.wp
  simp [execOp, hop, hm, hx, hv, hrun, Result.andThen]
  exact hK' _ _ (hK w' r1 r2)

/-- The store as one step of a region that draws its order. -/
theorem step_store_of {P : Program} (w : World) {ops : Array Oper} {o : Oper} {a : Act} {K : Act → World → Prop} {Q : Exit → Act → World → Prop} {E : Prop}
    (hg : o.guard = none) (m x v : Operand) (t : TypeId) (hop : o.op = Op.mapUpdate t m x v)
    (k e : TypeId) (Kd : Keyed P k) (ht : P.underlying t = some (.map k e)) (b n : Nat) (f : Value → Option Value)
    (hm : a.eval m = .map (some b)) (h : MapOf w P k b n f) (key val : Value) (kl : Lit) (hx : a.eval x = key) (hv : a.eval v = val) (hkey : keyOf P k key = some kl)
    (hK : ∀ w', MapOf w' P k b (n + 1) (putF f key val) → w.grownBy w' (some b) → K (a.put o.dst undef) w') :
    if Region.wanted o (yielded ops a.tmps) = true then Oper.wp P o a w K Q else E := by
  have hw : Region.wanted o (yielded ops a.tmps) = true := by simp [Region.wanted, hg]
  rw [if_pos hw]
  obtain ⟨w', hrun, r1, r2⟩ := h.update (val := val) Kd ht hkey
  unfold Oper.wp
  simp [execOp, hop, hm, hx, hv, hrun, Result.andThen]
  exact hK w' r1 r2

end Go.Proofs.YtcophfhnhlaonaaGreatDoor
namespace Go.Proofs.YtcophfhnhlaonaaGreatDoor
set_option linter.unusedVariables false
open Go.RowKit

instance : DecidableEq Gat := fun a b =>
  if h : a.k = b.k ∧ a.n = b.n ∧ a.ks = b.ks then isTrue (by cases a; cases b; simp only at h; rw [h.1, h.2.1, h.2.2]) else isFalse (fun e => h (by rw [e]; exact ⟨rfl, rfl, rfl⟩))
/-- The list with a gate, and where the gate is. -/
def addOne (gs : List Gat) (g : Gat) : List Gat × Nat :=
  match gs.findIdx? (fun x => decide (x = g)) with
  | some i => (gs, i)
  | none => (gs ++ [g], gs.length)
def keyA (g : Gat) : Int := g.ks[0]?.getD (-1)
def keyS (g : Gat) : Int := g.ks[1]?.getD (-1)
def keyG (g : Gat) : Value := .agg #[.int .i64 g.k, .int .i64 g.n, .int .i64 (keyA g), .int .i64 (keyS g)]
/-- What a gate that is merged keeps to. -/
def GK (g : Gat) : Prop := 0 ≤ g.k ∧ g.k ≤ 5 ∧ 0 ≤ g.n ∧ g.n ≤ 65536 ∧ g.ks.length ≤ 2 ∧ ∀ x ∈ g.ks, 0 ≤ x ∧ x ≤ 1048576
theorem GK.shape {g : Gat} (h : GK g) : g.ks = [] ∨ (∃ a, g.ks = [a] ∧ 0 ≤ a ∧ a ≤ 1048576) ∨ ∃ a b, g.ks = [a, b] ∧ 0 ≤ a ∧ a ≤ 1048576 ∧ 0 ≤ b ∧ b ≤ 1048576 := by
  obtain ⟨_, _, _, _, hl, hx⟩ := h
  match hk : g.ks with
  | [] => exact .inl rfl
  | [a] => rw [hk] at hx; have := hx a (by simp); exact .inr (.inl ⟨a, rfl, this⟩)
  | [a, b] => rw [hk] at hx; have h1 := hx a (by simp); have h2 := hx b (by simp); exact .inr (.inr ⟨a, b, rfl, h1.1, h1.2, h2.1, h2.2⟩)
  | a :: b :: c :: l => rw [hk] at hl; simp at hl
theorem keyG_inj {g h : Gat} (hg : GK g) (hh : GK h) (e : keyG g = keyG h) : g = h := by
  obtain ⟨k, n, ks⟩ := g
  obtain ⟨k', n', ks'⟩ := h
  simp only [keyG, Value.agg.injEq, Array.mk.injEq, List.cons.injEq, Value.int.injEq, true_and, and_true] at e
  obtain ⟨rfl, rfl, e1, e2⟩ := e
  have hks : ks = ks' := by
    rcases hg.shape with h | ⟨a, h, _, _⟩ | ⟨a, b, h, _, _, _, _⟩ <;> rcases hh.shape with h' | ⟨a', h', _, _⟩ | ⟨a', b', h', _, _, _, _⟩ <;> (
      dsimp only at h h'
      subst h
      subst h'
      simp [keyA, keyS] at e1 e2
      first
        | rfl
        | omega
        | (rw [e1, e2]; done)
        | (rw [e1]; done))
  rw [hks]
theorem findIdx_same {p q : Gat → Bool} : ∀ gs : List Gat, (∀ x ∈ gs, p x = q x) → gs.findIdx? p = gs.findIdx? q
  | [], _ => rfl
  | x :: xs, h => by
    rw [List.findIdx?_cons, List.findIdx?_cons, h x (by simp), findIdx_same xs (fun y hy => h y (by simp [hy]))]
open Classical in
/-- The map of a merger, as a function. -/
noncomputable def mapG (gs : List Gat) (x : Value) : Option Value := (gs.findIdx? (fun g => decide (keyG g = x))).map fun i => .int .i64 ((i : Nat) : Int)
open Classical in
theorem mapG_key {gs : List Gat} {g : Gat} (hgs : ∀ x ∈ gs, GK x) (hg : GK g) : mapG gs (keyG g) = (gs.findIdx? (fun x => decide (x = g))).map fun i => .int .i64 ((i : Nat) : Int) := by
  unfold mapG
  rw [findIdx_same gs (p := fun x => decide (keyG x = keyG g)) (q := fun x => decide (x = g)) (fun x hx => by
    by_cases h : x = g
    · subst h; simp
    · simp [h]; exact fun e => h (keyG_inj (hgs x hx) hg e))]
open Classical in
theorem mapG_put {gs : List Gat} {g : Gat} (hgs : ∀ x ∈ gs, GK x) (hg : GK g) (hn : gs.findIdx? (fun x => decide (x = g)) = none) (x : Value) : putF (mapG gs) (keyG g) (.int .i64 ((gs.length : Nat) : Int)) x = mapG (gs ++ [g]) x := by
  unfold putF
  by_cases h : x = keyG g
  · subst h
    rw [if_pos rfl, mapG_key (fun y hy => by simp at hy; rcases hy with hy | rfl; exact hgs y hy; exact hg) hg, List.findIdx?_append, hn]
    simp
  · rw [if_neg h]
    unfold mapG
    rw [List.findIdx?_append]
    have : ([g].findIdx? fun y => decide (keyG y = x)) = none := by simp; exact fun e => h e.symm
    rw [this]
    simp
open Classical in
theorem mapG_nil (x : Value) : mapG [] x = none := rfl

theorem Tryz.laidOutC : laidOutB Tryz.prog = true := by kernel_rfl
theorem keyC_keyed : Go.Maps.Keyed Tryz.prog 121 :=
  .of_law (deep_law_gate Tryz.laidOutC (by decide +kernel) (by decide +kernel) (by kernel_rfl) (by kernel_rfl))
theorem keyC_type : Tryz.prog.keyType 121 = true := by kernel_rfl
theorem keyC_cells : Tryz.prog.cellsOf 121 = 4 := by kernel_rfl
theorem intC_cells : Tryz.prog.cellsOf 3 = 1 := by kernel_rfl
theorem keyC_reads {g : Gat} (hg : GK g) : ∃ kl, keyOf Tryz.prog 121 (keyG g) = some kl := by
  have wf : ∀ z : Int, -1 ≤ z → z ≤ 1048576 → (Lit.int .i64 z).wf = true := fun z h1 h2 => WalkArith.wf_i64 (by omega)
  have hA : -1 ≤ keyA g ∧ keyA g ≤ 1048576 ∧ -1 ≤ keyS g ∧ keyS g ≤ 1048576 := by
    unfold keyA keyS
    rcases hg.shape with h | ⟨a, h, _, _⟩ | ⟨a, b, h, _, _, _, _⟩ <;> rw [h] <;> simp <;> omega
  obtain ⟨h1, h2, h3, h4, _⟩ := hg
  obtain ⟨a1, a2, a3, a4⟩ := hA
  have w0 := wf g.k (by omega) (by omega); have w1 := wf g.n (by omega) (by omega); have w2 := wf (keyA g) a1 a2; have w3 := wf (keyS g) a3 a4
  have e1 : ∀ d (z : Int), (Lit.int .i64 z).wf = true → Tryz.prog.keyLits (d + 1) 3 [.int .i64 z] = some [.int .i64 z] := fun d z hz => by simp [Program.keyLits, Tryz.underlying3, hz]
  have hs : ∃ m, Tryz.prog.types.size + 1 = m + 1 + 1 := ⟨Tryz.prog.types.size - 1, by decide +kernel⟩
  obtain ⟨m, hm⟩ := hs
  unfold keyOf
  rw [Tryz.underlying121]
  simp only [keyC_type, keyG, hm]
  unfold Program.keyLits
  rw [Tryz.underlying121]
  simp [Value.formed, Tryz.underlying121, keyC_cells, intC_cells, e1, Value.cells, w0, w1, w2, w3]

/-- The kids of a gate that stand: none, a row that lay below B, or a block of ints. -/
def KdV (B : Nat) (W : World) (v : Value) (ks : List Int) : Prop :=
  (ks = [] ∧ ∃ A c, v = .slice A 0 c) ∨ ∃ b off cap, v = .slice (some ⟨b, off, none⟩) ks.length cap ∧ b < W.heap.size ∧ (∀ j x, ks[j]? = some x → W.cell? ⟨b, off + j, none⟩ = some (.int .i64 x)) ∧ (b < B ∨ ∃ cs, W.heap[b]? = some (.cells cs 3 (0, 0)))
theorem KdV.keep {B : Nat} {W W' : World} {v : Value} {ks : List Int} (h : KdV B W v ks) (hB : Below B W W') (hk : ∀ (k : Nat) (cs : Array Value), W.heap[k]? = some (Obj.cells cs 3 (0, 0)) → W'.heap[k]? = W.heap[k]?) : KdV B W' v ks := by
  rcases h with h | ⟨b, off, cap, rfl, hb, hr, hw⟩
  · exact .inl h
  · have hblk : W'.heap[b]? = W.heap[b]? := by
      rcases hw with h | ⟨cs, h⟩
      · exact hB.block b h
      · exact hk b cs h
    exact .inr ⟨b, off, cap, rfl, Nat.lt_of_lt_of_le hb hB.size, fun j x hj => (World.cell?_of_block (w := W) (w' := W') (a := ⟨b, off + j, none⟩) hblk).trans (hr j x hj), hw.imp id fun ⟨cs, h⟩ => ⟨cs, hblk.trans h⟩⟩
theorem KdV.below {B : Nat} {W W' : World} {v : Value} {ks : List Int} (h : KdV B W v ks) (hB : Below W.heap.size W W') (hle : B ≤ W.heap.size) : KdV B W' v ks :=
  h.keep (hB.mono hle) fun k cs hk => hB.block k (Array.getElem?_eq_some_iff.1 hk).1
theorem KdV.reads {B : Nat} {W : World} {v : Value} {ks : List Int} (h : KdV B W v ks) (hl : ks.length ≤ 1000) : SlR W v ks := by
  rcases h with ⟨rfl, A, c, rfl⟩ | ⟨b, off, cap, rfl, _, hr, _⟩
  · exact ⟨A, c, rfl, RdI.nil _ _, by simp⟩
  · exact ⟨_, cap, rfl, fun j x hj => ⟨_, rfl, by rw [add_none]; exact hr j x hj⟩, by omega⟩

def flatG (L : List (Gat × Value)) : List Value := L.flatMap fun x => [.int .i64 x.1.k, .int .i64 x.1.n, x.2]
theorem flatG_length (L : List (Gat × Value)) : (flatG L).length = L.length * 3 := by
  induction L with
  | nil => rfl
  | cons x l ih => simp [flatG] at ih ⊢; omega
theorem flatG_at : ∀ (L : List (Gat × Value)) (k : Nat) (x : Gat × Value), L[k]? = some x → (flatG L)[k * 3]? = some (.int .i64 x.1.k) ∧ (flatG L)[k * 3 + 1]? = some (.int .i64 x.1.n) ∧ (flatG L)[k * 3 + 2]? = some x.2
  | [], k, x, h => by simp at h
  | y :: l, 0, x, h => by
    simp at h
    subst h
    simp [flatG]
  | y :: l, k + 1, x, h => by
    have := flatG_at l k x (by simpa using h)
    rw [show (k + 1) * 3 = k * 3 + 1 + 1 + 1 by omega]
    simpa [flatG] using this

/-- What a merger may turn: its block, its map, rows of gates that are not older than B. -/
structure FrM (B q mb : Nat) (W W' : World) : Prop where
  bel : Below B W W'
  rest : ∀ (b : Nat) (o : Obj), W.heap[b]? = some o → b ≠ q → b ≠ mb → (∀ cs : Array Value, o ≠ .cells cs 78 (0, 0)) → W'.heap[b]? = some o
theorem FrM.refl (B q mb : Nat) (W : World) : FrM B q mb W W := ⟨Below.refl _ _, fun _ _ h _ _ _ => h⟩
theorem FrM.trans {B q mb : Nat} {a b c : World} (h : FrM B q mb a b) (k : FrM B q mb b c) : FrM B q mb a c := ⟨h.bel.trans k.bel, fun x o ho h1 h2 h3 => k.rest x o (h.rest x o ho h1 h2 h3) h1 h2 h3⟩
theorem FrM.of_below {B q mb : Nat} {a b : World} (h : Below a.heap.size a b) (hB : B ≤ a.heap.size) : FrM B q mb a b := ⟨h.mono hB, fun x o ho _ _ _ => (h.block x (Array.getElem?_eq_some_iff.1 ho).1).trans ho⟩

/-- The state of a merger at q whose map is mb. -/
structure Mg (B q mb : Nat) (W : World) (L : List (Gat × Value)) : Prop where
  le : B ≤ q
  leM : B ≤ mb
  blk : ∃ lv, W.heap[q]? = some (.cells #[lv, .map (some mb)] 74 (0, 0)) ∧ W.ownsRow B 78 3 lv L.length (flatG L)
  map : MapOf W Tryz.prog 121 mb L.length (mapG (L.map Prod.fst))
  els : ∀ x ∈ L, KdV B W x.2 x.1.ks ∧ GK x.1
theorem Mg.lt {B q mb : Nat} {W : World} {L : List (Gat × Value)} (h : Mg B q mb W L) : q < W.heap.size := by
  obtain ⟨lv, h1, _⟩ := h.blk
  exact (Array.getElem?_eq_some_iff.1 h1).1
theorem Mg.below {B q mb : Nat} {W W' : World} {L : List (Gat × Value)} (h : Mg B q mb W L) (hB : Below W.heap.size W W') : Mg B q mb W' L := by
  obtain ⟨lv, h1, h2⟩ := h.blk
  have := h.lt
  have := h.le
  exact ⟨h.le, h.leM, ⟨lv, (hB.block q h.lt).trans h1, ownsRow_below h2 hB⟩, h.map.block (hB.block _ h.map.lt), fun x hx => ⟨(h.els x hx).1.below hB (by omega), (h.els x hx).2⟩⟩
theorem Mg.drew {B q mb : Nat} {W : World} {L : List (Gat × Value)} (h : Mg B q mb W L) : Mg B q mb W.drew L := h.below (Below.refl _ W).drew
theorem row_not_map {W : World} {base : Nat} {e : TypeId} {size k b : Nat} {v : Value} {xs : List Value} {es : Array MapEntry} {c : Nat} (hr : W.ownsRow base e size v k xs) (hm : W.heap[b]? = some (.map es c)) : v.ownBlock ≠ some b := by
  intro e'
  rcases hr.2 with ⟨rfl, _⟩ | ⟨g, cap, cur, rfl, _, hgb, _⟩
  · simp [Value.ownBlock] at e'
  · simp [Value.ownBlock] at e'
    subst e'
    rw [hgb] at hm
    cases hm
theorem row_not_cells {W : World} {base : Nat} {e t : TypeId} {size k b : Nat} {v : Value} {xs : List Value} {cs : Array Value} (hr : W.ownsRow base e size v k xs) (hm : W.heap[b]? = some (.cells cs t (0, 0))) (ht : t ≠ e) : v.ownBlock ≠ some b := by
  intro e'
  rcases hr.2 with ⟨rfl, _⟩ | ⟨g, cap, cur, rfl, _, hgb, _⟩
  · simp [Value.ownBlock] at e'
  · simp [Value.ownBlock] at e'
    subst e'
    rw [hgb] at hm
    simp at hm
    exact ht hm.2.symm

/-- Behind the append and the store of the list: the map lacks the gate still. -/
theorem Mg.pushed {B q mb : Nat} {W w5 : World} {L : List (Gat × Value)} {g : Gat} {u lv v' : Value} {tmp : Obj} (h : Mg B q mb W L) (hlv : W.heap[q]? = some (.cells #[lv, .map (some mb)] 74 (0, 0))) (hrow : W.ownsRow B 78 3 lv L.length (flatG L)) (hg : GK g) (hu : KdV B W u g.ks)
    (hown : w5.ownsRow B 78 3 v' (L.length + 1) (flatG L ++ [.int .i64 g.k, .int .i64 g.n, u])) (hgrow : (W.alloc tmp).grownBy w5 lv.ownBlock) :
    w5.heap[q]? = some (.cells #[lv, .map (some mb)] 74 (0, 0)) ∧
    (w5.setCell ⟨q, 0, none⟩ v').heap[q]? = some (.cells #[v', .map (some mb)] 74 (0, 0)) ∧
    (w5.setCell ⟨q, 0, none⟩ v').ownsRow B 78 3 v' (L ++ [(g, u)]).length (flatG (L ++ [(g, u)])) ∧
    MapOf (w5.setCell ⟨q, 0, none⟩ v') Tryz.prog 121 mb L.length (mapG (L.map Prod.fst)) ∧
    (∀ x ∈ L ++ [(g, u)], KdV B (w5.setCell ⟨q, 0, none⟩ v') x.2 x.1.ks ∧ GK x.1) ∧ FrM B q mb W (w5.setCell ⟨q, 0, none⟩ v') ∧ W.heap.size < w5.heap.size := by
  have hq := h.lt
  have hle := h.le
  have hsz := hgrow.size
  simp at hsz
  have kept5 : ∀ (k : Nat) (o : Obj), W.heap[k]? = some o → lv.ownBlock ≠ some k → w5.heap[k]? = some o := fun k o hk hl => by
    have hlt := (Array.getElem?_eq_some_iff.1 hk).1
    rw [hgrow.block k (by simp; omega) (fun e => hl e.symm), Below.heap_alloc _ _ _ hlt]
    exact hk
  have hq5 := kept5 q _ hlv (row_not_cells hrow hlv (by decide))
  have kept : ∀ (k : Nat) (o : Obj), W.heap[k]? = some o → k ≠ q → lv.ownBlock ≠ some k → (w5.setCell ⟨q, 0, none⟩ v').heap[k]? = some o := fun k o hk hn hl => by
    rw [heap_setCell_other _ _ _ _ (by exact hn)]
    exact kept5 k o hk hl
  have hbel : Below B W (w5.setCell ⟨q, 0, none⟩ v') := by
    have h1 : Below B W w5 := ((Below.refl B W).alloc (by omega) tmp).grown hgrow (by simp; omega) (fun k e => (hrow.lt k e).1)
    exact h1.setCell hle _
  have hint : ∀ (k : Nat) (cs : Array Value), W.heap[k]? = some (Obj.cells cs 3 (0, 0)) → (w5.setCell ⟨q, 0, none⟩ v').heap[k]? = W.heap[k]? := fun k cs hk => by
    rw [hk]
    refine kept k _ hk (fun e => ?_) (row_not_cells hrow hk (by decide))
    subst e
    rw [hlv] at hk
    simp at hk
  obtain ⟨es, c, hm, hr⟩ := h.map.has
  have hmq : mb ≠ q := fun e => by rw [e, hlv] at hm; cases hm
  refine ⟨hq5, ?_, ?_, h.map.block ((kept mb _ hm hmq (row_not_map hrow hm)).trans hm.symm), ?_, ⟨hbel, fun b o ho h1 h2 h3 => ?_⟩, by omega⟩
  · have := heap_setCell_same w5 q 0 _ _ v' hq5
    rw [this]
    rfl
  · have hvq : v'.ownBlock ≠ some q := row_not_cells hown hq5 (by decide)
    have e1 : (L ++ [(g, u)]).length = L.length + 1 := by simp
    have e2 : flatG (L ++ [(g, u)]) = flatG L ++ [.int .i64 g.k, .int .i64 g.n, u] := by simp [flatG]
    rw [e1, e2]
    exact ownsRow_setCell_other hown hvq _
  · intro x hx
    simp only [List.mem_append, List.mem_singleton] at hx
    rcases hx with hx | rfl
    · exact ⟨(h.els x hx).1.keep hbel hint, (h.els x hx).2⟩
    · exact ⟨hu.keep hbel hint, hg⟩
  · refine kept b o ho h1 (fun e => ?_)
    rcases hrow.2 with ⟨rfl, _⟩ | ⟨g', cap, cur, rfl, _, hgb, _⟩
    · simp [Value.ownBlock] at e
    · simp [Value.ownBlock] at e
      subst e
      rw [hgb] at ho
      cases ho
      exact h3 _ rfl
/-- Behind the store into the map. -/
theorem Mg.mapped {B q mb : Nat} {w7 w8 : World} {L : List (Gat × Value)} {lv : Value} {nn : Nat} {f : Value → Option Value} (hle : B ≤ q) (hleM : B ≤ mb) (h1 : w7.heap[q]? = some (.cells #[lv, .map (some mb)] 74 (0, 0))) (h2 : w7.ownsRow B 78 3 lv L.length (flatG L))
    (h3 : MapOf w7 Tryz.prog 121 mb nn f) (h4 : ∀ x ∈ L, KdV B w7 x.2 x.1.ks ∧ GK x.1) (hm : MapOf w8 Tryz.prog 121 mb L.length (mapG (L.map Prod.fst))) (hg : w7.grownBy w8 (some mb)) : Mg B q mb w8 L ∧ FrM B q mb w7 w8 := by
  obtain ⟨es, c, hmb, _⟩ := h3.has
  have hmq : mb ≠ q := fun e => by rw [e, h1] at hmb; cases hmb
  have hB : Below B w7 w8 := by
    have hlt := (Array.getElem?_eq_some_iff.1 h1).1
    exact (Below.refl B w7).grown hg (by omega) (fun k e => by cases e; exact hleM)
  have hk : ∀ (k : Nat) (o : Obj), w7.heap[k]? = some o → k ≠ mb → w8.heap[k]? = some o := fun k o ho hn =>
    (hg.block k (Array.getElem?_eq_some_iff.1 ho).1 (fun e => hn (by cases e; rfl))).trans ho
  refine ⟨⟨hle, hleM, ⟨lv, hk q _ h1 (fun e => hmq e.symm), h2.kept hg (.inr (row_not_map h2 hmb))⟩, hm, fun x hx => ⟨(h4 x hx).1.keep hB (fun k cs hkc => (hk k _ hkc (fun e => by rw [e, hmb] at hkc; cases hkc)).trans hkc.symm), (h4 x hx).2⟩⟩, hB, fun b o ho _ h2 _ => hk b o ho h2⟩
end Go.Proofs.YtcophfhnhlaonaaGreatDoor
namespace Go.Proofs.YtcophfhnhlaonaaGreatDoor
set_option linter.unusedVariables false
open Go.RowKit

set_option maxHeartbeats 1000000 in
theorem newMerger_ok (w : World) :
    Calls Tryz.prog 43 #[] w fun e w' => e = .returned (.pointer (some ⟨w.heap.size + 1, 0, none⟩)) ∧ Mg w.heap.size (w.heap.size + 1) w.heap.size w' [] ∧ Below w.heap.size w w' := by
  have hm := MapOf.made w Tryz.prog 121
  have hb := (below1 w (.map #[] 0)).alloc (by simp) (.cells #[.slice none 0 0, .map (some w.heap.size)] 74)
  have hq : ((w.alloc (.map #[] 0)).alloc (.cells #[.slice none 0 0, .map (some w.heap.size)] 74)).heap[w.heap.size + 1]? = some (.cells #[.slice none 0 0, .map (some w.heap.size)] 74 (0, 0)) := alloc_at _ _ _ (by simp)
  have hM : Mg w.heap.size (w.heap.size + 1) w.heap.size ((w.alloc (.map #[] 0)).alloc (.cells #[.slice none 0 0, .map (some w.heap.size)] 74)) [] :=
    ⟨by omega, Nat.le_refl _, ⟨_, hq, World.ownsRow_nil _ _ _ _⟩, (hm.alloc _).congr (fun x => rfl), by simp⟩
  have HM := Lib.hid hM
  have HB := Lib.hid hb
  clear hm hb hq hM
  have hmm := @run_makeMap Tryz.prog
  go_enter Tryz.func43, Tryz.ntmps43
  go_wp2_with fail
  go_ret
  exact ⟨rfl, HM.out, HB.out⟩

theorem Tryz.infoG : (Tryz.prog.info? 78).map (fun i => (i.zero, i.size, i.bytes)) = some (some (.agg #[.int .i64 0, .int .i64 0, .slice none 0 0]), 3, 40) := by kernel_rfl
theorem three_new (w : World) (x y z : Value) (t : TypeId) : ∀ j u, [x, y, z][j]? = some u → (w.alloc (.cells #[x, y, z] t)).cell? ((⟨w.heap.size, 0, none⟩ : Addr).add j) = some u :=
  World.news_of_block (cs := #[x, y, z]) (alloc_at _ _ _ rfl)

set_option maxRecDepth 100000 in
set_option maxHeartbeats 8000000 in
theorem madd_ok (B q mb : Nat) (g : Gat) (u : Value) (L : List (Gat × Value)) (W : World) (hM : Mg B q mb W L) (hu : KdV B W u g.ks) (hg : GK g) (hL : L.length ≤ 100000) :
    Calls Tryz.prog 65 #[.pointer (some ⟨q, 0, none⟩), .agg #[.int .i64 g.k, .int .i64 g.n, u]] W fun e W' =>
      e = .returned (.int .i64 (((addOne (L.map Prod.fst) g).2 : Nat) : Int)) ∧ ∃ L', Mg B q mb W' L' ∧ L'.map Prod.fst = (addOne (L.map Prod.fst) g).1 ∧ (L' = L ∨ L' = L ++ [(g, u)]) ∧ FrM B q mb W W' := by
  have hKG : keyG g = .agg #[.int .i64 g.k, .int .i64 g.n, .int .i64 (keyA g), .int .i64 (keyS g)] := rfl
  have hkey := mapG_key (gs := L.map Prod.fst) (fun x hx => by obtain ⟨y, hy, rfl⟩ := List.mem_map.1 hx; exact (hM.els y hy).2) hg
  have HPUT := Lib.hid (mapG_put (gs := L.map Prod.fst) (g := g) (fun x hx => by obtain ⟨y, hy, rfl⟩ := List.mem_map.1 hx; exact (hM.els y hy).2) hg)
  obtain ⟨kl, hkl⟩ := keyC_reads hg
  have HKL := Lib.hid hkl
  have HMG := Lib.hid hM
  have HG := Lib.hid hg
  have HU := Lib.hid hu
  obtain ⟨i0, hi, hz0, hz1, hz2⟩ := info_parts Tryz.infoG
  have HI := Lib.hid (show Tryz.prog.info? 78 = some i0 ∧ i0.zero = some (.agg #[.int .i64 0, .int .i64 0, .slice none 0 0]) ∧ i0.size = 3 ∧ i0.bytes = 40 from ⟨hi, hz0, hz1, hz2⟩)
  have HBQ : Hid (B ≤ W.heap.size) := Lib.hid (by have := hM.le; have := hM.lt; omega)
  have hADD : addOne (L.map Prod.fst) g = match (L.map Prod.fst).findIdx? (fun x => decide (x = g)) with | some i => (L.map Prod.fst, i) | none => (L.map Prod.fst ++ [g], (L.map Prod.fst).length) := rfl
  have HADD := Lib.hid hADD
  have HKEY := Lib.hid hkey
  clear hADD hkey hkl
  have hsh := hg.shape
  obtain ⟨K, kc, rfl, hK, hKl⟩ := hu.reads (by have := hg.2.2.2.2.1; omega)
  clear hu hM hi hz0 hz1 hz2 hKl
  obtain ⟨k, n, ks⟩ := g
  dsimp only at *

  rcases hsh with rfl | ⟨a, rfl, ha0, ha1⟩ | ⟨a, b, rfl, ha0, ha1, hb0, hb1⟩
  · simp only [List.length_nil, List.length_cons, Nat.zero_add, Nat.reduceAdd] at HU ⊢
    obtain ⟨w5, hw5⟩ : ∃ w5, w5 = ((W.alloc (.cells #[.int .i64 k, .int .i64 n, .slice K 0 kc] 78)).alloc (.cells #[.int .i64 k, .int .i64 n, .int .i64 (-1), .int .i64 (-1)] 121)) := ⟨_, rfl⟩
    have HB5 : Hid (Below W.heap.size W w5) := Lib.hid (by rw [hw5]; exact below2 _ _ _)
    have HG5 : Hid (w5.heap[W.heap.size]? = some (.cells #[.int .i64 k, .int .i64 n, .slice K 0 kc] 78 (0, 0))) := Lib.hid (by rw [hw5, Below.heap_alloc _ _ _ (by simp)]; exact alloc_at _ _ _ rfl)
    have HK5 : Hid (w5.heap[W.heap.size + 1]? = some (.cells #[.int .i64 k, .int .i64 n, .int .i64 (-1), .int .i64 (-1)] 121 (0, 0))) := Lib.hid (by rw [hw5]; exact alloc_at _ _ _ (by simp))
    have HW5 := Lib.hid hw5
    clear hw5 hK
    go_enter Tryz.func65, Tryz.ntmps65
    go_upto_region 6 with fail
    rw [← HW5.out]
    have HM5 := Lib.hid (HMG.out.below HB5.out)
    obtain ⟨lv, hq5, hrow5⟩ := HM5.out.blk
    have HQ5 := Lib.hid hq5
    have HROW5 := Lib.hid hrow5
    have HU5 := Lib.hid (HU.out.below HB5.out HBQ.out)
    obtain ⟨⟨a0, a1⟩, b0, b1⟩ := blk2_cells hq5
    obtain ⟨⟨g0, g1, g2⟩, _⟩ := blk3_cells HG5.out
    obtain ⟨⟨k0, k1, k2, k3⟩, _⟩ := blk4_cells HK5.out
    have hlk := HM5.out.drew.map.lookup (t := 72) (e := 3) keyC_keyed Tryz.underlying72 (z := .int .i64 0) (by kernel_rfl) HKL.out true
    rw [HKEY.out, show keyG ⟨k, n, []⟩ = .agg #[.int .i64 k, .int .i64 n, .int .i64 (-1), .int .i64 (-1)] from rfl] at hlk
    simp only [if_true] at hlk
    clear hq5 hrow5
    cases hfi : (L.map Prod.fst).findIdx? (fun x => decide (x = ⟨k, n, []⟩)) with
    | some i =>
      rw [hfi] at hlk
      simp only [Option.map_some, Option.getD_some, Option.isSome_some] at hlk
      have HA : Hid (addOne (L.map Prod.fst) ⟨k, n, []⟩ = (L.map Prod.fst, i)) := Lib.hid (by rw [HADD.out, hfi])
      clear hfi
      go_wp2_with fail
      go_region
      go_wp2_with fail
      go_ret
      exact ⟨by rw [HA.out]; rfl, L, HM5.out.drew, by rw [HA.out], .inl rfl, FrM.of_below (HB5.out.drew) HBQ.out⟩
    | none =>
      rw [hfi] at hlk
      simp only [Option.map_none, Option.getD_none, Option.isSome_none] at hlk
      have HA : Hid (addOne (L.map Prod.fst) ⟨k, n, []⟩ = (L.map Prod.fst ++ [⟨k, n, []⟩], L.length)) := Lib.hid (by rw [HADD.out, hfi, List.length_map])
      have HP2 := Lib.hid (HPUT.out hfi)
      clear hfi
      obtain ⟨VA, VC, rfl⟩ : ∃ A c, lv = .slice A L.length c := by
        rcases HROW5.out.2 with ⟨rfl, h0⟩ | ⟨g, cap, cur, rfl, _⟩
        · exact ⟨none, 0, by rw [h0]⟩
        · exact ⟨_, _, rfl⟩
      go_wp2_with fail
      go_region
      go_upto_region 9 with fail
      have HM6 := Lib.hid HM5.out.drew
      have HQ6 : Hid (w5.drew.heap[q]? = some (.cells #[.slice VA L.length VC, .map (some mb)] 74 (0, 0))) := Lib.hid HQ5.out
      have HROW6 : Hid (w5.drew.ownsRow B 78 3 (.slice VA L.length VC) L.length (flatG L)) := Lib.hid HROW5.out.drew
      have HU6 := Lib.hid (HU5.out.below (Below.refl _ w5).drew (Nat.le_trans HBQ.out HB5.out.size))
      have HB6 := Lib.hid (HB5.out.drew)
      have HK6 : Hid (w5.drew.heap[W.heap.size + 1]? = some (.cells #[.int .i64 k, .int .i64 n, .int .i64 (-1), .int .i64 (-1)] 121 (0, 0))) := Lib.hid HK5.out
      have HG6 : Hid (w5.drew.heap[W.heap.size]? = some (.cells #[.int .i64 k, .int .i64 n, (.slice K 0 kc)] 78 (0, 0))) := Lib.hid HG5.out
      clear a0 a1 b0 b1 g0 g1 g2 k0 k1 k2 k3 hlk
      generalize w5.drew = w6 at *
      have hq6 : q < w6.heap.size := HM6.out.lt
      obtain ⟨⟨a0, a1⟩, b0, b1⟩ := blk2_cells HQ6.out
      obtain ⟨⟨g0, g1, g2⟩, _⟩ := blk3_cells HG6.out
      have t0 : (w6.alloc (.cells #[.int .i64 k, .int .i64 n, (.slice K 0 kc)] 78)).cell? ⟨q, 0, none⟩ = some (.slice VA L.length VC) := (World.cell?_alloc_lt _ _ _ hq6).trans a0
      have HLL := Lib.hid hL
      have HBQ6 : Hid (B ≤ w6.heap.size) := Lib.hid (Nat.le_trans HBQ.out HB6.out.size)
      clear hq6
      go_region_law (refine step_append_lies _ rfl (.tmp 51) (.tmp 53) 28 rfl B 78 i0 (.agg #[.int .i64 0, .int .i64 0, .slice none 0 0]) 3 40 Tryz.underlying28 HI.out.1 HI.out.2.1 HI.out.2.2.1 HI.out.2.2.2 rfl (by decide) (.slice VA L.length VC) L.length (flatG L) (by simp [Act.eval, Act.put]) (HROW6.out.alloc _).drew ⟨w6.heap.size, 0, none⟩ 1 1 [.int .i64 k, .int .i64 n, (.slice K 0 kc)] (by simp [Act.eval, Act.put]) rfl (three_new _ _ _ _ _) (by intro u hu; simp at hu; rcases hu with rfl | rfl | rfl <;> rfl) (by decide) (by have := HLL.out; unfold maxLen; omega) (by have := HLL.out; omega) (by have := HBQ6.out; simp; omega) _ rfl ?_; intro g4 cap4 w4 hown hgrow _ _; obtain ⟨p1, p2, p3, p4, p5, p6, p7⟩ := HM6.out.drew.pushed (g := ⟨k, n, []⟩) HQ6.out HROW6.out.drew HG.out (HU6.out.below (Below.refl _ w6).drew HBQ6.out) hown (show (w6.drew.alloc (.cells #[.int .i64 k, .int .i64 n, (.slice K 0 kc)] 78)).grownBy w4 _ from hgrow); obtain ⟨⟨q0, q1⟩, r0, r1⟩ := blk2_cells p1; have HP := Lib.hid (And.intro p2 (And.intro p3 (And.intro p4 (And.intro p5 p6)))); clear hown hgrow p1 p2 p3 p4 p5 p6 p7)
      all_goals
        go_upto_region 10 with fail
        obtain ⟨p2, p3, p4, p5, p6⟩ := HP.out
        have hq1 : q < W.heap.size := HMG.out.lt
        have hm1 : mb < W.heap.size := HMG.out.map.lt
        have hk7 := p6.rest (W.heap.size + 1) _ HK6.out (by omega) (by omega) (by intro cs e; simp at e)
        have HFR := Lib.hid (((FrM.of_below HB6.out HBQ.out).trans (FrM.of_below (Below.refl _ w6).drew HBQ6.out)).trans p6)
        clear q0 q1 r0 r1 p6 HP t0 a0 a1 b0 b1 g0 g1 g2
        generalize w4.setCell ⟨q, 0, none⟩ (.slice (some ⟨g4, 0, none⟩) (L.length + 1) cap4) = w7 at *
        obtain ⟨⟨a0, a1⟩, b0, b1⟩ := blk2_cells p2
        obtain ⟨⟨k0, k1, k2, k3⟩, _⟩ := blk4_cells hk7
        obtain ⟨w8, hrun, hm8, hg8⟩ := (p4.block (w' := w7.drew) rfl).update (t := 72) (val := .int .i64 ((L.length : Nat) : Int)) keyC_keyed Tryz.underlying72 HKL.out
        rw [show keyG ⟨k, n, []⟩ = .agg #[.int .i64 k, .int .i64 n, .int .i64 (-1), .int .i64 (-1)] from rfl] at hrun
        have hm9 : MapOf w8 Tryz.prog 121 mb (L ++ [((⟨k, n, []⟩ : Gat), ((.slice K 0 kc) : Value))]).length (mapG ((L ++ [((⟨k, n, []⟩ : Gat), ((.slice K 0 kc) : Value))]).map Prod.fst)) := by
          rw [List.map_append, List.length_append]
          refine hm8.congr fun x => ?_
          have := HP2.out x
          rw [List.length_map] at this
          exact this
        have HMM := Lib.hid (Mg.mapped (w7 := w7.drew) HMG.out.le HMG.out.leM p2 p3.drew (p4.block (w' := w7.drew) rfl) p5 hm9 hg8)
        clear hm8 hm9 hg8 p2 p3 p4 p5 hk7 hq1 hm1
        go_region
        go_wp2_with fail
        go_ret
        exact ⟨by rw [HA.out]; rfl, _, HMM.out.1, by rw [HA.out, List.map_append]; rfl, .inr rfl, HFR.out.trans ((FrM.of_below (Below.refl _ w7).drew (Nat.le_trans HBQ.out HFR.out.bel.size)).trans HMM.out.2)⟩
  · simp only [List.length_nil, List.length_cons, Nat.zero_add, Nat.reduceAdd] at HU ⊢
    obtain ⟨p, rfl, e0⟩ := hK 0 a rfl
    rw [show p.add 0 = p by simp [Addr.add]] at e0
    obtain ⟨pb, po, rfl⟩ : ∃ b o, p = ⟨b, o, none⟩ := ⟨_, _, spot_none e0⟩
    have e0b := ((below2 W (.cells #[.int .i64 k, .int .i64 n, .slice (some ⟨pb, po, none⟩) 1 kc] 78) (.cells #[.int .i64 k, .int .i64 n, .int .i64 (-1), .int .i64 (-1)] 121)).cell (World.block_lt_of_cell? W _ e0)).trans e0
    obtain ⟨w5, hw5⟩ : ∃ w5, w5 = ((W.alloc (.cells #[.int .i64 k, .int .i64 n, .slice (some ⟨pb, po, none⟩) 1 kc] 78)).alloc (.cells #[.int .i64 k, .int .i64 n, .int .i64 a, .int .i64 (-1)] 121)) := ⟨_, rfl⟩
    have HB5 : Hid (Below W.heap.size W w5) := Lib.hid (by rw [hw5]; exact below2 _ _ _)
    have HG5 : Hid (w5.heap[W.heap.size]? = some (.cells #[.int .i64 k, .int .i64 n, .slice (some ⟨pb, po, none⟩) 1 kc] 78 (0, 0))) := Lib.hid (by rw [hw5, Below.heap_alloc _ _ _ (by simp)]; exact alloc_at _ _ _ rfl)
    have HK5 : Hid (w5.heap[W.heap.size + 1]? = some (.cells #[.int .i64 k, .int .i64 n, .int .i64 a, .int .i64 (-1)] 121 (0, 0))) := Lib.hid (by rw [hw5]; exact alloc_at _ _ _ (by simp))
    have HW5 := Lib.hid hw5
    clear hw5 hK
    go_enter Tryz.func65, Tryz.ntmps65
    go_upto_region 6 with fail
    rw [← HW5.out]
    have HM5 := Lib.hid (HMG.out.below HB5.out)
    obtain ⟨lv, hq5, hrow5⟩ := HM5.out.blk
    have HQ5 := Lib.hid hq5
    have HROW5 := Lib.hid hrow5
    have HU5 := Lib.hid (HU.out.below HB5.out HBQ.out)
    obtain ⟨⟨a0, a1⟩, b0, b1⟩ := blk2_cells hq5
    obtain ⟨⟨g0, g1, g2⟩, _⟩ := blk3_cells HG5.out
    obtain ⟨⟨k0, k1, k2, k3⟩, _⟩ := blk4_cells HK5.out
    have hlk := HM5.out.drew.map.lookup (t := 72) (e := 3) keyC_keyed Tryz.underlying72 (z := .int .i64 0) (by kernel_rfl) HKL.out true
    rw [HKEY.out, show keyG ⟨k, n, [a]⟩ = .agg #[.int .i64 k, .int .i64 n, .int .i64 a, .int .i64 (-1)] from rfl] at hlk
    simp only [if_true] at hlk
    clear hq5 hrow5
    cases hfi : (L.map Prod.fst).findIdx? (fun x => decide (x = ⟨k, n, [a]⟩)) with
    | some i =>
      rw [hfi] at hlk
      simp only [Option.map_some, Option.getD_some, Option.isSome_some] at hlk
      have HA : Hid (addOne (L.map Prod.fst) ⟨k, n, [a]⟩ = (L.map Prod.fst, i)) := Lib.hid (by rw [HADD.out, hfi])
      clear hfi
      go_wp2_with fail
      go_region
      go_wp2_with fail
      go_ret
      exact ⟨by rw [HA.out]; rfl, L, HM5.out.drew, by rw [HA.out], .inl rfl, FrM.of_below (HB5.out.drew) HBQ.out⟩
    | none =>
      rw [hfi] at hlk
      simp only [Option.map_none, Option.getD_none, Option.isSome_none] at hlk
      have HA : Hid (addOne (L.map Prod.fst) ⟨k, n, [a]⟩ = (L.map Prod.fst ++ [⟨k, n, [a]⟩], L.length)) := Lib.hid (by rw [HADD.out, hfi, List.length_map])
      have HP2 := Lib.hid (HPUT.out hfi)
      clear hfi
      obtain ⟨VA, VC, rfl⟩ : ∃ A c, lv = .slice A L.length c := by
        rcases HROW5.out.2 with ⟨rfl, h0⟩ | ⟨g, cap, cur, rfl, _⟩
        · exact ⟨none, 0, by rw [h0]⟩
        · exact ⟨_, _, rfl⟩
      go_wp2_with fail
      go_region
      go_upto_region 9 with fail
      have HM6 := Lib.hid HM5.out.drew
      have HQ6 : Hid (w5.drew.heap[q]? = some (.cells #[.slice VA L.length VC, .map (some mb)] 74 (0, 0))) := Lib.hid HQ5.out
      have HROW6 : Hid (w5.drew.ownsRow B 78 3 (.slice VA L.length VC) L.length (flatG L)) := Lib.hid HROW5.out.drew
      have HU6 := Lib.hid (HU5.out.below (Below.refl _ w5).drew (Nat.le_trans HBQ.out HB5.out.size))
      have HB6 := Lib.hid (HB5.out.drew)
      have HK6 : Hid (w5.drew.heap[W.heap.size + 1]? = some (.cells #[.int .i64 k, .int .i64 n, .int .i64 a, .int .i64 (-1)] 121 (0, 0))) := Lib.hid HK5.out
      have HG6 : Hid (w5.drew.heap[W.heap.size]? = some (.cells #[.int .i64 k, .int .i64 n, (.slice (some ⟨pb, po, none⟩) 1 kc)] 78 (0, 0))) := Lib.hid HG5.out
      clear a0 a1 b0 b1 g0 g1 g2 k0 k1 k2 k3 hlk
      generalize w5.drew = w6 at *
      have hq6 : q < w6.heap.size := HM6.out.lt
      obtain ⟨⟨a0, a1⟩, b0, b1⟩ := blk2_cells HQ6.out
      obtain ⟨⟨g0, g1, g2⟩, _⟩ := blk3_cells HG6.out
      have t0 : (w6.alloc (.cells #[.int .i64 k, .int .i64 n, (.slice (some ⟨pb, po, none⟩) 1 kc)] 78)).cell? ⟨q, 0, none⟩ = some (.slice VA L.length VC) := (World.cell?_alloc_lt _ _ _ hq6).trans a0
      have HLL := Lib.hid hL
      have HBQ6 : Hid (B ≤ w6.heap.size) := Lib.hid (Nat.le_trans HBQ.out HB6.out.size)
      clear hq6
      go_region_law (refine step_append_lies _ rfl (.tmp 51) (.tmp 53) 28 rfl B 78 i0 (.agg #[.int .i64 0, .int .i64 0, .slice none 0 0]) 3 40 Tryz.underlying28 HI.out.1 HI.out.2.1 HI.out.2.2.1 HI.out.2.2.2 rfl (by decide) (.slice VA L.length VC) L.length (flatG L) (by simp [Act.eval, Act.put]) (HROW6.out.alloc _).drew ⟨w6.heap.size, 0, none⟩ 1 1 [.int .i64 k, .int .i64 n, (.slice (some ⟨pb, po, none⟩) 1 kc)] (by simp [Act.eval, Act.put]) rfl (three_new _ _ _ _ _) (by intro u hu; simp at hu; rcases hu with rfl | rfl | rfl <;> rfl) (by decide) (by have := HLL.out; unfold maxLen; omega) (by have := HLL.out; omega) (by have := HBQ6.out; simp; omega) _ rfl ?_; intro g4 cap4 w4 hown hgrow _ _; obtain ⟨p1, p2, p3, p4, p5, p6, p7⟩ := HM6.out.drew.pushed (g := ⟨k, n, [a]⟩) HQ6.out HROW6.out.drew HG.out (HU6.out.below (Below.refl _ w6).drew HBQ6.out) hown (show (w6.drew.alloc (.cells #[.int .i64 k, .int .i64 n, (.slice (some ⟨pb, po, none⟩) 1 kc)] 78)).grownBy w4 _ from hgrow); obtain ⟨⟨q0, q1⟩, r0, r1⟩ := blk2_cells p1; have HP := Lib.hid (And.intro p2 (And.intro p3 (And.intro p4 (And.intro p5 p6)))); clear hown hgrow p1 p2 p3 p4 p5 p6 p7)
      all_goals
        go_upto_region 10 with fail
        obtain ⟨p2, p3, p4, p5, p6⟩ := HP.out
        have hq1 : q < W.heap.size := HMG.out.lt
        have hm1 : mb < W.heap.size := HMG.out.map.lt
        have hk7 := p6.rest (W.heap.size + 1) _ HK6.out (by omega) (by omega) (by intro cs e; simp at e)
        have HFR := Lib.hid (((FrM.of_below HB6.out HBQ.out).trans (FrM.of_below (Below.refl _ w6).drew HBQ6.out)).trans p6)
        clear q0 q1 r0 r1 p6 HP t0 a0 a1 b0 b1 g0 g1 g2
        generalize w4.setCell ⟨q, 0, none⟩ (.slice (some ⟨g4, 0, none⟩) (L.length + 1) cap4) = w7 at *
        obtain ⟨⟨a0, a1⟩, b0, b1⟩ := blk2_cells p2
        obtain ⟨⟨k0, k1, k2, k3⟩, _⟩ := blk4_cells hk7
        obtain ⟨w8, hrun, hm8, hg8⟩ := (p4.block (w' := w7.drew) rfl).update (t := 72) (val := .int .i64 ((L.length : Nat) : Int)) keyC_keyed Tryz.underlying72 HKL.out
        rw [show keyG ⟨k, n, [a]⟩ = .agg #[.int .i64 k, .int .i64 n, .int .i64 a, .int .i64 (-1)] from rfl] at hrun
        have hm9 : MapOf w8 Tryz.prog 121 mb (L ++ [((⟨k, n, [a]⟩ : Gat), ((.slice (some ⟨pb, po, none⟩) 1 kc) : Value))]).length (mapG ((L ++ [((⟨k, n, [a]⟩ : Gat), ((.slice (some ⟨pb, po, none⟩) 1 kc) : Value))]).map Prod.fst)) := by
          rw [List.map_append, List.length_append]
          refine hm8.congr fun x => ?_
          have := HP2.out x
          rw [List.length_map] at this
          exact this
        have HMM := Lib.hid (Mg.mapped (w7 := w7.drew) HMG.out.le HMG.out.leM p2 p3.drew (p4.block (w' := w7.drew) rfl) p5 hm9 hg8)
        clear hm8 hm9 hg8 p2 p3 p4 p5 hk7 hq1 hm1
        go_region
        go_wp2_with fail
        go_ret
        exact ⟨by rw [HA.out]; rfl, _, HMM.out.1, by rw [HA.out, List.map_append]; rfl, .inr rfl, HFR.out.trans ((FrM.of_below (Below.refl _ w7).drew (Nat.le_trans HBQ.out HFR.out.bel.size)).trans HMM.out.2)⟩
  · simp only [List.length_nil, List.length_cons, Nat.zero_add, Nat.reduceAdd] at HU ⊢
    obtain ⟨p, rfl, e0⟩ := hK 0 a rfl
    rw [show p.add 0 = p by simp [Addr.add]] at e0
    obtain ⟨pb, po, rfl⟩ : ∃ b o, p = ⟨b, o, none⟩ := ⟨_, _, spot_none e0⟩
    have e0b := ((below2 W (.cells #[.int .i64 k, .int .i64 n, .slice (some ⟨pb, po, none⟩) 2 kc] 78) (.cells #[.int .i64 k, .int .i64 n, .int .i64 (-1), .int .i64 (-1)] 121)).cell (World.block_lt_of_cell? W _ e0)).trans e0
    obtain ⟨p', hpe, e1⟩ := hK 1 b rfl
    cases hpe
    rw [add_none] at e1
    have e1b := ((below2 W (.cells #[.int .i64 k, .int .i64 n, .slice (some ⟨pb, po, none⟩) 2 kc] 78) (.cells #[.int .i64 k, .int .i64 n, .int .i64 a, .int .i64 (-1)] 121)).cell (World.block_lt_of_cell? W _ e1)).trans e1
    obtain ⟨w5, hw5⟩ : ∃ w5, w5 = ((W.alloc (.cells #[.int .i64 k, .int .i64 n, .slice (some ⟨pb, po, none⟩) 2 kc] 78)).alloc (.cells #[.int .i64 k, .int .i64 n, .int .i64 a, .int .i64 b] 121)) := ⟨_, rfl⟩
    have HB5 : Hid (Below W.heap.size W w5) := Lib.hid (by rw [hw5]; exact below2 _ _ _)
    have HG5 : Hid (w5.heap[W.heap.size]? = some (.cells #[.int .i64 k, .int .i64 n, .slice (some ⟨pb, po, none⟩) 2 kc] 78 (0, 0))) := Lib.hid (by rw [hw5, Below.heap_alloc _ _ _ (by simp)]; exact alloc_at _ _ _ rfl)
    have HK5 : Hid (w5.heap[W.heap.size + 1]? = some (.cells #[.int .i64 k, .int .i64 n, .int .i64 a, .int .i64 b] 121 (0, 0))) := Lib.hid (by rw [hw5]; exact alloc_at _ _ _ (by simp))
    have HW5 := Lib.hid hw5
    clear hw5 hK
    go_enter Tryz.func65, Tryz.ntmps65
    go_upto_region 6 with fail
    rw [← HW5.out]
    have HM5 := Lib.hid (HMG.out.below HB5.out)
    obtain ⟨lv, hq5, hrow5⟩ := HM5.out.blk
    have HQ5 := Lib.hid hq5
    have HROW5 := Lib.hid hrow5
    have HU5 := Lib.hid (HU.out.below HB5.out HBQ.out)
    obtain ⟨⟨a0, a1⟩, b0, b1⟩ := blk2_cells hq5
    obtain ⟨⟨g0, g1, g2⟩, _⟩ := blk3_cells HG5.out
    obtain ⟨⟨k0, k1, k2, k3⟩, _⟩ := blk4_cells HK5.out
    have hlk := HM5.out.drew.map.lookup (t := 72) (e := 3) keyC_keyed Tryz.underlying72 (z := .int .i64 0) (by kernel_rfl) HKL.out true
    rw [HKEY.out, show keyG ⟨k, n, [a, b]⟩ = .agg #[.int .i64 k, .int .i64 n, .int .i64 a, .int .i64 b] from rfl] at hlk
    simp only [if_true] at hlk
    clear hq5 hrow5
    cases hfi : (L.map Prod.fst).findIdx? (fun x => decide (x = ⟨k, n, [a, b]⟩)) with
    | some i =>
      rw [hfi] at hlk
      simp only [Option.map_some, Option.getD_some, Option.isSome_some] at hlk
      have HA : Hid (addOne (L.map Prod.fst) ⟨k, n, [a, b]⟩ = (L.map Prod.fst, i)) := Lib.hid (by rw [HADD.out, hfi])
      clear hfi
      go_wp2_with fail
      go_region
      go_wp2_with fail
      go_ret
      exact ⟨by rw [HA.out]; rfl, L, HM5.out.drew, by rw [HA.out], .inl rfl, FrM.of_below (HB5.out.drew) HBQ.out⟩
    | none =>
      rw [hfi] at hlk
      simp only [Option.map_none, Option.getD_none, Option.isSome_none] at hlk
      have HA : Hid (addOne (L.map Prod.fst) ⟨k, n, [a, b]⟩ = (L.map Prod.fst ++ [⟨k, n, [a, b]⟩], L.length)) := Lib.hid (by rw [HADD.out, hfi, List.length_map])
      have HP2 := Lib.hid (HPUT.out hfi)
      clear hfi
      obtain ⟨VA, VC, rfl⟩ : ∃ A c, lv = .slice A L.length c := by
        rcases HROW5.out.2 with ⟨rfl, h0⟩ | ⟨g, cap, cur, rfl, _⟩
        · exact ⟨none, 0, by rw [h0]⟩
        · exact ⟨_, _, rfl⟩
      go_wp2_with fail
      go_region
      go_upto_region 9 with fail
      have HM6 := Lib.hid HM5.out.drew
      have HQ6 : Hid (w5.drew.heap[q]? = some (.cells #[.slice VA L.length VC, .map (some mb)] 74 (0, 0))) := Lib.hid HQ5.out
      have HROW6 : Hid (w5.drew.ownsRow B 78 3 (.slice VA L.length VC) L.length (flatG L)) := Lib.hid HROW5.out.drew
      have HU6 := Lib.hid (HU5.out.below (Below.refl _ w5).drew (Nat.le_trans HBQ.out HB5.out.size))
      have HB6 := Lib.hid (HB5.out.drew)
      have HK6 : Hid (w5.drew.heap[W.heap.size + 1]? = some (.cells #[.int .i64 k, .int .i64 n, .int .i64 a, .int .i64 b] 121 (0, 0))) := Lib.hid HK5.out
      have HG6 : Hid (w5.drew.heap[W.heap.size]? = some (.cells #[.int .i64 k, .int .i64 n, (.slice (some ⟨pb, po, none⟩) 2 kc)] 78 (0, 0))) := Lib.hid HG5.out
      clear a0 a1 b0 b1 g0 g1 g2 k0 k1 k2 k3 hlk
      generalize w5.drew = w6 at *
      have hq6 : q < w6.heap.size := HM6.out.lt
      obtain ⟨⟨a0, a1⟩, b0, b1⟩ := blk2_cells HQ6.out
      obtain ⟨⟨g0, g1, g2⟩, _⟩ := blk3_cells HG6.out
      have t0 : (w6.alloc (.cells #[.int .i64 k, .int .i64 n, (.slice (some ⟨pb, po, none⟩) 2 kc)] 78)).cell? ⟨q, 0, none⟩ = some (.slice VA L.length VC) := (World.cell?_alloc_lt _ _ _ hq6).trans a0
      have HLL := Lib.hid hL
      have HBQ6 : Hid (B ≤ w6.heap.size) := Lib.hid (Nat.le_trans HBQ.out HB6.out.size)
      clear hq6
      go_region_law (refine step_append_lies _ rfl (.tmp 51) (.tmp 53) 28 rfl B 78 i0 (.agg #[.int .i64 0, .int .i64 0, .slice none 0 0]) 3 40 Tryz.underlying28 HI.out.1 HI.out.2.1 HI.out.2.2.1 HI.out.2.2.2 rfl (by decide) (.slice VA L.length VC) L.length (flatG L) (by simp [Act.eval, Act.put]) (HROW6.out.alloc _).drew ⟨w6.heap.size, 0, none⟩ 1 1 [.int .i64 k, .int .i64 n, (.slice (some ⟨pb, po, none⟩) 2 kc)] (by simp [Act.eval, Act.put]) rfl (three_new _ _ _ _ _) (by intro u hu; simp at hu; rcases hu with rfl | rfl | rfl <;> rfl) (by decide) (by have := HLL.out; unfold maxLen; omega) (by have := HLL.out; omega) (by have := HBQ6.out; simp; omega) _ rfl ?_; intro g4 cap4 w4 hown hgrow _ _; obtain ⟨p1, p2, p3, p4, p5, p6, p7⟩ := HM6.out.drew.pushed (g := ⟨k, n, [a, b]⟩) HQ6.out HROW6.out.drew HG.out (HU6.out.below (Below.refl _ w6).drew HBQ6.out) hown (show (w6.drew.alloc (.cells #[.int .i64 k, .int .i64 n, (.slice (some ⟨pb, po, none⟩) 2 kc)] 78)).grownBy w4 _ from hgrow); obtain ⟨⟨q0, q1⟩, r0, r1⟩ := blk2_cells p1; have HP := Lib.hid (And.intro p2 (And.intro p3 (And.intro p4 (And.intro p5 p6)))); clear hown hgrow p1 p2 p3 p4 p5 p6 p7)
      all_goals
        go_upto_region 10 with fail
        obtain ⟨p2, p3, p4, p5, p6⟩ := HP.out
        have hq1 : q < W.heap.size := HMG.out.lt
        have hm1 : mb < W.heap.size := HMG.out.map.lt
        have hk7 := p6.rest (W.heap.size + 1) _ HK6.out (by omega) (by omega) (by intro cs e; simp at e)
        have HFR := Lib.hid (((FrM.of_below HB6.out HBQ.out).trans (FrM.of_below (Below.refl _ w6).drew HBQ6.out)).trans p6)
        clear q0 q1 r0 r1 p6 HP t0 a0 a1 b0 b1 g0 g1 g2
        generalize w4.setCell ⟨q, 0, none⟩ (.slice (some ⟨g4, 0, none⟩) (L.length + 1) cap4) = w7 at *
        obtain ⟨⟨a0, a1⟩, b0, b1⟩ := blk2_cells p2
        obtain ⟨⟨k0, k1, k2, k3⟩, _⟩ := blk4_cells hk7
        obtain ⟨w8, hrun, hm8, hg8⟩ := (p4.block (w' := w7.drew) rfl).update (t := 72) (val := .int .i64 ((L.length : Nat) : Int)) keyC_keyed Tryz.underlying72 HKL.out
        rw [show keyG ⟨k, n, [a, b]⟩ = .agg #[.int .i64 k, .int .i64 n, .int .i64 a, .int .i64 b] from rfl] at hrun
        have hm9 : MapOf w8 Tryz.prog 121 mb (L ++ [((⟨k, n, [a, b]⟩ : Gat), ((.slice (some ⟨pb, po, none⟩) 2 kc) : Value))]).length (mapG ((L ++ [((⟨k, n, [a, b]⟩ : Gat), ((.slice (some ⟨pb, po, none⟩) 2 kc) : Value))]).map Prod.fst)) := by
          rw [List.map_append, List.length_append]
          refine hm8.congr fun x => ?_
          have := HP2.out x
          rw [List.length_map] at this
          exact this
        have HMM := Lib.hid (Mg.mapped (w7 := w7.drew) HMG.out.le HMG.out.leM p2 p3.drew (p4.block (w' := w7.drew) rfl) p5 hm9 hg8)
        clear hm8 hm9 hg8 p2 p3 p4 p5 hk7 hq1 hm1
        go_region
        go_wp2_with fail
        go_ret
        exact ⟨by rw [HA.out]; rfl, _, HMM.out.1, by rw [HA.out, List.map_append]; rfl, .inr rfl, HFR.out.trans ((FrM.of_below (Below.refl _ w7).drew (Nat.le_trans HBQ.out HFR.out.bel.size)).trans HMM.out.2)⟩
end Go.Proofs.YtcophfhnhlaonaaGreatDoor
