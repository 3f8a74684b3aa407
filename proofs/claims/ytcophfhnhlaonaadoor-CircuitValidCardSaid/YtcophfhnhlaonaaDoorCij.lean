/-
  Contract of the merger's addFormula of package circuit.
-/
import Derived.Test.YtcophfhnhlaonaaDoorCii
namespace Go.Proofs.YtcophfhnhlaonaaDoor
set_option linter.unusedVariables false
open Go.RowKit

mutual
/-- The gates of a tree, behind those that are there, and where the last one that it needs is. -/
def addT : Tre → List Gat → List Gat × Nat
  | .mk k n ts, gs => addOne (addK ts gs).1 ⟨k, n, (addK ts gs).2⟩
def addK : List Tre → List Gat → List Gat × List Int
  | [], gs => (gs, [])
  | t :: ts, gs => ((addK ts (addT t gs).1).1, (((addT t gs).2 : Nat) : Int) :: (addK ts (addT t gs).1).2)
end
theorem addK_append : ∀ (xs ys : List Tre) (gs : List Gat), addK (xs ++ ys) gs = ((addK ys (addK xs gs).1).1, (addK xs gs).2 ++ (addK ys (addK xs gs).1).2)
  | [], ys, gs => by simp [addK]
  | x :: xs, ys, gs => by
    rw [List.cons_append, addK, addK, addK_append xs ys]
    rfl
theorem addK_next {ts : List Tre} {i : Nat} {t : Tre} {gs g1 : List Gat} {ks : List Int} (ht : ts[i]? = some t) (h : addK (ts.take i) gs = (g1, ks)) : addK (ts.take (i + 1)) gs = ((addT t g1).1, ks ++ [(((addT t g1).2 : Nat) : Int)]) := by
  rw [List.take_add_one, ht, addK_append, h]
  simp [addK]
theorem addOne_lt (gs : List Gat) (g : Gat) : (addOne gs g).2 < (addOne gs g).1.length ∧ gs <+: (addOne gs g).1 ∧ (addOne gs g).1.length ≤ gs.length + 1 := by
  unfold addOne
  split
  · rename_i i h
    have := (List.findIdx?_eq_some_iff_findIdx_eq.1 h).1
    exact ⟨this, List.prefix_rfl, Nat.le_succ _⟩
  · exact ⟨by simp, List.prefix_append _ _, by simp⟩
mutual
theorem addT_lt : ∀ (t : Tre) (gs : List Gat), (addT t gs).2 < (addT t gs).1.length ∧ gs <+: (addT t gs).1 ∧ (addT t gs).1.length ≤ gs.length + nodT t
  | .mk k n ts, gs => by
    rw [addT]
    have h1 := addK_lt ts gs
    have h2 := addOne_lt (addK ts gs).1 ⟨k, n, (addK ts gs).2⟩
    rw [nodT]
    exact ⟨h2.1, h1.2.1.trans h2.2.1, by omega⟩
theorem addK_lt : ∀ (ts : List Tre) (gs : List Gat), (∀ x ∈ (addK ts gs).2, 0 ≤ x ∧ x < ((addK ts gs).1.length : Int)) ∧ gs <+: (addK ts gs).1 ∧ (addK ts gs).1.length ≤ gs.length + nodL ts
  | [], gs => by rw [addK]; exact ⟨by simp, List.prefix_rfl, by simp⟩
  | t :: ts, gs => by
    rw [addK]
    have h1 := addT_lt t gs
    have h2 := addK_lt ts (addT t gs).1
    have h3 := h2.2.1.length_le
    rw [nodL]
    refine ⟨fun x hx => ?_, h1.2.1.trans h2.2.1, by dsimp only; omega⟩
    simp only [List.mem_cons] at hx
    rcases hx with rfl | hx
    · dsimp only; omega
    · exact h2.1 x hx
end
theorem addK_length : ∀ (ts : List Tre) (gs : List Gat), (addK ts gs).2.length = ts.length
  | [], gs => by rw [addK]; rfl
  | t :: ts, gs => by rw [addK]; simp [addK_length ts]

theorem FrM.young {B q mb : Nat} {A W W' : World} (h : FrM B q mb A W) (k : Below A.heap.size W W') (hB : B ≤ A.heap.size) : FrM B q mb A W' :=
  ⟨h.bel.trans (k.mono hB), fun b o ho h1 h2 h3 => (k.block b (Array.getElem?_eq_some_iff.1 ho).1).trans (h.rest b o ho h1 h2 h3)⟩
/-- No gate's kids lie in the block of the slice. -/
def Apart (kv : Value) (L : List (Gat × Value)) : Prop := ∀ x ∈ L, x.1.ks ≠ [] → ∀ k, x.2.ownBlock = some k → kv.ownBlock ≠ some k
/-- What is new has its kids in new memory. -/
def NewE (W : World) (L L' : List (Gat × Value)) : Prop := ∀ x ∈ L', x ∈ L ∨ (x.1.ks ≠ [] → ∀ k, x.2.ownBlock = some k → W.heap.size ≤ k)
theorem KdV.kept {B : Nat} {W W' : World} {v : Value} {ks : List Int} (h : KdV B W v ks) (hsz : W.heap.size ≤ W'.heap.size) (hk : ks ≠ [] → ∀ k, v.ownBlock = some k → W'.heap[k]? = W.heap[k]?) : KdV B W' v ks := by
  by_cases he : ks = []
  · rcases h with h | ⟨b, off, cap, rfl, _, _, _⟩
    · exact .inl h
    · exact .inl ⟨he, _, cap, by rw [he]; rfl⟩
  · rcases h with h | ⟨b, off, cap, rfl, hb, hr, hw⟩
    · exact absurd h.1 he
    · have hblk := hk he b rfl
      exact .inr ⟨b, off, cap, rfl, by omega, fun j x hj => (World.cell?_of_block (w := W) (w' := W') (a := ⟨b, off + j, none⟩) hblk).trans (hr j x hj), hw.imp id fun ⟨cs, h⟩ => ⟨cs, hblk.trans h⟩⟩
theorem KdV.lt {B : Nat} {W : World} {v : Value} {ks : List Int} (h : KdV B W v ks) (he : ks ≠ []) {k : Nat} (hk : v.ownBlock = some k) : k < W.heap.size := by
  rcases h with h | ⟨b, off, cap, rfl, hb, _⟩
  · exact absurd h.1 he
  · simp [Value.ownBlock] at hk
    omega
/-- Behind an append to kids that the call owns. -/
theorem Mg.kids {B q mb base n : Nat} {W W' : World} {L : List (Gat × Value)} {kv : Value} {xs : List Value} {tmp : Obj} (h : Mg B q mb W L) (hr : W.ownsRow base 3 1 kv n xs) (hd : Apart kv L) (hg : (W.alloc tmp).grownBy W' kv.ownBlock) : Mg B q mb W' L := by
  have hsz := hg.size
  simp at hsz
  have kept : ∀ (k : Nat) (o : Obj), W.heap[k]? = some o → kv.ownBlock ≠ some k → W'.heap[k]? = some o := fun k o hk hl => by
    have hlt := (Array.getElem?_eq_some_iff.1 hk).1
    rw [hg.block k (by simp; omega) (fun e => hl e.symm), Below.heap_alloc _ _ _ hlt]
    exact hk
  obtain ⟨lv, h1, h2⟩ := h.blk
  obtain ⟨es, c, hm, _⟩ := h.map.has
  refine ⟨h.le, h.leM, ⟨lv, kept q _ h1 (row_not_cells hr h1 (by decide)), ?_⟩, h.map.block ((kept mb _ hm (row_not_map hr hm)).trans hm.symm), fun x hx => ⟨(h.els x hx).1.kept (by omega) fun he k hk => ?_, (h.els x hx).2⟩⟩
  · refine ⟨h2.1, ?_⟩
    rcases h2.2 with h3 | ⟨g, cap, cur, e, hb, hgb, hrest⟩
    · exact .inl h3
    · exact .inr ⟨g, cap, cur, e, hb, kept g _ hgb (row_not_cells hr hgb (by decide)), hrest⟩
  · have hlt := (h.els x hx).1.lt he hk
    have hko : W.heap[k]? = some (W.heap[k]'hlt) := Array.getElem?_eq_getElem hlt
    rw [hko]
    exact kept k _ hko (hd x hx he k hk)
/-- The kids that a call owns stand when a merger's call is through. -/
theorem owns_frm {B q mb base n : Nat} {W W' : World} {L : List (Gat × Value)} {kv : Value} {xs : List Value} (h : Mg B q mb W L) (hr : W.ownsRow base 3 1 kv n xs) (hf : FrM B q mb W W') : W'.ownsRow base 3 1 kv n xs := by
  refine ⟨hr.1, ?_⟩
  rcases hr.2 with h3 | ⟨g, cap, cur, e, hb, hgb, hrest⟩
  · exact .inl h3
  · obtain ⟨lv, h1, _⟩ := h.blk
    obtain ⟨es, c, hm, _⟩ := h.map.has
    exact .inr ⟨g, cap, cur, e, hb, hf.rest g _ hgb (fun e => by rw [e, h1] at hgb; simp at hgb) (fun e => by rw [e, hm] at hgb; cases hgb) (fun cs e => by simp at e), hrest⟩
theorem GK.of {k n : Int} {ts : List Tre} {ks : List Int} (h : okT fSh 16 (.mk k n ts)) (hl : ks.length = ts.length) (hk : ∀ x ∈ ks, 0 ≤ x ∧ x ≤ 1048576) : GK ⟨k, n, ks⟩ := by
  rw [okT] at h
  obtain ⟨s, hs, a1, a2, a3, a4⟩ := permN_of h.1
  have h6 := (List.getElem?_eq_some_iff.1 hs).1
  have hm := List.mem_of_getElem? hs
  have hb : s.num ≤ 16 ∧ s.kids ≤ 2 := by
    simp only [fSh, List.mem_cons, List.not_mem_nil, or_false] at hm
    rcases hm with rfl | rfl | rfl | rfl | rfl | rfl <;> decide
  simp only [fSh, List.length_cons, List.length_nil] at h6
  exact ⟨a1, by dsimp only; omega, a2, by dsimp only; omega, by dsimp only; omega, hk⟩
end Go.Proofs.YtcophfhnhlaonaaDoor
