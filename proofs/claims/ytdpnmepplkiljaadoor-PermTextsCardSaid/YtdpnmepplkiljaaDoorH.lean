/-
  A law for a range over a function whose iterator keeps state in cells of its own: what an iterator promises (IterOk), and what the statement then does; it holds for every program, at the wide fence.
-/
import Derived.RangeFuncNested
import Derived.RangeFuncBound
import Derived.RangeFuncCalls
import Derived.RangeFuncLeaves
import Derived.RangeFuncBox
namespace Go.Proofs.YtdpnmepplkiljaaDoor
open Go.RowKit

/-- Between W and W' only the listed blocks have turned; the streams are as they were; no block has gone. -/
structure OnlyIn (own : List Nat) (W W' : World) : Prop where
  os : W'.os = W.os
  tape : W'.tape = W.tape
  output : W'.output = W.output
  size : W.heap.size ≤ W'.heap.size
  block : ∀ k, k < W.heap.size → k ∉ own → W'.heap[k]? = W.heap[k]?

theorem OnlyIn.refl (own : List Nat) (W : World) : OnlyIn own W W := ⟨rfl, rfl, rfl, Nat.le_refl _, fun _ _ _ => rfl⟩
theorem OnlyIn.trans {own : List Nat} {A B C : World} (h : OnlyIn own A B) (k : OnlyIn own B C) : OnlyIn own A C :=
  ⟨k.os.trans h.os, k.tape.trans h.tape, k.output.trans h.output, Nat.le_trans h.size k.size, fun i hi hn => (k.block i (Nat.lt_of_lt_of_le hi h.size) hn).trans (h.block i hi hn)⟩
theorem OnlyIn.mono {own own' : List Nat} {A B : World} (h : OnlyIn own A B) (hs : ∀ k, k ∈ own → k ∈ own') : OnlyIn own' A B :=
  ⟨h.os, h.tape, h.output, h.size, fun i hi hn => h.block i hi (fun e => hn (hs i e))⟩
theorem OnlyIn.of_below {own : List Nat} {A B : World} (h : Below A.heap.size A B) : OnlyIn own A B := ⟨h.os, h.tape, h.output, h.size, fun k hk _ => h.block k hk⟩
theorem OnlyIn.setCell {own : List Nat} {A W : World} (h : OnlyIn own A W) {p : Addr} (hp : p.block ∈ own) (u : Value) : OnlyIn own A (W.setCell p u) :=
  h.trans ⟨rfl, rfl, rfl, by simp [World.setCell], fun k _ hn => Below.heap_setCell _ _ _ _ (fun e => hn (e ▸ hp))⟩
theorem OnlyIn.drew {own : List Nat} {A W : World} (h : OnlyIn own A W) : OnlyIn own A W.drew := ⟨h.os, h.tape, h.output, h.size, h.block⟩
theorem OnlyIn.putObj {own : List Nat} (W : World) (r : Nat) (o : Obj) (hr : r ∈ own) : OnlyIn own W (W.putObj r o) :=
  ⟨rfl, rfl, rfl, by simp, fun _ _ hn => World.putObj_heap_other (fun e => hn (e ▸ hr))⟩
theorem OnlyIn.below {own : List Nat} {A B : World} {n : Nat} (h : OnlyIn own A B) (hn : n ≤ A.heap.size) (ho : ∀ k, k ∈ own → n ≤ k) : Below n A B :=
  ⟨h.os, h.tape, h.output, h.size, fun k hk => h.block k (by omega) (fun e => by have := ho k e; omega)⟩

/-- WHAT AN ITERATOR VALUE PROMISES: over every invariant J of the caller's that stands on the blocks that lay when the iterator was called, if each round, at an element x that may come behind pre and reads in the world as it should, hands back true, carries J on and turns none but the caller's own blocks, or hands back false with Jx: then it returns, and all have come, or it was stopped. -/
def IterOk {α : Type} (n : Nat) (P : Program) (gf : Nat) (lb : Array Value) (encs : α → Array Value) (Next : List α → α → Prop) (Rd : Nat → α → World → Prop) (S : List α → Prop) (own : List Nat) (w : World) : Prop :=
  ∀ (l : Nat) (J Jx : List α → World → Prop) (W : World), Below w.heap.size w W → l < W.heap.size → w.heap.size ≤ l →
    (∀ pre A B, J pre A → Below W.heap.size A B → J pre B) → (∀ pre A B, Jx pre A → Below W.heap.size A B → Jx pre B) →
    (∀ pre x W1, J pre W1 → Next pre x → Rd W.heap.size x W1 → W.heap.size ≤ W1.heap.size → YieldAt Fence.wide (n - 1) P l (encs x) W1 fun e W' =>
      (e = .returned (.bool true) ∧ J (pre ++ [x]) W' ∧ OnlyIn (l :: own) W1 W') ∨ (e = .returned (.bool false) ∧ Jx (pre ++ [x]) W')) →
    J [] W →
    CallsIn Fence.wide n P gf (#[.func (.yield l) #[] #[]] ++ lb) W fun e W' => (∃ v, e = .returned v) ∧ ((∃ xs, S xs ∧ J xs W') ∨ (∃ pre, Jx pre W'))

/-- HOW THE BODY OF A ROUND MAY BE LEFT: off its end, or by a return. -/
def bodyEnds {α : Type} (own : List Nat) (I Ix : List α → World → Prop) (xs : List α) (W : World) : Exit → Act → World → Prop
  | .normal, _, W' => OnlyIn own W W' ∧ I xs W'
  | .ret, _, W' => OnlyIn own W W' ∧ Ix xs W'
  | _, _, _ => False

theorem rangeFunc_iter {α : Type} {n : Nat} {P : Program} {g : Operand} {ps : Array Tmp} {assign body : Code} {Q : Exit → Act → World → Prop} {a : Act} {w : World}
    {gf : Nat} {lb : Array Value} (hg : a.eval g = .func (.func gf) #[] lb) (eg : ∀ args w, (callFunc gf args).run P w = .ok (.enter gf args) w)
    {encs : α → Array Value} {Next : List α → α → Prop} {Rd : Nat → α → World → Prop} {S : List α → Prop} {own : List Nat} (hseq : IterOk (n - 1) P gf lb encs Next Rd S own w)
    (hRd : ∀ D x A B, Rd D x A → (∀ k, D ≤ k → k < A.heap.size → B.heap[k]? = A.heap[k]?) → Rd D x B)
    (hown : ∀ k, k ∈ own → k < w.heap.size) (hps : ∀ x, (encs x).size = ps.size)
    (I Ix : List α → World → Prop) (hI : ∀ pre A B, I pre A → Below w.heap.size A B → I pre B) (hIx : ∀ pre A B, Ix pre A → Below w.heap.size A B → Ix pre B) (h0 : I [] w) (a₁ : α → Act)
    (hassign : ∀ (l : Nat) (x : α) (W : World) (K : Act → World → Prop), K (a₁ x) W →
      assign.wpIn (Fence.wide.inRound l) (n - 1 - 1) P (Exit.then K (fun _ _ _ => False)) { tmps := (ps.zip (encs x)).foldl (fun t (p, v) => t.setIfInBounds p v) a.tmps, defers := [] } W)
    (hbody : ∀ (l : Nat) (D : Nat) (pre : List α) (x : α) (W : World), w.heap.size ≤ D → D ≤ W.heap.size → I pre W → Next pre x → Rd D x W →
      body.wpIn (Fence.wide.inRound l) (n - 1 - 1) P (bodyEnds own I Ix (pre ++ [x]) W) (a₁ x) W)
    (hdone : ∀ (D : Nat) (xs : List α) (W : World), w.heap.size ≤ D → S xs → I xs W → W.heap[D]? = some (.deferred (some [])) → Q .normal { a with defers := { target := .collected D, args := #[] } :: a.defers } W)
    (hstop : ∀ (D : Nat) (pre : List α) (W : World), w.heap.size ≤ D → Ix pre W → W.heap[D]? = some (.deferred (some [])) → Code.ret.wpIn Fence.wide n P Q { a with defers := { target := .collected D, args := #[] } :: a.defers } W) :
    (Code.rangeFunc g ps assign body).wpIn Fence.wide n P Q a w := by
  refine wpIn_rangeFunc ?_
  intro fn _
  obtain ⟨rec, hrec⟩ : ∃ rec : LoopState → Option Code → Loop, rec = fun st pe => { state := st, pending := pe, fn, tmps := a.tmps, params := ps, assign, body, defers := w.heap.size } := ⟨_, rfl⟩
  obtain ⟨W1, hW1⟩ : ∃ W1, (w.alloc (.deferred (some []))).alloc (.loop (rec .ready none)) = W1 := ⟨_, rfl⟩
  have hsz1 : W1.heap.size = w.heap.size + 2 := by rw [← hW1]; simp
  have hL1 : W1.heap[w.heap.size + 1]? = some (.loop (rec .ready none)) := by
    rw [← hW1]
    have h := World.alloc_heap_new (w.alloc (.deferred (some []))) (.loop (rec .ready none))
    rwa [World.size_alloc] at h
  have hK1 : W1.heap[w.heap.size]? = some (.deferred (some [])) := by
    rw [← hW1]; exact (Below.heap_alloc _ _ _ (by simp)).trans (World.alloc_heap_new w _)
  have hb1 : Below w.heap.size w W1 := by
    rw [← hW1]; exact ((Below.refl _ w).alloc (Nat.le_refl _) _).alloc (by simp) _
  refine ⟨w.heap.size + 1, [{ target := .collected w.heap.size, args := #[] }], W1, { target := .fn (.func gf) lb, args := #[.func (.yield (w.heap.size + 1)) #[] #[]] }, W1, gf,
    #[.func (.yield (w.heap.size + 1)) #[] #[]] ++ lb, W1, ?_, ?_, fun _ _ => trivial, ?_, (fun h => by cases h), ?_⟩
  · rw [← hW1, hrec]; exact run_enterLoop_outer _ _ _ _ _
  · simp only [resolve, hg]
    simp [go_sem]
  · simp [invoke, go_sem, eg]
  · refine (hseq (w.heap.size + 1)
      (fun pre W => I pre W ∧ W.heap[w.heap.size + 1]? = some (.loop (rec .ready none)) ∧ W.heap[w.heap.size]? = some (.deferred (some [])))
      (fun pre W => Ix pre W ∧ W.heap[w.heap.size + 1]? = some (.loop (rec .done (some .ret))) ∧ W.heap[w.heap.size]? = some (.deferred (some [])))
      W1 hb1 (by omega) (by omega)
      (fun pre A B h hB => ⟨hI pre A B h.1 (hB.mono (by omega)), (hB.block _ (by omega)).trans h.2.1, (hB.block _ (by omega)).trans h.2.2⟩)
      (fun pre A B h hB => ⟨hIx pre A B h.1 (hB.mono (by omega)), (hB.block _ (by omega)).trans h.2.1, (hB.block _ (by omega)).trans h.2.2⟩)
      ?_ ⟨hI _ _ _ h0 hb1, hL1, hK1⟩).mono ?_
    · rintro pre x W ⟨hi, hl, hk⟩ hnext hrd hsz
      have hlt : w.heap.size + 1 < W.heap.size := (Array.getElem?_eq_some_iff.1 hl).1
      have hy := run_yield (P := P) (args := encs x) hl (by rw [hrec]; exact hps x)
      rw [hrec] at hy
      refine ⟨fn, _, assign, body, hy, roundIn_of_wpIn trivial (hassign _ x W _ ⟨_, run_beginRound hl (by rw [hrec]), ?_⟩)⟩
      obtain ⟨W2, hW2⟩ : ∃ W2, W.putObj (w.heap.size + 1) (.loop { rec .ready none with state := .busy }) = W2 := ⟨_, rfl⟩
      rw [hW2]
      have ho2 : OnlyIn [w.heap.size + 1] W W2 := by rw [← hW2]; exact OnlyIn.putObj _ _ _ (by simp)
      have hs2 : W2.heap.size = W.heap.size := by rw [← hW2]; simp
      have hl2 : W2.heap[w.heap.size + 1]? = some (.loop { rec .ready none with state := .busy }) := by rw [← hW2]; exact World.putObj_heap_same hlt
      have hk2 : W2.heap[w.heap.size]? = some (.deferred (some [])) := (ho2.block _ (by omega) (by simp)).trans hk
      have hi2 : I pre W2 := hI _ _ _ hi (ho2.below (by omega) (by simp))
      have hrd2 : Rd W1.heap.size x W2 := hRd _ _ _ _ hrd (fun k hk1 hk2 => ho2.block k hk2 (by simp; omega))
      refine wpIn_mono (hbody _ W1.heap.size pre x W2 (by omega) (by omega) hi2 hnext hrd2) ?_
      have fin : ∀ (jump : Option Code) (W3 : World), OnlyIn own W2 W3 →
          ∃ W4, (Instr.endRound (w.heap.size + 1) jump).run P W3 = .ok (.bool jump.isNone) W4 ∧ OnlyIn [w.heap.size + 1] W3 W4 ∧
          W4.heap[w.heap.size + 1]? = some (.loop (rec (if jump.isNone then .ready else .done) jump)) ∧
          W4.heap[w.heap.size]? = some (.deferred (some [])) := fun jump W3 ho3 => by
        have hn1 : w.heap.size + 1 ∉ own := fun e => by have := hown _ e; omega
        have hn2 : w.heap.size ∉ own := fun e => by have := hown _ e; omega
        have hl3 := (ho3.block _ (by omega) hn1).trans hl2
        have hk3 := (ho3.block _ (by omega) hn2).trans hk2
        have hr := run_endRound (P := P) jump hl3
        refine ⟨_, hr, OnlyIn.putObj _ _ _ (by simp), ?_, ?_⟩
        · rw [hrec]; exact World.putObj_heap_same (Array.getElem?_eq_some_iff.1 hl3).1
        · exact (World.putObj_heap_other (by omega)).trans hk3
      rintro e a3 W3 hp
      cases e with
      | normal =>
        obtain ⟨ho3, hi3⟩ := hp
        obtain ⟨W4, hr, ho4, hl4, hk4⟩ := fin none W3 ho3
        have hs3 := ho3.size
        refine ⟨_, _, hr, .inl ⟨rfl, ⟨hI _ _ _ hi3 (ho4.below (by omega) (by simp)), hl4, hk4⟩, ?_⟩⟩
        exact ((ho2.mono (by simp)).trans (ho3.mono (fun k hk => List.mem_cons_of_mem _ hk))).trans (ho4.mono (by simp))
      | ret =>
        obtain ⟨ho3, hi3⟩ := hp
        obtain ⟨W4, hr, ho4, hl4, hk4⟩ := fin (some .ret) W3 ho3
        have hs3 := ho3.size
        exact ⟨_, _, hr, .inr ⟨rfl, hIx _ _ _ hi3 (ho4.below (by omega) (by simp)), hl4, hk4⟩⟩
      | exit id => exact hp.elim
      | goto t => exact hp.elim
      | panic ch => exact hp.elim
      | outgrown => exact hp.elim
    · rintro e W2 ⟨⟨v, rfl⟩, (⟨xs, hS, hi, hl, hk⟩ | ⟨pre, hi, hl, hk⟩)⟩
      · have hr := run_endLoop (P := P) hl (by rw [hrec]; simp)
        rw [show (rec .ready none).pending = none by rw [hrec]] at hr
        have hlt := (Array.getElem?_eq_some_iff.1 hl).1
        refine ⟨none, _, hr, hdone _ xs _ (Nat.le_refl _) hS (hI _ _ _ hi (OnlyIn.below (OnlyIn.putObj (own := [w.heap.size + 1]) _ _ _ (by simp)) (by omega) (by simp))) ((World.putObj_heap_other (by omega)).trans hk)⟩
      · have hr := run_endLoop (P := P) hl (by rw [hrec]; simp)
        rw [show (rec .done (some .ret)).pending = some .ret by rw [hrec]] at hr
        have hlt := (Array.getElem?_eq_some_iff.1 hl).1
        refine ⟨some .ret, _, hr, hstop _ pre _ (Nat.le_refl _) (hIx _ _ _ hi (OnlyIn.below (OnlyIn.putObj (own := [w.heap.size + 1]) _ _ _ (by simp)) (by omega) (by simp))) ((World.putObj_heap_other (by omega)).trans hk)⟩
end Go.Proofs.YtdpnmepplkiljaaDoor
