/-
  A law for a range over a function whose rounds may write into what they have made themselves; and the iterator of allCycles keeps it.
-/
import Derived.Test.YtdpnmepplkiljaaDoorN
import Derived.Test.YtdpnmepplkiljaaDoorZb
namespace Go.Proofs.YtdpnmepplkiljaaDoor
open Go.RowKit Go.Shelf

/-- Between W and W' only the blocks of S have turned; the streams are as they were; no block has gone. -/
structure Only (S : Nat → Prop) (W W' : World) : Prop where
  os : W'.os = W.os
  tape : W'.tape = W.tape
  output : W'.output = W.output
  size : W.heap.size ≤ W'.heap.size
  block : ∀ k, k < W.heap.size → ¬ S k → W'.heap[k]? = W.heap[k]?

theorem Only.refl (S : Nat → Prop) (W : World) : Only S W W := ⟨rfl, rfl, rfl, Nat.le_refl _, fun _ _ _ => rfl⟩
theorem Only.trans {S : Nat → Prop} {A B C : World} (h : Only S A B) (k : Only S B C) : Only S A C :=
  ⟨k.os.trans h.os, k.tape.trans h.tape, k.output.trans h.output, Nat.le_trans h.size k.size, fun i hi hn => (k.block i (Nat.lt_of_lt_of_le hi h.size) hn).trans (h.block i hi hn)⟩
theorem Only.mono {S T : Nat → Prop} {A B : World} (h : Only S A B) (hs : ∀ k, S k → T k) : Only T A B :=
  ⟨h.os, h.tape, h.output, h.size, fun i hi hn => h.block i hi (fun e => hn (hs i e))⟩
theorem Only.of_below {S : Nat → Prop} {A B : World} (h : Below A.heap.size A B) : Only S A B := ⟨h.os, h.tape, h.output, h.size, fun k hk _ => h.block k hk⟩
theorem Only.setCell {S : Nat → Prop} {A W : World} (h : Only S A W) {p : Addr} (hp : S p.block) (u : Value) : Only S A (W.setCell p u) :=
  h.trans ⟨rfl, rfl, rfl, by simp [World.setCell], fun k _ hn => Below.heap_setCell _ _ _ _ (fun e => hn (e ▸ hp))⟩
theorem Only.alloc {S : Nat → Prop} {A W : World} (h : Only S A W) (o : Obj) : Only S A (W.alloc o) :=
  h.trans (Only.of_below ((Below.refl _ W).alloc (Nat.le_refl _) o))
theorem Only.drew {S : Nat → Prop} {A W : World} (h : Only S A W) : Only S A W.drew := ⟨h.os, h.tape, h.output, h.size, h.block⟩
theorem Only.grown {S : Nat → Prop} {A W W' : World} {ob : Option Nat} (h : Only S A W) (hg : W.grownBy W' ob) (ho : ∀ k, ob = some k → k < A.heap.size → S k) : Only S A W' := by
  refine ⟨hg.os.trans h.os, hg.tape.trans h.tape, hg.output.trans h.output, Nat.le_trans h.size hg.size, fun k hk hn => ?_⟩
  exact (hg.block k (Nat.lt_of_lt_of_le hk h.size) (fun e => hn (ho k e.symm hk))).trans (h.block k hk hn)
theorem Only.putObj {S : Nat → Prop} (W : World) (r : Nat) (o : Obj) (hr : S r) : Only S W (W.putObj r o) :=
  ⟨rfl, rfl, rfl, by simp, fun _ _ hn => World.putObj_heap_other (fun e => hn (e ▸ hr))⟩
theorem Only.below {S : Nat → Prop} {A B : World} {n : Nat} (h : Only S A B) (hn : n ≤ A.heap.size) (ho : ∀ k, S k → n ≤ k) : Below n A B :=
  ⟨h.os, h.tape, h.output, h.size, fun k hk => h.block k (by omega) (fun e => by have := ho k e; omega)⟩

/-- WHAT AN ITERATOR VALUE PROMISES whose only state is the block that it makes first: over every invariant J of the caller's that stands where nothing but that block turns, if each round, at an element x that may come behind pre and reads in the world as it should, hands back true, carries J on and turns none but the caller's own blocks and those that are newer than the state, or hands back false with Jx: then it returns, and all have come, or it was stopped. -/
def IterOk2 {α : Type} (n : Nat) (P : Program) (gf : Nat) (lb : Array Value) (encs : α → Array Value) (Next : List α → α → Prop) (Rd : Nat → α → World → Prop) (S : List α → Prop) (own : List Nat) (w : World) : Prop :=
  ∀ (l : Nat) (J Jx : List α → World → Prop) (W : World), Below w.heap.size w W → l < W.heap.size → w.heap.size ≤ l →
    (∀ pre A B, J pre A → Only (fun k => k = W.heap.size) A B → J pre B) →
    (∀ pre x W1, J pre W1 → Next pre x → Rd (W.heap.size + 1) x W1 → W.heap.size < W1.heap.size → YieldAt Fence.wide (n - 1) P l (encs x) W1 fun e W' =>
      (e = .returned (.bool true) ∧ J (pre ++ [x]) W' ∧ Only (fun k => k = l ∨ k ∈ own ∨ W.heap.size < k) W1 W') ∨ (e = .returned (.bool false) ∧ Jx (pre ++ [x]) W')) →
    J [] W →
    CallsIn Fence.wide n P gf (#[.func (.yield l) #[] #[]] ++ lb) W fun e W' => (∃ v, e = .returned v) ∧ ((∃ xs, S xs ∧ J xs W') ∨ (∃ pre, Jx pre W'))

/-- HOW THE BODY OF A ROUND MAY BE LEFT: off its end, or by a return. -/
def bodyEnds2 {α : Type} (own : List Nat) (D : Nat) (I Ix : List α → World → Prop) (xs : List α) (W : World) : Exit → Act → World → Prop
  | .normal, _, W' => Only (fun k => k ∈ own ∨ D < k) W W' ∧ I xs W'
  | .ret, _, W' => Only (fun k => k ∈ own ∨ D < k) W W' ∧ Ix xs W'
  | _, _, _ => False

theorem rangeFunc_iter2 {α : Type} {n : Nat} {P : Program} {g : Operand} {ps : Array Tmp} {assign body : Code} {Q : Exit → Act → World → Prop} {a : Act} {w : World}
    {gf : Nat} {lb : Array Value} (hg : a.eval g = .func (.func gf) #[] lb) (eg : ∀ args w, (callFunc gf args).run P w = .ok (.enter gf args) w)
    {encs : α → Array Value} {Next : List α → α → Prop} {Rd : Nat → α → World → Prop} {S : List α → Prop} {own : List Nat} (hseq : IterOk2 (n - 1) P gf lb encs Next Rd S own w)
    (hRd : ∀ D x A B, Rd D x A → (∀ k, D ≤ k → k < A.heap.size → B.heap[k]? = A.heap[k]?) → Rd D x B)
    (hown : ∀ k, k ∈ own → k < w.heap.size) (hps : ∀ x, (encs x).size = ps.size)
    (I Ix : List α → World → Prop) (hI : ∀ pre A B, I pre A → Only (fun k => k = w.heap.size + 1 ∨ k = w.heap.size + 2) A B → I pre B) (hIx : ∀ pre A B, Ix pre A → Only (fun k => k = w.heap.size + 1 ∨ k = w.heap.size + 2) A B → Ix pre B) (h0 : I [] w) (a₁ : α → Act)
    (hassign : ∀ (l : Nat) (x : α) (W : World) (K : Act → World → Prop), K (a₁ x) W →
      assign.wpIn (Fence.wide.inRound l) (n - 1 - 1) P (Exit.then K (fun _ _ _ => False)) { tmps := (ps.zip (encs x)).foldl (fun t (p, v) => t.setIfInBounds p v) a.tmps, defers := [] } W)
    (hbody : ∀ (l : Nat) (pre : List α) (x : α) (W : World), w.heap.size + 2 < W.heap.size → I pre W → Next pre x → Rd (w.heap.size + 3) x W →
      body.wpIn (Fence.wide.inRound l) (n - 1 - 1) P (bodyEnds2 own (w.heap.size + 2) I Ix (pre ++ [x]) W) (a₁ x) W)
    (hdone : ∀ (D : Nat) (xs : List α) (W : World), D = w.heap.size → S xs → I xs W → W.heap[D]? = some (.deferred (some [])) → Q .normal { a with defers := { target := .collected D, args := #[] } :: a.defers } W)
    (hstop : ∀ (D : Nat) (pre : List α) (W : World), D = w.heap.size → Ix pre W → W.heap[D]? = some (.deferred (some [])) → Code.ret.wpIn Fence.wide n P Q { a with defers := { target := .collected D, args := #[] } :: a.defers } W) :
    (Code.rangeFunc g ps assign body).wpIn Fence.wide n P Q a w := by
  refine wpIn_rangeFunc ?_
  intro fn _
  obtain ⟨rec, hrec⟩ : ∃ rec : LoopState → Option Code → Loop, rec = fun st pe => { state := st, pending := pe, fn, tmps := a.tmps, params := ps, assign, body, defers := w.heap.size } := ⟨_, rfl⟩
  obtain ⟨W1, hW1⟩ : ∃ W1, (w.alloc (.deferred (some []))).alloc (.loop (rec .ready none)) = W1 := ⟨_, rfl⟩
  have hsz1 : W1.heap.size = w.heap.size + 2 := by rw [← hW1]; simp
  have hL1 : W1.heap[w.heap.size + 1]? = some (.loop (rec .ready none)) := by
    rw [← hW1]
    have h := World.alloc_heap_new (w.alloc (.deferred (some []))) (.loop (rec .ready none))
    rwa [World.size_alloc] at h
  have hK1 : W1.heap[w.heap.size]? = some (.deferred (some [])) := by
    rw [← hW1]; exact (Below.heap_alloc _ _ _ (by simp)).trans (World.alloc_heap_new w _)
  have hb1 : Below w.heap.size w W1 := by
    rw [← hW1]; exact ((Below.refl _ w).alloc (Nat.le_refl _) _).alloc (by simp) _
  refine ⟨w.heap.size + 1, [{ target := .collected w.heap.size, args := #[] }], W1, { target := .fn (.func gf) lb, args := #[.func (.yield (w.heap.size + 1)) #[] #[]] }, W1, gf,
    #[.func (.yield (w.heap.size + 1)) #[] #[]] ++ lb, W1, ?_, ?_, fun _ _ => trivial, ?_, (fun h => by cases h), ?_⟩
  · rw [← hW1, hrec]; exact run_enterLoop_outer _ _ _ _ _
  · simp only [resolve, hg]
    simp [go_sem]
  · simp [invoke, go_sem, eg]
  · refine (hseq (w.heap.size + 1)
      (fun pre W => I pre W ∧ W.heap[w.heap.size + 1]? = some (.loop (rec .ready none)) ∧ W.heap[w.heap.size]? = some (.deferred (some [])))
      (fun pre W => Ix pre W ∧ W.heap[w.heap.size + 1]? = some (.loop (rec .done (some .ret))) ∧ W.heap[w.heap.size]? = some (.deferred (some [])))
      W1 hb1 (by omega) (by omega)
      (fun pre A B h hB => ⟨hI pre A B h.1 (hB.mono (fun k e => .inr (by omega))), (hB.block _ (Array.getElem?_eq_some_iff.1 h.2.1).1 (by omega)).trans h.2.1, (hB.block _ (Array.getElem?_eq_some_iff.1 h.2.2).1 (by omega)).trans h.2.2⟩)
      ?_ ⟨hI _ _ _ h0 (Only.of_below hb1), hL1, hK1⟩).mono ?_
    · rintro pre x W ⟨hi, hl, hk⟩ hnext hrd hsz
      have hlt : w.heap.size + 1 < W.heap.size := (Array.getElem?_eq_some_iff.1 hl).1
      have hy := run_yield (P := P) (args := encs x) hl (by rw [hrec]; exact hps x)
      rw [hrec] at hy
      refine ⟨fn, _, assign, body, hy, roundIn_of_wpIn trivial (hassign _ x W _ ⟨_, run_beginRound hl (by rw [hrec]), ?_⟩)⟩
      obtain ⟨W2, hW2⟩ : ∃ W2, W.putObj (w.heap.size + 1) (.loop { rec .ready none with state := .busy }) = W2 := ⟨_, rfl⟩
      rw [hW2]
      have ho2 : Only (fun k => k = w.heap.size + 1) W W2 := by rw [← hW2]; exact Only.putObj _ _ _ rfl
      have hs2 : W2.heap.size = W.heap.size := by rw [← hW2]; simp
      have hl2 : W2.heap[w.heap.size + 1]? = some (.loop { rec .ready none with state := .busy }) := by rw [← hW2]; exact World.putObj_heap_same hlt
      have hk2 : W2.heap[w.heap.size]? = some (.deferred (some [])) := (ho2.block _ (by omega) (by omega)).trans hk
      have hi2 : I pre W2 := hI _ _ _ hi (ho2.mono (fun k e => .inl e))
      have hrd2 : Rd (w.heap.size + 3) x W2 := by
        have := hRd _ _ _ W2 hrd (fun k hk1 hk2 => ho2.block k hk2 (by omega))
        rwa [hsz1] at this
      refine wpIn_mono (hbody _ pre x W2 (by omega) hi2 hnext hrd2) ?_
      have fin : ∀ (jump : Option Code) (W3 : World), Only (fun k => k ∈ own ∨ w.heap.size + 2 < k) W2 W3 →
          ∃ W4, (Instr.endRound (w.heap.size + 1) jump).run P W3 = .ok (.bool jump.isNone) W4 ∧ Only (fun k => k = w.heap.size + 1) W3 W4 ∧
          W4.heap[w.heap.size + 1]? = some (.loop (rec (if jump.isNone then .ready else .done) jump)) ∧
          W4.heap[w.heap.size]? = some (.deferred (some [])) := fun jump W3 ho3 => by
        have hn1 : w.heap.size + 1 ∉ own := fun e => by have := hown _ e; omega
        have hn2 : w.heap.size ∉ own := fun e => by have := hown _ e; omega
        have hl3 := (ho3.block _ (by omega) (by intro e; rcases e with e | e; exact hn1 e; omega)).trans hl2
        have hk3 := (ho3.block _ (by omega) (by intro e; rcases e with e | e; exact hn2 e; omega)).trans hk2
        have hr := run_endRound (P := P) jump hl3
        refine ⟨_, hr, Only.putObj _ _ _ rfl, ?_, ?_⟩
        · rw [hrec]; exact World.putObj_heap_same (Array.getElem?_eq_some_iff.1 hl3).1
        · exact (World.putObj_heap_other (by omega)).trans hk3
      rintro e a3 W3 hp
      cases e with
      | normal =>
        obtain ⟨ho3, hi3⟩ := hp
        obtain ⟨W4, hr, ho4, hl4, hk4⟩ := fin none W3 ho3
        have hs3 := ho3.size
        refine ⟨_, _, hr, .inl ⟨rfl, ⟨hI _ _ _ hi3 (ho4.mono (fun k e => .inl e)), hl4, hk4⟩, ?_⟩⟩
        exact ((ho2.mono (fun k e => .inl e)).trans (ho3.mono (fun k e => by rcases e with e | e; exact .inr (.inl e); exact .inr (.inr (by omega))))).trans (ho4.mono (fun k e => .inl e))
      | ret =>
        obtain ⟨ho3, hi3⟩ := hp
        obtain ⟨W4, hr, ho4, hl4, hk4⟩ := fin (some .ret) W3 ho3
        have hs3 := ho3.size
        exact ⟨_, _, hr, .inr ⟨rfl, hIx _ _ _ hi3 (ho4.mono (fun k e => .inl e)), hl4, hk4⟩⟩
      | exit id => exact hp.elim
      | goto t => exact hp.elim
      | panic ch => exact hp.elim
      | outgrown => exact hp.elim
    · rintro e W2 ⟨⟨v, rfl⟩, (⟨xs, hS, hi, hl, hk⟩ | ⟨pre, hi, hl, hk⟩)⟩
      · have hr := run_endLoop (P := P) hl (by rw [hrec]; simp)
        rw [show (rec .ready none).pending = none by rw [hrec]] at hr
        have hlt := (Array.getElem?_eq_some_iff.1 hl).1
        refine ⟨none, _, hr, hdone _ xs _ rfl hS (hI _ _ _ hi (Only.putObj _ _ _ (.inl rfl))) ((World.putObj_heap_other (by omega)).trans hk)⟩
      · have hr := run_endLoop (P := P) hl (by rw [hrec]; simp)
        rw [show (rec .done (some .ret)).pending = some .ret by rw [hrec]] at hr
        have hlt := (Array.getElem?_eq_some_iff.1 hl).1
        refine ⟨some .ret, _, hr, hstop _ pre _ rfl (hIx _ _ _ hi (Only.putObj _ _ _ (.inl rfl))) ((World.putObj_heap_other (by omega)).trans hk)⟩

theorem cell_only2 {S : Nat → Prop} {w w' : World} (hB : Only S w w') {p : Addr} {v : Value} (hp : p.block < w.heap.size) (ho : ¬ S p.block) (h : w.cell? p = some v) : w'.cell? p = some v :=
  (World.cell?_of_block (w := w) (hB.block p.block hp ho)).trans h

theorem owns_only2 {S : Nat → Prop} {w w' : World} {base : Nat} {e : TypeId} {size : Nat} {v : Value} {n g : Nat} {xs : List Value} (h : w.ownsRow base e size v n xs) (hB : Only S w w') (hg : v.ownBlock = some g) (ho : ¬ S g) : w'.ownsRow base e size v n xs := by
  obtain ⟨h1, h2⟩ := h
  refine ⟨h1, ?_⟩
  rcases h2 with h2 | ⟨g', cap, cur, hv, hg', hh, r⟩
  · exact .inl h2
  · subst hv
    simp only [Value.ownBlock, Option.some.injEq] at hg
    subst hg
    exact .inr ⟨_, cap, cur, rfl, hg', (hB.block _ (Array.getElem?_eq_some_iff.1 hh).1 ho).trans hh, r⟩

theorem iter_step2 {wo wr w1 : World} {D i : Nat} {u : List Bool} {cs : List Nat} {v v' : Value} {tmp : Obj}
    (hS : wr.ownsRow D 62 1 (.slice (some ⟨D, 0, none⟩) 7 7) 7 (boolCells u)) (hc : wr.ownsRow wo.heap.size 3 1 v cs.length (natCells cs)) (hB : Only (fun k => k = D) wo wr) (hD : D < wo.heap.size)
    (hown' : w1.ownsRow wo.heap.size 3 1 v' (cs.length + 1) (natCells cs ++ [.int .i64 (i : Int)])) (hgrow : ((wr.setCell ⟨D, i, none⟩ (.bool true)).alloc tmp).grownBy w1 v.ownBlock) :
    Only (fun k => k = D) wo w1 ∧ w1.ownsRow D 62 1 (.slice (some ⟨D, 0, none⟩) 7 7) 7 (boolCells (u.set i true)) ∧ w1.ownsRow wo.heap.size 3 1 v' (cs ++ [i]).length (natCells (cs ++ [i])) := by
  have hrow : ∀ k, v.ownBlock = some k → wo.heap.size ≤ k := fun k e => (hc.lt k e).1
  obtain ⟨s1, g1⟩ := hS.stored i (.bool true)
  rw [boolCells_set] at s1
  have hB1 : Only (fun k => k = D) wo (wr.setCell ⟨D, i, none⟩ (.bool true)) := hB.setCell (p := ⟨D, i, none⟩) rfl _
  refine ⟨(hB1.alloc tmp).grown hgrow (fun k e hk => by have := hrow k e; omega), (s1.alloc tmp).kept hgrow (.inr ?_), ?_⟩
  · intro e
    have := hrow D e.symm
    omega
  · rw [List.length_append, natCells_snoc]; exact hown'

set_option maxRecDepth 100000 in
set_option maxHeartbeats 2000000 in
theorem iter_any2 (n : Nat) (hn : 1 ≤ n) (ps : List Nat) (m b off cap Bn : Nat) (w : World) (own : List Nat) (hm1 : 1 ≤ m) (hm7 : m ≤ 7) (hpm : ps.length = m) (hlt : ∀ k, k < m → ps[k]?.getD 0 < m)
    (hb : b < w.heap.size) (hBn : Bn < w.heap.size) (hob : b ∉ own) (hoB : Bn ∉ own) (hown : ∀ k, k ∈ own → k < w.heap.size) (hrd : RdN w b off ps) (hbox : w.cell? ⟨Bn, 0, none⟩ = some (.slice (some ⟨b, off, none⟩) m cap)) :
    IterOk2 n Tryd.prog 43 #[.pointer (some ⟨Bn, 0, none⟩)] (fun x : Cyc => #[x.val]) (Cyc.Next ps) Cyc.Rd (fun xs => xs.map Cyc.cyc = allCyc ps) own w := by
  intro l J Jx W hW hl hlw hJ hY h0
  obtain ⟨i0, hi, hz0, hz1, hz2⟩ := info_parts Tryd.info3
  have hownS : (W.alloc (.cells #[.bool false, .bool false, .bool false, .bool false, .bool false, .bool false, .bool false] 62)).ownsRow W.heap.size 62 1 (.slice (some ⟨W.heap.size, 0, none⟩) 7 7) 7 (boolCells (List.replicate 7 false)) :=
    World.ownsRow_lit W _ 7 (Nat.le_refl _) (by unfold maxLen; omega) rfl
  have hb0 := (Below.refl W.heap.size W).alloc (Nat.le_refl _) (.cells #[.bool false, .bool false, .bool false, .bool false, .bool false, .bool false, .bool false] 62)
  have hJ0 := hJ _ _ _ h0 (Only.of_below hb0)
  have hbox0 := (hW.cell (p := ⟨Bn, 0, none⟩) hBn).trans hbox
  have hrd0 := hrd.below hW hb
  have hsz := hW.size
  have hbox1 := (hb0.cell (p := ⟨Bn, 0, none⟩) (by simp; omega)).trans hbox0
  have hrd1 := hrd0.below hb0 (by omega)
  clear hrd hbox h0 hbox0 hrd0
  refine callsIn_of_wp Tryd.func43 rfl trivial ?_ rfl
  simp only [Tryd.ntmps43, List.size_toArray, List.length_cons, List.length_nil, Nat.reduceAdd, Nat.reduceSub, Array.replicate_succ, Array.replicate_zero, List.push_toArray, List.append_toArray, List.nil_append, List.cons_append]
  gi_wp2
  have hPM := Lib.hid hpm
  have HLT := Lib.hid hlt
  have HJ := Lib.hid hJ
  have HY := Lib.hid hY
  have HOwn := Lib.hid hown
  clear hpm hlt hJ hY hown
  gi_loopw [9] (fun i wr => ∃ (k : Nat) (u : List Bool) (pre : List Cyc), k ≤ m ∧ i = .int .i64 k ∧ u.length = 7 ∧ pre.map Cyc.cyc ++ cycOuter ps (m - k) k u = allCyc ps ∧ J pre wr ∧
      wr.ownsRow W.heap.size 62 1 (.slice (some ⟨W.heap.size, 0, none⟩) 7 7) 7 (boolCells u) ∧ wr.cell? ⟨Bn, 0, none⟩ = some (.slice (some ⟨b, off, none⟩) m cap) ∧ RdN wr b off ps)
    (fun i _ => m - (intOf i).toNat)
  case atStart =>
    exact ⟨0, List.replicate 7 false, [], Nat.zero_le _, rfl, rfl, by rw [Nat.sub_zero, ← hPM.out]; rfl, hJ0, hownS, hbox1, hrd1⟩
  case round =>
    clear hownS hJ0 hbox1 hrd1 hb0
    obtain ⟨k, u, pre, hk, rfl, hul, hcy, hJw, hownS, hbox, hrd⟩ := hrel
    have HUL := Lib.hid hul
    have HCY := Lib.hid hcy
    clear hul hcy
    by_cases hkn : k < m
    · obtain ⟨j, hj⟩ : ∃ j, m - k = j + 1 := ⟨m - k - 1, by omega⟩
      have hj2 : m - (k + 1) = j := by omega
      have hcs : wr.cell? ⟨W.heap.size, k, none⟩ = some (.bool (u[k]?.getD false)) := (hownS.cellAt k (by omega)).trans (by simp [boolCells, show k < u.length by rw [HUL.out]; omega])
      by_cases hs : u[k]?.getD false = true
      · rw [hs] at hcs
        have he : cycOuter ps (m - k) k u = cycOuter ps (m - (k + 1)) (k + 1) u := by rw [hj, hj2]; simp [cycOuter, hs]
        have hcy2 := HCY.out
        rw [he] at hcy2
        have HC2 := Lib.hid hcy2
        clear hs he hcy2 hj hj2
        gi_wp2
        go_roundw
        case rel => exact ⟨k + 1, u, pre, by omega, by go_num, HUL.out, HC2.out, hJw, hownS, hbox, hrd⟩
        case measure => simp [intOf]; omega
      · have hs' : u[k]?.getD false = false := by simpa using hs
        rw [hs'] at hcs
        have he : cycOuter ps (m - k) k u = cycRun ps 7 u k :: cycOuter ps (m - (k + 1)) (k + 1) (cycSeen ps 7 u k) := by rw [hj, hj2]; simp [cycOuter, hs']
        have hcy2 := HCY.out
        rw [he] at hcy2
        have HC2 := Lib.hid hcy2
        have hne : 1 ≤ (cycRun ps 7 u k).length := by simp [cycRun, hs']
        have HNE := Lib.hid hne
        have hcu : cntF u ≤ 7 := by have := cntF_le u; rw [HUL.out] at this; exact this
        clear hs he hcy2 hj hj2 hs' hne
        obtain ⟨wo, hwo⟩ : ∃ wo : World, wo = wr := ⟨_, rfl⟩
        subst hwo
        gi_wp2
        gi_loopw [5, 6] (fun c x wr => ∃ (f i : Nat) (u' : List Bool) (cs : List Nat), x = .int .i64 i ∧ i < m ∧ u'.length = 7 ∧ cs.length + f = 7 ∧ cntF u' ≤ f ∧ cs ++ cycRun ps f u' i = cycRun ps 7 u k ∧ cycSeen ps f u' i = cycSeen ps 7 u k ∧
            wr.ownsRow W.heap.size 62 1 (.slice (some ⟨W.heap.size, 0, none⟩) 7 7) 7 (boolCells u') ∧ wr.ownsRow wo.heap.size 3 1 c cs.length (natCells cs) ∧ Only (fun k => k = W.heap.size) wo wr ∧ lenOf c = cs.length)
          (fun c _ _ => 7 - lenOf c)
        case atStart =>
          exact ⟨7, k, u, [], rfl, hkn, HUL.out, rfl, hcu, rfl, rfl, hownS, World.ownsRow_nil _ _ _ _, Only.refl _ _, rfl⟩
        case round =>
          clear hcs hcu
          obtain ⟨f, i, u', cs, rfl, him, hul', hcf, hcu, hcr, hcn, hownS', hcyc, hBo, hlc⟩ := hrel
          have HUL' := Lib.hid hul'
          have HCF := Lib.hid hcf
          have HCR := Lib.hid hcr
          have HCN := Lib.hid hcn
          have HLC := Lib.hid hlc
          have hcl : cs.length ≤ 7 := by omega
          clear hul' hcf hcr hcn hlc
          have hcs : wr.cell? ⟨W.heap.size, i, none⟩ = some (.bool (u'[i]?.getD false)) := (hownS'.cellAt i (by omega)).trans (by simp [boolCells, show i < u'.length by rw [HUL'.out]; omega])
          have hfs := hownS'.frozenAt i
          by_cases hs : u'[i]?.getD false = true
          · have hc1 : cs = cycRun ps 7 u k := by rw [← HCR.out, cycRun_seen ps f u' i hs, List.append_nil]
            have hc2 : u' = cycSeen ps 7 u k := by rw [← HCN.out, cycSeen_seen ps f u' i hs]
            have hpos : 1 ≤ cs.length := by rw [hc1]; exact HNE.out
            obtain ⟨g, cap', rfl⟩ := owns_pos hcyc hpos
            have hJo := HJ.out _ _ _ hJw hBo
            have hnext : Cyc.Next ps pre ⟨g, cap', cs⟩ := ⟨cycOuter ps (m - (k + 1)) (k + 1) (cycSeen ps 7 u k), by rw [← HC2.out, hc1]; simp⟩
            have hwoD : W.heap.size < wo.heap.size := (hownS.lt W.heap.size rfl).2
            have hBs := hBo.size
            obtain ⟨fn, tmps, assign, body, hy, hR⟩ := HY.out pre ⟨g, cap', cs⟩ wr hJo hnext (owns_weak hcyc (by omega)) (by omega)
            have HR := Lib.hid hR
            simp only [Cyc.val] at hy
            rw [hs] at hcs
            have HC1 := Lib.hid hc1
            have HC2' := Lib.hid hc2
            have hwrD : W.heap.size ≤ wr.heap.size := by omega
            have hbw : b < wr.heap.size := by omega
            have hBnw : Bn < wr.heap.size := by omega
            have hbl : ¬ (b = l ∨ b ∈ own ∨ W.heap.size < b) := fun e => by
              rcases e with e | e | e
              · omega
              · exact hob e
              · omega
            have hBl : ¬ (Bn = l ∨ Bn ∈ own ∨ W.heap.size < Bn) := fun e => by
              rcases e with e | e | e
              · omega
              · exact hoB e
              · omega
            have hol : ¬ (W.heap.size = l ∨ W.heap.size ∈ own ∨ W.heap.size < W.heap.size) := fun e => by
              rcases e with e | e | e
              · omega
              · have := HOwn.out _ e; omega
              · omega
            have HOL := Lib.hid hol
            have HBX := Lib.hid (cell_only2 hBo (p := ⟨Bn, 0, none⟩) (show Bn < wo.heap.size by omega) (show ¬ Bn = W.heap.size by omega) hbox)
            have hrdk : RdN wr b off ps := (fun j hj => cell_only2 hBo (p := ⟨b, off + j, none⟩) (show b < wo.heap.size by omega) (show ¬ b = W.heap.size by omega) (hrd j hj))
            have HRD := Lib.hid hrdk
            clear hs hc1 hc2 hR hol hbox hrd hrdk
            gi_wp2
            refine HR.out.mono ?_
            rintro e W3 (⟨rfl, hJ3, ho3⟩ | ⟨rfl, hJx3⟩)
            · gi_wp2
              go_roundw
              case rel =>
                refine ⟨k + 1, cycSeen ps 7 u k, pre ++ [⟨g, cap', cs⟩], by omega, by go_num, by rw [cycSeen_length]; exact HUL.out, ?_, hJ3, ?_, ?_, ?_⟩
                · rw [← HC2.out, HC1.out]; simp
                · rw [← HC2'.out]; exact owns_only2 hownS' ho3 rfl HOL.out
                · exact cell_only2 ho3 (p := ⟨Bn, 0, none⟩) hBnw hBl HBX.out
                · exact fun j hj => cell_only2 ho3 (p := ⟨b, off + j, none⟩) hbw hbl (HRD.out j hj)
              case measure => simp [intOf]; omega
            · gi_wp2
              refine bodyPost_ret (results_none rfl _ _ _) rfl ?_
              exact ⟨⟨_, rfl⟩, .inr ⟨_, hJx3⟩⟩
          · have hs' : u'[i]?.getD false = false := by simpa using hs
            rw [hs'] at hcs
            have hct := cntF_set u' i (by rw [HUL'.out]; omega) hs'
            obtain ⟨f', hf'⟩ : ∃ f', f = f' + 1 := ⟨f - 1, by omega⟩
            subst hf'
            have hcr2 : (cs ++ [i]) ++ cycRun ps f' (u'.set i true) (ps[i]?.getD 0) = cycRun ps 7 u k := by rw [← HCR.out]; simp [cycRun, hs']
            have hcn2 : cycSeen ps f' (u'.set i true) (ps[i]?.getD 0) = cycSeen ps 7 u k := by rw [← HCN.out]; simp [cycSeen, hs']
            have hcu2 : cntF (u'.set i true) ≤ f' := by omega
            have hx := HLT.out i him
            have HCR2 := Lib.hid hcr2
            have HCN2 := Lib.hid hcn2
            have HS := Lib.hid hownS'
            have HC := Lib.hid hcyc
            have hcyc2 := ownsRow_setCell_below hcyc (a := ⟨W.heap.size, i, none⟩) (Nat.lt_of_lt_of_le (hownS.lt W.heap.size rfl).2 (Nat.le_refl _)) (.bool true)
            have hBnW : Bn < wo.heap.size := by have := (hownS.lt W.heap.size rfl).2; omega
            have hBn1 : ¬ Bn = W.heap.size := by omega
            have hb1 : ¬ b = W.heap.size := by omega
            have hbW : b < wo.heap.size := by have := (hownS.lt W.heap.size rfl).2; omega
            have hrdi := hrd i (by rw [hPM.out]; exact him)
            have HRDI := Lib.hid hrdi
            have HBOX := Lib.hid hbox
            have hwoD : W.heap.size < wo.heap.size := (hownS.lt W.heap.size rfl).2
            have HNEW := Lib.hid (new_cell_set wr ⟨W.heap.size, i, none⟩ (.bool true) (.int .i64 (i : Int)) 3)
            clear hs hs' hct hcr2 hcn2 hrdi hbox hcyc
            gi_wp2_with (gi_at_builtin; refine wpListIn_append_own _ rfl _ _ 22 rfl wo.heap.size 3 i0 (.int .i64 0) 1 8 Tryd.underlying22 hi hz0 hz1 hz2 rfl (by decide) _ _ _ rfl (hcyc2.alloc _) ⟨wr.heap.size, 0, none⟩ 1 1 [.int .i64 (i : Int)] rfl rfl HNEW.out (by simp [Value.oneCell']) (by unfold maxLen; omega) (by omega) (by have := hBo.size; simp; omega) ?_; intro v' w1 hown' hgrow _; obtain ⟨g', cap', rfl⟩ := ownsRow_succ hown'; have hst := iter_step2 HS.out HC.out hBo hwoD hown' hgrow; have HST := Lib.hid hst.2; have hBw1 := hst.1; clear hst hown' hgrow; have cB := cell_only2 hBw1 (p := ⟨Bn, 0, none⟩) hBnW hBn1 HBOX.out; have cP := cell_only2 hBw1 (p := ⟨b, off + i, none⟩) hbW hb1 HRDI.out)
            go_roundw
            case rel => exact ⟨f', ps[i]?.getD 0, u'.set i true, cs ++ [i], rfl, hx, by rw [List.length_set]; exact HUL'.out, by have := HCF.out; simp; omega, hcu2, HCR2.out, HCN2.out, HST.out.1, HST.out.2, hBw1, by simp [lenOf]⟩
            case measure =>
              have h1 := HLC.out
              have h2 := HCF.out
              show 7 - (cs.length + 1) < 7 - lenOf _
              rw [h1]
              omega
    · have hkm : k = m := by omega
      subst hkm
      have hx : pre.map Cyc.cyc = allCyc ps := by rw [← HCY.out, Nat.sub_self]; simp [cycOuter]
      have HX := Lib.hid hx
      clear hx
      gi_wp2
      go_end0
      exact ⟨⟨_, rfl⟩, .inl ⟨pre, HX.out, hJw⟩⟩
end Go.Proofs.YtdpnmepplkiljaaDoor
