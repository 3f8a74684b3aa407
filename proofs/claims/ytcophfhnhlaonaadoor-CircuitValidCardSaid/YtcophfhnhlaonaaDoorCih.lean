/-
  The list of gates without equal ones, plainly and in memory: keys of gates, the state of a merger.
-/
import Derived.Test.YtcophfhnhlaonaaDoorCig
import Derived.Test.YtcophfhnhlaonaaDoorMp
import Derived.Test.YtcophfhnhlaonaaDoorUk
import Derived.DeepKeys5
import Derived.Deep.AppendLies
import Derived.Deep.RegionLaw
namespace Go.Proofs.YtcophfhnhlaonaaDoor
set_option linter.unusedVariables false
open Go.RowKit

instance : DecidableEq Gat := fun a b =>
  if h : a.k = b.k ∧ a.n = b.n ∧ a.ks = b.ks then isTrue (by cases a; cases b; simp only at h; rw [h.1, h.2.1, h.2.2]) else isFalse (fun e => h (by rw [e]; exact ⟨rfl, rfl, rfl⟩))
/-- The list with a gate, and where the gate is. -/
def addOne (gs : List Gat) (g : Gat) : List Gat × Nat :=
  match gs.findIdx? (fun x => decide (x = g)) with
  | some i => (gs, i)
  | none => (gs ++ [g], gs.length)
def keyA (g : Gat) : Int := g.ks[0]?.getD (-1)
def keyS (g : Gat) : Int := g.ks[1]?.getD (-1)
def keyG (g : Gat) : Value := .agg #[.int .i64 g.k, .int .i64 g.n, .int .i64 (keyA g), .int .i64 (keyS g)]
/-- What a gate that is merged keeps to. -/
def GK (g : Gat) : Prop := 0 ≤ g.k ∧ g.k ≤ 5 ∧ 0 ≤ g.n ∧ g.n ≤ 65536 ∧ g.ks.length ≤ 2 ∧ ∀ x ∈ g.ks, 0 ≤ x ∧ x ≤ 1048576
theorem GK.shape {g : Gat} (h : GK g) : g.ks = [] ∨ (∃ a, g.ks = [a] ∧ 0 ≤ a ∧ a ≤ 1048576) ∨ ∃ a b, g.ks = [a, b] ∧ 0 ≤ a ∧ a ≤ 1048576 ∧ 0 ≤ b ∧ b ≤ 1048576 := by
  obtain ⟨_, _, _, _, hl, hx⟩ := h
  match hk : g.ks with
  | [] => exact .inl rfl
  | [a] => rw [hk] at hx; have := hx a (by simp); exact .inr (.inl ⟨a, rfl, this⟩)
  | [a, b] => rw [hk] at hx; have h1 := hx a (by simp); have h2 := hx b (by simp); exact .inr (.inr ⟨a, b, rfl, h1.1, h1.2, h2.1, h2.2⟩)
  | a :: b :: c :: l => rw [hk] at hl; simp at hl
theorem keyG_inj {g h : Gat} (hg : GK g) (hh : GK h) (e : keyG g = keyG h) : g = h := by
  obtain ⟨k, n, ks⟩ := g
  obtain ⟨k', n', ks'⟩ := h
  simp only [keyG, Value.agg.injEq, Array.mk.injEq, List.cons.injEq, Value.int.injEq, true_and, and_true] at e
  obtain ⟨rfl, rfl, e1, e2⟩ := e
  have hks : ks = ks' := by
    rcases hg.shape with h | ⟨a, h, _, _⟩ | ⟨a, b, h, _, _, _, _⟩ <;> rcases hh.shape with h' | ⟨a', h', _, _⟩ | ⟨a', b', h', _, _, _, _⟩ <;> (
      dsimp only at h h'
      subst h
      subst h'
      simp [keyA, keyS] at e1 e2
      first
        | rfl
        | omega
        | (rw [e1, e2]; done)
        | (rw [e1]; done))
  rw [hks]
theorem findIdx_same {p q : Gat → Bool} : ∀ gs : List Gat, (∀ x ∈ gs, p x = q x) → gs.findIdx? p = gs.findIdx? q
  | [], _ => rfl
  | x :: xs, h => by
    rw [List.findIdx?_cons, List.findIdx?_cons, h x (by simp), findIdx_same xs (fun y hy => h y (by simp [hy]))]
open Classical in
/-- The map of a merger, as a function. -/
noncomputable def mapG (gs : List Gat) (x : Value) : Option Value := (gs.findIdx? (fun g => decide (keyG g = x))).map fun i => .int .i64 ((i : Nat) : Int)
open Classical in
theorem mapG_key {gs : List Gat} {g : Gat} (hgs : ∀ x ∈ gs, GK x) (hg : GK g) : mapG gs (keyG g) = (gs.findIdx? (fun x => decide (x = g))).map fun i => .int .i64 ((i : Nat) : Int) := by
  unfold mapG
  rw [findIdx_same gs (p := fun x => decide (keyG x = keyG g)) (q := fun x => decide (x = g)) (fun x hx => by
    by_cases h : x = g
    · subst h; simp
    · simp [h]; exact fun e => h (keyG_inj (hgs x hx) hg e))]
open Classical in
theorem mapG_put {gs : List Gat} {g : Gat} (hgs : ∀ x ∈ gs, GK x) (hg : GK g) (hn : gs.findIdx? (fun x => decide (x = g)) = none) (x : Value) : putF (mapG gs) (keyG g) (.int .i64 ((gs.length : Nat) : Int)) x = mapG (gs ++ [g]) x := by
  unfold putF
  by_cases h : x = keyG g
  · subst h
    rw [if_pos rfl, mapG_key (fun y hy => by simp at hy; rcases hy with hy | rfl; exact hgs y hy; exact hg) hg, List.findIdx?_append, hn]
    simp
  · rw [if_neg h]
    unfold mapG
    rw [List.findIdx?_append]
    have : ([g].findIdx? fun y => decide (keyG y = x)) = none := by simp; exact fun e => h e.symm
    rw [this]
    simp
open Classical in
theorem mapG_nil (x : Value) : mapG [] x = none := rfl

theorem Tryd.laidOutC : laidOutB Tryd.prog = true := by kernel_rfl
theorem keyC_keyed : Go.Maps.Keyed Tryd.prog 109 :=
  .of_law (deep_law_gate Tryd.laidOutC (by decide +kernel) (by decide +kernel) (by kernel_rfl) (by kernel_rfl))
theorem keyC_type : Tryd.prog.keyType 109 = true := by kernel_rfl
theorem keyC_cells : Tryd.prog.cellsOf 109 = 4 := by kernel_rfl
theorem intC_cells : Tryd.prog.cellsOf 3 = 1 := by kernel_rfl
theorem keyC_reads {g : Gat} (hg : GK g) : ∃ kl, keyOf Tryd.prog 109 (keyG g) = some kl := by
  have wf : ∀ z : Int, -1 ≤ z → z ≤ 1048576 → (Lit.int .i64 z).wf = true := fun z h1 h2 => WalkArith.wf_i64 (by omega)
  have hA : -1 ≤ keyA g ∧ keyA g ≤ 1048576 ∧ -1 ≤ keyS g ∧ keyS g ≤ 1048576 := by
    unfold keyA keyS
    rcases hg.shape with h | ⟨a, h, _, _⟩ | ⟨a, b, h, _, _, _, _⟩ <;> rw [h] <;> simp <;> omega
  obtain ⟨h1, h2, h3, h4, _⟩ := hg
  obtain ⟨a1, a2, a3, a4⟩ := hA
  have w0 := wf g.k (by omega) (by omega); have w1 := wf g.n (by omega) (by omega); have w2 := wf (keyA g) a1 a2; have w3 := wf (keyS g) a3 a4
  have e1 : ∀ d (z : Int), (Lit.int .i64 z).wf = true → Tryd.prog.keyLits (d + 1) 3 [.int .i64 z] = some [.int .i64 z] := fun d z hz => by simp [Program.keyLits, Tryd.underlying3, hz]
  have hs : ∃ m, Tryd.prog.types.size + 1 = m + 1 + 1 := ⟨Tryd.prog.types.size - 1, by decide +kernel⟩
  obtain ⟨m, hm⟩ := hs
  unfold keyOf
  rw [Tryd.underlying109]
  simp only [keyC_type, keyG, hm]
  unfold Program.keyLits
  rw [Tryd.underlying109]
  simp [Value.formed, Tryd.underlying109, keyC_cells, intC_cells, e1, Value.cells, w0, w1, w2, w3]

/-- The kids of a gate that stand: none, a row that lay below B, or a block of ints. -/
def KdV (B : Nat) (W : World) (v : Value) (ks : List Int) : Prop :=
  (ks = [] ∧ ∃ A c, v = .slice A 0 c) ∨ ∃ b off cap, v = .slice (some ⟨b, off, none⟩) ks.length cap ∧ b < W.heap.size ∧ (∀ j x, ks[j]? = some x → W.cell? ⟨b, off + j, none⟩ = some (.int .i64 x)) ∧ (b < B ∨ ∃ cs, W.heap[b]? = some (.cells cs 3 (0, 0)))
theorem KdV.keep {B : Nat} {W W' : World} {v : Value} {ks : List Int} (h : KdV B W v ks) (hB : Below B W W') (hk : ∀ (k : Nat) (cs : Array Value), W.heap[k]? = some (Obj.cells cs 3 (0, 0)) → W'.heap[k]? = W.heap[k]?) : KdV B W' v ks := by
  rcases h with h | ⟨b, off, cap, rfl, hb, hr, hw⟩
  · exact .inl h
  · have hblk : W'.heap[b]? = W.heap[b]? := by
      rcases hw with h | ⟨cs, h⟩
      · exact hB.block b h
      · exact hk b cs h
    exact .inr ⟨b, off, cap, rfl, Nat.lt_of_lt_of_le hb hB.size, fun j x hj => (World.cell?_of_block (w := W) (w' := W') (a := ⟨b, off + j, none⟩) hblk).trans (hr j x hj), hw.imp id fun ⟨cs, h⟩ => ⟨cs, hblk.trans h⟩⟩
theorem KdV.below {B : Nat} {W W' : World} {v : Value} {ks : List Int} (h : KdV B W v ks) (hB : Below W.heap.size W W') (hle : B ≤ W.heap.size) : KdV B W' v ks :=
  h.keep (hB.mono hle) fun k cs hk => hB.block k (Array.getElem?_eq_some_iff.1 hk).1
theorem KdV.reads {B : Nat} {W : World} {v : Value} {ks : List Int} (h : KdV B W v ks) (hl : ks.length ≤ 1000) : SlR W v ks := by
  rcases h with ⟨rfl, A, c, rfl⟩ | ⟨b, off, cap, rfl, _, hr, _⟩
  · exact ⟨A, c, rfl, RdI.nil _ _, by simp⟩
  · exact ⟨_, cap, rfl, fun j x hj => ⟨_, rfl, by rw [add_none]; exact hr j x hj⟩, by omega⟩

def flatG (L : List (Gat × Value)) : List Value := L.flatMap fun x => [.int .i64 x.1.k, .int .i64 x.1.n, x.2]
theorem flatG_length (L : List (Gat × Value)) : (flatG L).length = L.length * 3 := by
  induction L with
  | nil => rfl
  | cons x l ih => simp [flatG] at ih ⊢; omega
theorem flatG_at : ∀ (L : List (Gat × Value)) (k : Nat) (x : Gat × Value), L[k]? = some x → (flatG L)[k * 3]? = some (.int .i64 x.1.k) ∧ (flatG L)[k * 3 + 1]? = some (.int .i64 x.1.n) ∧ (flatG L)[k * 3 + 2]? = some x.2
  | [], k, x, h => by simp at h
  | y :: l, 0, x, h => by
    simp at h
    subst h
    simp [flatG]
  | y :: l, k + 1, x, h => by
    have := flatG_at l k x (by simpa using h)
    rw [show (k + 1) * 3 = k * 3 + 1 + 1 + 1 by omega]
    simpa [flatG] using this

/-- What a merger may turn: its block, its map, rows of gates that are not older than B. -/
structure FrM (B q mb : Nat) (W W' : World) : Prop where
  bel : Below B W W'
  rest : ∀ (b : Nat) (o : Obj), W.heap[b]? = some o → b ≠ q → b ≠ mb → (∀ cs : Array Value, o ≠ .cells cs 59 (0, 0)) → W'.heap[b]? = some o
theorem FrM.refl (B q mb : Nat) (W : World) : FrM B q mb W W := ⟨Below.refl _ _, fun _ _ h _ _ _ => h⟩
theorem FrM.trans {B q mb : Nat} {a b c : World} (h : FrM B q mb a b) (k : FrM B q mb b c) : FrM B q mb a c := ⟨h.bel.trans k.bel, fun x o ho h1 h2 h3 => k.rest x o (h.rest x o ho h1 h2 h3) h1 h2 h3⟩
theorem FrM.of_below {B q mb : Nat} {a b : World} (h : Below a.heap.size a b) (hB : B ≤ a.heap.size) : FrM B q mb a b := ⟨h.mono hB, fun x o ho _ _ _ => (h.block x (Array.getElem?_eq_some_iff.1 ho).1).trans ho⟩

/-- The state of a merger at q whose map is mb. -/
structure Mg (B q mb : Nat) (W : World) (L : List (Gat × Value)) : Prop where
  le : B ≤ q
  leM : B ≤ mb
  blk : ∃ lv, W.heap[q]? = some (.cells #[lv, .map (some mb)] 86 (0, 0)) ∧ W.ownsRow B 59 3 lv L.length (flatG L)
  map : MapOf W Tryd.prog 109 mb L.length (mapG (L.map Prod.fst))
  els : ∀ x ∈ L, KdV B W x.2 x.1.ks ∧ GK x.1
theorem Mg.lt {B q mb : Nat} {W : World} {L : List (Gat × Value)} (h : Mg B q mb W L) : q < W.heap.size := by
  obtain ⟨lv, h1, _⟩ := h.blk
  exact (Array.getElem?_eq_some_iff.1 h1).1
theorem Mg.below {B q mb : Nat} {W W' : World} {L : List (Gat × Value)} (h : Mg B q mb W L) (hB : Below W.heap.size W W') : Mg B q mb W' L := by
  obtain ⟨lv, h1, h2⟩ := h.blk
  have := h.lt
  have := h.le
  exact ⟨h.le, h.leM, ⟨lv, (hB.block q h.lt).trans h1, ownsRow_below h2 hB⟩, h.map.block (hB.block _ h.map.lt), fun x hx => ⟨(h.els x hx).1.below hB (by omega), (h.els x hx).2⟩⟩
theorem Mg.drew {B q mb : Nat} {W : World} {L : List (Gat × Value)} (h : Mg B q mb W L) : Mg B q mb W.drew L := h.below (Below.refl _ W).drew
theorem row_not_map {W : World} {base : Nat} {e : TypeId} {size k b : Nat} {v : Value} {xs : List Value} {es : Array MapEntry} {c : Nat} (hr : W.ownsRow base e size v k xs) (hm : W.heap[b]? = some (.map es c)) : v.ownBlock ≠ some b := by
  intro e'
  rcases hr.2 with ⟨rfl, _⟩ | ⟨g, cap, cur, rfl, _, hgb, _⟩
  · simp [Value.ownBlock] at e'
  · simp [Value.ownBlock] at e'
    subst e'
    rw [hgb] at hm
    cases hm
theorem row_not_cells {W : World} {base : Nat} {e t : TypeId} {size k b : Nat} {v : Value} {xs : List Value} {cs : Array Value} (hr : W.ownsRow base e size v k xs) (hm : W.heap[b]? = some (.cells cs t (0, 0))) (ht : t ≠ e) : v.ownBlock ≠ some b := by
  intro e'
  rcases hr.2 with ⟨rfl, _⟩ | ⟨g, cap, cur, rfl, _, hgb, _⟩
  · simp [Value.ownBlock] at e'
  · simp [Value.ownBlock] at e'
    subst e'
    rw [hgb] at hm
    simp at hm
    exact ht hm.2.symm

/-- Behind the append and the store of the list: the map lacks the gate still. -/
theorem Mg.pushed {B q mb : Nat} {W w5 : World} {L : List (Gat × Value)} {g : Gat} {u lv v' : Value} {tmp : Obj} (h : Mg B q mb W L) (hlv : W.heap[q]? = some (.cells #[lv, .map (some mb)] 86 (0, 0))) (hrow : W.ownsRow B 59 3 lv L.length (flatG L)) (hg : GK g) (hu : KdV B W u g.ks)
    (hown : w5.ownsRow B 59 3 v' (L.length + 1) (flatG L ++ [.int .i64 g.k, .int .i64 g.n, u])) (hgrow : (W.alloc tmp).grownBy w5 lv.ownBlock) :
    w5.heap[q]? = some (.cells #[lv, .map (some mb)] 86 (0, 0)) ∧
    (w5.setCell ⟨q, 0, none⟩ v').heap[q]? = some (.cells #[v', .map (some mb)] 86 (0, 0)) ∧
    (w5.setCell ⟨q, 0, none⟩ v').ownsRow B 59 3 v' (L ++ [(g, u)]).length (flatG (L ++ [(g, u)])) ∧
    MapOf (w5.setCell ⟨q, 0, none⟩ v') Tryd.prog 109 mb L.length (mapG (L.map Prod.fst)) ∧
    (∀ x ∈ L ++ [(g, u)], KdV B (w5.setCell ⟨q, 0, none⟩ v') x.2 x.1.ks ∧ GK x.1) ∧ FrM B q mb W (w5.setCell ⟨q, 0, none⟩ v') ∧ W.heap.size < w5.heap.size := by
  have hq := h.lt
  have hle := h.le
  have hsz := hgrow.size
  simp at hsz
  have kept5 : ∀ (k : Nat) (o : Obj), W.heap[k]? = some o → lv.ownBlock ≠ some k → w5.heap[k]? = some o := fun k o hk hl => by
    have hlt := (Array.getElem?_eq_some_iff.1 hk).1
    rw [hgrow.block k (by simp; omega) (fun e => hl e.symm), Below.heap_alloc _ _ _ hlt]
    exact hk
  have hq5 := kept5 q _ hlv (row_not_cells hrow hlv (by decide))
  have kept : ∀ (k : Nat) (o : Obj), W.heap[k]? = some o → k ≠ q → lv.ownBlock ≠ some k → (w5.setCell ⟨q, 0, none⟩ v').heap[k]? = some o := fun k o hk hn hl => by
    rw [heap_setCell_other _ _ _ _ (by exact hn)]
    exact kept5 k o hk hl
  have hbel : Below B W (w5.setCell ⟨q, 0, none⟩ v') := by
    have h1 : Below B W w5 := ((Below.refl B W).alloc (by omega) tmp).grown hgrow (by simp; omega) (fun k e => (hrow.lt k e).1)
    exact h1.setCell hle _
  have hint : ∀ (k : Nat) (cs : Array Value), W.heap[k]? = some (Obj.cells cs 3 (0, 0)) → (w5.setCell ⟨q, 0, none⟩ v').heap[k]? = W.heap[k]? := fun k cs hk => by
    rw [hk]
    refine kept k _ hk (fun e => ?_) (row_not_cells hrow hk (by decide))
    subst e
    rw [hlv] at hk
    simp at hk
  obtain ⟨es, c, hm, hr⟩ := h.map.has
  have hmq : mb ≠ q := fun e => by rw [e, hlv] at hm; cases hm
  refine ⟨hq5, ?_, ?_, h.map.block ((kept mb _ hm hmq (row_not_map hrow hm)).trans hm.symm), ?_, ⟨hbel, fun b o ho h1 h2 h3 => ?_⟩, by omega⟩
  · have := heap_setCell_same w5 q 0 _ _ v' hq5
    rw [this]
    rfl
  · have hvq : v'.ownBlock ≠ some q := row_not_cells hown hq5 (by decide)
    have e1 : (L ++ [(g, u)]).length = L.length + 1 := by simp
    have e2 : flatG (L ++ [(g, u)]) = flatG L ++ [.int .i64 g.k, .int .i64 g.n, u] := by simp [flatG]
    rw [e1, e2]
    exact ownsRow_setCell_other hown hvq _
  · intro x hx
    simp only [List.mem_append, List.mem_singleton] at hx
    rcases hx with hx | rfl
    · exact ⟨(h.els x hx).1.keep hbel hint, (h.els x hx).2⟩
    · exact ⟨hu.keep hbel hint, hg⟩
  · refine kept b o ho h1 (fun e => ?_)
    rcases hrow.2 with ⟨rfl, _⟩ | ⟨g', cap, cur, rfl, _, hgb, _⟩
    · simp [Value.ownBlock] at e
    · simp [Value.ownBlock] at e
      subst e
      rw [hgb] at ho
      cases ho
      exact h3 _ rfl
/-- Behind the store into the map. -/
theorem Mg.mapped {B q mb : Nat} {w7 w8 : World} {L : List (Gat × Value)} {lv : Value} {nn : Nat} {f : Value → Option Value} (hle : B ≤ q) (hleM : B ≤ mb) (h1 : w7.heap[q]? = some (.cells #[lv, .map (some mb)] 86 (0, 0))) (h2 : w7.ownsRow B 59 3 lv L.length (flatG L))
    (h3 : MapOf w7 Tryd.prog 109 mb nn f) (h4 : ∀ x ∈ L, KdV B w7 x.2 x.1.ks ∧ GK x.1) (hm : MapOf w8 Tryd.prog 109 mb L.length (mapG (L.map Prod.fst))) (hg : w7.grownBy w8 (some mb)) : Mg B q mb w8 L ∧ FrM B q mb w7 w8 := by
  obtain ⟨es, c, hmb, _⟩ := h3.has
  have hmq : mb ≠ q := fun e => by rw [e, h1] at hmb; cases hmb
  have hB : Below B w7 w8 := by
    have hlt := (Array.getElem?_eq_some_iff.1 h1).1
    exact (Below.refl B w7).grown hg (by omega) (fun k e => by cases e; exact hleM)
  have hk : ∀ (k : Nat) (o : Obj), w7.heap[k]? = some o → k ≠ mb → w8.heap[k]? = some o := fun k o ho hn =>
    (hg.block k (Array.getElem?_eq_some_iff.1 ho).1 (fun e => hn (by cases e; rfl))).trans ho
  refine ⟨⟨hle, hleM, ⟨lv, hk q _ h1 (fun e => hmq e.symm), h2.kept hg (.inr (row_not_map h2 hmb))⟩, hm, fun x hx => ⟨(h4 x hx).1.keep hB (fun k cs hkc => (hk k _ hkc (fun e => by rw [e, hmb] at hkc; cases hkc)).trans hkc.symm), (h4 x hx).2⟩⟩, hB, fun b o ho _ h2 _ => hk b o ho h2⟩
end Go.Proofs.YtcophfhnhlaonaaDoor
