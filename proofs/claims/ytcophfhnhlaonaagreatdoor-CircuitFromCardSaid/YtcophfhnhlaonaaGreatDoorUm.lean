/-
  Joined from Fmf, Fmg, Fmh: see there.
-/
import Derived.Test.YtcophfhnhlaonaaGreatDoorUl
import Derived.RegionDies
import Derived.Defers
import Derived.Recover
import Derived.Laws.Pointers
namespace Go.Proofs.YtcophfhnhlaonaaGreatDoor
set_option linter.unusedVariables false
open Go.RowKit

/-- The reader's text. -/
def RdrAt (w : World) (gr : Nat) (l : List UInt8) : Prop := w.cell? ⟨gr, 0, none⟩ = some (.string ⟨l.toArray⟩) ∧ w.frozen? ⟨gr, 0, none⟩ = false
theorem RdrAt.below {w w' : World} {gr : Nat} {l : List UInt8} (h : RdrAt w gr l) (hB : Below w.heap.size w w') : RdrAt w' gr l :=
  ⟨(hB.cell (World.block_lt_of_cell? w _ h.1)).trans h.1, (hB.frozen (p := ⟨gr, 0, none⟩) (World.block_lt_of_cell? w _ h.1)).trans h.2⟩
theorem RdrAt.put {w : World} {gr : Nat} {l : List UInt8} (h : RdrAt w gr l) (l' : List UInt8) : RdrAt (w.setCell ⟨gr, 0, none⟩ (.string ⟨l'.toArray⟩)) gr l' :=
  ⟨by simp [go_sem, h.1], by simp [go_sem, h.2]⟩
theorem RdrAt.lt {w : World} {gr : Nat} {l : List UInt8} (h : RdrAt w gr l) : gr < w.heap.size := World.block_lt_of_cell? w _ h.1
/-- What reading a node leaves. -/
def NodeIs (sh : List Sh) (m : Nat) (l : List UInt8) (gr : Nat) (w : World) (e : Ending) (w' : World) : Prop :=
  match pNode sh m l with
  | some (t, l') => ∃ v, e = .returned v ∧ TreV w.heap.size w' t v ∧ Only (· = gr) w w' ∧ RdrAt w' gr l'
  | none => e = .panicked [{ v := synV, recovered := false }] ∧ Only (· = gr) w w'
/-- Where readers stand: the table, the shapes. -/
structure RdS (W0 : World) (g gr : Nat) (sh : List Sh) (w : World) : Prop where
  bel : Below W0.heap.size W0 w
  gr0 : W0.heap.size ≤ gr
  ne : g ≠ gr
  shr : ShR w g sh
  glt : g < w.heap.size
theorem RdS.only {W0 w w' : World} {g gr : Nat} {sh : List Sh} (h : RdS W0 g gr sh w) (ho : Only (· = gr) w w') : RdS W0 g gr sh w' :=
  ⟨h.bel.trans (ho.below h.bel.size (fun k hk => by have := h.gr0; have hk : k = gr := hk; omega)), h.gr0, h.ne, fun k s hs => by
    obtain ⟨h0, h1, h2, h3⟩ := h.shr k s hs
    exact ⟨(ho.cell h.glt h.ne).trans h0, (ho.cell h.glt h.ne).trans h1, (ho.cell h.glt h.ne).trans h2, (ho.cell h.glt h.ne).trans h3⟩, Nat.lt_of_lt_of_le h.glt ho.size⟩
theorem RdS.below {W0 w w' : World} {g gr : Nat} {sh : List Sh} (h : RdS W0 g gr sh w) (hB : Below w.heap.size w w') : RdS W0 g gr sh w' := h.only (Only.of_below hB)

theorem NodeIs.no {sh : List Sh} {m gr : Nat} {l : List UInt8} {w w' : World} (h : pNode sh m l = none) (ho : Only (· = gr) w w') : NodeIs sh m l gr w (.panicked [{ v := synV, recovered := false }]) w' := by
  unfold NodeIs
  rw [h]
  exact ⟨rfl, ho⟩
theorem NodeIs.yes {sh : List Sh} {m gr : Nat} {l l' : List UInt8} {t : Tre} {v : Value} {w w' : World} (h : pNode sh m l = some (t, l')) (ht : TreV w.heap.size w' t v) (ho : Only (· = gr) w w') (hr : RdrAt w' gr l') : NodeIs sh m l gr w (.returned v) w' := by
  unfold NodeIs
  rw [h]
  exact ⟨v, rfl, ht, ho, hr⟩
theorem blk3_cells {w : World} {b : Nat} {x y z : Value} {T : TypeId} (h : w.heap[b]? = some (.cells #[x, y, z] T (0, 0))) : (w.cell? ⟨b, 0, none⟩ = some x ∧ w.cell? ⟨b, 1, none⟩ = some y ∧ w.cell? ⟨b, 2, none⟩ = some z) ∧ w.frozen? ⟨b, 0, none⟩ = false ∧ w.frozen? ⟨b, 1, none⟩ = false ∧ w.frozen? ⟨b, 2, none⟩ = false := by
  refine ⟨⟨?_, ?_, ?_⟩, ?_, ?_, ?_⟩ <;> simp [World.cell?, World.frozen?, h]
/-- A struct of three cells is stored. -/
def set3 (w : World) (b o : Nat) (x y z : Value) : World := ((w.setCell ⟨b, o, none⟩ x).setCell ⟨b, o + 1, none⟩ y).setCell ⟨b, o + 2, none⟩ z
theorem set3_heap {w : World} {b o : Nat} {cs : Array Value} {T : TypeId} (x y z : Value) (h : w.heap[b]? = some (.cells cs T (0, 0))) : (set3 w b o x y z).heap[b]? = some (.cells (((cs.setIfInBounds o x).setIfInBounds (o + 1) y).setIfInBounds (o + 2) z) T (0, 0)) := by
  have h1 := heap_setCell_same w b o cs T x h
  have h2 := heap_setCell_same _ b (o + 1) _ T y h1
  exact heap_setCell_same _ b (o + 2) _ T z h2
theorem set3_only {S : Nat → Prop} {A w : World} {b o : Nat} (h : Only S A w) (hb : A.heap.size ≤ b) (x y z : Value) : Only S A (set3 w b o x y z) :=
  ((h.setNew (p := ⟨b, o, none⟩) hb x).setNew (p := ⟨b, o + 1, none⟩) hb y).setNew (p := ⟨b, o + 2, none⟩) hb z
theorem set3_other {w : World} {b o : Nat} {x y z : Value} {p : Addr} (h : p.block ≠ b) : (set3 w b o x y z).cell? p = w.cell? p := by
  unfold set3
  rw [World.cell?_setCell_other _ _ _ _ (fun e => h (by rw [← e])), World.cell?_setCell_other _ _ _ _ (fun e => h (by rw [← e])), World.cell?_setCell_other _ _ _ _ (fun e => h (by rw [← e]))]
theorem set3_block {w : World} {b o k : Nat} {x y z : Value} (h : k ≠ b) : (set3 w b o x y z).heap[k]? = w.heap[k]? := by
  unfold set3
  rw [heap_setCell_other _ _ _ _ h, heap_setCell_other _ _ _ _ h, heap_setCell_other _ _ _ _ h]
theorem RdrAt.of_block {w w' : World} {gr : Nat} {l : List UInt8} (h : RdrAt w gr l) (hb : w'.heap[gr]? = w.heap[gr]?) : RdrAt w' gr l := by
  unfold RdrAt World.cell? World.frozen? at *
  simp only at *
  rw [hb]
  exact h
def zrow (k : Nat) : Array Value := madeCells (Value.agg #[.int .i64 0, .int .i64 0, .slice none 0 0]).cells (k * 3)
theorem zrow_size (k : Nat) : (zrow k).size = k * 3 := size_madeCells _ _
theorem Tryz.infoT3 : (Tryz.prog.info? 24).map (fun i => (i.zero, i.size, i.bytes)) = some (some (.agg #[.int .i64 0, .int .i64 0, .slice none 0 0]), 3, 40) := by kernel_rfl
theorem make_trees (n : Nat) (hn : n ≤ 1048576) : ∀ w : World, (Instr.makeSlice 22 (.int .i64 (n : Int)) (.int .i64 (n : Int))).run Tryz.prog w = .ok (.slice (some ⟨w.heap.size, 0, none⟩) n n) (w.alloc (.cells (zrow n) 24)) := by
  intro w
  obtain ⟨i0, hi, hz0, hz1, hz2⟩ := info_parts Tryz.infoT3
  have h := run_make (P := Tryz.prog) w 22 24 i0 (.agg #[.int .i64 0, .int .i64 0, .slice none 0 0]) Tryz.underlying22 hi hz0 .i64 .i64 (n : Int) (n : Int) (by omega) (by omega) (by rw [hz2]; omega) (by omega)
  rw [h, Int.toNat_natCast, hz1]
  rfl
/-- The row of kids while it is filled. -/
structure KRow (W : World) (gk n : Nat) (ts : List Tre) : Prop where
  blk : ∃ cs : Array Value, W.heap[gk]? = some (.cells cs 24 (0, 0)) ∧ cs.size = n * 3
  els : ∀ (j : Nat) (t : Tre), ts[j]? = some t → ∃ x y z, W.cell? ⟨gk, j * 3, none⟩ = some x ∧ W.cell? ⟨gk, j * 3 + 1, none⟩ = some y ∧ W.cell? ⟨gk, j * 3 + 2, none⟩ = some z ∧ TreV (gk + 1) W t (.agg #[x, y, z])
theorem KRow.tree {W : World} {gk n B : Nat} {ts : List Tre} (h : KRow W gk n ts) (hB : B ≤ gk) (hn : ts.length = n) (k m : Int) : TreV B W (.mk k m ts) (.agg #[.int .i64 k, .int .i64 m, .slice (some ⟨gk, 0, none⟩) n n]) := by
  unfold TreV
  refine ⟨some ⟨gk, 0, none⟩, n, by rw [hn], RowV.of fun j t hj => ?_⟩
  obtain ⟨x, y, z, c0, c1, c2, ht⟩ := h.els j t hj
  refine ⟨gk, 0, x, y, z, rfl, hB, ?_, ?_, ?_, ht.mono (by omega)⟩
  · rw [Nat.zero_add, Nat.zero_add]; exact c0
  · rw [Nat.zero_add, Nat.zero_add]; exact c1
  · rw [Nat.zero_add, Nat.zero_add]; exact c2
theorem KRow.keep {W W' : World} {gk n : Nat} {ts : List Tre} (h : KRow W gk n ts) (hk : KeepB gk W W') : KRow W' gk n ts := by
  obtain ⟨cs, h1, h2⟩ := h.blk
  refine ⟨⟨cs, (hk gk (Nat.le_refl _) (Array.getElem?_eq_some_iff.1 h1).1).trans h1, h2⟩, fun j t hj => ?_⟩
  obtain ⟨x, y, z, c0, c1, c2, ht⟩ := h.els j t hj
  exact ⟨x, y, z, hk.cell (Nat.le_refl _) c0, hk.cell (Nat.le_refl _) c1, hk.cell (Nat.le_refl _) c2, ht.keep (fun b hb hl => hk b (by omega) hl)⟩
theorem set3_cell {w : World} {b o q : Nat} {x y z : Value} (h0 : q ≠ o) (h1 : q ≠ o + 1) (h2 : q ≠ o + 2) : (set3 w b o x y z).cell? ⟨b, q, none⟩ = w.cell? ⟨b, q, none⟩ := by
  unfold set3
  rw [World.cell?_setCell_other _ _ _ _ (fun e => by cases e; omega), World.cell?_setCell_other _ _ _ _ (fun e => by cases e; omega), World.cell?_setCell_other _ _ _ _ (fun e => by cases e; omega)]
theorem KRow.push {W : World} {gk n : Nat} {ts : List Tre} (h : KRow W gk n ts) {t : Tre} {x y z : Value} (hi : ts.length < n) (ht : TreV (gk + 1) W t (.agg #[x, y, z])) : KRow (set3 W gk (ts.length * 3) x y z) gk n (ts ++ [t]) := by
  obtain ⟨cs, h1, h2⟩ := h.blk
  have hh := set3_heap (o := ts.length * 3) x y z h1
  have hkb : KeepB (gk + 1) W (set3 W gk (ts.length * 3) x y z) := fun b hb _ => set3_block (by omega)
  refine ⟨⟨_, hh, by simp [h2]⟩, fun j u hj => ?_⟩
  by_cases hjl : j < ts.length
  · rw [List.getElem?_append_left hjl] at hj
    obtain ⟨x', y', z', c0, c1, c2, hu⟩ := h.els j u hj
    exact ⟨x', y', z', (set3_cell (by omega) (by omega) (by omega)).trans c0, (set3_cell (by omega) (by omega) (by omega)).trans c1, (set3_cell (by omega) (by omega) (by omega)).trans c2, hu.keep hkb⟩
  · have hjl2 : j = ts.length := by
      have := (List.getElem?_eq_some_iff.1 hj).1
      simp at this
      omega
    subst hjl2
    rw [List.getElem?_append_right (Nat.le_refl _)] at hj
    simp at hj
    subst hj
    have b0 : ts.length * 3 < cs.size := by omega
    have b1 : ts.length * 3 + 1 < cs.size := by omega
    have b2 : ts.length * 3 + 2 < cs.size := by omega
    refine ⟨x, y, z, ?_, ?_, ?_, ht.keep hkb⟩
    · simp [World.cell?, hh, b0]
    · simp [World.cell?, hh, b1]
    · simp [World.cell?, hh, b2]
theorem KRow.cells {W : World} {gk n i : Nat} {ts : List Tre} (h : KRow W gk n ts) (hi : i < n) : (∃ v0 v1 v2, W.cell? ⟨gk, i * 3, none⟩ = some v0 ∧ W.cell? ⟨gk, i * 3 + 1, none⟩ = some v1 ∧ W.cell? ⟨gk, i * 3 + 2, none⟩ = some v2) ∧ W.frozen? ⟨gk, i * 3, none⟩ = false ∧ W.frozen? ⟨gk, i * 3 + 1, none⟩ = false ∧ W.frozen? ⟨gk, i * 3 + 2, none⟩ = false := by
  obtain ⟨cs, h1, h2⟩ := h.blk
  refine ⟨⟨cs[i * 3]'(by omega), cs[i * 3 + 1]'(by omega), cs[i * 3 + 2]'(by omega), ?_, ?_, ?_⟩, ?_, ?_, ?_⟩ <;> simp [World.cell?, World.frozen?, h1] <;> omega
theorem pKids_no {f : List UInt8 → Option (Tre × List UInt8)} {i : Nat} {l : List UInt8} (h : pKids f i l = none) : ∀ k, i ≤ k → pKids f k l = none
  | 0, hk => by
    have : i = 0 := by omega
    subst this
    simp [pKids] at h
  | k + 1, hk => by
    rcases Nat.lt_or_ge k i with hlt | hge
    · rw [show k + 1 = i by omega]; exact h
    · rw [pKids, pKids_no h k hge]
theorem trimPrefix_length (l p : List UInt8) : (Lib.trimPrefix l p).length ≤ l.length := by
  unfold Lib.trimPrefix
  split <;> simp
theorem stripP_len {p l l' : List UInt8} (h : stripP p l = some l') : l'.length ≤ l.length := by
  unfold stripP at h
  split at h
  · simp at h
    rw [← h]
    exact trimPrefix_length l p
  · simp at h
theorem pKids_len {f : List UInt8 → Option (Tre × List UInt8)} (hf : ∀ l t l', f l = some (t, l') → l'.length ≤ l.length) : ∀ {i : Nat} {l l' : List UInt8} {ts : List Tre}, pKids f i l = some (ts, l') → l'.length ≤ l.length
  | 0, l, l', ts, h => by
    simp [pKids] at h
    rw [h.2]; exact Nat.le_refl _
  | i + 1, l, l', ts, h => by
    unfold pKids at h
    split at h
    · simp at h
    · rename_i ts1 l1 h1
      split at h
      · simp at h
      · rename_i l2 h2
        split at h
        · simp at h
        · rename_i t l3 h3
          simp at h
          rw [← h.2]
          have a1 := pKids_len hf h1
          have a3 := hf _ _ _ h3
          have a2 : l2.length ≤ l1.length := by
            split at h2
            · simp at h2; rw [h2]; exact Nat.le_refl _
            · exact stripP_len h2
          omega
theorem numN_len {lim : Nat} {l l' : List UInt8} {v : Int} (h : numN lim l = some (v, l')) : l'.length ≤ l.length := by
  unfold numN at h
  split at h
  · split at h
    · simp at h
      rw [← h.2]
      exact trimLeft_suffix l
    · simp at h
  · simp at h
theorem pNode_len {sh : List Sh} : ∀ {m : Nat} {l l' : List UInt8} {t : Tre}, pNode sh m l = some (t, l') → l'.length ≤ l.length
  | 0, l, l', t, h => by simp [pNode] at h
  | m + 1, l, l', t, h => by
    unfold pNode at h
    split at h
    · simp at h
    · split at h
      · simp at h
      · rename_i s _ l1 h1
        have a1 := stripP_len h1
        split at h
        · split at h
          · simp at h
          · rename_i h2
            simp at h
            rw [← h.2]
            exact Nat.le_trans (numN_len h2) a1
        · split at h
          · simp at h
          · rename_i h2
            have a2 := pKids_len (fun l t l' h => pNode_len h) h2
            split at h
            · simp at h
            · rename_i h3
              simp at h
              rw [← h.2]
              have a3 := stripP_len h3
              omega

set_option maxRecDepth 100000 in
set_option maxHeartbeats 8000000 in
theorem readNode_ok (W0 : World) (g gr : Nat) (sh : List Sh) (h2 : 2 ≤ sh.length) (h6 : sh.length ≤ 6) (hop : ∀ s ∈ sh, s.op.length ≤ 10) (hnum : ∀ s ∈ sh, s.num ≤ 65536) (hkids : ∀ s ∈ sh, s.kids ≤ 2)
    (htab : ∀ W, Below W0.heap.size W0 W → Lib.TabIs Tryz.prog W "internal/strconv.uint64pow10" .u64 Lib.pow10Tab) (herr : ∀ W, Below W0.heap.size W0 W → ErrsAt W) :
    ∀ (m : Nat), m ≤ 1000 → ∀ (l : List UInt8) (w : World), l.length ≤ 40000 → RdS W0 g gr sh w → RdrAt w gr l →
    Calls Tryz.prog 74 #[langV g sh 76 77, .pointer (some ⟨gr, 0, none⟩), .int .i64 ((1001 - m : Nat) : Int)] w (NodeIs sh m l gr w) := by
  intro m
  induction m with
  | zero =>
    intro _ l w hl hS hR
    have HB := Lib.hid (below2 w (.cells #[.slice (some ⟨g, 0, none⟩) sh.length sh.length, .func (Fn.func 76) #[] #[], .func (Fn.func 77) #[] #[]] 98) (.cells #[.int .i64 0, .int .i64 0, .slice none 0 0] 24))
    clear hS hR
    unfold langV
    go_enter Tryz.func74, Tryz.ntmps74
    go_wp2_with fail
    exact ⟨rfl, rfl, Only.of_below HB.out⟩
  | succ m ih =>
    intro hm l w hl hS hR
    have hb0 := below2 w (.cells #[.slice (some ⟨g, 0, none⟩) sh.length sh.length, .func (Fn.func 76) #[] #[], .func (Fn.func 77) #[] #[]] 98) (.cells #[.int .i64 0, .int .i64 0, .slice none 0 0] 24)
    obtain ⟨w0, hw0⟩ : ∃ w0, w0 = (w.alloc (.cells #[.slice (some ⟨g, 0, none⟩) sh.length sh.length, .func (Fn.func 76) #[] #[], .func (Fn.func 77) #[] #[]] 98)).alloc (.cells #[.int .i64 0, .int .i64 0, .slice none 0 0] 24) := ⟨_, rfl⟩
    have hlb : ∀ i, w0.cell? ⟨w.heap.size, i, none⟩ = (#[Value.slice (some ⟨g, 0, none⟩) sh.length sh.length, .func (Fn.func 76) #[] #[], .func (Fn.func 77) #[] #[]] : Array Value)[i]? := fun i => by
      rw [hw0, World.cell?_alloc_lt _ _ _ (by simp)]
      exact World.cell?_alloc_new _ _ _ _
    have hrv : w0.heap[w.heap.size + 1]? = some (.cells #[.int .i64 0, .int .i64 0, .slice none 0 0] 24 (0, 0)) := by
      rw [hw0]; exact alloc_at _ _ _ (by simp)
    rw [← hw0] at hb0
    have HS0 := Lib.hid (hS.below hb0)
    have HR0 := Lib.hid (hR.below hb0)
    have HB0 := Lib.hid hb0
    have HW0 := Lib.hid hw0
    have HRV := Lib.hid hrv
    have HLB := Lib.hid hlb
    have HOP := Lib.hid hop
    have HNUM := Lib.hid hnum
    have HKIDS := Lib.hid hkids
    have HTAB := Lib.hid htab
    have HERR := Lib.hid herr
    have hkn := kindN_lt sh l sh.length (Nat.le_refl _) h2
    obtain ⟨s, hs⟩ : ∃ s, sh[kindN sh l sh.length]? = some s := ⟨_, List.getElem?_eq_getElem hkn⟩
    have HIH := Lib.hid (ih (by omega))
    have HKO := Lib.hid (fun W hW => kindOf_ok g 76 77 sh h2 h6 hop l W hW)
    have HL := Lib.hid hl
    have hnode : pNode sh (m + 1) l = match stripP s.op l with
      | none => none
      | some l1 =>
        if s.kids = 0 then
          match numN s.num l1 with
          | none => none
          | some (n, l2) => some (.mk (kindN sh l sh.length : Nat) n [], l2)
        else
          match pKids (pNode sh m) s.kids l1 with
          | none => none
          | some (ts, l2) =>
            match stripP [41] l2 with
            | none => none
            | some l3 => some (.mk (kindN sh l sh.length : Nat) 0 ts, l3) := by
      rw [pNode, hs]
      rfl
    have HNODE := Lib.hid hnode
    have hgrw : gr < w.heap.size := hR.lt
    have HLBC : Hid (∀ W, Only (· = gr) w0 W → W.cell? ⟨w.heap.size, 0, none⟩ = some (.slice (some ⟨g, 0, none⟩) sh.length sh.length) ∧ W.cell? ⟨w.heap.size, 1, none⟩ = some (.func (Fn.func 76) #[] #[]) ∧ W.cell? ⟨w.heap.size, 2, none⟩ = some (.func (Fn.func 77) #[] #[])) := Lib.hid (fun W ho => by
      have hlt0 : w.heap.size < w0.heap.size := by rw [hw0]; simp <;> omega
      refine ⟨(ho.cell (p := ⟨w.heap.size, 0, none⟩) hlt0 (by show ¬ w.heap.size = gr; omega)).trans (hlb 0), (ho.cell (p := ⟨w.heap.size, 1, none⟩) hlt0 (by show ¬ w.heap.size = gr; omega)).trans (hlb 1), (ho.cell (p := ⟨w.heap.size, 2, none⟩) hlt0 (by show ¬ w.heap.size = gr; omega)).trans (hlb 2)⟩)
    have HRVC : Hid (∀ W, Only (· = gr) w0 W → W.heap[w.heap.size + 1]? = some (.cells #[.int .i64 0, .int .i64 0, .slice none 0 0] 24 (0, 0))) := Lib.hid (fun W ho => by
      have hlt0 : w.heap.size + 1 < w0.heap.size := by rw [hw0]; simp <;> omega
      exact (ho.block _ hlt0 (by show ¬ w.heap.size + 1 = gr; omega)).trans hrv)
    obtain ⟨hc0, hc1, hc2⟩ := HLBC.out w0 (Only.refl _ _)
    have hr1 := HR0.out.1
    have hlt1 : decide (1000 < ((1001 - (m + 1) : Nat) : Int)) = false := decide_eq_false (by omega)
    have hnest : ((1001 - (m + 1) : Nat) : Int) + 1 = ((1001 - m : Nat) : Int) := by omega
    have HNEST := Lib.hid hnest
    have hn0 : (0 : Int) ≤ ((1001 - (m + 1) : Nat) : Int) := by omega
    have hn1 : ((1001 - (m + 1) : Nat) : Int) ≤ 1000 := by omega
    generalize ((1001 - (m + 1) : Nat) : Int) = nst at *
    clear ih hb0 hw0 hrv hlb hS hR hop hnum hkids htab herr hl hnode hnest
    unfold langV at HKO HIH ⊢
    generalize hLL : sh.length = L at *
    go_enter Tryz.func74, Tryz.ntmps74
    go_upto_region 3 with fail
    rw [← HW0.out]
    go_cut [7] (fun t7 wx => t7 = .int .i64 (kindN sh l L : Nat) ∧ Only (· = gr) w0 wx ∧ RdrAt wx gr l)
    case first =>
      go_region_law (first
        | (go_simp; (with_reducible refine (HKO.out w0.drew (HS0.out.only (Only.refl _ _).drew).shr).mono ?_); rintro e w1 ⟨rfl, hB1⟩))
      all_goals
        go_wp2_with fail
        go_meet
        exact ⟨rfl, ((Only.refl (· = gr) w0).drew).trans (Only.of_below hB1), (HR0.out.below (Below.refl _ w0).drew).below hB1⟩
    case rest =>
      obtain ⟨rfl, ho1, hR1⟩ := hcut
      have HO1 := Lib.hid ho1
      have HR1 := Lib.hid hR1
      obtain ⟨c0, c1, c2⟩ := HLBC.out _ ho1
      obtain ⟨e0, e1, e2, e3⟩ := (HS0.out.only ho1).shr _ _ hs
      have HSH := Lib.hid hs
      have HOPL := Lib.hid (HOP.out s (List.mem_of_getElem? hs))
      have HNML := Lib.hid (HNUM.out s (List.mem_of_getElem? hs))
      have hkd := HKIDS.out s (List.mem_of_getElem? hs)
      generalize kindN sh l L = kn at *
      clear hs hc0 hc1 hc2 hr1 ho1 hR1
      go_wp2_with fail
      have hsz1 : w0.heap.size ≤ wc.heap.size := HO1.out.size
      have hsz0 : w.heap.size + 2 = w0.heap.size := by rw [HW0.out]; simp
      have ho2 := HO1.out.alloc (.cells #[.string ⟨s.op.toArray⟩, .int .i64 (s.num : Int), .int .i64 (s.kids : Int), .int .i64 (s.dep : Int)] 115)
      have hR2 := HR1.out.below (below1 wc (.cells #[.string ⟨s.op.toArray⟩, .int .i64 (s.num : Int), .int .i64 (s.kids : Int), .int .i64 (s.dep : Int)] 115))
      have hk1 : (wc.alloc (.cells #[.string ⟨s.op.toArray⟩, .int .i64 (s.num : Int), .int .i64 (s.kids : Int), .int .i64 (s.dep : Int)] 115)).cell? ⟨wc.heap.size, 1, none⟩ = some (.int .i64 (s.num : Int)) := World.cell?_alloc_new _ _ _ 1
      have hk2 : (wc.alloc (.cells #[.string ⟨s.op.toArray⟩, .int .i64 (s.num : Int), .int .i64 (s.kids : Int), .int .i64 (s.dep : Int)] 115)).cell? ⟨wc.heap.size, 2, none⟩ = some (.int .i64 (s.kids : Int)) := World.cell?_alloc_new _ _ _ 2
      have HO2 := Lib.hid ho2
      have HR2 := Lib.hid hR2
      have HSZ := Lib.hid (And.intro hsz0 hsz1)
      clear ho2 hR2 c0 c1 c2 e0 e1 e2 e3
      cases hst : stripP s.op l with
      | none =>
        refine (take_no gr s.op l hst _ HR2.out.1).mono ?_
        rintro e wx ⟨rfl, rfl⟩
        go_wp2_with fail
        exact ⟨rfl, NodeIs.no (by rw [HNODE.out, hst]) ((Only.of_below HB0.out).trans HO2.out)⟩
      | some l1 =>
        refine (take_yes gr s.op l l1 hst _ HR2.out.1 HR2.out.2).mono ?_
        rintro e w3 ⟨rfl, hw3⟩
        have ho3 : Only (· = gr) w0 w3 := by rw [hw3]; exact Only.setCell (S := (· = gr)) (p := ⟨gr, 0, none⟩) HO2.out rfl _
        have hR3 : RdrAt w3 gr l1 := by rw [hw3]; exact HR2.out.put l1
        have k1 : w3.cell? ⟨wc.heap.size, 1, none⟩ = some (.int .i64 (s.num : Int)) := by rw [hw3]; exact (World.cell?_setCell_other _ _ _ _ (fun e => by cases e)).trans hk1
        have k2 : w3.cell? ⟨wc.heap.size, 2, none⟩ = some (.int .i64 (s.kids : Int)) := by rw [hw3]; exact (World.cell?_setCell_other _ _ _ _ (fun e => by cases e)).trans hk2
        obtain ⟨c0, c1, c2⟩ := HLBC.out _ ho3
        have hl1 : l1.length ≤ 40000 := Nat.le_trans (stripP_len hst) HL.out
        have hnode := HNODE.out
        rw [hst] at hnode
        have HND := Lib.hid hnode
        have HO3 := Lib.hid ho3
        have HR3 := Lib.hid hR3
        have HL1 := Lib.hid hl1
        clear hnode ho3 hR3 hk1 hk2 hw3 hsz0 hsz1 hst
        by_cases hk0 : s.kids = 0
        · have d1 : ((s.kids : Int) == 0) = true := by simp [hk0]
          have HND2 := Lib.hid (HND.out.trans (if_pos hk0))
          cases hnn : numN s.num l1 with
          | none =>
            rw [hnn] at HND2
            have HNO := Lib.hid (show pNode sh (m + 1) l = none from HND2.out)
            have hsd := HS0.out.only HO3.out.drew
            have HN3 := Lib.hid (number_no gr s.num l1 hnn HNML.out HL1.out w3.drew (HR3.out.below (Below.refl _ w3).drew).1 (fun W' hB => HTAB.out W' (hsd.bel.trans (hB.mono hsd.bel.size))) (HERR.out _ hsd.bel))
            clear hnn HND2 hsd
            go_wp2_with fail
            go_region_dies
            all_goals
              refine HN3.out.mono ?_
              rintro e w4 ⟨rfl, hB4⟩
              exact ⟨rfl, NodeIs.no HNO.out ((Only.of_below HB0.out).trans (HO3.out.drew.trans (Only.of_below hB4)))⟩
          | some x =>
            obtain ⟨n, l2⟩ := x
            rw [hnn] at HND2
            have HND3 := Lib.hid HND2.out
            have HNC := Lib.hid (fun W (hW : Only (· = gr) w0 W) (hr : RdrAt W gr l1) => number_yes gr s.num l1 l2 n hnn HNML.out HL1.out W hr.1 hr.2 (fun W' hB => HTAB.out W' ((HS0.out.only hW).bel.trans (hB.mono (HS0.out.only hW).bel.size))))
            have HJ := Lib.hid (fun W => join_ok (kn : Int) n none 0 0 W)
            clear hnn HND2
            have HN3 := Lib.hid (HNC.out w3.drew HO3.out.drew (HR3.out.below (Below.refl _ w3).drew))
            go_wp2_with fail
            go_region_law (first
              | (go_simp; (with_reducible refine HN3.out.mono ?_); rintro e w4 ⟨rfl, ho4, hr4⟩; have hoN := HO3.out.drew.trans ho4; obtain ⟨n0, n1, n2⟩ := HLBC.out w4 hoN)
              | (go_simp; (with_reducible refine (HJ.out w4).mono ?_); rintro e w5 ⟨rfl, hB5⟩; have hoJ := hoN.trans (Only.of_below hB5); have hr5 := RdrAt.below hr4 hB5; obtain ⟨⟨v0, v1, v2⟩, z0, z1, z2⟩ := blk3_cells (HRVC.out w5 hoJ)))
            all_goals
              have hh := set3_heap (o := 0) (.int .i64 (kn : Int)) (.int .i64 n) (.slice none 0 0) (HRVC.out w5 hoJ)
              have ho6 := set3_only (o := 0) (b := w.heap.size + 1) ((Only.of_below HB0.out).trans hoJ) (Nat.le_succ _) (.int .i64 (kn : Int)) (.int .i64 n) (.slice none 0 0)
              have hr6 : RdrAt (set3 w5 (w.heap.size + 1) 0 (.int .i64 (kn : Int)) (.int .i64 n) (.slice none 0 0)) gr l2 := hr5.of_block (set3_block (by omega))
              have HF := Lib.hid (And.intro hh (And.intro ho6 hr6))
              clear hh ho6 hr6 hr5 hoJ hoN hr4 ho4 hB5
              go_wp2_with fail
              show bodyPost _ _ _ _ _ (set3 w5 (w.heap.size + 1) 0 (.int .i64 (kn : Int)) (.int .i64 n) (.slice none 0 0))
              obtain ⟨hh, ho6, hr6⟩ := HF.out
              generalize set3 w5 (w.heap.size + 1) 0 (.int .i64 (kn : Int)) (.int .i64 n) (.slice none 0 0) = W6 at *
              have hh' : W6.heap[w.heap.size + 1]? = some (.cells #[.int .i64 (kn : Int), .int .i64 n, .slice none 0 0] 24 (0, 0)) := hh
              obtain ⟨⟨v0, v1, v2⟩, _⟩ := blk3_cells hh'
              clear hh hh'
              exact bodyPost_ret (v := .agg #[.int .i64 (kn : Int), .int .i64 n, .slice none 0 0]) (by simp [results, Tryz.results74, go_sem, v0, v1, v2]) rfl (NodeIs.yes HND3.out (by unfold TreV; exact ⟨none, 0, rfl, by unfold RowV; trivial⟩) ho6 hr6)
        · have d1 : ((s.kids : Int) == 0) = false := by simp [hk0]
          have HND2 := Lib.hid (HND.out.trans (if_neg hk0))
          have HMK := Lib.hid (make_trees s.kids (by omega))
          have hmkW := make_trees s.kids (by omega)
          have HK0 : Hid (KRow (w3.alloc (.cells (zrow s.kids) 24)) w3.heap.size s.kids []) := Lib.hid ⟨⟨_, alloc_at _ _ _ rfl, zrow_size _⟩, fun j t hj => by simp at hj⟩
          have HO4 := Lib.hid (HO3.out.alloc (.cells (zrow s.kids) 24))
          have HR4 := Lib.hid (HR3.out.below (below1 w3 (.cells (zrow s.kids) 24)))
          have hgk : w0.heap.size ≤ w3.heap.size := HO3.out.size
          have HSZ3 := Lib.hid hgk
          clear hgk
          go_wp2_with fail
          go_loopw [10, 46] (fun _ iv W => ∃ (i : Nat) (ts : List Tre) (l2 : List UInt8), i ≤ s.kids ∧ iv = .int .i64 i ∧ pKids (pNode sh m) i l1 = some (ts, l2) ∧ l2.length ≤ 40000 ∧ Only (· = gr) w0 W ∧ RdrAt W gr l2 ∧ KRow W w3.heap.size s.kids ts) (fun _ iv _ => s.kids - (intOf iv).toNat)
          case atStart => exact ⟨0, [], l1, by omega, rfl, rfl, HL1.out, HO4.out, HR4.out, HK0.out⟩
          case round =>
            obtain ⟨i, ts, l2, hi, rfl, hpk, hl2, ho, hr, hkr⟩ := hrel
            have HPK := Lib.hid hpk
            have HO5 := Lib.hid ho
            have HR5 := Lib.hid hr
            have HKR := Lib.hid hkr
            have HL2 := Lib.hid hl2
            obtain ⟨c0, c1, c2⟩ := HLBC.out _ ho
            clear hpk hl2 ho hr hkr
            by_cases hik : i < s.kids
            · by_cases hi0 : i = 0
              · have dgt : decide ((0 : Int) < (i : Int)) = false := decide_eq_false (by omega)
                have dgt' : decide (0 < i) = false := decide_eq_false (by omega)
                have HI0 := Lib.hid hi0
                clear hi0
                have HIN : Hid (Calls Tryz.prog 74 #[.agg #[.slice (some ⟨g, 0, none⟩) L L, .func (Fn.func 76) #[] #[], .func (Fn.func 77) #[] #[]], .pointer (some ⟨gr, 0, none⟩), .int .i64 (nst + 1)] wr (NodeIs sh m l2 gr wr)) := Lib.hid (by rw [HNEST.out]; exact HIH.out l2 wr HL2.out (HS0.out.only HO5.out) HR5.out)
                go_wp2_with fail
                refine HIN.out.mono ?_
                rintro e w6 hN
                unfold NodeIs at hN
                cases hpn : pNode sh m l2 with
                | none =>
                  rw [hpn] at hN
                  obtain ⟨rfl, ho6⟩ := hN
                  have hnone := pKids_no (f := pNode sh m) (i := i + 1) (l := l1) (by rw [pKids, HPK.out]; simp only []; rw [if_pos HI0.out]; simp only []; rw [hpn]) s.kids hik
                  have HNO := Lib.hid (show pNode sh (m + 1) l = none by rw [HND2.out, hnone])
                  have HO6 := Lib.hid ((Only.of_below HB0.out).trans ((HO5.out).trans ho6))
                  clear hnone ho6 hpn
                  go_wp2_with fail
                  exact ⟨rfl, NodeIs.no HNO.out HO6.out⟩
                | some x =>
                  obtain ⟨t, l4⟩ := x
                  rw [hpn] at hN
                  obtain ⟨v, rfl, hT, ho6, hr6⟩ := hN
                  have HPK2 : Hid (pKids (pNode sh m) (i + 1) l1 = some (ts ++ [t], l4)) := Lib.hid (by rw [pKids, HPK.out]; simp only []; rw [if_pos HI0.out]; simp only []; rw [hpn])
                  have hkr6 : KRow w6 w3.heap.size s.kids ts := (HKR.out).keep (KeepB.of_only ho6 (fun k hk => by have hk' : k = gr := hk; have := HSZ3.out; have := HSZ.out; omega))
                  have hl4 : l4.length ≤ 40000 := Nat.le_trans (pNode_len hpn) (HL2.out)
                  have hsz6 : w3.heap.size + 1 ≤ (wr).heap.size := by
                    obtain ⟨cs, hcs, _⟩ := (HKR.out).blk
                    exact (Array.getElem?_eq_some_iff.1 hcs).1
                  obtain ⟨k', n', us⟩ := t
                  have hT2 := hT
                  unfold TreV at hT2
                  obtain ⟨A', c', rfl, _⟩ := hT2
                  have hlen : ts.length = i := pKids_length HPK.out
                  have hpu := hkr6.push (by omega) (hT.mono hsz6)
                  rw [hlen] at hpu
                  obtain ⟨⟨v0, v1, v2, q0, q1, q2⟩, z0, z1, z2⟩ := hkr6.cells hik
                  have ho7 := set3_only (o := i * 3) ((HO5.out).trans ho6) HSZ3.out (.int .i64 k') (.int .i64 n') (.slice A' us.length c')
                  have hr7 : RdrAt (set3 w6 w3.heap.size (i * 3) (.int .i64 k') (.int .i64 n') (.slice A' us.length c')) gr l4 := hr6.of_block (set3_block (by have := HSZ3.out; have := HSZ.out; omega))
                  have HF := Lib.hid (And.intro hl4 (And.intro ho7 (And.intro hr7 hpu)))
                  clear hT ho6 hr6 hpn hkr6 hl4 hsz6 hlen hpu ho7 hr7
                  go_wp2_with fail
                  go_roundw
                  case rel =>
                    have hF := HF.out
                    unfold set3 at hF
                    exact ⟨i + 1, ts ++ [.mk k' n' us], l4, by omega, by go_num, HPK2.out, hF⟩
                  case measure => simp [intOf]; omega
              · have dgt : decide ((0 : Int) < (i : Int)) = true := decide_eq_true (by omega)
                have dgt' : decide (0 < i) = true := decide_eq_true (by omega)
                cases hst2 : stripP [44, 32] l2 with
                | none =>
                  have hnone := pKids_no (f := pNode sh m) (i := i + 1) (l := l1) (by rw [pKids, HPK.out]; simp only []; rw [if_neg hi0, hst2]) s.kids hik
                  have HNO := Lib.hid (show pNode sh (m + 1) l = none by rw [HND2.out, hnone])
                  have HTK := Lib.hid (take_no gr [44, 32] l2 hst2 wr HR5.out.1)
                  clear hnone hst2
                  go_wp2_with fail
                  refine HTK.out.mono ?_
                  rintro e wx ⟨rfl, rfl⟩
                  go_wp2_with fail
                  exact ⟨rfl, NodeIs.no HNO.out ((Only.of_below HB0.out).trans HO5.out)⟩
                | some l3 =>
                  have HTK := Lib.hid (take_yes gr [44, 32] l2 l3 hst2 wr HR5.out.1 HR5.out.2)
                  have hl3 : l3.length ≤ 40000 := Nat.le_trans (stripP_len hst2) HL2.out
                  have HST2 := Lib.hid hst2
                  have HL3 := Lib.hid hl3
                  clear hst2 hl3
                  go_wp2_with fail
                  refine HTK.out.mono ?_
                  rintro e w5 ⟨rfl, hw5⟩
                  have HO5b : Hid (Only (· = gr) w0 w5) := Lib.hid (by rw [hw5]; exact Only.setCell (S := (· = gr)) (p := ⟨gr, 0, none⟩) HO5.out rfl _)
                  have HR5b : Hid (RdrAt w5 gr l3) := Lib.hid (by rw [hw5]; exact HR5.out.put l3)
                  have HKRb : Hid (KRow w5 w3.heap.size s.kids ts) := Lib.hid (HKR.out.keep (fun b hb _ => by rw [hw5]; exact heap_setCell_other _ _ _ _ (by show b ≠ gr; have := HSZ3.out; have := HSZ.out; omega)))
                  obtain ⟨c0, c1, c2⟩ := HLBC.out _ HO5b.out
                  clear hw5
                  have HIN : Hid (Calls Tryz.prog 74 #[.agg #[.slice (some ⟨g, 0, none⟩) L L, .func (Fn.func 76) #[] #[], .func (Fn.func 77) #[] #[]], .pointer (some ⟨gr, 0, none⟩), .int .i64 (nst + 1)] w5 (NodeIs sh m l3 gr w5)) := Lib.hid (by rw [HNEST.out]; exact HIH.out l3 w5 HL3.out (HS0.out.only HO5b.out) HR5b.out)
                  go_wp2_with fail
                  refine HIN.out.mono ?_
                  rintro e w6 hN
                  unfold NodeIs at hN
                  cases hpn : pNode sh m l3 with
                  | none =>
                    rw [hpn] at hN
                    obtain ⟨rfl, ho6⟩ := hN
                    have hnone := pKids_no (f := pNode sh m) (i := i + 1) (l := l1) (by rw [pKids, HPK.out]; simp only []; rw [if_neg hi0, HST2.out]; simp only []; rw [hpn]) s.kids hik
                    have HNO := Lib.hid (show pNode sh (m + 1) l = none by rw [HND2.out, hnone])
                    have HO6 := Lib.hid ((Only.of_below HB0.out).trans ((HO5b.out).trans ho6))
                    clear hnone ho6 hpn
                    go_wp2_with fail
                    exact ⟨rfl, NodeIs.no HNO.out HO6.out⟩
                  | some x =>
                    obtain ⟨t, l4⟩ := x
                    rw [hpn] at hN
                    obtain ⟨v, rfl, hT, ho6, hr6⟩ := hN
                    have HPK2 : Hid (pKids (pNode sh m) (i + 1) l1 = some (ts ++ [t], l4)) := Lib.hid (by rw [pKids, HPK.out]; simp only []; rw [if_neg hi0, HST2.out]; simp only []; rw [hpn])
                    have hkr6 : KRow w6 w3.heap.size s.kids ts := (HKRb.out).keep (KeepB.of_only ho6 (fun k hk => by have hk' : k = gr := hk; have := HSZ3.out; have := HSZ.out; omega))
                    have hl4 : l4.length ≤ 40000 := Nat.le_trans (pNode_len hpn) (HL3.out)
                    have hsz6 : w3.heap.size + 1 ≤ (w5).heap.size := by
                      obtain ⟨cs, hcs, _⟩ := (HKRb.out).blk
                      exact (Array.getElem?_eq_some_iff.1 hcs).1
                    obtain ⟨k', n', us⟩ := t
                    have hT2 := hT
                    unfold TreV at hT2
                    obtain ⟨A', c', rfl, _⟩ := hT2
                    have hlen : ts.length = i := pKids_length HPK.out
                    have hpu := hkr6.push (by omega) (hT.mono hsz6)
                    rw [hlen] at hpu
                    obtain ⟨⟨v0, v1, v2, q0, q1, q2⟩, z0, z1, z2⟩ := hkr6.cells hik
                    have ho7 := set3_only (o := i * 3) ((HO5b.out).trans ho6) HSZ3.out (.int .i64 k') (.int .i64 n') (.slice A' us.length c')
                    have hr7 : RdrAt (set3 w6 w3.heap.size (i * 3) (.int .i64 k') (.int .i64 n') (.slice A' us.length c')) gr l4 := hr6.of_block (set3_block (by have := HSZ3.out; have := HSZ.out; omega))
                    have HF := Lib.hid (And.intro hl4 (And.intro ho7 (And.intro hr7 hpu)))
                    clear hT ho6 hr6 hpn hkr6 hl4 hsz6 hlen hpu ho7 hr7
                    go_wp2_with fail
                    go_roundw
                    case rel =>
                      have hF := HF.out
                      unfold set3 at hF
                      exact ⟨i + 1, ts ++ [.mk k' n' us], l4, by omega, by go_num, HPK2.out, hF⟩
                    case measure => simp [intOf]; omega
            · have hik2 : i = s.kids := by omega
              have HPK2 : Hid (pKids (pNode sh m) s.kids l1 = some (ts, l2)) := Lib.hid (by rw [← hik2]; exact HPK.out)
              have HIK := Lib.hid hik2
              clear hik2
              cases hst2 : stripP [41] l2 with
              | none =>
                have HNO := Lib.hid (show pNode sh (m + 1) l = none by rw [HND2.out, HPK2.out]; simp only []; rw [hst2])
                have HTK := Lib.hid (take_no gr [41] l2 hst2 wr HR5.out.1)
                clear hst2
                go_wp2_with fail
                refine HTK.out.mono ?_
                rintro e wx ⟨rfl, rfl⟩
                go_wp2_with fail
                exact ⟨rfl, NodeIs.no HNO.out ((Only.of_below HB0.out).trans HO5.out)⟩
              | some l3 =>
                have HYES := Lib.hid (show pNode sh (m + 1) l = some (.mk (kn : Nat) 0 ts, l3) by rw [HND2.out, HPK2.out]; simp only []; rw [hst2])
                have HTK := Lib.hid (take_yes gr [41] l2 l3 hst2 wr HR5.out.1 HR5.out.2)
                have HJ := Lib.hid (fun W => join_ok (kn : Int) 0 (some ⟨w3.heap.size, 0, none⟩) s.kids s.kids W)
                have hlen : ts.length = s.kids := pKids_length HPK2.out
                have HLEN := Lib.hid hlen
                clear hst2 hlen
                go_wp2_with fail
                refine HTK.out.mono ?_
                rintro e w5 ⟨rfl, hw5⟩
                have ho5 : Only (· = gr) w0 w5 := by rw [hw5]; exact Only.setCell (S := (· = gr)) (p := ⟨gr, 0, none⟩) HO5.out rfl _
                have HO5b := Lib.hid ho5
                have HR5b : Hid (RdrAt w5 gr l3) := Lib.hid (by rw [hw5]; exact HR5.out.put l3)
                have HKRb : Hid (KRow w5 w3.heap.size s.kids ts) := Lib.hid (HKR.out.keep (fun b hb _ => by rw [hw5]; exact heap_setCell_other _ _ _ _ (by show b ≠ gr; have := HSZ3.out; have := HSZ.out; omega)))
                obtain ⟨c0, c1, c2⟩ := HLBC.out _ ho5
                clear hw5 ho5
                go_wp2_with fail
                refine (HJ.out w5).mono ?_
                rintro e w6 ⟨rfl, hB6⟩
                have ho6 := HO5b.out.trans (Only.of_below hB6)
                have hkr6 := HKRb.out.keep (KeepB.of_below w3.heap.size hB6)
                have hr6 := HR5b.out.below hB6
                have hh := set3_heap (o := 0) (.int .i64 (kn : Int)) (.int .i64 0) (.slice (some ⟨w3.heap.size, 0, none⟩) s.kids s.kids) (HRVC.out w6 ho6)
                have ho7 := set3_only (o := 0) (b := w.heap.size + 1) ((Only.of_below HB0.out).trans ho6) (Nat.le_succ _) (.int .i64 (kn : Int)) (.int .i64 0) (.slice (some ⟨w3.heap.size, 0, none⟩) s.kids s.kids)
                have hr7 : RdrAt (set3 w6 (w.heap.size + 1) 0 (.int .i64 (kn : Int)) (.int .i64 0) (.slice (some ⟨w3.heap.size, 0, none⟩) s.kids s.kids)) gr l3 := hr6.of_block (set3_block (by omega))
                have hkr7 : KRow (set3 w6 (w.heap.size + 1) 0 (.int .i64 (kn : Int)) (.int .i64 0) (.slice (some ⟨w3.heap.size, 0, none⟩) s.kids s.kids)) w3.heap.size s.kids ts := hkr6.keep (fun b hb _ => set3_block (by have := HSZ3.out; have := HSZ.out; omega))
                have hT := hkr7.tree (B := w.heap.size) (by have := HSZ3.out; have := HSZ.out; omega) HLEN.out (kn : Int) 0
                obtain ⟨⟨v0, v1, v2⟩, z0, z1, z2⟩ := blk3_cells (HRVC.out w6 ho6)
                have HF := Lib.hid (And.intro hh (And.intro ho7 (And.intro hr7 hT)))
                clear hh ho7 hr7 hkr7 hT hr6 hkr6 ho6 hB6
                go_wp2_with fail
                show bodyPost _ _ _ _ _ (set3 w6 (w.heap.size + 1) 0 (.int .i64 (kn : Int)) (.int .i64 0) (.slice (some ⟨w3.heap.size, 0, none⟩) s.kids s.kids))
                obtain ⟨hh, ho7, hr7, hT⟩ := HF.out
                generalize set3 w6 (w.heap.size + 1) 0 (.int .i64 (kn : Int)) (.int .i64 0) (.slice (some ⟨w3.heap.size, 0, none⟩) s.kids s.kids) = W7 at *
                have hh' : W7.heap[w.heap.size + 1]? = some (.cells #[.int .i64 (kn : Int), .int .i64 0, .slice (some ⟨w3.heap.size, 0, none⟩) s.kids s.kids] 24 (0, 0)) := hh
                obtain ⟨⟨v0, v1, v2⟩, _⟩ := blk3_cells hh'
                clear hh hh'
                exact bodyPost_ret (v := .agg #[.int .i64 (kn : Int), .int .i64 0, .slice (some ⟨w3.heap.size, 0, none⟩) s.kids s.kids]) (by simp [results, Tryz.results74, go_sem, v0, v1, v2]) rfl (NodeIs.yes HYES.out hT ho7 hr7)
end Go.Proofs.YtcophfhnhlaonaaGreatDoor
namespace Go.Proofs.YtcophfhnhlaonaaGreatDoor
set_option linter.unusedVariables false
open Go.RowKit

theorem catch_pan (p : Addr) (x : Int) (u : TypeId) (pv : Value) (older : List PanicEntry) (w : World) (hc : w.cell? p = some (.int .i64 x)) (hz : w.frozen? p = false) :
    CallsD Tryz.prog 73 #[.pointer (some p)] (.panicking ({ v := .iface u pv, recovered := false } :: older)) w fun e u' w' =>
      e = .returned (.tuple #[]) ∧ u' = .panicking ({ v := .iface u pv, recovered := true } :: older) ∧ w' = w.setCell p (.int .i64 3) := by
  refine callsD_of_wpS Tryz.func73 rfl fun c₀ cs hu => ?_
  apply wpS_seq
  apply wpS_region
  simp [wpOpsS, go_sem, recoverD, hu, Tryz.ntmps73, Exit.thenS]
  refine wpS_cond (t := true) (by simp [Act.eval, Array.replicate]) ?_
  simp only [if_true]
  apply wpS_region
  simp [wpOpsS, go_sem, hc, hz, bodyPostS, results, Tryz.results73]

theorem catch_idle (p : Addr) (w : World) :
    CallsD Tryz.prog 73 #[.pointer (some p)] .returning w fun e u' w' => e = .returned (.tuple #[]) ∧ u' = .returning ∧ w' = w := by
  refine callsD_of_wpS Tryz.func73 rfl fun c₀ cs hu => ?_
  apply wpS_seq
  apply wpS_region
  simp [wpOpsS, go_sem, recoverD, hu, Tryz.ntmps73, Exit.thenS]
  refine wpS_cond (t := false) (by simp [Act.eval, Array.replicate]) ?_
  simp only [Bool.false_eq_true, if_false]
  refine wpS_of_wp (wp_skip ?_)
  cases c₀
  simp_all [bodyPostS, results, Tryz.results73]

theorem blk1_cells {w : World} {b : Nat} {x : Value} {T : TypeId} (h : w.heap[b]? = some (.cells #[x] T (0, 0))) : w.cell? ⟨b, 0, none⟩ = some x ∧ w.frozen? ⟨b, 0, none⟩ = false := by
  constructor <;> simp [World.cell?, World.frozen?, h]
def zeroT : Value := .agg #[.int .i64 0, .int .i64 0, .slice none 0 0]
/-- What parsing leaves. -/
def ParIs (sh : List Sh) (l : List UInt8) (w : World) (e : Ending) (w' : World) : Prop :=
  (match pAll sh l with
  | some t => ∃ v, e = .returned (.tuple #[v, .int .i64 0]) ∧ TreV w.heap.size w' t v
  | none => e = .returned (.tuple #[zeroT, .int .i64 3])) ∧ Below w.heap.size w w'

set_option maxRecDepth 100000 in
set_option maxHeartbeats 4000000 in
theorem parse_ok (g : Nat) (sh : List Sh) (h2 : 2 ≤ sh.length) (h6 : sh.length ≤ 6) (hop : ∀ s ∈ sh, s.op.length ≤ 10) (hnum : ∀ s ∈ sh, s.num ≤ 65536) (hkids : ∀ s ∈ sh, s.kids ≤ 2) (l : List UInt8) (w : World)
    (htab : ∀ W, Below w.heap.size w W → Lib.TabIs Tryz.prog W "internal/strconv.uint64pow10" .u64 Lib.pow10Tab) (herr : ∀ W, Below w.heap.size w W → ErrsAt W) (hs : ShR w g sh) (hg : g < w.heap.size) :
    Calls Tryz.prog 60 #[langV g sh 76 77, .string ⟨l.toArray⟩] w (ParIs sh l w) := by
  have hmf : ∀ (fn : Fn) (first cap : Array Value) (w : World), (Instr.makeFunc fn first cap).run Tryz.prog w = .ok (.func fn first cap) w := fun _ _ _ _ => rfl
  have HRN := Lib.hid (fun W l => readNode_ok w g (w.heap.size + 3) sh h2 h6 hop hnum hkids htab herr 1000 (Nat.le_refl _) l W)
  clear htab herr
  unfold langV at HRN ⊢
  by_cases hbig : 40000 < l.length
  · have d1 : decide ((40000 : Int) < (l.length : Int)) = true := decide_eq_true (by omega)
    have d1' : decide (40000 < l.length) = true := decide_eq_true hbig
    go_enter_defers Tryz.func60, Tryz.ntmps60
    go_wp2_with fail
    have HB := Lib.hid (((below2 w (.cells #[.slice (some ⟨g, 0, none⟩) sh.length sh.length, .func (Fn.func 76) #[] #[], .func (Fn.func 77) #[] #[]] 98) (.cells #[.int .i64 0, .int .i64 0, .slice none 0 0] 24)).alloc (by simp <;> omega) (.cells #[.int .i64 3] 31)))
    have HP := Lib.hid (show pAll sh l = none by unfold pAll; rw [if_pos hbig])
    clear hs
    have HR : Hid (ParIs sh l w (.returned (.tuple #[zeroT, .int .i64 3])) (((w.alloc (.cells #[.slice (some ⟨g, 0, none⟩) sh.length sh.length, .func (Fn.func 76) #[] #[], .func (Fn.func 77) #[] #[]] 98)).alloc (.cells #[.int .i64 0, .int .i64 0, .slice none 0 0] 24)).alloc (.cells #[.int .i64 3] 31))) := Lib.hid ⟨by rw [HP.out], HB.out⟩
    simp [bodyPostD, Leaves, results, Tryz.results60, go_sem]
    exact HR.out
  · have d1 : decide ((40000 : Int) < (l.length : Int)) = false := decide_eq_false (by omega)
    have d1' : decide (40000 < l.length) = false := decide_eq_false hbig
    have hrd4 : RdrAt ((((w.alloc (.cells #[.slice (some ⟨g, 0, none⟩) sh.length sh.length, .func (Fn.func 76) #[] #[], .func (Fn.func 77) #[] #[]] 98)).alloc (.cells #[.int .i64 0, .int .i64 0, .slice none 0 0] 24)).alloc (.cells #[.int .i64 0] 31)).alloc (.cells #[.string ⟨l.toArray⟩] 111)) (w.heap.size + 3) l := by
      have h := alloc_at ((((w.alloc (.cells #[.slice (some ⟨g, 0, none⟩) sh.length sh.length, .func (Fn.func 76) #[] #[], .func (Fn.func 77) #[] #[]] 98)).alloc (.cells #[.int .i64 0, .int .i64 0, .slice none 0 0] 24)).alloc (.cells #[.int .i64 0] 31))) (.cells #[.string ⟨l.toArray⟩] 111) (w.heap.size + 3) (by simp)
      exact blk1_cells h
    have hb4 : Below w.heap.size w ((((w.alloc (.cells #[.slice (some ⟨g, 0, none⟩) sh.length sh.length, .func (Fn.func 76) #[] #[], .func (Fn.func 77) #[] #[]] 98)).alloc (.cells #[.int .i64 0, .int .i64 0, .slice none 0 0] 24)).alloc (.cells #[.int .i64 0] 31)).alloc (.cells #[.string ⟨l.toArray⟩] 111)) := (((below2 w (.cells #[.slice (some ⟨g, 0, none⟩) sh.length sh.length, .func (Fn.func 76) #[] #[], .func (Fn.func 77) #[] #[]] 98) (.cells #[.int .i64 0, .int .i64 0, .slice none 0 0] 24)).alloc (by simp <;> omega) (.cells #[.int .i64 0] 31))).alloc (by simp; omega) _
    have hs4 : RdS w g (w.heap.size + 3) sh ((((w.alloc (.cells #[.slice (some ⟨g, 0, none⟩) sh.length sh.length, .func (Fn.func 76) #[] #[], .func (Fn.func 77) #[] #[]] 98)).alloc (.cells #[.int .i64 0, .int .i64 0, .slice none 0 0] 24)).alloc (.cells #[.int .i64 0] 31)).alloc (.cells #[.string ⟨l.toArray⟩] 111)) := ⟨hb4, Nat.le_add_right _ _, by omega, hs.below hb4, Nat.lt_of_lt_of_le hg hb4.size⟩
    have ht4 : ((((w.alloc (.cells #[.slice (some ⟨g, 0, none⟩) sh.length sh.length, .func (Fn.func 76) #[] #[], .func (Fn.func 77) #[] #[]] 98)).alloc (.cells #[.int .i64 0, .int .i64 0, .slice none 0 0] 24)).alloc (.cells #[.int .i64 0] 31)).alloc (.cells #[.string ⟨l.toArray⟩] 111)).heap[w.heap.size + 1]? = some (.cells #[.int .i64 0, .int .i64 0, .slice none 0 0] 24 (0, 0)) := alloc_old _ _ _ _ (alloc_old _ _ _ _ (alloc_at _ _ _ (by simp)))
    have he4 : ((((w.alloc (.cells #[.slice (some ⟨g, 0, none⟩) sh.length sh.length, .func (Fn.func 76) #[] #[], .func (Fn.func 77) #[] #[]] 98)).alloc (.cells #[.int .i64 0, .int .i64 0, .slice none 0 0] 24)).alloc (.cells #[.int .i64 0] 31)).alloc (.cells #[.string ⟨l.toArray⟩] 111)).heap[w.heap.size + 2]? = some (.cells #[.int .i64 0] 31 (0, 0)) := alloc_old _ _ _ _ (alloc_at _ _ _ (by simp))
    have hsz4 : ((((w.alloc (.cells #[.slice (some ⟨g, 0, none⟩) sh.length sh.length, .func (Fn.func 76) #[] #[], .func (Fn.func 77) #[] #[]] 98)).alloc (.cells #[.int .i64 0, .int .i64 0, .slice none 0 0] 24)).alloc (.cells #[.int .i64 0] 31)).alloc (.cells #[.string ⟨l.toArray⟩] 111)).heap.size = w.heap.size + 4 := by simp
    have HN := Lib.hid (HRN.out ((((w.alloc (.cells #[.slice (some ⟨g, 0, none⟩) sh.length sh.length, .func (Fn.func 76) #[] #[], .func (Fn.func 77) #[] #[]] 98)).alloc (.cells #[.int .i64 0, .int .i64 0, .slice none 0 0] 24)).alloc (.cells #[.int .i64 0] 31)).alloc (.cells #[.string ⟨l.toArray⟩] 111)) l (by omega) hs4 hrd4)
    have H4 := Lib.hid (And.intro hb4 (And.intro ht4 (And.intro he4 hsz4)))
    have e1 : ((1001 - 1000 : Nat) : Int) = 1 := rfl
    rw [e1] at HN
    clear hrd4 hb4 hs4 ht4 he4 hsz4 HRN e1 hs hop hnum hkids
    go_enter_defers Tryz.func60, Tryz.ntmps60
    go_wp2_with fail
    refine HN.out.mono ?_
    generalize (((w.alloc (.cells #[.slice (some ⟨g, 0, none⟩) sh.length sh.length, .func (Fn.func 76) #[] #[], .func (Fn.func 77) #[] #[]] 98)).alloc (.cells #[.int .i64 0, .int .i64 0, .slice none 0 0] 24)).alloc (.cells #[.int .i64 0] 31)).alloc (.cells #[.string ⟨l.toArray⟩] 111) = w4 at *
    rintro e w5 hN
    unfold NodeIs at hN
    obtain ⟨hb4, ht4, he4, hsz4⟩ := H4.out
    cases hpn : pNode sh 1000 l with
    | none =>
      rw [hpn] at hN
      obtain ⟨rfl, ho5⟩ := hN
      have HP := Lib.hid (show pAll sh l = none by unfold pAll; rw [if_neg hbig, hpn])
      have ht5 := (ho5.block (w.heap.size + 1) (by omega) (by show ¬ _ = _; omega)).trans ht4
      have he5 := (ho5.block (w.heap.size + 2) (by omega) (by show ¬ _ = _; omega)).trans he4
      have hb5 := hb4.trans (ho5.below hb4.size (fun k hk => by have hk' : k = w.heap.size + 3 := hk; omega))
      have HB5 := Lib.hid hb5
      have HT5 := Lib.hid ht5
      have HE5 := Lib.hid he5
      clear ho5 ht5 he5 hb5 ht4 he4 hb4
      go_wp2_with fail
      obtain ⟨ce, ze⟩ := blk1_cells HE5.out
      obtain ⟨⟨t0, t1, t2⟩, _⟩ := blk3_cells HT5.out
      have HR : Hid (ParIs sh l w (.returned (.tuple #[zeroT, .int .i64 3])) (w5.setCell ⟨w.heap.size + 2, 0, none⟩ (.int .i64 3))) := Lib.hid ⟨by rw [HP.out], HB5.out.setCell (p := ⟨w.heap.size + 2, 0, none⟩) (Nat.le_add_right _ _) _⟩
      refine leaves_cons (f := 73) (args := #[.pointer (some ⟨w.heap.size + 1 + 1, 0, none⟩)]) (by simp) (by simp [go_sem]) ?_
      refine (catch_pan ⟨w.heap.size + 1 + 1, 0, none⟩ 0 123 _ [] _ ce ze).mono ?_
      rintro e u' w'' ⟨rfl, rfl, rfl⟩
      simp [Leaves, settle, results, Tryz.results60, go_sem, t0, t1, t2, ce]
      exact HR.out
    | some x =>
      obtain ⟨t, l'⟩ := x
      rw [hpn] at hN
      obtain ⟨v, rfl, hT, ho5, hr5⟩ := hN
      obtain ⟨k, n, us⟩ := t
      have hT2 := hT
      unfold TreV at hT2
      obtain ⟨A, c, rfl, _⟩ := hT2
      have ht5 := (ho5.block (w.heap.size + 1) (by omega) (by show ¬ _ = _; omega)).trans ht4
      have he5 := (ho5.block (w.heap.size + 2) (by omega) (by show ¬ _ = _; omega)).trans he4
      have hb5 := hb4.trans (ho5.below hb4.size (fun k hk => by have hk' : k = w.heap.size + 3 := hk; omega))
      have hsz5 : w.heap.size + 4 ≤ w5.heap.size := by have := ho5.size; omega
      have HB5 := Lib.hid hb5
      have HT5 := Lib.hid ht5
      have HE5 := Lib.hid he5
      have HT := Lib.hid hT
      have HPN := Lib.hid hpn
      have HSZ5 := Lib.hid hsz5
      have hb6 := below1 w5 (.cells #[.int .i64 k, .int .i64 n, .slice A us.length c] 24)
      have HB6 := Lib.hid hb6
      have hr6 := hr5.below hb6
      have HR6 := Lib.hid hr6
      cases l' with
      | cons c0 l0 =>
        have HP := Lib.hid (show pAll sh l = none by unfold pAll; rw [if_neg hbig, HPN.out])
        have HEN := Lib.hid (end_no (w.heap.size + 3) c0 l0 _ HR6.out.1)
        clear hT ho5 hr5 ht5 he5 hb5 hb6 hr6 hb4 ht4 he4 hpn
        go_wp2_with fail
        refine HEN.out.mono ?_
        rintro e w6 ⟨rfl, rfl⟩
        go_wp2_with fail
        obtain ⟨ce, ze⟩ := blk1_cells ((HB6.out.block (w.heap.size + 2) (by have := HSZ5.out; omega)).trans HE5.out)
        obtain ⟨⟨t0, t1, t2⟩, _⟩ := blk3_cells ((HB6.out.block (w.heap.size + 1) (by have := HSZ5.out; omega)).trans HT5.out)
        have HR : Hid (ParIs sh l w (.returned (.tuple #[zeroT, .int .i64 3])) ((w5.alloc (.cells #[.int .i64 k, .int .i64 n, .slice A us.length c] 24)).setCell ⟨w.heap.size + 2, 0, none⟩ (.int .i64 3))) := Lib.hid ⟨by rw [HP.out], (HB5.out.alloc HB5.out.size _).setCell (p := ⟨w.heap.size + 2, 0, none⟩) (Nat.le_add_right _ _) _⟩
        refine leaves_cons (f := 73) (args := #[.pointer (some ⟨w.heap.size + 1 + 1, 0, none⟩)]) (by simp) (by simp [go_sem]) ?_
        refine (catch_pan ⟨w.heap.size + 1 + 1, 0, none⟩ 0 123 _ [] _ ce ze).mono ?_
        rintro e u' w'' ⟨rfl, rfl, rfl⟩
        simp [Leaves, settle, results, Tryz.results60, go_sem, t0, t1, t2, ce]
        exact HR.out
      | nil =>
        have HP := Lib.hid (show pAll sh l = some (.mk k n us) by unfold pAll; rw [if_neg hbig, HPN.out])
        have HEN := Lib.hid (end_yes (w.heap.size + 3) _ HR6.out.1)
        clear hT ho5 hr5 ht5 he5 hb5 hb6 hr6 hb4 ht4 he4 hpn
        go_wp2_with fail
        refine HEN.out.mono ?_
        rintro e w6 ⟨rfl, rfl⟩
        have hr7 := HB6.out
        obtain ⟨ce, ze⟩ := blk1_cells ((HB6.out.block (w.heap.size + 2) (by have := HSZ5.out; omega)).trans HE5.out)
        obtain ⟨⟨t0, t1, t2⟩, z0, z1, z2⟩ := blk3_cells ((HB6.out.block (w.heap.size + 1) (by have := HSZ5.out; omega)).trans HT5.out)
        have hh := set3_heap (o := 0) (.int .i64 k) (.int .i64 n) (.slice A us.length c) ((HB6.out.block (w.heap.size + 1) (by have := HSZ5.out; omega)).trans HT5.out)
        have hb7 := set3_only (o := 0) (b := w.heap.size + 1) (S := fun _ => False) (Only.of_below (HB5.out.mono (Nat.le_refl _) |>.trans (HB6.out.mono HB5.out.size))) (Nat.le_succ _) (.int .i64 k) (.int .i64 n) (.slice A us.length c)
        have hT7 := HT.out.keep (w' := (set3 (w5.alloc (.cells #[.int .i64 k, .int .i64 n, .slice A us.length c] 24)) (w.heap.size + 1) 0 (.int .i64 k) (.int .i64 n) (.slice A us.length c)).setCell ⟨w.heap.size + 2, 0, none⟩ (.int .i64 0)) (fun b hb hl => (heap_setCell_other _ _ _ _ (by show b ≠ w.heap.size + 2; omega)).trans ((set3_block (by omega)).trans (HB6.out.block b hl)))
        have hh8 : ((set3 (w5.alloc (.cells #[.int .i64 k, .int .i64 n, .slice A us.length c] 24)) (w.heap.size + 1) 0 (.int .i64 k) (.int .i64 n) (.slice A us.length c)).setCell ⟨w.heap.size + 2, 0, none⟩ (.int .i64 0)).heap[w.heap.size + 1]? = _ := (heap_setCell_other _ _ _ _ (by show w.heap.size + 1 ≠ w.heap.size + 2; omega)).trans hh
        have he8 : ((set3 (w5.alloc (.cells #[.int .i64 k, .int .i64 n, .slice A us.length c] 24)) (w.heap.size + 1) 0 (.int .i64 k) (.int .i64 n) (.slice A us.length c)).setCell ⟨w.heap.size + 2, 0, none⟩ (.int .i64 0)).cell? ⟨w.heap.size + 2, 0, none⟩ = some (.int .i64 0) := by
          have h1 := (set3_other (w := w5.alloc (.cells #[.int .i64 k, .int .i64 n, .slice A us.length c] 24)) (b := w.heap.size + 1) (o := 0) (x := .int .i64 k) (y := .int .i64 n) (z := .slice A us.length c) (p := ⟨w.heap.size + 2, 0, none⟩) (by show w.heap.size + 2 ≠ w.heap.size + 1; omega)).trans ce
          simp [go_sem, h1]
        have HF := Lib.hid (And.intro hh8 (And.intro he8 (And.intro (hb7.below (Nat.le_refl _) (fun k hk => absurd hk id)) hT7)))
        clear hh hb7 hT7 hh8 he8 hr7
        go_wp2_with fail
        show bodyPostD _ _ _ _ _ ((set3 (w5.alloc (.cells #[.int .i64 k, .int .i64 n, .slice A us.length c] 24)) (w.heap.size + 1) 0 (.int .i64 k) (.int .i64 n) (.slice A us.length c)).setCell ⟨w.heap.size + 2, 0, none⟩ (.int .i64 0))
        obtain ⟨hh8, he8, hb7, hT7⟩ := HF.out
        have hb8 := hb7.setCell (p := ⟨w.heap.size + 2, 0, none⟩) (Nat.le_add_right _ _) (.int .i64 0)
        clear HF hb7
        generalize (set3 (w5.alloc (.cells #[.int .i64 k, .int .i64 n, .slice A us.length c] 24)) (w.heap.size + 1) 0 (.int .i64 k) (.int .i64 n) (.slice A us.length c)).setCell ⟨w.heap.size + 2, 0, none⟩ (.int .i64 0) = W8 at *
        have hh' : W8.heap[w.heap.size + 1]? = some (.cells #[.int .i64 k, .int .i64 n, .slice A us.length c] 24 (0, 0)) := hh8
        obtain ⟨⟨v0, v1, v2⟩, _⟩ := blk3_cells hh'
        have HR : Hid (ParIs sh l w (.returned (.tuple #[.agg #[.int .i64 k, .int .i64 n, .slice A us.length c], .int .i64 0])) W8) := Lib.hid ⟨by rw [HP.out]; exact ⟨_, rfl, hT7.mono (by omega)⟩, hb8⟩
        clear hh' hh8 hT7 hb8
        refine leaves_cons (f := 73) (args := #[.pointer (some ⟨w.heap.size + 1 + 1, 0, none⟩)]) (by simp) (by simp [go_sem]) ?_
        refine (catch_idle ⟨w.heap.size + 1 + 1, 0, none⟩ _).mono ?_
        rintro e u' w'' ⟨rfl, rfl, rfl⟩
        simp [Leaves, settle, results, Tryz.results60, go_sem, v0, v1, v2, he8]
        exact HR.out
end Go.Proofs.YtcophfhnhlaonaaGreatDoor
namespace Go.Proofs.YtcophfhnhlaonaaGreatDoor
set_option linter.unusedVariables false
open Go.RowKit

set_option maxRecDepth 100000 in
set_option maxHeartbeats 4000000 in
theorem Parse_ok (l : List UInt8) (w : World) (htab : ∀ W, Below w.heap.size w W → Lib.TabIs Tryz.prog W "internal/strconv.uint64pow10" .u64 Lib.pow10Tab) (herr : ∀ W, Below w.heap.size w W → ErrsAt W) :
    Calls Tryz.prog 39 #[.string ⟨l.toArray⟩] w (ParIs fSh l w) := by
  have HF := Lib.hid (fun W => formulas_ok W)
  have HPA := Lib.hid (fun g W (hW : Below w.heap.size w W) hs hg => parse_ok g fSh (by decide) (by decide) (by decide) (by decide) (by decide) l W (fun W' h => htab W' (hW.trans (h.mono hW.size))) (fun W' h => herr W' (hW.trans (h.mono hW.size))) hs hg)
  clear htab herr
  have hb0 := below1 w (.cells #[.int .i64 0, .int .i64 0, .slice none 0 0] 24)
  have HT0 := Lib.hid (show (w.alloc (.cells #[.int .i64 0, .int .i64 0, .slice none 0 0] 24)).heap[w.heap.size]? = _ from alloc_at _ _ _ rfl)
  have HB0 := Lib.hid hb0
  have hsz0 : w.heap.size < (w.alloc (.cells #[.int .i64 0, .int .i64 0, .slice none 0 0] 24)).heap.size := by simp
  have HSZ := Lib.hid hsz0
  clear hb0 hsz0
  go_enter Tryz.func39, Tryz.ntmps39
  go_wp2_with fail
  refine (HF.out _).mono ?_
  rintro e w1 ⟨g, hg, rfl, hs, hB1⟩
  have hglt : g < w1.heap.size := World.block_lt_of_cell? w1 _ (hs 0 _ rfl).1
  have hb1 := HB0.out.trans (hB1.mono HB0.out.size)
  have HP := Lib.hid (HPA.out g w1 hb1 hs hglt)
  have HB1 := Lib.hid hb1
  have HT1 := Lib.hid ((hB1.block _ HSZ.out).trans HT0.out)
  have HSZ1 := Lib.hid (Nat.lt_of_lt_of_le HSZ.out hB1.size)
  unfold langV at HP ⊢
  clear hs hglt hb1 hB1 hg
  go_wp2_with fail
  refine HP.out.mono ?_
  rintro e w2 ⟨hcase, hB2⟩
  have HT2 := Lib.hid ((hB2.block _ HSZ1.out).trans HT1.out)
  have HB2 := Lib.hid (HB1.out.trans (hB2.mono HB1.out.size))
  obtain ⟨⟨t0, t1, t2⟩, z0, z1, z2⟩ := blk3_cells HT2.out
  cases hpa : pAll fSh l with
  | none =>
    rw [hpa] at hcase
    obtain rfl := hcase
    have hh := set3_heap (o := 0) (.int .i64 0) (.int .i64 0) (.slice none 0 0) HT2.out
    have hb := (((HB2.out.setCell (p := ⟨w.heap.size, 0, none⟩) (Nat.le_refl _) (.int .i64 0)).setCell (p := ⟨w.heap.size, 1, none⟩) (Nat.le_refl _) (.int .i64 0)).setCell (p := ⟨w.heap.size, 2, none⟩) (Nat.le_refl _) (.slice none 0 0))
    have HF := Lib.hid (And.intro hh hb)
    have HPA := Lib.hid hpa
    clear hh hb hB2 hpa
    unfold zeroT
    go_wp2_with fail
    show bodyPost _ _ _ _ _ (set3 w2 w.heap.size 0 (.int .i64 0) (.int .i64 0) (.slice none 0 0))
    obtain ⟨hh, hb⟩ := HF.out
    have hb' : Below w.heap.size w (set3 w2 w.heap.size 0 (.int .i64 0) (.int .i64 0) (.slice none 0 0)) := hb
    clear HF hb
    generalize set3 w2 w.heap.size 0 (.int .i64 0) (.int .i64 0) (.slice none 0 0) = W at *
    have hh' : W.heap[w.heap.size]? = some (.cells #[.int .i64 0, .int .i64 0, .slice none 0 0] 24 (0, 0)) := hh
    obtain ⟨⟨v0, v1, v2⟩, _⟩ := blk3_cells hh'
    exact bodyPost_ret (v := .tuple #[.agg #[.int .i64 0, .int .i64 0, .slice none 0 0], .int .i64 3]) (by simp [results, Tryz.results39, go_sem, v0, v1, v2]) rfl ⟨by rw [HPA.out]; rfl, hb'⟩
  | some t =>
    rw [hpa] at hcase
    obtain ⟨v, rfl, hT⟩ := hcase
    obtain ⟨k, n, us⟩ := t
    have hT2 := hT
    unfold TreV at hT2
    obtain ⟨A, c, rfl, _⟩ := hT2
    have hh := set3_heap (o := 0) (.int .i64 k) (.int .i64 n) (.slice A us.length c) HT2.out
    have hb := (((HB2.out.setCell (p := ⟨w.heap.size, 0, none⟩) (Nat.le_refl _) (.int .i64 k)).setCell (p := ⟨w.heap.size, 1, none⟩) (Nat.le_refl _) (.int .i64 n)).setCell (p := ⟨w.heap.size, 2, none⟩) (Nat.le_refl _) (.slice A us.length c))
    have hT3 := hT.keep (w' := set3 w2 w.heap.size 0 (.int .i64 k) (.int .i64 n) (.slice A us.length c)) (fun b hb' _ => set3_block (by have := HSZ1.out; omega))
    have HF := Lib.hid (And.intro hh (And.intro hb (hT3.mono (B' := w.heap.size) HB1.out.size)))
    have HPA := Lib.hid hpa
    clear hh hb hB2 hpa hT hT3
    go_wp2_with fail
    show bodyPost _ _ _ _ _ (set3 w2 w.heap.size 0 (.int .i64 k) (.int .i64 n) (.slice A us.length c))
    obtain ⟨hh, hb, hT⟩ := HF.out
    have hb' : Below w.heap.size w (set3 w2 w.heap.size 0 (.int .i64 k) (.int .i64 n) (.slice A us.length c)) := hb
    clear HF hb
    generalize set3 w2 w.heap.size 0 (.int .i64 k) (.int .i64 n) (.slice A us.length c) = W at *
    have hh' : W.heap[w.heap.size]? = some (.cells #[.int .i64 k, .int .i64 n, .slice A us.length c] 24 (0, 0)) := hh
    obtain ⟨⟨v0, v1, v2⟩, _⟩ := blk3_cells hh'
    exact bodyPost_ret (v := .tuple #[.agg #[.int .i64 k, .int .i64 n, .slice A us.length c], .int .i64 0]) (by simp [results, Tryz.results39, go_sem, v0, v1, v2]) rfl ⟨by rw [HPA.out]; exact ⟨_, rfl, hT⟩, hb'⟩
end Go.Proofs.YtcophfhnhlaonaaGreatDoor
