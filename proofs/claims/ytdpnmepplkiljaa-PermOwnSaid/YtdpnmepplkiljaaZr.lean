/-
  Contract of cycleLengths of package perm at valid permutations: the array of the lengths of the points' cycles.
-/
import Derived.Test.YtdpnmepplkiljaaZq
namespace Go.Proofs.Ytdpnmepplkiljaa
open Go.RowKit Go.Shelf
attribute [local go_sem] Oper.semAt_some

theorem owns_block {w w' : World} {base : Nat} {e : TypeId} {size g k cap n : Nat} {xs : List Value} (h : w.ownsRow base e size (.slice (some ⟨g, 0, none⟩) k cap) n xs) (hB : w'.heap[g]? = w.heap[g]?) : w'.ownsRow base e size (.slice (some ⟨g, 0, none⟩) k cap) n xs := by
  obtain ⟨h1, h2⟩ := h
  refine ⟨h1, ?_⟩
  rcases h2 with ⟨h2, _⟩ | ⟨g', cap', cur, hv, hg', hh, r⟩
  · simp at h2
  · simp only [Value.slice.injEq, Option.some.injEq, Addr.mk.injEq, and_true] at hv
    obtain ⟨rfl, rfl, rfl⟩ := hv
    exact .inr ⟨_, _, cur, rfl, hg', hB.trans hh, r⟩

def setAll (v : Nat) (L : List Nat) (c : List Nat) : List Nat := c.foldl (fun L x => L.set x v) L
def lensStep (L : List Nat) (c : List Nat) : List Nat := setAll c.length L c
def lensL (cs : List (List Nat)) : List Nat := cs.foldl lensStep (List.replicate 7 0)
theorem sevenN (L : List Nat) (h : L.length = 7) : ∃ a b c d e f g, L = [a, b, c, d, e, f, g] := by
  match L, h with
  | [a, b, c, d, e, f, g], _ => exact ⟨a, b, c, d, e, f, g, rfl⟩

theorem zero_cell {W : World} {g : Nat} (h : W.heap[g]? = some (.cells #[.int .i64 0, .int .i64 0, .int .i64 0, .int .i64 0, .int .i64 0, .int .i64 0, .int .i64 0] 70)) (j : Nat) (hj : j < 7) : W.cell? ⟨g, j, none⟩ = some (.int .i64 0) := by
  rw [cell_of_row W g j _ 70 (0, 0) h]
  match j, hj with
  | 0, _ => rfl
  | 1, _ => rfl
  | 2, _ => rfl
  | 3, _ => rfl
  | 4, _ => rfl
  | 5, _ => rfl
  | 6, _ => rfl
theorem zero_frozen {W : World} {g : Nat} {cs : Array Value} (h : W.heap[g]? = some (.cells cs 70)) (j : Nat) : W.frozen? ⟨g, j, none⟩ = false := by
  simp [World.frozen?, h]

theorem fill_seven {W : World} {g : Nat} (h : W.heap[g]? = some (.cells #[.int .i64 0, .int .i64 0, .int .i64 0, .int .i64 0, .int .i64 0, .int .i64 0, .int .i64 0] 70)) (a0 a1 a2 a3 a4 a5 a6 : Nat) :
    (((((((W.setCell ⟨g, 0, none⟩ (.int .i64 a0)).setCell ⟨g, 1, none⟩ (.int .i64 a1)).setCell ⟨g, 2, none⟩ (.int .i64 a2)).setCell ⟨g, 3, none⟩ (.int .i64 a3)).setCell ⟨g, 4, none⟩ (.int .i64 a4)).setCell ⟨g, 5, none⟩ (.int .i64 a5)).setCell ⟨g, 6, none⟩ (.int .i64 a6)).heap[g]? = some (.cells #[.int .i64 a0, .int .i64 a1, .int .i64 a2, .int .i64 a3, .int .i64 a4, .int .i64 a5, .int .i64 a6] 70) ∧
    OnlyIn [g] W (((((((W.setCell ⟨g, 0, none⟩ (.int .i64 a0)).setCell ⟨g, 1, none⟩ (.int .i64 a1)).setCell ⟨g, 2, none⟩ (.int .i64 a2)).setCell ⟨g, 3, none⟩ (.int .i64 a3)).setCell ⟨g, 4, none⟩ (.int .i64 a4)).setCell ⟨g, 5, none⟩ (.int .i64 a5)).setCell ⟨g, 6, none⟩ (.int .i64 a6)) := by
  constructor
  · have hg := (Array.getElem?_eq_some_iff.1 h).1
    have one : ∀ (V : World) (cs : Array Value) (j : Nat) (v : Value), V.heap[g]? = some (.cells cs 70) → (V.setCell ⟨g, j, none⟩ v).heap[g]? = some (.cells (cs.setIfInBounds j v) 70) := by
      intro V cs j v hV
      have hl := (Array.getElem?_eq_some_iff.1 hV).1
      simp [World.setCell, hV, Array.getElem?_modify]
    have s0 := one _ _ 0 (.int .i64 a0) h
    have s1 := one _ _ 1 (.int .i64 a1) s0
    have s2 := one _ _ 2 (.int .i64 a2) s1
    have s3 := one _ _ 3 (.int .i64 a3) s2
    have s4 := one _ _ 4 (.int .i64 a4) s3
    have s5 := one _ _ 5 (.int .i64 a5) s4
    have s6 := one _ _ 6 (.int .i64 a6) s5
    simpa using s6
  · have st : ∀ (V : World) (j : Nat) (v : Value), OnlyIn [g] W V → OnlyIn [g] W (V.setCell ⟨g, j, none⟩ v) := fun V j v hV => hV.setCell (p := ⟨g, j, none⟩) (by simp) v
    exact st _ _ _ (st _ _ _ (st _ _ _ (st _ _ _ (st _ _ _ (st _ _ _ (st _ _ _ (OnlyIn.refl _ _)))))))

theorem results_70 {fn : Func} {tmps : Array Value} {W : World} {g : Nat} {a0 a1 a2 a3 a4 a5 a6 : Nat} (hf : fn.results = #[.cell 2 70]) (ht : tmps[2]?.getD undef = .pointer (some ⟨g, 0, none⟩))
    (h : W.heap[g]? = some (.cells #[.int .i64 a0, .int .i64 a1, .int .i64 a2, .int .i64 a3, .int .i64 a4, .int .i64 a5, .int .i64 a6] 70)) :
    (results fn tmps).run Try.prog W = .ok (.agg #[.int .i64 a0, .int .i64 a1, .int .i64 a2, .int .i64 a3, .int .i64 a4, .int .i64 a5, .int .i64 a6]) W := by
  have c : ∀ j (v : Value), #[Value.int .i64 a0, Value.int .i64 a1, Value.int .i64 a2, Value.int .i64 a3, Value.int .i64 a4, Value.int .i64 a5, Value.int .i64 a6][j]? = some v → W.cell? ⟨g, j, none⟩ = some v := fun j v hv => by
    rw [cell_of_row W g j _ 70 (0, 0) h]; exact hv
  have c0 := c 0 _ rfl
  have c1 := c 1 _ rfl
  have c2 := c 2 _ rfl
  have c3 := c 3 _ rfl
  have c4 := c 4 _ rfl
  have c5 := c 5 _ rfl
  have c6 := c 6 _ rfl
  clear h c
  simp only [results, hf]
  go_simp

theorem setAll_length (v : Nat) : ∀ (c L : List Nat), (setAll v L c).length = L.length
  | [], _ => rfl
  | x :: t, L => by
    show (setAll v (L.set x v) t).length = _
    rw [setAll_length v t, List.length_set]
theorem lensL_length : ∀ (cs : List (List Nat)) (L : List Nat), (cs.foldl lensStep L).length = L.length
  | [], _ => rfl
  | c :: t, L => by
    rw [List.foldl_cons, lensL_length t]
    exact setAll_length _ _ _
theorem lensL_snoc (cs : List (List Nat)) (c : List Nat) : lensL (cs ++ [c]) = setAll c.length (lensL cs) c := by simp [lensL, lensStep]
theorem setAll_snoc (v : Nat) (L c : List Nat) (x : Nat) : setAll v L (c ++ [x]) = (setAll v L c).set x v := by simp [setAll]
theorem natCells_set (L : List Nat) (x v : Nat) : (natCells L).set x (.int .i64 (v : Int)) = natCells (L.set x v) := by
  simp [natCells, List.map_set]

theorem take_snocN'' (l : List Nat) (k : Nat) (h : k < l.length) : l.take (k + 1) = l.take k ++ [l[k]?.getD 0] := by
  rw [List.take_succ_eq_append_getElem h]; simp [h]

set_option maxRecDepth 100000 in
set_option maxHeartbeats 400000 in
theorem clens_ok (b off cap n : Nat) (ps : List Nat) (w : World) (hp : IsPerm ps) (hpn : ps.length = n) (hb : b < w.heap.size) (hrd : RdN w b off ps) :
    Calls Try.prog 58 #[.slice (some ⟨b, off, none⟩) n cap] w fun e w' => ∃ a0 a1 a2 a3 a4 a5 a6 : Nat, lensL (allCyc ps) = [a0, a1, a2, a3, a4, a5, a6] ∧ e = .returned (.agg #[.int .i64 a0, .int .i64 a1, .int .i64 a2, .int .i64 a3, .int .i64 a4, .int .i64 a5, .int .i64 a6]) ∧ Below w.heap.size w w' := by
  have h7 : n ≤ 7 := by rw [← hpn]; exact hp.2.1
  refine (callsIn_wide (n := 3)).1 ?_
  refine callsIn_of_wp_marks Try.func58 rfl trivial ?_ rfl
  simp only [Try.ntmps58, List.size_toArray, List.length_cons, List.length_nil, Nat.reduceAdd, Nat.reduceSub, Array.replicate_succ, Array.replicate_zero, List.push_toArray, List.append_toArray, List.nil_append, List.cons_append]
  gi_wp2_with (first | (refine ⟨trivial, ?_⟩; gi_at_call 52; refine (allCycles_in _ _ _ _ _).mono ?_; rintro e w2 ⟨rfl, rfl⟩))
  obtain ⟨wa, hwa⟩ : ∃ wa, w.alloc (.cells #[.int .i64 0, .int .i64 0, .int .i64 0, .int .i64 0, .int .i64 0, .int .i64 0, .int .i64 0] 70) = wa := ⟨_, rfl⟩
  rw [hwa]
  have hsa : wa.heap.size = w.heap.size + 1 := by rw [← hwa]; simp
  have hBa : Below w.heap.size w wa := by rw [← hwa]; exact alloc_below w _
  have bR : wa.heap[w.heap.size]? = some (.cells #[.int .i64 0, .int .i64 0, .int .i64 0, .int .i64 0, .int .i64 0, .int .i64 0, .int .i64 0] 70) := by rw [← hwa]; exact World.alloc_heap_new w _
  have oL : (wa.alloc (.cells #[.int .i64 0, .int .i64 0, .int .i64 0, .int .i64 0, .int .i64 0, .int .i64 0, .int .i64 0] 70)).ownsRow wa.heap.size 70 1 (.slice (some ⟨wa.heap.size, 0, none⟩) 7 7) 7 (natCells (List.replicate 7 0)) :=
    World.ownsRow_lit wa _ 7 (Nat.le_refl _) (by unfold maxLen; omega) rfl
  obtain ⟨wb, hwb⟩ : ∃ wb, wa.alloc (.cells #[.int .i64 0, .int .i64 0, .int .i64 0, .int .i64 0, .int .i64 0, .int .i64 0, .int .i64 0] 70) = wb := ⟨_, rfl⟩
  rw [hwb] at oL ⊢
  have hsb : wb.heap.size = w.heap.size + 2 := by rw [← hwb]; simp [hsa]
  have hBb : Below wa.heap.size wa wb := by rw [← hwb]; exact alloc_below wa _
  have hB2 : Below w.heap.size w wb := hBa.trans (hBb.mono (by omega))
  have bR2 := (hBb.block w.heap.size (by omega)).trans bR
  rw [hsa] at oL
  have hit := iter_at (3 - 1) (by omega) ps hp b off cap wb [w.heap.size + 1] (by omega) (by simp; omega) (by simp; omega) (hrd.below hB2 hb)
  have HPN := Lib.hid hpn
  have hok := (cyc_ok hp).2.1
  have hcl := fun c (hc : c ∈ allCyc ps) => (cycFacts hp).lt c hc
  rw [hsb, hpn] at hit
  have HOK := Lib.hid hok
  have HCL := Lib.hid hcl
  clear hwa hwb hBa hBb bR hpn hok hcl
  refine rangeFunc_iter (gf := 61) (lb := #[.pointer (some ⟨w.heap.size + 1 + 1, 0, none⟩)]) rfl (enters_of Try.func61 (by kernel_rfl) rfl) hit Cyc.rd_keep (by simp [hsb]) (fun _ => rfl)
    (fun pre W => W.ownsRow (w.heap.size + 1) 70 1 (.slice (some ⟨w.heap.size + 1, 0, none⟩) 7 7) 7 (natCells (lensL (pre.map Cyc.cyc))) ∧ (W.heap[w.heap.size]? = some (.cells #[.int .i64 0, .int .i64 0, .int .i64 0, .int .i64 0, .int .i64 0, .int .i64 0, .int .i64 0] 70)) ∧ (pre.map Cyc.cyc <+: allCyc ps) ∧ Below w.heap.size w W)
    (fun _ _ => False)
    (fun pre A B hi hAB => ⟨owns_block hi.1 (hAB.block _ (by simp [hsb])), (hAB.block _ (by simp [hsb]; omega)).trans hi.2.1, hi.2.2.1, hi.2.2.2.trans (hAB.mono (by simp [hsb]; omega))⟩)
    (fun _ _ _ hf _ => hf)
    ⟨oL.alloc _, (((Below.refl _ wb).alloc (Nat.le_refl _) _).block _ (by omega)).trans bR2, ⟨allCyc ps, rfl⟩, hB2.alloc hB2.size _⟩
    (fun x => { tmps := #[.slice (some ⟨b, off, none⟩) n cap, undef, .pointer (some ⟨w.heap.size, 0, none⟩), .pointer (some ⟨w.heap.size + 1, 0, none⟩), .slice (some ⟨x.blk, 0, none⟩) x.cyc.length x.cap, undef, undef, .slice (some ⟨b, off, none⟩) n cap,
          .func (.func 61) #[] #[.pointer (some ⟨w.heap.size + 1 + 1, 0, none⟩)], .slice (some ⟨x.blk, 0, none⟩) x.cyc.length x.cap, undef, undef, undef, undef, undef, undef, undef, undef, undef, undef, undef, undef], defers := [] }) ?assign ?body ?done ?stop
  case assign =>
    intro l x W K hK
    simp only [Cyc.val]
    gi_wp2
    exact hK
  case body =>
    rintro l D pre x W hD hDW ⟨hown, hbr, hpre, hBW⟩ hnext hrdx
    have hDD : w.heap.size + 3 ≤ D := by simp [hsb] at hD; omega
    have hxm : x.cyc ∈ allCyc ps := by
      obtain ⟨t, ht⟩ := hnext
      rw [← ht]; simp
    obtain ⟨hl1, hl7⟩ := HOK.out _ hxm
    have hxl := HCL.out _ hxm
    obtain ⟨blk, cp, c⟩ := x
    simp only at hl1 hl7 hxl hxm
    obtain ⟨len, hlen⟩ : ∃ len, c.length = len := ⟨_, rfl⟩
    have hrc : W.ownsRow D 3 1 (.slice (some ⟨blk, 0, none⟩) c.length cp) c.length (natCells c) := hrdx
    rw [hlen] at hl1 hl7 hrc
    have hnx : (pre ++ [(⟨blk, cp, c⟩ : Cyc)]).map Cyc.cyc <+: allCyc ps := by rw [List.map_append, List.map_singleton]; exact hnext
    have HNX := Lib.hid hnx
    have HLN := Lib.hid hlen
    have HXL := Lib.hid hxl
    have hblk := (hrc.lt blk rfl).1
    simp only [hlen]
    clear hpre hnext hrdx hxm hxl hlen hnx
    gi_wp2_with fail
    gi_loopw [12] (fun jv wr => ∃ i : Nat, i ≤ len ∧ jv = .int .i64 i ∧ wr.ownsRow (w.heap.size + 1) 70 1 (.slice (some ⟨w.heap.size + 1, 0, none⟩) 7 7) 7 (natCells (setAll len (lensL (pre.map Cyc.cyc)) (c.take i))) ∧ OnlyIn [w.heap.size + 1] W wr) (fun jv _ => len - (intOf jv).toNat)
    case atStart => exact ⟨0, Nat.zero_le _, rfl, by rw [List.take_zero]; exact hown, OnlyIn.refl _ _⟩
    case round =>
      clear hown
      obtain ⟨i, hi, rfl, hown, hO⟩ := hrel
      by_cases hil : i < len
      · have hil' : i < c.length := by rw [HLN.out]; exact hil
        have cc := cell_only hO (p := ⟨blk, i, none⟩) (show blk < W.heap.size from (hrc.lt blk rfl).2) (by simp; omega) ((hrc.cellAt i (by omega)).trans (by simp [natCells, hil'] : _ = some (.int .i64 ((c[i]?.getD 0 : Nat) : Int))))
        have hxn := HXL.out (c[i]?.getD 0) (get_mem c i hil')
        rw [HPN.out] at hxn
        have htk := take_snocN'' c i hil'
        obtain ⟨x, hx⟩ : ∃ x, c[i]?.getD 0 = x := ⟨_, rfl⟩
        rw [hx] at cc hxn htk
        have hsl : setAll len (lensL (pre.map Cyc.cyc)) (c.take (i + 1)) = (setAll len (lensL (pre.map Cyc.cyc)) (c.take i)).set x len := by rw [htk, setAll_snoc]
        obtain ⟨Lc, hLc⟩ : ∃ Lc, setAll len (lensL (pre.map Cyc.cyc)) (c.take i) = Lc := ⟨_, rfl⟩
        rw [hLc] at hown hsl
        have hll : Lc.length = 7 := by rw [← hLc, setAll_length]; exact lensL_length _ _
        have hcell : wr.cell? ⟨w.heap.size + 1, x, none⟩ = (natCells Lc)[x]? := hown.cellAt x (by omega)
        obtain ⟨v0, hv0⟩ : ∃ v0, (natCells Lc)[x]? = some v0 := ⟨_, List.getElem?_eq_getElem (by rw [natCells_length]; omega)⟩
        rw [hv0] at hcell
        have hfz := hown.frozenAt x
        have hst := (hown.stored x (.int .i64 (len : Int))).1
        rw [natCells_set] at hst
        have HST := Lib.hid hst
        have HSL := Lib.hid hsl
        clear hx htk hsl hLc hll hv0 hst hil'
        gi_wp2
        go_roundw
        case rel => exact ⟨i + 1, by omega, by go_num, by rw [HSL.out]; exact HST.out, hO.setCell (p := ⟨w.heap.size + 1, x, none⟩) (by simp) _⟩
        case measure => simp [intOf]; omega
      · have hie : i = len := by omega
        subst hie
        have hfl : lensL ((pre ++ [(⟨blk, cp, c⟩ : Cyc)]).map Cyc.cyc) = setAll i (lensL (pre.map Cyc.cyc)) (c.take i) := by
          rw [List.map_append, List.map_singleton, lensL_snoc, List.take_of_length_le (by rw [HLN.out]; exact Nat.le_refl _), HLN.out]
        rw [← hfl] at hown
        have HOW := Lib.hid hown
        have HBR := Lib.hid ((hO.block w.heap.size (by omega) (by simp)).trans hbr)
        have hb2 := Lib.hid (hBW.trans (hO.below (n := w.heap.size) (by omega) (by simp)))
        clear hown hfl
        gi_wp2
        exact ⟨hO, HOW.out, HBR.out, HNX.out, hb2.out⟩
  case done =>
    rintro D xs W hD hS ⟨hown, hbr, _, hBW⟩ hK
    have hll : (lensL (xs.map Cyc.cyc)).length = 7 := lensL_length _ _
    obtain ⟨a0, a1, a2, a3, a4, a5, a6, hL⟩ := sevenN _ hll
    rw [hL] at hown
    have HL := Lib.hid (hS ▸ hL)
    have c0 := hown.cellAt 0 (by omega)
    have c1 := hown.cellAt 1 (by omega)
    have c2 := hown.cellAt 2 (by omega)
    have c3 := hown.cellAt 3 (by omega)
    have c4 := hown.cellAt 4 (by omega)
    have c5 := hown.cellAt 5 (by omega)
    have c6 := hown.cellAt 6 (by omega)
    simp only [natCells, List.map_cons, List.map_nil, List.getElem?_cons_zero, List.getElem?_cons_succ] at c0 c1 c2 c3 c4 c5 c6
    have g0 := hbr
    have r0 := zero_cell hbr 0 (by omega)
    have r1 := zero_cell hbr 1 (by omega)
    have r2 := zero_cell hbr 2 (by omega)
    have r3 := zero_cell hbr 3 (by omega)
    have r4 := zero_cell hbr 4 (by omega)
    have r5 := zero_cell hbr 5 (by omega)
    have r6 := zero_cell hbr 6 (by omega)
    have f0 := zero_frozen hbr 0
    have f1 := zero_frozen hbr 1
    have f2 := zero_frozen hbr 2
    have f3 := zero_frozen hbr 3
    have f4 := zero_frozen hbr 4
    have f5 := zero_frozen hbr 5
    have f6 := zero_frozen hbr 6
    have HST := Lib.hid (fill_seven hbr a0 a1 a2 a3 a4 a5 a6)
    have hwD : w.heap.size + 2 < D := by simp [hsb] at hD; omega
    clear g0 hbr
    clear hL hown
    gi_wp2
    obtain ⟨W7, hW7⟩ : ∃ W7, ((((((W.setCell ⟨w.heap.size, 0, none⟩ (.int .i64 a0)).setCell ⟨w.heap.size, 1, none⟩ (.int .i64 a1)).setCell ⟨w.heap.size, 2, none⟩ (.int .i64 a2)).setCell ⟨w.heap.size, 3, none⟩ (.int .i64 a3)).setCell ⟨w.heap.size, 4, none⟩ (.int .i64 a4)).setCell ⟨w.heap.size, 5, none⟩ (.int .i64 a5)).setCell ⟨w.heap.size, 6, none⟩ (.int .i64 a6) = W7 := ⟨_, rfl⟩
    have hst := HST.out
    rw [hW7] at hst ⊢
    obtain ⟨hrow, hO7⟩ := hst
    have hK7 : W7.heap[D]? = some (.deferred (some [])) := (hO7.block D (Array.getElem?_eq_some_iff.1 hK).1 (by simp; omega)).trans hK
    refine ⟨by simp, .inl ⟨_, _, rfl, run_takeDeferred hK7, ?_⟩⟩
    refine ⟨_, results_70 rfl (by rfl) ((World.putObj_heap_other (by omega)).trans hrow), ?_⟩
    exact ⟨a0, a1, a2, a3, a4, a5, a6, HL.out, rfl, (hBW.trans (hO7.below hBW.size (by simp))).trans (belowK_b (w := w) (Nat.le_refl _) W7 D _ _ (by omega) hK7 rfl rfl)⟩
  case stop =>
    rintro D pre W _ h _
    exact h.elim
end Go.Proofs.Ytdpnmepplkiljaa
