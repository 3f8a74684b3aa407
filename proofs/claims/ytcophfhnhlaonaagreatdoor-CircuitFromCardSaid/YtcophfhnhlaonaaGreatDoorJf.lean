/-
  Joined from Ciq, Cir: see there.
-/
import Derived.Test.YtcophfhnhlaonaaGreatDoorJa
import Derived.Test.YtcophfhnhlaonaaGreatDoorUk
import Derived.Test.YtcophfhnhlaonaaGreatDoorJe
import Derived.Test.YtcophfhnhlaonaaGreatDoorFoc
namespace Go.Proofs.YtcophfhnhlaonaaGreatDoor
open Go.RowKit Go.ChangeShapes Go.WideShapes Go.Deep
set_option linter.unusedVariables false

section
variable {H : Type} {enc : TypeId × Value → H} {P : Program} {w : World} {base : Nat} {spare : Nat → Bool} {held : Bool}
theorem open_fields {e : TypeId} {fs : Array Field} {fuel : Nat} {cs : List Value} {x : DataW H × List MemPlace} (he : P.underlying e = some (.struct fs))
    (hone : oneCellFields P fs = true) (hC : P.cellsOf e = fs.size) (h : DataW.trod enc P w base spare held fuel e cs = some x) :
    ∃ (ys : List (DataW H × List MemPlace)) (n : Nat), x.1 = .agg (ys.map (·.1)) ∧ ys.length = fs.size ∧ cs.length = fs.size ∧
        ∀ (j : Nat) (f : Field), fs[j]? = some f → ∃ (v : Value) (y : DataW H × List MemPlace), cs[j]? = some v ∧ ys[j]? = some y ∧ DataW.trod enc P w base spare held n f.type [v] = some y := by
  obtain ⟨ys, n', hn', hy, hlen, hyl, hf⟩ := DataW.trod_struct he h
  rw [hC] at hlen
  refine ⟨ys, n', by rw [hy], hyl, hlen, fun j f hj => ?_⟩
  obtain ⟨ho, hk⟩ := hone_of hone j f hj
  have hjl : j < fs.size := (Array.getElem?_eq_some_iff.1 hj).1
  have hv : cs[j]? = some (cs[j]'(by omega)) := List.getElem?_eq_getElem (by omega)
  have h1 := hf j f hj
  rw [ho, hk] at h1
  have hone' : (cs.drop j).take 1 = [cs[j]'(by omega)] := by
    rw [List.drop_eq_getElem_cons (by omega)]
    rfl
  rw [hone'] at h1
  have hys : ys[j]? = some (ys[j]'(by omega)) := List.getElem?_eq_getElem (by omega)
  exact ⟨_, _, hv, hys, h1.trans hys⟩
end

theorem open_gates {H : Type} {enc : TypeId × Value → H} {w : World} {fuel : Nat} {v : Value} {x : DataW H × List MemPlace} (h : DataW.trod enc Tryz.prog w 0 (fun _ => true) true fuel 28 [v] = some x)
    (hw : ∀ n ∈ x.1.weights Tryz.prog 28, n ≤ reachBytes) : ∃ gs A c, v = .slice A gs.length c ∧ RdG w A gs ∧ gs.length ≤ 1152921504606846976 := by
  rcases open_slice_fields Tryz.underlying28 Tryz.underlying78 (by kernel_rfl) (by kernel_rfl) h with ⟨hcs, _⟩ | ⟨a, len, cap, m, D, Pl, hcs, _, hl, _, hm, rfl, hel⟩
  · simp at hcs
    subst hcs
    exact ⟨[], none, 0, rfl, fun k t hk => by simp at hk, by simp⟩
  · simp at hcs
    subst hcs
    have hml : len ≤ m := by rw [hm]; simp; exact hl
    have hlen : len ≤ reachBytes := by
      have h1 := hw ((((List.range len).map D).length + ((List.range (m - len)).map fun j => D (len + j)).length) * Tryz.prog.bytesOf 78) (by simp only [DataW.weights, Tryz.underlying28]; exact List.mem_cons_self)
      have h2 : Tryz.prog.bytesOf 78 = 40 := by kernel_rfl
      rw [h2] at h1
      simp at h1
      omega
    have hgood : ∀ i, i < len → ∃ t : Int × Int × List Int, w.cell? (a.add (i * 3)) = some (.int .i64 t.1) ∧ w.cell? (a.add (i * 3 + 1)) = some (.int .i64 t.2.1) ∧ ∃ u, w.cell? (a.add (i * 3 + 2)) = some u ∧ SlR w u t.2.2 := by
      intro i hi
      obtain ⟨ys, n, hD, _, hyl, hf⟩ := hel i (by omega)
      obtain ⟨v0, y0, c0, e0, t0⟩ := hf 0 _ rfl
      obtain ⟨v1, y1, c1, e1, t1⟩ := hf 1 _ rfl
      obtain ⟨v2, y2, c2, e2, t2⟩ := hf 2 _ rfl
      obtain ⟨k, hk, hk2, _⟩ := DataW.trod_int Tryz.underlying3 t0
      obtain ⟨nn, hn, hn2, _⟩ := DataW.trod_int Tryz.underlying3 t1
      simp at hk hn
      subst hk
      subst hn
      have hDm : D i ∈ (List.range len).map D := List.mem_map.2 ⟨i, by simpa using hi, rfl⟩
      have hwi : ∀ n ∈ y2.1.weights Tryz.prog 76, n ≤ reachBytes := fun n hn => hw n (by
        simp only [DataW.weights, Tryz.underlying28]
        refine List.mem_cons_of_mem _ (List.mem_append_left _ (weights_all_mem hDm n ?_))
        rw [hD]
        simp only [DataW.weights, Tryz.underlying78]
        exact DataW.weights_mem_each (j := 2) (t := 76) (d := y2.1) rfl (by simp [e2]) n hn)
      rcases open_ints Tryz.underlying76 Tryz.underlying3 (by kernel_rfl) t2 with ⟨hcs, _⟩ | ⟨b, l, c', zs, hcs, _, hl2, _, hz, rfl, hcell, _⟩
      · simp at hcs
        subst hcs
        exact ⟨(k, nn, []), c0, c1, _, c2, none, 0, rfl, RdI.nil _ _, by simp⟩
      · simp at hcs
        subst hcs
        simp at hz
        have hzl : (zs.take l).length = l := by rw [List.length_take, hz]; omega
        refine ⟨(k, nn, zs.take l), c0, c1, _, c2, some b, c', by rw [hzl], fun k y hk => ?_, ?_⟩
        · have hkl := (List.getElem?_eq_some_iff.1 hk).1
          rw [hzl] at hkl
          rw [List.getElem?_take, if_pos hkl] at hk
          refine ⟨b, rfl, ?_⟩
          rw [hcell k (by omega)]
          simp [List.getD, hk]
        · rw [hzl]
          have h1 := hwi (((lits .i64 (zs.take l) : List (DataW H)).length + (lits .i64 (zs.drop l) : List (DataW H)).length) * Tryz.prog.bytesOf 3) (by simp only [DataW.weights, Tryz.underlying76]; exact List.mem_cons_self)
          have h2 : Tryz.prog.bytesOf 3 = 8 := by kernel_rfl
          have h3 : reachBytes = 140737488351232 := rfl
          rw [h2] at h1
          simp [lits] at h1
          omega
    obtain ⟨ts, htl, hQ⟩ := list_choose len _ hgood
    refine ⟨ts.map fun t => ⟨t.1, t.2.1, t.2.2⟩, some a, cap, by rw [List.length_map, htl], fun k g hk => ?_, ?_⟩
    · rw [List.getElem?_map] at hk
      obtain ⟨t, hk2, rfl⟩ := Option.map_eq_some_iff.1 hk
      have hkl := (List.getElem?_eq_some_iff.1 hk2).1
      obtain ⟨z, hz⟩ : ∃ z, ts[0]? = some z := ⟨_, List.getElem?_eq_getElem (by omega)⟩
      have ha := spot_none (a := a) (by have := (hQ 0 z hz).1; simpa [Addr.add] using this)
      obtain ⟨c0, c1, u, c2, hu⟩ := hQ k t hk2
      rw [ha, add_none] at c0 c1 c2
      exact ⟨a.block, a.off, u, by rw [← ha], c0, by rw [Nat.add_assoc]; exact c1, by rw [Nat.add_assoc]; exact c2, hu⟩
    · rw [List.length_map, htl]
      have h3 : reachBytes = 140737488351232 := rfl
      omega
theorem open_circuit {H : Type} {enc : TypeId × Value → H} {w : World} {fuel : Nat} {cs : List Value} {x : DataW H × List MemPlace} (h : DataW.trod enc Tryz.prog w 0 (fun _ => true) true fuel 30 cs = some x)
    (hw : ∀ n ∈ x.1.weights Tryz.prog 30, n ≤ reachBytes) : ∃ inp gs, CirV w (.agg cs.toArray) inp gs := by
  obtain ⟨ys, n, hx, hyl, hcl, hf⟩ := open_fields Tryz.underlying30 (by kernel_rfl) (by kernel_rfl) h
  obtain ⟨v0, y0, c0, e0, t0⟩ := hf 0 _ rfl
  obtain ⟨v1, y1, c1, e1, t1⟩ := hf 1 _ rfl
  obtain ⟨inp, hi, _, _⟩ := DataW.trod_int Tryz.underlying3 t0
  simp at hi
  subst hi
  obtain ⟨gs, A, c, rfl, hr, hl⟩ := open_gates t1 (fun n hn => hw n (by
    rw [hx]
    simp only [DataW.weights, Tryz.underlying30]
    exact DataW.weights_mem_each (j := 1) (t := 28) (d := y1.1) rfl (by simp [e1]) n hn))
  refine ⟨inp, gs, A, c, ?_, hr, hl⟩
  match cs, hcl, c0, c1 with
  | [a, b], _, c0, c1 =>
    simp at c0 c1
    subst c0
    subst c1
    rfl
end Go.Proofs.YtcophfhnhlaonaaGreatDoor
namespace Go.Proofs.YtcophfhnhlaonaaGreatDoor
open Go.RowKit Go.ChangeShapes Go.WideShapes Go.Deep
set_option linter.unusedVariables false
theorem pow_reads {W : World} (r3 : Lib.VarReads Tryz.prog W "internal/strconv.uint64pow10" Rows.laid_internal_strconv_uint64pow10) : Lib.TabIs Tryz.prog W "internal/strconv.uint64pow10" .u64 Lib.pow10Tab := by
  obtain ⟨g3, t3, cs3, fuel3, p3, hg3, ht3, hvar3, hd3⟩ := r3
  have eg3 : Tryz.prog.globalNamed "internal/strconv.uint64pow10" = some 4 := by kernel_rfl
  have et3 : (Tryz.prog.globals[4]?).map (·.type) = some 184 := by kernel_rfl
  obtain rfl := Option.some.inj (eg3.symm.trans hg3)
  obtain rfl := Option.some.inj (et3.symm.trans ht3)
  rw [pw_datum] at hd3
  have hcs := Lib.cells_of_tab Tryz.underlying184 Tryz.underlying88 (by kernel_rfl) (by kernel_rfl) hd3
  unfold Lib.TabIs
  rw [hvar3, ← hcs]
theorem LayC.below {w w' : World} (h : LayC w) (hB : Below w.heap.size w w') : LayC w' := ⟨Lib.tabBelow_of_tabIs h.pow w' hB, h.errs.below hB⟩
end Go.Proofs.YtcophfhnhlaonaaGreatDoor
