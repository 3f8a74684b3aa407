/-
  Contract of From of package circuit.
-/
import Derived.Test.YtcophfhnhlaonaaDoorCik
import Derived.Test.YtcophfhnhlaonaaDoorVc
namespace Go.Proofs.YtcophfhnhlaonaaDoor
set_option linter.unusedVariables false
open Go.RowKit

theorem Mg.reads {B q mb : Nat} {W : World} {L : List (Gat × Value)} (h : Mg B q mb W L) : ∃ A c, W.heap[q]? = some (.cells #[.slice A L.length c, .map (some mb)] 86 (0, 0)) ∧ RdG W A (L.map Prod.fst) := by
  obtain ⟨lv, h1, h2⟩ := h.blk
  rcases h2.2 with ⟨rfl, h0⟩ | ⟨g, cap, cur, rfl, _⟩
  · exact ⟨none, 0, by rw [h0]; exact h1, by rw [List.eq_nil_of_length_eq_zero h0]; exact fun i g hg => by simp at hg⟩
  · refine ⟨some ⟨g, 0, none⟩, cap, h1, fun i y hy => ?_⟩
    rw [List.getElem?_map] at hy
    obtain ⟨x, hx, rfl⟩ := Option.map_eq_some_iff.1 hy
    obtain ⟨f1, f2, f3⟩ := flatG_at L i x hx
    have hil := (List.getElem?_eq_some_iff.1 hx).1
    have hm := h.els x (List.mem_of_getElem? hx)
    refine ⟨g, 0, x.2, rfl, ?_, ?_, ?_, hm.1.reads (by have := hm.2.2.2.2.2.1; omega)⟩
    · rw [Nat.zero_add, h2.cellAt (i * 3) (by omega), f1]
    · rw [Nat.zero_add, h2.cellAt (i * 3 + 1) (by omega), f2]
    · rw [Nat.zero_add, h2.cellAt (i * 3 + 2) (by omega), f3]
/-- Blocks below B may turn where no gate's kids lie there. -/
theorem Mg.keep {B q mb : Nat} {W0 W W' : World} {L : List (Gat × Value)} (h : Mg B q mb W L) (hn : NewE W0 [] L) (hB : B ≤ W0.heap.size) (hsz : W'.heap.size = W.heap.size) (hk : ∀ b, B ≤ b → W'.heap[b]? = W.heap[b]?) : Mg B q mb W' L := by
  obtain ⟨lv, h1, h2⟩ := h.blk
  refine ⟨h.le, h.leM, ⟨lv, (hk q h.le).trans h1, h2.1, ?_⟩, h.map.block (hk mb h.leM), fun x hx => ⟨(h.els x hx).1.kept (by omega) fun he k hkk => hk k ?_, (h.els x hx).2⟩⟩
  · rcases h2.2 with h3 | ⟨g, cap, cur, e, hb, hgb, hrest⟩
    · exact .inl h3
    · exact .inr ⟨g, cap, cur, e, hb, (hk g hb).trans hgb, hrest⟩
  · rcases hn x hx with h3 | h3
    · simp at h3
    · exact Nat.le_trans hB (h3 he k hkk)
/-- The gates of a formula's circuit. -/
def gatesT (t : Tre) : List Gat := (addT t []).1
def FrmIs (o : Option (Nat × Nat × Nat × Nat)) (t : Tre) (inp : Int) (e : Ending) (w' : World) : Prop :=
  match o with
  | none => e = .returned (.tuple #[.agg #[.int .i64 0, .slice none 0 0], .int .i64 1])
  | some x => ((inp < (x.2.1 : Int) ∨ 16 < inp) ∧ e = .returned (.tuple #[.agg #[.int .i64 0, .slice none 0 0], .int .i64 2])) ∨ ((x.2.1 : Int) ≤ inp ∧ inp ≤ 16 ∧ ∃ A c, e = .returned (.tuple #[.agg #[.int .i64 inp, .slice A (gatesT t).length c], .int .i64 0]) ∧ RdG w' A (gatesT t))

theorem mes_facts {t : Tre} {a b c d : Nat} (h : mesI fSh t = some (a, b, c, d)) : okT fSh 16 t ∧ nodT t ≤ 20000 ∧ b ≤ 16 := by
  have hy : okR fSh t = true := by
    cases hr : okR fSh t with
    | true => rfl
    | false => rw [mesI_no hr] at h; cases h
  obtain ⟨h1, h2, h3⟩ := mesI_yes hy
  have hv : ∃ d' m, visN fSh t 1 ⟨0, 0, 0⟩ = (some d', m) ∧ m.inputs = b := by
    unfold mesI at h
    split at h
    · rename_i d' m' hv
      simp at h
      exact ⟨d', m', hv, h.2.1⟩
    · cases h
  obtain ⟨d', m, hv, hb⟩ := hv
  have hb16 : b ≤ 16 := mes_inp h
  have := (visN_okT hv).1
  rw [hb] at this
  exact ⟨this.mono hb16, h3, hb16⟩

theorem set2_heap {W : World} {g : Nat} {x y : Value} {T : TypeId} (a b : Value) (h : W.heap[g]? = some (.cells #[x, y] T (0, 0))) : ((W.setCell ⟨g, 0, none⟩ a).setCell ⟨g, 1, none⟩ b).heap[g]? = some (.cells #[a, b] T (0, 0)) := by
  have h1 := heap_setCell_same W g 0 _ _ a h
  have h2 := heap_setCell_same _ g 1 _ _ b h1
  simpa using h2

set_option maxRecDepth 100000 in
set_option maxHeartbeats 8000000 in
theorem From_ok (t : Tre) (v : Value) (inp : Int) (w : World) (hT : TreV 0 w t v) :
    Calls Tryd.prog 25 #[v, .int .i64 inp] w fun e w' => FrmIs (mesI fSh t) t inp e w' ∧ Below w.heap.size w w' := by
  obtain ⟨k, n, ts⟩ := t
  have hT2 := hT
  unfold TreV at hT2
  obtain ⟨A, c, rfl, _⟩ := hT2
  have hb2 := below2 w (.cells #[.int .i64 k, .int .i64 n, .slice A ts.length c] 47) (.cells #[.int .i64 0, .slice none 0 0] 24)
  obtain ⟨w1, hw1⟩ : ∃ w1, w1 = (w.alloc (.cells #[.int .i64 k, .int .i64 n, .slice A ts.length c] 47)).alloc (.cells #[.int .i64 0, .slice none 0 0] 24) := ⟨_, rfl⟩
  have hbf : w1.heap[w.heap.size]? = some (.cells #[.int .i64 k, .int .i64 n, .slice A ts.length c] 47 (0, 0)) := by rw [hw1, Below.heap_alloc _ _ _ (by simp)]; exact alloc_at _ _ _ rfl
  have hbc : w1.heap[w.heap.size + 1]? = some (.cells #[.int .i64 0, .slice none 0 0] 24 (0, 0)) := by rw [hw1]; exact alloc_at _ _ _ (by simp)
  rw [← hw1] at hb2
  have hsz1 : w1.heap.size = w.heap.size + 2 := by rw [hw1]; simp
  have HW1 := Lib.hid hw1
  have HSZ1 := Lib.hid hsz1
  have HB1 := Lib.hid hb2
  have HBF := Lib.hid (fun W (hW : Below w1.heap.size w1 W) => (hW.block w.heap.size (by omega)).trans hbf)
  have HBC := Lib.hid (fun W (hW : Below w1.heap.size w1 W) => (hW.block (w.heap.size + 1) (by omega)).trans hbc)
  have HTW := Lib.hid (fun W (hW : Below w1.heap.size w1 W) => hT.below (hb2.trans (hW.mono hb2.size)))
  have HV := Lib.hid (fun W (hW : Below w1.heap.size w1 W) => Valid_ok (.mk k n ts) _ W (HTW.out W hW))
  have HI := Lib.hid (fun W (hW : Below w1.heap.size w1 W) => Inputs_ok (.mk k n ts) _ W (HTW.out W hW))
  have HM := Lib.hid (fun a b c d (h : mesI fSh (.mk k n ts) = some (a, b, c, d)) => mes_facts h)
  have HAD := Lib.hid (fun W q mb W' (hW : Below w1.heap.size w1 W) (hB : Below W.heap.size W W') (hM : Mg W.heap.size q mb W' []) h1 h2 => addF_ok W q mb _ (.mk k n ts) (Nat.lt_succ_self _) _ [] W' (HTW.out W hW) hB hM h1 h2)
  have HGT : Hid ((addT (.mk k n ts) (([] : List (Gat × Value)).map Prod.fst)).1 = gatesT (.mk k n ts)) := Lib.hid rfl
  obtain ⟨gts, hgts⟩ : ∃ g, gatesT (.mk k n ts) = g := ⟨_, rfl⟩
  rw [hgts] at HGT
  have HGTS := Lib.hid hgts
  clear hgts
  obtain ⟨⟨c0, c1, c2⟩, _⟩ := blk3_cells hbf
  obtain ⟨⟨d0, d1⟩, e0, e1⟩ := blk2_cells hbc
  clear hT hw1 hb2 hbf hbc hsz1
  obtain ⟨o, ho⟩ : ∃ o, mesI fSh (.mk k n ts) = o := ⟨_, rfl⟩
  rw [ho] at HV HI HM ⊢
  clear ho
  go_enter Tryd.func25, Tryd.ntmps25
  go_upto_region 1 with fail
  rw [← HW1.out]
  go_wp2_with fail
  refine (HV.out _ (Below.refl _ _)).mono ?_
  rintro e w2 ⟨rfl, hB2⟩
  have HB2 := Lib.hid hB2
  obtain ⟨⟨c0, c1, c2⟩, _⟩ := blk3_cells (HBF.out _ hB2)
  obtain ⟨⟨d0, d1⟩, e0, e1⟩ := blk2_cells (HBC.out _ hB2)
  clear hB2
  rcases o with _ | ⟨oa, ob, oc, od⟩
  · simp only [Option.isSome_none]
    have hh := set2_heap (.int .i64 0) (.slice none 0 0) (HBC.out _ HB2.out)
    have hb := ((HB1.out.trans (HB2.out.mono HB1.out.size)).setCell (p := ⟨w.heap.size + 1, 0, none⟩) (Nat.le_succ _) (.int .i64 0)).setCell (p := ⟨w.heap.size + 1, 1, none⟩) (Nat.le_succ _) (.slice none 0 0)
    have HF := Lib.hid (And.intro hh hb)
    clear hh hb
    go_wp2_with fail
    show bodyPost _ _ _ _ _ ((w2.setCell ⟨w.heap.size + 1, 0, none⟩ (.int .i64 0)).setCell ⟨w.heap.size + 1, 1, none⟩ (.slice none 0 0))
    obtain ⟨hh, hb⟩ := HF.out
    generalize ((w2.setCell ⟨w.heap.size + 1, 0, none⟩ (.int .i64 0)).setCell ⟨w.heap.size + 1, 1, none⟩ (.slice none 0 0)) = W at *
    obtain ⟨⟨v0, v1⟩, _⟩ := blk2_cells hh
    exact bodyPost_ret (v := .tuple #[.agg #[.int .i64 0, .slice none 0 0], .int .i64 1]) (by simp [results, Tryd.results25, go_sem, v0, v1]) rfl ⟨rfl, hb⟩
  simp only [Option.isSome_some]
  have HI2 := Lib.hid (HI.out w2 HB2.out)
  have hob : ob ≤ 16 := (HM.out _ _ _ _ rfl).2.2
  simp only [mesB] at HI2
  go_wp2_with fail
  refine HI2.out.mono ?_
  rintro e w3 ⟨rfl, hB3⟩
  have HB3 := Lib.hid (HB2.out.trans (hB3.mono HB2.out.size))
  obtain ⟨⟨c0, c1, c2⟩, _⟩ := blk3_cells (HBF.out _ HB3.out)
  obtain ⟨⟨d0, d1⟩, e0, e1⟩ := blk2_cells (HBC.out _ HB3.out)
  clear hB3
  have hbadH : ∀ W, Below w1.heap.size w1 W → ((W.setCell ⟨w.heap.size + 1, 0, none⟩ (.int .i64 0)).setCell ⟨w.heap.size + 1, 1, none⟩ (.slice none 0 0)).heap[w.heap.size + 1]? = some (.cells #[.int .i64 0, .slice none 0 0] 24 (0, 0)) ∧ Below w.heap.size w ((W.setCell ⟨w.heap.size + 1, 0, none⟩ (.int .i64 0)).setCell ⟨w.heap.size + 1, 1, none⟩ (.slice none 0 0)) := fun W hW =>
    ⟨set2_heap (.int .i64 0) (.slice none 0 0) (HBC.out _ hW), ((HB1.out.trans (hW.mono HB1.out.size)).setCell (p := ⟨w.heap.size + 1, 0, none⟩) (Nat.le_succ _) (.int .i64 0)).setCell (p := ⟨w.heap.size + 1, 1, none⟩) (Nat.le_succ _) (.slice none 0 0)⟩
  have HBAD := Lib.hid hbadH
  clear hbadH
  by_cases t0 : inp < (ob : Int)
  · have g0 : decide (inp < (ob : Int)) = true := decide_eq_true t0
    have HT0 := Lib.hid t0
    clear t0
    go_wp2_with fail
    show bodyPost _ _ _ _ _ ((w3.setCell ⟨w.heap.size + 1, 0, none⟩ (.int .i64 0)).setCell ⟨w.heap.size + 1, 1, none⟩ (.slice none 0 0))
    obtain ⟨hh, hb⟩ := HBAD.out w3 HB3.out
    generalize ((w3.setCell ⟨w.heap.size + 1, 0, none⟩ (.int .i64 0)).setCell ⟨w.heap.size + 1, 1, none⟩ (.slice none 0 0)) = W at *
    obtain ⟨⟨v0, v1⟩, _⟩ := blk2_cells hh
    exact bodyPost_ret (v := .tuple #[.agg #[.int .i64 0, .slice none 0 0], .int .i64 2]) (by simp [results, Tryd.results25, go_sem, v0, v1]) rfl ⟨.inl ⟨.inl HT0.out, rfl⟩, hb⟩
  have g0 : decide (inp < (ob : Int)) = false := decide_eq_false t0
  by_cases t1 : 16 < inp
  · have g1 : decide (16 < inp) = true := decide_eq_true t1
    have HT1 := Lib.hid t1
    clear t0 t1
    go_wp2_with fail
    show bodyPost _ _ _ _ _ ((w3.setCell ⟨w.heap.size + 1, 0, none⟩ (.int .i64 0)).setCell ⟨w.heap.size + 1, 1, none⟩ (.slice none 0 0))
    obtain ⟨hh, hb⟩ := HBAD.out w3 HB3.out
    generalize ((w3.setCell ⟨w.heap.size + 1, 0, none⟩ (.int .i64 0)).setCell ⟨w.heap.size + 1, 1, none⟩ (.slice none 0 0)) = W at *
    obtain ⟨⟨v0, v1⟩, _⟩ := blk2_cells hh
    exact bodyPost_ret (v := .tuple #[.agg #[.int .i64 0, .slice none 0 0], .int .i64 2]) (by simp [results, Tryd.results25, go_sem, v0, v1]) rfl ⟨.inl ⟨.inr HT1.out, rfl⟩, hb⟩
  have g1 : decide (16 < inp) = false := decide_eq_false t1
  have HT := Lib.hid (And.intro t0 t1)
  clear t0 t1
  have HNM := Lib.hid (newMerger_ok w3)
  go_wp2_with fail
  refine HNM.out.mono ?_
  rintro e w4 ⟨rfl, hM4, hB4⟩
  have HB4 := Lib.hid (HB3.out.trans (hB4.mono HB3.out.size))
  obtain ⟨⟨c0, c1, c2⟩, _⟩ := blk3_cells (HBF.out _ HB4.out)
  have hB4z := Lib.hid hB4.size
  have HCALL := Lib.hid (HAD.out w3 _ _ w4 HB3.out hB4 hM4 (HM.out _ _ _ _ rfl).1 (by have := (HM.out _ _ _ _ rfl).2.1; simp; omega))
  clear hB4 hM4
  go_wp2_with fail
  refine HCALL.out.mono ?_
  rintro e w5 ⟨rfl, L', hM5, hL5, hn5, hf5⟩
  have HB5 := Lib.hid (HB4.out.trans (show Below w1.heap.size w4 w5 from hf5.bel.mono HB3.out.size))
  obtain ⟨d0, d1⟩ := (blk2_cells (HBC.out _ HB5.out)).1
  obtain ⟨e0, e1⟩ := (blk2_cells (HBC.out _ HB5.out)).2
  obtain ⟨GA, gc, hq5, hr5⟩ := hM5.reads
  obtain ⟨q0, q1⟩ := (blk2_cells hq5).1
  have hll : L'.length = gts.length := by rw [← HGT.out, ← hL5, List.length_map]
  have hgl : L'.map Prod.fst = gts := by rw [hL5, HGT.out]
  rw [hgl] at hr5
  rw [hll] at q0
  have hh := set2_heap (.int .i64 inp) (.slice GA gts.length gc) (HBC.out _ HB5.out)
  have hb := ((HB1.out.trans (HB5.out.mono HB1.out.size)).setCell (p := ⟨w.heap.size + 1, 0, none⟩) (Nat.le_succ _) (.int .i64 inp)).setCell (p := ⟨w.heap.size + 1, 1, none⟩) (Nat.le_succ _) (.slice GA gts.length gc)
  have h34 : w3.heap.size ≤ w4.heap.size := hB4z.out
  have h13 := HB3.out.size
  have h11 := HSZ1.out
  have hM6 : Mg w3.heap.size (w3.heap.size + 1) w3.heap.size ((w5.setCell ⟨w.heap.size + 1, 0, none⟩ (.int .i64 inp)).setCell ⟨w.heap.size + 1, 1, none⟩ (.slice GA gts.length gc)) L' :=
    hM5.keep hn5 h34 (by simp) (fun b hb => by
      rw [heap_setCell_other _ _ _ _ (show b ≠ _ by dsimp only; omega), heap_setCell_other _ _ _ _ (show b ≠ _ by dsimp only; omega)])
  have hr6 : RdG ((w5.setCell ⟨w.heap.size + 1, 0, none⟩ (.int .i64 inp)).setCell ⟨w.heap.size + 1, 1, none⟩ (.slice GA gts.length gc)) GA gts := by
    obtain ⟨GA', gc', hq6, hr⟩ := hM6.reads
    rw [heap_setCell_other _ _ _ _ (show w3.heap.size + 1 ≠ _ by dsimp only; omega), heap_setCell_other _ _ _ _ (show w3.heap.size + 1 ≠ _ by dsimp only; omega), hq5] at hq6
    simp only [Option.some.injEq, Obj.cells.injEq, Array.mk.injEq, List.cons.injEq, Value.slice.injEq, and_true] at hq6
    rw [hgl, ← hq6.1] at hr
    exact hr
  have HF := Lib.hid (And.intro hh (And.intro hb hr6))
  clear hh hb hr6 hr5 hM5 hL5 hf5 hq5 hll hgl hM6 hn5 h34 h13 h11
  go_wp2_with fail
  show bodyPost _ _ _ _ _ ((w5.setCell ⟨w.heap.size + 1, 0, none⟩ (.int .i64 inp)).setCell ⟨w.heap.size + 1, 1, none⟩ (.slice GA gts.length gc))
  obtain ⟨hh, hb, hr6⟩ := HF.out
  generalize ((w5.setCell ⟨w.heap.size + 1, 0, none⟩ (.int .i64 inp)).setCell ⟨w.heap.size + 1, 1, none⟩ (.slice GA gts.length gc)) = W at *
  obtain ⟨⟨v0, v1⟩, _⟩ := blk2_cells hh
  exact bodyPost_ret (v := .tuple #[.agg #[.int .i64 inp, .slice GA gts.length gc], .int .i64 0]) (by simp [results, Tryd.results25, go_sem, v0, v1]) rfl ⟨.inr ⟨by have := HT.out.1; dsimp only; omega, by have := HT.out.2; omega, GA, gc, by rw [HGTS.out], by rw [HGTS.out]; exact hr6⟩, hb⟩
end Go.Proofs.YtcophfhnhlaonaaDoor
