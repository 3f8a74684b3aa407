/-
  Contract of poly of package poly: a sum as a polynomial, or the word that it is too long.
-/
import Derived.Test.YtiiopdomlepkmaaDoorPqj
namespace Go.Proofs.YtiiopdomlepkmaaDoor
set_option linter.unusedVariables false
open Go.RowKit Go.Maps Go.Sort Go.Shelf

theorem sorted_call2 (b nn : Nat) (D0 : DataW Unit) (R : Value → Option (DataW Unit × List MemPlace)) (w : World) (g : Nat) (hg : g = w.heap.size) (hown : w.ownsMap Tryd.prog 9 R b nn D0) (hmax : Maps.size D0 ≤ maxLen) (hbytes : Maps.size D0 * 16 ≤ 140737488355328) :
    Calls Tryd.prog 59 #[.func (.func 83) #[] #[.pointer (some ⟨g, 0, none⟩)]] (w.alloc (.cells #[.map (some b)] 90)) fun e w' => ∃ (v : Value) (ss : List (List UInt8)), e = .returned v ∧ ss.Perm (strKeys D0) ∧
      w'.ownsRow (g + 1) 9 1 v ss.length ((ss.mergeSort leB).map encStr) ∧ (v = .slice none 0 0 ↔ ss = []) ∧ Below (g + 1) (w.alloc (.cells #[.map (some b)] 90)) w' := by
  subst hg
  have := sorted_call b nn D0 R w hown hmax hbytes
  simpa using this

theorem Tells.size_le {n : Nat} {add : Nat → Nat → Nat} {ts : List Tm} {D : DataW Unit} (h : Tells n add ts D) : Maps.size D ≤ ts.length := by
  obtain ⟨_, _, _, h3⟩ := h
  exact h3

/-- What poly hands back of a sum of the terms ts. -/
def PolyIs (q n : Nat) (add : Nat → Nat → Nat) (ts : List Tm) (mb : Nat) (w : World) (r : Ending) (w' : World) : Prop :=
  Only (fun g => g = mb) w w' ∧ ∃ p : List Tm, Ris q n p ∧ (∀ e, cfs add p e = cfs add ts e) ∧ (∀ t ∈ p, Ex n t.2) ∧ p.length ≤ ts.length ∧
    ((p.length ≤ 20000 ∧ ∃ A c, r = .returned (.tuple #[.slice A p.length c, .bool true]) ∧ RdP w' A (tms p)) ∨ (20000 < p.length ∧ r = .returned (.tuple #[.slice none 0 0, .bool false])))

theorem two_new (w : World) (a b : Value) (t : TypeId) : ∀ j u, [a, b][j]? = some u → (w.alloc (.cells #[a, b] t)).cell? (Addr.add ⟨w.heap.size, 0, none⟩ j) = some u := by
  intro j u h
  match j, h with
  | 0, h => simp at h; subst h; simp [Addr.add]
  | 1, h => simp at h; subst h; simp [Addr.add]
  | j + 2, h => simp at h
theorem two_one (a : Int) (b : Option Addr) (n c : Nat) : ∀ u ∈ [Value.int .i64 a, Value.slice b n c], u.oneCell' = true := by
  intro u h
  simp at h
  rcases h with rfl | rfl <;> rfl
/-- The round of poly: k keys have been done. -/
structure PolyR (w w1 w2 : World) (sb mb kb B P M q n cnt : Nat) (D : DataW Unit) (E : List (List Nat)) (f : List Nat → Nat) (sv : Value) (v : Value) (out : List (Tm × Nat)) (wr : World) : Prop where
  outs : OutS w1.heap.size n v out wr
  terms : out.map Prod.fst = (E.take out.length).map fun e => (f e, e)
  bel : Below w1.heap.size w1 wr
  keep : KeepT w2 wr

set_option maxRecDepth 100000 in
set_option maxHeartbeats 4000000 in
theorem poly_ok (w0 w : World) (sb mb kb P M q n cnt : Nat) (hf : Fld P M q) (hn : n ≤ 80) (D : DataW Unit) (ts : List Tm) (hS : SumAt w0.heap.size sb mb kb P M q n cnt D w) (hT : Tells n (addN P M) ts D) (hcl : CoLt q ts) (hcnt : cnt ≤ 4611686018427387904) :
    Calls Tryd.prog 41 #[.pointer (some ⟨sb, 0, none⟩)] w (PolyIs q n (addN P M) ts mb w) := by
  have HST := Lib.hid (settle_ok w0.heap.size sb mb kb P M q n cnt D w hS hcnt)
  obtain ⟨hT2, hD⟩ := hT.sweep
  have HT := Lib.hid hT2
  have HD := Lib.hid hD
  have HC := Lib.hid hcl
  clear hS hT hT2 hD hcl hcnt
  generalize hDD : Lib.deleteFuncD pdZ D = DD at *
  have hz : Maps.size DD ≤ 20000 ∨ 20000 < Maps.size DD := by omega
  generalize hsz : Maps.size DD = sz at *
  have HSZ := Lib.hid hsz
  clear hDD hsz
  rcases hz with hz | hz
  · have hzd : decide (sz ≤ 20000) = true := decide_eq_true hz
    rw [hzd] at HST
    clear hzd
    go_enter Tryd.func41, Tryd.ntmps41
    go_wp2_with fail
    refine HST.out.mono ?_
    rintro e w1 ⟨rfl, hS1, hO1⟩
    obtain ⟨d4, -⟩ := hS1.cells
    have hlen := hS1.map.len Tryd.underlying90 3
    rw [HSZ.out] at hlen
    obtain ⟨cs, hcs, hmk⟩ := make_terms sz hz
    have HS1 := Lib.hid hS1
    have HO1 := Lib.hid hO1
    have HCS := Lib.hid hcs
    have hBa : Below w1.heap.size w1 (w1.alloc (.cells cs 65)) := below1 _ _
    have hS2 := hS1.below hBa
    have d4' := hS2.cells.1
    have HS2 := Lib.hid hS2
    have HKC := Lib.hid (fun W => keys_call (some mb) W)
    have HSO := Lib.hid (sorted_call2 mb cnt DD (plainElem Tryd.prog 3) (w1.alloc (.cells cs 65)) (w1.heap.size + 1) (by simp) hS2.map (by rw [HSZ.out]; unfold maxLen; omega) (by rw [HSZ.out]; omega))
    clear hS1 hO1 hcs hBa hS2
    go_wp2_with fail
    refine (HKC.out _).mono ?_
    rintro e w2 ⟨rfl, rfl⟩
    go_wp2_with fail
    refine HSO.out.mono ?_
    rintro e w2 ⟨sv, ss, rfl, hss, hrow, hnil, hB2⟩
    obtain ⟨E, hE1, hE2, hE3, hE4, hE5, hE6⟩ := Tells.poly hf.fl.toRng HC.out HD.out hss
    have hsl : ss.length = sz := by rw [← hE6, hE5]; exact HSZ.out
    obtain ⟨SA, sc, rfl⟩ : ∃ A c, sv = .slice A ss.length c := by
      rcases hrow.2 with ⟨rfl, h0⟩ | ⟨g, cap, cur, rfl, _⟩
      · refine ⟨none, 0, ?_⟩
        have := hrow.1
        rw [h0] at this
        simp at this
        rw [this]; rfl
      · exact ⟨_, _, rfl⟩
    rw [hsl] at hrow ⊢
    have hEl : E.length = sz := hE5.trans HSZ.out
    have hBw : Below w1.heap.size w1 w2 := (below2 w1 _ _).trans (hB2.mono (by omega))
    have hblk : w2.heap[w1.heap.size]? = some (.cells cs 65 (0, 0)) := (hB2.block w1.heap.size (by omega)).trans (alloc_old _ _ _ _ (alloc_at _ _ _ rfl))
    have hst := OutS.start w1.heap.size n sz cs HCS.out hz w2 hblk
    have hrd : ∀ k e, E[k]? = some e → ∃ g, SA = some ⟨g, 0, none⟩ ∧ ∀ W, KeepT w2 W → W.cell? ⟨g, k, none⟩ = some (.string ⟨(keyB e).toArray⟩) := fun k e he => by
      have hk : k < sz := by rw [← hEl]; exact (List.getElem?_eq_some_iff.1 he).1
      rcases hrow.2 with ⟨hv, h0⟩ | ⟨g, cap, cur, hv, _, hg, _, _, hcs2, htk⟩
      · simp only [Value.slice.injEq] at hv
        omega
      · simp only [Value.slice.injEq] at hv
        refine ⟨g, hv.1, fun W hW => ?_⟩
        have h1 := hW _ _ hg (fun cs' e' => by simp at e')
        have h2 := congrArg (fun l => l[k]?) htk
        rw [hE1] at h2
        simp only [List.getElem?_map, he, Option.map_some, List.getElem?_take, Nat.mul_one, hk, if_true] at h2
        rw [World.cell?, h1]
        simp only [Option.isSome_none, Bool.false_eq_true, if_false]
        rw [← Array.getElem?_toList, h2]
    have HE3 := Lib.hid hE3
    have HE2 := Lib.hid hE2
    have HE4 := Lib.hid hE4
    have HEL := Lib.hid hEl
    have HRD := Lib.hid hrd
    have HBW := Lib.hid hBw
    have HOUT := Lib.hid hst
    clear hE1 hE2 hE3 hE4 hE5 hE6 hss hnil hB2 hBw hblk hst hrd hrow hsl hEl hlen hmk d4 d4' HST HKC HSO
    go_wp2_with fail
    go_loopw [4, 6, 23] (fun v _ i wr => ∃ (k : Nat) (out : List (Tm × Nat)), k ≤ sz ∧ i = .int .i64 k ∧ out.length = k ∧ PolyR w w1 w2 sb mb kb w1.heap.size P M q n cnt DD E (cfs (addN P M) ts) v v out wr) (fun _ _ i _ => sz - (intOf i).toNat)
    case atStart => exact ⟨0, [], by omega, rfl, rfl, HOUT.out, by simp, HBW.out, KeepT.refl _⟩
    case round =>
      obtain ⟨k, out, hk, rfl, hol, hR⟩ := hrel
      have HR := Lib.hid hR
      have HOL := Lib.hid hol
      clear hol
      by_cases hlt : k < sz
      · obtain ⟨e, he⟩ : ∃ e, E[k]? = some e := ⟨_, List.getElem?_eq_getElem (by rw [HEL.out]; exact hlt)⟩
        obtain ⟨gs, rfl, hcell⟩ := HRD.out k e he
        have ck := hcell _ hR.keep
        have hem := HE2.out e (List.mem_of_getElem? he)
        have HEM := Lib.hid hem
        have HE := Lib.hid he
        have hSr := HS1.out.below hR.bel
        have d4 := hSr.cells.1
        have HSR := Lib.hid hSr
        have hkl : (keyB e).length ≤ 160 := by rw [keyB_length, hem.1.1]; omega
        have hatk : ∀ z, DD.atKey (.string (keyB e)) z = .lit (.int .i64 (cfs (addN P M) ts e : Int)) := (HD.out.at hem.1).2 _ (by rw [if_neg hem.2])
        have hlk := look_key1 (n := n) (W := wr.drew) hSr.map.drew (keyB e) hkl _ (hatk _)
        have HLK2 := Lib.hid (fun (W : World) (hW : Below wr.heap.size wr W) => look_key1 (n := n) (W := W) (hSr.below hW).map (keyB e) hkl _ (hatk (.lit (.int .i64 0))))
        have HX := Lib.hid (exps_ok e n hem.1 hn)
        obtain ⟨vb, vn, vc, hv⟩ : ∃ a m c, u4 = .slice a m c := by
          rcases hR.outs.row.2 with ⟨h, _⟩ | ⟨_, _, _, h, _⟩
          · exact ⟨_, _, _, h⟩
          · exact ⟨_, _, _, h⟩
        subst hv
        obtain ⟨i0, hi, hz0, hz1, hz2⟩ := info_parts Tryd.infoT
        have hcf := cfs_lt hf.fl.toRng HC.out e
        generalize hcv : cfs (addN P M) ts e = cv at *
        have HCV := Lib.hid hcv
        have HSZW : Hid (w1.heap.size ≤ wr.heap.size) := Lib.hid hR.bel.size
        clear hcv hcell he hem hSr hatk hR
        go_wp2_with fail
        generalize hwq : wr = wq at *
        go_region_law (first
          | (refine step_append_lies _ rfl (.tmp 27) (.tmp 37) 25 rfl w1.heap.size 65 i0 (.agg #[.int .i64 0, .slice none 0 0]) 2 32 Tryd.underlying25 hi hz0 hz1 hz2 rfl (by decide) (.slice vb vn vc) out.length (flatT n out) (by simp [Act.eval]) ((ownsRow_below HR.out.outs.row (below_undrew hB3)).alloc _) ⟨w3.heap.size, 0, none⟩ 1 1 [.int .i64 (cv : Int), .slice (some ⟨wq.heap.size, 0, none⟩) n n] (by simp [Act.eval]) rfl (two_new _ _ _ _) (two_one _ _ _ _) (by decide) (by have := HOL.out; unfold maxLen; omega) (by have := HOL.out; omega) (by have h1 := hB3.size; have h2 := HSZW.out; rw [World.size_alloc]; exact Nat.le_trans h2 (Nat.le_trans h1 (Nat.le_succ _))) (w3.heap.size + 1) (by simp) ?_; intro g cap w4 hown hgrow hgo hglt)
          | (go_simp; (with_reducible refine (HX.out _).mono ?_); rintro r w3 ⟨rfl, hg3, hB3⟩; have hlk2 := HLK2.out w3 (below_undrew hB3); have d43 := (SumAt.below HSR.out (below_undrew hB3)).cells.1))
        all_goals
          obtain ⟨q1, q2⟩ := HR.out.outs.push (below_undrew hB3) (cv, e) HEM.out.1.1 wq.heap.size HSZW.out hg3 _ hown hgrow
          have hb4 : Below w1.heap.size w1 w4 := by
            have h3 := (HR.out.bel.trans ((below_undrew hB3).mono HSZW.out))
            have hsz3 : w1.heap.size ≤ w3.heap.size := Nat.le_trans HSZW.out hB3.size
            exact (h3.alloc hsz3 (.cells #[.int .i64 (cv : Int), .slice (some ⟨wq.heap.size, 0, none⟩) n n] 65)).grown hgrow (by rw [World.size_alloc]; omega) (fun k' e' => (HR.out.outs.row.lt k' e').1)
          have hnew : PolyR w w1 w2 sb mb kb w1.heap.size P M q n cnt DD E (cfs (addN P M) ts) (.slice (some ⟨g, 0, none⟩) (out.length + 1) cap) (.slice (some ⟨g, 0, none⟩) (out.length + 1) cap) (out ++ [((cv, e), wq.heap.size)]) w4 :=
            ⟨q1, by
              rw [List.map_append, HR.out.terms, List.length_append, List.length_singleton, List.take_add_one, HOL.out, HE.out, List.map_append]
              simp [HCV.out], hb4, HR.out.keep.trans q2⟩
          have HNEW := Lib.hid hnew
          clear hnew q1 q2 hb4 hown hgrow hgo hglt hg3 hB3 hlk hlk2 d4 d43 ck
          go_wp2_with fail
          go_roundw
          case rel => exact ⟨k + 1, out ++ [((cv, e), wq.heap.size)], by omega, by go_num, by simp [HOL.out], HNEW.out⟩
          case measure => simp [intOf]; omega
      · have hks : k = sz := by omega
        subst hks
        have hfst : out.map Prod.fst = E.map fun e => (cfs (addN P M) ts e, e) := by
          rw [hR.terms, HOL.out, List.take_of_length_le (by rw [HEL.out]; exact Nat.le_refl _)]
        obtain ⟨RA, rc, hrv, hrr⟩ := hR.outs.reads hn
        rw [hfst] at hrr
        have HFIN := Lib.hid hrr
        have HBB := Lib.hid hR.bel
        rw [HOL.out] at hrv
        subst hrv
        clear hrr hR hfst
        go_wp2_with fail
        go_ret2
        have hlenE : (E.map fun e => (cfs (addN P M) ts e, e)).length = k := by rw [List.length_map]; exact HEL.out
        refine ⟨HO1.out.trans (Only.of_below HBB.out), E.map fun e => (cfs (addN P M) ts e, e), HE3.out, HE4.out, fun t ht => ?_, ?_, .inl ⟨by rw [hlenE]; exact hz, RA, rc, (by rw [hlenE]; rfl), HFIN.out⟩⟩
        · obtain ⟨e, he, rfl⟩ := List.mem_map.1 ht
          exact (HE2.out e he).1
        · rw [hlenE, ← HSZ.out]
          exact HT.out.size_le
  · have hzd : decide (sz ≤ 20000) = false := decide_eq_false (by omega)
    rw [hzd] at HST
    clear hzd
    go_enter Tryd.func41, Tryd.ntmps41
    go_wp2_with fail
    refine HST.out.mono ?_
    rintro e w1 ⟨rfl, hS1, hO1⟩
    have HO1 := Lib.hid hO1
    obtain ⟨E, hE1, hE2, hE3, hE4, hE5, hE6⟩ := Tells.poly hf.fl.toRng HC.out HD.out (List.Perm.refl _)
    have hlenE : (E.map fun e => (cfs (addN P M) ts e, e)).length = sz := by rw [List.length_map, hE5]; exact HSZ.out
    have HE2 := Lib.hid hE2
    have HE3 := Lib.hid hE3
    have HE4 := Lib.hid hE4
    have HLE := Lib.hid hlenE
    clear hS1 hO1 hE1 hE2 hE3 hE4 hE5 hE6 hlenE
    go_wp2_with fail
    go_ret2
    refine ⟨HO1.out, E.map fun e => (cfs (addN P M) ts e, e), HE3.out, HE4.out, fun t ht => ?_, ?_, .inr ⟨by rw [HLE.out]; exact hz, rfl⟩⟩
    · obtain ⟨e, he, rfl⟩ := List.mem_map.1 ht
      exact (HE2.out e he).1
    · rw [HLE.out, ← HSZ.out]
      exact HT.out.size_le
end Go.Proofs.YtiiopdomlepkmaaDoor
