/-
  The walk of the merger's addFormula of package circuit.
-/
import Derived.Test.YtcophfhnhlaonaaDoorCij
namespace Go.Proofs.YtcophfhnhlaonaaDoor
set_option linter.unusedVariables false
open Go.RowKit

theorem Tryd.infoI : (Tryd.prog.info? 3).map (fun i => (i.zero, i.size, i.bytes)) = some (some (.int .i64 0), 1, 8) := by kernel_rfl
/-- The state inside of addFormula's loop: the merger, the kids so far. -/
structure AdK (B q mb : Nat) (W0' : World) (base : Nat) (gs0 : List Gat) (ts : List Tre) (i : Nat) (L0 L1 : List (Gat × Value)) (kv : Value) (W : World) : Prop where
  mg : Mg B q mb W L1
  lst : L1.map Prod.fst = (addK (ts.take i) gs0).1
  new : NewE W0' L0 L1
  own : W.ownsRow base 3 1 kv i ((addK (ts.take i) gs0).2.map (Value.int .i64))
  ap : Apart kv L1
  fr : FrM B q mb W0' W

theorem AdK.shape {B q mb base i : Nat} {W0' W : World} {gs0 : List Gat} {ts : List Tre} {L0 L1 : List (Gat × Value)} {kv : Value} (h : AdK B q mb W0' base gs0 ts i L0 L1 kv W) : ∃ A c, kv = .slice A i c := by
  rcases h.own.2 with ⟨rfl, h0⟩ | ⟨g, cap, cur, rfl, _⟩
  · exact ⟨none, 0, by rw [h0]⟩
  · exact ⟨_, _, rfl⟩
theorem AdK.step {B q mb base i : Nat} {W0' W W' : World} {gs0 : List Gat} {ts : List Tre} {L0 L1 : List (Gat × Value)} {kv : Value} (h : AdK B q mb W0' base gs0 ts i L0 L1 kv W) (hB : Below W.heap.size W W') : AdK B q mb W0' base gs0 ts i L0 L1 kv W' :=
  ⟨h.mg.below hB, h.lst, h.new, ownsRow_below h.own hB, h.ap, h.fr.trans (FrM.of_below hB (by have := h.mg.le; have := h.mg.lt; omega))⟩
/-- Behind the inner call and the append. -/
theorem AdK.push {B q mb base i : Nat} {W0' W W2 W3 : World} {gs0 : List Gat} {ts : List Tre} {L0 L1 L2 : List (Gat × Value)} {kv : Value} {t : Tre} {g4 cap4 H : Nat} {tmp : Obj} (h : AdK B q mb W0' base gs0 ts i L0 L1 kv W) (ht : ts[i]? = some t) (hbase : W0'.heap.size ≤ base) (hBW : B ≤ W0'.heap.size)
    (hm : Mg B q mb W2 L2) (hl : L2.map Prod.fst = (addT t (L1.map Prod.fst)).1) (hn : NewE W L1 L2) (hf : FrM B q mb W W2)
    (hown : W3.ownsRow base 3 1 (.slice (some ⟨g4, 0, none⟩) (i + 1) cap4) (i + 1) ((addK (ts.take i) gs0).2.map (Value.int .i64) ++ [.int .i64 (((addT t (L1.map Prod.fst)).2 : Nat) : Int)])) (hgrow : (W2.alloc tmp).grownBy W3 kv.ownBlock) (hH : H = W2.heap.size + 1) (hg4 : kv.ownBlock = some g4 ∨ g4 = H) :
    AdK B q mb W0' base gs0 ts (i + 1) L0 L2 (.slice (some ⟨g4, 0, none⟩) (i + 1) cap4) W3 := by
  have hr2 := owns_frm h.mg h.own hf
  have hap2 : Apart kv L2 := fun x hx he k hk e => by
    rcases hn x hx with h1 | h1
    · exact h.ap x h1 he k hk e
    · have h2 := h1 he k hk
      have h3 := (h.own.lt k e).2
      omega
  have hB2 : B ≤ W2.heap.size := by have := hm.le; have := hm.lt; omega
  have hsz0 := h.fr.bel.size
  have hszf := hf.bel.size
  have hnext := addK_next (gs := gs0) (g1 := L1.map Prod.fst) (ks := (addK (ts.take i) gs0).2) ht (by rw [h.lst])
  refine ⟨hm.kids hr2 hap2 hgrow, by rw [hl, hnext], fun x hx => ?_, ?_, ?_, ?_⟩
  · rcases hn x hx with h1 | h1
    · exact h.new x h1
    · exact .inr fun he k hk => Nat.le_trans hsz0 (h1 he k hk)
  · rw [hnext]
    simpa using hown
  · intro x hx he k hk e
    simp only [Value.ownBlock, Option.some.injEq] at e
    subst e
    rcases hg4 with h1 | h1
    · exact hap2 x hx he _ hk h1
    · have := (hm.els x hx).1.lt he hk
      omega
  · refine (h.fr.trans hf).young ?_ ?_
    · exact ((Below.refl W0'.heap.size W2).alloc (by omega) tmp).grown hgrow (by simp; omega) (fun k e => Nat.le_trans hbase (hr2.lt k e).1)
    · exact hBW

set_option maxRecDepth 100000 in
set_option maxHeartbeats 8000000 in
theorem addF_ok (W0 : World) (q mb : Nat) : ∀ (N : Nat) (t : Tre), SizeOf.sizeOf t < N → ∀ (v : Value) (L : List (Gat × Value)) (W : World), TreV 0 W0 t v → Below W0.heap.size W0 W → Mg W0.heap.size q mb W L → okT fSh 16 t → L.length + nodT t ≤ 100000 →
    Calls Tryd.prog 44 #[.pointer (some ⟨q, 0, none⟩), v] W fun e W' =>
      e = .returned (.int .i64 (((addT t (L.map Prod.fst)).2 : Nat) : Int)) ∧ ∃ L', Mg W0.heap.size q mb W' L' ∧ L'.map Prod.fst = (addT t (L.map Prod.fst)).1 ∧ NewE W L L' ∧ FrM W0.heap.size q mb W W' := by
  intro N
  induction N with
  | zero => intro t h; omega
  | succ N ih =>
    intro t htN v L W hT hBW hM hok hlen
    obtain ⟨k, n, ts⟩ := t
    have hT2 := hT
    unfold TreV at hT2
    obtain ⟨A, c, rfl, hrow⟩ := hT2
    have HIH := Lib.hid ih
    have HROW := Lib.hid hrow
    have HTN := Lib.hid htN
    have HOK := Lib.hid hok
    have HMG := Lib.hid hM
    have HBW := Lib.hid hBW
    have hok2 := hok
    rw [okT] at hok2
    have HOKL := Lib.hid hok2.2.2
    obtain ⟨i0, hi, hz0, hz1, hz2⟩ := info_parts Tryd.infoI
    have HI := Lib.hid (show Tryd.prog.info? 3 = some i0 ∧ i0.zero = some (.int .i64 0) ∧ i0.size = 1 ∧ i0.bytes = 8 from ⟨hi, hz0, hz1, hz2⟩)
    have hb1 := below1 W (.cells #[.int .i64 k, .int .i64 n, .slice A ts.length c] 47)
    obtain ⟨w1, hw1⟩ : ∃ w1, w1 = W.alloc (.cells #[.int .i64 k, .int .i64 n, .slice A ts.length c] 47) := ⟨_, rfl⟩
    have hbx : w1.heap[W.heap.size]? = some (.cells #[.int .i64 k, .int .i64 n, .slice A ts.length c] 47 (0, 0)) := by rw [hw1]; exact alloc_at _ _ _ rfl
    rw [← hw1] at hb1
    have hmq : q < W.heap.size ∧ mb < W.heap.size ∧ W0.heap.size ≤ q := ⟨hM.lt, hM.map.lt, hM.le⟩
    have hsz1 : w1.heap.size = W.heap.size + 1 := by rw [hw1]; simp
    have HMQ := Lib.hid hmq
    have HSZ1 := Lib.hid hsz1
    have HST : Hid (AdK W0.heap.size q mb w1 (W.heap.size + 1) (L.map Prod.fst) ts 0 L L (.slice none 0 0) w1) := Lib.hid
      ⟨hM.below hb1, by simp [addK], fun x hx => .inl hx, by simp [addK]; exact World.ownsRow_nil _ _ _ _, fun x hx he k hk => by simp [Value.ownBlock], FrM.refl _ _ _ _⟩
    have HW1 := Lib.hid hw1
    have HB1 := Lib.hid hb1
    have HBX := Lib.hid hbx
    have hl3 : nodT (.mk k n ts) = nodL ts + 1 := by rw [nodT]
    have hlk := nodL_len ts
    have HLEN := Lib.hid (show L.length + nodL ts + 1 ≤ 100000 by omega)
    have hl2 : ts.length ≤ 2 := by
      have h := GK.of (ks := List.replicate ts.length 0) hok (by simp) (fun x hx => by have := (List.mem_replicate.1 hx).2; omega)
      have := h.2.2.2.2.1
      simpa using this
    have HALL : Hid (addT (.mk k n ts) (L.map Prod.fst) = addOne (addK ts (L.map Prod.fst)).1 ⟨k, n, (addK ts (L.map Prod.fst)).2⟩) := Lib.hid (by rw [addT])
    obtain ⟨⟨c0, c1, c2⟩, _⟩ := blk3_cells hbx
    generalize hres : addT (.mk k n ts) (L.map Prod.fst) = res at *
    clear ih hT hBW hM hok hrow htN hok2 hi hz0 hz1 hz2 hw1 hb1 hbx hmq hsz1 hl3 hlk hlen hres
    go_enter Tryd.func44, Tryd.ntmps44
    go_upto_region 2 with fail
    rw [← HW1.out]
    go_wp2_with fail
    clear c0 c1 c2
    go_loopw [5, 7, 11] (fun kv _ iv Wr => ∃ (i : Nat) (L1 : List (Gat × Value)), i ≤ ts.length ∧ iv = .int .i64 i ∧ AdK W0.heap.size q mb w1 (W.heap.size + 1) (L.map Prod.fst) ts i L L1 kv Wr) (fun _ _ iv _ => ts.length - (intOf iv).toNat)
    case atStart => exact ⟨0, L, by omega, rfl, HST.out⟩
    case round =>
      obtain ⟨i, L1, hi, rfl, hA⟩ := hrel
      have HA := Lib.hid hA
      obtain ⟨KA, KC, rfl⟩ := hA.shape
      clear hA
      by_cases hil : i < ts.length
      · obtain ⟨t1, ht1⟩ : ∃ t, ts[i]? = some t := ⟨_, List.getElem?_eq_getElem hil⟩
        obtain ⟨b, off, x, y, z, rfl, _, d0, d1, d2, hT1⟩ := HROW.out.at ht1
        have hB0 : Below W0.heap.size W0 wr := HBW.out.trans ((HB1.out.mono (by have := HMQ.out; omega)).trans HA.out.fr.bel)
        have e0 := (hB0.cell (World.block_lt_of_cell? W0 _ d0)).trans d0
        have e1 := (hB0.cell (World.block_lt_of_cell? W0 _ d1)).trans d1
        have e2 := (hB0.cell (World.block_lt_of_cell? W0 _ d2)).trans d2
        rw [Nat.zero_add] at e0 e1 e2
        have hT1b := hT1
        obtain ⟨k1, n1, us⟩ := t1
        unfold TreV at hT1b
        obtain ⟨A1, cc1, hag, _⟩ := hT1b
        simp only [Value.agg.injEq, Array.mk.injEq, List.cons.injEq, and_true] at hag
        obtain ⟨rfl, rfl, rfl⟩ := hag
        have hbk := below1 wr (.cells #[.int .i64 k1, .int .i64 n1, .slice A1 us.length cc1] 47)
        have HA1 := Lib.hid (HA.out.step hbk)
        have hwz : W0.heap.size ≤ wr.heap.size := hB0.size
        have hlL1 : L1.length + nodT (.mk k1 n1 us) ≤ 100000 := by
          have h1 := (addK_lt (ts.take i) (L.map Prod.fst)).2.2
          rw [← HA.out.lst, List.length_map, List.length_map] at h1
          have h2 := nodL_append (ts.take i) (ts.drop i)
          rw [List.take_append_drop, List.drop_eq_getElem_cons hil, (List.getElem?_eq_some_iff.1 ht1).2, nodL] at h2
          have := HLEN.out
          omega
        have HC := Lib.hid (HIH.out (.mk k1 n1 us) (Nat.lt_of_lt_of_le (kid_size (List.mem_of_getElem? ht1)) (Nat.le_of_lt_succ HTN.out)) _ L1 _ hT1 (hB0.trans (hbk.mono hwz)) HA1.out.mg (okL_at HOKL.out ht1) hlL1)
        have HT1 := Lib.hid ht1
        have HI100 : Hid (L1.length ≤ 100000) := Lib.hid (by omega)
        have hi3 : i ≤ 2 := by omega
        clear d0 d1 d2 hT1 ht1 hB0 hbk hwz hlL1
        go_wp2_with fail
        refine HC.out.mono ?_
        rintro e w2 ⟨rfl, L2, hm2, hl2', hn2, hf2⟩
        have HP := Lib.hid (And.intro hm2 (And.intro hl2' (And.intro hn2 hf2)))
        have HO2 := Lib.hid (owns_frm HA1.out.mg HA1.out.own hf2)
        have HSZ2 : Hid (W.heap.size + 1 ≤ w2.heap.size) := Lib.hid (by
          have h1 := HA1.out.fr.bel.size
          have h2 := hf2.bel.size
          have := HSZ1.out
          omega)
        clear hm2 hl2' hn2 hf2 e0 e1 e2
        go_wp2_with (at_builtin; refine wpList_append_lies _ rfl _ _ 57 rfl (W.heap.size + 1) 3 i0 (.int .i64 0) 1 8 Tryd.underlying57 HI.out.1 HI.out.2.1 HI.out.2.2.1 HI.out.2.2.2 rfl (by decide) (.slice KA i KC) i ((addK (ts.take i) (L.map Prod.fst)).2.map (Value.int .i64)) (by first | rfl | simp [Act.eval, Act.put]) (HO2.out.alloc _) ⟨w2.heap.size, 0, none⟩ 1 1 [.int .i64 (((addT (.mk k1 n1 us) (L1.map Prod.fst)).2 : Nat) : Int)] (by first | rfl | simp [Act.eval, Act.put]) rfl (cell_one_new _ _ _) (by intro u hu; simp at hu; subst hu; rfl) (by decide) (by unfold maxLen; omega) (by omega) (by have := HSZ2.out; simp; omega) _ rfl ?_; intro g4 cap4 w4 hown hgrow hg4 _; have hnew := HA1.out.push HT1.out (by rw [HSZ1.out]; exact Nat.le_refl _) (by have := HMQ.out; have := HSZ1.out; omega) HP.out.1 HP.out.2.1 HP.out.2.2.1 HP.out.2.2.2 hown hgrow (by simp) hg4; have HNEW := Lib.hid hnew; clear hown hgrow hg4 hnew)
        go_roundw
        case rel => exact ⟨i + 1, L2, by omega, by go_num, HNEW.out⟩
        case measure => simp [intOf]; omega
      · obtain rfl : i = ts.length := by omega
        have hks : (addK (ts.take ts.length) (L.map Prod.fst)).2 = (addK ts (L.map Prod.fst)).2 := by rw [List.take_length]
        have hlst := HA.out.lst
        rw [List.take_length] at hlst
        have hown := HA.out.own
        rw [List.take_length] at hown
        have hrange := (addK_lt ts (L.map Prod.fst)).1
        have hlen2 := addK_length ts (L.map Prod.fst)
        have hbnd := (addK_lt ts (L.map Prod.fst)).2.2
        have hl100 : L1.length ≤ 100000 := by
          have h1 : L1.length = (addK ts (L.map Prod.fst)).1.length := by rw [← hlst, List.length_map]
          rw [List.length_map] at hbnd
          have := HLEN.out
          omega
        have hgk : GK ⟨k, n, (addK ts (L.map Prod.fst)).2⟩ := GK.of HOK.out hlen2 (fun x hx => by
          have h1 := hrange x hx
          rw [← hlst, List.length_map] at h1
          omega)
        have hkd : KdV W0.heap.size wr (.slice KA ts.length KC) (addK ts (L.map Prod.fst)).2 := by
          rcases hown.2 with ⟨he, h0⟩ | ⟨g, cap, cur, he, _, hgb, _⟩
          · exact .inl ⟨List.eq_nil_of_length_eq_zero (by rw [hlen2]; exact h0), KA, KC, by rw [h0]⟩
          · cases he
            refine .inr ⟨g, 0, KC, by rw [hlen2], (Array.getElem?_eq_some_iff.1 hgb).1, fun j x hj => ?_, .inr ⟨cur, hgb⟩⟩
            have hjl := (List.getElem?_eq_some_iff.1 hj).1
            have := hown.cellAt j (by omega)
            rw [Nat.zero_add, this]
            simp [hj]
        have HADD := Lib.hid (madd_ok W0.heap.size q mb ⟨k, n, (addK ts (L.map Prod.fst)).2⟩ (.slice KA ts.length KC) L1 wr HA.out.mg hkd hgk hl100)
        have HLST := Lib.hid hlst
        have hbx := HA.out.fr.rest _ _ HBX.out (by have := HMQ.out; omega) (by have := HMQ.out; omega) (by intro cs e; simp at e)
        obtain ⟨⟨c0, c1, c2⟩, _⟩ := blk3_cells hbx
        have HOWN := Lib.hid hown
        clear hks hlst hown hrange hlen2 hbnd hl100 hgk hkd hbx
        go_wp2_with fail
        refine HADD.out.mono ?_
        rintro e w2 ⟨rfl, L2, hm2, hl2', hor, hf2⟩
        have HP := Lib.hid (And.intro hm2 (And.intro hl2' (And.intro hor hf2)))
        have HR : Hid ((addOne (L1.map Prod.fst) ⟨k, n, (addK ts (L.map Prod.fst)).2⟩) = res) := Lib.hid (by rw [HLST.out, HALL.out])
        clear hm2 hl2' hor hf2
        go_wp2_with fail
        go_ret
        refine ⟨by rw [← HR.out]; rfl, L2, HP.out.1, by rw [← HR.out]; exact HP.out.2.1, fun x hx => ?_, ?_⟩
        · rcases HP.out.2.2.1 with h1 | h1
          · rw [h1] at hx
            rcases HA.out.new x hx with h2 | h2
            · exact .inl h2
            · exact .inr fun he k hk => Nat.le_trans (by have := HSZ1.out; omega) (h2 he k hk)
          · rw [h1, List.mem_append, List.mem_singleton] at hx
            rcases hx with hx | rfl
            · rcases HA.out.new x hx with h2 | h2
              · exact .inl h2
              · exact .inr fun he k hk => Nat.le_trans (by have := HSZ1.out; omega) (h2 he k hk)
            · exact .inr fun he k hk => Nat.le_trans (Nat.le_succ _) (HOWN.out.lt k hk).1
        · exact ((FrM.of_below HB1.out (by have := HMQ.out; omega)).trans HA.out.fr).trans HP.out.2.2.2
end Go.Proofs.YtcophfhnhlaonaaDoor
