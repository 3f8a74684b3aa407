/-
  Joined from Cij, Cik, Cil: see there.
-/
import Derived.Test.YtcophfhnhlaonaaGreatDoorJc
import Derived.Test.YtcophfhnhlaonaaGreatDoorVc
namespace Go.Proofs.YtcophfhnhlaonaaGreatDoor
set_option linter.unusedVariables false
open Go.RowKit

mutual
/-- The gates of a tree, behind those that are there, and where the last one that it needs is. -/
def addT : Tre → List Gat → List Gat × Nat
  | .mk k n ts, gs => addOne (addK ts gs).1 ⟨k, n, (addK ts gs).2⟩
def addK : List Tre → List Gat → List Gat × List Int
  | [], gs => (gs, [])
  | t :: ts, gs => ((addK ts (addT t gs).1).1, (((addT t gs).2 : Nat) : Int) :: (addK ts (addT t gs).1).2)
end
theorem addK_append : ∀ (xs ys : List Tre) (gs : List Gat), addK (xs ++ ys) gs = ((addK ys (addK xs gs).1).1, (addK xs gs).2 ++ (addK ys (addK xs gs).1).2)
  | [], ys, gs => by simp [addK]
  | x :: xs, ys, gs => by
    rw [List.cons_append, addK, addK, addK_append xs ys]
    rfl
theorem addK_next {ts : List Tre} {i : Nat} {t : Tre} {gs g1 : List Gat} {ks : List Int} (ht : ts[i]? = some t) (h : addK (ts.take i) gs = (g1, ks)) : addK (ts.take (i + 1)) gs = ((addT t g1).1, ks ++ [(((addT t g1).2 : Nat) : Int)]) := by
  rw [List.take_add_one, ht, addK_append, h]
  simp [addK]
theorem addOne_lt (gs : List Gat) (g : Gat) : (addOne gs g).2 < (addOne gs g).1.length ∧ gs <+: (addOne gs g).1 ∧ (addOne gs g).1.length ≤ gs.length + 1 := by
  unfold addOne
  split
  · rename_i i h
    have := (List.findIdx?_eq_some_iff_findIdx_eq.1 h).1
    exact ⟨this, List.prefix_rfl, Nat.le_succ _⟩
  · exact ⟨by simp, List.prefix_append _ _, by simp⟩
mutual
theorem addT_lt : ∀ (t : Tre) (gs : List Gat), (addT t gs).2 < (addT t gs).1.length ∧ gs <+: (addT t gs).1 ∧ (addT t gs).1.length ≤ gs.length + nodT t
  | .mk k n ts, gs => by
    rw [addT]
    have h1 := addK_lt ts gs
    have h2 := addOne_lt (addK ts gs).1 ⟨k, n, (addK ts gs).2⟩
    rw [nodT]
    exact ⟨h2.1, h1.2.1.trans h2.2.1, by omega⟩
theorem addK_lt : ∀ (ts : List Tre) (gs : List Gat), (∀ x ∈ (addK ts gs).2, 0 ≤ x ∧ x < ((addK ts gs).1.length : Int)) ∧ gs <+: (addK ts gs).1 ∧ (addK ts gs).1.length ≤ gs.length + nodL ts
  | [], gs => by rw [addK]; exact ⟨by simp, List.prefix_rfl, by simp⟩
  | t :: ts, gs => by
    rw [addK]
    have h1 := addT_lt t gs
    have h2 := addK_lt ts (addT t gs).1
    have h3 := h2.2.1.length_le
    rw [nodL]
    refine ⟨fun x hx => ?_, h1.2.1.trans h2.2.1, by dsimp only; omega⟩
    simp only [List.mem_cons] at hx
    rcases hx with rfl | hx
    · dsimp only; omega
    · exact h2.1 x hx
end
theorem addK_length : ∀ (ts : List Tre) (gs : List Gat), (addK ts gs).2.length = ts.length
  | [], gs => by rw [addK]; rfl
  | t :: ts, gs => by rw [addK]; simp [addK_length ts]

theorem FrM.young {B q mb : Nat} {A W W' : World} (h : FrM B q mb A W) (k : Below A.heap.size W W') (hB : B ≤ A.heap.size) : FrM B q mb A W' :=
  ⟨h.bel.trans (k.mono hB), fun b o ho h1 h2 h3 => (k.block b (Array.getElem?_eq_some_iff.1 ho).1).trans (h.rest b o ho h1 h2 h3)⟩
/-- No gate's kids lie in the block of the slice. -/
def Apart (kv : Value) (L : List (Gat × Value)) : Prop := ∀ x ∈ L, x.1.ks ≠ [] → ∀ k, x.2.ownBlock = some k → kv.ownBlock ≠ some k
/-- What is new has its kids in new memory. -/
def NewE (W : World) (L L' : List (Gat × Value)) : Prop := ∀ x ∈ L', x ∈ L ∨ (x.1.ks ≠ [] → ∀ k, x.2.ownBlock = some k → W.heap.size ≤ k)
theorem KdV.kept {B : Nat} {W W' : World} {v : Value} {ks : List Int} (h : KdV B W v ks) (hsz : W.heap.size ≤ W'.heap.size) (hk : ks ≠ [] → ∀ k, v.ownBlock = some k → W'.heap[k]? = W.heap[k]?) : KdV B W' v ks := by
  by_cases he : ks = []
  · rcases h with h | ⟨b, off, cap, rfl, _, _, _⟩
    · exact .inl h
    · exact .inl ⟨he, _, cap, by rw [he]; rfl⟩
  · rcases h with h | ⟨b, off, cap, rfl, hb, hr, hw⟩
    · exact absurd h.1 he
    · have hblk := hk he b rfl
      exact .inr ⟨b, off, cap, rfl, by omega, fun j x hj => (World.cell?_of_block (w := W) (w' := W') (a := ⟨b, off + j, none⟩) hblk).trans (hr j x hj), hw.imp id fun ⟨cs, h⟩ => ⟨cs, hblk.trans h⟩⟩
theorem KdV.lt {B : Nat} {W : World} {v : Value} {ks : List Int} (h : KdV B W v ks) (he : ks ≠ []) {k : Nat} (hk : v.ownBlock = some k) : k < W.heap.size := by
  rcases h with h | ⟨b, off, cap, rfl, hb, _⟩
  · exact absurd h.1 he
  · simp [Value.ownBlock] at hk
    omega
/-- Behind an append to kids that the call owns. -/
theorem Mg.kids {B q mb base n : Nat} {W W' : World} {L : List (Gat × Value)} {kv : Value} {xs : List Value} {tmp : Obj} (h : Mg B q mb W L) (hr : W.ownsRow base 3 1 kv n xs) (hd : Apart kv L) (hg : (W.alloc tmp).grownBy W' kv.ownBlock) : Mg B q mb W' L := by
  have hsz := hg.size
  simp at hsz
  have kept : ∀ (k : Nat) (o : Obj), W.heap[k]? = some o → kv.ownBlock ≠ some k → W'.heap[k]? = some o := fun k o hk hl => by
    have hlt := (Array.getElem?_eq_some_iff.1 hk).1
    rw [hg.block k (by simp; omega) (fun e => hl e.symm), Below.heap_alloc _ _ _ hlt]
    exact hk
  obtain ⟨lv, h1, h2⟩ := h.blk
  obtain ⟨es, c, hm, _⟩ := h.map.has
  refine ⟨h.le, h.leM, ⟨lv, kept q _ h1 (row_not_cells hr h1 (by decide)), ?_⟩, h.map.block ((kept mb _ hm (row_not_map hr hm)).trans hm.symm), fun x hx => ⟨(h.els x hx).1.kept (by omega) fun he k hk => ?_, (h.els x hx).2⟩⟩
  · refine ⟨h2.1, ?_⟩
    rcases h2.2 with h3 | ⟨g, cap, cur, e, hb, hgb, hrest⟩
    · exact .inl h3
    · exact .inr ⟨g, cap, cur, e, hb, kept g _ hgb (row_not_cells hr hgb (by decide)), hrest⟩
  · have hlt := (h.els x hx).1.lt he hk
    have hko : W.heap[k]? = some (W.heap[k]'hlt) := Array.getElem?_eq_getElem hlt
    rw [hko]
    exact kept k _ hko (hd x hx he k hk)
/-- The kids that a call owns stand when a merger's call is through. -/
theorem owns_frm {B q mb base n : Nat} {W W' : World} {L : List (Gat × Value)} {kv : Value} {xs : List Value} (h : Mg B q mb W L) (hr : W.ownsRow base 3 1 kv n xs) (hf : FrM B q mb W W') : W'.ownsRow base 3 1 kv n xs := by
  refine ⟨hr.1, ?_⟩
  rcases hr.2 with h3 | ⟨g, cap, cur, e, hb, hgb, hrest⟩
  · exact .inl h3
  · obtain ⟨lv, h1, _⟩ := h.blk
    obtain ⟨es, c, hm, _⟩ := h.map.has
    exact .inr ⟨g, cap, cur, e, hb, hf.rest g _ hgb (fun e => by rw [e, h1] at hgb; simp at hgb) (fun e => by rw [e, hm] at hgb; cases hgb) (fun cs e => by simp at e), hrest⟩
theorem GK.of {k n : Int} {ts : List Tre} {ks : List Int} (h : okT fSh 16 (.mk k n ts)) (hl : ks.length = ts.length) (hk : ∀ x ∈ ks, 0 ≤ x ∧ x ≤ 1048576) : GK ⟨k, n, ks⟩ := by
  rw [okT] at h
  obtain ⟨s, hs, a1, a2, a3, a4⟩ := permN_of h.1
  have h6 := (List.getElem?_eq_some_iff.1 hs).1
  have hm := List.mem_of_getElem? hs
  have hb : s.num ≤ 16 ∧ s.kids ≤ 2 := by
    simp only [fSh, List.mem_cons, List.not_mem_nil, or_false] at hm
    rcases hm with rfl | rfl | rfl | rfl | rfl | rfl <;> decide
  simp only [fSh, List.length_cons, List.length_nil] at h6
  exact ⟨a1, by dsimp only; omega, a2, by dsimp only; omega, by dsimp only; omega, hk⟩
end Go.Proofs.YtcophfhnhlaonaaGreatDoor
namespace Go.Proofs.YtcophfhnhlaonaaGreatDoor
set_option linter.unusedVariables false
open Go.RowKit

theorem Tryz.infoI : (Tryz.prog.info? 3).map (fun i => (i.zero, i.size, i.bytes)) = some (some (.int .i64 0), 1, 8) := by kernel_rfl
/-- The state inside of addFormula's loop: the merger, the kids so far. -/
structure AdK (B q mb : Nat) (W0' : World) (base : Nat) (gs0 : List Gat) (ts : List Tre) (i : Nat) (L0 L1 : List (Gat × Value)) (kv : Value) (W : World) : Prop where
  mg : Mg B q mb W L1
  lst : L1.map Prod.fst = (addK (ts.take i) gs0).1
  new : NewE W0' L0 L1
  own : W.ownsRow base 3 1 kv i ((addK (ts.take i) gs0).2.map (Value.int .i64))
  ap : Apart kv L1
  fr : FrM B q mb W0' W

theorem AdK.shape {B q mb base i : Nat} {W0' W : World} {gs0 : List Gat} {ts : List Tre} {L0 L1 : List (Gat × Value)} {kv : Value} (h : AdK B q mb W0' base gs0 ts i L0 L1 kv W) : ∃ A c, kv = .slice A i c := by
  rcases h.own.2 with ⟨rfl, h0⟩ | ⟨g, cap, cur, rfl, _⟩
  · exact ⟨none, 0, by rw [h0]⟩
  · exact ⟨_, _, rfl⟩
theorem AdK.step {B q mb base i : Nat} {W0' W W' : World} {gs0 : List Gat} {ts : List Tre} {L0 L1 : List (Gat × Value)} {kv : Value} (h : AdK B q mb W0' base gs0 ts i L0 L1 kv W) (hB : Below W.heap.size W W') : AdK B q mb W0' base gs0 ts i L0 L1 kv W' :=
  ⟨h.mg.below hB, h.lst, h.new, ownsRow_below h.own hB, h.ap, h.fr.trans (FrM.of_below hB (by have := h.mg.le; have := h.mg.lt; omega))⟩
/-- Behind the inner call and the append. -/
theorem AdK.push {B q mb base i : Nat} {W0' W W2 W3 : World} {gs0 : List Gat} {ts : List Tre} {L0 L1 L2 : List (Gat × Value)} {kv : Value} {t : Tre} {g4 cap4 H : Nat} {tmp : Obj} (h : AdK B q mb W0' base gs0 ts i L0 L1 kv W) (ht : ts[i]? = some t) (hbase : W0'.heap.size ≤ base) (hBW : B ≤ W0'.heap.size)
    (hm : Mg B q mb W2 L2) (hl : L2.map Prod.fst = (addT t (L1.map Prod.fst)).1) (hn : NewE W L1 L2) (hf : FrM B q mb W W2)
    (hown : W3.ownsRow base 3 1 (.slice (some ⟨g4, 0, none⟩) (i + 1) cap4) (i + 1) ((addK (ts.take i) gs0).2.map (Value.int .i64) ++ [.int .i64 (((addT t (L1.map Prod.fst)).2 : Nat) : Int)])) (hgrow : (W2.alloc tmp).grownBy W3 kv.ownBlock) (hH : H = W2.heap.size + 1) (hg4 : kv.ownBlock = some g4 ∨ g4 = H) :
    AdK B q mb W0' base gs0 ts (i + 1) L0 L2 (.slice (some ⟨g4, 0, none⟩) (i + 1) cap4) W3 := by
  have hr2 := owns_frm h.mg h.own hf
  have hap2 : Apart kv L2 := fun x hx he k hk e => by
    rcases hn x hx with h1 | h1
    · exact h.ap x h1 he k hk e
    · have h2 := h1 he k hk
      have h3 := (h.own.lt k e).2
      omega
  have hB2 : B ≤ W2.heap.size := by have := hm.le; have := hm.lt; omega
  have hsz0 := h.fr.bel.size
  have hszf := hf.bel.size
  have hnext := addK_next (gs := gs0) (g1 := L1.map Prod.fst) (ks := (addK (ts.take i) gs0).2) ht (by rw [h.lst])
  refine ⟨hm.kids hr2 hap2 hgrow, by rw [hl, hnext], fun x hx => ?_, ?_, ?_, ?_⟩
  · rcases hn x hx with h1 | h1
    · exact h.new x h1
    · exact .inr fun he k hk => Nat.le_trans hsz0 (h1 he k hk)
  · rw [hnext]
    simpa using hown
  · intro x hx he k hk e
    simp only [Value.ownBlock, Option.some.injEq] at e
    subst e
    rcases hg4 with h1 | h1
    · exact hap2 x hx he _ hk h1
    · have := (hm.els x hx).1.lt he hk
      omega
  · refine (h.fr.trans hf).young ?_ ?_
    · exact ((Below.refl W0'.heap.size W2).alloc (by omega) tmp).grown hgrow (by simp; omega) (fun k e => Nat.le_trans hbase (hr2.lt k e).1)
    · exact hBW

set_option maxRecDepth 100000 in
set_option maxHeartbeats 8000000 in
theorem addF_ok (W0 : World) (q mb : Nat) : ∀ (N : Nat) (t : Tre), SizeOf.sizeOf t < N → ∀ (v : Value) (L : List (Gat × Value)) (W : World), TreV 0 W0 t v → Below W0.heap.size W0 W → Mg W0.heap.size q mb W L → okT fSh 16 t → L.length + nodT t ≤ 100000 →
    Calls Tryz.prog 44 #[.pointer (some ⟨q, 0, none⟩), v] W fun e W' =>
      e = .returned (.int .i64 (((addT t (L.map Prod.fst)).2 : Nat) : Int)) ∧ ∃ L', Mg W0.heap.size q mb W' L' ∧ L'.map Prod.fst = (addT t (L.map Prod.fst)).1 ∧ NewE W L L' ∧ FrM W0.heap.size q mb W W' := by
  intro N
  induction N with
  | zero => intro t h; omega
  | succ N ih =>
    intro t htN v L W hT hBW hM hok hlen
    obtain ⟨k, n, ts⟩ := t
    have hT2 := hT
    unfold TreV at hT2
    obtain ⟨A, c, rfl, hrow⟩ := hT2
    have HIH := Lib.hid ih
    have HROW := Lib.hid hrow
    have HTN := Lib.hid htN
    have HOK := Lib.hid hok
    have HMG := Lib.hid hM
    have HBW := Lib.hid hBW
    have hok2 := hok
    rw [okT] at hok2
    have HOKL := Lib.hid hok2.2.2
    obtain ⟨i0, hi, hz0, hz1, hz2⟩ := info_parts Tryz.infoI
    have HI := Lib.hid (show Tryz.prog.info? 3 = some i0 ∧ i0.zero = some (.int .i64 0) ∧ i0.size = 1 ∧ i0.bytes = 8 from ⟨hi, hz0, hz1, hz2⟩)
    have hb1 := below1 W (.cells #[.int .i64 k, .int .i64 n, .slice A ts.length c] 24)
    obtain ⟨w1, hw1⟩ : ∃ w1, w1 = W.alloc (.cells #[.int .i64 k, .int .i64 n, .slice A ts.length c] 24) := ⟨_, rfl⟩
    have hbx : w1.heap[W.heap.size]? = some (.cells #[.int .i64 k, .int .i64 n, .slice A ts.length c] 24 (0, 0)) := by rw [hw1]; exact alloc_at _ _ _ rfl
    rw [← hw1] at hb1
    have hmq : q < W.heap.size ∧ mb < W.heap.size ∧ W0.heap.size ≤ q := ⟨hM.lt, hM.map.lt, hM.le⟩
    have hsz1 : w1.heap.size = W.heap.size + 1 := by rw [hw1]; simp
    have HMQ := Lib.hid hmq
    have HSZ1 := Lib.hid hsz1
    have HST : Hid (AdK W0.heap.size q mb w1 (W.heap.size + 1) (L.map Prod.fst) ts 0 L L (.slice none 0 0) w1) := Lib.hid
      ⟨hM.below hb1, by simp [addK], fun x hx => .inl hx, by simp [addK]; exact World.ownsRow_nil _ _ _ _, fun x hx he k hk => by simp [Value.ownBlock], FrM.refl _ _ _ _⟩
    have HW1 := Lib.hid hw1
    have HB1 := Lib.hid hb1
    have HBX := Lib.hid hbx
    have hl3 : nodT (.mk k n ts) = nodL ts + 1 := by rw [nodT]
    have hlk := nodL_len ts
    have HLEN := Lib.hid (show L.length + nodL ts + 1 ≤ 100000 by omega)
    have hl2 : ts.length ≤ 2 := by
      have h := GK.of (ks := List.replicate ts.length 0) hok (by simp) (fun x hx => by have := (List.mem_replicate.1 hx).2; omega)
      have := h.2.2.2.2.1
      simpa using this
    have HALL : Hid (addT (.mk k n ts) (L.map Prod.fst) = addOne (addK ts (L.map Prod.fst)).1 ⟨k, n, (addK ts (L.map Prod.fst)).2⟩) := Lib.hid (by rw [addT])
    obtain ⟨⟨c0, c1, c2⟩, _⟩ := blk3_cells hbx
    generalize hres : addT (.mk k n ts) (L.map Prod.fst) = res at *
    clear ih hT hBW hM hok hrow htN hok2 hi hz0 hz1 hz2 hw1 hb1 hbx hmq hsz1 hl3 hlk hlen hres
    go_enter Tryz.func44, Tryz.ntmps44
    go_upto_region 2 with fail
    rw [← HW1.out]
    go_wp2_with fail
    clear c0 c1 c2
    go_loopw [5, 7, 11] (fun kv _ iv Wr => ∃ (i : Nat) (L1 : List (Gat × Value)), i ≤ ts.length ∧ iv = .int .i64 i ∧ AdK W0.heap.size q mb w1 (W.heap.size + 1) (L.map Prod.fst) ts i L L1 kv Wr) (fun _ _ iv _ => ts.length - (intOf iv).toNat)
    case atStart => exact ⟨0, L, by omega, rfl, HST.out⟩
    case round =>
      obtain ⟨i, L1, hi, rfl, hA⟩ := hrel
      have HA := Lib.hid hA
      obtain ⟨KA, KC, rfl⟩ := hA.shape
      clear hA
      by_cases hil : i < ts.length
      · obtain ⟨t1, ht1⟩ : ∃ t, ts[i]? = some t := ⟨_, List.getElem?_eq_getElem hil⟩
        obtain ⟨b, off, x, y, z, rfl, _, d0, d1, d2, hT1⟩ := HROW.out.at ht1
        have hB0 : Below W0.heap.size W0 wr := HBW.out.trans ((HB1.out.mono (by have := HMQ.out; omega)).trans HA.out.fr.bel)
        have e0 := (hB0.cell (World.block_lt_of_cell? W0 _ d0)).trans d0
        have e1 := (hB0.cell (World.block_lt_of_cell? W0 _ d1)).trans d1
        have e2 := (hB0.cell (World.block_lt_of_cell? W0 _ d2)).trans d2
        rw [Nat.zero_add] at e0 e1 e2
        have hT1b := hT1
        obtain ⟨k1, n1, us⟩ := t1
        unfold TreV at hT1b
        obtain ⟨A1, cc1, hag, _⟩ := hT1b
        simp only [Value.agg.injEq, Array.mk.injEq, List.cons.injEq, and_true] at hag
        obtain ⟨rfl, rfl, rfl⟩ := hag
        have hbk := below1 wr (.cells #[.int .i64 k1, .int .i64 n1, .slice A1 us.length cc1] 24)
        have HA1 := Lib.hid (HA.out.step hbk)
        have hwz : W0.heap.size ≤ wr.heap.size := hB0.size
        have hlL1 : L1.length + nodT (.mk k1 n1 us) ≤ 100000 := by
          have h1 := (addK_lt (ts.take i) (L.map Prod.fst)).2.2
          rw [← HA.out.lst, List.length_map, List.length_map] at h1
          have h2 := nodL_append (ts.take i) (ts.drop i)
          rw [List.take_append_drop, List.drop_eq_getElem_cons hil, (List.getElem?_eq_some_iff.1 ht1).2, nodL] at h2
          have := HLEN.out
          omega
        have HC := Lib.hid (HIH.out (.mk k1 n1 us) (Nat.lt_of_lt_of_le (kid_size (List.mem_of_getElem? ht1)) (Nat.le_of_lt_succ HTN.out)) _ L1 _ hT1 (hB0.trans (hbk.mono hwz)) HA1.out.mg (okL_at HOKL.out ht1) hlL1)
        have HT1 := Lib.hid ht1
        have HI100 : Hid (L1.length ≤ 100000) := Lib.hid (by omega)
        have hi3 : i ≤ 2 := by omega
        clear d0 d1 d2 hT1 ht1 hB0 hbk hwz hlL1
        go_wp2_with fail
        refine HC.out.mono ?_
        rintro e w2 ⟨rfl, L2, hm2, hl2', hn2, hf2⟩
        have HP := Lib.hid (And.intro hm2 (And.intro hl2' (And.intro hn2 hf2)))
        have HO2 := Lib.hid (owns_frm HA1.out.mg HA1.out.own hf2)
        have HSZ2 : Hid (W.heap.size + 1 ≤ w2.heap.size) := Lib.hid (by
          have h1 := HA1.out.fr.bel.size
          have h2 := hf2.bel.size
          have := HSZ1.out
          omega)
        clear hm2 hl2' hn2 hf2 e0 e1 e2
        go_wp2_with (at_builtin; refine wpList_append_lies _ rfl _ _ 76 rfl (W.heap.size + 1) 3 i0 (.int .i64 0) 1 8 Tryz.underlying76 HI.out.1 HI.out.2.1 HI.out.2.2.1 HI.out.2.2.2 rfl (by decide) (.slice KA i KC) i ((addK (ts.take i) (L.map Prod.fst)).2.map (Value.int .i64)) (by first | rfl | simp [Act.eval, Act.put]) (HO2.out.alloc _) ⟨w2.heap.size, 0, none⟩ 1 1 [.int .i64 (((addT (.mk k1 n1 us) (L1.map Prod.fst)).2 : Nat) : Int)] (by first | rfl | simp [Act.eval, Act.put]) rfl (cell_one_new _ _ _) (by intro u hu; simp at hu; subst hu; rfl) (by decide) (by unfold maxLen; omega) (by omega) (by have := HSZ2.out; simp; omega) _ rfl ?_; intro g4 cap4 w4 hown hgrow hg4 _; have hnew := HA1.out.push HT1.out (by rw [HSZ1.out]; exact Nat.le_refl _) (by have := HMQ.out; have := HSZ1.out; omega) HP.out.1 HP.out.2.1 HP.out.2.2.1 HP.out.2.2.2 hown hgrow (by simp) hg4; have HNEW := Lib.hid hnew; clear hown hgrow hg4 hnew)
        go_roundw
        case rel => exact ⟨i + 1, L2, by omega, by go_num, HNEW.out⟩
        case measure => simp [intOf]; omega
      · obtain rfl : i = ts.length := by omega
        have hks : (addK (ts.take ts.length) (L.map Prod.fst)).2 = (addK ts (L.map Prod.fst)).2 := by rw [List.take_length]
        have hlst := HA.out.lst
        rw [List.take_length] at hlst
        have hown := HA.out.own
        rw [List.take_length] at hown
        have hrange := (addK_lt ts (L.map Prod.fst)).1
        have hlen2 := addK_length ts (L.map Prod.fst)
        have hbnd := (addK_lt ts (L.map Prod.fst)).2.2
        have hl100 : L1.length ≤ 100000 := by
          have h1 : L1.length = (addK ts (L.map Prod.fst)).1.length := by rw [← hlst, List.length_map]
          rw [List.length_map] at hbnd
          have := HLEN.out
          omega
        have hgk : GK ⟨k, n, (addK ts (L.map Prod.fst)).2⟩ := GK.of HOK.out hlen2 (fun x hx => by
          have h1 := hrange x hx
          rw [← hlst, List.length_map] at h1
          omega)
        have hkd : KdV W0.heap.size wr (.slice KA ts.length KC) (addK ts (L.map Prod.fst)).2 := by
          rcases hown.2 with ⟨he, h0⟩ | ⟨g, cap, cur, he, _, hgb, _⟩
          · exact .inl ⟨List.eq_nil_of_length_eq_zero (by rw [hlen2]; exact h0), KA, KC, by rw [h0]⟩
          · cases he
            refine .inr ⟨g, 0, KC, by rw [hlen2], (Array.getElem?_eq_some_iff.1 hgb).1, fun j x hj => ?_, .inr ⟨cur, hgb⟩⟩
            have hjl := (List.getElem?_eq_some_iff.1 hj).1
            have := hown.cellAt j (by omega)
            rw [Nat.zero_add, this]
            simp [hj]
        have HADD := Lib.hid (madd_ok W0.heap.size q mb ⟨k, n, (addK ts (L.map Prod.fst)).2⟩ (.slice KA ts.length KC) L1 wr HA.out.mg hkd hgk hl100)
        have HLST := Lib.hid hlst
        have hbx := HA.out.fr.rest _ _ HBX.out (by have := HMQ.out; omega) (by have := HMQ.out; omega) (by intro cs e; simp at e)
        obtain ⟨⟨c0, c1, c2⟩, _⟩ := blk3_cells hbx
        have HOWN := Lib.hid hown
        clear hks hlst hown hrange hlen2 hbnd hl100 hgk hkd hbx
        go_wp2_with fail
        refine HADD.out.mono ?_
        rintro e w2 ⟨rfl, L2, hm2, hl2', hor, hf2⟩
        have HP := Lib.hid (And.intro hm2 (And.intro hl2' (And.intro hor hf2)))
        have HR : Hid ((addOne (L1.map Prod.fst) ⟨k, n, (addK ts (L.map Prod.fst)).2⟩) = res) := Lib.hid (by rw [HLST.out, HALL.out])
        clear hm2 hl2' hor hf2
        go_wp2_with fail
        go_ret
        refine ⟨by rw [← HR.out]; rfl, L2, HP.out.1, by rw [← HR.out]; exact HP.out.2.1, fun x hx => ?_, ?_⟩
        · rcases HP.out.2.2.1 with h1 | h1
          · rw [h1] at hx
            rcases HA.out.new x hx with h2 | h2
            · exact .inl h2
            · exact .inr fun he k hk => Nat.le_trans (by have := HSZ1.out; omega) (h2 he k hk)
          · rw [h1, List.mem_append, List.mem_singleton] at hx
            rcases hx with hx | rfl
            · rcases HA.out.new x hx with h2 | h2
              · exact .inl h2
              · exact .inr fun he k hk => Nat.le_trans (by have := HSZ1.out; omega) (h2 he k hk)
            · exact .inr fun he k hk => Nat.le_trans (Nat.le_succ _) (HOWN.out.lt k hk).1
        · exact ((FrM.of_below HB1.out (by have := HMQ.out; omega)).trans HA.out.fr).trans HP.out.2.2.2
end Go.Proofs.YtcophfhnhlaonaaGreatDoor
namespace Go.Proofs.YtcophfhnhlaonaaGreatDoor
set_option linter.unusedVariables false
open Go.RowKit

theorem Mg.reads {B q mb : Nat} {W : World} {L : List (Gat × Value)} (h : Mg B q mb W L) : ∃ A c, W.heap[q]? = some (.cells #[.slice A L.length c, .map (some mb)] 74 (0, 0)) ∧ RdG W A (L.map Prod.fst) := by
  obtain ⟨lv, h1, h2⟩ := h.blk
  rcases h2.2 with ⟨rfl, h0⟩ | ⟨g, cap, cur, rfl, _⟩
  · exact ⟨none, 0, by rw [h0]; exact h1, by rw [List.eq_nil_of_length_eq_zero h0]; exact fun i g hg => by simp at hg⟩
  · refine ⟨some ⟨g, 0, none⟩, cap, h1, fun i y hy => ?_⟩
    rw [List.getElem?_map] at hy
    obtain ⟨x, hx, rfl⟩ := Option.map_eq_some_iff.1 hy
    obtain ⟨f1, f2, f3⟩ := flatG_at L i x hx
    have hil := (List.getElem?_eq_some_iff.1 hx).1
    have hm := h.els x (List.mem_of_getElem? hx)
    refine ⟨g, 0, x.2, rfl, ?_, ?_, ?_, hm.1.reads (by have := hm.2.2.2.2.2.1; omega)⟩
    · rw [Nat.zero_add, h2.cellAt (i * 3) (by omega), f1]
    · rw [Nat.zero_add, h2.cellAt (i * 3 + 1) (by omega), f2]
    · rw [Nat.zero_add, h2.cellAt (i * 3 + 2) (by omega), f3]
/-- Blocks below B may turn where no gate's kids lie there. -/
theorem Mg.keep {B q mb : Nat} {W0 W W' : World} {L : List (Gat × Value)} (h : Mg B q mb W L) (hn : NewE W0 [] L) (hB : B ≤ W0.heap.size) (hsz : W'.heap.size = W.heap.size) (hk : ∀ b, B ≤ b → W'.heap[b]? = W.heap[b]?) : Mg B q mb W' L := by
  obtain ⟨lv, h1, h2⟩ := h.blk
  refine ⟨h.le, h.leM, ⟨lv, (hk q h.le).trans h1, h2.1, ?_⟩, h.map.block (hk mb h.leM), fun x hx => ⟨(h.els x hx).1.kept (by omega) fun he k hkk => hk k ?_, (h.els x hx).2⟩⟩
  · rcases h2.2 with h3 | ⟨g, cap, cur, e, hb, hgb, hrest⟩
    · exact .inl h3
    · exact .inr ⟨g, cap, cur, e, hb, (hk g hb).trans hgb, hrest⟩
  · rcases hn x hx with h3 | h3
    · simp at h3
    · exact Nat.le_trans hB (h3 he k hkk)
/-- The gates of a formula's circuit. -/
def gatesT (t : Tre) : List Gat := (addT t []).1
def FrmIs (o : Option (Nat × Nat × Nat × Nat)) (t : Tre) (inp : Int) (e : Ending) (w' : World) : Prop :=
  match o with
  | none => e = .returned (.tuple #[.agg #[.int .i64 0, .slice none 0 0], .int .i64 1])
  | some x => ((inp < (x.2.1 : Int) ∨ 16 < inp) ∧ e = .returned (.tuple #[.agg #[.int .i64 0, .slice none 0 0], .int .i64 2])) ∨ ((x.2.1 : Int) ≤ inp ∧ inp ≤ 16 ∧ ∃ A c, e = .returned (.tuple #[.agg #[.int .i64 inp, .slice A (gatesT t).length c], .int .i64 0]) ∧ RdG w' A (gatesT t))

theorem mes_facts {t : Tre} {a b c d : Nat} (h : mesI fSh t = some (a, b, c, d)) : okT fSh 16 t ∧ nodT t ≤ 20000 ∧ b ≤ 16 := by
  have hy : okR fSh t = true := by
    cases hr : okR fSh t with
    | true => rfl
    | false => rw [mesI_no hr] at h; cases h
  obtain ⟨h1, h2, h3⟩ := mesI_yes hy
  have hv : ∃ d' m, visN fSh t 1 ⟨0, 0, 0⟩ = (some d', m) ∧ m.inputs = b := by
    unfold mesI at h
    split at h
    · rename_i d' m' hv
      simp at h
      exact ⟨d', m', hv, h.2.1⟩
    · cases h
  obtain ⟨d', m, hv, hb⟩ := hv
  have hb16 : b ≤ 16 := mes_inp h
  have := (visN_okT hv).1
  rw [hb] at this
  exact ⟨this.mono hb16, h3, hb16⟩

theorem set2_heap {W : World} {g : Nat} {x y : Value} {T : TypeId} (a b : Value) (h : W.heap[g]? = some (.cells #[x, y] T (0, 0))) : ((W.setCell ⟨g, 0, none⟩ a).setCell ⟨g, 1, none⟩ b).heap[g]? = some (.cells #[a, b] T (0, 0)) := by
  have h1 := heap_setCell_same W g 0 _ _ a h
  have h2 := heap_setCell_same _ g 1 _ _ b h1
  simpa using h2

set_option maxRecDepth 100000 in
set_option maxHeartbeats 8000000 in
theorem From_ok (t : Tre) (v : Value) (inp : Int) (w : World) (hT : TreV 0 w t v) :
    Calls Tryz.prog 9 #[v, .int .i64 inp] w fun e w' => FrmIs (mesI fSh t) t inp e w' ∧ Below w.heap.size w w' := by
  obtain ⟨k, n, ts⟩ := t
  have hT2 := hT
  unfold TreV at hT2
  obtain ⟨A, c, rfl, _⟩ := hT2
  have hb2 := below2 w (.cells #[.int .i64 k, .int .i64 n, .slice A ts.length c] 24) (.cells #[.int .i64 0, .slice none 0 0] 30)
  obtain ⟨w1, hw1⟩ : ∃ w1, w1 = (w.alloc (.cells #[.int .i64 k, .int .i64 n, .slice A ts.length c] 24)).alloc (.cells #[.int .i64 0, .slice none 0 0] 30) := ⟨_, rfl⟩
  have hbf : w1.heap[w.heap.size]? = some (.cells #[.int .i64 k, .int .i64 n, .slice A ts.length c] 24 (0, 0)) := by rw [hw1, Below.heap_alloc _ _ _ (by simp)]; exact alloc_at _ _ _ rfl
  have hbc : w1.heap[w.heap.size + 1]? = some (.cells #[.int .i64 0, .slice none 0 0] 30 (0, 0)) := by rw [hw1]; exact alloc_at _ _ _ (by simp)
  rw [← hw1] at hb2
  have hsz1 : w1.heap.size = w.heap.size + 2 := by rw [hw1]; simp
  have HW1 := Lib.hid hw1
  have HSZ1 := Lib.hid hsz1
  have HB1 := Lib.hid hb2
  have HBF := Lib.hid (fun W (hW : Below w1.heap.size w1 W) => (hW.block w.heap.size (by omega)).trans hbf)
  have HBC := Lib.hid (fun W (hW : Below w1.heap.size w1 W) => (hW.block (w.heap.size + 1) (by omega)).trans hbc)
  have HTW := Lib.hid (fun W (hW : Below w1.heap.size w1 W) => hT.below (hb2.trans (hW.mono hb2.size)))
  have HV := Lib.hid (fun W (hW : Below w1.heap.size w1 W) => Valid_ok (.mk k n ts) _ W (HTW.out W hW))
  have HI := Lib.hid (fun W (hW : Below w1.heap.size w1 W) => Inputs_ok (.mk k n ts) _ W (HTW.out W hW))
  have HM := Lib.hid (fun a b c d (h : mesI fSh (.mk k n ts) = some (a, b, c, d)) => mes_facts h)
  have HAD := Lib.hid (fun W q mb W' (hW : Below w1.heap.size w1 W) (hB : Below W.heap.size W W') (hM : Mg W.heap.size q mb W' []) h1 h2 => addF_ok W q mb _ (.mk k n ts) (Nat.lt_succ_self _) _ [] W' (HTW.out W hW) hB hM h1 h2)
  have HGT : Hid ((addT (.mk k n ts) (([] : List (Gat × Value)).map Prod.fst)).1 = gatesT (.mk k n ts)) := Lib.hid rfl
  obtain ⟨gts, hgts⟩ : ∃ g, gatesT (.mk k n ts) = g := ⟨_, rfl⟩
  rw [hgts] at HGT
  have HGTS := Lib.hid hgts
  clear hgts
  obtain ⟨⟨c0, c1, c2⟩, _⟩ := blk3_cells hbf
  obtain ⟨⟨d0, d1⟩, e0, e1⟩ := blk2_cells hbc
  clear hT hw1 hb2 hbf hbc hsz1
  obtain ⟨o, ho⟩ : ∃ o, mesI fSh (.mk k n ts) = o := ⟨_, rfl⟩
  rw [ho] at HV HI HM ⊢
  clear ho
  go_enter Tryz.func9, Tryz.ntmps9
  go_upto_region 1 with fail
  rw [← HW1.out]
  go_wp2_with fail
  refine (HV.out _ (Below.refl _ _)).mono ?_
  rintro e w2 ⟨rfl, hB2⟩
  have HB2 := Lib.hid hB2
  obtain ⟨⟨c0, c1, c2⟩, _⟩ := blk3_cells (HBF.out _ hB2)
  obtain ⟨⟨d0, d1⟩, e0, e1⟩ := blk2_cells (HBC.out _ hB2)
  clear hB2
  rcases o with _ | ⟨oa, ob, oc, od⟩
  · simp only [Option.isSome_none]
    have hh := set2_heap (.int .i64 0) (.slice none 0 0) (HBC.out _ HB2.out)
    have hb := ((HB1.out.trans (HB2.out.mono HB1.out.size)).setCell (p := ⟨w.heap.size + 1, 0, none⟩) (Nat.le_succ _) (.int .i64 0)).setCell (p := ⟨w.heap.size + 1, 1, none⟩) (Nat.le_succ _) (.slice none 0 0)
    have HF := Lib.hid (And.intro hh hb)
    clear hh hb
    go_wp2_with fail
    show bodyPost _ _ _ _ _ ((w2.setCell ⟨w.heap.size + 1, 0, none⟩ (.int .i64 0)).setCell ⟨w.heap.size + 1, 1, none⟩ (.slice none 0 0))
    obtain ⟨hh, hb⟩ := HF.out
    generalize ((w2.setCell ⟨w.heap.size + 1, 0, none⟩ (.int .i64 0)).setCell ⟨w.heap.size + 1, 1, none⟩ (.slice none 0 0)) = W at *
    obtain ⟨⟨v0, v1⟩, _⟩ := blk2_cells hh
    exact bodyPost_ret (v := .tuple #[.agg #[.int .i64 0, .slice none 0 0], .int .i64 1]) (by simp [results, Tryz.results9, go_sem, v0, v1]) rfl ⟨rfl, hb⟩
  simp only [Option.isSome_some]
  have HI2 := Lib.hid (HI.out w2 HB2.out)
  have hob : ob ≤ 16 := (HM.out _ _ _ _ rfl).2.2
  simp only [mesB] at HI2
  go_wp2_with fail
  refine HI2.out.mono ?_
  rintro e w3 ⟨rfl, hB3⟩
  have HB3 := Lib.hid (HB2.out.trans (hB3.mono HB2.out.size))
  obtain ⟨⟨c0, c1, c2⟩, _⟩ := blk3_cells (HBF.out _ HB3.out)
  obtain ⟨⟨d0, d1⟩, e0, e1⟩ := blk2_cells (HBC.out _ HB3.out)
  clear hB3
  have hbadH : ∀ W, Below w1.heap.size w1 W → ((W.setCell ⟨w.heap.size + 1, 0, none⟩ (.int .i64 0)).setCell ⟨w.heap.size + 1, 1, none⟩ (.slice none 0 0)).heap[w.heap.size + 1]? = some (.cells #[.int .i64 0, .slice none 0 0] 30 (0, 0)) ∧ Below w.heap.size w ((W.setCell ⟨w.heap.size + 1, 0, none⟩ (.int .i64 0)).setCell ⟨w.heap.size + 1, 1, none⟩ (.slice none 0 0)) := fun W hW =>
    ⟨set2_heap (.int .i64 0) (.slice none 0 0) (HBC.out _ hW), ((HB1.out.trans (hW.mono HB1.out.size)).setCell (p := ⟨w.heap.size + 1, 0, none⟩) (Nat.le_succ _) (.int .i64 0)).setCell (p := ⟨w.heap.size + 1, 1, none⟩) (Nat.le_succ _) (.slice none 0 0)⟩
  have HBAD := Lib.hid hbadH
  clear hbadH
  by_cases t0 : inp < (ob : Int)
  · have g0 : decide (inp < (ob : Int)) = true := decide_eq_true t0
    have HT0 := Lib.hid t0
    clear t0
    go_wp2_with fail
    show bodyPost _ _ _ _ _ ((w3.setCell ⟨w.heap.size + 1, 0, none⟩ (.int .i64 0)).setCell ⟨w.heap.size + 1, 1, none⟩ (.slice none 0 0))
    obtain ⟨hh, hb⟩ := HBAD.out w3 HB3.out
    generalize ((w3.setCell ⟨w.heap.size + 1, 0, none⟩ (.int .i64 0)).setCell ⟨w.heap.size + 1, 1, none⟩ (.slice none 0 0)) = W at *
    obtain ⟨⟨v0, v1⟩, _⟩ := blk2_cells hh
    exact bodyPost_ret (v := .tuple #[.agg #[.int .i64 0, .slice none 0 0], .int .i64 2]) (by simp [results, Tryz.results9, go_sem, v0, v1]) rfl ⟨.inl ⟨.inl HT0.out, rfl⟩, hb⟩
  have g0 : decide (inp < (ob : Int)) = false := decide_eq_false t0
  by_cases t1 : 16 < inp
  · have g1 : decide (16 < inp) = true := decide_eq_true t1
    have HT1 := Lib.hid t1
    clear t0 t1
    go_wp2_with fail
    show bodyPost _ _ _ _ _ ((w3.setCell ⟨w.heap.size + 1, 0, none⟩ (.int .i64 0)).setCell ⟨w.heap.size + 1, 1, none⟩ (.slice none 0 0))
    obtain ⟨hh, hb⟩ := HBAD.out w3 HB3.out
    generalize ((w3.setCell ⟨w.heap.size + 1, 0, none⟩ (.int .i64 0)).setCell ⟨w.heap.size + 1, 1, none⟩ (.slice none 0 0)) = W at *
    obtain ⟨⟨v0, v1⟩, _⟩ := blk2_cells hh
    exact bodyPost_ret (v := .tuple #[.agg #[.int .i64 0, .slice none 0 0], .int .i64 2]) (by simp [results, Tryz.results9, go_sem, v0, v1]) rfl ⟨.inl ⟨.inr HT1.out, rfl⟩, hb⟩
  have g1 : decide (16 < inp) = false := decide_eq_false t1
  have HT := Lib.hid (And.intro t0 t1)
  clear t0 t1
  have HNM := Lib.hid (newMerger_ok w3)
  go_wp2_with fail
  refine HNM.out.mono ?_
  rintro e w4 ⟨rfl, hM4, hB4⟩
  have HB4 := Lib.hid (HB3.out.trans (hB4.mono HB3.out.size))
  obtain ⟨⟨c0, c1, c2⟩, _⟩ := blk3_cells (HBF.out _ HB4.out)
  have hB4z := Lib.hid hB4.size
  have HCALL := Lib.hid (HAD.out w3 _ _ w4 HB3.out hB4 hM4 (HM.out _ _ _ _ rfl).1 (by have := (HM.out _ _ _ _ rfl).2.1; simp; omega))
  clear hB4 hM4
  go_wp2_with fail
  refine HCALL.out.mono ?_
  rintro e w5 ⟨rfl, L', hM5, hL5, hn5, hf5⟩
  have HB5 := Lib.hid (HB4.out.trans (show Below w1.heap.size w4 w5 from hf5.bel.mono HB3.out.size))
  obtain ⟨d0, d1⟩ := (blk2_cells (HBC.out _ HB5.out)).1
  obtain ⟨e0, e1⟩ := (blk2_cells (HBC.out _ HB5.out)).2
  obtain ⟨GA, gc, hq5, hr5⟩ := hM5.reads
  obtain ⟨q0, q1⟩ := (blk2_cells hq5).1
  have hll : L'.length = gts.length := by rw [← HGT.out, ← hL5, List.length_map]
  have hgl : L'.map Prod.fst = gts := by rw [hL5, HGT.out]
  rw [hgl] at hr5
  rw [hll] at q0
  have hh := set2_heap (.int .i64 inp) (.slice GA gts.length gc) (HBC.out _ HB5.out)
  have hb := ((HB1.out.trans (HB5.out.mono HB1.out.size)).setCell (p := ⟨w.heap.size + 1, 0, none⟩) (Nat.le_succ _) (.int .i64 inp)).setCell (p := ⟨w.heap.size + 1, 1, none⟩) (Nat.le_succ _) (.slice GA gts.length gc)
  have h34 : w3.heap.size ≤ w4.heap.size := hB4z.out
  have h13 := HB3.out.size
  have h11 := HSZ1.out
  have hM6 : Mg w3.heap.size (w3.heap.size + 1) w3.heap.size ((w5.setCell ⟨w.heap.size + 1, 0, none⟩ (.int .i64 inp)).setCell ⟨w.heap.size + 1, 1, none⟩ (.slice GA gts.length gc)) L' :=
    hM5.keep hn5 h34 (by simp) (fun b hb => by
      rw [heap_setCell_other _ _ _ _ (show b ≠ _ by dsimp only; omega), heap_setCell_other _ _ _ _ (show b ≠ _ by dsimp only; omega)])
  have hr6 : RdG ((w5.setCell ⟨w.heap.size + 1, 0, none⟩ (.int .i64 inp)).setCell ⟨w.heap.size + 1, 1, none⟩ (.slice GA gts.length gc)) GA gts := by
    obtain ⟨GA', gc', hq6, hr⟩ := hM6.reads
    rw [heap_setCell_other _ _ _ _ (show w3.heap.size + 1 ≠ _ by dsimp only; omega), heap_setCell_other _ _ _ _ (show w3.heap.size + 1 ≠ _ by dsimp only; omega), hq5] at hq6
    simp only [Option.some.injEq, Obj.cells.injEq, Array.mk.injEq, List.cons.injEq, Value.slice.injEq, and_true] at hq6
    rw [hgl, ← hq6.1] at hr
    exact hr
  have HF := Lib.hid (And.intro hh (And.intro hb hr6))
  clear hh hb hr6 hr5 hM5 hL5 hf5 hq5 hll hgl hM6 hn5 h34 h13 h11
  go_wp2_with fail
  show bodyPost _ _ _ _ _ ((w5.setCell ⟨w.heap.size + 1, 0, none⟩ (.int .i64 inp)).setCell ⟨w.heap.size + 1, 1, none⟩ (.slice GA gts.length gc))
  obtain ⟨hh, hb, hr6⟩ := HF.out
  generalize ((w5.setCell ⟨w.heap.size + 1, 0, none⟩ (.int .i64 inp)).setCell ⟨w.heap.size + 1, 1, none⟩ (.slice GA gts.length gc)) = W at *
  obtain ⟨⟨v0, v1⟩, _⟩ := blk2_cells hh
  exact bodyPost_ret (v := .tuple #[.agg #[.int .i64 inp, .slice GA gts.length gc], .int .i64 0]) (by simp [results, Tryz.results9, go_sem, v0, v1]) rfl ⟨.inr ⟨by have := HT.out.1; dsimp only; omega, by have := HT.out.2; omega, GA, gc, by rw [HGTS.out], by rw [HGTS.out]; exact hr6⟩, hb⟩
end Go.Proofs.YtcophfhnhlaonaaGreatDoor
