/-
  Contracts of newMerger and of the merger's add of package circuit.
-/
import Derived.Test.YtcophfhnhlaonaaDoorCih
namespace Go.Proofs.YtcophfhnhlaonaaDoor
set_option linter.unusedVariables false
open Go.RowKit

set_option maxHeartbeats 1000000 in
theorem newMerger_ok (w : World) :
    Calls Tryd.prog 43 #[] w fun e w' => e = .returned (.pointer (some ⟨w.heap.size + 1, 0, none⟩)) ∧ Mg w.heap.size (w.heap.size + 1) w.heap.size w' [] ∧ Below w.heap.size w w' := by
  have hm := MapOf.made w Tryd.prog 109
  have hb := (below1 w (.map #[] 0)).alloc (by simp) (.cells #[.slice none 0 0, .map (some w.heap.size)] 86)
  have hq : ((w.alloc (.map #[] 0)).alloc (.cells #[.slice none 0 0, .map (some w.heap.size)] 86)).heap[w.heap.size + 1]? = some (.cells #[.slice none 0 0, .map (some w.heap.size)] 86 (0, 0)) := alloc_at _ _ _ (by simp)
  have hM : Mg w.heap.size (w.heap.size + 1) w.heap.size ((w.alloc (.map #[] 0)).alloc (.cells #[.slice none 0 0, .map (some w.heap.size)] 86)) [] :=
    ⟨by omega, Nat.le_refl _, ⟨_, hq, World.ownsRow_nil _ _ _ _⟩, (hm.alloc _).congr (fun x => rfl), by simp⟩
  have HM := Lib.hid hM
  have HB := Lib.hid hb
  clear hm hb hq hM
  have hmm := @run_makeMap Tryd.prog
  go_enter Tryd.func43, Tryd.ntmps43
  go_wp2_with fail
  go_ret
  exact ⟨rfl, HM.out, HB.out⟩

theorem Tryd.infoG : (Tryd.prog.info? 59).map (fun i => (i.zero, i.size, i.bytes)) = some (some (.agg #[.int .i64 0, .int .i64 0, .slice none 0 0]), 3, 40) := by kernel_rfl
theorem three_new (w : World) (x y z : Value) (t : TypeId) : ∀ j u, [x, y, z][j]? = some u → (w.alloc (.cells #[x, y, z] t)).cell? ((⟨w.heap.size, 0, none⟩ : Addr).add j) = some u :=
  World.news_of_block (cs := #[x, y, z]) (alloc_at _ _ _ rfl)

set_option maxRecDepth 100000 in
set_option maxHeartbeats 8000000 in
theorem madd_ok (B q mb : Nat) (g : Gat) (u : Value) (L : List (Gat × Value)) (W : World) (hM : Mg B q mb W L) (hu : KdV B W u g.ks) (hg : GK g) (hL : L.length ≤ 100000) :
    Calls Tryd.prog 60 #[.pointer (some ⟨q, 0, none⟩), .agg #[.int .i64 g.k, .int .i64 g.n, u]] W fun e W' =>
      e = .returned (.int .i64 (((addOne (L.map Prod.fst) g).2 : Nat) : Int)) ∧ ∃ L', Mg B q mb W' L' ∧ L'.map Prod.fst = (addOne (L.map Prod.fst) g).1 ∧ (L' = L ∨ L' = L ++ [(g, u)]) ∧ FrM B q mb W W' := by
  have hKG : keyG g = .agg #[.int .i64 g.k, .int .i64 g.n, .int .i64 (keyA g), .int .i64 (keyS g)] := rfl
  have hkey := mapG_key (gs := L.map Prod.fst) (fun x hx => by obtain ⟨y, hy, rfl⟩ := List.mem_map.1 hx; exact (hM.els y hy).2) hg
  have HPUT := Lib.hid (mapG_put (gs := L.map Prod.fst) (g := g) (fun x hx => by obtain ⟨y, hy, rfl⟩ := List.mem_map.1 hx; exact (hM.els y hy).2) hg)
  obtain ⟨kl, hkl⟩ := keyC_reads hg
  have HKL := Lib.hid hkl
  have HMG := Lib.hid hM
  have HG := Lib.hid hg
  have HU := Lib.hid hu
  obtain ⟨i0, hi, hz0, hz1, hz2⟩ := info_parts Tryd.infoG
  have HI := Lib.hid (show Tryd.prog.info? 59 = some i0 ∧ i0.zero = some (.agg #[.int .i64 0, .int .i64 0, .slice none 0 0]) ∧ i0.size = 3 ∧ i0.bytes = 40 from ⟨hi, hz0, hz1, hz2⟩)
  have HBQ : Hid (B ≤ W.heap.size) := Lib.hid (by have := hM.le; have := hM.lt; omega)
  have hADD : addOne (L.map Prod.fst) g = match (L.map Prod.fst).findIdx? (fun x => decide (x = g)) with | some i => (L.map Prod.fst, i) | none => (L.map Prod.fst ++ [g], (L.map Prod.fst).length) := rfl
  have HADD := Lib.hid hADD
  have HKEY := Lib.hid hkey
  clear hADD hkey hkl
  have hsh := hg.shape
  obtain ⟨K, kc, rfl, hK, hKl⟩ := hu.reads (by have := hg.2.2.2.2.1; omega)
  clear hu hM hi hz0 hz1 hz2 hKl
  obtain ⟨k, n, ks⟩ := g
  dsimp only at *

  rcases hsh with rfl | ⟨a, rfl, ha0, ha1⟩ | ⟨a, b, rfl, ha0, ha1, hb0, hb1⟩
  · simp only [List.length_nil, List.length_cons, Nat.zero_add, Nat.reduceAdd] at HU ⊢
    obtain ⟨w5, hw5⟩ : ∃ w5, w5 = ((W.alloc (.cells #[.int .i64 k, .int .i64 n, .slice K 0 kc] 59)).alloc (.cells #[.int .i64 k, .int .i64 n, .int .i64 (-1), .int .i64 (-1)] 109)) := ⟨_, rfl⟩
    have HB5 : Hid (Below W.heap.size W w5) := Lib.hid (by rw [hw5]; exact below2 _ _ _)
    have HG5 : Hid (w5.heap[W.heap.size]? = some (.cells #[.int .i64 k, .int .i64 n, .slice K 0 kc] 59 (0, 0))) := Lib.hid (by rw [hw5, Below.heap_alloc _ _ _ (by simp)]; exact alloc_at _ _ _ rfl)
    have HK5 : Hid (w5.heap[W.heap.size + 1]? = some (.cells #[.int .i64 k, .int .i64 n, .int .i64 (-1), .int .i64 (-1)] 109 (0, 0))) := Lib.hid (by rw [hw5]; exact alloc_at _ _ _ (by simp))
    have HW5 := Lib.hid hw5
    clear hw5 hK
    go_enter Tryd.func60, Tryd.ntmps60
    go_upto_region 6 with fail
    rw [← HW5.out]
    have HM5 := Lib.hid (HMG.out.below HB5.out)
    obtain ⟨lv, hq5, hrow5⟩ := HM5.out.blk
    have HQ5 := Lib.hid hq5
    have HROW5 := Lib.hid hrow5
    have HU5 := Lib.hid (HU.out.below HB5.out HBQ.out)
    obtain ⟨⟨a0, a1⟩, b0, b1⟩ := blk2_cells hq5
    obtain ⟨⟨g0, g1, g2⟩, _⟩ := blk3_cells HG5.out
    obtain ⟨⟨k0, k1, k2, k3⟩, _⟩ := blk4_cells HK5.out
    have hlk := HM5.out.drew.map.lookup (t := 84) (e := 3) keyC_keyed Tryd.underlying84 (z := .int .i64 0) (by kernel_rfl) HKL.out true
    rw [HKEY.out, show keyG ⟨k, n, []⟩ = .agg #[.int .i64 k, .int .i64 n, .int .i64 (-1), .int .i64 (-1)] from rfl] at hlk
    simp only [if_true] at hlk
    clear hq5 hrow5
    cases hfi : (L.map Prod.fst).findIdx? (fun x => decide (x = ⟨k, n, []⟩)) with
    | some i =>
      rw [hfi] at hlk
      simp only [Option.map_some, Option.getD_some, Option.isSome_some] at hlk
      have HA : Hid (addOne (L.map Prod.fst) ⟨k, n, []⟩ = (L.map Prod.fst, i)) := Lib.hid (by rw [HADD.out, hfi])
      clear hfi
      go_wp2_with fail
      go_region
      go_wp2_with fail
      go_ret
      exact ⟨by rw [HA.out]; rfl, L, HM5.out.drew, by rw [HA.out], .inl rfl, FrM.of_below (HB5.out.drew) HBQ.out⟩
    | none =>
      rw [hfi] at hlk
      simp only [Option.map_none, Option.getD_none, Option.isSome_none] at hlk
      have HA : Hid (addOne (L.map Prod.fst) ⟨k, n, []⟩ = (L.map Prod.fst ++ [⟨k, n, []⟩], L.length)) := Lib.hid (by rw [HADD.out, hfi, List.length_map])
      have HP2 := Lib.hid (HPUT.out hfi)
      clear hfi
      obtain ⟨VA, VC, rfl⟩ : ∃ A c, lv = .slice A L.length c := by
        rcases HROW5.out.2 with ⟨rfl, h0⟩ | ⟨g, cap, cur, rfl, _⟩
        · exact ⟨none, 0, by rw [h0]⟩
        · exact ⟨_, _, rfl⟩
      go_wp2_with fail
      go_region
      go_upto_region 9 with fail
      have HM6 := Lib.hid HM5.out.drew
      have HQ6 : Hid (w5.drew.heap[q]? = some (.cells #[.slice VA L.length VC, .map (some mb)] 86 (0, 0))) := Lib.hid HQ5.out
      have HROW6 : Hid (w5.drew.ownsRow B 59 3 (.slice VA L.length VC) L.length (flatG L)) := Lib.hid HROW5.out.drew
      have HU6 := Lib.hid (HU5.out.below (Below.refl _ w5).drew (Nat.le_trans HBQ.out HB5.out.size))
      have HB6 := Lib.hid (HB5.out.drew)
      have HK6 : Hid (w5.drew.heap[W.heap.size + 1]? = some (.cells #[.int .i64 k, .int .i64 n, .int .i64 (-1), .int .i64 (-1)] 109 (0, 0))) := Lib.hid HK5.out
      have HG6 : Hid (w5.drew.heap[W.heap.size]? = some (.cells #[.int .i64 k, .int .i64 n, (.slice K 0 kc)] 59 (0, 0))) := Lib.hid HG5.out
      clear a0 a1 b0 b1 g0 g1 g2 k0 k1 k2 k3 hlk
      generalize w5.drew = w6 at *
      have hq6 : q < w6.heap.size := HM6.out.lt
      obtain ⟨⟨a0, a1⟩, b0, b1⟩ := blk2_cells HQ6.out
      obtain ⟨⟨g0, g1, g2⟩, _⟩ := blk3_cells HG6.out
      have t0 : (w6.alloc (.cells #[.int .i64 k, .int .i64 n, (.slice K 0 kc)] 59)).cell? ⟨q, 0, none⟩ = some (.slice VA L.length VC) := (World.cell?_alloc_lt _ _ _ hq6).trans a0
      have HLL := Lib.hid hL
      have HBQ6 : Hid (B ≤ w6.heap.size) := Lib.hid (Nat.le_trans HBQ.out HB6.out.size)
      clear hq6
      go_region_law (refine step_append_lies _ rfl (.tmp 51) (.tmp 53) 22 rfl B 59 i0 (.agg #[.int .i64 0, .int .i64 0, .slice none 0 0]) 3 40 Tryd.underlying22 HI.out.1 HI.out.2.1 HI.out.2.2.1 HI.out.2.2.2 rfl (by decide) (.slice VA L.length VC) L.length (flatG L) (by simp [Act.eval, Act.put]) (HROW6.out.alloc _).drew ⟨w6.heap.size, 0, none⟩ 1 1 [.int .i64 k, .int .i64 n, (.slice K 0 kc)] (by simp [Act.eval, Act.put]) rfl (three_new _ _ _ _ _) (by intro u hu; simp at hu; rcases hu with rfl | rfl | rfl <;> rfl) (by decide) (by have := HLL.out; unfold maxLen; omega) (by have := HLL.out; omega) (by have := HBQ6.out; simp; omega) _ rfl ?_; intro g4 cap4 w4 hown hgrow _ _; obtain ⟨p1, p2, p3, p4, p5, p6, p7⟩ := HM6.out.drew.pushed (g := ⟨k, n, []⟩) HQ6.out HROW6.out.drew HG.out (HU6.out.below (Below.refl _ w6).drew HBQ6.out) hown (show (w6.drew.alloc (.cells #[.int .i64 k, .int .i64 n, (.slice K 0 kc)] 59)).grownBy w4 _ from hgrow); obtain ⟨⟨q0, q1⟩, r0, r1⟩ := blk2_cells p1; have HP := Lib.hid (And.intro p2 (And.intro p3 (And.intro p4 (And.intro p5 p6)))); clear hown hgrow p1 p2 p3 p4 p5 p6 p7)
      all_goals
        go_upto_region 10 with fail
        obtain ⟨p2, p3, p4, p5, p6⟩ := HP.out
        have hq1 : q < W.heap.size := HMG.out.lt
        have hm1 : mb < W.heap.size := HMG.out.map.lt
        have hk7 := p6.rest (W.heap.size + 1) _ HK6.out (by omega) (by omega) (by intro cs e; simp at e)
        have HFR := Lib.hid (((FrM.of_below HB6.out HBQ.out).trans (FrM.of_below (Below.refl _ w6).drew HBQ6.out)).trans p6)
        clear q0 q1 r0 r1 p6 HP t0 a0 a1 b0 b1 g0 g1 g2
        generalize w4.setCell ⟨q, 0, none⟩ (.slice (some ⟨g4, 0, none⟩) (L.length + 1) cap4) = w7 at *
        obtain ⟨⟨a0, a1⟩, b0, b1⟩ := blk2_cells p2
        obtain ⟨⟨k0, k1, k2, k3⟩, _⟩ := blk4_cells hk7
        obtain ⟨w8, hrun, hm8, hg8⟩ := (p4.block (w' := w7.drew) rfl).update (t := 84) (val := .int .i64 ((L.length : Nat) : Int)) keyC_keyed Tryd.underlying84 HKL.out
        rw [show keyG ⟨k, n, []⟩ = .agg #[.int .i64 k, .int .i64 n, .int .i64 (-1), .int .i64 (-1)] from rfl] at hrun
        have hm9 : MapOf w8 Tryd.prog 109 mb (L ++ [((⟨k, n, []⟩ : Gat), ((.slice K 0 kc) : Value))]).length (mapG ((L ++ [((⟨k, n, []⟩ : Gat), ((.slice K 0 kc) : Value))]).map Prod.fst)) := by
          rw [List.map_append, List.length_append]
          refine hm8.congr fun x => ?_
          have := HP2.out x
          rw [List.length_map] at this
          exact this
        have HMM := Lib.hid (Mg.mapped (w7 := w7.drew) HMG.out.le HMG.out.leM p2 p3.drew (p4.block (w' := w7.drew) rfl) p5 hm9 hg8)
        clear hm8 hm9 hg8 p2 p3 p4 p5 hk7 hq1 hm1
        go_region
        go_wp2_with fail
        go_ret
        exact ⟨by rw [HA.out]; rfl, _, HMM.out.1, by rw [HA.out, List.map_append]; rfl, .inr rfl, HFR.out.trans ((FrM.of_below (Below.refl _ w7).drew (Nat.le_trans HBQ.out HFR.out.bel.size)).trans HMM.out.2)⟩
  · simp only [List.length_nil, List.length_cons, Nat.zero_add, Nat.reduceAdd] at HU ⊢
    obtain ⟨p, rfl, e0⟩ := hK 0 a rfl
    rw [show p.add 0 = p by simp [Addr.add]] at e0
    obtain ⟨pb, po, rfl⟩ : ∃ b o, p = ⟨b, o, none⟩ := ⟨_, _, spot_none e0⟩
    have e0b := ((below2 W (.cells #[.int .i64 k, .int .i64 n, .slice (some ⟨pb, po, none⟩) 1 kc] 59) (.cells #[.int .i64 k, .int .i64 n, .int .i64 (-1), .int .i64 (-1)] 109)).cell (World.block_lt_of_cell? W _ e0)).trans e0
    obtain ⟨w5, hw5⟩ : ∃ w5, w5 = ((W.alloc (.cells #[.int .i64 k, .int .i64 n, .slice (some ⟨pb, po, none⟩) 1 kc] 59)).alloc (.cells #[.int .i64 k, .int .i64 n, .int .i64 a, .int .i64 (-1)] 109)) := ⟨_, rfl⟩
    have HB5 : Hid (Below W.heap.size W w5) := Lib.hid (by rw [hw5]; exact below2 _ _ _)
    have HG5 : Hid (w5.heap[W.heap.size]? = some (.cells #[.int .i64 k, .int .i64 n, .slice (some ⟨pb, po, none⟩) 1 kc] 59 (0, 0))) := Lib.hid (by rw [hw5, Below.heap_alloc _ _ _ (by simp)]; exact alloc_at _ _ _ rfl)
    have HK5 : Hid (w5.heap[W.heap.size + 1]? = some (.cells #[.int .i64 k, .int .i64 n, .int .i64 a, .int .i64 (-1)] 109 (0, 0))) := Lib.hid (by rw [hw5]; exact alloc_at _ _ _ (by simp))
    have HW5 := Lib.hid hw5
    clear hw5 hK
    go_enter Tryd.func60, Tryd.ntmps60
    go_upto_region 6 with fail
    rw [← HW5.out]
    have HM5 := Lib.hid (HMG.out.below HB5.out)
    obtain ⟨lv, hq5, hrow5⟩ := HM5.out.blk
    have HQ5 := Lib.hid hq5
    have HROW5 := Lib.hid hrow5
    have HU5 := Lib.hid (HU.out.below HB5.out HBQ.out)
    obtain ⟨⟨a0, a1⟩, b0, b1⟩ := blk2_cells hq5
    obtain ⟨⟨g0, g1, g2⟩, _⟩ := blk3_cells HG5.out
    obtain ⟨⟨k0, k1, k2, k3⟩, _⟩ := blk4_cells HK5.out
    have hlk := HM5.out.drew.map.lookup (t := 84) (e := 3) keyC_keyed Tryd.underlying84 (z := .int .i64 0) (by kernel_rfl) HKL.out true
    rw [HKEY.out, show keyG ⟨k, n, [a]⟩ = .agg #[.int .i64 k, .int .i64 n, .int .i64 a, .int .i64 (-1)] from rfl] at hlk
    simp only [if_true] at hlk
    clear hq5 hrow5
    cases hfi : (L.map Prod.fst).findIdx? (fun x => decide (x = ⟨k, n, [a]⟩)) with
    | some i =>
      rw [hfi] at hlk
      simp only [Option.map_some, Option.getD_some, Option.isSome_some] at hlk
      have HA : Hid (addOne (L.map Prod.fst) ⟨k, n, [a]⟩ = (L.map Prod.fst, i)) := Lib.hid (by rw [HADD.out, hfi])
      clear hfi
      go_wp2_with fail
      go_region
      go_wp2_with fail
      go_ret
      exact ⟨by rw [HA.out]; rfl, L, HM5.out.drew, by rw [HA.out], .inl rfl, FrM.of_below (HB5.out.drew) HBQ.out⟩
    | none =>
      rw [hfi] at hlk
      simp only [Option.map_none, Option.getD_none, Option.isSome_none] at hlk
      have HA : Hid (addOne (L.map Prod.fst) ⟨k, n, [a]⟩ = (L.map Prod.fst ++ [⟨k, n, [a]⟩], L.length)) := Lib.hid (by rw [HADD.out, hfi, List.length_map])
      have HP2 := Lib.hid (HPUT.out hfi)
      clear hfi
      obtain ⟨VA, VC, rfl⟩ : ∃ A c, lv = .slice A L.length c := by
        rcases HROW5.out.2 with ⟨rfl, h0⟩ | ⟨g, cap, cur, rfl, _⟩
        · exact ⟨none, 0, by rw [h0]⟩
        · exact ⟨_, _, rfl⟩
      go_wp2_with fail
      go_region
      go_upto_region 9 with fail
      have HM6 := Lib.hid HM5.out.drew
      have HQ6 : Hid (w5.drew.heap[q]? = some (.cells #[.slice VA L.length VC, .map (some mb)] 86 (0, 0))) := Lib.hid HQ5.out
      have HROW6 : Hid (w5.drew.ownsRow B 59 3 (.slice VA L.length VC) L.length (flatG L)) := Lib.hid HROW5.out.drew
      have HU6 := Lib.hid (HU5.out.below (Below.refl _ w5).drew (Nat.le_trans HBQ.out HB5.out.size))
      have HB6 := Lib.hid (HB5.out.drew)
      have HK6 : Hid (w5.drew.heap[W.heap.size + 1]? = some (.cells #[.int .i64 k, .int .i64 n, .int .i64 a, .int .i64 (-1)] 109 (0, 0))) := Lib.hid HK5.out
      have HG6 : Hid (w5.drew.heap[W.heap.size]? = some (.cells #[.int .i64 k, .int .i64 n, (.slice (some ⟨pb, po, none⟩) 1 kc)] 59 (0, 0))) := Lib.hid HG5.out
      clear a0 a1 b0 b1 g0 g1 g2 k0 k1 k2 k3 hlk
      generalize w5.drew = w6 at *
      have hq6 : q < w6.heap.size := HM6.out.lt
      obtain ⟨⟨a0, a1⟩, b0, b1⟩ := blk2_cells HQ6.out
      obtain ⟨⟨g0, g1, g2⟩, _⟩ := blk3_cells HG6.out
      have t0 : (w6.alloc (.cells #[.int .i64 k, .int .i64 n, (.slice (some ⟨pb, po, none⟩) 1 kc)] 59)).cell? ⟨q, 0, none⟩ = some (.slice VA L.length VC) := (World.cell?_alloc_lt _ _ _ hq6).trans a0
      have HLL := Lib.hid hL
      have HBQ6 : Hid (B ≤ w6.heap.size) := Lib.hid (Nat.le_trans HBQ.out HB6.out.size)
      clear hq6
      go_region_law (refine step_append_lies _ rfl (.tmp 51) (.tmp 53) 22 rfl B 59 i0 (.agg #[.int .i64 0, .int .i64 0, .slice none 0 0]) 3 40 Tryd.underlying22 HI.out.1 HI.out.2.1 HI.out.2.2.1 HI.out.2.2.2 rfl (by decide) (.slice VA L.length VC) L.length (flatG L) (by simp [Act.eval, Act.put]) (HROW6.out.alloc _).drew ⟨w6.heap.size, 0, none⟩ 1 1 [.int .i64 k, .int .i64 n, (.slice (some ⟨pb, po, none⟩) 1 kc)] (by simp [Act.eval, Act.put]) rfl (three_new _ _ _ _ _) (by intro u hu; simp at hu; rcases hu with rfl | rfl | rfl <;> rfl) (by decide) (by have := HLL.out; unfold maxLen; omega) (by have := HLL.out; omega) (by have := HBQ6.out; simp; omega) _ rfl ?_; intro g4 cap4 w4 hown hgrow _ _; obtain ⟨p1, p2, p3, p4, p5, p6, p7⟩ := HM6.out.drew.pushed (g := ⟨k, n, [a]⟩) HQ6.out HROW6.out.drew HG.out (HU6.out.below (Below.refl _ w6).drew HBQ6.out) hown (show (w6.drew.alloc (.cells #[.int .i64 k, .int .i64 n, (.slice (some ⟨pb, po, none⟩) 1 kc)] 59)).grownBy w4 _ from hgrow); obtain ⟨⟨q0, q1⟩, r0, r1⟩ := blk2_cells p1; have HP := Lib.hid (And.intro p2 (And.intro p3 (And.intro p4 (And.intro p5 p6)))); clear hown hgrow p1 p2 p3 p4 p5 p6 p7)
      all_goals
        go_upto_region 10 with fail
        obtain ⟨p2, p3, p4, p5, p6⟩ := HP.out
        have hq1 : q < W.heap.size := HMG.out.lt
        have hm1 : mb < W.heap.size := HMG.out.map.lt
        have hk7 := p6.rest (W.heap.size + 1) _ HK6.out (by omega) (by omega) (by intro cs e; simp at e)
        have HFR := Lib.hid (((FrM.of_below HB6.out HBQ.out).trans (FrM.of_below (Below.refl _ w6).drew HBQ6.out)).trans p6)
        clear q0 q1 r0 r1 p6 HP t0 a0 a1 b0 b1 g0 g1 g2
        generalize w4.setCell ⟨q, 0, none⟩ (.slice (some ⟨g4, 0, none⟩) (L.length + 1) cap4) = w7 at *
        obtain ⟨⟨a0, a1⟩, b0, b1⟩ := blk2_cells p2
        obtain ⟨⟨k0, k1, k2, k3⟩, _⟩ := blk4_cells hk7
        obtain ⟨w8, hrun, hm8, hg8⟩ := (p4.block (w' := w7.drew) rfl).update (t := 84) (val := .int .i64 ((L.length : Nat) : Int)) keyC_keyed Tryd.underlying84 HKL.out
        rw [show keyG ⟨k, n, [a]⟩ = .agg #[.int .i64 k, .int .i64 n, .int .i64 a, .int .i64 (-1)] from rfl] at hrun
        have hm9 : MapOf w8 Tryd.prog 109 mb (L ++ [((⟨k, n, [a]⟩ : Gat), ((.slice (some ⟨pb, po, none⟩) 1 kc) : Value))]).length (mapG ((L ++ [((⟨k, n, [a]⟩ : Gat), ((.slice (some ⟨pb, po, none⟩) 1 kc) : Value))]).map Prod.fst)) := by
          rw [List.map_append, List.length_append]
          refine hm8.congr fun x => ?_
          have := HP2.out x
          rw [List.length_map] at this
          exact this
        have HMM := Lib.hid (Mg.mapped (w7 := w7.drew) HMG.out.le HMG.out.leM p2 p3.drew (p4.block (w' := w7.drew) rfl) p5 hm9 hg8)
        clear hm8 hm9 hg8 p2 p3 p4 p5 hk7 hq1 hm1
        go_region
        go_wp2_with fail
        go_ret
        exact ⟨by rw [HA.out]; rfl, _, HMM.out.1, by rw [HA.out, List.map_append]; rfl, .inr rfl, HFR.out.trans ((FrM.of_below (Below.refl _ w7).drew (Nat.le_trans HBQ.out HFR.out.bel.size)).trans HMM.out.2)⟩
  · simp only [List.length_nil, List.length_cons, Nat.zero_add, Nat.reduceAdd] at HU ⊢
    obtain ⟨p, rfl, e0⟩ := hK 0 a rfl
    rw [show p.add 0 = p by simp [Addr.add]] at e0
    obtain ⟨pb, po, rfl⟩ : ∃ b o, p = ⟨b, o, none⟩ := ⟨_, _, spot_none e0⟩
    have e0b := ((below2 W (.cells #[.int .i64 k, .int .i64 n, .slice (some ⟨pb, po, none⟩) 2 kc] 59) (.cells #[.int .i64 k, .int .i64 n, .int .i64 (-1), .int .i64 (-1)] 109)).cell (World.block_lt_of_cell? W _ e0)).trans e0
    obtain ⟨p', hpe, e1⟩ := hK 1 b rfl
    cases hpe
    rw [add_none] at e1
    have e1b := ((below2 W (.cells #[.int .i64 k, .int .i64 n, .slice (some ⟨pb, po, none⟩) 2 kc] 59) (.cells #[.int .i64 k, .int .i64 n, .int .i64 a, .int .i64 (-1)] 109)).cell (World.block_lt_of_cell? W _ e1)).trans e1
    obtain ⟨w5, hw5⟩ : ∃ w5, w5 = ((W.alloc (.cells #[.int .i64 k, .int .i64 n, .slice (some ⟨pb, po, none⟩) 2 kc] 59)).alloc (.cells #[.int .i64 k, .int .i64 n, .int .i64 a, .int .i64 b] 109)) := ⟨_, rfl⟩
    have HB5 : Hid (Below W.heap.size W w5) := Lib.hid (by rw [hw5]; exact below2 _ _ _)
    have HG5 : Hid (w5.heap[W.heap.size]? = some (.cells #[.int .i64 k, .int .i64 n, .slice (some ⟨pb, po, none⟩) 2 kc] 59 (0, 0))) := Lib.hid (by rw [hw5, Below.heap_alloc _ _ _ (by simp)]; exact alloc_at _ _ _ rfl)
    have HK5 : Hid (w5.heap[W.heap.size + 1]? = some (.cells #[.int .i64 k, .int .i64 n, .int .i64 a, .int .i64 b] 109 (0, 0))) := Lib.hid (by rw [hw5]; exact alloc_at _ _ _ (by simp))
    have HW5 := Lib.hid hw5
    clear hw5 hK
    go_enter Tryd.func60, Tryd.ntmps60
    go_upto_region 6 with fail
    rw [← HW5.out]
    have HM5 := Lib.hid (HMG.out.below HB5.out)
    obtain ⟨lv, hq5, hrow5⟩ := HM5.out.blk
    have HQ5 := Lib.hid hq5
    have HROW5 := Lib.hid hrow5
    have HU5 := Lib.hid (HU.out.below HB5.out HBQ.out)
    obtain ⟨⟨a0, a1⟩, b0, b1⟩ := blk2_cells hq5
    obtain ⟨⟨g0, g1, g2⟩, _⟩ := blk3_cells HG5.out
    obtain ⟨⟨k0, k1, k2, k3⟩, _⟩ := blk4_cells HK5.out
    have hlk := HM5.out.drew.map.lookup (t := 84) (e := 3) keyC_keyed Tryd.underlying84 (z := .int .i64 0) (by kernel_rfl) HKL.out true
    rw [HKEY.out, show keyG ⟨k, n, [a, b]⟩ = .agg #[.int .i64 k, .int .i64 n, .int .i64 a, .int .i64 b] from rfl] at hlk
    simp only [if_true] at hlk
    clear hq5 hrow5
    cases hfi : (L.map Prod.fst).findIdx? (fun x => decide (x = ⟨k, n, [a, b]⟩)) with
    | some i =>
      rw [hfi] at hlk
      simp only [Option.map_some, Option.getD_some, Option.isSome_some] at hlk
      have HA : Hid (addOne (L.map Prod.fst) ⟨k, n, [a, b]⟩ = (L.map Prod.fst, i)) := Lib.hid (by rw [HADD.out, hfi])
      clear hfi
      go_wp2_with fail
      go_region
      go_wp2_with fail
      go_ret
      exact ⟨by rw [HA.out]; rfl, L, HM5.out.drew, by rw [HA.out], .inl rfl, FrM.of_below (HB5.out.drew) HBQ.out⟩
    | none =>
      rw [hfi] at hlk
      simp only [Option.map_none, Option.getD_none, Option.isSome_none] at hlk
      have HA : Hid (addOne (L.map Prod.fst) ⟨k, n, [a, b]⟩ = (L.map Prod.fst ++ [⟨k, n, [a, b]⟩], L.length)) := Lib.hid (by rw [HADD.out, hfi, List.length_map])
      have HP2 := Lib.hid (HPUT.out hfi)
      clear hfi
      obtain ⟨VA, VC, rfl⟩ : ∃ A c, lv = .slice A L.length c := by
        rcases HROW5.out.2 with ⟨rfl, h0⟩ | ⟨g, cap, cur, rfl, _⟩
        · exact ⟨none, 0, by rw [h0]⟩
        · exact ⟨_, _, rfl⟩
      go_wp2_with fail
      go_region
      go_upto_region 9 with fail
      have HM6 := Lib.hid HM5.out.drew
      have HQ6 : Hid (w5.drew.heap[q]? = some (.cells #[.slice VA L.length VC, .map (some mb)] 86 (0, 0))) := Lib.hid HQ5.out
      have HROW6 : Hid (w5.drew.ownsRow B 59 3 (.slice VA L.length VC) L.length (flatG L)) := Lib.hid HROW5.out.drew
      have HU6 := Lib.hid (HU5.out.below (Below.refl _ w5).drew (Nat.le_trans HBQ.out HB5.out.size))
      have HB6 := Lib.hid (HB5.out.drew)
      have HK6 : Hid (w5.drew.heap[W.heap.size + 1]? = some (.cells #[.int .i64 k, .int .i64 n, .int .i64 a, .int .i64 b] 109 (0, 0))) := Lib.hid HK5.out
      have HG6 : Hid (w5.drew.heap[W.heap.size]? = some (.cells #[.int .i64 k, .int .i64 n, (.slice (some ⟨pb, po, none⟩) 2 kc)] 59 (0, 0))) := Lib.hid HG5.out
      clear a0 a1 b0 b1 g0 g1 g2 k0 k1 k2 k3 hlk
      generalize w5.drew = w6 at *
      have hq6 : q < w6.heap.size := HM6.out.lt
      obtain ⟨⟨a0, a1⟩, b0, b1⟩ := blk2_cells HQ6.out
      obtain ⟨⟨g0, g1, g2⟩, _⟩ := blk3_cells HG6.out
      have t0 : (w6.alloc (.cells #[.int .i64 k, .int .i64 n, (.slice (some ⟨pb, po, none⟩) 2 kc)] 59)).cell? ⟨q, 0, none⟩ = some (.slice VA L.length VC) := (World.cell?_alloc_lt _ _ _ hq6).trans a0
      have HLL := Lib.hid hL
      have HBQ6 : Hid (B ≤ w6.heap.size) := Lib.hid (Nat.le_trans HBQ.out HB6.out.size)
      clear hq6
      go_region_law (refine step_append_lies _ rfl (.tmp 51) (.tmp 53) 22 rfl B 59 i0 (.agg #[.int .i64 0, .int .i64 0, .slice none 0 0]) 3 40 Tryd.underlying22 HI.out.1 HI.out.2.1 HI.out.2.2.1 HI.out.2.2.2 rfl (by decide) (.slice VA L.length VC) L.length (flatG L) (by simp [Act.eval, Act.put]) (HROW6.out.alloc _).drew ⟨w6.heap.size, 0, none⟩ 1 1 [.int .i64 k, .int .i64 n, (.slice (some ⟨pb, po, none⟩) 2 kc)] (by simp [Act.eval, Act.put]) rfl (three_new _ _ _ _ _) (by intro u hu; simp at hu; rcases hu with rfl | rfl | rfl <;> rfl) (by decide) (by have := HLL.out; unfold maxLen; omega) (by have := HLL.out; omega) (by have := HBQ6.out; simp; omega) _ rfl ?_; intro g4 cap4 w4 hown hgrow _ _; obtain ⟨p1, p2, p3, p4, p5, p6, p7⟩ := HM6.out.drew.pushed (g := ⟨k, n, [a, b]⟩) HQ6.out HROW6.out.drew HG.out (HU6.out.below (Below.refl _ w6).drew HBQ6.out) hown (show (w6.drew.alloc (.cells #[.int .i64 k, .int .i64 n, (.slice (some ⟨pb, po, none⟩) 2 kc)] 59)).grownBy w4 _ from hgrow); obtain ⟨⟨q0, q1⟩, r0, r1⟩ := blk2_cells p1; have HP := Lib.hid (And.intro p2 (And.intro p3 (And.intro p4 (And.intro p5 p6)))); clear hown hgrow p1 p2 p3 p4 p5 p6 p7)
      all_goals
        go_upto_region 10 with fail
        obtain ⟨p2, p3, p4, p5, p6⟩ := HP.out
        have hq1 : q < W.heap.size := HMG.out.lt
        have hm1 : mb < W.heap.size := HMG.out.map.lt
        have hk7 := p6.rest (W.heap.size + 1) _ HK6.out (by omega) (by omega) (by intro cs e; simp at e)
        have HFR := Lib.hid (((FrM.of_below HB6.out HBQ.out).trans (FrM.of_below (Below.refl _ w6).drew HBQ6.out)).trans p6)
        clear q0 q1 r0 r1 p6 HP t0 a0 a1 b0 b1 g0 g1 g2
        generalize w4.setCell ⟨q, 0, none⟩ (.slice (some ⟨g4, 0, none⟩) (L.length + 1) cap4) = w7 at *
        obtain ⟨⟨a0, a1⟩, b0, b1⟩ := blk2_cells p2
        obtain ⟨⟨k0, k1, k2, k3⟩, _⟩ := blk4_cells hk7
        obtain ⟨w8, hrun, hm8, hg8⟩ := (p4.block (w' := w7.drew) rfl).update (t := 84) (val := .int .i64 ((L.length : Nat) : Int)) keyC_keyed Tryd.underlying84 HKL.out
        rw [show keyG ⟨k, n, [a, b]⟩ = .agg #[.int .i64 k, .int .i64 n, .int .i64 a, .int .i64 b] from rfl] at hrun
        have hm9 : MapOf w8 Tryd.prog 109 mb (L ++ [((⟨k, n, [a, b]⟩ : Gat), ((.slice (some ⟨pb, po, none⟩) 2 kc) : Value))]).length (mapG ((L ++ [((⟨k, n, [a, b]⟩ : Gat), ((.slice (some ⟨pb, po, none⟩) 2 kc) : Value))]).map Prod.fst)) := by
          rw [List.map_append, List.length_append]
          refine hm8.congr fun x => ?_
          have := HP2.out x
          rw [List.length_map] at this
          exact this
        have HMM := Lib.hid (Mg.mapped (w7 := w7.drew) HMG.out.le HMG.out.leM p2 p3.drew (p4.block (w' := w7.drew) rfl) p5 hm9 hg8)
        clear hm8 hm9 hg8 p2 p3 p4 p5 hk7 hq1 hm1
        go_region
        go_wp2_with fail
        go_ret
        exact ⟨by rw [HA.out]; rfl, _, HMM.out.1, by rw [HA.out, List.map_append]; rfl, .inr rfl, HFR.out.trans ((FrM.of_below (Below.refl _ w7).drew (Nat.le_trans HBQ.out HFR.out.bel.size)).trans HMM.out.2)⟩
end Go.Proofs.YtcophfhnhlaonaaDoor
