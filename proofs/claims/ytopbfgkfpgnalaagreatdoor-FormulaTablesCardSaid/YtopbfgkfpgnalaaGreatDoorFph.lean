/-
  addTogether at the one block of two terms and one.
-/
import Derived.Test.YtopbfgkfpgnalaaGreatDoorFpf
import Derived.Test.YtopbfgkfpgnalaaGreatDoorFpg
import Derived.LoopN
import Derived.StillTailTactics
namespace Go.Proofs.YtopbfgkfpgnalaaGreatDoor
set_option linter.unusedVariables false
open Go.RowKit Go.Maps

/-- The blocks of the packed terms. -/
structure PkA (gm gb gp gq h0 h1 hu sb : Nat) (W : World) : Prop where
  m : W.heap[gm]? = some (.cells #[.pointer (some ⟨sb, 0, none⟩), .slice none 0 0] 247 (0, 0))
  b : W.heap[gb]? = some (.cells #[.slice (some ⟨gp, 0, none⟩) 2 2, .slice (some ⟨gq, 0, none⟩) 1 1] 252 (0, 0))
  p : W.heap[gp]? = some (.cells #[.int .i64 1, .slice (some ⟨h0, 0, none⟩) 1 1, .int .i64 1, .slice (some ⟨h1, 0, none⟩) 1 1] 283 (0, 0))
  q : W.heap[gq]? = some (.cells #[.int .i64 1, .slice (some ⟨hu, 0, none⟩) 1 1] 283 (0, 0))
  w0 : W.heap[h0]? = some (.cells #[.int .u64 0] 121 (0, 0))
  w1 : W.heap[h1]? = some (.cells #[.int .u64 281474976710656] 121 (0, 0))
  wu : W.heap[hu]? = some (.cells #[.int .u64 4294967296] 121 (0, 0))
theorem PkA.keep {gm gb gp gq h0 h1 hu sb : Nat} {w W : World} (h : PkA gm gb gp gq h0 h1 hu sb w) {B mb P M q n cnt : Nat} {D : DataW Unit} (hS : SumAt B sb mb P M q n cnt D w) (hK : KeepS sb mb w W) : PkA gm gb gp gq h0 h1 hu sb W :=
  ⟨hS.keepO hK h.m (by decide) (by decide), hS.keepO hK h.b (by decide) (by decide), hS.keepO hK h.p (by decide) (by decide), hS.keepO hK h.q (by decide) (by decide), hS.keepO hK h.w0 (by decide) (by decide), hS.keepO hK h.w1 (by decide) (by decide), hS.keepO hK h.wu (by decide) (by decide)⟩
theorem PkA.below {gm gb gp gq h0 h1 hu sb : Nat} {w W : World} (h : PkA gm gb gp gq h0 h1 hu sb w) (hB : Below w.heap.size w W) : PkA gm gb gp gq h0 h1 hu sb W := by
  have k := fun {g : Nat} {o : Obj} (h : w.heap[g]? = some o) => (hB.block g (Array.getElem?_eq_some_iff.1 h).1).trans h
  exact ⟨k h.m, k h.b, k h.p, k h.q, k h.w0, k h.w1, k h.wu⟩

def po1 : List Tm := [(1, [0, 1]), (1, [1, 1])]
theorem po1_ris : Ris 2 2 po1 := ⟨by decide, by decide, by decide⟩
/-- A polynomial of two terms over two variables: its four cells. -/
theorem rd_four {w : World} {A : Option Addr} {c d : Nat} {e f : List Nat} (h : RdP w A (tms [(c, e), (d, f)])) : ∃ b off u v, A = some ⟨b, off, none⟩ ∧ SlR w u (nz e) ∧ SlR w v (nz f) ∧ ∀ j x, [Value.int .i64 (c : Int), u, .int .i64 (d : Int), v][j]? = some x → w.cell? ⟨b, off + j, none⟩ = some x := by
  obtain ⟨b, off, u, rfl, h1, h2, h3⟩ := h 0 _ rfl
  obtain ⟨b', off', v, hA, k1, k2, k3⟩ := h 1 _ rfl
  cases hA
  refine ⟨b, off, u, v, rfl, h3, k3, ?_⟩
  intro j x hx
  match j, hx with
  | 0, hx => cases hx; exact h1
  | 1, hx => cases hx; exact h2
  | 2, hx => cases hx; exact k1
  | 3, hx => cases hx; exact k2
  | j + 4, hx => simp at hx
theorem add_cell (b o j : Nat) (w : World) : w.cell? (Addr.add ⟨b, o, none⟩ j) = w.cell? ⟨b, o + j, none⟩ := by
  unfold Addr.add
  split
  · rename_i h; subst h; rfl
  · rfl
theorem rd_back {w : World} {g c d : Nat} {e f : List Nat} {u v : Value} (hu : SlR w u (nz e)) (hv : SlR w v (nz f)) (h : ∀ j x, [Value.int .i64 (c : Int), u, .int .i64 (d : Int), v][j]? = some x → w.cell? ⟨g, j, none⟩ = some x) : RdP w (some ⟨g, 0, none⟩) (tms [(c, e), (d, f)]) := fun k t hk => by
  match k, hk with
  | 0, hk => cases hk; exact ⟨g, 0, u, rfl, h 0 _ rfl, h 1 _ rfl, hu⟩
  | 1, hk => cases hk; exact ⟨g, 0, v, rfl, h 2 _ rfl, h 3 _ rfl, hv⟩
  | k + 2, hk => simp at hk
/-- A row of integers lies away from a cell that holds a slice. -/
theorem SlR.setOther {w : World} {v : Value} {xs : List Int} (h : SlR w v xs) {a : Addr} {A : Option Addr} {l c : Nat} (ha : w.cell? a = some (.slice A l c)) (y : Value) : SlR (w.setCell a y) v xs := by
  obtain ⟨B, d, e, hr, hl⟩ := h
  refine ⟨B, d, e, fun k x hk => ?_, hl⟩
  obtain ⟨p, hp, hc⟩ := hr k x hk
  refine ⟨p, hp, ?_⟩
  have hne : a ≠ p.add k := by rintro rfl; rw [ha] at hc; cases hc
  exact (World.cell?_setCell_other _ _ _ _ hne).trans hc

set_option maxRecDepth 100000 in
set_option maxHeartbeats 8000000 in
theorem addTogether_ok (w0 w : World) (hB0 : Below w0.heap.size w0 w) (gm gb gp gq h0 h1 hu sb mb cnt : Nat) (hgm : w0.heap.size ≤ gm) (D : DataW Unit) (hS : SumAt w0.heap.size sb mb 2 1 2 2 cnt D w) (hcnt : cnt ≤ 100) (hP : PkA gm gb gp gq h0 h1 hu sb w) :
    Calls Tryz.prog 226 #[.pointer (some ⟨gm, 0, none⟩), .slice (some ⟨gb, 0, none⟩) 1 1] w fun r w' => r = .returned (.bool true) ∧ (∃ A c, w'.heap[gm]? = some (.cells #[.pointer (some ⟨sb, 0, none⟩), .slice A 2 c] 247 (0, 0)) ∧ RdP w' A (tms [(1, [0, 1]), (1, [1, 1])])) ∧ Below w0.heap.size w w' := by
  obtain ⟨vc, wc, hcl, hmc, hgc⟩ := clear_own hS.map 0
  have hSc := hS.mapped hmc hgc
  have hKc : KeepS sb mb w wc := Only.keepS (((Only.refl (fun g => g = mb) w).grown hgc fun k e _ => (Option.some.inj e).symm).mono fun g e => .inr e)
  have hPc := hP.keep hS hKc
  have hbc : Below w0.heap.size w wc := (Below.refl _ w).grown hgc hB0.size (fun k e => by have := hS.lm; have e' := Option.some.inj e; omega)
  obtain ⟨m0, -⟩ := pk_cells hP.m 0 rfl
  obtain ⟨d4, -⟩ := hS.cells
  obtain ⟨w1, hw1⟩ : ∃ w1, w1 = wc.alloc (.cells #[.slice (some ⟨gp, 0, none⟩) 2 2, .slice (some ⟨gq, 0, none⟩) 1 1] 252) := ⟨_, rfl⟩
  have hb1 : Below wc.heap.size wc w1 := by rw [hw1]; exact below1 _ _
  have hP1 := hPc.below hb1
  have hS1 := hSc.below hb1
  have g1 : w1.heap[wc.heap.size]? = some (.cells #[.slice (some ⟨gp, 0, none⟩) 2 2, .slice (some ⟨gq, 0, none⟩) 1 1] 252 (0, 0)) := by rw [hw1]; exact alloc_at _ _ _ rfl
  obtain ⟨w2, hw2⟩ : ∃ w2, w2 = w1.alloc (.cells #[.int .i64 1, .slice (some ⟨h0, 0, none⟩) 1 1] 283) := ⟨_, rfl⟩
  have hb2 : Below w1.heap.size w1 w2 := by rw [hw2]; exact below1 _ _
  have hP2 := hP1.below hb2
  have hS2 := hS1.below hb2
  have g1' := (hb2.block wc.heap.size (Array.getElem?_eq_some_iff.1 g1).1).trans g1
  have g2 : w2.heap[w1.heap.size]? = some (.cells #[.int .i64 1, .slice (some ⟨h0, 0, none⟩) 1 1] 283 (0, 0)) := by rw [hw2]; exact alloc_at _ _ _ rfl
  have HW1 := Lib.hid hw1
  have HS := Lib.hid hS
  have HW2 := Lib.hid hw2
  have G1 := Lib.hid g1'
  obtain ⟨c0, -⟩ := pk_cells hPc.b 0 rfl
  obtain ⟨c1, -⟩ := pk_cells hPc.b 1 rfl
  obtain ⟨e0, -⟩ := pk_cells g1 0 rfl
  obtain ⟨p0, -⟩ := pk_cells hP1.p 0 rfl
  obtain ⟨p1, -⟩ := pk_cells hP1.p 1 rfl
  obtain ⟨m2, -⟩ := pk_cells hP2.m 0 rfl
  obtain ⟨q0, -⟩ := pk_cells g2 0 rfl
  obtain ⟨q1, -⟩ := pk_cells g2 1 rfl
  obtain ⟨e1, -⟩ := pk_cells g1' 1 rfl
  have HP2 := Lib.hid hP2
  have HS2 := Lib.hid hS2
  have HB2 := Lib.hid ((hbc.trans (hb1.mono (by have := hB0.size; have := hbc.size; omega))).trans (hb2.mono (by have := hB0.size; have := hbc.size; have := hb1.size; omega)))
  clear hP2 hS2 hb1 hb2 hP1 hS1 hPc hSc hbc hKc hw1 hw2 g1 g1' g2
  go_enter Tryz.func226, Tryz.ntmps226
  go_wp2_with fail
  refine wp_loop_rounds 2 ?_
  rw [rounds_succ]
  go_upto_region 5 with fail
  rw [← HW1.out]
  go_wp2_with fail
  refine wp_loop_rounds 3 ?_
  rw [rounds_succ]
  go_upto_region 8 with fail
  rw [← HW2.out]
  go_still_tail 7, (by kernel_rfl)
  change wpList _ _ _ _ _ w2.drew
  have hT0 : Tells 2 (stN 2 1) (addN 2 1) [] (DataW.map []) := Tells.empty 2 (stN_zero 2 1) _
  go_wp2_with fail
  have hd2 : Below w2.heap.size w2 w2.drew := (Below.refl _ w2).drew
  have hS2 := HS2.out.below hd2
  have hP2 := HP2.out.below hd2
  refine (addProducts_0 w0 w2.drew ((hB0.trans HB2.out).trans (hd2.mono (hB0.trans HB2.out).size)) sb mb 0 h0 gq hu _ [] hS2 hT0 (by intro x hx; cases hx) (by omega) (by simp) hP2.w0 hP2.q hP2.wu).mono ?_
  rintro r w3 ⟨rfl, D1, hS3, hT3, hK3, hB3⟩
  have hP3 := hP2.keep hS2 hK3
  have g3 := hS2.keepO hK3 ((hd2.block wc.heap.size (Array.getElem?_eq_some_iff.1 G1.out).1).trans G1.out) (by decide) (by decide)
  have hB3' := (HB2.out.trans (hd2.mono (hB0.trans HB2.out).size)).trans hB3
  have hb03 := hB0.trans hB3'
  obtain ⟨w4, hw4⟩ : ∃ w4, w4 = w3.alloc (.cells #[.int .i64 1, .slice (some ⟨h1, 0, none⟩) 1 1] 283) := ⟨_, rfl⟩
  have hb4 : Below w3.heap.size w3 w4 := by rw [hw4]; exact below1 _ _
  have hP4 := hP3.below hb4
  have hS4 := hS3.below hb4
  have g3' := (hb4.block wc.heap.size (Array.getElem?_eq_some_iff.1 g3).1).trans g3
  have g4 : w4.heap[w3.heap.size]? = some (.cells #[.int .i64 1, .slice (some ⟨h1, 0, none⟩) 1 1] 283 (0, 0)) := by rw [hw4]; exact alloc_at _ _ _ rfl
  clear c0 c1 e0 e1 p0 p1 m2 q0 q1 m0 d4
  obtain ⟨p2, -⟩ := pk_cells hP3.p 2 rfl
  obtain ⟨p3, -⟩ := pk_cells hP3.p 3 rfl
  obtain ⟨m4, -⟩ := pk_cells hP4.m 0 rfl
  obtain ⟨q0, -⟩ := pk_cells g4 0 rfl
  obtain ⟨q1, -⟩ := pk_cells g4 1 rfl
  obtain ⟨e1, -⟩ := pk_cells g3' 1 rfl
  have HP4 := Lib.hid hP4
  have HS4 := Lib.hid hS4
  have HT3 := Lib.hid hT3
  have HW4 := Lib.hid hw4
  have HB4 := Lib.hid (hB3'.trans (hb4.mono hb03.size))
  clear hd2 hS2 hP2 hS3 hT3 hK3 hB3 hP3 g3 hB3' hb03 hw4 hb4 hP4 hS4 g3' g4 HP2 HS2 HB2
  go_wp2_with fail
  rw [rounds_succ]
  go_upto_region 8 with fail
  rw [← HW4.out]
  go_still_tail 7, (by kernel_rfl)
  change wpList _ _ _ _ _ w4.drew
  go_wp2_with fail
  have hd4 : Below w4.heap.size w4 w4.drew := (Below.refl _ w4).drew
  have hS4 := HS4.out.below hd4
  have hP4 := HP4.out.below hd4
  refine (addProducts_1 w0 w4.drew ((hB0.trans HB4.out).trans (hd4.mono (hB0.trans HB4.out).size)) sb mb 1 h1 gq hu _ _ hS4 HT3.out (by intro x hx; simp at hx; subst hx; decide) (by omega) (by simp) hP4.w1 hP4.q hP4.wu).mono ?_
  rintro r w5 ⟨rfl, D2, hS5, hT5, hK5, hB5⟩
  have hP5 := hP4.keep hS4 hK5
  have hB5' := (HB4.out.trans (hd4.mono (hB0.trans HB4.out).size)).trans hB5
  obtain ⟨m5, -⟩ := pk_cells hP5.m 0 rfl
  have HP5 := Lib.hid hP5
  have HNM : Hid (w5.heap[mb]? ≠ some (.cells #[.pointer (some ⟨sb, 0, none⟩), .slice none 0 0] 247 (0, 0))) := Lib.hid (by obtain ⟨es, clock, hm, _⟩ := hS5.map; rw [hm]; intro h; cases h)
  have HB5 := Lib.hid hB5'
  have HPO := Lib.hid (poly_ok w0 w5 (hB0.trans hB5').size sb mb 2 1 2 2 2 al_f2 (by omega) D2 _ hS5 hT5 (by intro x hx; simp at hx; rcases hx with rfl | rfl <;> decide) (by omega) (by simp))
  clear p2 p3 m4 q0 q1 e1 hd4 hS4 hP4 hS5 hT5 hK5 hB5 hP5 hB5' HB4 HP4 HS4 HT3
  go_wp2_with fail
  rw [rounds_succ]
  go_wp2_with fail
  rw [rounds_succ]
  go_wp2_with fail
  refine HPO.out.mono ?_
  rintro r w6 ⟨hO6, p, r1, r2, r3, r4, r5⟩
  obtain rfl : p = po1 := r1.ext al_f2.fl.toRng po1_ris r2
  obtain ⟨A6, cc6, rfl, hr6⟩ : ∃ A c, r = .returned (.tuple #[.slice A 2 c, .bool true]) ∧ RdP w6 A (tms po1) := by
    rcases r5 with ⟨_, A, c, e, h⟩ | ⟨h, _⟩
    · exact ⟨A, c, e, h⟩
    · exact absurd h (by decide)
  have hm6 : w6.heap[gm]? = some (.cells #[.pointer (some ⟨sb, 0, none⟩), .slice none 0 0] 247 (0, 0)) := (hO6.block gm (Array.getElem?_eq_some_iff.1 HP5.out.m).1 (by rintro rfl; exact HNM.out HP5.out.m)).trans HP5.out.m
  have hB6 := HB5.out.trans (hO6.below (hB0.trans HB5.out).size fun k e => e ▸ HS.out.lm)
  obtain ⟨b6, o6, u6, v6, rfl, hu6, hv6, hc6⟩ := rd_four hr6
  obtain ⟨i0, hi, hz0, hz1, hz2⟩ := info_parts Tryz.infoT
  obtain ⟨m60, -⟩ := pk_cells hm6 0 rfl
  obtain ⟨m61, f61⟩ := pk_cells hm6 1 rfl
  obtain ⟨vb, vn, vc', hv1⟩ : ∃ a n c, Value.slice none 0 0 = .slice a n c := ⟨_, _, _, rfl⟩
  replace m61 : w6.cell? ⟨gm, 1, none⟩ = some (.slice vb vn vc') := m61.trans (congrArg some hv1)
  have HON : Hid (w6.ownsRow w6.heap.size 144 2 (.slice vb vn vc') 0 []) := Lib.hid (by rw [← hv1]; exact World.ownsRow_nil _ _ _ _)
  have HVO : Hid ((Value.slice vb vn vc').ownBlock = none) := Lib.hid (by rw [← hv1]; rfl)
  have h1c : ∀ x ∈ [Value.int .i64 ((1 : Nat) : Int), u6, .int .i64 ((1 : Nat) : Int), v6], x.oneCell' = true := by
    obtain ⟨_, _, rfl, _⟩ := hu6
    obtain ⟨_, _, rfl, _⟩ := hv6
    intro x hx
    simp only [List.mem_cons, List.not_mem_nil, or_false] at hx
    rcases hx with rfl | rfl | rfl | rfl <;> rfl
  have HC6 : Hid (∀ j x, [Value.int .i64 ((1 : Nat) : Int), u6, .int .i64 ((1 : Nat) : Int), v6][j]? = some x → w6.cell? (Addr.add ⟨b6, o6, none⟩ j) = some x) := Lib.hid (fun j x hj => (add_cell b6 o6 j w6).trans (hc6 j x hj))
  have H1C := Lib.hid h1c
  have HU := Lib.hid hu6
  have HV := Lib.hid hv6
  have HM6 := Lib.hid hm6
  have HB6 := Lib.hid hB6
  clear r1 r2 r3 r4 r5 hr6 hO6 hc6 h1c hu6 hv6 hm6 hB6 hv1 HPO m5 HP5 HB5
  go_wp2_with (at_builtin; refine wpList_append_lies _ rfl _ _ 67 rfl w6.heap.size 144 i0 (.agg #[.int .i64 0, .slice none 0 0]) 2 32 Tryz.underlying67 hi hz0 hz1 hz2 rfl (by decide) (.slice vb vn vc') 0 [] rfl HON.out ⟨b6, o6, none⟩ 2 cc6 [.int .i64 ((1 : Nat) : Int), u6, .int .i64 ((1 : Nat) : Int), v6] rfl rfl HC6.out H1C.out (by decide) (by unfold maxLen; omega) (by omega) (Nat.le_refl _) w6.heap.size rfl ?_; intro g cap w7 hown hgrow hgo hglt; have hm7 := (hgrow.block gm (Array.getElem?_eq_some_iff.1 HM6.out).1 (by rw [HVO.out]; simp)).trans HM6.out; obtain ⟨m70, -⟩ := pk_cells hm7 0 rfl; obtain ⟨m71, f71⟩ := pk_cells hm7 1 rfl; have HM7 := Lib.hid hm7; have HOWN := Lib.hid hown; have HGR := Lib.hid hgrow; have HGO := Lib.hid hgo; clear hm7 hown hgrow hgo hglt m60 m61 f61)
  go_ret
  have hgg : g = w6.heap.size := by
    rcases HGO.out with h | h
    · rw [HVO.out] at h; cases h
    · exact h
  have hgs : gm < w6.heap.size := (Array.getElem?_eq_some_iff.1 HM6.out).1
  have hb67 : Below w6.heap.size w6 w7 := (Below.refl _ w6).grown HGR.out (Nat.le_refl _) (fun k e => by rw [HVO.out] at e; cases e)
  refine ⟨rfl, ⟨_, cap, by rw [heap_setCell_same w7 gm 1 _ _ _ HM7.out]; rfl, ?_⟩, (HB6.out.trans (hb67.mono (hB0.trans HB6.out).size)).setCell (p := ⟨gm, 1, none⟩) hgm _⟩
  refine rd_back ((HU.out.below hb67).setOther m71 _) ((HV.out.below hb67).setOther m71 _) fun j x hx => ?_
  have h7 := World.ownsRow.cells HOWN.out rfl j x hx
  have h8 : w7.cell? ⟨g, j, none⟩ = some x := by
    rw [add_cell, Nat.zero_add] at h7
    exact h7
  have hne : (⟨gm, 1, none⟩ : Addr) ≠ ⟨g, j, none⟩ := by intro e; have := congrArg Addr.block e; simp at this; omega
  exact (World.cell?_setCell_other _ _ _ _ hne).trans h8
end Go.Proofs.YtopbfgkfpgnalaaGreatDoor
