/-
  Contract of alive, which every statement of this seat calls: it returns true and leaves what lay as it lay, in every world.
-/
import Derived.Test.YtdpnmepplkiljaaDoorJ
namespace Go.Proofs.YtdpnmepplkiljaaDoor
open Go.RowKit

theorem ord_one {ps : List Nat} (h : ((List.range 8).all (fun k => decide (ordL ((allCyc ps).take k) ≤ 5040)) && decide ((allCyc ps).length ≤ 7)) = true) : ∀ pre, pre <+: allCyc ps → ordL pre ≤ 5040 := by
  simp only [Bool.and_eq_true, decide_eq_true_eq, List.all_eq_true, List.mem_range] at h
  intro pre hpre
  have hl := hpre.length_le
  rw [List.prefix_iff_eq_take.1 hpre]
  exact h.1 _ (by omega)

def aliveQ : List Nat := commN [1, 2, 3, 4, 0] [2, 0, 4, 1, 3]

theorem aliveQ_perm : IsPerm aliveQ := by decide +kernel
theorem aliveQ_ok : ∀ pre, pre <+: allCyc aliveQ → ordL pre ≤ 5040 := ord_one (by decide +kernel)
theorem aliveQ_len : ∀ c ∈ allCyc aliveQ, 1 ≤ c.length ∧ c.length ≤ 7 := by decide +kernel
theorem aliveQ_order : ordL (allCyc aliveQ) = 5 := by decide +kernel
theorem aliveR : unrankN 3 3 = [1, 2, 0] := by decide +kernel
theorem aliveP : mulN [1, 0, 2] [0, 2, 1] = [2, 0, 1] := by decide +kernel

theorem mul_n (v v' : Value) (ps qs : List Nat) (n : Nat) (w : World) (h : SlI w v (ints ps)) (h' : SlI w v' (ints qs)) (hp : IsPerm ps) (hq : IsPerm qs) (hpn : ps.length = n) (hqn : qs.length = n) :
    Calls Tryd.prog 17 #[v, v'] w fun e w' => ∃ g, e = .returned (.tuple #[.slice (some ⟨g, 0, none⟩) n n, .int .i64 0]) ∧ w.heap.size ≤ g ∧ Blk w' g (mulN ps qs) ∧ Below w.heap.size w w' := by
  have := mul_ok v v' ps qs w h h' hp hq (by rw [hpn, hqn])
  rw [hpn] at this
  exact this

theorem blk_lit (w : World) (ps : List Nat) : Blk (w.alloc (.cells (natCells ps).toArray 3)) w.heap.size ps := World.alloc_heap_new w _

theorem same_yes (v v' : Value) (l l' : List Int) (w : World) (h : SlI w v l) (h' : SlI w v' l') (he : l = l') :
    Calls Tryd.prog 16 #[v, v'] w fun e w' => e = .returned (.bool true) ∧ ∃ q, w' = w.drewN q := by
  have := same_any v v' l l' w h h'
  rwa [decide_eq_true he] at this

theorem two_lits (w : World) (ps qs : List Nat) (n : Nat) (hp : ps.length = n) (hq : qs.length = n) (hn : n ≤ 7) :
    SlI ((w.alloc (.cells (natCells ps).toArray 3)).alloc (.cells (natCells qs).toArray 3)) (.slice (some ⟨w.heap.size, 0, none⟩) n n) (ints ps) ∧
    SlI ((w.alloc (.cells (natCells ps).toArray 3)).alloc (.cells (natCells qs).toArray 3)) (.slice (some ⟨w.heap.size + 1, 0, none⟩) n n) (ints qs) ∧
    Below w.heap.size w ((w.alloc (.cells (natCells ps).toArray 3)).alloc (.cells (natCells qs).toArray 3)) := by
  have h1 := blk_lit w ps
  have h2 := blk_lit (w.alloc (.cells (natCells ps).toArray 3)) qs
  rw [World.size_alloc] at h2
  have hB2 := (Below.refl (w.alloc (.cells (natCells ps).toArray 3)).heap.size (w.alloc (.cells (natCells ps).toArray 3))).alloc (Nat.le_refl _) (.cells (natCells qs).toArray 3)
  exact ⟨SlI.of_blk (h1.below hB2 (by simp)) hp (by omega), SlI.of_blk h2 hq (by omega), ((Below.refl _ w).alloc (Nat.le_refl _) _).alloc (by simp) _⟩

theorem one_lit (w : World) (ps : List Nat) (n : Nat) (hp : ps.length = n) (hn : n ≤ 7) :
    SlI (w.alloc (.cells (natCells ps).toArray 3)) (.slice (some ⟨w.heap.size, 0, none⟩) n n) (ints ps) ∧ Below w.heap.size w (w.alloc (.cells (natCells ps).toArray 3)) :=
  ⟨SlI.of_blk (blk_lit w ps) hp (by omega), (Below.refl _ w).alloc (Nat.le_refl _) _⟩

set_option maxRecDepth 100000 in
set_option maxHeartbeats 1000000 in
theorem alive_any (w : World) : Calls Tryd.prog 6 #[] w fun e w' => e = .returned (.bool true) ∧ Below w.heap.size w w' := by
  obtain ⟨a1, a2, aB⟩ := two_lits w [1, 0, 2] [0, 2, 1] 3 rfl rfl (by omega)
  have hm := mul_n _ _ _ _ 3 _ a1 a2 (by decide) (by decide) rfl rfl
  rw [aliveP] at hm
  have HM := Lib.hid hm
  have HB := Lib.hid aB
  clear hm a1 a2 aB
  go_enter Tryd.func6, Tryd.ntmps6
  go_wp2_with fail
  refine HM.out.mono ?_
  rintro e w1 ⟨g1, rfl, hg1, hb1, hB1⟩
  have hB1' : Below w.heap.size w w1 := HB.out.trans (hB1.mono HB.out.size)
  clear HM HB hB1 hg1
  obtain ⟨c1, c2, cB⟩ := two_lits w1 [1, 2, 3, 4, 0] [2, 0, 4, 1, 3] 5 rfl rfl (by omega)
  have hc := comm_ok _ _ _ _ 5 _ c1 c2 (by decide) (by decide) rfl rfl
  have HC := Lib.hid hc
  have HCB := Lib.hid cB
  clear hc c1 c2 cB
  go_wp2_with fail
  refine HC.out.mono ?_
  rintro e w2 ⟨g2, rfl, hg2, hb2, hB2⟩
  have hB2' : Below w1.heap.size w1 w2 := HCB.out.trans (hB2.mono HCB.out.size)
  have hb1' := hb1.below hB2' hb1.lt
  clear HC HCB hB2 hg2 hb1
  have hu := unrank_ok 3 3 w2 (by omega) (by omega) (by decide) (by rw [aliveR]; decide)
  rw [aliveR] at hu
  have HU := Lib.hid hu
  clear hu
  go_wp2_with fail
  refine HU.out.mono ?_
  rintro e w3 ⟨g3, rfl, hg3, hb3, hB3⟩
  have hb1'' := hb1'.below hB3 hb1'.lt
  have hb2' := hb2.below hB3 hb2.lt
  clear HU hg3 hb1' hb2
  obtain ⟨d1, dB⟩ := one_lit w3 [2, 0, 1] 3 rfl (by omega)
  have e1 := SlI.of_blk (hb1''.below dB hb1''.lt) rfl (by decide : 3 ≤ 9223372036854775807)
  have hs := same_yes _ _ _ _ _ e1 d1 rfl
  have HS := Lib.hid hs
  have HDB := Lib.hid dB
  clear hs e1 d1 dB
  go_wp2_with fail
  refine HS.out.mono ?_
  rintro e w4 ⟨rfl, q4, rfl⟩
  have hB4 : Below w3.heap.size w3 ((w3.alloc (.cells (natCells [2, 0, 1]).toArray 3)).drewN q4) := below_drewN' HDB.out q4
  have hb2'' := hb2'.below hB4 hb2'.lt
  have hb3' := hb3.below hB4 hb3.lt
  clear HS HDB hb1'' hb2'
  have ho := order_ok _ aliveQ _ (SlI.of_blk hb2'' rfl (by decide : 5 ≤ 9223372036854775807)) aliveQ_perm aliveQ_ok aliveQ_len
  rw [aliveQ_order] at ho
  have HO := Lib.hid ho
  clear ho hb2''
  go_wp2_with fail
  refine HO.out.mono ?_
  rintro e w5 ⟨rfl, hB5⟩
  have hb3'' := hb3'.below hB5 hb3'.lt
  clear HO hb3'
  obtain ⟨f1, fB⟩ := one_lit w5 [1, 2, 0] 3 rfl (by omega)
  have e3 := SlI.of_blk (hb3''.below fB hb3''.lt) rfl (by decide : 3 ≤ 9223372036854775807)
  have hs := same_yes _ _ _ _ _ e3 f1 rfl
  have HS := Lib.hid hs
  have HFB := Lib.hid fB
  clear hs e3 f1 fB
  go_wp2_with fail
  refine HS.out.mono ?_
  rintro e w6 ⟨rfl, q6, rfl⟩
  go_wp2_with fail
  go_ret
  have s1 := hB1'.size
  have s2 := hB2'.size
  have s3 := hB3.size
  have s4 := hB4.size
  have s5 := hB5.size
  exact ⟨rfl, below_drewN' (((((hB1'.trans (hB2'.mono s1)).trans (hB3.mono (by omega))).trans (hB4.mono (by omega))).trans (hB5.mono (by omega))).trans (HFB.out.mono (by omega))) _⟩
end Go.Proofs.YtdpnmepplkiljaaDoor
