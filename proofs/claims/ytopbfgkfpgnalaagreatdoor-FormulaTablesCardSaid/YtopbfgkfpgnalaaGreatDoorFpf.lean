/-
  The products of the other term and one term.
-/
import Derived.Test.YtopbfgkfpgnalaaGreatDoorFpe
namespace Go.Proofs.YtopbfgkfpgnalaaGreatDoor
set_option linter.unusedVariables false
open Go.RowKit Go.Maps

set_option maxRecDepth 100000 in
set_option maxHeartbeats 8000000 in
theorem addProducts_1 (w0 w : World) (hB0 : Below w0.heap.size w0 w) (sb mb cnt hw gq hu : Nat) (D : DataW Unit) (ts : List Tm) (hS : SumAt w0.heap.size sb mb 2 1 2 2 cnt D w) (hT : Tells 2 (stN 2 1) (addN 2 1) ts D) (hcl : CoLt 2 ts) (hcnt : cnt ≤ 1000) (htl : ts.length ≤ 1000)
    (b1 : w.heap[hw]? = some (.cells #[.int .u64 281474976710656] 121 (0, 0))) (b2 : w.heap[gq]? = some (.cells #[.int .i64 1, .slice (some ⟨hu, 0, none⟩) 1 1] 283 (0, 0))) (b3 : w.heap[hu]? = some (.cells #[.int .u64 4294967296] 121 (0, 0))) :
    Calls Tryz.prog 247 #[.pointer (some ⟨sb, 0, none⟩), .agg #[.int .i64 1, .slice (some ⟨hw, 0, none⟩) 1 1], .slice (some ⟨gq, 0, none⟩) 1 1] w fun r w' => r = .returned (.tuple #[]) ∧ ∃ D', SumAt w0.heap.size sb mb 2 1 2 2 (cnt + 1) D' w' ∧ Tells 2 (stN 2 1) (addN 2 1) (ts ++ [(1, [1, 1])]) D' ∧ KeepS sb mb w w' ∧ Below w0.heap.size w w' := by
  obtain ⟨w1, hw1⟩ : ∃ w1, w1 = w.alloc (.cells #[.int .i64 1, .slice (some ⟨hw, 0, none⟩) 1 1] 283) := ⟨_, rfl⟩
  have hbl1 : Below w.heap.size w w1 := by rw [hw1]; exact below1 _ _
  have hb01 : Below w0.heap.size w0 w1 := hB0.trans (hbl1.mono hB0.size)
  have hS1 := hS.below hbl1
  have b4 : w1.heap[w.heap.size]? = some (.cells #[.int .i64 1, .slice (some ⟨hw, 0, none⟩) 1 1] 283 (0, 0)) := by rw [hw1]; exact alloc_at _ _ _ rfl
  have lt := fun {g : Nat} {o : Obj} (h : w.heap[g]? = some o) => (hbl1.block g (Array.getElem?_eq_some_iff.1 h).1).trans h
  have HPK := Lib.hid (fun W (hK : KeepS sb mb w1 W) => (show (W.cell? ⟨hw, 0, none⟩ = some (.int .u64 281474976710656) ∧ (W.cell? ⟨gq, 0, none⟩ = some (.int .i64 1) ∧ W.cell? ⟨gq, 1, none⟩ = some (.slice (some ⟨hu, 0, none⟩) 1 1)) ∧ W.cell? ⟨hu, 0, none⟩ = some (.int .u64 4294967296) ∧ W.cell? ⟨w.heap.size, 0, none⟩ = some (.int .i64 1) ∧ W.cell? ⟨w.heap.size, 1, none⟩ = some (.slice (some ⟨hw, 0, none⟩) 1 1)) from
    ⟨(pk_cells (hS1.keepO hK (lt b1) (by decide) (by decide)) 0 rfl).1, ⟨(pk_cells (hS1.keepO hK (lt b2) (by decide) (by decide)) 0 rfl).1, (pk_cells (hS1.keepO hK (lt b2) (by decide) (by decide)) 1 rfl).1⟩, (pk_cells (hS1.keepO hK (lt b3) (by decide) (by decide)) 0 rfl).1, (pk_cells (hS1.keepO hK b4 (by decide) (by decide)) 0 rfl).1, (pk_cells (hS1.keepO hK b4 (by decide) (by decide)) 1 rfl).1⟩))
  obtain ⟨KA, kl, kc, bs, d5, f5, hkv⟩ := hS1.key5
  obtain ⟨w2, hw2⟩ : ∃ w2, w2 = w1.setCell ⟨sb, 5, none⟩ (.slice KA 0 kc) := ⟨_, rfl⟩
  obtain ⟨hS2, hk2, hK2, he52, -⟩ := hS1.setKey hkv.zero
  have hbz : Below w0.heap.size w1 (w1.setCell ⟨sb, 5, none⟩ (.slice KA 0 kc)) := (Below.refl _ w1).setCell (p := ⟨sb, 5, none⟩) hS.ls _
  rw [← hw2] at hS2 hk2 hK2 hbz he52
  have HW2 := Lib.hid hw2
  obtain ⟨w3, hw3⟩ : ∃ w3, w3 = w2.alloc (.cells #[.int .i64 1, .slice (some ⟨hu, 0, none⟩) 1 1] 283) := ⟨_, rfl⟩
  have hbl3 : Below w2.heap.size w2 w3 := by rw [hw3]; exact below1 _ _
  have hS3 := hS2.below hbl3
  have hk3 := hk2.below hbl3
  have hK3 := hK2.trans (KeepS.of_below (sb := sb) (mb := mb) hbl3)
  have hb03 : Below w0.heap.size w0 w3 := (hb01.trans hbz).trans (hbl3.mono (hb01.trans hbz).size)
  have HWW3 : Hid (Below w0.heap.size w w3) := Lib.hid (((hbl1.mono hB0.size).trans hbz).trans (hbl3.mono (hb01.trans hbz).size))
  have HS3 := Lib.hid (And.intro hS3 (And.intro hk3 (And.intro hK3 hb03)))
  have HW3 := Lib.hid hw3
  have hu3 : w3.heap[w2.heap.size]? = some (.cells #[.int .i64 1, .slice (some ⟨hu, 0, none⟩) 1 1] 283 (0, 0)) := by rw [hw3]; exact alloc_at _ _ _ rfl
  have e53 : w3.cell? ⟨sb, 5, none⟩ = some (.slice KA 0 kc) := (hbl3.cell (World.block_lt_of_cell? w2 _ he52)).trans he52
  obtain ⟨u0, -⟩ := pk_cells hu3 0 rfl
  obtain ⟨u1, -⟩ := pk_cells hu3 1 rfl
  have HW1 := Lib.hid hw1
  have HB1 := Lib.hid (And.intro hbl1 hb01)
  have HADD := Lib.hid (fun W (hW : Below w0.heap.size w0 W) (hS : SumAt w0.heap.size sb mb 2 1 2 2 cnt D W) => add_ok w0 W hW sb mb 2 1 2 2 cnt al_f2 (by omega) D ts 1 1 (by omega) (by omega) [1, 1] ⟨rfl, by decide⟩ hS hT hcl (by omega) (by omega) (fun h => absurd rfl h))
  have HAW := Lib.hid (fun (l0 kc : Nat) (K0 : Option Addr) bs0 (hl0 : l0 ≤ 1000000000) W (hB : w0.heap.size ≤ W.heap.size) hK => (show Calls Tryz.prog 268 #[.slice K0 l0 kc, .int .u64 281479271677952] W _ from appendWord_ok w0.heap.size 1 (by omega) K0 l0 kc bs0 hl0 W hB hK))
  have HLS := Lib.hid hS.ls
  have HAW3 : Hid (Calls Tryz.prog 268 #[.slice KA 0 kc, .int .u64 281479271677952] w3.drew fun r w' => ∃ v, r = .returned v ∧ KeyV w0.heap.size w' v ([] ++ by8 1) ∧ KeepY w3.drew w' ∧ Below w0.heap.size w3.drew w') := Lib.hid (HAW.out 0 kc KA [] (by omega) w3.drew (show w0.heap.size ≤ w3.drew.heap.size from hb03.size) (hk3.below (Below.refl _ w3).drew))
  obtain ⟨p1, ⟨p2, p3⟩, p4, p5, p6⟩ := HPK.out _ hK2
  obtain ⟨q1, ⟨q2, q3⟩, q4, q5, q6⟩ := HPK.out _ hK3
  have uw1 : IntKind.u64.wrap 281479271677952 = 281479271677952 := by decide
  clear hS hT hcl hB0 hS1 hS2 hk2 hK2 hkv hbz hb01 hbl1 b1 b2 b3 b4 lt hw1 hw2 hw3 hbl3 hS3 hk3 hK3 hb03 hu3 he52
  go_enter Tryz.func247, Tryz.ntmps247
  go_upto_region 1 with fail
  rw [← HW1.out]
  go_upto_region 2 with fail
  rw [← HW2.out]
  go_wp2_with fail
  refine wp_loop_rounds 2 ?_
  rw [rounds_succ]
  go_upto_region 5 with fail
  rw [← HW3.out]
  go_wp2_with fail
  refine wp_loop_rounds 2 ?_
  rw [rounds_succ]
  go_wp2_with fail
  go_region_law (first
    | (go_simp; (with_reducible refine HAW3.out.mono ?_); rintro r w4 ⟨v4, rfl, hk4, hy4, hb4⟩; obtain ⟨A4, n4, c4, rfl, -, -⟩ := id hk4; obtain ⟨⟨x4, cx4, fx4⟩, hS5, hk5, hK5, cx5, hb5⟩ := (HS3.out.1.drew).reKey hy4 hb4 hk4))
  all_goals
    obtain ⟨w5, hw5⟩ : ∃ w5, w5 = w4.setCell ⟨sb, 5, none⟩ (.slice A4 n4 c4) := ⟨_, rfl⟩
    rw [← hw5] at hS5 hk5 hK5 cx5 hb5
    have HW5 := Lib.hid hw5
    have hK15 := HS3.out.2.2.1.trans ((KeepS.of_below (sb := sb) (mb := mb) ((Below.refl w3.heap.size w3).drew)).trans hK5)
    have hb15 : Below w0.heap.size w0 w5 := HS3.out.2.2.2.drew.trans hb5
    obtain ⟨r1, ⟨r2, r3⟩, r4, r5, r6⟩ := HPK.out _ hK15
    have hcv := (hk5.below ((Below.refl w5.heap.size w5).drew)).conv
    rw [List.nil_append] at hcv
    replace hcv : (convert 126 9 (.slice A4 n4 c4)).run Tryz.prog w5.drew = .ok (.string ⟨#[0, 1, 0, 1, 0, 0, 0, 0]⟩) w5.drew := hcv
    have HWW5 := Lib.hid (HWW3.out.drew.trans hb5)
    have HS5 := Lib.hid (And.intro hS5 (And.intro hK15 hb15))
    clear hS5 hk5 hK5 hb5 hK15 hb15 hw5 hk4 hy4 hb4 cx4 fx4
    go_wp2_with fail
    rw [← HW5.out]
    rw [rounds_succ]
    go_wp2_with fail
    rw [rounds_succ]
    go_wp2_with fail
    obtain ⟨w6, hw6⟩ : ∃ w6, w6 = (w5.alloc (.cells #[.int .i64 1, .slice (some ⟨hu, 0, none⟩) 1 1] 283)).drew := ⟨_, rfl⟩
    have hbl6 : Below w5.heap.size w5 w6 := by rw [hw6]; exact (below1 _ _).drew
    have hS6 := HS5.out.1.below hbl6
    have hK6 := HS5.out.2.1.trans (KeepS.of_below (sb := sb) (mb := mb) hbl6)
    have hb15s := HS5.out.2.2.size
    have hb6 : Below w0.heap.size w0 w6 := HS5.out.2.2.trans (hbl6.mono HS5.out.2.2.size)
    have hu6 : w6.heap[w5.heap.size]? = some (.cells #[.int .i64 1, .slice (some ⟨hu, 0, none⟩) 1 1] 283 (0, 0)) := by rw [hw6]; exact alloc_at _ _ _ rfl
    obtain ⟨v0, -⟩ := pk_cells hu6 0 rfl
    obtain ⟨t1, ⟨t2, t3⟩, t4, t5, t6⟩ := HPK.out _ hK6
    obtain ⟨-, s0, s1, s2, s3⟩ := hS6.cells
    have iw0 : IntKind.i64.wrap 0 = 0 := by decide
    have iw4 : IntKind.i64.wrap 4 = 4 := by decide
    have HADD6 : Hid (Calls Tryz.prog 217 #[.pointer (some ⟨sb, 0, none⟩), .int .i64 1, .int .i64 1, .string ((ByteArray.mk #[0, 1, 0, 1, 0, 0, 0, 0]).extract 0 4)] w6.drew fun r w' => r = .returned (.tuple #[]) ∧ ∃ D', SumAt w0.heap.size sb mb 2 1 2 2 (cnt + 1) D' w' ∧ Tells 2 (stN 2 1) (addN 2 1) (ts ++ [(1, [1, 1])]) D' ∧ Only (fun g => g = mb) w6.drew w') := Lib.hid (by
      have h := HADD.out w6.drew hb6.drew hS6.drew
      rw [← key_cut1] at h
      exact h)
    have HWW6 := Lib.hid (HWW5.out.trans (hbl6.mono hb15s))
    have HW6 := Lib.hid hw6
    have HS6 := Lib.hid (And.intro hK6 hb6)
    clear hw6 hbl6 hS6 hK6 hb6 hu6
    simp at s0 s1 s2 s3
    go_region
    go_wp2_with fail
    refine wp_loop_rounds 2 ?_
    rw [rounds_succ]
    go_upto_region 15 with fail
    rw [← HW6.out]
    go_region_law (first
      | (go_simp; (with_reducible refine HADD6.out.mono ?_); rintro r w7 ⟨rfl, D', hS7, hT7, hO7⟩))
    all_goals
      have HF := Lib.hid (And.intro hS7 (And.intro hT7 (And.intro (((KeepS.of_below (sb := sb) (mb := mb) HB1.out.1).trans HS6.out.1).trans ((KeepS.of_below (sb := sb) (mb := mb) ((Below.refl w6.heap.size w6).drew)).trans (Only.keepS (hO7.mono fun g e => .inr e)))) (HWW6.out.drew.trans (hO7.below HS6.out.2.drew.size fun g e => by have e' : g = mb := e; rw [e']; exact hS7.lm)))))
      clear hS7 hT7 hO7
      go_wp2_with fail
      rw [rounds_succ]
      go_wp2_with fail
      go_end0
      exact ⟨rfl, D', HF.out⟩
end Go.Proofs.YtopbfgkfpgnalaaGreatDoor
