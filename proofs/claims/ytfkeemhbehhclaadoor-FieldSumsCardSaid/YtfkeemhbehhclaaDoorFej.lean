/-
  The sum of the powers of the roots of unity, and the roots: the law FieldSums's walk.
-/
import Derived.Test.YtfkeemhbehhclaaDoorFeh
import Derived.Test.YtfkeemhbehhclaaDoorFek
namespace Go.Proofs.YtfkeemhbehhclaaDoor
open Go.RowKit

theorem rd1' (w : World) (a : Int) : RdI (w.alloc (.cells #[.int .i64 a] 3)) (some ⟨w.heap.size, 0, none⟩) [a] := by
  intro k x hx
  refine ⟨_, rfl, ?_⟩
  match k, hx with
  | 0, hx => cases hx; simp [Addr.add]
theorem Fld.found_iff {P M q n r x : Nat} (h : Fld P M q) (hn : 0 < n) (hd : (q - 1) % n = 0) (hr : RootOf P M q n r) (hx0 : 0 < x) (hx : x < q) : powN P M x n = 1 ↔ ∃ j, j < n ∧ np (mulN P M) r j = x := by
  have hm := h.rng.toMon
  have hq2 := h.q_ge
  rw [h.pow_eq hx]
  constructor
  · intro hxn
    obtain ⟨g, hg0, hg, hg2⟩ := h.prim
    have ho := ord_of_primes hm hg (by omega) (h.fl.fermat hg0 hg) hg2
    obtain ⟨c, hc⟩ := Nat.dvd_of_mod_eq_zero hd
    exact roots_are h.fl hg0 hg ho hn (by rw [hc, Nat.mul_comm]) hr.1 hr.2.1 hr.2.2.1 hx0 hx hxn
  · rintro ⟨j, _, rfl⟩
    rw [hm.np_mul hr.2.1, Nat.mul_comm, ← hm.np_mul hr.2.1, hr.2.2.1.1, hm.np_ones]

set_option maxRecDepth 100000 in
set_option maxHeartbeats 4000000 in
theorem fs_a1 (P M n y x : Int) (hn : n < 1) (w : World) (hL : Lays w) :
    Calls Tryd.prog 9 #[.agg #[.int .i64 P, .int .i64 M], .int .i64 n, .int .i64 y, .int .i64 x] w fun e w' => e = .returned (.bool true) ∧ Below w.heap.size w w' := by
  have hst : ∀ o, St2 w P M ((w.alloc (.cells #[.int .i64 P, .int .i64 M] 23)).alloc o) := fun o => ⟨below2 w _ _, hL.below (below2 w _ _), (fAt_new w P M).below (below1 _ _)⟩
  have hst1 : St2 w P M (w.alloc (.cells #[.int .i64 P, .int .i64 M] 23)) := ⟨below1 w _, hL.below (below1 w _), fAt_new w P M⟩
  have HST := Lib.hid hst
  have HS1 := Lib.hid hst1
  obtain ⟨c0, c1⟩ := hst1.cells
  clear hL hst hst1
  go_enter Tryd.func9, Tryd.ntmps9
  go_wp2_with fail
  refine (alive_any _ HS1.out.lays).mono ?_
  rintro e w2 ⟨rfl, hB⟩
  have HS2 := Lib.hid (HS1.out.step hB)
  clear hB c0 c1
  go_wp2_with fail
  go_ret
  exact ⟨rfl, HS2.out.bel⟩
set_option maxRecDepth 100000 in
set_option maxHeartbeats 4000000 in
theorem fs_a2 (P M n y x : Int) (hn0 : 1 ≤ n) (hn : 3000 < n) (w : World) (hL : Lays w) :
    Calls Tryd.prog 9 #[.agg #[.int .i64 P, .int .i64 M], .int .i64 n, .int .i64 y, .int .i64 x] w fun e w' => e = .returned (.bool true) ∧ Below w.heap.size w w' := by
  have hst : ∀ o, St2 w P M ((w.alloc (.cells #[.int .i64 P, .int .i64 M] 23)).alloc o) := fun o => ⟨below2 w _ _, hL.below (below2 w _ _), (fAt_new w P M).below (below1 _ _)⟩
  have hst1 : St2 w P M (w.alloc (.cells #[.int .i64 P, .int .i64 M] 23)) := ⟨below1 w _, hL.below (below1 w _), fAt_new w P M⟩
  have HST := Lib.hid hst
  have HS1 := Lib.hid hst1
  obtain ⟨c0, c1⟩ := hst1.cells
  clear hL hst hst1
  go_enter Tryd.func9, Tryd.ntmps9
  go_wp2_with fail
  refine (alive_any _ HS1.out.lays).mono ?_
  rintro e w2 ⟨rfl, hB⟩
  have HS2 := Lib.hid (HS1.out.step hB)
  clear hB c0 c1
  go_wp2_with fail
  go_ret
  exact ⟨rfl, HS2.out.bel⟩
set_option maxRecDepth 100000 in
set_option maxHeartbeats 4000000 in
theorem fs_a3 (P M n y x : Int) (hn0 : 1 ≤ n) (hn1 : n ≤ 3000) (he : y < 0) (w : World) (hL : Lays w) :
    Calls Tryd.prog 9 #[.agg #[.int .i64 P, .int .i64 M], .int .i64 n, .int .i64 y, .int .i64 x] w fun e w' => e = .returned (.bool true) ∧ Below w.heap.size w w' := by
  have hst : ∀ o, St2 w P M ((w.alloc (.cells #[.int .i64 P, .int .i64 M] 23)).alloc o) := fun o => ⟨below2 w _ _, hL.below (below2 w _ _), (fAt_new w P M).below (below1 _ _)⟩
  have hst1 : St2 w P M (w.alloc (.cells #[.int .i64 P, .int .i64 M] 23)) := ⟨below1 w _, hL.below (below1 w _), fAt_new w P M⟩
  have HST := Lib.hid hst
  have HS1 := Lib.hid hst1
  obtain ⟨c0, c1⟩ := hst1.cells
  clear hL hst hst1
  go_enter Tryd.func9, Tryd.ntmps9
  go_wp2_with fail
  refine (alive_any _ HS1.out.lays).mono ?_
  rintro e w2 ⟨rfl, hB⟩
  have HS2 := Lib.hid (HS1.out.step hB)
  clear hB c0 c1
  go_wp2_with fail
  go_ret
  exact ⟨rfl, HS2.out.bel⟩
set_option maxRecDepth 100000 in
set_option maxHeartbeats 4000000 in
theorem fs_form (P M n y x : Int) (hn0 : 1 ≤ n) (hn1 : n ≤ 3000) (he : 0 ≤ y) (h : ¬ OkF P M) (w : World) (hL : Lays w) :
    Calls Tryd.prog 9 #[.agg #[.int .i64 P, .int .i64 M], .int .i64 n, .int .i64 y, .int .i64 x] w fun e w' => e = .returned (.bool true) ∧ Below w.heap.size w w' := by
  have H := Lib.hid h
  clear h
  have hst : ∀ o, St2 w P M ((w.alloc (.cells #[.int .i64 P, .int .i64 M] 23)).alloc o) := fun o => ⟨below2 w _ _, hL.below (below2 w _ _), (fAt_new w P M).below (below1 _ _)⟩
  have hst1 : St2 w P M (w.alloc (.cells #[.int .i64 P, .int .i64 M] 23)) := ⟨below1 w _, hL.below (below1 w _), fAt_new w P M⟩
  have HST := Lib.hid hst
  have HS1 := Lib.hid hst1
  obtain ⟨c0, c1⟩ := hst1.cells
  clear hL hst hst1
  go_enter Tryd.func9, Tryd.ntmps9
  go_wp2_with fail
  refine (elem_form P M H.out _ _ (HST.out _).lays).mono ?_
  rintro e w2 ⟨rfl, hB⟩
  have HS2 := Lib.hid ((HST.out _).step hB)
  clear hB c0 c1
  obtain ⟨c0, c1⟩ := HS2.out.cells
  go_wp2_with fail
  refine (alive_any _ HS2.out.lays).mono ?_
  rintro e w3 ⟨rfl, hB⟩
  have HS3 := Lib.hid (HS2.out.step hB)
  clear hB c0 c1
  obtain ⟨c0, c1⟩ := HS3.out.cells
  try unfold Ret2
  go_wp2_with fail
  go_ret
  exact ⟨rfl, HS3.out.bel⟩
set_option maxRecDepth 100000 in
set_option maxHeartbeats 4000000 in
theorem fs_not (P M q : Nat) (h : Fld P M q) (n y x : Int) (hn0 : 1 ≤ n) (hn1 : n ≤ 3000) (he : 0 ≤ y) (hn : ¬ InQ q x) (w : World) (hL : Lays w) :
    Calls Tryd.prog 9 #[.agg #[.int .i64 (P : Int), .int .i64 (M : Int)], .int .i64 n, .int .i64 y, .int .i64 x] w fun e w' => e = .returned (.bool true) ∧ Below w.heap.size w w' := by
  have H := Lib.hid h
  have HN := Lib.hid hn
  clear h hn
  have hst : ∀ o, St2 w (P : Int) (M : Int) ((w.alloc (.cells #[.int .i64 (P : Int), .int .i64 (M : Int)] 23)).alloc o) := fun o => ⟨below2 w _ _, hL.below (below2 w _ _), (fAt_new w (P : Int) (M : Int)).below (below1 _ _)⟩
  have hst1 : St2 w (P : Int) (M : Int) (w.alloc (.cells #[.int .i64 (P : Int), .int .i64 (M : Int)] 23)) := ⟨below1 w _, hL.below (below1 w _), fAt_new w (P : Int) (M : Int)⟩
  have HST := Lib.hid hst
  have HS1 := Lib.hid hst1
  obtain ⟨c0, c1⟩ := hst1.cells
  clear hL hst hst1
  go_enter Tryd.func9, Tryd.ntmps9
  go_wp2_with fail
  refine (elem_any P M q H.out (some ⟨w.heap.size + 1, 0, none⟩) [x] 1 1 rfl (by omega) _ (HST.out _).lays (rd1 w _ _)).mono ?_
  rintro e w2 ⟨hB, ⟨hE, rfl⟩ | ⟨hE, rfl⟩⟩
  case inl => exact absurd (one_inq hE) HN.out
  have HS2 := Lib.hid ((HST.out _).step hB)
  clear hB c0 c1 hE
  obtain ⟨c0, c1⟩ := HS2.out.cells
  go_wp2_with fail
  refine (alive_any _ HS2.out.lays).mono ?_
  rintro e w3 ⟨rfl, hB⟩
  have HS3 := Lib.hid (HS2.out.step hB)
  clear hB c0 c1
  obtain ⟨c0, c1⟩ := HS3.out.cells
  try unfold Ret2
  go_wp2_with fail
  go_ret
  exact ⟨rfl, HS3.out.bel⟩
set_option maxRecDepth 100000 in
set_option maxHeartbeats 4000000 in
theorem fs_zero (P M q : Nat) (h : Fld P M q) (n y : Int) (hn0 : 1 ≤ n) (hn1 : n ≤ 3000) (he : 0 ≤ y) (w : World) (hL : Lays w) :
    Calls Tryd.prog 9 #[.agg #[.int .i64 (P : Int), .int .i64 (M : Int)], .int .i64 n, .int .i64 y, .int .i64 0] w fun e w' => e = .returned (.bool true) ∧ Below w.heap.size w w' := by
  have H := Lib.hid h
  have hx : 0 < q := by have := h.q_ge; omega
  clear h
  have hst : ∀ o, St2 w (P : Int) (M : Int) ((w.alloc (.cells #[.int .i64 (P : Int), .int .i64 (M : Int)] 23)).alloc o) := fun o => ⟨below2 w _ _, hL.below (below2 w _ _), (fAt_new w (P : Int) (M : Int)).below (below1 _ _)⟩
  have hst1 : St2 w (P : Int) (M : Int) (w.alloc (.cells #[.int .i64 (P : Int), .int .i64 (M : Int)] 23)) := ⟨below1 w _, hL.below (below1 w _), fAt_new w (P : Int) (M : Int)⟩
  have HST := Lib.hid hst
  have HS1 := Lib.hid hst1
  obtain ⟨c0, c1⟩ := hst1.cells
  clear hL hst hst1
  go_enter Tryd.func9, Tryd.ntmps9
  go_wp2_with fail
  refine (elem_any P M q H.out (some ⟨w.heap.size + 1, 0, none⟩) [((0 : Nat) : Int)] 1 1 rfl (by omega) _ (HST.out _).lays (rd1 w _ _)).mono ?_
  rintro e w2 ⟨hB, ⟨hE, rfl⟩ | ⟨hE, rfl⟩⟩
  case inr => exact absurd (inq_of hx) (one_not hE)
  have HS2 := Lib.hid ((HST.out _).step hB)
  clear hB c0 c1 hE
  obtain ⟨c0, c1⟩ := HS2.out.cells
  go_wp2_with fail
  refine (alive_any _ HS2.out.lays).mono ?_
  rintro e w3 ⟨rfl, hB⟩
  have HS3 := Lib.hid (HS2.out.step hB)
  clear hB c0 c1
  obtain ⟨c0, c1⟩ := HS3.out.cells
  try unfold Ret2
  go_wp2_with fail
  go_ret
  exact ⟨rfl, HS3.out.bel⟩
set_option maxRecDepth 100000 in
set_option maxHeartbeats 4000000 in
theorem fs_nd (P M q : Nat) (h : Fld P M q) (n y : Int) (x : Nat) (hn0 : 1 ≤ n) (hn1 : n ≤ 3000) (he : 0 ≤ y) (he2 : y ≤ 9223372036854775807) (hx0 : 0 < x) (hx : x < q) (hd : ¬ ((q : Int) - 1) % n = 0) (w : World) (hL : Lays w) :
    Calls Tryd.prog 9 #[.agg #[.int .i64 (P : Int), .int .i64 (M : Int)], .int .i64 n, .int .i64 y, .int .i64 (x : Int)] w fun e w' => e = .returned (.bool true) ∧ Below w.heap.size w w' := by
  have H := Lib.hid h
  have hq2 := h.q_ge
  have hq3 := h.q_le
  have e3 : (((q : Int) - 1) % n != 0) = true := by simpa using hd
  have e0 : ((x : Int) == 0) = false := by rw [beq_eq_false_iff_ne]; omega
  have HD := Lib.hid hd
  clear h hd
  have hst : ∀ o, St2 w (P : Int) (M : Int) ((w.alloc (.cells #[.int .i64 (P : Int), .int .i64 (M : Int)] 23)).alloc o) := fun o => ⟨below2 w _ _, hL.below (below2 w _ _), (fAt_new w (P : Int) (M : Int)).below (below1 _ _)⟩
  have hst1 : St2 w (P : Int) (M : Int) (w.alloc (.cells #[.int .i64 (P : Int), .int .i64 (M : Int)] 23)) := ⟨below1 w _, hL.below (below1 w _), fAt_new w (P : Int) (M : Int)⟩
  have HST := Lib.hid hst
  have HS1 := Lib.hid hst1
  obtain ⟨c0, c1⟩ := hst1.cells
  clear hL hst hst1
  go_enter Tryd.func9, Tryd.ntmps9
  go_wp2_with fail
  refine (elem_any P M q H.out (some ⟨w.heap.size + 1, 0, none⟩) [(x : Int)] 1 1 rfl (by omega) _ (HST.out _).lays (rd1 w _ _)).mono ?_
  rintro e w2 ⟨hB, ⟨hE, rfl⟩ | ⟨hE, rfl⟩⟩
  case inr => exact absurd (inq_of hx) (one_not hE)
  have HS2 := Lib.hid ((HST.out _).step hB)
  clear hB c0 c1 hE
  obtain ⟨c0, c1⟩ := HS2.out.cells
  go_wp2_with fail
  refine (root_bad P M q H.out n (.inr HD.out) 6 (if_neg (by omega)).symm _ HS2.out.lays).mono ?_
  rintro e w3 ⟨rfl, hB⟩
  have HS3 := Lib.hid (HS2.out.step hB)
  clear hB c0 c1
  obtain ⟨c0, c1⟩ := HS3.out.cells
  try unfold Ret2
  go_wp2_with fail
  refine (sum_bad P M q H.out n (.inr HD.out) 6 (if_neg (by omega)).symm y he he2 _ HS3.out.lays).mono ?_
  rintro e w4 ⟨rfl, hB⟩
  have HS4 := Lib.hid (HS3.out.step hB)
  clear hB c0 c1
  obtain ⟨c0, c1⟩ := HS4.out.cells
  try unfold Ret2
  go_wp2_with fail
  refine (lo H.out _ HS4.out.lays).mono ?_
  rintro e w5 ⟨rfl, hB⟩
  have HS5 := Lib.hid (HS4.out.step hB)
  clear hB c0 c1
  obtain ⟨c0, c1⟩ := HS5.out.cells
  try unfold Ret2
  go_wp2_with fail
  refine (alive_any _ HS5.out.lays).mono ?_
  rintro e w6 ⟨rfl, hB⟩
  have HS6 := Lib.hid (HS5.out.step hB)
  clear hB c0 c1
  obtain ⟨c0, c1⟩ := HS6.out.cells
  try unfold Ret2
  go_wp2_with fail
  go_ret
  exact ⟨rfl, HS6.out.bel⟩
theorem St2.hidn {w0 w : World} {P M : Int} (h : St2 w0 P M w) : Hid (St2 w0 P M w) := h
theorem la1 {P M q : Nat} (hf : Fld P M q) {x z : Nat} (hx : x < q) (h : addN P M x 1 = z) (w : World) (hL : Lays w) :
    Calls Tryd.prog 35 #[.agg #[.int .i64 (P : Int), .int .i64 (M : Int)], .int .i64 x, .int .i64 1] w fun e w' => e = .returned (.int .i64 z) ∧ Below w.heap.size w w' :=
  la hf hx (by have := hf.q_ge; omega : 1 < q) h w hL
set_option maxRecDepth 100000 in
set_option maxHeartbeats 4000000 in
theorem fs_main (P M q : Nat) (h : Fld P M q) (n y x : Nat) (hn0 : 1 ≤ n) (hn1 : n ≤ 3000) (hy : y < 9223372036854775808) (hx0 : 0 < x) (hx : x < q) (hd : (q - 1) % n = 0) (w : World) (hL : Lays w) :
    Calls Tryd.prog 9 #[.agg #[.int .i64 (P : Int), .int .i64 (M : Int)], .int .i64 (n : Int), .int .i64 (y : Int), .int .i64 (x : Int)] w fun e w' => e = .returned (.bool true) ∧ Below w.heap.size w w' := by
  have H := Lib.hid h
  have hq2 := h.q_ge
  have hq3 := h.q_le
  have hone : 1 < q := by omega
  have e0 : ((x : Int) == 0) = false := by rw [beq_eq_false_iff_ne]; omega
  obtain ⟨r, hr⟩ := h.root_ex (n := n) (by omega) hd
  obtain ⟨p, hp⟩ : ∃ p, powN P M x n = p := ⟨_, rfl⟩
  have hrq := hr.2.1
  have HR := Lib.hid hr
  have HD := Lib.hid hd
  have HP := Lib.hid hp
  clear h hd hr hp
  have hst : ∀ o, St2 w (P : Int) (M : Int) ((w.alloc (.cells #[.int .i64 (P : Int), .int .i64 (M : Int)] 23)).alloc o) := fun o => ⟨below2 w _ _, hL.below (below2 w _ _), (fAt_new w (P : Int) (M : Int)).below (below1 _ _)⟩
  have hst1 : St2 w (P : Int) (M : Int) (w.alloc (.cells #[.int .i64 (P : Int), .int .i64 (M : Int)] 23)) := ⟨below1 w _, hL.below (below1 w _), fAt_new w (P : Int) (M : Int)⟩
  have HST := Lib.hid hst
  have HS1 := Lib.hid hst1
  obtain ⟨c0, c1⟩ := hst1.cells
  clear hL hst hst1
  go_enter Tryd.func9, Tryd.ntmps9
  go_wp2_with fail
  refine (elem_any P M q H.out (some ⟨w.heap.size + 1, 0, none⟩) [(x : Int)] 1 1 rfl (by omega) _ (HST.out _).lays (rd1 w _ _)).mono ?_
  rintro e w2 ⟨hB, ⟨hE, rfl⟩ | ⟨hE, rfl⟩⟩
  case inr => exact absurd (inq_of hx) (one_not hE)
  have HS2 := Lib.hid ((HST.out _).step hB)
  clear hB c0 c1 hE
  obtain ⟨c0, c1⟩ := HS2.out.cells
  go_wp2_with fail
  refine (root_is P M q n r H.out hn0 HD.out HR.out _ HS2.out.lays).mono ?_
  rintro e w3 ⟨rfl, hB⟩
  have HS3 := Lib.hid (HS2.out.step hB)
  clear hB c0 c1
  obtain ⟨c0, c1⟩ := HS3.out.cells
  try unfold Ret2
  go_wp2_with fail
  refine (sum_is P M q n y H.out hn0 HD.out hy _ HS3.out.lays).mono ?_
  rintro e w4 ⟨rfl, hB⟩
  have HS4 := Lib.hid (HS3.out.step hB)
  clear hB c0 c1
  obtain ⟨c0, c1⟩ := HS4.out.cells
  try unfold Ret2
  go_wp2_with fail
  refine (lp H.out hx (by omega) HP.out _ HS4.out.lays).mono ?_
  rintro e w5 ⟨rfl, hB⟩
  have HS5 := Lib.hid (HS4.out.step hB)
  clear hB c0 c1
  obtain ⟨c0, c1⟩ := HS5.out.cells
  try unfold Ret2
  go_wp2_with fail
  go_loopw [15, 16, 17, 18] (fun f v u i wr => ∃ (fd : Bool) (z o j : Nat), z < q ∧ o < q ∧ j ≤ n ∧ f = .bool fd ∧ v = .int .i64 z ∧ u = .int .i64 o ∧ i = .int .i64 j ∧ Hid (fd = true ↔ ∃ t, t < j ∧ np (mulN P M) r t = x) ∧ Hid (z = np (mulN P M) r j) ∧ Hid (o = nsum (addN P M) (fun _ => 1) j) ∧ Hid (St2 w (P : Int) (M : Int) wr)) (fun _ _ _ i _ => n - (intOf i).toNat)
  case atStart => exact ⟨false, 1, 0, 0, by omega, by omega, by omega, rfl, rfl, rfl, rfl, ⟨(fun h => by cases h), fun ⟨t, h, _⟩ => by omega⟩, rfl, rfl, HS5⟩
  case round =>
    clear c0 c1
    obtain ⟨fd, z, o, j, hz, ho, hj, rfl, rfl, rfl, rfl, HFD, HZ, HO, HSr⟩ := hrel
    obtain ⟨c0, c1⟩ := HSr.out.cells
    by_cases hlt : j < n
    · obtain ⟨z2, hz2⟩ : ∃ z2, mulN P M z r = z2 := ⟨_, rfl⟩
      obtain ⟨o2, ho2⟩ : ∃ o2, addN P M o 1 = o2 := ⟨_, rfl⟩
      have hz2q : z2 < q := by rw [← hz2]; exact H.out.mulN_lt hz
      have ho2q : o2 < q := by rw [← ho2]; exact H.out.addN_lt ho hone
      have HZ2 := Lib.hid hz2
      have HO2 := Lib.hid ho2
      have HZN : Hid (z2 = np (mulN P M) r (j + 1)) := by show _ = mulN P M _ _; rw [← HZ.out]; exact hz2.symm
      have HON : Hid (o2 = nsum (addN P M) (fun _ => 1) (j + 1)) := by show _ = addN P M (nsum (addN P M) _ j) 1; rw [← HO.out]; exact ho2.symm
      have hz1 : 0 < j → z ≠ 1 := fun h0 => by rw [HZ.out]; exact HR.out.2.2.1.2 j h0 hlt
      have st : St2 w (P : Int) (M : Int) wr.drew := HSr.out.drew
      clear hz2 ho2
      obtain ⟨fd2, hfd2⟩ : ∃ fd2 : Bool, fd2 = (fd || decide (z = x)) := ⟨_, rfl⟩
      have HFN : Hid (fd2 = true ↔ ∃ t, t < j + 1 ∧ np (mulN P M) r t = x) := by
        show _ ↔ _
        rw [hfd2, Bool.or_eq_true, decide_eq_true_eq, HFD.out, HZ.out]
        constructor
        · rintro (⟨t, h1, h2⟩ | h)
          · exact ⟨t, by omega, h2⟩
          · exact ⟨j, by omega, h⟩
        · rintro ⟨t, h1, h2⟩
          by_cases ht : t = j
          · subst ht; exact .inr h2
          · exact .inl ⟨t, by omega, h2⟩
      by_cases hj0 : 0 < j
      · have hz1' := hz1 hj0
        clear hz1
        cases fd
        · by_cases hzx : z = x
          · have hf2 : fd2 = true := by rw [hfd2]; simp [hzx]
            have ez : ((z : Int) == (x : Int)) = true := by rw [hzx]; simp
            clear hfd2 hzx
            subst hf2
            go_wp2_with fail
            obtain ⟨z0, z1⟩ := st.cells
            go_region_held3 (fun w' => St2 w (P : Int) (M : Int) w' ∧ w'.cell? ⟨w.heap.size, 0, none⟩ = some (.int .i64 (P : Int)) ∧ w'.cell? ⟨w.heap.size, 1, none⟩ = some (.int .i64 (M : Int)))
              (first | (refine ⟨?_, ?_, ?_⟩ <;> assumption))
              (first
                | (go_at_call 36; (with_reducible refine (lm H.out hz hrq HZ2.out _ (St2.lays (by assumption))).mono ?_); rintro e wx ⟨rfl, hBx⟩; have sx := St2.step (by assumption) hBx; obtain ⟨y0, y1⟩ := sx.cells; clear hBx)
                | (go_at_call 35; (with_reducible refine (la1 H.out ho HO2.out _ (St2.lays (by assumption))).mono ?_); rintro e wx ⟨rfl, hBx⟩; have sx := St2.step (by assumption) hBx; obtain ⟨y0, y1⟩ := sx.cells; clear hBx))
            all_goals
              clear c0 c1 z0 z1
              go_wp2_with fail
              go_roundw
              case rel => exact ⟨_, z2, o2, j + 1, hz2q, ho2q, by omega, rfl, rfl, rfl, by go_num, (by show _ ↔ _; have h := HFN.out; simpa using h), HZN, HON, St2.hidn (by assumption)⟩
              case measure => simp [intOf]; omega
          · have hf2 : fd2 = false := by rw [hfd2]; simp [hzx]
            have ez : ((z : Int) == (x : Int)) = false := by rw [beq_eq_false_iff_ne]; omega
            clear hfd2 hzx
            subst hf2
            go_wp2_with fail
            obtain ⟨z0, z1⟩ := st.cells
            go_region_held3 (fun w' => St2 w (P : Int) (M : Int) w' ∧ w'.cell? ⟨w.heap.size, 0, none⟩ = some (.int .i64 (P : Int)) ∧ w'.cell? ⟨w.heap.size, 1, none⟩ = some (.int .i64 (M : Int)))
              (first | (refine ⟨?_, ?_, ?_⟩ <;> assumption))
              (first
                | (go_at_call 36; (with_reducible refine (lm H.out hz hrq HZ2.out _ (St2.lays (by assumption))).mono ?_); rintro e wx ⟨rfl, hBx⟩; have sx := St2.step (by assumption) hBx; obtain ⟨y0, y1⟩ := sx.cells; clear hBx)
                | (go_at_call 35; (with_reducible refine (la1 H.out ho HO2.out _ (St2.lays (by assumption))).mono ?_); rintro e wx ⟨rfl, hBx⟩; have sx := St2.step (by assumption) hBx; obtain ⟨y0, y1⟩ := sx.cells; clear hBx))
            all_goals
              clear c0 c1 z0 z1
              go_wp2_with fail
              go_roundw
              case rel => exact ⟨_, z2, o2, j + 1, hz2q, ho2q, by omega, rfl, rfl, rfl, by go_num, (by show _ ↔ _; have h := HFN.out; simpa using h), HZN, HON, St2.hidn (by assumption)⟩
              case measure => simp [intOf]; omega
        · have hf2 : fd2 = true := by rw [hfd2]; rfl
          clear hfd2
          subst hf2
          go_wp2_with fail
          obtain ⟨z0, z1⟩ := st.cells
          go_region_held3 (fun w' => St2 w (P : Int) (M : Int) w' ∧ w'.cell? ⟨w.heap.size, 0, none⟩ = some (.int .i64 (P : Int)) ∧ w'.cell? ⟨w.heap.size, 1, none⟩ = some (.int .i64 (M : Int)))
            (first | (refine ⟨?_, ?_, ?_⟩ <;> assumption))
            (first
              | (go_at_call 36; (with_reducible refine (lm H.out hz hrq HZ2.out _ (St2.lays (by assumption))).mono ?_); rintro e wx ⟨rfl, hBx⟩; have sx := St2.step (by assumption) hBx; obtain ⟨y0, y1⟩ := sx.cells; clear hBx)
              | (go_at_call 35; (with_reducible refine (la1 H.out ho HO2.out _ (St2.lays (by assumption))).mono ?_); rintro e wx ⟨rfl, hBx⟩; have sx := St2.step (by assumption) hBx; obtain ⟨y0, y1⟩ := sx.cells; clear hBx))
          all_goals
            clear c0 c1 z0 z1
            go_wp2_with fail
            go_roundw
            case rel => exact ⟨_, z2, o2, j + 1, hz2q, ho2q, by omega, rfl, rfl, rfl, by go_num, (by show _ ↔ _; have h := HFN.out; simpa using h), HZN, HON, St2.hidn (by assumption)⟩
            case measure => simp [intOf]; omega
      · have hj00 : j = 0 := by omega
        clear hz1
        cases fd
        · by_cases hzx : z = x
          · have hf2 : fd2 = true := by rw [hfd2]; simp [hzx]
            have ez : ((z : Int) == (x : Int)) = true := by rw [hzx]; simp
            clear hfd2 hzx
            subst hf2
            go_wp2_with fail
            obtain ⟨z0, z1⟩ := st.cells
            go_region_held3 (fun w' => St2 w (P : Int) (M : Int) w' ∧ w'.cell? ⟨w.heap.size, 0, none⟩ = some (.int .i64 (P : Int)) ∧ w'.cell? ⟨w.heap.size, 1, none⟩ = some (.int .i64 (M : Int)))
              (first | (refine ⟨?_, ?_, ?_⟩ <;> assumption))
              (first
                | (go_at_call 36; (with_reducible refine (lm H.out hz hrq HZ2.out _ (St2.lays (by assumption))).mono ?_); rintro e wx ⟨rfl, hBx⟩; have sx := St2.step (by assumption) hBx; obtain ⟨y0, y1⟩ := sx.cells; clear hBx)
                | (go_at_call 35; (with_reducible refine (la1 H.out ho HO2.out _ (St2.lays (by assumption))).mono ?_); rintro e wx ⟨rfl, hBx⟩; have sx := St2.step (by assumption) hBx; obtain ⟨y0, y1⟩ := sx.cells; clear hBx))
            all_goals
              clear c0 c1 z0 z1
              go_wp2_with fail
              go_roundw
              case rel => exact ⟨_, z2, o2, j + 1, hz2q, ho2q, by omega, rfl, rfl, rfl, by go_num, (by show _ ↔ _; have h := HFN.out; simpa using h), HZN, HON, St2.hidn (by assumption)⟩
              case measure => simp [intOf]; omega
          · have hf2 : fd2 = false := by rw [hfd2]; simp [hzx]
            have ez : ((z : Int) == (x : Int)) = false := by rw [beq_eq_false_iff_ne]; omega
            clear hfd2 hzx
            subst hf2
            go_wp2_with fail
            obtain ⟨z0, z1⟩ := st.cells
            go_region_held3 (fun w' => St2 w (P : Int) (M : Int) w' ∧ w'.cell? ⟨w.heap.size, 0, none⟩ = some (.int .i64 (P : Int)) ∧ w'.cell? ⟨w.heap.size, 1, none⟩ = some (.int .i64 (M : Int)))
              (first | (refine ⟨?_, ?_, ?_⟩ <;> assumption))
              (first
                | (go_at_call 36; (with_reducible refine (lm H.out hz hrq HZ2.out _ (St2.lays (by assumption))).mono ?_); rintro e wx ⟨rfl, hBx⟩; have sx := St2.step (by assumption) hBx; obtain ⟨y0, y1⟩ := sx.cells; clear hBx)
                | (go_at_call 35; (with_reducible refine (la1 H.out ho HO2.out _ (St2.lays (by assumption))).mono ?_); rintro e wx ⟨rfl, hBx⟩; have sx := St2.step (by assumption) hBx; obtain ⟨y0, y1⟩ := sx.cells; clear hBx))
            all_goals
              clear c0 c1 z0 z1
              go_wp2_with fail
              go_roundw
              case rel => exact ⟨_, z2, o2, j + 1, hz2q, ho2q, by omega, rfl, rfl, rfl, by go_num, (by show _ ↔ _; have h := HFN.out; simpa using h), HZN, HON, St2.hidn (by assumption)⟩
              case measure => simp [intOf]; omega
        · have hf2 : fd2 = true := by rw [hfd2]; rfl
          clear hfd2
          subst hf2
          go_wp2_with fail
          obtain ⟨z0, z1⟩ := st.cells
          go_region_held3 (fun w' => St2 w (P : Int) (M : Int) w' ∧ w'.cell? ⟨w.heap.size, 0, none⟩ = some (.int .i64 (P : Int)) ∧ w'.cell? ⟨w.heap.size, 1, none⟩ = some (.int .i64 (M : Int)))
            (first | (refine ⟨?_, ?_, ?_⟩ <;> assumption))
            (first
              | (go_at_call 36; (with_reducible refine (lm H.out hz hrq HZ2.out _ (St2.lays (by assumption))).mono ?_); rintro e wx ⟨rfl, hBx⟩; have sx := St2.step (by assumption) hBx; obtain ⟨y0, y1⟩ := sx.cells; clear hBx)
              | (go_at_call 35; (with_reducible refine (la1 H.out ho HO2.out _ (St2.lays (by assumption))).mono ?_); rintro e wx ⟨rfl, hBx⟩; have sx := St2.step (by assumption) hBx; obtain ⟨y0, y1⟩ := sx.cells; clear hBx))
          all_goals
            clear c0 c1 z0 z1
            go_wp2_with fail
            go_roundw
            case rel => exact ⟨_, z2, o2, j + 1, hz2q, ho2q, by omega, rfl, rfl, rfl, by go_num, (by show _ ↔ _; have h := HFN.out; simpa using h), HZN, HON, St2.hidn (by assumption)⟩
            case measure => simp [intOf]; omega
    · have hjn : j = n := by omega
      subst hjn
      have hz1 : z = 1 := by rw [HZ.out]; exact HR.out.2.2.1.1
      have hfd : fd = true ↔ p = 1 := by rw [HFD.out, ← HP.out]; exact (H.out.found_iff (by omega) HD.out HR.out hx0 hx).symm
      have ho3 : o = j % P := by rw [HO.out]; exact H.out.nsum_one j
      subst hz1
      by_cases hey : y % j = 0
      · have hsv : sumV P j y = o := by rw [sumV, if_pos hey, ho3]
        have hsv2 : (sumV P j y : Int) = (o : Int) := by rw [hsv]
        clear ho3 hsv
        by_cases hp1 : p = 1
        · have hf := hfd.2 hp1
          clear hfd
          subst hf
          go_wp2_with fail
          refine (alive_any _ HSr.out.lays).mono ?_
          rintro e wm ⟨rfl, hB⟩
          have HSm := Lib.hid (HSr.out.step hB)
          clear hB c0 c1
          go_wp2_with fail
          go_ret
          exact ⟨rfl, HSm.out.bel⟩
        · have ep : ((p : Int) == 1) = false := by rw [beq_eq_false_iff_ne]; omega
          have hf : fd = false := by
            cases fd
            · rfl
            · exact absurd (hfd.1 rfl) hp1
          clear hfd
          subst hf
          go_wp2_with fail
          refine (alive_any _ HSr.out.lays).mono ?_
          rintro e wm ⟨rfl, hB⟩
          have HSm := Lib.hid (HSr.out.step hB)
          clear hB c0 c1
          go_wp2_with fail
          go_ret
          exact ⟨rfl, HSm.out.bel⟩
      · have hsv : sumV P j y = 0 := by rw [sumV, if_neg hey]
        have hsv2 : (sumV P j y : Int) = 0 := by rw [hsv]; rfl
        clear ho3 hsv
        by_cases hp1 : p = 1
        · have hf := hfd.2 hp1
          clear hfd
          subst hf
          go_wp2_with fail
          refine (alive_any _ HSr.out.lays).mono ?_
          rintro e wm ⟨rfl, hB⟩
          have HSm := Lib.hid (HSr.out.step hB)
          clear hB c0 c1
          go_wp2_with fail
          go_ret
          exact ⟨rfl, HSm.out.bel⟩
        · have ep : ((p : Int) == 1) = false := by rw [beq_eq_false_iff_ne]; omega
          have hf : fd = false := by
            cases fd
            · rfl
            · exact absurd (hfd.1 rfl) hp1
          clear hfd
          subst hf
          go_wp2_with fail
          refine (alive_any _ HSr.out.lays).mono ?_
          rintro e wm ⟨rfl, hB⟩
          have HSm := Lib.hid (HSr.out.step hB)
          clear hB c0 c1
          go_wp2_with fail
          go_ret
          exact ⟨rfl, HSm.out.bel⟩
theorem fieldSums_any (P M n y x : Int) (hy : y ≤ 9223372036854775807) (w : World) (hL : Lays w) :
    Calls Tryd.prog 9 #[.agg #[.int .i64 P, .int .i64 M], .int .i64 n, .int .i64 y, .int .i64 x] w fun e w' => e = .returned (.bool true) ∧ Below w.heap.size w w' := by
  by_cases h1 : n < 1
  · exact fs_a1 P M n y x h1 w hL
  by_cases h2 : 3000 < n
  · exact fs_a2 P M n y x (by omega) h2 w hL
  by_cases h3 : y < 0
  · exact fs_a3 P M n y x (by omega) (by omega) h3 w hL
  by_cases h : OkF P M
  · obtain ⟨P', M', q, rfl, rfl, hf⟩ := h.fld
    have hq2 := hf.q_ge
    by_cases hin : InQ q x
    · obtain ⟨x', rfl, hx⟩ := inq_nat hin
      by_cases h0 : x' = 0
      · subst h0; exact fs_zero P' M' q hf n y (by omega) (by omega) (by omega) w hL
      · by_cases hd : ((q : Int) - 1) % n = 0
        · obtain ⟨k, rfl⟩ : ∃ k : Nat, n = k := ⟨n.toNat, by omega⟩
          obtain ⟨y', rfl⟩ : ∃ y' : Nat, y = y' := ⟨y.toNat, by omega⟩
          have hdk : (q - 1) % k = 0 := by
            have e : ((q : Int) - 1) = ((q - 1 : Nat) : Int) := by omega
            rw [e, ← Int.natCast_emod] at hd
            omega
          exact fs_main P' M' q hf k y' x' (by omega) (by omega) (by omega) (by omega) hx hdk w hL
        · exact fs_nd P' M' q hf n y x' (by omega) (by omega) (by omega) hy (by omega) hx hd w hL
    · exact fs_not P' M' q hf n y x (by omega) (by omega) (by omega) hin w hL
  · exact fs_form P M n y x (by omega) (by omega) (by omega) h w hL
end Go.Proofs.YtfkeemhbehhclaaDoor
