/-
  Contracts of Valid, steps and greatest of package circuit.
-/
import Derived.Test.YtcophfhnhlaonaaDoorCib
namespace Go.Proofs.YtcophfhnhlaonaaDoor
set_option linter.unusedVariables false
open Go.RowKit

theorem blk2_cells {W : World} {g : Nat} {x y : Value} {T : TypeId} (h : W.heap[g]? = some (.cells #[x, y] T (0, 0))) : (W.cell? ⟨g, 0, none⟩ = some x ∧ W.cell? ⟨g, 1, none⟩ = some y) ∧ W.frozen? ⟨g, 0, none⟩ = false ∧ W.frozen? ⟨g, 1, none⟩ = false := by
  refine ⟨⟨?_, ?_⟩, ?_, ?_⟩ <;> simp [World.cell?, World.frozen?, h]
/-- The state of a function of one circuit behind its first step: the circuit's box. -/
structure BoxC (w : World) (inp : Int) (A : Option Addr) (len c : Nat) (W : World) : Prop where
  bel : Below w.heap.size w W
  box : W.heap[w.heap.size]? = some (.cells #[.int .i64 inp, .slice A len c] 24 (0, 0))
theorem BoxC.step {w W W' : World} {inp : Int} {A : Option Addr} {len c : Nat} (h : BoxC w inp A len c W) (hB : Below W.heap.size W W') : BoxC w inp A len c W' :=
  ⟨h.bel.trans (hB.mono h.bel.size), (hB.block _ (Array.getElem?_eq_some_iff.1 h.box).1).trans h.box⟩
theorem BoxC.start (w : World) (inp : Int) (A : Option Addr) (len c : Nat) : BoxC w inp A len c (w.alloc (.cells #[.int .i64 inp, .slice A len c] 24)) :=
  ⟨below1 _ _, alloc_at _ _ _ rfl⟩
theorem BoxC.cells {w W : World} {inp : Int} {A : Option Addr} {len c : Nat} (h : BoxC w inp A len c W) : W.cell? ⟨w.heap.size, 0, none⟩ = some (.int .i64 inp) ∧ W.cell? ⟨w.heap.size, 1, none⟩ = some (.slice A len c) := (blk2_cells h.box).1
theorem BoxC.drew {w W : World} {inp : Int} {A : Option Addr} {len c : Nat} (h : BoxC w inp A len c W) : BoxC w inp A len c W.drew := h.step (Below.refl _ W).drew
theorem BoxC.put {w W : World} {inp : Int} {A : Option Addr} {len c : Nat} (h : BoxC w inp A len c W) {p : Addr} (hp : w.heap.size < p.block) (x : Value) : BoxC w inp A len c (W.setCell p x) :=
  ⟨h.bel.setCell (by omega) x, by rw [heap_setCell_other _ _ _ _ (by omega)]; exact h.box⟩
theorem BoxC.lt {w W : World} {inp : Int} {A : Option Addr} {len c : Nat} (h : BoxC w inp A len c W) : w.heap.size < W.heap.size := (Array.getElem?_eq_some_iff.1 h.box).1

set_option maxRecDepth 100000 in
set_option maxHeartbeats 8000000 in
theorem CValid_ok (inp : Int) (v : Value) (gs : List Gat) (w : World) (hv : CirV w v inp gs) :
    Calls Tryd.prog 10 #[v] w fun r w' => r = .returned (.bool (okC inp gs)) ∧ Below w.heap.size w w' := by
  obtain ⟨A, c, rfl, hr, hl⟩ := hv
  have HS0 := Lib.hid (BoxC.start w inp A gs.length c)
  have HR := Lib.hid hr
  have HG : Hid (okC inp gs = (decide (0 ≤ inp) && decide (inp ≤ 16) && decide (1 ≤ gs.length) && decide (gs.length ≤ 20000) && gokL inp gs 0)) := Lib.hid rfl
  obtain ⟨c0, c1⟩ := HS0.out.cells
  clear hr
  by_cases t0 : inp < 0
  · have d0 : decide (inp < 0) = true := decide_eq_true t0
    have HE : Hid (okC inp gs = false) := Lib.hid (by rw [HG.out, decide_eq_false (by omega : ¬ (0 ≤ inp))]; rfl)
    clear t0
    go_enter Tryd.func10, Tryd.ntmps10
    go_wp2_with fail
    go_ret
    exact ⟨by rw [HE.out]; rfl, HS0.out.bel⟩
  have d0 : decide (inp < 0) = false := decide_eq_false t0
  by_cases t1 : 16 < inp
  · have d1 : decide (16 < inp) = true := decide_eq_true t1
    have HE : Hid (okC inp gs = false) := Lib.hid (by rw [HG.out, decide_eq_false (by omega : ¬ (inp ≤ 16)), Bool.and_false]; rfl)
    clear t0 t1
    go_enter Tryd.func10, Tryd.ntmps10
    go_wp2_with fail
    go_ret
    exact ⟨by rw [HE.out]; rfl, HS0.out.bel⟩
  have d1 : decide (16 < inp) = false := decide_eq_false t1
  by_cases t2 : gs.length = 0
  · have d2 : ((gs.length : Int) == 0) = true := by rw [t2]; rfl
    have HE : Hid (okC inp gs = false) := Lib.hid (by rw [HG.out, decide_eq_false (by omega : ¬ (1 ≤ gs.length)), Bool.and_false]; rfl)
    clear t0 t1 t2
    go_enter Tryd.func10, Tryd.ntmps10
    go_wp2_with fail
    go_ret
    exact ⟨by rw [HE.out]; rfl, HS0.out.bel⟩
  have d2 : ((gs.length : Int) == 0) = false := by simp; exact fun h => t2 (by rw [h]; rfl)
  by_cases t3 : 20000 < gs.length
  · have d3 : decide ((20000 : Int) < (gs.length : Int)) = true := decide_eq_true (by omega)
    have d3' : decide (20000 < gs.length) = true := decide_eq_true t3
    have HE : Hid (okC inp gs = false) := Lib.hid (by rw [HG.out, decide_eq_false (by omega : ¬ (gs.length ≤ 20000)), Bool.and_false]; rfl)
    clear t0 t1 t2 t3
    go_enter Tryd.func10, Tryd.ntmps10
    go_wp2_with fail
    go_ret
    exact ⟨by rw [HE.out]; rfl, HS0.out.bel⟩
  have d3 : decide ((20000 : Int) < (gs.length : Int)) = false := decide_eq_false (by omega)
  have d3' : decide (20000 < gs.length) = false := decide_eq_false t3
  have HE : Hid (okC inp gs = gokL inp gs 0) := Lib.hid (by rw [HG.out, decide_eq_true (by omega : 0 ≤ inp), decide_eq_true (by omega : inp ≤ 16), decide_eq_true (by omega : 1 ≤ gs.length), decide_eq_true (by omega : gs.length ≤ 20000)]; rfl)
  clear t0 t1 t2 t3
  generalize hL : gs.length = L at *
  have HL := Lib.hid hL
  clear hL
  go_enter Tryd.func10, Tryd.ntmps10
  go_wp2_with fail
  go_loopw [3, 4, 28] (fun _ _ iv W => ∃ i : Nat, i ≤ L ∧ iv = .int .i64 i ∧ gokL inp (gs.take i) 0 = true ∧ BoxC w inp A L c W) (fun _ _ iv _ => L - (intOf iv).toNat)
  case atStart => exact ⟨0, by omega, rfl, rfl, HS0.out⟩
  case round =>
    obtain ⟨i, hi, rfl, hp, hB⟩ := hrel
    have HP := Lib.hid hp
    have HB := Lib.hid hB
    clear hp hB
    by_cases hil : i < L
    · obtain ⟨⟨k, n, ks⟩, hg⟩ : ∃ g, gs[i]? = some g := ⟨_, List.getElem?_eq_getElem (by rw [HL.out]; exact hil)⟩
      obtain ⟨b, off, u, rfl, g0, g1, g2, K, kc, rfl, hK, hKl⟩ := HR.out i _ hg
      have e0 := (HB.out.bel.cell (World.block_lt_of_cell? w _ g0)).trans g0
      have e1 := (HB.out.bel.cell (World.block_lt_of_cell? w _ g1)).trans g1
      have e2 := (HB.out.bel.cell (World.block_lt_of_cell? w _ g2)).trans g2
      have HNX := Lib.hid (gokL_next (inp := inp) hg)
      have HDD := Lib.hid (fun h => gokL_dead (inp := inp) (gs := gs) (i := i + 1) h)
      have HB1 := Lib.hid (HB.out.step (below1 wr (.cells #[.int .i64 k, .int .i64 n, .slice K ks.length kc] 59)))
      have HC := Lib.hid (isGate_ok inp i k n K kc ks _ (hK.below HB1.out.bel) hKl)
      obtain ⟨y0, y1⟩ := HB.out.cells
      obtain ⟨z0, z1⟩ := HB1.out.cells
      obtain ⟨bb, hbb⟩ : ∃ b, okG inp i ⟨k, n, ks⟩ = b := ⟨_, rfl⟩
      rw [hbb] at HNX HC
      clear hg g0 g1 g2 hK hKl c0 c1 hbb
      generalize ks.length = kl at *
      go_wp2_with fail
      refine HC.out.mono ?_
      rintro e w2 ⟨rfl, hB2⟩
      have HB2 := Lib.hid (HB1.out.step hB2)
      clear hB2
      cases bb
      · have HE2 : Hid (okC inp gs = false) := Lib.hid (by rw [HE.out]; exact HDD.out (by rw [HNX.out, Bool.and_false]))
        go_wp2_with fail
        go_ret
        exact ⟨by rw [HE2.out]; rfl, HB2.out.bel⟩
      · go_wp2_with fail
        go_roundw
        case rel => exact ⟨i + 1, by omega, by go_num, by rw [HNX.out, HP.out]; rfl, HB2.out⟩
        case measure => simp [intOf]; omega
    · have HE2 : Hid (okC inp gs = true) := Lib.hid (by rw [HE.out, ← HP.out, List.take_of_length_le (by rw [HL.out]; omega)])
      go_wp2_with fail
      go_ret
      exact ⟨by rw [HE2.out]; rfl, HB.out.bel⟩

set_option maxHeartbeats 1000000 in
theorem steps_ok (k : Int) (w : World) :
    Calls Tryd.prog 33 #[.int .i64 k] w fun e w' => e = .returned (.int .i64 (depAt fSh k : Nat)) ∧ w = w' := by
  have H : Hid ((k = 3 → depAt fSh k = 1) ∧ (k = 4 → depAt fSh k = 1) ∧ (k = 5 → depAt fSh k = 2) ∧ (k ≠ 3 → k ≠ 4 → k ≠ 5 → depAt fSh k = 0)) := Lib.hid (by
    refine ⟨by rintro rfl; rfl, by rintro rfl; rfl, by rintro rfl; rfl, fun h3 h4 h5 => ?_⟩
    unfold depAt
    have hk : k.toNat = 0 ∨ k.toNat = 1 ∨ k.toNat = 2 ∨ 6 ≤ k.toNat := by omega
    rcases hk with h | h | h | h
    · rw [h]; rfl
    · rw [h]; rfl
    · rw [h]; rfl
    · rw [List.getElem?_eq_none (by simpa [fSh] using h)]; rfl)
  by_cases h3 : k = 3
  · have d3 : ((k : Int) == 3) = true := by simp [h3]
    have HE := Lib.hid (H.out.1 h3)
    clear h3
    go_enter Tryd.func33, Tryd.ntmps33
    go_wp2_with fail
    go_ret
    exact ⟨by rw [HE.out]; rfl, rfl⟩
  · have d3 : ((k : Int) == 3) = false := by simp [h3]
    by_cases h4 : k = 4
    · have d4 : ((k : Int) == 4) = true := by simp [h4]
      have HE := Lib.hid (H.out.2.1 h4)
      clear h3 h4
      go_enter Tryd.func33, Tryd.ntmps33
      go_wp2_with fail
      go_ret
      exact ⟨by rw [HE.out]; rfl, rfl⟩
    · have d4 : ((k : Int) == 4) = false := by simp [h4]
      by_cases h5 : k = 5
      · have d5 : ((k : Int) == 5) = true := by simp [h5]
        have HE := Lib.hid (H.out.2.2.1 h5)
        clear h3 h4 h5
        go_enter Tryd.func33, Tryd.ntmps33
        go_wp2_with fail
        go_ret
        exact ⟨by rw [HE.out]; rfl, rfl⟩
      · have d5 : ((k : Int) == 5) = false := by simp [h5]
        have HE := Lib.hid (H.out.2.2.2 h3 h4 h5)
        clear h3 h4 h5
        go_enter Tryd.func33, Tryd.ntmps33
        go_wp2_with fail
        go_ret
        exact ⟨by rw [HE.out]; rfl, rfl⟩

/-- A row of ints that are numbers, and what kids ask of it. -/
def kidsIn (e : Nat) (ks : List Int) : Prop := ∀ x ∈ ks, 0 ≤ x ∧ x < (e : Int)
theorem kidsIn_of {e : Nat} {ks : List Int} (h : kidsN e ks = true) : kidsIn e ks := fun x hx => by
  rw [kidsN, List.all_eq_true] at h
  have := h x hx
  simp only [kidN, Bool.and_eq_true, decide_eq_true_eq] at this
  exact this

set_option maxRecDepth 100000 in
set_option maxHeartbeats 4000000 in
theorem greatest_ok (ds : List Nat) (N : Nat) (A K : Option Addr) (ca ck : Nat) (ks : List Int) (w : World) (hd : RdI w A (nz (rowZ ds N 0))) (hN : ds.length ≤ N) (hN2 : N ≤ 1048576) (hK : RdI w K ks) (hk : kidsIn ds.length ks) (hB : ∀ d ∈ ds, d ≤ 1048576) (hl : ks.length ≤ 1048576) :
    Calls Tryd.prog 34 #[.slice A N ca, .slice K ks.length ck] w fun e w' => e = .returned (.int .i64 (greatN ds ks 0 : Nat)) ∧ w = w' := by
  have HD := Lib.hid hd
  have HK := Lib.hid hK
  have HKI := Lib.hid hk
  have HBD := Lib.hid hB
  have HL : Hid (∀ i, greatN ds (ks.take i) 0 ≤ 1048576) := Lib.hid (fun i => greatN_le hB _ _ (Nat.zero_le _))
  have HEQ : Hid (greatN ds (ks.take ks.length) 0 = greatN ds ks 0) := Lib.hid (by rw [List.take_length])
  have HNN := Lib.hid hN
  clear hd hK hk hB hN
  generalize hKL : ks.length = kl at *
  have HKL := Lib.hid hKL
  clear hKL
  go_enter Tryd.func34, Tryd.ntmps34
  go_wp2_with fail
  go_loopw [5, 7, 10] (fun mv _ iv W => ∃ (i m : Nat), i ≤ kl ∧ iv = .int .i64 i ∧ mv = .int .i64 m ∧ m = greatN ds (ks.take i) 0 ∧ w = W) (fun _ _ iv _ => kl - (intOf iv).toNat)
  case atStart => exact ⟨0, 0, by omega, rfl, rfl, rfl, rfl⟩
  case round =>
    obtain ⟨i, m, hi, rfl, rfl, hm, rfl⟩ := hrel
    have hm2 : m ≤ 1048576 := by rw [hm]; exact HL.out i
    have HM := Lib.hid hm
    clear hm
    by_cases hil : i < kl
    · obtain ⟨x, hx⟩ : ∃ x, ks[i]? = some x := ⟨_, List.getElem?_eq_getElem (by rw [HKL.out]; exact hil)⟩
      obtain ⟨p, rfl, e0⟩ := HK.out i x hx
      obtain ⟨hx0, hx1⟩ := HKI.out x (List.mem_of_getElem? hx)
      obtain ⟨y, rfl⟩ : ∃ y : Nat, x = y := ⟨x.toNat, by omega⟩
      obtain ⟨d, hd⟩ : ∃ d, ds[y]? = some d := ⟨_, List.getElem?_eq_getElem (by omega)⟩
      have hyl : y < N := by have := HNN.out; omega
      obtain ⟨q, rfl, e1⟩ := HD.out y (d : Int) (nz_at (rowZ_at hd))
      have hd2 : d ≤ 1048576 := HBD.out d (List.mem_of_getElem? hd)
      have HNX : Hid (max m d = greatN ds (ks.take (i + 1)) 0) := Lib.hid (by rw [greatN_next hx, ← HM.out]; simp [hd])
      clear hx hx0 hx1 hd
      go_wp2_with fail
      go_roundw
      case rel => exact ⟨i + 1, max m d, by omega, by go_num, by go_num, HNX.out, trivial⟩
      case measure => simp [intOf]; omega
    · have HE : Hid (greatN ds ks 0 = m) := Lib.hid (by rw [HM.out, show i = kl by omega, HEQ.out])
      go_wp2_with fail
      go_ret
      exact ⟨by rw [HE.out]; rfl, rfl⟩
end Go.Proofs.YtcophfhnhlaonaaDoor
