/-
  Contract of Depth of package circuit.
-/
import Derived.Test.YtcophfhnhlaonaaDoorCic
namespace Go.Proofs.YtcophfhnhlaonaaDoor
set_option linter.unusedVariables false
open Go.RowKit

theorem below_drew_alloc (w : World) (o : Obj) : Below w.heap.size w (w.alloc o).drew := (below1 w o).drew
def depC (gs : List Gat) : Nat := (depsL gs)[gs.length - 1]?.getD 0
theorem nz_set (l : List Nat) (i d : Nat) : (nz l).set i (d : Int) = nz (l.set i d) := by simp [nz, List.map_set]
theorem deps_small {gs : List Gat} (i : Nat) (h : gs.length ≤ 20000) : ∀ d ∈ runL depG (gs.take i) [], d ≤ 1048576 := fun d hd => by
  have := deps_le (gs.take i) [] 0 (by simp) d hd
  have h2 : (gs.take i).length ≤ gs.length := by rw [List.length_take]; omega
  omega

set_option maxRecDepth 100000 in
set_option maxHeartbeats 8000000 in
theorem CDepth_ok (inp : Int) (v : Value) (gs : List Gat) (w : World) (hv : CirV w v inp gs) :
    Calls Tryd.prog 11 #[v] w fun r w' => r = .returned (.int .i64 (if okC inp gs = true then ((depC gs : Nat) : Int) else -1)) ∧ Below w.heap.size w w' := by
  have hv0 := hv
  obtain ⟨A, c, rfl, hr, hl⟩ := hv
  have HS0 := Lib.hid (BoxC.start w inp A gs.length c)
  have HR := Lib.hid hr
  have HVC := Lib.hid (CValid_ok inp _ gs _ (hv0.below HS0.out.bel))
  have HOK : Hid (okC inp gs = true → 1 ≤ gs.length ∧ gs.length ≤ 20000 ∧ ∀ i g, gs[i]? = some g → okG inp i g = true) := Lib.hid (fun h => ⟨(okC_iff.1 h).2.2.1, (okC_iff.1 h).2.2.2.1, fun i g hg => okC_at h hg⟩)
  obtain ⟨c0, c1⟩ := HS0.out.cells
  clear hr hv0
  obtain ⟨bb, hbb⟩ : ∃ b, okC inp gs = b := ⟨_, rfl⟩
  rw [hbb] at HVC HOK ⊢
  obtain ⟨res, hres⟩ : ∃ r : Int, (if bb = true then ((depC gs : Nat) : Int) else -1) = r := ⟨_, rfl⟩
  have HRES : Hid ((bb = true → res = (depC gs : Nat)) ∧ (bb = false → res = -1)) := Lib.hid ⟨fun h => by rw [← hres, if_pos h], fun h => by rw [← hres, if_neg (by rw [h]; decide)]⟩
  rw [hres]
  clear hbb hres
  go_enter Tryd.func11, Tryd.ntmps11
  go_wp2_with fail
  refine HVC.out.mono ?_
  rintro e w2 ⟨rfl, hB2⟩
  have HS2 := Lib.hid (HS0.out.step hB2)
  obtain ⟨y0, y1⟩ := HS2.out.cells
  clear hB2 c0 c1
  cases bb
  · have HR0 := Lib.hid (HRES.out.2 rfl)
    clear HRES
    go_wp2_with fail
    go_ret
    exact ⟨by rw [HR0.out]; rfl, HS2.out.bel⟩
  have HR1 := Lib.hid (HRES.out.1 rfl)
  clear HRES
  obtain ⟨hl1, hl2, hgg⟩ := HOK.out rfl
  have HGG := Lib.hid hgg
  clear hgg HOK
  have HSM := Lib.hid (fun i => deps_small (gs := gs) i hl2)
  have HLN := Lib.hid (fun i hi => runL_len (f := depG) gs i hi)
  have HFU : Hid (∀ l : List Nat, l = runL depG (gs.take gs.length) [] → l[gs.length - 1]?.getD 0 = depC gs) := Lib.hid (fun l hl => by rw [hl, List.take_length]; rfl)
  generalize hL : gs.length = L at *
  have HL := Lib.hid hL
  clear hL
  have hmk := make_ints L (by omega)
  have HST : Hid (BoxC w inp A L c (w2.alloc (intsO (List.replicate L 0))) ∧ (w2.alloc (intsO (List.replicate L 0))).heap[w2.heap.size]? = some (intsO (nz (rowZ (runL depG (gs.take 0) []) L 0)))) :=
    Lib.hid ⟨HS2.out.step (below1 _ _), by rw [alloc_at _ _ _ rfl]; simp [runL, rowZ_nil, nz]⟩
  obtain ⟨x0, x1⟩ := HST.out.1.cells
  have HSZ := Lib.hid HS2.out.bel.size
  go_wp2_with fail
  go_loopw [4, 5, 16] (fun _ _ iv W => ∃ i : Nat, i ≤ L ∧ iv = .int .i64 i ∧ BoxC w inp A L c W ∧ W.heap[w2.heap.size]? = some (intsO (nz (rowZ (runL depG (gs.take i) []) L 0)))) (fun _ _ iv _ => L - (intOf iv).toNat)
  case atStart => exact ⟨0, by omega, rfl, HST.out.1, HST.out.2⟩
  case round =>
    obtain ⟨i, hi, rfl, hB, hD⟩ := hrel
    have HB := Lib.hid hB
    have hlen := HLN.out i hi
    by_cases hil : i < L
    · obtain ⟨⟨k, n, ks⟩, hg⟩ : ∃ g, gs[i]? = some g := ⟨_, List.getElem?_eq_getElem (by rw [HL.out]; exact hil)⟩
      obtain ⟨b, off, u, rfl, g0, g1, g2, K, kc, rfl, hK, hKl⟩ := HR.out i _ hg
      have e0 := (HB.out.bel.cell (World.block_lt_of_cell? w _ g0)).trans g0
      have e1 := (HB.out.bel.cell (World.block_lt_of_cell? w _ g1)).trans g1
      have e2 := (HB.out.bel.cell (World.block_lt_of_cell? w _ g2)).trans g2
      have hok := HGG.out i _ hg
      have hkin : kidsIn i ks := kidsIn_of (by rw [okG, Bool.and_eq_true] at hok; exact hok.2)
      have hks2 : ks.length ≤ 2 := by
        rcases okG_cases hok with ⟨_, _, _, h⟩ | ⟨_, _, h⟩ | ⟨_, _, _, h, _⟩ | ⟨_, _, _, _, h, _⟩ <;> (dsimp only at h; rw [h]; simp)
      have hd1 : Below w.heap.size w (wr.alloc (.cells #[.int .i64 k, .int .i64 n, .slice K ks.length kc] 59)).drew := HB.out.bel.trans ((below_drew_alloc wr _).mono HB.out.bel.size)
      have hD1 : (wr.alloc (.cells #[.int .i64 k, .int .i64 n, .slice K ks.length kc] 59)).drew.heap[w2.heap.size]? = some (intsO (nz (rowZ (runL depG (gs.take i) []) L 0))) := ((below_drew_alloc wr _).block _ (Array.getElem?_eq_some_iff.1 hD).1).trans hD
      have HS1 := Lib.hid (HB.out.step (below1 wr (.cells #[.int .i64 k, .int .i64 n, .slice K ks.length kc] 59)))
      have HST1 := Lib.hid (steps_ok k (wr.alloc (.cells #[.int .i64 k, .int .i64 n, .slice K ks.length kc] 59)).drew)
      have HGR := Lib.hid (greatest_ok (runL depG (gs.take i) []) L (some ⟨w2.heap.size, 0, none⟩) K L kc ks _ (ints_read hD1) (by omega) (by omega) (hK.below hd1) (by rw [hlen]; exact hkin) (HSM.out i) (by omega))
      have hdk : depAt fSh k ≤ 2 := depAt_le (by decide) k
      have hgk := greatN_le (HSM.out i) ks 0 (Nat.zero_le _)
      obtain ⟨q1, f1⟩ := ints_cell (j := i) (x := 0) hD1 (by have := nz_at (rowZ_cur (z := 0) (show (runL depG (gs.take i) []).length < L by omega)); rw [hlen] at this; exact this)
      have HNX : Hid (∀ d, d = depG (runL depG (gs.take i) []) ⟨k, n, ks⟩ → (rowZ (runL depG (gs.take i) []) L 0).set i d = rowZ (runL depG (gs.take (i + 1)) []) L 0) := Lib.hid (fun d hd => by
        have h := rowZ_next (z := 0) (show (runL depG (gs.take i) []).length < L by omega) d
        rw [hlen] at h
        rw [h, hd, runL_next hg])
      have hset := ints_set (j := i) ((depAt fSh k + greatN (runL depG (gs.take i) []) ks 0 : Nat) : Int) hD1
      rw [nz_set, HNX.out (depAt fSh k + greatN (runL depG (gs.take i) []) ks 0) rfl, Int.natCast_add] at hset
      have HSET := Lib.hid hset
      generalize depAt fSh k = dk at *
      generalize greatN (runL depG (gs.take i) []) ks 0 = gk at *
      generalize ks.length = kl at *
      clear hg g0 g1 g2 hK hKl hok hkin hB hD hD1 hd1 hset x0 x1 y0 y1
      go_wp2_with fail
      go_region_with (first | (go_at_call 33; refine HST1.out.mono ?_; rintro e w1 ⟨rfl, rfl⟩) | (go_at_call 34; refine HGR.out.mono ?_; rintro e w1 ⟨rfl, rfl⟩))
      all_goals
        go_wp2_with fail
        go_roundw
        case rel => exact ⟨i + 1, by omega, by go_num, (HS1.out.put (p := ⟨w2.heap.size, i, none⟩) HS2.out.lt _).drew, HSET.out⟩
        case measure => simp [intOf]; omega
    · obtain rfl : i = L := by omega
      obtain ⟨m, rfl⟩ : ∃ m, i = m + 1 := ⟨i - 1, by omega⟩
      obtain ⟨x, hx⟩ : ∃ x, (runL depG (gs.take (m + 1)) [])[m]? = some x := ⟨_, List.getElem?_eq_getElem (by rw [hlen]; omega)⟩
      obtain ⟨q1, f1⟩ := ints_cell (j := m) (x := (x : Int)) hD (nz_at (rowZ_at hx))
      have HE : Hid (res = (x : Nat)) := Lib.hid (by
        rw [HR1.out, ← HFU.out (runL depG (gs.take (m + 1)) []) rfl, show m + 1 - 1 = m from rfl, hx]; rfl)
      clear hB hD hx x0 x1 y0 y1 hlen
      go_wp2_with fail
      go_ret
      exact ⟨by rw [HE.out]; rfl, HB.out.bel⟩
end Go.Proofs.YtcophfhnhlaonaaDoor
