/-
  Contracts of the reference's Depth of a circuit, and of Few of the laws of layer 7.
-/
import Derived.Test.YtcophfhnhlaonaaDoorCie
import Derived.BigRegion
namespace Go.Proofs.YtcophfhnhlaonaaDoor
set_option linter.unusedVariables false
open Go.RowKit

section
variable {α : Type} {l : List α} {n : Nat} {z : α}
theorem rowZ_zero (h : l.length < n) : rowZ (l ++ [z]) n z = rowZ l n z := by
  obtain ⟨m, hm⟩ : ∃ m, n - l.length = m + 1 := ⟨n - l.length - 1, by omega⟩
  rw [rowZ, rowZ, hm, List.length_append, List.length_singleton, show n - (l.length + 1) = m by omega, List.replicate_succ, List.append_assoc]
  rfl
theorem rowZ_last (a b : α) : (rowZ (l ++ [a]) n z).set l.length b = rowZ (l ++ [b]) n z := by
  rw [rowZ, rowZ, List.set_append_left _ _ (by simp), List.set_append_right _ _ (Nat.le_refl _), Nat.sub_self, List.set_cons_zero, List.length_append, List.length_append]
  rfl
theorem rowZ_end (a : α) : (rowZ (l ++ [a]) n z)[l.length]? = some a := by
  rw [rowZ, List.getElem?_append_left (by simp), List.getElem?_append_right (Nat.le_refl _), Nat.sub_self]
  rfl
theorem rowZ_old {i : Nat} {x a : α} (h : l[i]? = some x) : (rowZ (l ++ [a]) n z)[i]? = some x := by
  have hi := (List.getElem?_eq_some_iff.1 h).1
  exact rowZ_at (by rw [List.getElem?_append_left hi]; exact h)
end

set_option maxRecDepth 100000 in
set_option maxHeartbeats 8000000 in
theorem CDepth_ref (inp : Int) (v : Value) (gs : List Gat) (w : World) (hv : CirV w v inp gs) (hok : okC inp gs = true) :
    Calls Tryd.prog 12 #[v] w fun r w' => r = .returned (.int .i64 (depC gs : Nat)) ∧ Below w.heap.size w w' := by
  obtain ⟨A, c, rfl, hr, hl⟩ := hv
  have HS0 := Lib.hid (BoxC.start w inp A gs.length c)
  have HR := Lib.hid hr
  obtain ⟨c0, c1⟩ := HS0.out.cells
  clear hr
  obtain ⟨-, -, hl1, hl2, -⟩ := okC_iff.1 hok
  have HGG := Lib.hid (fun i g (hg : gs[i]? = some g) => okC_at hok hg)
  have HSM := Lib.hid (fun i => deps_small (gs := gs) i hl2)
  have HLN := Lib.hid (fun i hi => runL_len (f := depG) gs i hi)
  have HFU : Hid (∀ l : List Nat, l = runL depG (gs.take gs.length) [] → l[gs.length - 1]?.getD 0 = depC gs) := Lib.hid (fun l hl => by rw [hl, List.take_length]; rfl)
  clear hok
  generalize hL : gs.length = L at *
  have HL := Lib.hid hL
  clear hL
  obtain ⟨w2, hw2⟩ : ∃ w2, w2 = w.alloc (.cells #[.int .i64 inp, .slice A L c] 24) := ⟨_, rfl⟩
  have HW2 := Lib.hid hw2
  rw [← hw2] at HS0
  have hmk := make_ints L (by omega)
  have HST : Hid (BoxC w inp A L c (w2.alloc (intsO (List.replicate L 0))) ∧ (w2.alloc (intsO (List.replicate L 0))).heap[w2.heap.size]? = some (intsO (nz (rowZ (runL depG (gs.take 0) []) L 0)))) :=
    Lib.hid ⟨HS0.out.step (below1 _ _), by rw [alloc_at _ _ _ rfl]; simp [runL, rowZ_nil, nz]⟩
  have HSZ := Lib.hid HS0.out.lt
  clear hw2
  go_enter Tryd.func12, Tryd.ntmps12
  go_upto_region 1 with fail
  rw [← HW2.out]
  obtain ⟨y0, y1⟩ := HS0.out.cells
  obtain ⟨x0, x1⟩ := HST.out.1.cells
  clear c0 c1
  go_wp2_with fail
  go_loopw [4, 5] (fun iv _ W => ∃ i : Nat, i ≤ L ∧ iv = .int .i64 i ∧ BoxC w inp A L c W ∧ W.heap[w2.heap.size]? = some (intsO (nz (rowZ (runL depG (gs.take i) []) L 0)))) (fun iv _ _ => L - (intOf iv).toNat)
  case atStart => exact ⟨0, by omega, rfl, HST.out.1, HST.out.2⟩
  case round =>
    obtain ⟨i, hi, rfl, hB, hD⟩ := hrel
    have HB := Lib.hid hB
    obtain ⟨y0, y1⟩ := HB.out.cells
    have hlen := HLN.out i hi
    by_cases hil : i < L
    · have e3 : decide ((i : Int) < (L : Int)) = true := decide_eq_true (by omega)
      have e3' : decide (i < L) = true := decide_eq_true hil
      obtain ⟨⟨k, n, ks⟩, hg⟩ : ∃ g, gs[i]? = some g := ⟨_, List.getElem?_eq_getElem (by rw [HL.out]; exact hil)⟩
      obtain ⟨b, off, u, rfl, g0, g1, g2, K, kc, rfl, hK, hKl⟩ := HR.out i _ hg
      have hok := HGG.out i _ hg
      have hkin : kidsIn i ks := kidsIn_of (by rw [okG, Bool.and_eq_true] at hok; exact hok.2)
      have hks2 : ks.length ≤ 2 := by
        rcases okG_cases hok with ⟨_, _, _, h⟩ | ⟨_, _, h⟩ | ⟨_, _, _, h, _⟩ | ⟨_, _, _, _, h, _⟩ <;> (dsimp only at h; rw [h]; simp)
      have HG := Lib.hid hg
      have HK := Lib.hid hK
      have HKI := Lib.hid hkin
      have HC0 := Lib.hid (And.intro g0 g2)
      have hdl : (runL depG (gs.take i) []).length < L := by omega
      have HD0 : Hid (wr.heap[w2.heap.size]? = some (intsO (nz (rowZ (runL depG (gs.take i) [] ++ [greatN (runL depG (gs.take i) []) (ks.take 0) 0]) L 0)))) := Lib.hid (by
        rw [show greatN (runL depG (gs.take i) []) (ks.take 0) 0 = 0 from rfl, rowZ_zero hdl]; exact hD)
      have HNEXT : Hid (∀ d, d = depG (runL depG (gs.take i) []) ⟨k, n, ks⟩ → runL depG (gs.take i) [] ++ [d] = runL depG (gs.take (i + 1)) []) := Lib.hid (fun d hd => by rw [hd, runL_next hg])
      have HDG : Hid (depG (runL depG (gs.take i) []) ⟨k, n, ks⟩ = greatN (runL depG (gs.take i) []) ks 0 + depAt fSh k) := Lib.hid (Nat.add_comm _ _)
      have HSMI := Lib.hid (HSM.out i)
      have hdk : depAt fSh k ≤ 2 := depAt_le (by decide) k
      clear hg hK hok hkin hB hD hKl g1 x0 x1 hdl
      have HLEN := Lib.hid hlen
      generalize runL depG (gs.take i) [] = ds at *
      generalize hkl : ks.length = kl at *
      have HKL := Lib.hid hkl
      clear hkl hlen
      have e0 := (HB.out.bel.cell (World.block_lt_of_cell? w _ HC0.out.1)).trans HC0.out.1
      have e2 := (HB.out.bel.cell (World.block_lt_of_cell? w _ HC0.out.2)).trans HC0.out.2
      clear g0 g2
      obtain ⟨wo, rfl⟩ : ∃ wo : World, wo = wr := ⟨_, rfl⟩
      go_wp2_with fail
      clear e0 e2 y0 y1
      go_loopw [5] (fun jv W => ∃ j : Nat, j ≤ kl ∧ jv = .int .i64 j ∧ BoxC w inp (some ⟨b, off, none⟩) L c W ∧ W.heap[w2.heap.size]? = some (intsO (nz (rowZ (ds ++ [greatN ds (ks.take j) 0]) L 0)))) (fun jv _ => kl - (intOf jv).toNat)
      case atStart => exact ⟨0, by omega, rfl, HB.out, HD0.out⟩
      case round =>
        obtain ⟨j, hj, rfl, hB2, hD2⟩ := hrel
        have HB2 := Lib.hid hB2
        have HD2 := Lib.hid hD2
        obtain ⟨y0, y1⟩ := hB2.cells
        have e0 := (HB2.out.bel.cell (World.block_lt_of_cell? w _ HC0.out.1)).trans HC0.out.1
        have e2 := (HB2.out.bel.cell (World.block_lt_of_cell? w _ HC0.out.2)).trans HC0.out.2
        have hgm := greatN_le HSMI.out (ks.take j) 0 (Nat.zero_le _)
        obtain ⟨q1, f1⟩ := ints_cell (j := i) (x := ((greatN ds (ks.take j) 0 : Nat) : Int)) hD2 (by
          have h := nz_at (rowZ_end (l := ds) (n := L) (z := 0) (greatN ds (ks.take j) 0))
          rw [HLEN.out] at h
          exact h)
        by_cases hjl : j < kl
        · have e4 : decide ((j : Int) < (kl : Int)) = true := decide_eq_true (by omega)
          have e4' : decide (j < kl) = true := decide_eq_true hjl
          obtain ⟨x, hx⟩ : ∃ x, ks[j]? = some x := ⟨_, List.getElem?_eq_getElem (by rw [HKL.out]; exact hjl)⟩
          obtain ⟨p, rfl, k0⟩ := HK.out j x hx
          have k1 := (HB2.out.bel.cell (World.block_lt_of_cell? w _ k0)).trans k0
          obtain ⟨hx0, hx1⟩ := HKI.out x (List.mem_of_getElem? hx)
          obtain ⟨y, rfl⟩ : ∃ y : Nat, x = y := ⟨x.toNat, by omega⟩
          obtain ⟨d, hd⟩ : ∃ d, ds[y]? = some d := ⟨_, List.getElem?_eq_getElem (by have := HLEN.out; omega)⟩
          have hyl : y < L := by omega
          obtain ⟨q2, f2⟩ := ints_cell (j := y) (x := ((d : Nat) : Int)) hD2 (nz_at (rowZ_old hd))
          have hd2 : d ≤ 1048576 := HSMI.out d (List.mem_of_getElem? hd)
          have hset := ints_set (j := i) ((max (greatN ds (ks.take j) 0) d : Nat) : Int) hD2
          rw [nz_set] at hset
          have e5 : (rowZ (ds ++ [greatN ds (ks.take j) 0]) L 0).set i (max (greatN ds (ks.take j) 0) d) = rowZ (ds ++ [greatN ds (ks.take (j + 1)) 0]) L 0 := by
            have h := rowZ_last (l := ds) (n := L) (z := 0) (greatN ds (ks.take j) 0) (max (greatN ds (ks.take j) 0) d)
            rw [HLEN.out] at h
            rw [h, greatN_next hx]
            simp [hd]
          rw [e5, show ((max (greatN ds (ks.take j) 0) d : Nat) : Int) = max ((greatN ds (ks.take j) 0 : Nat) : Int) (d : Int) by omega] at hset
          have HSET := Lib.hid hset
          generalize greatN ds (ks.take j) 0 = m at *
          clear hB2 hD2 hset e5 hx hx0 hx1 hd k0
          go_wp2_with fail
          go_region
          all_goals
            go_wp2_with fail
            go_roundw
            case rel => exact ⟨j + 1, by omega, by go_num, (HB2.out.put (p := ⟨w2.heap.size, i, none⟩) HSZ.out _).drew, HSET.out⟩
            case measure => simp [intOf]; omega
        · have e4 : decide ((j : Int) < (kl : Int)) = false := decide_eq_false (by omega)
          have e4' : decide (j < kl) = false := decide_eq_false hjl
          have HCO := Lib.hid (CostE_ref k wr.drew)
          have hset := ints_set (j := i) ((greatN ds (ks.take j) 0 + depAt fSh k : Nat) : Int) hD2
          have e5 : (rowZ (ds ++ [greatN ds (ks.take j) 0]) L 0).set i (greatN ds (ks.take j) 0 + depAt fSh k) = rowZ (runL depG (gs.take (i + 1)) []) L 0 := by
            have h := rowZ_last (l := ds) (n := L) (z := 0) (greatN ds (ks.take j) 0) (greatN ds (ks.take j) 0 + depAt fSh k)
            rw [HLEN.out] at h
            rw [h, HNEXT.out _ (by rw [HDG.out, List.take_of_length_le (by rw [HKL.out]; omega)])]
          rw [nz_set, e5, Int.natCast_add] at hset
          have HSET := Lib.hid hset
          generalize greatN ds (ks.take j) 0 = m at *
          generalize depAt fSh k = dk at *
          clear hB2 hD2 hset e5
          go_wp2_with fail
          go_region_with (go_at_call 35; refine HCO.out.mono ?_; rintro e w1 ⟨rfl, rfl⟩)
          all_goals
            go_wp2_with fail
            go_roundw
            case rel => exact ⟨i + 1, by omega, by go_num, (HB2.out.put (p := ⟨w2.heap.size, i, none⟩) HSZ.out _).drew, HSET.out⟩
            case measure => simp [intOf]; omega
    · have e3 : decide ((i : Int) < (L : Int)) = false := decide_eq_false (by omega)
      have e3' : decide (i < L) = false := decide_eq_false hil
      obtain rfl : i = L := by omega
      obtain ⟨m, rfl⟩ : ∃ m, i = m + 1 := ⟨i - 1, by omega⟩
      obtain ⟨x, hx⟩ : ∃ x, (runL depG (gs.take (m + 1)) [])[m]? = some x := ⟨_, List.getElem?_eq_getElem (by rw [hlen]; omega)⟩
      obtain ⟨q1, f1⟩ := ints_cell (j := m) (x := (x : Int)) hD (nz_at (rowZ_at hx))
      have HE : Hid (depC gs = x) := Lib.hid (by
        rw [← HFU.out (runL depG (gs.take (m + 1)) []) rfl, show m + 1 - 1 = m from rfl, hx]; rfl)
      clear hB hD hx hlen
      go_wp2_with fail
      go_ret
      exact ⟨by rw [HE.out]; rfl, HB.out.bel⟩
end Go.Proofs.YtcophfhnhlaonaaDoor
