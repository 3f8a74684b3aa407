/-
  Contracts of valuesOf, values and inputsFrom of package circuit.
-/
import Derived.Test.YtcophfhnhlaonaaDoorCil
import Derived.Test.YtcophfhnhlaonaaDoorUp
namespace Go.Proofs.YtcophfhnhlaonaaDoor
set_option linter.unusedVariables false
open Go.RowKit

def atW (ws : List (BitVec 64)) (x : Int) : BitVec 64 := ws[x.toNat]?.getD 0
/-- The values of a gate. -/
def valG (x ws : List (BitVec 64)) (g : Gat) : BitVec 64 :=
  if g.k = 0 then atW x g.n
  else if g.k = 1 then (if g.n = 0 then 0 else BitVec.allOnes 64)
  else if g.k = 2 then ~~~ (atW ws (g.ks[0]?.getD 0))
  else if g.k = 3 then atW ws (g.ks[0]?.getD 0) &&& atW ws (g.ks[1]?.getD 0)
  else if g.k = 4 then atW ws (g.ks[0]?.getD 0) ||| atW ws (g.ks[1]?.getD 0)
  else atW ws (g.ks[0]?.getD 0) ^^^ atW ws (g.ks[1]?.getD 0)
theorem atW_at {ws : List (BitVec 64)} {a : Nat} {y : BitVec 64} (h : ws[a]? = some y) : atW ws (a : Int) = y := by simp [atW, h]

set_option maxRecDepth 100000 in
set_option maxHeartbeats 8000000 in
theorem valuesOf_ok (inp : Int) (e : Nat) (k n : Int) (ks : List Int) (K AX AW : Option Addr) (kc cx cw N : Nat) (xs ws : List (BitVec 64)) (w : World) (hok : okG inp e ⟨k, n, ks⟩ = true) (hx : inp ≤ (xs.length : Int)) (hxl : xs.length ≤ 1048576) (hws : ws.length = e) (hN : e ≤ N) (hN2 : N ≤ 1048576) (hK : RdI w K ks) (hX : RdW w AX xs) (hW : RdW w AW (rowZ ws N 0)) :
    Calls Tryd.prog 52 #[.agg #[.int .i64 k, .int .i64 n, .slice K ks.length kc], .slice AW N cw, .slice AX xs.length cx] w fun r w' => r = .returned (.int .u64 (((valG xs ws ⟨k, n, ks⟩).toNat : Nat) : Int)) ∧ Below w.heap.size w w' := by
  have hb1 := below1 w (.cells #[.int .i64 k, .int .i64 n, .slice K ks.length kc] 59)
  have HB1 := Lib.hid hb1
  have HX := Lib.hid hX
  have HW := Lib.hid hW
  have HK := Lib.hid hK
  clear hK hX hW
  rcases okG_cases hok with ⟨h0, h1, h2, h3⟩ | ⟨h0, h1, h2⟩ | ⟨a, h0, h1, h2, h3⟩ | ⟨a, b, h0, h1, h2, h3, h4⟩
  · dsimp only at h0 h1 h2 h3
    subst h0
    subst h3
    obtain ⟨n', rfl⟩ : ∃ n' : Nat, n = n' := ⟨n.toNat, by omega⟩
    have hnl : n' < xs.length := by omega
    obtain ⟨x, hxx⟩ : ∃ x, xs[n']? = some x := ⟨_, List.getElem?_eq_getElem hnl⟩
    obtain ⟨b, off, rfl, c0⟩ := HX.out n' x hxx
    have c1 := (hb1.cell (World.block_lt_of_cell? w _ c0)).trans c0
    have HV : Hid (valG xs ws ⟨0, (n' : Int), []⟩ = x) := Lib.hid (by rw [valG, if_pos rfl]; exact atW_at hxx)
    simp only [List.length_nil] at c1
    clear hok hb1 hxx c0 h1 h2
    go_enter Tryd.func52, Tryd.ntmps52
    go_wp2_with fail
    go_ret
    exact ⟨by rw [HV.out]; rfl, HB1.out⟩
  · dsimp only at h0 h1 h2
    subst h0
    subst h2
    clear hok hb1
    rcases h1 with rfl | rfl
    · have HV : Hid (valG xs ws ⟨1, 0, []⟩ = 0) := Lib.hid rfl
      go_enter Tryd.func52, Tryd.ntmps52
      go_wp2_with fail
      go_ret
      exact ⟨by rw [HV.out]; rfl, HB1.out⟩
    · have HV : Hid (valG xs ws ⟨1, 1, []⟩ = BitVec.allOnes 64) := Lib.hid rfl
      go_enter Tryd.func52, Tryd.ntmps52
      go_wp2_with fail
      go_ret
      exact ⟨by rw [HV.out]; rfl, HB1.out⟩
  · dsimp only at h0 h1 h2 h3
    subst h0
    subst h1
    subst h2
    obtain ⟨va, hva⟩ : ∃ x, ws[a]? = some x := ⟨_, List.getElem?_eq_getElem (by omega)⟩
    obtain ⟨b, off, rfl, c0⟩ := HW.out a va (rowZ_at hva)
    have c1 := (hb1.cell (World.block_lt_of_cell? w _ c0)).trans c0
    obtain ⟨p, rfl, e0⟩ := HK.out 0 (a : Int) rfl
    rw [show p.add 0 = p by simp [Addr.add]] at e0
    obtain ⟨pb, po, rfl⟩ : ∃ b o, p = ⟨b, o, none⟩ := ⟨_, _, spot_none e0⟩
    have e1 := (hb1.cell (World.block_lt_of_cell? w _ e0)).trans e0
    have HV : Hid (valG xs ws ⟨2, 0, [(a : Int)]⟩ = ~~~ va) := Lib.hid (by rw [← atW_at hva]; rfl)
    have HNOT := Lib.hid (not_u64 va)
    have haN : a < N := by omega
    simp only [List.length_cons, List.length_nil, Nat.zero_add] at c1 e1 HB1 ⊢
    clear hok hb1 hva c0 e0
    go_enter Tryd.func52, Tryd.ntmps52
    go_wp2_with fail
    go_ret
    exact ⟨by rw [HV.out, ← HNOT.out]; rfl, HB1.out⟩
  · dsimp only at h0 h1 h2 h3 h4
    subst h1
    subst h2
    obtain ⟨va, hva⟩ : ∃ x, ws[a]? = some x := ⟨_, List.getElem?_eq_getElem (by omega)⟩
    obtain ⟨vb, hvb⟩ : ∃ x, ws[b]? = some x := ⟨_, List.getElem?_eq_getElem (by omega)⟩
    obtain ⟨wb, woff, rfl, c0⟩ := HW.out a va (rowZ_at hva)
    obtain ⟨wb', woff', hwe, d0⟩ := HW.out b vb (rowZ_at hvb)
    cases hwe
    have c1 := (hb1.cell (World.block_lt_of_cell? w _ c0)).trans c0
    have d1 := (hb1.cell (World.block_lt_of_cell? w _ d0)).trans d0
    obtain ⟨p, rfl, e0⟩ := HK.out 0 (a : Int) rfl
    obtain ⟨p', hpe, f0⟩ := HK.out 1 (b : Int) rfl
    cases hpe
    rw [show p.add 0 = p by simp [Addr.add]] at e0
    obtain ⟨pb, po, rfl⟩ : ∃ b o, p = ⟨b, o, none⟩ := ⟨_, _, spot_none e0⟩
    rw [add_none] at f0
    have e1 := (hb1.cell (World.block_lt_of_cell? w _ e0)).trans e0
    have f1 := (hb1.cell (World.block_lt_of_cell? w _ f0)).trans f0
    have haN : a < N := by omega
    have hbN : b < N := by omega
    have HA := Lib.hid (atW_at hva)
    have HB := Lib.hid (atW_at hvb)
    simp only [List.length_cons, List.length_nil, Nat.zero_add, Nat.reduceAdd] at c1 d1 e1 f1 HB1 ⊢
    clear hok hb1 hva hvb c0 d0 e0 f0
    rcases h0 with rfl | rfl | rfl
    · have HV : Hid (valG xs ws ⟨3, 0, [(a : Int), (b : Int)]⟩ = va &&& vb) := Lib.hid (by rw [← HA.out, ← HB.out]; rfl)
      have HBO := Lib.hid (and_u64 va vb)
      go_enter Tryd.func52, Tryd.ntmps52
      go_wp2_with fail
      go_region
      all_goals
        go_wp2_with fail
        go_ret
        exact ⟨by rw [HV.out, ← HBO.out]; rfl, HB1.out.drew⟩
    · have HV : Hid (valG xs ws ⟨4, 0, [(a : Int), (b : Int)]⟩ = va ||| vb) := Lib.hid (by rw [← HA.out, ← HB.out]; rfl)
      have HBO := Lib.hid (or_u64 va vb)
      go_enter Tryd.func52, Tryd.ntmps52
      go_wp2_with fail
      go_region
      all_goals
        go_wp2_with fail
        go_ret
        exact ⟨by rw [HV.out, ← HBO.out]; rfl, HB1.out.drew⟩
    · have HV : Hid (valG xs ws ⟨5, 0, [(a : Int), (b : Int)]⟩ = va ^^^ vb) := Lib.hid (by rw [← HA.out, ← HB.out]; rfl)
      have HBO := Lib.hid (xor_u64 va vb)
      go_enter Tryd.func52, Tryd.ntmps52
      go_wp2_with fail
      go_region
      all_goals
        go_wp2_with fail
        go_ret
        exact ⟨by rw [HV.out, ← HBO.out]; rfl, HB1.out.drew⟩

def valsL (x : List (BitVec 64)) (gs : List Gat) : List (BitVec 64) := runL (valG x) gs []
def valC (x : List (BitVec 64)) (gs : List Gat) : BitVec 64 := (valsL x gs)[gs.length - 1]?.getD 0

set_option maxRecDepth 100000 in
set_option maxHeartbeats 8000000 in
theorem values_okC (inp : Int) (gs : List Gat) (A AX : Option Addr) (c cx : Nat) (xs : List (BitVec 64)) (w : World) (hR : RdG w A gs) (hok : okC inp gs = true) (hx : inp ≤ (xs.length : Int)) (hxl : xs.length ≤ 1048576) (hX : RdW w AX xs) :
    Calls Tryd.prog 36 #[.slice A gs.length c, .slice AX xs.length cx] w fun r w' => r = .returned (.int .u64 (((valC xs gs).toNat : Nat) : Int)) ∧ Below w.heap.size w w' := by
  have HR := Lib.hid hR
  have HXR := Lib.hid hX
  obtain ⟨-, -, hl1, hl2, -⟩ := okC_iff.1 hok
  have HGG := Lib.hid (fun i g (hg : gs[i]? = some g) => okC_at hok hg)
  have HLN := Lib.hid (fun i hi => runL_len (f := valG xs) gs i hi)
  have HFU : Hid (∀ l : List (BitVec 64), l = runL (valG xs) (gs.take gs.length) [] → l[gs.length - 1]?.getD 0 = valC xs gs) := Lib.hid (fun l hl => by rw [hl, List.take_length]; rfl)
  have HX := Lib.hid hx
  clear hok hR hX hx
  generalize hL : gs.length = L at *
  have HL := Lib.hid hL
  clear hL
  have hmk := make_words L (by omega)
  have HST : Hid (Below w.heap.size w (w.alloc (wdO (List.replicate L 0))) ∧ (w.alloc (wdO (List.replicate L 0))).heap[w.heap.size]? = some (wdO (rowZ (runL (valG xs) (gs.take 0) []) L 0))) :=
    Lib.hid ⟨below1 _ _, by rw [alloc_at _ _ _ rfl]; simp [runL, rowZ_nil]⟩
  go_enter Tryd.func36, Tryd.ntmps36
  go_wp2_with fail
  go_loopw [6, 7, 13] (fun _ _ iv W => ∃ i : Nat, i ≤ L ∧ iv = .int .i64 i ∧ Below w.heap.size w W ∧ W.heap[w.heap.size]? = some (wdO (rowZ (runL (valG xs) (gs.take i) []) L 0))) (fun _ _ iv _ => L - (intOf iv).toNat)
  case atStart => exact ⟨0, by omega, rfl, HST.out.1, HST.out.2⟩
  case round =>
    obtain ⟨i, hi, rfl, hB, hD⟩ := hrel
    have HB := Lib.hid hB
    have hlen := HLN.out i hi
    by_cases hil : i < L
    · obtain ⟨⟨k, n, ks⟩, hg⟩ : ∃ g, gs[i]? = some g := ⟨_, List.getElem?_eq_getElem (by rw [HL.out]; exact hil)⟩
      obtain ⟨b, off, u, rfl, g0, g1, g2, K, kc, rfl, hK, hKl⟩ := HR.out i _ hg
      have e0 := (HB.out.cell (World.block_lt_of_cell? w _ g0)).trans g0
      have e1 := (HB.out.cell (World.block_lt_of_cell? w _ g1)).trans g1
      have e2 := (HB.out.cell (World.block_lt_of_cell? w _ g2)).trans g2
      have hok := HGG.out i _ hg
      have hd1 := HB.out.trans ((below1 wr (.cells #[.int .i64 k, .int .i64 n, .slice K ks.length kc] 59)).mono HB.out.size)
      have hD1 : (wr.alloc (.cells #[.int .i64 k, .int .i64 n, .slice K ks.length kc] 59)).heap[w.heap.size]? = some (wdO (rowZ (runL (valG xs) (gs.take i) []) L 0)) := ((below1 wr _).block _ (Array.getElem?_eq_some_iff.1 hD).1).trans hD
      have HC := Lib.hid (valuesOf_ok inp i k n ks K AX (some ⟨w.heap.size, 0, none⟩) kc cx L L xs (runL (valG xs) (gs.take i) []) _ hok HX.out hxl hlen (by omega) (by omega) (hK.below hd1) (HXR.out.below hd1) (RdW.of_block hD1))
      have HNX : Hid (∀ d, d = valG xs (runL (valG xs) (gs.take i) []) ⟨k, n, ks⟩ → (rowZ (runL (valG xs) (gs.take i) []) L 0).set i d = rowZ (runL (valG xs) (gs.take (i + 1)) []) L 0) := Lib.hid (fun d hd => by
        have h := rowZ_next (z := 0) (show (runL (valG xs) (gs.take i) []).length < L by omega) d
        rw [hlen] at h
        rw [h, hd, runL_next hg])
      have HD1 := Lib.hid (And.intro hd1 hD1)
      have HCU : Hid ((rowZ (runL (valG xs) (gs.take i) []) L (0 : BitVec 64))[i]? = some 0) := Lib.hid (by
        have := rowZ_cur (z := (0 : BitVec 64)) (show (runL (valG xs) (gs.take i) []).length < L by omega)
        rw [hlen] at this
        exact this)
      have hnx := HNX.out _ rfl
      generalize valG xs (runL (valG xs) (gs.take i) []) ⟨k, n, ks⟩ = vv at *
      generalize ks.length = kl at *
      generalize hrz : rowZ (runL (valG xs) (gs.take i) []) L 0 = rz at *
      have HNX2 := Lib.hid hnx
      clear hg g0 g1 g2 hK hKl hok hB hD hD1 hd1 hrz hnx HNX
      generalize hW1 : wr.alloc (.cells #[.int .i64 k, .int .i64 n, .slice K kl kc] 59) = w1 at *
      have HW1 := Lib.hid hW1
      clear hW1
      go_upto_region 5 with fail
      rw [HW1.out]
      have hbx : w1.heap[wr.heap.size]? = some (.cells #[.int .i64 k, .int .i64 n, .slice K kl kc] 59 (0, 0)) := by rw [← HW1.out]; exact alloc_at _ _ _ rfl
      obtain ⟨⟨p0, p1, p2⟩, _⟩ := blk3_cells hbx
      clear hbx
      go_wp2_with fail
      refine HC.out.mono ?_
      rintro e w2 ⟨rfl, hB2⟩
      have hg2 := (hB2.block _ (Array.getElem?_eq_some_iff.1 HD1.out.2).1).trans HD1.out.2
      obtain ⟨q1, f1⟩ := wd_cell (j := i) (x := 0) hg2 HCU.out
      have hset := wd_set (j := i) vv hg2
      rw [HNX2.out] at hset
      have HSET := Lib.hid (And.intro hset ((HD1.out.1.trans (hB2.mono HD1.out.1.size)).setCell (p := ⟨w.heap.size, i, none⟩) (Nat.le_refl _) (.int .u64 ((vv.toNat : Nat) : Int))))
      clear hB2 hg2 hset
      go_wp2_with fail
      go_roundw
      case rel => exact ⟨i + 1, by omega, by go_num, HSET.out.2, HSET.out.1⟩
      case measure => simp [intOf]; omega
    · obtain rfl : i = L := by omega
      obtain ⟨m, rfl⟩ : ∃ m, i = m + 1 := ⟨i - 1, by omega⟩
      obtain ⟨x, hx⟩ : ∃ x, (runL (valG xs) (gs.take (m + 1)) [])[m]? = some x := ⟨_, List.getElem?_eq_getElem (by rw [hlen]; omega)⟩
      obtain ⟨q1, f1⟩ := wd_cell (j := m) (x := x) hD (rowZ_at hx)
      have HE : Hid (valC xs gs = x) := Lib.hid (by
        rw [← HFU.out (runL (valG xs) (gs.take (m + 1)) []) rfl, show m + 1 - 1 = m from rfl, hx]; rfl)
      clear hB hD hx hlen
      go_wp2_with fail
      go_ret
      exact ⟨by rw [HE.out]; rfl, HB.out⟩

set_option maxRecDepth 100000 in
set_option maxHeartbeats 4000000 in
theorem inputsFromC_ok (start n : Nat) (hs : start ≤ 8192) (hn : n ≤ 16) (w : World) :
    Calls Tryd.prog 37 #[.int .i64 (start : Int), .int .i64 (n : Int)] w fun e w' => ∃ g, w.heap.size ≤ g ∧ e = .returned (.slice (some ⟨g, 0, none⟩) n n) ∧ w'.heap[g]? = some (wdO (rowI start n n 0)) ∧ Below w.heap.size w w' := by
  have hmk := make_words n (by omega)
  have HST := Lib.hid (show (w.alloc (wdO (List.replicate n 0))).heap[w.heap.size]? = some (wdO (rowI start n 0 0)) by rw [rowI_zero]; exact alloc_at _ _ _ rfl)
  have HB0 := Lib.hid (below1 w (wdO (List.replicate n 0)))
  go_enter Tryd.func37, Tryd.ntmps37
  go_wp2_with fail
  go_loopw [6, 7, 12, 15] (fun _ _ iv _ W => ∃ i : Nat, i ≤ n ∧ iv = .int .i64 i ∧ W.heap[w.heap.size]? = some (wdO (rowI start n i 0)) ∧ Below w.heap.size w W) (fun _ _ iv _ _ => n - (intOf iv).toNat)
  case atStart => exact ⟨0, by omega, rfl, HST.out, HB0.out⟩
  case round =>
    obtain ⟨i, hi, rfl, hg, hB⟩ := hrel
    have HG := Lib.hid (And.intro hg hB)
    clear hg hB HST HB0
    by_cases hlt : i < n
    · obtain ⟨wo, rfl⟩ : ∃ wo : World, wo = wr := ⟨_, rfl⟩
      go_wp2_with fail
      go_loopw [7, 15] (fun _ jv W => ∃ j : Nat, j ≤ 64 ∧ jv = .int .i64 j ∧ W.heap[w.heap.size]? = some (wdO (rowI start n i j)) ∧ Below w.heap.size w W) (fun _ jv _ => 64 - (intOf jv).toNat)
      case atStart => exact ⟨0, by omega, rfl, HG.out⟩
      case round =>
        clear HG
        obtain ⟨j, hj, rfl, hg, hB⟩ := hrel
        have HGJ := Lib.hid hg
        have HBJ := Lib.hid hB
        by_cases hjl : j < 64
        · obtain ⟨c1, f1⟩ := wd_cell hg (rowI_at hlt)
          have hset := wd_set (j := i) (inpW start i j ||| (BitVec.ofNat 64 (bitN (start + j) i) <<< j)) hg
          rw [show (rowI start n i j).set i (inpW start i j ||| (BitVec.ofNat 64 (bitN (start + j) i) <<< j)) = rowI start n i (j + 1) from rowI_next hlt] at hset
          have hbit := ins_bit (inpW start i j) (start + j) i j (by omega) hjl
          rw [← hbit, show ((start + j : Nat) : Int) = (start : Int) + (j : Int) by omega] at hset
          have HSET := Lib.hid hset
          generalize inpW start i j = x at *
          clear hg hB hset hbit
          go_wp2_with fail
          go_region
          go_wp2_with fail
          go_roundw
          case rel => exact ⟨j + 1, by omega, by go_num, HSET.out, (HBJ.out.setCell (p := ⟨w.heap.size, i, none⟩) (Nat.le_refl _) _).drew⟩
          case measure => simp [intOf]; omega
        · have hjj : j = 64 := by omega
          have HG2 : Hid (wr.heap[w.heap.size]? = some (wdO (rowI start n (i + 1) 0))) := Lib.hid (by rw [← rowI_full, ← hjj]; exact hg)
          clear hg hB
          go_wp2_with fail
          go_roundw
          case rel => exact ⟨i + 1, by omega, by go_num, HG2.out, HBJ.out⟩
          case measure => simp [intOf]; omega
    · have hin : i = n := by omega
      have HG2 : Hid (wr.heap[w.heap.size]? = some (wdO (rowI start n n 0)) ∧ Below w.heap.size w wr) := Lib.hid (by have h := HG.out.1; rw [hin] at h; exact ⟨h, HG.out.2⟩)
      clear hin
      go_wp2_with fail
      go_ret
      exact ⟨w.heap.size, Nat.le_refl _, rfl, HG2.out⟩

end Go.Proofs.YtcophfhnhlaonaaDoor
