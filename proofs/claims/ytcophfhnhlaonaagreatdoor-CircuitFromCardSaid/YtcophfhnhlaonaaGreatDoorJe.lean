/-
  Joined from Cim, Cin, Cio: see there.
-/
import Derived.Test.YtcophfhnhlaonaaGreatDoorJd
import Derived.Test.YtcophfhnhlaonaaGreatDoorUp
import Derived.Test.YtcophfhnhlaonaaGreatDoorVb
namespace Go.Proofs.YtcophfhnhlaonaaGreatDoor
set_option linter.unusedVariables false
open Go.RowKit

def atW (ws : List (BitVec 64)) (x : Int) : BitVec 64 := ws[x.toNat]?.getD 0
/-- The values of a gate. -/
def valG (x ws : List (BitVec 64)) (g : Gat) : BitVec 64 :=
  if g.k = 0 then atW x g.n
  else if g.k = 1 then (if g.n = 0 then 0 else BitVec.allOnes 64)
  else if g.k = 2 then ~~~ (atW ws (g.ks[0]?.getD 0))
  else if g.k = 3 then atW ws (g.ks[0]?.getD 0) &&& atW ws (g.ks[1]?.getD 0)
  else if g.k = 4 then atW ws (g.ks[0]?.getD 0) ||| atW ws (g.ks[1]?.getD 0)
  else atW ws (g.ks[0]?.getD 0) ^^^ atW ws (g.ks[1]?.getD 0)
theorem atW_at {ws : List (BitVec 64)} {a : Nat} {y : BitVec 64} (h : ws[a]? = some y) : atW ws (a : Int) = y := by simp [atW, h]

set_option maxRecDepth 100000 in
set_option maxHeartbeats 8000000 in
theorem valuesOf_ok (inp : Int) (e : Nat) (k n : Int) (ks : List Int) (K AX AW : Option Addr) (kc cx cw N : Nat) (xs ws : List (BitVec 64)) (w : World) (hok : okG inp e ⟨k, n, ks⟩ = true) (hx : inp ≤ (xs.length : Int)) (hxl : xs.length ≤ 1048576) (hws : ws.length = e) (hN : e ≤ N) (hN2 : N ≤ 1048576) (hK : RdI w K ks) (hX : RdW w AX xs) (hW : RdW w AW (rowZ ws N 0)) :
    Calls Tryz.prog 72 #[.agg #[.int .i64 k, .int .i64 n, .slice K ks.length kc], .slice AW N cw, .slice AX xs.length cx] w fun r w' => r = .returned (.int .u64 (((valG xs ws ⟨k, n, ks⟩).toNat : Nat) : Int)) ∧ Below w.heap.size w w' := by
  have hb1 := below1 w (.cells #[.int .i64 k, .int .i64 n, .slice K ks.length kc] 78)
  have HB1 := Lib.hid hb1
  have HX := Lib.hid hX
  have HW := Lib.hid hW
  have HK := Lib.hid hK
  clear hK hX hW
  rcases okG_cases hok with ⟨h0, h1, h2, h3⟩ | ⟨h0, h1, h2⟩ | ⟨a, h0, h1, h2, h3⟩ | ⟨a, b, h0, h1, h2, h3, h4⟩
  · dsimp only at h0 h1 h2 h3
    subst h0
    subst h3
    obtain ⟨n', rfl⟩ : ∃ n' : Nat, n = n' := ⟨n.toNat, by omega⟩
    have hnl : n' < xs.length := by omega
    obtain ⟨x, hxx⟩ : ∃ x, xs[n']? = some x := ⟨_, List.getElem?_eq_getElem hnl⟩
    obtain ⟨b, off, rfl, c0⟩ := HX.out n' x hxx
    have c1 := (hb1.cell (World.block_lt_of_cell? w _ c0)).trans c0
    have HV : Hid (valG xs ws ⟨0, (n' : Int), []⟩ = x) := Lib.hid (by rw [valG, if_pos rfl]; exact atW_at hxx)
    simp only [List.length_nil] at c1
    clear hok hb1 hxx c0 h1 h2
    go_enter Tryz.func72, Tryz.ntmps72
    go_wp2_with fail
    go_ret
    exact ⟨by rw [HV.out]; rfl, HB1.out⟩
  · dsimp only at h0 h1 h2
    subst h0
    subst h2
    clear hok hb1
    rcases h1 with rfl | rfl
    · have HV : Hid (valG xs ws ⟨1, 0, []⟩ = 0) := Lib.hid rfl
      go_enter Tryz.func72, Tryz.ntmps72
      go_wp2_with fail
      go_ret
      exact ⟨by rw [HV.out]; rfl, HB1.out⟩
    · have HV : Hid (valG xs ws ⟨1, 1, []⟩ = BitVec.allOnes 64) := Lib.hid rfl
      go_enter Tryz.func72, Tryz.ntmps72
      go_wp2_with fail
      go_ret
      exact ⟨by rw [HV.out]; rfl, HB1.out⟩
  · dsimp only at h0 h1 h2 h3
    subst h0
    subst h1
    subst h2
    obtain ⟨va, hva⟩ : ∃ x, ws[a]? = some x := ⟨_, List.getElem?_eq_getElem (by omega)⟩
    obtain ⟨b, off, rfl, c0⟩ := HW.out a va (rowZ_at hva)
    have c1 := (hb1.cell (World.block_lt_of_cell? w _ c0)).trans c0
    obtain ⟨p, rfl, e0⟩ := HK.out 0 (a : Int) rfl
    rw [show p.add 0 = p by simp [Addr.add]] at e0
    obtain ⟨pb, po, rfl⟩ : ∃ b o, p = ⟨b, o, none⟩ := ⟨_, _, spot_none e0⟩
    have e1 := (hb1.cell (World.block_lt_of_cell? w _ e0)).trans e0
    have HV : Hid (valG xs ws ⟨2, 0, [(a : Int)]⟩ = ~~~ va) := Lib.hid (by rw [← atW_at hva]; rfl)
    have HNOT := Lib.hid (not_u64 va)
    have haN : a < N := by omega
    simp only [List.length_cons, List.length_nil, Nat.zero_add] at c1 e1 HB1 ⊢
    clear hok hb1 hva c0 e0
    go_enter Tryz.func72, Tryz.ntmps72
    go_wp2_with fail
    go_ret
    exact ⟨by rw [HV.out, ← HNOT.out]; rfl, HB1.out⟩
  · dsimp only at h0 h1 h2 h3 h4
    subst h1
    subst h2
    obtain ⟨va, hva⟩ : ∃ x, ws[a]? = some x := ⟨_, List.getElem?_eq_getElem (by omega)⟩
    obtain ⟨vb, hvb⟩ : ∃ x, ws[b]? = some x := ⟨_, List.getElem?_eq_getElem (by omega)⟩
    obtain ⟨wb, woff, rfl, c0⟩ := HW.out a va (rowZ_at hva)
    obtain ⟨wb', woff', hwe, d0⟩ := HW.out b vb (rowZ_at hvb)
    cases hwe
    have c1 := (hb1.cell (World.block_lt_of_cell? w _ c0)).trans c0
    have d1 := (hb1.cell (World.block_lt_of_cell? w _ d0)).trans d0
    obtain ⟨p, rfl, e0⟩ := HK.out 0 (a : Int) rfl
    obtain ⟨p', hpe, f0⟩ := HK.out 1 (b : Int) rfl
    cases hpe
    rw [show p.add 0 = p by simp [Addr.add]] at e0
    obtain ⟨pb, po, rfl⟩ : ∃ b o, p = ⟨b, o, none⟩ := ⟨_, _, spot_none e0⟩
    rw [add_none] at f0
    have e1 := (hb1.cell (World.block_lt_of_cell? w _ e0)).trans e0
    have f1 := (hb1.cell (World.block_lt_of_cell? w _ f0)).trans f0
    have haN : a < N := by omega
    have hbN : b < N := by omega
    have HA := Lib.hid (atW_at hva)
    have HB := Lib.hid (atW_at hvb)
    simp only [List.length_cons, List.length_nil, Nat.zero_add, Nat.reduceAdd] at c1 d1 e1 f1 HB1 ⊢
    clear hok hb1 hva hvb c0 d0 e0 f0
    rcases h0 with rfl | rfl | rfl
    · have HV : Hid (valG xs ws ⟨3, 0, [(a : Int), (b : Int)]⟩ = va &&& vb) := Lib.hid (by rw [← HA.out, ← HB.out]; rfl)
      have HBO := Lib.hid (and_u64 va vb)
      go_enter Tryz.func72, Tryz.ntmps72
      go_wp2_with fail
      go_region
      all_goals
        go_wp2_with fail
        go_ret
        exact ⟨by rw [HV.out, ← HBO.out]; rfl, HB1.out.drew⟩
    · have HV : Hid (valG xs ws ⟨4, 0, [(a : Int), (b : Int)]⟩ = va ||| vb) := Lib.hid (by rw [← HA.out, ← HB.out]; rfl)
      have HBO := Lib.hid (or_u64 va vb)
      go_enter Tryz.func72, Tryz.ntmps72
      go_wp2_with fail
      go_region
      all_goals
        go_wp2_with fail
        go_ret
        exact ⟨by rw [HV.out, ← HBO.out]; rfl, HB1.out.drew⟩
    · have HV : Hid (valG xs ws ⟨5, 0, [(a : Int), (b : Int)]⟩ = va ^^^ vb) := Lib.hid (by rw [← HA.out, ← HB.out]; rfl)
      have HBO := Lib.hid (xor_u64 va vb)
      go_enter Tryz.func72, Tryz.ntmps72
      go_wp2_with fail
      go_region
      all_goals
        go_wp2_with fail
        go_ret
        exact ⟨by rw [HV.out, ← HBO.out]; rfl, HB1.out.drew⟩

def valsL (x : List (BitVec 64)) (gs : List Gat) : List (BitVec 64) := runL (valG x) gs []
def valC (x : List (BitVec 64)) (gs : List Gat) : BitVec 64 := (valsL x gs)[gs.length - 1]?.getD 0

set_option maxRecDepth 100000 in
set_option maxHeartbeats 8000000 in
theorem values_okC (inp : Int) (gs : List Gat) (A AX : Option Addr) (c cx : Nat) (xs : List (BitVec 64)) (w : World) (hR : RdG w A gs) (hok : okC inp gs = true) (hx : inp ≤ (xs.length : Int)) (hxl : xs.length ≤ 1048576) (hX : RdW w AX xs) :
    Calls Tryz.prog 57 #[.slice A gs.length c, .slice AX xs.length cx] w fun r w' => r = .returned (.int .u64 (((valC xs gs).toNat : Nat) : Int)) ∧ Below w.heap.size w w' := by
  have HR := Lib.hid hR
  have HXR := Lib.hid hX
  obtain ⟨-, -, hl1, hl2, -⟩ := okC_iff.1 hok
  have HGG := Lib.hid (fun i g (hg : gs[i]? = some g) => okC_at hok hg)
  have HLN := Lib.hid (fun i hi => runL_len (f := valG xs) gs i hi)
  have HFU : Hid (∀ l : List (BitVec 64), l = runL (valG xs) (gs.take gs.length) [] → l[gs.length - 1]?.getD 0 = valC xs gs) := Lib.hid (fun l hl => by rw [hl, List.take_length]; rfl)
  have HX := Lib.hid hx
  clear hok hR hX hx
  generalize hL : gs.length = L at *
  have HL := Lib.hid hL
  clear hL
  have hmk := make_words L (by omega)
  have HST : Hid (Below w.heap.size w (w.alloc (wdO (List.replicate L 0))) ∧ (w.alloc (wdO (List.replicate L 0))).heap[w.heap.size]? = some (wdO (rowZ (runL (valG xs) (gs.take 0) []) L 0))) :=
    Lib.hid ⟨below1 _ _, by rw [alloc_at _ _ _ rfl]; simp [runL, rowZ_nil]⟩
  go_enter Tryz.func57, Tryz.ntmps57
  go_wp2_with fail
  go_loopw [6, 7, 13] (fun _ _ iv W => ∃ i : Nat, i ≤ L ∧ iv = .int .i64 i ∧ Below w.heap.size w W ∧ W.heap[w.heap.size]? = some (wdO (rowZ (runL (valG xs) (gs.take i) []) L 0))) (fun _ _ iv _ => L - (intOf iv).toNat)
  case atStart => exact ⟨0, by omega, rfl, HST.out.1, HST.out.2⟩
  case round =>
    obtain ⟨i, hi, rfl, hB, hD⟩ := hrel
    have HB := Lib.hid hB
    have hlen := HLN.out i hi
    by_cases hil : i < L
    · obtain ⟨⟨k, n, ks⟩, hg⟩ : ∃ g, gs[i]? = some g := ⟨_, List.getElem?_eq_getElem (by rw [HL.out]; exact hil)⟩
      obtain ⟨b, off, u, rfl, g0, g1, g2, K, kc, rfl, hK, hKl⟩ := HR.out i _ hg
      have e0 := (HB.out.cell (World.block_lt_of_cell? w _ g0)).trans g0
      have e1 := (HB.out.cell (World.block_lt_of_cell? w _ g1)).trans g1
      have e2 := (HB.out.cell (World.block_lt_of_cell? w _ g2)).trans g2
      have hok := HGG.out i _ hg
      have hd1 := HB.out.trans ((below1 wr (.cells #[.int .i64 k, .int .i64 n, .slice K ks.length kc] 78)).mono HB.out.size)
      have hD1 : (wr.alloc (.cells #[.int .i64 k, .int .i64 n, .slice K ks.length kc] 78)).heap[w.heap.size]? = some (wdO (rowZ (runL (valG xs) (gs.take i) []) L 0)) := ((below1 wr _).block _ (Array.getElem?_eq_some_iff.1 hD).1).trans hD
      have HC := Lib.hid (valuesOf_ok inp i k n ks K AX (some ⟨w.heap.size, 0, none⟩) kc cx L L xs (runL (valG xs) (gs.take i) []) _ hok HX.out hxl hlen (by omega) (by omega) (hK.below hd1) (HXR.out.below hd1) (RdW.of_block hD1))
      have HNX : Hid (∀ d, d = valG xs (runL (valG xs) (gs.take i) []) ⟨k, n, ks⟩ → (rowZ (runL (valG xs) (gs.take i) []) L 0).set i d = rowZ (runL (valG xs) (gs.take (i + 1)) []) L 0) := Lib.hid (fun d hd => by
        have h := rowZ_next (z := 0) (show (runL (valG xs) (gs.take i) []).length < L by omega) d
        rw [hlen] at h
        rw [h, hd, runL_next hg])
      have HD1 := Lib.hid (And.intro hd1 hD1)
      have HCU : Hid ((rowZ (runL (valG xs) (gs.take i) []) L (0 : BitVec 64))[i]? = some 0) := Lib.hid (by
        have := rowZ_cur (z := (0 : BitVec 64)) (show (runL (valG xs) (gs.take i) []).length < L by omega)
        rw [hlen] at this
        exact this)
      have hnx := HNX.out _ rfl
      generalize valG xs (runL (valG xs) (gs.take i) []) ⟨k, n, ks⟩ = vv at *
      generalize ks.length = kl at *
      generalize hrz : rowZ (runL (valG xs) (gs.take i) []) L 0 = rz at *
      have HNX2 := Lib.hid hnx
      clear hg g0 g1 g2 hK hKl hok hB hD hD1 hd1 hrz hnx HNX
      generalize hW1 : wr.alloc (.cells #[.int .i64 k, .int .i64 n, .slice K kl kc] 78) = w1 at *
      have HW1 := Lib.hid hW1
      clear hW1
      go_upto_region 5 with fail
      rw [HW1.out]
      have hbx : w1.heap[wr.heap.size]? = some (.cells #[.int .i64 k, .int .i64 n, .slice K kl kc] 78 (0, 0)) := by rw [← HW1.out]; exact alloc_at _ _ _ rfl
      obtain ⟨⟨p0, p1, p2⟩, _⟩ := blk3_cells hbx
      clear hbx
      go_wp2_with fail
      refine HC.out.mono ?_
      rintro e w2 ⟨rfl, hB2⟩
      have hg2 := (hB2.block _ (Array.getElem?_eq_some_iff.1 HD1.out.2).1).trans HD1.out.2
      obtain ⟨q1, f1⟩ := wd_cell (j := i) (x := 0) hg2 HCU.out
      have hset := wd_set (j := i) vv hg2
      rw [HNX2.out] at hset
      have HSET := Lib.hid (And.intro hset ((HD1.out.1.trans (hB2.mono HD1.out.1.size)).setCell (p := ⟨w.heap.size, i, none⟩) (Nat.le_refl _) (.int .u64 ((vv.toNat : Nat) : Int))))
      clear hB2 hg2 hset
      go_wp2_with fail
      go_roundw
      case rel => exact ⟨i + 1, by omega, by go_num, HSET.out.2, HSET.out.1⟩
      case measure => simp [intOf]; omega
    · obtain rfl : i = L := by omega
      obtain ⟨m, rfl⟩ : ∃ m, i = m + 1 := ⟨i - 1, by omega⟩
      obtain ⟨x, hx⟩ : ∃ x, (runL (valG xs) (gs.take (m + 1)) [])[m]? = some x := ⟨_, List.getElem?_eq_getElem (by rw [hlen]; omega)⟩
      obtain ⟨q1, f1⟩ := wd_cell (j := m) (x := x) hD (rowZ_at hx)
      have HE : Hid (valC xs gs = x) := Lib.hid (by
        rw [← HFU.out (runL (valG xs) (gs.take (m + 1)) []) rfl, show m + 1 - 1 = m from rfl, hx]; rfl)
      clear hB hD hx hlen
      go_wp2_with fail
      go_ret
      exact ⟨by rw [HE.out]; rfl, HB.out⟩

set_option maxRecDepth 100000 in
set_option maxHeartbeats 4000000 in
theorem inputsFromC_ok (start n : Nat) (hs : start ≤ 8192) (hn : n ≤ 16) (w : World) :
    Calls Tryz.prog 58 #[.int .i64 (start : Int), .int .i64 (n : Int)] w fun e w' => ∃ g, w.heap.size ≤ g ∧ e = .returned (.slice (some ⟨g, 0, none⟩) n n) ∧ w'.heap[g]? = some (wdO (rowI start n n 0)) ∧ Below w.heap.size w w' := by
  have hmk := make_words n (by omega)
  have HST := Lib.hid (show (w.alloc (wdO (List.replicate n 0))).heap[w.heap.size]? = some (wdO (rowI start n 0 0)) by rw [rowI_zero]; exact alloc_at _ _ _ rfl)
  have HB0 := Lib.hid (below1 w (wdO (List.replicate n 0)))
  go_enter Tryz.func58, Tryz.ntmps58
  go_wp2_with fail
  go_loopw [6, 7, 12, 15] (fun _ _ iv _ W => ∃ i : Nat, i ≤ n ∧ iv = .int .i64 i ∧ W.heap[w.heap.size]? = some (wdO (rowI start n i 0)) ∧ Below w.heap.size w W) (fun _ _ iv _ _ => n - (intOf iv).toNat)
  case atStart => exact ⟨0, by omega, rfl, HST.out, HB0.out⟩
  case round =>
    obtain ⟨i, hi, rfl, hg, hB⟩ := hrel
    have HG := Lib.hid (And.intro hg hB)
    clear hg hB HST HB0
    by_cases hlt : i < n
    · obtain ⟨wo, rfl⟩ : ∃ wo : World, wo = wr := ⟨_, rfl⟩
      go_wp2_with fail
      go_loopw [7, 15] (fun _ jv W => ∃ j : Nat, j ≤ 64 ∧ jv = .int .i64 j ∧ W.heap[w.heap.size]? = some (wdO (rowI start n i j)) ∧ Below w.heap.size w W) (fun _ jv _ => 64 - (intOf jv).toNat)
      case atStart => exact ⟨0, by omega, rfl, HG.out⟩
      case round =>
        clear HG
        obtain ⟨j, hj, rfl, hg, hB⟩ := hrel
        have HGJ := Lib.hid hg
        have HBJ := Lib.hid hB
        by_cases hjl : j < 64
        · obtain ⟨c1, f1⟩ := wd_cell hg (rowI_at hlt)
          have hset := wd_set (j := i) (inpW start i j ||| (BitVec.ofNat 64 (bitN (start + j) i) <<< j)) hg
          rw [show (rowI start n i j).set i (inpW start i j ||| (BitVec.ofNat 64 (bitN (start + j) i) <<< j)) = rowI start n i (j + 1) from rowI_next hlt] at hset
          have hbit := ins_bit (inpW start i j) (start + j) i j (by omega) hjl
          rw [← hbit, show ((start + j : Nat) : Int) = (start : Int) + (j : Int) by omega] at hset
          have HSET := Lib.hid hset
          generalize inpW start i j = x at *
          clear hg hB hset hbit
          go_wp2_with fail
          go_region
          go_wp2_with fail
          go_roundw
          case rel => exact ⟨j + 1, by omega, by go_num, HSET.out, (HBJ.out.setCell (p := ⟨w.heap.size, i, none⟩) (Nat.le_refl _) _).drew⟩
          case measure => simp [intOf]; omega
        · have hjj : j = 64 := by omega
          have HG2 : Hid (wr.heap[w.heap.size]? = some (wdO (rowI start n (i + 1) 0))) := Lib.hid (by rw [← rowI_full, ← hjj]; exact hg)
          clear hg hB
          go_wp2_with fail
          go_roundw
          case rel => exact ⟨i + 1, by omega, by go_num, HG2.out, HBJ.out⟩
          case measure => simp [intOf]; omega
    · have hin : i = n := by omega
      have HG2 : Hid (wr.heap[w.heap.size]? = some (wdO (rowI start n n 0)) ∧ Below w.heap.size w wr) := Lib.hid (by have h := HG.out.1; rw [hin] at h; exact ⟨h, HG.out.2⟩)
      clear hin
      go_wp2_with fail
      go_ret
      exact ⟨w.heap.size, Nat.le_refl _, rfl, HG2.out⟩

end Go.Proofs.YtcophfhnhlaonaaGreatDoor
namespace Go.Proofs.YtcophfhnhlaonaaGreatDoor
set_option linter.unusedVariables false
open Go.RowKit

/-- The first k entries of a table. -/
def tbR (f : Nat → Bool) (L k : Nat) : List Bool := (List.range L).map fun a => if a < k then f a else false
section
variable {f : Nat → Bool} {L k : Nat}
theorem tbR_length (f : Nat → Bool) (L k : Nat) : (tbR f L k).length = L := by simp [tbR]
theorem tbR_zero (f : Nat → Bool) (L : Nat) : tbR f L 0 = List.replicate L false := by
  apply List.ext_getElem?
  intro a
  by_cases h : a < L <;> simp [tbR, h]
theorem tbR_at (h : k < L) : (tbR f L k)[k]? = some false := by simp [tbR, h]
theorem tbR_full {a : Nat} (h : a < L) : (tbR f L L)[a]? = some (f a) := by simp [tbR, h]
theorem tbR_next (h : k < L) : (tbR f L k).set k (f k) = tbR f L (k + 1) := by
  apply List.ext_getElem?
  intro a
  rw [List.getElem?_set]
  by_cases ha : a < L
  · by_cases hka : k = a
    · subst hka
      simp [tbR, ha]
    · have h1 : ¬ a = k := fun e => hka e.symm
      by_cases hlt : a < k
      · have h2 : a < k + 1 := by omega
        simp [tbR, ha, hka, hlt, h2]
      · have h2 : ¬ a < k + 1 := by omega
        simp [tbR, ha, hka, hlt, h2]
  · by_cases hka : k = a
    · omega
    · simp [tbR, ha, hka]
end
/-- Entry i of a circuit's table, as the program finds it. -/
def tabC (gs : List Gat) (n i : Nat) : Bool := decide ((valC (rowI (i / 64 * 64) n n 0) gs).toNat / 2 ^ (i % 64) % 2 = 1)
structure CTbl (inp : Int) (gs : List Gat) (w : World) (e : Ending) (w' : World) : Prop where
  bad : okC inp gs = false → e = .returned (.tuple #[.slice none 0 0, .int .i64 1])
  big : okC inp gs = true → 12 < inp → e = .returned (.tuple #[.slice none 0 0, .int .i64 5])
  tab : okC inp gs = true → inp ≤ 12 → ∃ g, w.heap.size ≤ g ∧ e = .returned (.tuple #[.slice (some ⟨g, 0, none⟩) (2 ^ inp.toNat) (2 ^ inp.toNat), .int .i64 0]) ∧ w'.heap[g]? = some (blO (tbR (tabC gs inp.toNat) (2 ^ inp.toNat) (2 ^ inp.toNat)))

set_option maxRecDepth 100000 in
set_option maxHeartbeats 8000000 in
theorem CTable_ok (inp : Int) (v : Value) (gs : List Gat) (w : World) (hv : CirV w v inp gs) :
    Calls Tryz.prog 32 #[v] w fun e w' => CTbl inp gs w e w' ∧ Below w.heap.size w w' := by
  have hv0 := hv
  obtain ⟨A, c, rfl, hr, hl⟩ := hv
  have HS0 := Lib.hid (BoxC.start w inp A gs.length c)
  have HVC := Lib.hid (CValid_ok inp _ gs _ (hv0.below HS0.out.bel))
  have HRW := Lib.hid (fun W (hW : Below w.heap.size w W) => hr.below hW)
  have HOK : Hid (okC inp gs = true → 0 ≤ inp ∧ inp ≤ 16) := Lib.hid (fun h => ⟨(okC_iff.1 h).1, (okC_iff.1 h).2.1⟩)
  obtain ⟨c0, c1⟩ := HS0.out.cells
  clear hr hv0
  have HVAL := Lib.hid (fun (h : okC inp gs = true) (W : World) (hW : Below w.heap.size w W) AX cx xs (hx : inp ≤ (List.length xs : Int)) hl hX => values_okC inp gs A AX c cx xs W (HRW.out W hW) h hx hl hX)
  obtain ⟨bb, hbb⟩ : ∃ b, okC inp gs = b := ⟨_, rfl⟩
  have HBB := Lib.hid hbb
  rw [hbb] at HVC HOK HVAL
  generalize gs.length = gl at *
  clear hbb HRW
  go_enter Tryz.func32, Tryz.ntmps32
  go_wp2_with fail
  refine HVC.out.mono ?_
  rintro e w2 ⟨rfl, hB2⟩
  have HS2 := Lib.hid (HS0.out.step hB2)
  obtain ⟨y0, y1⟩ := HS2.out.cells
  clear hB2 c0 c1
  cases bb
  · go_wp2_with fail
    go_ret2
    exact ⟨⟨fun _ => rfl, fun h => absurd (HBB.out.symm.trans h) (by decide), fun h => absurd (HBB.out.symm.trans h) (by decide)⟩, HS2.out.bel⟩
  have hval' := HVAL.out rfl
  obtain ⟨h0, h16⟩ := HOK.out rfl
  have HVL' := Lib.hid hval'
  clear hval' HVAL HOK
  by_cases t0 : 12 < inp
  · have d0 : decide (12 < inp) = true := decide_eq_true t0
    have HT0 := Lib.hid t0
    go_wp2_with fail
    go_ret2
    exact ⟨⟨fun h => absurd (HBB.out.symm.trans h) (by decide), fun _ _ => rfl, fun _ h => by have := HT0.out; omega⟩, HS2.out.bel⟩
  have d0 : decide (12 < inp) = false := decide_eq_false t0
  obtain ⟨n', rfl⟩ : ∃ n' : Nat, inp = n' := ⟨inp.toNat, by omega⟩
  have hn12 : n' ≤ 12 := by omega
  have HFIN : Hid (∀ e w', (∃ g, w.heap.size ≤ g ∧ e = .returned (.tuple #[.slice (some ⟨g, 0, none⟩) (2 ^ n') (2 ^ n'), .int .i64 0]) ∧ w'.heap[g]? = some (blO (tbR (tabC gs n') (2 ^ n') (2 ^ n')))) → CTbl n' gs w e w') := Lib.hid (fun e w' h => ⟨fun h2 => absurd (HBB.out.symm.trans h2) (by decide), fun _ h2 => by omega, fun _ _ => by rw [Int.toNat_natCast]; exact h⟩)
  have hle : 2 ^ n' ≤ 4096 := Nat.pow_le_pow_right (n := 2) (by omega) hn12
  have hL1 : 1 ≤ 2 ^ n' := Nat.pow_pos (by omega)
  have hsh : wrap64 ((2 : Int) ^ n') = ((2 ^ n' : Nat) : Int) := by
    have : (2 : Int) ^ n' = ((2 ^ n' : Nat) : Int) := by simp
    rw [this]
    exact IntWalk.wrap64_in _ (by omega)
  have hsh2 : IntKind.i64.wrap ((2 : Int) ^ n') = ((2 ^ n' : Nat) : Int) := by
    have : (2 : Int) ^ n' = ((2 ^ n' : Nat) : Int) := by simp
    rw [this]
    exact IntWalk.i64_in _ (by omega)
  generalize 2 ^ n' = L at *
  have hmk := make_bools L (by omega)
  have HST : Hid (BoxC w n' A gl c (w2.alloc (blO (List.replicate L false))) ∧ (w2.alloc (blO (List.replicate L false))).heap[w2.heap.size]? = some (blO (tbR (tabC gs n') L 0))) :=
    Lib.hid ⟨HS2.out.step (below1 _ _), by rw [tbR_zero]; exact alloc_at _ _ _ rfl⟩
  have HVL := Lib.hid (fun s g W (hW : Below w.heap.size w W) (hg : W.heap[g]? = some (wdO (rowI s n' n' 0))) => HVL'.out W hW (some ⟨g, 0, none⟩) n' (rowI s n' n' 0) (by rw [rowI_length]; omega) (by rw [rowI_length]; omega) (RdW.of_block hg))
  simp only [rowI_length] at HVL
  have HIF := Lib.hid (fun s (hs : s ≤ 8192) W => inputsFromC_ok s n' hs (by omega) W)
  have HWC := Lib.hid HS2.out.bel.size
  have HLT2 := Lib.hid HS2.out.lt
  clear HVL' t0
  go_wp2_with fail
  go_loopw [5, 6, 7] (fun sv _ _ W => ∃ cc st : Nat, st = 64 * cc ∧ st ≤ L + 63 ∧ sv = .int .i64 (st : Int) ∧ W.heap[w2.heap.size]? = some (blO (tbR (tabC gs n') L (min st L))) ∧ BoxC w n' A gl c W) (fun sv _ _ _ => L + 64 - (intOf sv).toNat)
  case atStart => exact ⟨0, 0, rfl, by omega, rfl, by rw [show min 0 L = 0 by omega]; exact HST.out.2, HST.out.1⟩
  case round =>
    clear HST y0 y1
    obtain ⟨cc, st, hst, hc, rfl, hg, hB⟩ := hrel
    have HG := Lib.hid (And.intro hg hB)
    have HSTT := Lib.hid hst
    obtain ⟨p0, p1⟩ := hB.cells
    clear hg hB hst
    by_cases hlt : st < L
    · have HIF1 := Lib.hid (HIF.out st (by omega) wr.drew)
      have hgl : w2.heap.size < wr.heap.size := (Array.getElem?_eq_some_iff.1 HG.out.1).1
      have HGL := Lib.hid hgl
      have HTP : Hid (∀ i, st ≤ i → i < st + 64 → tabC gs n' i = decide ((valC (rowI st n' n' 0) gs).toNat / 2 ^ (i - st) % 2 = 1)) := Lib.hid (fun i h1 h2 => by
        have e := HSTT.out
        have e1 : i / 64 * 64 = st := by omega
        have e2 : i % 64 = i - st := by omega
        rw [tabC, e1, e2])
      clear hgl
      obtain ⟨wo, rfl⟩ : ∃ wo : World, wo = wr := ⟨_, rfl⟩
      go_upto_region 9 with fail
      go_cut [6] (fun tv W => tv = .int .u64 (((valC (rowI st n' n' 0) gs).toNat : Nat) : Int) ∧ Below wo.heap.size wo W)
      case first =>
        go_region_law (first
          | (go_simp; (with_reducible refine HIF1.out.mono ?_); rintro e wa ⟨ga, hga, rfl, hgb, hBa⟩; have hba := ((Below.refl wo.heap.size wo).drew).trans (hBa.mono (Nat.le_refl _)); have q0 := (hba.cell (World.block_lt_of_cell? wo _ p0)).trans p0; have q1 := (hba.cell (World.block_lt_of_cell? wo _ p1)).trans p1)
          | (have hp := HG.out.2.bel.trans (hba.mono HG.out.2.bel.size); go_simp; (with_reducible refine (HVL.out st ga wa hp hgb).mono ?_); rintro e wb ⟨rfl, hBb⟩; have hbb := hba.trans (hBb.mono hba.size)))
        all_goals
          go_wp2_with fail
          go_meet
          exact ⟨rfl, hbb⟩
      case rest =>
        obtain ⟨rfl, hbx⟩ := hcut
        have HS5 := Lib.hid (And.intro ((hbx.block w2.heap.size HGL.out).trans HG.out.1) (HG.out.2.step hbx))
        generalize valC (rowI st n' n' 0) gs = x at *
        clear hbx p0 p1
        go_wp2_with fail
        go_loopw [7] (fun iv W => ∃ i : Nat, st ≤ i ∧ i ≤ L ∧ i ≤ st + 64 ∧ iv = .int .i64 i ∧ W.heap[w2.heap.size]? = some (blO (tbR (tabC gs n') L i)) ∧ BoxC w n' A gl c W) (fun iv _ => L - (intOf iv).toNat)
        case atStart => exact ⟨st, Nat.le_refl _, by omega, by omega, rfl, by have h := HS5.out.1; rw [show min st L = st by omega] at h; exact h, HS5.out.2⟩
        case round =>
          clear HS5
          obtain ⟨i, hi1, hi2, hi3, rfl, hg, hB⟩ := hrel
          have HGI := Lib.hid (And.intro hg hB)
          by_cases hil : i < L
          · by_cases hi64 : i < st + 64
            · obtain ⟨c1, f1⟩ := bl_cell hg (tbR_at hil)
              have dA : decide ((i : Int) < (st : Int) + 64) = true := decide_eq_true (by omega)
              have hbool : (bits .and .u64 (((x.toNat : Nat) : Int) / 2 ^ (i - st)) 1 == 1) = tabC gs n' i := by
                rw [take_bit x (i - st) (by omega), HTP.out i hi1 hi64]
                by_cases h : x.toNat / 2 ^ (i - st) % 2 = 1
                · simp [h]
                · have : x.toNat / 2 ^ (i - st) % 2 = 0 := by omega
                  simp [this]
              have hset := bl_set (j := i) (tabC gs n' i) hg
              rw [tbR_next hil, ← hbool] at hset
              have HSET := Lib.hid hset
              clear hg hB hbool hset
              go_wp2_with fail
              go_roundw
              case rel => exact ⟨i + 1, by omega, by omega, by omega, by go_num, HSET.out, HGI.out.2.put (p := ⟨w2.heap.size, i, none⟩) HLT2.out _⟩
              case measure => simp [intOf]; omega
            · have dA : decide ((i : Int) < (st : Int) + 64) = false := decide_eq_false (by omega)
              have hmin : min (st + 64) L = i := by omega
              have HMIN := Lib.hid hmin
              clear hg hB hmin
              go_wp2_with fail
              go_roundw
              case rel => exact ⟨cc + 1, st + 64, by have := HSTT.out; omega, by omega, by go_num, by rw [HMIN.out]; exact HGI.out.1, HGI.out.2⟩
              case measure => simp [intOf]; omega
          · have hmin : min (st + 64) L = i := by omega
            have HMIN := Lib.hid hmin
            clear hg hB hmin
            go_wp2_with fail
            go_roundw
            case rel => exact ⟨cc + 1, st + 64, by have := HSTT.out; omega, by omega, by go_num, by rw [HMIN.out]; exact HGI.out.1, HGI.out.2⟩
            case measure => simp [intOf]; omega
    · have hmin : min st L = L := by omega
      have HFG : Hid (wr.heap[w2.heap.size]? = some (blO (tbR (tabC gs n') L L)) ∧ BoxC w n' A gl c wr) := Lib.hid (by have h := HG.out; rw [hmin] at h; exact h)
      clear hmin
      go_wp2_with fail
      go_ret2
      exact ⟨HFIN.out _ _ ⟨w2.heap.size, HWC.out, rfl, HFG.out.1⟩, HFG.out.2.bel⟩
end Go.Proofs.YtcophfhnhlaonaaGreatDoor
namespace Go.Proofs.YtcophfhnhlaonaaGreatDoor
set_option linter.unusedVariables false
open Go.RowKit Go.Maps

/-- What the listed variables hold. -/
structure LayC (w : World) : Prop where
  pow : Lib.TabIs Tryz.prog w "internal/strconv.uint64pow10" .u64 Lib.pow10Tab
  errs : ErrsAt w
def alC : Tre := .mk 3 0 [.mk 0 0 [], .mk 2 0 [.mk 0 0 []]]
def alG : List Gat := [⟨0, 0, []⟩, ⟨2, 0, [0]⟩, ⟨3, 0, [0, 1]⟩]
theorem parse_alC : pAll fSh [97, 110, 100, 40, 120, 48, 44, 32, 110, 111, 116, 40, 120, 48, 41, 41] = some alC := by kernel_rfl
theorem mes_alC : mesI fSh alC = some (4, 1, 2, 1) := by kernel_rfl
theorem gates_alC : gatesT alC = alG := by kernel_rfl
theorem ok_alG : okC 1 alG = true := by kernel_rfl
theorem dep_alG : depC alG = 1 := by kernel_rfl
theorem tab_alG : tbR (tabC alG 1) 2 2 = [false, false] := by kernel_rfl
theorem blO_rdC {w : World} {g : Nat} {l : List Bool} (h : w.heap[g]? = some (blO l)) : BlR w (some ⟨g, 0, none⟩) l := fun i x hi => by
  refine ⟨g, 0, rfl, ?_⟩
  rw [Nat.zero_add]
  exact (bl_cell h hi).1
theorem tre_valC {B : Nat} {W : World} {k n : Int} {ts : List Tre} {v : Value} (h : TreV B W (.mk k n ts) v) : ∃ A c, v = .agg #[.int .i64 k, .int .i64 n, .slice A ts.length c] := by
  unfold TreV at h
  obtain ⟨A, c, e, _⟩ := h
  exact ⟨A, c, e⟩

set_option maxRecDepth 100000 in
set_option maxHeartbeats 8000000 in
theorem aliveC_ok (w : World) (hL : ∀ W, Below w.heap.size w W → LayC W) :
    Calls Tryz.prog 8 #[] w fun e w' => e = .returned (.bool true) ∧ Below w.heap.size w w' := by
  have HP1 : Hid (∀ W, Below w.heap.size w W → Calls Tryz.prog 39 #[.string { data := #[97, 110, 100, 40, 120, 48, 44, 32, 110, 111, 116, 40, 120, 48, 41, 41] }] W fun e w' => (∃ A c, e = .returned (.tuple #[.agg #[.int .i64 3, .int .i64 0, .slice A 2 c], .int .i64 0]) ∧ TreV 0 w' alC (.agg #[.int .i64 3, .int .i64 0, .slice A 2 c])) ∧ Below W.heap.size W w') := Lib.hid (fun W hW =>
    (Parse_ok [97, 110, 100, 40, 120, 48, 44, 32, 110, 111, 116, 40, 120, 48, 41, 41] W (fun W' h => (hL W' (hW.trans (h.mono hW.size))).pow) (fun W' h => (hL W' (hW.trans (h.mono hW.size))).errs)).mono (fun e w' h => by
      unfold ParIs at h
      rw [parse_alC] at h
      obtain ⟨⟨v, rfl, hT⟩, hB⟩ := h
      obtain ⟨A, c, rfl⟩ := tre_valC hT
      exact ⟨⟨A, c, rfl, hT.mono (Nat.zero_le _)⟩, hB⟩))
  have HFR : Hid (∀ W v, TreV 0 W alC v → Calls Tryz.prog 9 #[v, .int .i64 1] W fun e w' => (∃ A c, e = .returned (.tuple #[.agg #[.int .i64 1, .slice A 3 c], .int .i64 0]) ∧ RdG w' A alG) ∧ Below W.heap.size W w') := Lib.hid (fun W v hT =>
    (From_ok alC v 1 W hT).mono (fun e w' h => by
      obtain ⟨h, hB⟩ := h
      rw [mes_alC] at h
      unfold FrmIs at h
      rw [gates_alC] at h
      rcases h with ⟨h, _⟩ | ⟨_, _, A, c, rfl, hr⟩
      · rcases h with h | h <;> simp at h
      · exact ⟨⟨A, c, rfl, hr⟩, hB⟩))
  have HTB : Hid (∀ W v, CirV W v 1 alG → Calls Tryz.prog 32 #[v] W fun e w' => (∃ g, e = .returned (.tuple #[.slice (some ⟨g, 0, none⟩) 2 2, .int .i64 0]) ∧ BlR w' (some ⟨g, 0, none⟩) [false, false]) ∧ Below W.heap.size W w') := Lib.hid (fun W v hC =>
    (CTable_ok 1 v alG W hC).mono (fun e w' h => by
      obtain ⟨h, hB⟩ := h
      obtain ⟨g, _, rfl, hb⟩ := h.tab ok_alG (by decide)
      rw [show ((2 : Nat) ^ (1 : Int).toNat) = 2 from rfl, show (1 : Int).toNat = 1 from rfl, tab_alG] at hb
      exact ⟨⟨g, rfl, blO_rdC hb⟩, hB⟩))
  have HDE : Hid (∀ W v, CirV W v 1 alG → Calls Tryz.prog 40 #[v] W fun e w' => e = .returned (.int .i64 1) ∧ Below W.heap.size W w') := Lib.hid (fun W v hC =>
    (CDepth_ok 1 v alG W hC).mono (fun e w' h => by
      rw [if_pos ok_alG, dep_alG] at h
      exact h))
  have HSB : Hid (∀ W A A' c c', BlR W A [false, false] → BlR W A' [false, false] → Calls Tryz.prog 21 #[.slice A 2 c, .slice A' 2 c'] W fun e w' => e = .returned (.bool true) ∧ Below W.heap.size W w') := Lib.hid (fun W A A' c c' h h' => (SameBools_ok [false, false] [false, false] A A' c c' W h h' (by decide)).mono (fun e w' h => by simpa using h))
  have HB0 := Lib.hid (Below.refl w.heap.size w)
  clear hL
  go_enter Tryz.func8, Tryz.ntmps8
  go_wp2_with fail
  refine (HP1.out _ HB0.out).mono ?_
  rintro e w1 ⟨⟨A1, c1, rfl, hT1⟩, hB1⟩
  have hT2 := hT1.below (below1 w1 (.cells #[.int .i64 3, .int .i64 0, .slice A1 2 c1] 24))
  have HF1 := Lib.hid (HFR.out _ _ hT2)
  have hu1 := hB1.alloc hB1.size (.cells #[.int .i64 3, .int .i64 0, .slice A1 2 c1] 24)
  have HU1 := Lib.hid hu1
  clear hT1 hT2 hB1 hu1 HP1 HFR
  go_wp2_with fail
  generalize hue : w1.alloc (.cells #[.int .i64 3, .int .i64 0, .slice A1 2 c1] 24) = u1 at *
  clear hue
  refine HF1.out.mono ?_
  rintro e w2 ⟨⟨A2, c2, rfl, hr2⟩, hB2⟩
  have hu2 := hB2.alloc hB2.size (.cells #[.int .i64 1, .slice A2 3 c2] 30)
  have HU2 := Lib.hid (HU1.out.trans (hu2.mono HU1.out.size))
  have hbx := alloc_at w2 (.cells #[.int .i64 1, .slice A2 3 c2] 30) w2.heap.size rfl
  have hr3 := hr2.below (below1 w2 (.cells #[.int .i64 1, .slice A2 3 c2] 30))
  generalize hve : w2.alloc (.cells #[.int .i64 1, .slice A2 3 c2] 30) = u2 at *
  have HVE := Lib.hid hve
  have HCV : Hid (∀ W, Below u2.heap.size u2 W → CirV W (.agg #[.int .i64 1, .slice A2 3 c2]) 1 alG ∧ W.heap[w2.heap.size]? = some (.cells #[.int .i64 1, .slice A2 3 c2] 30 (0, 0))) := Lib.hid (fun W hW => ⟨⟨A2, c2, rfl, hr3.below hW, by decide⟩, (hW.block _ (Array.getElem?_eq_some_iff.1 hbx).1).trans hbx⟩)
  clear hr2 hB2 hu2 hbx hr3 hve HF1
  obtain ⟨⟨p0, p1⟩, _⟩ := blk2_cells (HCV.out u2 (Below.refl _ _)).2
  go_upto_region 3 with fail
  rw [HVE.out]
  go_wp2_with fail
  refine (HTB.out _ _ (HCV.out u2 (Below.refl _ _)).1).mono ?_
  rintro e w3 ⟨⟨g3, rfl, hb3⟩, hB3⟩
  have HB3 := Lib.hid hB3
  have HBR := Lib.hid hb3
  obtain ⟨⟨p0, p1⟩, _⟩ := blk2_cells (HCV.out w3 hB3).2
  have HD3 := Lib.hid (HDE.out w3 _ (HCV.out w3 hB3).1)
  clear hb3 hB3
  go_wp2_with fail
  refine HD3.out.mono ?_
  rintro e w4 ⟨rfl, hB4⟩
  have hn : (w4.alloc (.cells #[.bool false, .bool false] 4)).heap[w4.heap.size]? = some (blO [false, false]) := alloc_at _ _ _ rfl
  have HS4 := Lib.hid (HSB.out (w4.alloc (.cells #[.bool false, .bool false] 4)) (some ⟨g3, 0, none⟩) (some ⟨w4.heap.size, 0, none⟩) 2 2 ((HBR.out.below hB4).below (below1 _ _)) (blO_rdC hn))
  have HB4 := Lib.hid (HU2.out.trans ((HB3.out.trans (hB4.mono HB3.out.size)).mono HU2.out.size))
  have HB5 := Lib.hid (HB4.out.alloc HB4.out.size (.cells #[.bool false, .bool false] 4))
  clear hB4 hn
  go_wp2_with fail
  refine HS4.out.mono ?_
  rintro e w5 ⟨rfl, hB5⟩
  have HB6 := Lib.hid (HB5.out.trans (hB5.mono HB5.out.size))
  clear hB5
  go_wp2_with fail
  go_ret
  exact ⟨rfl, HB6.out⟩
end Go.Proofs.YtcophfhnhlaonaaGreatDoor
