/-
  The walk of CircuitFrom, given the contract of alive.
-/
import Derived.Test.YtcophfhnhlaonaaGreatDoorCix
import Derived.Test.YtcophfhnhlaonaaGreatDoorCiy
import Derived.Test.YtcophfhnhlaonaaGreatDoorUx
import Derived.Test.YtcophfhnhlaonaaGreatDoorVd
import Derived.Test.YtcophfhnhlaonaaGreatDoorJh
namespace Go.Proofs.YtcophfhnhlaonaaGreatDoor
set_option linter.unusedVariables false
open Go.RowKit

theorem kF_le (most : Nat) : ∀ (gs : List Gat) (n : Nat), (∀ g ∈ gs, g.ks.length ≤ 2) → kF most gs n ≤ n + 2 * gs.length
  | [], n, _ => by simp [kF]
  | g :: gs, n, h => by
    rw [kF, List.length_cons]
    have hg := h g (by simp)
    split
    · have := kF_le most gs (n + g.ks.length) (fun x hx => h x (by simp [hx]))
      omega
    · omega
theorem fL_gates {inp : Int} {gs : List Gat} (hok : okC inp gs = true) (hl : gs.length ≤ 20000) : fL 60000 [gs] 0 ≤ 60000 := by
  have hk : ∀ g ∈ gs, g.ks.length ≤ 2 := fun g hg => by
    obtain ⟨j, hj, rfl⟩ := List.getElem_of_mem hg
    rcases okG_cases (okC_at hok (List.getElem?_eq_getElem hj)) with ⟨_, _, _, h⟩ | ⟨_, _, h⟩ | ⟨_, _, _, h, _⟩ | ⟨_, _, _, _, h, _⟩ <;> (rw [h]; simp)
  have := kF_le 60000 gs (0 + gs.length) hk
  simp only [fL]
  omega
set_option maxHeartbeats 1000000 in
theorem none_ok (w : World) :
    Calls Tryz.prog 11 #[.agg #[.int .i64 0, .slice none 0 0]] w fun e w' => e = .returned (.bool true) ∧ Below w.heap.size w w' := by
  have hb := below1 w (.cells #[.int .i64 0, .slice none 0 0] 30)
  have HB := Lib.hid hb
  obtain ⟨c0, c1⟩ := (blk2_cells (alloc_at w (.cells #[.int .i64 0, .slice none 0 0] 30) w.heap.size rfl)).1
  clear hb
  go_enter Tryz.func11, Tryz.ntmps11
  go_wp2_with fail
  go_ret
  exact ⟨rfl, HB.out⟩

theorem count_okR {t : Tre} (h : okR fSh t = true) : (cntN t 1001).1 = nodT t := by
  unfold okR at h
  rw [Bool.and_eq_true, Bool.and_eq_true, decide_eq_true_eq, decide_eq_true_eq] at h
  rw [cntN_eq t 1001 (by omega) h.1.1 (by omega)]
theorem okT_okR {t : Tre} (h : okR fSh t = true) : okT fSh (inpT t) t := by
  obtain ⟨h1, _⟩ := mesI_yes h
  unfold mesI at h1
  cases hv : visN fSh t 1 ⟨0, 0, 0⟩ with
  | mk r m =>
    rw [hv] at h1
    cases r with
    | none => simp at h1
    | some d =>
      simp at h1
      have := (visN_okT hv).1
      rw [h1.2.1] at this
      exact this
/-- The state behind From: the formula's box, the circuit's box, the circuit. -/
structure FcS (w : World) (k n : Int) (A : Option Addr) (len c u : Nat) (inp : Int) (A2 : Option Addr) (c2 : Nat) (gs : List Gat) (W : World) : Prop where
  bx : BoxF w k n A len c W
  cb : W.heap[u]? = some (.cells #[.int .i64 inp, .slice A2 gs.length c2] 30 (0, 0))
  rd : RdG W A2 gs
theorem FcS.step {w W W' : World} {k n inp : Int} {A A2 : Option Addr} {len c u c2 : Nat} {gs : List Gat} (h : FcS w k n A len c u inp A2 c2 gs W) (hB : Below W.heap.size W W') : FcS w k n A len c u inp A2 c2 gs W' :=
  ⟨h.bx.step hB, (hB.block _ (Array.getElem?_eq_some_iff.1 h.cb).1).trans h.cb, h.rd.below hB⟩
theorem FcS.cells {w W : World} {k n inp : Int} {A A2 : Option Addr} {len c u c2 : Nat} {gs : List Gat} (h : FcS w k n A len c u inp A2 c2 gs W) : W.cell? ⟨w.heap.size, 0, none⟩ = some (.int .i64 k) ∧ W.cell? ⟨w.heap.size, 1, none⟩ = some (.int .i64 n) ∧ W.cell? ⟨w.heap.size, 2, none⟩ = some (.slice A len c) ∧ W.cell? ⟨u, 0, none⟩ = some (.int .i64 inp) ∧ W.cell? ⟨u, 1, none⟩ = some (.slice A2 gs.length c2) :=
  ⟨h.bx.cells.1, h.bx.cells.2.1, h.bx.cells.2.2, (blk2_cells h.cb).1.1, (blk2_cells h.cb).1.2⟩

set_option maxRecDepth 100000 in
set_option maxHeartbeats 32000000 in
theorem circuitFrom_any (t : Tre) (v : Value) (inp : Int) (more : Nat) (hmore : more ≤ 65535) (w : World) (hT : TreV 0 w t v) (hA : ∀ W, Below w.heap.size w W → Calls Tryz.prog 8 #[] W fun e w' => e = .returned (.bool true) ∧ Below W.heap.size W w') :
    Calls Tryz.prog 3 #[v, .int .i64 inp, .int .u16 (more : Int)] w fun e w' => e = .returned (.bool true) ∧ Below w.heap.size w w' := by
  have HA := Lib.hid hA
  obtain ⟨k, n, ts⟩ := t
  have hT2 := hT
  unfold TreV at hT2
  obtain ⟨A, c, rfl, -⟩ := hT2
  have hTW := fun W (hW : BoxF w k n A ts.length c W) => TreV.below hT hW.bel
  have HS0 := Lib.hid (BoxF.start w k n A ts.length c)
  have hb1 := below1 (w.alloc (.cells #[.int .i64 k, .int .i64 n, .slice A ts.length c] 24)) (.cells #[.int .i64 k, .int .i64 n, .slice A ts.length c] 24)
  have hs1 := HS0.out.step hb1
  have HS1 := Lib.hid hs1
  have hrow : RowV 0 ((w.alloc (.cells #[.int .i64 k, .int .i64 n, .slice A ts.length c] 24)).alloc (.cells #[.int .i64 k, .int .i64 n, .slice A ts.length c] 24)) [.mk k n ts] (some ⟨w.heap.size + 1, 0, none⟩) 0 :=
    rowV_one (alloc_at _ _ _ (by simp)) (hTW _ hs1)
  have HFEW := Lib.hid (Few_ok 300 (by omega) [.mk k n ts] (some ⟨w.heap.size + 1, 0, none⟩) 1 _ hrow)
  have HFN : Hid (decide (wL 300 [.mk k n ts] 0 ≤ 300) = true → nodT (.mk k n ts) ≤ 300) := Lib.hid (fun h => by
    have h2 := of_decide_eq_true h
    rw [wL_one] at h2
    have := wN_nod 300 (.mk k n ts) 0 h2
    omega)
  have HFR := Lib.hid (fun W (hW : BoxF w k n A ts.length c W) => From_ok (.mk k n ts) _ inp W (hTW W hW))
  have HRV := Lib.hid (fun (hN : nodT (.mk k n ts) ≤ 1099511627776) W (hW : BoxF w k n A ts.length c W) => Valid_ref (.mk k n ts) _ W (hTW W hW) hN)
  change Hid (∀ (hN : nodT (.mk k n ts) ≤ 1099511627776) W (hW : BoxF w k n A ts.length c W), Calls _ _ _ W fun e w' => e = .returned (.bool (okR fSh (.mk k n ts))) ∧ Below W.heap.size W w') at HRV
  have HRI := Lib.hid (fun h1 h2 W (hW : BoxF w k n A ts.length c W) => Inputs_ref _ (.mk k n ts) (Nat.lt_succ_self _) _ W (hTW W hW) h1 h2)
  have HRC := Lib.hid (fun h1 W (hW : BoxF w k n A ts.length c W) => Count_ref _ (.mk k n ts) (Nat.lt_succ_self _) _ 1001 W (hTW W hW) h1 (by omega))
  have HRD := Lib.hid (fun h1 W (hW : BoxF w k n A ts.length c W) => Depth_ref _ (.mk k n ts) (Nat.lt_succ_self _) _ W (hTW W hW) h1)
  have HRE := Lib.hid (fun m (hm : m ≤ 16) (hok : okT fSh m (.mk k n ts)) AX cx xs (hxl : m ≤ List.length xs) W (hW : BoxF w k n A ts.length c W) hX => Eval_ref m hm AX cx xs hxl _ (.mk k n ts) (Nat.lt_succ_self _) _ W (hTW W hW) hok hX)
  have HRT := Lib.hid (fun m (hok : okT fSh m (.mk k n ts)) (n0 : Nat) (h12 : n0 ≤ 12) W (hW : BoxF w k n A ts.length c W) => Truth_ref m n0 h12 _ (.mk k n ts) (Nat.lt_succ_self _) _ W (hTW W hW) hok)
  have HSB : Hid (∀ (L : Nat) (l : List Bool), l.length = L → L ≤ 4096 → ∀ W A A' c c', BlR W A l → BlR W A' l → Calls Tryz.prog 21 #[.slice A L c, .slice A' L c'] W fun e w' => e = .returned (.bool true) ∧ Below W.heap.size W w') := Lib.hid (fun L l hl h40 W A A' c c' h h' => by
    subst hl
    exact (SameBools_ok l l A A' c c' W h h' (by omega)).mono (fun e w' h => by simpa using h))
  have HNN := Lib.hid (fun W => none_ok W)
  have HMN : Hid (okR fSh (.mk k n ts) = false → mesI fSh (.mk k n ts) = none) := Lib.hid mesI_no
  have HMY : Hid (okR fSh (.mk k n ts) = true → mesI fSh (.mk k n ts) = some (nodT (.mk k n ts), inpT (.mk k n ts), sizT (.mk k n ts), depT fSh (.mk k n ts)) ∧ shN fSh (.mk k n ts) = true ∧ nodT (.mk k n ts) ≤ 20000 ∧ okT fSh (inpT (.mk k n ts)) (.mk k n ts) ∧ inpT (.mk k n ts) ≤ 16 ∧ (cntN (.mk k n ts) 1001).1 = nodT (.mk k n ts)) := Lib.hid (fun h => ⟨(mesI_yes h).1, (mesI_yes h).2.1, (mesI_yes h).2.2, okT_okR h, inpT_le (mesI_yes h).2.1, count_okR h⟩)
  have HGF := Lib.hid (fun m (hok : okT fSh m (.mk k n ts)) h2 inp (h3 : (m : Int) ≤ inp) h4 => gates_facts hok h2 h3 h4)
  obtain ⟨c0, c1, c2⟩ := HS0.out.cells
  clear hA hT hTW hb1 hs1 hrow
  obtain ⟨b, hb⟩ : ∃ b, decide (wL 300 [.mk k n ts] 0 ≤ 300) = b := ⟨_, rfl⟩
  rw [hb] at HFEW HFN
  have HFEW2 : Hid (Calls Tryz.prog 7 #[.int .i64 300, .slice (some ⟨w.heap.size + 1, 0, none⟩) 1 1] _ _) := HFEW
  clear hb HFEW
  go_enter Tryz.func3, Tryz.ntmps3
  go_wp2_with fail
  refine HFEW2.out.mono ?_
  rintro e w2 ⟨rfl, hB2⟩
  have hs2 := HS1.out.step hB2
  have HS2 := Lib.hid hs2
  obtain ⟨c0, c1, c2⟩ := hs2.cells
  clear hs2 hB2 HS1 HS0 HFEW2
  cases b
  · go_wp2_with fail
    refine (HA.out _ HS2.out.bel).mono ?_
    rintro e w3 ⟨rfl, hB3⟩
    have HS3 := Lib.hid (HS2.out.step hB3)
    clear hB3
    go_wp2_with fail
    go_ret
    exact ⟨rfl, HS3.out.bel⟩
  have hn3 := HFN.out rfl
  have HRV2 := Lib.hid (HRV.out (by omega))
  have HRI2 := Lib.hid (HRI.out (by omega))
  have HRC2 := Lib.hid (HRC.out (by omega))
  have HRD2 := Lib.hid (HRD.out (by omega))
  have HN3 := Lib.hid hn3
  clear hn3 HFN HRV HRI HRC HRD
  go_wp2_with fail
  refine (HFR.out _ HS2.out).mono ?_
  rintro e w3 ⟨hF, hB3⟩
  have hs3 := HS2.out.step hB3
  have HS3 := Lib.hid hs3
  have HF := Lib.hid hF
  have HSZ3 := Lib.hid hB3.size
  clear hs3 hB3 hF HFR
  -- the three outcomes of From
  cases hr : okR fSh (.mk k n ts) with
  | false =>
    rw [hr] at HRV2
    have hmn := HMN.out hr
    have hF := HF.out
    rw [hmn] at hF
    unfold FrmIs at hF
    obtain rfl := hF
    have hs4 := HS3.out.step (below1 w3 (.cells #[.int .i64 0, .slice none 0 0] 30))
    have hcb := alloc_at w3 (.cells #[.int .i64 0, .slice none 0 0] 30) w3.heap.size rfl
    have HS4 := Lib.hid hs4
    have HCB := Lib.hid hcb
    have hlt := (Array.getElem?_eq_some_iff.1 hcb).1
    obtain ⟨c0, c1, c2⟩ := hs4.cells
    obtain ⟨d0, d1⟩ := (blk2_cells hcb).1
    clear hmn hr HF HMN HMY HGF hs4
    go_upto_region 4 with fail
    generalize w3.alloc (.cells #[.int .i64 0, .slice none 0 0] 30) = w4 at *
    go_wp2_with fail
    refine (HRV2.out _ HS4.out).mono ?_
    rintro e w5 ⟨rfl, hB5⟩
    have HS5 := Lib.hid (HS4.out.step hB5)
    obtain ⟨d0, d1⟩ := (blk2_cells ((hB5.block _ hlt).trans HCB.out)).1
    clear hB5 hcb
    go_wp2_with fail
    refine (HNN.out _).mono ?_
    rintro e w6 ⟨rfl, hB6⟩
    have HS6 := Lib.hid (HS5.out.step hB6)
    clear hB6
    go_wp2_with fail
    refine (HA.out _ HS6.out.bel).mono ?_
    rintro e w7 ⟨rfl, hB7⟩
    have HS7 := Lib.hid (HS6.out.step hB7)
    clear hB7
    go_wp2_with fail
    go_ret
    exact ⟨rfl, HS7.out.bel⟩
  | true =>
    rw [hr] at HRV2
    obtain ⟨hmy, hsh, hn20, hok, h16, hcnt⟩ := HMY.out hr
    have hF := HF.out
    rw [hmy] at hF
    unfold FrmIs at hF
    have HRI3 := Lib.hid (HRI2.out hsh)
    have HOKT := Lib.hid hok
    have HRT3 := Lib.hid (HRT.out _ hok)
    have HRE3 := Lib.hid (HRE.out _ h16 hok)
    have HGF2 := Lib.hid (HGF.out _ hok hn20)
    rw [hcnt] at HRC2
    clear hmy hsh hn20 hok hcnt hr HMN HMY HGF HRI2 HRT HRE HF
    dsimp only at hF
    generalize inpT (.mk k n ts) = it at *
    generalize depT fSh (.mk k n ts) = dt at *
    generalize (cntN (.mk k n ts) 1001).2 = c2nd at *
    by_cases hbad : inp < (it : Int) ∨ 16 < inp
    · have he : e = .returned (.tuple #[.agg #[.int .i64 0, .slice none 0 0], .int .i64 2]) := by
        rcases hF with ⟨_, h⟩ | ⟨h1, h2, _⟩
        · exact h
        · omega
      subst he
      have hs4 := HS3.out.step (below1 w3 (.cells #[.int .i64 0, .slice none 0 0] 30))
      have hcb := alloc_at w3 (.cells #[.int .i64 0, .slice none 0 0] 30) w3.heap.size rfl
      have HS4 := Lib.hid hs4
      have HCB := Lib.hid hcb
      have hlt := (Array.getElem?_eq_some_iff.1 hcb).1
      obtain ⟨c0, c1, c2⟩ := hs4.cells
      obtain ⟨d0, d1⟩ := (blk2_cells hcb).1
      have HBAD := Lib.hid hbad
      clear hF hs4 hbad
      go_upto_region 4 with fail
      generalize w3.alloc (.cells #[.int .i64 0, .slice none 0 0] 30) = w4 at *
      go_wp2_with fail
      refine (HRV2.out _ HS4.out).mono ?_
      rintro e w5 ⟨rfl, hB5⟩
      have HS5 := Lib.hid (HS4.out.step hB5)
      have HCB5 := Lib.hid ((hB5.block _ hlt).trans HCB.out)
      have hlt5 := (Array.getElem?_eq_some_iff.1 HCB5.out).1
      obtain ⟨c0, c1, c2⟩ := HS5.out.cells
      clear hB5 hcb hlt d0 d1
      go_wp2_with fail
      refine (HRI3.out _ HS5.out).mono ?_
      rintro e w6 ⟨rfl, hB6⟩
      have HS6 := Lib.hid (HS5.out.step hB6)
      obtain ⟨d0, d1⟩ := (blk2_cells ((hB6.block _ hlt5).trans HCB5.out)).1
      clear hB6 hlt5
      by_cases hq : inp < (it : Int)
      · have dq : decide (inp < (it : Int)) = true := decide_eq_true hq
        clear hq
        go_wp2_with fail
        refine (HNN.out _).mono ?_
        rintro e w7 ⟨rfl, hB7⟩
        have HS7 := Lib.hid (HS6.out.step hB7)
        clear hB7
        go_wp2_with fail
        refine (HA.out _ HS7.out.bel).mono ?_
        rintro e w8 ⟨rfl, hB8⟩
        have HS8 := Lib.hid (HS7.out.step hB8)
        clear hB8
        go_wp2_with fail
        go_ret
        exact ⟨rfl, HS8.out.bel⟩
      · have dq : decide (inp < (it : Int)) = false := decide_eq_false hq
        have dq2 : decide (16 < inp) = true := decide_eq_true (by have := HBAD.out; omega)
        clear hq
        go_wp2_with fail
        refine (HNN.out _).mono ?_
        rintro e w7 ⟨rfl, hB7⟩
        have HS7 := Lib.hid (HS6.out.step hB7)
        clear hB7
        go_wp2_with fail
        refine (HA.out _ HS7.out.bel).mono ?_
        rintro e w8 ⟨rfl, hB8⟩
        have HS8 := Lib.hid (HS7.out.step hB8)
        clear hB8
        go_wp2_with fail
        go_ret
        exact ⟨rfl, HS8.out.bel⟩
    · obtain ⟨A2, c2', he, hr2⟩ : ∃ A2 c2, e = .returned (.tuple #[.agg #[.int .i64 inp, .slice A2 (gatesT (.mk k n ts)).length c2], .int .i64 0]) ∧ RdG w3 A2 (gatesT (.mk k n ts)) := by
        rcases hF with ⟨h1, _⟩ | ⟨_, _, h⟩
        · exact absurd h1 hbad
        · exact h
      subst he
      have hq1 : (it : Int) ≤ inp := by omega
      have hq2 : inp ≤ 16 := by omega
      obtain ⟨fOK, fLE, fDEP, fVAL⟩ := HGF2.out inp hq1 hq2
      obtain ⟨ni, rfl⟩ : ∃ ni : Nat, inp = ni := ⟨inp.toNat, by omega⟩
      have hs4 : FcS w k n A ts.length c w3.heap.size ni A2 c2' (gatesT (.mk k n ts)) (w3.alloc (.cells #[.int .i64 (ni : Int), .slice A2 (gatesT (.mk k n ts)).length c2'] 30)) :=
        ⟨HS3.out.step (below1 _ _), alloc_at _ _ _ rfl, hr2.below (below1 _ _)⟩
      have HS4 := Lib.hid hs4
      have HVAL := Lib.hid fVAL
      have HOKC := Lib.hid fOK
      have hlen2 : (gatesT (.mk k n ts)).length ≤ 300 := Nat.le_trans fLE HN3.out
      have HDEP := Lib.hid fDEP
      have HLE := Lib.hid fLE
      have HFW : Hid (fL 60000 [gatesT (.mk k n ts)] 0 ≤ 60000) := Lib.hid (fL_gates fOK (by omega))
      have dB1 : decide ((ni : Int) < (it : Int)) = false := decide_eq_false (by omega)
      have dB2 : decide ((16 : Int) < (ni : Int)) = false := decide_eq_false (by omega)
      have dB1' : decide (ni < it) = false := decide_eq_false (by omega)
      have dB2' : decide (16 < ni) = false := decide_eq_false (by omega)
      have HQ := Lib.hid (And.intro hq1 hq2)
      obtain ⟨c0, c1, c2, d0, d1⟩ := hs4.cells
      clear hF hr2 hbad fOK fLE fDEP fVAL HGF2 hs4 hq1 hq2
      generalize gatesT (.mk k n ts) = gs at *
      have HCR : Hid (∀ W, FcS w k n A ts.length c w3.heap.size ni A2 c2' gs W → CirV W (.agg #[.int .i64 (ni : Int), .slice A2 gs.length c2']) ni gs) := Lib.hid (fun W hW => ⟨A2, c2', rfl, hW.rd, by omega⟩)
      go_upto_region 4 with fail
      generalize hu4 : w3.alloc (.cells #[.int .i64 (ni : Int), .slice A2 gs.length c2'] 30) = w4 at *
      clear hu4
      go_wp2_with fail
      refine (HRV2.out _ HS4.out.bx).mono ?_
      rintro e w5 ⟨rfl, hB5⟩
      have hs5 := HS4.out.step hB5
      have HS5 := Lib.hid hs5
      obtain ⟨c0, c1, c2, d0, d1⟩ := hs5.cells
      clear hB5 hs5
      go_wp2_with fail
      refine (HRI3.out _ HS5.out.bx).mono ?_
      rintro e w6 ⟨rfl, hB6⟩
      have hs6 := HS5.out.step hB6
      have HS6 := Lib.hid hs6
      obtain ⟨c0, c1, c2, d0, d1⟩ := hs6.cells
      clear hB6 hs6
      go_wp2_with fail
      refine (HRC2.out _ HS6.out.bx).mono ?_
      rintro e w7 ⟨rfl, hB7⟩
      have hs7 := HS6.out.step hB7
      have HS7 := Lib.hid hs7
      obtain ⟨c0, c1, c2, d0, d1⟩ := hs7.cells
      clear hB7 hs7 dB1 dB2 dB1' dB2'
      go_upto_region 10 with fail
      trace_state
      sorry
end Go.Proofs.YtcophfhnhlaonaaGreatDoor
