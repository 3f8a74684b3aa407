/-
  The walk of CircuitFrom, given the contract of alive.
-/
import Derived.Test.YtcophfhnhlaonaaGreatDoorCix
import Derived.Test.YtcophfhnhlaonaaGreatDoorCiy
import Derived.Test.YtcophfhnhlaonaaGreatDoorUx
import Derived.Test.YtcophfhnhlaonaaGreatDoorVd
import Derived.Test.YtcophfhnhlaonaaGreatDoorJh
namespace Go.Proofs.YtcophfhnhlaonaaGreatDoor
set_option linter.unusedVariables false
open Go.RowKit

theorem kF_le (most : Nat) : ∀ (gs : List Gat) (n : Nat), (∀ g ∈ gs, g.ks.length ≤ 2) → kF most gs n ≤ n + 2 * gs.length
  | [], n, _ => by simp [kF]
  | g :: gs, n, h => by
    rw [kF, List.length_cons]
    have hg := h g (by simp)
    split
    · have := kF_le most gs (n + g.ks.length) (fun x hx => h x (by simp [hx]))
      omega
    · omega
theorem fL_gates {inp : Int} {gs : List Gat} (hok : okC inp gs = true) (hl : gs.length ≤ 20000) : fL 60000 [gs] 0 ≤ 60000 := by
  have hk : ∀ g ∈ gs, g.ks.length ≤ 2 := fun g hg => by
    obtain ⟨j, hj, rfl⟩ := List.getElem_of_mem hg
    rcases okG_cases (okC_at hok (List.getElem?_eq_getElem hj)) with ⟨_, _, _, h⟩ | ⟨_, _, h⟩ | ⟨_, _, _, h, _⟩ | ⟨_, _, _, _, h, _⟩ <;> (rw [h]; simp)
  have := kF_le 60000 gs (0 + gs.length) hk
  simp only [fL]
  omega
set_option maxHeartbeats 1000000 in
theorem none_ok (w : World) :
    Calls Tryz.prog 11 #[.agg #[.int .i64 0, .slice none 0 0]] w fun e w' => e = .returned (.bool true) ∧ Below w.heap.size w w' := by
  have hb := below1 w (.cells #[.int .i64 0, .slice none 0 0] 30)
  have HB := Lib.hid hb
  obtain ⟨c0, c1⟩ := (blk2_cells (alloc_at w (.cells #[.int .i64 0, .slice none 0 0] 30) w.heap.size rfl)).1
  clear hb
  go_enter Tryz.func11, Tryz.ntmps11
  go_wp2_with fail
  go_ret
  exact ⟨rfl, HB.out⟩

theorem count_okR {t : Tre} (h : okR fSh t = true) : (cntN t 1001).1 = nodT t := by
  unfold okR at h
  rw [Bool.and_eq_true, Bool.and_eq_true, decide_eq_true_eq, decide_eq_true_eq] at h
  rw [cntN_eq t 1001 (by omega) h.1.1 (by omega)]
theorem okT_okR {t : Tre} (h : okR fSh t = true) : okT fSh (inpT t) t := by
  obtain ⟨h1, _⟩ := mesI_yes h
  unfold mesI at h1
  cases hv : visN fSh t 1 ⟨0, 0, 0⟩ with
  | mk r m =>
    rw [hv] at h1
    cases r with
    | none => simp at h1
    | some d =>
      simp at h1
      have := (visN_okT hv).1
      rw [h1.2.1] at this
      exact this
/-- The state behind From: the formula's box, the circuit's box, the circuit. -/
structure FcS (w : World) (k n : Int) (A : Option Addr) (len c u : Nat) (inp : Int) (A2 : Option Addr) (c2 : Nat) (gs : List Gat) (W : World) : Prop where
  bx : BoxF w k n A len c W
  cb : W.heap[u]? = some (.cells #[.int .i64 inp, .slice A2 gs.length c2] 30 (0, 0))
  rd : RdG W A2 gs
theorem FcS.step {w W W' : World} {k n inp : Int} {A A2 : Option Addr} {len c u c2 : Nat} {gs : List Gat} (h : FcS w k n A len c u inp A2 c2 gs W) (hB : Below W.heap.size W W') : FcS w k n A len c u inp A2 c2 gs W' :=
  ⟨h.bx.step hB, (hB.block _ (Array.getElem?_eq_some_iff.1 h.cb).1).trans h.cb, h.rd.below hB⟩
theorem FcS.cells {w W : World} {k n inp : Int} {A A2 : Option Addr} {len c u c2 : Nat} {gs : List Gat} (h : FcS w k n A len c u inp A2 c2 gs W) : W.cell? ⟨w.heap.size, 0, none⟩ = some (.int .i64 k) ∧ W.cell? ⟨w.heap.size, 1, none⟩ = some (.int .i64 n) ∧ W.cell? ⟨w.heap.size, 2, none⟩ = some (.slice A len c) ∧ W.cell? ⟨u, 0, none⟩ = some (.int .i64 inp) ∧ W.cell? ⟨u, 1, none⟩ = some (.slice A2 gs.length c2) :=
  ⟨h.bx.cells.1, h.bx.cells.2.1, h.bx.cells.2.2, (blk2_cells h.cb).1.1, (blk2_cells h.cb).1.2⟩

set_option maxRecDepth 100000 in
set_option maxHeartbeats 32000000 in
theorem circuitFrom_any (t : Tre) (v : Value) (inp : Int) (more : Nat) (hmore : more ≤ 65535) (w : World) (hT : TreV 0 w t v) (hA : ∀ W, Below w.heap.size w W → Calls Tryz.prog 8 #[] W fun e w' => e = .returned (.bool true) ∧ Below W.heap.size W w') :
    Calls Tryz.prog 3 #[v, .int .i64 inp, .int .u16 (more : Int)] w fun e w' => e = .returned (.bool true) ∧ Below w.heap.size w w' := by
  have HA := Lib.hid hA
  obtain ⟨k, n, ts⟩ := t
  have hT2 := hT
  unfold TreV at hT2
  obtain ⟨A, c, rfl, -⟩ := hT2
  have hTW := fun W (hW : BoxF w k n A ts.length c W) => TreV.below hT hW.bel
  have HS0 := Lib.hid (BoxF.start w k n A ts.length c)
  have hb1 := below1 (w.alloc (.cells #[.int .i64 k, .int .i64 n, .slice A ts.length c] 24)) (.cells #[.int .i64 k, .int .i64 n, .slice A ts.length c] 24)
  have hs1 := HS0.out.step hb1
  have HS1 := Lib.hid hs1
  have hrow : RowV 0 ((w.alloc (.cells #[.int .i64 k, .int .i64 n, .slice A ts.length c] 24)).alloc (.cells #[.int .i64 k, .int .i64 n, .slice A ts.length c] 24)) [.mk k n ts] (some ⟨w.heap.size + 1, 0, none⟩) 0 :=
    rowV_one (alloc_at _ _ _ (by simp)) (hTW _ hs1)
  have HFEW := Lib.hid (Few_ok 300 (by omega) [.mk k n ts] (some ⟨w.heap.size + 1, 0, none⟩) 1 _ hrow)
  have HFN : Hid (decide (wL 300 [.mk k n ts] 0 ≤ 300) = true → nodT (.mk k n ts) ≤ 300) := Lib.hid (fun h => by
    have h2 := of_decide_eq_true h
    rw [wL_one] at h2
    have := wN_nod 300 (.mk k n ts) 0 h2
    omega)
  have HFR := Lib.hid (fun W (hW : BoxF w k n A ts.length c W) => From_ok (.mk k n ts) _ inp W (hTW W hW))
  have HRV := Lib.hid (fun (hN : nodT (.mk k n ts) ≤ 1099511627776) W (hW : BoxF w k n A ts.length c W) => Valid_ref (.mk k n ts) _ W (hTW W hW) hN)
  change Hid (∀ (hN : nodT (.mk k n ts) ≤ 1099511627776) W (hW : BoxF w k n A ts.length c W), Calls _ _ _ W fun e w' => e = .returned (.bool (okR fSh (.mk k n ts))) ∧ Below W.heap.size W w') at HRV
  have HRI := Lib.hid (fun h1 h2 W (hW : BoxF w k n A ts.length c W) => Inputs_ref _ (.mk k n ts) (Nat.lt_succ_self _) _ W (hTW W hW) h1 h2)
  have HRC := Lib.hid (fun h1 W (hW : BoxF w k n A ts.length c W) => Count_ref _ (.mk k n ts) (Nat.lt_succ_self _) _ 1001 W (hTW W hW) h1 (by omega))
  have HRD := Lib.hid (fun h1 W (hW : BoxF w k n A ts.length c W) => Depth_ref _ (.mk k n ts) (Nat.lt_succ_self _) _ W (hTW W hW) h1)
  have HRE := Lib.hid (fun m (hm : m ≤ 16) (hok : okT fSh m (.mk k n ts)) AX cx xs (hxl : m ≤ List.length xs) W (hW : BoxF w k n A ts.length c W) hX => Eval_ref m hm AX cx xs hxl _ (.mk k n ts) (Nat.lt_succ_self _) _ W (hTW W hW) hok hX)
  have HRT := Lib.hid (fun m (hok : okT fSh m (.mk k n ts)) (n0 : Nat) (h12 : n0 ≤ 12) W (hW : BoxF w k n A ts.length c W) => Truth_ref m n0 h12 _ (.mk k n ts) (Nat.lt_succ_self _) _ W (hTW W hW) hok)
  have HSB : Hid (∀ (L : Nat) (l : List Bool), l.length = L → L ≤ 4096 → ∀ W A A' c c', BlR W A l → BlR W A' l → Calls Tryz.prog 21 #[.slice A L c, .slice A' L c'] W fun e w' => e = .returned (.bool true) ∧ Below W.heap.size W w') := Lib.hid (fun L l hl h40 W A A' c c' h h' => by
    subst hl
    exact (SameBools_ok l l A A' c c' W h h' (by omega)).mono (fun e w' h => by simpa using h))
  have HNN := Lib.hid (fun W => none_ok W)
  have HMN : Hid (okR fSh (.mk k n ts) = false → mesI fSh (.mk k n ts) = none) := Lib.hid mesI_no
  have HMY : Hid (okR fSh (.mk k n ts) = true → mesI fSh (.mk k n ts) = some (nodT (.mk k n ts), inpT (.mk k n ts), sizT (.mk k n ts), depT fSh (.mk k n ts)) ∧ shN fSh (.mk k n ts) = true ∧ nodT (.mk k n ts) ≤ 20000 ∧ okT fSh (inpT (.mk k n ts)) (.mk k n ts) ∧ inpT (.mk k n ts) ≤ 16 ∧ (cntN (.mk k n ts) 1001).1 = nodT (.mk k n ts)) := Lib.hid (fun h => ⟨(mesI_yes h).1, (mesI_yes h).2.1, (mesI_yes h).2.2, okT_okR h, inpT_le (mesI_yes h).2.1, count_okR h⟩)
  have HGF := Lib.hid (fun m (hok : okT fSh m (.mk k n ts)) h2 inp (h3 : (m : Int) ≤ inp) h4 => gates_facts hok h2 h3 h4)
  obtain ⟨c0, c1, c2⟩ := HS0.out.cells
  clear hA hT hTW hb1 hs1 hrow
  obtain ⟨b, hb⟩ : ∃ b, decide (wL 300 [.mk k n ts] 0 ≤ 300) = b := ⟨_, rfl⟩
  rw [hb] at HFEW HFN
  have HFEW2 : Hid (Calls Tryz.prog 7 #[.int .i64 300, .slice (some ⟨w.heap.size + 1, 0, none⟩) 1 1] _ _) := HFEW
  clear hb HFEW
  go_enter Tryz.func3, Tryz.ntmps3
  go_wp2_with fail
  refine HFEW2.out.mono ?_
  rintro e w2 ⟨rfl, hB2⟩
  have hs2 := HS1.out.step hB2
  have HS2 := Lib.hid hs2
  obtain ⟨c0, c1, c2⟩ := hs2.cells
  clear hs2 hB2 HS1 HS0 HFEW2
  cases b
  · go_wp2_with fail
    refine (HA.out _ HS2.out.bel).mono ?_
    rintro e w3 ⟨rfl, hB3⟩
    have HS3 := Lib.hid (HS2.out.step hB3)
    clear hB3
    go_wp2_with fail
    go_ret
    exact ⟨rfl, HS3.out.bel⟩
  have hn3 := HFN.out rfl
  have HRV2 := Lib.hid (HRV.out (by omega))
  have HRI2 := Lib.hid (HRI.out (by omega))
  have HRC2 := Lib.hid (HRC.out (by omega))
  have HRD2 := Lib.hid (HRD.out (by omega))
  have HN3 := Lib.hid hn3
  clear hn3 HFN HRV HRI HRC HRD
  go_wp2_with fail
  refine (HFR.out _ HS2.out).mono ?_
  rintro e w3 ⟨hF, hB3⟩
  have hs3 := HS2.out.step hB3
  have HS3 := Lib.hid hs3
  have HF := Lib.hid hF
  have HSZ3 := Lib.hid hB3.size
  clear hs3 hB3 hF HFR
  -- the three outcomes of From
  cases hr : okR fSh (.mk k n ts) with
  | false =>
    rw [hr] at HRV2
    have hmn := HMN.out hr
    have hF := HF.out
    rw [hmn] at hF
    unfold FrmIs at hF
    obtain rfl := hF
    have hs4 := HS3.out.step (below1 w3 (.cells #[.int .i64 0, .slice none 0 0] 30))
    have hcb := alloc_at w3 (.cells #[.int .i64 0, .slice none 0 0] 30) w3.heap.size rfl
    have HS4 := Lib.hid hs4
    have HCB := Lib.hid hcb
    have hlt := (Array.getElem?_eq_some_iff.1 hcb).1
    obtain ⟨c0, c1, c2⟩ := hs4.cells
    obtain ⟨d0, d1⟩ := (blk2_cells hcb).1
    clear hmn hr HF HMN HMY HGF hs4
    go_upto_region 4 with fail
    generalize w3.alloc (.cells #[.int .i64 0, .slice none 0 0] 30) = w4 at *
    go_wp2_with fail
    refine (HRV2.out _ HS4.out).mono ?_
    rintro e w5 ⟨rfl, hB5⟩
    have HS5 := Lib.hid (HS4.out.step hB5)
    obtain ⟨d0, d1⟩ := (blk2_cells ((hB5.block _ hlt).trans HCB.out)).1
    clear hB5 hcb
    go_wp2_with fail
    refine (HNN.out _).mono ?_
    rintro e w6 ⟨rfl, hB6⟩
    have HS6 := Lib.hid (HS5.out.step hB6)
    clear hB6
    go_wp2_with fail
    refine (HA.out _ HS6.out.bel).mono ?_
    rintro e w7 ⟨rfl, hB7⟩
    have HS7 := Lib.hid (HS6.out.step hB7)
    clear hB7
    go_wp2_with fail
    go_ret
    exact ⟨rfl, HS7.out.bel⟩
  | true =>
    rw [hr] at HRV2
    obtain ⟨hmy, hsh, hn20, hok, h16, hcnt⟩ := HMY.out hr
    have hF := HF.out
    rw [hmy] at hF
    unfold FrmIs at hF
    have HRI3 := Lib.hid (HRI2.out hsh)
    have HOKT := Lib.hid hok
    have HRT3 := Lib.hid (HRT.out _ hok)
    have HRE3 := Lib.hid (HRE.out _ h16 hok)
    have HGF2 := Lib.hid (HGF.out _ hok hn20)
    rw [hcnt] at HRC2
    clear hmy hsh hn20 hok hcnt hr HMN HMY HGF HRI2 HRT HRE HF
    dsimp only at hF
    generalize inpT (.mk k n ts) = it at *
    generalize depT fSh (.mk k n ts) = dt at *
    generalize (cntN (.mk k n ts) 1001).2 = c2nd at *
    by_cases hbad : inp < (it : Int) ∨ 16 < inp
    · have he : e = .returned (.tuple #[.agg #[.int .i64 0, .slice none 0 0], .int .i64 2]) := by
        rcases hF with ⟨_, h⟩ | ⟨h1, h2, _⟩
        · exact h
        · omega
      subst he
      have hs4 := HS3.out.step (below1 w3 (.cells #[.int .i64 0, .slice none 0 0] 30))
      have hcb := alloc_at w3 (.cells #[.int .i64 0, .slice none 0 0] 30) w3.heap.size rfl
      have HS4 := Lib.hid hs4
      have HCB := Lib.hid hcb
      have hlt := (Array.getElem?_eq_some_iff.1 hcb).1
      obtain ⟨c0, c1, c2⟩ := hs4.cells
      obtain ⟨d0, d1⟩ := (blk2_cells hcb).1
      have HBAD := Lib.hid hbad
      clear hF hs4 hbad
      go_upto_region 4 with fail
      generalize w3.alloc (.cells #[.int .i64 0, .slice none 0 0] 30) = w4 at *
      go_wp2_with fail
      refine (HRV2.out _ HS4.out).mono ?_
      rintro e w5 ⟨rfl, hB5⟩
      have HS5 := Lib.hid (HS4.out.step hB5)
      have HCB5 := Lib.hid ((hB5.block _ hlt).trans HCB.out)
      have hlt5 := (Array.getElem?_eq_some_iff.1 HCB5.out).1
      obtain ⟨c0, c1, c2⟩ := HS5.out.cells
      clear hB5 hcb hlt d0 d1
      go_wp2_with fail
      refine (HRI3.out _ HS5.out).mono ?_
      rintro e w6 ⟨rfl, hB6⟩
      have HS6 := Lib.hid (HS5.out.step hB6)
      obtain ⟨d0, d1⟩ := (blk2_cells ((hB6.block _ hlt5).trans HCB5.out)).1
      clear hB6 hlt5
      by_cases hq : inp < (it : Int)
      · have dq : decide (inp < (it : Int)) = true := decide_eq_true hq
        clear hq
        go_wp2_with fail
        refine (HNN.out _).mono ?_
        rintro e w7 ⟨rfl, hB7⟩
        have HS7 := Lib.hid (HS6.out.step hB7)
        clear hB7
        go_wp2_with fail
        refine (HA.out _ HS7.out.bel).mono ?_
        rintro e w8 ⟨rfl, hB8⟩
        have HS8 := Lib.hid (HS7.out.step hB8)
        clear hB8
        go_wp2_with fail
        go_ret
        exact ⟨rfl, HS8.out.bel⟩
      · have dq : decide (inp < (it : Int)) = false := decide_eq_false hq
        have dq2 : decide (16 < inp) = true := decide_eq_true (by have := HBAD.out; omega)
        clear hq
        go_wp2_with fail
        refine (HNN.out _).mono ?_
        rintro e w7 ⟨rfl, hB7⟩
        have HS7 := Lib.hid (HS6.out.step hB7)
        clear hB7
        go_wp2_with fail
        refine (HA.out _ HS7.out.bel).mono ?_
        rintro e w8 ⟨rfl, hB8⟩
        have HS8 := Lib.hid (HS7.out.step hB8)
        clear hB8
        go_wp2_with fail
        go_ret
        exact ⟨rfl, HS8.out.bel⟩
    · obtain ⟨A2, c2', he, hr2⟩ : ∃ A2 c2, e = .returned (.tuple #[.agg #[.int .i64 inp, .slice A2 (gatesT (.mk k n ts)).length c2], .int .i64 0]) ∧ RdG w3 A2 (gatesT (.mk k n ts)) := by
        rcases hF with ⟨h1, _⟩ | ⟨_, _, h⟩
        · exact absurd h1 hbad
        · exact h
      subst he
      have hq1 : (it : Int) ≤ inp := by omega
      have hq2 : inp ≤ 16 := by omega
      obtain ⟨fOK, fLE, fDEP, fVAL⟩ := HGF2.out inp hq1 hq2
      obtain ⟨ni, rfl⟩ : ∃ ni : Nat, inp = ni := ⟨inp.toNat, by omega⟩
      have hs4 : FcS w k n A ts.length c w3.heap.size ni A2 c2' (gatesT (.mk k n ts)) (w3.alloc (.cells #[.int .i64 (ni : Int), .slice A2 (gatesT (.mk k n ts)).length c2'] 30)) :=
        ⟨HS3.out.step (below1 _ _), alloc_at _ _ _ rfl, hr2.below (below1 _ _)⟩
      have HS4 := Lib.hid hs4
      have HVAL := Lib.hid fVAL
      have HOKC := Lib.hid fOK
      have hlen2 : (gatesT (.mk k n ts)).length ≤ 300 := Nat.le_trans fLE HN3.out
      have HDEP := Lib.hid fDEP
      have HLE := Lib.hid fLE
      have HFW : Hid (fL 60000 [gatesT (.mk k n ts)] 0 ≤ 60000) := Lib.hid (fL_gates fOK (by omega))
      have dB1 : decide ((ni : Int) < (it : Int)) = false := decide_eq_false (by omega)
      have dB2 : decide ((16 : Int) < (ni : Int)) = false := decide_eq_false (by omega)
      have dB1' : decide (ni < it) = false := decide_eq_false (by omega)
      have dB2' : decide (16 < ni) = false := decide_eq_false (by omega)
      have HQ := Lib.hid (And.intro hq1 hq2)
      obtain ⟨c0, c1, c2, d0, d1⟩ := hs4.cells
      clear hF hr2 hbad fOK fLE fDEP fVAL HGF2 hs4 hq1 hq2
      generalize gatesT (.mk k n ts) = gs at *
      have HCR : Hid (∀ W, FcS w k n A ts.length c w3.heap.size ni A2 c2' gs W → CirV W (.agg #[.int .i64 (ni : Int), .slice A2 gs.length c2']) ni gs) := Lib.hid (fun W hW => ⟨A2, c2', rfl, hW.rd, by omega⟩)
      go_upto_region 4 with fail
      generalize hu4 : w3.alloc (.cells #[.int .i64 (ni : Int), .slice A2 gs.length c2'] 30) = w4 at *
      clear hu4
      go_wp2_with fail
      refine (HRV2.out _ HS4.out.bx).mono ?_
      rintro e w5 ⟨rfl, hB5⟩
      have hs5 := HS4.out.step hB5
      have HS5 := Lib.hid hs5
      obtain ⟨c0, c1, c2, d0, d1⟩ := hs5.cells
      clear hB5 hs5
      go_wp2_with fail
      refine (HRI3.out _ HS5.out.bx).mono ?_
      rintro e w6 ⟨rfl, hB6⟩
      have hs6 := HS5.out.step hB6
      have HS6 := Lib.hid hs6
      obtain ⟨c0, c1, c2, d0, d1⟩ := hs6.cells
      clear hB6 hs6
      go_wp2_with fail
      refine (HRC2.out _ HS6.out.bx).mono ?_
      rintro e w7 ⟨rfl, hB7⟩
      have hs7 := HS6.out.step hB7
      have HS7 := Lib.hid hs7
      obtain ⟨c0, c1, c2, d0, d1⟩ := hs7.cells
      clear hB7 hs7 dB1 dB2 dB1' dB2'
      go_upto_region 10 with fail
      have HPV : Hid (∀ W, FcS w k n A ts.length c w3.heap.size ni A2 c2' gs W → Calls Tryz.prog 15 #[.agg #[.int .i64 (ni : Int), .slice A2 gs.length c2']] W fun e w' => e = .returned (.bool true) ∧ Below W.heap.size W w') := Lib.hid (fun W hW => (CValid_ref ni _ gs W (HCR.out W hW)).mono (fun e w' h => by rw [HOKC.out] at h; exact h))
      have HPD : Hid (∀ W, FcS w k n A ts.length c w3.heap.size ni A2 c2' gs W → Calls Tryz.prog 16 #[.agg #[.int .i64 (ni : Int), .slice A2 gs.length c2']] W fun e w' => e = .returned (.int .i64 (dt : Nat)) ∧ Below W.heap.size W w') := Lib.hid (fun W hW => (CDepth_ref ni _ gs W (HCR.out W hW) HOKC.out).mono (fun e w' h => by rw [HDEP.out] at h; exact h))
      have HFD : Hid (∀ W, FcS w k n A ts.length c w3.heap.size ni A2 c2' gs W → Calls Tryz.prog 17 #[.agg #[.int .i64 k, .int .i64 n, .slice A ts.length c]] W fun e w' => e = .returned (.int .i64 (dt : Nat)) ∧ Below W.heap.size W w') := Lib.hid (fun W hW => HRD2.out W hW.bx)
      have hs8 := HS7.out.step (below1 w7 (.cells #[.int .i64 (ni : Int), .slice A2 gs.length c2'] 30))
      have HS8 := Lib.hid (show FcS w k n A ts.length c w3.heap.size ni A2 c2' gs (w7.alloc (.cells #[.int .i64 (ni : Int), .slice A2 gs.length c2'] 30)).drew from hs8.step (Below.refl _ _).drew)
      have HB8 := Lib.hid (show Below w7.heap.size w7 (w7.alloc (.cells #[.int .i64 (ni : Int), .slice A2 gs.length c2'] 30)).drew from below_drew_alloc w7 _)
      have HFWC : Hid (Calls Tryz.prog 14 #[.int .i64 60000, .slice (some ⟨w7.heap.size, 0, none⟩) 1 1] (w7.alloc (.cells #[.int .i64 (ni : Int), .slice A2 gs.length c2'] 30)).drew fun r w' => r = .returned (.bool true) ∧ (w7.alloc (.cells #[.int .i64 (ni : Int), .slice A2 gs.length c2'] 30)).drew = w') := Lib.hid ((FewC_ok 60000 (by omega) [gs] (by simp) (some ⟨w7.heap.size, 0, none⟩) 1 (w7.alloc (.cells #[.int .i64 (ni : Int), .slice A2 gs.length c2'] 30)).drew (rdC_one (alloc_at w7 _ w7.heap.size rfl) HS8.out.rd (by omega))).mono (fun e w' h => by rw [decide_eq_true HFW.out] at h; exact h))
      have dL : decide ((nodT (.mk k n ts) : Int) < (gs.length : Int)) = false := decide_eq_false (by have := HLE.out; omega)
      have dL' : decide (nodT (.mk k n ts) < gs.length) = false := decide_eq_false (by have := HLE.out; omega)
      have HS7B := Lib.hid HS7.out.bx.bel
      obtain ⟨a0, a1, a2, b0, b1⟩ := hs8.cells
      clear hs8
      generalize nodT (.mk k n ts) = nod at *
      have hle : gs.length ≤ nod := HLE.out
      go_cut [92] (fun tv W => tv = .bool false ∧ Below w7.heap.size w7 W)
      case first =>
        go_region_law (first
          | (go_simp; (with_reducible refine HFWC.out.mono ?_); rintro e wf ⟨rfl, rfl⟩)
          | (go_simp; (with_reducible refine (HPV.out _ HS8.out).mono ?_); rintro e wa ⟨rfl, hBa⟩; have hsa := HS8.out.step hBa; have hba := HB8.out.trans (hBa.mono HB8.out.size); obtain ⟨pa0, pa1, pa2, qa0, qa1⟩ := hsa.cells)
          | (go_simp; (with_reducible refine (HPD.out wa hsa).mono ?_); rintro e wb ⟨rfl, hBb⟩; have hsb := hsa.step hBb; have hbb := hba.trans (hBb.mono hba.size); obtain ⟨pb0, pb1, pb2, qb0, qb1⟩ := hsb.cells)
          | (go_simp; (with_reducible refine (HFD.out wa hsa).mono ?_); rintro e wc ⟨rfl, hBc⟩; have hsc := hsa.step hBc; have hbc := hba.trans (hBc.mono hba.size); obtain ⟨pc0, pc1, pc2, qc0, qc1⟩ := hsc.cells)
          | (go_simp; (with_reducible refine (HFD.out wb hsb).mono ?_); rintro e wd ⟨rfl, hBd⟩; have hbd := hbb.trans (hBd.mono hbb.size))
          | (go_simp; (with_reducible refine (HPD.out wc hsc).mono ?_); rintro e wd ⟨rfl, hBd⟩; have hbd := hbc.trans (hBd.mono hbc.size)))
        all_goals
          go_wp2_with fail
          go_meet
          exact ⟨rfl, hbd⟩
      case rest =>
        obtain ⟨rfl, hbx⟩ := hcut
        have hs9 := HS7.out.step hbx
        have HS9 := Lib.hid hs9
        obtain ⟨c0, c1, c2, d0, d1⟩ := hs9.cells
        clear hbx hs9 a0 a1 a2 b0 b1 dL dL' hle HFWC HB8 HS8
        generalize wc = w9 at *
        by_cases h10 : 10 < ni
        · have d10 : decide ((10 : Int) < (ni : Int)) = true := decide_eq_true (by omega)
          have d10' : decide (10 < ni) = true := decide_eq_true h10
          have HLS := Lib.hid (lists_ok ni more (by have := HQ.out.2; omega) hmore w9)
          clear h10
          go_wp2_with fail
          refine HLS.out.mono ?_
          rintro e w10 ⟨lg, lc, LL, hLL, rfl, hls⟩
          have hs10 := HS9.out.step (hls.bel)
          have HS10 := Lib.hid (And.intro hs10 hls)
          have HLL := Lib.hid hLL
          obtain ⟨c0, c1, c2, d0, d1⟩ := hs10.cells
          clear hs10 hls hLL HLS
          go_wp2_with fail
          go_loopw [13] (fun iv W => ∃ i : Nat, i ≤ 65 ∧ iv = .int .i64 i ∧ FcS w k n A ts.length c w3.heap.size ni A2 c2' gs W ∧ LsR ni w9 (.slice (some ⟨lg, 0, none⟩) LL.length lc) LL W) (fun iv _ => 65 - (intOf iv).toNat)
          case atStart => exact ⟨0, by omega, rfl, HS10.out.1, HS10.out.2⟩
          case round =>
            clear c0 c1 c2 d0 d1
            obtain ⟨i, hi, rfl, hf, hls⟩ := hrel
            have HF := Lib.hid (And.intro hf hls)
            by_cases hil : i < 65
            · have e3 : decide ((i : Int) < 65) = true := decide_eq_true (by omega)
              have e3' : decide (i < 65) = true := decide_eq_true hil
              have hil2 : (i : Int) < 65 := by omega
              obtain ⟨x, hx⟩ : ∃ x, LL[i]? = some x := ⟨_, List.getElem?_eq_getElem (by rw [HLL.out]; exact hil)⟩
              have HAT : Hid (∀ W, LsR ni w9 (.slice (some ⟨lg, 0, none⟩) LL.length lc) LL W → W.cell? ⟨lg, i, none⟩ = some (.slice (some ⟨x.2, 0, none⟩) ni ni) ∧ BlR W (some ⟨x.2, 0, none⟩) (tbR (ptF x.1) ni ni)) := Lib.hid (fun W hW => hW.at hx)
              have HEC : Hid (∀ W, FcS w k n A ts.length c w3.heap.size ni A2 c2' gs W → BlR W (some ⟨x.2, 0, none⟩) (tbR (ptF x.1) ni ni) → Calls Tryz.prog 19 #[.agg #[.int .i64 (ni : Int), .slice A2 gs.length c2'], .slice (some ⟨x.2, 0, none⟩) ni ni] W fun e w' => e = .returned (.bool (gvC (fun a => (tbR (ptF x.1) ni ni)[a]?.getD false) gs)) ∧ Below W.heap.size W w') := Lib.hid (fun W hW hX => by
                have h := CEval_ref ni _ gs (some ⟨x.2, 0, none⟩) ni (tbR (ptF x.1) ni ni) W (HCR.out W hW) HOKC.out hX (by rw [tbR_length]; omega) (by rw [tbR_length]; have := HQ.out.2; omega)
                rw [tbR_length] at h
                exact h)
              have HEF : Hid (∀ W, FcS w k n A ts.length c w3.heap.size ni A2 c2' gs W → BlR W (some ⟨x.2, 0, none⟩) (tbR (ptF x.1) ni ni) → Calls Tryz.prog 20 #[.agg #[.int .i64 k, .int .i64 n, .slice A ts.length c], .slice (some ⟨x.2, 0, none⟩) ni ni] W fun e w' => e = .returned (.bool (gvC (fun a => (tbR (ptF x.1) ni ni)[a]?.getD false) gs)) ∧ Below W.heap.size W w') := Lib.hid (fun W hW hX => by
                have h := HRE3.out (some ⟨x.2, 0, none⟩) ni (tbR (ptF x.1) ni ni) (by rw [tbR_length]; have := HQ.out.1; omega) W hW.bx hX
                rw [tbR_length, ← HVAL.out] at h
                exact h)
              generalize gvC (fun a => (tbR (ptF x.1) ni ni)[a]?.getD false) gs = vv at *
              have HCL : Hid (∀ W, FcS w k n A ts.length c w3.heap.size ni A2 c2' gs W → LsR ni w9 (.slice (some ⟨lg, 0, none⟩) LL.length lc) LL W → (W.cell? ⟨w.heap.size, 0, none⟩ = some (.int .i64 k) ∧ W.cell? ⟨w.heap.size, 1, none⟩ = some (.int .i64 n) ∧ W.cell? ⟨w.heap.size, 2, none⟩ = some (.slice A ts.length c) ∧ W.cell? ⟨w3.heap.size, 0, none⟩ = some (.int .i64 (ni : Int)) ∧ W.cell? ⟨w3.heap.size, 1, none⟩ = some (.slice A2 gs.length c2')) ∧ W.cell? ⟨lg, i, none⟩ = some (.slice (some ⟨x.2, 0, none⟩) ni ni)) := Lib.hid (fun W h1 h2 => ⟨h1.cells, (HAT.out W h2).1⟩)
              obtain ⟨⟨c0, c1, c2, d0, d1⟩, l0⟩ := HCL.out wr hf hls
              clear hf hls hx
              go_upto_region 17 with fail
              refine wp_region_text (S := (fun W => FcS w k n A ts.length c w3.heap.size ni A2 c2' gs W ∧ LsR ni w9 (.slice (some ⟨lg, 0, none⟩) LL.length lc) LL W ∧ (W.cell? ⟨w.heap.size, 0, none⟩ = some (.int .i64 k) ∧ W.cell? ⟨w.heap.size, 1, none⟩ = some (.int .i64 n) ∧ W.cell? ⟨w.heap.size, 2, none⟩ = some (.slice A ts.length c) ∧ W.cell? ⟨w3.heap.size, 0, none⟩ = some (.int .i64 (ni : Int)) ∧ W.cell? ⟨w3.heap.size, 1, none⟩ = some (.slice A2 gs.length c2')) ∧ W.cell? ⟨lg, i, none⟩ = some (.slice (some ⟨x.2, 0, none⟩) ni ni))) (by kernel_rfl) (by kernel_rfl) ⟨HF.out.1.step (Below.refl _ wr).drew, HF.out.2.below (Below.refl _ wr).drew, HCL.out _ (HF.out.1.step (Below.refl _ wr).drew) (HF.out.2.below (Below.refl _ wr).drew)⟩ (b := ?bq) ?text ?post
              case text =>
                refine InText.pure (by rfl) (fun w hw => by (try dsimp only at hw); go_simp; try with_reducible rfl) ?_
                (try simp only [Act.put, List.setIfInBounds_toArray, List.set_cons_zero, List.set_cons_succ])
                refine InText.pure (by rfl) (fun w hw => by (try dsimp only at hw); go_simp; try with_reducible rfl) ?_
                (try simp only [Act.put, List.setIfInBounds_toArray, List.set_cons_zero, List.set_cons_succ])
                refine InText.pure (by rfl) (fun w hw => by (try dsimp only at hw); go_simp; try with_reducible rfl) ?_
                (try simp only [Act.put, List.setIfInBounds_toArray, List.set_cons_zero, List.set_cons_succ])
                refine InText.pure (by rfl) (fun w hw => by (try dsimp only at hw); go_simp; try with_reducible rfl) ?_
                (try simp only [Act.put, List.setIfInBounds_toArray, List.set_cons_zero, List.set_cons_succ])
                refine InText.pure (by rfl) (fun w hw => by (try dsimp only at hw); go_simp; try with_reducible rfl) ?_
                (try simp only [Act.put, List.setIfInBounds_toArray, List.set_cons_zero, List.set_cons_succ])
                refine InText.call (.bool vv) (by rfl) (fun w hw => ?_) ?_
                · go_simp
                  refine (HEC.out w hw.1 (HAT.out w hw.2.1).2).mono ?_
                  rintro e wx ⟨rfl, hB⟩
                  exact ⟨rfl, hw.1.step hB, hw.2.1.below hB, HCL.out _ (hw.1.step hB) (hw.2.1.below hB)⟩
                simp only [Act.put, List.setIfInBounds_toArray, List.set_cons_zero, List.set_cons_succ]
                refine InText.pure (by rfl) (fun w hw => by (try dsimp only at hw); go_simp; try with_reducible rfl) ?_
                (try simp only [Act.put, List.setIfInBounds_toArray, List.set_cons_zero, List.set_cons_succ])
                refine InText.pure (by rfl) (fun w hw => by (try dsimp only at hw); go_simp; try with_reducible rfl) ?_
                (try simp only [Act.put, List.setIfInBounds_toArray, List.set_cons_zero, List.set_cons_succ])
                refine InText.pure (by rfl) (fun w hw => by (try dsimp only at hw); go_simp; try with_reducible rfl) ?_
                (try simp only [Act.put, List.setIfInBounds_toArray, List.set_cons_zero, List.set_cons_succ])
                refine InText.pure (by rfl) (fun w hw => by (try dsimp only at hw); go_simp; try with_reducible rfl) ?_
                (try simp only [Act.put, List.setIfInBounds_toArray, List.set_cons_zero, List.set_cons_succ])
                refine InText.pure (by rfl) (fun w hw => by (try dsimp only at hw); go_simp; try with_reducible rfl) ?_
                (try simp only [Act.put, List.setIfInBounds_toArray, List.set_cons_zero, List.set_cons_succ])
                refine InText.call (.bool vv) (by rfl) (fun w hw => ?_) ?_
                · go_simp
                  refine (HEF.out w hw.1 (HAT.out w hw.2.1).2).mono ?_
                  rintro e wx ⟨rfl, hB⟩
                  exact ⟨rfl, hw.1.step hB, hw.2.1.below hB, HCL.out _ (hw.1.step hB) (hw.2.1.below hB)⟩
                simp only [Act.put, List.setIfInBounds_toArray, List.set_cons_zero, List.set_cons_succ]
                refine InText.pure (by rfl) (fun w hw => by (try dsimp only at hw); go_simp; try with_reducible rfl) ?_
                (try simp only [Act.put, List.setIfInBounds_toArray, List.set_cons_zero, List.set_cons_succ])
                exact InText.done
              case post =>
                rintro w' ⟨hf', hl', _⟩
                have HF9 := Lib.hid (And.intro hf' hl')
                clear hf' hl'
                cases vv <;> (
                  go_wp2_with fail
                  go_roundw
                  case rel => exact ⟨i + 1, by omega, by go_num, HF9.out.1, HF9.out.2⟩
                  case measure => simp [intOf]; omega)
            · have e3 : decide ((i : Int) < 65) = false := decide_eq_false (by omega)
              have e3' : decide (i < 65) = false := decide_eq_false hil
              clear hf hls
              go_wp2_with fail
              refine (HA.out _ HF.out.1.bx.bel).mono ?_
              rintro e w11 ⟨rfl, hB11⟩
              have HS11 := Lib.hid (HF.out.1.step hB11)
              clear hB11
              go_wp2_with fail
              go_ret
              exact ⟨rfl, HS11.out.bx.bel⟩
        · have d10 : decide ((10 : Int) < (ni : Int)) = false := decide_eq_false (by omega)
          have d10' : decide (10 < ni) = false := decide_eq_false h10
          have hn12 : ni ≤ 12 := by omega
          have hp2 : 2 ^ ni ≤ 4096 := Nat.pow_le_pow_right (n := 2) (by omega) hn12
          have HEQ : Hid (tbR (gvB gs) (2 ^ ni) (2 ^ ni) = rowF (evB (.mk k n ts)) (2 ^ ni) (2 ^ ni)) := Lib.hid (tbR_congr (fun a => HVAL.out _) _ _)
          have HTC := Lib.hid (fun W (hW : FcS w k n A ts.length c w3.heap.size ni A2 c2' gs W) => CTruth_ref ni _ gs W (HCR.out W hW) HOKC.out hn12)
          have HTF := Lib.hid (fun W (hW : FcS w k n A ts.length c w3.heap.size ni A2 c2' gs W) => HRT3.out ni hn12 W hW.bx)
          have HSM : Hid (∀ W W1 W2 g1 g2, W1.heap[g1]? = some (blO (tbR (gvB gs) (2 ^ ni) (2 ^ ni))) → W2.heap[g2]? = some (blO (rowF (evB (.mk k n ts)) (2 ^ ni) (2 ^ ni))) → Below W1.heap.size W1 W → Below W2.heap.size W2 W → Calls Tryz.prog 21 #[.slice (some ⟨g1, 0, none⟩) (2 ^ ni) (2 ^ ni), .slice (some ⟨g2, 0, none⟩) (2 ^ ni) (2 ^ ni)] W fun e w' => e = .returned (.bool true) ∧ Below W.heap.size W w') := Lib.hid (fun W W1 W2 g1 g2 h1 h2 k1 k2 =>
            HSB.out (2 ^ ni) (tbR (gvB gs) (2 ^ ni) (2 ^ ni)) (tbR_length _ _ _) hp2 W _ _ _ _ ((blO_rdS h1).below k1) (by rw [HEQ.out]; exact (blO_rdS h2).below k2))
          have HD9 := Lib.hid (HS9.out.step (Below.refl _ w9).drew)
          clear h10 hn12 hp2
          generalize 2 ^ ni = P2 at *
          go_upto_region 20 with fail
          go_region_law (first
            | (go_simp; (with_reducible refine (HTC.out _ HD9.out).mono ?_); rintro e wa ⟨ga, _, rfl, hga, hBa⟩; have hsa := HD9.out.step hBa; obtain ⟨pa0, pa1, pa2, qa0, qa1⟩ := hsa.cells)
            | (go_simp; (with_reducible refine (HTF.out _ HD9.out).mono ?_); rintro e wb ⟨gb, _, rfl, hgb, hBb⟩; have hsb := HD9.out.step hBb; obtain ⟨pb0, pb1, pb2, qb0, qb1⟩ := hsb.cells)
            | (go_simp; (with_reducible refine (HTF.out wa hsa).mono ?_); rintro e wd ⟨gd, _, rfl, hgd, hBd⟩; have hsd := hsa.step hBd; have hsame := HSM.out wd wa wd ga gd hga hgd hBd (Below.refl _ _))
            | (go_simp; (with_reducible refine (HTC.out wb hsb).mono ?_); rintro e wd ⟨gd, _, rfl, hgd, hBd⟩; have hsd := hsb.step hBd; have hsame := HSM.out wd wd wb gd gb hgd hgb (Below.refl _ _) hBd)
            | (go_simp; (with_reducible refine hsame.mono ?_); rintro e we ⟨rfl, hBe⟩; have hse := hsd.step hBe)
            | (go_simp; (with_reducible refine (HA.out we hse.bx.bel).mono ?_); rintro e wf ⟨rfl, hBf⟩; have hsf := hse.step hBf))
          all_goals
            have HSF := Lib.hid hsf
            clear hsf
            go_wp2_with fail
            go_ret
            exact ⟨rfl, HSF.out.bx.bel⟩
end Go.Proofs.YtcophfhnhlaonaaGreatDoor
