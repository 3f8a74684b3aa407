/-
  Joined from Foe: see there.
-/
import Derived.Test.YtopbfgkfpgnalaaGreatDoorVd
import Derived.Test.YtopbfgkfpgnalaaGreatDoorUx
import Derived.Test.YtopbfgkfpgnalaaGreatDoorUp
namespace Go.Proofs.YtopbfgkfpgnalaaGreatDoor
set_option linter.unusedVariables false
open Go.RowKit

theorem okT_of {t : Tre} (h : okR fSh t = true) : okT fSh (inpT t) t := by
  obtain ⟨h1, _⟩ := mesI_yes h
  unfold mesI at h1
  cases hv : visN fSh t 1 ⟨0, 0, 0⟩ with
  | mk r m =>
    rw [hv] at h1
    cases r with
    | none => simp at h1
    | some d =>
      simp at h1
      have := (visN_okT hv).1
      rw [h1.2.1] at this
      exact this
theorem tabR_eq {t : Tre} {n : Nat} (h : okT fSh (inpT t) t) (hn : inpT t ≤ n) (L : Nat) : tabR t n L L = rowF (evB t) L L := by
  apply List.ext_getElem?
  intro a
  by_cases hl : a < L
  · have e : tabP t n a = evB t a := by
      rw [tabP_ev]
      exact evT_congr (m := inpT t) (fun b hb => by
        have : b < n := by omega
        simp [this]) t h
    simp [tabR, rowF, hl, e]
  · simp [tabR, rowF, hl]
theorem rowF_length (f : Nat → Bool) (L i : Nat) : (rowF f L i).length = L := by simp [rowF]
theorem blO_rd {w : World} {g : Nat} {l : List Bool} (h : w.heap[g]? = some (blO l)) : BlR w (some ⟨g, 0, none⟩) l := fun i x hi => by
  refine ⟨g, 0, rfl, ?_⟩
  rw [Nat.zero_add]
  exact (bl_cell h hi).1

set_option maxRecDepth 100000 in
set_option maxHeartbeats 16000000 in
theorem formulaTables_any (t : Tre) (v : Value) (AX : Option Addr) (cx : Nat) (xs : List Bool) (n : Int) (hn : -9223372036854775808 ≤ n ∧ n ≤ 9223372036854775807) (w : World) (hT : TreV 0 w t v) (hX : BlR w AX xs) (hA : ∀ W, Below w.heap.size w W → Calls Tryz.prog 16 #[] W fun e w' => e = .returned (.bool true) ∧ Below W.heap.size W w') :
    Calls Tryz.prog 4 #[v, .slice AX xs.length cx, .int .i64 n] w fun e w' => e = .returned (.bool true) ∧ Below w.heap.size w w' := by
  have HA := Lib.hid hA
  obtain ⟨k, nn, ts⟩ := t
  have hT2 := hT
  unfold TreV at hT2
  obtain ⟨A, c, rfl, -⟩ := hT2
  have hTW := fun W (hW : BoxF w k nn A ts.length c W) => TreV.below hT hW.bel
  have hXW := fun W (hW : BoxF w k nn A ts.length c W) => BlR.below hX hW.bel
  have HS0 := Lib.hid (BoxF.start w k nn A ts.length c)
  have hb1 := below1 (w.alloc (.cells #[.int .i64 k, .int .i64 nn, .slice A ts.length c] 24)) (.cells #[.int .i64 k, .int .i64 nn, .slice A ts.length c] 24)
  have hs1 := HS0.out.step hb1
  have HS1 := Lib.hid hs1
  have hrow : RowV 0 ((w.alloc (.cells #[.int .i64 k, .int .i64 nn, .slice A ts.length c] 24)).alloc (.cells #[.int .i64 k, .int .i64 nn, .slice A ts.length c] 24)) [.mk k nn ts] (some ⟨w.heap.size + 1, 0, none⟩) 0 :=
    rowV_one (alloc_at _ _ _ (by simp)) (hTW _ hs1)
  have HFEW := Lib.hid (Few_ok 300 (by omega) [.mk k nn ts] (some ⟨w.heap.size + 1, 0, none⟩) 1 _ hrow)
  have HFN : Hid (decide (wL 300 [.mk k nn ts] 0 ≤ 300) = true → nodT (.mk k nn ts) ≤ 300) := Lib.hid (fun h => by
    have h2 := of_decide_eq_true h
    rw [wL_one] at h2
    have := wN_nod 300 (.mk k nn ts) 0 h2
    omega)
  have hHE := fun (hl : xs.length ≤ 1099511627776) W (hW : BoxF w k nn A ts.length c W) => Eval_ok (.mk k nn ts) _ AX cx xs hl W (hTW W hW) (hXW W hW)
  have hHT := fun W (hW : BoxF w k nn A ts.length c W) => Table_ok (.mk k nn ts) _ n hn W (hTW W hW)
  have HRV' := Lib.hid (fun (hN : nodT (.mk k nn ts) ≤ 1099511627776) W (hW : BoxF w k nn A ts.length c W) => Valid_ref (.mk k nn ts) _ W (hTW W hW) hN)
  change Hid (∀ (hN : nodT (.mk k nn ts) ≤ 1099511627776) W (hW : BoxF w k nn A ts.length c W), Calls _ _ _ W fun e w' => e = .returned (.bool (okR fSh (.mk k nn ts))) ∧ Below W.heap.size W w') at HRV'
  have HRI' := Lib.hid (fun W (hW : BoxF w k nn A ts.length c W) h1 h2 => Inputs_ref _ (.mk k nn ts) (Nat.lt_succ_self _) _ W (hTW W hW) h1 h2)
  have HRE' := Lib.hid (fun (hok : okT fSh (inpT (.mk k nn ts)) (.mk k nn ts)) (h16 : inpT (.mk k nn ts) ≤ 16) (hl : inpT (.mk k nn ts) ≤ xs.length) W (hW : BoxF w k nn A ts.length c W) => Eval_ref (inpT (.mk k nn ts)) h16 AX cx xs hl _ (.mk k nn ts) (Nat.lt_succ_self _) _ W (hTW W hW) hok (hXW W hW))
  have HTR' := Lib.hid (fun (hok : okT fSh (inpT (.mk k nn ts)) (.mk k nn ts)) (n0 : Nat) (h12 : n0 ≤ 12) W (hW : BoxF w k nn A ts.length c W) => Truth_ref (inpT (.mk k nn ts)) n0 h12 _ (.mk k nn ts) (Nat.lt_succ_self _) _ W (hTW W hW) hok)
  have HTQ : Hid (okT fSh (inpT (.mk k nn ts)) (.mk k nn ts) → ∀ n0 : Nat, inpT (.mk k nn ts) ≤ n0 → tabR (.mk k nn ts) n0 (2 ^ n0) (2 ^ n0) = rowF (evB (.mk k nn ts)) (2 ^ n0) (2 ^ n0)) := Lib.hid (fun h n0 hn => tabR_eq h hn _)
  have HSB : Hid (∀ (L : Nat) (l : List Bool), l.length = L → L ≤ 4096 → ∀ W A A' c c', BlR W A l → BlR W A' l → Calls Tryz.prog 28 #[.slice A L c, .slice A' L c'] W fun e w' => e = .returned (.bool true) ∧ Below W.heap.size W w') := Lib.hid (fun L l hl h40 W A A' c c' h h' => by
    subst hl
    exact (SameBools_ok l l A A' c c' W h h' (by omega)).mono (fun e w' h => by simpa using h))
  have HY : Hid (okR fSh (.mk k nn ts) = true → mesI fSh (.mk k nn ts) = some (nodT (.mk k nn ts), inpT (.mk k nn ts), sizT (.mk k nn ts), depT fSh (.mk k nn ts)) ∧ shN fSh (.mk k nn ts) = true ∧ nodT (.mk k nn ts) ≤ 20000) := Lib.hid mesI_yes
  have HOK : Hid (okR fSh (.mk k nn ts) = true → okT fSh (inpT (.mk k nn ts)) (.mk k nn ts)) := Lib.hid okT_of
  have HI16 : Hid (shN fSh (.mk k nn ts) = true → inpT (.mk k nn ts) ≤ 16) := Lib.hid inpT_le
  have HN : Hid (okR fSh (.mk k nn ts) = false → mesI fSh (.mk k nn ts) = none) := Lib.hid mesI_no
  obtain ⟨c0, c1, c2⟩ := HS0.out.cells
  clear hA hT hTW hXW hX hb1 hs1 hrow
  obtain ⟨b, hb⟩ : ∃ b, decide (wL 300 [.mk k nn ts] 0 ≤ 300) = b := ⟨_, rfl⟩
  rw [hb] at HFEW HFN
  have HFEW2 : Hid (Calls Tryz.prog 15 #[.int .i64 300, .slice (some ⟨w.heap.size + 1, 0, none⟩) 1 1] _ _) := HFEW
  generalize okR fSh (.mk k nn ts) = r at *
  clear hb HFEW
  have HE := Lib.hid hHE
  have HT := Lib.hid hHT
  clear hHE hHT
  go_enter Tryz.func4, Tryz.ntmps4
  go_wp2_with fail
  refine HFEW2.out.mono ?_
  rintro e w2 ⟨rfl, hB2⟩
  have hs2 := HS1.out.step hB2
  have HS2 := Lib.hid hs2
  obtain ⟨c0, c1, c2⟩ := hs2.cells
  clear hs2 hB2 HS1 HS0 HFEW2
  cases b
  · go_wp2_with fail
    refine (HA.out _ HS2.out.bel).mono ?_
    rintro e w3 ⟨rfl, hB3⟩
    have HS3 := Lib.hid (HS2.out.step hB3)
    clear hB3
    go_wp2_with fail
    go_ret
    exact ⟨rfl, HS3.out.bel⟩
  have hn3 := HFN.out rfl
  by_cases h100 : 100 < xs.length
  · have d1 : decide ((100 : Int) < (xs.length : Int)) = true := decide_eq_true (by omega)
    have d1' : decide (100 < xs.length) = true := decide_eq_true h100
    clear hn3
    go_wp2_with fail
    refine (HA.out _ HS2.out.bel).mono ?_
    rintro e w3 ⟨rfl, hB3⟩
    have HS3 := Lib.hid (HS2.out.step hB3)
    clear hB3
    go_wp2_with fail
    go_ret
    exact ⟨rfl, HS3.out.bel⟩
  have d1 : decide ((100 : Int) < (xs.length : Int)) = false := decide_eq_false (by omega)
  have d1' : decide (100 < xs.length) = false := decide_eq_false h100
  have HEV := Lib.hid (HE.out (by omega))
  have HRV := Lib.hid (HRV'.out (by omega))
  have HN40 := Lib.hid (show nodT (.mk k nn ts) ≤ 1099511627776 by omega)
  clear hn3 HE HRV' HFN
  go_wp2_with fail
  refine (HEV.out _ HS2.out).mono ?_
  rintro e w3 ⟨hE, hB3⟩
  have HEE := Lib.hid hE
  have hs3 := HS2.out.step hB3
  have HS3 := Lib.hid hs3
  obtain ⟨c0, c1, c2⟩ := hs3.cells
  clear hs3 hB3 hE HEV HS2
  cases r
  · have hmi := HN.out rfl
    have hE := HEE.out
    rw [hmi] at hE
    have hTT : ∀ W, BoxF w k nn A ts.length c W → Calls Tryz.prog 26 #[.agg #[.int .i64 k, .int .i64 nn, .slice A ts.length c], .int .i64 n] W fun e w' => e = .returned (.tuple #[.slice none 0 0, .int .i64 1]) ∧ Below W.heap.size W w' := fun W hW => (HT.out W hW).mono (fun e w' h => by rw [hmi] at h; exact h)
    have HTT := Lib.hid hTT
    obtain rfl : e = .returned (.tuple #[.bool false, .int .i64 1]) := hE
    clear hTT hmi HEE HT HY HN
    go_wp2_with fail
    refine (HTT.out _ HS3.out).mono ?_
    rintro e w4 ⟨rfl, hB4⟩
    have hs4 := HS3.out.step hB4
    have HS4 := Lib.hid hs4
    obtain ⟨c0, c1, c2⟩ := hs4.cells
    clear hs4 hB4
    go_wp2_with fail
    refine (HRV.out _ HS4.out).mono ?_
    rintro e w5 ⟨rfl, hB5⟩
    have hs5 := HS4.out.step hB5
    have HS5 := Lib.hid hs5
    obtain ⟨c0, c1, c2⟩ := hs5.cells
    clear hs5 hB5
    go_wp2_with fail
    refine (HA.out _ HS5.out.bel).mono ?_
    rintro e wz ⟨rfl, hBz⟩
    have HSz := Lib.hid (HS5.out.step hBz)
    clear hBz
    go_wp2_with fail
    go_ret
    exact ⟨rfl, HSz.out.bel⟩
  obtain ⟨hmi, hsh, -⟩ := HY.out rfl
  have hok := HOK.out rfl
  have h16 := HI16.out hsh
  have HRI := Lib.hid (fun W hW => HRI'.out W hW HN40.out hsh)
  have HRE := Lib.hid (HRE'.out hok h16)
  have HTR := Lib.hid (HTR'.out hok)
  have HTE := Lib.hid (HTQ.out hok)
  have HH16 := Lib.hid h16
  have hE := HEE.out
  rw [hmi] at hE
  have HMI := Lib.hid hmi
  clear hmi hsh hok h16 HEE HY HN HRI' HRE' HTR' HTQ HOK HI16
  generalize inpT (.mk k nn ts) = ni at *
  generalize nodT (.mk k nn ts) = nd at *
  generalize sizT (.mk k nn ts) = nz at *
  generalize depT fSh (.mk k nn ts) = dp at *
  rcases hE with ⟨hlt, rfl⟩ | ⟨hge, rfl⟩
  · have hlt' : xs.length < ni := hlt
    have d2 : decide ((xs.length : Int) < (ni : Int)) = true := decide_eq_true (by omega)
    have d2' : decide (xs.length < ni) = true := decide_eq_true hlt'
    clear hlt hlt' HRE
    by_cases hq1 : n < (ni : Int)
    · have HC := Lib.hid (show n < (ni : Int) ∨ 12 < n from .inl hq1)
      have e1 : decide (n < (ni : Int)) = true := decide_eq_true hq1
      go_wp2_with fail
      have hTT := (HT.out _ HS3.out)
      refine hTT.mono ?_
      rintro e w4 ⟨hQ, hB4⟩
      rw [HMI.out] at hQ
      obtain rfl : e = .returned (.tuple #[.slice none 0 0, .int .i64 2]) := by
        rcases hQ with ⟨_, h⟩ | ⟨h1, h2, _⟩
        · exact h
        · have h1' : (ni : Int) ≤ n := h1
          exact absurd HC.out (by omega)
      have hs4 := HS3.out.step hB4
      have HS4 := Lib.hid hs4
      obtain ⟨c0, c1, c2⟩ := hs4.cells
      clear hs4 hB4 hTT hQ HT
      go_wp2_with fail
      refine (HRV.out _ HS4.out).mono ?_
      rintro e w5 ⟨rfl, hB5⟩
      have hs5 := HS4.out.step hB5
      have HS5 := Lib.hid hs5
      obtain ⟨c0, c1, c2⟩ := hs5.cells
      clear hs5 hB5
      go_wp2_with fail
      refine (HRI.out _ HS5.out).mono ?_
      rintro e w6 ⟨rfl, hB6⟩
      have hs6 := HS5.out.step hB6
      have HS6 := Lib.hid hs6
      obtain ⟨c0, c1, c2⟩ := hs6.cells
      clear hs6 hB6
      go_wp2_with fail
      have HS7 := HS6
      refine (HRI.out _ HS7.out).mono ?_
      rintro e w8 ⟨rfl, hB8⟩
      have hs8 := HS7.out.step hB8
      have HS8 := Lib.hid hs8
      obtain ⟨c0, c1, c2⟩ := hs8.cells
      clear hs8 hB8
      go_wp2_with fail
      refine (HA.out _ HS8.out.bel).mono ?_
      rintro e wz ⟨rfl, hBz⟩
      have HSz := Lib.hid (HS8.out.step hBz)
      clear hBz
      go_wp2_with fail
      go_ret
      exact ⟨rfl, HSz.out.bel⟩
    by_cases hq2 : 12 < n
    · have HC := Lib.hid (show n < (ni : Int) ∨ 12 < n from .inr hq2)
      have e1 : decide (n < (ni : Int)) = false := decide_eq_false hq1
      have e2 : decide (12 < n) = true := decide_eq_true hq2
      go_wp2_with fail
      have hTT := (HT.out _ HS3.out)
      refine hTT.mono ?_
      rintro e w4 ⟨hQ, hB4⟩
      rw [HMI.out] at hQ
      obtain rfl : e = .returned (.tuple #[.slice none 0 0, .int .i64 2]) := by
        rcases hQ with ⟨_, h⟩ | ⟨h1, h2, _⟩
        · exact h
        · have h1' : (ni : Int) ≤ n := h1
          exact absurd HC.out (by omega)
      have hs4 := HS3.out.step hB4
      have HS4 := Lib.hid hs4
      obtain ⟨c0, c1, c2⟩ := hs4.cells
      clear hs4 hB4 hTT hQ HT
      go_wp2_with fail
      refine (HRV.out _ HS4.out).mono ?_
      rintro e w5 ⟨rfl, hB5⟩
      have hs5 := HS4.out.step hB5
      have HS5 := Lib.hid hs5
      obtain ⟨c0, c1, c2⟩ := hs5.cells
      clear hs5 hB5
      go_wp2_with fail
      refine (HRI.out _ HS5.out).mono ?_
      rintro e w6 ⟨rfl, hB6⟩
      have hs6 := HS5.out.step hB6
      have HS6 := Lib.hid hs6
      obtain ⟨c0, c1, c2⟩ := hs6.cells
      clear hs6 hB6
      go_wp2_with fail
      have HS7 := HS6
      refine (HRI.out _ HS7.out).mono ?_
      rintro e w8 ⟨rfl, hB8⟩
      have hs8 := HS7.out.step hB8
      have HS8 := Lib.hid hs8
      obtain ⟨c0, c1, c2⟩ := hs8.cells
      clear hs8 hB8
      go_wp2_with fail
      refine (HA.out _ HS8.out.bel).mono ?_
      rintro e wz ⟨rfl, hBz⟩
      have HSz := Lib.hid (HS8.out.step hBz)
      clear hBz
      go_wp2_with fail
      go_ret
      exact ⟨rfl, HSz.out.bel⟩
    obtain ⟨n0, rfl⟩ : ∃ n0 : Nat, n = n0 := ⟨n.toNat, by omega⟩
    have HC := Lib.hid (show ni ≤ n0 ∧ n0 ≤ 12 from ⟨by omega, by omega⟩)
    have e1 : decide ((n0 : Int) < (ni : Int)) = false := decide_eq_false hq1
    have e1' : decide (n0 < ni) = false := decide_eq_false (by omega)
    have e2 : decide ((12 : Int) < (n0 : Int)) = false := decide_eq_false hq2
    have e2' : decide (12 < n0) = false := decide_eq_false (by omega)
    clear hq1 hq2
    go_wp2_with fail
    have hTT := (HT.out _ HS3.out)
    refine hTT.mono ?_
    rintro e w4 ⟨hQ, hB4⟩
    rw [HMI.out] at hQ
    obtain ⟨g, hge, rfl, hgb⟩ : ∃ g, w3.heap.size ≤ g ∧ e = .returned (.tuple #[.slice (some ⟨g, 0, none⟩) (2 ^ n0) (2 ^ n0), .int .i64 0]) ∧ w4.heap[g]? = some (blO (tabR (.mk k nn ts) n0 (2 ^ n0) (2 ^ n0))) := by
      rcases hQ with ⟨h, _⟩ | ⟨_, _, g, h1, h2, h3⟩
      · have h' : (n0 : Int) < (ni : Int) ∨ 12 < (n0 : Int) := h
        have := HC.out
        omega
      · exact ⟨g, h1, h2, h3⟩
    rw [HTE.out n0 HC.out.1] at hgb
    have HR4 := Lib.hid (blO_rd hgb)
    have HSBL := Lib.hid (HSB.out (2 ^ n0) (rowF (evB (.mk k nn ts)) (2 ^ n0) (2 ^ n0)) (rowF_length _ _ _) (Nat.pow_le_pow_right (n := 2) (by omega) HC.out.2))
    have HTRN : Hid (∀ W, BoxF w k nn A ts.length c W → Calls Tryz.prog 29 #[.agg #[.int .i64 k, .int .i64 nn, .slice A ts.length c], .int .i64 (n0 : Int)] W fun e w' => (∃ g, e = .returned (.slice (some ⟨g, 0, none⟩) (2 ^ n0) (2 ^ n0)) ∧ BlR w' (some ⟨g, 0, none⟩) (rowF (evB (.mk k nn ts)) (2 ^ n0) (2 ^ n0))) ∧ Below W.heap.size W w') := Lib.hid (fun W hW => (HTR.out n0 HC.out.2 W hW).mono (fun e w' h => by
      obtain ⟨g, _, h1, h2, h3⟩ := h
      exact ⟨⟨g, h1, blO_rd h2⟩, h3⟩))
    generalize rowF (evB (.mk k nn ts)) (2 ^ n0) (2 ^ n0) = lt at *
    generalize (2 : Nat) ^ n0 = L at *
    have hs4 := HS3.out.step hB4
    have HS4 := Lib.hid hs4
    obtain ⟨c0, c1, c2⟩ := hs4.cells
    clear hs4 hB4 hTT hQ HT hgb hge HTE HTR HSB
    go_wp2_with fail
    refine (HRV.out _ HS4.out).mono ?_
    rintro e w5 ⟨rfl, hB5⟩
    have hs5 := HS4.out.step hB5
    have HS5 := Lib.hid hs5
    obtain ⟨c0, c1, c2⟩ := hs5.cells
    have HR5 := Lib.hid (HR4.out.below hB5)
    clear hs5 hB5
    go_wp2_with fail
    refine (HRI.out _ HS5.out).mono ?_
    rintro e w6 ⟨rfl, hB6⟩
    have hs6 := HS5.out.step hB6
    have HS6 := Lib.hid hs6
    obtain ⟨c0, c1, c2⟩ := hs6.cells
    have HR6 := Lib.hid (HR5.out.below hB6)
    clear hs6 hB6
    go_wp2_with fail
    have HS7 := HS6
    have HR7 := HR6
    refine (HRI.out _ HS7.out).mono ?_
    rintro e w8 ⟨rfl, hB8⟩
    have hs8 := HS7.out.step hB8
    have HS8 := Lib.hid hs8
    obtain ⟨c0, c1, c2⟩ := hs8.cells
    have HR8 := Lib.hid (HR7.out.below hB8)
    clear hs8 hB8
    go_wp2_with fail
    refine (HTRN.out _ HS8.out).mono ?_
    rintro e w9 ⟨⟨g', rfl, hR9'⟩, hB9⟩
    have HS9 := Lib.hid (HS8.out.step hB9)
    have HR9 := Lib.hid (HR8.out.below hB9)
    have HR9' := Lib.hid hR9'
    clear hB9 hR9'
    go_wp2_with fail
    refine (HSBL.out _ _ _ _ _ HR9.out HR9'.out).mono ?_
    rintro e w10 ⟨rfl, hB10⟩
    have HS10 := Lib.hid (HS9.out.step hB10)
    clear hB10
    go_wp2_with fail
    refine (HA.out _ HS10.out.bel).mono ?_
    rintro e wz ⟨rfl, hBz⟩
    have HSz := Lib.hid (HS10.out.step hBz)
    clear hBz
    go_wp2_with fail
    go_ret
    exact ⟨rfl, HSz.out.bel⟩
  · have hge' : ni ≤ xs.length := hge
    have d2 : decide ((xs.length : Int) < (ni : Int)) = false := decide_eq_false (by omega)
    have d2' : decide (xs.length < ni) = false := decide_eq_false (by omega)
    have HREV := Lib.hid (HRE.out hge')
    clear hge hge' HRE
    generalize evT (fun a => xs[a]?.getD false) (.mk k nn ts) = bv at *
    cases bv
    · by_cases hq1 : n < (ni : Int)
      · have HC := Lib.hid (show n < (ni : Int) ∨ 12 < n from .inl hq1)
        have e1 : decide (n < (ni : Int)) = true := decide_eq_true hq1
        go_wp2_with fail
        have hTT := (HT.out _ HS3.out)
        refine hTT.mono ?_
        rintro e w4 ⟨hQ, hB4⟩
        rw [HMI.out] at hQ
        obtain rfl : e = .returned (.tuple #[.slice none 0 0, .int .i64 2]) := by
          rcases hQ with ⟨_, h⟩ | ⟨h1, h2, _⟩
          · exact h
          · have h1' : (ni : Int) ≤ n := h1
            exact absurd HC.out (by omega)
        have hs4 := HS3.out.step hB4
        have HS4 := Lib.hid hs4
        obtain ⟨c0, c1, c2⟩ := hs4.cells
        clear hs4 hB4 hTT hQ HT
        go_wp2_with fail
        refine (HRV.out _ HS4.out).mono ?_
        rintro e w5 ⟨rfl, hB5⟩
        have hs5 := HS4.out.step hB5
        have HS5 := Lib.hid hs5
        obtain ⟨c0, c1, c2⟩ := hs5.cells
        clear hs5 hB5
        go_wp2_with fail
        refine (HRI.out _ HS5.out).mono ?_
        rintro e w6 ⟨rfl, hB6⟩
        have hs6 := HS5.out.step hB6
        have HS6 := Lib.hid hs6
        obtain ⟨c0, c1, c2⟩ := hs6.cells
        clear hs6 hB6
        go_wp2_with fail
        refine (HREV.out _ HS6.out).mono ?_
        rintro e w7 ⟨rfl, hB7⟩
        have hs7 := HS6.out.step hB7
        have HS7 := Lib.hid hs7
        obtain ⟨c0, c1, c2⟩ := hs7.cells
        clear hs7 hB7
        go_wp2_with fail
        refine (HRI.out _ HS7.out).mono ?_
        rintro e w8 ⟨rfl, hB8⟩
        have hs8 := HS7.out.step hB8
        have HS8 := Lib.hid hs8
        obtain ⟨c0, c1, c2⟩ := hs8.cells
        clear hs8 hB8
        go_wp2_with fail
        refine (HA.out _ HS8.out.bel).mono ?_
        rintro e wz ⟨rfl, hBz⟩
        have HSz := Lib.hid (HS8.out.step hBz)
        clear hBz
        go_wp2_with fail
        go_ret
        exact ⟨rfl, HSz.out.bel⟩
      by_cases hq2 : 12 < n
      · have HC := Lib.hid (show n < (ni : Int) ∨ 12 < n from .inr hq2)
        have e1 : decide (n < (ni : Int)) = false := decide_eq_false hq1
        have e2 : decide (12 < n) = true := decide_eq_true hq2
        go_wp2_with fail
        have hTT := (HT.out _ HS3.out)
        refine hTT.mono ?_
        rintro e w4 ⟨hQ, hB4⟩
        rw [HMI.out] at hQ
        obtain rfl : e = .returned (.tuple #[.slice none 0 0, .int .i64 2]) := by
          rcases hQ with ⟨_, h⟩ | ⟨h1, h2, _⟩
          · exact h
          · have h1' : (ni : Int) ≤ n := h1
            exact absurd HC.out (by omega)
        have hs4 := HS3.out.step hB4
        have HS4 := Lib.hid hs4
        obtain ⟨c0, c1, c2⟩ := hs4.cells
        clear hs4 hB4 hTT hQ HT
        go_wp2_with fail
        refine (HRV.out _ HS4.out).mono ?_
        rintro e w5 ⟨rfl, hB5⟩
        have hs5 := HS4.out.step hB5
        have HS5 := Lib.hid hs5
        obtain ⟨c0, c1, c2⟩ := hs5.cells
        clear hs5 hB5
        go_wp2_with fail
        refine (HRI.out _ HS5.out).mono ?_
        rintro e w6 ⟨rfl, hB6⟩
        have hs6 := HS5.out.step hB6
        have HS6 := Lib.hid hs6
        obtain ⟨c0, c1, c2⟩ := hs6.cells
        clear hs6 hB6
        go_wp2_with fail
        refine (HREV.out _ HS6.out).mono ?_
        rintro e w7 ⟨rfl, hB7⟩
        have hs7 := HS6.out.step hB7
        have HS7 := Lib.hid hs7
        obtain ⟨c0, c1, c2⟩ := hs7.cells
        clear hs7 hB7
        go_wp2_with fail
        refine (HRI.out _ HS7.out).mono ?_
        rintro e w8 ⟨rfl, hB8⟩
        have hs8 := HS7.out.step hB8
        have HS8 := Lib.hid hs8
        obtain ⟨c0, c1, c2⟩ := hs8.cells
        clear hs8 hB8
        go_wp2_with fail
        refine (HA.out _ HS8.out.bel).mono ?_
        rintro e wz ⟨rfl, hBz⟩
        have HSz := Lib.hid (HS8.out.step hBz)
        clear hBz
        go_wp2_with fail
        go_ret
        exact ⟨rfl, HSz.out.bel⟩
      obtain ⟨n0, rfl⟩ : ∃ n0 : Nat, n = n0 := ⟨n.toNat, by omega⟩
      have HC := Lib.hid (show ni ≤ n0 ∧ n0 ≤ 12 from ⟨by omega, by omega⟩)
      have e1 : decide ((n0 : Int) < (ni : Int)) = false := decide_eq_false hq1
      have e1' : decide (n0 < ni) = false := decide_eq_false (by omega)
      have e2 : decide ((12 : Int) < (n0 : Int)) = false := decide_eq_false hq2
      have e2' : decide (12 < n0) = false := decide_eq_false (by omega)
      clear hq1 hq2
      go_wp2_with fail
      have hTT := (HT.out _ HS3.out)
      refine hTT.mono ?_
      rintro e w4 ⟨hQ, hB4⟩
      rw [HMI.out] at hQ
      obtain ⟨g, hge, rfl, hgb⟩ : ∃ g, w3.heap.size ≤ g ∧ e = .returned (.tuple #[.slice (some ⟨g, 0, none⟩) (2 ^ n0) (2 ^ n0), .int .i64 0]) ∧ w4.heap[g]? = some (blO (tabR (.mk k nn ts) n0 (2 ^ n0) (2 ^ n0))) := by
        rcases hQ with ⟨h, _⟩ | ⟨_, _, g, h1, h2, h3⟩
        · have h' : (n0 : Int) < (ni : Int) ∨ 12 < (n0 : Int) := h
          have := HC.out
          omega
        · exact ⟨g, h1, h2, h3⟩
      rw [HTE.out n0 HC.out.1] at hgb
      have HR4 := Lib.hid (blO_rd hgb)
      have HSBL := Lib.hid (HSB.out (2 ^ n0) (rowF (evB (.mk k nn ts)) (2 ^ n0) (2 ^ n0)) (rowF_length _ _ _) (Nat.pow_le_pow_right (n := 2) (by omega) HC.out.2))
      have HTRN : Hid (∀ W, BoxF w k nn A ts.length c W → Calls Tryz.prog 29 #[.agg #[.int .i64 k, .int .i64 nn, .slice A ts.length c], .int .i64 (n0 : Int)] W fun e w' => (∃ g, e = .returned (.slice (some ⟨g, 0, none⟩) (2 ^ n0) (2 ^ n0)) ∧ BlR w' (some ⟨g, 0, none⟩) (rowF (evB (.mk k nn ts)) (2 ^ n0) (2 ^ n0))) ∧ Below W.heap.size W w') := Lib.hid (fun W hW => (HTR.out n0 HC.out.2 W hW).mono (fun e w' h => by
        obtain ⟨g, _, h1, h2, h3⟩ := h
        exact ⟨⟨g, h1, blO_rd h2⟩, h3⟩))
      generalize rowF (evB (.mk k nn ts)) (2 ^ n0) (2 ^ n0) = lt at *
      generalize (2 : Nat) ^ n0 = L at *
      have hs4 := HS3.out.step hB4
      have HS4 := Lib.hid hs4
      obtain ⟨c0, c1, c2⟩ := hs4.cells
      clear hs4 hB4 hTT hQ HT hgb hge HTE HTR HSB
      go_wp2_with fail
      refine (HRV.out _ HS4.out).mono ?_
      rintro e w5 ⟨rfl, hB5⟩
      have hs5 := HS4.out.step hB5
      have HS5 := Lib.hid hs5
      obtain ⟨c0, c1, c2⟩ := hs5.cells
      have HR5 := Lib.hid (HR4.out.below hB5)
      clear hs5 hB5
      go_wp2_with fail
      refine (HRI.out _ HS5.out).mono ?_
      rintro e w6 ⟨rfl, hB6⟩
      have hs6 := HS5.out.step hB6
      have HS6 := Lib.hid hs6
      obtain ⟨c0, c1, c2⟩ := hs6.cells
      have HR6 := Lib.hid (HR5.out.below hB6)
      clear hs6 hB6
      go_wp2_with fail
      refine (HREV.out _ HS6.out).mono ?_
      rintro e w7 ⟨rfl, hB7⟩
      have hs7 := HS6.out.step hB7
      have HS7 := Lib.hid hs7
      obtain ⟨c0, c1, c2⟩ := hs7.cells
      have HR7 := Lib.hid (HR6.out.below hB7)
      clear hs7 hB7
      go_wp2_with fail
      refine (HRI.out _ HS7.out).mono ?_
      rintro e w8 ⟨rfl, hB8⟩
      have hs8 := HS7.out.step hB8
      have HS8 := Lib.hid hs8
      obtain ⟨c0, c1, c2⟩ := hs8.cells
      have HR8 := Lib.hid (HR7.out.below hB8)
      clear hs8 hB8
      go_wp2_with fail
      refine (HTRN.out _ HS8.out).mono ?_
      rintro e w9 ⟨⟨g', rfl, hR9'⟩, hB9⟩
      have HS9 := Lib.hid (HS8.out.step hB9)
      have HR9 := Lib.hid (HR8.out.below hB9)
      have HR9' := Lib.hid hR9'
      clear hB9 hR9'
      go_wp2_with fail
      refine (HSBL.out _ _ _ _ _ HR9.out HR9'.out).mono ?_
      rintro e w10 ⟨rfl, hB10⟩
      have HS10 := Lib.hid (HS9.out.step hB10)
      clear hB10
      go_wp2_with fail
      refine (HA.out _ HS10.out.bel).mono ?_
      rintro e wz ⟨rfl, hBz⟩
      have HSz := Lib.hid (HS10.out.step hBz)
      clear hBz
      go_wp2_with fail
      go_ret
      exact ⟨rfl, HSz.out.bel⟩
    · by_cases hq1 : n < (ni : Int)
      · have HC := Lib.hid (show n < (ni : Int) ∨ 12 < n from .inl hq1)
        have e1 : decide (n < (ni : Int)) = true := decide_eq_true hq1
        go_wp2_with fail
        have hTT := (HT.out _ HS3.out)
        refine hTT.mono ?_
        rintro e w4 ⟨hQ, hB4⟩
        rw [HMI.out] at hQ
        obtain rfl : e = .returned (.tuple #[.slice none 0 0, .int .i64 2]) := by
          rcases hQ with ⟨_, h⟩ | ⟨h1, h2, _⟩
          · exact h
          · have h1' : (ni : Int) ≤ n := h1
            exact absurd HC.out (by omega)
        have hs4 := HS3.out.step hB4
        have HS4 := Lib.hid hs4
        obtain ⟨c0, c1, c2⟩ := hs4.cells
        clear hs4 hB4 hTT hQ HT
        go_wp2_with fail
        refine (HRV.out _ HS4.out).mono ?_
        rintro e w5 ⟨rfl, hB5⟩
        have hs5 := HS4.out.step hB5
        have HS5 := Lib.hid hs5
        obtain ⟨c0, c1, c2⟩ := hs5.cells
        clear hs5 hB5
        go_wp2_with fail
        refine (HRI.out _ HS5.out).mono ?_
        rintro e w6 ⟨rfl, hB6⟩
        have hs6 := HS5.out.step hB6
        have HS6 := Lib.hid hs6
        obtain ⟨c0, c1, c2⟩ := hs6.cells
        clear hs6 hB6
        go_wp2_with fail
        refine (HREV.out _ HS6.out).mono ?_
        rintro e w7 ⟨rfl, hB7⟩
        have hs7 := HS6.out.step hB7
        have HS7 := Lib.hid hs7
        obtain ⟨c0, c1, c2⟩ := hs7.cells
        clear hs7 hB7
        go_wp2_with fail
        refine (HRI.out _ HS7.out).mono ?_
        rintro e w8 ⟨rfl, hB8⟩
        have hs8 := HS7.out.step hB8
        have HS8 := Lib.hid hs8
        obtain ⟨c0, c1, c2⟩ := hs8.cells
        clear hs8 hB8
        go_wp2_with fail
        refine (HA.out _ HS8.out.bel).mono ?_
        rintro e wz ⟨rfl, hBz⟩
        have HSz := Lib.hid (HS8.out.step hBz)
        clear hBz
        go_wp2_with fail
        go_ret
        exact ⟨rfl, HSz.out.bel⟩
      by_cases hq2 : 12 < n
      · have HC := Lib.hid (show n < (ni : Int) ∨ 12 < n from .inr hq2)
        have e1 : decide (n < (ni : Int)) = false := decide_eq_false hq1
        have e2 : decide (12 < n) = true := decide_eq_true hq2
        go_wp2_with fail
        have hTT := (HT.out _ HS3.out)
        refine hTT.mono ?_
        rintro e w4 ⟨hQ, hB4⟩
        rw [HMI.out] at hQ
        obtain rfl : e = .returned (.tuple #[.slice none 0 0, .int .i64 2]) := by
          rcases hQ with ⟨_, h⟩ | ⟨h1, h2, _⟩
          · exact h
          · have h1' : (ni : Int) ≤ n := h1
            exact absurd HC.out (by omega)
        have hs4 := HS3.out.step hB4
        have HS4 := Lib.hid hs4
        obtain ⟨c0, c1, c2⟩ := hs4.cells
        clear hs4 hB4 hTT hQ HT
        go_wp2_with fail
        refine (HRV.out _ HS4.out).mono ?_
        rintro e w5 ⟨rfl, hB5⟩
        have hs5 := HS4.out.step hB5
        have HS5 := Lib.hid hs5
        obtain ⟨c0, c1, c2⟩ := hs5.cells
        clear hs5 hB5
        go_wp2_with fail
        refine (HRI.out _ HS5.out).mono ?_
        rintro e w6 ⟨rfl, hB6⟩
        have hs6 := HS5.out.step hB6
        have HS6 := Lib.hid hs6
        obtain ⟨c0, c1, c2⟩ := hs6.cells
        clear hs6 hB6
        go_wp2_with fail
        refine (HREV.out _ HS6.out).mono ?_
        rintro e w7 ⟨rfl, hB7⟩
        have hs7 := HS6.out.step hB7
        have HS7 := Lib.hid hs7
        obtain ⟨c0, c1, c2⟩ := hs7.cells
        clear hs7 hB7
        go_wp2_with fail
        refine (HRI.out _ HS7.out).mono ?_
        rintro e w8 ⟨rfl, hB8⟩
        have hs8 := HS7.out.step hB8
        have HS8 := Lib.hid hs8
        obtain ⟨c0, c1, c2⟩ := hs8.cells
        clear hs8 hB8
        go_wp2_with fail
        refine (HA.out _ HS8.out.bel).mono ?_
        rintro e wz ⟨rfl, hBz⟩
        have HSz := Lib.hid (HS8.out.step hBz)
        clear hBz
        go_wp2_with fail
        go_ret
        exact ⟨rfl, HSz.out.bel⟩
      obtain ⟨n0, rfl⟩ : ∃ n0 : Nat, n = n0 := ⟨n.toNat, by omega⟩
      have HC := Lib.hid (show ni ≤ n0 ∧ n0 ≤ 12 from ⟨by omega, by omega⟩)
      have e1 : decide ((n0 : Int) < (ni : Int)) = false := decide_eq_false hq1
      have e1' : decide (n0 < ni) = false := decide_eq_false (by omega)
      have e2 : decide ((12 : Int) < (n0 : Int)) = false := decide_eq_false hq2
      have e2' : decide (12 < n0) = false := decide_eq_false (by omega)
      clear hq1 hq2
      go_wp2_with fail
      have hTT := (HT.out _ HS3.out)
      refine hTT.mono ?_
      rintro e w4 ⟨hQ, hB4⟩
      rw [HMI.out] at hQ
      obtain ⟨g, hge, rfl, hgb⟩ : ∃ g, w3.heap.size ≤ g ∧ e = .returned (.tuple #[.slice (some ⟨g, 0, none⟩) (2 ^ n0) (2 ^ n0), .int .i64 0]) ∧ w4.heap[g]? = some (blO (tabR (.mk k nn ts) n0 (2 ^ n0) (2 ^ n0))) := by
        rcases hQ with ⟨h, _⟩ | ⟨_, _, g, h1, h2, h3⟩
        · have h' : (n0 : Int) < (ni : Int) ∨ 12 < (n0 : Int) := h
          have := HC.out
          omega
        · exact ⟨g, h1, h2, h3⟩
      rw [HTE.out n0 HC.out.1] at hgb
      have HR4 := Lib.hid (blO_rd hgb)
      have HSBL := Lib.hid (HSB.out (2 ^ n0) (rowF (evB (.mk k nn ts)) (2 ^ n0) (2 ^ n0)) (rowF_length _ _ _) (Nat.pow_le_pow_right (n := 2) (by omega) HC.out.2))
      have HTRN : Hid (∀ W, BoxF w k nn A ts.length c W → Calls Tryz.prog 29 #[.agg #[.int .i64 k, .int .i64 nn, .slice A ts.length c], .int .i64 (n0 : Int)] W fun e w' => (∃ g, e = .returned (.slice (some ⟨g, 0, none⟩) (2 ^ n0) (2 ^ n0)) ∧ BlR w' (some ⟨g, 0, none⟩) (rowF (evB (.mk k nn ts)) (2 ^ n0) (2 ^ n0))) ∧ Below W.heap.size W w') := Lib.hid (fun W hW => (HTR.out n0 HC.out.2 W hW).mono (fun e w' h => by
        obtain ⟨g, _, h1, h2, h3⟩ := h
        exact ⟨⟨g, h1, blO_rd h2⟩, h3⟩))
      generalize rowF (evB (.mk k nn ts)) (2 ^ n0) (2 ^ n0) = lt at *
      generalize (2 : Nat) ^ n0 = L at *
      have hs4 := HS3.out.step hB4
      have HS4 := Lib.hid hs4
      obtain ⟨c0, c1, c2⟩ := hs4.cells
      clear hs4 hB4 hTT hQ HT hgb hge HTE HTR HSB
      go_wp2_with fail
      refine (HRV.out _ HS4.out).mono ?_
      rintro e w5 ⟨rfl, hB5⟩
      have hs5 := HS4.out.step hB5
      have HS5 := Lib.hid hs5
      obtain ⟨c0, c1, c2⟩ := hs5.cells
      have HR5 := Lib.hid (HR4.out.below hB5)
      clear hs5 hB5
      go_wp2_with fail
      refine (HRI.out _ HS5.out).mono ?_
      rintro e w6 ⟨rfl, hB6⟩
      have hs6 := HS5.out.step hB6
      have HS6 := Lib.hid hs6
      obtain ⟨c0, c1, c2⟩ := hs6.cells
      have HR6 := Lib.hid (HR5.out.below hB6)
      clear hs6 hB6
      go_wp2_with fail
      refine (HREV.out _ HS6.out).mono ?_
      rintro e w7 ⟨rfl, hB7⟩
      have hs7 := HS6.out.step hB7
      have HS7 := Lib.hid hs7
      obtain ⟨c0, c1, c2⟩ := hs7.cells
      have HR7 := Lib.hid (HR6.out.below hB7)
      clear hs7 hB7
      go_wp2_with fail
      refine (HRI.out _ HS7.out).mono ?_
      rintro e w8 ⟨rfl, hB8⟩
      have hs8 := HS7.out.step hB8
      have HS8 := Lib.hid hs8
      obtain ⟨c0, c1, c2⟩ := hs8.cells
      have HR8 := Lib.hid (HR7.out.below hB8)
      clear hs8 hB8
      go_wp2_with fail
      refine (HTRN.out _ HS8.out).mono ?_
      rintro e w9 ⟨⟨g', rfl, hR9'⟩, hB9⟩
      have HS9 := Lib.hid (HS8.out.step hB9)
      have HR9 := Lib.hid (HR8.out.below hB9)
      have HR9' := Lib.hid hR9'
      clear hB9 hR9'
      go_wp2_with fail
      refine (HSBL.out _ _ _ _ _ HR9.out HR9'.out).mono ?_
      rintro e w10 ⟨rfl, hB10⟩
      have HS10 := Lib.hid (HS9.out.step hB10)
      clear hB10
      go_wp2_with fail
      refine (HA.out _ HS10.out.bel).mono ?_
      rintro e wz ⟨rfl, hBz⟩
      have HSz := Lib.hid (HS10.out.step hBz)
      clear hBz
      go_wp2_with fail
      go_ret
      exact ⟨rfl, HSz.out.bel⟩
end Go.Proofs.YtopbfgkfpgnalaaGreatDoor
