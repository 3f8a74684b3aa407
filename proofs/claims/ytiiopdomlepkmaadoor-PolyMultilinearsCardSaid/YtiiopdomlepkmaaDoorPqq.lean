/-
  Contracts of Compare and Same of the specification of layer 4.
-/
import Derived.Test.YtiiopdomlepkmaaDoorPqp
namespace Go.Proofs.YtiiopdomlepkmaaDoor
set_option linter.unusedVariables false
open Go.RowKit Go.Maps

set_option maxHeartbeats 2000000 in
theorem cmpR_ok (A B : Option Addr) (c1 c2 n : Nat) (ps qs : List Nat) (w : World) (hp : ps.length = n) (hq : qs.length = n) (hn : n ≤ 80) (hr : RdI w A (nz ps)) (hr2 : RdI w B (nz qs)) :
    Calls Tryd.prog 35 #[.slice A n c1, .slice B n c2] w fun e w' => e = .returned (.int .i64 (cmpL ps qs)) ∧ Below w.heap.size w w' := by
  have HR := Lib.hid hr
  have HR2 := Lib.hid hr2
  have HP := Lib.hid hp
  have HQ := Lib.hid hq
  clear hr hr2
  go_enter Tryd.func35, Tryd.ntmps35
  go_wp2_with fail
  go_loopw [5] (fun i wr => ∃ k : Nat, k ≤ n ∧ i = .int .i64 k ∧ cmpL ps qs = cmpL (ps.drop k) (qs.drop k) ∧ Below w.heap.size w wr) (fun i _ => n - (intOf i).toNat)
  case atStart => exact ⟨0, Nat.zero_le _, rfl, rfl, Below.refl _ _⟩
  case round =>
    obtain ⟨k, hk, rfl, hc, hB⟩ := hrel
    by_cases hkn : k < n
    · obtain ⟨x, hx⟩ : ∃ x, ps[k]? = some x := ⟨_, List.getElem?_eq_getElem (by rw [HP.out]; exact hkn)⟩
      obtain ⟨y, hy⟩ : ∃ y, qs[k]? = some y := ⟨_, List.getElem?_eq_getElem (by rw [HQ.out]; exact hkn)⟩
      obtain ⟨a, rfl, g1⟩ := HR.out k _ (nz_at hx)
      obtain ⟨b, rfl, g2⟩ := HR2.out k _ (nz_at hy)
      have k1 := (hB.cell (World.block_lt_of_cell? w _ g1)).trans g1
      have k2 := (hB.cell (World.block_lt_of_cell? w _ g2)).trans g2
      have hs := cmpL_same ps qs (by rw [HP.out, HQ.out]) k (by rw [HP.out]; exact hkn)
      rw [hs, hx, hy] at hc
      simp only [Option.getD_some] at hc
      have HB := Lib.hid hB
      clear hs hx hy g1 g2 hB
      by_cases h1 : x < y
      · rw [if_pos h1] at hc
        have HC := Lib.hid hc
        have hd1 : decide ((x : Int) < (y : Int)) = true := decide_eq_true (by omega)
        clear hc
        go_wp2_with fail
        go_region
        go_wp2_with fail
        go_ret
        exact ⟨by rw [HC.out]; rfl, HB.out.drew⟩
      · by_cases h2 : y < x
        · rw [if_neg h1, if_pos h2] at hc
          have HC := Lib.hid hc
          have hd1 : decide ((x : Int) < (y : Int)) = false := decide_eq_false (by omega)
          have hd2 : decide ((y : Int) < (x : Int)) = true := decide_eq_true (by omega)
          clear hc
          go_wp2_with fail
          go_region
          go_wp2_with fail
          go_region
          go_wp2_with fail
          go_ret
          exact ⟨by rw [HC.out]; rfl, HB.out.drew.drew⟩
        · rw [if_neg h1, if_neg h2] at hc
          have HC := Lib.hid hc
          have hd1 : decide ((x : Int) < (y : Int)) = false := decide_eq_false (by omega)
          have hd2 : decide ((y : Int) < (x : Int)) = false := decide_eq_false (by omega)
          clear hc
          go_wp2_with fail
          go_region
          go_wp2_with fail
          go_region
          go_wp2_with fail
          go_roundw
          case rel => exact ⟨k + 1, by omega, by go_num, HC.out, HB.out.drew.drew⟩
          case measure => simp [intOf]; omega
    · have hc0 : cmpL ps qs = 0 := by
        rw [hc, List.drop_eq_nil_of_le (by have := HP.out; omega), List.drop_eq_nil_of_le (by have := HQ.out; omega)]
        rfl
      have HC := Lib.hid hc0
      have HB := Lib.hid hB
      clear hc hc0 hB
      go_wp2_with fail
      go_ret
      exact ⟨by rw [HC.out]; rfl, HB.out⟩

set_option maxRecDepth 100000 in
set_option maxHeartbeats 4000000 in
theorem same_ok (n : Nat) (hn : n ≤ 80) (A A2 : Option Addr) (c c2 : Nat) (p p' : List Tm) (hx : ∀ t ∈ p, Ex n t.2) (hx' : ∀ t ∈ p', Ex n t.2) (w : World) (hr : RdP w A (tms p)) (hr' : RdP w A2 (tms p')) (hl : p.length ≤ 1000000) (hl2 : p'.length ≤ 1000000) (hc : ∀ t ∈ p, t.1 ≤ 65536) (hc' : ∀ t ∈ p', t.1 ≤ 65536) :
    Calls Tryd.prog 27 #[.slice A p.length c, .slice A2 p'.length c2] w fun e w' => e = .returned (.bool (decide (p = p'))) ∧ Below w.heap.size w w' := by
  by_cases hlen : p.length = p'.length
  · have HL := Lib.hid hlen
    have HR := Lib.hid hr
    have HR2 := Lib.hid hr'
    have HX := Lib.hid hx
    have HX2 := Lib.hid hx'
    have HCC := Lib.hid hc
    have HCC2 := Lib.hid hc'
    rw [← hlen]
    have hll : ((p.length : Int) != (p.length : Int)) = false := by simp
    clear hr hr' hx hx' hlen hl2 hc hc'
    go_enter Tryd.func27, Tryd.ntmps27
    go_wp2_with fail
    go_loopw [5] (fun i wr => ∃ k : Nat, k ≤ p.length ∧ i = .int .i64 k ∧ p.take k = p'.take k ∧ Below w.heap.size w wr) (fun i _ => p.length - (intOf i).toNat)
    case atStart => exact ⟨0, Nat.zero_le _, rfl, by simp, Below.refl _ _⟩
    case round =>
      obtain ⟨k, hk, rfl, htk, hBw⟩ := hrel
      have HTK := Lib.hid htk
      have HBW := Lib.hid hBw
      clear htk
      by_cases hkn : k < p.length
      · obtain ⟨s, hs⟩ : ∃ s, p[k]? = some s := ⟨_, List.getElem?_eq_getElem hkn⟩
        obtain ⟨t, ht⟩ : ∃ t, p'[k]? = some t := ⟨_, List.getElem?_eq_getElem (by rw [← HL.out]; exact hkn)⟩
        have hsx := HX.out s (List.mem_of_getElem? hs)
        have htx := HX2.out t (List.mem_of_getElem? ht)
        have hs1 := HCC.out s (List.mem_of_getElem? hs)
        have ht1 := HCC2.out t (List.mem_of_getElem? ht)
        obtain ⟨b, off, u, rfl, g1, g3, q1⟩ := HR.out k ((s.1 : Int), nz s.2) (by simp [hs])
        obtain ⟨b2, off2, u2, rfl, g2, g4, q2⟩ := HR2.out k ((t.1 : Int), nz t.2) (by simp [ht])
        obtain ⟨SA, sc, e1, r1, -⟩ := q1
        obtain ⟨TA, tc, e2, r2, -⟩ := q2
        rw [nz_length, hsx.1] at e1
        rw [nz_length, htx.1] at e2
        subst e1 e2
        have k1 := (hBw.cell (World.block_lt_of_cell? w _ g1)).trans g1
        have k2 := (hBw.cell (World.block_lt_of_cell? w _ g2)).trans g2
        have k3 := (hBw.cell (World.block_lt_of_cell? w _ g3)).trans g3
        have k4 := (hBw.cell (World.block_lt_of_cell? w _ g4)).trans g4
        have HST := Lib.hid (show s = t ↔ p.take (k + 1) = p'.take (k + 1) by
          rw [List.take_add_one, List.take_add_one, hs, ht, HTK.out]
          simp)
        have HNEQ := Lib.hid (show p = p' → s = t by
          rintro rfl
          rw [hs] at ht
          exact Option.some.inj ht)
        have HCM := Lib.hid (fun W (hW : Below w.heap.size w W) => cmpR_ok SA TA sc tc n s.2 t.2 W hsx.1 htx.1 hn (r1.below hW) (r2.below hW))
        clear g1 g2 g3 g4 r1 r2 hs ht hsx htx
        by_cases hcc : s.1 = t.1
        · have hcb : ((s.1 : Int) != (t.1 : Int)) = false := by rw [hcc]; simp
          have hnn : ((n : Int) != (n : Int)) = false := by simp
          have HCQ := Lib.hid hcc
          clear hcc
          rcases cmpL_range s.2 t.2 with hcm | hcm | hcm
          · have HNE := Lib.hid (show ¬ p = p' from fun h => by
              have h2 := HNEQ.out h
              rw [h2, cmpL_self] at hcm
              omega)
            rw [hcm] at HCM
            clear hcm
            go_wp2_with fail
            refine wp_region_text (S := (fun W => Below w.heap.size w W ∧ W.cell? ⟨b, off + k * 2, none⟩ = some (.int .i64 (s.1 : Int)) ∧ W.cell? ⟨b2, off2 + k * 2, none⟩ = some (.int .i64 (t.1 : Int)) ∧ W.cell? ⟨b, off + k * 2 + 1, none⟩ = some (.slice SA n sc) ∧ W.cell? ⟨b2, off2 + k * 2 + 1, none⟩ = some (.slice TA n tc))) (by kernel_rfl) (by kernel_rfl) ⟨hBw.drew, k1, k2, k3, k4⟩ (b := ?b1) ?text1 ?post1
            case text1 =>
              iterate 12 (refine InText.pure (by rfl) (fun W hw => by (try dsimp only at hw); go_simp; try with_reducible rfl) ?_; simp only [Act.put, List.setIfInBounds_toArray, List.set_cons_zero, List.set_cons_succ])
              iterate 15 (refine InText.pure (by rfl) (fun W hw => by (try dsimp only at hw); go_simp; try with_reducible rfl) ?_; simp only [Act.put, List.setIfInBounds_toArray, List.set_cons_zero, List.set_cons_succ])
              iterate 10 (refine InText.pure (by rfl) (fun W hw => by (try dsimp only at hw); go_simp; try with_reducible rfl) ?_; simp only [Act.put, List.setIfInBounds_toArray, List.set_cons_zero, List.set_cons_succ])
              refine InText.call (.int .i64 (-1)) (by rfl) (fun W hw => ?_) ?_
              · go_simp
                refine (HCM.out W hw.1).mono ?_
                rintro e wx ⟨rfl, hB⟩
                have h5 := hw.1.size
                exact ⟨rfl, hw.1.trans (hB.mono h5), (hB.cell (World.block_lt_of_cell? W _ hw.2.1)).trans hw.2.1, (hB.cell (World.block_lt_of_cell? W _ hw.2.2.1)).trans hw.2.2.1, (hB.cell (World.block_lt_of_cell? W _ hw.2.2.2.1)).trans hw.2.2.2.1, (hB.cell (World.block_lt_of_cell? W _ hw.2.2.2.2)).trans hw.2.2.2.2⟩
              simp only [Act.put, List.setIfInBounds_toArray, List.set_cons_zero, List.set_cons_succ]
              iterate 2 (refine InText.pure (by rfl) (fun W hw => by (try dsimp only at hw); go_simp; try with_reducible rfl) ?_; simp only [Act.put, List.setIfInBounds_toArray, List.set_cons_zero, List.set_cons_succ])
              exact InText.done
            case post1 =>
              intro W hS
              have HS := Lib.hid hS.1
              clear hS k1 k2 k3 k4
              go_wp2_with fail
              go_ret
              exact ⟨ret_bool (decide_eq_false HNE.out).symm, HS.out⟩
          · have HEQ := Lib.hid (show s = t from Prod.ext HCQ.out (cmpL_zero _ _ hcm))
            rw [hcm] at HCM
            clear hcm
            go_wp2_with fail
            refine wp_region_text (S := (fun W => Below w.heap.size w W ∧ W.cell? ⟨b, off + k * 2, none⟩ = some (.int .i64 (s.1 : Int)) ∧ W.cell? ⟨b2, off2 + k * 2, none⟩ = some (.int .i64 (t.1 : Int)) ∧ W.cell? ⟨b, off + k * 2 + 1, none⟩ = some (.slice SA n sc) ∧ W.cell? ⟨b2, off2 + k * 2 + 1, none⟩ = some (.slice TA n tc))) (by kernel_rfl) (by kernel_rfl) ⟨hBw.drew, k1, k2, k3, k4⟩ (b := ?b2) ?text2 ?post2
            case text2 =>
              iterate 12 (refine InText.pure (by rfl) (fun W hw => by (try dsimp only at hw); go_simp; try with_reducible rfl) ?_; simp only [Act.put, List.setIfInBounds_toArray, List.set_cons_zero, List.set_cons_succ])
              iterate 15 (refine InText.pure (by rfl) (fun W hw => by (try dsimp only at hw); go_simp; try with_reducible rfl) ?_; simp only [Act.put, List.setIfInBounds_toArray, List.set_cons_zero, List.set_cons_succ])
              iterate 10 (refine InText.pure (by rfl) (fun W hw => by (try dsimp only at hw); go_simp; try with_reducible rfl) ?_; simp only [Act.put, List.setIfInBounds_toArray, List.set_cons_zero, List.set_cons_succ])
              refine InText.call (.int .i64 (0)) (by rfl) (fun W hw => ?_) ?_
              · go_simp
                refine (HCM.out W hw.1).mono ?_
                rintro e wx ⟨rfl, hB⟩
                have h5 := hw.1.size
                exact ⟨rfl, hw.1.trans (hB.mono h5), (hB.cell (World.block_lt_of_cell? W _ hw.2.1)).trans hw.2.1, (hB.cell (World.block_lt_of_cell? W _ hw.2.2.1)).trans hw.2.2.1, (hB.cell (World.block_lt_of_cell? W _ hw.2.2.2.1)).trans hw.2.2.2.1, (hB.cell (World.block_lt_of_cell? W _ hw.2.2.2.2)).trans hw.2.2.2.2⟩
              simp only [Act.put, List.setIfInBounds_toArray, List.set_cons_zero, List.set_cons_succ]
              iterate 2 (refine InText.pure (by rfl) (fun W hw => by (try dsimp only at hw); go_simp; try with_reducible rfl) ?_; simp only [Act.put, List.setIfInBounds_toArray, List.set_cons_zero, List.set_cons_succ])
              exact InText.done
            case post2 =>
              intro W hS
              have HS := Lib.hid hS.1
              clear hS k1 k2 k3 k4
              go_wp2_with fail
              go_roundw
              case rel => exact ⟨k + 1, by omega, by go_num, HST.out.1 HEQ.out, HS.out⟩
              case measure => simp [intOf]; omega
          · have HNE := Lib.hid (show ¬ p = p' from fun h => by
              have h2 := HNEQ.out h
              rw [h2, cmpL_self] at hcm
              omega)
            rw [hcm] at HCM
            clear hcm
            go_wp2_with fail
            refine wp_region_text (S := (fun W => Below w.heap.size w W ∧ W.cell? ⟨b, off + k * 2, none⟩ = some (.int .i64 (s.1 : Int)) ∧ W.cell? ⟨b2, off2 + k * 2, none⟩ = some (.int .i64 (t.1 : Int)) ∧ W.cell? ⟨b, off + k * 2 + 1, none⟩ = some (.slice SA n sc) ∧ W.cell? ⟨b2, off2 + k * 2 + 1, none⟩ = some (.slice TA n tc))) (by kernel_rfl) (by kernel_rfl) ⟨hBw.drew, k1, k2, k3, k4⟩ (b := ?b3) ?text3 ?post3
            case text3 =>
              iterate 12 (refine InText.pure (by rfl) (fun W hw => by (try dsimp only at hw); go_simp; try with_reducible rfl) ?_; simp only [Act.put, List.setIfInBounds_toArray, List.set_cons_zero, List.set_cons_succ])
              iterate 15 (refine InText.pure (by rfl) (fun W hw => by (try dsimp only at hw); go_simp; try with_reducible rfl) ?_; simp only [Act.put, List.setIfInBounds_toArray, List.set_cons_zero, List.set_cons_succ])
              iterate 10 (refine InText.pure (by rfl) (fun W hw => by (try dsimp only at hw); go_simp; try with_reducible rfl) ?_; simp only [Act.put, List.setIfInBounds_toArray, List.set_cons_zero, List.set_cons_succ])
              refine InText.call (.int .i64 (1)) (by rfl) (fun W hw => ?_) ?_
              · go_simp
                refine (HCM.out W hw.1).mono ?_
                rintro e wx ⟨rfl, hB⟩
                have h5 := hw.1.size
                exact ⟨rfl, hw.1.trans (hB.mono h5), (hB.cell (World.block_lt_of_cell? W _ hw.2.1)).trans hw.2.1, (hB.cell (World.block_lt_of_cell? W _ hw.2.2.1)).trans hw.2.2.1, (hB.cell (World.block_lt_of_cell? W _ hw.2.2.2.1)).trans hw.2.2.2.1, (hB.cell (World.block_lt_of_cell? W _ hw.2.2.2.2)).trans hw.2.2.2.2⟩
              simp only [Act.put, List.setIfInBounds_toArray, List.set_cons_zero, List.set_cons_succ]
              iterate 2 (refine InText.pure (by rfl) (fun W hw => by (try dsimp only at hw); go_simp; try with_reducible rfl) ?_; simp only [Act.put, List.setIfInBounds_toArray, List.set_cons_zero, List.set_cons_succ])
              exact InText.done
            case post3 =>
              intro W hS
              have HS := Lib.hid hS.1
              clear hS k1 k2 k3 k4
              go_wp2_with fail
              go_ret
              exact ⟨ret_bool (decide_eq_false HNE.out).symm, HS.out⟩
        · have hcb : ((s.1 : Int) != (t.1 : Int)) = true := by simp; omega
          have HNE := Lib.hid (show ¬ p = p' from fun h => hcc (by rw [HNEQ.out h]))
          clear hcc
          go_wp2_with fail
          refine wp_region_text (S := (fun W => Below w.heap.size w W ∧ W.cell? ⟨b, off + k * 2, none⟩ = some (.int .i64 (s.1 : Int)) ∧ W.cell? ⟨b2, off2 + k * 2, none⟩ = some (.int .i64 (t.1 : Int)) ∧ W.cell? ⟨b, off + k * 2 + 1, none⟩ = some (.slice SA n sc) ∧ W.cell? ⟨b2, off2 + k * 2 + 1, none⟩ = some (.slice TA n tc))) (by kernel_rfl) (by kernel_rfl) ⟨hBw.drew, k1, k2, k3, k4⟩ (b := ?b4) ?text4 ?post4
          case text4 =>
            iterate 12 (refine InText.pure (by rfl) (fun W hw => by (try dsimp only at hw); go_simp; try with_reducible rfl) ?_; simp only [Act.put, List.setIfInBounds_toArray, List.set_cons_zero, List.set_cons_succ])
            iterate 13 (refine InText.skip (by rfl) ?_; simp only [Act.put, List.setIfInBounds_toArray, List.set_cons_zero, List.set_cons_succ])
            iterate 2 (refine InText.pure (by rfl) (fun W hw => by (try dsimp only at hw); go_simp; try with_reducible rfl) ?_; simp only [Act.put, List.setIfInBounds_toArray, List.set_cons_zero, List.set_cons_succ])
            iterate 12 (refine InText.skip (by rfl) ?_; simp only [Act.put, List.setIfInBounds_toArray, List.set_cons_zero, List.set_cons_succ])
            refine InText.pure (by rfl) (fun W hw => by (try dsimp only at hw); go_simp; try with_reducible rfl) ?_; simp only [Act.put, List.setIfInBounds_toArray, List.set_cons_zero, List.set_cons_succ]
            exact InText.done
          case post4 =>
            intro W hS
            have HS := Lib.hid hS.1
            clear hS k1 k2 k3 k4
            go_wp2_with fail
            go_ret
            exact ⟨ret_bool (decide_eq_false HNE.out).symm, HS.out⟩
      · have hkl : k = p.length := by omega
        have heq : p = p' := by
          have h := HTK.out
          rw [hkl, List.take_of_length_le (Nat.le_refl _), HL.out, List.take_of_length_le (Nat.le_refl _)] at h
          exact h
        have HE := Lib.hid heq
        clear heq hkl hBw
        go_wp2_with fail
        go_ret
        exact ⟨ret_bool (decide_eq_true HE.out).symm, HBW.out⟩
  · have hll : ((p.length : Int) != (p'.length : Int)) = true := by simp; omega
    have HNE : Hid (¬ p = p') := Lib.hid (fun h => hlen (by rw [h]))
    clear hr hr' hx hx' hlen hc hc'
    go_enter Tryd.func27, Tryd.ntmps27
    go_wp2_with fail
    go_ret
    exact ⟨ret_bool (decide_eq_false HNE.out).symm, Below.refl _ _⟩
end Go.Proofs.YtiiopdomlepkmaaDoor
