/-
  Contracts of the reference's Shape (for any number of inputs), of Cost in no new memory, and of the reference's Valid of a circuit.
-/
import Derived.Test.YtcophfhnhlaonaaDoorCid
namespace Go.Proofs.YtcophfhnhlaonaaDoor
set_option linter.unusedVariables false
open Go.RowKit

theorem dec_ge (n : Int) : decide (0 ≤ n) = (!decide (n < 0)) := by
  by_cases h : n < 0
  · rw [decide_eq_true h, decide_eq_false (by omega)]; rfl
  · rw [decide_eq_false h, decide_eq_true (by omega)]; rfl

set_option maxRecDepth 100000 in
set_option maxHeartbeats 4000000 in
theorem ShapeG_ref (inp k n : Int) (len : Nat) (w : World) :
    Calls Tryd.prog 31 #[.int .i64 k, .int .i64 n, .int .i64 (len : Int), .int .i64 inp] w fun e w' => e = .returned (.bool (shpN inp k n len)) ∧ w = w' := by
  by_cases h0 : k = 0
  · obtain rfl := h0
    have HE : Hid (shpN inp 0 n len = (decide ((0 : Int) ≤ n) && decide (n < inp) && ((len : Int) == 0))) := Lib.hid (by rw [shp0, ← show ((0 : Nat) : Int) = 0 from rfl, ← dec_len])
    obtain ⟨b0, hb0⟩ : ∃ b, decide ((0 : Int) ≤ n) = b := ⟨_, rfl⟩
    obtain ⟨b1, hb1⟩ : ∃ b, decide (n < inp) = b := ⟨_, rfl⟩
    obtain ⟨b2, hb2⟩ : ∃ b, ((len : Int) == 0) = b := ⟨_, rfl⟩
    rw [hb0, hb1, hb2] at HE
    cases b0 <;> cases b1 <;> cases b2 <;> (
      go_enter Tryd.func31, Tryd.ntmps31
      go_wp2_with fail
      go_ret
      exact ⟨by rw [HE.out]; rfl, rfl⟩)
  · have d0 : ((k : Int) == 0) = false := by simp [h0]
    by_cases h1 : k = 1
    · obtain rfl := h1
      clear h0 d0
      have HE : Hid (shpN inp 1 n len = (((n == 0) || (n == 1)) && ((len : Int) == 0))) := Lib.hid (by rw [shp1, ← dec_bit, ← show ((0 : Nat) : Int) = 0 from rfl, ← dec_len])
      obtain ⟨b0, hb0⟩ : ∃ b, (n == 0) = b := ⟨_, rfl⟩
      obtain ⟨b1, hb1⟩ : ∃ b, (n == 1) = b := ⟨_, rfl⟩
      obtain ⟨b2, hb2⟩ : ∃ b, ((len : Int) == 0) = b := ⟨_, rfl⟩
      rw [hb0, hb1, hb2] at HE
      cases b0 <;> cases b1 <;> cases b2 <;> (
        go_enter Tryd.func31, Tryd.ntmps31
        go_wp2_with fail
        go_ret
        exact ⟨by rw [HE.out]; rfl, rfl⟩)
    · have d1 : ((k : Int) == 1) = false := by simp [h1]
      by_cases h2 : k = 2
      · obtain rfl := h2
        clear h0 d0
        clear h1 d1
        have HE : Hid (shpN inp 2 n len = ((n == 0) && ((len : Int) == 1))) := Lib.hid (by rw [shp2, ← dec_nil, ← show ((1 : Nat) : Int) = 1 from rfl, ← dec_len])
        obtain ⟨b0, hb0⟩ : ∃ b, (n == 0) = b := ⟨_, rfl⟩
        obtain ⟨b1, hb1⟩ : ∃ b, ((len : Int) == 1) = b := ⟨_, rfl⟩
        rw [hb0, hb1] at HE
        cases b0 <;> cases b1 <;> (
          go_enter Tryd.func31, Tryd.ntmps31
          go_wp2_with fail
          go_ret
          exact ⟨by rw [HE.out]; rfl, rfl⟩)
      · have d2 : ((k : Int) == 2) = false := by simp [h2]
        by_cases h3 : k = 3
        · obtain rfl := h3
          clear h0 d0
          clear h1 d1
          clear h2 d2
          have HE : Hid (shpN inp 3 n len = ((n == 0) && ((len : Int) == 2))) := Lib.hid (by rw [shp3, ← dec_nil, ← show ((2 : Nat) : Int) = 2 from rfl, ← dec_len])
          obtain ⟨b0, hb0⟩ : ∃ b, (n == 0) = b := ⟨_, rfl⟩
          obtain ⟨b1, hb1⟩ : ∃ b, ((len : Int) == 2) = b := ⟨_, rfl⟩
          rw [hb0, hb1] at HE
          cases b0 <;> cases b1 <;> (
            go_enter Tryd.func31, Tryd.ntmps31
            go_wp2_with fail
            go_ret
            exact ⟨by rw [HE.out]; rfl, rfl⟩)
        · have d3 : ((k : Int) == 3) = false := by simp [h3]
          by_cases h4 : k = 4
          · obtain rfl := h4
            clear h0 d0
            clear h1 d1
            clear h2 d2
            clear h3 d3
            have HE : Hid (shpN inp 4 n len = ((n == 0) && ((len : Int) == 2))) := Lib.hid (by rw [shp4, ← dec_nil, ← show ((2 : Nat) : Int) = 2 from rfl, ← dec_len])
            obtain ⟨b0, hb0⟩ : ∃ b, (n == 0) = b := ⟨_, rfl⟩
            obtain ⟨b1, hb1⟩ : ∃ b, ((len : Int) == 2) = b := ⟨_, rfl⟩
            rw [hb0, hb1] at HE
            cases b0 <;> cases b1 <;> (
              go_enter Tryd.func31, Tryd.ntmps31
              go_wp2_with fail
              go_ret
              exact ⟨by rw [HE.out]; rfl, rfl⟩)
          · have d4 : ((k : Int) == 4) = false := by simp [h4]
            by_cases h5 : k = 5
            · obtain rfl := h5
              clear h0 d0
              clear h1 d1
              clear h2 d2
              clear h3 d3
              clear h4 d4
              have HE : Hid (shpN inp 5 n len = ((n == 0) && ((len : Int) == 2))) := Lib.hid (by rw [shp5, ← dec_nil, ← show ((2 : Nat) : Int) = 2 from rfl, ← dec_len])
              obtain ⟨b0, hb0⟩ : ∃ b, (n == 0) = b := ⟨_, rfl⟩
              obtain ⟨b1, hb1⟩ : ∃ b, ((len : Int) == 2) = b := ⟨_, rfl⟩
              rw [hb0, hb1] at HE
              cases b0 <;> cases b1 <;> (
                go_enter Tryd.func31, Tryd.ntmps31
                go_wp2_with fail
                go_ret
                exact ⟨by rw [HE.out]; rfl, rfl⟩)
            · have d5 : ((k : Int) == 5) = false := by simp [h5]
              have HE : Hid (shpN inp k n len = false) := Lib.hid (shpX h0 h1 h2 h3 h4 h5)
              clear h0 h1 h2 h3 h4 h5
              go_enter Tryd.func31, Tryd.ntmps31
              go_wp2_with fail
              go_ret
              exact ⟨by rw [HE.out]; rfl, rfl⟩
set_option maxHeartbeats 1000000 in
theorem CostE_ref (k : Int) (w : World) :
    Calls Tryd.prog 35 #[.int .i64 k] w fun e w' => e = .returned (.int .i64 (depAt fSh k : Nat)) ∧ w = w' := by
  have H : Hid ((k = 3 → depAt fSh k = 1) ∧ (k = 4 → depAt fSh k = 1) ∧ (k = 5 → depAt fSh k = 2) ∧ (k ≠ 3 → k ≠ 4 → k ≠ 5 → depAt fSh k = 0)) := Lib.hid (by
    refine ⟨by rintro rfl; rfl, by rintro rfl; rfl, by rintro rfl; rfl, fun h3 h4 h5 => ?_⟩
    unfold depAt
    have hk : k.toNat = 0 ∨ k.toNat = 1 ∨ k.toNat = 2 ∨ 6 ≤ k.toNat := by omega
    rcases hk with h | h | h | h
    · rw [h]; rfl
    · rw [h]; rfl
    · rw [h]; rfl
    · rw [List.getElem?_eq_none (by simpa [fSh] using h)]; rfl)
  by_cases h3 : k = 3
  · have d3 : ((k : Int) == 3) = true := by simp [h3]
    have HE := Lib.hid (H.out.1 h3)
    clear h3
    go_enter Tryd.func35, Tryd.ntmps35
    go_wp2_with fail
    go_ret
    exact ⟨by rw [HE.out]; rfl, rfl⟩
  · have d3 : ((k : Int) == 3) = false := by simp [h3]
    by_cases h4 : k = 4
    · have d4 : ((k : Int) == 4) = true := by simp [h4]
      have HE := Lib.hid (H.out.2.1 h4)
      clear h3 h4
      go_enter Tryd.func35, Tryd.ntmps35
      go_wp2_with fail
      go_ret
      exact ⟨by rw [HE.out]; rfl, rfl⟩
    · have d4 : ((k : Int) == 4) = false := by simp [h4]
      by_cases h5 : k = 5
      · have d5 : ((k : Int) == 5) = true := by simp [h5]
        have HE := Lib.hid (H.out.2.2.1 h5)
        clear h3 h4 h5
        go_enter Tryd.func35, Tryd.ntmps35
        go_wp2_with fail
        go_ret
        exact ⟨by rw [HE.out]; rfl, rfl⟩
      · have d5 : ((k : Int) == 5) = false := by simp [h5]
        have HE := Lib.hid (H.out.2.2.2 h3 h4 h5)
        clear h3 h4 h5
        go_enter Tryd.func35, Tryd.ntmps35
        go_wp2_with fail
        go_ret
        exact ⟨by rw [HE.out]; rfl, rfl⟩


set_option maxRecDepth 100000 in
set_option maxHeartbeats 8000000 in
theorem CValid_ref (inp : Int) (v : Value) (gs : List Gat) (w : World) (hv : CirV w v inp gs) :
    Calls Tryd.prog 9 #[v] w fun r w' => r = .returned (.bool (okC inp gs)) ∧ Below w.heap.size w w' := by
  obtain ⟨A, c, rfl, hr, hl⟩ := hv
  have HS0 := Lib.hid (BoxC.start w inp A gs.length c)
  have HR := Lib.hid hr
  have HG : Hid (okC inp gs = (decide (0 ≤ inp) && decide (inp ≤ 16) && decide (1 ≤ gs.length) && decide (gs.length ≤ 20000) && gokL inp gs 0)) := Lib.hid rfl
  obtain ⟨c0, c1⟩ := HS0.out.cells
  clear hr
  by_cases t0 : inp < 0
  · have d0 : decide (inp < 0) = true := decide_eq_true t0
    have HE : Hid (okC inp gs = false) := Lib.hid (by rw [HG.out, decide_eq_false (by omega : ¬ (0 ≤ inp))]; rfl)
    clear t0
    go_enter Tryd.func9, Tryd.ntmps9
    go_wp2_with fail
    go_ret
    exact ⟨by rw [HE.out]; rfl, HS0.out.bel⟩
  have d0 : decide (inp < 0) = false := decide_eq_false t0
  by_cases t1 : 16 < inp
  · have d1 : decide (16 < inp) = true := decide_eq_true t1
    have HE : Hid (okC inp gs = false) := Lib.hid (by rw [HG.out, decide_eq_false (by omega : ¬ (inp ≤ 16)), Bool.and_false]; rfl)
    clear t0 t1
    go_enter Tryd.func9, Tryd.ntmps9
    go_wp2_with fail
    go_ret
    exact ⟨by rw [HE.out]; rfl, HS0.out.bel⟩
  have d1 : decide (16 < inp) = false := decide_eq_false t1
  by_cases t2 : gs.length < 1
  · have d2 : decide ((gs.length : Int) < 1) = true := decide_eq_true (by omega)
    have d2' : decide (gs.length < 1) = true := decide_eq_true t2
    have HE : Hid (okC inp gs = false) := Lib.hid (by rw [HG.out, decide_eq_false (by omega : ¬ (1 ≤ gs.length)), Bool.and_false]; rfl)
    clear t0 t1 t2
    go_enter Tryd.func9, Tryd.ntmps9
    go_wp2_with fail
    go_ret
    exact ⟨by rw [HE.out]; rfl, HS0.out.bel⟩
  have d2 : decide ((gs.length : Int) < 1) = false := decide_eq_false (by omega)
  have d2' : decide (gs.length < 1) = false := decide_eq_false t2
  by_cases t3 : 20000 < gs.length
  · have d3 : decide ((20000 : Int) < (gs.length : Int)) = true := decide_eq_true (by omega)
    have d3' : decide (20000 < gs.length) = true := decide_eq_true t3
    have HE : Hid (okC inp gs = false) := Lib.hid (by rw [HG.out, decide_eq_false (by omega : ¬ (gs.length ≤ 20000)), Bool.and_false]; rfl)
    clear t0 t1 t2 t3
    go_enter Tryd.func9, Tryd.ntmps9
    go_wp2_with fail
    go_ret
    exact ⟨by rw [HE.out]; rfl, HS0.out.bel⟩
  have d3 : decide ((20000 : Int) < (gs.length : Int)) = false := decide_eq_false (by omega)
  have d3' : decide (20000 < gs.length) = false := decide_eq_false t3
  have HE : Hid (okC inp gs = gokL inp gs 0) := Lib.hid (by rw [HG.out, decide_eq_true (by omega : 0 ≤ inp), decide_eq_true (by omega : inp ≤ 16), decide_eq_true (by omega : 1 ≤ gs.length), decide_eq_true (by omega : gs.length ≤ 20000)]; rfl)
  clear t0 t1 t2 t3
  generalize hL : gs.length = L at *
  have HL := Lib.hid hL
  clear hL
  go_enter Tryd.func9, Tryd.ntmps9
  go_wp2_with fail
  go_loopw [3, 4, 5] (fun iv _ _ W => ∃ i : Nat, i ≤ L ∧ iv = .int .i64 i ∧ gokL inp (gs.take i) 0 = true ∧ BoxC w inp A L c W) (fun iv _ _ _ => L - (intOf iv).toNat)
  case atStart => exact ⟨0, by omega, rfl, rfl, HS0.out⟩
  case round =>
    obtain ⟨i, hi, rfl, hp, hB⟩ := hrel
    have HP := Lib.hid hp
    have HB := Lib.hid hB
    obtain ⟨y0, y1⟩ := HB.out.cells
    clear hp hB c0 c1
    by_cases hil : i < L
    · have e3 : decide ((i : Int) < (L : Int)) = true := decide_eq_true (by omega)
      have e3' : decide (i < L) = true := decide_eq_true hil
      obtain ⟨⟨k, n, ks⟩, hg⟩ : ∃ g, gs[i]? = some g := ⟨_, List.getElem?_eq_getElem (by rw [HL.out]; exact hil)⟩
      obtain ⟨b, off, u, rfl, g0, g1, g2, K, kc, rfl, hK, hKl⟩ := HR.out i _ hg
      have e0 := (HB.out.bel.cell (World.block_lt_of_cell? w _ g0)).trans g0
      have e1 := (HB.out.bel.cell (World.block_lt_of_cell? w _ g1)).trans g1
      have e2 := (HB.out.bel.cell (World.block_lt_of_cell? w _ g2)).trans g2
      have HNX := Lib.hid (gokL_next (inp := inp) hg)
      have HDD := Lib.hid (fun h => gokL_dead (inp := inp) (gs := gs) (i := i + 1) h)
      have HB1 := Lib.hid (HB.out.step (below1 wr (.cells #[.int .i64 k, .int .i64 n, .slice K ks.length kc] 59)))
      have HSH := Lib.hid (ShapeG_ref inp k n ks.length (wr.alloc (.cells #[.int .i64 k, .int .i64 n, .slice K ks.length kc] 59)))
      have hgb := alloc_at wr (.cells #[.int .i64 k, .int .i64 n, .slice K ks.length kc] 59) wr.heap.size rfl
      obtain ⟨⟨p0, p1, p2⟩, _⟩ := blk3_cells hgb
      obtain ⟨z0, z1⟩ := HB1.out.cells
      have HGQ : Hid (okG inp i ⟨k, n, ks⟩ = (shpN inp k n ks.length && kidsN i ks)) := Lib.hid rfl
      obtain ⟨bb, hbb⟩ : ∃ b, shpN inp k n ks.length = b := ⟨_, rfl⟩
      rw [hbb] at HSH HGQ
      have HKK := Lib.hid (hK.below HB1.out.bel)
      have HKL := Lib.hid hKl
      clear hg g0 g1 g2 hK hbb hgb hKl
      have hKl2 := HKL.out
      generalize hkl : ks.length = kl at *
      have HKL2 := Lib.hid hkl
      clear hkl
      go_wp2_with fail
      refine HSH.out.mono ?_
      rintro e w2 ⟨rfl, rfl⟩
      generalize hW1 : wr.alloc (.cells #[.int .i64 k, .int .i64 n, .slice K kl kc] 59) = w1 at *
      clear hW1
      cases bb
      · have HE2 : Hid (okC inp gs = false) := Lib.hid (by rw [HE.out]; exact HDD.out (by rw [HNX.out, HGQ.out]; simp))
        go_wp2_with fail
        go_ret
        exact ⟨by rw [HE2.out]; rfl, HB1.out.bel⟩
      · clear y0 y1 e0 e1 e2
        go_wp2_with fail
        go_loopw [5] (fun jv W => ∃ j : Nat, j ≤ kl ∧ jv = .int .i64 j ∧ kidsN i (ks.take j) = true ∧ w1 = W) (fun jv _ => kl - (intOf jv).toNat)
        case atStart => exact ⟨0, by omega, rfl, rfl, rfl⟩
        case round =>
          obtain ⟨j, hj, rfl, hkp, rfl⟩ := hrel
          have HKP := Lib.hid hkp
          clear hkp
          by_cases hjl : j < kl
          · have f3 : decide ((j : Int) < (kl : Int)) = true := decide_eq_true (by omega)
            have f3' : decide (j < kl) = true := decide_eq_true hjl
            obtain ⟨x, hx⟩ : ∃ x, ks[j]? = some x := ⟨_, List.getElem?_eq_getElem (by rw [HKL2.out]; exact hjl)⟩
            obtain ⟨p, rfl, q0⟩ := HKK.out j x hx
            have HKN := Lib.hid (kidsN_next (e := i) hx)
            have HKD := Lib.hid (fun h => kidsN_dead (e := i) hx h)
            clear hx
            by_cases r0 : x < 0
            · have d5 : decide (x < 0) = true := decide_eq_true r0
              have HE2 : Hid (okC inp gs = false) := Lib.hid (by
                rw [HE.out]; exact HDD.out (by rw [HNX.out, HGQ.out, HKD.out (by rw [kidN, decide_eq_false (by omega : ¬ (0 ≤ x))]; rfl)]; simp))
              clear r0
              go_wp2_with fail
              go_ret
              exact ⟨by rw [HE2.out]; rfl, HB1.out.bel⟩
            · have d5 : decide (x < 0) = false := decide_eq_false r0
              by_cases r1 : (i : Int) ≤ x
              · have d6 : decide ((i : Int) ≤ x) = true := decide_eq_true r1
                have HE2 : Hid (okC inp gs = false) := Lib.hid (by
                  rw [HE.out]; exact HDD.out (by rw [HNX.out, HGQ.out, HKD.out (by rw [kidN, decide_eq_false (by omega : ¬ (x < (i : Int))), Bool.and_false])]; simp))
                clear r0 r1
                go_wp2_with fail
                go_ret
                exact ⟨by rw [HE2.out]; rfl, HB1.out.bel⟩
              · have d6 : decide ((i : Int) ≤ x) = false := decide_eq_false r1
                have HK2 : Hid (kidN i x = true) := Lib.hid (by rw [kidN, decide_eq_true (by omega : 0 ≤ x), decide_eq_true (by omega : x < (i : Int))]; rfl)
                clear r0 r1
                go_wp2_with fail
                go_roundw
                case rel => exact ⟨j + 1, by omega, by go_num, by rw [HKN.out, HKP.out, HK2.out]; rfl, trivial⟩
                case measure => simp [intOf]; omega
          · have f3 : decide ((j : Int) < (kl : Int)) = false := decide_eq_false (by omega)
            have f3' : decide (j < kl) = false := decide_eq_false hjl
            have HN2 : Hid (gokL inp (gs.take (i + 1)) 0 = true) := Lib.hid (by
              rw [HNX.out, HP.out, HGQ.out]
              have := HKP.out
              rw [List.take_of_length_le (by rw [HKL2.out]; omega)] at this
              rw [this]; rfl)
            go_wp2_with fail
            go_roundw
            case rel => exact ⟨i + 1, by omega, by go_num, HN2.out, HB1.out⟩
            case measure => simp [intOf]; omega
    · have e3 : decide ((i : Int) < (L : Int)) = false := decide_eq_false (by omega)
      have e3' : decide (i < L) = false := decide_eq_false hil
      have HE2 : Hid (okC inp gs = true) := Lib.hid (by rw [HE.out, ← HP.out, List.take_of_length_le (by rw [HL.out]; omega)])
      go_wp2_with fail
      go_ret
      exact ⟨by rw [HE2.out]; rfl, HB.out.bel⟩
end Go.Proofs.YtcophfhnhlaonaaDoor
