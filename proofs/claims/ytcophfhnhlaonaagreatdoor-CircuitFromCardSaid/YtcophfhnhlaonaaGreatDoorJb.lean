/-
  Joined from Cie, Cif, Cig: see there.
-/
import Derived.Test.YtcophfhnhlaonaaGreatDoorJa
import Derived.BigRegion
namespace Go.Proofs.YtcophfhnhlaonaaGreatDoor
set_option linter.unusedVariables false
open Go.RowKit

theorem dec_ge (n : Int) : decide (0 ≤ n) = (!decide (n < 0)) := by
  by_cases h : n < 0
  · rw [decide_eq_true h, decide_eq_false (by omega)]; rfl
  · rw [decide_eq_false h, decide_eq_true (by omega)]; rfl

set_option maxRecDepth 100000 in
set_option maxHeartbeats 4000000 in
theorem ShapeG_ref (inp k n : Int) (len : Nat) (w : World) :
    Calls Tryz.prog 46 #[.int .i64 k, .int .i64 n, .int .i64 (len : Int), .int .i64 inp] w fun e w' => e = .returned (.bool (shpN inp k n len)) ∧ w = w' := by
  by_cases h0 : k = 0
  · obtain rfl := h0
    have HE : Hid (shpN inp 0 n len = (decide ((0 : Int) ≤ n) && decide (n < inp) && ((len : Int) == 0))) := Lib.hid (by rw [shp0, ← show ((0 : Nat) : Int) = 0 from rfl, ← dec_len])
    obtain ⟨b0, hb0⟩ : ∃ b, decide ((0 : Int) ≤ n) = b := ⟨_, rfl⟩
    obtain ⟨b1, hb1⟩ : ∃ b, decide (n < inp) = b := ⟨_, rfl⟩
    obtain ⟨b2, hb2⟩ : ∃ b, ((len : Int) == 0) = b := ⟨_, rfl⟩
    rw [hb0, hb1, hb2] at HE
    cases b0 <;> cases b1 <;> cases b2 <;> (
      go_enter Tryz.func46, Tryz.ntmps46
      go_wp2_with fail
      go_ret
      exact ⟨by rw [HE.out]; rfl, rfl⟩)
  · have d0 : ((k : Int) == 0) = false := by simp [h0]
    by_cases h1 : k = 1
    · obtain rfl := h1
      clear h0 d0
      have HE : Hid (shpN inp 1 n len = (((n == 0) || (n == 1)) && ((len : Int) == 0))) := Lib.hid (by rw [shp1, ← dec_bit, ← show ((0 : Nat) : Int) = 0 from rfl, ← dec_len])
      obtain ⟨b0, hb0⟩ : ∃ b, (n == 0) = b := ⟨_, rfl⟩
      obtain ⟨b1, hb1⟩ : ∃ b, (n == 1) = b := ⟨_, rfl⟩
      obtain ⟨b2, hb2⟩ : ∃ b, ((len : Int) == 0) = b := ⟨_, rfl⟩
      rw [hb0, hb1, hb2] at HE
      cases b0 <;> cases b1 <;> cases b2 <;> (
        go_enter Tryz.func46, Tryz.ntmps46
        go_wp2_with fail
        go_ret
        exact ⟨by rw [HE.out]; rfl, rfl⟩)
    · have d1 : ((k : Int) == 1) = false := by simp [h1]
      by_cases h2 : k = 2
      · obtain rfl := h2
        clear h0 d0
        clear h1 d1
        have HE : Hid (shpN inp 2 n len = ((n == 0) && ((len : Int) == 1))) := Lib.hid (by rw [shp2, ← dec_nil, ← show ((1 : Nat) : Int) = 1 from rfl, ← dec_len])
        obtain ⟨b0, hb0⟩ : ∃ b, (n == 0) = b := ⟨_, rfl⟩
        obtain ⟨b1, hb1⟩ : ∃ b, ((len : Int) == 1) = b := ⟨_, rfl⟩
        rw [hb0, hb1] at HE
        cases b0 <;> cases b1 <;> (
          go_enter Tryz.func46, Tryz.ntmps46
          go_wp2_with fail
          go_ret
          exact ⟨by rw [HE.out]; rfl, rfl⟩)
      · have d2 : ((k : Int) == 2) = false := by simp [h2]
        by_cases h3 : k = 3
        · obtain rfl := h3
          clear h0 d0
          clear h1 d1
          clear h2 d2
          have HE : Hid (shpN inp 3 n len = ((n == 0) && ((len : Int) == 2))) := Lib.hid (by rw [shp3, ← dec_nil, ← show ((2 : Nat) : Int) = 2 from rfl, ← dec_len])
          obtain ⟨b0, hb0⟩ : ∃ b, (n == 0) = b := ⟨_, rfl⟩
          obtain ⟨b1, hb1⟩ : ∃ b, ((len : Int) == 2) = b := ⟨_, rfl⟩
          rw [hb0, hb1] at HE
          cases b0 <;> cases b1 <;> (
            go_enter Tryz.func46, Tryz.ntmps46
            go_wp2_with fail
            go_ret
            exact ⟨by rw [HE.out]; rfl, rfl⟩)
        · have d3 : ((k : Int) == 3) = false := by simp [h3]
          by_cases h4 : k = 4
          · obtain rfl := h4
            clear h0 d0
            clear h1 d1
            clear h2 d2
            clear h3 d3
            have HE : Hid (shpN inp 4 n len = ((n == 0) && ((len : Int) == 2))) := Lib.hid (by rw [shp4, ← dec_nil, ← show ((2 : Nat) : Int) = 2 from rfl, ← dec_len])
            obtain ⟨b0, hb0⟩ : ∃ b, (n == 0) = b := ⟨_, rfl⟩
            obtain ⟨b1, hb1⟩ : ∃ b, ((len : Int) == 2) = b := ⟨_, rfl⟩
            rw [hb0, hb1] at HE
            cases b0 <;> cases b1 <;> (
              go_enter Tryz.func46, Tryz.ntmps46
              go_wp2_with fail
              go_ret
              exact ⟨by rw [HE.out]; rfl, rfl⟩)
          · have d4 : ((k : Int) == 4) = false := by simp [h4]
            by_cases h5 : k = 5
            · obtain rfl := h5
              clear h0 d0
              clear h1 d1
              clear h2 d2
              clear h3 d3
              clear h4 d4
              have HE : Hid (shpN inp 5 n len = ((n == 0) && ((len : Int) == 2))) := Lib.hid (by rw [shp5, ← dec_nil, ← show ((2 : Nat) : Int) = 2 from rfl, ← dec_len])
              obtain ⟨b0, hb0⟩ : ∃ b, (n == 0) = b := ⟨_, rfl⟩
              obtain ⟨b1, hb1⟩ : ∃ b, ((len : Int) == 2) = b := ⟨_, rfl⟩
              rw [hb0, hb1] at HE
              cases b0 <;> cases b1 <;> (
                go_enter Tryz.func46, Tryz.ntmps46
                go_wp2_with fail
                go_ret
                exact ⟨by rw [HE.out]; rfl, rfl⟩)
            · have d5 : ((k : Int) == 5) = false := by simp [h5]
              have HE : Hid (shpN inp k n len = false) := Lib.hid (shpX h0 h1 h2 h3 h4 h5)
              clear h0 h1 h2 h3 h4 h5
              go_enter Tryz.func46, Tryz.ntmps46
              go_wp2_with fail
              go_ret
              exact ⟨by rw [HE.out]; rfl, rfl⟩
set_option maxHeartbeats 1000000 in
theorem CostE_ref (k : Int) (w : World) :
    Calls Tryz.prog 47 #[.int .i64 k] w fun e w' => e = .returned (.int .i64 (depAt fSh k : Nat)) ∧ w = w' := by
  have H : Hid ((k = 3 → depAt fSh k = 1) ∧ (k = 4 → depAt fSh k = 1) ∧ (k = 5 → depAt fSh k = 2) ∧ (k ≠ 3 → k ≠ 4 → k ≠ 5 → depAt fSh k = 0)) := Lib.hid (by
    refine ⟨by rintro rfl; rfl, by rintro rfl; rfl, by rintro rfl; rfl, fun h3 h4 h5 => ?_⟩
    unfold depAt
    have hk : k.toNat = 0 ∨ k.toNat = 1 ∨ k.toNat = 2 ∨ 6 ≤ k.toNat := by omega
    rcases hk with h | h | h | h
    · rw [h]; rfl
    · rw [h]; rfl
    · rw [h]; rfl
    · rw [List.getElem?_eq_none (by simpa [fSh] using h)]; rfl)
  by_cases h3 : k = 3
  · have d3 : ((k : Int) == 3) = true := by simp [h3]
    have HE := Lib.hid (H.out.1 h3)
    clear h3
    go_enter Tryz.func47, Tryz.ntmps47
    go_wp2_with fail
    go_ret
    exact ⟨by rw [HE.out]; rfl, rfl⟩
  · have d3 : ((k : Int) == 3) = false := by simp [h3]
    by_cases h4 : k = 4
    · have d4 : ((k : Int) == 4) = true := by simp [h4]
      have HE := Lib.hid (H.out.2.1 h4)
      clear h3 h4
      go_enter Tryz.func47, Tryz.ntmps47
      go_wp2_with fail
      go_ret
      exact ⟨by rw [HE.out]; rfl, rfl⟩
    · have d4 : ((k : Int) == 4) = false := by simp [h4]
      by_cases h5 : k = 5
      · have d5 : ((k : Int) == 5) = true := by simp [h5]
        have HE := Lib.hid (H.out.2.2.1 h5)
        clear h3 h4 h5
        go_enter Tryz.func47, Tryz.ntmps47
        go_wp2_with fail
        go_ret
        exact ⟨by rw [HE.out]; rfl, rfl⟩
      · have d5 : ((k : Int) == 5) = false := by simp [h5]
        have HE := Lib.hid (H.out.2.2.2 h3 h4 h5)
        clear h3 h4 h5
        go_enter Tryz.func47, Tryz.ntmps47
        go_wp2_with fail
        go_ret
        exact ⟨by rw [HE.out]; rfl, rfl⟩


set_option maxRecDepth 100000 in
set_option maxHeartbeats 8000000 in
theorem CValid_ref (inp : Int) (v : Value) (gs : List Gat) (w : World) (hv : CirV w v inp gs) :
    Calls Tryz.prog 15 #[v] w fun r w' => r = .returned (.bool (okC inp gs)) ∧ Below w.heap.size w w' := by
  obtain ⟨A, c, rfl, hr, hl⟩ := hv
  have HS0 := Lib.hid (BoxC.start w inp A gs.length c)
  have HR := Lib.hid hr
  have HG : Hid (okC inp gs = (decide (0 ≤ inp) && decide (inp ≤ 16) && decide (1 ≤ gs.length) && decide (gs.length ≤ 20000) && gokL inp gs 0)) := Lib.hid rfl
  obtain ⟨c0, c1⟩ := HS0.out.cells
  clear hr
  by_cases t0 : inp < 0
  · have d0 : decide (inp < 0) = true := decide_eq_true t0
    have HE : Hid (okC inp gs = false) := Lib.hid (by rw [HG.out, decide_eq_false (by omega : ¬ (0 ≤ inp))]; rfl)
    clear t0
    go_enter Tryz.func15, Tryz.ntmps15
    go_wp2_with fail
    go_ret
    exact ⟨by rw [HE.out]; rfl, HS0.out.bel⟩
  have d0 : decide (inp < 0) = false := decide_eq_false t0
  by_cases t1 : 16 < inp
  · have d1 : decide (16 < inp) = true := decide_eq_true t1
    have HE : Hid (okC inp gs = false) := Lib.hid (by rw [HG.out, decide_eq_false (by omega : ¬ (inp ≤ 16)), Bool.and_false]; rfl)
    clear t0 t1
    go_enter Tryz.func15, Tryz.ntmps15
    go_wp2_with fail
    go_ret
    exact ⟨by rw [HE.out]; rfl, HS0.out.bel⟩
  have d1 : decide (16 < inp) = false := decide_eq_false t1
  by_cases t2 : gs.length < 1
  · have d2 : decide ((gs.length : Int) < 1) = true := decide_eq_true (by omega)
    have d2' : decide (gs.length < 1) = true := decide_eq_true t2
    have HE : Hid (okC inp gs = false) := Lib.hid (by rw [HG.out, decide_eq_false (by omega : ¬ (1 ≤ gs.length)), Bool.and_false]; rfl)
    clear t0 t1 t2
    go_enter Tryz.func15, Tryz.ntmps15
    go_wp2_with fail
    go_ret
    exact ⟨by rw [HE.out]; rfl, HS0.out.bel⟩
  have d2 : decide ((gs.length : Int) < 1) = false := decide_eq_false (by omega)
  have d2' : decide (gs.length < 1) = false := decide_eq_false t2
  by_cases t3 : 20000 < gs.length
  · have d3 : decide ((20000 : Int) < (gs.length : Int)) = true := decide_eq_true (by omega)
    have d3' : decide (20000 < gs.length) = true := decide_eq_true t3
    have HE : Hid (okC inp gs = false) := Lib.hid (by rw [HG.out, decide_eq_false (by omega : ¬ (gs.length ≤ 20000)), Bool.and_false]; rfl)
    clear t0 t1 t2 t3
    go_enter Tryz.func15, Tryz.ntmps15
    go_wp2_with fail
    go_ret
    exact ⟨by rw [HE.out]; rfl, HS0.out.bel⟩
  have d3 : decide ((20000 : Int) < (gs.length : Int)) = false := decide_eq_false (by omega)
  have d3' : decide (20000 < gs.length) = false := decide_eq_false t3
  have HE : Hid (okC inp gs = gokL inp gs 0) := Lib.hid (by rw [HG.out, decide_eq_true (by omega : 0 ≤ inp), decide_eq_true (by omega : inp ≤ 16), decide_eq_true (by omega : 1 ≤ gs.length), decide_eq_true (by omega : gs.length ≤ 20000)]; rfl)
  clear t0 t1 t2 t3
  generalize hL : gs.length = L at *
  have HL := Lib.hid hL
  clear hL
  go_enter Tryz.func15, Tryz.ntmps15
  go_wp2_with fail
  go_loopw [3, 4, 5] (fun iv _ _ W => ∃ i : Nat, i ≤ L ∧ iv = .int .i64 i ∧ gokL inp (gs.take i) 0 = true ∧ BoxC w inp A L c W) (fun iv _ _ _ => L - (intOf iv).toNat)
  case atStart => exact ⟨0, by omega, rfl, rfl, HS0.out⟩
  case round =>
    obtain ⟨i, hi, rfl, hp, hB⟩ := hrel
    have HP := Lib.hid hp
    have HB := Lib.hid hB
    obtain ⟨y0, y1⟩ := HB.out.cells
    clear hp hB c0 c1
    by_cases hil : i < L
    · have e3 : decide ((i : Int) < (L : Int)) = true := decide_eq_true (by omega)
      have e3' : decide (i < L) = true := decide_eq_true hil
      obtain ⟨⟨k, n, ks⟩, hg⟩ : ∃ g, gs[i]? = some g := ⟨_, List.getElem?_eq_getElem (by rw [HL.out]; exact hil)⟩
      obtain ⟨b, off, u, rfl, g0, g1, g2, K, kc, rfl, hK, hKl⟩ := HR.out i _ hg
      have e0 := (HB.out.bel.cell (World.block_lt_of_cell? w _ g0)).trans g0
      have e1 := (HB.out.bel.cell (World.block_lt_of_cell? w _ g1)).trans g1
      have e2 := (HB.out.bel.cell (World.block_lt_of_cell? w _ g2)).trans g2
      have HNX := Lib.hid (gokL_next (inp := inp) hg)
      have HDD := Lib.hid (fun h => gokL_dead (inp := inp) (gs := gs) (i := i + 1) h)
      have HB1 := Lib.hid (HB.out.step (below1 wr (.cells #[.int .i64 k, .int .i64 n, .slice K ks.length kc] 78)))
      have HSH := Lib.hid (ShapeG_ref inp k n ks.length (wr.alloc (.cells #[.int .i64 k, .int .i64 n, .slice K ks.length kc] 78)))
      have hgb := alloc_at wr (.cells #[.int .i64 k, .int .i64 n, .slice K ks.length kc] 78) wr.heap.size rfl
      obtain ⟨⟨p0, p1, p2⟩, _⟩ := blk3_cells hgb
      obtain ⟨z0, z1⟩ := HB1.out.cells
      have HGQ : Hid (okG inp i ⟨k, n, ks⟩ = (shpN inp k n ks.length && kidsN i ks)) := Lib.hid rfl
      obtain ⟨bb, hbb⟩ : ∃ b, shpN inp k n ks.length = b := ⟨_, rfl⟩
      rw [hbb] at HSH HGQ
      have HKK := Lib.hid (hK.below HB1.out.bel)
      have HKL := Lib.hid hKl
      clear hg g0 g1 g2 hK hbb hgb hKl
      have hKl2 := HKL.out
      generalize hkl : ks.length = kl at *
      have HKL2 := Lib.hid hkl
      clear hkl
      go_wp2_with fail
      refine HSH.out.mono ?_
      rintro e w2 ⟨rfl, rfl⟩
      generalize hW1 : wr.alloc (.cells #[.int .i64 k, .int .i64 n, .slice K kl kc] 78) = w1 at *
      clear hW1
      cases bb
      · have HE2 : Hid (okC inp gs = false) := Lib.hid (by rw [HE.out]; exact HDD.out (by rw [HNX.out, HGQ.out]; simp))
        go_wp2_with fail
        go_ret
        exact ⟨by rw [HE2.out]; rfl, HB1.out.bel⟩
      · clear y0 y1 e0 e1 e2
        go_wp2_with fail
        go_loopw [5] (fun jv W => ∃ j : Nat, j ≤ kl ∧ jv = .int .i64 j ∧ kidsN i (ks.take j) = true ∧ w1 = W) (fun jv _ => kl - (intOf jv).toNat)
        case atStart => exact ⟨0, by omega, rfl, rfl, rfl⟩
        case round =>
          obtain ⟨j, hj, rfl, hkp, rfl⟩ := hrel
          have HKP := Lib.hid hkp
          clear hkp
          by_cases hjl : j < kl
          · have f3 : decide ((j : Int) < (kl : Int)) = true := decide_eq_true (by omega)
            have f3' : decide (j < kl) = true := decide_eq_true hjl
            obtain ⟨x, hx⟩ : ∃ x, ks[j]? = some x := ⟨_, List.getElem?_eq_getElem (by rw [HKL2.out]; exact hjl)⟩
            obtain ⟨p, rfl, q0⟩ := HKK.out j x hx
            have HKN := Lib.hid (kidsN_next (e := i) hx)
            have HKD := Lib.hid (fun h => kidsN_dead (e := i) hx h)
            clear hx
            by_cases r0 : x < 0
            · have d5 : decide (x < 0) = true := decide_eq_true r0
              have HE2 : Hid (okC inp gs = false) := Lib.hid (by
                rw [HE.out]; exact HDD.out (by rw [HNX.out, HGQ.out, HKD.out (by rw [kidN, decide_eq_false (by omega : ¬ (0 ≤ x))]; rfl)]; simp))
              clear r0
              go_wp2_with fail
              go_ret
              exact ⟨by rw [HE2.out]; rfl, HB1.out.bel⟩
            · have d5 : decide (x < 0) = false := decide_eq_false r0
              by_cases r1 : (i : Int) ≤ x
              · have d6 : decide ((i : Int) ≤ x) = true := decide_eq_true r1
                have HE2 : Hid (okC inp gs = false) := Lib.hid (by
                  rw [HE.out]; exact HDD.out (by rw [HNX.out, HGQ.out, HKD.out (by rw [kidN, decide_eq_false (by omega : ¬ (x < (i : Int))), Bool.and_false])]; simp))
                clear r0 r1
                go_wp2_with fail
                go_ret
                exact ⟨by rw [HE2.out]; rfl, HB1.out.bel⟩
              · have d6 : decide ((i : Int) ≤ x) = false := decide_eq_false r1
                have HK2 : Hid (kidN i x = true) := Lib.hid (by rw [kidN, decide_eq_true (by omega : 0 ≤ x), decide_eq_true (by omega : x < (i : Int))]; rfl)
                clear r0 r1
                go_wp2_with fail
                go_roundw
                case rel => exact ⟨j + 1, by omega, by go_num, by rw [HKN.out, HKP.out, HK2.out]; rfl, trivial⟩
                case measure => simp [intOf]; omega
          · have f3 : decide ((j : Int) < (kl : Int)) = false := decide_eq_false (by omega)
            have f3' : decide (j < kl) = false := decide_eq_false hjl
            have HN2 : Hid (gokL inp (gs.take (i + 1)) 0 = true) := Lib.hid (by
              rw [HNX.out, HP.out, HGQ.out]
              have := HKP.out
              rw [List.take_of_length_le (by rw [HKL2.out]; omega)] at this
              rw [this]; rfl)
            go_wp2_with fail
            go_roundw
            case rel => exact ⟨i + 1, by omega, by go_num, HN2.out, HB1.out⟩
            case measure => simp [intOf]; omega
    · have e3 : decide ((i : Int) < (L : Int)) = false := decide_eq_false (by omega)
      have e3' : decide (i < L) = false := decide_eq_false hil
      have HE2 : Hid (okC inp gs = true) := Lib.hid (by rw [HE.out, ← HP.out, List.take_of_length_le (by rw [HL.out]; omega)])
      go_wp2_with fail
      go_ret
      exact ⟨by rw [HE2.out]; rfl, HB.out.bel⟩
end Go.Proofs.YtcophfhnhlaonaaGreatDoor
namespace Go.Proofs.YtcophfhnhlaonaaGreatDoor
set_option linter.unusedVariables false
open Go.RowKit

section
variable {α : Type} {l : List α} {n : Nat} {z : α}
theorem rowZ_zero (h : l.length < n) : rowZ (l ++ [z]) n z = rowZ l n z := by
  obtain ⟨m, hm⟩ : ∃ m, n - l.length = m + 1 := ⟨n - l.length - 1, by omega⟩
  rw [rowZ, rowZ, hm, List.length_append, List.length_singleton, show n - (l.length + 1) = m by omega, List.replicate_succ, List.append_assoc]
  rfl
theorem rowZ_last (a b : α) : (rowZ (l ++ [a]) n z).set l.length b = rowZ (l ++ [b]) n z := by
  rw [rowZ, rowZ, List.set_append_left _ _ (by simp), List.set_append_right _ _ (Nat.le_refl _), Nat.sub_self, List.set_cons_zero, List.length_append, List.length_append]
  rfl
theorem rowZ_end (a : α) : (rowZ (l ++ [a]) n z)[l.length]? = some a := by
  rw [rowZ, List.getElem?_append_left (by simp), List.getElem?_append_right (Nat.le_refl _), Nat.sub_self]
  rfl
theorem rowZ_old {i : Nat} {x a : α} (h : l[i]? = some x) : (rowZ (l ++ [a]) n z)[i]? = some x := by
  have hi := (List.getElem?_eq_some_iff.1 h).1
  exact rowZ_at (by rw [List.getElem?_append_left hi]; exact h)
end

set_option maxRecDepth 100000 in
set_option maxHeartbeats 8000000 in
theorem CDepth_ref (inp : Int) (v : Value) (gs : List Gat) (w : World) (hv : CirV w v inp gs) (hok : okC inp gs = true) :
    Calls Tryz.prog 16 #[v] w fun r w' => r = .returned (.int .i64 (depC gs : Nat)) ∧ Below w.heap.size w w' := by
  obtain ⟨A, c, rfl, hr, hl⟩ := hv
  have HS0 := Lib.hid (BoxC.start w inp A gs.length c)
  have HR := Lib.hid hr
  obtain ⟨c0, c1⟩ := HS0.out.cells
  clear hr
  obtain ⟨-, -, hl1, hl2, -⟩ := okC_iff.1 hok
  have HGG := Lib.hid (fun i g (hg : gs[i]? = some g) => okC_at hok hg)
  have HSM := Lib.hid (fun i => deps_small (gs := gs) i hl2)
  have HLN := Lib.hid (fun i hi => runL_len (f := depG) gs i hi)
  have HFU : Hid (∀ l : List Nat, l = runL depG (gs.take gs.length) [] → l[gs.length - 1]?.getD 0 = depC gs) := Lib.hid (fun l hl => by rw [hl, List.take_length]; rfl)
  clear hok
  generalize hL : gs.length = L at *
  have HL := Lib.hid hL
  clear hL
  obtain ⟨w2, hw2⟩ : ∃ w2, w2 = w.alloc (.cells #[.int .i64 inp, .slice A L c] 30) := ⟨_, rfl⟩
  have HW2 := Lib.hid hw2
  rw [← hw2] at HS0
  have hmk := make_ints L (by omega)
  have HST : Hid (BoxC w inp A L c (w2.alloc (intsO (List.replicate L 0))) ∧ (w2.alloc (intsO (List.replicate L 0))).heap[w2.heap.size]? = some (intsO (nz (rowZ (runL depG (gs.take 0) []) L 0)))) :=
    Lib.hid ⟨HS0.out.step (below1 _ _), by rw [alloc_at _ _ _ rfl]; simp [runL, rowZ_nil, nz]⟩
  have HSZ := Lib.hid HS0.out.lt
  clear hw2
  go_enter Tryz.func16, Tryz.ntmps16
  go_upto_region 1 with fail
  rw [← HW2.out]
  obtain ⟨y0, y1⟩ := HS0.out.cells
  obtain ⟨x0, x1⟩ := HST.out.1.cells
  clear c0 c1
  go_wp2_with fail
  go_loopw [4, 5] (fun iv _ W => ∃ i : Nat, i ≤ L ∧ iv = .int .i64 i ∧ BoxC w inp A L c W ∧ W.heap[w2.heap.size]? = some (intsO (nz (rowZ (runL depG (gs.take i) []) L 0)))) (fun iv _ _ => L - (intOf iv).toNat)
  case atStart => exact ⟨0, by omega, rfl, HST.out.1, HST.out.2⟩
  case round =>
    obtain ⟨i, hi, rfl, hB, hD⟩ := hrel
    have HB := Lib.hid hB
    obtain ⟨y0, y1⟩ := HB.out.cells
    have hlen := HLN.out i hi
    by_cases hil : i < L
    · have e3 : decide ((i : Int) < (L : Int)) = true := decide_eq_true (by omega)
      have e3' : decide (i < L) = true := decide_eq_true hil
      obtain ⟨⟨k, n, ks⟩, hg⟩ : ∃ g, gs[i]? = some g := ⟨_, List.getElem?_eq_getElem (by rw [HL.out]; exact hil)⟩
      obtain ⟨b, off, u, rfl, g0, g1, g2, K, kc, rfl, hK, hKl⟩ := HR.out i _ hg
      have hok := HGG.out i _ hg
      have hkin : kidsIn i ks := kidsIn_of (by rw [okG, Bool.and_eq_true] at hok; exact hok.2)
      have hks2 : ks.length ≤ 2 := by
        rcases okG_cases hok with ⟨_, _, _, h⟩ | ⟨_, _, h⟩ | ⟨_, _, _, h, _⟩ | ⟨_, _, _, _, h, _⟩ <;> (dsimp only at h; rw [h]; simp)
      have HG := Lib.hid hg
      have HK := Lib.hid hK
      have HKI := Lib.hid hkin
      have HC0 := Lib.hid (And.intro g0 g2)
      have hdl : (runL depG (gs.take i) []).length < L := by omega
      have HD0 : Hid (wr.heap[w2.heap.size]? = some (intsO (nz (rowZ (runL depG (gs.take i) [] ++ [greatN (runL depG (gs.take i) []) (ks.take 0) 0]) L 0)))) := Lib.hid (by
        rw [show greatN (runL depG (gs.take i) []) (ks.take 0) 0 = 0 from rfl, rowZ_zero hdl]; exact hD)
      have HNEXT : Hid (∀ d, d = depG (runL depG (gs.take i) []) ⟨k, n, ks⟩ → runL depG (gs.take i) [] ++ [d] = runL depG (gs.take (i + 1)) []) := Lib.hid (fun d hd => by rw [hd, runL_next hg])
      have HDG : Hid (depG (runL depG (gs.take i) []) ⟨k, n, ks⟩ = greatN (runL depG (gs.take i) []) ks 0 + depAt fSh k) := Lib.hid (Nat.add_comm _ _)
      have HSMI := Lib.hid (HSM.out i)
      have hdk : depAt fSh k ≤ 2 := depAt_le (by decide) k
      clear hg hK hok hkin hB hD hKl g1 x0 x1 hdl
      have HLEN := Lib.hid hlen
      generalize runL depG (gs.take i) [] = ds at *
      generalize hkl : ks.length = kl at *
      have HKL := Lib.hid hkl
      clear hkl hlen
      have e0 := (HB.out.bel.cell (World.block_lt_of_cell? w _ HC0.out.1)).trans HC0.out.1
      have e2 := (HB.out.bel.cell (World.block_lt_of_cell? w _ HC0.out.2)).trans HC0.out.2
      clear g0 g2
      obtain ⟨wo, rfl⟩ : ∃ wo : World, wo = wr := ⟨_, rfl⟩
      go_wp2_with fail
      clear e0 e2 y0 y1
      go_loopw [5] (fun jv W => ∃ j : Nat, j ≤ kl ∧ jv = .int .i64 j ∧ BoxC w inp (some ⟨b, off, none⟩) L c W ∧ W.heap[w2.heap.size]? = some (intsO (nz (rowZ (ds ++ [greatN ds (ks.take j) 0]) L 0)))) (fun jv _ => kl - (intOf jv).toNat)
      case atStart => exact ⟨0, by omega, rfl, HB.out, HD0.out⟩
      case round =>
        obtain ⟨j, hj, rfl, hB2, hD2⟩ := hrel
        have HB2 := Lib.hid hB2
        have HD2 := Lib.hid hD2
        obtain ⟨y0, y1⟩ := hB2.cells
        have e0 := (HB2.out.bel.cell (World.block_lt_of_cell? w _ HC0.out.1)).trans HC0.out.1
        have e2 := (HB2.out.bel.cell (World.block_lt_of_cell? w _ HC0.out.2)).trans HC0.out.2
        have hgm := greatN_le HSMI.out (ks.take j) 0 (Nat.zero_le _)
        obtain ⟨q1, f1⟩ := ints_cell (j := i) (x := ((greatN ds (ks.take j) 0 : Nat) : Int)) hD2 (by
          have h := nz_at (rowZ_end (l := ds) (n := L) (z := 0) (greatN ds (ks.take j) 0))
          rw [HLEN.out] at h
          exact h)
        by_cases hjl : j < kl
        · have e4 : decide ((j : Int) < (kl : Int)) = true := decide_eq_true (by omega)
          have e4' : decide (j < kl) = true := decide_eq_true hjl
          obtain ⟨x, hx⟩ : ∃ x, ks[j]? = some x := ⟨_, List.getElem?_eq_getElem (by rw [HKL.out]; exact hjl)⟩
          obtain ⟨p, rfl, k0⟩ := HK.out j x hx
          have k1 := (HB2.out.bel.cell (World.block_lt_of_cell? w _ k0)).trans k0
          obtain ⟨hx0, hx1⟩ := HKI.out x (List.mem_of_getElem? hx)
          obtain ⟨y, rfl⟩ : ∃ y : Nat, x = y := ⟨x.toNat, by omega⟩
          obtain ⟨d, hd⟩ : ∃ d, ds[y]? = some d := ⟨_, List.getElem?_eq_getElem (by have := HLEN.out; omega)⟩
          have hyl : y < L := by omega
          obtain ⟨q2, f2⟩ := ints_cell (j := y) (x := ((d : Nat) : Int)) hD2 (nz_at (rowZ_old hd))
          have hd2 : d ≤ 1048576 := HSMI.out d (List.mem_of_getElem? hd)
          have hset := ints_set (j := i) ((max (greatN ds (ks.take j) 0) d : Nat) : Int) hD2
          rw [nz_set] at hset
          have e5 : (rowZ (ds ++ [greatN ds (ks.take j) 0]) L 0).set i (max (greatN ds (ks.take j) 0) d) = rowZ (ds ++ [greatN ds (ks.take (j + 1)) 0]) L 0 := by
            have h := rowZ_last (l := ds) (n := L) (z := 0) (greatN ds (ks.take j) 0) (max (greatN ds (ks.take j) 0) d)
            rw [HLEN.out] at h
            rw [h, greatN_next hx]
            simp [hd]
          rw [e5, show ((max (greatN ds (ks.take j) 0) d : Nat) : Int) = max ((greatN ds (ks.take j) 0 : Nat) : Int) (d : Int) by omega] at hset
          have HSET := Lib.hid hset
          generalize greatN ds (ks.take j) 0 = m at *
          clear hB2 hD2 hset e5 hx hx0 hx1 hd k0
          go_wp2_with fail
          go_region
          all_goals
            go_wp2_with fail
            go_roundw
            case rel => exact ⟨j + 1, by omega, by go_num, (HB2.out.put (p := ⟨w2.heap.size, i, none⟩) HSZ.out _).drew, HSET.out⟩
            case measure => simp [intOf]; omega
        · have e4 : decide ((j : Int) < (kl : Int)) = false := decide_eq_false (by omega)
          have e4' : decide (j < kl) = false := decide_eq_false hjl
          have HCO := Lib.hid (CostE_ref k wr.drew)
          have hset := ints_set (j := i) ((greatN ds (ks.take j) 0 + depAt fSh k : Nat) : Int) hD2
          have e5 : (rowZ (ds ++ [greatN ds (ks.take j) 0]) L 0).set i (greatN ds (ks.take j) 0 + depAt fSh k) = rowZ (runL depG (gs.take (i + 1)) []) L 0 := by
            have h := rowZ_last (l := ds) (n := L) (z := 0) (greatN ds (ks.take j) 0) (greatN ds (ks.take j) 0 + depAt fSh k)
            rw [HLEN.out] at h
            rw [h, HNEXT.out _ (by rw [HDG.out, List.take_of_length_le (by rw [HKL.out]; omega)])]
          rw [nz_set, e5, Int.natCast_add] at hset
          have HSET := Lib.hid hset
          generalize greatN ds (ks.take j) 0 = m at *
          generalize depAt fSh k = dk at *
          clear hB2 hD2 hset e5
          go_wp2_with fail
          go_region_with (go_at_call 47; refine HCO.out.mono ?_; rintro e w1 ⟨rfl, rfl⟩)
          all_goals
            go_wp2_with fail
            go_roundw
            case rel => exact ⟨i + 1, by omega, by go_num, (HB2.out.put (p := ⟨w2.heap.size, i, none⟩) HSZ.out _).drew, HSET.out⟩
            case measure => simp [intOf]; omega
    · have e3 : decide ((i : Int) < (L : Int)) = false := decide_eq_false (by omega)
      have e3' : decide (i < L) = false := decide_eq_false hil
      obtain rfl : i = L := by omega
      obtain ⟨m, rfl⟩ : ∃ m, i = m + 1 := ⟨i - 1, by omega⟩
      obtain ⟨x, hx⟩ : ∃ x, (runL depG (gs.take (m + 1)) [])[m]? = some x := ⟨_, List.getElem?_eq_getElem (by rw [hlen]; omega)⟩
      obtain ⟨q1, f1⟩ := ints_cell (j := m) (x := (x : Int)) hD (nz_at (rowZ_at hx))
      have HE : Hid (depC gs = x) := Lib.hid (by
        rw [← HFU.out (runL depG (gs.take (m + 1)) []) rfl, show m + 1 - 1 = m from rfl, hx]; rfl)
      clear hB hD hx hlen
      go_wp2_with fail
      go_ret
      exact ⟨by rw [HE.out]; rfl, HB.out.bel⟩
end Go.Proofs.YtcophfhnhlaonaaGreatDoor
namespace Go.Proofs.YtcophfhnhlaonaaGreatDoor
set_option linter.unusedVariables false
open Go.RowKit

/-- What Few counts in one list of gates, from n on. -/
def kF (most : Nat) : List Gat → Nat → Nat
  | [], n => n
  | g :: gs, n => if n ≤ most then kF most gs (n + g.ks.length) else n
def fL (most : Nat) : List (List Gat) → Nat → Nat
  | [], n => n
  | gs :: l, n => fL most l (kF most gs (n + gs.length))
theorem kF_stay {most : Nat} : ∀ (gs : List Gat) {n : Nat}, ¬ n ≤ most → kF most gs n = n
  | [], n, h => rfl
  | g :: gs, n, h => by rw [kF, if_neg h]
theorem kF_append (most : Nat) : ∀ (xs ys : List Gat) (n : Nat), kF most (xs ++ ys) n = kF most ys (kF most xs n)
  | [], ys, n => rfl
  | x :: xs, ys, n => by
    rw [List.cons_append, kF, kF]
    split
    · exact kF_append most xs ys _
    · rename_i h
      rw [kF_stay ys h]
theorem kF_next {most : Nat} {gs : List Gat} {i n m : Nat} {g : Gat} (hg : gs[i]? = some g) (h : kF most (gs.take i) n = m) (hm : m ≤ most) : kF most (gs.take (i + 1)) n = m + g.ks.length := by
  rw [List.take_add_one, hg, kF_append, h]
  simp only [Option.toList_some, kF]
  rw [if_pos hm]
theorem kF_dead {most : Nat} {gs : List Gat} {i n m : Nat} (h : kF most (gs.take i) n = m) (hm : ¬ m ≤ most) : kF most gs n = m := by
  have := kF_append most (gs.take i) (gs.drop i) n
  rw [List.take_append_drop, h, kF_stay _ hm] at this
  exact this
theorem kF_ge (most : Nat) : ∀ (gs : List Gat) (n : Nat), n ≤ kF most gs n
  | [], n => Nat.le_refl _
  | g :: gs, n => by
    rw [kF]
    split
    · exact Nat.le_trans (Nat.le_add_right _ _) (kF_ge most gs _)
    · exact Nat.le_refl _
theorem fL_append (most : Nat) : ∀ (xs ys : List (List Gat)) (n : Nat), fL most (xs ++ ys) n = fL most ys (fL most xs n)
  | [], ys, n => rfl
  | x :: xs, ys, n => by rw [List.cons_append, fL, fL, fL_append most xs ys]
theorem fL_next {most : Nat} {l : List (List Gat)} {i n m : Nat} {gs : List Gat} (hg : l[i]? = some gs) (h : fL most (l.take i) n = m) : fL most (l.take (i + 1)) n = kF most gs (m + gs.length) := by
  rw [List.take_add_one, hg, fL_append, h]
  rfl
theorem fL_one {most : Nat} {gs : List Gat} (h : fL most [gs] 0 ≤ most) : gs.length ≤ most := by
  have := kF_ge most gs (0 + gs.length)
  simp only [fL] at h
  omega
theorem fL_two {most : Nat} {gs hs : List Gat} (h : fL most [gs, hs] 0 ≤ most) : gs.length + hs.length ≤ most := by
  have h1 := kF_ge most gs (0 + gs.length)
  have h2 := kF_ge most hs (kF most gs (0 + gs.length) + hs.length)
  simp only [fL] at h
  omega

/-- A row of circuits. -/
def RdC (w : World) (A : Option Addr) (l : List (List Gat)) : Prop :=
  ∀ i gs, l[i]? = some gs → ∃ b off G c, A = some ⟨b, off, none⟩ ∧ w.cell? ⟨b, off + i * 2 + 1, none⟩ = some (.slice G gs.length c) ∧ RdG w G gs ∧ gs.length ≤ 1152921504606846976
theorem RdC.below {w w' : World} {A : Option Addr} {l : List (List Gat)} (h : RdC w A l) (hb : Below w.heap.size w w') : RdC w' A l := fun i gs hi => by
  obtain ⟨b, off, G, c, ha, h1, h2, h3⟩ := h i gs hi
  exact ⟨b, off, G, c, ha, (hb.cell (World.block_lt_of_cell? w _ h1)).trans h1, h2.below hb, h3⟩

set_option maxRecDepth 100000 in
set_option maxHeartbeats 8000000 in
theorem FewC_ok (most : Nat) (hm : most ≤ 1048576) (l : List (List Gat)) (hl : l.length ≤ 2) (A : Option Addr) (c : Nat) (w : World) (hR : RdC w A l) :
    Calls Tryz.prog 14 #[.int .i64 (most : Int), .slice A l.length c] w fun r w' => r = .returned (.bool (decide (fL most l 0 ≤ most))) ∧ w = w' := by
  have HR := Lib.hid hR
  clear hR
  generalize hN : l.length = N at *
  have HN := Lib.hid hN
  clear hN
  go_enter Tryz.func14, Tryz.ntmps14
  go_wp2_with fail
  go_loopw [5, 6, 7] (fun nv iv _ W => ∃ i n : Nat, i ≤ N ∧ iv = .int .i64 i ∧ nv = .int .i64 n ∧ fL most (l.take i) 0 = n ∧ n ≤ 1048576 + i * 1152921504606846976 ∧ w = W) (fun _ iv _ _ => N - (intOf iv).toNat)
  case atStart => exact ⟨0, 0, by omega, rfl, rfl, rfl, by omega, rfl⟩
  case round =>
    obtain ⟨i, n, hi, rfl, rfl, hf, hn, rfl⟩ := hrel
    have HF := Lib.hid hf
    clear hf
    by_cases hil : i < N
    · have e3 : decide ((i : Int) < (N : Int)) = true := decide_eq_true (by omega)
      have e3' : decide (i < N) = true := decide_eq_true hil
      obtain ⟨gs, hg⟩ : ∃ g, l[i]? = some g := ⟨_, List.getElem?_eq_getElem (by rw [HN.out]; exact hil)⟩
      obtain ⟨b, off, G, gc, rfl, g0, hG, hGl⟩ := HR.out i _ hg
      have HG := Lib.hid hG
      have HNX := Lib.hid (fL_next hg HF.out)
      have HK0 : Hid (kF most (gs.take 0) (n + gs.length) = n + gs.length) := Lib.hid rfl
      clear hg hG
      generalize hkl : gs.length = gl at *
      have HGL := Lib.hid hkl
      clear hkl
      have hi2 : i ≤ 1 := by omega
      go_wp2_with fail
      go_loopw [5, 7] (fun nv jv W => ∃ j m : Nat, j ≤ gl ∧ jv = .int .i64 j ∧ nv = .int .i64 m ∧ kF most (gs.take j) (n + gl) = m ∧ m ≤ 1048576 + (i + 1) * 1152921504606846976 ∧ w = W) (fun _ jv _ => gl - (intOf jv).toNat)
      case atStart => exact ⟨0, n + gl, by omega, rfl, by go_num, HK0.out, by omega, rfl⟩
      case round =>
        obtain ⟨j, m, hj, rfl, rfl, hk, hm2, rfl⟩ := hrel
        have HK := Lib.hid hk
        clear hk
        by_cases hjl : j < gl
        · have e4 : decide ((j : Int) < (gl : Int)) = true := decide_eq_true (by omega)
          have e4' : decide (j < gl) = true := decide_eq_true hjl
          by_cases hmm : m ≤ most
          · have e5 : decide ((m : Int) ≤ (most : Int)) = true := decide_eq_true (by omega)
            have e5' : decide (m ≤ most) = true := decide_eq_true hmm
            obtain ⟨⟨k, gn, ks⟩, hg⟩ : ∃ g, gs[j]? = some g := ⟨_, List.getElem?_eq_getElem (by rw [HGL.out]; exact hjl)⟩
            obtain ⟨b2, off2, u, rfl, q0, q1, q2, K, kc, rfl, hK, hKl⟩ := HG.out j _ hg
            have HK2 := Lib.hid (kF_next hg HK.out hmm)
            clear hg q0 q1 hK
            generalize ks.length = kl at *
            go_wp2_with fail
            go_roundw
            case rel => exact ⟨j + 1, m + kl, by omega, by go_num, by go_num, HK2.out, by omega, trivial⟩
            case measure => simp [intOf]; omega
          · have e5 : decide ((m : Int) ≤ (most : Int)) = false := decide_eq_false (by omega)
            have e5' : decide (m ≤ most) = false := decide_eq_false hmm
            have HKD := Lib.hid (kF_dead HK.out hmm)
            go_wp2_with fail
            go_roundw
            case rel => exact ⟨i + 1, m, by omega, by go_num, rfl, by rw [HNX.out, HKD.out], by omega, trivial⟩
            case measure => simp [intOf]; omega
        · have e4 : decide ((j : Int) < (gl : Int)) = false := decide_eq_false (by omega)
          have e4' : decide (j < gl) = false := decide_eq_false hjl
          have HKD : Hid (kF most gs (n + gl) = m) := Lib.hid (by
            have h := HK.out
            rw [List.take_of_length_le (by rw [HGL.out]; omega)] at h
            exact h)
          go_wp2_with fail
          go_roundw
          case rel => exact ⟨i + 1, m, by omega, by go_num, rfl, by rw [HNX.out, HKD.out], by omega, trivial⟩
          case measure => simp [intOf]; omega
    · have e3 : decide ((i : Int) < (N : Int)) = false := decide_eq_false (by omega)
      have e3' : decide (i < N) = false := decide_eq_false hil
      have HE : Hid (fL most l 0 = n) := Lib.hid (by rw [← HF.out, List.take_of_length_le (by rw [HN.out]; omega)])
      by_cases hmm : n ≤ most
      · have e5 : decide ((n : Int) ≤ (most : Int)) = true := decide_eq_true (by omega)
        have e5' : decide (n ≤ most) = true := decide_eq_true hmm
        have HR5 := Lib.hid e5'
        go_wp2_with fail
        go_ret
        exact ⟨by rw [HE.out, HR5.out]; rfl, rfl⟩
      · have e5 : decide ((n : Int) ≤ (most : Int)) = false := decide_eq_false (by omega)
        have e5' : decide (n ≤ most) = false := decide_eq_false hmm
        have HR5 := Lib.hid e5'
        go_wp2_with fail
        go_ret
        exact ⟨by rw [HE.out, HR5.out]; rfl, rfl⟩
end Go.Proofs.YtcophfhnhlaonaaGreatDoor
