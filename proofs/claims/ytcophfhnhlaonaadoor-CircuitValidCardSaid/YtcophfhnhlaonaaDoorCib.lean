/-
  Contracts of isGate, steps and greatest of package circuit, and of the reference's Shape for any number of inputs.
-/
import Derived.Test.YtcophfhnhlaonaaDoorCia
namespace Go.Proofs.YtcophfhnhlaonaaDoor
set_option linter.unusedVariables false
open Go.RowKit

theorem shp0 (inp n : Int) (L : Nat) : shpN inp 0 n L = (decide (0 ≤ n) && decide (n < inp) && decide (L = 0)) := by rw [shpN, if_pos rfl]
theorem shp1 (inp n : Int) (L : Nat) : shpN inp 1 n L = (decide (0 ≤ n) && decide (n < 2) && decide (L = 0)) := by rw [shpN, if_neg (by decide), if_pos rfl]
theorem shp2 (inp n : Int) (L : Nat) : shpN inp 2 n L = (decide (0 ≤ n) && decide (n < 1) && decide (L = 1)) := by rw [shpN, if_neg (by decide), if_neg (by decide), if_pos rfl]
theorem shp3 (inp n : Int) (L : Nat) : shpN inp 3 n L = (decide (0 ≤ n) && decide (n < 1) && decide (L = 2)) := by rw [shpN, if_neg (by decide), if_neg (by decide), if_neg (by decide), if_pos (by decide)]
theorem shp4 (inp n : Int) (L : Nat) : shpN inp 4 n L = (decide (0 ≤ n) && decide (n < 1) && decide (L = 2)) := by rw [shpN, if_neg (by decide), if_neg (by decide), if_neg (by decide), if_pos (by decide)]
theorem shp5 (inp n : Int) (L : Nat) : shpN inp 5 n L = (decide (0 ≤ n) && decide (n < 1) && decide (L = 2)) := by rw [shpN, if_neg (by decide), if_neg (by decide), if_neg (by decide), if_pos (by decide)]
theorem shpX {inp k n : Int} {L : Nat} (h0 : k ≠ 0) (h1 : k ≠ 1) (h2 : k ≠ 2) (h3 : k ≠ 3) (h4 : k ≠ 4) (h5 : k ≠ 5) : shpN inp k n L = false := by rw [shpN, if_neg h0, if_neg h1, if_neg h2, if_neg (by omega)]
theorem kidsN_next {e : Nat} {ks : List Int} {i : Nat} {x : Int} (hx : ks[i]? = some x) : kidsN e (ks.take (i + 1)) = (kidsN e (ks.take i) && kidN e x) := by
  rw [List.take_add_one, hx]
  simp [kidsN]
theorem kidsN_dead {e : Nat} {ks : List Int} {i : Nat} {x : Int} (hx : ks[i]? = some x) (h : kidN e x = false) : kidsN e ks = false := by
  cases hb : kidsN e ks with
  | false => rfl
  | true =>
    rw [kidsN, List.all_eq_true] at hb
    rw [hb x (List.mem_of_getElem? hx)] at h
    cases h


set_option maxRecDepth 100000 in
set_option maxHeartbeats 8000000 in
theorem isGate_ok (inp : Int) (e : Nat) (k n : Int) (K : Option Addr) (c : Nat) (ks : List Int) (w : World) (hK : RdI w K ks) (hl : ks.length ≤ 1152921504606846976) :
    Calls Tryd.prog 32 #[.agg #[.int .i64 k, .int .i64 n, .slice K ks.length c], .int .i64 inp, .int .i64 (e : Int)] w fun r w' => r = .returned (.bool (okG inp e ⟨k, n, ks⟩)) ∧ Below w.heap.size w w' := by
  have hb1 := below1 w (.cells #[.int .i64 k, .int .i64 n, .slice K ks.length c] 59)
  have HB1 := Lib.hid hb1
  have HK := Lib.hid hK
  have HG : Hid (okG inp e ⟨k, n, ks⟩ = (shpN inp k n ks.length && kidsN e ks)) := Lib.hid rfl
  clear hb1 hK
  by_cases h0 : k = 0
  · obtain rfl := h0
    have HS : Hid (shpN inp 0 n ks.length = (decide (0 ≤ n) && decide (n < inp) && decide (ks.length = 0))) := Lib.hid (shp0 _ _ _)
    by_cases t0 : n < 0
    · have HE : Hid (okG inp e ⟨0, n, ks⟩ = false) := Lib.hid (by rw [HG.out, HS.out, decide_eq_false (by omega : ¬ (0 ≤ n))]; rfl)
      have d0 : decide (n < 0) = true := decide_eq_true t0
      clear t0
      go_enter Tryd.func32, Tryd.ntmps32
      go_wp2_with fail
      go_ret
      exact ⟨by rw [HE.out]; rfl, HB1.out⟩
    · have d0 : decide (n < 0) = false := decide_eq_false t0
      by_cases t1 : inp ≤ n
      · have HE : Hid (okG inp e ⟨0, n, ks⟩ = false) := Lib.hid (by rw [HG.out, HS.out, decide_eq_false (by omega : ¬ (n < inp)), Bool.and_false]; rfl)
        have d1 : decide (inp ≤ n) = true := decide_eq_true t1
        clear t0 t1
        go_enter Tryd.func32, Tryd.ntmps32
        go_wp2_with fail
        go_ret
        exact ⟨by rw [HE.out]; rfl, HB1.out⟩
      · have d1 : decide (inp ≤ n) = false := decide_eq_false t1
        by_cases t2 : ks.length = 0
        · have HE : Hid (okG inp e ⟨0, n, ks⟩ = kidsN e ks) := Lib.hid (by rw [HG.out, HS.out, decide_eq_true (by omega : 0 ≤ n), decide_eq_true (by omega : n < inp), decide_eq_true t2]; rfl)
          have d2 : ((ks.length : Int) == 0) = true := by rw [t2]; rfl
          have HT2 := Lib.hid t2
          clear t0 t1 t2
          generalize hL : ks.length = L at *
          have HL := Lib.hid hL
          clear hL
          go_enter Tryd.func32, Tryd.ntmps32
          go_wp2_with fail
          go_loopw [10, 43] (fun _ iv W => ∃ i : Nat, i ≤ L ∧ iv = .int .i64 i ∧ kidsN e (ks.take i) = true ∧ Below w.heap.size w W) (fun _ iv _ => L - (intOf iv).toNat)
          case atStart => exact ⟨0, by omega, rfl, rfl, HB1.out⟩
          case round =>
            obtain ⟨i, hi, rfl, hp, hB⟩ := hrel
            have HP := Lib.hid hp
            have HB := Lib.hid hB
            clear hp
            by_cases hil : i < L
            · obtain ⟨x, hx⟩ : ∃ x, ks[i]? = some x := ⟨_, List.getElem?_eq_getElem (by rw [HL.out]; exact hil)⟩
              obtain ⟨p, rfl, e0⟩ := HK.out i x hx
              have e1 := (hB.cell (World.block_lt_of_cell? w _ e0)).trans e0
              have HNX := Lib.hid (kidsN_next (e := e) hx)
              have HDD := Lib.hid (fun h => kidsN_dead (e := e) hx h)
              clear hx e0 hB
              by_cases q0 : x < 0
              · have d5 : decide (x < 0) = true := decide_eq_true q0
                have HE2 : Hid (okG inp e ⟨0, n, ks⟩ = false) := Lib.hid (by rw [HE.out]; exact HDD.out (by rw [kidN, decide_eq_false (by omega : ¬ (0 ≤ x))]; rfl))
                clear q0
                go_wp2_with fail
                go_ret
                exact ⟨by rw [HE2.out]; rfl, HB.out⟩
              · have d5 : decide (x < 0) = false := decide_eq_false q0
                by_cases q1 : (e : Int) ≤ x
                · have d6 : decide ((e : Int) ≤ x) = true := decide_eq_true q1
                  have HE2 : Hid (okG inp e ⟨0, n, ks⟩ = false) := Lib.hid (by rw [HE.out]; exact HDD.out (by rw [kidN, decide_eq_false (by omega : ¬ (x < (e : Int))), Bool.and_false]))
                  clear q0 q1
                  go_wp2_with fail
                  go_ret
                  exact ⟨by rw [HE2.out]; rfl, HB.out⟩
                · have d6 : decide ((e : Int) ≤ x) = false := decide_eq_false q1
                  have HK2 : Hid (kidN e x = true) := Lib.hid (by rw [kidN, decide_eq_true (by omega : 0 ≤ x), decide_eq_true (by omega : x < (e : Int))]; rfl)
                  clear q0 q1
                  go_wp2_with fail
                  go_roundw
                  case rel => exact ⟨i + 1, by omega, by go_num, by rw [HNX.out, HP.out, HK2.out]; rfl, HB.out⟩
                  case measure => simp [intOf]; omega
            · have HE2 : Hid (okG inp e ⟨0, n, ks⟩ = true) := Lib.hid (by rw [HE.out, ← HP.out, List.take_of_length_le (by rw [HL.out]; omega)])
              go_wp2_with fail
              go_ret
              exact ⟨by rw [HE2.out]; rfl, HB.out⟩
        · have HE : Hid (okG inp e ⟨0, n, ks⟩ = false) := Lib.hid (by rw [HG.out, HS.out, decide_eq_false t2, Bool.and_false]; rfl)
          have d2 : ((ks.length : Int) == 0) = false := by rw [beq_eq_false_iff_ne]; omega
          clear t0 t1 t2
          go_enter Tryd.func32, Tryd.ntmps32
          go_wp2_with fail
          go_ret
          exact ⟨by rw [HE.out]; rfl, HB1.out⟩
  · have f0 : ((k : Int) == 0) = false := by simp [h0]
    by_cases h1 : k = 1
    · obtain rfl := h1
      clear h0 f0
      have HS : Hid (shpN inp 1 n ks.length = (decide (0 ≤ n) && decide (n < 2) && decide (ks.length = 0))) := Lib.hid (shp1 _ _ _)
      by_cases t0 : n < 0
      · have HE : Hid (okG inp e ⟨1, n, ks⟩ = false) := Lib.hid (by rw [HG.out, HS.out, decide_eq_false (by omega : ¬ (0 ≤ n))]; rfl)
        have d0 : decide (n < 0) = true := decide_eq_true t0
        clear t0
        go_enter Tryd.func32, Tryd.ntmps32
        go_wp2_with fail
        go_ret
        exact ⟨by rw [HE.out]; rfl, HB1.out⟩
      · have d0 : decide (n < 0) = false := decide_eq_false t0
        by_cases t1 : 2 ≤ n
        · have HE : Hid (okG inp e ⟨1, n, ks⟩ = false) := Lib.hid (by rw [HG.out, HS.out, decide_eq_false (by omega : ¬ (n < 2)), Bool.and_false]; rfl)
          have d1 : decide (2 ≤ n) = true := decide_eq_true t1
          clear t0 t1
          go_enter Tryd.func32, Tryd.ntmps32
          go_wp2_with fail
          go_ret
          exact ⟨by rw [HE.out]; rfl, HB1.out⟩
        · have d1 : decide (2 ≤ n) = false := decide_eq_false t1
          by_cases t2 : ks.length = 0
          · have HE : Hid (okG inp e ⟨1, n, ks⟩ = kidsN e ks) := Lib.hid (by rw [HG.out, HS.out, decide_eq_true (by omega : 0 ≤ n), decide_eq_true (by omega : n < 2), decide_eq_true t2]; rfl)
            have d2 : ((ks.length : Int) == 0) = true := by rw [t2]; rfl
            have HT2 := Lib.hid t2
            clear t0 t1 t2
            generalize hL : ks.length = L at *
            have HL := Lib.hid hL
            clear hL
            go_enter Tryd.func32, Tryd.ntmps32
            go_wp2_with fail
            go_loopw [10, 43] (fun _ iv W => ∃ i : Nat, i ≤ L ∧ iv = .int .i64 i ∧ kidsN e (ks.take i) = true ∧ Below w.heap.size w W) (fun _ iv _ => L - (intOf iv).toNat)
            case atStart => exact ⟨0, by omega, rfl, rfl, HB1.out⟩
            case round =>
              obtain ⟨i, hi, rfl, hp, hB⟩ := hrel
              have HP := Lib.hid hp
              have HB := Lib.hid hB
              clear hp
              by_cases hil : i < L
              · obtain ⟨x, hx⟩ : ∃ x, ks[i]? = some x := ⟨_, List.getElem?_eq_getElem (by rw [HL.out]; exact hil)⟩
                obtain ⟨p, rfl, e0⟩ := HK.out i x hx
                have e1 := (hB.cell (World.block_lt_of_cell? w _ e0)).trans e0
                have HNX := Lib.hid (kidsN_next (e := e) hx)
                have HDD := Lib.hid (fun h => kidsN_dead (e := e) hx h)
                clear hx e0 hB
                by_cases q0 : x < 0
                · have d5 : decide (x < 0) = true := decide_eq_true q0
                  have HE2 : Hid (okG inp e ⟨1, n, ks⟩ = false) := Lib.hid (by rw [HE.out]; exact HDD.out (by rw [kidN, decide_eq_false (by omega : ¬ (0 ≤ x))]; rfl))
                  clear q0
                  go_wp2_with fail
                  go_ret
                  exact ⟨by rw [HE2.out]; rfl, HB.out⟩
                · have d5 : decide (x < 0) = false := decide_eq_false q0
                  by_cases q1 : (e : Int) ≤ x
                  · have d6 : decide ((e : Int) ≤ x) = true := decide_eq_true q1
                    have HE2 : Hid (okG inp e ⟨1, n, ks⟩ = false) := Lib.hid (by rw [HE.out]; exact HDD.out (by rw [kidN, decide_eq_false (by omega : ¬ (x < (e : Int))), Bool.and_false]))
                    clear q0 q1
                    go_wp2_with fail
                    go_ret
                    exact ⟨by rw [HE2.out]; rfl, HB.out⟩
                  · have d6 : decide ((e : Int) ≤ x) = false := decide_eq_false q1
                    have HK2 : Hid (kidN e x = true) := Lib.hid (by rw [kidN, decide_eq_true (by omega : 0 ≤ x), decide_eq_true (by omega : x < (e : Int))]; rfl)
                    clear q0 q1
                    go_wp2_with fail
                    go_roundw
                    case rel => exact ⟨i + 1, by omega, by go_num, by rw [HNX.out, HP.out, HK2.out]; rfl, HB.out⟩
                    case measure => simp [intOf]; omega
              · have HE2 : Hid (okG inp e ⟨1, n, ks⟩ = true) := Lib.hid (by rw [HE.out, ← HP.out, List.take_of_length_le (by rw [HL.out]; omega)])
                go_wp2_with fail
                go_ret
                exact ⟨by rw [HE2.out]; rfl, HB.out⟩
          · have HE : Hid (okG inp e ⟨1, n, ks⟩ = false) := Lib.hid (by rw [HG.out, HS.out, decide_eq_false t2, Bool.and_false]; rfl)
            have d2 : ((ks.length : Int) == 0) = false := by rw [beq_eq_false_iff_ne]; omega
            clear t0 t1 t2
            go_enter Tryd.func32, Tryd.ntmps32
            go_wp2_with fail
            go_ret
            exact ⟨by rw [HE.out]; rfl, HB1.out⟩
    · have f1 : ((k : Int) == 1) = false := by simp [h1]
      by_cases h2 : k = 2
      · obtain rfl := h2
        clear h0 f0
        clear h1 f1
        have HS : Hid (shpN inp 2 n ks.length = (decide (0 ≤ n) && decide (n < 1) && decide (ks.length = 1))) := Lib.hid (shp2 _ _ _)
        by_cases t0 : n < 0
        · have HE : Hid (okG inp e ⟨2, n, ks⟩ = false) := Lib.hid (by rw [HG.out, HS.out, decide_eq_false (by omega : ¬ (0 ≤ n))]; rfl)
          have d0 : decide (n < 0) = true := decide_eq_true t0
          clear t0
          go_enter Tryd.func32, Tryd.ntmps32
          go_wp2_with fail
          go_ret
          exact ⟨by rw [HE.out]; rfl, HB1.out⟩
        · have d0 : decide (n < 0) = false := decide_eq_false t0
          by_cases t1 : 1 ≤ n
          · have HE : Hid (okG inp e ⟨2, n, ks⟩ = false) := Lib.hid (by rw [HG.out, HS.out, decide_eq_false (by omega : ¬ (n < 1)), Bool.and_false]; rfl)
            have d1 : decide (1 ≤ n) = true := decide_eq_true t1
            clear t0 t1
            go_enter Tryd.func32, Tryd.ntmps32
            go_wp2_with fail
            go_ret
            exact ⟨by rw [HE.out]; rfl, HB1.out⟩
          · have d1 : decide (1 ≤ n) = false := decide_eq_false t1
            by_cases t2 : ks.length = 1
            · have HE : Hid (okG inp e ⟨2, n, ks⟩ = kidsN e ks) := Lib.hid (by rw [HG.out, HS.out, decide_eq_true (by omega : 0 ≤ n), decide_eq_true (by omega : n < 1), decide_eq_true t2]; rfl)
              have d2 : ((ks.length : Int) == 1) = true := by rw [t2]; rfl
              have HT2 := Lib.hid t2
              clear t0 t1 t2
              generalize hL : ks.length = L at *
              have HL := Lib.hid hL
              clear hL
              go_enter Tryd.func32, Tryd.ntmps32
              go_wp2_with fail
              go_loopw [10, 43] (fun _ iv W => ∃ i : Nat, i ≤ L ∧ iv = .int .i64 i ∧ kidsN e (ks.take i) = true ∧ Below w.heap.size w W) (fun _ iv _ => L - (intOf iv).toNat)
              case atStart => exact ⟨0, by omega, rfl, rfl, HB1.out⟩
              case round =>
                obtain ⟨i, hi, rfl, hp, hB⟩ := hrel
                have HP := Lib.hid hp
                have HB := Lib.hid hB
                clear hp
                by_cases hil : i < L
                · obtain ⟨x, hx⟩ : ∃ x, ks[i]? = some x := ⟨_, List.getElem?_eq_getElem (by rw [HL.out]; exact hil)⟩
                  obtain ⟨p, rfl, e0⟩ := HK.out i x hx
                  have e1 := (hB.cell (World.block_lt_of_cell? w _ e0)).trans e0
                  have HNX := Lib.hid (kidsN_next (e := e) hx)
                  have HDD := Lib.hid (fun h => kidsN_dead (e := e) hx h)
                  clear hx e0 hB
                  by_cases q0 : x < 0
                  · have d5 : decide (x < 0) = true := decide_eq_true q0
                    have HE2 : Hid (okG inp e ⟨2, n, ks⟩ = false) := Lib.hid (by rw [HE.out]; exact HDD.out (by rw [kidN, decide_eq_false (by omega : ¬ (0 ≤ x))]; rfl))
                    clear q0
                    go_wp2_with fail
                    go_ret
                    exact ⟨by rw [HE2.out]; rfl, HB.out⟩
                  · have d5 : decide (x < 0) = false := decide_eq_false q0
                    by_cases q1 : (e : Int) ≤ x
                    · have d6 : decide ((e : Int) ≤ x) = true := decide_eq_true q1
                      have HE2 : Hid (okG inp e ⟨2, n, ks⟩ = false) := Lib.hid (by rw [HE.out]; exact HDD.out (by rw [kidN, decide_eq_false (by omega : ¬ (x < (e : Int))), Bool.and_false]))
                      clear q0 q1
                      go_wp2_with fail
                      go_ret
                      exact ⟨by rw [HE2.out]; rfl, HB.out⟩
                    · have d6 : decide ((e : Int) ≤ x) = false := decide_eq_false q1
                      have HK2 : Hid (kidN e x = true) := Lib.hid (by rw [kidN, decide_eq_true (by omega : 0 ≤ x), decide_eq_true (by omega : x < (e : Int))]; rfl)
                      clear q0 q1
                      go_wp2_with fail
                      go_roundw
                      case rel => exact ⟨i + 1, by omega, by go_num, by rw [HNX.out, HP.out, HK2.out]; rfl, HB.out⟩
                      case measure => simp [intOf]; omega
                · have HE2 : Hid (okG inp e ⟨2, n, ks⟩ = true) := Lib.hid (by rw [HE.out, ← HP.out, List.take_of_length_le (by rw [HL.out]; omega)])
                  go_wp2_with fail
                  go_ret
                  exact ⟨by rw [HE2.out]; rfl, HB.out⟩
            · have HE : Hid (okG inp e ⟨2, n, ks⟩ = false) := Lib.hid (by rw [HG.out, HS.out, decide_eq_false t2, Bool.and_false]; rfl)
              have d2 : ((ks.length : Int) == 1) = false := by rw [beq_eq_false_iff_ne]; omega
              clear t0 t1 t2
              go_enter Tryd.func32, Tryd.ntmps32
              go_wp2_with fail
              go_ret
              exact ⟨by rw [HE.out]; rfl, HB1.out⟩
      · have f2 : ((k : Int) == 2) = false := by simp [h2]
        by_cases h3 : k = 3
        · obtain rfl := h3
          clear h0 f0
          clear h1 f1
          clear h2 f2
          have HS : Hid (shpN inp 3 n ks.length = (decide (0 ≤ n) && decide (n < 1) && decide (ks.length = 2))) := Lib.hid (shp3 _ _ _)
          by_cases t0 : n < 0
          · have HE : Hid (okG inp e ⟨3, n, ks⟩ = false) := Lib.hid (by rw [HG.out, HS.out, decide_eq_false (by omega : ¬ (0 ≤ n))]; rfl)
            have d0 : decide (n < 0) = true := decide_eq_true t0
            clear t0
            go_enter Tryd.func32, Tryd.ntmps32
            go_wp2_with fail
            go_ret
            exact ⟨by rw [HE.out]; rfl, HB1.out⟩
          · have d0 : decide (n < 0) = false := decide_eq_false t0
            by_cases t1 : 1 ≤ n
            · have HE : Hid (okG inp e ⟨3, n, ks⟩ = false) := Lib.hid (by rw [HG.out, HS.out, decide_eq_false (by omega : ¬ (n < 1)), Bool.and_false]; rfl)
              have d1 : decide (1 ≤ n) = true := decide_eq_true t1
              clear t0 t1
              go_enter Tryd.func32, Tryd.ntmps32
              go_wp2_with fail
              go_ret
              exact ⟨by rw [HE.out]; rfl, HB1.out⟩
            · have d1 : decide (1 ≤ n) = false := decide_eq_false t1
              by_cases t2 : ks.length = 2
              · have HE : Hid (okG inp e ⟨3, n, ks⟩ = kidsN e ks) := Lib.hid (by rw [HG.out, HS.out, decide_eq_true (by omega : 0 ≤ n), decide_eq_true (by omega : n < 1), decide_eq_true t2]; rfl)
                have d2 : ((ks.length : Int) == 2) = true := by rw [t2]; rfl
                have HT2 := Lib.hid t2
                clear t0 t1 t2
                generalize hL : ks.length = L at *
                have HL := Lib.hid hL
                clear hL
                go_enter Tryd.func32, Tryd.ntmps32
                go_wp2_with fail
                go_loopw [10, 43] (fun _ iv W => ∃ i : Nat, i ≤ L ∧ iv = .int .i64 i ∧ kidsN e (ks.take i) = true ∧ Below w.heap.size w W) (fun _ iv _ => L - (intOf iv).toNat)
                case atStart => exact ⟨0, by omega, rfl, rfl, HB1.out⟩
                case round =>
                  obtain ⟨i, hi, rfl, hp, hB⟩ := hrel
                  have HP := Lib.hid hp
                  have HB := Lib.hid hB
                  clear hp
                  by_cases hil : i < L
                  · obtain ⟨x, hx⟩ : ∃ x, ks[i]? = some x := ⟨_, List.getElem?_eq_getElem (by rw [HL.out]; exact hil)⟩
                    obtain ⟨p, rfl, e0⟩ := HK.out i x hx
                    have e1 := (hB.cell (World.block_lt_of_cell? w _ e0)).trans e0
                    have HNX := Lib.hid (kidsN_next (e := e) hx)
                    have HDD := Lib.hid (fun h => kidsN_dead (e := e) hx h)
                    clear hx e0 hB
                    by_cases q0 : x < 0
                    · have d5 : decide (x < 0) = true := decide_eq_true q0
                      have HE2 : Hid (okG inp e ⟨3, n, ks⟩ = false) := Lib.hid (by rw [HE.out]; exact HDD.out (by rw [kidN, decide_eq_false (by omega : ¬ (0 ≤ x))]; rfl))
                      clear q0
                      go_wp2_with fail
                      go_ret
                      exact ⟨by rw [HE2.out]; rfl, HB.out⟩
                    · have d5 : decide (x < 0) = false := decide_eq_false q0
                      by_cases q1 : (e : Int) ≤ x
                      · have d6 : decide ((e : Int) ≤ x) = true := decide_eq_true q1
                        have HE2 : Hid (okG inp e ⟨3, n, ks⟩ = false) := Lib.hid (by rw [HE.out]; exact HDD.out (by rw [kidN, decide_eq_false (by omega : ¬ (x < (e : Int))), Bool.and_false]))
                        clear q0 q1
                        go_wp2_with fail
                        go_ret
                        exact ⟨by rw [HE2.out]; rfl, HB.out⟩
                      · have d6 : decide ((e : Int) ≤ x) = false := decide_eq_false q1
                        have HK2 : Hid (kidN e x = true) := Lib.hid (by rw [kidN, decide_eq_true (by omega : 0 ≤ x), decide_eq_true (by omega : x < (e : Int))]; rfl)
                        clear q0 q1
                        go_wp2_with fail
                        go_roundw
                        case rel => exact ⟨i + 1, by omega, by go_num, by rw [HNX.out, HP.out, HK2.out]; rfl, HB.out⟩
                        case measure => simp [intOf]; omega
                  · have HE2 : Hid (okG inp e ⟨3, n, ks⟩ = true) := Lib.hid (by rw [HE.out, ← HP.out, List.take_of_length_le (by rw [HL.out]; omega)])
                    go_wp2_with fail
                    go_ret
                    exact ⟨by rw [HE2.out]; rfl, HB.out⟩
              · have HE : Hid (okG inp e ⟨3, n, ks⟩ = false) := Lib.hid (by rw [HG.out, HS.out, decide_eq_false t2, Bool.and_false]; rfl)
                have d2 : ((ks.length : Int) == 2) = false := by rw [beq_eq_false_iff_ne]; omega
                clear t0 t1 t2
                go_enter Tryd.func32, Tryd.ntmps32
                go_wp2_with fail
                go_ret
                exact ⟨by rw [HE.out]; rfl, HB1.out⟩
        · have f3 : ((k : Int) == 3) = false := by simp [h3]
          by_cases h4 : k = 4
          · obtain rfl := h4
            clear h0 f0
            clear h1 f1
            clear h2 f2
            clear h3 f3
            have HS : Hid (shpN inp 4 n ks.length = (decide (0 ≤ n) && decide (n < 1) && decide (ks.length = 2))) := Lib.hid (shp4 _ _ _)
            by_cases t0 : n < 0
            · have HE : Hid (okG inp e ⟨4, n, ks⟩ = false) := Lib.hid (by rw [HG.out, HS.out, decide_eq_false (by omega : ¬ (0 ≤ n))]; rfl)
              have d0 : decide (n < 0) = true := decide_eq_true t0
              clear t0
              go_enter Tryd.func32, Tryd.ntmps32
              go_wp2_with fail
              go_ret
              exact ⟨by rw [HE.out]; rfl, HB1.out⟩
            · have d0 : decide (n < 0) = false := decide_eq_false t0
              by_cases t1 : 1 ≤ n
              · have HE : Hid (okG inp e ⟨4, n, ks⟩ = false) := Lib.hid (by rw [HG.out, HS.out, decide_eq_false (by omega : ¬ (n < 1)), Bool.and_false]; rfl)
                have d1 : decide (1 ≤ n) = true := decide_eq_true t1
                clear t0 t1
                go_enter Tryd.func32, Tryd.ntmps32
                go_wp2_with fail
                go_ret
                exact ⟨by rw [HE.out]; rfl, HB1.out⟩
              · have d1 : decide (1 ≤ n) = false := decide_eq_false t1
                by_cases t2 : ks.length = 2
                · have HE : Hid (okG inp e ⟨4, n, ks⟩ = kidsN e ks) := Lib.hid (by rw [HG.out, HS.out, decide_eq_true (by omega : 0 ≤ n), decide_eq_true (by omega : n < 1), decide_eq_true t2]; rfl)
                  have d2 : ((ks.length : Int) == 2) = true := by rw [t2]; rfl
                  have HT2 := Lib.hid t2
                  clear t0 t1 t2
                  generalize hL : ks.length = L at *
                  have HL := Lib.hid hL
                  clear hL
                  go_enter Tryd.func32, Tryd.ntmps32
                  go_wp2_with fail
                  go_loopw [10, 43] (fun _ iv W => ∃ i : Nat, i ≤ L ∧ iv = .int .i64 i ∧ kidsN e (ks.take i) = true ∧ Below w.heap.size w W) (fun _ iv _ => L - (intOf iv).toNat)
                  case atStart => exact ⟨0, by omega, rfl, rfl, HB1.out⟩
                  case round =>
                    obtain ⟨i, hi, rfl, hp, hB⟩ := hrel
                    have HP := Lib.hid hp
                    have HB := Lib.hid hB
                    clear hp
                    by_cases hil : i < L
                    · obtain ⟨x, hx⟩ : ∃ x, ks[i]? = some x := ⟨_, List.getElem?_eq_getElem (by rw [HL.out]; exact hil)⟩
                      obtain ⟨p, rfl, e0⟩ := HK.out i x hx
                      have e1 := (hB.cell (World.block_lt_of_cell? w _ e0)).trans e0
                      have HNX := Lib.hid (kidsN_next (e := e) hx)
                      have HDD := Lib.hid (fun h => kidsN_dead (e := e) hx h)
                      clear hx e0 hB
                      by_cases q0 : x < 0
                      · have d5 : decide (x < 0) = true := decide_eq_true q0
                        have HE2 : Hid (okG inp e ⟨4, n, ks⟩ = false) := Lib.hid (by rw [HE.out]; exact HDD.out (by rw [kidN, decide_eq_false (by omega : ¬ (0 ≤ x))]; rfl))
                        clear q0
                        go_wp2_with fail
                        go_ret
                        exact ⟨by rw [HE2.out]; rfl, HB.out⟩
                      · have d5 : decide (x < 0) = false := decide_eq_false q0
                        by_cases q1 : (e : Int) ≤ x
                        · have d6 : decide ((e : Int) ≤ x) = true := decide_eq_true q1
                          have HE2 : Hid (okG inp e ⟨4, n, ks⟩ = false) := Lib.hid (by rw [HE.out]; exact HDD.out (by rw [kidN, decide_eq_false (by omega : ¬ (x < (e : Int))), Bool.and_false]))
                          clear q0 q1
                          go_wp2_with fail
                          go_ret
                          exact ⟨by rw [HE2.out]; rfl, HB.out⟩
                        · have d6 : decide ((e : Int) ≤ x) = false := decide_eq_false q1
                          have HK2 : Hid (kidN e x = true) := Lib.hid (by rw [kidN, decide_eq_true (by omega : 0 ≤ x), decide_eq_true (by omega : x < (e : Int))]; rfl)
                          clear q0 q1
                          go_wp2_with fail
                          go_roundw
                          case rel => exact ⟨i + 1, by omega, by go_num, by rw [HNX.out, HP.out, HK2.out]; rfl, HB.out⟩
                          case measure => simp [intOf]; omega
                    · have HE2 : Hid (okG inp e ⟨4, n, ks⟩ = true) := Lib.hid (by rw [HE.out, ← HP.out, List.take_of_length_le (by rw [HL.out]; omega)])
                      go_wp2_with fail
                      go_ret
                      exact ⟨by rw [HE2.out]; rfl, HB.out⟩
                · have HE : Hid (okG inp e ⟨4, n, ks⟩ = false) := Lib.hid (by rw [HG.out, HS.out, decide_eq_false t2, Bool.and_false]; rfl)
                  have d2 : ((ks.length : Int) == 2) = false := by rw [beq_eq_false_iff_ne]; omega
                  clear t0 t1 t2
                  go_enter Tryd.func32, Tryd.ntmps32
                  go_wp2_with fail
                  go_ret
                  exact ⟨by rw [HE.out]; rfl, HB1.out⟩
          · have f4 : ((k : Int) == 4) = false := by simp [h4]
            by_cases h5 : k = 5
            · obtain rfl := h5
              clear h0 f0
              clear h1 f1
              clear h2 f2
              clear h3 f3
              clear h4 f4
              have HS : Hid (shpN inp 5 n ks.length = (decide (0 ≤ n) && decide (n < 1) && decide (ks.length = 2))) := Lib.hid (shp5 _ _ _)
              by_cases t0 : n < 0
              · have HE : Hid (okG inp e ⟨5, n, ks⟩ = false) := Lib.hid (by rw [HG.out, HS.out, decide_eq_false (by omega : ¬ (0 ≤ n))]; rfl)
                have d0 : decide (n < 0) = true := decide_eq_true t0
                clear t0
                go_enter Tryd.func32, Tryd.ntmps32
                go_wp2_with fail
                go_ret
                exact ⟨by rw [HE.out]; rfl, HB1.out⟩
              · have d0 : decide (n < 0) = false := decide_eq_false t0
                by_cases t1 : 1 ≤ n
                · have HE : Hid (okG inp e ⟨5, n, ks⟩ = false) := Lib.hid (by rw [HG.out, HS.out, decide_eq_false (by omega : ¬ (n < 1)), Bool.and_false]; rfl)
                  have d1 : decide (1 ≤ n) = true := decide_eq_true t1
                  clear t0 t1
                  go_enter Tryd.func32, Tryd.ntmps32
                  go_wp2_with fail
                  go_ret
                  exact ⟨by rw [HE.out]; rfl, HB1.out⟩
                · have d1 : decide (1 ≤ n) = false := decide_eq_false t1
                  by_cases t2 : ks.length = 2
                  · have HE : Hid (okG inp e ⟨5, n, ks⟩ = kidsN e ks) := Lib.hid (by rw [HG.out, HS.out, decide_eq_true (by omega : 0 ≤ n), decide_eq_true (by omega : n < 1), decide_eq_true t2]; rfl)
                    have d2 : ((ks.length : Int) == 2) = true := by rw [t2]; rfl
                    have HT2 := Lib.hid t2
                    clear t0 t1 t2
                    generalize hL : ks.length = L at *
                    have HL := Lib.hid hL
                    clear hL
                    go_enter Tryd.func32, Tryd.ntmps32
                    go_wp2_with fail
                    go_loopw [10, 43] (fun _ iv W => ∃ i : Nat, i ≤ L ∧ iv = .int .i64 i ∧ kidsN e (ks.take i) = true ∧ Below w.heap.size w W) (fun _ iv _ => L - (intOf iv).toNat)
                    case atStart => exact ⟨0, by omega, rfl, rfl, HB1.out⟩
                    case round =>
                      obtain ⟨i, hi, rfl, hp, hB⟩ := hrel
                      have HP := Lib.hid hp
                      have HB := Lib.hid hB
                      clear hp
                      by_cases hil : i < L
                      · obtain ⟨x, hx⟩ : ∃ x, ks[i]? = some x := ⟨_, List.getElem?_eq_getElem (by rw [HL.out]; exact hil)⟩
                        obtain ⟨p, rfl, e0⟩ := HK.out i x hx
                        have e1 := (hB.cell (World.block_lt_of_cell? w _ e0)).trans e0
                        have HNX := Lib.hid (kidsN_next (e := e) hx)
                        have HDD := Lib.hid (fun h => kidsN_dead (e := e) hx h)
                        clear hx e0 hB
                        by_cases q0 : x < 0
                        · have d5 : decide (x < 0) = true := decide_eq_true q0
                          have HE2 : Hid (okG inp e ⟨5, n, ks⟩ = false) := Lib.hid (by rw [HE.out]; exact HDD.out (by rw [kidN, decide_eq_false (by omega : ¬ (0 ≤ x))]; rfl))
                          clear q0
                          go_wp2_with fail
                          go_ret
                          exact ⟨by rw [HE2.out]; rfl, HB.out⟩
                        · have d5 : decide (x < 0) = false := decide_eq_false q0
                          by_cases q1 : (e : Int) ≤ x
                          · have d6 : decide ((e : Int) ≤ x) = true := decide_eq_true q1
                            have HE2 : Hid (okG inp e ⟨5, n, ks⟩ = false) := Lib.hid (by rw [HE.out]; exact HDD.out (by rw [kidN, decide_eq_false (by omega : ¬ (x < (e : Int))), Bool.and_false]))
                            clear q0 q1
                            go_wp2_with fail
                            go_ret
                            exact ⟨by rw [HE2.out]; rfl, HB.out⟩
                          · have d6 : decide ((e : Int) ≤ x) = false := decide_eq_false q1
                            have HK2 : Hid (kidN e x = true) := Lib.hid (by rw [kidN, decide_eq_true (by omega : 0 ≤ x), decide_eq_true (by omega : x < (e : Int))]; rfl)
                            clear q0 q1
                            go_wp2_with fail
                            go_roundw
                            case rel => exact ⟨i + 1, by omega, by go_num, by rw [HNX.out, HP.out, HK2.out]; rfl, HB.out⟩
                            case measure => simp [intOf]; omega
                      · have HE2 : Hid (okG inp e ⟨5, n, ks⟩ = true) := Lib.hid (by rw [HE.out, ← HP.out, List.take_of_length_le (by rw [HL.out]; omega)])
                        go_wp2_with fail
                        go_ret
                        exact ⟨by rw [HE2.out]; rfl, HB.out⟩
                  · have HE : Hid (okG inp e ⟨5, n, ks⟩ = false) := Lib.hid (by rw [HG.out, HS.out, decide_eq_false t2, Bool.and_false]; rfl)
                    have d2 : ((ks.length : Int) == 2) = false := by rw [beq_eq_false_iff_ne]; omega
                    clear t0 t1 t2
                    go_enter Tryd.func32, Tryd.ntmps32
                    go_wp2_with fail
                    go_ret
                    exact ⟨by rw [HE.out]; rfl, HB1.out⟩
            · have f5 : ((k : Int) == 5) = false := by simp [h5]
              have HE : Hid (okG inp e ⟨k, n, ks⟩ = false) := Lib.hid (by rw [HG.out, shpX h0 h1 h2 h3 h4 h5]; rfl)
              clear h0 h1 h2 h3 h4 h5
              go_enter Tryd.func32, Tryd.ntmps32
              go_wp2_with fail
              go_ret
              exact ⟨by rw [HE.out]; rfl, HB1.out⟩
end Go.Proofs.YtcophfhnhlaonaaDoor
