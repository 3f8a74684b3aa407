/-
  Contract of the law's helper Few of layer 4, at one polynomial.
-/
import Derived.Test.YtiiopdomlepkmaaDoorPqr
namespace Go.Proofs.YtiiopdomlepkmaaDoor
set_option linter.unusedVariables false
open Go.RowKit Go.Maps

set_option maxHeartbeats 2000000 in
theorem few1_ok (most : Nat) (hm : most ≤ 100000) (g : Nat) (v : Value) (ts : List (Int × List Int)) (w : World) (hc : w.cell? ⟨g, 0, none⟩ = some v) (hv : PolyV w v ts) :
    Calls Tryd.prog 9 #[.int .i64 (most : Int), .slice (some ⟨g, 0, none⟩) 1 1] w fun e w' => (∃ b : Bool, e = .returned (.bool b) ∧ (b = true → ts.length ≤ most)) ∧ Below w.heap.size w w' := by
  obtain ⟨VA, VC, rfl, hr, hl⟩ := hv
  have HR := Lib.hid hr
  have HC := Lib.hid hc
  clear hr
  generalize htl : ts.length = tl at *
  have HTL := Lib.hid htl
  clear htl
  go_enter Tryd.func9, Tryd.ntmps9
  go_wp2_with fail
  go_loopw [5, 6, 7] (fun n i _ W => ∃ (k m : Nat), i = .int .i64 k ∧ n = .int .i64 m ∧ m ≤ 2305843009213693952 ∧ (k = 0 ∧ m = 0 ∨ k = 1 ∧ tl ≤ m) ∧ Below w.heap.size w W) (fun _ i _ _ => 1 - (intOf i).toNat)
  case atStart => exact ⟨0, 0, rfl, rfl, by omega, .inl ⟨rfl, rfl⟩, Below.refl _ _⟩
  case round =>
    obtain ⟨k, m, rfl, rfl, hm2, hk, hB⟩ := hrel
    have k1 := (hB.cell (World.block_lt_of_cell? w _ hc)).trans hc
    have HB := Lib.hid hB
    clear hB hc
    rcases hk with ⟨rfl, rfl⟩ | ⟨rfl, hk⟩
    · obtain ⟨wo, rfl⟩ : ∃ wo : World, wo = wr := ⟨_, rfl⟩
      go_wp2_with fail
      go_loopw [5, 7] (fun n i W => ∃ (k m : Nat), i = .int .i64 k ∧ n = .int .i64 m ∧ k ≤ tl ∧ tl ≤ m ∧ m ≤ 2305843009213693952 ∧ Below w.heap.size w W) (fun _ i _ => tl - (intOf i).toNat)
      case atStart => exact ⟨0, tl, rfl, by go_num, by omega, by omega, by omega, HB.out⟩
      case round =>
        obtain ⟨k, m, rfl, rfl, hk, hm3, hm4, hB⟩ := hrel
        have k2 := (hB.cell (World.block_lt_of_cell? w _ HC.out)).trans HC.out
        have HB := Lib.hid hB
        by_cases h1 : k < tl
        · by_cases h2 : m ≤ most
          · obtain ⟨t, ht⟩ : ∃ t, ts[k]? = some t := ⟨_, List.getElem?_eq_getElem (by rw [HTL.out]; exact h1)⟩
            obtain ⟨b, off, u, rfl, g1, g2, g3⟩ := HR.out k t ht
            obtain ⟨EA, ec, rfl, _, hel⟩ := g3
            have k3 := (HB.out.cell (World.block_lt_of_cell? w _ g2)).trans g2
            have d1 : decide ((k : Int) < (tl : Int)) = true := decide_eq_true (by omega)
            have d2 : decide ((m : Int) ≤ (most : Int)) = true := decide_eq_true (by omega)
            generalize t.2.length = el at *
            clear g1 g2 hB ht
            go_wp2_with fail
            go_roundw
            case rel => exact ⟨k + 1, m + el, by go_num, by go_num, by omega, by omega, by omega, HB.out⟩
            case measure => simp [intOf]; omega
          · have d1 : decide ((k : Int) < (tl : Int)) = true := decide_eq_true (by omega)
            have d2 : decide ((m : Int) ≤ (most : Int)) = false := decide_eq_false (by omega)
            clear hB
            go_wp2_with fail
            go_roundw
            case rel => exact ⟨1, m, by go_num, rfl, hm4, .inr ⟨rfl, hm3⟩, HB.out⟩
            case measure => simp [intOf]
        · have d1 : decide ((k : Int) < (tl : Int)) = false := decide_eq_false (by omega)
          clear hB
          go_wp2_with fail
          go_roundw
          case rel => exact ⟨1, m, by go_num, rfl, hm4, .inr ⟨rfl, hm3⟩, HB.out⟩
          case measure => simp [intOf]
    · go_wp2_with fail
      go_ret
      exact ⟨⟨decide (m ≤ most), ret_bool (by simp), fun h => by have := of_decide_eq_true h; omega⟩, HB.out⟩
end Go.Proofs.YtiiopdomlepkmaaDoor
