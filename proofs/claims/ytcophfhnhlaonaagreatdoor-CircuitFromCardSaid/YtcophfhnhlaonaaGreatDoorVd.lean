/-
  Joined from Fns, Fnt: see there.
-/
import Derived.Test.YtcophfhnhlaonaaGreatDoorVc
namespace Go.Proofs.YtcophfhnhlaonaaGreatDoor
set_option linter.unusedVariables false
open Go.RowKit

/-- A row of truth values, filled up to i. -/
def rowF (f : Nat → Bool) (L i : Nat) : List Bool := (List.range L).map fun a => if a < i then f a else false
theorem rowF_zero (f : Nat → Bool) (L : Nat) : rowF f L 0 = List.replicate L false := by
  apply List.ext_getElem?
  intro a
  by_cases h : a < L <;> simp [rowF, h]
theorem rowF_at {f : Nat → Bool} {L i : Nat} (h : i < L) : (rowF f L i)[i]? = some false := by simp [rowF, h]
theorem rowF_full {f : Nat → Bool} {L i : Nat} (h : i < L) : (rowF f L L)[i]? = some (f i) := by simp [rowF, h]
theorem rowF_next {f : Nat → Bool} {L i : Nat} (h : i < L) : (rowF f L i).set i (f i) = rowF f L (i + 1) := by
  apply List.ext_getElem?
  intro a
  rw [List.getElem?_set]
  by_cases h1 : i = a
  · subst h1; simp [rowF, h]
  · rw [if_neg h1]
    by_cases ha : a < L
    · have : a < i + 1 ↔ a < i := by omega
      simp only [rowF, List.getElem?_map, List.getElem?_range ha, Option.map_some, this]
    · simp [rowF, ha]
/-- The value of a tree at the inputs that are the bits of an index. -/
def evB (t : Tre) (i : Nat) : Bool := evT (fun a => decide (bitN i a = 1)) t
set_option maxHeartbeats 2000000 in
theorem Apply_two (k : Int) (hk : k = 2 ∨ k = 3 ∨ k = 4 ∨ k = 5) (f : Nat → Bool) (n : Int) (a b : Bool) (w : World) :
    Calls Tryz.prog 49 #[.int .i64 k, .bool a, .bool b] w fun e w' => e = .returned (.bool (evC f k n [a, b])) ∧ w = w' := by
  rcases hk with rfl | rfl | rfl | rfl <;> cases a <;> cases b <;> (
    go_enter Tryz.func49, Tryz.ntmps49
    go_wp2_with fail
    go_ret
    exact ⟨rfl, rfl⟩)

set_option maxRecDepth 100000 in
set_option maxHeartbeats 4000000 in
theorem Truth_leaf (k n : Int) (hkn : (k = 0 ∧ 0 ≤ n ∧ n < 16) ∨ (k = 1 ∧ (n = 0 ∨ n = 1))) (A : Option Addr) (c : Nat) (n0 : Nat) (hn0 : n0 ≤ 12) (w : World) :
    Calls Tryz.prog 23 #[.agg #[.int .i64 k, .int .i64 n, .slice A 0 c], .int .i64 (n0 : Int)] w fun e w' => ∃ g, w.heap.size ≤ g ∧ e = .returned (.slice (some ⟨g, 0, none⟩) (2 ^ n0) (2 ^ n0)) ∧ w'.heap[g]? = some (blO (rowF (evB (.mk k n [])) (2 ^ n0) (2 ^ n0))) ∧ Below w.heap.size w w' := by
  have hle : 2 ^ n0 ≤ 4096 := Nat.pow_le_pow_right (n := 2) (by omega) hn0
  have hL1 : 1 ≤ 2 ^ n0 := Nat.pow_pos (by omega)
  have hsh : wrap64 ((2 : Int) ^ n0) = ((2 ^ n0 : Nat) : Int) := by
    have : (2 : Int) ^ n0 = ((2 ^ n0 : Nat) : Int) := by simp
    rw [this]
    exact IntWalk.wrap64_in _ (by omega)
  have hsh2 : IntKind.i64.wrap ((2 : Int) ^ n0) = ((2 ^ n0 : Nat) : Int) := by
    have : (2 : Int) ^ n0 = ((2 ^ n0 : Nat) : Int) := by simp
    rw [this]
    exact IntWalk.i64_in _ (by omega)
  generalize 2 ^ n0 = L at *
  have hmk := make_bools L (by omega)
  obtain ⟨w1, hw1⟩ : ∃ w1, w1 = w.alloc (.cells #[.int .i64 k, .int .i64 n, .slice A 0 c] 24) := ⟨_, rfl⟩
  have hb1 : Below w.heap.size w w1 := by rw [hw1]; exact below1 _ _
  have hs1 : w1.heap.size = w.heap.size + 1 := by rw [hw1]; simp
  have ht1 : w1.heap[w.heap.size]? = some (.cells #[.int .i64 k, .int .i64 n, .slice A 0 c] 24 (0, 0)) := by rw [hw1]; exact alloc_at _ _ _ rfl
  have hb2 : Below w1.heap.size w1 (w1.alloc (blO (List.replicate L false))) := below1 _ _
  have hg2 : (w1.alloc (blO (List.replicate L false))).heap[w1.heap.size]? = some (blO (rowF (evB (.mk k n [])) L 0)) := by rw [rowF_zero]; exact alloc_at _ _ _ rfl
  have hbx : ∀ W, Below w1.heap.size w1 W → (W.cell? ⟨w.heap.size, 0, none⟩ = some (.int .i64 k) ∧ W.cell? ⟨w.heap.size, 1, none⟩ = some (.int .i64 n) ∧ W.cell? ⟨w.heap.size, 2, none⟩ = some (.slice A 0 c)) := fun W hW => (blk3_cells ((hW.block _ (by omega)).trans ht1)).1
  have HW1 := Lib.hid hw1
  have H1 := Lib.hid (And.intro hb1 hs1)
  have HBX := Lib.hid hbx
  have H2 := Lib.hid (And.intro hg2 hb2)
  obtain ⟨c0, c1, c2⟩ := hbx w1 (Below.refl _ _)
  obtain ⟨p0, p1, p2⟩ := hbx _ hb2
  clear hb1 hs1 ht1 hb2 hg2 hbx
  rcases hkn with ⟨rfl, hn1, hn2⟩ | ⟨rfl, hn⟩
  · obtain ⟨u, rfl⟩ : ∃ u : Nat, n = u := ⟨n.toNat, by omega⟩
    have hu : u < 16 := by omega
    clear hn1 hn2
    go_enter Tryz.func23, Tryz.ntmps23
    go_upto_region 1 with fail
    rw [← hw1]
    clear hw1
    go_wp2_with fail
    go_loopw [6] (fun iv W => ∃ i : Nat, i ≤ L ∧ iv = .int .i64 i ∧ W.heap[w1.heap.size]? = some (blO (rowF (evB (.mk 0 u [])) L i)) ∧ Below w1.heap.size w1 W) (fun iv _ => L - (intOf iv).toNat)
    case atStart => exact ⟨0, by omega, rfl, H2.out.1, H2.out.2⟩
    case round =>
      obtain ⟨i, hi, rfl, hg, hB⟩ := hrel
      have HG := Lib.hid (And.intro hg hB)
      obtain ⟨c0, c1, c2⟩ := HBX.out _ hB
      by_cases hil : i < L
      · have d1 : decide ((i : Int) < (L : Int)) = true := decide_eq_true (by omega)
        have d1' : decide (i < L) = true := decide_eq_true hil
        obtain ⟨g0, g1⟩ := bl_cell hg (rowF_at hil)
        have hi40 : i ≤ 4096 := by omega
        have hbit : bits .and .i64 ((i : Int) / 2 ^ u) 1 = ((bitN i u : Nat) : Int) := by
          have hdv : (i : Int) / 2 ^ u = ((i / 2 ^ u : Nat) : Int) := by simp
          rw [hdv, and1_nat _ (by have := Nat.div_le_self i (2 ^ u); omega)]
          rfl
        have hgs := bl_set (j := i) (evB (.mk 0 u []) i) hg
        rw [rowF_next hil] at hgs
        have hbs := hB.setCell (p := ⟨w1.heap.size, i, none⟩) (Nat.le_refl _) (.bool (evB (.mk 0 u []) i))
        have hev : evB (.mk 0 u []) i = decide (bitN i u = 1) := by unfold evB; rw [evT, evC, if_pos rfl]; rfl
        have h01 : bitN i u = 0 ∨ bitN i u = 1 := by have := bitN_le i u; omega
        rw [hev] at hgs hbs
        rcases h01 with h01 | h01
        · rw [h01] at hbit hgs hbs
          have HN := Lib.hid (And.intro hgs hbs)
          clear hgs hbs hev h01 hg hB
          go_wp2_with fail
          go_roundw
          case rel => exact ⟨i + 1, by omega, by go_num, HN.out.1, HN.out.2⟩
          case measure => simp [intOf]; omega
        · rw [h01] at hbit hgs hbs
          have HN := Lib.hid (And.intro hgs hbs)
          clear hgs hbs hev h01 hg hB
          go_wp2_with fail
          go_roundw
          case rel => exact ⟨i + 1, by omega, by go_num, HN.out.1, HN.out.2⟩
          case measure => simp [intOf]; omega
      · have d1 : decide ((i : Int) < (L : Int)) = false := decide_eq_false (by omega)
        have d1' : decide (i < L) = false := decide_eq_false hil
        obtain rfl : i = L := by omega
        clear hg hB
        go_wp2_with fail
        go_ret
        exact ⟨w1.heap.size, by have := H1.out.2; omega, rfl, HG.out.1, H1.out.1.trans (HG.out.2.mono H1.out.1.size)⟩
  · clear HW1
    rcases hn with rfl | rfl
    · go_enter Tryz.func23, Tryz.ntmps23
      go_upto_region 1 with fail
      rw [← hw1]
      clear hw1
      go_wp2_with fail
      go_loopw [6] (fun iv W => ∃ i : Nat, i ≤ L ∧ iv = .int .i64 i ∧ W.heap[w1.heap.size]? = some (blO (rowF (evB (.mk 1 0 [])) L i)) ∧ Below w1.heap.size w1 W) (fun iv _ => L - (intOf iv).toNat)
      case atStart => exact ⟨0, by omega, rfl, H2.out.1, H2.out.2⟩
      case round =>
        obtain ⟨i, hi, rfl, hg, hB⟩ := hrel
        have HG := Lib.hid (And.intro hg hB)
        obtain ⟨c0, c1, c2⟩ := HBX.out _ hB
        by_cases hil : i < L
        · have d1 : decide ((i : Int) < (L : Int)) = true := decide_eq_true (by omega)
          have d1' : decide (i < L) = true := decide_eq_true hil
          obtain ⟨g0, g1⟩ := bl_cell hg (rowF_at hil)
          have hi40 : i ≤ 4096 := by omega
          have hgs := bl_set (j := i) (evB (.mk 1 0 []) i) hg
          rw [rowF_next hil] at hgs
          have hbs := hB.setCell (p := ⟨w1.heap.size, i, none⟩) (Nat.le_refl _) (.bool (evB (.mk 1 0 []) i))
          have hev : evB (.mk 1 0 []) i = false := rfl
          rw [hev] at hgs hbs
          have HN := Lib.hid (And.intro hgs hbs)
          clear hgs hbs hg hB hev
          go_wp2_with fail
          go_roundw
          case rel => exact ⟨i + 1, by omega, by go_num, HN.out.1, HN.out.2⟩
          case measure => simp [intOf]; omega
        · have d1 : decide ((i : Int) < (L : Int)) = false := decide_eq_false (by omega)
          have d1' : decide (i < L) = false := decide_eq_false hil
          obtain rfl : i = L := by omega
          clear hg hB
          go_wp2_with fail
          go_ret
          exact ⟨w1.heap.size, by have := H1.out.2; omega, rfl, HG.out.1, H1.out.1.trans (HG.out.2.mono H1.out.1.size)⟩
    · go_enter Tryz.func23, Tryz.ntmps23
      go_upto_region 1 with fail
      rw [← hw1]
      clear hw1
      go_wp2_with fail
      go_loopw [6] (fun iv W => ∃ i : Nat, i ≤ L ∧ iv = .int .i64 i ∧ W.heap[w1.heap.size]? = some (blO (rowF (evB (.mk 1 1 [])) L i)) ∧ Below w1.heap.size w1 W) (fun iv _ => L - (intOf iv).toNat)
      case atStart => exact ⟨0, by omega, rfl, H2.out.1, H2.out.2⟩
      case round =>
        obtain ⟨i, hi, rfl, hg, hB⟩ := hrel
        have HG := Lib.hid (And.intro hg hB)
        obtain ⟨c0, c1, c2⟩ := HBX.out _ hB
        by_cases hil : i < L
        · have d1 : decide ((i : Int) < (L : Int)) = true := decide_eq_true (by omega)
          have d1' : decide (i < L) = true := decide_eq_true hil
          obtain ⟨g0, g1⟩ := bl_cell hg (rowF_at hil)
          have hi40 : i ≤ 4096 := by omega
          have hgs := bl_set (j := i) (evB (.mk 1 1 []) i) hg
          rw [rowF_next hil] at hgs
          have hbs := hB.setCell (p := ⟨w1.heap.size, i, none⟩) (Nat.le_refl _) (.bool (evB (.mk 1 1 []) i))
          have hev : evB (.mk 1 1 []) i = true := rfl
          rw [hev] at hgs hbs
          have HN := Lib.hid (And.intro hgs hbs)
          clear hgs hbs hg hB hev
          go_wp2_with fail
          go_roundw
          case rel => exact ⟨i + 1, by omega, by go_num, HN.out.1, HN.out.2⟩
          case measure => simp [intOf]; omega
        · have d1 : decide ((i : Int) < (L : Int)) = false := decide_eq_false (by omega)
          have d1' : decide (i < L) = false := decide_eq_false hil
          obtain rfl : i = L := by omega
          clear hg hB
          go_wp2_with fail
          go_ret
          exact ⟨w1.heap.size, by have := H1.out.2; omega, rfl, HG.out.1, H1.out.1.trans (HG.out.2.mono H1.out.1.size)⟩
end Go.Proofs.YtcophfhnhlaonaaGreatDoor
namespace Go.Proofs.YtcophfhnhlaonaaGreatDoor
set_option linter.unusedVariables false
open Go.RowKit

set_option maxRecDepth 100000 in
set_option maxHeartbeats 8000000 in
theorem Truth_ref (m : Nat) (n0 : Nat) (hn0 : n0 ≤ 12) : ∀ (N : Nat) (t : Tre), SizeOf.sizeOf t < N → ∀ (v : Value) (w : World), TreV 0 w t v → okT fSh m t →
    Calls Tryz.prog 23 #[v, .int .i64 (n0 : Int)] w fun e w' => ∃ g, w.heap.size ≤ g ∧ e = .returned (.slice (some ⟨g, 0, none⟩) (2 ^ n0) (2 ^ n0)) ∧ w'.heap[g]? = some (blO (rowF (evB t) (2 ^ n0) (2 ^ n0))) ∧ Below w.heap.size w w' := by
  have hle : 2 ^ n0 ≤ 4096 := Nat.pow_le_pow_right (n := 2) (by omega) hn0
  have hL1 : 1 ≤ 2 ^ n0 := Nat.pow_pos (by omega)
  have hsh : wrap64 ((2 : Int) ^ n0) = ((2 ^ n0 : Nat) : Int) := by
    have : (2 : Int) ^ n0 = ((2 ^ n0 : Nat) : Int) := by simp
    rw [this]
    exact IntWalk.wrap64_in _ (by omega)
  have hsh2 : IntKind.i64.wrap ((2 : Int) ^ n0) = ((2 ^ n0 : Nat) : Int) := by
    have : (2 : Int) ^ n0 = ((2 ^ n0 : Nat) : Int) := by simp
    rw [this]
    exact IntWalk.i64_in _ (by omega)
  have HLEAF := Lib.hid (fun k n h A c w => Truth_leaf k n h A c n0 hn0 w)
  generalize 2 ^ n0 = L at *
  have hmk := make_bools L (by omega)
  intro N
  induction N with
  | zero => intro t h; omega
  | succ N ih =>
    intro t htN v w hT hok
    obtain ⟨k, n, ts⟩ := t
    have hT2 := hT
    unfold TreV at hT2
    obtain ⟨A, c, rfl, hrow⟩ := hT2
    have hok2 := hok
    rw [okT] at hok2
    have hk6 : (((k = 0 ∧ 0 ≤ n ∧ n < 16) ∨ (k = 1 ∧ (n = 0 ∨ n = 1))) ∧ ts.length = 0) ∨ (k = 2 ∧ ts.length = 1) ∨ ((k = 3 ∨ k = 4 ∨ k = 5) ∧ ts.length = 2) := by
      obtain ⟨s, hs, a1, a2, a3, a4⟩ := permN_of hok2.1
      have hkk : k.toNat = 0 ∨ k.toNat = 1 ∨ k.toNat = 2 ∨ k.toNat = 3 ∨ k.toNat = 4 ∨ k.toNat = 5 := by
        have := (List.getElem?_eq_some_iff.1 hs).1
        simp only [fSh, List.length_cons, List.length_nil] at this
        omega
      rcases hkk with h | h | h | h | h | h <;> rw [h] at hs <;> cases hs <;> dsimp only at a3 a4 <;> omega
    rcases hk6 with ⟨hkn, hl⟩ | hkn
    · obtain rfl := List.length_eq_zero_iff.1 hl
      exact HLEAF.out k n hkn A c w
    · have hk25 : k = 2 ∨ k = 3 ∨ k = 4 ∨ k = 5 := by omega
      have HK := Lib.hid hk25
      have f0 : ((k : Int) == 0) = false := by simp; omega
      have f1 : ((k : Int) == 1) = false := by simp; omega
      obtain ⟨w1, hw1⟩ : ∃ w1, w1 = w.alloc (.cells #[.int .i64 k, .int .i64 n, .slice A ts.length c] 24) := ⟨_, rfl⟩
      have hb1 : Below w.heap.size w w1 := by rw [hw1]; exact below1 _ _
      have hs1 : w1.heap.size = w.heap.size + 1 := by rw [hw1]; simp
      have ht1 : w1.heap[w.heap.size]? = some (.cells #[.int .i64 k, .int .i64 n, .slice A ts.length c] 24 (0, 0)) := by rw [hw1]; exact alloc_at _ _ _ rfl
      obtain ⟨w2, hw2⟩ : ∃ w2, w2 = w1.alloc (blO (List.replicate L false)) := ⟨_, rfl⟩
      have hb2 : Below w1.heap.size w1 w2 := by rw [hw2]; exact below1 _ _
      have hs2 : w2.heap.size = w1.heap.size + 1 := by rw [hw2]; simp
      have hg2 : w2.heap[w1.heap.size]? = some (blO (rowF (evB (.mk k n ts)) L 0)) := by rw [rowF_zero, hw2]; exact alloc_at _ _ _ rfl
      have hbx : ∀ W, Below w1.heap.size w1 W → (W.cell? ⟨w.heap.size, 0, none⟩ = some (.int .i64 k) ∧ W.cell? ⟨w.heap.size, 1, none⟩ = some (.int .i64 n) ∧ W.cell? ⟨w.heap.size, 2, none⟩ = some (.slice A ts.length c)) := fun W hW => (blk3_cells ((hW.block _ (by omega)).trans ht1)).1
      have hbw : ∀ W, Below w1.heap.size w1 W → Below w.heap.size w W := fun W hW => hb1.trans (hW.mono hb1.size)
      obtain ⟨c0, c1, c2⟩ := hbx w1 (Below.refl _ _)
      obtain ⟨p0, p1, p2⟩ := hbx w2 hb2
      have HS := Lib.hid (And.intro hs1 hs2)
      have HBX := Lib.hid hbx
      have HBW := Lib.hid hbw
      have HB2 := Lib.hid (And.intro hb2 hg2)
      have HROW := Lib.hid (fun W (hW : Below w1.heap.size w1 W) => hrow.keep (w' := W) (KeepB.of_below 0 (hbw W hW)))
      rcases hkn with ⟨rfl, hl⟩ | ⟨hk3, hl⟩
      · obtain ⟨ta, rfl⟩ : ∃ a, ts = [a] := by
          match ts, hl with
          | [a], _ => exact ⟨a, rfl⟩
        obtain ⟨b, off, x, y, z, rfl, _, e0, e1, e2, hTa⟩ := (HROW.out w2 hb2).at (j := 0) (t := ta) rfl
        have HCA := Lib.hid (ih ta (Nat.lt_of_lt_of_le (kid_size (ts := [ta]) (by simp)) (Nat.le_of_lt_succ htN)) _ w2 hTa (okL_at hok2.2.2 (i := 0) rfl))
        rw [show off + (0 + 0) * 3 = off from rfl] at e0 e1 e2
        have HW1 : Hid (w1 = w.alloc (.cells #[.int .i64 2, .int .i64 n, .slice (some ⟨b, off, none⟩) 1 c] 24)) := Lib.hid hw1
        have HW2 := Lib.hid hw2
        clear hok hok2 hT hrow hTa ih htN hbx hbw hb1 hs1 ht1 hb2 hs2 hg2 hl hw1 hw2 hk25
        go_enter Tryz.func23, Tryz.ntmps23
        go_upto_region 1 with fail
        rw [← HW1.out]
        go_upto_region 2 with fail
        rw [← HW2.out]
        go_wp2_with fail
        refine HCA.out.mono ?_
        rintro e w4 ⟨ga, hga, rfl, hra, hB4⟩
        have hb4 := HB2.out.1.trans (hB4.mono HB2.out.1.size)
        have hr4 : w4.heap[w1.heap.size]? = _ := (hB4.block w1.heap.size (by have := HS.out.2; omega)).trans HB2.out.2
        have HST := Lib.hid (show ∀ W, Only (· = w1.heap.size) w4 W → (W.cell? ⟨w.heap.size, 0, none⟩ = some (.int .i64 2) ∧ W.heap[ga]? = some (blO (rowF (evB ta) L L)) ∧ W.heap[ga]? = some (blO (rowF (evB ta) L L))) from fun W ho => by
          have hsz := HS.out
          have hs4 := hB4.size
          have hgl := (Array.getElem?_eq_some_iff.1 hra).1
          have q := (ho.block ga hgl (by show ¬ ga = _; omega)).trans hra
          have r := HBX.out w4 hb4
          exact ⟨(World.cell?_of_block (ho.block w.heap.size (by omega) (by show ¬ _ = _; omega))).trans r.1, q, q⟩)
        have HFIN := Lib.hid (show ∀ W, W.heap[w1.heap.size]? = some (blO (rowF (evB (.mk 2 n [ta])) L L)) → Only (· = w1.heap.size) w4 W → ∃ g, w.heap.size ≤ g ∧ Ending.returned (.slice (some ⟨w1.heap.size, 0, none⟩) L L) = .returned (.slice (some ⟨g, 0, none⟩) L L) ∧ W.heap[g]? = some (blO (rowF (evB (.mk 2 n [ta])) L L)) ∧ Below w.heap.size w W from fun W hg ho =>
          ⟨w1.heap.size, by have := HS.out.1; omega, rfl, hg, HBW.out W (hb4.trans (ho.below hb4.size (fun k hk => by have hk' : k = w1.heap.size := hk; omega)))⟩)
        obtain ⟨v0, v1, v2⟩ := HBX.out w4 hb4
        have H4 := Lib.hid (And.intro hr4 hb4)
        clear hra hB4 hb4 hr4 hga
        go_wp2_with fail
        go_loopw [9] (fun iv W => ∃ i : Nat, i ≤ L ∧ iv = .int .i64 i ∧ W.heap[w1.heap.size]? = some (blO (rowF (evB (.mk 2 n [ta])) L i)) ∧ Only (· = w1.heap.size) w4 W) (fun iv _ => L - (intOf iv).toNat)
        case atStart => exact ⟨0, by omega, rfl, H4.out.1, Only.refl _ _⟩
        case round =>
          obtain ⟨i, hi, rfl, hg, ho⟩ := hrel
          have HG := Lib.hid (And.intro hg ho)
          obtain ⟨c0, ra, rb⟩ := HST.out _ ho
          by_cases hil : i < L
          · have d1 : decide ((i : Int) < (L : Int)) = true := decide_eq_true (by omega)
            have d1' : decide (i < L) = true := decide_eq_true hil
            obtain ⟨g0, g1⟩ := bl_cell hg (rowF_at hil)
            have a0 := (bl_cell ra (rowF_full hil)).1
            have b0 := (bl_cell rb (rowF_full hil)).1
            have hi40 : i ≤ 4096 := by omega
            have hgs := bl_set (j := i) (evB (.mk 2 n [ta]) i) hg
            rw [rowF_next hil] at hgs
            have hos := Only.setCell (S := (· = w1.heap.size)) (p := ⟨w1.heap.size, i, none⟩) ho rfl (.bool (evB (.mk 2 n [ta]) i))
            have hev : evB (.mk 2 n [ta]) i = evC (fun a => decide (bitN i a = 1)) 2 n [evB ta i, evB ta i] := by unfold evB; rw [evT, evL, evL]; rfl
            rw [hev] at hgs hos
            have HN := Lib.hid (And.intro hgs hos)
            have HAP := Lib.hid (fun W => Apply_two 2 (Or.inl rfl) (fun a => decide (bitN i a = 1)) n (evB ta i) (evB ta i) W)
            generalize evC (fun a => decide (bitN i a = 1)) 2 n [evB ta i, evB ta i] = rv at *
            generalize evB ta i = xa at *
            skip
            clear hgs hos hev hg ho ra rb
            go_wp2_with fail
            go_region_law (first | (go_simp; (with_reducible refine (HAP.out _).mono ?_); rintro e wx ⟨rfl, rfl⟩))
            all_goals
              go_wp2_with fail
              go_roundw
              case rel => exact ⟨i + 1, by omega, by go_num, by exact HN.out.1, by first | exact HN.out.2 | exact HN.out.2.trans (Only.of_below (Below.refl _ _).drew)⟩
              case measure => simp [intOf]; omega
          · have d1 : decide ((i : Int) < (L : Int)) = false := decide_eq_false (by omega)
            have d1' : decide (i < L) = false := decide_eq_false hil
            obtain rfl : i = L := by omega
            clear hg ho ra rb
            go_wp2_with fail
            go_ret
            exact HFIN.out _ HG.out.1 HG.out.2
      · obtain ⟨ta, tb, rfl⟩ : ∃ a b, ts = [a, b] := by
          match ts, hl with
          | [a, b], _ => exact ⟨a, b, rfl⟩
        obtain ⟨b, off, x, y, z, rfl, _, e0, e1, e2, hTa⟩ := (HROW.out w2 hb2).at (j := 0) (t := ta) rfl
        have HCA := Lib.hid (ih ta (Nat.lt_of_lt_of_le (kid_size (ts := [ta, tb]) (by simp)) (Nat.le_of_lt_succ htN)) _ w2 hTa (okL_at hok2.2.2 (i := 0) rfl))
        have HCB := Lib.hid (fun x y z W (hTb : TreV 0 W tb (.agg #[x, y, z])) => ih tb (Nat.lt_of_lt_of_le (kid_size (ts := [ta, tb]) (by simp)) (Nat.le_of_lt_succ htN)) _ W hTb (okL_at hok2.2.2 (i := 1) rfl))
        rw [show off + (0 + 0) * 3 = off from rfl] at e0 e1 e2
        have HW1 : Hid (w1 = w.alloc (.cells #[.int .i64 k, .int .i64 n, .slice (some ⟨b, off, none⟩) 2 c] 24)) := Lib.hid hw1
        have HW2 := Lib.hid hw2
        clear hok hok2 hT hrow hTa ih htN hbx hbw hb1 hs1 ht1 hb2 hs2 hg2 hl hw1 hw2 hk25 hk3
        go_enter Tryz.func23, Tryz.ntmps23
        go_upto_region 1 with fail
        rw [← HW1.out]
        go_upto_region 2 with fail
        rw [← HW2.out]
        go_wp2_with fail
        refine HCA.out.mono ?_
        rintro e w3 ⟨ga, hga, rfl, hra, hB3⟩
        have hb3 := HB2.out.1.trans (hB3.mono HB2.out.1.size)
        have hr3 : w3.heap[w1.heap.size]? = _ := (hB3.block w1.heap.size (by have := HS.out.2; omega)).trans HB2.out.2
        obtain ⟨b', off', x', y', z', hAe, _, e0', e1', e2', hTb⟩ := (HROW.out w3 hb3).at (j := 1) (t := tb) rfl
        obtain ⟨rfl, rfl⟩ : b' = b ∧ off' = off := by cases hAe; exact ⟨rfl, rfl⟩
        rw [show off' + (0 + 1) * 3 = off' + 3 from rfl] at e0' e1' e2'
        have HCB2 := Lib.hid (HCB.out _ _ _ w3 hTb)
        obtain ⟨s0, s1, s2⟩ := HBX.out w3 hb3
        have hs3 := hB3.size
        have H3 := Lib.hid (And.intro hb3 (And.intro hr3 (And.intro hra (And.intro hga hs3))))
        clear hB3 hb3 hr3 hra hga hTb hAe hs3
        go_wp2_with fail
        refine HCB2.out.mono ?_
        rintro e w4 ⟨gb, hgb, rfl, hrb, hB4⟩
        obtain ⟨hb3, hr3, hra3, hga, hs3⟩ := H3.out
        have hgal := (Array.getElem?_eq_some_iff.1 hra3).1
        have hra := (hB4.block ga hgal).trans hra3
        have hb4 := hb3.trans (hB4.mono hb3.size)
        have hr4 : w4.heap[w1.heap.size]? = _ := (hB4.block w1.heap.size (by have := HS.out.2; omega)).trans hr3
        have HST := Lib.hid (show ∀ W, Only (· = w1.heap.size) w4 W → (W.cell? ⟨w.heap.size, 0, none⟩ = some (.int .i64 k) ∧ W.heap[ga]? = some (blO (rowF (evB ta) L L)) ∧ W.heap[gb]? = some (blO (rowF (evB tb) L L))) from fun W ho => by
          have hsz := HS.out
          have hs4 := hB4.size
          have hgl := (Array.getElem?_eq_some_iff.1 hrb).1
          have q := (ho.block ga (by omega) (by show ¬ ga = _; omega)).trans hra
          have q2 := (ho.block gb hgl (by show ¬ gb = _; omega)).trans hrb
          have r := HBX.out w4 hb4
          exact ⟨(World.cell?_of_block (ho.block w.heap.size (by omega) (by show ¬ _ = _; omega))).trans r.1, q, q2⟩)
        have HFIN := Lib.hid (show ∀ W, W.heap[w1.heap.size]? = some (blO (rowF (evB (.mk k n [ta, tb])) L L)) → Only (· = w1.heap.size) w4 W → ∃ g, w.heap.size ≤ g ∧ Ending.returned (.slice (some ⟨w1.heap.size, 0, none⟩) L L) = .returned (.slice (some ⟨g, 0, none⟩) L L) ∧ W.heap[g]? = some (blO (rowF (evB (.mk k n [ta, tb])) L L)) ∧ Below w.heap.size w W from fun W hg ho =>
          ⟨w1.heap.size, by have := HS.out.1; omega, rfl, hg, HBW.out W (hb4.trans (ho.below hb4.size (fun k hk => by have hk' : k = w1.heap.size := hk; omega)))⟩)
        obtain ⟨v0, v1, v2⟩ := HBX.out w4 hb4
        have H4 := Lib.hid (And.intro hr4 hb4)
        clear hra hB4 hb4 hr4 hga hrb hgb hb3 hr3 hra3 hs3 hgal
        go_wp2_with fail
        go_loopw [9] (fun iv W => ∃ i : Nat, i ≤ L ∧ iv = .int .i64 i ∧ W.heap[w1.heap.size]? = some (blO (rowF (evB (.mk k n [ta, tb])) L i)) ∧ Only (· = w1.heap.size) w4 W) (fun iv _ => L - (intOf iv).toNat)
        case atStart => exact ⟨0, by omega, rfl, H4.out.1, Only.refl _ _⟩
        case round =>
          obtain ⟨i, hi, rfl, hg, ho⟩ := hrel
          have HG := Lib.hid (And.intro hg ho)
          obtain ⟨c0, ra, rb⟩ := HST.out _ ho
          by_cases hil : i < L
          · have d1 : decide ((i : Int) < (L : Int)) = true := decide_eq_true (by omega)
            have d1' : decide (i < L) = true := decide_eq_true hil
            obtain ⟨g0, g1⟩ := bl_cell hg (rowF_at hil)
            have a0 := (bl_cell ra (rowF_full hil)).1
            have b0 := (bl_cell rb (rowF_full hil)).1
            have hi40 : i ≤ 4096 := by omega
            have hgs := bl_set (j := i) (evB (.mk k n [ta, tb]) i) hg
            rw [rowF_next hil] at hgs
            have hos := Only.setCell (S := (· = w1.heap.size)) (p := ⟨w1.heap.size, i, none⟩) ho rfl (.bool (evB (.mk k n [ta, tb]) i))
            have hev : evB (.mk k n [ta, tb]) i = evC (fun a => decide (bitN i a = 1)) k n [evB ta i, evB tb i] := by unfold evB; rw [evT, evL, evL, evL]
            rw [hev] at hgs hos
            have HN := Lib.hid (And.intro hgs hos)
            have HAP := Lib.hid (fun W => Apply_two k HK.out (fun a => decide (bitN i a = 1)) n (evB ta i) (evB tb i) W)
            generalize evC (fun a => decide (bitN i a = 1)) k n [evB ta i, evB tb i] = rv at *
            generalize evB ta i = xa at *
            generalize evB tb i = xb at *
            clear hgs hos hev hg ho ra rb
            go_wp2_with fail
            go_region_law (first | (go_simp; (with_reducible refine (HAP.out _).mono ?_); rintro e wx ⟨rfl, rfl⟩))
            all_goals
              go_wp2_with fail
              go_roundw
              case rel => exact ⟨i + 1, by omega, by go_num, by exact HN.out.1, by first | exact HN.out.2 | exact HN.out.2.trans (Only.of_below (Below.refl _ _).drew)⟩
              case measure => simp [intOf]; omega
          · have d1 : decide ((i : Int) < (L : Int)) = false := decide_eq_false (by omega)
            have d1' : decide (i < L) = false := decide_eq_false hil
            obtain rfl : i = L := by omega
            clear hg ho ra rb
            go_wp2_with fail
            go_ret
            exact HFIN.out _ HG.out.1 HG.out.2
end Go.Proofs.YtcophfhnhlaonaaGreatDoor
