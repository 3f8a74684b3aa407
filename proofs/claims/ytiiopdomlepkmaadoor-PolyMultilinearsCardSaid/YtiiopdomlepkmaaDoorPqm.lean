/-
  Contract of coefficients of package poly: the coefficients of the multilinear polynomial of a table.
-/
import Derived.Test.YtiiopdomlepkmaaDoorPql
import Derived.Deep.RegionWith
namespace Go.Proofs.YtiiopdomlepkmaaDoor
set_option linter.unusedVariables false
open Go.RowKit Go.Maps

def bitN (i b : Nat) : Nat := i / 2 ^ b % 2
/-- One pass: where bit b is set, what stands where it is not is taken away. -/
def mobStep (sub : Nat → Nat → Nat) (b : Nat) (xs : List Nat) : List Nat := (List.range xs.length).map fun i => if bitN i b = 1 then sub (xs[i]?.getD 0) (xs[i - 2 ^ b]?.getD 0) else xs[i]?.getD 0
def mobs (sub : Nat → Nat → Nat) (xs : List Nat) : Nat → List Nat
  | 0 => xs
  | b + 1 => mobStep sub b (mobs sub xs b)
def tab01 (bs : List Bool) : List Nat := bs.map fun b => if b then 1 else 0

theorem mobStep_length (sub : Nat → Nat → Nat) (b : Nat) (xs : List Nat) : (mobStep sub b xs).length = xs.length := by simp [mobStep]
theorem mobs_length (sub : Nat → Nat → Nat) (xs : List Nat) (b : Nat) : (mobs sub xs b).length = xs.length := by
  induction b with
  | zero => rfl
  | succ b ih => rw [mobs, mobStep_length, ih]
theorem mobStep_lt {sub : Nat → Nat → Nat} {q : Nat} (hs : ∀ a b, a < q → b < q → sub a b < q) (h0 : 0 < q) (b : Nat) {xs : List Nat} (hx : ∀ x ∈ xs, x < q) : ∀ x ∈ mobStep sub b xs, x < q := fun x hx' => by
  obtain ⟨i, hi, rfl⟩ := List.mem_map.1 hx'
  have hg : ∀ j : Nat, xs[j]?.getD 0 < q := fun j => by
    cases h : xs[j]? with
    | none => exact h0
    | some y => exact hx y (List.mem_of_getElem? h)
  split
  · exact hs _ _ (hg _) (hg _)
  · exact hg _
theorem mobs_lt {sub : Nat → Nat → Nat} {q : Nat} (hs : ∀ a b, a < q → b < q → sub a b < q) (h0 : 0 < q) {xs : List Nat} (hx : ∀ x ∈ xs, x < q) (b : Nat) : ∀ x ∈ mobs sub xs b, x < q := by
  induction b with
  | zero => exact hx
  | succ b ih => exact mobStep_lt hs h0 b ih
/-- A pass in part. -/
def mobPart (sub : Nat → Nat → Nat) (b : Nat) (xs : List Nat) (k : Nat) : List Nat := (List.range xs.length).map fun i => if i < k ∧ bitN i b = 1 then sub (xs[i]?.getD 0) (xs[i - 2 ^ b]?.getD 0) else xs[i]?.getD 0
theorem mobPart_zero (sub : Nat → Nat → Nat) (b : Nat) (xs : List Nat) : mobPart sub b xs 0 = xs := by
  unfold mobPart
  apply List.ext_getElem?
  intro i
  by_cases h : i < xs.length
  · simp [h]
  · simp [h]
theorem mobPart_full (sub : Nat → Nat → Nat) (b : Nat) (xs : List Nat) : mobPart sub b xs xs.length = mobStep sub b xs := by
  unfold mobPart mobStep
  refine List.map_congr_left fun i hi => ?_
  have := List.mem_range.1 hi
  simp [this]
theorem mobPart_length (sub : Nat → Nat → Nat) (b : Nat) (xs : List Nat) (k : Nat) : (mobPart sub b xs k).length = xs.length := by simp [mobPart]
theorem mobPart_at {sub : Nat → Nat → Nat} {b : Nat} {xs : List Nat} {k i : Nat} (hi : i < xs.length) (h : ¬ (i < k ∧ bitN i b = 1)) : (mobPart sub b xs k)[i]? = some (xs[i]?.getD 0) := by
  unfold mobPart
  rw [List.getElem?_map, List.getElem?_range hi]
  simp only [Option.map_some, if_neg h]
theorem mobPart_skip {sub : Nat → Nat → Nat} {b : Nat} {xs : List Nat} {k : Nat} (h : bitN k b ≠ 1) : mobPart sub b xs (k + 1) = mobPart sub b xs k := by
  unfold mobPart
  refine List.map_congr_left fun i hi => ?_
  by_cases hik : i = k
  · subst hik
    simp [h]
  · have : (i < k + 1) ↔ (i < k) := by omega
    simp only [this]
theorem mobPart_put {sub : Nat → Nat → Nat} {b : Nat} {xs : List Nat} {k : Nat} (hk : k < xs.length) (h : bitN k b = 1) :
    (mobPart sub b xs k).set k (sub (xs[k]?.getD 0) (xs[k - 2 ^ b]?.getD 0)) = mobPart sub b xs (k + 1) := by
  unfold mobPart
  apply List.ext_getElem?
  intro i
  by_cases hi : i < xs.length
  · rw [List.getElem?_set]
    by_cases hik : k = i
    · subst hik
      simp [hi, h]
    · rw [if_neg hik, List.getElem?_map, List.getElem?_map, List.getElem?_range hi]
      have : (i < k + 1) ↔ (i < k) := by omega
      simp only [this, Option.map_some]
  · have h1 : ¬ i < (List.range xs.length).length := by simpa using hi
    simp [hi]
theorem bitN_sub {k b : Nat} (h : bitN k b = 1) : 2 ^ b ≤ k ∧ bitN (k - 2 ^ b) b ≠ 1 := by
  unfold bitN at h ⊢
  have hp : 0 < 2 ^ b := Nat.pow_pos (by omega)
  have h1 : 1 ≤ k / 2 ^ b := by
    rcases Nat.eq_zero_or_pos (k / 2 ^ b) with h0 | h0
    · rw [h0] at h; simp at h
    · exact h0
  have h2 : 2 ^ b ≤ k := by
    have := Nat.mul_le_mul_left (2 ^ b) h1
    have h3 := Nat.mul_div_le k (2 ^ b)
    omega
  refine ⟨h2, ?_⟩
  have h3 : (k - 2 ^ b) / 2 ^ b = k / 2 ^ b - 1 := by
    have := Nat.sub_mul_div k (2 ^ b) 1
    simpa using this
  rw [h3]
  omega
theorem land_bit (k b : Nat) : k &&& 2 ^ b = bitN k b * 2 ^ b := by
  have ht : k.testBit b = decide (bitN k b = 1) := Nat.testBit_eq_decide_div_mod_eq
  have h2 : bitN k b = 0 ∨ bitN k b = 1 := by unfold bitN; omega
  apply Nat.eq_of_testBit_eq
  intro j
  rw [Nat.testBit_and, Nat.testBit_two_pow]
  by_cases hj : b = j
  · subst hj
    rw [ht]
    rcases h2 with h2 | h2 <;> simp [h2]
  · rcases h2 with h2 | h2 <;> simp [h2, hj]
theorem and_nat (a b : Nat) (ha : a < 9223372036854775808) (hb : b < 9223372036854775808) : bits .and .i64 (a : Int) (b : Int) = ((a &&& b : Nat) : Int) := by
  show IntKind.i64.wrap ((BitVec.ofInt 64 (a : Int) &&& BitVec.ofInt 64 (b : Int)).toNat : Int) = _
  rw [BitVec.toNat_and, ofInt_u64 a (by omega), ofInt_u64 b (by omega)]
  exact Lib.wrap_i64_small _ (Nat.lt_of_le_of_lt Nat.and_le_left ha)

/-- A list of truth values behind a slice's address. -/
def RdB (w : World) (A : Option Addr) (bs : List Bool) : Prop := ∀ (k : Nat) (x : Bool), bs[k]? = some x → ∃ a, A = some a ∧ w.cell? (a.add k) = some (.bool x)
theorem RdB.below {w w' : World} {A : Option Addr} {bs : List Bool} (h : RdB w A bs) (hb : Below w.heap.size w w') : RdB w' A bs := fun k x hk => by
  obtain ⟨a, ha, hc⟩ := h k x hk
  exact ⟨a, ha, (hb.cell (World.block_lt_of_cell? w _ hc)).trans hc⟩

def tabPart (bs : List Bool) (k : Nat) : List Int := nz (tab01 (bs.take k)) ++ List.replicate (bs.length - k) 0
theorem tabPart_zero (bs : List Bool) : tabPart bs 0 = List.replicate bs.length 0 := by simp [tabPart, tab01, nz]
theorem tabPart_full (bs : List Bool) : tabPart bs bs.length = nz (tab01 bs) := by simp [tabPart]
theorem tabPart_at {bs : List Bool} {k : Nat} (hk : k < bs.length) : (tabPart bs k)[k]? = some 0 := by
  unfold tabPart
  have h1 : (nz (tab01 (bs.take k))).length = k := by simp [nz, tab01]; omega
  rw [List.getElem?_append_right (by omega), h1, Nat.sub_self, List.getElem?_replicate]
  simp; omega
theorem tabPart_succ {bs : List Bool} {k : Nat} {x : Bool} (hk : k < bs.length) (hx : bs[k]? = some x) : (tabPart bs k).set k (if x then 1 else 0) = tabPart bs (k + 1) := by
  unfold tabPart
  have h1 : (nz (tab01 (bs.take k))).length = k := by simp [nz, tab01]; omega
  rw [List.set_append_right _ _ (by omega), h1, List.take_add_one, hx]
  obtain ⟨m, hm⟩ : ∃ m, bs.length - k = m + 1 := ⟨bs.length - k - 1, by omega⟩
  rw [hm, show bs.length - (k + 1) = m by omega, List.replicate_succ]
  cases x <;> simp [nz, tab01]

set_option maxRecDepth 100000 in
set_option maxHeartbeats 4000000 in
theorem coef_ok (P M q n : Nat) (hf : Fld P M q) (hn : n ≤ 12) (A : Option Addr) (cap : Nat) (bs : List Bool) (hl : bs.length = 2 ^ n) (w : World) (hL : Lays w) (hr : RdB w A bs) :
    Calls Tryd.prog 46 #[rg P M q n, .slice A bs.length cap] w fun r w' => ∃ g, w.heap.size ≤ g ∧ r = .returned (.slice (some ⟨g, 0, none⟩) bs.length bs.length) ∧ w'.heap[g]? = some (intsO (nz (mobs (subN P M) (tab01 bs) n))) ∧ Below w.heap.size w w' := by
  have hle : bs.length ≤ 4096 := by
    rw [hl]
    exact Nat.pow_le_pow_right (n := 2) (by omega) hn
  have hmk := make_ints bs.length (by omega)
  have HR := Lib.hid hr
  have HL := Lib.hid hL
  have HLE := Lib.hid hl
  clear hr hL hl
  have HST := Lib.hid (show ((w.alloc (rgO P M q n)).alloc (intsO (List.replicate bs.length 0))).heap[w.heap.size + 1]? = some (intsO (tabPart bs 0)) by rw [tabPart_zero]; exact alloc_at _ _ _ (by simp))
  generalize hbl : bs.length = L at *
  have HBL := Lib.hid hbl
  clear hbl
  go_enter Tryd.func46, Tryd.ntmps46
  go_wp2_with fail
  go_loopw [6, 7, 15] (fun _ _ i wr => ∃ k : Nat, k ≤ L ∧ i = .int .i64 k ∧ wr.heap[w.heap.size + 1]? = some (intsO (tabPart bs k)) ∧ wr.heap[w.heap.size]? = some (rgO P M q n) ∧ Below w.heap.size w wr) (fun _ _ i _ => L - (intOf i).toNat)
  case atStart => exact ⟨0, by omega, rfl, HST.out, alloc_old _ _ _ _ (alloc_at _ _ _ rfl), below2 _ _ _⟩
  case round =>
    obtain ⟨k, hk, rfl, hb, hrg, hB⟩ := hrel
    by_cases hlt : k < L
    · obtain ⟨x, hx⟩ : ∃ x, bs[k]? = some x := ⟨_, List.getElem?_eq_getElem (by rw [HBL.out]; exact hlt)⟩
      obtain ⟨a, rfl, g0⟩ := HR.out k x hx
      have g1 := (hB.cell (World.block_lt_of_cell? w _ g0)).trans g0
      obtain ⟨c1, f1⟩ := ints_cell hb (tabPart_at (by rw [HBL.out]; exact hlt))
      have HX := Lib.hid hx
      have HBK := Lib.hid hb
      have HB := Lib.hid hB
      have HRG := Lib.hid hrg
      clear hx g0 hb hB hrg
      cases x
      · have hst : wr.heap[w.heap.size + 1]? = some (intsO (tabPart bs (k + 1))) := by
          rw [← tabPart_succ (by rw [HBL.out]; exact hlt) HX.out, HBK.out]
          congr 2
          have h2 := tabPart_at (bs := bs) (k := k) (by rw [HBL.out]; exact hlt)
          have h3 := List.getElem?_eq_some_iff.1 h2
          obtain ⟨h4, h5⟩ := h3
          apply List.ext_getElem?
          intro i
          rw [List.getElem?_set]
          by_cases hki : k = i
          · subst hki
            simp [h4, h5]
          · rw [if_neg hki]
        have HS2 := Lib.hid hst
        clear hst
        go_wp2_with fail
        go_roundw
        case rel => exact ⟨k + 1, by omega, by go_num, HS2.out, HRG.out, HB.out⟩
        case measure => simp [intOf]; omega
      · have hst : (wr.setCell ⟨w.heap.size + 1, k, none⟩ (.int .i64 1)).heap[w.heap.size + 1]? = some (intsO (tabPart bs (k + 1))) := by
          rw [← tabPart_succ (by rw [HBL.out]; exact hlt) HX.out]
          exact ints_set _ HBK.out
        have HS2 := Lib.hid hst
        clear hst
        go_wp2_with fail
        go_roundw
        case rel => exact ⟨k + 1, by omega, by go_num, HS2.out, (heap_setCell_other _ _ _ _ (by show w.heap.size ≠ w.heap.size + 1; omega)).trans HRG.out, HB.out.setCell (p := ⟨w.heap.size + 1, k, none⟩) (Nat.le_succ _) _⟩
        case measure => simp [intOf]; omega
    · have hkl : k = bs.length := by rw [HBL.out]; omega
      rw [hkl, tabPart_full] at hb
      have hkL : k = L := by omega
      subst hkL
      have HB2 := Lib.hid hb
      have HRG := Lib.hid hrg
      have HB := Lib.hid hB
      clear hb hkl hrg hB
      go_wp2_with fail
      have hrng := hf.fl.toRng
      have hsub : ∀ a b, a < q → b < q → subN P M a b < q := fun a b ha hb => hrng.sub_lt ha hb
      have ht01 : ∀ x ∈ tab01 bs, x < q := fun x hx => by
        obtain ⟨b, _, rfl⟩ := List.mem_map.1 hx
        have := hf.q_ge
        cases b <;> simp <;> omega
      have HLT := Lib.hid (fun b => mobs_lt hsub hrng.pos ht01 b)
      have HLN := Lib.hid (fun b => (mobs_length (subN P M) (tab01 bs) b).trans (by simp [tab01]; exact HBL.out : (tab01 bs).length = k))
      have HSB := Lib.hid (fun (a b : Nat) (ha : a < q) (hb : b < q) (W : World) (hW : Below w.heap.size w W) => subE_ok P M q n a b hf ha hb W (HL.out.below hW))
      clear hrng hsub ht01
      go_loopw [8, 9, 33] (fun b8 _ _ W => ∃ b pb : Nat, b ≤ n ∧ pb = 2 ^ b ∧ b8 = .int .i64 (pb : Int) ∧ W.heap[w.heap.size + 1]? = some (intsO (nz (mobs (subN P M) (tab01 bs) b))) ∧ W.heap[w.heap.size]? = some (rgO P M q n) ∧ Below w.heap.size w W) (fun b8 _ _ _ => k - (intOf b8).toNat)
      case atStart => exact ⟨0, 1, by omega, rfl, rfl, HB2.out, HRG.out, HB.out⟩
      case round =>
        clear HB2 HRG HB
        obtain ⟨b, pb, hbn, hpb, rfl, hb, hrg, hB⟩ := hrel
        have HPB := Lib.hid hpb
        have hpb1 : 1 ≤ pb := by rw [hpb]; exact Nat.pow_pos (by omega)
        clear hpb
        by_cases hlt2 : pb < k
        · have hbn2 : b < n := by
            rcases Nat.lt_or_ge b n with h | h
            · exact h
            · have : b = n := by omega
              subst this
              have h1 := HPB.out
              have h2 := HLE.out
              omega
          have hst0 : wr.heap[w.heap.size + 1]? = some (intsO (nz (mobPart (subN P M) b (mobs (subN P M) (tab01 bs) b) 0))) := by rw [mobPart_zero]; exact hb
          have HST0 := Lib.hid (show wr.heap[w.heap.size + 1]? = some (intsO (nz (mobPart (subN P M) b (mobs (subN P M) (tab01 bs) b) 0))) ∧ wr.heap[w.heap.size]? = some (rgO P M q n) ∧ Below w.heap.size w wr from ⟨hst0, hrg, hB⟩)
          clear hst0 hb hrg hB
          generalize hys : mobs (subN P M) (tab01 bs) b = ys at *
          have HYL : Hid (ys.length = k) := Lib.hid (by rw [← hys]; exact HLN.out b)
          have HYT : Hid (∀ i : Nat, ys[i]?.getD 0 < q) := Lib.hid (fun i => by
            cases h : ys[i]? with
            | none => have := hf.q_ge; show 0 < q; omega
            | some y => exact HLT.out b y (by rw [hys]; exact List.mem_of_getElem? h))
          have HYS := Lib.hid hys
          clear hys
          obtain ⟨wo, rfl⟩ : ∃ wo : World, wo = wr := ⟨_, rfl⟩
          go_wp2_with fail
          go_loopw [9, 33] (fun _ i W => ∃ j : Nat, j ≤ k ∧ i = .int .i64 j ∧ W.heap[w.heap.size + 1]? = some (intsO (nz (mobPart (subN P M) b ys j))) ∧ W.heap[w.heap.size]? = some (rgO P M q n) ∧ Below w.heap.size w W) (fun _ i _ => k - (intOf i).toNat)
          case atStart => exact ⟨0, by omega, rfl, HST0.out⟩
          case round =>
            clear HST0
            obtain ⟨j, hj, rfl, hb, hrg, hB⟩ := hrel
            have HBK := Lib.hid hb
            have HRG := Lib.hid hrg
            have HB := Lib.hid hB
            by_cases hjk : j < k
            · have hand := and_nat j pb (by omega) (by omega)
              rw [HPB.out, land_bit, ← HPB.out] at hand
              by_cases hbit : bitN j b = 1
              · rw [hbit, Nat.one_mul] at hand
                have hnz : ((pb : Int) != 0) = true := by simp; omega
                obtain ⟨hs1, hs2⟩ := bitN_sub hbit
                rw [← HPB.out] at hs1 hs2
                have e1 := nz_at (mobPart_at (sub := subN P M) (b := b) (xs := ys) (k := j) (i := j) (by rw [HYL.out]; exact hjk) (by omega))
                have e2 := nz_at (mobPart_at (sub := subN P M) (b := b) (xs := ys) (k := j) (i := j - pb) (by rw [HYL.out]; omega) (fun h => hs2 h.2))
                obtain ⟨c1, f1⟩ := ints_cell hb e1
                obtain ⟨c2, f2⟩ := ints_cell hb e2
                obtain ⟨d0, d1, d2, d3⟩ := rg_cells hrg
                have hx := HYT.out j
                have hy := HYT.out (j - pb)
                have hput := mobPart_put (sub := subN P M) (b := b) (xs := ys) (k := j) (by rw [HYL.out]; exact hjk) hbit
                rw [← HPB.out] at hput
                generalize ys[j]?.getD 0 = x at *
                generalize ys[j - pb]?.getD 0 = y at *
                have HCA := Lib.hid (HSB.out x y hx hy wr.drew hB.drew)
                have HPUT := Lib.hid hput
                have w1 : IntKind.i64.wrap ((j : Int) - (pb : Int)) = (j : Int) - (pb : Int) := IntWalk.i64_in _ (by omega)
                have b1 : 0 ≤ (j : Int) - (pb : Int) := by omega
                have b2 : (j : Int) - (pb : Int) < (k : Int) := by omega
                have b3 : (pb : Int) ≤ (j : Int) := by omega
                have b4 : j - pb < k := by omega
                have t1 : ((j : Int) - (pb : Int)).toNat = j - pb := by omega
                clear hput e1 e2 hs1 hs2 hb hrg hB hx hy hbit
                go_wp2_with fail
                go_region_with (go_at_call 68; refine HCA.out.mono ?_; rintro e w3 ⟨rfl, hB3⟩; have hq3 : w3.cell? ⟨w.heap.size + 1, j, none⟩ = wr.drew.cell? ⟨w.heap.size + 1, j, none⟩ := hB3.cell (Array.getElem?_eq_some_iff.1 HBK.out).1; have c3 := hq3.trans c1; have f3 : w3.frozen? ⟨w.heap.size + 1, j, none⟩ = false := (hB3.frozen (p := ⟨w.heap.size + 1, j, none⟩) (Array.getElem?_eq_some_iff.1 HBK.out).1).trans f1)
                all_goals
                  have hb3 : w3.heap[w.heap.size + 1]? = some (intsO (nz (mobPart (subN P M) b ys j))) := (hB3.block _ (Array.getElem?_eq_some_iff.1 HBK.out).1).trans HBK.out
                  have hst3 := ints_set (j := j) ((subN P M x y : Nat) : Int) hb3
                  rw [show (nz (mobPart (subN P M) b ys j)).set j ((subN P M x y : Nat) : Int) = nz (mobPart (subN P M) b ys (j + 1)) by rw [← HPUT.out]; simp [nz, List.map_set]] at hst3
                  have hrg3 : (w3.setCell ⟨w.heap.size + 1, j, none⟩ (.int .i64 ((subN P M x y : Nat) : Int))).heap[w.heap.size]? = some (rgO P M q n) :=
                    (heap_setCell_other _ _ _ _ (by show w.heap.size ≠ w.heap.size + 1; omega)).trans ((hB3.block _ (Array.getElem?_eq_some_iff.1 HRG.out).1).trans HRG.out)
                  have hbl3 : Below w.heap.size w (w3.setCell ⟨w.heap.size + 1, j, none⟩ (.int .i64 ((subN P M x y : Nat) : Int))) :=
                    (HB.out.drew.trans (hB3.mono HB.out.size)).setCell (p := ⟨w.heap.size + 1, j, none⟩) (Nat.le_succ _) _
                  have HS3 := Lib.hid hst3
                  have HR3 := Lib.hid hrg3
                  have HL3 := Lib.hid hbl3
                  clear hb3 hst3 hrg3 hbl3 hB3 hq3 c3 f3 c1 c2 f1 f2 d0 d1 d2 d3 w1 hand
                  go_wp2_with fail
                  go_roundw
                  case rel => exact ⟨j + 1, by omega, by go_num, HS3.out, HR3.out, HL3.out⟩
                  case measure => simp [intOf]; omega
              · have hb0 : bitN j b = 0 := by unfold bitN at hbit ⊢; omega
                rw [hb0, Nat.zero_mul] at hand
                have hsk : wr.heap[w.heap.size + 1]? = some (intsO (nz (mobPart (subN P M) b ys (j + 1)))) := by rw [mobPart_skip hbit]; exact hb
                have HSK := Lib.hid hsk
                clear hsk hb hrg hB hbit hb0
                go_wp2_with fail
                go_roundw
                case rel => exact ⟨j + 1, by omega, by go_num, HSK.out, HRG.out, HB.out⟩
                case measure => simp [intOf]; omega
            · have hjj : j = ys.length := by rw [HYL.out]; omega
              rw [hjj, mobPart_full] at hb
              have hb' : wr.heap[w.heap.size + 1]? = some (intsO (nz (mobs (subN P M) (tab01 bs) (b + 1)))) := by
                show wr.heap[w.heap.size + 1]? = some (intsO (nz (mobStep (subN P M) b (mobs (subN P M) (tab01 bs) b))))
                rw [HYS.out]; exact hb
              have HB' := Lib.hid hb'
              have hp2 : pb ≤ 4096 := by omega
              clear hb hb' hjj
              go_wp2_with fail
              go_roundw
              case rel => exact ⟨b + 1, pb * 2, by omega, by rw [HPB.out, Nat.pow_succ], by go_num, HB'.out, HRG.out, HB.out⟩
              case measure => simp [intOf]; omega
        · have hbn2 : b = n := by
            rcases Nat.lt_or_ge b n with h | h
            · exfalso
              have h1 := HPB.out
              have h2 := HLE.out
              have := Nat.pow_lt_pow_right (a := 2) (by omega) h
              omega
            · omega
          subst hbn2
          have HB4 := Lib.hid hb
          have HB5 := Lib.hid hB
          clear hb hrg hB
          go_wp2_with fail
          go_ret
          exact ⟨w.heap.size + 1, Nat.le_succ _, rfl, HB4.out, HB5.out⟩
end Go.Proofs.YtiiopdomlepkmaaDoor
