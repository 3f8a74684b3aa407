/-
  Joined from Psc: see there.
-/
import Derived.Test.YtflmjdabmnpkjaaDoorPsb
import Derived.Test.YtflmjdabmnpkjaaDoorPrf
namespace Go.Proofs.YtflmjdabmnpkjaaDoor
set_option linter.unusedVariables false
open Go.RowKit Go.Maps

theorem ctzFrom_le : ∀ (f x : Nat), Lib.ctzFrom f x ≤ f
  | 0, _ => by simp [Lib.ctzFrom]
  | f + 1, x => by
    unfold Lib.ctzFrom
    have := ctzFrom_le f (x / 2)
    split <;> omega
theorem ctz_le (L : Nat) : Lib.ctz 64 L ≤ 64 := by
  unfold Lib.ctz
  split
  · omega
  · exact ctzFrom_le 64 L

set_option maxHeartbeats 2000000 in
theorem inputs_ok (L most : Nat) (hm : most ≤ 12) (hL : L ≤ 1152921504606846976) (w : World) :
    Calls Tryd.prog 19 #[.int .i64 (L : Int), .int .i64 (most : Int)] w fun e w' => (∃ r : Int, e = .returned (.int .i64 r) ∧ ((∃ n : Nat, n ≤ most ∧ r = n ∧ L = 2 ^ n) ∨ (r = -1 ∧ ∀ n : Nat, n ≤ most → L ≠ 2 ^ n))) ∧ Below w.heap.size w w' := by
  go_enter Tryd.func19, Tryd.ntmps19
  go_wp2_with fail
  go_loopw [5] (fun i W => ∃ k : Nat, k ≤ most + 1 ∧ i = .int .i64 k ∧ (∀ n : Nat, n < k → L ≠ 2 ^ n) ∧ Below w.heap.size w W) (fun i _ => most + 1 - (intOf i).toNat)
  case atStart => exact ⟨0, by omega, rfl, fun n hn => absurd hn (Nat.not_lt_zero _), Below.refl _ _⟩
  case round =>
    obtain ⟨k, hk, rfl, hall, hB⟩ := hrel
    have HALL := Lib.hid hall
    have HB := Lib.hid hB
    clear hall hB
    by_cases hlt : k ≤ most
    · obtain ⟨s, hs⟩ : ∃ s, s = 2 ^ k := ⟨_, rfl⟩
      have HS := Lib.hid hs
      have hle : s ≤ 4096 := by rw [hs]; exact (Nat.pow_le_pow_right (n := 2) (by omega) (show k ≤ 12 by omega))
      have hsh : wrap64 ((2 : Int) ^ k) = (s : Int) := by
        have : (2 : Int) ^ k = ((2 ^ k : Nat) : Int) := by simp
        rw [this, ← hs]
        exact IntWalk.wrap64_in _ (by omega)
      clear hs
      by_cases he : L = s
      · have d1 : ((L : Int) == (s : Int)) = true := by simp [he]
        have HE := Lib.hid he
        clear he
        go_wp2_with fail
        go_ret
        exact ⟨⟨k, rfl, .inl ⟨k, hlt, rfl, by rw [HE.out]; exact HS.out⟩⟩, HB.out⟩
      · have d1 : ((L : Int) == (s : Int)) = false := by simp; omega
        have HE := Lib.hid he
        clear he
        go_wp2_with fail
        go_roundw
        case rel => exact ⟨k + 1, by omega, by go_num, fun n hn => (Nat.lt_or_ge n k).elim (HALL.out n) (fun h => by rw [show n = k by omega, ← HS.out]; exact HE.out), HB.out⟩
        case measure => simp [intOf]; omega
    · have d0 : decide ((k : Int) ≤ (most : Int)) = false := decide_eq_false (by omega)
      have hkm : k = most + 1 := by omega
      have HKM := Lib.hid hkm
      clear hkm
      go_wp2_with fail
      go_ret
      exact ⟨⟨-1, rfl, .inr ⟨rfl, fun n hn => HALL.out n (by have := HKM.out; omega)⟩⟩, HB.out⟩

set_option maxHeartbeats 2000000 in
theorem Multilinear_bad (P M : Int) (v : Value) (w : World) (hL : LayP w) (h : ¬ OkF P M) :
    Calls Tryd.prog 20 #[.agg #[.int .i64 P, .int .i64 M], v] w fun e w' => e = .returned (.tuple #[.slice none 0 0, .int .i64 1]) ∧ Below w.heap.size w w' := by
  have hB1 := below1 w (.cells #[.int .i64 P, .int .i64 M] 23)
  have HV := Lib.hid (valid_no P M _ (hL.lays.below hB1) h)
  have HB1 := Lib.hid hB1
  clear hL h hB1
  go_enter Tryd.func20, Tryd.ntmps20
  go_wp2_with fail
  refine HV.out.mono ?_
  rintro e w1 ⟨rfl, hB⟩
  have HB := Lib.hid (HB1.out.trans (hB.mono HB1.out.size))
  clear hB
  go_wp2_with fail
  go_ret2
  exact ⟨rfl, HB.out⟩

set_option maxHeartbeats 2000000 in
theorem Multilinear_arg (P M q : Nat) (hf : Fld P M q) (A : Option Addr) (L cap : Nat) (w : World) (hL : LayP w) (hlen : L ≤ 1152921504606846976) (h : ∀ n : Nat, n ≤ 12 → L ≠ 2 ^ n) :
    Calls Tryd.prog 20 #[.agg #[.int .i64 (P : Int), .int .i64 (M : Int)], .slice A L cap] w fun e w' => e = .returned (.tuple #[.slice none 0 0, .int .i64 2]) ∧ Below w.heap.size w w' := by
  have hB1 := below1 w (.cells #[.int .i64 (P : Int), .int .i64 (M : Int)] 23)
  have HV := Lib.hid (valid_yes P M _ (hL.lays.below hB1) hf.ok)
  have HTZ := Lib.hid (fun W (hW : Below w.heap.size w W) => tz_ok L (by omega) W (hL.below hW))
  have HB1 := Lib.hid hB1
  have hu : IntKind.u64.wrap ((L : Nat) : Int) = ((L : Nat) : Int) := by rw [IntKind.wrap_u64]; omega
  have hx : ∀ k, k = Lib.ctz 64 L → 12 < k ∨ (k ≤ 12 ∧ L ≠ 2 ^ k) := fun k _ => by
    rcases Nat.lt_or_ge 12 k with h1 | h1
    · exact .inl h1
    · exact .inr ⟨h1, h k h1⟩
  generalize hk : Lib.ctz 64 L = k at *
  have hx := hx k rfl
  have hk64 : k ≤ 64 := by rw [← hk]; exact ctz_le L
  clear hL h hB1 hk
  go_enter Tryd.func20, Tryd.ntmps20
  go_wp2_with fail
  refine HV.out.mono ?_
  rintro e w1 ⟨rfl, hB⟩
  have HB := Lib.hid (HB1.out.trans (hB.mono HB1.out.size))
  clear hB HV HB1
  go_wp2_with fail
  refine (HTZ.out _ HB.out).mono ?_
  rintro e w2 ⟨rfl, rfl⟩
  rcases hx with h1 | ⟨h1, h2⟩
  · have d1 : decide (12 < k) = true := decide_eq_true h1
    go_wp2_with fail
    go_ret2
    exact ⟨rfl, HB.out⟩
  · obtain ⟨s, hs⟩ : ∃ s, s = 2 ^ k := ⟨_, rfl⟩
    have hle : s ≤ 4096 := by rw [hs]; exact (Nat.pow_le_pow_right (n := 2) (by omega) h1)
    have hsh : wrap64 ((2 : Int) ^ k) = (s : Int) := by
      have : (2 : Int) ^ k = ((2 ^ k : Nat) : Int) := by simp
      rw [this, ← hs]
      exact IntWalk.wrap64_in _ (by omega)
    have d1 : decide (12 < k) = false := decide_eq_false (by omega)
    rw [← hs] at h2
    have d2 : ((L : Int) != (s : Int)) = true := by simp; omega
    clear hs h2
    go_wp2_with fail
    go_ret2
    exact ⟨rfl, HB.out⟩

theorem cfs_nzs {q : Nat} {add sub mul : Nat → Nat → Nat} (h : Rng q add sub mul) (e : List Nat) : ∀ ts : List Tm, CoLt q ts → cfs add (ts.filter fun t => t.1 != 0) e = cfs add ts e
  | [], _ => rfl
  | t :: ts, hc => by
    have hc' : CoLt q ts := fun x hx => hc x (by simp [hx])
    have ih := cfs_nzs h e ts hc'
    have ht := hc t (by simp)
    have hf : CoLt q (ts.filter fun t => t.1 != 0) := fun x hx => hc' x (List.mem_filter.1 hx).1
    by_cases h0 : t.1 = 0
    · have he : ((t :: ts).filter fun t => t.1 != 0) = ts.filter fun t => t.1 != 0 := by simp [h0]
      rw [he, ih, cfs_cons h ht hc' e, h0]
      split
      · exact (h.zero_add (cfs_lt h hc' e)).symm
      · rfl
    · have he : ((t :: ts).filter fun t => t.1 != 0) = t :: ts.filter fun t => t.1 != 0 := by simp [h0]
      rw [he, cfs_cons h ht hf e, cfs_cons h ht hc' e, ih]
/-- The terms of the first k entries that are not 0. -/
def mlF (C : List Nat) (n k : Nat) : List Tm := (mlT C n k).filter fun t => t.1 != 0
theorem mlF_zero (C : List Nat) (n : Nat) : mlF C n 0 = [] := rfl
theorem mlF_skip {C : List Nat} {n k : Nat} (h : C[k]?.getD 0 = 0) : mlF C n (k + 1) = mlF C n k := by simp [mlF, mlT_succ, h]
theorem mlF_push {C : List Nat} {n k c : Nat} (hc : C[k]?.getD 0 = c) (h : c ≠ 0) : mlF C n (k + 1) = mlF C n k ++ [(c, bitsL n k)] := by simp [mlF, mlT_succ, hc, h]
theorem mlF_length (C : List Nat) (n k : Nat) : (mlF C n k).length ≤ k := by
  have := List.length_filter_le (fun t : Tm => t.1 != 0) (mlT C n k)
  rw [mlT_length] at this
  exact this
theorem mlF_mem {C : List Nat} {n k : Nat} {t : Tm} (h : t ∈ mlF C n k) : t.1 ≠ 0 ∧ ∃ i : Nat, t = (C[i]?.getD 0, bitsL n i) := by
  obtain ⟨h1, h2⟩ := List.mem_filter.1 h
  obtain ⟨i, _, rfl⟩ := List.mem_map.1 h1
  exact ⟨by simpa using h2, i, rfl⟩
theorem mlF_cfs {P M q : Nat} (hf : Fld P M q) (n k : Nat) (bs : List Bool) (x : List Nat) : cfs (addN P M) (mlF (mlC P M n bs) n k) x = cfs (addN P M) (mlT (mlC P M n bs) n k) x :=
  cfs_nzs hf.fl.toRng x _ (mlT_lt (mlC_lt hf n bs) n k)

def kbO (P M q : Nat) : Obj := .cells #[.int .i64 (P : Int), .int .i64 (M : Int), .int .i64 (q : Int), .int .i64 (modOf M : Int)] 42 (0, 0)
theorem kb_cells {w : World} {g P M q : Nat} (h : w.heap[g]? = some (kbO P M q)) : w.cell? ⟨g, 0, none⟩ = some (.int .i64 (P : Int)) ∧ w.cell? ⟨g, 1, none⟩ = some (.int .i64 (M : Int)) ∧ w.cell? ⟨g, 2, none⟩ = some (.int .i64 (q : Int)) ∧ w.cell? ⟨g, 3, none⟩ = some (.int .i64 (modOf M : Int)) := by
  refine ⟨?_, ?_, ?_, ?_⟩ <;> simp [World.cell?, h, kbO]

/-- The list of coefficients, in the block behind the kit's. -/
structure MuS (w : World) (P M q : Nat) (l : List Int) (W : World) : Prop where
  blk : W.heap[w.heap.size + 1]? = some (intsO l)
  box : W.heap[w.heap.size]? = some (kbO P M q)
  bel : Below w.heap.size w W
theorem MuS.step {w W W' : World} {P M q : Nat} {l : List Int} (h : MuS w P M q l W) (hB : Below W.heap.size W W') : MuS w P M q l W' :=
  ⟨(hB.block _ (Array.getElem?_eq_some_iff.1 h.blk).1).trans h.blk, (hB.block _ (Array.getElem?_eq_some_iff.1 h.box).1).trans h.box, h.bel.trans (hB.mono h.bel.size)⟩
theorem MuS.drew {w W : World} {P M q : Nat} {l : List Int} (h : MuS w P M q l W) : MuS w P M q l W.drew := ⟨h.blk, h.box, h.bel.drew⟩
theorem MuS.put {w W : World} {P M q : Nat} {l : List Int} (h : MuS w P M q l W) (j : Nat) (x : Int) : MuS w P M q (l.set j x) (W.setCell ⟨w.heap.size + 1, j, none⟩ (.int .i64 x)) :=
  ⟨ints_set x h.blk, (heap_setCell_other _ _ _ _ (by show w.heap.size ≠ w.heap.size + 1; omega)).trans h.box, h.bel.setCell (p := ⟨w.heap.size + 1, j, none⟩) (Nat.le_succ _) _⟩
theorem tabPart_skip {bs : List Bool} {k : Nat} (hk : k < bs.length) (hx : bs[k]? = some false) : tabPart bs (k + 1) = tabPart bs k := by
  rw [← tabPart_succ hk hx]
  have h2 := tabPart_at (bs := bs) (k := k) hk
  obtain ⟨h4, h5⟩ := List.getElem?_eq_some_iff.1 h2
  apply List.ext_getElem?
  intro i
  rw [List.getElem?_set]
  by_cases hki : k = i
  · subst hki
    simp [h4, h5]
  · rw [if_neg hki]
theorem eb_of_ints {W : World} {g n k : Nat} (h : W.heap[g]? = some (intsO (nz (bitsL n k)))) : EB W (.slice (some ⟨g, 0, none⟩) n n) (bitsL n k) := by
  refine .inr ⟨g, n, _, ?_, h, fun i x hx => ?_⟩
  · rw [(bitsL_ex n k).1]
  · simp [nz, hx]

set_option maxRecDepth 100000 in
set_option maxHeartbeats 8000000 in
theorem mlR_ok (P M q n : Nat) (hf : Fld P M q) (hn : n ≤ 12) (A : Option Addr) (cap : Nat) (bs : List Bool) (hl : bs.length = 2 ^ n) (w : World) (hr : RdB w A bs) :
    Calls Tryd.prog 22 #[kitV P M q, .int .i64 (n : Int), .slice A bs.length cap] w (TotIs q n (addN P M) (mlT (mlC P M n bs) n (2 ^ n)) w) := by
  have hle : bs.length ≤ 4096 := by
    rw [hl]
    exact Nat.pow_le_pow_right (n := 2) (by omega) hn
  have hmk := make_ints bs.length (by omega)
  have hmk2 := make_ints n (by omega)
  have HR := Lib.hid hr
  have HLE := Lib.hid hl
  clear hr
  have HST := Lib.hid (show MuS w P M q (tabPart bs 0) ((w.alloc (kbO P M q)).alloc (intsO (List.replicate bs.length 0))) by
    rw [tabPart_zero]
    exact ⟨alloc_at _ _ _ (by simp), alloc_old _ _ _ _ (alloc_at _ _ _ rfl), below2 _ _ _⟩)
  obtain ⟨i3, hi, hz0, hz1, hz2⟩ := info_parts Tryd.info3
  have HI := Lib.hid (show Tryd.prog.info? 3 = some i3 ∧ i3.zero = some (.int .i64 0) ∧ i3.size = 1 ∧ i3.bytes = 8 from ⟨hi, hz0, hz1, hz2⟩)
  clear hi hz0 hz1 hz2
  obtain ⟨i5, hi, hz0, hz1, hz2⟩ := info_parts Tryd.infoP
  have HI5 := Lib.hid (show Tryd.prog.info? 25 = some i5 ∧ i5.zero = some (.slice none 0 0) ∧ i5.size = 1 ∧ i5.bytes = 24 from ⟨hi, hz0, hz1, hz2⟩)
  clear hi hz0 hz1 hz2
  generalize hLL : 2 ^ n = L at *
  have HLL := Lib.hid hLL
  clear hLL
  generalize hbl : bs.length = L' at *
  subst hl
  have HBL := Lib.hid hbl
  clear hbl
  unfold kitV
  go_enter Tryd.func22, Tryd.ntmps22
  go_wp2_with fail
  go_loopw [8] (fun i wr => ∃ k : Nat, k ≤ L' ∧ i = .int .i64 k ∧ MuS w P M q (tabPart bs k) wr) (fun i _ => L' - (intOf i).toNat)
  case atStart => exact ⟨0, by omega, rfl, HST.out⟩
  case round =>
    obtain ⟨k, hk, rfl, hS⟩ := hrel
    have HS := Lib.hid hS
    by_cases hlt : k < L'
    · obtain ⟨x, hx⟩ : ∃ x, bs[k]? = some x := ⟨_, List.getElem?_eq_getElem (by rw [HBL.out]; exact hlt)⟩
      obtain ⟨a, rfl, g0⟩ := HR.out k x hx
      have g1 := (hS.bel.cell (World.block_lt_of_cell? w _ g0)).trans g0
      obtain ⟨c1, f1⟩ := ints_cell hS.blk (tabPart_at (by rw [HBL.out]; exact hlt))
      have HX := Lib.hid hx
      clear hx g0 hS
      cases x
      · have hst := HS.out
        rw [← tabPart_skip (by rw [HBL.out]; exact hlt) HX.out] at hst
        have HS2 := Lib.hid hst
        clear hst
        go_wp2_with fail
        go_roundw
        case rel => exact ⟨k + 1, by omega, by go_num, HS2.out⟩
        case measure => simp [intOf]; omega
      · have hst := HS.out.put k 1
        have e := tabPart_succ (by rw [HBL.out]; exact hlt) HX.out
        simp only [if_true] at e
        rw [e] at hst
        have HS2 := Lib.hid hst
        clear hst e
        go_wp2_with fail
        go_roundw
        case rel => exact ⟨k + 1, by omega, by go_num, HS2.out⟩
        case measure => simp [intOf]; omega
    · have hkL : k = L' := by omega
      subst hkL
      have hst := HS.out
      rw [← HBL.out, tabPart_full] at hst
      have HS2 := Lib.hid hst
      clear hst hS HS HST HR
      have hrng := hf.fl.toRng
      have hsub : ∀ a b, a < q → b < q → subN P M a b < q := fun a b ha hb => hrng.sub_lt ha hb
      have ht01 : ∀ x ∈ tab01 bs, x < q := fun x hx => by
        obtain ⟨b, _, rfl⟩ := List.mem_map.1 hx
        have := hf.q_ge
        cases b <;> simp <;> omega
      have HLT := Lib.hid (fun b => mobs_lt hsub hrng.pos ht01 b)
      have HLN := Lib.hid (fun b => (mobs_length (subN P M) (tab01 bs) b).trans (by simp [tab01]; exact HBL.out : (tab01 bs).length = k))
      have HNEG := Lib.hid (fun (b : Nat) (hb : b < q) (W : World) => kitNeg P M q b hf hb W)
      have HADD := Lib.hid (fun (a b : Nat) (ha : a < q) (hb : b < q) (W : World) => kitAdd P M q a b hf ha hb W)
      unfold kitV at HNEG HADD
      clear hrng hsub ht01
      go_wp2_with fail
      go_loopw [9, 10] (fun b8 _ W => ∃ b : Nat, b ≤ n ∧ b8 = .int .i64 (b : Int) ∧ MuS w P M q (nz (mobs (subN P M) (tab01 bs) b)) W) (fun b8 _ _ => n - (intOf b8).toNat)
      case atStart => exact ⟨0, by omega, rfl, HS2.out⟩
      case round =>
        clear HS2
        obtain ⟨b, hbn, rfl, hS⟩ := hrel
        by_cases hbn2 : b < n
        · obtain ⟨pb, hpb⟩ : ∃ pb, pb = 2 ^ b := ⟨_, rfl⟩
          have hpb1 : 1 ≤ pb := by rw [hpb]; exact Nat.pow_pos (by omega)
          have hpb2 : pb ≤ 4096 := by rw [hpb]; exact Nat.pow_le_pow_right (n := 2) (by omega) (show b ≤ 12 by omega)
          have hsh : IntKind.i64.wrap ((2 : Int) ^ b) = (pb : Int) := by
            have : (2 : Int) ^ b = ((2 ^ b : Nat) : Int) := by simp
            rw [this, ← hpb]
            exact IntWalk.i64_in _ (by omega)
          have HPB := Lib.hid hpb
          have hst0 : MuS w P M q (nz (mobPart (subN P M) b (mobs (subN P M) (tab01 bs) b) 0)) wr := by rw [mobPart_zero]; exact hS
          have HST0 := Lib.hid hst0
          clear hst0 hS hpb
          generalize hys : mobs (subN P M) (tab01 bs) b = ys at *
          have HYL : Hid (ys.length = k) := Lib.hid (by rw [← hys]; exact HLN.out b)
          have HYT : Hid (∀ i : Nat, ys[i]?.getD 0 < q) := Lib.hid (fun i => by
            cases h : ys[i]? with
            | none => have := hf.q_ge; show 0 < q; omega
            | some y => exact HLT.out b y (by rw [hys]; exact List.mem_of_getElem? h))
          have HYS := Lib.hid hys
          clear hys
          obtain ⟨wo, rfl⟩ : ∃ wo : World, wo = wr := ⟨_, rfl⟩
          go_wp2_with fail
          go_loopw [10] (fun i W => ∃ j : Nat, j ≤ k ∧ i = .int .i64 j ∧ MuS w P M q (nz (mobPart (subN P M) b ys j)) W) (fun i _ => k - (intOf i).toNat)
          case atStart => exact ⟨0, by omega, rfl, HST0.out⟩
          case round =>
            clear HST0
            obtain ⟨j, hj, rfl, hS⟩ := hrel
            have HS := Lib.hid hS
            by_cases hjk : j < k
            · have hand := and1_nat (j / 2 ^ b) (by have := Nat.div_le_self j (2 ^ b); omega)
              have hdv : (j : Int) / 2 ^ b = ((j / 2 ^ b : Nat) : Int) := by simp
              rw [← hdv] at hand
              change _ = ((bitN j b : Nat) : Int) at hand
              clear hdv
              by_cases hbit : bitN j b = 1
              · rw [hbit] at hand
                obtain ⟨hs1, hs2⟩ := bitN_sub hbit
                rw [← HPB.out] at hs1 hs2
                have e1 := nz_at (mobPart_at (sub := subN P M) (b := b) (xs := ys) (k := j) (i := j) (by rw [HYL.out]; exact hjk) (by omega))
                have e2 := nz_at (mobPart_at (sub := subN P M) (b := b) (xs := ys) (k := j) (i := j - pb) (by rw [HYL.out]; omega) (fun h => hs2 h.2))
                obtain ⟨c1, f1⟩ := ints_cell hS.blk e1
                obtain ⟨c2, f2⟩ := ints_cell hS.blk e2
                obtain ⟨d0, d1, d2, d3⟩ := kb_cells hS.box
                have hx := HYT.out j
                have hy := HYT.out (j - pb)
                have hput := mobPart_put (sub := subN P M) (b := b) (xs := ys) (k := j) (by rw [HYL.out]; exact hjk) hbit
                rw [← HPB.out] at hput
                generalize ys[j]?.getD 0 = x at *
                generalize ys[j - pb]?.getD 0 = y at *
                have hng := hf.negN_lt hy
                have hsum : addN P M x (negN P M y) = subN P M x y := hf.add_neg
                have HN1 := Lib.hid (HNEG.out y hy)
                have HA1 := Lib.hid (HADD.out x (negN P M y) hx hng)
                rw [hsum] at HA1
                have HPUT := Lib.hid hput
                have w1 : IntKind.i64.wrap ((j : Int) - (pb : Int)) = (j : Int) - (pb : Int) := IntWalk.i64_in _ (by omega)
                have b1 : 0 ≤ (j : Int) - (pb : Int) := by omega
                have b2 : (j : Int) - (pb : Int) < (k : Int) := by omega
                have b3 : (pb : Int) ≤ (j : Int) := by omega
                have b4 : j - pb < k := by omega
                have t1 : ((j : Int) - (pb : Int)).toNat = j - pb := by omega
                clear hput e1 e2 hs1 hs2 hS hx hy hbit hng hsum
                go_wp2_with fail
                go_region_law (first
                  | (go_simp; (with_reducible refine (HN1.out _).mono ?_); rintro e w3 ⟨rfl, hB3⟩; have s3 := (HS.out.drew).step hB3; obtain ⟨c3, f3⟩ := (show w3.cell? ⟨w.heap.size + 1, j, none⟩ = some (.int .i64 (x : Int)) ∧ w3.frozen? ⟨w.heap.size + 1, j, none⟩ = false from ⟨(hB3.cell (World.block_lt_of_cell? wr.drew _ c1)).trans c1, (hB3.frozen (p := ⟨w.heap.size + 1, j, none⟩) (World.block_lt_of_cell? wr.drew _ c1)).trans f1⟩); obtain ⟨k0, k1, k2, k3⟩ := kb_cells s3.box)
                  | (go_simp; (with_reducible refine (HA1.out _).mono ?_); rintro e w4 ⟨rfl, hB4⟩; have s4 := s3.step hB4; have c4 : w4.cell? ⟨w.heap.size + 1, j, none⟩ = some (.int .i64 (x : Int)) := (hB4.cell (World.block_lt_of_cell? w3 _ c3)).trans c3; have f4 : w4.frozen? ⟨w.heap.size + 1, j, none⟩ = false := (hB4.frozen (p := ⟨w.heap.size + 1, j, none⟩) (World.block_lt_of_cell? w3 _ c3)).trans f3))
                all_goals
                  have hst3 := s4.put j ((subN P M x y : Nat) : Int)
                  rw [show (nz (mobPart (subN P M) b ys j)).set j ((subN P M x y : Nat) : Int) = nz (mobPart (subN P M) b ys (j + 1)) by rw [← HPUT.out]; simp [nz, List.map_set]] at hst3
                  have HS3 := Lib.hid hst3
                  clear hst3 s4 s3 hB3 hB4 c3 f3 c4 f4 c1 c2 f1 f2 d0 d1 d2 d3 k0 k1 k2 k3 w1 hand
                  go_wp2_with fail
                  go_roundw
                  case rel => exact ⟨j + 1, by omega, by go_num, HS3.out⟩
                  case measure => simp [intOf]; omega
              · have hb0 : bitN j b = 0 := by unfold bitN at hbit ⊢; omega
                rw [hb0] at hand
                have hsk : MuS w P M q (nz (mobPart (subN P M) b ys (j + 1))) wr := by rw [mobPart_skip hbit]; exact hS
                have HSK := Lib.hid hsk
                clear hsk hS hbit hb0
                go_wp2_with fail
                go_roundw
                case rel => exact ⟨j + 1, by omega, by go_num, HSK.out⟩
                case measure => simp [intOf]; omega
            · have hjj : j = ys.length := by rw [HYL.out]; omega
              rw [hjj, mobPart_full] at hS
              have hb' : MuS w P M q (nz (mobs (subN P M) (tab01 bs) (b + 1))) wr := by
                show MuS w P M q (nz (mobStep (subN P M) b (mobs (subN P M) (tab01 bs) b))) wr
                rw [HYS.out]; exact hS
              have HB' := Lib.hid hb'
              clear hb' hS HS hjj
              go_wp2_with fail
              go_roundw
              case rel => exact ⟨b + 1, by omega, by go_num, HB'.out⟩
              case measure => simp [intOf]; omega
        · have hbn3 : b = n := by omega
          rw [hbn3] at hS
          have HS3 : Hid (MuS w P M q (nz (mlC P M n bs)) wr) := Lib.hid hS
          have HCL : Hid ((mlC P M n bs).length = k) := Lib.hid (HLN.out n)
          clear hS HLT HLN HNEG HADD hbn3
          obtain ⟨w0, rfl⟩ : ∃ w0 : World, w0 = wr := ⟨_, rfl⟩
          go_wp2_with fail
          go_loopw [11, 12, 13, 14] (fun v iv _ _ W => ∃ (m : Nat) (out : List (Tm × Nat × Value)), m ≤ k ∧ iv = .int .i64 m ∧ out.map Prod.fst = mlF (mlC P M n bs) n m ∧ LisR w0 v out W) (fun _ iv _ _ _ => k - (intOf iv).toNat)
          case atStart => exact ⟨0, [], by omega, rfl, rfl, LisR.start _ _ (Below.refl _ _)⟩
          case round =>
            obtain ⟨m, out, hm, rfl, ho, hA⟩ := hrel
            have HO := Lib.hid ho
            have HA := Lib.hid hA
            have hol : out.length ≤ m := by
              have h1 := congrArg List.length ho
              have h2 := mlF_length (mlC P M n bs) n m
              simp at h1
              omega
            have HOL := Lib.hid hol
            obtain ⟨LA, LC, rfl⟩ := hA.shape
            clear hA ho hol
            by_cases hlt : m < k
            · have hck : (mlC P M n bs)[m]? = some ((mlC P M n bs)[m]?.getD 0) := by
                rw [List.getElem?_eq_getElem (by rw [HCL.out]; exact hlt)]; rfl
              have hcq := mlC_lt hf n bs m
              have HCF : Hid ((mlC P M n bs)[m]?.getD 0 = 0 → mlF (mlC P M n bs) n (m + 1) = mlF (mlC P M n bs) n m) := Lib.hid mlF_skip
              have HCP : Hid (∀ c, (mlC P M n bs)[m]?.getD 0 = c → c ≠ 0 → mlF (mlC P M n bs) n (m + 1) = mlF (mlC P M n bs) n m ++ [(c, bitsL n m)]) := Lib.hid (fun c h1 h2 => mlF_push h1 h2)
              generalize (mlC P M n bs)[m]?.getD 0 = cv at *
              have HCK := Lib.hid hck
              have HI0 : Hid (Below wr.heap.size wr (wr.alloc (intsO (List.replicate n 0))) ∧ (wr.alloc (intsO (List.replicate n 0))).heap[wr.heap.size]? = some (intsO (mixI (List.replicate n 0) (bitN m) (List.range n) 0))) := Lib.hid ⟨below1 _ _, by rw [mixI_zero]; exact alloc_at _ _ _ rfl⟩
              have HXL : Hid ((List.replicate n (0 : Int)).length = n) := Lib.hid (by simp)
              have HRL : Hid ((List.range n).length = n) := Lib.hid (by simp)
              clear hck
              obtain ⟨wo, rfl⟩ : ∃ wo : World, wo = wr := ⟨_, rfl⟩
              go_wp2_with fail
              go_loopw [14] (fun jv W => ∃ j : Nat, j ≤ n ∧ jv = .int .i64 j ∧ Below wo.heap.size wo W ∧ W.heap[wo.heap.size]? = some (intsO (mixI (List.replicate n 0) (bitN m) (List.range n) j))) (fun jv _ => n - (intOf jv).toNat)
              case atStart => exact ⟨0, by omega, rfl, HI0.out⟩
              case round =>
                clear HI0
                obtain ⟨j, hj, rfl, hB, hxg⟩ := hrel
                have HBJ := Lib.hid hB
                by_cases hjn : j < n
                · have hml := mixI_length (f := bitN m) HXL.out HRL.out (Nat.le_of_lt hjn)
                  obtain ⟨y, hy⟩ : ∃ y, (mixI (List.replicate n 0) (bitN m) (List.range n) j)[j]? = some y := ⟨_, List.getElem?_eq_getElem (by omega)⟩
                  obtain ⟨c1, f1⟩ := ints_cell hxg hy
                  have hand := and1_nat (m / 2 ^ j) (by have := Nat.div_le_self m (2 ^ j); omega)
                  have hset := ints_set (j := j) ((bitN m j : Nat) : Int) hxg
                  rw [mixI_succ (f := bitN m) HXL.out HRL.out hjn (by simp [hjn])] at hset
                  have hval : bits .and .i64 ((m : Int) / 2 ^ j) 1 = ((bitN m j : Nat) : Int) := by
                    have hdv : (m : Int) / 2 ^ j = ((m / 2 ^ j : Nat) : Int) := by simp
                    rw [hdv, hand]; rfl
                  rw [← hval] at hset
                  have HSET := Lib.hid hset
                  clear hml hy hxg hB hset hand hval
                  go_wp2_with fail
                  go_roundw
                  case rel => exact ⟨j + 1, by omega, by go_num, HBJ.out.setCell (p := ⟨wo.heap.size, j, none⟩) (Nat.le_refl _) _, HSET.out⟩
                  case measure => simp [intOf]; omega
                · have hjj : j = n := by omega
                  rw [hjj, mixI_full HXL.out HRL.out] at hxg
                  have hA1 : LisR w0 (.slice LA out.length LC) out wr := HA.out.below hB
                  have hsm := HS3.out.step hA1.bel
                  obtain ⟨c1, _⟩ := ints_cell hsm.blk (nz_at HCK.out)
                  have hEB1 : EB wr (.slice (some ⟨wo.heap.size, 0, none⟩) n n) (bitsL n m) := eb_of_ints hxg
                  have HEB1 := Lib.hid hEB1
                  have HA1 := Lib.hid hA1
                  clear hxg hEB1 hsm HA hB
                  by_cases hcv : cv = 0
                  · have d1 : ((cv : Int) != 0) = false := by simp [hcv]
                    have HNX := Lib.hid (HO.out.trans (HCF.out hcv).symm)
                    clear hA1 hcv
                    go_wp2_with fail
                    go_roundw
                    case rel => exact ⟨m + 1, out, by omega, by go_num, HNX.out, HA1.out⟩
                    case measure => simp [intOf]; omega
                  · have d1 : ((cv : Int) != 0) = true := by simp; omega
                    have HNX : Hid ((out ++ [((cv, bitsL n m), wr.heap.size, Value.slice (some ⟨wo.heap.size, 0, none⟩) n n)]).map Prod.fst = mlF (mlC P M n bs) n (m + 1)) := Lib.hid (by rw [HCP.out cv rfl hcv, List.map_append, HO.out]; rfl)
                    have hb1 := below1 wr (.cells #[.int .i64 (cv : Int), .slice (some ⟨wo.heap.size, 0, none⟩) n n] 53)
                    have hA2 := hA1.below hb1
                    have HA2 := Lib.hid hA2
                    have hEB : EB (wr.alloc (.cells #[.int .i64 (cv : Int), .slice (some ⟨wo.heap.size, 0, none⟩) n n] 53)) (.slice (some ⟨wo.heap.size, 0, none⟩) n n) (bitsL n m) := HEB1.out.keep (KeepP.of_below hb1)
                    have HEB := Lib.hid hEB
                    clear hA1 hb1 hA2 hEB hcv HCF HCP
                    go_wp2_with (at_builtin; refine wpList_append_lies _ rfl _ _ 50 rfl w0.heap.size 25 i5 (.slice none 0 0) 1 24 Tryd.underlying50 HI5.out.1 HI5.out.2.1 HI5.out.2.2.1 HI5.out.2.2.2 rfl (by decide) (.slice LA out.length LC) out.length (out.map fun x => .slice (some ⟨x.2.1, 0, none⟩) 1 1) (by first | rfl | simp [Act.eval, Act.put]) (HA2.out.row.alloc _) ⟨wr.heap.size + 1, 0, none⟩ 1 1 [.slice (some ⟨wr.heap.size, 0, none⟩) 1 1] (by first | rfl | simp [Act.eval, Act.put]) rfl (by intro j u hu; have := cell_one_new (wr.alloc (.cells #[.int .i64 (cv : Int), .slice (some ⟨wo.heap.size, 0, none⟩) n n] 53)) (.slice (some ⟨wr.heap.size, 0, none⟩) 1 1) 25 j u hu; simpa using this) (by intro u hu; simp at hu; subst hu; rfl) (by decide) (by have := HOL.out; unfold maxLen; omega) (by have := HOL.out; omega) (by have := HA2.out.bel.size; simp at this ⊢; omega) _ rfl ?_; intro g6 cap6 w6 hown hgrow _ _; have hnew := HA2.out.push (cv, bitsL n m) wr.heap.size (.slice (some ⟨wo.heap.size, 0, none⟩) n n) (alloc_at _ _ _ rfl) HEB.out hown hgrow; have HNEW := Lib.hid hnew; clear hown hgrow hnew)
                    go_roundw
                    case rel => exact ⟨m + 1, out ++ [((cv, bitsL n m), wr.heap.size, .slice (some ⟨wo.heap.size, 0, none⟩) n n)], by omega, by go_num, HNX.out, HNEW.out⟩
                    case measure => simp [intOf]; omega
            · have hkm : m = k := by omega
              have hof : out.map Prod.fst = mlF (mlC P M n bs) n k := by rw [HO.out, hkm]
              have hfl : (out.map fun x => [x.1]).flatten = mlF (mlC P M n bs) n k := by
                rw [← hof]
                have : ∀ l : List (Tm × Nat × Value), (l.map fun x => [x.1]).flatten = l.map Prod.fst := fun l => by
                  induction l with
                  | nil => rfl
                  | cons x l ih => simp only [List.map_cons, List.flatten_cons, ih]; rfl
                exact this out
              have hmem : ∀ x ∈ out, x.1.1 ≠ 0 ∧ ∃ i : Nat, x.1 = ((mlC P M n bs)[i]?.getD 0, bitsL n i) := fun x hx => by
                have h1 : x.1 ∈ out.map Prod.fst := List.mem_map.2 ⟨x, hx, rfl⟩
                rw [hof] at h1
                exact mlF_mem h1
              have hex : ∀ x ∈ out, Ex n x.1.2 := fun x hx => by
                obtain ⟨_, i, e⟩ := hmem x hx
                rw [e]; exact bitsL_ex n i
              have hris : ∀ l ∈ (out.map fun x => [x.1]), Ris q n l ∧ ∀ t ∈ l, Ex n t.2 := fun l hl => by
                obtain ⟨x, hx, rfl⟩ := List.mem_map.1 hl
                obtain ⟨hne, i, e⟩ := hmem x hx
                have hxe := hex x hx
                have hlt2 := mlC_lt hf n bs i
                refine ⟨⟨fun y hy => ?_, fun y hy => ?_, by simp⟩, fun y hy => ?_⟩
                · simp at hy; subst hy
                  have : x.1.1 = (mlC P M n bs)[i]?.getD 0 := by rw [e]
                  omega
                · simp at hy; subst hy; exact hxe.1
                · simp at hy; subst hy; exact hxe
              have hsm := HS3.out.step HA.out.bel
              obtain ⟨b0, b1, b2, b3⟩ := kb_cells hsm.box
              have hml := mlF_length (mlC P M n bs) n k
              have hTot : Calls Tryd.prog 34 #[kitV P M q, .slice LA out.length LC] wr (TotIs q n (addN P M) (mlF (mlC P M n bs) n k) wr) := by
                rcases HA.out.reads (fun x hx => by have := (hex x hx).1; omega) with ⟨he, hv⟩ | ⟨g, c, hv, h1, h2, h3⟩
                · rw [hv]
                  have : mlF (mlC P M n bs) n k = [] := by rw [← hof, he]; rfl
                  rw [this]
                  exact total_nil P M q n wr
                · have hll : (out.map fun x => [x.1]).length = out.length := by simp
                  rw [hll] at hv h1
                  rw [hv, ← hfl]
                  exact total_ok P M q n hf (by omega) out.length _ hll g 0 c wr h1 h2 (by rw [hfl]; omega) hris h3
              have HTOT := Lib.hid hTot
              have HBW : Hid (Below w.heap.size w wr) := Lib.hid hsm.bel
              have HML := Lib.hid hml
              unfold kitV at HTOT
              clear hTot hsm hris hex hmem hfl hof hkm HA hml
              go_wp2_with fail
              refine HTOT.out.mono ?_
              rintro e w6 ⟨⟨r, A, c, rfl, h1, h2, h3, h4, h5⟩, hB⟩
              have HFIN := Lib.hid (show RdP w6 A (tms r) ∧ Ris q n r ∧ (∀ t ∈ r, Ex n t.2) ∧ (∀ x, cfs (addN P M) r x = cfs (addN P M) (mlT (mlC P M n bs) n k) x) ∧ r.length ≤ (mlT (mlC P M n bs) n k).length from ⟨h1, h2, h3, fun x => (h4 x).trans (mlF_cfs hf n k bs x), by rw [mlT_length]; exact Nat.le_trans h5 HML.out⟩)
              have HBF := Lib.hid (HBW.out.trans (hB.mono HBW.out.size))
              clear h1 h2 h3 h4 h5 hB
              go_wp2_with fail
              go_ret
              exact ⟨⟨r, A, c, rfl, HFIN.out.1, HFIN.out.2.1, HFIN.out.2.2.1, HFIN.out.2.2.2.1, HFIN.out.2.2.2.2⟩, HBF.out⟩

set_option maxRecDepth 100000 in
set_option maxHeartbeats 4000000 in
theorem polyMultilinears_any (P M : Int) (v : Value) (bs : List Bool) (w : World) (hL : LayP w) (hv : BoolV w v bs) :
    Calls Tryd.prog 5 #[.agg #[.int .i64 P, .int .i64 M], v] w fun e w' => e = .returned (.bool true) ∧ Below w.heap.size w w' := by
  have HL := Lib.hid hL
  have HAL := Lib.hid (fun W (hW : BoxS w P M W) => alive_ok W (hL.below hW.bel))
  have HS0 := Lib.hid (BoxS.start w P M)
  obtain ⟨A, c, rfl, hrd, hlen⟩ := hv
  have hnum : (bs.length : Int) < 9223372036854775808 := by omega
  have HIN := Lib.hid (fun W => inputs_ok bs.length 12 (by omega) hlen W)
  have HRD := Lib.hid hrd
  by_cases hbig : 9000 < bs.length
  · have d0 : decide ((9000 : Int) < (bs.length : Int)) = true := decide_eq_true (by omega)
    have d0' : decide (9000 < bs.length) = true := decide_eq_true hbig
    generalize bs.length = L at *
    clear hL hrd
    go_enter Tryd.func5, Tryd.ntmps5
    go_wp2_with fail
    refine (HIN.out _).mono ?_
    rintro e w1 ⟨⟨r, rfl, -⟩, hB⟩
    have HS1 := Lib.hid (HS0.out.step hB)
    clear hB HS0
    go_wp2_with fail
    refine (HAL.out _ HS1.out).mono ?_
    rintro e w7 ⟨rfl, hB7⟩
    have HS8 := Lib.hid (HS1.out.step hB7)
    go_wp2_with fail
    go_ret
    exact ⟨rfl, HS8.out.bel⟩
  · have d0 : decide ((9000 : Int) < (bs.length : Int)) = false := decide_eq_false (by omega)
    have d0' : decide (9000 < bs.length) = false := decide_eq_false hbig
    by_cases hOk : OkF P M
    · obtain ⟨P, M, q, rfl, rfl, hf⟩ := hOk.fld
      have HVR := Lib.hid (fun W => validR_ok P M q hf W)
      have HOF := Lib.hid (fun W => of_any P M q hf W)
      by_cases hpow : ∃ n : Nat, n ≤ 12 ∧ bs.length = 2 ^ n
      · obtain ⟨n, hn, hl⟩ := hpow
        have HML := Lib.hid (fun W (hW : BoxS w P M W) => Multilinear_ok P M q n hf hn A c bs hl W (hL.below hW.bel) (hrd.below hW.bel))
        have HMR := Lib.hid (fun W (hW : BoxS w P M W) => mlR_ok P M q n hf hn A c bs hl W (hrd.below hW.bel))
        have HIS := Lib.hid (fun A A2 c c2 r hxr W hr1 hr2 hl hc => is_ok n (by omega) A A2 c c2 r hxr W hr1 hr2 hl hc)
        have HRNG := Lib.hid hf.fl.toRng
        have HQ := Lib.hid hf.q_le
        have HLL := Lib.hid hl
        have dn : decide ((n : Int) < 0) = false := decide_eq_false (by omega)
        generalize hbl : bs.length = L at *
        clear hL hrd hOk hl
        unfold kitV at HOF HMR
        go_enter Tryd.func5, Tryd.ntmps5
        go_wp2_with fail
        refine (HIN.out _).mono ?_
        rintro e w1 ⟨⟨r0, rfl, hr0⟩, hB⟩
        obtain rfl : r0 = (n : Int) := by
          rcases hr0 with ⟨n', h1, rfl, h2⟩ | ⟨_, h2⟩
          · have : (2 : Nat) ^ n' = 2 ^ n := by rw [← h2, HLL.out]
            rcases Nat.lt_trichotomy n' n with h | h | h
            · have := Nat.pow_lt_pow_right (a := 2) (by omega) h
              omega
            · rw [h]
            · have := Nat.pow_lt_pow_right (a := 2) (by omega) h
              omega
          · exact absurd HLL.out (h2 n hn)
        have hs := HS0.out.step hB
        have HS1 := Lib.hid hs
        have c0 := hs.c0
        have c1 := hs.c1
        clear hB HS0 hs hr0
        go_wp2_with fail
        refine (HML.out _ HS1.out).mono ?_
        rintro e w2 ⟨hB2, p', hr1, hr2, hr3, hr4, hcase⟩
        have hs := HS1.out.step hB2
        have HS2 := Lib.hid hs
        have c0 := hs.c0
        have c1 := hs.c1
        have HP1 := Lib.hid hr1
        have HP2 := Lib.hid hr2
        have HP3 := Lib.hid hr3
        have hpl : p'.length ≤ 20000 := by rw [mlT_length, ← HLL.out] at hr4; omega
        rcases hcase with ⟨_, A1, d1, rfl, hr5⟩ | ⟨hbig2, _⟩
        · have HP5 := Lib.hid hr5
          clear hB2 hs HS1 hr1 hr2 hr3 hr4 hr5
          go_wp2_with fail
          refine (HVR.out _).mono ?_
          rintro e w3 ⟨rfl, hB3⟩
          have hs := HS2.out.step hB3
          have HS4 := Lib.hid hs
          have HP6 := Lib.hid (HP5.out.below hB3)
          have c0 := hs.c0
          have c1 := hs.c1
          clear hB3 hs HS2 HP5
          go_wp2_with fail
          refine (HOF.out _).mono ?_
          rintro e w4 ⟨rfl, hB4⟩
          have HS5 := Lib.hid (HS4.out.step hB4)
          have HP7 := Lib.hid (HP6.out.below hB4)
          clear hB4 HS4 HP6
          go_wp2_with fail
          refine (HMR.out _ HS5.out).mono ?_
          rintro e w5 ⟨⟨r, A2, d2, rfl, q1, q2, q3, q4, _⟩, hB5⟩
          obtain rfl : r = p' := q2.ext HRNG.out HP1.out (fun e => (q4 e).trans (HP2.out e).symm)
          have HS6 := Lib.hid (HS5.out.step hB5)
          have hisx := HIS.out A1 A2 d1 d2 r HP3.out w5 (HP7.out.below hB5) q1 (by omega) (fun t ht => by have := (HP1.out.co t ht).2; have := HQ.out; omega)
          have HISX := Lib.hid hisx
          clear hisx hB5 HS5 HP7 q1 q2 q3 q4
          go_wp2_with fail
          refine HISX.out.mono ?_
          rintro e w6 ⟨rfl, hB6⟩
          have HS7 := Lib.hid (HS6.out.step hB6)
          clear hB6 HS6
          go_wp2_with fail
          refine (HAL.out _ HS7.out).mono ?_
          rintro e w7 ⟨rfl, hB7⟩
          have HS8 := Lib.hid (HS7.out.step hB7)
          go_wp2_with fail
          go_ret
          exact ⟨rfl, HS8.out.bel⟩
        · omega
      · have HML := Lib.hid (fun W (hW : BoxS w P M W) => Multilinear_arg P M q hf A bs.length c W (hL.below hW.bel) hlen (fun n h1 h2 => hpow ⟨n, h1, h2⟩))
        have HPOW := Lib.hid hpow
        generalize hbl : bs.length = L at *
        clear hL hrd hOk hpow
        go_enter Tryd.func5, Tryd.ntmps5
        go_wp2_with fail
        refine (HIN.out _).mono ?_
        rintro e w1 ⟨⟨r0, rfl, hr0⟩, hB⟩
        obtain rfl : r0 = -1 := by
          rcases hr0 with ⟨n', h1, rfl, h2⟩ | ⟨h1, _⟩
          · exact absurd ⟨n', h1, h2⟩ HPOW.out
          · exact h1
        have hs := HS0.out.step hB
        have HS1 := Lib.hid hs
        have c0 := hs.c0
        have c1 := hs.c1
        clear hB HS0 hs hr0
        go_wp2_with fail
        refine (HML.out _ HS1.out).mono ?_
        rintro e w2 ⟨rfl, hB2⟩
        have hs := HS1.out.step hB2
        have HS2 := Lib.hid hs
        have c0 := hs.c0
        have c1 := hs.c1
        clear hB2 hs HS1
        go_wp2_with fail
        refine (HVR.out _).mono ?_
        rintro e w3 ⟨rfl, hB3⟩
        have HS3 := Lib.hid (HS2.out.step hB3)
        clear hB3 HS2
        go_wp2_with fail
        refine (is_bad 2 (by omega) _).mono ?_
        rintro e w4 ⟨rfl, rfl⟩
        go_wp2_with fail
        refine (HAL.out _ HS3.out).mono ?_
        rintro e w7 ⟨rfl, hB7⟩
        have HS8 := Lib.hid (HS3.out.step hB7)
        go_wp2_with fail
        go_ret
        exact ⟨rfl, HS8.out.bel⟩
    · have HML := Lib.hid (fun W (hW : BoxS w P M W) => Multilinear_bad P M (.slice A bs.length c) W (hL.below hW.bel) hOk)
      have HVR := Lib.hid (fun W => validR_no P M hOk W)
      generalize hbl : bs.length = L at *
      clear hL hrd hOk
      go_enter Tryd.func5, Tryd.ntmps5
      go_wp2_with fail
      refine (HIN.out _).mono ?_
      rintro e w1 ⟨⟨r0, rfl, -⟩, hB⟩
      have hs := HS0.out.step hB
      have HS1 := Lib.hid hs
      have c0 := hs.c0
      have c1 := hs.c1
      clear hB HS0 hs
      go_wp2_with fail
      refine (HML.out _ HS1.out).mono ?_
      rintro e w2 ⟨rfl, hB2⟩
      have hs := HS1.out.step hB2
      have HS2 := Lib.hid hs
      have c0 := hs.c0
      have c1 := hs.c1
      clear hB2 hs HS1
      go_wp2_with fail
      refine (HVR.out _).mono ?_
      rintro e w3 ⟨rfl, hB3⟩
      have HS3 := Lib.hid (HS2.out.step hB3)
      clear hB3 HS2
      go_wp2_with fail
      refine (is_bad 1 (by omega) _).mono ?_
      rintro e w4 ⟨rfl, rfl⟩
      go_wp2_with fail
      refine (HAL.out _ HS3.out).mono ?_
      rintro e w7 ⟨rfl, hB7⟩
      have HS8 := Lib.hid (HS3.out.step hB7)
      go_wp2_with fail
      go_ret
      exact ⟨rfl, HS8.out.bel⟩
end Go.Proofs.YtflmjdabmnpkjaaDoor
