/-
  Joined from Fnb, Fnc, Fnd: see there.
-/
import Derived.Test.YtcophfhnhlaonaaGreatDoorUv
namespace Go.Proofs.YtcophfhnhlaonaaGreatDoor
set_option linter.unusedVariables false
open Go.RowKit

set_option maxRecDepth 100000 in
set_option maxHeartbeats 4000000 in
theorem shape_ref : ∀ (N : Nat) (t : Tre), SizeOf.sizeOf t < N → ∀ (v : Value) (w : World), TreV 0 w t v → nodT t ≤ 1099511627776 →
    Calls Tryz.prog 45 #[v] w fun e w' => e = .returned (.bool (shN fSh t)) ∧ Below w.heap.size w w' := by
  intro N
  induction N with
  | zero => intro t h; omega
  | succ N ih =>
    intro t htN v w hT hnod
    obtain ⟨k, n, ts⟩ := t
    have hT2 := hT
    unfold TreV at hT2
    obtain ⟨A, c, rfl, hrow⟩ := hT2
    obtain ⟨w0, hw0⟩ : ∃ w0, w0 = w.alloc (.cells #[.int .i64 k, .int .i64 n, .slice A ts.length c] 24) := ⟨_, rfl⟩
    have hb0 : Below w.heap.size w w0 := by rw [hw0]; exact below1 _ _
    have htb : w0.heap[w.heap.size]? = some (.cells #[.int .i64 k, .int .i64 n, .slice A ts.length c] 24 (0, 0)) := by
      rw [hw0]; exact alloc_at _ _ _ rfl
    have hsz0 : w0.heap.size = w.heap.size + 1 := by rw [hw0]; simp
    have HW0 := Lib.hid hw0
    have HB0 := Lib.hid (And.intro hb0 hsz0)
    have HBX := Lib.hid (show ∀ W, Below w0.heap.size w0 W → (W.cell? ⟨w.heap.size, 0, none⟩ = some (.int .i64 k) ∧ W.cell? ⟨w.heap.size, 1, none⟩ = some (.int .i64 n) ∧ W.cell? ⟨w.heap.size, 2, none⟩ = some (.slice A ts.length c)) from fun W ho => (blk3_cells ((ho.block _ (by omega)).trans htb)).1)
    have HBW : Hid (∀ W, Below w0.heap.size w0 W → Below w.heap.size w W) := Lib.hid (fun W ho => hb0.trans (ho.mono hb0.size))
    have HIH := Lib.hid ih
    have HROW := Lib.hid hrow
    have HTN := Lib.hid htN
    have hlen : ts.length ≤ 1099511627776 := by have := nodL_len ts; unfold nodT at hnod; omega
    have HNL := Lib.hid (show nodL ts + 1 ≤ 1099511627776 from by unfold nodT at hnod; exact hnod)
    have HD : Hid (shN fSh (.mk k n ts) = (shL fSh ts && permN fSh k n ts.length)) := Lib.hid rfl
    have HC := Lib.hid (fun W => Shape_ref k n ts.length W)
    obtain ⟨c0, c1, c2⟩ := HBX.out w0 (Below.refl _ _)
    clear ih htb hb0 hw0 hsz0 hrow htN hT hnod
    go_enter Tryz.func45, Tryz.ntmps45
    go_wp2_with fail
    rw [← HW0.out]
    go_loopw [3] (fun iv W => ∃ i : Nat, i ≤ ts.length ∧ iv = .int .i64 i ∧ shL fSh (ts.take i) = true ∧ Below w0.heap.size w0 W) (fun iv _ => ts.length - (intOf iv).toNat)
    case atStart => exact ⟨0, by omega, rfl, by simp [shL], Below.refl _ _⟩
    case round =>
      obtain ⟨i, hi, rfl, hq, hB⟩ := hrel
      have HB := Lib.hid hB
      have HQ := Lib.hid hq
      obtain ⟨c0, c1, c2⟩ := HBX.out _ hB
      clear hq hB
      by_cases hil : i < ts.length
      · have d1 : decide ((i : Int) < (ts.length : Int)) = true := decide_eq_true (by omega)
        have d1' : decide (i < ts.length) = true := decide_eq_true hil
        obtain ⟨t, ht⟩ : ∃ t, ts[i]? = some t := ⟨_, List.getElem?_eq_getElem hil⟩
        obtain ⟨b, off, x, y, z, rfl, _, e0, e1, e2, hTt⟩ := ((HROW.out.keep (KeepB.of_below 0 (HBW.out _ HB.out)))).at ht
        have hnt := nodL_mem (List.mem_of_getElem? ht)
        have hnl := HNL.out
        have HCALL := Lib.hid (HIH.out t (Nat.lt_of_lt_of_le (kid_size (List.mem_of_getElem? ht)) (Nat.le_of_lt_succ HTN.out)) _ wr hTt (by omega))
        have HNX : Hid (shL fSh (ts.take (i + 1)) = shN fSh t) := Lib.hid (shL_next ht HQ.out)
        rw [Nat.zero_add] at e0 e1 e2
        clear hTt ht hnt hnl
        go_wp2_with fail
        refine HCALL.out.mono ?_
        rintro e w2 ⟨rfl, hB2⟩
        have HB2 := Lib.hid (HB.out.trans (hB2.mono HB.out.size))
        clear hB2
        cases hst : shN fSh t with
        | true =>
          rw [hst] at HNX
          clear hst
          go_wp2_with fail
          go_roundw
          case rel => exact ⟨i + 1, by omega, by go_num, HNX.out, HB2.out⟩
          case measure => simp [intOf]; omega
        | false =>
          rw [hst] at HNX
          have HE : Hid (shN fSh (.mk k n ts) = false) := Lib.hid (by rw [HD.out, shL_dead HNX.out]; rfl)
          clear hst
          go_wp2_with fail
          go_ret
          exact ⟨by rw [HE.out]; rfl, HBW.out _ HB2.out⟩
      · have d1 : decide ((i : Int) < (ts.length : Int)) = false := decide_eq_false (by omega)
        have d1' : decide (i < ts.length) = false := decide_eq_false hil
        have HE : Hid (shN fSh (.mk k n ts) = permN fSh k n ts.length) := Lib.hid (by
          have h := HQ.out
          rw [List.take_of_length_le (by omega)] at h
          rw [HD.out, h]; rfl)
        go_wp2_with fail
        refine (HC.out _).mono ?_
        rintro e w2 ⟨rfl, hB2⟩
        have HB2 := Lib.hid (HB.out.trans (hB2.mono HB.out.size))
        clear hB2
        go_wp2_with fail
        go_ret
        exact ⟨by rw [HE.out]; rfl, HBW.out _ HB2.out⟩

set_option maxRecDepth 100000 in
set_option maxHeartbeats 4000000 in
theorem Count_ref : ∀ (N : Nat) (t : Tre), SizeOf.sizeOf t < N → ∀ (v : Value) (m : Nat) (w : World), TreV 0 w t v → nodT t ≤ 1099511627776 → m ≤ 1001 →
    Calls Tryz.prog 13 #[v, .int .i64 (m : Int)] w fun e w' => e = .returned (.tuple #[.int .i64 ((cntN t m).1 : Nat), .int .i64 ((cntN t m).2 : Nat)]) ∧ Below w.heap.size w w' := by
  intro N
  induction N with
  | zero => intro t h; omega
  | succ N ih =>
    intro t htN v m w hT hnod hm
    obtain ⟨k, n, ts⟩ := t
    have hT2 := hT
    unfold TreV at hT2
    obtain ⟨A, c, rfl, hrow⟩ := hT2
    obtain ⟨w0, hw0⟩ : ∃ w0, w0 = w.alloc (.cells #[.int .i64 k, .int .i64 n, .slice A ts.length c] 24) := ⟨_, rfl⟩
    have hb0 : Below w.heap.size w w0 := by rw [hw0]; exact below1 _ _
    have htb : w0.heap[w.heap.size]? = some (.cells #[.int .i64 k, .int .i64 n, .slice A ts.length c] 24 (0, 0)) := by
      rw [hw0]; exact alloc_at _ _ _ rfl
    have hsz0 : w0.heap.size = w.heap.size + 1 := by rw [hw0]; simp
    have HW0 := Lib.hid hw0
    have HB0 := Lib.hid (And.intro hb0 hsz0)
    have HBX := Lib.hid (show ∀ W, Below w0.heap.size w0 W → (W.cell? ⟨w.heap.size, 0, none⟩ = some (.int .i64 k) ∧ W.cell? ⟨w.heap.size, 1, none⟩ = some (.int .i64 n) ∧ W.cell? ⟨w.heap.size, 2, none⟩ = some (.slice A ts.length c)) from fun W ho => (blk3_cells ((ho.block _ (by omega)).trans htb)).1)
    have HBW : Hid (∀ W, Below w0.heap.size w0 W → Below w.heap.size w W) := Lib.hid (fun W ho => hb0.trans (ho.mono hb0.size))
    have HIH := Lib.hid ih
    have HROW := Lib.hid hrow
    have HTN := Lib.hid htN
    have hlen : ts.length ≤ 1099511627776 := by have := nodL_len ts; unfold nodT at hnod; omega
    have HNL := Lib.hid (show nodL ts + 1 ≤ 1099511627776 from by unfold nodT at hnod; exact hnod)
    obtain ⟨c0, c1, c2⟩ := HBX.out w0 (Below.refl _ _)
    clear ih htb hb0 hw0 hsz0 hrow htN hT hnod
    go_enter Tryz.func13, Tryz.ntmps13
    by_cases h1 : 1 < m
    · have d0 : decide ((1 : Int) < (m : Int)) = true := decide_eq_true (by omega)
      have d0' : decide (1 < m) = true := decide_eq_true h1
      have em : ((m - 1 : Nat) : Int) = (m : Int) - 1 := by omega
      have EM := Lib.hid em
      have HD : Hid (cntN (.mk k n ts) m = ((cntL ts (m - 1) 1 0).1, (cntL ts (m - 1) 1 0).2 + 1)) := Lib.hid (by unfold cntN; exact if_pos h1)
      have HM1 := Lib.hid (show m - 1 ≤ 1001 by omega)
      clear em
      go_wp2_with fail
      rw [← HW0.out]
      go_loopw [6, 7, 8, 9, 10, 24] (fun nv dv iv _ _ _ W => ∃ i q d : Nat, i ≤ ts.length ∧ iv = .int .i64 i ∧ nv = .int .i64 (q : Int) ∧ dv = .int .i64 (d : Int) ∧ cntL (ts.take i) (m - 1) 1 0 = (q, d) ∧ Below w0.heap.size w0 W) (fun _ _ iv _ _ _ _ => ts.length - (intOf iv).toNat)
      case atStart => exact ⟨0, 1, 0, by omega, rfl, rfl, rfl, by simp [cntL], Below.refl _ _⟩
      case round =>
        obtain ⟨i, q, d, hi, rfl, rfl, rfl, hq, hB⟩ := hrel
        have HB := Lib.hid hB
        have HQ := Lib.hid hq
        obtain ⟨c0, c1, c2⟩ := HBX.out _ hB
        have hle := cntL_le (ts.take i) (m - 1) 1 0
        have htk := nodL_take ts i
        have hnl := HNL.out
        rw [hq] at hle
        have hq40 : q ≤ 1099511627776 := by have := hle.2.1; simp only at this; omega
        have hd40 : d ≤ 1099511627776 := by have := hle.2.2; simp only at this; omega
        clear hq hB hle htk hnl
        by_cases hil : i < ts.length
        · have d1 : decide ((i : Int) < (ts.length : Int)) = true := decide_eq_true (by omega)
          have d1' : decide (i < ts.length) = true := decide_eq_true hil
          by_cases hqL : q ≤ 20000
          · have d2 : decide ((q : Int) ≤ 20000) = true := decide_eq_true (by omega)
            have d2' : decide (q ≤ 20000) = true := decide_eq_true hqL
            obtain ⟨t, ht⟩ : ∃ t, ts[i]? = some t := ⟨_, List.getElem?_eq_getElem hil⟩
            obtain ⟨b, off, x, y, z, rfl, _, e0, e1, e2, hTt⟩ := ((HROW.out.keep (KeepB.of_below 0 (HBW.out _ HB.out)))).at ht
            have hnt := nodL_mem (List.mem_of_getElem? ht)
            have hnl := HNL.out
            have hcl := cntN_le t (m - 1)
            have hx40 : (cntN t (m - 1)).1 ≤ 1099511627776 := by omega
            have hcall := HIH.out t (Nat.lt_of_lt_of_le (kid_size (List.mem_of_getElem? ht)) (Nat.le_of_lt_succ HTN.out)) _ (m - 1) wr hTt (by omega) HM1.out
            rw [EM.out] at hcall
            have HCALL := Lib.hid hcall
            have HNX : Hid (cntL (ts.take (i + 1)) (m - 1) 1 0 = (q + (cntN t (m - 1)).1, max d (cntN t (m - 1)).2)) := Lib.hid (cntL_next ht HQ.out hqL)
            rw [Nat.zero_add] at e0 e1 e2
            clear hTt ht hnt hnl hcl hcall
            go_wp2_with fail
            refine HCALL.out.mono ?_
            rintro e w2 ⟨rfl, hB2⟩
            have HB2 := Lib.hid (HB.out.trans (hB2.mono HB.out.size))
            clear hB2
            generalize cntN t (m - 1) = xy at *
            obtain ⟨x', y'⟩ := xy
            have hx41 : x' ≤ 1099511627776 := hx40
            go_wp2_with fail
            go_roundw
            case rel => exact ⟨i + 1, q + x', max d y', by omega, by go_num, by first | rfl | go_num, by first | rfl | (simp; omega) | (congr 1; omega), HNX.out, HB2.out⟩
            case measure => simp [intOf]; omega
          · have d2 : decide ((q : Int) ≤ 20000) = false := decide_eq_false (by omega)
            have d2' : decide (q ≤ 20000) = false := decide_eq_false hqL
            have HE : Hid (cntN (.mk k n ts) m = (q, d + 1)) := Lib.hid (by rw [HD.out, cntL_dead HQ.out hqL])
            go_wp2_with fail
            go_ret2
            exact ⟨by rw [HE.out]; rfl, HBW.out _ HB.out⟩
        · have d1 : decide ((i : Int) < (ts.length : Int)) = false := decide_eq_false (by omega)
          have d1' : decide (i < ts.length) = false := decide_eq_false hil
          have HE : Hid (cntN (.mk k n ts) m = (q, d + 1)) := Lib.hid (by
            have h := HQ.out
            rw [List.take_of_length_le (by omega)] at h
            rw [HD.out, h])
          go_wp2_with fail
          go_ret2
          exact ⟨by rw [HE.out]; rfl, HBW.out _ HB.out⟩
    · have d0 : decide ((1 : Int) < (m : Int)) = false := decide_eq_false (by omega)
      have d0' : decide (1 < m) = false := decide_eq_false h1
      by_cases hl0 : 0 < ts.length
      · have d1 : decide ((0 : Int) < (ts.length : Int)) = true := decide_eq_true (by omega)
        have d1' : decide (0 < ts.length) = true := decide_eq_true hl0
        have HE : Hid (cntN (.mk k n ts) m = (1, 2)) := Lib.hid (by unfold cntN; rw [if_neg h1, if_pos hl0])
        go_wp2_with fail
        rw [← HW0.out]
        go_ret2
        exact ⟨by rw [HE.out]; rfl, HB0.out.1⟩
      · have d1 : decide ((0 : Int) < (ts.length : Int)) = false := decide_eq_false (by omega)
        have d1' : decide (0 < ts.length) = false := decide_eq_false hl0
        have HE : Hid (cntN (.mk k n ts) m = (1, 1)) := Lib.hid (by unfold cntN; rw [if_neg h1, if_neg hl0])
        go_wp2_with fail
        rw [← HW0.out]
        go_ret2
        exact ⟨by rw [HE.out]; rfl, HB0.out.1⟩
end Go.Proofs.YtcophfhnhlaonaaGreatDoor
namespace Go.Proofs.YtcophfhnhlaonaaGreatDoor
set_option linter.unusedVariables false
open Go.RowKit

set_option maxRecDepth 100000 in
set_option maxHeartbeats 4000000 in
theorem Inputs_ref : ∀ (N : Nat) (t : Tre), SizeOf.sizeOf t < N → ∀ (v : Value) (w : World), TreV 0 w t v → nodT t ≤ 1099511627776 → shN fSh t = true →
    Calls Tryz.prog 12 #[v] w fun e w' => e = .returned (.int .i64 (inpT t : Nat)) ∧ Below w.heap.size w w' := by
  intro N
  induction N with
  | zero => intro t h; omega
  | succ N ih =>
    intro t htN v w hT hnod hsh
    obtain ⟨k, n, ts⟩ := t
    have hT2 := hT
    unfold TreV at hT2
    obtain ⟨A, c, rfl, hrow⟩ := hT2
    obtain ⟨w0, hw0⟩ : ∃ w0, w0 = w.alloc (.cells #[.int .i64 k, .int .i64 n, .slice A ts.length c] 24) := ⟨_, rfl⟩
    have hb0 : Below w.heap.size w w0 := by rw [hw0]; exact below1 _ _
    have htb : w0.heap[w.heap.size]? = some (.cells #[.int .i64 k, .int .i64 n, .slice A ts.length c] 24 (0, 0)) := by
      rw [hw0]; exact alloc_at _ _ _ rfl
    have hsz0 : w0.heap.size = w.heap.size + 1 := by rw [hw0]; simp
    have HW0 := Lib.hid hw0
    have HB0 := Lib.hid (And.intro hb0 hsz0)
    have HBX := Lib.hid (show ∀ W, Below w0.heap.size w0 W → (W.cell? ⟨w.heap.size, 0, none⟩ = some (.int .i64 k) ∧ W.cell? ⟨w.heap.size, 1, none⟩ = some (.int .i64 n) ∧ W.cell? ⟨w.heap.size, 2, none⟩ = some (.slice A ts.length c)) from fun W ho => (blk3_cells ((ho.block _ (by omega)).trans htb)).1)
    have HBW : Hid (∀ W, Below w0.heap.size w0 W → Below w.heap.size w W) := Lib.hid (fun W ho => hb0.trans (ho.mono hb0.size))
    have HIH := Lib.hid ih
    have HROW := Lib.hid hrow
    have HTN := Lib.hid htN
    have hlen : ts.length ≤ 1099511627776 := by have := nodL_len ts; unfold nodT at hnod; omega
    have HNL := Lib.hid (show nodL ts + 1 ≤ 1099511627776 from by unfold nodT at hnod; exact hnod)
    have hsh2 := hsh
    rw [shN, Bool.and_eq_true] at hsh2
    have HSHM := Lib.hid (fun t ht => shL_mem hsh2.1 (t := t) ht)
    have HKN : Hid (k = 0 → 0 ≤ n ∧ n < 16) := Lib.hid (by
      intro h
      obtain ⟨s, hs, a1, a2, a3, a4⟩ := permN_of hsh2.2
      rw [h] at hs
      cases hs
      exact ⟨a2, a3⟩)
    obtain ⟨c0, c1, c2⟩ := HBX.out w0 (Below.refl _ _)
    clear ih htb hb0 hw0 hsz0 hrow htN hT hnod hsh hsh2
    go_enter Tryz.func12, Tryz.ntmps12
    by_cases hk : k = 0
    · have dk : ((k : Int) == 0) = true := by simp [hk]
      obtain ⟨n0, n1⟩ := HKN.out hk
      obtain ⟨u, rfl⟩ : ∃ u : Nat, n = u := ⟨n.toNat, by omega⟩
      have hu : u < 16 := by omega
      have HD : Hid (inpT (.mk k u ts) = inpL ts (u + 1)) := Lib.hid (by unfold inpT; rw [if_pos hk]; congr 1)
      clear hk n0 n1
      go_wp2_with fail
      rw [← HW0.out]
      go_loopw [3, 4] (fun av iv W => ∃ i q : Nat, i ≤ ts.length ∧ iv = .int .i64 i ∧ av = .int .i64 (q : Int) ∧ inpL (ts.take i) (u + 1) = q ∧ Below w0.heap.size w0 W) (fun _ iv _ => ts.length - (intOf iv).toNat)
      case atStart => exact ⟨0, (u + 1), by omega, rfl, by go_num, by simp [inpL], Below.refl _ _⟩
      case round =>
        obtain ⟨i, q, hi, rfl, rfl, hq, hB⟩ := hrel
        have HB := Lib.hid hB
        have HQ := Lib.hid hq
        obtain ⟨c0, c1, c2⟩ := HBX.out _ hB
        clear hq hB
        by_cases hil : i < ts.length
        · have d1 : decide ((i : Int) < (ts.length : Int)) = true := decide_eq_true (by omega)
          have d1' : decide (i < ts.length) = true := decide_eq_true hil
          obtain ⟨t, ht⟩ : ∃ t, ts[i]? = some t := ⟨_, List.getElem?_eq_getElem hil⟩
          obtain ⟨b, off, x, y, z, rfl, _, e0, e1, e2, hTt⟩ := ((HROW.out.keep (KeepB.of_below 0 (HBW.out _ HB.out)))).at ht
          have hnt := nodL_mem (List.mem_of_getElem? ht)
          have hnl := HNL.out
          have HCALL := Lib.hid (HIH.out t (Nat.lt_of_lt_of_le (kid_size (List.mem_of_getElem? ht)) (Nat.le_of_lt_succ HTN.out)) _ wr hTt (by omega) (HSHM.out t (List.mem_of_getElem? ht)))
          have HNX : Hid (inpL (ts.take (i + 1)) (u + 1) = max q (inpT t)) := Lib.hid (by rw [inpL_next ht, HQ.out])
          rw [Nat.zero_add] at e0 e1 e2
          clear hTt ht hnt hnl
          go_wp2_with fail
          refine HCALL.out.mono ?_
          rintro e w2 ⟨rfl, hB2⟩
          have HB2 := Lib.hid (HB.out.trans (hB2.mono HB.out.size))
          clear hB2
          go_wp2_with fail
          go_roundw
          case rel => exact ⟨i + 1, max q (inpT t), by omega, by go_num, by first | rfl | (simp; omega) | (congr 1; omega), HNX.out, HB2.out⟩
          case measure => simp [intOf]; omega
        · have d1 : decide ((i : Int) < (ts.length : Int)) = false := decide_eq_false (by omega)
          have d1' : decide (i < ts.length) = false := decide_eq_false hil
          have HE2 : Hid (inpT (.mk k u ts) = q) := Lib.hid (by rw [HD.out, ← HQ.out, List.take_of_length_le (by omega)])
          go_wp2_with fail
          go_ret
          exact ⟨by rw [HE2.out]; rfl, HBW.out _ HB.out⟩
    · have dk : ((k : Int) == 0) = false := by simp [hk]
      have HD : Hid (inpT (.mk k n ts) = inpL ts 0) := Lib.hid (by unfold inpT; rw [if_neg hk])
      clear hk
      go_wp2_with fail
      rw [← HW0.out]
      go_loopw [3, 4] (fun av iv W => ∃ i q : Nat, i ≤ ts.length ∧ iv = .int .i64 i ∧ av = .int .i64 (q : Int) ∧ inpL (ts.take i) 0 = q ∧ Below w0.heap.size w0 W) (fun _ iv _ => ts.length - (intOf iv).toNat)
      case atStart => exact ⟨0, 0, by omega, rfl, rfl, by simp [inpL], Below.refl _ _⟩
      case round =>
        obtain ⟨i, q, hi, rfl, rfl, hq, hB⟩ := hrel
        have HB := Lib.hid hB
        have HQ := Lib.hid hq
        obtain ⟨c0, c1, c2⟩ := HBX.out _ hB
        clear hq hB
        by_cases hil : i < ts.length
        · have d1 : decide ((i : Int) < (ts.length : Int)) = true := decide_eq_true (by omega)
          have d1' : decide (i < ts.length) = true := decide_eq_true hil
          obtain ⟨t, ht⟩ : ∃ t, ts[i]? = some t := ⟨_, List.getElem?_eq_getElem hil⟩
          obtain ⟨b, off, x, y, z, rfl, _, e0, e1, e2, hTt⟩ := ((HROW.out.keep (KeepB.of_below 0 (HBW.out _ HB.out)))).at ht
          have hnt := nodL_mem (List.mem_of_getElem? ht)
          have hnl := HNL.out
          have HCALL := Lib.hid (HIH.out t (Nat.lt_of_lt_of_le (kid_size (List.mem_of_getElem? ht)) (Nat.le_of_lt_succ HTN.out)) _ wr hTt (by omega) (HSHM.out t (List.mem_of_getElem? ht)))
          have HNX : Hid (inpL (ts.take (i + 1)) 0 = max q (inpT t)) := Lib.hid (by rw [inpL_next ht, HQ.out])
          rw [Nat.zero_add] at e0 e1 e2
          clear hTt ht hnt hnl
          go_wp2_with fail
          refine HCALL.out.mono ?_
          rintro e w2 ⟨rfl, hB2⟩
          have HB2 := Lib.hid (HB.out.trans (hB2.mono HB.out.size))
          clear hB2
          go_wp2_with fail
          go_roundw
          case rel => exact ⟨i + 1, max q (inpT t), by omega, by go_num, by first | rfl | (simp; omega) | (congr 1; omega), HNX.out, HB2.out⟩
          case measure => simp [intOf]; omega
        · have d1 : decide ((i : Int) < (ts.length : Int)) = false := decide_eq_false (by omega)
          have d1' : decide (i < ts.length) = false := decide_eq_false hil
          have HE2 : Hid (inpT (.mk k n ts) = q) := Lib.hid (by rw [HD.out, ← HQ.out, List.take_of_length_le (by omega)])
          go_wp2_with fail
          go_ret
          exact ⟨by rw [HE2.out]; rfl, HBW.out _ HB.out⟩

set_option maxRecDepth 100000 in
set_option maxHeartbeats 4000000 in
theorem Valid_ref (t : Tre) (v : Value) (w : World) (hT : TreV 0 w t v) (hnod : nodT t ≤ 1099511627776) :
    Calls Tryz.prog 10 #[v] w fun e w' => e = .returned (.bool (decide ((cntN t 1001).1 ≤ 20000) && decide ((cntN t 1001).2 ≤ 1000) && shN fSh t)) ∧ Below w.heap.size w w' := by
  obtain ⟨k, n, ts⟩ := t
  have hT2 := hT
  unfold TreV at hT2
  obtain ⟨A, c, rfl, hrow⟩ := hT2
  have hb0 := below1 w (.cells #[.int .i64 k, .int .i64 n, .slice A ts.length c] 24)
  have htb := alloc_at w (.cells #[.int .i64 k, .int .i64 n, .slice A ts.length c] 24) _ rfl
  have hc := Count_ref _ (.mk k n ts) (Nat.lt_succ_self _) _ 1001 _ (TreV.below hT hb0) hnod (Nat.le_refl _)
  rw [show ((1001 : Nat) : Int) = 1001 from rfl] at hc
  obtain ⟨⟨x, y⟩, hxy⟩ : ∃ xy, cntN (.mk k n ts) 1001 = xy := ⟨_, rfl⟩
  rw [hxy] at hc
  have HXY := Lib.hid hxy
  have HC := Lib.hid hc
  have HS := Lib.hid (fun W (hW : Below w.heap.size w W) => shape_ref _ (.mk k n ts) (Nat.lt_succ_self _) _ W (TreV.below hT hW) hnod)
  have HB := Lib.hid (And.intro hb0 htb)
  obtain ⟨⟨c0, c1, c2⟩, _⟩ := blk3_cells htb
  clear hT hb0 hrow htb hnod hc hxy
  go_enter Tryz.func10, Tryz.ntmps10
  go_wp2_with fail
  refine HC.out.mono ?_
  generalize w.alloc (.cells #[.int .i64 k, .int .i64 n, .slice A ts.length c] 24) = w0 at *
  rintro e w2 ⟨rfl, hB2⟩
  obtain ⟨hb0, htb⟩ := HB.out
  have hb2 := hb0.trans (hB2.mono hb0.size)
  obtain ⟨⟨e0, e1, e2⟩, _⟩ := blk3_cells ((hB2.block _ (Array.getElem?_eq_some_iff.1 htb).1).trans htb)
  have HB2 := Lib.hid hb2
  have HS2 := Lib.hid (HS.out w2 hb2)
  clear hB2 hb2 hb0 htb
  by_cases hx : x ≤ 20000
  · have d1 : decide ((x : Int) ≤ 20000) = true := decide_eq_true (by omega)
    have d1' : decide (x ≤ 20000) = true := decide_eq_true hx
    by_cases hy : y ≤ 1000
    · have d2 : decide ((y : Int) ≤ 1000) = true := decide_eq_true (by omega)
      have d2' : decide (y ≤ 1000) = true := decide_eq_true hy
      go_wp2_with fail
      refine HS2.out.mono ?_
      rintro e w3 ⟨rfl, hB3⟩
      have HB3 := Lib.hid (HB2.out.trans (hB3.mono HB2.out.size))
      clear hB3
      go_wp2_with fail
      go_ret
      exact ⟨by rw [HXY.out]; show _ = Ending.returned (Value.bool (decide (x ≤ 20000) && decide (y ≤ 1000) && shN fSh (.mk k n ts))); rw [d1', d2']; first | rfl | (simp; done), HB3.out⟩
    · have d2 : decide ((y : Int) ≤ 1000) = false := decide_eq_false (by omega)
      have d2' : decide (y ≤ 1000) = false := decide_eq_false hy
      go_wp2_with fail
      go_ret
      exact ⟨by rw [HXY.out]; show _ = Ending.returned (Value.bool (decide (x ≤ 20000) && decide (y ≤ 1000) && shN fSh (.mk k n ts))); rw [d1', d2']; rfl, HB2.out⟩
  · have d1 : decide ((x : Int) ≤ 20000) = false := decide_eq_false (by omega)
    have d1' : decide (x ≤ 20000) = false := decide_eq_false hx
    go_wp2_with fail
    go_ret
    exact ⟨by rw [HXY.out]; show _ = Ending.returned (Value.bool (decide (x ≤ 20000) && decide (y ≤ 1000) && shN fSh (.mk k n ts))); rw [d1']; rfl, HB2.out⟩
end Go.Proofs.YtcophfhnhlaonaaGreatDoor
namespace Go.Proofs.YtcophfhnhlaonaaGreatDoor
set_option linter.unusedVariables false
open Go.RowKit

mutual
def nestT : Tre → Nat
  | .mk _ _ ts => nestL ts + 1
def nestL : List Tre → Nat
  | [] => 0
  | t :: ts => max (nestT t) (nestL ts)
end
theorem inpL_max : ∀ (ts : List Tre) (a b : Nat), inpL ts (max a b) = max a (inpL ts b)
  | [], a, b => by simp [inpL]
  | t :: ts, a, b => by rw [inpL, inpL, Nat.max_assoc, inpL_max ts a]
mutual
theorem visN_some {sh : List Sh} : ∀ (t : Tre) (nest : Nat) (m m' : Ms) (d : Nat), m.nodes ≤ 20000 → visN sh t nest m = (some d, m') →
    m' = ⟨m.nodes + nodT t, max m.inputs (inpT t), m.size + sizT t⟩ ∧ d = depT sh t ∧ shN sh t = true ∧ nest + nestT t ≤ 1001 ∧ m.nodes + nodT t ≤ 20000
  | .mk k n ts, nest, m, m', d, hm, h => by
    rw [visN] at h
    split at h
    · simp at h
    · rename_i hc
      have hp : permN sh k n ts.length = true := by
        cases hp : permN sh k n ts.length
        · exact absurd (.inr (.inr hp)) hc
        · rfl
      split at h
      · simp at h
      · rename_i d1 m1 hv
        simp only [Prod.mk.injEq, Option.some.injEq] at h
        obtain ⟨rfl, rfl⟩ := h
        obtain ⟨e1, e2, e3, e4, e5⟩ := visL_some ts (nest + 1) _ m1 0 d1 (by show m.nodes + 1 ≤ 20000; omega) hv
        have hin : max (if k = 0 then max m.inputs (n + 1).toNat else m.inputs) (inpL ts 0) = max m.inputs (inpL ts (if k = 0 then (n + 1).toNat else 0)) := by
          split
          · rw [Nat.max_assoc, ← inpL_max, Nat.max_zero]
          · rfl
        have hsz : (if ts.length = 0 then m.size + 1 else m.size) + sizL ts = m.size + (if ts.length = 0 then 1 else sizL ts) := by
          split
          · rename_i hl
            rw [List.length_eq_zero_iff.1 hl, sizL]
          · rfl
        refine ⟨?_, ?_, ?_, ?_, ?_⟩
        · rw [e1]
          unfold nodT inpT sizT Ms.step
          simp only [Ms.mk.injEq]
          refine ⟨by omega, hin, hsz⟩
        · rw [e2]; unfold depT; rfl
        · rw [shN, e3, hp]; rfl
        · unfold nestT
          rcases e4 with e4 | e4
          · omega
          · rw [e4, nestL]
            have : ¬ 1000 < nest := fun h => hc (.inr (.inl h))
            omega
        · have h5 : m.nodes + 1 + nodL ts ≤ 20000 := e5
          unfold nodT
          omega
theorem visL_some {sh : List Sh} : ∀ (ts : List Tre) (nest : Nat) (m m' : Ms) (d d' : Nat), m.nodes ≤ 20000 → visL sh ts nest m d = (some d', m') →
    m' = ⟨m.nodes + nodL ts, max m.inputs (inpL ts 0), m.size + sizL ts⟩ ∧ d' = depL sh ts d ∧ shL sh ts = true ∧ (nest + nestL ts ≤ 1001 ∨ ts = []) ∧ m.nodes + nodL ts ≤ 20000
  | [], nest, m, m', d, d', hm, h => by
    simp only [visL, Prod.mk.injEq, Option.some.injEq] at h
    obtain ⟨rfl, rfl⟩ := h
    refine ⟨by simp [nodL, inpL, sizL], by simp [depL], rfl, .inr rfl, by simp [nodL]; exact hm⟩
  | t :: ts, nest, m, m', d, d', hm, h => by
    rw [visL] at h
    split at h
    · simp at h
    · rename_i x m1 hv
      obtain ⟨a1, a2, a3, a4, a5⟩ := visN_some t nest m m1 x hm hv
      obtain ⟨b1, b2, b3, b4, b5⟩ := visL_some ts nest m1 m' (max d x) d' (by rw [a1]; exact a5) h
      rw [a1] at b1 b5
      refine ⟨?_, ?_, ?_, ?_, ?_⟩
      · rw [b1]
        simp only [nodL, sizL, inpL, Ms.mk.injEq]
        refine ⟨by omega, ?_, by omega⟩
        rw [Nat.zero_max, Nat.max_assoc, ← inpL_max ts (inpT t) 0, Nat.max_zero]
      · rw [b2, depL, a2]
      · rw [shL, a3, b3]; rfl
      · left
        rw [nestL]
        rcases b4 with b4 | b4
        · omega
        · rw [b4, nestL]; omega
      · have h5 : m.nodes + nodT t + nodL ts ≤ 20000 := b5
        rw [nodL]; omega
end
mutual
theorem visN_of {sh : List Sh} : ∀ (t : Tre) (nest : Nat) (m : Ms), m.nodes + nodT t ≤ 20000 → nest + nestT t ≤ 1001 → shN sh t = true → ∃ d m', visN sh t nest m = (some d, m')
  | .mk k n ts, nest, m, hn, hd, hs => by
    rw [nodT] at hn
    rw [nestT] at hd
    rw [shN, Bool.and_eq_true] at hs
    obtain ⟨d, m', h⟩ := visL_of ts (nest + 1) (Ms.step { m with nodes := m.nodes + 1 } k n ts.length) 0 (by show m.nodes + 1 + nodL ts ≤ 20000; omega) (by omega) hs.1
    rw [visN, if_neg (by rintro (h | h | h); omega; omega; rw [hs.2] at h; cases h), h]
    exact ⟨_, _, rfl⟩
theorem visL_of {sh : List Sh} : ∀ (ts : List Tre) (nest : Nat) (m : Ms) (d : Nat), m.nodes + nodL ts ≤ 20000 → nest + nestL ts ≤ 1001 → shL sh ts = true → ∃ d' m', visL sh ts nest m d = (some d', m')
  | [], nest, m, d, _, _, _ => ⟨d, m, by rw [visL]⟩
  | t :: ts, nest, m, d, hn, hd, hs => by
    rw [nodL] at hn
    rw [nestL] at hd
    rw [shL, Bool.and_eq_true] at hs
    obtain ⟨x, m1, h1⟩ := visN_of t nest m (by omega) (by omega) hs.1
    have h1' := (visN_some t nest m m1 x (by omega) h1).1
    obtain ⟨d', m', h2⟩ := visL_of ts nest m1 (max d x) (by rw [h1']; show m.nodes + nodT t + nodL ts ≤ 20000; omega) (by omega) hs.2
    rw [visL, h1]
    exact ⟨d', m', h2⟩
end
theorem nestT_pos : ∀ t : Tre, 1 ≤ nestT t
  | .mk _ _ ts => by unfold nestT; omega
mutual
theorem cntN_eq : ∀ (t : Tre) (m : Nat), 1 ≤ m → (cntN t m).1 ≤ 20000 → (cntN t m).2 ≤ m → cntN t m = (nodT t, nestT t)
  | .mk k n ts, m, hm, h1, h2 => by
    rw [cntN] at h1 h2 ⊢
    split at h1
    · rename_i hc
      rw [if_pos hc] at h2 ⊢
      have h := cntL_eq ts (m - 1) 1 0 (by omega) h1 (by have : (cntL ts (m - 1) 1 0).2 + 1 ≤ m := h2; omega)
      rw [h, nodT, nestT]
      simp only [Prod.mk.injEq]
      omega
    · rename_i hc
      rw [if_neg hc] at h2 ⊢
      have h2' : (if 0 < ts.length then 1 else 0) + 1 ≤ m := h2
      split at h2'
      · omega
      · rename_i hl
        have : ts = [] := List.length_eq_zero_iff.1 (by omega)
        subst this
        simp [nodT, nestT, nodL, nestL]
theorem cntL_eq : ∀ (ts : List Tre) (m n d : Nat), 1 ≤ m → (cntL ts m n d).1 ≤ 20000 → (cntL ts m n d).2 ≤ m → cntL ts m n d = (n + nodL ts, max d (nestL ts))
  | [], m, n, d, hm, h1, h2 => by simp [cntL, nodL, nestL]
  | t :: ts, m, n, d, hm, h1, h2 => by
    rw [cntL] at h1 h2 ⊢
    split at h1
    · rename_i hc
      rw [if_pos hc] at h2 ⊢
      have hle := cntL_le ts m (n + (cntN t m).1) (max d (cntN t m).2)
      have hge := cntL_ge ts m (n + (cntN t m).1) (max d (cntN t m).2)
      have ht := cntN_eq t m hm (by omega) (by omega)
      rw [cntL_eq ts m _ _ hm h1 h2, ht, nodL, nestL]
      simp only [Prod.mk.injEq]
      omega
    · rename_i hc; exact absurd h1 hc
theorem cntL_ge : ∀ (ts : List Tre) (m n d : Nat), d ≤ (cntL ts m n d).2
  | [], m, n, d => by rw [cntL]; exact Nat.le_refl _
  | t :: ts, m, n, d => by
    rw [cntL]
    split
    · have := cntL_ge ts m (n + (cntN t m).1) (max d (cntN t m).2)
      omega
    · exact Nat.le_refl _
end
mutual
theorem cntN_of : ∀ (t : Tre) (m : Nat), 1 ≤ m → nodT t ≤ 20000 → nestT t ≤ m → cntN t m = (nodT t, nestT t)
  | .mk k n ts, m, hm, h1, h2 => by
    rw [nodT] at h1
    rw [nestT] at h2
    rw [cntN]
    by_cases hc : 1 < m
    · rw [if_pos hc, cntL_of ts (m - 1) 1 0 (by omega) (by omega) (by omega), nodT, nestT]
      simp only [Prod.mk.injEq]
      omega
    · rw [if_neg hc]
      have hz : nestL ts = 0 := by omega
      cases ts with
      | nil => simp [nodT, nestT, nodL, nestL]
      | cons u us =>
        rw [nestL] at hz
        have := nestT_pos u
        omega
theorem cntL_of : ∀ (ts : List Tre) (m n d : Nat), 1 ≤ m → n + nodL ts ≤ 20000 → nestL ts ≤ m → cntL ts m n d = (n + nodL ts, max d (nestL ts))
  | [], m, n, d, hm, h1, h2 => by simp [cntL, nodL, nestL]
  | t :: ts, m, n, d, hm, h1, h2 => by
    rw [nodL] at h1 ⊢
    rw [nestL] at h2 ⊢
    have := nodT_pos t
    rw [cntL, if_pos (by omega), cntN_of t m hm (by omega) (by omega), cntL_of ts m _ _ hm (by omega) (by omega)]
    simp only [Prod.mk.injEq]
    omega
end
/-- What the reference's Valid returns. -/
def okR (sh : List Sh) (t : Tre) : Bool := decide ((cntN t 1001).1 ≤ 20000) && decide ((cntN t 1001).2 ≤ 1000) && shN sh t
theorem mesI_yes {sh : List Sh} {t : Tre} (h : okR sh t = true) : mesI sh t = some (nodT t, inpT t, sizT t, depT sh t) ∧ shN sh t = true ∧ nodT t ≤ 20000 := by
  unfold okR at h
  rw [Bool.and_eq_true, Bool.and_eq_true, decide_eq_true_eq, decide_eq_true_eq] at h
  obtain ⟨⟨h1, h2⟩, h3⟩ := h
  have he := cntN_eq t 1001 (by omega) h1 (by omega)
  rw [he] at h1 h2
  have h1' : nodT t ≤ 20000 := h1
  have h2' : nestT t ≤ 1000 := h2
  obtain ⟨d, m', hv⟩ := visN_of t 1 ⟨0, 0, 0⟩ (by show 0 + nodT t ≤ 20000; omega) (by omega) h3
  obtain ⟨a1, a2, _⟩ := visN_some t 1 ⟨0, 0, 0⟩ m' d (by show 0 ≤ 20000; omega) hv
  refine ⟨?_, h3, h1'⟩
  unfold mesI
  rw [hv, a1, a2]
  simp
theorem mesI_no {sh : List Sh} {t : Tre} (h : okR sh t = false) : mesI sh t = none := by
  unfold mesI
  cases hv : visN sh t 1 ⟨0, 0, 0⟩ with
  | mk r m' =>
    cases r with
    | none => rfl
    | some d =>
      exfalso
      obtain ⟨a1, a2, a3, a4, a5⟩ := visN_some t 1 ⟨0, 0, 0⟩ m' d (by show 0 ≤ 20000; omega) hv
      have h5 : 0 + nodT t ≤ 20000 := a5
      have he := cntN_of t 1001 (by omega) (by omega) (by omega)
      unfold okR at h
      rw [he, a3, decide_eq_true (show (nodT t, nestT t).1 ≤ 20000 by show nodT t ≤ 20000; omega), decide_eq_true (show (nodT t, nestT t).2 ≤ 1000 by show nestT t ≤ 1000; omega)] at h
      cases h
end Go.Proofs.YtcophfhnhlaonaaGreatDoor
