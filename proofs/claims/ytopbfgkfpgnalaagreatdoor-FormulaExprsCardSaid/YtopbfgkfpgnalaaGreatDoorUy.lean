/-
  Joined from Fnf, Fng: see there.
-/
import Derived.Test.YtopbfgkfpgnalaaGreatDoorUx
import Derived.Test.YtopbfgkfpgnalaaGreatDoorUu
namespace Go.Proofs.YtopbfgkfpgnalaaGreatDoor.X
set_option linter.unusedVariables false
open Go.RowKit

set_option maxRecDepth 100000 in
set_option maxHeartbeats 4000000 in
theorem Count_ref : ∀ (N : Nat) (t : Tre), SizeOf.sizeOf t < N → ∀ (v : Value) (m : Nat) (w : World), TreV 0 w t v → nodT t ≤ 1099511627776 → m ≤ 1001 →
    Calls Tryz.prog 87 #[v, .int .i64 (m : Int)] w fun e w' => e = .returned (.tuple #[.int .i64 ((cntN t m).1 : Nat), .int .i64 ((cntN t m).2 : Nat)]) ∧ Below w.heap.size w w' := by
  intro N
  induction N with
  | zero => intro t h; omega
  | succ N ih =>
    intro t htN v m w hT hnod hm
    obtain ⟨k, n, ts⟩ := t
    have hT2 := hT
    unfold TreV at hT2
    obtain ⟨A, c, rfl, hrow⟩ := hT2
    obtain ⟨w0, hw0⟩ : ∃ w0, w0 = w.alloc (.cells #[.int .i64 k, .int .i64 n, .slice A ts.length c] 52) := ⟨_, rfl⟩
    have hb0 : Below w.heap.size w w0 := by rw [hw0]; exact below1 _ _
    have htb : w0.heap[w.heap.size]? = some (.cells #[.int .i64 k, .int .i64 n, .slice A ts.length c] 52 (0, 0)) := by
      rw [hw0]; exact alloc_at _ _ _ rfl
    have hsz0 : w0.heap.size = w.heap.size + 1 := by rw [hw0]; simp
    have HW0 := Lib.hid hw0
    have HB0 := Lib.hid (And.intro hb0 hsz0)
    have HBX := Lib.hid (show ∀ W, Below w0.heap.size w0 W → (W.cell? ⟨w.heap.size, 0, none⟩ = some (.int .i64 k) ∧ W.cell? ⟨w.heap.size, 1, none⟩ = some (.int .i64 n) ∧ W.cell? ⟨w.heap.size, 2, none⟩ = some (.slice A ts.length c)) from fun W ho => (blk3_cells ((ho.block _ (by omega)).trans htb)).1)
    have HBW : Hid (∀ W, Below w0.heap.size w0 W → Below w.heap.size w W) := Lib.hid (fun W ho => hb0.trans (ho.mono hb0.size))
    have HIH := Lib.hid ih
    have HROW := Lib.hid hrow
    have HTN := Lib.hid htN
    have hlen : ts.length ≤ 1099511627776 := by have := nodL_len ts; unfold nodT at hnod; omega
    have HNL := Lib.hid (show nodL ts + 1 ≤ 1099511627776 from by unfold nodT at hnod; exact hnod)
    obtain ⟨c0, c1, c2⟩ := HBX.out w0 (Below.refl _ _)
    clear ih htb hb0 hw0 hsz0 hrow htN hT hnod
    go_enter Tryz.func87, Tryz.ntmps87
    by_cases h1 : 1 < m
    · have d0 : decide ((1 : Int) < (m : Int)) = true := decide_eq_true (by omega)
      have d0' : decide (1 < m) = true := decide_eq_true h1
      have em : ((m - 1 : Nat) : Int) = (m : Int) - 1 := by omega
      have EM := Lib.hid em
      have HD : Hid (cntN (.mk k n ts) m = ((cntL ts (m - 1) 1 0).1, (cntL ts (m - 1) 1 0).2 + 1)) := Lib.hid (by unfold cntN; exact if_pos h1)
      have HM1 := Lib.hid (show m - 1 ≤ 1001 by omega)
      clear em
      go_wp2_with fail
      rw [← HW0.out]
      go_loopw [6, 7, 8, 9, 10, 24] (fun nv dv iv _ _ _ W => ∃ i q d : Nat, i ≤ ts.length ∧ iv = .int .i64 i ∧ nv = .int .i64 (q : Int) ∧ dv = .int .i64 (d : Int) ∧ cntL (ts.take i) (m - 1) 1 0 = (q, d) ∧ Below w0.heap.size w0 W) (fun _ _ iv _ _ _ _ => ts.length - (intOf iv).toNat)
      case atStart => exact ⟨0, 1, 0, by omega, rfl, rfl, rfl, by simp [cntL], Below.refl _ _⟩
      case round =>
        obtain ⟨i, q, d, hi, rfl, rfl, rfl, hq, hB⟩ := hrel
        have HB := Lib.hid hB
        have HQ := Lib.hid hq
        obtain ⟨c0, c1, c2⟩ := HBX.out _ hB
        have hle := cntL_le (ts.take i) (m - 1) 1 0
        have htk := nodL_take ts i
        have hnl := HNL.out
        rw [hq] at hle
        have hq40 : q ≤ 1099511627776 := by have := hle.2.1; simp only at this; omega
        have hd40 : d ≤ 1099511627776 := by have := hle.2.2; simp only at this; omega
        clear hq hB hle htk hnl
        by_cases hil : i < ts.length
        · have d1 : decide ((i : Int) < (ts.length : Int)) = true := decide_eq_true (by omega)
          have d1' : decide (i < ts.length) = true := decide_eq_true hil
          by_cases hqL : q ≤ 20000
          · have d2 : decide ((q : Int) ≤ 20000) = true := decide_eq_true (by omega)
            have d2' : decide (q ≤ 20000) = true := decide_eq_true hqL
            obtain ⟨t, ht⟩ : ∃ t, ts[i]? = some t := ⟨_, List.getElem?_eq_getElem hil⟩
            obtain ⟨b, off, x, y, z, rfl, _, e0, e1, e2, hTt⟩ := ((HROW.out.keep (KeepB.of_below 0 (HBW.out _ HB.out)))).at ht
            have hnt := nodL_mem (List.mem_of_getElem? ht)
            have hnl := HNL.out
            have hcl := cntN_le t (m - 1)
            have hx40 : (cntN t (m - 1)).1 ≤ 1099511627776 := by omega
            have hcall := HIH.out t (Nat.lt_of_lt_of_le (kid_size (List.mem_of_getElem? ht)) (Nat.le_of_lt_succ HTN.out)) _ (m - 1) wr hTt (by omega) HM1.out
            rw [EM.out] at hcall
            have HCALL := Lib.hid hcall
            have HNX : Hid (cntL (ts.take (i + 1)) (m - 1) 1 0 = (q + (cntN t (m - 1)).1, max d (cntN t (m - 1)).2)) := Lib.hid (cntL_next ht HQ.out hqL)
            rw [Nat.zero_add] at e0 e1 e2
            clear hTt ht hnt hnl hcl hcall
            go_wp2_with fail
            refine HCALL.out.mono ?_
            rintro e w2 ⟨rfl, hB2⟩
            have HB2 := Lib.hid (HB.out.trans (hB2.mono HB.out.size))
            clear hB2
            generalize cntN t (m - 1) = xy at *
            obtain ⟨x', y'⟩ := xy
            have hx41 : x' ≤ 1099511627776 := hx40
            go_wp2_with fail
            go_roundw
            case rel => exact ⟨i + 1, q + x', max d y', by omega, by go_num, by first | rfl | go_num, by first | rfl | (simp; omega) | (congr 1; omega), HNX.out, HB2.out⟩
            case measure => simp [intOf]; omega
          · have d2 : decide ((q : Int) ≤ 20000) = false := decide_eq_false (by omega)
            have d2' : decide (q ≤ 20000) = false := decide_eq_false hqL
            have HE : Hid (cntN (.mk k n ts) m = (q, d + 1)) := Lib.hid (by rw [HD.out, cntL_dead HQ.out hqL])
            go_wp2_with fail
            go_ret2
            exact ⟨by rw [HE.out]; rfl, HBW.out _ HB.out⟩
        · have d1 : decide ((i : Int) < (ts.length : Int)) = false := decide_eq_false (by omega)
          have d1' : decide (i < ts.length) = false := decide_eq_false hil
          have HE : Hid (cntN (.mk k n ts) m = (q, d + 1)) := Lib.hid (by
            have h := HQ.out
            rw [List.take_of_length_le (by omega)] at h
            rw [HD.out, h])
          go_wp2_with fail
          go_ret2
          exact ⟨by rw [HE.out]; rfl, HBW.out _ HB.out⟩
    · have d0 : decide ((1 : Int) < (m : Int)) = false := decide_eq_false (by omega)
      have d0' : decide (1 < m) = false := decide_eq_false h1
      by_cases hl0 : 0 < ts.length
      · have d1 : decide ((0 : Int) < (ts.length : Int)) = true := decide_eq_true (by omega)
        have d1' : decide (0 < ts.length) = true := decide_eq_true hl0
        have HE : Hid (cntN (.mk k n ts) m = (1, 2)) := Lib.hid (by unfold cntN; rw [if_neg h1, if_pos hl0])
        go_wp2_with fail
        rw [← HW0.out]
        go_ret2
        exact ⟨by rw [HE.out]; rfl, HB0.out.1⟩
      · have d1 : decide ((0 : Int) < (ts.length : Int)) = false := decide_eq_false (by omega)
        have d1' : decide (0 < ts.length) = false := decide_eq_false hl0
        have HE : Hid (cntN (.mk k n ts) m = (1, 1)) := Lib.hid (by unfold cntN; rw [if_neg h1, if_neg hl0])
        go_wp2_with fail
        rw [← HW0.out]
        go_ret2
        exact ⟨by rw [HE.out]; rfl, HB0.out.1⟩

set_option maxRecDepth 100000 in
set_option maxHeartbeats 4000000 in
theorem Inputs_ref (Q : Nat) : ∀ (N : Nat) (t : Tre), SizeOf.sizeOf t < N → ∀ (v : Value) (w : World), TreV 0 w t v → nodT t ≤ 1099511627776 → shN (eSh Q) t = true →
    Calls Tryz.prog 41 #[v] w fun e w' => e = .returned (.int .i64 (inpT t : Nat)) ∧ Below w.heap.size w w' := by
  intro N
  induction N with
  | zero => intro t h; omega
  | succ N ih =>
    intro t htN v w hT hnod hsh
    obtain ⟨k, n, ts⟩ := t
    have hT2 := hT
    unfold TreV at hT2
    obtain ⟨A, c, rfl, hrow⟩ := hT2
    obtain ⟨w0, hw0⟩ : ∃ w0, w0 = w.alloc (.cells #[.int .i64 k, .int .i64 n, .slice A ts.length c] 52) := ⟨_, rfl⟩
    have hb0 : Below w.heap.size w w0 := by rw [hw0]; exact below1 _ _
    have htb : w0.heap[w.heap.size]? = some (.cells #[.int .i64 k, .int .i64 n, .slice A ts.length c] 52 (0, 0)) := by
      rw [hw0]; exact alloc_at _ _ _ rfl
    have hsz0 : w0.heap.size = w.heap.size + 1 := by rw [hw0]; simp
    have HW0 := Lib.hid hw0
    have HB0 := Lib.hid (And.intro hb0 hsz0)
    have HBX := Lib.hid (show ∀ W, Below w0.heap.size w0 W → (W.cell? ⟨w.heap.size, 0, none⟩ = some (.int .i64 k) ∧ W.cell? ⟨w.heap.size, 1, none⟩ = some (.int .i64 n) ∧ W.cell? ⟨w.heap.size, 2, none⟩ = some (.slice A ts.length c)) from fun W ho => (blk3_cells ((ho.block _ (by omega)).trans htb)).1)
    have HBW : Hid (∀ W, Below w0.heap.size w0 W → Below w.heap.size w W) := Lib.hid (fun W ho => hb0.trans (ho.mono hb0.size))
    have HIH := Lib.hid ih
    have HROW := Lib.hid hrow
    have HTN := Lib.hid htN
    have hlen : ts.length ≤ 1099511627776 := by have := nodL_len ts; unfold nodT at hnod; omega
    have HNL := Lib.hid (show nodL ts + 1 ≤ 1099511627776 from by unfold nodT at hnod; exact hnod)
    have hsh2 := hsh
    rw [shN, Bool.and_eq_true] at hsh2
    have HSHM := Lib.hid (fun t ht => shL_mem hsh2.1 (t := t) ht)
    have HKN : Hid (k = 0 → 0 ≤ n ∧ n < 16) := Lib.hid (by
      intro h
      obtain ⟨s, hs, a1, a2, a3, a4⟩ := permN_of hsh2.2
      rw [h] at hs
      cases hs
      exact ⟨a2, a3⟩)
    obtain ⟨c0, c1, c2⟩ := HBX.out w0 (Below.refl _ _)
    clear ih htb hb0 hw0 hsz0 hrow htN hT hnod hsh hsh2
    go_enter Tryz.func41, Tryz.ntmps41
    by_cases hk : k = 0
    · have dk : ((k : Int) == 0) = true := by simp [hk]
      obtain ⟨n0, n1⟩ := HKN.out hk
      obtain ⟨u, rfl⟩ : ∃ u : Nat, n = u := ⟨n.toNat, by omega⟩
      have hu : u < 16 := by omega
      have HD : Hid (inpT (.mk k u ts) = inpL ts (u + 1)) := Lib.hid (by unfold inpT; rw [if_pos hk]; congr 1)
      clear hk n0 n1
      go_wp2_with fail
      rw [← HW0.out]
      go_loopw [3, 4] (fun av iv W => ∃ i q : Nat, i ≤ ts.length ∧ iv = .int .i64 i ∧ av = .int .i64 (q : Int) ∧ inpL (ts.take i) (u + 1) = q ∧ Below w0.heap.size w0 W) (fun _ iv _ => ts.length - (intOf iv).toNat)
      case atStart => exact ⟨0, (u + 1), by omega, rfl, by go_num, by simp [inpL], Below.refl _ _⟩
      case round =>
        obtain ⟨i, q, hi, rfl, rfl, hq, hB⟩ := hrel
        have HB := Lib.hid hB
        have HQ := Lib.hid hq
        obtain ⟨c0, c1, c2⟩ := HBX.out _ hB
        clear hq hB
        by_cases hil : i < ts.length
        · have d1 : decide ((i : Int) < (ts.length : Int)) = true := decide_eq_true (by omega)
          have d1' : decide (i < ts.length) = true := decide_eq_true hil
          obtain ⟨t, ht⟩ : ∃ t, ts[i]? = some t := ⟨_, List.getElem?_eq_getElem hil⟩
          obtain ⟨b, off, x, y, z, rfl, _, e0, e1, e2, hTt⟩ := ((HROW.out.keep (KeepB.of_below 0 (HBW.out _ HB.out)))).at ht
          have hnt := nodL_mem (List.mem_of_getElem? ht)
          have hnl := HNL.out
          have HCALL := Lib.hid (HIH.out t (Nat.lt_of_lt_of_le (kid_size (List.mem_of_getElem? ht)) (Nat.le_of_lt_succ HTN.out)) _ wr hTt (by omega) (HSHM.out t (List.mem_of_getElem? ht)))
          have HNX : Hid (inpL (ts.take (i + 1)) (u + 1) = max q (inpT t)) := Lib.hid (by rw [inpL_next ht, HQ.out])
          rw [Nat.zero_add] at e0 e1 e2
          clear hTt ht hnt hnl
          go_wp2_with fail
          refine HCALL.out.mono ?_
          rintro e w2 ⟨rfl, hB2⟩
          have HB2 := Lib.hid (HB.out.trans (hB2.mono HB.out.size))
          clear hB2
          go_wp2_with fail
          go_roundw
          case rel => exact ⟨i + 1, max q (inpT t), by omega, by go_num, by first | rfl | (simp; omega) | (congr 1; omega), HNX.out, HB2.out⟩
          case measure => simp [intOf]; omega
        · have d1 : decide ((i : Int) < (ts.length : Int)) = false := decide_eq_false (by omega)
          have d1' : decide (i < ts.length) = false := decide_eq_false hil
          have HE2 : Hid (inpT (.mk k u ts) = q) := Lib.hid (by rw [HD.out, ← HQ.out, List.take_of_length_le (by omega)])
          go_wp2_with fail
          go_ret
          exact ⟨by rw [HE2.out]; rfl, HBW.out _ HB.out⟩
    · have dk : ((k : Int) == 0) = false := by simp [hk]
      have HD : Hid (inpT (.mk k n ts) = inpL ts 0) := Lib.hid (by unfold inpT; rw [if_neg hk])
      clear hk
      go_wp2_with fail
      rw [← HW0.out]
      go_loopw [3, 4] (fun av iv W => ∃ i q : Nat, i ≤ ts.length ∧ iv = .int .i64 i ∧ av = .int .i64 (q : Int) ∧ inpL (ts.take i) 0 = q ∧ Below w0.heap.size w0 W) (fun _ iv _ => ts.length - (intOf iv).toNat)
      case atStart => exact ⟨0, 0, by omega, rfl, rfl, by simp [inpL], Below.refl _ _⟩
      case round =>
        obtain ⟨i, q, hi, rfl, rfl, hq, hB⟩ := hrel
        have HB := Lib.hid hB
        have HQ := Lib.hid hq
        obtain ⟨c0, c1, c2⟩ := HBX.out _ hB
        clear hq hB
        by_cases hil : i < ts.length
        · have d1 : decide ((i : Int) < (ts.length : Int)) = true := decide_eq_true (by omega)
          have d1' : decide (i < ts.length) = true := decide_eq_true hil
          obtain ⟨t, ht⟩ : ∃ t, ts[i]? = some t := ⟨_, List.getElem?_eq_getElem hil⟩
          obtain ⟨b, off, x, y, z, rfl, _, e0, e1, e2, hTt⟩ := ((HROW.out.keep (KeepB.of_below 0 (HBW.out _ HB.out)))).at ht
          have hnt := nodL_mem (List.mem_of_getElem? ht)
          have hnl := HNL.out
          have HCALL := Lib.hid (HIH.out t (Nat.lt_of_lt_of_le (kid_size (List.mem_of_getElem? ht)) (Nat.le_of_lt_succ HTN.out)) _ wr hTt (by omega) (HSHM.out t (List.mem_of_getElem? ht)))
          have HNX : Hid (inpL (ts.take (i + 1)) 0 = max q (inpT t)) := Lib.hid (by rw [inpL_next ht, HQ.out])
          rw [Nat.zero_add] at e0 e1 e2
          clear hTt ht hnt hnl
          go_wp2_with fail
          refine HCALL.out.mono ?_
          rintro e w2 ⟨rfl, hB2⟩
          have HB2 := Lib.hid (HB.out.trans (hB2.mono HB.out.size))
          clear hB2
          go_wp2_with fail
          go_roundw
          case rel => exact ⟨i + 1, max q (inpT t), by omega, by go_num, by first | rfl | (simp; omega) | (congr 1; omega), HNX.out, HB2.out⟩
          case measure => simp [intOf]; omega
        · have d1 : decide ((i : Int) < (ts.length : Int)) = false := decide_eq_false (by omega)
          have d1' : decide (i < ts.length) = false := decide_eq_false hil
          have HE2 : Hid (inpT (.mk k n ts) = q) := Lib.hid (by rw [HD.out, ← HQ.out, List.take_of_length_le (by omega)])
          go_wp2_with fail
          go_ret
          exact ⟨by rw [HE2.out]; rfl, HBW.out _ HB.out⟩

set_option maxRecDepth 100000 in
set_option maxHeartbeats 4000000 in
theorem shape_ref (Q : Nat) : ∀ (N : Nat) (t : Tre), SizeOf.sizeOf t < N → ∀ (v : Value) (w : World), TreV 0 w t v → nodT t ≤ 1099511627776 →
    Calls Tryz.prog 88 #[.int .i64 (Q : Int), v] w fun e w' => e = .returned (.bool (shN (eSh Q) t)) ∧ Below w.heap.size w w' := by
  intro N
  induction N with
  | zero => intro t h; omega
  | succ N ih =>
    intro t htN v w hT hnod
    obtain ⟨k, n, ts⟩ := t
    have hT2 := hT
    unfold TreV at hT2
    obtain ⟨A, c, rfl, hrow⟩ := hT2
    obtain ⟨w0, hw0⟩ : ∃ w0, w0 = w.alloc (.cells #[.int .i64 k, .int .i64 n, .slice A ts.length c] 52) := ⟨_, rfl⟩
    have hb0 : Below w.heap.size w w0 := by rw [hw0]; exact below1 _ _
    have htb : w0.heap[w.heap.size]? = some (.cells #[.int .i64 k, .int .i64 n, .slice A ts.length c] 52 (0, 0)) := by
      rw [hw0]; exact alloc_at _ _ _ rfl
    have hsz0 : w0.heap.size = w.heap.size + 1 := by rw [hw0]; simp
    have HW0 := Lib.hid hw0
    have HB0 := Lib.hid (And.intro hb0 hsz0)
    have HBX := Lib.hid (show ∀ W, Below w0.heap.size w0 W → (W.cell? ⟨w.heap.size, 0, none⟩ = some (.int .i64 k) ∧ W.cell? ⟨w.heap.size, 1, none⟩ = some (.int .i64 n) ∧ W.cell? ⟨w.heap.size, 2, none⟩ = some (.slice A ts.length c)) from fun W ho => (blk3_cells ((ho.block _ (by omega)).trans htb)).1)
    have HBW : Hid (∀ W, Below w0.heap.size w0 W → Below w.heap.size w W) := Lib.hid (fun W ho => hb0.trans (ho.mono hb0.size))
    have HIH := Lib.hid ih
    have HROW := Lib.hid hrow
    have HTN := Lib.hid htN
    have hlen : ts.length ≤ 1099511627776 := by have := nodL_len ts; unfold nodT at hnod; omega
    have HNL := Lib.hid (show nodL ts + 1 ≤ 1099511627776 from by unfold nodT at hnod; exact hnod)
    have HD : Hid (shN (eSh Q) (.mk k n ts) = (shL (eSh Q) ts && permN (eSh Q) k n ts.length)) := Lib.hid rfl
    obtain ⟨c0, c1, c2⟩ := HBX.out w0 (Below.refl _ _)
    clear ih htb hb0 hw0 hsz0 hrow htN hT hnod
    go_enter Tryz.func88, Tryz.ntmps88
    go_wp2_with fail
    rw [← HW0.out]
    go_loopw [5] (fun iv W => ∃ i : Nat, i ≤ ts.length ∧ iv = .int .i64 i ∧ shL (eSh Q) (ts.take i) = true ∧ Below w0.heap.size w0 W) (fun iv _ => ts.length - (intOf iv).toNat)
    case atStart => exact ⟨0, by omega, rfl, by simp [shL], Below.refl _ _⟩
    case round =>
      obtain ⟨i, hi, rfl, hq, hB⟩ := hrel
      have HB := Lib.hid hB
      have HQ := Lib.hid hq
      obtain ⟨c0, c1, c2⟩ := HBX.out _ hB
      clear hq hB
      by_cases hil : i < ts.length
      · have d1 : decide ((i : Int) < (ts.length : Int)) = true := decide_eq_true (by omega)
        have d1' : decide (i < ts.length) = true := decide_eq_true hil
        obtain ⟨t, ht⟩ : ∃ t, ts[i]? = some t := ⟨_, List.getElem?_eq_getElem hil⟩
        obtain ⟨b, off, x, y, z, rfl, _, e0, e1, e2, hTt⟩ := ((HROW.out.keep (KeepB.of_below 0 (HBW.out _ HB.out)))).at ht
        have hnt := nodL_mem (List.mem_of_getElem? ht)
        have hnl := HNL.out
        have HCALL := Lib.hid (HIH.out t (Nat.lt_of_lt_of_le (kid_size (List.mem_of_getElem? ht)) (Nat.le_of_lt_succ HTN.out)) _ wr hTt (by omega))
        have HNX : Hid (shL (eSh Q) (ts.take (i + 1)) = shN (eSh Q) t) := Lib.hid (shL_next ht HQ.out)
        rw [Nat.zero_add] at e0 e1 e2
        clear hTt ht hnt hnl
        go_wp2_with fail
        refine HCALL.out.mono ?_
        rintro e w2 ⟨rfl, hB2⟩
        have HB2 := Lib.hid (HB.out.trans (hB2.mono HB.out.size))
        clear hB2
        cases hst : shN (eSh Q) t with
        | true =>
          rw [hst] at HNX
          clear hst
          go_wp2_with fail
          go_roundw
          case rel => exact ⟨i + 1, by omega, by go_num, HNX.out, HB2.out⟩
          case measure => simp [intOf]; omega
        | false =>
          rw [hst] at HNX
          have HE : Hid (shN (eSh Q) (.mk k n ts) = false) := Lib.hid (by rw [HD.out, shL_dead HNX.out]; rfl)
          clear hst
          go_wp2_with fail
          go_ret
          exact ⟨by rw [HE.out]; rfl, HBW.out _ HB2.out⟩
      · have d1 : decide ((i : Int) < (ts.length : Int)) = false := decide_eq_false (by omega)
        have d1' : decide (i < ts.length) = false := decide_eq_false hil
        have HE : Hid (shN (eSh Q) (.mk k n ts) = permN (eSh Q) k n ts.length) := Lib.hid (by
          have h := HQ.out
          rw [List.take_of_length_le (by omega)] at h
          rw [HD.out, h]; rfl)
        by_cases h0 : k = 0
        · have f0 : ((k : Int) == 0) = true := by simp [h0]
          have HP : Hid (permN (eSh Q) k n ts.length = ((decide (0 ≤ n) && decide (n < 16)) && ((ts.length : Int) == 0))) := Lib.hid (by subst h0; rw [← show ((0 : Nat) : Int) = 0 from rfl, ← dec_len]; rfl)
          obtain ⟨b0, hb0⟩ : ∃ b, (decide ((0 : Int) ≤ n)) = b := ⟨_, rfl⟩
          obtain ⟨b1, hb1⟩ : ∃ b, (decide (n < 16)) = b := ⟨_, rfl⟩
          obtain ⟨b2, hb2⟩ : ∃ b, ((ts.length : Int) == 0) = b := ⟨_, rfl⟩
          rw [hb0, hb1, hb2] at HP
          clear h0
          cases b0 <;> cases b1 <;> cases b2 <;> (
            go_wp2_with fail
            go_ret
            exact ⟨by rw [HE.out, HP.out]; rfl, HBW.out _ HB.out⟩)
        · have f0 : ((k : Int) == 0) = false := by simp [h0]
          by_cases h1 : k = 1
          · have f1 : ((k : Int) == 1) = true := by simp [h1]
            have HP : Hid (permN (eSh Q) k n ts.length = ((decide (0 ≤ n) && decide (n < (Q : Int))) && ((ts.length : Int) == 0))) := Lib.hid (by subst h1; rw [← show ((0 : Nat) : Int) = 0 from rfl, ← dec_len]; rfl)
            obtain ⟨b0, hb0⟩ : ∃ b, (decide ((0 : Int) ≤ n)) = b := ⟨_, rfl⟩
            obtain ⟨b1, hb1⟩ : ∃ b, (decide (n < (Q : Int))) = b := ⟨_, rfl⟩
            obtain ⟨b2, hb2⟩ : ∃ b, ((ts.length : Int) == 0) = b := ⟨_, rfl⟩
            rw [hb0, hb1, hb2] at HP
            clear h0 h1
            cases b0 <;> cases b1 <;> cases b2 <;> (
              go_wp2_with fail
              go_ret
              exact ⟨by rw [HE.out, HP.out]; rfl, HBW.out _ HB.out⟩)
          · have f1 : ((k : Int) == 1) = false := by simp [h1]
            by_cases h2 : k = 2
            · have f2 : ((k : Int) == 2) = true := by simp [h2]
              have HP : Hid (permN (eSh Q) k n ts.length = ((n == 0) && ((ts.length : Int) == 2))) := Lib.hid (by subst h2; rw [← dec_nil, ← show ((2 : Nat) : Int) = 2 from rfl, ← dec_len]; rfl)
              obtain ⟨b0, hb0⟩ : ∃ b, (n == 0) = b := ⟨_, rfl⟩
              obtain ⟨b1, hb1⟩ : ∃ b, ((ts.length : Int) == 2) = b := ⟨_, rfl⟩
              rw [hb0, hb1] at HP
              clear h0 h1 h2
              cases b0 <;> cases b1 <;> (
                go_wp2_with fail
                go_ret
                exact ⟨by rw [HE.out, HP.out]; rfl, HBW.out _ HB.out⟩)
            · have f2 : ((k : Int) == 2) = false := by simp [h2]
              by_cases h3 : k = 3
              · have f3 : ((k : Int) == 3) = true := by simp [h3]
                have HP : Hid (permN (eSh Q) k n ts.length = ((n == 0) && ((ts.length : Int) == 2))) := Lib.hid (by subst h3; rw [← dec_nil, ← show ((2 : Nat) : Int) = 2 from rfl, ← dec_len]; rfl)
                obtain ⟨b0, hb0⟩ : ∃ b, (n == 0) = b := ⟨_, rfl⟩
                obtain ⟨b1, hb1⟩ : ∃ b, ((ts.length : Int) == 2) = b := ⟨_, rfl⟩
                rw [hb0, hb1] at HP
                clear h0 h1 h2 h3
                cases b0 <;> cases b1 <;> (
                  go_wp2_with fail
                  go_ret
                  exact ⟨by rw [HE.out, HP.out]; rfl, HBW.out _ HB.out⟩)
              · have f3 : ((k : Int) == 3) = false := by simp [h3]
                have HP : Hid (permN (eSh Q) k n ts.length = false) := Lib.hid (by
                  unfold permN
                  by_cases hk : 0 ≤ k
                  · rw [List.getElem?_eq_none (show (eSh Q).length ≤ k.toNat by simp only [eSh, List.length_cons, List.length_nil]; omega)]
                  · split
                    · simp [hk]
                    · rfl)
                clear h0 h1 h2 h3
                go_wp2_with fail
                go_ret
                exact ⟨by rw [HE.out, HP.out]; rfl, HBW.out _ HB.out⟩
end Go.Proofs.YtopbfgkfpgnalaaGreatDoor.X
namespace Go.Proofs.YtopbfgkfpgnalaaGreatDoor.X
set_option linter.unusedVariables false
open Go.RowKit

set_option maxRecDepth 100000 in
set_option maxHeartbeats 4000000 in
theorem ValidE_ok (o : Option (Nat × Nat × Nat × Nat)) (P M k n : Int) (A : Option Addr) (len c : Nat) (w : World)
    (hM : ∀ W, Below w.heap.size w W → Calls Tryz.prog 89 #[.agg #[.int .i64 P, .int .i64 M], .agg #[.int .i64 k, .int .i64 n, .slice A len c]] W fun e w' => e = .returned (.tuple #[mesV o, .bool o.isSome]) ∧ Below W.heap.size W w') :
    Calls Tryz.prog 37 #[.agg #[.int .i64 P, .int .i64 M], .agg #[.int .i64 k, .int .i64 n, .slice A len c]] w fun e w' => e = .returned (.bool o.isSome) ∧ Below w.heap.size w w' := by
  have hb2 := below2 w (.cells #[.int .i64 P, .int .i64 M] 49) (.cells #[.int .i64 k, .int .i64 n, .slice A len c] 52)
  have HC := Lib.hid (hM _ hb2)
  rw [mesV_eq] at HC
  have HB := Lib.hid hb2
  obtain ⟨⟨e0, e1, e2⟩, _⟩ := blk3_cells (alloc_at (w.alloc (.cells #[.int .i64 P, .int .i64 M] 49)) (.cells #[.int .i64 k, .int .i64 n, .slice A len c] 52) (w.heap.size + 1) (by simp))
  clear hM hb2
  go_enter Tryz.func37, Tryz.ntmps37
  go_wp2_with fail
  refine HC.out.mono ?_
  rintro e w3 ⟨rfl, hB3⟩
  have hb3 := HB.out.trans (hB3.mono HB.out.size)
  have hb4 := hb3.alloc hb3.size (.cells #[.int .i64 0, .int .i64 0, .int .i64 0, .int .i64 0] 110)
  have hr4 := alloc_at w3 (.cells #[.int .i64 0, .int .i64 0, .int .i64 0, .int .i64 0] 110) _ rfl
  obtain ⟨⟨v0, v1, v2, v3⟩, z0, z1, z2, z3⟩ := blk4_cells hr4
  have HF := Lib.hid (hb3.alloc hb3.size (.cells #[.int .i64 (mesA o), .int .i64 (mesB o), .int .i64 (mesC o), .int .i64 (mesD o)] 110))
  clear hB3 hb3 hb4 hr4
  go_wp2_with fail
  go_ret
  exact ⟨rfl, HF.out⟩

set_option maxRecDepth 100000 in
set_option maxHeartbeats 4000000 in
theorem InputsE_ok (o : Option (Nat × Nat × Nat × Nat)) (P M k n : Int) (A : Option Addr) (len c : Nat) (w : World)
    (hM : ∀ W, Below w.heap.size w W → Calls Tryz.prog 89 #[.agg #[.int .i64 P, .int .i64 M], .agg #[.int .i64 k, .int .i64 n, .slice A len c]] W fun e w' => e = .returned (.tuple #[mesV o, .bool o.isSome]) ∧ Below W.heap.size W w') :
    Calls Tryz.prog 38 #[.agg #[.int .i64 P, .int .i64 M], .agg #[.int .i64 k, .int .i64 n, .slice A len c]] w fun e w' => e = .returned (.int .i64 (mesB o)) ∧ Below w.heap.size w w' := by
  have hb2 := below2 w (.cells #[.int .i64 P, .int .i64 M] 49) (.cells #[.int .i64 k, .int .i64 n, .slice A len c] 52)
  have HC := Lib.hid (hM _ hb2)
  rw [mesV_eq] at HC
  have HB := Lib.hid hb2
  obtain ⟨⟨e0, e1, e2⟩, _⟩ := blk3_cells (alloc_at (w.alloc (.cells #[.int .i64 P, .int .i64 M] 49)) (.cells #[.int .i64 k, .int .i64 n, .slice A len c] 52) (w.heap.size + 1) (by simp))
  clear hM hb2
  go_enter Tryz.func38, Tryz.ntmps38
  go_wp2_with fail
  refine HC.out.mono ?_
  rintro e w3 ⟨rfl, hB3⟩
  have hb3 := HB.out.trans (hB3.mono HB.out.size)
  have hb4 := hb3.alloc hb3.size (.cells #[.int .i64 0, .int .i64 0, .int .i64 0, .int .i64 0] 110)
  have hr4 := alloc_at w3 (.cells #[.int .i64 0, .int .i64 0, .int .i64 0, .int .i64 0] 110) _ rfl
  obtain ⟨⟨v0, v1, v2, v3⟩, z0, z1, z2, z3⟩ := blk4_cells hr4
  have HF := Lib.hid (hb3.alloc hb3.size (.cells #[.int .i64 (mesA o), .int .i64 (mesB o), .int .i64 (mesC o), .int .i64 (mesD o)] 110))
  clear hB3 hb3 hb4 hr4
  go_wp2_with fail
  go_ret
  exact ⟨rfl, HF.out⟩

set_option maxRecDepth 100000 in
set_option maxHeartbeats 4000000 in
theorem SizeE_ok (o : Option (Nat × Nat × Nat × Nat)) (P M k n : Int) (A : Option Addr) (len c : Nat) (w : World)
    (hM : ∀ W, Below w.heap.size w W → Calls Tryz.prog 89 #[.agg #[.int .i64 P, .int .i64 M], .agg #[.int .i64 k, .int .i64 n, .slice A len c]] W fun e w' => e = .returned (.tuple #[mesV o, .bool o.isSome]) ∧ Below W.heap.size W w') :
    Calls Tryz.prog 39 #[.agg #[.int .i64 P, .int .i64 M], .agg #[.int .i64 k, .int .i64 n, .slice A len c]] w fun e w' => e = .returned (.int .i64 (mesC o)) ∧ Below w.heap.size w w' := by
  have hb2 := below2 w (.cells #[.int .i64 P, .int .i64 M] 49) (.cells #[.int .i64 k, .int .i64 n, .slice A len c] 52)
  have HC := Lib.hid (hM _ hb2)
  rw [mesV_eq] at HC
  have HB := Lib.hid hb2
  obtain ⟨⟨e0, e1, e2⟩, _⟩ := blk3_cells (alloc_at (w.alloc (.cells #[.int .i64 P, .int .i64 M] 49)) (.cells #[.int .i64 k, .int .i64 n, .slice A len c] 52) (w.heap.size + 1) (by simp))
  clear hM hb2
  go_enter Tryz.func39, Tryz.ntmps39
  go_wp2_with fail
  refine HC.out.mono ?_
  rintro e w3 ⟨rfl, hB3⟩
  have hb3 := HB.out.trans (hB3.mono HB.out.size)
  have hb4 := hb3.alloc hb3.size (.cells #[.int .i64 0, .int .i64 0, .int .i64 0, .int .i64 0] 110)
  have hr4 := alloc_at w3 (.cells #[.int .i64 0, .int .i64 0, .int .i64 0, .int .i64 0] 110) _ rfl
  obtain ⟨⟨v0, v1, v2, v3⟩, z0, z1, z2, z3⟩ := blk4_cells hr4
  have HF := Lib.hid (hb3.alloc hb3.size (.cells #[.int .i64 (mesA o), .int .i64 (mesB o), .int .i64 (mesC o), .int .i64 (mesD o)] 110))
  clear hB3 hb3 hb4 hr4
  go_wp2_with fail
  go_ret
  exact ⟨rfl, HF.out⟩

set_option maxRecDepth 100000 in
set_option maxHeartbeats 4000000 in
theorem DepthE_ok (o : Option (Nat × Nat × Nat × Nat)) (P M k n : Int) (A : Option Addr) (len c : Nat) (w : World)
    (hM : ∀ W, Below w.heap.size w W → Calls Tryz.prog 89 #[.agg #[.int .i64 P, .int .i64 M], .agg #[.int .i64 k, .int .i64 n, .slice A len c]] W fun e w' => e = .returned (.tuple #[mesV o, .bool o.isSome]) ∧ Below W.heap.size W w') :
    Calls Tryz.prog 40 #[.agg #[.int .i64 P, .int .i64 M], .agg #[.int .i64 k, .int .i64 n, .slice A len c]] w fun e w' => e = .returned (.int .i64 (mesD o)) ∧ Below w.heap.size w w' := by
  have hb2 := below2 w (.cells #[.int .i64 P, .int .i64 M] 49) (.cells #[.int .i64 k, .int .i64 n, .slice A len c] 52)
  have HC := Lib.hid (hM _ hb2)
  rw [mesV_eq] at HC
  have HB := Lib.hid hb2
  obtain ⟨⟨e0, e1, e2⟩, _⟩ := blk3_cells (alloc_at (w.alloc (.cells #[.int .i64 P, .int .i64 M] 49)) (.cells #[.int .i64 k, .int .i64 n, .slice A len c] 52) (w.heap.size + 1) (by simp))
  clear hM hb2
  go_enter Tryz.func40, Tryz.ntmps40
  go_wp2_with fail
  refine HC.out.mono ?_
  rintro e w3 ⟨rfl, hB3⟩
  have hb3 := HB.out.trans (hB3.mono HB.out.size)
  have hb4 := hb3.alloc hb3.size (.cells #[.int .i64 0, .int .i64 0, .int .i64 0, .int .i64 0] 110)
  have hr4 := alloc_at w3 (.cells #[.int .i64 0, .int .i64 0, .int .i64 0, .int .i64 0] 110) _ rfl
  obtain ⟨⟨v0, v1, v2, v3⟩, z0, z1, z2, z3⟩ := blk4_cells hr4
  have HF := Lib.hid (hb3.alloc hb3.size (.cells #[.int .i64 (mesA o), .int .i64 (mesB o), .int .i64 (mesC o), .int .i64 (mesD o)] 110))
  clear hB3 hb3 hb4 hr4
  go_wp2_with fail
  go_ret
  exact ⟨rfl, HF.out⟩
end Go.Proofs.YtopbfgkfpgnalaaGreatDoor.X
