/-
  Joined from Fmx: see there.
-/
import Derived.Test.YtcophfhnhlaonaaGreatDoorUo
namespace Go.Proofs.YtcophfhnhlaonaaGreatDoor
set_option linter.unusedVariables false
open Go.RowKit

mutual
def wN (L : Nat) : Tre → Nat → Nat
  | .mk _ _ ts, a => wL L ts (a + 1)
def wL (L : Nat) : List Tre → Nat → Nat
  | [], a => a
  | t :: ts, a => if a ≤ L then wL L ts (wN L t a) else a
end
mutual
theorem wN_le (L : Nat) : ∀ (t : Tre) (a : Nat), a ≤ L → wN L t a ≤ L + 1
  | .mk _ _ ts, a, h => by unfold wN; exact wL_le L ts (a + 1) (by omega)
theorem wL_le (L : Nat) : ∀ (ts : List Tre) (a : Nat), a ≤ L + 1 → wL L ts a ≤ L + 1
  | [], a, h => by unfold wL; exact h
  | t :: ts, a, h => by
    unfold wL
    split
    · rename_i hc; exact wL_le L ts _ (wN_le L t a hc)
    · exact h
end
mutual
theorem wN_ge (L : Nat) : ∀ (t : Tre) (a : Nat), a + 1 ≤ wN L t a
  | .mk _ _ ts, a => by unfold wN; exact wL_ge L ts (a + 1)
theorem wL_ge (L : Nat) : ∀ (ts : List Tre) (a : Nat), a ≤ wL L ts a
  | [], a => by unfold wL; exact Nat.le_refl _
  | t :: ts, a => by
    unfold wL
    split
    · exact Nat.le_trans (Nat.le_trans (Nat.le_succ a) (wN_ge L t a)) (wL_ge L ts _)
    · exact Nat.le_refl _
end
theorem wL_stay (L : Nat) : ∀ (ts : List Tre) {a : Nat}, ¬ a ≤ L → wL L ts a = a
  | [], a, h => by unfold wL; rfl
  | t :: ts, a, h => by unfold wL; exact if_neg h
theorem wL_append (L : Nat) : ∀ (xs bs : List Tre) (a : Nat), wL L (xs ++ bs) a = wL L bs (wL L xs a)
  | [], bs, a => by simp [wL]
  | t :: xs, bs, a => by
    rw [List.cons_append, wL, wL]
    split
    · exact wL_append L xs bs _
    · rename_i h; exact (wL_stay L bs h).symm
theorem wL_next {L : Nat} {ts : List Tre} {i a q : Nat} {t : Tre} (ht : ts[i]? = some t) (h : wL L (ts.take i) a = q) (hq : q ≤ L) : wL L (ts.take (i + 1)) a = wN L t q := by
  rw [List.take_add_one, ht, wL_append, h]
  simp only [Option.toList_some]
  rw [wL, if_pos hq, wL]
theorem wL_dead {L : Nat} {ts : List Tre} {i a q : Nat} (h : wL L (ts.take i) a = q) (hq : ¬ q ≤ L) : wL L ts a = q := by
  have := wL_append L (ts.take i) (ts.drop i) a
  rw [List.take_append_drop, h, wL_stay L _ hq] at this
  exact this

set_option maxRecDepth 100000 in
set_option maxHeartbeats 4000000 in
theorem weigh_ok (L : Nat) (hL : L ≤ 1099511627776) : ∀ (N : Nat) (t : Tre), SizeOf.sizeOf t < N → ∀ (v : Value) (a : Nat) (w : World), TreV 0 w t v → a ≤ L →
    Calls Tryz.prog 38 #[v, .int .i64 (a : Int), .int .i64 (L : Int)] w fun e w' => e = .returned (.int .i64 (wN L t a : Nat)) ∧ Below w.heap.size w w' := by
  intro N
  induction N with
  | zero => intro t h; omega
  | succ N ih =>
    intro t htN v a w hT haL
    obtain ⟨k, n, ts⟩ := t
    have hT2 := hT
    unfold TreV at hT2
    obtain ⟨A, c, rfl, hrow⟩ := hT2
    obtain ⟨w0, hw0⟩ : ∃ w0, w0 = w.alloc (.cells #[.int .i64 k, .int .i64 n, .slice A ts.length c] 24) := ⟨_, rfl⟩
    have hb0 : Below w.heap.size w w0 := by rw [hw0]; exact below1 _ _
    have htb : w0.heap[w.heap.size]? = some (.cells #[.int .i64 k, .int .i64 n, .slice A ts.length c] 24 (0, 0)) := by
      rw [hw0]; exact alloc_at _ _ _ rfl
    have hsz0 : w0.heap.size = w.heap.size + 1 := by rw [hw0]; simp
    have HW0 := Lib.hid hw0
    have HB0 := Lib.hid (And.intro hb0 hsz0)
    have HBX := Lib.hid (show ∀ W, Below w0.heap.size w0 W → (W.cell? ⟨w.heap.size, 0, none⟩ = some (.int .i64 k) ∧ W.cell? ⟨w.heap.size, 1, none⟩ = some (.int .i64 n) ∧ W.cell? ⟨w.heap.size, 2, none⟩ = some (.slice A ts.length c)) from fun W ho => (blk3_cells ((ho.block _ (by omega)).trans htb)).1)
    have HBW : Hid (∀ W, Below w0.heap.size w0 W → Below w.heap.size w W) := Lib.hid (fun W ho => hb0.trans (ho.mono hb0.size))
    have HIH := Lib.hid ih
    have HROW := Lib.hid hrow
    have HTN := Lib.hid htN
    have HWN : Hid (wN L (.mk k n ts) a = wL L ts (a + 1)) := Lib.hid rfl
    have HL := Lib.hid hL
    have HA := Lib.hid haL
    obtain ⟨c0, c1, c2⟩ := HBX.out w0 (Below.refl _ _)
    have ha40 : a ≤ 1099511627776 := by omega
    clear ih htb hb0 hw0 hsz0 hrow htN hT hL
    go_enter Tryz.func38, Tryz.ntmps38
    go_wp2_with fail
    rw [← HW0.out]
    go_loopw [1, 7] (fun av iv W => ∃ i c : Nat, i ≤ ts.length ∧ iv = .int .i64 i ∧ av = .int .i64 (c : Int) ∧ wL L (ts.take i) (a + 1) = c ∧ i ≤ c ∧ Below w0.heap.size w0 W) (fun _ iv _ => ts.length - (intOf iv).toNat)
    case atStart => exact ⟨0, a + 1, by omega, rfl, by go_num, by simp [wL], by omega, Below.refl _ _⟩
    case round =>
      obtain ⟨i, q, hi, rfl, rfl, hwl, hiq, hB⟩ := hrel
      have HB := Lib.hid hB
      have HWL := Lib.hid hwl
      have hq := wL_le L (ts.take i) (a + 1) (by have := HA.out; omega)
      rw [hwl] at hq
      have hi40 : i ≤ 1099511627777 := by have := HL.out; omega
      obtain ⟨c0, c1, c2⟩ := HBX.out _ hB
      clear hwl hB
      by_cases hil : i < ts.length
      · have d1 : decide ((i : Int) < (ts.length : Int)) = true := decide_eq_true (by omega)
        have d1' : decide (i < ts.length) = true := decide_eq_true hil
        by_cases hqL : q ≤ L
        · have d2 : decide ((q : Int) ≤ (L : Int)) = true := decide_eq_true (by omega)
          have d2' : decide (q ≤ L) = true := decide_eq_true hqL
          obtain ⟨t, ht⟩ : ∃ t, ts[i]? = some t := ⟨_, List.getElem?_eq_getElem hil⟩
          obtain ⟨b, off, x, y, z, rfl, _, e0, e1, e2, hTt⟩ := ((HROW.out.keep (KeepB.of_below 0 (HBW.out _ HB.out)))).at ht
          have HCALL := Lib.hid (HIH.out t (Nat.lt_of_lt_of_le (kid_size (List.mem_of_getElem? ht)) (Nat.le_of_lt_succ HTN.out)) _ q wr hTt hqL)
          have HNX : Hid (wL L (ts.take (i + 1)) (a + 1) = wN L t q) := Lib.hid (wL_next ht HWL.out hqL)
          rw [Nat.zero_add] at e0 e1 e2
          have HGE := Lib.hid (wN_ge L t q)
          clear hTt ht
          go_wp2_with fail
          refine HCALL.out.mono ?_
          rintro e w2 ⟨rfl, hB2⟩
          have HB2 := Lib.hid (HB.out.trans (hB2.mono HB.out.size))
          clear hB2
          go_wp2_with fail
          go_roundw
          case rel => exact ⟨i + 1, wN L t q, by omega, by go_num, rfl, HNX.out, by have := HGE.out; omega, HB2.out⟩
          case measure => simp [intOf]; omega
        · have d2 : decide ((q : Int) ≤ (L : Int)) = false := decide_eq_false (by omega)
          have d2' : decide (q ≤ L) = false := decide_eq_false hqL
          have HE : Hid (wN L (.mk k n ts) a = q) := Lib.hid (by rw [HWN.out]; exact wL_dead HWL.out hqL)
          go_wp2_with fail
          go_ret
          exact ⟨by rw [HE.out]; rfl, HBW.out _ HB.out⟩
      · have d1 : decide ((i : Int) < (ts.length : Int)) = false := decide_eq_false (by omega)
        have d1' : decide (i < ts.length) = false := decide_eq_false hil
        have HE : Hid (wN L (.mk k n ts) a = q) := Lib.hid (by rw [HWN.out, ← HWL.out, List.take_of_length_le (by omega)])
        go_wp2_with fail
        go_ret
        exact ⟨by rw [HE.out]; rfl, HBW.out _ HB.out⟩

/-- The formulas of a row, weighed one after another. -/
theorem RowV.below' {B : Nat} {w w' : World} {ts : List Tre} {A : Option Addr} {i : Nat} (h : RowV B w ts A i) (hb : Below w.heap.size w w') : RowV B w' ts A i := h.keep (KeepB.of_below B hb)

set_option maxRecDepth 100000 in
set_option maxHeartbeats 4000000 in
theorem Few_ok (L : Nat) (hL : L ≤ 1099511627776) (ts : List Tre) (A : Option Addr) (c : Nat) (w : World) (hrow : RowV 0 w ts A 0) :
    Calls Tryz.prog 7 #[.int .i64 (L : Int), .slice A ts.length c] w fun e w' => e = .returned (.bool (decide (wL L ts 0 ≤ L))) ∧ Below w.heap.size w w' := by
  have HROW := Lib.hid hrow
  have HL := Lib.hid hL
  have HWG := Lib.hid (fun t v a W hT ha => weigh_ok L hL _ t (Nat.lt_succ_self _) v a W hT ha)
  clear hrow hL
  go_enter Tryz.func7, Tryz.ntmps7
  go_wp2_with fail
  go_loopw [5, 6] (fun av iv W => ∃ i q : Nat, i ≤ ts.length ∧ iv = .int .i64 i ∧ av = .int .i64 (q : Int) ∧ wL L (ts.take i) 0 = q ∧ i ≤ q ∧ Below w.heap.size w W) (fun _ iv _ => ts.length - (intOf iv).toNat)
  case atStart => exact ⟨0, 0, by omega, rfl, rfl, by simp [wL], by omega, Below.refl _ _⟩
  case round =>
    obtain ⟨i, q, hi, rfl, rfl, hwl, hiq, hB⟩ := hrel
    have HB := Lib.hid hB
    have HWL := Lib.hid hwl
    have hq := wL_le L (ts.take i) 0 (by omega)
    rw [hwl] at hq
    have hi40 : i ≤ 1099511627777 := by have := HL.out; omega
    clear hwl hB
    by_cases hil : i < ts.length
    · have d1 : decide ((i : Int) < (ts.length : Int)) = true := decide_eq_true (by omega)
      have d1' : decide (i < ts.length) = true := decide_eq_true hil
      by_cases hqL : q ≤ L
      · have d2 : decide ((q : Int) ≤ (L : Int)) = true := decide_eq_true (by omega)
        have d2' : decide (q ≤ L) = true := decide_eq_true hqL
        obtain ⟨t, ht⟩ : ∃ t, ts[i]? = some t := ⟨_, List.getElem?_eq_getElem hil⟩
        obtain ⟨b, off, x, y, z, rfl, _, e0, e1, e2, hTt⟩ := ((HROW.out.keep (KeepB.of_below 0 HB.out))).at ht
        have HCALL := Lib.hid (HWG.out t _ q wr hTt hqL)
        have HNX : Hid (wL L (ts.take (i + 1)) 0 = wN L t q) := Lib.hid (wL_next ht HWL.out hqL)
        rw [Nat.zero_add] at e0 e1 e2
        have HGE := Lib.hid (wN_ge L t q)
        clear hTt ht
        go_wp2_with fail
        refine HCALL.out.mono ?_
        rintro e w2 ⟨rfl, hB2⟩
        have HB2 := Lib.hid (HB.out.trans (hB2.mono HB.out.size))
        clear hB2
        go_wp2_with fail
        go_roundw
        case rel => exact ⟨i + 1, wN L t q, by omega, by go_num, rfl, HNX.out, by have := HGE.out; omega, HB2.out⟩
        case measure => simp [intOf]; omega
      · have d2 : decide ((q : Int) ≤ (L : Int)) = false := decide_eq_false (by omega)
        have d2' : decide (q ≤ L) = false := decide_eq_false hqL
        have HE : Hid (wL L ts 0 = q) := Lib.hid (wL_dead HWL.out hqL)
        go_wp2_with fail
        go_ret
        exact ⟨by rw [HE.out]; simp [hqL], HB.out⟩
    · have d1 : decide ((i : Int) < (ts.length : Int)) = false := decide_eq_false (by omega)
      have d1' : decide (i < ts.length) = false := decide_eq_false hil
      have HE : Hid (wL L ts 0 = q) := Lib.hid (by rw [← HWL.out, List.take_of_length_le (by omega)])
      go_wp2_with fail
      go_ret
      exact ⟨by rw [HE.out]; first | rfl | (simp; done) | (congr 3; simp; done) | (simp; congr 1), HB.out⟩
end Go.Proofs.YtcophfhnhlaonaaGreatDoor
