/-
  Joined from Fxn, Fmx, Fxo: see there.
-/
import Derived.Test.YtopbfgkfpgnalaaGreatDoorUs
import Derived.Test.YtopbfgkfpgnalaaGreatDoorUo
namespace Go.Proofs.YtopbfgkfpgnalaaGreatDoor.X
set_option linter.unusedVariables false
open Go.RowKit

set_option maxRecDepth 100000 in
set_option maxHeartbeats 4000000 in
theorem measureExpr_bad (P M : Int) (h : ¬ OkF P M) (t : Tre) (v : Value) (w : World) (hL : Lays w) (hT : TreV 0 w t v) :
    Calls Tryz.prog 89 #[.agg #[.int .i64 P, .int .i64 M], v] w fun e w' => e = .returned (.tuple #[mesV none, .bool false]) ∧ Below w.heap.size w w' := by
  have HU := Lib.hid (fun W => unmeasured_ok W)
  obtain ⟨k, n, ts⟩ := t
  have hT2 := hT
  unfold TreV at hT2
  obtain ⟨A, c, rfl, _⟩ := hT2
  have hb0 : Below w.heap.size w (((w.alloc (.cells #[.int .i64 P, .int .i64 M] 49)).alloc (.cells #[.int .i64 k, .int .i64 n, .slice A ts.length c] 52)).alloc (.cells #[.int .i64 0, .int .i64 0, .int .i64 0, .int .i64 0] 110)) := (below2 w (.cells #[.int .i64 P, .int .i64 M] 49) (.cells #[.int .i64 k, .int .i64 n, .slice A ts.length c] 52)).alloc (by simp <;> omega) (.cells #[.int .i64 0, .int .i64 0, .int .i64 0, .int .i64 0] 110)
  have hc0 : (((w.alloc (.cells #[.int .i64 P, .int .i64 M] 49)).alloc (.cells #[.int .i64 k, .int .i64 n, .slice A ts.length c] 52)).alloc (.cells #[.int .i64 0, .int .i64 0, .int .i64 0, .int .i64 0] 110)).heap[w.heap.size]? = some (.cells #[.int .i64 P, .int .i64 M] 49 (0, 0)) := alloc_old _ _ _ _ (alloc_old _ _ _ _ (alloc_at w (.cells #[.int .i64 P, .int .i64 M] 49) _ rfl))
  have he0 : (((w.alloc (.cells #[.int .i64 P, .int .i64 M] 49)).alloc (.cells #[.int .i64 k, .int .i64 n, .slice A ts.length c] 52)).alloc (.cells #[.int .i64 0, .int .i64 0, .int .i64 0, .int .i64 0] 110)).heap[w.heap.size + 1]? = some (.cells #[.int .i64 k, .int .i64 n, .slice A ts.length c] 52 (0, 0)) := alloc_old _ _ _ _ (alloc_at _ _ _ (by simp))
  have hr0 : (((w.alloc (.cells #[.int .i64 P, .int .i64 M] 49)).alloc (.cells #[.int .i64 k, .int .i64 n, .slice A ts.length c] 52)).alloc (.cells #[.int .i64 0, .int .i64 0, .int .i64 0, .int .i64 0] 110)).heap[w.heap.size + 2]? = some (.cells #[.int .i64 0, .int .i64 0, .int .i64 0, .int .i64 0] 110 (0, 0)) := alloc_at _ _ _ (by simp)
  have hsz0 : (((w.alloc (.cells #[.int .i64 P, .int .i64 M] 49)).alloc (.cells #[.int .i64 k, .int .i64 n, .slice A ts.length c] 52)).alloc (.cells #[.int .i64 0, .int .i64 0, .int .i64 0, .int .i64 0] 110)).heap.size = w.heap.size + 3 := by simp
  have H0 := Lib.hid (And.intro hb0 (And.intro hc0 (And.intro he0 (And.intro hr0 hsz0))))
  have HV := Lib.hid (valid_no P M _ (hL.below hb0) h)
  have HTT := Lib.hid (fun W (hW : Below w.heap.size w W) => TreV.below hT hW)
  clear hL hT hb0 hc0 he0 hr0 hsz0 h
  go_enter Tryz.func89, Tryz.ntmps89
  go_wp2_with fail
  refine HV.out.mono ?_
  generalize ((w.alloc (.cells #[.int .i64 P, .int .i64 M] 49)).alloc (.cells #[.int .i64 k, .int .i64 n, .slice A ts.length c] 52)).alloc (.cells #[.int .i64 0, .int .i64 0, .int .i64 0, .int .i64 0] 110) = w0 at *
  rintro e w3 ⟨rfl, hB3⟩
  obtain ⟨hb0, hc0, he0, hr0, hsz0⟩ := H0.out
  have hb3 := hb0.trans (hB3.mono hb0.size)
  have hc3 := (hB3.block w.heap.size (by omega)).trans hc0
  have he3 := (hB3.block (w.heap.size + 1) (by omega)).trans he0
  have hr3 := (hB3.block (w.heap.size + 2) (by omega)).trans hr0
  have hsz3 : w.heap.size + 3 ≤ w3.heap.size := by have := hB3.size; omega
  have H3 := Lib.hid (And.intro hb3 (And.intro hr3 hsz3))
  clear hb0 hc0 he0 hr0 hsz0 hB3 hb3 hc3 he3 hr3 hsz3 H0
  go_wp2_with fail
  refine (HU.out _).mono ?_
  rintro e w4 ⟨rfl, hB4⟩
  obtain ⟨hb3, hr3, hsz3⟩ := H3.out
  have hr4 := (hB4.block (w.heap.size + 2) (by omega)).trans hr3
  have hb4 := hb3.trans (hB4.mono hb3.size)
  obtain ⟨⟨v0, v1, v2, v3⟩, z0, z1, z2, z3⟩ := blk4_cells hr4
  have hh := put4_heap (.int .i64 (-1)) (.int .i64 (-1)) (.int .i64 (-1)) (.int .i64 (-1)) hr4
  have hbb := put4_below hb4 (Nat.le_add_right w.heap.size 2) (.int .i64 (-1)) (.int .i64 (-1)) (.int .i64 (-1)) (.int .i64 (-1))
  have HF := Lib.hid (And.intro hh hbb)
  clear hh hbb hr4 hb4 hB4 hb3 hr3 hsz3
  unfold mesV
  go_wp2_with fail
  show bodyPost _ _ _ _ _ (put4 w4 (w.heap.size + 2) (.int .i64 (-1)) (.int .i64 (-1)) (.int .i64 (-1)) (.int .i64 (-1)))
  obtain ⟨hh, hbb⟩ := HF.out
  generalize put4 w4 (w.heap.size + 2) (.int .i64 (-1)) (.int .i64 (-1)) (.int .i64 (-1)) (.int .i64 (-1)) = W at *
  obtain ⟨⟨v0, v1, v2, v3⟩, _⟩ := blk4_cells hh
  exact bodyPost_ret (v := .tuple #[mesV none, .bool false]) (by simp [results, Tryz.results89, go_sem, v0, v1, v2, v3, mesV]) rfl ⟨rfl, hbb⟩

set_option maxRecDepth 100000 in
set_option maxHeartbeats 4000000 in
theorem measureExpr_ok (P M q : Nat) (hf : Fld P M q) (t : Tre) (v : Value) (w : World) (hL : Lays w) (hT : TreV 0 w t v) :
    Calls Tryz.prog 89 #[.agg #[.int .i64 (P : Int), .int .i64 (M : Int)], v] w fun e w' => e = .returned (.tuple #[mesV (mesI (eSh q) t), .bool (mesI (eSh q) t).isSome]) ∧ Below w.heap.size w w' := by
  obtain ⟨k, n, ts⟩ := t
  have hT2 := hT
  unfold TreV at hT2
  obtain ⟨A, c, rfl, _⟩ := hT2
  have hb0 : Below w.heap.size w (((w.alloc (.cells #[.int .i64 (P : Int), .int .i64 (M : Int)] 49)).alloc (.cells #[.int .i64 k, .int .i64 n, .slice A ts.length c] 52)).alloc (.cells #[.int .i64 0, .int .i64 0, .int .i64 0, .int .i64 0] 110)) := (below2 w (.cells #[.int .i64 (P : Int), .int .i64 (M : Int)] 49) (.cells #[.int .i64 k, .int .i64 n, .slice A ts.length c] 52)).alloc (by simp <;> omega) (.cells #[.int .i64 0, .int .i64 0, .int .i64 0, .int .i64 0] 110)
  have hc0 : (((w.alloc (.cells #[.int .i64 (P : Int), .int .i64 (M : Int)] 49)).alloc (.cells #[.int .i64 k, .int .i64 n, .slice A ts.length c] 52)).alloc (.cells #[.int .i64 0, .int .i64 0, .int .i64 0, .int .i64 0] 110)).heap[w.heap.size]? = some (.cells #[.int .i64 (P : Int), .int .i64 (M : Int)] 49 (0, 0)) := alloc_old _ _ _ _ (alloc_old _ _ _ _ (alloc_at w (.cells #[.int .i64 (P : Int), .int .i64 (M : Int)] 49) _ rfl))
  have he0 : (((w.alloc (.cells #[.int .i64 (P : Int), .int .i64 (M : Int)] 49)).alloc (.cells #[.int .i64 k, .int .i64 n, .slice A ts.length c] 52)).alloc (.cells #[.int .i64 0, .int .i64 0, .int .i64 0, .int .i64 0] 110)).heap[w.heap.size + 1]? = some (.cells #[.int .i64 k, .int .i64 n, .slice A ts.length c] 52 (0, 0)) := alloc_old _ _ _ _ (alloc_at _ _ _ (by simp))
  have hr0 : (((w.alloc (.cells #[.int .i64 (P : Int), .int .i64 (M : Int)] 49)).alloc (.cells #[.int .i64 k, .int .i64 n, .slice A ts.length c] 52)).alloc (.cells #[.int .i64 0, .int .i64 0, .int .i64 0, .int .i64 0] 110)).heap[w.heap.size + 2]? = some (.cells #[.int .i64 0, .int .i64 0, .int .i64 0, .int .i64 0] 110 (0, 0)) := alloc_at _ _ _ (by simp)
  have hsz0 : (((w.alloc (.cells #[.int .i64 (P : Int), .int .i64 (M : Int)] 49)).alloc (.cells #[.int .i64 k, .int .i64 n, .slice A ts.length c] 52)).alloc (.cells #[.int .i64 0, .int .i64 0, .int .i64 0, .int .i64 0] 110)).heap.size = w.heap.size + 3 := by simp
  have H0 := Lib.hid (And.intro hb0 (And.intro hc0 (And.intro he0 (And.intro hr0 hsz0))))
  have HV := Lib.hid (valid_yes P M _ (hL.below hb0) hf.ok)
  have HTT := Lib.hid (fun W (hW : Below w.heap.size w W) => TreV.below hT hW)
  obtain ⟨a1, a2, a3, a4, a5⟩ := eSh_all q
  have HF := Lib.hid (fun W (hW : Below w.heap.size w W) => expressions_ok P M q hf W (hL.below hW))
  have HME := Lib.hid (fun g W hs hT => measure_ok g (eSh q) a2 a5 (eSh_num hf.q_le) a4 (.mk k n ts) (.agg #[.int .i64 k, .int .i64 n, .slice A ts.length c]) W hs hT)
  clear a1 a2 a3 a4 a5
  rw [mesV_eq] at HME ⊢
  generalize mesI (eSh q) (.mk k n ts) = o at *
  unfold langV at HF HME
  clear hL hT hb0 hc0 he0 hr0 hsz0
  go_enter Tryz.func89, Tryz.ntmps89
  go_wp2_with fail
  refine HV.out.mono ?_
  generalize ((w.alloc (.cells #[.int .i64 (P : Int), .int .i64 (M : Int)] 49)).alloc (.cells #[.int .i64 k, .int .i64 n, .slice A ts.length c] 52)).alloc (.cells #[.int .i64 0, .int .i64 0, .int .i64 0, .int .i64 0] 110) = w0 at *
  rintro e w3 ⟨rfl, hB3⟩
  obtain ⟨hb0, hc0, he0, hr0, hsz0⟩ := H0.out
  have hb3 := hb0.trans (hB3.mono hb0.size)
  have hc3 := (hB3.block w.heap.size (by omega)).trans hc0
  have he3 := (hB3.block (w.heap.size + 1) (by omega)).trans he0
  have hr3 := (hB3.block (w.heap.size + 2) (by omega)).trans hr0
  have hsz3 : w.heap.size + 3 ≤ w3.heap.size := by have := hB3.size; omega
  obtain ⟨f0, f1⟩ := (show w3.cell? ⟨w.heap.size, 0, none⟩ = some (.int .i64 (P : Int)) ∧ w3.cell? ⟨w.heap.size, 1, none⟩ = some (.int .i64 (M : Int)) from ⟨by simp [World.cell?, hc3], by simp [World.cell?, hc3]⟩)
  obtain ⟨⟨t0, t1, t2⟩, _, _, _⟩ := blk3_cells he3
  have H3 := Lib.hid (And.intro hb3 (And.intro he3 (And.intro hr3 hsz3)))
  clear hb0 hc0 he0 hr0 hsz0 hB3 hb3 hc3 he3 hr3 hsz3 H0 HV
  go_upto_region 3 with fail
  go_region_law (first
    | (have hp := (Below.refl w3.heap.size w3).drew; go_simp; (with_reducible refine (HF.out w3.drew (H3.out.1.trans (hp.mono H3.out.1.size))).mono ?_); rintro e wa ⟨g, hg, rfl, hs, hBa⟩; have hba := hp.trans (hBa.mono (Nat.le_refl _)); have a0 := (hba.cell (World.block_lt_of_cell? w3 _ t0)).trans t0; have a1 := (hba.cell (World.block_lt_of_cell? w3 _ t1)).trans t1; have a2 := (hba.cell (World.block_lt_of_cell? w3 _ t2)).trans t2)
    | (have hp := hba; have hwa := H3.out.1.trans (hp.mono H3.out.1.size); go_simp; (with_reducible refine (HME.out g wa hs (HTT.out wa hwa)).mono ?_); rintro e wb ⟨rfl, hBb⟩; have hbb := hp.trans (hBb.mono hp.size); obtain ⟨⟨v0, v1, v2, v3⟩, z0, z1, z2, z3⟩ := blk4_cells ((hbb.block (w.heap.size + 2) (Nat.lt_of_lt_of_le (Nat.lt_succ_self _) H3.out.2.2.2)).trans H3.out.2.2.1)))
  all_goals
    have hw := H3.out.1.trans (hbb.mono H3.out.1.size)
    have hr := (hbb.block (w.heap.size + 2) (Nat.lt_of_lt_of_le (Nat.lt_succ_self _) H3.out.2.2.2)).trans H3.out.2.2.1
    have hh := put4_heap (.int .i64 (mesA o)) (.int .i64 (mesB o)) (.int .i64 (mesC o)) (.int .i64 (mesD o)) hr
    have hq := put4_below hw (Nat.le_add_right w.heap.size 2) (.int .i64 (mesA o)) (.int .i64 (mesB o)) (.int .i64 (mesC o)) (.int .i64 (mesD o))
    have HW := Lib.hid (And.intro hh hq)
    clear hw hr hh hq
    go_wp2_with fail
    show bodyPost _ _ _ _ _ (put4 wb (w.heap.size + 2) (.int .i64 (mesA o)) (.int .i64 (mesB o)) (.int .i64 (mesC o)) (.int .i64 (mesD o)))
    obtain ⟨hh, hq⟩ := HW.out
    generalize put4 wb (w.heap.size + 2) (.int .i64 (mesA o)) (.int .i64 (mesB o)) (.int .i64 (mesC o)) (.int .i64 (mesD o)) = W at *
    obtain ⟨⟨x0, x1, x2, x3⟩, _⟩ := blk4_cells hh
    exact bodyPost_ret (v := .tuple #[.agg #[.int .i64 (mesA o), .int .i64 (mesB o), .int .i64 (mesC o), .int .i64 (mesD o)], .bool o.isSome]) (by simp [results, Tryz.results89, go_sem, x0, x1, x2, x3]) rfl ⟨rfl, hq⟩
end Go.Proofs.YtopbfgkfpgnalaaGreatDoor.X
namespace Go.Proofs.YtopbfgkfpgnalaaGreatDoor
set_option linter.unusedVariables false
open Go.RowKit

mutual
def wN (L : Nat) : Tre → Nat → Nat
  | .mk _ _ ts, a => wL L ts (a + 1)
def wL (L : Nat) : List Tre → Nat → Nat
  | [], a => a
  | t :: ts, a => if a ≤ L then wL L ts (wN L t a) else a
end
mutual
theorem wN_le (L : Nat) : ∀ (t : Tre) (a : Nat), a ≤ L → wN L t a ≤ L + 1
  | .mk _ _ ts, a, h => by unfold wN; exact wL_le L ts (a + 1) (by omega)
theorem wL_le (L : Nat) : ∀ (ts : List Tre) (a : Nat), a ≤ L + 1 → wL L ts a ≤ L + 1
  | [], a, h => by unfold wL; exact h
  | t :: ts, a, h => by
    unfold wL
    split
    · rename_i hc; exact wL_le L ts _ (wN_le L t a hc)
    · exact h
end
mutual
theorem wN_ge (L : Nat) : ∀ (t : Tre) (a : Nat), a + 1 ≤ wN L t a
  | .mk _ _ ts, a => by unfold wN; exact wL_ge L ts (a + 1)
theorem wL_ge (L : Nat) : ∀ (ts : List Tre) (a : Nat), a ≤ wL L ts a
  | [], a => by unfold wL; exact Nat.le_refl _
  | t :: ts, a => by
    unfold wL
    split
    · exact Nat.le_trans (Nat.le_trans (Nat.le_succ a) (wN_ge L t a)) (wL_ge L ts _)
    · exact Nat.le_refl _
end
theorem wL_stay (L : Nat) : ∀ (ts : List Tre) {a : Nat}, ¬ a ≤ L → wL L ts a = a
  | [], a, h => by unfold wL; rfl
  | t :: ts, a, h => by unfold wL; exact if_neg h
theorem wL_append (L : Nat) : ∀ (xs bs : List Tre) (a : Nat), wL L (xs ++ bs) a = wL L bs (wL L xs a)
  | [], bs, a => by simp [wL]
  | t :: xs, bs, a => by
    rw [List.cons_append, wL, wL]
    split
    · exact wL_append L xs bs _
    · rename_i h; exact (wL_stay L bs h).symm
theorem wL_next {L : Nat} {ts : List Tre} {i a q : Nat} {t : Tre} (ht : ts[i]? = some t) (h : wL L (ts.take i) a = q) (hq : q ≤ L) : wL L (ts.take (i + 1)) a = wN L t q := by
  rw [List.take_add_one, ht, wL_append, h]
  simp only [Option.toList_some]
  rw [wL, if_pos hq, wL]
theorem wL_dead {L : Nat} {ts : List Tre} {i a q : Nat} (h : wL L (ts.take i) a = q) (hq : ¬ q ≤ L) : wL L ts a = q := by
  have := wL_append L (ts.take i) (ts.drop i) a
  rw [List.take_append_drop, h, wL_stay L _ hq] at this
  exact this

set_option maxRecDepth 100000 in
set_option maxHeartbeats 4000000 in
theorem weigh_ok (L : Nat) (hL : L ≤ 1099511627776) : ∀ (N : Nat) (t : Tre), SizeOf.sizeOf t < N → ∀ (v : Value) (a : Nat) (w : World), TreV 0 w t v → a ≤ L →
    Calls Tryz.prog 72 #[v, .int .i64 (a : Int), .int .i64 (L : Int)] w fun e w' => e = .returned (.int .i64 (wN L t a : Nat)) ∧ Below w.heap.size w w' := by
  intro N
  induction N with
  | zero => intro t h; omega
  | succ N ih =>
    intro t htN v a w hT haL
    obtain ⟨k, n, ts⟩ := t
    have hT2 := hT
    unfold TreV at hT2
    obtain ⟨A, c, rfl, hrow⟩ := hT2
    obtain ⟨w0, hw0⟩ : ∃ w0, w0 = w.alloc (.cells #[.int .i64 k, .int .i64 n, .slice A ts.length c] 24) := ⟨_, rfl⟩
    have hb0 : Below w.heap.size w w0 := by rw [hw0]; exact below1 _ _
    have htb : w0.heap[w.heap.size]? = some (.cells #[.int .i64 k, .int .i64 n, .slice A ts.length c] 24 (0, 0)) := by
      rw [hw0]; exact alloc_at _ _ _ rfl
    have hsz0 : w0.heap.size = w.heap.size + 1 := by rw [hw0]; simp
    have HW0 := Lib.hid hw0
    have HB0 := Lib.hid (And.intro hb0 hsz0)
    have HBX := Lib.hid (show ∀ W, Below w0.heap.size w0 W → (W.cell? ⟨w.heap.size, 0, none⟩ = some (.int .i64 k) ∧ W.cell? ⟨w.heap.size, 1, none⟩ = some (.int .i64 n) ∧ W.cell? ⟨w.heap.size, 2, none⟩ = some (.slice A ts.length c)) from fun W ho => (blk3_cells ((ho.block _ (by omega)).trans htb)).1)
    have HBW : Hid (∀ W, Below w0.heap.size w0 W → Below w.heap.size w W) := Lib.hid (fun W ho => hb0.trans (ho.mono hb0.size))
    have HIH := Lib.hid ih
    have HROW := Lib.hid hrow
    have HTN := Lib.hid htN
    have HWN : Hid (wN L (.mk k n ts) a = wL L ts (a + 1)) := Lib.hid rfl
    have HL := Lib.hid hL
    have HA := Lib.hid haL
    obtain ⟨c0, c1, c2⟩ := HBX.out w0 (Below.refl _ _)
    have ha40 : a ≤ 1099511627776 := by omega
    clear ih htb hb0 hw0 hsz0 hrow htN hT hL
    go_enter Tryz.func72, Tryz.ntmps72
    go_wp2_with fail
    rw [← HW0.out]
    go_loopw [1, 7] (fun av iv W => ∃ i c : Nat, i ≤ ts.length ∧ iv = .int .i64 i ∧ av = .int .i64 (c : Int) ∧ wL L (ts.take i) (a + 1) = c ∧ i ≤ c ∧ Below w0.heap.size w0 W) (fun _ iv _ => ts.length - (intOf iv).toNat)
    case atStart => exact ⟨0, a + 1, by omega, rfl, by go_num, by simp [wL], by omega, Below.refl _ _⟩
    case round =>
      obtain ⟨i, q, hi, rfl, rfl, hwl, hiq, hB⟩ := hrel
      have HB := Lib.hid hB
      have HWL := Lib.hid hwl
      have hq := wL_le L (ts.take i) (a + 1) (by have := HA.out; omega)
      rw [hwl] at hq
      have hi40 : i ≤ 1099511627777 := by have := HL.out; omega
      obtain ⟨c0, c1, c2⟩ := HBX.out _ hB
      clear hwl hB
      by_cases hil : i < ts.length
      · have d1 : decide ((i : Int) < (ts.length : Int)) = true := decide_eq_true (by omega)
        have d1' : decide (i < ts.length) = true := decide_eq_true hil
        by_cases hqL : q ≤ L
        · have d2 : decide ((q : Int) ≤ (L : Int)) = true := decide_eq_true (by omega)
          have d2' : decide (q ≤ L) = true := decide_eq_true hqL
          obtain ⟨t, ht⟩ : ∃ t, ts[i]? = some t := ⟨_, List.getElem?_eq_getElem hil⟩
          obtain ⟨b, off, x, y, z, rfl, _, e0, e1, e2, hTt⟩ := ((HROW.out.keep (KeepB.of_below 0 (HBW.out _ HB.out)))).at ht
          have HCALL := Lib.hid (HIH.out t (Nat.lt_of_lt_of_le (kid_size (List.mem_of_getElem? ht)) (Nat.le_of_lt_succ HTN.out)) _ q wr hTt hqL)
          have HNX : Hid (wL L (ts.take (i + 1)) (a + 1) = wN L t q) := Lib.hid (wL_next ht HWL.out hqL)
          rw [Nat.zero_add] at e0 e1 e2
          have HGE := Lib.hid (wN_ge L t q)
          clear hTt ht
          go_wp2_with fail
          refine HCALL.out.mono ?_
          rintro e w2 ⟨rfl, hB2⟩
          have HB2 := Lib.hid (HB.out.trans (hB2.mono HB.out.size))
          clear hB2
          go_wp2_with fail
          go_roundw
          case rel => exact ⟨i + 1, wN L t q, by omega, by go_num, rfl, HNX.out, by have := HGE.out; omega, HB2.out⟩
          case measure => simp [intOf]; omega
        · have d2 : decide ((q : Int) ≤ (L : Int)) = false := decide_eq_false (by omega)
          have d2' : decide (q ≤ L) = false := decide_eq_false hqL
          have HE : Hid (wN L (.mk k n ts) a = q) := Lib.hid (by rw [HWN.out]; exact wL_dead HWL.out hqL)
          go_wp2_with fail
          go_ret
          exact ⟨by rw [HE.out]; rfl, HBW.out _ HB.out⟩
      · have d1 : decide ((i : Int) < (ts.length : Int)) = false := decide_eq_false (by omega)
        have d1' : decide (i < ts.length) = false := decide_eq_false hil
        have HE : Hid (wN L (.mk k n ts) a = q) := Lib.hid (by rw [HWN.out, ← HWL.out, List.take_of_length_le (by omega)])
        go_wp2_with fail
        go_ret
        exact ⟨by rw [HE.out]; rfl, HBW.out _ HB.out⟩

/-- The formulas of a row, weighed one after another. -/
theorem RowV.below' {B : Nat} {w w' : World} {ts : List Tre} {A : Option Addr} {i : Nat} (h : RowV B w ts A i) (hb : Below w.heap.size w w') : RowV B w' ts A i := h.keep (KeepB.of_below B hb)

set_option maxRecDepth 100000 in
set_option maxHeartbeats 4000000 in
theorem Few_ok (L : Nat) (hL : L ≤ 1099511627776) (ts : List Tre) (A : Option Addr) (c : Nat) (w : World) (hrow : RowV 0 w ts A 0) :
    Calls Tryz.prog 15 #[.int .i64 (L : Int), .slice A ts.length c] w fun e w' => e = .returned (.bool (decide (wL L ts 0 ≤ L))) ∧ Below w.heap.size w w' := by
  have HROW := Lib.hid hrow
  have HL := Lib.hid hL
  have HWG := Lib.hid (fun t v a W hT ha => weigh_ok L hL _ t (Nat.lt_succ_self _) v a W hT ha)
  clear hrow hL
  go_enter Tryz.func15, Tryz.ntmps15
  go_wp2_with fail
  go_loopw [5, 6] (fun av iv W => ∃ i q : Nat, i ≤ ts.length ∧ iv = .int .i64 i ∧ av = .int .i64 (q : Int) ∧ wL L (ts.take i) 0 = q ∧ i ≤ q ∧ Below w.heap.size w W) (fun _ iv _ => ts.length - (intOf iv).toNat)
  case atStart => exact ⟨0, 0, by omega, rfl, rfl, by simp [wL], by omega, Below.refl _ _⟩
  case round =>
    obtain ⟨i, q, hi, rfl, rfl, hwl, hiq, hB⟩ := hrel
    have HB := Lib.hid hB
    have HWL := Lib.hid hwl
    have hq := wL_le L (ts.take i) 0 (by omega)
    rw [hwl] at hq
    have hi40 : i ≤ 1099511627777 := by have := HL.out; omega
    clear hwl hB
    by_cases hil : i < ts.length
    · have d1 : decide ((i : Int) < (ts.length : Int)) = true := decide_eq_true (by omega)
      have d1' : decide (i < ts.length) = true := decide_eq_true hil
      by_cases hqL : q ≤ L
      · have d2 : decide ((q : Int) ≤ (L : Int)) = true := decide_eq_true (by omega)
        have d2' : decide (q ≤ L) = true := decide_eq_true hqL
        obtain ⟨t, ht⟩ : ∃ t, ts[i]? = some t := ⟨_, List.getElem?_eq_getElem hil⟩
        obtain ⟨b, off, x, y, z, rfl, _, e0, e1, e2, hTt⟩ := ((HROW.out.keep (KeepB.of_below 0 HB.out))).at ht
        have HCALL := Lib.hid (HWG.out t _ q wr hTt hqL)
        have HNX : Hid (wL L (ts.take (i + 1)) 0 = wN L t q) := Lib.hid (wL_next ht HWL.out hqL)
        rw [Nat.zero_add] at e0 e1 e2
        have HGE := Lib.hid (wN_ge L t q)
        clear hTt ht
        go_wp2_with fail
        refine HCALL.out.mono ?_
        rintro e w2 ⟨rfl, hB2⟩
        have HB2 := Lib.hid (HB.out.trans (hB2.mono HB.out.size))
        clear hB2
        go_wp2_with fail
        go_roundw
        case rel => exact ⟨i + 1, wN L t q, by omega, by go_num, rfl, HNX.out, by have := HGE.out; omega, HB2.out⟩
        case measure => simp [intOf]; omega
      · have d2 : decide ((q : Int) ≤ (L : Int)) = false := decide_eq_false (by omega)
        have d2' : decide (q ≤ L) = false := decide_eq_false hqL
        have HE : Hid (wL L ts 0 = q) := Lib.hid (wL_dead HWL.out hqL)
        go_wp2_with fail
        go_ret
        exact ⟨by rw [HE.out]; simp [hqL], HB.out⟩
    · have d1 : decide ((i : Int) < (ts.length : Int)) = false := decide_eq_false (by omega)
      have d1' : decide (i < ts.length) = false := decide_eq_false hil
      have HE : Hid (wL L ts 0 = q) := Lib.hid (by rw [← HWL.out, List.take_of_length_le (by omega)])
      go_wp2_with fail
      go_ret
      exact ⟨by rw [HE.out]; first | rfl | (simp; done) | (congr 3; simp; done) | (simp; congr 1), HB.out⟩
end Go.Proofs.YtopbfgkfpgnalaaGreatDoor
namespace Go.Proofs.YtopbfgkfpgnalaaGreatDoor.X
set_option linter.unusedVariables false
open Go.RowKit

set_option maxRecDepth 100000 in
set_option maxHeartbeats 4000000 in
theorem weigh_ok (L : Nat) (hL : L ≤ 1099511627776) : ∀ (N : Nat) (t : Tre), SizeOf.sizeOf t < N → ∀ (v : Value) (a : Nat) (w : World), TreV 0 w t v → a ≤ L →
    Calls Tryz.prog 85 #[v, .int .i64 (a : Int), .int .i64 (L : Int)] w fun e w' => e = .returned (.int .i64 (wN L t a : Nat)) ∧ Below w.heap.size w w' := by
  intro N
  induction N with
  | zero => intro t h; omega
  | succ N ih =>
    intro t htN v a w hT haL
    obtain ⟨k, n, ts⟩ := t
    have hT2 := hT
    unfold TreV at hT2
    obtain ⟨A, c, rfl, hrow⟩ := hT2
    obtain ⟨w0, hw0⟩ : ∃ w0, w0 = w.alloc (.cells #[.int .i64 k, .int .i64 n, .slice A ts.length c] 52) := ⟨_, rfl⟩
    have hb0 : Below w.heap.size w w0 := by rw [hw0]; exact below1 _ _
    have htb : w0.heap[w.heap.size]? = some (.cells #[.int .i64 k, .int .i64 n, .slice A ts.length c] 52 (0, 0)) := by
      rw [hw0]; exact alloc_at _ _ _ rfl
    have hsz0 : w0.heap.size = w.heap.size + 1 := by rw [hw0]; simp
    have HW0 := Lib.hid hw0
    have HB0 := Lib.hid (And.intro hb0 hsz0)
    have HBX := Lib.hid (show ∀ W, Below w0.heap.size w0 W → (W.cell? ⟨w.heap.size, 0, none⟩ = some (.int .i64 k) ∧ W.cell? ⟨w.heap.size, 1, none⟩ = some (.int .i64 n) ∧ W.cell? ⟨w.heap.size, 2, none⟩ = some (.slice A ts.length c)) from fun W ho => (blk3_cells ((ho.block _ (by omega)).trans htb)).1)
    have HBW : Hid (∀ W, Below w0.heap.size w0 W → Below w.heap.size w W) := Lib.hid (fun W ho => hb0.trans (ho.mono hb0.size))
    have HIH := Lib.hid ih
    have HROW := Lib.hid hrow
    have HTN := Lib.hid htN
    have HWN : Hid (wN L (.mk k n ts) a = wL L ts (a + 1)) := Lib.hid rfl
    have HL := Lib.hid hL
    have HA := Lib.hid haL
    obtain ⟨c0, c1, c2⟩ := HBX.out w0 (Below.refl _ _)
    have ha40 : a ≤ 1099511627776 := by omega
    clear ih htb hb0 hw0 hsz0 hrow htN hT hL
    go_enter Tryz.func85, Tryz.ntmps85
    go_wp2_with fail
    rw [← HW0.out]
    go_loopw [1, 7] (fun av iv W => ∃ i c : Nat, i ≤ ts.length ∧ iv = .int .i64 i ∧ av = .int .i64 (c : Int) ∧ wL L (ts.take i) (a + 1) = c ∧ i ≤ c ∧ Below w0.heap.size w0 W) (fun _ iv _ => ts.length - (intOf iv).toNat)
    case atStart => exact ⟨0, a + 1, by omega, rfl, by go_num, by simp [wL], by omega, Below.refl _ _⟩
    case round =>
      obtain ⟨i, q, hi, rfl, rfl, hwl, hiq, hB⟩ := hrel
      have HB := Lib.hid hB
      have HWL := Lib.hid hwl
      have hq := wL_le L (ts.take i) (a + 1) (by have := HA.out; omega)
      rw [hwl] at hq
      have hi40 : i ≤ 1099511627777 := by have := HL.out; omega
      obtain ⟨c0, c1, c2⟩ := HBX.out _ hB
      clear hwl hB
      by_cases hil : i < ts.length
      · have d1 : decide ((i : Int) < (ts.length : Int)) = true := decide_eq_true (by omega)
        have d1' : decide (i < ts.length) = true := decide_eq_true hil
        by_cases hqL : q ≤ L
        · have d2 : decide ((q : Int) ≤ (L : Int)) = true := decide_eq_true (by omega)
          have d2' : decide (q ≤ L) = true := decide_eq_true hqL
          obtain ⟨t, ht⟩ : ∃ t, ts[i]? = some t := ⟨_, List.getElem?_eq_getElem hil⟩
          obtain ⟨b, off, x, y, z, rfl, _, e0, e1, e2, hTt⟩ := ((HROW.out.keep (KeepB.of_below 0 (HBW.out _ HB.out)))).at ht
          have HCALL := Lib.hid (HIH.out t (Nat.lt_of_lt_of_le (kid_size (List.mem_of_getElem? ht)) (Nat.le_of_lt_succ HTN.out)) _ q wr hTt hqL)
          have HNX : Hid (wL L (ts.take (i + 1)) (a + 1) = wN L t q) := Lib.hid (wL_next ht HWL.out hqL)
          rw [Nat.zero_add] at e0 e1 e2
          have HGE := Lib.hid (wN_ge L t q)
          clear hTt ht
          go_wp2_with fail
          refine HCALL.out.mono ?_
          rintro e w2 ⟨rfl, hB2⟩
          have HB2 := Lib.hid (HB.out.trans (hB2.mono HB.out.size))
          clear hB2
          go_wp2_with fail
          go_roundw
          case rel => exact ⟨i + 1, wN L t q, by omega, by go_num, rfl, HNX.out, by have := HGE.out; omega, HB2.out⟩
          case measure => simp [intOf]; omega
        · have d2 : decide ((q : Int) ≤ (L : Int)) = false := decide_eq_false (by omega)
          have d2' : decide (q ≤ L) = false := decide_eq_false hqL
          have HE : Hid (wN L (.mk k n ts) a = q) := Lib.hid (by rw [HWN.out]; exact wL_dead HWL.out hqL)
          go_wp2_with fail
          go_ret
          exact ⟨by rw [HE.out]; rfl, HBW.out _ HB.out⟩
      · have d1 : decide ((i : Int) < (ts.length : Int)) = false := decide_eq_false (by omega)
        have d1' : decide (i < ts.length) = false := decide_eq_false hil
        have HE : Hid (wN L (.mk k n ts) a = q) := Lib.hid (by rw [HWN.out, ← HWL.out, List.take_of_length_le (by omega)])
        go_wp2_with fail
        go_ret
        exact ⟨by rw [HE.out]; rfl, HBW.out _ HB.out⟩

set_option maxRecDepth 100000 in
set_option maxHeartbeats 4000000 in
theorem FewExpr_ok (L : Nat) (hL : L ≤ 1099511627776) (t : Tre) (v : Value) (w : World) (hT : TreV 0 w t v) :
    Calls Tryz.prog 35 #[.int .i64 (L : Int), v] w fun e w' => e = .returned (.bool (decide (wN L t 0 ≤ L))) ∧ Below w.heap.size w w' := by
  obtain ⟨k, n, ts⟩ := t
  have hT2 := hT
  unfold TreV at hT2
  obtain ⟨A, c, rfl, hrow⟩ := hT2
  have hb0 := below1 w (.cells #[.int .i64 k, .int .i64 n, .slice A ts.length c] 52)
  have HC := Lib.hid (weigh_ok L hL _ (.mk k n ts) (Nat.lt_succ_self _) _ 0 _ (TreV.below hT hb0) (Nat.zero_le _))
  have HB := Lib.hid hb0
  obtain ⟨⟨c0, c1, c2⟩, _⟩ := blk3_cells (alloc_at w (.cells #[.int .i64 k, .int .i64 n, .slice A ts.length c] 52) _ rfl)
  clear hT hb0 hrow hL
  go_enter Tryz.func35, Tryz.ntmps35
  go_wp2_with fail
  refine HC.out.mono ?_
  rintro e w2 ⟨rfl, hB2⟩
  have HB2 := Lib.hid (HB.out.trans (hB2.mono HB.out.size))
  clear hB2
  go_wp2_with fail
  go_ret
  exact ⟨by first | rfl | simp, HB2.out⟩
end Go.Proofs.YtopbfgkfpgnalaaGreatDoor.X
