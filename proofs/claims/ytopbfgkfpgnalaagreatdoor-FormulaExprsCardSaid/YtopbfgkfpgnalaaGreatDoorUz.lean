/-
  Joined from Fnh, Fni: see there.
-/
import Derived.Test.YtopbfgkfpgnalaaGreatDoorUy
import Derived.Test.YtopbfgkfpgnalaaGreatDoorRg
import Derived.Test.YtopbfgkfpgnalaaGreatDoorUb
namespace Go.Proofs.YtopbfgkfpgnalaaGreatDoor.X
set_option linter.unusedVariables false
open Go.RowKit

set_option maxRecDepth 100000 in
set_option maxHeartbeats 4000000 in
theorem Size_ref (Q : Nat) : ∀ (N : Nat) (t : Tre), SizeOf.sizeOf t < N → ∀ (v : Value) (w : World), TreV 0 w t v → nodT t ≤ 1099511627776 → shN (eSh Q) t = true →
    Calls Tryz.prog 42 #[v] w fun e w' => e = .returned (.int .i64 (sizT t : Nat)) ∧ Below w.heap.size w w' := by
  intro N
  induction N with
  | zero => intro t h; omega
  | succ N ih =>
    intro t htN v w hT hnod hsh
    obtain ⟨k, n, ts⟩ := t
    have hT2 := hT
    unfold TreV at hT2
    obtain ⟨A, c, rfl, hrow⟩ := hT2
    obtain ⟨w0, hw0⟩ : ∃ w0, w0 = w.alloc (.cells #[.int .i64 k, .int .i64 n, .slice A ts.length c] 52) := ⟨_, rfl⟩
    have hb0 : Below w.heap.size w w0 := by rw [hw0]; exact below1 _ _
    have htb : w0.heap[w.heap.size]? = some (.cells #[.int .i64 k, .int .i64 n, .slice A ts.length c] 52 (0, 0)) := by
      rw [hw0]; exact alloc_at _ _ _ rfl
    have hsz0 : w0.heap.size = w.heap.size + 1 := by rw [hw0]; simp
    have HW0 := Lib.hid hw0
    have HB0 := Lib.hid (And.intro hb0 hsz0)
    have HBX := Lib.hid (show ∀ W, Below w0.heap.size w0 W → (W.cell? ⟨w.heap.size, 0, none⟩ = some (.int .i64 k) ∧ W.cell? ⟨w.heap.size, 1, none⟩ = some (.int .i64 n) ∧ W.cell? ⟨w.heap.size, 2, none⟩ = some (.slice A ts.length c)) from fun W ho => (blk3_cells ((ho.block _ (by omega)).trans htb)).1)
    have HBW : Hid (∀ W, Below w0.heap.size w0 W → Below w.heap.size w W) := Lib.hid (fun W ho => hb0.trans (ho.mono hb0.size))
    have HIH := Lib.hid ih
    have HROW := Lib.hid hrow
    have HTN := Lib.hid htN
    have hlen : ts.length ≤ 1099511627776 := by have := nodL_len ts; unfold nodT at hnod; omega
    have HNL := Lib.hid (show nodL ts + 1 ≤ 1099511627776 from by unfold nodT at hnod; exact hnod)
    have hsh2 := hsh
    rw [shN, Bool.and_eq_true] at hsh2
    have hk2 : (ts.length = 0 ∧ depAt (eSh Q) k = 0) ∨ ts.length = 2 ∧ depAt (eSh Q) k = 1 := by
      obtain ⟨s, hs, a1, a2, a3, a4⟩ := permN_of hsh2.2
      have hm := List.mem_of_getElem? hs
      have hd : depAt (eSh Q) k = s.dep := by simp [depAt, hs]
      rw [hd, a4]
      simp [eSh] at hm
      rcases hm with rfl | rfl | rfl | rfl <;> simp
    have HSHM := Lib.hid (fun t ht => shL_mem hsh2.1 (t := t) ht)
    obtain ⟨c0, c1, c2⟩ := HBX.out w0 (Below.refl _ _)
    rcases hk2 with ⟨hl, hdk⟩ | ⟨hl, hdk⟩
    · have HE : Hid (sizT (.mk k n ts) = 1) := Lib.hid (by unfold sizT; exact if_pos hl)
      have dl : ((ts.length : Int) == 0) = true := by simp [hl]
      clear ih htb hb0 hw0 hsz0 hrow htN hT hnod hsh hsh2
      clear hl hdk
      go_enter Tryz.func42, Tryz.ntmps42
      go_wp2_with fail
      rw [← HW0.out]
      go_ret
      exact ⟨by rw [HE.out]; rfl, HB0.out.1⟩
    · obtain ⟨ta, tb, rfl⟩ : ∃ a b, ts = [a, b] := by
        match ts, hl with
        | [a, b], _ => exact ⟨a, b, rfl⟩
      have HE : Hid (sizT (.mk k n [ta, tb]) = sizT ta + sizT tb) := Lib.hid (by rw [sizT, if_neg (by simp)]; simp [sizL])
      have HKID := Lib.hid (fun W (hW : Below w0.heap.size w0 W) => hrow.keep (w' := W) (KeepB.of_below 0 (HBW.out W hW)))
      have hnl := HNL.out
      have hna := nodL_mem (ts := [ta, tb]) (t := ta) (by simp)
      have hnb := nodL_mem (ts := [ta, tb]) (t := tb) (by simp)
      have hza : sizT ta ≤ 1099511627776 := by have := sizT_le ta; omega
      have hzb : sizT tb ≤ 1099511627776 := by have := sizT_le tb; omega
      obtain ⟨b, off, xa', ya', za', rfl, _, _, _, _, _⟩ := hrow.at (j := 0) (t := ta) rfl
      obtain ⟨b2, off2, xb', yb', zb', hAe, _, _, _, _, _⟩ := hrow.at (j := 1) (t := tb) rfl
      obtain ⟨rfl, rfl⟩ : b2 = b ∧ off2 = off := by cases hAe; exact ⟨rfl, rfl⟩
      have hka : ∃ x y z, ∀ W, Below w0.heap.size w0 W → W.cell? ⟨b2, off2, none⟩ = some x ∧ W.cell? ⟨b2, off2 + 1, none⟩ = some y ∧ W.cell? ⟨b2, off2 + 2, none⟩ = some z ∧ TreV 0 W ta (.agg #[x, y, z]) := by
        obtain ⟨b, off, x, y, z, hAe, _, d0, d1, d2, _⟩ := (hrow.keep (w' := w0) (KeepB.of_below 0 hb0)).at (j := 0) (t := ta) rfl
        cases hAe
        refine ⟨x, y, z, fun W hW => ?_⟩
        obtain ⟨b, off, x', y', z', hAe, _, e0, e1, e2, hT'⟩ := (HKID.out W hW).at (j := 0) (t := ta) rfl
        cases hAe
        have f0 := (hW.cell (World.block_lt_of_cell? w0 _ d0)).trans d0
        have f1 := (hW.cell (World.block_lt_of_cell? w0 _ d1)).trans d1
        have f2 := (hW.cell (World.block_lt_of_cell? w0 _ d2)).trans d2
        rw [e0] at f0
        rw [e1] at f1
        rw [e2] at f2
        cases f0
        cases f1
        cases f2
        exact ⟨e0, e1, e2, hT'⟩
      have hkb : ∃ x y z, ∀ W, Below w0.heap.size w0 W → W.cell? ⟨b2, off2 + 3, none⟩ = some x ∧ W.cell? ⟨b2, off2 + 4, none⟩ = some y ∧ W.cell? ⟨b2, off2 + 5, none⟩ = some z ∧ TreV 0 W tb (.agg #[x, y, z]) := by
        obtain ⟨b, off, x, y, z, hAe, _, d0, d1, d2, _⟩ := (hrow.keep (w' := w0) (KeepB.of_below 0 hb0)).at (j := 1) (t := tb) rfl
        cases hAe
        refine ⟨x, y, z, fun W hW => ?_⟩
        obtain ⟨b, off, x', y', z', hAe, _, e0, e1, e2, hT'⟩ := (HKID.out W hW).at (j := 1) (t := tb) rfl
        cases hAe
        have f0 := (hW.cell (World.block_lt_of_cell? w0 _ d0)).trans d0
        have f1 := (hW.cell (World.block_lt_of_cell? w0 _ d1)).trans d1
        have f2 := (hW.cell (World.block_lt_of_cell? w0 _ d2)).trans d2
        rw [e0] at f0
        rw [e1] at f1
        rw [e2] at f2
        cases f0
        cases f1
        cases f2
        exact ⟨e0, e1, e2, hT'⟩
      obtain ⟨x, y, z, hka⟩ := hka
      obtain ⟨x', y', z', hkb⟩ := hkb
      have HCA := Lib.hid (fun W (hW : Below w0.heap.size w0 W) => HIH.out ta (Nat.lt_of_lt_of_le (kid_size (ts := [ta, tb]) (by simp)) (Nat.le_of_lt_succ HTN.out)) _ W (hka W hW).2.2.2 (by omega) (HSHM.out ta (by simp)))
      have HCB := Lib.hid (fun W (hW : Below w0.heap.size w0 W) => HIH.out tb (Nat.lt_of_lt_of_le (kid_size (ts := [ta, tb]) (by simp)) (Nat.le_of_lt_succ HTN.out)) _ W (hkb W hW).2.2.2 (by omega) (HSHM.out tb (by simp)))
      have HK : Hid (∀ W, Below w0.heap.size w0 W → W.cell? ⟨w.heap.size, 2, none⟩ = some (.slice (some ⟨b2, off2, none⟩) 2 c) ∧ W.cell? ⟨b2, off2, none⟩ = some x ∧ W.cell? ⟨b2, off2 + 1, none⟩ = some y ∧ W.cell? ⟨b2, off2 + 2, none⟩ = some z ∧ W.cell? ⟨b2, off2 + 3, none⟩ = some x' ∧ W.cell? ⟨b2, off2 + 4, none⟩ = some y' ∧ W.cell? ⟨b2, off2 + 5, none⟩ = some z') :=
        Lib.hid (fun W hW => ⟨(HBX.out W hW).2.2, (hka W hW).1, (hka W hW).2.1, (hka W hW).2.2.1, (hkb W hW).1, (hkb W hW).2.1, (hkb W hW).2.2.1⟩)
      generalize hga : sizT ta = xa at *
      generalize hgb : sizT tb = xb at *
      have HW2 : Hid (w0 = w.alloc (.cells #[.int .i64 k, .int .i64 n, .slice (some ⟨b2, off2, none⟩) 2 c] 52)) := Lib.hid hw0
      clear ih htb hb0 hw0 hsz0 hrow htN hT hnod hsh hsh2
      clear hka hkb HKID hnl hna hnb hga hgb hl hdk hlen hAe HIH
      go_enter Tryz.func42, Tryz.ntmps42
      go_upto_region 3 with fail
      rw [← HW2.out]
      refine wp_region_text (S := (fun W => Below w0.heap.size w0 W ∧ W.cell? ⟨w.heap.size, 2, none⟩ = some (.slice (some ⟨b2, off2, none⟩) 2 c) ∧ W.cell? ⟨b2, off2, none⟩ = some x ∧ W.cell? ⟨b2, off2 + 1, none⟩ = some y ∧ W.cell? ⟨b2, off2 + 2, none⟩ = some z ∧ W.cell? ⟨b2, off2 + 3, none⟩ = some x' ∧ W.cell? ⟨b2, off2 + 4, none⟩ = some y' ∧ W.cell? ⟨b2, off2 + 5, none⟩ = some z')) (by kernel_rfl) (by kernel_rfl) ⟨(Below.refl _ w0).drew, HK.out _ (Below.refl _ w0).drew⟩ (b := ?bq) ?text ?post
      case text =>
        refine InText.pure (by rfl) (fun w hw => by (try dsimp only at hw); go_simp; try with_reducible rfl) ?_
        simp only [Act.put, List.setIfInBounds_toArray, List.set_cons_zero, List.set_cons_succ]
        refine InText.pure (by rfl) (fun w hw => by (try dsimp only at hw); go_simp; try with_reducible rfl) ?_
        simp only [Act.put, List.setIfInBounds_toArray, List.set_cons_zero, List.set_cons_succ]
        refine InText.pure (by rfl) (fun w hw => by (try dsimp only at hw); go_simp; try with_reducible rfl) ?_
        simp only [Act.put, List.setIfInBounds_toArray, List.set_cons_zero, List.set_cons_succ]
        refine InText.pure (by rfl) (fun w hw => by (try dsimp only at hw); go_simp; try with_reducible rfl) ?_
        simp only [Act.put, List.setIfInBounds_toArray, List.set_cons_zero, List.set_cons_succ]
        refine InText.call (.int .i64 (xa : Nat)) (by rfl) (fun w hw => ?_) ?_
        · go_simp
          refine (HCA.out w hw.1).mono ?_
          rintro e wx ⟨rfl, hB⟩
          exact ⟨rfl, hw.1.trans (hB.mono hw.1.size), HK.out _ (hw.1.trans (hB.mono hw.1.size))⟩
        simp only [Act.put, List.setIfInBounds_toArray, List.set_cons_zero, List.set_cons_succ]
        refine InText.pure (by rfl) (fun w hw => by (try dsimp only at hw); go_simp; try with_reducible rfl) ?_
        simp only [Act.put, List.setIfInBounds_toArray, List.set_cons_zero, List.set_cons_succ]
        refine InText.pure (by rfl) (fun w hw => by (try dsimp only at hw); go_simp; try with_reducible rfl) ?_
        simp only [Act.put, List.setIfInBounds_toArray, List.set_cons_zero, List.set_cons_succ]
        refine InText.pure (by rfl) (fun w hw => by (try dsimp only at hw); go_simp; try with_reducible rfl) ?_
        simp only [Act.put, List.setIfInBounds_toArray, List.set_cons_zero, List.set_cons_succ]
        refine InText.pure (by rfl) (fun w hw => by (try dsimp only at hw); go_simp; try with_reducible rfl) ?_
        simp only [Act.put, List.setIfInBounds_toArray, List.set_cons_zero, List.set_cons_succ]
        refine InText.call (.int .i64 (xb : Nat)) (by rfl) (fun w hw => ?_) ?_
        · go_simp
          refine (HCB.out w hw.1).mono ?_
          rintro e wx ⟨rfl, hB⟩
          exact ⟨rfl, hw.1.trans (hB.mono hw.1.size), HK.out _ (hw.1.trans (hB.mono hw.1.size))⟩
        simp only [Act.put, List.setIfInBounds_toArray, List.set_cons_zero, List.set_cons_succ]
        refine InText.pure (by rfl) (fun w hw => by (try dsimp only at hw); go_simp; try with_reducible rfl) ?_
        simp only [Act.put, List.setIfInBounds_toArray, List.set_cons_zero, List.set_cons_succ]
        refine InText.pure (by rfl) (fun w hw => by (try dsimp only at hw); go_simp; try with_reducible rfl) ?_
        (try simp only [Act.put, List.setIfInBounds_toArray, List.set_cons_zero, List.set_cons_succ])
        exact InText.done
      case post =>
        rintro w' ⟨hst', _⟩
        have HS9 := Lib.hid hst'
        clear hst'
        go_wp2_with fail
        go_ret
        exact ⟨by rw [HE.out]; first | rfl | (simp; exact IntWalk.i64_in _ (by omega)) | (simp; rw [show (1 : Int) + ((max xa xb : Nat) : Int) = 1 + max (xa : Int) (xb : Int) by omega]; exact IntWalk.i64_in _ (by omega)), HBW.out _ HS9.out⟩

set_option maxRecDepth 100000 in
set_option maxHeartbeats 4000000 in
theorem Depth_ref (Q : Nat) : ∀ (N : Nat) (t : Tre), SizeOf.sizeOf t < N → ∀ (v : Value) (w : World), TreV 0 w t v → nodT t ≤ 1099511627776 → shN (eSh Q) t = true →
    Calls Tryz.prog 43 #[v] w fun e w' => e = .returned (.int .i64 (depT (eSh Q) t : Nat)) ∧ Below w.heap.size w w' := by
  intro N
  induction N with
  | zero => intro t h; omega
  | succ N ih =>
    intro t htN v w hT hnod hsh
    obtain ⟨k, n, ts⟩ := t
    have hT2 := hT
    unfold TreV at hT2
    obtain ⟨A, c, rfl, hrow⟩ := hT2
    obtain ⟨w0, hw0⟩ : ∃ w0, w0 = w.alloc (.cells #[.int .i64 k, .int .i64 n, .slice A ts.length c] 52) := ⟨_, rfl⟩
    have hb0 : Below w.heap.size w w0 := by rw [hw0]; exact below1 _ _
    have htb : w0.heap[w.heap.size]? = some (.cells #[.int .i64 k, .int .i64 n, .slice A ts.length c] 52 (0, 0)) := by
      rw [hw0]; exact alloc_at _ _ _ rfl
    have hsz0 : w0.heap.size = w.heap.size + 1 := by rw [hw0]; simp
    have HW0 := Lib.hid hw0
    have HB0 := Lib.hid (And.intro hb0 hsz0)
    have HBX := Lib.hid (show ∀ W, Below w0.heap.size w0 W → (W.cell? ⟨w.heap.size, 0, none⟩ = some (.int .i64 k) ∧ W.cell? ⟨w.heap.size, 1, none⟩ = some (.int .i64 n) ∧ W.cell? ⟨w.heap.size, 2, none⟩ = some (.slice A ts.length c)) from fun W ho => (blk3_cells ((ho.block _ (by omega)).trans htb)).1)
    have HBW : Hid (∀ W, Below w0.heap.size w0 W → Below w.heap.size w W) := Lib.hid (fun W ho => hb0.trans (ho.mono hb0.size))
    have HIH := Lib.hid ih
    have HROW := Lib.hid hrow
    have HTN := Lib.hid htN
    have hlen : ts.length ≤ 1099511627776 := by have := nodL_len ts; unfold nodT at hnod; omega
    have HNL := Lib.hid (show nodL ts + 1 ≤ 1099511627776 from by unfold nodT at hnod; exact hnod)
    have hsh2 := hsh
    rw [shN, Bool.and_eq_true] at hsh2
    have hk2 : (ts.length = 0 ∧ depAt (eSh Q) k = 0) ∨ ts.length = 2 ∧ depAt (eSh Q) k = 1 := by
      obtain ⟨s, hs, a1, a2, a3, a4⟩ := permN_of hsh2.2
      have hm := List.mem_of_getElem? hs
      have hd : depAt (eSh Q) k = s.dep := by simp [depAt, hs]
      rw [hd, a4]
      simp [eSh] at hm
      rcases hm with rfl | rfl | rfl | rfl <;> simp
    have HSHM := Lib.hid (fun t ht => shL_mem hsh2.1 (t := t) ht)
    obtain ⟨c0, c1, c2⟩ := HBX.out w0 (Below.refl _ _)
    rcases hk2 with ⟨hl, hdk⟩ | ⟨hl, hdk⟩
    · have HE : Hid (depT (eSh Q) (.mk k n ts) = 0) := Lib.hid (by rw [depT, hdk, List.length_eq_zero_iff.1 hl]; simp [depL])
      have dl : ((ts.length : Int) == 0) = true := by simp [hl]
      clear ih htb hb0 hw0 hsz0 hrow htN hT hnod hsh hsh2
      clear hl hdk
      go_enter Tryz.func43, Tryz.ntmps43
      go_wp2_with fail
      rw [← HW0.out]
      go_ret
      exact ⟨by rw [HE.out]; rfl, HB0.out.1⟩
    · obtain ⟨ta, tb, rfl⟩ : ∃ a b, ts = [a, b] := by
        match ts, hl with
        | [a, b], _ => exact ⟨a, b, rfl⟩
      have HE : Hid (depT (eSh Q) (.mk k n [ta, tb]) = 1 + max (depT (eSh Q) ta) (depT (eSh Q) tb)) := Lib.hid (by rw [depT, hdk]; simp only [depL]; omega)
      have HKID := Lib.hid (fun W (hW : Below w0.heap.size w0 W) => hrow.keep (w' := W) (KeepB.of_below 0 (HBW.out W hW)))
      have hnl := HNL.out
      have hna := nodL_mem (ts := [ta, tb]) (t := ta) (by simp)
      have hnb := nodL_mem (ts := [ta, tb]) (t := tb) (by simp)
      have hza : depT (eSh Q) ta ≤ 2199023255552 := by have := depT_le (sh := eSh Q) (by simp [eSh]) ta; omega
      have hzb : depT (eSh Q) tb ≤ 2199023255552 := by have := depT_le (sh := eSh Q) (by simp [eSh]) tb; omega
      obtain ⟨b, off, xa', ya', za', rfl, _, _, _, _, _⟩ := hrow.at (j := 0) (t := ta) rfl
      obtain ⟨b2, off2, xb', yb', zb', hAe, _, _, _, _, _⟩ := hrow.at (j := 1) (t := tb) rfl
      obtain ⟨rfl, rfl⟩ : b2 = b ∧ off2 = off := by cases hAe; exact ⟨rfl, rfl⟩
      have hka : ∃ x y z, ∀ W, Below w0.heap.size w0 W → W.cell? ⟨b2, off2, none⟩ = some x ∧ W.cell? ⟨b2, off2 + 1, none⟩ = some y ∧ W.cell? ⟨b2, off2 + 2, none⟩ = some z ∧ TreV 0 W ta (.agg #[x, y, z]) := by
        obtain ⟨b, off, x, y, z, hAe, _, d0, d1, d2, _⟩ := (hrow.keep (w' := w0) (KeepB.of_below 0 hb0)).at (j := 0) (t := ta) rfl
        cases hAe
        refine ⟨x, y, z, fun W hW => ?_⟩
        obtain ⟨b, off, x', y', z', hAe, _, e0, e1, e2, hT'⟩ := (HKID.out W hW).at (j := 0) (t := ta) rfl
        cases hAe
        have f0 := (hW.cell (World.block_lt_of_cell? w0 _ d0)).trans d0
        have f1 := (hW.cell (World.block_lt_of_cell? w0 _ d1)).trans d1
        have f2 := (hW.cell (World.block_lt_of_cell? w0 _ d2)).trans d2
        rw [e0] at f0
        rw [e1] at f1
        rw [e2] at f2
        cases f0
        cases f1
        cases f2
        exact ⟨e0, e1, e2, hT'⟩
      have hkb : ∃ x y z, ∀ W, Below w0.heap.size w0 W → W.cell? ⟨b2, off2 + 3, none⟩ = some x ∧ W.cell? ⟨b2, off2 + 4, none⟩ = some y ∧ W.cell? ⟨b2, off2 + 5, none⟩ = some z ∧ TreV 0 W tb (.agg #[x, y, z]) := by
        obtain ⟨b, off, x, y, z, hAe, _, d0, d1, d2, _⟩ := (hrow.keep (w' := w0) (KeepB.of_below 0 hb0)).at (j := 1) (t := tb) rfl
        cases hAe
        refine ⟨x, y, z, fun W hW => ?_⟩
        obtain ⟨b, off, x', y', z', hAe, _, e0, e1, e2, hT'⟩ := (HKID.out W hW).at (j := 1) (t := tb) rfl
        cases hAe
        have f0 := (hW.cell (World.block_lt_of_cell? w0 _ d0)).trans d0
        have f1 := (hW.cell (World.block_lt_of_cell? w0 _ d1)).trans d1
        have f2 := (hW.cell (World.block_lt_of_cell? w0 _ d2)).trans d2
        rw [e0] at f0
        rw [e1] at f1
        rw [e2] at f2
        cases f0
        cases f1
        cases f2
        exact ⟨e0, e1, e2, hT'⟩
      obtain ⟨x, y, z, hka⟩ := hka
      obtain ⟨x', y', z', hkb⟩ := hkb
      have HCA := Lib.hid (fun W (hW : Below w0.heap.size w0 W) => HIH.out ta (Nat.lt_of_lt_of_le (kid_size (ts := [ta, tb]) (by simp)) (Nat.le_of_lt_succ HTN.out)) _ W (hka W hW).2.2.2 (by omega) (HSHM.out ta (by simp)))
      have HCB := Lib.hid (fun W (hW : Below w0.heap.size w0 W) => HIH.out tb (Nat.lt_of_lt_of_le (kid_size (ts := [ta, tb]) (by simp)) (Nat.le_of_lt_succ HTN.out)) _ W (hkb W hW).2.2.2 (by omega) (HSHM.out tb (by simp)))
      have HK : Hid (∀ W, Below w0.heap.size w0 W → W.cell? ⟨w.heap.size, 2, none⟩ = some (.slice (some ⟨b2, off2, none⟩) 2 c) ∧ W.cell? ⟨b2, off2, none⟩ = some x ∧ W.cell? ⟨b2, off2 + 1, none⟩ = some y ∧ W.cell? ⟨b2, off2 + 2, none⟩ = some z ∧ W.cell? ⟨b2, off2 + 3, none⟩ = some x' ∧ W.cell? ⟨b2, off2 + 4, none⟩ = some y' ∧ W.cell? ⟨b2, off2 + 5, none⟩ = some z') :=
        Lib.hid (fun W hW => ⟨(HBX.out W hW).2.2, (hka W hW).1, (hka W hW).2.1, (hka W hW).2.2.1, (hkb W hW).1, (hkb W hW).2.1, (hkb W hW).2.2.1⟩)
      generalize hga : depT (eSh Q) ta = xa at *
      generalize hgb : depT (eSh Q) tb = xb at *
      have HW2 : Hid (w0 = w.alloc (.cells #[.int .i64 k, .int .i64 n, .slice (some ⟨b2, off2, none⟩) 2 c] 52)) := Lib.hid hw0
      clear ih htb hb0 hw0 hsz0 hrow htN hT hnod hsh hsh2
      clear hka hkb HKID hnl hna hnb hga hgb hl hdk hlen hAe HIH
      go_enter Tryz.func43, Tryz.ntmps43
      go_upto_region 3 with fail
      rw [← HW2.out]
      refine wp_region_text (S := (fun W => Below w0.heap.size w0 W ∧ W.cell? ⟨w.heap.size, 2, none⟩ = some (.slice (some ⟨b2, off2, none⟩) 2 c) ∧ W.cell? ⟨b2, off2, none⟩ = some x ∧ W.cell? ⟨b2, off2 + 1, none⟩ = some y ∧ W.cell? ⟨b2, off2 + 2, none⟩ = some z ∧ W.cell? ⟨b2, off2 + 3, none⟩ = some x' ∧ W.cell? ⟨b2, off2 + 4, none⟩ = some y' ∧ W.cell? ⟨b2, off2 + 5, none⟩ = some z')) (by kernel_rfl) (by kernel_rfl) ⟨(Below.refl _ w0).drew, HK.out _ (Below.refl _ w0).drew⟩ (b := ?bq) ?text ?post
      case text =>
        refine InText.pure (by rfl) (fun w hw => by (try dsimp only at hw); go_simp; try with_reducible rfl) ?_
        simp only [Act.put, List.setIfInBounds_toArray, List.set_cons_zero, List.set_cons_succ]
        refine InText.pure (by rfl) (fun w hw => by (try dsimp only at hw); go_simp; try with_reducible rfl) ?_
        simp only [Act.put, List.setIfInBounds_toArray, List.set_cons_zero, List.set_cons_succ]
        refine InText.pure (by rfl) (fun w hw => by (try dsimp only at hw); go_simp; try with_reducible rfl) ?_
        simp only [Act.put, List.setIfInBounds_toArray, List.set_cons_zero, List.set_cons_succ]
        refine InText.pure (by rfl) (fun w hw => by (try dsimp only at hw); go_simp; try with_reducible rfl) ?_
        simp only [Act.put, List.setIfInBounds_toArray, List.set_cons_zero, List.set_cons_succ]
        refine InText.call (.int .i64 (xa : Nat)) (by rfl) (fun w hw => ?_) ?_
        · go_simp
          refine (HCA.out w hw.1).mono ?_
          rintro e wx ⟨rfl, hB⟩
          exact ⟨rfl, hw.1.trans (hB.mono hw.1.size), HK.out _ (hw.1.trans (hB.mono hw.1.size))⟩
        simp only [Act.put, List.setIfInBounds_toArray, List.set_cons_zero, List.set_cons_succ]
        refine InText.pure (by rfl) (fun w hw => by (try dsimp only at hw); go_simp; try with_reducible rfl) ?_
        simp only [Act.put, List.setIfInBounds_toArray, List.set_cons_zero, List.set_cons_succ]
        refine InText.pure (by rfl) (fun w hw => by (try dsimp only at hw); go_simp; try with_reducible rfl) ?_
        simp only [Act.put, List.setIfInBounds_toArray, List.set_cons_zero, List.set_cons_succ]
        refine InText.pure (by rfl) (fun w hw => by (try dsimp only at hw); go_simp; try with_reducible rfl) ?_
        simp only [Act.put, List.setIfInBounds_toArray, List.set_cons_zero, List.set_cons_succ]
        refine InText.pure (by rfl) (fun w hw => by (try dsimp only at hw); go_simp; try with_reducible rfl) ?_
        simp only [Act.put, List.setIfInBounds_toArray, List.set_cons_zero, List.set_cons_succ]
        refine InText.call (.int .i64 (xb : Nat)) (by rfl) (fun w hw => ?_) ?_
        · go_simp
          refine (HCB.out w hw.1).mono ?_
          rintro e wx ⟨rfl, hB⟩
          exact ⟨rfl, hw.1.trans (hB.mono hw.1.size), HK.out _ (hw.1.trans (hB.mono hw.1.size))⟩
        simp only [Act.put, List.setIfInBounds_toArray, List.set_cons_zero, List.set_cons_succ]
        refine InText.pure (by rfl) (fun w hw => by (try dsimp only at hw); go_simp; try with_reducible rfl) ?_
        simp only [Act.put, List.setIfInBounds_toArray, List.set_cons_zero, List.set_cons_succ]
        refine InText.pure (by rfl) (fun w hw => by (try dsimp only at hw); go_simp; try with_reducible rfl) ?_
        simp only [Act.put, List.setIfInBounds_toArray, List.set_cons_zero, List.set_cons_succ]
        refine InText.pure (by rfl) (fun w hw => by (try dsimp only at hw); go_simp; try with_reducible rfl) ?_
        (try simp only [Act.put, List.setIfInBounds_toArray, List.set_cons_zero, List.set_cons_succ])
        exact InText.done
      case post =>
        rintro w' ⟨hst', _⟩
        have HS9 := Lib.hid hst'
        clear hst'
        go_wp2_with fail
        go_ret
        exact ⟨by rw [HE.out]; first | rfl | (simp; exact IntWalk.i64_in _ (by omega)) | (simp; rw [show (1 : Int) + ((max xa xb : Nat) : Int) = 1 + max (xa : Int) (xb : Int) by omega]; exact IntWalk.i64_in _ (by omega)), HBW.out _ HS9.out⟩
end Go.Proofs.YtopbfgkfpgnalaaGreatDoor.X
namespace Go.Proofs.YtopbfgkfpgnalaaGreatDoor.X
set_option linter.unusedVariables false
open Go.RowKit

set_option maxRecDepth 100000 in
set_option maxHeartbeats 4000000 in
theorem ValidE_ref (P M q : Nat) (hf : Fld P M q) (t : Tre) (v : Value) (w : World) (hT : TreV 0 w t v) (hnod : nodT t ≤ 1099511627776) :
    Calls Tryz.prog 36 #[.agg #[.int .i64 (P : Int), .int .i64 (M : Int)], v] w fun e w' => e = .returned (.bool (okR (eSh q) t)) ∧ Below w.heap.size w w' := by
  obtain ⟨k, n, ts⟩ := t
  have hT2 := hT
  unfold TreV at hT2
  obtain ⟨A, c, rfl, -⟩ := hT2
  have hb2 := below2 w (.cells #[.int .i64 (P : Int), .int .i64 (M : Int)] 49) (.cells #[.int .i64 k, .int .i64 n, .slice A ts.length c] 52)
  have htb := alloc_at (w.alloc (.cells #[.int .i64 (P : Int), .int .i64 (M : Int)] 49)) (.cells #[.int .i64 k, .int .i64 n, .slice A ts.length c] 52) (w.heap.size + 1) (by simp)
  have hsz : ((w.alloc (.cells #[.int .i64 (P : Int), .int .i64 (M : Int)] 49)).alloc (.cells #[.int .i64 k, .int .i64 n, .slice A ts.length c] 52)).heap.size = w.heap.size + 2 := by simp
  have H2 := Lib.hid (And.intro hb2 (And.intro htb hsz))
  have HTW := Lib.hid (fun W (hW : Below w.heap.size w W) => TreV.below hT hW)
  have HCN := Lib.hid (fun W (hW : Below w.heap.size w W) => Count_ref _ (.mk k n ts) (Nat.lt_succ_self _) _ 1001 W (TreV.below hT hW) hnod (Nat.le_refl _))
  have HO := Lib.hid (ordR_ok P M q hf ((w.alloc (.cells #[.int .i64 (P : Int), .int .i64 (M : Int)] 49)).alloc (.cells #[.int .i64 k, .int .i64 n, .slice A ts.length c] 52)))
  have HSH := Lib.hid (fun W (hW : Below w.heap.size w W) => shape_ref q _ (.mk k n ts) (Nat.lt_succ_self _) _ W (TreV.below hT hW) hnod)
  have hq0 : 0 < q := by have := hf.q_ge; omega
  have d0 : decide ((0 : Int) < (q : Int)) = true := decide_eq_true (by omega)
  have d0' : decide (0 < q) = true := decide_eq_true hq0
  have HQ := Lib.hid hf.q_le
  obtain ⟨⟨x, y⟩, hxy⟩ : ∃ xy, cntN (.mk k n ts) 1001 = xy := ⟨_, rfl⟩
  rw [hxy] at HCN
  have HXY : Hid (okR (eSh q) (.mk k n ts) = (decide (x ≤ 20000) && decide (y ≤ 1000) && shN (eSh q) (.mk k n ts))) := Lib.hid (by unfold okR; rw [hxy])
  rw [show ((1001 : Nat) : Int) = 1001 from rfl] at HCN
  clear hT hb2 htb hsz hnod hxy hf hq0
  go_enter Tryz.func36, Tryz.ntmps36
  go_wp2_with fail
  refine HO.out.mono ?_
  generalize (w.alloc (.cells #[.int .i64 (P : Int), .int .i64 (M : Int)] 49)).alloc (.cells #[.int .i64 k, .int .i64 n, .slice A ts.length c] 52) = w2 at *
  rintro e w3 ⟨rfl, hB3⟩
  obtain ⟨hb2, htb, hsz⟩ := H2.out
  have hb3 := hb2.trans (hB3.mono hb2.size)
  have ht3 := (hB3.block (w.heap.size + 1) (by omega)).trans htb
  obtain ⟨⟨e0, e1, e2⟩, _⟩ := blk3_cells ht3
  have H3 := Lib.hid (And.intro hb3 (And.intro ht3 (show w.heap.size + 2 ≤ w3.heap.size by have := hB3.size; omega)))
  clear hb2 htb hsz hB3 hb3 ht3
  go_wp2_with fail
  refine (HCN.out w3 H3.out.1).mono ?_
  rintro e w4 ⟨rfl, hB4⟩
  obtain ⟨hb3, ht3, hsz⟩ := H3.out
  have hb4 := hb3.trans (hB4.mono hb3.size)
  have ht4 := (hB4.block (w.heap.size + 1) (by omega)).trans ht3
  obtain ⟨⟨e0, e1, e2⟩, _⟩ := blk3_cells ht4
  have HB4 := Lib.hid hb4
  clear hb3 ht3 hsz hB4 hb4 ht4
  by_cases hx : x ≤ 20000
  · have d1 : decide ((x : Int) ≤ 20000) = true := decide_eq_true (by omega)
    have d1' : decide (x ≤ 20000) = true := decide_eq_true hx
    by_cases hy : y ≤ 1000
    · have d2 : decide ((y : Int) ≤ 1000) = true := decide_eq_true (by omega)
      have d2' : decide (y ≤ 1000) = true := decide_eq_true hy
      go_wp2_with fail
      refine (HSH.out w4 HB4.out).mono ?_
      rintro e w5 ⟨rfl, hB5⟩
      have HB5 := Lib.hid (HB4.out.trans (hB5.mono HB4.out.size))
      clear hB5
      go_wp2_with fail
      go_ret
      exact ⟨by rw [HXY.out, d1', d2']; rfl, HB5.out⟩
    · have d2 : decide ((y : Int) ≤ 1000) = false := decide_eq_false (by omega)
      have d2' : decide (y ≤ 1000) = false := decide_eq_false hy
      go_wp2_with fail
      go_ret
      exact ⟨by rw [HXY.out, d1', d2']; rfl, HB4.out⟩
  · have d1 : decide ((x : Int) ≤ 20000) = false := decide_eq_false (by omega)
    have d1' : decide (x ≤ 20000) = false := decide_eq_false hx
    go_wp2_with fail
    go_ret
    exact ⟨by rw [HXY.out, d1']; rfl, HB4.out⟩

set_option maxRecDepth 100000 in
set_option maxHeartbeats 4000000 in
theorem ValidE_refbad (P M : Int) (h : ¬ OkF P M) (t : Tre) (v : Value) (w : World) (hT : TreV 0 w t v) (hnod : nodT t ≤ 1099511627776) :
    Calls Tryz.prog 36 #[.agg #[.int .i64 P, .int .i64 M], v] w fun e w' => e = .returned (.bool false) ∧ Below w.heap.size w w' := by
  obtain ⟨k, n, ts⟩ := t
  have hT2 := hT
  unfold TreV at hT2
  obtain ⟨A, c, rfl, -⟩ := hT2
  have hb2 := below2 w (.cells #[.int .i64 P, .int .i64 M] 49) (.cells #[.int .i64 k, .int .i64 n, .slice A ts.length c] 52)
  have htb := alloc_at (w.alloc (.cells #[.int .i64 P, .int .i64 M] 49)) (.cells #[.int .i64 k, .int .i64 n, .slice A ts.length c] 52) (w.heap.size + 1) (by simp)
  have hsz : ((w.alloc (.cells #[.int .i64 P, .int .i64 M] 49)).alloc (.cells #[.int .i64 k, .int .i64 n, .slice A ts.length c] 52)).heap.size = w.heap.size + 2 := by simp
  have H2 := Lib.hid (And.intro hb2 (And.intro htb hsz))
  have HTW := Lib.hid (fun W (hW : Below w.heap.size w W) => TreV.below hT hW)
  have HCN := Lib.hid (fun W (hW : Below w.heap.size w W) => Count_ref _ (.mk k n ts) (Nat.lt_succ_self _) _ 1001 W (TreV.below hT hW) hnod (Nat.le_refl _))
  have HO := Lib.hid (ordR_no P M h ((w.alloc (.cells #[.int .i64 P, .int .i64 M] 49)).alloc (.cells #[.int .i64 k, .int .i64 n, .slice A ts.length c] 52)))
  rw [show ((1001 : Nat) : Int) = 1001 from rfl] at HCN
  clear hT hb2 htb hsz hnod h
  go_enter Tryz.func36, Tryz.ntmps36
  go_wp2_with fail
  refine HO.out.mono ?_
  generalize (w.alloc (.cells #[.int .i64 P, .int .i64 M] 49)).alloc (.cells #[.int .i64 k, .int .i64 n, .slice A ts.length c] 52) = w2 at *
  rintro e w3 ⟨rfl, hB3⟩
  obtain ⟨hb2, htb, hsz⟩ := H2.out
  have hb3 := hb2.trans (hB3.mono hb2.size)
  have ht3 := (hB3.block (w.heap.size + 1) (by omega)).trans htb
  obtain ⟨⟨e0, e1, e2⟩, _⟩ := blk3_cells ht3
  have H3 := Lib.hid hb3
  clear hb2 htb hsz hB3 hb3 ht3
  go_wp2_with fail
  refine (HCN.out w3 H3.out).mono ?_
  rintro e w4 ⟨rfl, hB4⟩
  have HB4 := Lib.hid (H3.out.trans (hB4.mono H3.out.size))
  clear hB4
  go_wp2_with fail
  go_ret
  exact ⟨rfl, HB4.out⟩
end Go.Proofs.YtopbfgkfpgnalaaGreatDoor.X
