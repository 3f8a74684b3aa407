/-
  Joined from Fnq, Fnr: see there.
-/
import Derived.Test.YtopbfgkfpgnalaaGreatDoorVb
import Derived.Test.YtopbfgkfpgnalaaGreatDoorRg
namespace Go.Proofs.YtopbfgkfpgnalaaGreatDoor
set_option linter.unusedVariables false
open Go.RowKit

set_option maxHeartbeats 2000000 in
theorem Apply_ref (k : Int) (hk : k = 3 ∨ k = 4 ∨ k = 5) (f : Nat → Bool) (n : Int) (a b : Bool) (w : World) :
    Calls Tryz.prog 80 #[.int .i64 k, .bool a, .bool b] w fun e w' => e = .returned (.bool (evC f k n [a, b])) ∧ Below w.heap.size w w' := by
  rcases hk with rfl | rfl | rfl <;> cases a <;> cases b <;> (
    go_enter Tryz.func80, Tryz.ntmps80
    go_wp2_with fail
    go_ret
    exact ⟨rfl, Below.refl _ _⟩)

set_option maxRecDepth 100000 in
set_option maxHeartbeats 4000000 in
theorem Eval_ref (m : Nat) (hm : m ≤ 16) (AX : Option Addr) (cx : Nat) (xs : List Bool) (hxl : m ≤ xs.length) : ∀ (N : Nat) (t : Tre), SizeOf.sizeOf t < N → ∀ (v : Value) (w : World), TreV 0 w t v → okT fSh m t → BlR w AX xs →
    Calls Tryz.prog 27 #[v, .slice AX xs.length cx] w fun e w' => e = .returned (.bool (evT (fun a => xs[a]?.getD false) t)) ∧ Below w.heap.size w w' := by
  intro N
  induction N with
  | zero => intro t h; omega
  | succ N ih =>
    intro t htN v w hT hok hX
    obtain ⟨k, n, ts⟩ := t
    have hT2 := hT
    unfold TreV at hT2
    obtain ⟨A, c, rfl, hrow⟩ := hT2
    obtain ⟨w0, hw0⟩ : ∃ w0, w0 = w.alloc (.cells #[.int .i64 k, .int .i64 n, .slice A ts.length c] 24) := ⟨_, rfl⟩
    have hb0 : Below w.heap.size w w0 := by rw [hw0]; exact below1 _ _
    have htb : w0.heap[w.heap.size]? = some (.cells #[.int .i64 k, .int .i64 n, .slice A ts.length c] 24 (0, 0)) := by
      rw [hw0]; exact alloc_at _ _ _ rfl
    have hsz0 : w0.heap.size = w.heap.size + 1 := by rw [hw0]; simp
    have HW0 := Lib.hid hw0
    have HB0 := Lib.hid (And.intro hb0 hsz0)
    have HBX := Lib.hid (show ∀ W, Below w0.heap.size w0 W → (W.cell? ⟨w.heap.size, 0, none⟩ = some (.int .i64 k) ∧ W.cell? ⟨w.heap.size, 1, none⟩ = some (.int .i64 n) ∧ W.cell? ⟨w.heap.size, 2, none⟩ = some (.slice A ts.length c)) from fun W ho => (blk3_cells ((ho.block _ (by omega)).trans htb)).1)
    have HBW : Hid (∀ W, Below w0.heap.size w0 W → Below w.heap.size w W) := Lib.hid (fun W ho => hb0.trans (ho.mono hb0.size))
    have HIH := Lib.hid ih
    have HROW := Lib.hid hrow
    have hok2 := hok
    rw [okT] at hok2
    have HXB := Lib.hid (fun W (hW : Below w0.heap.size w0 W) => hX.below (HBW.out W hW))
    have hk6 : (k = 0 ∧ 0 ≤ n ∧ n < (m : Int)) ∨ (k = 1 ∧ (n = 0 ∨ n = 1)) ∨ (k = 2 ∧ ts.length = 1) ∨ ((k = 3 ∨ k = 4 ∨ k = 5) ∧ ts.length = 2) := by
      obtain ⟨s, hs, a1, a2, a3, a4⟩ := permN_of hok2.1
      have hkk : k.toNat = 0 ∨ k.toNat = 1 ∨ k.toNat = 2 ∨ k.toNat = 3 ∨ k.toNat = 4 ∨ k.toNat = 5 := by
        have := (List.getElem?_eq_some_iff.1 hs).1
        simp only [fSh, List.length_cons, List.length_nil] at this
        omega
      rcases hkk with h | h | h | h | h | h
      · left; have hk0 : k = 0 := by omega
        exact ⟨hk0, a2, hok2.2.1 hk0⟩
      · right; left; rw [h] at hs; cases hs; exact ⟨by omega, by simp at a3; omega⟩
      · right; right; left; rw [h] at hs; cases hs; exact ⟨by omega, a4⟩
      · right; right; right; rw [h] at hs; cases hs; exact ⟨by omega, a4⟩
      · right; right; right; rw [h] at hs; cases hs; exact ⟨by omega, a4⟩
      · right; right; right; rw [h] at hs; cases hs; exact ⟨by omega, a4⟩
    rcases hk6 with ⟨rfl, hn0, hnm⟩ | ⟨rfl, hn⟩ | ⟨rfl, hl⟩ | ⟨hk3, hl⟩
    · obtain ⟨u, rfl⟩ : ∃ u : Nat, n = u := ⟨n.toNat, by omega⟩
      obtain ⟨x, hx⟩ : ∃ x, xs[u]? = some x := ⟨_, List.getElem?_eq_getElem (by omega)⟩
      obtain ⟨b, off, rfl, e0⟩ := HXB.out w0 (Below.refl _ _) u x hx
      have HE : Hid (evT (fun a => xs[a]?.getD false) (.mk 0 u ts) = x) := Lib.hid (by rw [evT, evC, if_pos rfl]; simp [hx])
      have hux : u < xs.length := (List.getElem?_eq_some_iff.1 hx).1
      obtain ⟨c0, c1, c2⟩ := HBX.out w0 (Below.refl _ _)
      clear ih htb hb0 hw0 hsz0 hrow htN hT hok hX hok2 hx hn0
      generalize xs.length = xl at *
      go_enter Tryz.func27, Tryz.ntmps27
      go_upto_region 3 with fail
      rw [← HW0.out]
      go_wp2_with fail
      go_ret
      exact ⟨by rw [HE.out]; rfl, HB0.out.1⟩
    · have HE : Hid (evT (fun a => xs[a]?.getD false) (.mk 1 n ts) = decide (n ≠ 0)) := Lib.hid (by rw [evT, evC, if_neg (by decide), if_pos rfl])
      obtain ⟨c0, c1, c2⟩ := HBX.out w0 (Below.refl _ _)
      clear ih htb hb0 hw0 hsz0 hrow htN hT hok hX hok2
      rcases hn with rfl | rfl <;> (
        go_enter Tryz.func27, Tryz.ntmps27
        go_wp2_with fail
        rw [← HW0.out]
        go_ret
        exact ⟨by rw [HE.out]; rfl, HB0.out.1⟩)
    · obtain ⟨ta, rfl⟩ : ∃ a, ts = [a] := by
        match ts, hl with
        | [a], _ => exact ⟨a, rfl⟩
      have HE : Hid (evT (fun a => xs[a]?.getD false) (.mk 2 n [ta]) = !(evT (fun a => xs[a]?.getD false) ta)) := Lib.hid (by rw [evT, evC, if_neg (by decide), if_neg (by decide), if_pos rfl, evL]; rfl)
      obtain ⟨b, off, x, y, z, rfl, _, e0, e1, e2, hTt⟩ := (hrow.keep (w' := w0) (KeepB.of_below 0 hb0)).at (j := 0) (t := ta) rfl
      have HCALL := Lib.hid (HIH.out ta (Nat.lt_of_lt_of_le (kid_size (ts := [ta]) (by simp)) (Nat.le_of_lt_succ htN)) _ w0 hTt (okL_at hok2.2.2 (i := 0) rfl) (HXB.out w0 (Below.refl _ _)))
      obtain ⟨c0, c1, c2⟩ := HBX.out w0 (Below.refl _ _)
      have HW2 : Hid (w0 = w.alloc (.cells #[.int .i64 2, .int .i64 n, .slice (some ⟨b, off, none⟩) 1 c] 24)) := Lib.hid hw0
      rw [show off + (0 + 0) * 3 = off from rfl] at e0 e1 e2
      generalize evT (fun a => xs[a]?.getD false) ta = r at *
      clear ih htb hb0 hw0 hsz0 hrow htN hT hok hX hok2 hTt hl
      go_enter Tryz.func27, Tryz.ntmps27
      go_upto_region 7 with fail
      rw [← HW2.out]
      go_wp2_with fail
      refine HCALL.out.mono ?_
      rintro e w2 ⟨rfl, hB2⟩
      have HB2 := Lib.hid (HBW.out _ hB2)
      clear hB2
      go_wp2_with fail
      go_ret
      exact ⟨by rw [HE.out]; rfl, HB2.out⟩
    · obtain ⟨ta, tb, rfl⟩ : ∃ a b, ts = [a, b] := by
        match ts, hl with
        | [a, b], _ => exact ⟨a, b, rfl⟩
      have HE : Hid (evT (fun a => xs[a]?.getD false) (.mk k n [ta, tb]) = evC (fun a => xs[a]?.getD false) k n [evT (fun a => xs[a]?.getD false) ta, evT (fun a => xs[a]?.getD false) tb]) := Lib.hid (by rw [evT, evL, evL, evL])
      have HKID := Lib.hid (fun W (hW : Below w0.heap.size w0 W) => hrow.keep (w' := W) (KeepB.of_below 0 (HBW.out W hW)))
      obtain ⟨b, off, xa', ya', za', rfl, _, _, _, _, _⟩ := hrow.at (j := 0) (t := ta) rfl
      obtain ⟨b2, off2, xb', yb', zb', hAe, _, _, _, _, _⟩ := hrow.at (j := 1) (t := tb) rfl
      obtain ⟨rfl, rfl⟩ : b2 = b ∧ off2 = off := by cases hAe; exact ⟨rfl, rfl⟩
      have hka : ∃ x y z, ∀ W, Below w0.heap.size w0 W → W.cell? ⟨b2, off2, none⟩ = some x ∧ W.cell? ⟨b2, off2 + 1, none⟩ = some y ∧ W.cell? ⟨b2, off2 + 2, none⟩ = some z ∧ TreV 0 W ta (.agg #[x, y, z]) := by
        obtain ⟨b, off, x, y, z, hAe, _, d0, d1, d2, _⟩ := (hrow.keep (w' := w0) (KeepB.of_below 0 hb0)).at (j := 0) (t := ta) rfl
        cases hAe
        refine ⟨x, y, z, fun W hW => ?_⟩
        obtain ⟨b, off, x', y', z', hAe, _, e0, e1, e2, hT'⟩ := (HKID.out W hW).at (j := 0) (t := ta) rfl
        cases hAe
        have f0 := (hW.cell (World.block_lt_of_cell? w0 _ d0)).trans d0
        have f1 := (hW.cell (World.block_lt_of_cell? w0 _ d1)).trans d1
        have f2 := (hW.cell (World.block_lt_of_cell? w0 _ d2)).trans d2
        rw [e0] at f0
        rw [e1] at f1
        rw [e2] at f2
        cases f0
        cases f1
        cases f2
        exact ⟨e0, e1, e2, hT'⟩
      have hkb : ∃ x y z, ∀ W, Below w0.heap.size w0 W → W.cell? ⟨b2, off2 + 3, none⟩ = some x ∧ W.cell? ⟨b2, off2 + 4, none⟩ = some y ∧ W.cell? ⟨b2, off2 + 5, none⟩ = some z ∧ TreV 0 W tb (.agg #[x, y, z]) := by
        obtain ⟨b, off, x, y, z, hAe, _, d0, d1, d2, _⟩ := (hrow.keep (w' := w0) (KeepB.of_below 0 hb0)).at (j := 1) (t := tb) rfl
        cases hAe
        refine ⟨x, y, z, fun W hW => ?_⟩
        obtain ⟨b, off, x', y', z', hAe, _, e0, e1, e2, hT'⟩ := (HKID.out W hW).at (j := 1) (t := tb) rfl
        cases hAe
        have f0 := (hW.cell (World.block_lt_of_cell? w0 _ d0)).trans d0
        have f1 := (hW.cell (World.block_lt_of_cell? w0 _ d1)).trans d1
        have f2 := (hW.cell (World.block_lt_of_cell? w0 _ d2)).trans d2
        rw [e0] at f0
        rw [e1] at f1
        rw [e2] at f2
        cases f0
        cases f1
        cases f2
        exact ⟨e0, e1, e2, hT'⟩
      obtain ⟨x, y, z, hka⟩ := hka
      obtain ⟨x', y', z', hkb⟩ := hkb
      have HCA := Lib.hid (fun W (hW : Below w0.heap.size w0 W) => HIH.out ta (Nat.lt_of_lt_of_le (kid_size (ts := [ta, tb]) (by simp)) (Nat.le_of_lt_succ htN)) _ W (hka W hW).2.2.2 (okL_at hok2.2.2 (i := 0) rfl) (HXB.out W hW))
      have HCB := Lib.hid (fun W (hW : Below w0.heap.size w0 W) => HIH.out tb (Nat.lt_of_lt_of_le (kid_size (ts := [ta, tb]) (by simp)) (Nat.le_of_lt_succ htN)) _ W (hkb W hW).2.2.2 (okL_at hok2.2.2 (i := 1) rfl) (HXB.out W hW))
      have HK : Hid (∀ W, Below w0.heap.size w0 W → W.cell? ⟨w.heap.size, 0, none⟩ = some (.int .i64 k) ∧ W.cell? ⟨w.heap.size, 2, none⟩ = some (.slice (some ⟨b2, off2, none⟩) 2 c) ∧ W.cell? ⟨b2, off2, none⟩ = some x ∧ W.cell? ⟨b2, off2 + 1, none⟩ = some y ∧ W.cell? ⟨b2, off2 + 2, none⟩ = some z ∧ W.cell? ⟨b2, off2 + 3, none⟩ = some x' ∧ W.cell? ⟨b2, off2 + 4, none⟩ = some y' ∧ W.cell? ⟨b2, off2 + 5, none⟩ = some z') :=
        Lib.hid (fun W hW => ⟨(HBX.out W hW).1, (HBX.out W hW).2.2, (hka W hW).1, (hka W hW).2.1, (hka W hW).2.2.1, (hkb W hW).1, (hkb W hW).2.1, (hkb W hW).2.2.1⟩)
      generalize evT (fun a => xs[a]?.getD false) ta = xa at *
      generalize evT (fun a => xs[a]?.getD false) tb = xb at *
      have HAP := Lib.hid (fun W => Apply_ref k hk3 (fun a => xs[a]?.getD false) n xa xb W)
      have f0 : ((k : Int) == 0) = false := by simp; omega
      have f1 : ((k : Int) == 1) = false := by simp; omega
      have f2 : ((k : Int) == 2) = false := by simp; omega
      have HW2 : Hid (w0 = w.alloc (.cells #[.int .i64 k, .int .i64 n, .slice (some ⟨b2, off2, none⟩) 2 c] 24)) := Lib.hid hw0
      obtain ⟨c0, c1, c2⟩ := HBX.out w0 (Below.refl _ _)
      clear ih htb hb0 hw0 hsz0 hrow htN hT hok hX hok2 hka hkb HKID hl hAe HIH hk3
      go_enter Tryz.func27, Tryz.ntmps27
      go_upto_region 8 with fail
      rw [← HW2.out]
      refine wp_region_text (S := (fun W => Below w0.heap.size w0 W ∧ W.cell? ⟨w.heap.size, 0, none⟩ = some (.int .i64 k) ∧ W.cell? ⟨w.heap.size, 2, none⟩ = some (.slice (some ⟨b2, off2, none⟩) 2 c) ∧ W.cell? ⟨b2, off2, none⟩ = some x ∧ W.cell? ⟨b2, off2 + 1, none⟩ = some y ∧ W.cell? ⟨b2, off2 + 2, none⟩ = some z ∧ W.cell? ⟨b2, off2 + 3, none⟩ = some x' ∧ W.cell? ⟨b2, off2 + 4, none⟩ = some y' ∧ W.cell? ⟨b2, off2 + 5, none⟩ = some z')) (by kernel_rfl) (by kernel_rfl) ⟨(Below.refl _ w0).drew, HK.out _ (Below.refl _ w0).drew⟩ (b := ?bq) ?text ?post
      case text =>
        refine InText.pure (by rfl) (fun w hw => by (try dsimp only at hw); go_simp; try with_reducible rfl) ?_
        simp only [Act.put, List.setIfInBounds_toArray, List.set_cons_zero, List.set_cons_succ]
        refine InText.pure (by rfl) (fun w hw => by (try dsimp only at hw); go_simp; try with_reducible rfl) ?_
        simp only [Act.put, List.setIfInBounds_toArray, List.set_cons_zero, List.set_cons_succ]
        refine InText.pure (by rfl) (fun w hw => by (try dsimp only at hw); go_simp; try with_reducible rfl) ?_
        simp only [Act.put, List.setIfInBounds_toArray, List.set_cons_zero, List.set_cons_succ]
        refine InText.pure (by rfl) (fun w hw => by (try dsimp only at hw); go_simp; try with_reducible rfl) ?_
        simp only [Act.put, List.setIfInBounds_toArray, List.set_cons_zero, List.set_cons_succ]
        refine InText.pure (by rfl) (fun w hw => by (try dsimp only at hw); go_simp; try with_reducible rfl) ?_
        simp only [Act.put, List.setIfInBounds_toArray, List.set_cons_zero, List.set_cons_succ]
        refine InText.pure (by rfl) (fun w hw => by (try dsimp only at hw); go_simp; try with_reducible rfl) ?_
        simp only [Act.put, List.setIfInBounds_toArray, List.set_cons_zero, List.set_cons_succ]
        refine InText.pure (by rfl) (fun w hw => by (try dsimp only at hw); go_simp; try with_reducible rfl) ?_
        simp only [Act.put, List.setIfInBounds_toArray, List.set_cons_zero, List.set_cons_succ]
        refine InText.call (.bool xa) (by rfl) (fun w hw => ?_) ?_
        · go_simp
          refine (HCA.out w hw.1).mono ?_
          rintro e wx ⟨rfl, hB⟩
          exact ⟨rfl, hw.1.trans (hB.mono hw.1.size), HK.out _ (hw.1.trans (hB.mono hw.1.size))⟩
        simp only [Act.put, List.setIfInBounds_toArray, List.set_cons_zero, List.set_cons_succ]
        refine InText.pure (by rfl) (fun w hw => by (try dsimp only at hw); go_simp; try with_reducible rfl) ?_
        simp only [Act.put, List.setIfInBounds_toArray, List.set_cons_zero, List.set_cons_succ]
        refine InText.pure (by rfl) (fun w hw => by (try dsimp only at hw); go_simp; try with_reducible rfl) ?_
        simp only [Act.put, List.setIfInBounds_toArray, List.set_cons_zero, List.set_cons_succ]
        refine InText.pure (by rfl) (fun w hw => by (try dsimp only at hw); go_simp; try with_reducible rfl) ?_
        simp only [Act.put, List.setIfInBounds_toArray, List.set_cons_zero, List.set_cons_succ]
        refine InText.pure (by rfl) (fun w hw => by (try dsimp only at hw); go_simp; try with_reducible rfl) ?_
        simp only [Act.put, List.setIfInBounds_toArray, List.set_cons_zero, List.set_cons_succ]
        refine InText.pure (by rfl) (fun w hw => by (try dsimp only at hw); go_simp; try with_reducible rfl) ?_
        simp only [Act.put, List.setIfInBounds_toArray, List.set_cons_zero, List.set_cons_succ]
        refine InText.call (.bool xb) (by rfl) (fun w hw => ?_) ?_
        · go_simp
          refine (HCB.out w hw.1).mono ?_
          rintro e wx ⟨rfl, hB⟩
          exact ⟨rfl, hw.1.trans (hB.mono hw.1.size), HK.out _ (hw.1.trans (hB.mono hw.1.size))⟩
        simp only [Act.put, List.setIfInBounds_toArray, List.set_cons_zero, List.set_cons_succ]
        refine InText.call (.bool (evC (fun a => xs[a]?.getD false) k n [xa, xb])) (by rfl) (fun w hw => ?_) ?_
        · go_simp
          refine (HAP.out w).mono ?_
          rintro e wx ⟨rfl, hB⟩
          exact ⟨rfl, hw.1.trans (hB.mono hw.1.size), HK.out _ (hw.1.trans (hB.mono hw.1.size))⟩
        simp only [Act.put, List.setIfInBounds_toArray, List.set_cons_zero, List.set_cons_succ]
        refine InText.pure (by rfl) (fun w hw => by (try dsimp only at hw); go_simp; try with_reducible rfl) ?_
        (try simp only [Act.put, List.setIfInBounds_toArray, List.set_cons_zero, List.set_cons_succ])
        exact InText.done
      case post =>
        rintro w' ⟨hst', _⟩
        have HS9 := Lib.hid hst'
        clear hst'
        go_wp2_with fail
        go_ret
        exact ⟨by rw [HE.out]; rfl, HBW.out _ HS9.out⟩
end Go.Proofs.YtopbfgkfpgnalaaGreatDoor
namespace Go.Proofs.YtopbfgkfpgnalaaGreatDoor
set_option linter.unusedVariables false
open Go.RowKit

mutual
theorem inpT_le {t : Tre} : shN fSh t = true → inpT t ≤ 16 := by
  match t with
  | .mk k n ts =>
    intro h
    rw [shN, Bool.and_eq_true] at h
    rw [inpT]
    refine inpL_le h.1 ?_
    split
    · rename_i hk
      obtain ⟨s, hs, a1, a2, a3, a4⟩ := permN_of h.2
      rw [hk] at hs
      cases hs
      have : n < 16 := a3
      omega
    · omega
theorem inpL_le {ts : List Tre} {d : Nat} : shL fSh ts = true → d ≤ 16 → inpL ts d ≤ 16 := by
  match ts with
  | [] => intro h hd; rw [inpL]; exact hd
  | t :: ts =>
    intro h hd
    rw [shL, Bool.and_eq_true] at h
    rw [inpL]
    have := inpT_le h.1
    exact inpL_le h.2 (by omega)
end
theorem mes_inp {t : Tre} {a b c d : Nat} (h : mesI fSh t = some (a, b, c, d)) : b ≤ 16 := by
  cases ho : okR fSh t with
  | false => rw [mesI_no ho] at h; cases h
  | true =>
    obtain ⟨h1, h2, _⟩ := mesI_yes ho
    rw [h1] at h
    cases h
    exact inpT_le h2
/-- What Eval leaves. -/
def EvlIs (o : Option (Nat × Nat × Nat × Nat)) (t : Tre) (xs : List Bool) (e : Ending) : Prop :=
  match o with
  | none => e = .returned (.tuple #[.bool false, .int .i64 1])
  | some x => (xs.length < x.2.1 ∧ e = .returned (.tuple #[.bool false, .int .i64 2])) ∨ (x.2.1 ≤ xs.length ∧ e = .returned (.tuple #[.bool (evT (fun a => xs[a]?.getD false) t), .int .i64 0]))
def evW (xs : List Bool) (m i : Nat) : List (BitVec 64) := (List.range m).map fun a => if a < i ∧ xs[a]?.getD false = true then 1 else 0
theorem evW_length (xs : List Bool) (m i : Nat) : (evW xs m i).length = m := by simp [evW]
theorem evW_zero (xs : List Bool) (m : Nat) : evW xs m 0 = List.replicate m 0 := by
  apply List.ext_getElem?
  intro a
  by_cases h : a < m <;> simp [evW, h]
theorem evW_at {xs : List Bool} {m i : Nat} (h : i < m) : (evW xs m i)[i]? = some 0 := by simp [evW, h]
theorem evW_no {xs : List Bool} {m i : Nat} (hx : xs[i]? = some false) : evW xs m (i + 1) = evW xs m i := by
  unfold evW
  refine List.map_congr_left fun a _ => ?_
  by_cases h : a = i
  · subst h; simp [hx]
  · have : a < i + 1 ↔ a < i := by omega
    simp only [this]
theorem evW_yes {xs : List Bool} {m i : Nat} (hx : xs[i]? = some true) (hi : i < m) : evW xs m (i + 1) = (evW xs m i).set i 1 := by
  apply List.ext_getElem?
  intro a
  rw [List.getElem?_set]
  by_cases h : i = a
  · subst h; simp [evW, hx, hi]
  · rw [if_neg h]
    by_cases ha : a < m
    · have : a < i + 1 ↔ a < i := by omega
      simp only [evW, List.getElem?_map, List.getElem?_range ha, Option.map_some, this]
    · simp [evW, ha]
mutual
theorem evT_congr {m : Nat} {f g : Nat → Bool} (h : ∀ a, a < m → f a = g a) : ∀ t : Tre, okT fSh m t → evT f t = evT g t
  | .mk k n ts, hk => by
    rw [okT] at hk
    rw [evT, evT, evL_congr h ts hk.2.2]
    unfold evC
    split
    · rename_i h0
      obtain ⟨s, hs, a1, a2, a3, a4⟩ := permN_of hk.1
      exact h _ (by have := hk.2.1 h0; omega)
    · rfl
theorem evL_congr {m : Nat} {f g : Nat → Bool} (h : ∀ a, a < m → f a = g a) : ∀ ts : List Tre, okL fSh m ts → evL f ts = evL g ts
  | [], _ => by rw [evL, evL]
  | t :: ts, hk => by
    rw [okL] at hk
    rw [evL, evL, evT_congr h t hk.1, evL_congr h ts hk.2]
end
theorem evW_val {xs : List Bool} {m : Nat} {t : Tre} (hk : okT fSh m t) (hl : m ≤ xs.length) : (valB (evW xs m m) t).getLsbD 0 = evT (fun a => xs[a]?.getD false) t := by
  rw [valB_bit _ 0 (by omega)]
  refine evT_congr (fun a ha => ?_) t hk
  simp only [evW, List.getElem?_map, List.getElem?_range ha, Option.map_some, Option.getD_some]
  cases xs[a]?.getD false <;> simp [ha]

set_option maxRecDepth 100000 in
set_option maxHeartbeats 8000000 in
theorem Eval_ok (t : Tre) (v : Value) (AX : Option Addr) (cx : Nat) (xs : List Bool) (hx40 : xs.length ≤ 1099511627776) (w : World) (hT : TreV 0 w t v) (hX : BlR w AX xs) :
    Calls Tryz.prog 25 #[v, .slice AX xs.length cx] w fun e w' => EvlIs (mesI fSh t) t xs e ∧ Below w.heap.size w w' := by
  have HX := Lib.hid (fun W (hW : Below w.heap.size w W) => hX.below hW)
  have H16 : Hid (∀ a b c d, mesI fSh t = some (a, b, c, d) → b ≤ 16) := Lib.hid (fun a b c d h => mes_inp h)
  clear hX
  obtain ⟨k, n, ts⟩ := t
  have hT2 := hT
  unfold TreV at hT2
  obtain ⟨A, c, rfl, _⟩ := hT2
  have hb1 := below1 w (.cells #[.int .i64 k, .int .i64 n, .slice A ts.length c] 24)
  have HTT := Lib.hid (fun W (hW : Below w.heap.size w W) => hT.below hW)
  have HF := Lib.hid (fun W => formulas_ok W)
  have HME := Lib.hid (fun g W hs hT => measure_ok g fSh (by decide) (by decide) (by decide) (by decide) (.mk k n ts) (.agg #[.int .i64 k, .int .i64 n, .slice A ts.length c]) W hs hT)
  have HB1 := Lib.hid hb1
  have hsz : (w.alloc (.cells #[.int .i64 k, .int .i64 n, .slice A ts.length c] 24)).heap.size = w.heap.size + 1 := by simp
  have HSZ := Lib.hid hsz
  obtain ⟨t0, t1, t2⟩ := (show (w.alloc (.cells #[.int .i64 k, .int .i64 n, .slice A ts.length c] 24)).cell? ⟨w.heap.size, 0, none⟩ = some (.int .i64 k) ∧ (w.alloc (.cells #[.int .i64 k, .int .i64 n, .slice A ts.length c] 24)).cell? ⟨w.heap.size, 1, none⟩ = some (.int .i64 n) ∧ (w.alloc (.cells #[.int .i64 k, .int .i64 n, .slice A ts.length c] 24)).cell? ⟨w.heap.size, 2, none⟩ = some (.slice A ts.length c) from ⟨World.cell?_alloc_new _ _ _ 0, World.cell?_alloc_new _ _ _ 1, World.cell?_alloc_new _ _ _ 2⟩)
  obtain ⟨d0, d1, d2⟩ := (show ((w.alloc (.cells #[.int .i64 k, .int .i64 n, .slice A ts.length c] 24)).alloc (.cells #[.int .i64 0, .int .i64 0, .int .i64 0, .int .i64 0] 110)).cell? ⟨w.heap.size, 0, none⟩ = some (.int .i64 k) ∧ ((w.alloc (.cells #[.int .i64 k, .int .i64 n, .slice A ts.length c] 24)).alloc (.cells #[.int .i64 0, .int .i64 0, .int .i64 0, .int .i64 0] 110)).cell? ⟨w.heap.size, 1, none⟩ = some (.int .i64 n) ∧ ((w.alloc (.cells #[.int .i64 k, .int .i64 n, .slice A ts.length c] 24)).alloc (.cells #[.int .i64 0, .int .i64 0, .int .i64 0, .int .i64 0] 110)).cell? ⟨w.heap.size, 2, none⟩ = some (.slice A ts.length c) from ⟨(World.cell?_alloc_lt _ _ _ (by simp)).trans t0, (World.cell?_alloc_lt _ _ _ (by simp)).trans t1, (World.cell?_alloc_lt _ _ _ (by simp)).trans t2⟩)
  have HOKT := Lib.hid (show ∀ a b c d, mesI fSh (.mk k n ts) = some (a, b, c, d) → okT fSh b (.mk k n ts) from fun a b c' d h => by
    unfold mesI at h
    split at h
    · rename_i d' m' hv
      simp at h
      obtain ⟨_, rfl, _, _⟩ := h
      exact (visN_okT hv).1
    · simp at h)
  clear hT hb1 hsz
  rw [mesV_eq] at HME
  obtain ⟨o, ho⟩ : ∃ o, mesI fSh (.mk k n ts) = o := ⟨_, rfl⟩
  rw [ho] at HME HOKT H16 ⊢
  clear ho
  unfold langV at HF HME
  go_enter Tryz.func25, Tryz.ntmps25
  go_upto_region 1 with fail
  generalize w.alloc (.cells #[.int .i64 k, .int .i64 n, .slice A ts.length c] 24) = w1 at *
  go_cut [6, 7] (fun ta tb wx => ∃ bm, ta = .pointer (some ⟨bm, 0, none⟩) ∧ tb = .bool o.isSome ∧ wx.heap[bm]? = some (.cells #[.int .i64 (mesA o), .int .i64 (mesB o), .int .i64 (mesC o), .int .i64 (mesD o)] 110 (0, 0)) ∧ Below w1.heap.size w1 wx)
  case first =>
    go_region_law (first
      | (have hp := (Below.refl w1.heap.size w1).drew; go_simp; (with_reducible refine (HF.out w1.drew).mono ?_); rintro e wa ⟨g, hg, rfl, hs, hBa⟩; have hba := hp.trans (hBa.mono (Nat.le_refl _)); have a0 := (hba.cell (World.block_lt_of_cell? w1 _ t0)).trans t0; have a1 := (hba.cell (World.block_lt_of_cell? w1 _ t1)).trans t1; have a2 := (hba.cell (World.block_lt_of_cell? w1 _ t2)).trans t2; have hq := hba.alloc hba.size (.cells #[.int .i64 0, .int .i64 0, .int .i64 0, .int .i64 0] 110); have aa0 := (hq.cell (World.block_lt_of_cell? w1 _ t0)).trans t0; have aa1 := (hq.cell (World.block_lt_of_cell? w1 _ t1)).trans t1; have aa2 := (hq.cell (World.block_lt_of_cell? w1 _ t2)).trans t2)
      | (have hp := ((Below.refl w1.heap.size w1).alloc (Nat.le_refl _) (.cells #[.int .i64 0, .int .i64 0, .int .i64 0, .int .i64 0] 110)).drew; go_simp; (with_reducible refine (HF.out (w1.alloc (.cells #[.int .i64 0, .int .i64 0, .int .i64 0, .int .i64 0] 110)).drew).mono ?_); rintro e wa ⟨g, hg, rfl, hs, hBa⟩; have hba := hp.trans (hBa.mono (by simp)); have a0 := (hba.cell (World.block_lt_of_cell? w1 _ t0)).trans t0; have a1 := (hba.cell (World.block_lt_of_cell? w1 _ t1)).trans t1; have a2 := (hba.cell (World.block_lt_of_cell? w1 _ t2)).trans t2; have hqa := (hBa.block w1.heap.size (by simp)).trans (alloc_at w1 (.cells #[.int .i64 0, .int .i64 0, .int .i64 0, .int .i64 0] 110) w1.heap.size rfl); obtain ⟨⟨q0, q1, q2, q3⟩, y0, y1, y2, y3⟩ := blk4_cells hqa)
      | (have hp := hba; have hlt := World.block_lt_of_cell? wa _ (hs 0 _ rfl).1; go_simp; (with_reducible refine (HME.out g wa hs (HTT.out wa (HB1.out.trans (hp.mono HB1.out.size)))).mono ?_); rintro e wb ⟨rfl, hBb⟩; have hbb := hp.trans (hBb.mono hp.size); have hqb := (hBb.block w1.heap.size (World.block_lt_of_cell? wa _ q0)).trans hqa; have u0 := (hBb.cell (World.block_lt_of_cell? wa _ q0)).trans q0; have u1 := (hBb.cell (World.block_lt_of_cell? wa _ q1)).trans q1; have u2 := (hBb.cell (World.block_lt_of_cell? wa _ q2)).trans q2; have u3 := (hBb.cell (World.block_lt_of_cell? wa _ q3)).trans q3; have x0 := (hBb.frozen (p := ⟨w1.heap.size, 0, none⟩) (World.block_lt_of_cell? wa _ q0)).trans y0; have x1 := (hBb.frozen (p := ⟨w1.heap.size, 1, none⟩) (World.block_lt_of_cell? wa _ q1)).trans y1; have x2 := (hBb.frozen (p := ⟨w1.heap.size, 2, none⟩) (World.block_lt_of_cell? wa _ q2)).trans y2; have x3 := (hBb.frozen (p := ⟨w1.heap.size, 3, none⟩) (World.block_lt_of_cell? wa _ q3)).trans y3)
      | (have hp := hba; have hlt := World.block_lt_of_cell? wa _ (hs 0 _ rfl).1; go_simp; (with_reducible refine (HME.out g wa hs (HTT.out wa (HB1.out.trans (hp.mono HB1.out.size)))).mono ?_); rintro e wb ⟨rfl, hBb⟩; have hbb := hp.trans (hBb.mono hp.size))
      | (have hp := hba.alloc hba.size (.cells #[.int .i64 0, .int .i64 0, .int .i64 0, .int .i64 0] 110); have hsb := hs.below (below1 wa (.cells #[.int .i64 0, .int .i64 0, .int .i64 0, .int .i64 0] 110)); go_simp; (with_reducible refine (HME.out g (wa.alloc (.cells #[.int .i64 0, .int .i64 0, .int .i64 0, .int .i64 0] 110)) hsb (HTT.out (wa.alloc (.cells #[.int .i64 0, .int .i64 0, .int .i64 0, .int .i64 0] 110)) (HB1.out.trans (hp.mono HB1.out.size)))).mono ?_); rintro e wb ⟨rfl, hBb⟩; have hbb := hp.trans (hBb.mono hp.size); have hqb := (hBb.block wa.heap.size (by simp)).trans (alloc_at wa (.cells #[.int .i64 0, .int .i64 0, .int .i64 0, .int .i64 0] 110) wa.heap.size rfl); obtain ⟨⟨q0, q1, q2, q3⟩, y0, y1, y2, y3⟩ := blk4_cells hqb))
    all_goals
      have hl2 := hba.size
      have hl3 := hbb.size
      have HW := Lib.hid (And.intro hl2 hl3)
      clear hl2 hl3
      go_wp2_with fail
      go_meet
      obtain ⟨hl2, hl3⟩ := HW.out
      first
        | (have hq := put4_heap (.int .i64 (mesA o)) (.int .i64 (mesB o)) (.int .i64 (mesC o)) (.int .i64 (mesD o)) hqb; exact ⟨_, rfl, rfl, hq, put4_below hbb hl2 _ _ _ _⟩)
        | (have hq := put4_heap (.int .i64 (mesA o)) (.int .i64 (mesB o)) (.int .i64 (mesC o)) (.int .i64 (mesD o)) hqb; exact ⟨_, rfl, rfl, hq, put4_below hbb (Nat.le_refl _) _ _ _ _⟩)
        | exact ⟨_, rfl, rfl, (MapKept.heap_alloc wb _).1, hbb.alloc hl3 _⟩
  case rest =>
    obtain ⟨wm, rfl⟩ : ∃ wm : World, wm = wc := ⟨_, rfl⟩
    obtain ⟨bm, rfl, rfl, hm, hbx⟩ := hcut
    obtain ⟨⟨m0, m1, m2, m3⟩, _⟩ := blk4_cells hm
    have p0 := (hbx.cell (World.block_lt_of_cell? w1 _ t0)).trans t0
    have p1 := (hbx.cell (World.block_lt_of_cell? w1 _ t1)).trans t1
    have p2 := (hbx.cell (World.block_lt_of_cell? w1 _ t2)).trans t2
    have HBX := Lib.hid (And.intro (HB1.out.trans (hbx.mono HB1.out.size)) hbx)
    clear hbx hm HF HME d0 d1 d2
    rcases o with _ | ⟨oa, ob, oc, od⟩
    · simp only [Option.isSome_none]
      go_wp2_with fail
      go_ret2
      exact ⟨rfl, HBX.out.1⟩
    · simp only [Option.isSome_some]
      simp only [mesA, mesB, mesC, mesD] at m0 m1 m2 m3
      by_cases h1 : xs.length < ob
      · have e1 : decide ((xs.length : Int) < (ob : Int)) = true := decide_eq_true (by omega)
        have e1' : decide (xs.length < ob) = true := decide_eq_true h1
        go_wp2_with fail
        go_ret2
        exact ⟨Or.inl ⟨h1, rfl⟩, HBX.out.1⟩
      · have e1 : decide ((xs.length : Int) < (ob : Int)) = false := decide_eq_false (by omega)
        have e1' : decide (xs.length < ob) = false := decide_eq_false h1
        have hok := HOKT.out oa ob oc od rfl
        have hob := H16.out oa ob oc od rfl
        have hmk := make_words ob (by omega)
        have hb0 := below1 wm (wdO (List.replicate ob 0))
        have HST := Lib.hid (show (wm.alloc (wdO (List.replicate ob 0))).heap[wm.heap.size]? = some (wdO (evW xs ob 0)) ∧ Below w1.heap.size w1 (wm.alloc (wdO (List.replicate ob 0))) from ⟨by rw [evW_zero]; exact alloc_at _ _ _ rfl, HBX.out.2.trans (hb0.mono HBX.out.2.size)⟩)
        have HWC := Lib.hid HBX.out.2.size
        have HVL := Lib.hid (fun W (hW : Below w.heap.size w W) (hg : W.heap[wm.heap.size]? = some (wdO (evW xs ob ob))) => values_ok ob hob (some ⟨wm.heap.size, 0, none⟩) ob (evW xs ob ob) (by rw [evW_length]; omega) (by rw [evW_length]; omega) _ (.mk k n ts) (Nat.lt_succ_self _) _ W (HTT.out W hW) hok (RdW.of_block hg))
        simp only [evW_length] at HVL
        have HEV := Lib.hid (evW_val hok (by omega : ob ≤ xs.length))
        have HH := Lib.hid h1
        have hxl : xs.length ≤ 1099511627776 := hx40
        clear hb0 hok HOKT H16 p0 p1 p2 h1
        go_wp2_with fail
        go_loopw [9, 28] (fun _ iv W => ∃ i : Nat, i ≤ ob ∧ iv = .int .i64 i ∧ W.heap[wm.heap.size]? = some (wdO (evW xs ob i)) ∧ Below w1.heap.size w1 W) (fun _ iv _ => ob - (intOf iv).toNat)
        case atStart => exact ⟨0, by omega, rfl, HST.out.1, HST.out.2⟩
        case round =>
          obtain ⟨i, hi, rfl, hg, hB⟩ := hrel
          have HG := Lib.hid (And.intro hg hB)
          by_cases hil : i < ob
          · have d1 : decide ((i : Int) < (ob : Int)) = true := decide_eq_true (by omega)
            have d1' : decide (i < ob) = true := decide_eq_true hil
            obtain ⟨x, hx⟩ : ∃ x, xs[i]? = some x := ⟨_, List.getElem?_eq_getElem (by have := HH.out; omega)⟩
            have hix : i < xs.length := (List.getElem?_eq_some_iff.1 hx).1
            obtain ⟨b, off, rfl, e0⟩ := HX.out wr (HB1.out.trans (hB.mono HB1.out.size)) i x hx
            obtain ⟨g0, g1⟩ := wd_cell hg (j := i) (evW_at hil)
            have hgs := wd_set (j := i) (1 : BitVec 64) hg
            have hbs := hB.setCell (p := ⟨wm.heap.size, i, none⟩) (show w1.heap.size ≤ wm.heap.size from HWC.out) (.int .u64 (((1 : BitVec 64).toNat : Nat) : Int))
            cases x
            · have HN := Lib.hid (evW_no (m := ob) hx)
              clear hgs hbs hx hg hB
              go_wp2_with fail
              go_roundw
              case rel => exact ⟨i + 1, by omega, by go_num, by rw [HN.out]; exact HG.out.1, HG.out.2⟩
              case measure => simp [intOf]; omega
            · have HN := Lib.hid (evW_yes hx hil)
              have HF2 := Lib.hid (And.intro hgs hbs)
              clear hgs hbs hx hg hB
              go_wp2_with fail
              go_roundw
              case rel => exact ⟨i + 1, by omega, by go_num, by rw [HN.out]; exact HF2.out.1, HF2.out.2⟩
              case measure => simp [intOf]; omega
          · have d1 : decide ((i : Int) < (ob : Int)) = false := decide_eq_false (by omega)
            have d1' : decide (i < ob) = false := decide_eq_false hil
            obtain rfl : i = ob := by omega
            have q0 := (hB.cell (World.block_lt_of_cell? w1 _ t0)).trans t0
            have q1 := (hB.cell (World.block_lt_of_cell? w1 _ t1)).trans t1
            have q2 := (hB.cell (World.block_lt_of_cell? w1 _ t2)).trans t2
            have hwr := HB1.out.trans (hB.mono HB1.out.size)
            have HC := Lib.hid (HVL.out wr hwr hg)
            have HWR := Lib.hid hwr
            have hand := take_bit (valB (evW xs i i) (.mk k n ts)) 0 (by omega)
            rw [Int.pow_zero, Int.ediv_one, Nat.pow_zero, Nat.div_one] at hand
            clear hg hB hwr
            have HEV2 := Lib.hid HEV.out
            rw [← toNat_bit, Nat.pow_zero, Nat.div_one] at HEV2
            generalize valB (evW xs i i) (.mk k n ts) = vv at *
            generalize hm2 : vv.toNat % 2 = mm at *
            have hmm : mm = 0 ∨ mm = 1 := by omega
            clear hm2
            have HHI := Lib.hid (show i ≤ xs.length by have := HH.out; omega)
            go_wp2_with fail
            refine HC.out.mono ?_
            rintro e w9 ⟨rfl, hB9⟩
            have HB9 := Lib.hid (HWR.out.trans (hB9.mono HWR.out.size))
            clear hB9
            rcases hmm with rfl | rfl
            · go_wp2_with fail
              go_ret2
              exact ⟨Or.inr ⟨HHI.out, by rw [← HEV2.out]; rfl⟩, HB9.out⟩
            · go_wp2_with fail
              go_ret2
              exact ⟨Or.inr ⟨HHI.out, by rw [← HEV2.out]; rfl⟩, HB9.out⟩
end Go.Proofs.YtopbfgkfpgnalaaGreatDoor
