/-
  Joined from Fnq, Fnr: see there.
-/
import Derived.Test.YtcophfhnhlaonaaGreatDoorVb
import Derived.Test.YtcophfhnhlaonaaGreatDoorRg
namespace Go.Proofs.YtcophfhnhlaonaaGreatDoor
set_option linter.unusedVariables false
open Go.RowKit

set_option maxHeartbeats 2000000 in
theorem Apply_ref (k : Int) (hk : k = 3 ∨ k = 4 ∨ k = 5) (f : Nat → Bool) (n : Int) (a b : Bool) (w : World) :
    Calls Tryz.prog 49 #[.int .i64 k, .bool a, .bool b] w fun e w' => e = .returned (.bool (evC f k n [a, b])) ∧ Below w.heap.size w w' := by
  rcases hk with rfl | rfl | rfl <;> cases a <;> cases b <;> (
    go_enter Tryz.func49, Tryz.ntmps49
    go_wp2_with fail
    go_ret
    exact ⟨rfl, Below.refl _ _⟩)

set_option maxRecDepth 100000 in
set_option maxHeartbeats 4000000 in
theorem Eval_ref (m : Nat) (hm : m ≤ 16) (AX : Option Addr) (cx : Nat) (xs : List Bool) (hxl : m ≤ xs.length) : ∀ (N : Nat) (t : Tre), SizeOf.sizeOf t < N → ∀ (v : Value) (w : World), TreV 0 w t v → okT fSh m t → BlR w AX xs →
    Calls Tryz.prog 20 #[v, .slice AX xs.length cx] w fun e w' => e = .returned (.bool (evT (fun a => xs[a]?.getD false) t)) ∧ Below w.heap.size w w' := by
  intro N
  induction N with
  | zero => intro t h; omega
  | succ N ih =>
    intro t htN v w hT hok hX
    obtain ⟨k, n, ts⟩ := t
    have hT2 := hT
    unfold TreV at hT2
    obtain ⟨A, c, rfl, hrow⟩ := hT2
    obtain ⟨w0, hw0⟩ : ∃ w0, w0 = w.alloc (.cells #[.int .i64 k, .int .i64 n, .slice A ts.length c] 24) := ⟨_, rfl⟩
    have hb0 : Below w.heap.size w w0 := by rw [hw0]; exact below1 _ _
    have htb : w0.heap[w.heap.size]? = some (.cells #[.int .i64 k, .int .i64 n, .slice A ts.length c] 24 (0, 0)) := by
      rw [hw0]; exact alloc_at _ _ _ rfl
    have hsz0 : w0.heap.size = w.heap.size + 1 := by rw [hw0]; simp
    have HW0 := Lib.hid hw0
    have HB0 := Lib.hid (And.intro hb0 hsz0)
    have HBX := Lib.hid (show ∀ W, Below w0.heap.size w0 W → (W.cell? ⟨w.heap.size, 0, none⟩ = some (.int .i64 k) ∧ W.cell? ⟨w.heap.size, 1, none⟩ = some (.int .i64 n) ∧ W.cell? ⟨w.heap.size, 2, none⟩ = some (.slice A ts.length c)) from fun W ho => (blk3_cells ((ho.block _ (by omega)).trans htb)).1)
    have HBW : Hid (∀ W, Below w0.heap.size w0 W → Below w.heap.size w W) := Lib.hid (fun W ho => hb0.trans (ho.mono hb0.size))
    have HIH := Lib.hid ih
    have HROW := Lib.hid hrow
    have hok2 := hok
    rw [okT] at hok2
    have HXB := Lib.hid (fun W (hW : Below w0.heap.size w0 W) => hX.below (HBW.out W hW))
    have hk6 : (k = 0 ∧ 0 ≤ n ∧ n < (m : Int)) ∨ (k = 1 ∧ (n = 0 ∨ n = 1)) ∨ (k = 2 ∧ ts.length = 1) ∨ ((k = 3 ∨ k = 4 ∨ k = 5) ∧ ts.length = 2) := by
      obtain ⟨s, hs, a1, a2, a3, a4⟩ := permN_of hok2.1
      have hkk : k.toNat = 0 ∨ k.toNat = 1 ∨ k.toNat = 2 ∨ k.toNat = 3 ∨ k.toNat = 4 ∨ k.toNat = 5 := by
        have := (List.getElem?_eq_some_iff.1 hs).1
        simp only [fSh, List.length_cons, List.length_nil] at this
        omega
      rcases hkk with h | h | h | h | h | h
      · left; have hk0 : k = 0 := by omega
        exact ⟨hk0, a2, hok2.2.1 hk0⟩
      · right; left; rw [h] at hs; cases hs; exact ⟨by omega, by simp at a3; omega⟩
      · right; right; left; rw [h] at hs; cases hs; exact ⟨by omega, a4⟩
      · right; right; right; rw [h] at hs; cases hs; exact ⟨by omega, a4⟩
      · right; right; right; rw [h] at hs; cases hs; exact ⟨by omega, a4⟩
      · right; right; right; rw [h] at hs; cases hs; exact ⟨by omega, a4⟩
    rcases hk6 with ⟨rfl, hn0, hnm⟩ | ⟨rfl, hn⟩ | ⟨rfl, hl⟩ | ⟨hk3, hl⟩
    · obtain ⟨u, rfl⟩ : ∃ u : Nat, n = u := ⟨n.toNat, by omega⟩
      obtain ⟨x, hx⟩ : ∃ x, xs[u]? = some x := ⟨_, List.getElem?_eq_getElem (by omega)⟩
      obtain ⟨b, off, rfl, e0⟩ := HXB.out w0 (Below.refl _ _) u x hx
      have HE : Hid (evT (fun a => xs[a]?.getD false) (.mk 0 u ts) = x) := Lib.hid (by rw [evT, evC, if_pos rfl]; simp [hx])
      have hux : u < xs.length := (List.getElem?_eq_some_iff.1 hx).1
      obtain ⟨c0, c1, c2⟩ := HBX.out w0 (Below.refl _ _)
      clear ih htb hb0 hw0 hsz0 hrow htN hT hok hX hok2 hx hn0
      generalize xs.length = xl at *
      go_enter Tryz.func20, Tryz.ntmps20
      go_upto_region 3 with fail
      rw [← HW0.out]
      go_wp2_with fail
      go_ret
      exact ⟨by rw [HE.out]; rfl, HB0.out.1⟩
    · have HE : Hid (evT (fun a => xs[a]?.getD false) (.mk 1 n ts) = decide (n ≠ 0)) := Lib.hid (by rw [evT, evC, if_neg (by decide), if_pos rfl])
      obtain ⟨c0, c1, c2⟩ := HBX.out w0 (Below.refl _ _)
      clear ih htb hb0 hw0 hsz0 hrow htN hT hok hX hok2
      rcases hn with rfl | rfl <;> (
        go_enter Tryz.func20, Tryz.ntmps20
        go_wp2_with fail
        rw [← HW0.out]
        go_ret
        exact ⟨by rw [HE.out]; rfl, HB0.out.1⟩)
    · obtain ⟨ta, rfl⟩ : ∃ a, ts = [a] := by
        match ts, hl with
        | [a], _ => exact ⟨a, rfl⟩
      have HE : Hid (evT (fun a => xs[a]?.getD false) (.mk 2 n [ta]) = !(evT (fun a => xs[a]?.getD false) ta)) := Lib.hid (by rw [evT, evC, if_neg (by decide), if_neg (by decide), if_pos rfl, evL]; rfl)
      obtain ⟨b, off, x, y, z, rfl, _, e0, e1, e2, hTt⟩ := (hrow.keep (w' := w0) (KeepB.of_below 0 hb0)).at (j := 0) (t := ta) rfl
      have HCALL := Lib.hid (HIH.out ta (Nat.lt_of_lt_of_le (kid_size (ts := [ta]) (by simp)) (Nat.le_of_lt_succ htN)) _ w0 hTt (okL_at hok2.2.2 (i := 0) rfl) (HXB.out w0 (Below.refl _ _)))
      obtain ⟨c0, c1, c2⟩ := HBX.out w0 (Below.refl _ _)
      have HW2 : Hid (w0 = w.alloc (.cells #[.int .i64 2, .int .i64 n, .slice (some ⟨b, off, none⟩) 1 c] 24)) := Lib.hid hw0
      rw [show off + (0 + 0) * 3 = off from rfl] at e0 e1 e2
      generalize evT (fun a => xs[a]?.getD false) ta = r at *
      clear ih htb hb0 hw0 hsz0 hrow htN hT hok hX hok2 hTt hl
      go_enter Tryz.func20, Tryz.ntmps20
      go_upto_region 7 with fail
      rw [← HW2.out]
      go_wp2_with fail
      refine HCALL.out.mono ?_
      rintro e w2 ⟨rfl, hB2⟩
      have HB2 := Lib.hid (HBW.out _ hB2)
      clear hB2
      go_wp2_with fail
      go_ret
      exact ⟨by rw [HE.out]; rfl, HB2.out⟩
    · obtain ⟨ta, tb, rfl⟩ : ∃ a b, ts = [a, b] := by
        match ts, hl with
        | [a, b], _ => exact ⟨a, b, rfl⟩
      have HE : Hid (evT (fun a => xs[a]?.getD false) (.mk k n [ta, tb]) = evC (fun a => xs[a]?.getD false) k n [evT (fun a => xs[a]?.getD false) ta, evT (fun a => xs[a]?.getD false) tb]) := Lib.hid (by rw [evT, evL, evL, evL])
      have HKID := Lib.hid (fun W (hW : Below w0.heap.size w0 W) => hrow.keep (w' := W) (KeepB.of_below 0 (HBW.out W hW)))
      obtain ⟨b, off, xa', ya', za', rfl, _, _, _, _, _⟩ := hrow.at (j := 0) (t := ta) rfl
      obtain ⟨b2, off2, xb', yb', zb', hAe, _, _, _, _, _⟩ := hrow.at (j := 1) (t := tb) rfl
      obtain ⟨rfl, rfl⟩ : b2 = b ∧ off2 = off := by cases hAe; exact ⟨rfl, rfl⟩
      have hka : ∃ x y z, ∀ W, Below w0.heap.size w0 W → W.cell? ⟨b2, off2, none⟩ = some x ∧ W.cell? ⟨b2, off2 + 1, none⟩ = some y ∧ W.cell? ⟨b2, off2 + 2, none⟩ = some z ∧ TreV 0 W ta (.agg #[x, y, z]) := by
        obtain ⟨b, off, x, y, z, hAe, _, d0, d1, d2, _⟩ := (hrow.keep (w' := w0) (KeepB.of_below 0 hb0)).at (j := 0) (t := ta) rfl
        cases hAe
        refine ⟨x, y, z, fun W hW => ?_⟩
        obtain ⟨b, off, x', y', z', hAe, _, e0, e1, e2, hT'⟩ := (HKID.out W hW).at (j := 0) (t := ta) rfl
        cases hAe
        have f0 := (hW.cell (World.block_lt_of_cell? w0 _ d0)).trans d0
        have f1 := (hW.cell (World.block_lt_of_cell? w0 _ d1)).trans d1
        have f2 := (hW.cell (World.block_lt_of_cell? w0 _ d2)).trans d2
        rw [e0] at f0
        rw [e1] at f1
        rw [e2] at f2
        cases f0
        cases f1
        cases f2
        exact ⟨e0, e1, e2, hT'⟩
      have hkb : ∃ x y z, ∀ W, Below w0.heap.size w0 W → W.cell? ⟨b2, off2 + 3, none⟩ = some x ∧ W.cell? ⟨b2, off2 + 4, none⟩ = some y ∧ W.cell? ⟨b2, off2 + 5, none⟩ = some z ∧ TreV 0 W tb (.agg #[x, y, z]) := by
        obtain ⟨b, off, x, y, z, hAe, _, d0, d1, d2, _⟩ := (hrow.keep (w' := w0) (KeepB.of_below 0 hb0)).at (j := 1) (t := tb) rfl
        cases hAe
        refine ⟨x, y, z, fun W hW => ?_⟩
        obtain ⟨b, off, x', y', z', hAe, _, e0, e1, e2, hT'⟩ := (HKID.out W hW).at (j := 1) (t := tb) rfl
        cases hAe
        have f0 := (hW.cell (World.block_lt_of_cell? w0 _ d0)).trans d0
        have f1 := (hW.cell (World.block_lt_of_cell? w0 _ d1)).trans d1
        have f2 := (hW.cell (World.block_lt_of_cell? w0 _ d2)).trans d2
        rw [e0] at f0
        rw [e1] at f1
        rw [e2] at f2
        cases f0
        cases f1
        cases f2
        exact ⟨e0, e1, e2, hT'⟩
      obtain ⟨x, y, z, hka⟩ := hka
      obtain ⟨x', y', z', hkb⟩ := hkb
      have HCA := Lib.hid (fun W (hW : Below w0.heap.size w0 W) => HIH.out ta (Nat.lt_of_lt_of_le (kid_size (ts := [ta, tb]) (by simp)) (Nat.le_of_lt_succ htN)) _ W (hka W hW).2.2.2 (okL_at hok2.2.2 (i := 0) rfl) (HXB.out W hW))
      have HCB := Lib.hid (fun W (hW : Below w0.heap.size w0 W) => HIH.out tb (Nat.lt_of_lt_of_le (kid_size (ts := [ta, tb]) (by simp)) (Nat.le_of_lt_succ htN)) _ W (hkb W hW).2.2.2 (okL_at hok2.2.2 (i := 1) rfl) (HXB.out W hW))
      have HK : Hid (∀ W, Below w0.heap.size w0 W → W.cell? ⟨w.heap.size, 0, none⟩ = some (.int .i64 k) ∧ W.cell? ⟨w.heap.size, 2, none⟩ = some (.slice (some ⟨b2, off2, none⟩) 2 c) ∧ W.cell? ⟨b2, off2, none⟩ = some x ∧ W.cell? ⟨b2, off2 + 1, none⟩ = some y ∧ W.cell? ⟨b2, off2 + 2, none⟩ = some z ∧ W.cell? ⟨b2, off2 + 3, none⟩ = some x' ∧ W.cell? ⟨b2, off2 + 4, none⟩ = some y' ∧ W.cell? ⟨b2, off2 + 5, none⟩ = some z') :=
        Lib.hid (fun W hW => ⟨(HBX.out W hW).1, (HBX.out W hW).2.2, (hka W hW).1, (hka W hW).2.1, (hka W hW).2.2.1, (hkb W hW).1, (hkb W hW).2.1, (hkb W hW).2.2.1⟩)
      generalize evT (fun a => xs[a]?.getD false) ta = xa at *
      generalize evT (fun a => xs[a]?.getD false) tb = xb at *
      have HAP := Lib.hid (fun W => Apply_ref k hk3 (fun a => xs[a]?.getD false) n xa xb W)
      have f0 : ((k : Int) == 0) = false := by simp; omega
      have f1 : ((k : Int) == 1) = false := by simp; omega
      have f2 : ((k : Int) == 2) = false := by simp; omega
      have HW2 : Hid (w0 = w.alloc (.cells #[.int .i64 k, .int .i64 n, .slice (some ⟨b2, off2, none⟩) 2 c] 24)) := Lib.hid hw0
      obtain ⟨c0, c1, c2⟩ := HBX.out w0 (Below.refl _ _)
      clear ih htb hb0 hw0 hsz0 hrow htN hT hok hX hok2 hka hkb HKID hl hAe HIH hk3
      go_enter Tryz.func20, Tryz.ntmps20
      go_upto_region 8 with fail
      rw [← HW2.out]
      refine wp_region_text (S := (fun W => Below w0.heap.size w0 W ∧ W.cell? ⟨w.heap.size, 0, none⟩ = some (.int .i64 k) ∧ W.cell? ⟨w.heap.size, 2, none⟩ = some (.slice (some ⟨b2, off2, none⟩) 2 c) ∧ W.cell? ⟨b2, off2, none⟩ = some x ∧ W.cell? ⟨b2, off2 + 1, none⟩ = some y ∧ W.cell? ⟨b2, off2 + 2, none⟩ = some z ∧ W.cell? ⟨b2, off2 + 3, none⟩ = some x' ∧ W.cell? ⟨b2, off2 + 4, none⟩ = some y' ∧ W.cell? ⟨b2, off2 + 5, none⟩ = some z')) (by kernel_rfl) (by kernel_rfl) ⟨(Below.refl _ w0).drew, HK.out _ (Below.refl _ w0).drew⟩ (b := ?bq) ?text ?post
      case text =>
        refine InText.pure (by rfl) (fun w hw => by (try dsimp only at hw); go_simp; try with_reducible rfl) ?_
        simp only [Act.put, List.setIfInBounds_toArray, List.set_cons_zero, List.set_cons_succ]
        refine InText.pure (by rfl) (fun w hw => by (try dsimp only at hw); go_simp; try with_reducible rfl) ?_
        simp only [Act.put, List.setIfInBounds_toArray, List.set_cons_zero, List.set_cons_succ]
        refine InText.pure (by rfl) (fun w hw => by (try dsimp only at hw); go_simp; try with_reducible rfl) ?_
        simp only [Act.put, List.setIfInBounds_toArray, List.set_cons_zero, List.set_cons_succ]
        refine InText.pure (by rfl) (fun w hw => by (try dsimp only at hw); go_simp; try with_reducible rfl) ?_
        simp only [Act.put, List.setIfInBounds_toArray, List.set_cons_zero, List.set_cons_succ]
        refine InText.pure (by rfl) (fun w hw => by (try dsimp only at hw); go_simp; try with_reducible rfl) ?_
        simp only [Act.put, List.setIfInBounds_toArray, List.set_cons_zero, List.set_cons_succ]
        refine InText.pure (by rfl) (fun w hw => by (try dsimp only at hw); go_simp; try with_reducible rfl) ?_
        simp only [Act.put, List.setIfInBounds_toArray, List.set_cons_zero, List.set_cons_succ]
        refine InText.pure (by rfl) (fun w hw => by (try dsimp only at hw); go_simp; try with_reducible rfl) ?_
        simp only [Act.put, List.setIfInBounds_toArray, List.set_cons_zero, List.set_cons_succ]
        refine InText.call (.bool xa) (by rfl) (fun w hw => ?_) ?_
        · go_simp
          refine (HCA.out w hw.1).mono ?_
          rintro e wx ⟨rfl, hB⟩
          exact ⟨rfl, hw.1.trans (hB.mono hw.1.size), HK.out _ (hw.1.trans (hB.mono hw.1.size))⟩
        simp only [Act.put, List.setIfInBounds_toArray, List.set_cons_zero, List.set_cons_succ]
        refine InText.pure (by rfl) (fun w hw => by (try dsimp only at hw); go_simp; try with_reducible rfl) ?_
        simp only [Act.put, List.setIfInBounds_toArray, List.set_cons_zero, List.set_cons_succ]
        refine InText.pure (by rfl) (fun w hw => by (try dsimp only at hw); go_simp; try with_reducible rfl) ?_
        simp only [Act.put, List.setIfInBounds_toArray, List.set_cons_zero, List.set_cons_succ]
        refine InText.pure (by rfl) (fun w hw => by (try dsimp only at hw); go_simp; try with_reducible rfl) ?_
        simp only [Act.put, List.setIfInBounds_toArray, List.set_cons_zero, List.set_cons_succ]
        refine InText.pure (by rfl) (fun w hw => by (try dsimp only at hw); go_simp; try with_reducible rfl) ?_
        simp only [Act.put, List.setIfInBounds_toArray, List.set_cons_zero, List.set_cons_succ]
        refine InText.pure (by rfl) (fun w hw => by (try dsimp only at hw); go_simp; try with_reducible rfl) ?_
        simp only [Act.put, List.setIfInBounds_toArray, List.set_cons_zero, List.set_cons_succ]
        refine InText.call (.bool xb) (by rfl) (fun w hw => ?_) ?_
        · go_simp
          refine (HCB.out w hw.1).mono ?_
          rintro e wx ⟨rfl, hB⟩
          exact ⟨rfl, hw.1.trans (hB.mono hw.1.size), HK.out _ (hw.1.trans (hB.mono hw.1.size))⟩
        simp only [Act.put, List.setIfInBounds_toArray, List.set_cons_zero, List.set_cons_succ]
        refine InText.call (.bool (evC (fun a => xs[a]?.getD false) k n [xa, xb])) (by rfl) (fun w hw => ?_) ?_
        · go_simp
          refine (HAP.out w).mono ?_
          rintro e wx ⟨rfl, hB⟩
          exact ⟨rfl, hw.1.trans (hB.mono hw.1.size), HK.out _ (hw.1.trans (hB.mono hw.1.size))⟩
        simp only [Act.put, List.setIfInBounds_toArray, List.set_cons_zero, List.set_cons_succ]
        refine InText.pure (by rfl) (fun w hw => by (try dsimp only at hw); go_simp; try with_reducible rfl) ?_
        (try simp only [Act.put, List.setIfInBounds_toArray, List.set_cons_zero, List.set_cons_succ])
        exact InText.done
      case post =>
        rintro w' ⟨hst', _⟩
        have HS9 := Lib.hid hst'
        clear hst'
        go_wp2_with fail
        go_ret
        exact ⟨by rw [HE.out]; rfl, HBW.out _ HS9.out⟩
end Go.Proofs.YtcophfhnhlaonaaGreatDoor
namespace Go.Proofs.YtcophfhnhlaonaaGreatDoor
set_option linter.unusedVariables false
open Go.RowKit

mutual
theorem inpT_le {t : Tre} : shN fSh t = true → inpT t ≤ 16 := by
  match t with
  | .mk k n ts =>
    intro h
    rw [shN, Bool.and_eq_true] at h
    rw [inpT]
    refine inpL_le h.1 ?_
    split
    · rename_i hk
      obtain ⟨s, hs, a1, a2, a3, a4⟩ := permN_of h.2
      rw [hk] at hs
      cases hs
      have : n < 16 := a3
      omega
    · omega
theorem inpL_le {ts : List Tre} {d : Nat} : shL fSh ts = true → d ≤ 16 → inpL ts d ≤ 16 := by
  match ts with
  | [] => intro h hd; rw [inpL]; exact hd
  | t :: ts =>
    intro h hd
    rw [shL, Bool.and_eq_true] at h
    rw [inpL]
    have := inpT_le h.1
    exact inpL_le h.2 (by omega)
end
theorem mes_inp {t : Tre} {a b c d : Nat} (h : mesI fSh t = some (a, b, c, d)) : b ≤ 16 := by
  cases ho : okR fSh t with
  | false => rw [mesI_no ho] at h; cases h
  | true =>
    obtain ⟨h1, h2, _⟩ := mesI_yes ho
    rw [h1] at h
    cases h
    exact inpT_le h2
/-- What Eval leaves. -/
def EvlIs (o : Option (Nat × Nat × Nat × Nat)) (t : Tre) (xs : List Bool) (e : Ending) : Prop :=
  match o with
  | none => e = .returned (.tuple #[.bool false, .int .i64 1])
  | some x => (xs.length < x.2.1 ∧ e = .returned (.tuple #[.bool false, .int .i64 2])) ∨ (x.2.1 ≤ xs.length ∧ e = .returned (.tuple #[.bool (evT (fun a => xs[a]?.getD false) t), .int .i64 0]))
def evW (xs : List Bool) (m i : Nat) : List (BitVec 64) := (List.range m).map fun a => if a < i ∧ xs[a]?.getD false = true then 1 else 0
theorem evW_length (xs : List Bool) (m i : Nat) : (evW xs m i).length = m := by simp [evW]
theorem evW_zero (xs : List Bool) (m : Nat) : evW xs m 0 = List.replicate m 0 := by
  apply List.ext_getElem?
  intro a
  by_cases h : a < m <;> simp [evW, h]
theorem evW_at {xs : List Bool} {m i : Nat} (h : i < m) : (evW xs m i)[i]? = some 0 := by simp [evW, h]
theorem evW_no {xs : List Bool} {m i : Nat} (hx : xs[i]? = some false) : evW xs m (i + 1) = evW xs m i := by
  unfold evW
  refine List.map_congr_left fun a _ => ?_
  by_cases h : a = i
  · subst h; simp [hx]
  · have : a < i + 1 ↔ a < i := by omega
    simp only [this]
theorem evW_yes {xs : List Bool} {m i : Nat} (hx : xs[i]? = some true) (hi : i < m) : evW xs m (i + 1) = (evW xs m i).set i 1 := by
  apply List.ext_getElem?
  intro a
  rw [List.getElem?_set]
  by_cases h : i = a
  · subst h; simp [evW, hx, hi]
  · rw [if_neg h]
    by_cases ha : a < m
    · have : a < i + 1 ↔ a < i := by omega
      simp only [evW, List.getElem?_map, List.getElem?_range ha, Option.map_some, this]
    · simp [evW, ha]
mutual
theorem evT_congr {m : Nat} {f g : Nat → Bool} (h : ∀ a, a < m → f a = g a) : ∀ t : Tre, okT fSh m t → evT f t = evT g t
  | .mk k n ts, hk => by
    rw [okT] at hk
    rw [evT, evT, evL_congr h ts hk.2.2]
    unfold evC
    split
    · rename_i h0
      obtain ⟨s, hs, a1, a2, a3, a4⟩ := permN_of hk.1
      exact h _ (by have := hk.2.1 h0; omega)
    · rfl
theorem evL_congr {m : Nat} {f g : Nat → Bool} (h : ∀ a, a < m → f a = g a) : ∀ ts : List Tre, okL fSh m ts → evL f ts = evL g ts
  | [], _ => by rw [evL, evL]
  | t :: ts, hk => by
    rw [okL] at hk
    rw [evL, evL, evT_congr h t hk.1, evL_congr h ts hk.2]
end
theorem evW_val {xs : List Bool} {m : Nat} {t : Tre} (hk : okT fSh m t) (hl : m ≤ xs.length) : (valB (evW xs m m) t).getLsbD 0 = evT (fun a => xs[a]?.getD false) t := by
  rw [valB_bit _ 0 (by omega)]
  refine evT_congr (fun a ha => ?_) t hk
  simp only [evW, List.getElem?_map, List.getElem?_range ha, Option.map_some, Option.getD_some]
  cases xs[a]?.getD false <;> simp [ha]

end Go.Proofs.YtcophfhnhlaonaaGreatDoor
