/-
  Contract of open of package poly: the ring, or the error for what is no field, no number of variables or no polynomial.
-/
import Derived.Test.YtiiopdomlepkmaaDoorPqd
import Derived.Test.YtiiopdomlepkmaaDoorFdk
namespace Go.Proofs.YtiiopdomlepkmaaDoor
set_option linter.unusedVariables false
open Go.RowKit

def zeroRing : Value := .agg #[.int .i64 0, .int .i64 0, .int .i64 0, .int .i64 0]
/-- The list of polynomials that open is handed. -/
def RdPs (w : World) (A : Option Addr) (ps : List (List (Int × List Int))) : Prop :=
  ∀ k p, ps[k]? = some p → ∃ b off A' c, A = some ⟨b, off, none⟩ ∧ w.cell? ⟨b, off + k, none⟩ = some (.slice A' p.length c) ∧ RdP w A' p ∧ p.length ≤ 1152921504606846976
theorem RdPs.below {w w' : World} {A : Option Addr} {ps : List (List (Int × List Int))} (h : RdPs w A ps) (hb : Below w.heap.size w w') : RdPs w' A ps := fun k t hk => by
  obtain ⟨b, off, A', c, ha, h1, h2, h3⟩ := h k t hk
  exact ⟨b, off, A', c, ha, (hb.cell (World.block_lt_of_cell? w _ h1)).trans h1, h2.below hb, h3⟩

theorem ord_any (P M : Int) (w : World) (hL : Lays w) : ∃ ov : Int, (∀ W, Below w.heap.size w W → Calls Tryd.prog 54 #[.agg #[.int .i64 P, .int .i64 M]] W fun e w' => e = .returned (.int .i64 ov) ∧ Below W.heap.size W w') ∧
    ((¬ OkF P M ∧ ov = 0) ∨ ∃ P' M' q : Nat, P = P' ∧ M = M' ∧ ov = q ∧ Fld P' M' q) := by
  by_cases h : OkF P M
  · obtain ⟨P', M', q, rfl, rfl, hf⟩ := h.fld
    exact ⟨q, fun W hW => Order_ok P' M' q hf W (hL.below hW), .inr ⟨P', M', q, rfl, rfl, rfl, hf⟩⟩
  · exact ⟨0, fun W hW => Order_form P M h W (hL.below hW), .inl ⟨h, rfl⟩⟩
theorem below_two {w : World} (o o' : Obj) {wx : World} (h : Below (w.heap.size + 2) ((w.alloc o).alloc o') wx) : Below w.heap.size w wx :=
  (below2 w o o').trans (h.mono (by omega))

set_option maxRecDepth 100000 in
set_option maxHeartbeats 2000000 in
theorem open_bad (P M ov n : Int) (v : Value) (w : World) (hov : 0 ≤ ov ∧ ov ≤ 65536) (hO : ∀ W, Below w.heap.size w W → Calls Tryd.prog 54 #[.agg #[.int .i64 P, .int .i64 M]] W fun e w' => e = .returned (.int .i64 ov) ∧ Below W.heap.size W w')
    (h : ov = 0 ∨ n < 0 ∨ 80 < n) (hn0 : -9223372036854775808 ≤ n) (hn1 : n ≤ 9223372036854775807) :
    Calls Tryd.prog 33 #[.agg #[.int .i64 P, .int .i64 M], .int .i64 n, v] w fun e w' => e = .returned (.tuple #[zeroRing, .int .i64 1]) ∧ Below w.heap.size w w' := by
  have HO := Lib.hid hO
  have HN := Lib.hid h
  clear hO h
  go_enter Tryd.func33, Tryd.ntmps33
  go_upto_region 1 with fail
  go_cut [8] (fun s8 wx => ∃ g : Nat, s8 = .pointer (some ⟨g, 0, none⟩) ∧ w.heap.size + 1 < g ∧ g < wx.heap.size ∧ Below (w.heap.size + 2) ((w.alloc (.cells #[.int .i64 P, .int .i64 M] 23)).alloc (.cells #[.int .i64 0, .int .i64 0, .int .i64 0, .int .i64 0] 68)) wx ∧
    wx.cell? ⟨g, 0, none⟩ = some (.int .i64 P) ∧ wx.cell? ⟨g, 1, none⟩ = some (.int .i64 M) ∧ wx.cell? ⟨g, 2, none⟩ = some (.int .i64 ov) ∧ wx.cell? ⟨g, 3, none⟩ = some (.int .i64 n))
  case first =>
    go_region_held3 (fun w' => w'.cell? ⟨w.heap.size, 0, none⟩ = some (.int .i64 P) ∧ w'.cell? ⟨w.heap.size, 1, none⟩ = some (.int .i64 M)) (first | go_keep | exact ⟨cell_set4 _ _ _ _ hc0 (by omega), cell_set4 _ _ _ _ hc1 (by omega)⟩)
      ((go_at_call 54; refine (HO.out _ (by first | exact (below2 w _ _).drew | exact ((below2 w _ _).alloc (by simp; omega) _).drew | exact (below2 w _ _).drew.alloc (by simp; omega) _)).mono ?_; rintro e w1 ⟨rfl, hB⟩; have hc0 := hB.cell (p := ⟨w.heap.size, 0, none⟩) (by simp; omega); have hc1 := hB.cell (p := ⟨w.heap.size, 1, none⟩) (by simp; omega); simp [cell_a3] at hc0 hc1; have k0 := @Below.cell _ _ _ hB ⟨w.heap.size + 2, 0, none⟩; try simp [cell_a3n] at k0; have k1 := @Below.cell _ _ _ hB ⟨w.heap.size + 2, 1, none⟩; try simp [cell_a3n] at k1; have k2 := @Below.cell _ _ _ hB ⟨w.heap.size + 2, 2, none⟩; try simp [cell_a3n] at k2; have k3 := @Below.cell _ _ _ hB ⟨w.heap.size + 2, 3, none⟩; try simp [cell_a3n] at k3; have f0 := @Below.frozen _ _ _ hB ⟨w.heap.size + 2, 0, none⟩; try simp [froz_a3n] at f0; have f1 := @Below.frozen _ _ _ hB ⟨w.heap.size + 2, 1, none⟩; try simp [froz_a3n] at f1; have f2 := @Below.frozen _ _ _ hB ⟨w.heap.size + 2, 2, none⟩; try simp [froz_a3n] at f2; have f3 := @Below.frozen _ _ _ hB ⟨w.heap.size + 2, 3, none⟩; try simp [froz_a3n] at f3))
    · go_wp2_with fail
      go_meet
      have hsz := hB.size
      simp at hsz
      refine ⟨w1.heap.size, rfl, by omega, by simp, ((below_undrew hB).mono (by simp)).alloc (by omega) _, by simp, by simp, by simp, by simp⟩
    · go_wp2_with fail
      go_meet
      have hsz := hB.size
      simp at hsz
      have hc := set4_at (.int .i64 P) (.int .i64 M) (.int .i64 ov) (.int .i64 n) k0 k1 k2 k3
      refine ⟨w.heap.size + 2, rfl, by omega, ?_, ?_, hc.1, hc.2.1, hc.2.2.1, hc.2.2.2⟩
      · show w.heap.size + 2 < (set4 w1 _ _ _ _ _).heap.size
        simp [set4]; omega
      · refine set4_below ?_ (Nat.le_refl _) _ _ _ _
        first | exact ((Below.refl _ _).drew.alloc (by simp) _).trans (hB.mono (by simp)) | exact ((Below.refl _ _).alloc (by simp) _).drew.trans (hB.mono (by simp))
  case rest =>
    obtain ⟨g, rfl, hg, hg2, hB, h0, h1, h2, h3⟩ := hcut
    have hb2 : wc.cell? ⟨w.heap.size + 1, 0, none⟩ = some (.int .i64 0) := (hB.cell (by simp)).trans (by simp)
    have hb3 : wc.cell? ⟨w.heap.size + 1, 1, none⟩ = some (.int .i64 0) := (hB.cell (by simp)).trans (by simp)
    have hb4 : wc.cell? ⟨w.heap.size + 1, 2, none⟩ = some (.int .i64 0) := (hB.cell (by simp)).trans (by simp)
    have hb5 : wc.cell? ⟨w.heap.size + 1, 3, none⟩ = some (.int .i64 0) := (hB.cell (by simp)).trans (by simp)
    have hz2 : wc.frozen? ⟨w.heap.size + 1, 0, none⟩ = false := (hB.frozen (by simp)).trans (by simp)
    have hz3 : wc.frozen? ⟨w.heap.size + 1, 1, none⟩ = false := (hB.frozen (by simp)).trans (by simp)
    have hz4 : wc.frozen? ⟨w.heap.size + 1, 2, none⟩ = false := (hB.frozen (by simp)).trans (by simp)
    have hz5 : wc.frozen? ⟨w.heap.size + 1, 3, none⟩ = false := (hB.frozen (by simp)).trans (by simp)
    have HB := Lib.hid hB
    clear hB
    by_cases x0 : ov = 0
    · subst x0
      go_wp2_with fail
      have hc := set4_at (w := wc) (.int .i64 0) (.int .i64 0) (.int .i64 0) (.int .i64 0) hb2 hb3 hb4 hb5
      have hbel : Below w.heap.size w (set4 wc (w.heap.size + 1) (.int .i64 0) (.int .i64 0) (.int .i64 0) (.int .i64 0)) := set4_below (below_two _ _ HB.out) (by omega) _ _ _ _
      unfold set4 at hc hbel
      generalize hW : ((((wc.setCell _ _).setCell _ _).setCell _ _).setCell _ _) = W at hc hbel ⊢
      obtain ⟨c0, c1, c2, c3⟩ := hc
      clear hW
      exact bodyPost_ret (v := .tuple #[.agg #[.int .i64 0, .int .i64 0, .int .i64 0, .int .i64 0], .int .i64 1]) (by simp [results, Tryd.results33, go_sem, c0, c1, c2, c3]) rfl ⟨rfl, hbel⟩
    · have x1 : ((ov : Int) == 0) = false := by simpa using x0
      by_cases x2 : n < 0
      · go_wp2_with fail
        have hc := set4_at (w := wc) (.int .i64 0) (.int .i64 0) (.int .i64 0) (.int .i64 0) hb2 hb3 hb4 hb5
        have hbel : Below w.heap.size w (set4 wc (w.heap.size + 1) (.int .i64 0) (.int .i64 0) (.int .i64 0) (.int .i64 0)) := set4_below (below_two _ _ HB.out) (by omega) _ _ _ _
        unfold set4 at hc hbel
        generalize hW : ((((wc.setCell _ _).setCell _ _).setCell _ _).setCell _ _) = W at hc hbel ⊢
        obtain ⟨c0, c1, c2, c3⟩ := hc
        clear hW
        exact bodyPost_ret (v := .tuple #[.agg #[.int .i64 0, .int .i64 0, .int .i64 0, .int .i64 0], .int .i64 1]) (by simp [results, Tryd.results33, go_sem, c0, c1, c2, c3]) rfl ⟨rfl, hbel⟩
      · have x3 : 80 < n := by rcases HN.out with h | h | h <;> omega
        go_wp2_with fail
        have hc := set4_at (w := wc) (.int .i64 0) (.int .i64 0) (.int .i64 0) (.int .i64 0) hb2 hb3 hb4 hb5
        have hbel : Below w.heap.size w (set4 wc (w.heap.size + 1) (.int .i64 0) (.int .i64 0) (.int .i64 0) (.int .i64 0)) := set4_below (below_two _ _ HB.out) (by omega) _ _ _ _
        unfold set4 at hc hbel
        generalize hW : ((((wc.setCell _ _).setCell _ _).setCell _ _).setCell _ _) = W at hc hbel ⊢
        obtain ⟨c0, c1, c2, c3⟩ := hc
        clear hW
        exact bodyPost_ret (v := .tuple #[.agg #[.int .i64 0, .int .i64 0, .int .i64 0, .int .i64 0], .int .i64 1]) (by simp [results, Tryd.results33, go_sem, c0, c1, c2, c3]) rfl ⟨rfl, hbel⟩

def OpenPs (P M q n : Nat) (ps : List (List (Int × List Int))) (w : World) (e : Ending) (w' : World) : Prop :=
  Below w.heap.size w w' ∧ ((∀ p ∈ ps, OkP q n p) ∧ e = .returned (.tuple #[rg P M q n, .int .i64 0]) ∨ (¬ ∀ p ∈ ps, OkP q n p) ∧ e = .returned (.tuple #[zeroRing, .int .i64 1]))

set_option maxRecDepth 100000 in
set_option maxHeartbeats 4000000 in
theorem open_good (P M q n : Nat) (hf : Fld P M q) (hn : n ≤ 80) (A : Option Addr) (m c : Nat) (ps : List (List (Int × List Int))) (w : World) (hL : Lays w) (hm : ps.length = m) (hm2 : m ≤ 1152921504606846976) (hr : RdPs w A ps) :
    Calls Tryd.prog 33 #[.agg #[.int .i64 (P : Int), .int .i64 (M : Int)], .int .i64 (n : Int), .slice A m c] w (OpenPs P M q n ps w) := by
  have HO := Lib.hid (fun W (hW : Below w.heap.size w W) => Order_ok P M q hf W (hL.below hW))
  have HR := Lib.hid hr
  have HM := Lib.hid hm
  have hq2 := hf.q_ge
  have hq3 := hf.q_le
  clear hr hm hL
  go_enter Tryd.func33, Tryd.ntmps33
  go_upto_region 1 with fail
  go_cut [8] (fun s8 wx => ∃ g : Nat, s8 = .pointer (some ⟨g, 0, none⟩) ∧ w.heap.size + 1 < g ∧ g < wx.heap.size ∧ Below (w.heap.size + 2) ((w.alloc (.cells #[.int .i64 (P : Int), .int .i64 (M : Int)] 23)).alloc (.cells #[.int .i64 0, .int .i64 0, .int .i64 0, .int .i64 0] 68)) wx ∧
    wx.cell? ⟨g, 0, none⟩ = some (.int .i64 (P : Int)) ∧ wx.cell? ⟨g, 1, none⟩ = some (.int .i64 (M : Int)) ∧ wx.cell? ⟨g, 2, none⟩ = some (.int .i64 (q : Int)) ∧ wx.cell? ⟨g, 3, none⟩ = some (.int .i64 (n : Int)))
  case first =>
    go_region_held3 (fun w' => w'.cell? ⟨w.heap.size, 0, none⟩ = some (.int .i64 (P : Int)) ∧ w'.cell? ⟨w.heap.size, 1, none⟩ = some (.int .i64 (M : Int))) (first | go_keep | exact ⟨cell_set4 _ _ _ _ hc0 (by omega), cell_set4 _ _ _ _ hc1 (by omega)⟩)
      ((go_at_call 54; refine (HO.out _ (by first | exact (below2 w _ _).drew | exact ((below2 w _ _).alloc (by simp; omega) _).drew | exact (below2 w _ _).drew.alloc (by simp; omega) _)).mono ?_; rintro e w1 ⟨rfl, hB⟩; have hc0 := hB.cell (p := ⟨w.heap.size, 0, none⟩) (by simp; omega); have hc1 := hB.cell (p := ⟨w.heap.size, 1, none⟩) (by simp; omega); simp [cell_a3] at hc0 hc1; have k0 := @Below.cell _ _ _ hB ⟨w.heap.size + 2, 0, none⟩; try simp [cell_a3n] at k0; have k1 := @Below.cell _ _ _ hB ⟨w.heap.size + 2, 1, none⟩; try simp [cell_a3n] at k1; have k2 := @Below.cell _ _ _ hB ⟨w.heap.size + 2, 2, none⟩; try simp [cell_a3n] at k2; have k3 := @Below.cell _ _ _ hB ⟨w.heap.size + 2, 3, none⟩; try simp [cell_a3n] at k3; have f0 := @Below.frozen _ _ _ hB ⟨w.heap.size + 2, 0, none⟩; try simp [froz_a3n] at f0; have f1 := @Below.frozen _ _ _ hB ⟨w.heap.size + 2, 1, none⟩; try simp [froz_a3n] at f1; have f2 := @Below.frozen _ _ _ hB ⟨w.heap.size + 2, 2, none⟩; try simp [froz_a3n] at f2; have f3 := @Below.frozen _ _ _ hB ⟨w.heap.size + 2, 3, none⟩; try simp [froz_a3n] at f3))
    · go_wp2_with fail
      go_meet
      have hsz := hB.size
      simp at hsz
      refine ⟨w1.heap.size, rfl, by omega, by simp, ((below_undrew hB).mono (by simp)).alloc (by omega) _, by simp, by simp, by simp, by simp⟩
    · go_wp2_with fail
      go_meet
      have hsz := hB.size
      simp at hsz
      have hc := set4_at (.int .i64 (P : Int)) (.int .i64 (M : Int)) (.int .i64 (q : Int)) (.int .i64 (n : Int)) k0 k1 k2 k3
      refine ⟨w.heap.size + 2, rfl, by omega, ?_, ?_, hc.1, hc.2.1, hc.2.2.1, hc.2.2.2⟩
      · show w.heap.size + 2 < (set4 w1 _ _ _ _ _).heap.size
        simp [set4]; omega
      · refine set4_below ?_ (Nat.le_refl _) _ _ _ _
        first | exact ((Below.refl _ _).drew.alloc (by simp) _).trans (hB.mono (by simp)) | exact ((Below.refl _ _).alloc (by simp) _).drew.trans (hB.mono (by simp))
  case rest =>
    obtain ⟨g, rfl, hg, hg2, hB, h0, h1, h2, h3⟩ := hcut
    have hb2 : wc.cell? ⟨w.heap.size + 1, 0, none⟩ = some (.int .i64 0) := (hB.cell (by simp)).trans (by simp)
    have hb3 : wc.cell? ⟨w.heap.size + 1, 1, none⟩ = some (.int .i64 0) := (hB.cell (by simp)).trans (by simp)
    have hb4 : wc.cell? ⟨w.heap.size + 1, 2, none⟩ = some (.int .i64 0) := (hB.cell (by simp)).trans (by simp)
    have hb5 : wc.cell? ⟨w.heap.size + 1, 3, none⟩ = some (.int .i64 0) := (hB.cell (by simp)).trans (by simp)
    have hz2 : wc.frozen? ⟨w.heap.size + 1, 0, none⟩ = false := (hB.frozen (by simp)).trans (by simp)
    have hz3 : wc.frozen? ⟨w.heap.size + 1, 1, none⟩ = false := (hB.frozen (by simp)).trans (by simp)
    have hz4 : wc.frozen? ⟨w.heap.size + 1, 2, none⟩ = false := (hB.frozen (by simp)).trans (by simp)
    have hz5 : wc.frozen? ⟨w.heap.size + 1, 3, none⟩ = false := (hB.frozen (by simp)).trans (by simp)
    have HB := Lib.hid hB
    have x1 : ((q : Int) == 0) = false := by simp; omega
    clear hB
    go_wp2_with fail
    go_loopw [10, 30] (fun _ i wr => ∃ k : Nat, k ≤ m ∧ i = .int .i64 k ∧ (∀ p ∈ ps.take k, OkP q n p) ∧ Below wc.heap.size wc wr) (fun _ i _ => m - (intOf i).toNat)
    case atStart => exact ⟨0, by omega, rfl, by simp, Below.refl _ _⟩
    case round =>
      obtain ⟨k, hk, rfl, hall, hB⟩ := hrel
      have hcz : w.heap.size + 1 < wc.heap.size := by omega
      have k0 := (hB.cell (p := ⟨g, 0, none⟩) hg2).trans h0
      have k1 := (hB.cell (p := ⟨g, 1, none⟩) hg2).trans h1
      have k2 := (hB.cell (p := ⟨g, 2, none⟩) hg2).trans h2
      have k3 := (hB.cell (p := ⟨g, 3, none⟩) hg2).trans h3
      have HA := Lib.hid hall
      have HBB := Lib.hid hB
      clear hall hB h0 h1 h2 h3
      replace hb2 := (HBB.out.cell (p := ⟨w.heap.size + 1, 0, none⟩) hcz).trans hb2
      replace hb3 := (HBB.out.cell (p := ⟨w.heap.size + 1, 1, none⟩) hcz).trans hb3
      replace hb4 := (HBB.out.cell (p := ⟨w.heap.size + 1, 2, none⟩) hcz).trans hb4
      replace hb5 := (HBB.out.cell (p := ⟨w.heap.size + 1, 3, none⟩) hcz).trans hb5
      replace hz2 := (HBB.out.frozen (p := ⟨w.heap.size + 1, 0, none⟩) hcz).trans hz2
      replace hz3 := (HBB.out.frozen (p := ⟨w.heap.size + 1, 1, none⟩) hcz).trans hz3
      replace hz4 := (HBB.out.frozen (p := ⟨w.heap.size + 1, 2, none⟩) hcz).trans hz4
      replace hz5 := (HBB.out.frozen (p := ⟨w.heap.size + 1, 3, none⟩) hcz).trans hz5
      have HBW := Lib.hid ((below_two _ _ HB.out).trans (HBB.out.mono (by omega)) : Below w.heap.size w wr)
      by_cases hlt : k < m
      · obtain ⟨p, hp⟩ : ∃ p, ps[k]? = some p := ⟨_, List.getElem?_eq_getElem (by rw [HM.out]; exact hlt)⟩
        obtain ⟨b, off, A', c', rfl, g1, g2, g3⟩ := HR.out.below HBW.out k p hp
        have HC := Lib.hid (cont_ok P M q n A' _ c' p wr hf.q_le hn rfl g3 g2)
        have HP := Lib.hid hp
        clear g2 hp
        generalize p.length = pl at *
        go_wp2_with fail
        refine HC.out.mono ?_
        rintro e w1 ⟨hB1, hC⟩
        have hlw : w.heap.size + 1 < wr.heap.size := by have := HBB.out.size; omega
        rcases hC with ⟨hok, rfl⟩ | ⟨hok, rfl⟩
        · have HOK := Lib.hid hok
          have HB1 := Lib.hid (HBB.out.trans (hB1.mono HBB.out.size))
          clear hok hB1 k0 k1 k2 k3 hb2 hb3 hb4 hb5 hz2 hz3 hz4 hz5 g1
          go_wp2_with fail
          go_roundw
          case rel => exact ⟨k + 1, by omega, by go_num, fun x hx => by
            rw [List.take_add_one, HP.out] at hx
            simp at hx
            rcases hx with hx | rfl
            · exact HA.out x hx
            · exact HOK.out, HB1.out⟩
          case measure => simp [intOf]; omega
        · have HNO := Lib.hid (fun h : (∀ p ∈ ps, OkP q n p) => hok (h p (List.mem_of_getElem? HP.out)))
          have HB1 := Lib.hid (HBW.out.trans (hB1.mono HBW.out.size))
          replace hb2 := (hB1.cell (p := ⟨w.heap.size + 1, 0, none⟩) hlw).trans hb2
          replace hb3 := (hB1.cell (p := ⟨w.heap.size + 1, 1, none⟩) hlw).trans hb3
          replace hb4 := (hB1.cell (p := ⟨w.heap.size + 1, 2, none⟩) hlw).trans hb4
          replace hb5 := (hB1.cell (p := ⟨w.heap.size + 1, 3, none⟩) hlw).trans hb5
          replace hz2 := (hB1.frozen (p := ⟨w.heap.size + 1, 0, none⟩) hlw).trans hz2
          replace hz3 := (hB1.frozen (p := ⟨w.heap.size + 1, 1, none⟩) hlw).trans hz3
          replace hz4 := (hB1.frozen (p := ⟨w.heap.size + 1, 2, none⟩) hlw).trans hz4
          replace hz5 := (hB1.frozen (p := ⟨w.heap.size + 1, 3, none⟩) hlw).trans hz5
          clear hok hB1 k0 k1 k2 k3 g1
          go_wp2_with fail
          have hc := set4_at (w := w1) (.int .i64 0) (.int .i64 0) (.int .i64 0) (.int .i64 0) hb2 hb3 hb4 hb5
          have hbel : Below w.heap.size w (set4 w1 (w.heap.size + 1) (.int .i64 0) (.int .i64 0) (.int .i64 0) (.int .i64 0)) := set4_below (HB1.out) (by omega) _ _ _ _
          unfold set4 at hc hbel
          generalize hW : ((((w1.setCell _ _).setCell _ _).setCell _ _).setCell _ _) = W at hc hbel ⊢
          obtain ⟨c0, c1, c2, c3⟩ := hc
          clear hW
          exact bodyPost_ret (v := .tuple #[.agg #[.int .i64 0, .int .i64 0, .int .i64 0, .int .i64 0], .int .i64 1]) (by simp [results, Tryd.results33, go_sem, c0, c1, c2, c3]) rfl ⟨hbel, .inr ⟨HNO.out, rfl⟩⟩
      · have hkm : k = ps.length := by rw [HM.out]; omega
        have HALL := Lib.hid (fun p (hp : p ∈ ps) => HA.out p (by rw [hkm, List.take_of_length_le (Nat.le_refl _)]; exact hp))
        clear hkm
        go_wp2_with fail
        have hc := set4_at (w := wr) (.int .i64 (P : Int)) (.int .i64 (M : Int)) (.int .i64 (q : Int)) (.int .i64 (n : Int)) hb2 hb3 hb4 hb5
        have hbel : Below w.heap.size w (set4 wr (w.heap.size + 1) (.int .i64 (P : Int)) (.int .i64 (M : Int)) (.int .i64 (q : Int)) (.int .i64 (n : Int))) := set4_below (HBW.out) (by omega) _ _ _ _
        unfold set4 at hc hbel
        generalize hW : ((((wr.setCell _ _).setCell _ _).setCell _ _).setCell _ _) = W at hc hbel ⊢
        obtain ⟨c0, c1, c2, c3⟩ := hc
        clear hW
        exact bodyPost_ret (v := .tuple #[.agg #[.int .i64 (P : Int), .int .i64 (M : Int), .int .i64 (q : Int), .int .i64 (n : Int)], .int .i64 0]) (by simp [results, Tryd.results33, go_sem, c0, c1, c2, c3]) rfl ⟨hbel, .inl ⟨HALL.out, rfl⟩⟩
end Go.Proofs.YtiiopdomlepkmaaDoor
