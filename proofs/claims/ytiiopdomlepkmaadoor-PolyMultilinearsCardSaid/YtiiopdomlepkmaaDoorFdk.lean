/-
  Contract of Of of the reference: the kit of a valid field.
-/
import Derived.Test.YtiiopdomlepkmaaDoorFdj
import Derived.Deep.RegionHeld3
import Derived.Deep.DeepCutAuto
namespace Go.Proofs.YtiiopdomlepkmaaDoor
open Go.RowKit

/-- The kit of a valid field, as a value. -/
def modOf (M : Nat) : Nat := if M = 1 then 0 else modN M
def kitV (P M q : Nat) : Value := .agg #[.int .i64 (P : Int), .int .i64 (M : Int), .int .i64 (q : Int), .int .i64 (modOf M : Int)]

theorem cell_a3 (w : World) (o b c : Obj) (i : Nat) : (((w.alloc o).alloc b).alloc c).cell? ⟨w.heap.size, i, none⟩ = (w.alloc o).cell? ⟨w.heap.size, i, none⟩ := by
  rw [World.cell?_alloc_lt _ _ _ (by simp; omega), World.cell?_alloc_lt _ _ _ (by simp)]
theorem cell_a3n (w : World) (o b : Obj) (cs : Array Value) (t : TypeId) (i : Nat) : (((w.alloc o).alloc b).alloc (.cells cs t)).cell? ⟨w.heap.size + 2, i, none⟩ = cs[i]? := by
  have := World.cell?_alloc_new ((w.alloc o).alloc b) cs t i
  simpa using this
theorem froz_a3n (w : World) (o b : Obj) (cs : Array Value) (t : TypeId) (i : Nat) : (((w.alloc o).alloc b).alloc (.cells cs t)).frozen? ⟨w.heap.size + 2, i, none⟩ = false := by
  have := World.frozen?_alloc_new ((w.alloc o).alloc b) cs t i
  simpa using this
theorem cell_set4 {w : World} {b g i : Nat} {x : Option Value} (v0 v1 v2 v3 : Value) (h : w.cell? ⟨b, i, none⟩ = x) (hne : b ≠ g) :
    ((((w.setCell ⟨g, 0, none⟩ v0).setCell ⟨g, 1, none⟩ v1).setCell ⟨g, 2, none⟩ v2).setCell ⟨g, 3, none⟩ v3).cell? ⟨b, i, none⟩ = x := by
  have hn : ∀ j, (⟨g, j, none⟩ : Addr) ≠ ⟨b, i, none⟩ := fun j e => hne (by cases e; rfl)
  rw [World.cell?_setCell_other _ _ _ _ (hn 3), World.cell?_setCell_other _ _ _ _ (hn 2), World.cell?_setCell_other _ _ _ _ (hn 1), World.cell?_setCell_other _ _ _ _ (hn 0)]
  exact h

def set4 (w : World) (g : Nat) (v0 v1 v2 v3 : Value) : World := (((w.setCell ⟨g, 0, none⟩ v0).setCell ⟨g, 1, none⟩ v1).setCell ⟨g, 2, none⟩ v2).setCell ⟨g, 3, none⟩ v3
theorem set4_at {w : World} {g : Nat} (v0 v1 v2 v3 : Value) {u0 u1 u2 u3 : Value} (h0 : w.cell? ⟨g, 0, none⟩ = some u0) (h1 : w.cell? ⟨g, 1, none⟩ = some u1) (h2 : w.cell? ⟨g, 2, none⟩ = some u2) (h3 : w.cell? ⟨g, 3, none⟩ = some u3) :
    (set4 w g v0 v1 v2 v3).cell? ⟨g, 0, none⟩ = some v0 ∧ (set4 w g v0 v1 v2 v3).cell? ⟨g, 1, none⟩ = some v1 ∧ (set4 w g v0 v1 v2 v3).cell? ⟨g, 2, none⟩ = some v2 ∧ (set4 w g v0 v1 v2 v3).cell? ⟨g, 3, none⟩ = some v3 := by
  have hn : ∀ i j, i ≠ j → (⟨g, i, none⟩ : Addr) ≠ ⟨g, j, none⟩ := fun i j hij e => hij (by cases e; rfl)
  unfold set4
  refine ⟨?_, ?_, ?_, ?_⟩
  · rw [World.cell?_setCell_other _ _ _ _ (hn 3 0 (by omega)), World.cell?_setCell_other _ _ _ _ (hn 2 0 (by omega)), World.cell?_setCell_other _ _ _ _ (hn 1 0 (by omega))]
    exact World.cell?_setCell_same _ _ _ h0
  · rw [World.cell?_setCell_other _ _ _ _ (hn 3 1 (by omega)), World.cell?_setCell_other _ _ _ _ (hn 2 1 (by omega))]
    exact World.cell?_setCell_same (u := u1) _ _ _ (by rw [World.cell?_setCell_other _ _ _ _ (hn 0 1 (by omega))]; exact h1)
  · rw [World.cell?_setCell_other _ _ _ _ (hn 3 2 (by omega))]
    exact World.cell?_setCell_same (u := u2) _ _ _ (by rw [World.cell?_setCell_other _ _ _ _ (hn 1 2 (by omega)), World.cell?_setCell_other _ _ _ _ (hn 0 2 (by omega))]; exact h2)
  · exact World.cell?_setCell_same (u := u3) _ _ _ (by rw [World.cell?_setCell_other _ _ _ _ (hn 2 3 (by omega)), World.cell?_setCell_other _ _ _ _ (hn 1 3 (by omega)), World.cell?_setCell_other _ _ _ _ (hn 0 3 (by omega))]; exact h3)
theorem set4_below {B : Nat} {a w : World} (h : Below B a w) {g : Nat} (hg : B ≤ g) (v0 v1 v2 v3 : Value) : Below B a (set4 w g v0 v1 v2 v3) :=
  (((h.setCell (p := ⟨g, 0, none⟩) hg v0).setCell (p := ⟨g, 1, none⟩) hg v1).setCell (p := ⟨g, 2, none⟩) hg v2).setCell (p := ⟨g, 3, none⟩) hg v3
theorem set4_frozen {w : World} {g : Nat} (v0 v1 v2 v3 : Value) (p : Addr) : (set4 w g v0 v1 v2 v3).frozen? p = w.frozen? p := by simp [set4]
theorem below_undrew {B : Nat} {W w1 : World} (h : Below B W.drew w1) : Below B W w1 := ⟨h.os, h.tape, h.output, h.size, h.block⟩

set_option maxRecDepth 100000 in
set_option maxHeartbeats 1000000 in
theorem of_any (P M q : Nat) (hf : Fld P M q) (w : World) :
    Calls Tryd.prog 21 #[.agg #[.int .i64 P, .int .i64 M]] w fun e w' => e = .returned (kitV P M q) ∧ Below w.heap.size w w' := by
  have HO := Lib.hid (fun w => ordR_ok P M q hf w)
  go_enter Tryd.func21, Tryd.ntmps21
  go_upto_region 1 with fail
  go_cut [3] (fun s3 wx => ∃ g : Nat, s3 = .pointer (some ⟨g, 0, none⟩) ∧ w.heap.size + 1 < g ∧ g < wx.heap.size ∧ Below (w.heap.size + 2) ((w.alloc (.cells #[.int .i64 (P : Int), .int .i64 (M : Int)] 23)).alloc (.cells #[.int .i64 0, .int .i64 0, .int .i64 0, .int .i64 0] 42)) wx ∧
    wx.cell? ⟨g, 0, none⟩ = some (.int .i64 P) ∧ wx.cell? ⟨g, 1, none⟩ = some (.int .i64 M) ∧ wx.cell? ⟨g, 2, none⟩ = some (.int .i64 q) ∧ wx.cell? ⟨g, 3, none⟩ = some (.int .i64 0) ∧ (∀ i, wx.frozen? ⟨g, i, none⟩ = false))
  case first =>
    go_region_held3 (fun w' => w'.cell? ⟨w.heap.size, 0, none⟩ = some (.int .i64 (P : Int)) ∧ w'.cell? ⟨w.heap.size, 1, none⟩ = some (.int .i64 (M : Int))) (first | go_keep | exact ⟨cell_set4 _ _ _ _ hc0 (by omega), cell_set4 _ _ _ _ hc1 (by omega)⟩)
      ((go_at_call 30; refine (HO.out _).mono ?_; rintro e w1 ⟨rfl, hB⟩; have hc0 := hB.cell (p := ⟨w.heap.size, 0, none⟩) (by simp; omega); have hc1 := hB.cell (p := ⟨w.heap.size, 1, none⟩) (by simp; omega); simp [cell_a3] at hc0 hc1; have k0 := @Below.cell _ _ _ hB ⟨w.heap.size + 2, 0, none⟩; try simp [cell_a3n] at k0; have k1 := @Below.cell _ _ _ hB ⟨w.heap.size + 2, 1, none⟩; try simp [cell_a3n] at k1; have k2 := @Below.cell _ _ _ hB ⟨w.heap.size + 2, 2, none⟩; try simp [cell_a3n] at k2; have k3 := @Below.cell _ _ _ hB ⟨w.heap.size + 2, 3, none⟩; try simp [cell_a3n] at k3; have f0 := @Below.frozen _ _ _ hB ⟨w.heap.size + 2, 0, none⟩; try simp [froz_a3n] at f0; have f1 := @Below.frozen _ _ _ hB ⟨w.heap.size + 2, 1, none⟩; try simp [froz_a3n] at f1; have f2 := @Below.frozen _ _ _ hB ⟨w.heap.size + 2, 2, none⟩; try simp [froz_a3n] at f2; have f3 := @Below.frozen _ _ _ hB ⟨w.heap.size + 2, 3, none⟩; try simp [froz_a3n] at f3))
    · go_wp2_with fail
      go_meet
      have hsz := hB.size
      simp at hsz
      refine ⟨w1.heap.size, rfl, by omega, by simp, ((below_undrew hB).mono (by simp)).alloc (by omega) _, by simp, by simp, by simp, by simp, by simp⟩
    · go_wp2_with fail
      go_meet
      have hsz := hB.size
      simp at hsz
      have hc := set4_at (.int .i64 (P : Int)) (.int .i64 (M : Int)) (.int .i64 (q : Int)) (.int .i64 0) k0 k1 k2 k3
      refine ⟨w.heap.size + 2, rfl, by omega, ?_, ?_, hc.1, hc.2.1, hc.2.2.1, hc.2.2.2, fun i => ?_⟩
      · show w.heap.size + 2 < (set4 w1 _ _ _ _ _).heap.size
        simp [set4]; omega
      · refine set4_below ?_ (Nat.le_refl _) _ _ _ _
        first | exact ((Below.refl _ _).drew.alloc (by simp) _).trans (hB.mono (by simp)) | exact ((Below.refl _ _).alloc (by simp) _).drew.trans (hB.mono (by simp))
      · refine (set4_frozen _ _ _ _ _).trans ((hB.frozen (by simp)).trans (froz_a3n _ _ _ _ _ _))
  case rest =>
    obtain ⟨g, rfl, hg, hg2, hB, h0, h1, h2, h3, hfz⟩ := hcut
    have hf0 := hfz 3
    have hb0 : wc.cell? ⟨w.heap.size, 1, none⟩ = some (.int .i64 (M : Int)) := (hB.cell (by simp)).trans (by simp)
    have hb2 : wc.cell? ⟨w.heap.size + 1, 0, none⟩ = some (.int .i64 0) := (hB.cell (by simp)).trans (by simp)
    have hb3 : wc.cell? ⟨w.heap.size + 1, 1, none⟩ = some (.int .i64 0) := (hB.cell (by simp)).trans (by simp)
    have hb4 : wc.cell? ⟨w.heap.size + 1, 2, none⟩ = some (.int .i64 0) := (hB.cell (by simp)).trans (by simp)
    have hb5 : wc.cell? ⟨w.heap.size + 1, 3, none⟩ = some (.int .i64 0) := (hB.cell (by simp)).trans (by simp)
    have hz2 : wc.frozen? ⟨w.heap.size + 1, 0, none⟩ = false := (hB.frozen (by simp)).trans (by simp)
    have hz3 : wc.frozen? ⟨w.heap.size + 1, 1, none⟩ = false := (hB.frozen (by simp)).trans (by simp)
    have hz4 : wc.frozen? ⟨w.heap.size + 1, 2, none⟩ = false := (hB.frozen (by simp)).trans (by simp)
    have hz5 : wc.frozen? ⟨w.heap.size + 1, 3, none⟩ = false := (hB.frozen (by simp)).trans (by simp)
    have HFZ := Lib.hid hfz
    have HB := Lib.hid hB
    clear hB hfz
    have hM1 : 1 ≤ M := by rcases hf with ⟨h, _⟩ | ⟨_, h, _⟩ <;> omega
    by_cases hM : 1 < M
    · have HM := Lib.hid (modR_any M hM hf.m_le)
      have hmo : modOf M = modN M := if_neg (by omega)
      have HMO := Lib.hid hmo
      clear hmo
      go_wp2_with fail
      refine (HM.out _).mono ?_
      rintro e w1 ⟨rfl, rfl⟩
      go_wp2_with fail
      have hn : ∀ i, (⟨g, 3, none⟩ : Addr) ≠ ⟨w.heap.size + 1, i, none⟩ := fun i e => by cases e; omega
      have hc := set4_at (w := wc.setCell ⟨g, 3, none⟩ (.int .i64 (modN M : Nat))) (.int .i64 (P : Int)) (.int .i64 (M : Int)) (.int .i64 (q : Int)) (.int .i64 (modN M : Nat))
        ((World.cell?_setCell_other _ _ _ _ (hn 0)).trans hb2) ((World.cell?_setCell_other _ _ _ _ (hn 1)).trans hb3) ((World.cell?_setCell_other _ _ _ _ (hn 2)).trans hb4) ((World.cell?_setCell_other _ _ _ _ (hn 3)).trans hb5)
      have hbel : Below w.heap.size w (set4 (wc.setCell ⟨g, 3, none⟩ (.int .i64 (modN M : Nat))) (w.heap.size + 1) (.int .i64 (P : Int)) (.int .i64 (M : Int)) (.int .i64 (q : Int)) (.int .i64 (modN M : Nat))) :=
        set4_below (((below2 w _ _).trans (HB.out.mono (by omega))).setCell (by show w.heap.size ≤ g; omega) _) (by omega) _ _ _ _
      unfold set4 at hc hbel
      generalize hW : (((((wc.setCell _ _).setCell _ _).setCell _ _).setCell _ _).setCell _ _) = W at hc hbel ⊢
      obtain ⟨c0, c1, c2, c3⟩ := hc
      clear hW
      exact bodyPost_ret (v := .agg #[.int .i64 (P : Int), .int .i64 (M : Int), .int .i64 (q : Int), .int .i64 (modN M : Nat)]) (by simp [results, Tryd.results21, go_sem, c0, c1, c2, c3]) rfl ⟨by rw [kitV, HMO.out], hbel⟩
    · have hmo : modOf M = 0 := if_pos (by omega)
      have HMO := Lib.hid hmo
      clear hmo
      go_wp2_with fail
      have hc := set4_at (w := wc) (.int .i64 (P : Int)) (.int .i64 (M : Int)) (.int .i64 (q : Int)) (.int .i64 0) hb2 hb3 hb4 hb5
      have hbel : Below w.heap.size w (set4 wc (w.heap.size + 1) (.int .i64 (P : Int)) (.int .i64 (M : Int)) (.int .i64 (q : Int)) (.int .i64 0)) :=
        set4_below ((below2 w _ _).trans (HB.out.mono (by omega))) (by omega) _ _ _ _
      unfold set4 at hc hbel
      generalize hW : ((((wc.setCell _ _).setCell _ _).setCell _ _).setCell _ _) = W at hc hbel ⊢
      obtain ⟨c0, c1, c2, c3⟩ := hc
      clear hW
      exact bodyPost_ret (v := .agg #[.int .i64 (P : Int), .int .i64 (M : Int), .int .i64 (q : Int), .int .i64 0]) (by simp [results, Tryd.results21, go_sem, c0, c1, c2, c3]) rfl ⟨by rw [kitV, HMO.out]; rfl, hbel⟩
end Go.Proofs.YtiiopdomlepkmaaDoor
