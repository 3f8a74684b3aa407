/-
  Contracts of the law's helpers add, mul and element.
-/
import Derived.Test.YtfkeemhbehhclaaDoorFdr
import Derived.Test.YtfkeemhbehhclaaDoorFdx
import Derived.Deep.RegionHeld3
import Derived.Deep.DeepCutAuto
namespace Go.Proofs.YtfkeemhbehhclaaDoor
open Go.RowKit

theorem lawAdd (P M q : Nat) (hf : Fld P M q) (a b : Nat) (ha : a < q) (hb : b < q) (w : World) (hL : Lays w) :
    Calls Tryd.prog 35 #[.agg #[.int .i64 (P : Int), .int .i64 (M : Int)], .int .i64 a, .int .i64 b] w fun e w' => e = .returned (.int .i64 (addN P M a b : Nat)) ∧ Below w.heap.size w w' := by
  have H := Lib.hid (fun o => Add_ok P M q hf a b ha hb _ (hL.below (below1 w o)))
  clear hL hf
  go_enter Tryd.func35, Tryd.ntmps35
  go_wp2_with fail
  refine (H.out _).mono ?_
  rintro e w1 ⟨rfl, hB⟩
  have HB := Lib.hid ((below1 w _).trans (hB.mono (below1 w _).size))
  clear hB
  unfold Ret2
  go_wp2_with fail
  go_ret
  exact ⟨rfl, HB.out⟩
theorem lawMul (P M q : Nat) (hf : Fld P M q) (a b : Nat) (ha : a < q) (hb : b < q) (w : World) (hL : Lays w) :
    Calls Tryd.prog 36 #[.agg #[.int .i64 (P : Int), .int .i64 (M : Int)], .int .i64 a, .int .i64 b] w fun e w' => e = .returned (.int .i64 (mulN P M a b : Nat)) ∧ Below w.heap.size w w' := by
  have H := Lib.hid (fun o => Mul_ok P M q hf a b ha hb _ (hL.below (below1 w o)))
  clear hL hf
  go_enter Tryd.func36, Tryd.ntmps36
  go_wp2_with fail
  refine (H.out _).mono ?_
  rintro e w1 ⟨rfl, hB⟩
  have HB := Lib.hid ((below1 w _).trans (hB.mono (below1 w _).size))
  clear hB
  unfold Ret2
  go_wp2_with fail
  go_ret
  exact ⟨rfl, HB.out⟩

theorem elem_form (P M : Int) (h : ¬ OkF P M) (v : Value) (w : World) (hL : Lays w) :
    Calls Tryd.prog 34 #[.agg #[.int .i64 P, .int .i64 M], v] w fun e w' => e = .returned (.bool false) ∧ Below w.heap.size w w' := by
  have H := Lib.hid (fun o => valid_no P M _ (hL.below (below1 w o)) h)
  clear hL h
  go_enter Tryd.func34, Tryd.ntmps34
  go_wp2_with fail
  refine (H.out _).mono ?_
  rintro e w1 ⟨rfl, hB⟩
  have HB := Lib.hid ((below1 w _).trans (hB.mono (below1 w _).size))
  clear hB
  go_wp2_with fail
  go_ret
  exact ⟨rfl, HB.out⟩

def Ste (w0 : World) (P M : Int) (A : Option Addr) (xs : List Int) (w : World) : Prop := Below w0.heap.size w0 w ∧ Lays w ∧ FAt w w0.heap.size P M ∧ RdI w A xs
theorem Ste.step {w0 w w1 : World} {P M : Int} {A : Option Addr} {xs : List Int} (h : Ste w0 P M A xs w) (hB : Below w.heap.size w w1) : Ste w0 P M A xs w1 :=
  ⟨h.1.trans (hB.mono h.1.size), h.2.1.below hB, h.2.2.1.below hB, h.2.2.2.below hB⟩
theorem Ste.lays {w0 w : World} {P M : Int} {A : Option Addr} {xs : List Int} (h : Ste w0 P M A xs w) : Lays w := h.2.1
theorem Ste.cells {w0 w : World} {P M : Int} {A : Option Addr} {xs : List Int} (h : Ste w0 P M A xs w) : w.cell? ⟨w0.heap.size, 0, none⟩ = some (.int .i64 P) ∧ w.cell? ⟨w0.heap.size, 1, none⟩ = some (.int .i64 M) := h.2.2.1
theorem Ste.elem {w0 w : World} {P M : Int} {a : Addr} {xs : List Int} (h : Ste w0 P M (some a) xs w) {k : Nat} {x : Int} (hx : Hid (xs[k]? = some x)) : w.cell? (a.add k) = some (.int .i64 x) := by
  obtain ⟨a', ha, hc⟩ := h.2.2.2 k x hx.out
  cases ha
  exact hc

def ElemIs (q : Nat) (xs : List Int) (w : World) (e : Ending) (w' : World) : Prop :=
  Below w.heap.size w w' ∧ ((∀ x ∈ xs, InQ q x) ∧ e = .returned (.bool true) ∨ (∃ x ∈ xs, ¬ InQ q x) ∧ e = .returned (.bool false))

theorem RdI.drew {w : World} {A : Option Addr} {xs : List Int} (h : RdI w A xs) : RdI w.drew A xs := h
theorem FAt.drew {w : World} {g : Nat} {P M : Int} (h : FAt w g P M) : FAt w.drew g P M := h
theorem Lays.drew {w : World} (h : Lays w) : Lays w.drew := h

set_option maxRecDepth 100000 in
set_option maxHeartbeats 1000000 in
theorem elem_any (P M q : Nat) (hf : Fld P M q) (A : Option Addr) (xs : List Int) (n c : Nat) (hn : xs.length = n) (hn2 : n ≤ 100) (w : World) (hL : Lays w) (hr : RdI w A xs) :
    Calls Tryd.prog 34 #[.agg #[.int .i64 (P : Int), .int .i64 (M : Int)], .slice A n c] w (ElemIs q xs w) := by
  have HB0 := Lib.hid (below1 w (.cells #[.int .i64 (P : Int), .int .i64 (M : Int)] 23))
  have HL0 := Lib.hid (hL.below HB0.out)
  have HF0 := Lib.hid (fAt_new w (P : Int) (M : Int))
  have HR0 := Lib.hid (hr.below HB0.out)
  have HFL := Lib.hid hf
  have hq := hf.q_le
  clear hL hr hf
  obtain ⟨c0, c1⟩ := HF0.out
  go_enter Tryd.func34, Tryd.ntmps34
  go_wp2_with fail
  refine (valid_yes P M _ HL0.out HFL.out.ok).mono ?_
  rintro e w1 ⟨rfl, hB⟩
  have HB1 := Lib.hid (HB0.out.trans (hB.mono HB0.out.size))
  have HL1 := Lib.hid (HL0.out.below hB)
  have HF1 := Lib.hid (HF0.out.below hB)
  have HR1 := Lib.hid (HR0.out.below hB)
  clear hB c0 c1
  go_wp2_with fail
  go_loopw [5] (fun i wr => ∃ k : Nat, k ≤ n ∧ i = .int .i64 k ∧ Hid (PreQ q xs k) ∧ Hid (Below w.heap.size w wr) ∧ Hid (Lays wr) ∧ Hid (FAt wr w.heap.size P M) ∧ Hid (RdI wr A xs)) (fun i _ => n - (intOf i).toNat)
  case atStart => exact ⟨0, by omega, rfl, fun j x hj => by omega, HB1, HL1, HF1, HR1⟩
  case round =>
    obtain ⟨k, hk, rfl, HP, HB, HL, HF, HR⟩ := hrel
    by_cases hlt : k < n
    · have hxk : xs[k]? = some (xs[k]'(by omega)) := List.getElem?_eq_getElem (by omega)
      obtain ⟨x, hx⟩ : ∃ x, x = xs[k]'(by omega) := ⟨_, rfl⟩
      rw [← hx] at hxk
      obtain ⟨a, rfl, hcell⟩ := HR.out k x hxk
      have HX := Lib.hid hxk
      obtain ⟨c0, c1⟩ := HF.out
      clear hx hxk
      have st : Ste w P M (some a) xs wr.drew := ⟨HB.out.drew, HL.out, HF.out, HR.out⟩
      have z0 := st.elem HX
      obtain ⟨z1, z2⟩ := st.cells
      clear hcell c0 c1
      by_cases h1 : x < 0
      · have hd : decide (x < 0) = true := decide_eq_true h1
        go_wp2_with fail
        go_region
        go_wp2_with fail
        go_ret
        exact ⟨st.1, .inr ⟨⟨x, List.mem_of_getElem? HX.out, fun h => by have := h.1; omega⟩, rfl⟩⟩
      · have hd : decide (x < 0) = false := decide_eq_false h1
        by_cases h2 : x < q
        · go_wp2_with fail
          go_region_held3 (fun w' => Ste w P M (some a) xs w' ∧ w'.cell? (a.add k) = some (.int .i64 x) ∧ w'.cell? ⟨w.heap.size, 0, none⟩ = some (.int .i64 (P : Int)) ∧ w'.cell? ⟨w.heap.size, 1, none⟩ = some (.int .i64 (M : Int)))
            (first | (refine ⟨?_, ?_, ?_, ?_⟩ <;> assumption))
            ((go_at_call 14; (with_reducible refine (Order_ok P M q HFL.out _ (Ste.lays (by assumption))).mono ?_); rintro e wx ⟨rfl, hBx⟩; have sx := Ste.step (by assumption) hBx; have y0 := sx.elem HX; obtain ⟨y1, y2⟩ := sx.cells; clear hBx))
          go_wp2_with fail
          go_roundw
          case rel => exact ⟨k + 1, by omega, by go_num, HP.out.succ HX.out ⟨by omega, h2⟩, sx.1, sx.2.1, sx.2.2.1, sx.2.2.2⟩
          case measure => simp [intOf]; omega
        · go_wp2_with fail
          go_region_held3 (fun w' => Ste w P M (some a) xs w' ∧ w'.cell? (a.add k) = some (.int .i64 x) ∧ w'.cell? ⟨w.heap.size, 0, none⟩ = some (.int .i64 (P : Int)) ∧ w'.cell? ⟨w.heap.size, 1, none⟩ = some (.int .i64 (M : Int)))
            (first | (refine ⟨?_, ?_, ?_, ?_⟩ <;> assumption))
            ((go_at_call 14; (with_reducible refine (Order_ok P M q HFL.out _ (Ste.lays (by assumption))).mono ?_); rintro e wx ⟨rfl, hBx⟩; have sx := Ste.step (by assumption) hBx; have y0 := sx.elem HX; obtain ⟨y1, y2⟩ := sx.cells; clear hBx))
          go_wp2_with fail
          go_ret
          exact ⟨sx.1, .inr ⟨⟨x, List.mem_of_getElem? HX.out, fun h => by have := h.2; omega⟩, rfl⟩⟩
    · have hkn : k = n := by omega
      subst hkn
      go_wp2_with fail
      go_ret
      have hpre := HP.out
      subst hn
      exact ⟨HB.out, .inl ⟨hpre.all, rfl⟩⟩
end Go.Proofs.YtfkeemhbehhclaaDoor
