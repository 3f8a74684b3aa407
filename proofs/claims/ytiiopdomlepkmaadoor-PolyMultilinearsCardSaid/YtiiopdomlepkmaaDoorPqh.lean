/-
  Contracts of settle, exponentsOf of package poly.
-/
import Derived.Test.YtiiopdomlepkmaaDoorPqg
import Derived.Deep.RegionLaw
import Derived.Deep.AppendLies
namespace Go.Proofs.YtiiopdomlepkmaaDoor
set_option linter.unusedVariables false
open Go.RowKit Go.Maps Go.Sort Go.Shelf

set_option maxHeartbeats 1000000 in
theorem isZero_ok (key : Value) (a : Int) (w : World) :
    Calls Tryd.prog 80 #[key, .int .i64 a] w fun e w' => e = .returned (.bool (decide (a = 0))) ∧ w = w' := by
  by_cases h : a = 0
  · subst h
    go_enter Tryd.func80, Tryd.ntmps80
    go_wp2
    go_ret
    exact ⟨rfl, rfl⟩
  · have h1 : ((a : Int) == 0) = false := by simpa using h
    go_enter Tryd.func80, Tryd.ntmps80
    go_wp2
    go_ret
    exact ⟨ret_bool (decide_eq_false h).symm, rfl⟩

set_option maxHeartbeats 1000000 in
theorem sweep_ok (b n : Nat) (D : DataW Unit) (w : World) (hown : w.ownsMap Tryd.prog 9 (plainElem Tryd.prog 3) b n D) :
    Calls Tryd.prog 79 #[.map (some b), .func (.func 80) #[] #[]] w fun e w' => e = .returned (.tuple #[]) ∧ w'.ownsMap Tryd.prog 9 (plainElem Tryd.prog 3) b n (Lib.deleteFuncD pdZ D) ∧ w.grownBy w' (some b) :=
  AnyDf.maps_DeleteFunc Tryd.delF str_keyed (plainElem Tryd.prog 3) pdZ 80 #[] b n D w (enters_of Tryd.func80 (by kernel_rfl) rfl) hown
    (fun W key val kl yd yp hg hk hv => by
      obtain ⟨a, rfl, hz, _⟩ := plainElem_int_inv Tryd.underlying3 hv
      refine (isZero_ok key a W).mono ?_
      rintro e w' ⟨rfl, rfl⟩
      simp only [Prod.mk.injEq] at hz
      rw [hz.1]
      exact ⟨rfl, ⟨rfl, rfl, rfl, Nat.le_refl _, fun _ _ _ => rfl⟩⟩)

set_option maxHeartbeats 1000000 in
theorem settle_ok (B sb mb kb P M q n cnt : Nat) (D : DataW Unit) (w : World) (hS : SumAt B sb mb kb P M q n cnt D w) (hc : cnt ≤ 4611686018427387904) :
    Calls Tryd.prog 58 #[.pointer (some ⟨sb, 0, none⟩)] w fun e w' => e = .returned (.bool (decide (Maps.size (Lib.deleteFuncD pdZ D) ≤ 20000))) ∧ SumAt B sb mb kb P M q n cnt (Lib.deleteFuncD pdZ D) w' ∧ Only (fun g => g = mb) w w' := by
  have hd4 := hS.cells.1
  have HSW := Lib.hid (sweep_ok mb cnt D w hS.map)
  have HS := Lib.hid hS
  clear hS
  go_enter Tryd.func58, Tryd.ntmps58
  go_wp2_with fail
  refine HSW.out.mono ?_
  rintro e w1 ⟨rfl, hm, hg⟩
  have hd5 := (World.cell?_of_block (a := ⟨sb, 4, none⟩) (hg.block _ HS.out.lts.1 (fun x => HS.out.sbm (Option.some.inj x)))).trans hd4
  have hlen := hm.len Tryd.underlying90 3
  have hS1 : SumAt B sb mb kb P M q n cnt (Lib.deleteFuncD pdZ D) w1 := by
    obtain ⟨bs, h1, h2⟩ := HS.out.key
    exact ⟨(hg.block _ HS.out.lts.1 (fun x => HS.out.sbm (Option.some.inj x))).trans HS.out.rcd, ⟨bs, h1, (hg.block _ HS.out.lts.2.2 (fun x => HS.out.mbk (Option.some.inj x).symm)).trans h2⟩, hm, HS.out.ls, HS.out.lm, HS.out.lk⟩
  have HS1 := Lib.hid hS1
  have HO : Hid (Only (fun g => g = mb) w w1) := Lib.hid ((Only.refl _ w).grown hg fun k e _ => (Option.some.inj e).symm)
  have hsz := hm.size_le
  clear hS1 hg hd4 hm
  generalize hE : Maps.size (Lib.deleteFuncD pdZ D) = sz at hsz hlen
  have HE := Lib.hid hE
  clear hE
  by_cases hz : sz ≤ 20000
  · have hzd : decide (sz ≤ 20000) = true := decide_eq_true hz
    go_wp2_with fail
    go_ret
    exact ⟨ret_bool (by rw [HE.out, hzd]; simp; omega), HS1.out, HO.out⟩
  · have hzd : decide (sz ≤ 20000) = false := decide_eq_false hz
    have hzd2 : decide ((sz : Int) ≤ 20000) = false := by simp; omega
    go_wp2_with fail
    go_ret
    exact ⟨ret_bool (by rw [HE.out, hzd]), HS1.out, HO.out⟩
end Go.Proofs.YtiiopdomlepkmaaDoor
