/-
  Contracts of Degree of the specification of layer 4, and of the law's helper number.
-/
import Derived.Test.YtiiopdomlepkmaaDoorPqt
namespace Go.Proofs.YtiiopdomlepkmaaDoor
set_option linter.unusedVariables false
open Go.RowKit Go.Maps

set_option maxHeartbeats 1000000 in
theorem number_bad (w : World) :
    Calls Tryd.prog 15 #[.int .i64 0, .int .i64 1, .int .i64 0, .int .i64 1] w fun e w' => e = .returned (.bool true) ∧ w = w' := by
  go_enter Tryd.func15, Tryd.ntmps15
  go_wp2
  go_ret
  exact ⟨rfl, rfl⟩
set_option maxHeartbeats 1000000 in
theorem number_ok (d : Int) (w : World) :
    Calls Tryd.prog 15 #[.int .i64 d, .int .i64 0, .int .i64 d, .int .i64 0] w fun e w' => e = .returned (.bool true) ∧ w = w' := by
  have hd : (d == d) = true := by simp
  go_enter Tryd.func15, Tryd.ntmps15
  go_wp2
  go_ret
  exact ⟨ret_bool (by simp), rfl⟩

set_option maxHeartbeats 4000000 in
theorem degreeR_ok (n : Nat) (hn : n ≤ 80) (VA : Option Addr) (VC : Nat) (p : List Tm) (w : World) (hr : RdP w VA (tms p)) (hx : ∀ t ∈ p, Ex n t.2) (hlen : p.length ≤ 20000) :
    Calls Tryd.prog 17 #[.slice VA p.length VC] w fun e w' => e = .returned (.int .i64 (degP p)) ∧ Below w.heap.size w w' := by
  have HR := Lib.hid hr
  have HX := Lib.hid hx
  have HDB := Lib.hid (degP_bound hx hn)
  clear hx hr
  go_enter Tryd.func17, Tryd.ntmps17
  go_wp2_with fail
  go_loopw [3, 4, 5, 6] (fun d i _ _ W => ∃ k : Nat, k ≤ p.length ∧ i = .int .i64 k ∧ d = .int .i64 (degP (p.take k)) ∧ Below w.heap.size w W) (fun _ i _ _ _ => p.length - (intOf i).toNat)
  case atStart => exact ⟨0, by omega, rfl, by simp [degP, degL], Below.refl _ _⟩
  case round =>
    obtain ⟨k, hk, rfl, rfl, hBw⟩ := hrel
    have HBW := Lib.hid hBw
    have hdb := HDB.out k
    by_cases hlt : k < p.length
    · obtain ⟨t, ht⟩ : ∃ t, p[k]? = some t := ⟨_, List.getElem?_eq_getElem hlt⟩
      obtain ⟨b, off, u, rfl, g1, g2, g3⟩ := HR.out k ((t.1 : Int), nz t.2) (by simp [ht])
      have htx := HX.out t (List.mem_of_getElem? ht)
      obtain ⟨EA, ec, rfl, hri, _⟩ := g3
      rw [nz_length, htx.1] at g2
      have HG2 := Lib.hid g2
      have HRI := Lib.hid hri
      have HTX := Lib.hid htx
      have HDS : Hid (degP (p.take (k + 1)) = max (degP (p.take k)) (t.2.sum : Nat)) := Lib.hid (by
        rw [show p.take (k + 1) = p.take k ++ [t] by rw [List.take_add_one, ht]; rfl]
        exact degL_snoc _ _ _)
      have hdb2 := HDB.out (k + 1)
      rw [HDS.out] at hdb2
      generalize degP (p.take k) = dk at *
      clear g1 g2 hri htx ht hBw
      obtain ⟨wo, rfl⟩ : ∃ wo : World, wo = wr := ⟨_, rfl⟩
      go_wp2_with fail
      go_loopw [5, 6] (fun sv jv W => ∃ j : Nat, j ≤ n ∧ jv = .int .i64 j ∧ sv = .int .i64 ((t.2.take j).sum : Nat) ∧ Below w.heap.size w W) (fun _ jv _ => n - (intOf jv).toNat)
      case atStart => exact ⟨0, by omega, rfl, by simp, HBW.out⟩
      case round =>
        clear HBW
        obtain ⟨j, hj, rfl, rfl, hBw⟩ := hrel
        have HBX := Lib.hid hBw
        have k2 := (hBw.cell (World.block_lt_of_cell? w _ HG2.out)).trans HG2.out
        have hsl := sum_take_le HTX.out j
        by_cases hjn : j < n
        · obtain ⟨x, hx⟩ : ∃ x, t.2[j]? = some x := ⟨_, List.getElem?_eq_getElem (by rw [HTX.out.1]; exact hjn)⟩
          obtain ⟨a, rfl, g3⟩ := HRI.out j _ (nz_at hx)
          have k3 := (hBw.cell (World.block_lt_of_cell? w _ g3)).trans g3
          have HSX := Lib.hid (sum_take_succ hx)
          have hx65 := HTX.out.2 x (List.mem_of_getElem? hx)
          generalize (t.2.take j).sum = sj at *
          clear g3 hx hBw
          go_wp2_with fail
          go_roundw
          case rel => exact ⟨j + 1, by omega, by go_num, by rw [HSX.out]; go_num, HBX.out⟩
          case measure => simp [intOf]; omega
        · have hjj : j = n := by omega
          rw [hjj, List.take_of_length_le (Nat.le_of_eq HTX.out.1)] at hsl ⊢
          generalize t.2.sum = sj at *
          clear hBw hjj
          go_wp2_with fail
          go_roundw
          case rel => exact ⟨k + 1, by omega, by go_num, by rw [HDS.out], HBX.out⟩
          case measure => simp [intOf]; omega
    · have hkl : k = p.length := by omega
      rw [hkl, List.take_of_length_le (Nat.le_refl _)] at hdb ⊢
      clear hBw hkl
      go_wp2_with fail
      go_ret
      exact ⟨rfl, HBW.out⟩
end Go.Proofs.YtiiopdomlepkmaaDoor
