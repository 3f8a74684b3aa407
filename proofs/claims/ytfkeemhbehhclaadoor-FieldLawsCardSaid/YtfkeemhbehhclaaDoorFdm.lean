/-
  Contracts of the methods Power and Inverse of the reference's kit.
-/
import Derived.Test.YtfkeemhbehhclaaDoorFdl
namespace Go.Proofs.YtfkeemhbehhclaaDoor
open Go.RowKit

def KitAt (w : World) (g P M q : Nat) : Prop :=
  w.cell? ⟨g, 0, none⟩ = some (.int .i64 (P : Int)) ∧ w.cell? ⟨g, 1, none⟩ = some (.int .i64 (M : Int)) ∧ w.cell? ⟨g, 2, none⟩ = some (.int .i64 (q : Int)) ∧ w.cell? ⟨g, 3, none⟩ = some (.int .i64 (modOf M : Int))
def kitBox (P M q : Nat) : Obj := .cells #[.int .i64 (P : Int), .int .i64 (M : Int), .int .i64 (q : Int), .int .i64 (modOf M : Int)] 34
theorem kitAt_new (w : World) (P M q : Nat) : KitAt (w.alloc (kitBox P M q)) w.heap.size P M q := by
  unfold KitAt kitBox
  exact ⟨by simp, by simp, by simp, by simp⟩
theorem KitAt.below {w w' : World} {g P M q B : Nat} (h : KitAt w g P M q) (hb : Below B w w') (hg : g < B) : KitAt w' g P M q :=
  ⟨(hb.cell (p := ⟨g, 0, none⟩) hg).trans h.1, (hb.cell (p := ⟨g, 1, none⟩) hg).trans h.2.1, (hb.cell (p := ⟨g, 2, none⟩) hg).trans h.2.2.1, (hb.cell (p := ⟨g, 3, none⟩) hg).trans h.2.2.2⟩

set_option maxHeartbeats 1000000 in
theorem kitPower (P M q a k : Nat) (hf : Fld P M q) (ha : a < q) (hk : k < 9223372036854775808) (w : World) :
    Calls Tryd.prog 29 #[kitV P M q, .int .i64 a, .int .i64 k] w fun e w' => e = .returned (.int .i64 (powN P M a k : Nat)) ∧ Below w.heap.size w w' := by
  have HMU := Lib.hid (fun x y (hx : x < q) (hy : y < q) w => kitMul P M q x y hf hx hy w)
  have HF := Lib.hid hf
  have hq2 := hf.q_ge
  have hq3 := hf.q_le
  have hka := kitAt_new w P M q
  have HB0 := Lib.hid (below1 w (kitBox P M q))
  unfold kitBox at hka HB0
  have HKA := Lib.hid hka
  unfold kitV at HMU ⊢
  clear hf hka
  go_enter Tryd.func29, Tryd.ntmps29
  go_wp2
  go_loopw [1, 2, 7] (fun u v p wr => ∃ x j z : Nat, x < q ∧ j < 9223372036854775808 ∧ z < q ∧ u = .int .i64 x ∧ v = .int .i64 j ∧ p = .int .i64 z ∧ Hid (pw (mulN P M) z x j = powN P M a k) ∧ Hid (Below w.heap.size w wr) ∧ Hid (KitAt wr w.heap.size P M q) ∧ w.heap.size < wr.heap.size) (fun _ v _ _ => (intOf v).toNat)
  case atStart => exact ⟨a, k, 1, ha, hk, by omega, rfl, rfl, rfl, rfl, HB0, HKA, by simp⟩
  case round =>
    obtain ⟨x, j, z, hx, hj, hz, rfl, rfl, rfl, HR, HB, HK, hsz⟩ := hrel
    have HHB := HB
    obtain ⟨c0, c1, c2, c3⟩ := HK.out
    by_cases h0 : 0 < j
    · have hxx := HF.out.mulN_lt (b := x) hx
      have hzx := HF.out.mulN_lt (b := x) hz
      by_cases h1 : j % 2 = 1
      · go_wp2_with fail
        refine (HMU.out _ _ hz hx _).mono ?_
        rintro e w1 ⟨rfl, hB1⟩
        have HB1 := Lib.hid hB1
        have HK1 := Lib.hid (HK.out.below hB1 hsz)
        have hs1 : w.heap.size < w1.heap.size := Nat.lt_of_lt_of_le hsz hB1.size
        obtain ⟨d0, d1, d2, d3⟩ := HK1.out
        clear hB1 c0 c1 c2 c3
        go_wp2_with fail
        refine (HMU.out _ _ hx hx _).mono ?_
        rintro e w2 ⟨rfl, hB2⟩
        have HB2 := Lib.hid hB2
        have HK2 := Lib.hid (HK1.out.below hB2 hs1)
        have hs2 : w.heap.size < w2.heap.size := Nat.lt_of_lt_of_le hs1 hB2.size
        clear hB2 d0 d1 d2 d3
        go_wp2_with fail
        go_roundw
        case rel => exact ⟨mulN P M x x, j / 2, mulN P M z x, hxx, by omega, hzx, rfl, int_val (by omega), rfl, pw_odd _ h1 HR.out, (HB.out.trans (HB1.out.mono (by omega))).trans (HB2.out.mono (by omega)), HK2, hs2⟩
        case measure => simp [intOf]; omega
      · go_wp2_with fail
        refine (HMU.out _ _ hx hx _).mono ?_
        rintro e w1 ⟨rfl, hB1⟩
        have HB1 := Lib.hid hB1
        have HK1 := Lib.hid (HK.out.below hB1 hsz)
        have hs1 : w.heap.size < w1.heap.size := Nat.lt_of_lt_of_le hsz hB1.size
        clear hB1 c0 c1 c2 c3
        go_wp2_with fail
        go_roundw
        case rel => exact ⟨mulN P M x x, j / 2, z, hxx, by omega, hz, rfl, int_val (by omega), rfl, pw_even _ h0 h1 HR.out, HB.out.trans (HB1.out.mono (by omega)), HK1, hs1⟩
        case measure => simp [intOf]; omega
    · have hj0 : j = 0 := by omega
      subst hj0
      have hr := HR.out
      rw [pw_zero] at hr
      have HR2 := Lib.hid hr
      clear hr c0 c1 c2 c3
      go_wp2
      go_ret
      exact ⟨ret_int (congrArg Nat.cast HR2.out), HB.out⟩

theorem kitInverse (P M q a : Nat) (hf : Fld P M q) (ha : a < q) (w : World) :
    Calls Tryd.prog 28 #[kitV P M q, .int .i64 a] w fun e w' => e = .returned (.int .i64 (powN P M a (q - 2) : Nat)) ∧ Below w.heap.size w w' := by
  have hq2 := hf.q_ge
  have hq3 := hf.q_le
  have hqe : ((q - 2 : Nat) : Int) = (q : Int) - 2 := by omega
  have HP := Lib.hid (fun w => kitPower P M q a (q - 2) hf ha (by omega) w)
  rw [hqe] at HP
  unfold kitV at HP ⊢
  clear hf hqe
  go_enter Tryd.func28, Tryd.ntmps28
  go_wp2_with fail
  refine (HP.out _).mono ?_
  rintro e w1 ⟨rfl, hB1⟩
  have HB1 := Lib.hid ((below1 w _).trans (hB1.mono (below1 w _).size))
  clear hB1
  go_wp2_with fail
  go_ret
  exact ⟨rfl, HB1.out⟩
end Go.Proofs.YtfkeemhbehhclaaDoor
