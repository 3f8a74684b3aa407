/-
  The law PermGroup returns true at all triples of slices of integers, in every world, and leaves what lay as it lay.
-/
import Derived.Test.YtdpnmepplkiljaaW
import Derived.Test.YtdpnmepplkiljaaX
namespace Go.Proofs.Ytdpnmepplkiljaa
open Go.RowKit

theorem same_b (v v' : Value) (l l' : List Int) (w : World) (h : SlI w v l) (h' : SlI w v' l') (he : l = l') :
    Calls Try.prog 42 #[v, v'] w fun e w' => e = .returned (.bool true) ∧ Below w.heap.size w w' :=
  (same_yes v v' l l' w h h' he).mono fun _ _ ⟨he, q, hw⟩ => ⟨he, hw ▸ below_drewN' (Below.refl _ w) q⟩

theorem rds_three (w : World) (x y z : SlV) : RdS (w.alloc (.cells #[x.val, y.val, z.val] 23)) w.heap.size 0 [x, y, z] := fun j hj => by
  rw [cell_of_row _ w.heap.size (0 + j) #[x.val, y.val, z.val] 23 (0, 0) (World.alloc_heap_new w _)]
  match j, hj with
  | 0, _ => rfl
  | 1, _ => rfl
  | 2, _ => rfl

def usable3 (l l' l'' : List Int) : Bool := valI l && valI l' && valI l'' && decide (l'.length = l.length) && decide (l''.length = l.length)

theorem usable_three (a a' a'' : Option Addr) (n cap n' cap' n'' cap'' : Nat) (l l' l'' : List Int) (w : World) (h : SlI w (.slice a n cap) l) (h' : SlI w (.slice a' n' cap') l') (h'' : SlI w (.slice a'' n'' cap'') l'') :
    Calls Try.prog 41 #[.slice (some ⟨w.heap.size, 0, none⟩) 3 3] (w.alloc (.cells #[.slice a n cap, .slice a' n' cap', .slice a'' n'' cap''] 23)) fun e w' => e = .returned (.bool (usable3 l l' l'')) ∧ Below w.heap.size w w' := by
  have hB := alloc_below w (.cells #[.slice a n cap, .slice a' n' cap', .slice a'' n'' cap''] 23)
  refine (usable_any w.heap.size 3 3 [⟨a, n, cap⟩, ⟨a', n', cap'⟩, ⟨a'', n'', cap''⟩] [l, l', l''] _ (by omega) (by omega) rfl (by simp) (rds_three w ⟨a, n, cap⟩ ⟨a', n', cap'⟩ ⟨a'', n'', cap''⟩) ?_).mono fun e w' ⟨he, hw⟩ => ⟨he.trans (ret_bool ?_), hB.trans (hw.mono (by simp))⟩
  · intro j hj
    match j, hj with
    | 0, _ => exact h.below hB
    | 1, _ => exact h'.below hB
    | 2, _ => exact h''.below hB
  · have e0 : n = l.length := SlI.lenEq (x := ⟨a, n, cap⟩) h
    have e1 : n' = l'.length := SlI.lenEq (x := ⟨a', n', cap'⟩) h'
    have e2 : n'' = l''.length := SlI.lenEq (x := ⟨a'', n'', cap''⟩) h''
    rw [Bool.eq_iff_iff]
    simp only [usable3, Bool.and_eq_true, decide_eq_true_eq]
    constructor
    · rintro ⟨_, hok⟩
      have k0 := hok 0 (by omega)
      have k1 := hok 1 (by omega)
      have k2 := hok 2 (by omega)
      simp only [okAt, Bool.and_eq_true, decide_eq_true_eq] at k0 k1 k2
      exact ⟨⟨⟨⟨k0.1, k1.1⟩, k2.1⟩, k1.2⟩, k2.2⟩
    · rintro ⟨⟨⟨⟨v0, v1⟩, v2⟩, q1⟩, q2⟩
      have b0 := (of_decide_eq_true v0).2.1
      refine ⟨fun j hj => ?_, fun j hj => ?_⟩
      · match j, hj with
        | 0, _ => show n ≤ 100; omega
        | 1, _ => show n' ≤ 100; omega
        | 2, _ => show n'' ≤ 100; omega
      · match j, hj with
        | 0, _ => show (valI l && decide (l.length = l.length)) = true; rw [v0]; simp
        | 1, _ => show (valI l' && decide (l'.length = l.length)) = true; rw [v1, q1]; simp
        | 2, _ => show (valI l'' && decide (l''.length = l.length)) = true; rw [v2, q2]; simp

set_option maxRecDepth 100000 in
set_option maxHeartbeats 1000000 in
theorem group_no (a a' a'' : Option Addr) (n cap n' cap' n'' cap'' : Nat) (l l' l'' : List Int) (w : World) (h : SlI w (.slice a n cap) l) (h' : SlI w (.slice a' n' cap') l') (h'' : SlI w (.slice a'' n'' cap'') l'') (hu : usable3 l l' l'' = false) :
    Calls Try.prog 8 #[.slice a n cap, .slice a' n' cap', .slice a'' n'' cap''] w fun e w' => e = .returned (.bool true) ∧ Below w.heap.size w w' := by
  have hs := usable_three a a' a'' n cap n' cap' n'' cap'' l l' l'' w h h' h''
  rw [hu] at hs
  have HS := Lib.hid hs
  clear hs hu h h' h''
  go_enter Try.func8, Try.ntmps8
  go_wp2_with fail
  refine HS.out.mono ?_
  rintro e w1 ⟨rfl, hB1⟩
  go_wp2_with fail
  refine (alive_any _).mono ?_
  rintro e w2 ⟨rfl, hB⟩
  go_wp2_with fail
  go_ret
  exact ⟨rfl, hB1.trans (hB.mono hB1.size)⟩

set_option maxRecDepth 100000 in
set_option maxHeartbeats 4000000 in
theorem group_ok (b off cap b2 off2 cap2 b3 off3 cap3 n : Nat) (ps qs rs : List Nat) (w : World) (hp : IsPerm ps) (hq : IsPerm qs) (hr : IsPerm rs) (hpn : ps.length = n) (hqn : qs.length = n) (hrn : rs.length = n)
    (hb : b < w.heap.size) (hb2 : b2 < w.heap.size) (hb3 : b3 < w.heap.size) (hrd : RdN w b off ps) (hrd2 : RdN w b2 off2 qs) (hrd3 : RdN w b3 off3 rs) :
    Calls Try.prog 8 #[.slice (some ⟨b, off, none⟩) n cap, .slice (some ⟨b2, off2, none⟩) n cap2, .slice (some ⟨b3, off3, none⟩) n cap3] w fun e w' => e = .returned (.bool true) ∧ Below w.heap.size w w' := by
  have h1 : 1 ≤ n := by rw [← hpn]; exact hp.1
  have h7 : n ≤ 7 := by rw [← hpn]; exact hp.2.1
  have hbig : n ≤ 9223372036854775807 := by omega
  have sp := SlI.mk_perm (cap := cap) hp hpn hb hrd
  have sq := SlI.mk_perm (cap := cap2) hq hqn hb2 hrd2
  have sr := SlI.mk_perm (cap := cap3) hr hrn hb3 hrd3
  have hs := usable_three _ _ _ n cap n cap2 n cap3 _ _ _ w sp sq sr
  have hu : usable3 (ints ps) (ints qs) (ints rs) = true := by
    simp [usable3, valI_perm hp, valI_perm hq, valI_perm hr, ints_length, hpn, hqn, hrn]
  rw [hu] at hs
  have HS := Lib.hid hs
  have HONE := Lib.hid (one_mulN ps)
  have HONE2 := Lib.hid (mul_oneN hp)
  have HINV := Lib.hid (mul_backN hp)
  have HINV2 := Lib.hid (back_mulN hp)
  rw [hpn] at HONE HONE2 HINV HINV2
  have HPN := Lib.hid hpn
  have HQN := Lib.hid hqn
  have HRN := Lib.hid hrn
  clear hs hu hpn hqn hrn
  go_enter Try.func8, Try.ntmps8
  go_wp2_with fail
  refine HS.out.mono ?_
  rintro e w1 ⟨rfl, HB1⟩
  clear HS
  go_wp2_with fail
  refine (identity_ok n w1 h1 h7).mono ?_
  rintro e w2 ⟨gI, rfl, hgI, bI_2, hB2⟩
  have HB2 : Below w.heap.size w w2 := HB1.trans (hB2.mono HB1.size)
  clear HB1 hB2
  have hIP : IsPerm (List.range n) := range_perm h1 h7
  have hIL : (List.range n).length = n := List.length_range
  have HIL := Lib.hid hIL
  clear hIL
  go_wp2_with fail
  refine (inverse_ok b off cap n ps w2 hp HPN.out (Nat.lt_of_lt_of_le hb HB2.size) (hrd.below HB2 hb)).mono ?_
  rintro e w3 ⟨gV, rfl, hgV, bV_3, hB3⟩
  have HB3 : Below w.heap.size w w3 := HB2.trans (hB3.mono HB2.size)
  have bI_3 := bI_2.below hB3 bI_2.lt
  clear bI_2 HB2 hB3
  have hVP : IsPerm (backN ps) := backN_perm hp
  have hVL : (backN ps).length = n := by rw [backN_length]; exact HPN.out
  have HVL := Lib.hid hVL
  clear hVL
  go_wp2_with fail
  refine (lmul_ok _ _ (ps) (qs) n w3 (sp.below HB3) (sq.below HB3) hp hq HPN.out HQN.out).mono ?_
  rintro e w4 ⟨gA, rfl, hgA, bA_4, hB4⟩
  have HB4 : Below w.heap.size w w4 := HB3.trans (hB4.mono HB3.size)
  have bI_4 := bI_3.below hB4 bI_3.lt
  have bV_4 := bV_3.below hB4 bV_3.lt
  clear bI_3 bV_3 HB3 hB4
  have hAP : IsPerm (mulN (ps) (qs)) := mulN_perm hp hq (by rw [HPN.out, HQN.out])
  have hAL : (mulN (ps) (qs)).length = n := by rw [mulN_length]; exact HPN.out
  have HAL := Lib.hid hAL
  clear hAL
  go_wp2_with fail
  refine (lmul_ok _ _ (mulN (ps) (qs)) (rs) n w4 (SlI.of_blk bA_4 HAL.out hbig) (sr.below HB4) hAP hr HAL.out HRN.out).mono ?_
  rintro e w5 ⟨gB, rfl, hgB, bB_5, hB5⟩
  have HB5 : Below w.heap.size w w5 := HB4.trans (hB5.mono HB4.size)
  have bI_5 := bI_4.below hB5 bI_4.lt
  have bV_5 := bV_4.below hB5 bV_4.lt
  have bA_5 := bA_4.below hB5 bA_4.lt
  clear bI_4 bV_4 bA_4 HB4 hB5
  have hBP : IsPerm (mulN (mulN (ps) (qs)) (rs)) := mulN_perm hAP hr (by rw [HAL.out, HRN.out])
  have hBL : (mulN (mulN (ps) (qs)) (rs)).length = n := by rw [mulN_length]; exact HAL.out
  have HBL := Lib.hid hBL
  clear hBL
  clear bA_5 hgA
  go_wp2_with fail
  refine (lmul_ok _ _ (qs) (rs) n w5 (sq.below HB5) (sr.below HB5) hq hr HQN.out HRN.out).mono ?_
  rintro e w6 ⟨gC, rfl, hgC, bC_6, hB6⟩
  have HB6 : Below w.heap.size w w6 := HB5.trans (hB6.mono HB5.size)
  have bI_6 := bI_5.below hB6 bI_5.lt
  have bV_6 := bV_5.below hB6 bV_5.lt
  have bB_6 := bB_5.below hB6 bB_5.lt
  clear bI_5 bV_5 bB_5 HB5 hB6
  have hCP : IsPerm (mulN (qs) (rs)) := mulN_perm hq hr (by rw [HQN.out, HRN.out])
  have hCL : (mulN (qs) (rs)).length = n := by rw [mulN_length]; exact HQN.out
  have HCL := Lib.hid hCL
  clear hCL
  go_wp2_with fail
  refine (lmul_ok _ _ (ps) (mulN (qs) (rs)) n w6 (sp.below HB6) (SlI.of_blk bC_6 HCL.out hbig) hp hCP HPN.out HCL.out).mono ?_
  rintro e w7 ⟨gD, rfl, hgD, bD_7, hB7⟩
  have HB7 : Below w.heap.size w w7 := HB6.trans (hB7.mono HB6.size)
  have bI_7 := bI_6.below hB7 bI_6.lt
  have bV_7 := bV_6.below hB7 bV_6.lt
  have bB_7 := bB_6.below hB7 bB_6.lt
  have bC_7 := bC_6.below hB7 bC_6.lt
  clear bI_6 bV_6 bB_6 bC_6 HB6 hB7
  have hDP : IsPerm (mulN (ps) (mulN (qs) (rs))) := mulN_perm hp hCP (by rw [HPN.out, HCL.out])
  have hDL : (mulN (ps) (mulN (qs) (rs))).length = n := by rw [mulN_length]; exact HPN.out
  have HDL := Lib.hid hDL
  clear hDL
  clear bC_7 hgC
  go_wp2_with fail
  refine (same_b _ _ _ _ w7 (SlI.of_blk bB_7 HBL.out hbig) (SlI.of_blk bD_7 HDL.out hbig) (congrArg ints (mul_assocN hp (by rw [HQN.out, HPN.out])))).mono ?_
  rintro e w8 ⟨rfl, hB8⟩
  have HB8 : Below w.heap.size w w8 := HB7.trans (hB8.mono HB7.size)
  have bI_8 := bI_7.below hB8 bI_7.lt
  have bV_8 := bV_7.below hB8 bV_7.lt
  have bB_8 := bB_7.below hB8 bB_7.lt
  have bD_8 := bD_7.below hB8 bD_7.lt
  clear bI_7 bV_7 bB_7 bD_7 HB7 hB8
  clear bB_8 hgB
  clear bD_8 hgD
  go_wp2_with fail
  refine (lmul_ok _ _ (List.range n) (ps) n w8 (SlI.of_blk bI_8 HIL.out hbig) (sp.below HB8) hIP hp HIL.out HPN.out).mono ?_
  rintro e w9 ⟨gE, rfl, hgE, bE_9, hB9⟩
  have HB9 : Below w.heap.size w w9 := HB8.trans (hB9.mono HB8.size)
  have bI_9 := bI_8.below hB9 bI_8.lt
  have bV_9 := bV_8.below hB9 bV_8.lt
  clear bI_8 bV_8 HB8 hB9
  have hEP : IsPerm (mulN (List.range n) (ps)) := mulN_perm hIP hp (by rw [HIL.out, HPN.out])
  have hEL : (mulN (List.range n) (ps)).length = n := by rw [mulN_length]; exact HIL.out
  have HEL := Lib.hid hEL
  clear hEL
  go_wp2_with fail
  refine (same_b _ _ _ _ w9 (SlI.of_blk bE_9 HEL.out hbig) (sp.below HB9) (congrArg ints HONE.out)).mono ?_
  rintro e w10 ⟨rfl, hB10⟩
  have HB10 : Below w.heap.size w w10 := HB9.trans (hB10.mono HB9.size)
  have bI_10 := bI_9.below hB10 bI_9.lt
  have bV_10 := bV_9.below hB10 bV_9.lt
  have bE_10 := bE_9.below hB10 bE_9.lt
  clear bI_9 bV_9 bE_9 HB9 hB10
  clear bE_10 hgE
  go_wp2_with fail
  refine (lmul_ok _ _ (ps) (List.range n) n w10 (sp.below HB10) (SlI.of_blk bI_10 HIL.out hbig) hp hIP HPN.out HIL.out).mono ?_
  rintro e w11 ⟨gF, rfl, hgF, bF_11, hB11⟩
  have HB11 : Below w.heap.size w w11 := HB10.trans (hB11.mono HB10.size)
  have bI_11 := bI_10.below hB11 bI_10.lt
  have bV_11 := bV_10.below hB11 bV_10.lt
  clear bI_10 bV_10 HB10 hB11
  have hFP : IsPerm (mulN (ps) (List.range n)) := mulN_perm hp hIP (by rw [HPN.out, HIL.out])
  have hFL : (mulN (ps) (List.range n)).length = n := by rw [mulN_length]; exact HPN.out
  have HFL := Lib.hid hFL
  clear hFL
  go_wp2_with fail
  refine (same_b _ _ _ _ w11 (SlI.of_blk bF_11 HFL.out hbig) (sp.below HB11) (congrArg ints HONE2.out)).mono ?_
  rintro e w12 ⟨rfl, hB12⟩
  have HB12 : Below w.heap.size w w12 := HB11.trans (hB12.mono HB11.size)
  have bI_12 := bI_11.below hB12 bI_11.lt
  have bV_12 := bV_11.below hB12 bV_11.lt
  have bF_12 := bF_11.below hB12 bF_11.lt
  clear bI_11 bV_11 bF_11 HB11 hB12
  clear bF_12 hgF
  go_wp2_with fail
  refine (lmul_ok _ _ (ps) (backN ps) n w12 (sp.below HB12) (SlI.of_blk bV_12 HVL.out hbig) hp hVP HPN.out HVL.out).mono ?_
  rintro e w13 ⟨gG, rfl, hgG, bG_13, hB13⟩
  have HB13 : Below w.heap.size w w13 := HB12.trans (hB13.mono HB12.size)
  have bI_13 := bI_12.below hB13 bI_12.lt
  have bV_13 := bV_12.below hB13 bV_12.lt
  clear bI_12 bV_12 HB12 hB13
  have hGP : IsPerm (mulN (ps) (backN ps)) := mulN_perm hp hVP (by rw [HPN.out, HVL.out])
  have hGL : (mulN (ps) (backN ps)).length = n := by rw [mulN_length]; exact HPN.out
  have HGL := Lib.hid hGL
  clear hGL
  go_wp2_with fail
  refine (same_b _ _ _ _ w13 (SlI.of_blk bG_13 HGL.out hbig) (SlI.of_blk bI_13 HIL.out hbig) (congrArg ints HINV.out)).mono ?_
  rintro e w14 ⟨rfl, hB14⟩
  have HB14 : Below w.heap.size w w14 := HB13.trans (hB14.mono HB13.size)
  have bI_14 := bI_13.below hB14 bI_13.lt
  have bV_14 := bV_13.below hB14 bV_13.lt
  have bG_14 := bG_13.below hB14 bG_13.lt
  clear bI_13 bV_13 bG_13 HB13 hB14
  clear bG_14 hgG
  go_wp2_with fail
  refine (lmul_ok _ _ (backN ps) (ps) n w14 (SlI.of_blk bV_14 HVL.out hbig) (sp.below HB14) hVP hp HVL.out HPN.out).mono ?_
  rintro e w15 ⟨gH, rfl, hgH, bH_15, hB15⟩
  have HB15 : Below w.heap.size w w15 := HB14.trans (hB15.mono HB14.size)
  have bI_15 := bI_14.below hB15 bI_14.lt
  have bV_15 := bV_14.below hB15 bV_14.lt
  clear bI_14 bV_14 HB14 hB15
  have hHP : IsPerm (mulN (backN ps) (ps)) := mulN_perm hVP hp (by rw [HVL.out, HPN.out])
  have hHL : (mulN (backN ps) (ps)).length = n := by rw [mulN_length]; exact HVL.out
  have HHL := Lib.hid hHL
  clear hHL
  go_wp2_with fail
  refine (same_b _ _ _ _ w15 (SlI.of_blk bH_15 HHL.out hbig) (SlI.of_blk bI_15 HIL.out hbig) (congrArg ints HINV2.out)).mono ?_
  rintro e w16 ⟨rfl, hB16⟩
  have HB16 : Below w.heap.size w w16 := HB15.trans (hB16.mono HB15.size)
  have bI_16 := bI_15.below hB16 bI_15.lt
  have bV_16 := bV_15.below hB16 bV_15.lt
  have bH_16 := bH_15.below hB16 bH_15.lt
  clear bI_15 bV_15 bH_15 HB15 hB16
  clear bH_16 hgH
  go_wp2_with fail
  refine (alive_any w16).mono ?_
  rintro e w17 ⟨rfl, hB17⟩
  go_wp2_with fail
  go_ret
  exact ⟨rfl, HB16.trans (hB17.mono HB16.size)⟩

theorem group_any (a a' a'' : Option Addr) (n cap n' cap' n'' cap'' : Nat) (l l' l'' : List Int) (w : World) (h : SlI w (.slice a n cap) l) (h' : SlI w (.slice a' n' cap') l') (h'' : SlI w (.slice a'' n'' cap'') l'') :
    Calls Try.prog 8 #[.slice a n cap, .slice a' n' cap', .slice a'' n'' cap''] w fun e w' => e = .returned (.bool true) ∧ Below w.heap.size w w' := by
  by_cases hu : usable3 l l' l'' = true
  · have hu' := hu
    simp only [usable3, Bool.and_eq_true, decide_eq_true_eq] at hu'
    obtain ⟨⟨⟨⟨v0, v1⟩, v2⟩, q1⟩, q2⟩ := hu'
    obtain ⟨ps, rfl, hp⟩ := perm_valI v0
    obtain ⟨qs, rfl, hq⟩ := perm_valI v1
    obtain ⟨rs, rfl, hr⟩ := perm_valI v2
    rw [ints_length, ints_length] at q1 q2
    obtain ⟨b, off, c, hv, hb, hrd⟩ := h.perm hp
    obtain ⟨b2, off2, c2, hv2, hb2, hrd2⟩ := h'.perm hq
    obtain ⟨b3, off3, c3, hv3, hb3, hrd3⟩ := h''.perm hr
    rw [hv, hv2, hv3, q1, q2]
    exact group_ok b off c b2 off2 c2 b3 off3 c3 ps.length ps qs rs w hp hq hr rfl q1 q2 hb hb2 hb3 hrd hrd2 hrd3
  · exact group_no a a' a'' n cap n' cap' n'' cap'' l l' l'' w h h' h'' (by simpa using hu)
end Go.Proofs.Ytdpnmepplkiljaa
