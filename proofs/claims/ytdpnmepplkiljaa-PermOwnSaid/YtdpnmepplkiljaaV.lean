/-
  The law PermMuls returns true at all pairs of slices of integers, in every world, and leaves what lay as it lay.
-/
import Derived.Test.YtdpnmepplkiljaaT
import Derived.ProofKit
import Derived.OpenShut
namespace Go.Proofs.Ytdpnmepplkiljaa
open Go.RowKit

theorem isrow_sl {w : World} {a : Option Addr} {len cap : Nat} {zs : List Int}
    (h : (a = none ∧ len = 0 ∧ cap = 0 ∧ zs = []) ∨
      ∃ x, a = some x ∧ len ≤ cap ∧ cap ≤ maxLen ∧ zs.length = cap ∧ (∀ i, i < zs.length → w.cell? (x.add i) = some (.int .i64 (zs.getD i 0))) ∧ ∀ n ∈ zs, (Lit.int .i64 n).wf = true) :
    SlI w (.slice a len cap) (zs.take len) ∧ (zs.take len).length = len := by
  rcases h with ⟨rfl, rfl, rfl, rfl⟩ | ⟨x, rfl, hl, hm, hz, hcell, _⟩
  · exact ⟨⟨none, 0, rfl, by simp, fun h => by simp at h⟩, rfl⟩
  · have hlen : (zs.take len).length = len := by simp; omega
    refine ⟨⟨some x, cap, by rw [hlen], by rw [hlen]; unfold maxLen at hm; omega, fun h1 => ?_⟩, hlen⟩
    rw [hlen] at h1
    obtain ⟨b, off, rfl, hc⟩ := ints_at hcell (by omega)
    have hb : b < w.heap.size := by
      have h0 := hc 0 (by omega)
      unfold World.cell? at h0
      cases hh : w.heap[b]? with
      | none => simp [hh] at h0
      | some o => exact (Array.getElem?_eq_some_iff.1 hh).1
    refine ⟨b, off, rfl, hb, fun j hj => ?_⟩
    rw [hlen] at hj
    rw [hc j (by omega)]
    simp [hj]

theorem rds_two (w : World) (x y : SlV) : RdS (w.alloc (.cells #[x.val, y.val] 23)) w.heap.size 0 [x, y] := fun j hj => by
  rw [cell_of_row _ w.heap.size (0 + j) #[x.val, y.val] 23 (0, 0) (World.alloc_heap_new w _)]
  match j, hj with
  | 0, _ => rfl
  | 1, _ => rfl

theorem short_two (a a' : Option Addr) (n cap n' cap' : Nat) (w : World) (r : Bool) (hr : r = decide (n ≤ 100 ∧ n' ≤ 100)) :
    Calls Try.prog 13 #[.slice (some ⟨w.heap.size, 0, none⟩) 2 2] (w.alloc (.cells #[.slice a n cap, .slice a' n' cap'] 23)) fun e w' => e = .returned (.bool r) ∧ w.alloc (.cells #[.slice a n cap, .slice a' n' cap'] 23) = w' := by
  refine (short_any w.heap.size 0 2 2 [⟨a, n, cap⟩, ⟨a', n', cap'⟩] _ (by omega) rfl (rds_two w ⟨a, n, cap⟩ ⟨a', n', cap'⟩)).mono fun e w' ⟨he, hw⟩ => ⟨he.trans (ret_bool ?_), hw⟩
  rw [hr, Bool.eq_iff_iff, decide_eq_true_eq, decide_eq_true_eq]
  constructor
  · exact fun h => ⟨h 0 (by omega), h 1 (by omega)⟩
  · rintro ⟨h0, h1⟩ j hj
    match j, hj with
    | 0, _ => exact h0
    | 1, _ => exact h1

theorem alloc_below (w : World) (o : Obj) : Below w.heap.size w (w.alloc o) := (Below.refl _ w).alloc (Nat.le_refl _) o

set_option maxRecDepth 100000 in
set_option maxHeartbeats 1000000 in
theorem muls_long (a a' : Option Addr) (n cap n' cap' : Nat) (w : World) (hn : ¬ (n ≤ 100 ∧ n' ≤ 100)) :
    Calls Try.prog 5 #[.slice a n cap, .slice a' n' cap'] w fun e w' => e = .returned (.bool true) ∧ Below w.heap.size w w' := by
  have hs := short_two a a' n cap n' cap' w false (by rw [decide_eq_false hn])
  have HS := Lib.hid hs
  clear hs hn
  go_enter Try.func5, Try.ntmps5
  go_wp2_with fail
  refine HS.out.mono ?_
  rintro e w1 ⟨rfl, rfl⟩
  go_wp2_with fail
  refine (alive_any _).mono ?_
  rintro e w2 ⟨rfl, hB⟩
  go_wp2_with fail
  go_ret
  exact ⟨rfl, (alloc_below w _).trans (hB.mono (by simp))⟩

set_option maxRecDepth 100000 in
set_option maxHeartbeats 1000000 in
theorem muls_bad (a a' : Option Addr) (n cap n' cap' : Nat) (l l' : List Int) (w : World) (h : SlI w (.slice a n cap) l) (h' : SlI w (.slice a' n' cap') l') (hn : n ≤ 100 ∧ n' ≤ 100) (c : Int) (hc : chk l l' = c) (hne : (c != 0) = true) (heq : (c == 0) = false) :
    Calls Try.prog 5 #[.slice a n cap, .slice a' n' cap'] w fun e w' => e = .returned (.bool true) ∧ Below w.heap.size w w' := by
  have hs := short_two a a' n cap n' cap' w true (by rw [decide_eq_true hn])
  have HS := Lib.hid hs
  have HC := Lib.hid hc
  have HH := Lib.hid h
  have HH' := Lib.hid h'
  clear hs hn hc h h'
  go_enter Try.func5, Try.ntmps5
  go_wp2_with fail
  refine HS.out.mono ?_
  rintro e w1 ⟨rfl, rfl⟩
  have hB1 := alloc_below w (.cells #[.slice a n cap, .slice a' n' cap'] 23)
  have hal := alike_any _ _ l l' _ (HH.out.below hB1) (HH'.out.below hB1)
  rw [HC.out] at hal
  have HAL := Lib.hid hal
  have HB1 := Lib.hid hB1
  clear hal hB1
  go_wp2_with fail
  refine HAL.out.mono ?_
  rintro e w2 ⟨rfl, q, rfl⟩
  obtain ⟨W, hW⟩ : ∃ W, (w.alloc (.cells #[.slice a n cap, .slice a' n' cap'] 23)).drewN q = W := ⟨_, rfl⟩
  have hBW : Below w.heap.size w W := hW ▸ below_drewN' HB1.out q
  have hm := mul_bad _ _ l l' W (HH.out.below hBW) (HH'.out.below hBW) c HC.out hne
  have HM := Lib.hid hm
  rw [hW]
  clear HAL HB1 hW hm
  go_wp2_with fail
  refine HM.out.mono ?_
  rintro e w3 ⟨rfl, hB3⟩
  have hBW3 : Below w.heap.size w w3 := hBW.trans (hB3.mono hBW.size)
  have hm := comm_bad _ _ l l' w3 (HH.out.below hBW3) (HH'.out.below hBW3) c HC.out hne
  have HM2 := Lib.hid hm
  clear hm HM
  go_wp2_with fail
  refine HM2.out.mono ?_
  rintro e w4 ⟨rfl, hB4⟩
  have hBW4 : Below w.heap.size w w4 := hBW3.trans (hB4.mono hBW3.size)
  clear HM2 hB4 hB3 hBW hBW3
  go_wp2_with fail
  refine (is_bad _ c _ hne heq).mono ?_
  rintro e w5 ⟨rfl, rfl⟩
  go_wp2_with fail
  refine (is_bad _ c _ hne heq).mono ?_
  rintro e w6 ⟨rfl, rfl⟩
  go_wp2_with fail
  refine (alive_any _).mono ?_
  rintro e w7 ⟨rfl, hB7⟩
  go_wp2_with fail
  go_ret
  exact ⟨rfl, hBW4.trans (hB7.mono hBW4.size)⟩

theorem SlI.mk_perm {w : World} {b off cap n : Nat} {ps : List Nat} (hp : IsPerm ps) (hn : ps.length = n) (hb : b < w.heap.size) (h : RdN w b off ps) : SlI w (.slice (some ⟨b, off, none⟩) n cap) (ints ps) :=
  ⟨some ⟨b, off, none⟩, cap, by rw [ints_length, hn], by rw [ints_length]; have := hp.2.1; omega, fun _ => ⟨b, off, rfl, hb, h.int⟩⟩

set_option maxRecDepth 100000 in
set_option maxHeartbeats 2000000 in
theorem muls_ok (b off cap b2 off2 cap2 n : Nat) (ps qs : List Nat) (w : World) (hp : IsPerm ps) (hq : IsPerm qs) (hpn : ps.length = n) (hqn : qs.length = n)
    (hb : b < w.heap.size) (hb2 : b2 < w.heap.size) (hrd : RdN w b off ps) (hrd2 : RdN w b2 off2 qs) :
    Calls Try.prog 5 #[.slice (some ⟨b, off, none⟩) n cap, .slice (some ⟨b2, off2, none⟩) n cap2] w fun e w' => e = .returned (.bool true) ∧ Below w.heap.size w w' := by
  have h1 : 1 ≤ n := by rw [← hpn]; exact hp.1
  have h7 : n ≤ 7 := by rw [← hpn]; exact hp.2.1
  have hlp : ∀ k, k < n → ps[k]?.getD 0 < n := fun k hk => by have := hp.lt k (by rw [hpn]; exact hk); rwa [hpn] at this
  have hs := short_two (some ⟨b, off, none⟩) (some ⟨b2, off2, none⟩) n cap n cap2 w true (by rw [decide_eq_true]; exact ⟨by omega, by omega⟩)
  have HS := Lib.hid hs
  have HLP := Lib.hid hlp
  have HPN := Lib.hid hpn
  have HQN := Lib.hid hqn
  clear hs hpn hqn hlp
  go_enter Try.func5, Try.ntmps5
  go_wp2_with fail
  refine HS.out.mono ?_
  rintro e w1 ⟨rfl, rfl⟩
  have hB1 := alloc_below w (.cells #[.slice (some ⟨b, off, none⟩) n cap, .slice (some ⟨b2, off2, none⟩) n cap2] 23)
  have hal := alike_any _ _ (ints ps) (ints qs) _ ((SlI.mk_perm (cap := cap) hp HPN.out hb hrd).below hB1) ((SlI.mk_perm (cap := cap2) hq HQN.out hb2 hrd2).below hB1)
  rw [chk_perm hp hq (by rw [HPN.out, HQN.out])] at hal
  have HAL := Lib.hid hal
  have HB1 := Lib.hid hB1
  clear hal hB1
  go_wp2_with fail
  refine HAL.out.mono ?_
  rintro e w2 ⟨rfl, q, rfl⟩
  obtain ⟨W, hW⟩ : ∃ W, (w.alloc (.cells #[.slice (some ⟨b, off, none⟩) n cap, .slice (some ⟨b2, off2, none⟩) n cap2] 23)).drewN q = W := ⟨_, rfl⟩
  have hBW : Below w.heap.size w W := hW ▸ below_drewN' HB1.out q
  rw [hW]
  clear HAL HB1 hW HS
  have sW := hBW.size
  go_wp2_with fail
  refine (rmul_any b off cap b2 off2 cap2 n ps qs W h1 h7 HPN.out HQN.out HLP.out (by omega) (by omega) (hrd.below hBW hb) (hrd2.below hBW hb2)).mono ?_
  rintro e w3 ⟨g3, rfl, hg3, b3, hB3⟩
  have hBW3 : Below w.heap.size w w3 := hBW.trans (hB3.mono sW)
  have s3 := hBW3.size
  go_wp2_with fail
  refine (rcomm_any b off cap b2 off2 cap2 n ps qs w3 hp hq HPN.out HQN.out (by omega) (by omega) (hrd.below hBW3 hb) (hrd2.below hBW3 hb2)).mono ?_
  rintro e w4 ⟨g4, rfl, hg4, b4, hB4⟩
  have hBW4 : Below w.heap.size w w4 := hBW3.trans (hB4.mono s3)
  have s4 := hBW4.size
  have b34 := b3.below hB4 b3.lt
  clear hB3 hB4 hBW hBW3 b3
  go_wp2_with fail
  refine (mul_n _ _ ps qs n w4 ((SlI.mk_perm hp HPN.out hb hrd).below hBW4) ((SlI.mk_perm hq HQN.out hb2 hrd2).below hBW4) hp hq HPN.out HQN.out).mono ?_
  rintro e w5 ⟨g5, rfl, hg5, b5, hB5⟩
  have hBW5 : Below w.heap.size w w5 := hBW4.trans (hB5.mono s4)
  have s5 := hBW5.size
  have b35 := b34.below hB5 b34.lt
  have b45 := b4.below hB5 b4.lt
  clear b34 b4 hB5 hBW4
  go_wp2_with fail
  refine (comm_ok _ _ ps qs n w5 ((SlI.mk_perm hp HPN.out hb hrd).below hBW5) ((SlI.mk_perm hq HQN.out hb2 hrd2).below hBW5) hp hq HPN.out HQN.out).mono ?_
  rintro e w6 ⟨g6, rfl, hg6, b6, hB6⟩
  have hBW6 : Below w.heap.size w w6 := hBW5.trans (hB6.mono s5)
  have s6 := hBW6.size
  have b36 := b35.below hB6 b35.lt
  have b46 := b45.below hB6 b45.lt
  have b56 := b5.below hB6 b5.lt
  clear b35 b45 b5 hB6 hBW5
  have hml : (mulN ps qs).length = n := by rw [mulN_length]; exact HPN.out
  have hcl : (commN ps qs).length = n := by rw [commN_length]; exact HPN.out
  have hi1 := is_ok _ _ _ _ w6 (SlI.of_blk b56 hml (by omega)) (SlI.of_blk b36 hml (by omega)) rfl
  have HI1 := Lib.hid hi1
  have HCL := Lib.hid hcl
  clear hi1 hml hcl b36 b56
  go_wp2_with fail
  refine HI1.out.mono ?_
  rintro e w7 ⟨rfl, q7, rfl⟩
  have hB7 := below_drewN' (Below.refl w6.heap.size w6) q7
  have hi2 := is_ok _ _ _ _ _ (SlI.of_blk (b6.below hB7 b6.lt) HCL.out (by omega)) (SlI.of_blk (b46.below hB7 b46.lt) HCL.out (by omega)) rfl
  have HI2 := Lib.hid hi2
  clear hi2 HI1 hB7
  go_wp2_with fail
  refine HI2.out.mono ?_
  rintro e w8 ⟨rfl, q8, rfl⟩
  clear HI2
  go_wp2_with fail
  refine (alive_any _).mono ?_
  rintro e w9 ⟨rfl, hB9⟩
  go_wp2_with fail
  go_ret
  exact ⟨rfl, (below_drewN' hBW6 _).trans (hB9.mono s6)⟩

theorem muls_any (a a' : Option Addr) (n cap n' cap' : Nat) (l l' : List Int) (w : World) (h : SlI w (.slice a n cap) l) (h' : SlI w (.slice a' n' cap') l') :
    Calls Try.prog 5 #[.slice a n cap, .slice a' n' cap'] w fun e w' => e = .returned (.bool true) ∧ Below w.heap.size w w' := by
  by_cases hn : n ≤ 100 ∧ n' ≤ 100
  · rcases chk_cases l l' with hc | hc | hc
    · obtain ⟨ps, qs, rfl, rfl, hp, hq, hlen⟩ := chk_zero hc
      obtain ⟨b, off, c, hv, hb, hrd⟩ := h.perm hp
      obtain ⟨b2, off2, c2, hv2, hb2, hrd2⟩ := h'.perm hq
      rw [hv, hv2, hlen]
      exact muls_ok b off c b2 off2 c2 ps.length ps qs w hp hq rfl hlen hb hb2 hrd hrd2
    · exact muls_bad a a' n cap n' cap' l l' w h h' hn 1 hc rfl rfl
    · exact muls_bad a a' n cap n' cap' l l' w h h' hn 2 hc rfl rfl
  · exact muls_long a a' n cap n' cap' w hn
end Go.Proofs.Ytdpnmepplkiljaa
