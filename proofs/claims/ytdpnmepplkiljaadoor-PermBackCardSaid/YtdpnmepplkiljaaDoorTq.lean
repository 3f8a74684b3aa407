/-
  The law PermBack at every slice of integers, string and number.
-/
import Derived.Test.YtdpnmepplkiljaaDoorTz
namespace Go.Proofs.YtdpnmepplkiljaaDoor
open Go.RowKit Go.Shelf

theorem usable_one (a : Option Addr) (n cap : Nat) (l : List Int) (w : World) (h : SlI w (.slice a n cap) l) (r : Bool) (hr : valI l = r) :
    Calls Tryd.prog 15 #[.slice (some ⟨w.heap.size, 0, none⟩) 1 1] (w.alloc (.cells #[.slice a n cap] 23)) fun e w' => e = .returned (.bool r) ∧ Below w.heap.size w w' := by
  have hB := alloc_below w (.cells #[.slice a n cap] 23)
  refine (usable_any w.heap.size 1 1 [⟨a, n, cap⟩] [l] _ (by omega) (by omega) rfl (by simp) (rds_one w ⟨a, n, cap⟩) ?_).mono fun e w' ⟨he, hw⟩ => ⟨he.trans (ret_bool ?_), hB.trans (hw.mono (by simp))⟩
  · intro j hj
    match j, hj with
    | 0, _ => exact h.below hB
  · have e0 : n = l.length := SlI.lenEq (x := ⟨a, n, cap⟩) h
    rw [← hr, Bool.eq_iff_iff]
    simp only [Bool.and_eq_true, decide_eq_true_eq]
    constructor
    · rintro ⟨_, hok⟩
      have k0 := hok 0 (by omega)
      simp only [okAt, Bool.and_eq_true, decide_eq_true_eq] at k0
      exact k0.1
    · intro v0
      have b0 := (of_decide_eq_true v0).2.1
      refine ⟨fun j hj => ?_, fun j hj => ?_⟩
      · match j, hj with
        | 0, _ => show n ≤ 100; omega
      · match j, hj with
        | 0, _ => show (valI l && decide (l.length = l.length)) = true; rw [v0]; simp

set_option maxRecDepth 100000 in
set_option maxHeartbeats 4000000 in
theorem back_ok_n (a : Option Addr) (cap : Nat) (ps : List Nat) (s : ByteArray) (hs : s.size ≤ 2000) (w : World) (h : SlI w (.slice a ps.length cap) (ints ps)) (hp : IsPerm ps) (N : Int) (hN : N < 1 ∨ 7 < N) :
    Calls Tryd.prog 4 #[.slice a ps.length cap, .string s, .int .i64 N] w fun e w' => e = .returned (.bool true) ∧ Below w.heap.size w w' := by
  have HU := Lib.hid (usable_one a ps.length cap _ w h true (valI_perm hp))
  have HH := Lib.hid h
  clear h
  go_enter Tryd.func4, Tryd.ntmps4
  go_wp2_with fail
  refine HU.out.mono ?_
  rintro e W0 ⟨rfl, hB0⟩
  clear HU
  have HT := Lib.hid (text_ok _ ps W0 (HH.out.below hB0) hp)
  have hpp : Parsed ps.length (strOf (textN ps)) ps := ⟨hp, rfl, rfl⟩
  have hp1 := hp.1
  have hp7 := hp.2.1
  have hsz : (strOf (textN ps)).size ≤ 28 := hpp.facts.1
  have HPP := Lib.hid hpp
  obtain ⟨m, hm⟩ : ∃ m, ps.length = m := ⟨_, rfl⟩
  rw [hm] at HPP hp1 hp7 HH ⊢
  rw [hm] at HT
  obtain ⟨sp, hsp⟩ : ∃ sp, strOf (textN ps) = sp := ⟨_, rfl⟩
  rw [hsp] at HT HPP hsz
  clear hpp hm hsp
  go_wp2_with fail
  refine HT.out.mono ?_
  rintro e W1 ⟨rfl, hB1⟩
  have h1' := hB0.trans (hB1.mono hB0.size)
  have HQP := Lib.hid (parse_yes sp m ps W1 hp1 hp7 (by omega) HPP.out)
  clear HT
  go_wp2_with fail
  refine HQP.out.mono ?_
  rintro e W2 ⟨g0, rfl, hg0, hbk0, hB2⟩
  have h2' := h1'.trans (hB2.mono h1'.size)
  have HSM := Lib.hid (same_yes _ _ _ _ W2 (HH.out.below h2') (SlI.of_blk hbk0 HPP.out.2.1 (by omega)) rfl)
  clear HQP hbk0
  go_wp2_with fail
  refine HSM.out.mono ?_
  rintro e W3 ⟨rfl, q, rfl⟩
  have h5 : Below w.heap.size w (W2.drewN q) := below_drewN' h2' q
  generalize W2.drewN q = W5 at h5 ⊢
  clear HSM h1' h2' hB0 hB1 hB2
  have HP := Lib.hid (parse_n s N W5 hN)
  go_wp2_with fail
  refine HP.out.mono ?_
  rintro e W6 ⟨rfl, hB6⟩
  have h6 := h5.trans (hB6.mono h5.size)
  clear HP
  go_wp2_with fail
  refine (alive_any _).mono ?_
  rintro e WZ ⟨rfl, hBZ⟩
  go_wp2_with fail
  go_ret
  exact ⟨rfl, h6.trans (hBZ.mono h6.size)⟩

set_option maxRecDepth 100000 in
set_option maxHeartbeats 4000000 in
theorem back_ok_no (a : Option Addr) (cap : Nat) (ps : List Nat) (s : ByteArray) (hs : s.size ≤ 2000) (w : World) (h : SlI w (.slice a ps.length cap) (ints ps)) (hp : IsPerm ps) (N : Nat) (h1 : 1 ≤ N) (h7 : N ≤ 7) (hno : ∀ qs, ¬ Parsed N s qs) :
    Calls Tryd.prog 4 #[.slice a ps.length cap, .string s, .int .i64 N] w fun e w' => e = .returned (.bool true) ∧ Below w.heap.size w w' := by
  have HNO := Lib.hid hno
  clear hno
  have HU := Lib.hid (usable_one a ps.length cap _ w h true (valI_perm hp))
  have HH := Lib.hid h
  clear h
  go_enter Tryd.func4, Tryd.ntmps4
  go_wp2_with fail
  refine HU.out.mono ?_
  rintro e W0 ⟨rfl, hB0⟩
  clear HU
  have HT := Lib.hid (text_ok _ ps W0 (HH.out.below hB0) hp)
  have hpp : Parsed ps.length (strOf (textN ps)) ps := ⟨hp, rfl, rfl⟩
  have hp1 := hp.1
  have hp7 := hp.2.1
  have hsz : (strOf (textN ps)).size ≤ 28 := hpp.facts.1
  have HPP := Lib.hid hpp
  obtain ⟨m, hm⟩ : ∃ m, ps.length = m := ⟨_, rfl⟩
  rw [hm] at HPP hp1 hp7 HH ⊢
  rw [hm] at HT
  obtain ⟨sp, hsp⟩ : ∃ sp, strOf (textN ps) = sp := ⟨_, rfl⟩
  rw [hsp] at HT HPP hsz
  clear hpp hm hsp
  go_wp2_with fail
  refine HT.out.mono ?_
  rintro e W1 ⟨rfl, hB1⟩
  have h1' := hB0.trans (hB1.mono hB0.size)
  have HQP := Lib.hid (parse_yes sp m ps W1 hp1 hp7 (by omega) HPP.out)
  clear HT
  go_wp2_with fail
  refine HQP.out.mono ?_
  rintro e W2 ⟨g0, rfl, hg0, hbk0, hB2⟩
  have h2' := h1'.trans (hB2.mono h1'.size)
  have HSM := Lib.hid (same_yes _ _ _ _ W2 (HH.out.below h2') (SlI.of_blk hbk0 HPP.out.2.1 (by omega)) rfl)
  clear HQP hbk0
  go_wp2_with fail
  refine HSM.out.mono ?_
  rintro e W3 ⟨rfl, q, rfl⟩
  have h5 : Below w.heap.size w (W2.drewN q) := below_drewN' h2' q
  generalize W2.drewN q = W5 at h5 ⊢
  clear HSM h1' h2' hB0 hB1 hB2
  have HP := Lib.hid (parse_no s N W5 h1 h7 (by omega) HNO.out)
  go_wp2_with fail
  refine HP.out.mono ?_
  rintro e W6 ⟨rfl, hB6⟩
  have h6 := h5.trans (hB6.mono h5.size)
  clear HP
  go_wp2_with fail
  refine (alive_any _).mono ?_
  rintro e WZ ⟨rfl, hBZ⟩
  go_wp2_with fail
  go_ret
  exact ⟨rfl, h6.trans (hBZ.mono h6.size)⟩

set_option maxRecDepth 100000 in
set_option maxHeartbeats 4000000 in
theorem back_ok_yes (a : Option Addr) (cap : Nat) (ps : List Nat) (s : ByteArray) (hs : s.size ≤ 2000) (w : World) (h : SlI w (.slice a ps.length cap) (ints ps)) (hp : IsPerm ps) (N : Nat) (h1 : 1 ≤ N) (h7 : N ≤ 7) (qs : List Nat) (hq : Parsed N s qs) :
    Calls Tryd.prog 4 #[.slice a ps.length cap, .string s, .int .i64 N] w fun e w' => e = .returned (.bool true) ∧ Below w.heap.size w w' := by
  have HQ := Lib.hid hq
  clear hq
  have HU := Lib.hid (usable_one a ps.length cap _ w h true (valI_perm hp))
  have HH := Lib.hid h
  clear h
  go_enter Tryd.func4, Tryd.ntmps4
  go_wp2_with fail
  refine HU.out.mono ?_
  rintro e W0 ⟨rfl, hB0⟩
  clear HU
  have HT := Lib.hid (text_ok _ ps W0 (HH.out.below hB0) hp)
  have hpp : Parsed ps.length (strOf (textN ps)) ps := ⟨hp, rfl, rfl⟩
  have hp1 := hp.1
  have hp7 := hp.2.1
  have hsz : (strOf (textN ps)).size ≤ 28 := hpp.facts.1
  have HPP := Lib.hid hpp
  obtain ⟨m, hm⟩ : ∃ m, ps.length = m := ⟨_, rfl⟩
  rw [hm] at HPP hp1 hp7 HH ⊢
  rw [hm] at HT
  obtain ⟨sp, hsp⟩ : ∃ sp, strOf (textN ps) = sp := ⟨_, rfl⟩
  rw [hsp] at HT HPP hsz
  clear hpp hm hsp
  go_wp2_with fail
  refine HT.out.mono ?_
  rintro e W1 ⟨rfl, hB1⟩
  have h1' := hB0.trans (hB1.mono hB0.size)
  have HQP := Lib.hid (parse_yes sp m ps W1 hp1 hp7 (by omega) HPP.out)
  clear HT
  go_wp2_with fail
  refine HQP.out.mono ?_
  rintro e W2 ⟨g0, rfl, hg0, hbk0, hB2⟩
  have h2' := h1'.trans (hB2.mono h1'.size)
  have HSM := Lib.hid (same_yes _ _ _ _ W2 (HH.out.below h2') (SlI.of_blk hbk0 HPP.out.2.1 (by omega)) rfl)
  clear HQP hbk0
  go_wp2_with fail
  refine HSM.out.mono ?_
  rintro e W3 ⟨rfl, q, rfl⟩
  have h5 : Below w.heap.size w (W2.drewN q) := below_drewN' h2' q
  generalize W2.drewN q = W5 at h5 ⊢
  clear HSM h1' h2' hB0 hB1 hB2
  have HP := Lib.hid (parse_yes s N qs W5 h1 h7 (by omega) HQ.out)
  go_wp2_with fail
  refine HP.out.mono ?_
  rintro e W6 ⟨g, rfl, hg, hbk, hB6⟩
  have h6 := h5.trans (hB6.mono h5.size)
  have HT6 := Lib.hid (text_ok _ qs W6 (SlI.of_blk hbk HQ.out.2.1 (by omega)) HQ.out.1)
  have hb1 : ((strOf (textN qs)).toList == s.toList) = true := by rw [HQ.out.2.2]; exact beq_self_eq_true _
  clear HP hbk
  go_wp2_with fail
  refine HT6.out.mono ?_
  rintro e W7 ⟨rfl, hB7⟩
  have h7' := h6.trans (hB7.mono h6.size)
  clear HT6
  go_wp2_with fail
  refine (alive_any _).mono ?_
  rintro e WZ ⟨rfl, hBZ⟩
  go_wp2_with fail
  go_ret
  exact ⟨rfl, h7'.trans (hBZ.mono h7'.size)⟩

set_option maxRecDepth 100000 in
set_option maxHeartbeats 4000000 in
theorem back_bad_n (a : Option Addr) (n cap : Nat) (l : List Int) (s : ByteArray) (hs : s.size ≤ 2000) (w : World) (h : SlI w (.slice a n cap) l) (hv : valI l = false) (N : Int) (hN : N < 1 ∨ 7 < N) :
    Calls Tryd.prog 4 #[.slice a n cap, .string s, .int .i64 N] w fun e w' => e = .returned (.bool true) ∧ Below w.heap.size w w' := by
  have HU := Lib.hid (usable_one a n cap _ w h false hv)
  have HH := Lib.hid h
  clear h
  go_enter Tryd.func4, Tryd.ntmps4
  go_wp2_with fail
  refine HU.out.mono ?_
  rintro e W0 ⟨rfl, hB0⟩
  clear HU
  have h5 := hB0
  have HP := Lib.hid (parse_n s N W0 hN)
  go_wp2_with fail
  refine HP.out.mono ?_
  rintro e W6 ⟨rfl, hB6⟩
  have h6 := h5.trans (hB6.mono h5.size)
  clear HP
  go_wp2_with fail
  refine (alive_any _).mono ?_
  rintro e WZ ⟨rfl, hBZ⟩
  go_wp2_with fail
  go_ret
  exact ⟨rfl, h6.trans (hBZ.mono h6.size)⟩

set_option maxRecDepth 100000 in
set_option maxHeartbeats 4000000 in
theorem back_bad_no (a : Option Addr) (n cap : Nat) (l : List Int) (s : ByteArray) (hs : s.size ≤ 2000) (w : World) (h : SlI w (.slice a n cap) l) (hv : valI l = false) (N : Nat) (h1 : 1 ≤ N) (h7 : N ≤ 7) (hno : ∀ qs, ¬ Parsed N s qs) :
    Calls Tryd.prog 4 #[.slice a n cap, .string s, .int .i64 N] w fun e w' => e = .returned (.bool true) ∧ Below w.heap.size w w' := by
  have HNO := Lib.hid hno
  clear hno
  have HU := Lib.hid (usable_one a n cap _ w h false hv)
  have HH := Lib.hid h
  clear h
  go_enter Tryd.func4, Tryd.ntmps4
  go_wp2_with fail
  refine HU.out.mono ?_
  rintro e W0 ⟨rfl, hB0⟩
  clear HU
  have h5 := hB0
  have HP := Lib.hid (parse_no s N W0 h1 h7 (by omega) HNO.out)
  go_wp2_with fail
  refine HP.out.mono ?_
  rintro e W6 ⟨rfl, hB6⟩
  have h6 := h5.trans (hB6.mono h5.size)
  clear HP
  go_wp2_with fail
  refine (alive_any _).mono ?_
  rintro e WZ ⟨rfl, hBZ⟩
  go_wp2_with fail
  go_ret
  exact ⟨rfl, h6.trans (hBZ.mono h6.size)⟩

set_option maxRecDepth 100000 in
set_option maxHeartbeats 4000000 in
theorem back_bad_yes (a : Option Addr) (n cap : Nat) (l : List Int) (s : ByteArray) (hs : s.size ≤ 2000) (w : World) (h : SlI w (.slice a n cap) l) (hv : valI l = false) (N : Nat) (h1 : 1 ≤ N) (h7 : N ≤ 7) (qs : List Nat) (hq : Parsed N s qs) :
    Calls Tryd.prog 4 #[.slice a n cap, .string s, .int .i64 N] w fun e w' => e = .returned (.bool true) ∧ Below w.heap.size w w' := by
  have HQ := Lib.hid hq
  clear hq
  have HU := Lib.hid (usable_one a n cap _ w h false hv)
  have HH := Lib.hid h
  clear h
  go_enter Tryd.func4, Tryd.ntmps4
  go_wp2_with fail
  refine HU.out.mono ?_
  rintro e W0 ⟨rfl, hB0⟩
  clear HU
  have h5 := hB0
  have HP := Lib.hid (parse_yes s N qs W0 h1 h7 (by omega) HQ.out)
  go_wp2_with fail
  refine HP.out.mono ?_
  rintro e W6 ⟨g, rfl, hg, hbk, hB6⟩
  have h6 := h5.trans (hB6.mono h5.size)
  have HT6 := Lib.hid (text_ok _ qs W6 (SlI.of_blk hbk HQ.out.2.1 (by omega)) HQ.out.1)
  have hb1 : ((strOf (textN qs)).toList == s.toList) = true := by rw [HQ.out.2.2]; exact beq_self_eq_true _
  clear HP hbk
  go_wp2_with fail
  refine HT6.out.mono ?_
  rintro e W7 ⟨rfl, hB7⟩
  have h7' := h6.trans (hB7.mono h6.size)
  clear HT6
  go_wp2_with fail
  refine (alive_any _).mono ?_
  rintro e WZ ⟨rfl, hBZ⟩
  go_wp2_with fail
  go_ret
  exact ⟨rfl, h7'.trans (hBZ.mono h7'.size)⟩

set_option maxRecDepth 100000 in
set_option maxHeartbeats 4000000 in
theorem pback_any (a : Option Addr) (n cap : Nat) (l : List Int) (s : ByteArray) (N : Int) (w : World) (h : SlI w (.slice a n cap) l) (hm : s.size ≤ 9223372036854775807) :
    Calls Tryd.prog 4 #[.slice a n cap, .string s, .int .i64 N] w fun e w' => e = .returned (.bool true) ∧ Below w.heap.size w w' := by
  by_cases hs : s.size ≤ 2000
  · rcases hv : valI l with _ | _
    · by_cases hN : N < 1 ∨ 7 < N
      · exact back_bad_n a n cap l s hs w h hv N hN
      · obtain ⟨M, rfl⟩ : ∃ M : Nat, N = M := ⟨N.toNat, by omega⟩
        by_cases hq : ∃ qs, Parsed M s qs
        · obtain ⟨qs, hq⟩ := hq
          exact back_bad_yes a n cap l s hs w h hv M (by omega) (by omega) qs hq
        · exact back_bad_no a n cap l s hs w h hv M (by omega) (by omega) (fun qs h => hq ⟨qs, h⟩)
    · obtain ⟨ps, rfl, hp⟩ := perm_valI hv
      obtain rfl : n = ps.length := by obtain ⟨_, _, hv, _⟩ := h; cases hv; rw [ints_length]
      by_cases hN : N < 1 ∨ 7 < N
      · exact back_ok_n a cap ps s hs w h hp N hN
      · obtain ⟨M, rfl⟩ : ∃ M : Nat, N = M := ⟨N.toNat, by omega⟩
        by_cases hq : ∃ qs, Parsed M s qs
        · obtain ⟨qs, hq⟩ := hq
          exact back_ok_yes a cap ps s hs w h hp M (by omega) (by omega) qs hq
        · exact back_ok_no a cap ps s hs w h hp M (by omega) (by omega) (fun qs h => hq ⟨qs, h⟩)
  · have hbig : 2000 < s.size := by omega
    go_enter Tryd.func4, Tryd.ntmps4
    go_wp2_with fail
    refine (alive_any _).mono ?_
    rintro e WZ ⟨rfl, hBZ⟩
    go_wp2_with fail
    go_ret
    exact ⟨rfl, hBZ⟩
end Go.Proofs.YtdpnmepplkiljaaDoor
