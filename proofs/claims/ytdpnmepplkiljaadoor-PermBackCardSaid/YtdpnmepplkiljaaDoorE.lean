/-
  Contracts of Commutator (at every pair of slices) and of ref.Same (at every pair of slices of integers).
-/
import Derived.Test.YtdpnmepplkiljaaDoorD
namespace Go.Proofs.YtdpnmepplkiljaaDoor
open Go.RowKit

theorem mulN_lt (ps qs : List Nat) (n : Nat) (hp : ps.length = n) (hlt : ∀ k, k < n → ps[k]?.getD 0 < n) (hlt' : ∀ k, k < n → qs[k]?.getD 0 < n) (k : Nat) (hk : k < n) : (mulN ps qs)[k]?.getD 0 < n := by
  have hk' : k < ps.length := by omega
  have h1 := hlt k hk
  simp only [mulN, List.getElem?_map, List.getElem?_eq_getElem hk', Option.map_some, Option.getD_some] at h1 ⊢
  exact hlt' _ h1

theorem backN_lt (ps : List Nat) (n : Nat) (hp : ps.length = n) (k : Nat) (hk : k < n) : (backN ps)[k]?.getD 0 < n := by
  have hk' : k < ps.length := by omega
  simp only [backN, List.getElem?_map, List.getElem?_range hk', Option.map_some, Option.getD_some]
  split <;> omega

def commN (ps qs : List Nat) : List Nat := mulN (mulN (backN ps) (backN qs)) (mulN ps qs)

theorem commN_length (ps qs : List Nat) : (commN ps qs).length = ps.length := by simp [commN, mulN_length, backN_length]

set_option maxHeartbeats 400000 in
theorem comm_bad (v v' : Value) (l l' : List Int) (w : World) (h : SlI w v l) (h' : SlI w v' l') (c : Int) (hc : chk l l' = c) (hne : (c != 0) = true) :
    Calls Tryd.prog 18 #[v, v'] w fun e w' => e = .returned (.tuple #[.slice none 0 0, .int .i64 c]) ∧ Below w.heap.size w w' := by
  have hk := check_any v v' l l' w h h'
  rw [hc] at hk
  have HK := Lib.hid hk
  clear hk hc
  go_enter Tryd.func18, Tryd.ntmps18
  go_wp2_with fail
  refine HK.out.mono ?_
  rintro e w1 ⟨rfl, hB1⟩
  go_wp2_with fail
  go_ret2
  exact ⟨rfl, hB1⟩

set_option maxHeartbeats 1000000 in
theorem comm_ok (v v' : Value) (ps qs : List Nat) (n : Nat) (w : World) (h : SlI w v (ints ps)) (h' : SlI w v' (ints qs)) (hp : IsPerm ps) (hq : IsPerm qs) (hpn : ps.length = n) (hqn : qs.length = n) :
    Calls Tryd.prog 18 #[v, v'] w fun e w' => ∃ g, e = .returned (.tuple #[.slice (some ⟨g, 0, none⟩) n n, .int .i64 0]) ∧ w.heap.size ≤ g ∧ Blk w' g (commN ps qs) ∧ Below w.heap.size w w' := by
  have hk := check_any v v' _ _ w h h'
  rw [chk_perm hp hq (by rw [hpn, hqn])] at hk
  have HK := Lib.hid hk
  obtain ⟨b, off, cap, rfl, hb, hrd⟩ := h.perm hp
  obtain ⟨b2, off2, cap2, rfl, hb2, hrd2⟩ := h'.perm hq
  have h1 : 1 ≤ n := by rw [← hpn]; exact hp.1
  have h7 : n ≤ 7 := by rw [← hpn]; exact hp.2.1
  have hlp : ∀ k, k < n → ps[k]?.getD 0 < n := fun k hk => by have := hp.lt k (by rw [hpn]; exact hk); rwa [hpn] at this
  have hlq : ∀ k, k < n → qs[k]?.getD 0 < n := fun k hk => by have := hq.lt k (by rw [hqn]; exact hk); rwa [hqn] at this
  have HLP := Lib.hid hlp
  have HLQ := Lib.hid hlq
  have HPN := Lib.hid hpn
  have HQN := Lib.hid hqn
  rw [hpn] at HK ⊢
  rw [hqn] at HK ⊢
  clear hk h h' hlp hlq hpn hqn
  go_enter Tryd.func18, Tryd.ntmps18
  go_wp2_with fail
  refine HK.out.mono ?_
  rintro e w1 ⟨rfl, hB1⟩
  have g1 := hrd.below hB1 hb
  have g2 := hrd2.below hB1 hb2
  have l1 := Nat.lt_of_lt_of_le hb hB1.size
  have l2 := Nat.lt_of_lt_of_le hb2 hB1.size
  go_wp2_with fail
  refine (back_any b off cap n ps w1 h1 h7 HPN.out hp.2.2.2 HLP.out l1 g1).mono ?_
  rintro e w2 ⟨ga, rfl, hga, hblka, hB2⟩
  have g3 := g1.below hB2 l1
  have g4 := g2.below hB2 l2
  have l3 := Nat.lt_of_lt_of_le l1 hB2.size
  have l4 := Nat.lt_of_lt_of_le l2 hB2.size
  go_wp2_with fail
  refine (back_any b2 off2 cap2 n qs w2 h1 h7 HQN.out hq.2.2.2 HLQ.out l4 g4).mono ?_
  rintro e w3 ⟨gb, rfl, hgb, hblkb, hB3⟩
  have hblka3 := hblka.below hB3 hblka.lt
  have g5 := g3.below hB3 l3
  have g6 := g4.below hB3 l4
  have l5 := Nat.lt_of_lt_of_le l3 hB3.size
  have l6 := Nat.lt_of_lt_of_le l4 hB3.size
  go_wp2_with fail
  refine (then_any ga 0 n gb 0 n n (backN ps) (backN qs) w3 h1 h7 (by rw [backN_length]; exact HPN.out) (by rw [backN_length]; exact HQN.out) (backN_lt ps n HPN.out) hblka3.lt hblkb.lt hblka3.rd hblkb.rd).mono ?_
  rintro e w4 ⟨gc, rfl, hgc, hblkc, hB4⟩
  have g7 := g5.below hB4 l5
  have g8 := g6.below hB4 l6
  have l7 := Nat.lt_of_lt_of_le l5 hB4.size
  have l8 := Nat.lt_of_lt_of_le l6 hB4.size
  go_wp2_with fail
  refine (then_any b off cap b2 off2 cap2 n ps qs w4 h1 h7 HPN.out HQN.out HLP.out l7 l8 g7 g8).mono ?_
  rintro e w5 ⟨gd, rfl, hgd, hblkd, hB5⟩
  have hblkc5 := hblkc.below hB5 hblkc.lt
  go_wp2_with fail
  refine (then_any gc 0 n gd 0 n n (mulN (backN ps) (backN qs)) (mulN ps qs) w5 h1 h7 (by rw [mulN_length, backN_length]; exact HPN.out) (by rw [mulN_length]; exact HPN.out)
    (mulN_lt _ _ n (by rw [backN_length]; exact HPN.out) (backN_lt ps n HPN.out) (backN_lt qs n HQN.out)) hblkc5.lt hblkd.lt hblkc5.rd hblkd.rd).mono ?_
  rintro e w6 ⟨ge, rfl, hge, hblke, hB6⟩
  have s1 := hB1.size
  have s2 := hB2.size
  have s3 := hB3.size
  have s4 := hB4.size
  have s5 := hB5.size
  go_wp2_with fail
  go_ret2
  exact ⟨ge, rfl, by omega, hblke, ((((hB1.trans (hB2.mono (by omega))).trans (hB3.mono (by omega))).trans (hB4.mono (by omega))).trans (hB5.mono (by omega))).trans (hB6.mono (by omega))⟩

/-! ### ref.Same -/
theorem same_len (a a' : Option Addr) (n n' cap cap' : Nat) (w : World) (hne : n ≠ n') :
    Calls Tryd.prog 16 #[.slice a n cap, .slice a' n' cap'] w fun e w' => e = .returned (.bool false) ∧ ∃ q, w' = w.drewN q := by
  have hb : ((n : Int) != (n' : Int)) = true := by rw [bne_iff_ne]; omega
  go_enter Tryd.func16, Tryd.ntmps16
  go_wp2
  go_ret
  exact ⟨rfl, 0, rfl⟩

theorem same_zero (a a' : Option Addr) (cap cap' : Nat) (w : World) :
    Calls Tryd.prog 16 #[.slice a 0 cap, .slice a' 0 cap'] w fun e w' => e = .returned (.bool true) ∧ ∃ q, w' = w.drewN q := by
  go_enter Tryd.func16, Tryd.ntmps16
  go_wp2
  refine wp_loop_rounds 1 ?_
  rw [rounds_succ]
  go_wp2
  go_ret
  exact ⟨rfl, 0, rfl⟩

theorem eq_of_takeI (l l' : List Int) (n : Nat) (hl : l.length = n) (hl' : l'.length = n) (h : ∀ j, j < n → l[j]?.getD 0 = l'[j]?.getD 0) : l = l' := by
  apply List.ext_getElem (by rw [hl, hl'])
  intro i h1 h2
  have := h i (by omega)
  simpa [h1, h2] using this

set_option maxHeartbeats 400000 in
theorem same_mid (b off cap b' off' cap' n : Nat) (l l' : List Int) (w : World) (h1 : 1 ≤ n) (hm : n ≤ 9223372036854775807) (hl : l.length = n) (hl' : l'.length = n)
    (hr : RdI w b off l) (hr' : RdI w b' off' l') :
    Calls Tryd.prog 16 #[.slice (some ⟨b, off, none⟩) n cap, .slice (some ⟨b', off', none⟩) n cap'] w fun e w' => e = .returned (.bool (decide (l = l'))) ∧ ∃ q, w' = w.drewN q := by
  have hb : ((n : Int) != (n : Int)) = false := bne_self_eq_false _
  have HL := Lib.hid hl
  have HL' := Lib.hid hl'
  clear hl hl'
  go_enter Tryd.func16, Tryd.ntmps16
  go_wp2
  go_loopw [5] (fun i wr => ∃ k : Nat, k ≤ n ∧ i = .int .i64 k ∧ (∀ j, j < k → l[j]?.getD 0 = l'[j]?.getD 0) ∧ ∃ q, wr = w.drewN q) (fun i _ => n - (intOf i).toNat)
  case atStart => exact ⟨0, Nat.zero_le _, rfl, fun j hj => by omega, 0, rfl⟩
  case round =>
    obtain ⟨k, hk, rfl, hall, q, rfl⟩ := hrel
    have HA := Lib.hid hall
    clear hall
    by_cases hkn : k < n
    · have c1 := hr k (by rw [HL.out]; exact hkn)
      have c2 := hr' k (by rw [HL'.out]; exact hkn)
      by_cases he : l[k]?.getD 0 = l'[k]?.getD 0
      · have hbb : (l[k]?.getD 0 != l'[k]?.getD 0) = false := by rw [he]; exact bne_self_eq_false _
        have HE := Lib.hid he
        clear he
        go_wp2
        go_quiet (fail)
        go_wp2
        go_roundw
        case rel =>
          refine ⟨k + 1, by omega, by go_num, fun j hj => ?_, _, rfl⟩
          by_cases hjk : j < k
          · exact HA.out j hjk
          · have : j = k := by omega
            subst this; exact HE.out
        case measure => simp [intOf]; omega
      · have hbb : (l[k]?.getD 0 != l'[k]?.getD 0) = true := by rw [bne_iff_ne]; exact he
        have hd : decide (l = l') = false := decide_eq_false fun e => he (by rw [e])
        have HD := Lib.hid hd
        clear he hd
        go_wp2
        go_quiet (fail)
        go_wp2
        go_ret
        exact ⟨ret_bool HD.out.symm, drewN_two _ _ _⟩
    · have hkn2 : k = n := by omega
      subst hkn2
      have hd : decide (l = l') = true := decide_eq_true (eq_of_takeI l l' k HL.out HL'.out HA.out)
      have HD := Lib.hid hd
      clear hd
      go_wp2
      go_ret
      exact ⟨ret_bool HD.out.symm, _, rfl⟩

theorem same_any (v v' : Value) (l l' : List Int) (w : World) (h : SlI w v l) (h' : SlI w v' l') :
    Calls Tryd.prog 16 #[v, v'] w fun e w' => e = .returned (.bool (decide (l = l'))) ∧ ∃ q, w' = w.drewN q := by
  obtain ⟨a, cap, rfl, hm, hr⟩ := h
  obtain ⟨a', cap', rfl, hm', hr'⟩ := h'
  by_cases hn : l.length = l'.length
  · by_cases h0 : l.length = 0
    · have e1 : l = [] := List.length_eq_zero_iff.1 h0
      have e2 : l' = [] := List.length_eq_zero_iff.1 (hn ▸ h0)
      subst e1 e2
      exact same_zero a a' cap cap' w
    · have h1 : 1 ≤ l.length := Nat.pos_of_ne_zero h0
      obtain ⟨b, off, rfl, hb, hrd⟩ := hr h1
      obtain ⟨b', off', rfl, hb', hrd'⟩ := hr' (hn ▸ h1)
      have := same_mid b off cap b' off' cap' l.length l l' w h1 hm rfl hn.symm hrd hrd'
      rw [hn] at this ⊢
      exact this
  · have : decide (l = l') = false := decide_eq_false fun e => hn (by rw [e])
    rw [this]
    exact same_len a a' _ _ cap cap' w hn
end Go.Proofs.YtdpnmepplkiljaaDoor
