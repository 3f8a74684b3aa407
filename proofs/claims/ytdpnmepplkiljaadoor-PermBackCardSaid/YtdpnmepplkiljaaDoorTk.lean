/-
  Contract of Rank of the reference at every permutation; Parse of the reference at long strings.
-/
import Derived.Test.YtdpnmepplkiljaaDoorTf
import Derived.Test.YtdpnmepplkiljaaDoorO
namespace Go.Proofs.YtdpnmepplkiljaaDoor
open Go.RowKit Go.Shelf

theorem rparse_big (s : ByteArray) (n : Int) (w : World) (hs : 28 < s.size) (hs2 : s.size ≤ 100000) :
    Calls Tryd.prog 14 #[.string s, .int .i64 n] w fun e w' => e = .returned (.tuple #[.slice none 0 0, .bool false]) ∧ Below w.heap.size w w' := by
  go_enter Tryd.func14, Tryd.ntmps14
  go_wp2_with fail
  go_ret2
  exact ⟨rfl, Below.refl _ _⟩

/-- How many of the points from k + 1 up to j are less. -/
def lessTo (ps : List Nat) (k j : Nat) : Nat := smallerN ((ps.drop (k + 1)).take (j - (k + 1))) (ps[k]?.getD 0)
theorem lessTo_start (ps : List Nat) (k : Nat) : lessTo ps k (k + 1) = 0 := by unfold lessTo; rw [Nat.sub_self]; rfl
theorem lessTo_succ (ps : List Nat) (k j : Nat) (hj : k + 1 ≤ j) (hl : j < ps.length) : lessTo ps k (j + 1) = lessTo ps k j + if ps[j]?.getD 0 < ps[k]?.getD 0 then 1 else 0 := by
  unfold lessTo
  have e : j + 1 - (k + 1) = (j - (k + 1)) + 1 := by omega
  have e2 : k + 1 + (j - (k + 1)) = j := by omega
  rw [e, take_snocN _ _ (by rw [List.length_drop]; omega), smallerN_snoc, List.getElem?_drop, e2]
theorem lessTo_full (ps : List Nat) (k : Nat) : lessTo ps k ps.length = smallerN (ps.drop (k + 1)) (ps[k]?.getD 0) := by
  unfold lessTo
  rw [List.take_of_length_le (by rw [List.length_drop]; omega)]
theorem lessTo_le (ps : List Nat) (k j : Nat) : lessTo ps k j ≤ ps.length := by
  unfold lessTo
  have h1 := smallerN_le ((ps.drop (k + 1)).take (j - (k + 1))) (ps[k]?.getD 0)
  have h2 : ((ps.drop (k + 1)).take (j - (k + 1))).length ≤ ps.length := by rw [List.length_take, List.length_drop]; omega
  omega

set_option maxRecDepth 100000 in
set_option maxHeartbeats 4000000 in
theorem rrank_ok (b off cap n : Nat) (ps : List Nat) (w : World) (hp : IsPerm ps) (hpn : ps.length = n) (hb : b < w.heap.size) (hrd : RdN w b off ps) :
    Calls Tryd.prog 9 #[.slice (some ⟨b, off, none⟩) n cap] w fun e w' => e = .returned (.int .i64 (rankN ps : Nat)) ∧ ∃ q, w' = w.drewN q := by
  have h1 : 1 ≤ n := by rw [← hpn]; exact hp.1
  have h7 : n ≤ 7 := by rw [← hpn]; exact hp.2.1
  have hrl := rankN_lt ps
  have hfl := facN_le n h7
  rw [hpn] at hrl
  have HPN := Lib.hid hpn
  clear hpn
  go_enter Tryd.func9, Tryd.ntmps9
  go_wp2_with fail
  go_loopw [3, 4, 5, 6] (fun r i _ _ W => ∃ (k s q : Nat), k ≤ n ∧ i = .int .i64 k ∧ r = .int .i64 s ∧ s + rankN (ps.drop k) = rankN ps ∧ W = w.drewN q) (fun _ i _ _ _ => n - (intOf i).toNat)
  case atStart => exact ⟨0, 0, 0, Nat.zero_le _, rfl, rfl, by rw [List.drop_zero, Nat.zero_add], rfl⟩
  case round =>
    obtain ⟨k, s, q0, hk, rfl, rfl, hsr, rfl⟩ := hrel
    have HSR := Lib.hid hsr
    by_cases hkn : k < n
    · have hkl : k < ps.length := by rw [HPN.out]; exact hkn
      have hd := rankN_drop ps k hkl
      obtain ⟨j, hj⟩ : ∃ j, n - (k + 1) = j := ⟨_, rfl⟩
      rw [HPN.out, hj, ← lessTo_full, HPN.out] at hd
      have hml := lessTo_le ps k n
      rw [HPN.out] at hml
      obtain ⟨m, hm⟩ : ∃ m, lessTo ps k n = m := ⟨_, rfl⟩
      rw [hm] at hd hml
      obtain ⟨p, hq⟩ : ∃ q, m * facN j = q := ⟨_, rfl⟩
      rw [hq] at hd
      have hs5 : s ≤ 5040 := by omega
      have hb1 : s + p ≤ 5040 := by omega
      have hq1 : p ≤ 5040 := by omega
      have hrel2 : s + p + rankN (ps.drop (k + 1)) = rankN ps := by omega
      have hj7 : j ≤ 7 := by omega
      have hjn : (n : Int) - 1 - k = j := by omega
      have hq2 : (m : Int) * (facN j : Int) = (p : Int) := by rw [← hq]; simp
      have HREL := Lib.hid hrel2
      have HM := Lib.hid hm
      have HJN := Lib.hid hjn
      have HQ2 := Lib.hid hq2
      clear hsr hd hm hq hrel2 hj hjn hq2 HSR
      go_wp2_with fail
      go_loopw [5, 6] (fun lv jv W => ∃ (i2 q2 : Nat), k + 1 ≤ i2 ∧ i2 ≤ n ∧ jv = .int .i64 i2 ∧ lv = .int .i64 (lessTo ps k i2 : Nat) ∧ W = w.drewN q2) (fun _ jv _ => n - (intOf jv).toNat)
      case atStart => exact ⟨k + 1, q0, Nat.le_refl _, by omega, by go_num, by rw [lessTo_start]; rfl, rfl⟩
      case round =>
        obtain ⟨i2, q2, hi1, hi2, rfl, rfl, rfl⟩ := hrel
        by_cases hin : i2 < n
        · have hsc := lessTo_succ ps k i2 hi1 (by rw [HPN.out]; exact hin)
          have hll := lessTo_le ps k i2
          have c1 := hrd i2 (by rw [HPN.out]; exact hin)
          have c2 := hrd k hkl
          obtain ⟨x, hx⟩ : ∃ x, ps[k]?.getD 0 = x := ⟨_, rfl⟩
          obtain ⟨y, hy⟩ : ∃ y, ps[i2]?.getD 0 = y := ⟨_, rfl⟩
          obtain ⟨t, ht⟩ : ∃ t, lessTo ps k i2 = t := ⟨_, rfl⟩
          rw [hx] at c2 hsc
          rw [hy] at c1 hsc
          rw [ht] at hsc hll
          rw [HPN.out] at hll
          have HSC := Lib.hid hsc
          have HX := Lib.hid hx
          have HT := Lib.hid ht
          rw [ht]
          clear hx hy hsc ht
          by_cases hyx : y < x
          · have hd : decide (y < x) = true := decide_eq_true hyx
            go_wp2_with fail
            go_quiet (fail)
            go_wp2
            go_roundw
            case rel => exact ⟨i2 + 1, _, by omega, by omega, by go_num, by rw [HSC.out, if_pos hyx]; go_num, rfl⟩
            case measure => simp [intOf]; omega
          · have hd : decide (y < x) = false := decide_eq_false hyx
            go_wp2_with fail
            go_quiet (fail)
            go_wp2
            go_roundw
            case rel => exact ⟨i2 + 1, _, by omega, by omega, by go_num, by rw [HSC.out, if_neg hyx]; go_num, rfl⟩
            case measure => simp [intOf]; omega
        · have hie : lessTo ps k i2 = m := by rw [← HM.out]; congr 1; omega
          have hqa : 0 ≤ (m : Int) * (facN j : Int) := by rw [HQ2.out]; omega
          have hqb : (m : Int) * (facN j : Int) ≤ 5040 := by rw [HQ2.out]; omega
          have hqc : (s : Int) + (m : Int) * (facN j : Int) ≤ 5040 := by rw [HQ2.out]; omega
          have hsv : (s : Int) + (m : Int) * (facN j : Int) = ((s + p : Nat) : Int) := by rw [HQ2.out]; simp
          have HSV := Lib.hid hsv
          rw [hie]
          clear hsv hie
          go_wp2_with fail
          refine (rfact_int _ j HJN.out _ hj7).mono ?_
          rintro e w' ⟨rfl, rfl⟩
          go_wp2_with fail
          go_roundw
          case rel => exact ⟨k + 1, s + p, _, by omega, by go_num, by rw [← HSV.out], HREL.out, rfl⟩
          case measure => simp [intOf]; omega
    · have hx : s = rankN ps := by
        have := HSR.out
        have hk2 : ps.drop k = [] := List.drop_of_length_le (by rw [HPN.out]; omega)
        rw [hk2] at this
        simpa [rankN] using this
      have HX := Lib.hid hx
      clear hx hsr
      go_wp2_with fail
      go_ret
      exact ⟨by rw [← HX.out]; rfl, _, rfl⟩
end Go.Proofs.YtdpnmepplkiljaaDoor
