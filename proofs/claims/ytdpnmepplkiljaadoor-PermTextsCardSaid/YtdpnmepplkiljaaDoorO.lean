/-
  Contracts of smaller and Rank of package perm and of ref.Less, and what ranks are, plainly.
-/
import Derived.Test.YtdpnmepplkiljaaDoorK
namespace Go.Proofs.YtdpnmepplkiljaaDoor
open Go.RowKit

def smallerN (t : List Nat) (x : Nat) : Nat := (t.filter fun y => decide (y < x)).length
theorem smallerN_le (t : List Nat) (x : Nat) : smallerN t x ≤ t.length := List.length_filter_le _ _
theorem smallerN_snoc (t : List Nat) (y x : Nat) : smallerN (t ++ [y]) x = smallerN t x + if y < x then 1 else 0 := by
  unfold smallerN
  rw [List.filter_append]
  by_cases h : y < x <;> simp [h]

theorem take_snocN (l : List Nat) (k : Nat) (h : k < l.length) : l.take (k + 1) = l.take k ++ [l[k]?.getD 0] := by
  rw [List.take_succ_eq_append_getElem h]; simp [h]

theorem smaller_zero (a : Option Addr) (cap : Nat) (x : Nat) (w : World) :
    Calls Tryd.prog 28 #[.slice a 0 cap, .int .i64 x] w fun e w' => e = .returned (.int .i64 (0 : Nat)) ∧ w = w' := by
  go_enter Tryd.func28, Tryd.ntmps28
  go_wp2
  refine wp_loop_rounds 1 ?_
  rw [rounds_succ]
  go_wp2
  go_ret
  exact ⟨rfl, rfl⟩

theorem smaller_mid (b off cap n : Nat) (t : List Nat) (x : Nat) (w : World) (hn : n ≤ 7) (ht : t.length = n) (hr : RdN w b off t) :
    Calls Tryd.prog 28 #[.slice (some ⟨b, off, none⟩) n cap, .int .i64 x] w fun e w' => e = .returned (.int .i64 (smallerN t x : Nat)) ∧ w = w' := by
  have HT := Lib.hid ht
  clear ht
  go_enter Tryd.func28, Tryd.ntmps28
  go_wp2
  go_loop [5, 10] (fun c i => ∃ k : Nat, k ≤ n ∧ i = .int .i64 k ∧ c = .int .i64 (smallerN (t.take k) x : Nat)) (fun _ i => n - (intOf i).toNat)
  case atStart => exact ⟨0, Nat.zero_le _, rfl, rfl⟩
  case round =>
    obtain ⟨k, hk, rfl, rfl⟩ := hrel
    have hle := smallerN_le (t.take k) x
    have hl2 : (t.take k).length ≤ k := List.length_take_le _ _
    by_cases hkn : k < n
    · have hkl : k < t.length := by rw [HT.out]; exact hkn
      have c1 := hr k hkl
      obtain ⟨y, hy⟩ : ∃ y, t[k]?.getD 0 = y := ⟨_, rfl⟩
      have hs : smallerN (t.take (k + 1)) x = smallerN (t.take k) x + if y < x then 1 else 0 := by rw [take_snocN t k hkl, smallerN_snoc, hy]
      rw [hy] at c1
      have HS := Lib.hid hs
      clear hs hy hkl
      by_cases hyx : y < x
      · have hs2 := HS.out
        rw [if_pos hyx] at hs2
        have HS2 := Lib.hid hs2
        clear hs2
        go_wp2
        go_round
        case rel => exact ⟨k + 1, by omega, by go_num, by rw [HS2.out]; go_num⟩
        case measure => simp [intOf]; omega
      · have hs2 := HS.out
        rw [if_neg hyx] at hs2
        have HS2 := Lib.hid hs2
        clear hs2
        go_wp2
        go_round
        case rel => exact ⟨k + 1, by omega, by go_num, by rw [HS2.out]; rfl⟩
        case measure => simp [intOf]; omega
    · have hx : smallerN (t.take k) x = smallerN t x := by rw [List.take_of_length_le (by rw [HT.out]; omega)]
      have HX := Lib.hid hx
      clear hx
      go_wp2
      go_ret
      exact ⟨ret_int (congrArg Nat.cast HX.out), rfl⟩

theorem smaller_any (b off cap n : Nat) (t : List Nat) (x m : Nat) (w : World) (hn : n ≤ 7) (ht : t.length = n) (hr : RdN w b off t) (hm : smallerN t x = m) :
    Calls Tryd.prog 28 #[.slice (some ⟨b, off, none⟩) n cap, .int .i64 x] w fun e w' => e = .returned (.int .i64 (m : Nat)) ∧ w = w' := by
  rw [← hm]; exact smaller_mid b off cap n t x w hn ht hr

theorem smaller_cut (a : Option Addr) (cap n : Nat) (y : Nat) (w : World) (hn : n = 0) :
    Calls Tryd.prog 28 #[.slice a n cap, .int .i64 y] w fun e w' => e = .returned (.int .i64 (0 : Nat)) ∧ w = w' := by
  rw [hn]; exact smaller_zero a cap y w

def rankN : List Nat → Nat
  | [] => 0
  | x :: t => smallerN t x * facN t.length + rankN t

theorem rankN_lt : ∀ l : List Nat, rankN l < facN l.length
  | [] => by decide
  | x :: t => by
    have h1 := rankN_lt t
    have h2 := Nat.mul_le_mul_right (facN t.length) (smallerN_le t x)
    show smallerN t x * facN t.length + rankN t < (t.length + 1) * facN t.length
    rw [Nat.add_mul]
    omega

theorem rankN_drop (ps : List Nat) (k : Nat) (h : k < ps.length) : rankN (ps.drop k) = smallerN (ps.drop (k + 1)) (ps[k]?.getD 0) * facN (ps.length - (k + 1)) + rankN (ps.drop (k + 1)) := by
  rw [List.drop_eq_getElem_cons h]
  simp [rankN, h]

theorem RdN.drop {w : World} {b off : Nat} {ps : List Nat} (h : RdN w b off ps) (k : Nat) : RdN w b (off + k) (ps.drop k) := fun j hj => by
  have h2 := h (k + j) (by simp at hj; omega)
  rw [Nat.add_assoc, h2]
  simp

theorem rank_bad (v : Value) (l : List Int) (w : World) (h : SlI w v l) (hn : valI l = false) :
    Calls Tryd.prog 11 #[v] w fun e w' => e = .returned (.tuple #[.int .i64 0, .int .i64 1]) ∧ Below w.heap.size w w' := by
  go_enter Tryd.func11, Tryd.ntmps11
  go_wp2_with fail
  refine (valid_no v l _ h hn).mono ?_
  rintro e w1 ⟨rfl, hB1⟩
  go_wp2_with fail
  go_ret2
  exact ⟨rfl, hB1⟩

set_option maxHeartbeats 1000000 in
theorem rank_ok (b off cap n : Nat) (ps : List Nat) (w : World) (hp : IsPerm ps) (hpn : ps.length = n) (hcap : n ≤ cap) (hb : b < w.heap.size) (hrd : RdN w b off ps) :
    Calls Tryd.prog 11 #[.slice (some ⟨b, off, none⟩) n cap] w fun e w' => e = .returned (.tuple #[.int .i64 (rankN ps : Nat), .int .i64 0]) ∧ Below w.heap.size w w' := by
  have hv := valid_yes (.slice (some ⟨b, off, none⟩) n cap) (ints ps) w ⟨some ⟨b, off, none⟩, cap, by rw [ints_length, hpn], by rw [ints_length]; have := hp.2.1; omega, fun _ => ⟨b, off, rfl, hb, hrd.int⟩⟩ (valI_perm hp)
  have h1 : 1 ≤ n := by rw [← hpn]; exact hp.1
  have h7 : n ≤ 7 := by rw [← hpn]; exact hp.2.1
  have hrl := rankN_lt ps
  have hfl := facN_le n h7
  rw [hpn] at hrl
  have HV := Lib.hid hv
  have HPN := Lib.hid hpn
  clear hv hpn
  go_enter Tryd.func11, Tryd.ntmps11
  go_wp2_with fail
  refine HV.out.mono ?_
  rintro e w1 ⟨rfl, hB1⟩
  have g1 := hrd.below hB1 hb
  clear HV
  go_wp2_with fail
  go_loop [4, 12] (fun r i => ∃ k s : Nat, k ≤ n ∧ i = .int .i64 k ∧ r = .int .i64 s ∧ s + rankN (ps.drop k) = rankN ps) (fun _ i => n - (intOf i).toNat)
  case atStart => exact ⟨0, 0, Nat.zero_le _, rfl, rfl, by rw [List.drop_zero, Nat.zero_add]⟩
  case round =>
    obtain ⟨k, s, hk, rfl, rfl, hsr⟩ := hrel
    have HSR := Lib.hid hsr
    by_cases hkn : k < n
    · have hkl : k < ps.length := by rw [HPN.out]; exact hkn
      have c1 := g1 k hkl
      obtain ⟨j, hj⟩ : ∃ j, n - (k + 1) = j := ⟨_, rfl⟩
      have hd := rankN_drop ps k hkl
      rw [HPN.out, hj] at hd
      obtain ⟨x, hx⟩ : ∃ x, ps[k]?.getD 0 = x := ⟨_, rfl⟩
      obtain ⟨m, hm⟩ : ∃ m, smallerN (ps.drop (k + 1)) x = m := ⟨_, rfl⟩
      rw [hx] at c1 hd
      rw [hm] at hd
      obtain ⟨q, hq⟩ : ∃ q, m * facN j = q := ⟨_, rfl⟩
      rw [hq] at hd
      have hdl : (ps.drop (k + 1)).length = j := by rw [List.length_drop, HPN.out]; exact hj
      have hb1 : s + q ≤ 5040 := by omega
      have hq1 : q ≤ 5040 := by omega
      have hrel2 : s + q + rankN (ps.drop (k + 1)) = rankN ps := by omega
      have hj7 : j ≤ 7 := by omega
      have hjn : (n : Int) - 1 - k = j := by omega
      have hq2 : (m : Int) * (facN j : Int) = (q : Int) := by rw [← hq]; simp
      have hsm : m ≤ 7 := by rw [← hm]; have := smallerN_le (ps.drop (k + 1)) x; omega
      have HREL := Lib.hid hrel2
      have HM := Lib.hid hm
      have HDL := Lib.hid hdl
      have HJN := Lib.hid hjn
      have HQ2 := Lib.hid hq2
      have g2 := g1.drop (k + 1)
      have hjn1 : j + (k + 1) ≤ n := by omega
      have hjn2 : n ≤ j + (k + 1) := by omega
      clear hsr hd hx hm hq hdl hrel2 hj hjn hq2 hkl
      by_cases hlast : cap = k + 1
      · subst hlast
        have hd0 : ps.drop (k + 1) = [] := List.drop_of_length_le (by rw [HPN.out]; omega)
        have hm0 : m = 0 := by rw [← HM.out, hd0]; rfl
        subst hm0
        have hn0 : n - (k + 1) = 0 := by omega
        have hq0 : q = 0 := by have := HQ2.out; simp at this; omega
        have HQ0 := Lib.hid hq0
        clear hd0 hq0 hn0
        go_wp2_with fail
        refine (smaller_cut _ _ _ _ _ (by omega)).mono ?_
        rintro e w' ⟨rfl, rfl⟩
        go_wp2_with fail
        refine (factorial_nat _ j HJN.out _ hj7).mono ?_
        rintro e w' ⟨rfl, rfl⟩
        go_wp2_with fail
        go_round
        case rel => exact ⟨k + 1, s + q, by omega, by go_num, by rw [HQ0.out]; go_num, HREL.out⟩
        case measure => simp [intOf]; omega
      · have hqa : 0 ≤ (m : Int) * (facN j : Int) := by rw [HQ2.out]; omega
        have hqb : (m : Int) * (facN j : Int) ≤ 5040 := by rw [HQ2.out]; omega
        have hqc : (s : Int) + (m : Int) * (facN j : Int) ≤ 5040 := by rw [HQ2.out]; omega
        have hcl : k + 1 < cap := by omega
        have hsv : (s : Int) + (m : Int) * (facN j : Int) = ((s + q : Nat) : Int) := by rw [HQ2.out]; simp
        have HSV := Lib.hid hsv
        clear hsv hlast
        go_wp2_with fail
        refine (smaller_any b (off + (k + 1)) (cap - (k + 1)) (n - (k + 1)) (ps.drop (k + 1)) x m w1 (by omega) (by rw [HDL.out]; omega) g2 HM.out).mono ?_
        rintro e w' ⟨rfl, rfl⟩
        go_wp2_with fail
        refine (factorial_nat _ j HJN.out _ hj7).mono ?_
        rintro e w' ⟨rfl, rfl⟩
        go_wp2_with fail
        go_round
        case rel => exact ⟨k + 1, s + q, by omega, by go_num, by rw [← HSV.out], HREL.out⟩
        case measure => simp [intOf]; omega
    · have hx : s = rankN ps := by
        have := HSR.out
        have hk2 : ps.drop k = [] := List.drop_of_length_le (by rw [HPN.out]; omega)
        rw [hk2] at this
        simpa [rankN] using this
      have HX := Lib.hid hx
      clear hx hsr
      go_wp2_with fail
      go_ret2
      exact ⟨by rw [← HX.out]; rfl, hB1⟩
end Go.Proofs.YtdpnmepplkiljaaDoor
