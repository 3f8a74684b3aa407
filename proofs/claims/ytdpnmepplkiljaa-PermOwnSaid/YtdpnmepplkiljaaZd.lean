/-
  The two ways to count out a permutation agree at every rank, by enumeration; and the law PermMakes.
-/
import Derived.Test.YtdpnmepplkiljaaZc
import Derived.Test.YtdpnmepplkiljaaR
namespace Go.Proofs.Ytdpnmepplkiljaa
open Go.RowKit

def eqB : List Nat → List Nat → Bool
  | [], [] => true
  | x :: t, y :: u => Nat.beq x y && eqB t u
  | _, _ => false

theorem eqB_eq : ∀ {a b : List Nat}, eqB a b = true → a = b
  | [], [], _ => rfl
  | x :: t, y :: u, h => by
    unfold eqB at h
    rw [Bool.and_eq_true] at h
    rw [beqI.1 h.1, eqB_eq h.2]

def chunkE (n : Nat) : Nat → Nat → Bool
  | 0, _ => true
  | c + 1, r => eqB (runR n (List.range n) r) (unrankN n r) && chunkE n c (r + 1)

theorem chunkE_at (n : Nat) : ∀ (c r : Nat), chunkE n c r = true → ∀ i, i < c → runR n (List.range n) (r + i) = unrankN n (r + i)
  | 0, _, _, _, h => absurd h (by omega)
  | c + 1, r, h, i, hi => by
    unfold chunkE at h
    rw [Bool.and_eq_true] at h
    match i with
    | 0 => exact eqB_eq h.1
    | i + 1 =>
      have := chunkE_at n c (r + 1) h.2 i (by omega)
      rw [show r + 1 + i = r + (i + 1) by omega] at this
      exact this

theorem e70 : chunkE 7 1008 0 = true := by decide +kernel
theorem e71 : chunkE 7 1008 1008 = true := by decide +kernel
theorem e72 : chunkE 7 1008 2016 = true := by decide +kernel
theorem e73 : chunkE 7 1008 3024 = true := by decide +kernel
theorem e74 : chunkE 7 1008 4032 = true := by decide +kernel

theorem runR_7 (r : Nat) (hr : r < 5040) : runR 7 (List.range 7) r = unrankN 7 r := by
  have pick : ∀ s, chunkE 7 1008 s = true → s ≤ r → r < s + 1008 → runR 7 (List.range 7) r = unrankN 7 r := fun s h h1 h2 => by
    have := chunkE_at 7 1008 s h (r - s) (by omega)
    rwa [show s + (r - s) = r by omega] at this
  by_cases h0 : r < 1008
  · exact pick 0 e70 (by omega) (by omega)
  by_cases h1 : r < 2016
  · exact pick 1008 e71 (by omega) (by omega)
  by_cases h2 : r < 3024
  · exact pick 2016 e72 (by omega) (by omega)
  by_cases h3 : r < 4032
  · exact pick 3024 e73 (by omega) (by omega)
  · exact pick 4032 e74 (by omega) (by omega)

theorem runR_small (n c : Nat) (h : chunkE n c 0 = true) (hc : facN n = c) (r : Nat) (hr : r < facN n) : runR n (List.range n) r = unrankN n r := by
  have := chunkE_at n c 0 h r (by omega)
  rwa [Nat.zero_add] at this

theorem runR_eq : ∀ n, 1 ≤ n → n ≤ 7 → ∀ r, r < facN n → runR n (List.range n) r = unrankN n r
  | 1, _, _ => runR_small 1 1 (by decide +kernel) rfl
  | 2, _, _ => runR_small 2 2 (by decide +kernel) rfl
  | 3, _, _ => runR_small 3 6 (by decide +kernel) rfl
  | 4, _, _ => runR_small 4 24 (by decide +kernel) rfl
  | 5, _, _ => runR_small 5 120 (by decide +kernel) rfl
  | 6, _, _ => runR_small 6 720 (by decide +kernel) rfl
  | 7, _, _ => fun r hr => runR_7 r hr
  | n + 8, _, h => absurd h (by omega)

theorem SlI.of_owns {w : World} {base g n cap : Nat} {ps : List Nat} (h : w.ownsRow base 3 1 (.slice (some ⟨g, 0, none⟩) n cap) n (natCells ps)) (hn : ps.length = n) (hm : n ≤ 9223372036854775807) : SlI w (.slice (some ⟨g, 0, none⟩) n cap) (ints ps) := by
  refine ⟨some ⟨g, 0, none⟩, cap, by rw [ints_length, hn], by rw [ints_length, hn]; exact hm, fun _ => ⟨g, 0, rfl, (h.lt g rfl).2, RdN.int fun j hj => ?_⟩⟩
  rw [Nat.zero_add, h.cellAt j (by omega)]
  exact natCells_get ps j hj

theorem runrank_good (n r : Nat) (w : World) (h1 : 1 ≤ n) (h7 : n ≤ 7) (hr : r < facN n) :
    Calls Try.prog 31 #[.int .i64 n, .int .i64 r] w fun e w' => ∃ v, e = .returned v ∧ SlI w' v (ints (unrankN n r)) ∧ Below w.heap.size w w' := by
  refine (runrank_ok n r w h1 h7 hr).mono ?_
  rintro e w' ⟨g, cap, rfl, hown, hB⟩
  rw [runR_eq n h1 h7 r hr] at hown
  exact ⟨_, rfl, SlI.of_owns hown (unrankN_length n r) (by omega), hB⟩

theorem is_okb (v v' : Value) (l l' : List Int) (w : World) (h : SlI w v l) (h' : SlI w v' l') (he : l = l') :
    Calls Try.prog 21 #[v, .int .i64 0, v', .int .i64 0] w fun e w' => e = .returned (.bool true) ∧ Below w.heap.size w w' :=
  (is_ok v v' l l' w h h' he).mono fun _ _ ⟨he, q, hw⟩ => ⟨he, hw ▸ below_drewN' (Below.refl _ w) q⟩

set_option maxRecDepth 100000 in
set_option maxHeartbeats 1000000 in
theorem makes_n (n r : Int) (w : World) (hn : n < 1 ∨ 7 < n) :
    Calls Try.prog 4 #[.int .i64 n, .int .i64 r] w fun e w' => e = .returned (.bool true) ∧ Below w.heap.size w w' := by
  have HI := Lib.hid (identity_bad n w hn)
  have HU := Lib.hid (unrank_n n r w hn)
  rcases hn with hn | hn
  · go_enter Try.func4, Try.ntmps4
    go_wp2_with fail
    refine HI.out.mono ?_
    rintro e w1 ⟨rfl, rfl⟩
    go_wp2_with fail
    refine HU.out.mono ?_
    rintro e w1 ⟨rfl, rfl⟩
    go_wp2_with fail
    refine (is_bad _ 2 _ rfl rfl).mono ?_
    rintro e w1 ⟨rfl, rfl⟩
    go_wp2_with fail
    refine (is_bad _ 2 _ rfl rfl).mono ?_
    rintro e w1 ⟨rfl, rfl⟩
    go_wp2_with fail
    refine (alive_any _).mono ?_
    rintro e w1 ⟨rfl, hB⟩
    go_wp2_with fail
    go_ret
    exact ⟨rfl, hB⟩
  · have h1 : 1 ≤ n := by omega
    go_enter Try.func4, Try.ntmps4
    go_wp2_with fail
    refine HI.out.mono ?_
    rintro e w1 ⟨rfl, rfl⟩
    go_wp2_with fail
    refine HU.out.mono ?_
    rintro e w1 ⟨rfl, rfl⟩
    go_wp2_with fail
    refine (is_bad _ 2 _ rfl rfl).mono ?_
    rintro e w1 ⟨rfl, rfl⟩
    go_wp2_with fail
    refine (is_bad _ 2 _ rfl rfl).mono ?_
    rintro e w1 ⟨rfl, rfl⟩
    go_wp2_with fail
    refine (alive_any _).mono ?_
    rintro e w1 ⟨rfl, hB⟩
    go_wp2_with fail
    go_ret
    exact ⟨rfl, hB⟩

set_option maxRecDepth 100000 in
set_option maxHeartbeats 1000000 in
theorem makes_neg (n : Nat) (r : Int) (w : World) (h1 : 1 ≤ n) (h7 : n ≤ 7) (hr : r < 0) :
    Calls Try.prog 4 #[.int .i64 n, .int .i64 r] w fun e w' => e = .returned (.bool true) ∧ Below w.heap.size w w' := by
  go_enter Try.func4, Try.ntmps4
  go_wp2_with fail
  refine (identity_ok n w h1 h7).mono ?_
  rintro e w1 ⟨g1, rfl, hg1, b1, hB1⟩
  have s1 := hB1.size
  go_wp2_with fail
  refine (unrank_neg n r w1 h1 h7 hr).mono ?_
  rintro e w2 ⟨rfl, rfl⟩
  go_wp2_with fail
  refine (rident_any n _ h7).mono ?_
  rintro e w3 ⟨g3, rfl, hg3, b3, hB3⟩
  have b13 := b1.below hB3 b1.lt
  have HB3 := hB1.trans (hB3.mono s1)
  have s3 := HB3.size
  clear hB1 hB3 b1
  go_wp2_with fail
  refine (is_okb _ _ _ _ w3 (SlI.of_blk b13 List.length_range (by omega)) (SlI.of_blk b3 List.length_range (by omega)) rfl).mono ?_
  rintro e w4 ⟨rfl, hB4⟩
  go_wp2_with fail
  refine (is_bad _ 2 _ rfl rfl).mono ?_
  rintro e w5 ⟨rfl, rfl⟩
  have HB4 := HB3.trans (hB4.mono s3)
  clear HB3 hB4
  go_wp2_with fail
  refine (alive_any _).mono ?_
  rintro e w6 ⟨rfl, hB6⟩
  go_wp2_with fail
  go_ret
  exact ⟨rfl, HB4.trans (hB6.mono HB4.size)⟩

set_option maxRecDepth 100000 in
set_option maxHeartbeats 1000000 in
theorem makes_big (n r : Nat) (w : World) (h1 : 1 ≤ n) (h7 : n ≤ 7) (hr : facN n ≤ r) :
    Calls Try.prog 4 #[.int .i64 n, .int .i64 r] w fun e w' => e = .returned (.bool true) ∧ Below w.heap.size w w' := by
  have hri : ((facN n : Nat) : Int) ≤ (r : Int) := by omega
  go_enter Try.func4, Try.ntmps4
  go_wp2_with fail
  refine (identity_ok n w h1 h7).mono ?_
  rintro e w1 ⟨g1, rfl, hg1, b1, hB1⟩
  have s1 := hB1.size
  go_wp2_with fail
  refine (unrank_big n r w1 h1 h7 hri).mono ?_
  rintro e w2 ⟨rfl, rfl⟩
  go_wp2_with fail
  refine (rfact_any n _ h7).mono ?_
  rintro e w2 ⟨rfl, rfl⟩
  go_wp2_with fail
  refine (rident_any n _ h7).mono ?_
  rintro e w3 ⟨g3, rfl, hg3, b3, hB3⟩
  have b13 := b1.below hB3 b1.lt
  have HB3 := hB1.trans (hB3.mono s1)
  have s3 := HB3.size
  clear hB1 hB3 b1
  go_wp2_with fail
  refine (is_okb _ _ _ _ w3 (SlI.of_blk b13 List.length_range (by omega)) (SlI.of_blk b3 List.length_range (by omega)) rfl).mono ?_
  rintro e w4 ⟨rfl, hB4⟩
  go_wp2_with fail
  refine (is_bad _ 2 _ rfl rfl).mono ?_
  rintro e w5 ⟨rfl, rfl⟩
  have HB4 := HB3.trans (hB4.mono s3)
  clear HB3 hB4
  go_wp2_with fail
  refine (alive_any _).mono ?_
  rintro e w6 ⟨rfl, hB6⟩
  go_wp2_with fail
  go_ret
  exact ⟨rfl, HB4.trans (hB6.mono HB4.size)⟩

set_option maxRecDepth 100000 in
set_option maxHeartbeats 1000000 in
theorem makes_ok (n r : Nat) (w : World) (h1 : 1 ≤ n) (h7 : n ≤ 7) (hr : r < facN n) :
    Calls Try.prog 4 #[.int .i64 n, .int .i64 r] w fun e w' => e = .returned (.bool true) ∧ Below w.heap.size w w' := by
  go_enter Try.func4, Try.ntmps4
  go_wp2_with fail
  refine (identity_ok n w h1 h7).mono ?_
  rintro e w1 ⟨g1, rfl, hg1, b1, hB1⟩
  have s1 := hB1.size
  go_wp2_with fail
  refine (unrank_good n r w1 h1 h7 hr).mono ?_
  rintro e w2 ⟨g2, rfl, hg2, b2, hB2⟩
  have b12 := b1.below hB2 b1.lt
  have HB2 := hB1.trans (hB2.mono s1)
  have s2 := HB2.size
  clear hB1 hB2 b1
  go_wp2_with fail
  refine (rfact_any n _ h7).mono ?_
  rintro e w' ⟨rfl, rfl⟩
  go_wp2_with fail
  refine (rident_any n _ h7).mono ?_
  rintro e w3 ⟨g3, rfl, hg3, b3, hB3⟩
  have b13 := b12.below hB3 b12.lt
  have b23 := b2.below hB3 b2.lt
  have HB3 := HB2.trans (hB3.mono s2)
  have s3 := HB3.size
  clear HB2 hB3 b12 b2
  go_wp2_with fail
  refine (is_okb _ _ _ _ w3 (SlI.of_blk b13 List.length_range (by omega)) (SlI.of_blk b3 List.length_range (by omega)) rfl).mono ?_
  rintro e w4 ⟨rfl, hB4⟩
  have b24 := b23.below hB4 b23.lt
  have HB4 := HB3.trans (hB4.mono s3)
  have s4 := HB4.size
  clear HB3 hB4 b13 b3 b23
  go_wp2_with fail
  refine (runrank_good n r w4 h1 h7 hr).mono ?_
  rintro e w5 ⟨v5, rfl, sl5, hB5⟩
  have b25 := b24.below hB5 b24.lt
  have HB5 := HB4.trans (hB5.mono s4)
  have s5 := HB5.size
  clear HB4 hB5 b24
  go_wp2_with fail
  refine (is_okb _ _ _ _ w5 (SlI.of_blk b25 (unrankN_length n r) (by omega)) sl5 rfl).mono ?_
  rintro e w6 ⟨rfl, hB6⟩
  have HB6 := HB5.trans (hB6.mono s5)
  clear HB5 hB6 b25 sl5
  go_wp2_with fail
  refine (alive_any _).mono ?_
  rintro e w7 ⟨rfl, hB7⟩
  go_wp2_with fail
  go_ret
  exact ⟨rfl, HB6.trans (hB7.mono HB6.size)⟩

theorem makes_any (n r : Int) (w : World) :
    Calls Try.prog 4 #[.int .i64 n, .int .i64 r] w fun e w' => e = .returned (.bool true) ∧ Below w.heap.size w w' := by
  by_cases hn : n < 1 ∨ 7 < n
  · exact makes_n n r w hn
  · obtain ⟨m, rfl⟩ := Int.eq_ofNat_of_zero_le (show 0 ≤ n by omega)
    by_cases hr : r < 0
    · exact makes_neg m r w (by omega) (by omega) hr
    · obtain ⟨s, rfl⟩ := Int.eq_ofNat_of_zero_le (show 0 ≤ r by omega)
      by_cases hs : s < facN m
      · exact makes_ok m s w (by omega) (by omega) hs
      · exact makes_big m s w (by omega) (by omega) (by omega)
end Go.Proofs.Ytdpnmepplkiljaa
