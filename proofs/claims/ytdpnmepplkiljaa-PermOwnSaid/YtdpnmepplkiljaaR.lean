/-
  The law PermRanks returns true at all three integers, in every world, and leaves what lay as it lay.
-/
import Derived.Test.YtdpnmepplkiljaaP
namespace Go.Proofs.Ytdpnmepplkiljaa
open Go.RowKit

theorem alive_h (w : World) : Hid (Calls Try.prog 14 #[] w fun e w' => e = .returned (.bool true) ∧ Below w.heap.size w w') := Lib.hid (alive_any w)

theorem unrank_good (n r : Nat) (w : World) (h1 : 1 ≤ n) (h7 : n ≤ 7) (hr : r < facN n) :
    Calls Try.prog 28 #[.int .i64 n, .int .i64 r] w fun e w' => ∃ g, e = .returned (.tuple #[.slice (some ⟨g, 0, none⟩) n n, .int .i64 0]) ∧ w.heap.size ≤ g ∧ Blk w' g (unrankN n r) ∧ Below w.heap.size w w' :=
  unrank_ok n r w h1 h7 hr (unrank_lt h1 h7 hr)

theorem rank_at (g n r : Nat) (w : World) (h1 : 1 ≤ n) (h7 : n ≤ 7) (hr : r < facN n) (hb : Blk w g (unrankN n r)) :
    Calls Try.prog 47 #[.slice (some ⟨g, 0, none⟩) n n] w fun e w' => e = .returned (.tuple #[.int .i64 (r : Nat), .int .i64 0]) ∧ Below w.heap.size w w' := by
  obtain ⟨hp, he, _⟩ := unrank_facts h1 h7 hr
  have := rank_ok g 0 n n (unrankN n r) w hp (unrankN_length n r) (Nat.le_refl _) hb.lt hb.rd
  rw [he] at this
  exact this

set_option maxRecDepth 100000 in
set_option maxHeartbeats 1000000 in
theorem ranks_bad1 (n a b : Int) (w : World) (h : ¬ Ranked n a) (h' : ¬ Ranked n b) :
    Calls Try.prog 11 #[.int .i64 n, .int .i64 a, .int .i64 b] w fun e w' => e = .returned (.bool true) ∧ Below w.heap.size w w' := by
  have HA := Lib.hid (unrank_bad n a w h)
  have HB := Lib.hid (unrank_bad n b w h')
  clear h h'
  go_enter Try.func11, Try.ntmps11
  go_wp2_with fail
  refine HA.out.mono ?_
  rintro e w1 ⟨rfl, rfl⟩
  go_wp2_with fail
  refine HB.out.mono ?_
  rintro e w1 ⟨rfl, rfl⟩
  go_wp2_with fail
  refine (alive_any _).mono ?_
  rintro e w1 ⟨rfl, hB⟩
  go_wp2_with fail
  go_ret
  exact ⟨rfl, hB⟩

set_option maxRecDepth 100000 in
set_option maxHeartbeats 1000000 in
theorem ranks_bad2 (n a : Nat) (b : Int) (w : World) (h1 : 1 ≤ n) (h7 : n ≤ 7) (ha : a < facN n) (h' : ¬ Ranked n b) :
    Calls Try.prog 11 #[.int .i64 n, .int .i64 a, .int .i64 b] w fun e w' => e = .returned (.bool true) ∧ Below w.heap.size w w' := by
  have HB := fun w => Lib.hid (unrank_bad n b w h')
  have HBH := Lib.hid HB
  clear h' HB
  go_enter Try.func11, Try.ntmps11
  go_wp2_with fail
  refine (unrank_good n a _ h1 h7 ha).mono ?_
  rintro e w1 ⟨g, rfl, hg, hb, hB1⟩
  go_wp2_with fail
  refine (HBH.out _).out.mono ?_
  rintro e w2 ⟨rfl, rfl⟩
  go_wp2_with fail
  refine (alive_any _).mono ?_
  rintro e w2 ⟨rfl, hB⟩
  go_wp2_with fail
  go_ret
  exact ⟨rfl, hB1.trans (hB.mono hB1.size)⟩

set_option maxRecDepth 100000 in
set_option maxHeartbeats 1000000 in
theorem ranks_bad3 (n b : Nat) (a : Int) (w : World) (h1 : 1 ≤ n) (h7 : n ≤ 7) (hb : b < facN n) (h' : ¬ Ranked n a) :
    Calls Try.prog 11 #[.int .i64 n, .int .i64 a, .int .i64 b] w fun e w' => e = .returned (.bool true) ∧ Below w.heap.size w w' := by
  have HB := Lib.hid (unrank_bad n a w h')
  clear h'
  go_enter Try.func11, Try.ntmps11
  go_wp2_with fail
  refine HB.out.mono ?_
  rintro e w1 ⟨rfl, rfl⟩
  go_wp2_with fail
  refine (unrank_good n b _ h1 h7 hb).mono ?_
  rintro e w1 ⟨g, rfl, hg, _, hB1⟩
  go_wp2_with fail
  refine (alive_any _).mono ?_
  rintro e w2 ⟨rfl, hB⟩
  go_wp2_with fail
  go_ret
  exact ⟨rfl, hB1.trans (hB.mono hB1.size)⟩

set_option maxRecDepth 100000 in
set_option maxHeartbeats 2000000 in
theorem ranks_ok (n a b : Nat) (w : World) (h1 : 1 ≤ n) (h7 : n ≤ 7) (ha : a < facN n) (hb : b < facN n) (r : Bool) (hr : decide (a < b) = r) (hri : decide ((a : Int) < (b : Int)) = r) :
    Calls Try.prog 11 #[.int .i64 n, .int .i64 a, .int .i64 b] w fun e w' => e = .returned (.bool true) ∧ Below w.heap.size w w' := by
  have hord := unrank_order h1 h7 ha hb
  rw [hr] at hord
  have HO := Lib.hid hord
  have HRI := Lib.hid hri
  clear hord hr hri
  go_enter Try.func11, Try.ntmps11
  go_wp2_with fail
  refine (unrank_good n a _ h1 h7 ha).mono ?_
  rintro e w1 ⟨g1, rfl, hg1, b1, hB1⟩
  go_wp2_with fail
  refine (unrank_good n b _ h1 h7 hb).mono ?_
  rintro e w2 ⟨g2, rfl, hg2, b2, hB2⟩
  have c1 := b1.below hB2 b1.lt
  go_wp2_with fail
  refine (rank_at g1 n a _ h1 h7 ha c1).mono ?_
  rintro e w3 ⟨rfl, hB3⟩
  have d1 := c1.below hB3 c1.lt
  have d2 := b2.below hB3 b2.lt
  go_wp2_with fail
  refine (rank_at g2 n b _ h1 h7 hb d2).mono ?_
  rintro e w4 ⟨rfl, hB4⟩
  have e1 := d1.below hB4 d1.lt
  have e2 := d2.below hB4 d2.lt
  go_wp2_with fail
  refine (less_mid g1 0 n g2 0 n n _ _ r w4 h7 (unrankN_length n a) (unrankN_length n b) e1.rd e2.rd HO.out).mono ?_
  rintro e w5 ⟨rfl, q, rfl⟩
  have s1 := hB1.size
  have s2 := hB2.size
  have s3 := hB3.size
  have s4 := hB4.size
  have hBB := Lib.hid (((hB1.trans (hB2.mono s1)).trans (hB3.mono (by omega))).trans (hB4.mono (by omega)))
  clear hB1 hB2 hB3 hB4 b1 b2 c1 d1 d2 e1 e2
  have hri := HRI.out
  cases r with
  | true =>
    have hab : a < b := by have := of_decide_eq_true hri; omega
    clear hri
    go_wp2_with fail
    refine (alive_any _).mono ?_
    rintro e w6 ⟨rfl, hB6⟩
    go_wp2_with fail
    go_ret
    exact ⟨rfl, (below_drewN' hBB.out q).trans (hB6.mono (by simp; omega))⟩
  | false =>
    have hab : b ≤ a := by have := of_decide_eq_false hri; omega
    go_wp2_with fail
    refine (alive_any _).mono ?_
    rintro e w6 ⟨rfl, hB6⟩
    go_wp2_with fail
    go_ret
    exact ⟨ret_bool (by simp; omega), (below_drewN' hBB.out q).trans (hB6.mono (by simp; omega))⟩

theorem ranks_any (n a b : Int) (w : World) :
    Calls Try.prog 11 #[.int .i64 n, .int .i64 a, .int .i64 b] w fun e w' => e = .returned (.bool true) ∧ Below w.heap.size w w' := by
  by_cases h : Ranked n a
  · obtain ⟨m, s, rfl, rfl, h1, h7, hs⟩ := h
    by_cases h' : Ranked m b
    · obtain ⟨m', t, hm, rfl, _, _, ht⟩ := h'
      have : m = m' := by omega
      subst this
      exact ranks_ok m s t w h1 h7 hs ht _ rfl (by rw [Bool.eq_iff_iff]; simp)
    · exact ranks_bad2 m s b w h1 h7 hs h'
  · by_cases h' : Ranked n b
    · obtain ⟨m, s, rfl, rfl, h1, h7, hs⟩ := h'
      exact ranks_bad3 m s a w h1 h7 hs h
    · exact ranks_bad1 n a b w h h'
end Go.Proofs.Ytdpnmepplkiljaa
