/-
  Contracts of Mul, Inverse and Commutator of the reference at valid permutations, and of is.
-/
import Derived.Test.YtdpnmepplkiljaaS
namespace Go.Proofs.Ytdpnmepplkiljaa
open Go.RowKit

set_option maxHeartbeats 1000000 in
theorem rmul_any (b off cap b2 off2 cap2 n : Nat) (ps qs : List Nat) (w : World) (h1 : 1 ≤ n) (h7 : n ≤ 7) (hp : ps.length = n) (hq : qs.length = n) (hlt : ∀ k, k < n → ps[k]?.getD 0 < n)
    (hb : b < w.heap.size) (hb2 : b2 < w.heap.size) (hrp : RdN w b off ps) (hrq : RdN w b2 off2 qs) :
    Calls Try.prog 33 #[.slice (some ⟨b, off, none⟩) n cap, .slice (some ⟨b2, off2, none⟩) n cap2] w fun e w' =>
      ∃ g, e = .returned (.slice (some ⟨g, 0, none⟩) n n) ∧ w.heap.size ≤ g ∧ Blk w' g (mulN ps qs) ∧ Below w.heap.size w w' := by
  obtain ⟨i0, hi, hz0, hz1, hz2⟩ := info_parts Try.info3
  have HP := Lib.hid hp
  have HQ := Lib.hid hq
  have HLT := Lib.hid hlt
  clear hp hq hlt
  go_enter Try.func33, Try.ntmps33
  go_wp2_with (at_make; refine wpList_make_full _ rfl _ _ 23 rfl w.heap.size 3 i0 (.int .i64 0) 1 Try.underlying23 hi hz0 hz1 .i64 .i64 _ _ n rfl rfl rfl rfl (by rw [hz2]; omega) (by unfold maxLen; omega) (Nat.le_refl _) ?_; intro w1 hown hgrow)
  clear hi hz0 hz1 hz2
  have hB1 : Below w.heap.size w w1 := (Below.refl _ w).grown hgrow (Nat.le_refl _) (fun k e => by cases e)
  clear hgrow
  rw [thenPart_zero ps qs] at hown
  go_loopw [6] (fun i wr => ∃ k : Nat, k ≤ n ∧ i = .int .i64 k ∧ wr.ownsRow w.heap.size 3 1 (.slice (some ⟨w.heap.size, 0, none⟩) n n) n (thenPart ps qs n k) ∧ Below w.heap.size w wr) (fun i _ => n - (intOf i).toNat)
  case atStart => exact ⟨0, Nat.zero_le _, rfl, hown, hB1⟩
  case round =>
    clear hown hB1
    obtain ⟨k, hk, rfl, hown, hB⟩ := hrel
    by_cases hkn : k < n
    · have hx := HLT.out k hkn
      have c1 := hrp.below hB hb k (by rw [HP.out]; exact hkn)
      have c2 := hrq.below hB hb2 (ps[k]?.getD 0) (by rw [HQ.out]; exact hx)
      have c3 : wr.cell? ⟨w.heap.size, k, none⟩ = (thenPart ps qs n k)[k]? := hown.cellAt k (by omega)
      have c4 : (thenPart ps qs n k)[k]? = some (.int .i64 0) := by simp [thenPart, hkn]
      rw [c4] at c3
      have f3 := hown.frozenAt k
      have hst := hown.stored k (.int .i64 ((qs[ps[k]?.getD 0]?.getD 0 : Nat) : Int))
      rw [thenPart_succ ps qs n k HP.out hkn] at hst
      have HST := Lib.hid hst
      clear hst c4
      go_wp2
      go_roundw
      case rel => exact ⟨k + 1, by omega, by go_num, HST.out.1, hB.setCell (p := ⟨w.heap.size, k, none⟩) (Nat.le_refl _) _⟩
      case measure => simp [intOf]; omega
    · have hkn2 : k = n := by omega
      subst hkn2
      have hfull := hown
      rw [thenPart_full ps qs k HP.out] at hfull
      go_wp2
      go_ret
      exact ⟨_, rfl, Nat.le_refl _, Blk.of_owns hfull, hB⟩

set_option maxHeartbeats 1000000 in
theorem rinv_any (b off cap n : Nat) (ps : List Nat) (w : World) (h1 : 1 ≤ n) (h7 : n ≤ 7) (hp : ps.length = n) (hd : ps.Nodup) (hlt : ∀ k, k < n → ps[k]?.getD 0 < n)
    (hb : b < w.heap.size) (hrp : RdN w b off ps) :
    Calls Try.prog 25 #[.slice (some ⟨b, off, none⟩) n cap] w fun e w' =>
      ∃ g, e = .returned (.slice (some ⟨g, 0, none⟩) n n) ∧ w.heap.size ≤ g ∧ Blk w' g (backN ps) ∧ Below w.heap.size w w' := by
  obtain ⟨i0, hi, hz0, hz1, hz2⟩ := info_parts Try.info3
  have HP := Lib.hid hp
  have HD := Lib.hid hd
  have HLT := Lib.hid hlt
  clear hp hd hlt
  go_enter Try.func25, Try.ntmps25
  go_wp2_with (at_make; refine wpList_make_full _ rfl _ _ 23 rfl w.heap.size 3 i0 (.int .i64 0) 1 Try.underlying23 hi hz0 hz1 .i64 .i64 _ _ n rfl rfl rfl rfl (by rw [hz2]; omega) (by unfold maxLen; omega) (Nat.le_refl _) ?_; intro w1 hown hgrow)
  clear hi hz0 hz1 hz2
  have hB1 : Below w.heap.size w w1 := (Below.refl _ w).grown hgrow (Nat.le_refl _) (fun k e => by cases e)
  clear hgrow
  rw [backPart_zero ps] at hown
  go_loopw [4] (fun i wr => ∃ k : Nat, k ≤ n ∧ i = .int .i64 k ∧ wr.ownsRow w.heap.size 3 1 (.slice (some ⟨w.heap.size, 0, none⟩) n n) n (backPart ps n k) ∧ Below w.heap.size w wr) (fun i _ => n - (intOf i).toNat)
  case atStart => exact ⟨0, Nat.zero_le _, rfl, hown, hB1⟩
  case round =>
    clear hown hB1
    obtain ⟨k, hk, rfl, hown, hB⟩ := hrel
    by_cases hkn : k < n
    · have hx := HLT.out k hkn
      have c1 := hrp.below hB hb k (by rw [HP.out]; exact hkn)
      have c3 : wr.cell? ⟨w.heap.size, ps[k]?.getD 0, none⟩ = (backPart ps n k)[ps[k]?.getD 0]? := hown.cellAt _ (by omega)
      obtain ⟨v, c4⟩ : ∃ v, (backPart ps n k)[ps[k]?.getD 0]? = some v := ⟨_, List.getElem?_eq_getElem (by simp [backPart]; omega)⟩
      rw [c4] at c3
      have f3 := hown.frozenAt (ps[k]?.getD 0)
      have hst := hown.stored (ps[k]?.getD 0) (.int .i64 (k : Int))
      rw [backPart_succ ps n k HP.out HD.out hkn] at hst
      have HST := Lib.hid hst
      clear hst c4
      go_wp2
      go_roundw
      case rel => exact ⟨k + 1, by omega, by go_num, HST.out.1, hB.setCell (p := ⟨w.heap.size, _, none⟩) (Nat.le_refl _) _⟩
      case measure => simp [intOf]; omega
    · have hkn2 : k = n := by omega
      subst hkn2
      have hfull := hown
      rw [backPart_full ps k HP.out] at hfull
      go_wp2
      go_ret
      exact ⟨_, rfl, Nat.le_refl _, Blk.of_owns hfull, hB⟩

set_option maxHeartbeats 1000000 in
theorem rcomm_any (b off cap b2 off2 cap2 n : Nat) (ps qs : List Nat) (w : World) (hp : IsPerm ps) (hq : IsPerm qs) (hpn : ps.length = n) (hqn : qs.length = n)
    (hb : b < w.heap.size) (hb2 : b2 < w.heap.size) (hrd : RdN w b off ps) (hrd2 : RdN w b2 off2 qs) :
    Calls Try.prog 34 #[.slice (some ⟨b, off, none⟩) n cap, .slice (some ⟨b2, off2, none⟩) n cap2] w fun e w' => ∃ g, e = .returned (.slice (some ⟨g, 0, none⟩) n n) ∧ w.heap.size ≤ g ∧ Blk w' g (commN ps qs) ∧ Below w.heap.size w w' := by
  have h1 : 1 ≤ n := by rw [← hpn]; exact hp.1
  have h7 : n ≤ 7 := by rw [← hpn]; exact hp.2.1
  have hlp : ∀ k, k < n → ps[k]?.getD 0 < n := fun k hk => by have := hp.lt k (by rw [hpn]; exact hk); rwa [hpn] at this
  have hlq : ∀ k, k < n → qs[k]?.getD 0 < n := fun k hk => by have := hq.lt k (by rw [hqn]; exact hk); rwa [hqn] at this
  have HLP := Lib.hid hlp
  have HLQ := Lib.hid hlq
  have HPN := Lib.hid hpn
  have HQN := Lib.hid hqn
  clear hlp hlq hpn hqn
  go_enter Try.func34, Try.ntmps34
  go_wp2_with fail
  refine (rinv_any b off cap n ps w h1 h7 HPN.out hp.2.2.2 HLP.out hb hrd).mono ?_
  rintro e w2 ⟨ga, rfl, hga, hblka, hB2⟩
  have g3 := hrd.below hB2 hb
  have g4 := hrd2.below hB2 hb2
  have l3 := Nat.lt_of_lt_of_le hb hB2.size
  have l4 := Nat.lt_of_lt_of_le hb2 hB2.size
  go_wp2_with fail
  refine (rinv_any b2 off2 cap2 n qs w2 h1 h7 HQN.out hq.2.2.2 HLQ.out l4 g4).mono ?_
  rintro e w3 ⟨gb, rfl, hgb, hblkb, hB3⟩
  have hblka3 := hblka.below hB3 hblka.lt
  have g5 := g3.below hB3 l3
  have g6 := g4.below hB3 l4
  have l5 := Nat.lt_of_lt_of_le l3 hB3.size
  have l6 := Nat.lt_of_lt_of_le l4 hB3.size
  go_wp2_with fail
  refine (rmul_any ga 0 n gb 0 n n (backN ps) (backN qs) w3 h1 h7 (by rw [backN_length]; exact HPN.out) (by rw [backN_length]; exact HQN.out) (backN_lt ps n HPN.out) hblka3.lt hblkb.lt hblka3.rd hblkb.rd).mono ?_
  rintro e w4 ⟨gc, rfl, hgc, hblkc, hB4⟩
  have g7 := g5.below hB4 l5
  have g8 := g6.below hB4 l6
  have l7 := Nat.lt_of_lt_of_le l5 hB4.size
  have l8 := Nat.lt_of_lt_of_le l6 hB4.size
  go_wp2_with fail
  refine (rmul_any b off cap b2 off2 cap2 n ps qs w4 h1 h7 HPN.out HQN.out HLP.out l7 l8 g7 g8).mono ?_
  rintro e w5 ⟨gd, rfl, hgd, hblkd, hB5⟩
  have hblkc5 := hblkc.below hB5 hblkc.lt
  go_wp2_with fail
  refine (rmul_any gc 0 n gd 0 n n (mulN (backN ps) (backN qs)) (mulN ps qs) w5 h1 h7 (by rw [mulN_length, backN_length]; exact HPN.out) (by rw [mulN_length]; exact HPN.out)
    (mulN_lt _ _ n (by rw [backN_length]; exact HPN.out) (backN_lt ps n HPN.out) (backN_lt qs n HQN.out)) hblkc5.lt hblkd.lt hblkc5.rd hblkd.rd).mono ?_
  rintro e w6 ⟨ge, rfl, hge, hblke, hB6⟩
  have s2 := hB2.size
  have s3 := hB3.size
  have s4 := hB4.size
  have s5 := hB5.size
  go_wp2_with fail
  go_ret
  exact ⟨ge, rfl, by omega, hblke, (((hB2.trans (hB3.mono (by omega))).trans (hB4.mono (by omega))).trans (hB5.mono (by omega))).trans (hB6.mono (by omega))⟩

/-! ### is -/
theorem is_ok (v v' : Value) (l l' : List Int) (w : World) (h : SlI w v l) (h' : SlI w v' l') (he : l = l') :
    Calls Try.prog 21 #[v, .int .i64 0, v', .int .i64 0] w fun e w' => e = .returned (.bool true) ∧ ∃ q, w' = w.drewN q := by
  have hs := same_yes v v' l l' w h h' he
  have HS := Lib.hid hs
  clear hs
  go_enter Try.func21, Try.ntmps21
  go_wp2_with fail
  refine HS.out.mono ?_
  rintro e w1 ⟨rfl, q, rfl⟩
  go_wp2_with fail
  go_ret
  exact ⟨rfl, _, rfl⟩

theorem is_bad (v' : Value) (c : Int) (w : World) (hc : (c != 0) = true) (_hc : (c == 0) = false) :
    Calls Try.prog 21 #[.slice none 0 0, .int .i64 c, v', .int .i64 c] w fun e w' => e = .returned (.bool true) ∧ w' = w := by
  have he : (c == c) = true := beq_self_eq_true _
  go_enter Try.func21, Try.ntmps21
  go_wp2
  go_ret
  exact ⟨rfl, rfl⟩
end Go.Proofs.Ytdpnmepplkiljaa
