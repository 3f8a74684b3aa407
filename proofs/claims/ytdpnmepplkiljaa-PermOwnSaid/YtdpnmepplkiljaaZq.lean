/-
  The law PermOrder returns true at every two slices of integers and every exponent, in every world, and leaves what lay as it lay.
-/
import Derived.Test.YtdpnmepplkiljaaZp
import Derived.Test.YtdpnmepplkiljaaY
namespace Go.Proofs.Ytdpnmepplkiljaa
open Go.RowKit Go.Shelf Go.Sort

def usable2 (l l' : List Int) : Bool := valI l && valI l' && decide (l'.length = l.length)

theorem usable_two (a a' : Option Addr) (n cap n' cap' : Nat) (l l' : List Int) (w : World) (h : SlI w (.slice a n cap) l) (h' : SlI w (.slice a' n' cap') l') :
    Calls Try.prog 41 #[.slice (some ⟨w.heap.size, 0, none⟩) 2 2] (w.alloc (.cells #[.slice a n cap, .slice a' n' cap'] 23)) fun e w' => e = .returned (.bool (usable2 l l')) ∧ Below w.heap.size w w' := by
  have hB := alloc_below w (.cells #[.slice a n cap, .slice a' n' cap'] 23)
  refine (usable_any w.heap.size 2 2 [⟨a, n, cap⟩, ⟨a', n', cap'⟩] [l, l'] _ (by omega) (by omega) rfl (by simp) (rds_two w ⟨a, n, cap⟩ ⟨a', n', cap'⟩) ?_).mono fun e w' ⟨he, hw⟩ => ⟨he.trans (ret_bool ?_), hB.trans (hw.mono (by simp))⟩
  · intro j hj
    match j, hj with
    | 0, _ => exact h.below hB
    | 1, _ => exact h'.below hB
  · have e0 : n = l.length := SlI.lenEq (x := ⟨a, n, cap⟩) h
    have e1 : n' = l'.length := SlI.lenEq (x := ⟨a', n', cap'⟩) h'
    rw [Bool.eq_iff_iff]
    simp only [usable2, Bool.and_eq_true, decide_eq_true_eq]
    constructor
    · rintro ⟨_, hok⟩
      have k0 := hok 0 (by omega)
      have k1 := hok 1 (by omega)
      simp only [okAt, Bool.and_eq_true, decide_eq_true_eq] at k0 k1
      exact ⟨⟨k0.1, k1.1⟩, k1.2⟩
    · rintro ⟨⟨v0, v1⟩, q1⟩
      have b0 := (of_decide_eq_true v0).2.1
      refine ⟨fun j hj => ?_, fun j hj => ?_⟩
      · match j, hj with
        | 0, _ => show n ≤ 100; omega
        | 1, _ => show n' ≤ 100; omega
      · match j, hj with
        | 0, _ => show (valI l && decide (l.length = l.length)) = true; rw [v0]; simp
        | 1, _ => show (valI l' && decide (l'.length = l.length)) = true; rw [v1, q1]; simp

theorem same_re (v v' : Value) (a b : List Nat) (w : World) (h : SlI w v (ints a)) (h' : SlI w v' (ints b)) (r : Bool) (hr : decide (a = b) = r) (d : Nat) (os : Array Obj) :
    Calls Try.prog 42 #[v, v'] (grow (redrawn w d) os) fun e w'' => e = .returned (.bool r) ∧ ∃ p : Regrown, w'' = grow (redrawn w p.d) p.os := by
  refine Calls.regrown_of ?_
  refine (same_dec v v' a b _ (h.below (below_regrown w d os)) (h'.below (below_regrown w d os)) r hr).mono ?_
  rintro e w' ⟨he, q, rfl⟩
  exact ⟨he, below_drewN' (Below.refl _ _) q⟩

set_option maxRecDepth 100000 in
set_option maxHeartbeats 1000000 in
theorem orders_no (a a' : Option Addr) (n cap n' cap' : Nat) (k : Int) (l l' : List Int) (w : World) (h : SlI w (.slice a n cap) l) (h' : SlI w (.slice a' n' cap') l') (hu : usable2 l l' = false) :
    Calls Try.prog 9 #[.slice a n cap, .slice a' n' cap', .int .i64 k] w fun e w' => e = .returned (.bool true) ∧ Below w.heap.size w w' := by
  have hs := usable_two a a' n cap n' cap' l l' w h h'
  rw [hu] at hs
  have HS := Lib.hid hs
  clear hs hu h h'
  go_enter Try.func9, Try.ntmps9
  go_wp2_with fail
  refine HS.out.mono ?_
  rintro e w1 ⟨rfl, hB1⟩
  go_wp2_with fail
  refine (alive_any _).mono ?_
  rintro e w2 ⟨rfl, hB⟩
  go_wp2_with fail
  go_ret
  exact ⟨rfl, hB1.trans (hB.mono hB1.size)⟩

/-- The powers that are the identity are those whose exponent the order divides. -/
theorem powT_one {ps : List Nat} (hp : IsPerm ps) (k : Int) : decide (iterN ps (powT ps k) = List.range ps.length) = (k.tmod (ordN ps : Int) == 0) := by
  have h1 := (ordN_facts hp).1
  have h2 := powT_eq (ordN ps) k h1
  rw [Bool.eq_iff_iff, decide_eq_true_eq, beq_iff_eq, iterN_ord_iff hp]
  have h3 : ((powT ps k : Nat) : Int) = k % (ordN ps : Int) := h2
  rw [← Int.natCast_dvd_natCast, h3, ← Int.dvd_iff_tmod_eq_zero]
  constructor
  · intro h
    have h4 : k % (ordN ps : Int) = 0 := by
      have h5 := Int.emod_nonneg k (show (ordN ps : Int) ≠ 0 by omega)
      have h6 := Int.emod_lt_of_pos k (show (0 : Int) < (ordN ps : Int) by omega)
      obtain ⟨c, hc⟩ := h
      rcases Int.lt_trichotomy c 0 with hc0 | hc0 | hc0
      · have : (ordN ps : Int) * c ≤ (ordN ps : Int) * (-1) := Int.mul_le_mul_of_nonneg_left (by omega) (by omega)
        omega
      · rw [hc, hc0, Int.mul_zero]
      · have : (ordN ps : Int) * 1 ≤ (ordN ps : Int) * c := Int.mul_le_mul_of_nonneg_left (by omega) (by omega)
        omega
    exact Int.dvd_of_emod_eq_zero h4
  · intro h
    rw [Int.emod_eq_zero_of_dvd h]
    exact Int.dvd_zero _

theorem emod_dvd {a b : Nat} (h : b ∣ a) : (a : Int) % (b : Int) = 0 := by
  rw [← Int.natCast_emod, Nat.mod_eq_zero_of_dvd h]; rfl

theorem emod_ndvd {a b : Nat} (h : ¬ b ∣ a) : ¬ (a : Int) % (b : Int) = 0 := by
  rw [← Int.natCast_emod]
  intro e
  exact h (Nat.dvd_of_mod_eq_zero (by omega))

theorem next_le {A M q len : Nat} (hM : A ∣ M) (hl : len ∣ M) (hq : A ∣ q) (hqM : q ≤ M) (hn : ¬ len ∣ q) : q + A ≤ M := by
  have hne : q ≠ M := fun e => hn (e ▸ hl)
  have h1 : A ∣ M - q := Nat.dvd_sub hM hq
  have h2 := Nat.le_of_dvd (by omega) h1
  omega

theorem lcm_last {A M q len : Nat} (hM : ∀ k, A ∣ k → len ∣ k → M ∣ k) (h1 : 1 ≤ q) (hq : A ∣ q) (hl : len ∣ q) (hqM : q ≤ M) : q = M := by
  have := Nat.le_of_dvd (by omega) (hM q hq hl)
  omega
set_option maxRecDepth 100000 in
set_option maxHeartbeats 4000000 in
theorem orders_ok (b off cap b2 off2 cap2 n : Nat) (ps qs : List Nat) (k : Int) (w : World) (hp : IsPerm ps) (hq : IsPerm qs) (hpn : ps.length = n) (hqn : qs.length = n)
    (hb : b < w.heap.size) (hb2 : b2 < w.heap.size) (hrd : RdN w b off ps) (hrd2 : RdN w b2 off2 qs) (hu : usable2 (ints ps) (ints qs) = true) :
    Calls Try.prog 9 #[.slice (some ⟨b, off, none⟩) n cap, .slice (some ⟨b2, off2, none⟩) n cap2, .int .i64 k] w fun e w' => e = .returned (.bool true) ∧ Below w.heap.size w w' := by
  have h1 : 1 ≤ n := by rw [← hpn]; exact hp.1
  have h7 : n ≤ 7 := by rw [← hpn]; exact hp.2.1
  have hsp : SlI w (.slice (some ⟨b, off, none⟩) n cap) (ints ps) := SlI.mk_perm (cap := cap) hp hpn hb hrd
  have hsq : SlI w (.slice (some ⟨b2, off2, none⟩) n cap2) (ints qs) := SlI.mk_perm (cap := cap2) hq hqn hb2 hrd2
  have hs := usable_two (some ⟨b, off, none⟩) (some ⟨b2, off2, none⟩) n cap n cap2 _ _ w hsp hsq
  rw [hu] at hs
  obtain ⟨o, ho⟩ : ∃ o, ordN ps = o := ⟨_, rfl⟩
  have hone := powT_one hp k
  have ho1 := (ordN_facts hp).1
  have ho2 := (ordN_facts hp).2.1
  rw [ho] at hone ho1 ho2
  rw [hpn] at hone
  obtain ⟨r, hr⟩ : ∃ r, (k.tmod (o : Int) == 0) = r := ⟨_, rfl⟩
  rw [hr] at hone
  have hrr : (r != r) = false := bne_self_eq_false r
  have hoz : ¬ o = 0 := by omega
  have hbd := tmod_bounds k o ho1
  have hta : -6000 ≤ k.tmod (o : Int) := by omega
  have htb : k.tmod (o : Int) ≤ 6000 := by omega
  have hoo : ((o : Int) == (o : Int)) = true := beq_self_eq_true _
  have hlt1 : decide ((o : Int) < 1) = false := decide_eq_false (by omega)
  have HS := Lib.hid hs
  have HPN := Lib.hid hpn
  have HQN := Lib.hid hqn
  have HSP := Lib.hid hsp
  have HSQ := Lib.hid hsq
  have HO := Lib.hid ho
  have HONE := Lib.hid hone
  clear hs hpn hqn hsp hsq ho hone hu hbd
  go_enter Try.func9, Try.ntmps9
  go_wp2_with fail
  refine HS.out.mono ?_
  rintro e w1 ⟨rfl, B1⟩
  clear HS
  go_wp2_with fail
  refine (identity_ok n _ h1 h7).mono ?_
  rintro e w2 ⟨g2, rfl, hg2, b2', hB2⟩
  have B2 := B1.trans (hB2.mono B1.size)
  clear B1 hB2
  go_wp2_with fail
  refine (power_at b off cap n k ps _ hp HPN.out (Nat.lt_of_lt_of_le hb B2.size) (hrd.below B2 hb)).mono ?_
  rintro e w3 ⟨g3, rfl, hg3, b3, hB3⟩
  have b23 := b2'.below hB3 b2'.lt
  have B3 := B2.trans (hB3.mono B2.size)
  clear B2 hB3 b2'
  go_wp2_with fail
  refine (order_n _ ps o _ (HSP.out.below B3) hp HO.out).mono ?_
  rintro e w4 ⟨rfl, hB4⟩
  have b24 := b23.below hB4 b23.lt
  have b34 := b3.below hB4 b3.lt
  have B4 := B3.trans (hB4.mono B3.size)
  clear B3 hB4 b23 b3
  go_wp2_with fail
  refine (cycles_sl _ ps _ (HSP.out.below B4) hp).mono ?_
  rintro e w5 ⟨lv, rfl, l5, hB5⟩
  have b25 := b24.below hB5 b24.lt
  have b35 := b34.below hB5 b34.lt
  have B5 := B4.trans (hB5.mono B4.size)
  clear B4 hB5 b24 b34
  have hil := (iterN_perm hp (powT ps k)).2.trans HPN.out
  have hV := same_re _ _ _ _ w5 (SlI.of_blk b35 hil (by omega)) (SlI.of_blk b25 List.length_range (by omega)) r HONE.out
  clear hil b25 b35
  go_wp2_with fail
  refine wp_region_quiet_below (by kernel_rfl) (by kernel_rfl) ?_
  repeat (go_big_quiet_step (exact hV _ _))
  refine wpQuiet_nil ?_
  intro _ hw'
  obtain ⟨⟨dq, osq⟩, hw''⟩ := hw'
  subst hw''
  have hB6 := below_regrown w5 dq osq
  obtain ⟨w6, hw6⟩ : ∃ w6, grow (redrawn w5 dq) osq = w6 := ⟨_, rfl⟩
  rw [hw6] at hB6 ⊢
  have l6 := l5.below hB6
  have B6 := B5.trans (hB6.mono B5.size)
  clear hw6 hV B5 hB6 l5
  obtain ⟨a, lc, rfl, hm7, hcell⟩ := l6
  obtain ⟨m, hm⟩ : ∃ m, (longs ps).length = m := ⟨_, rfl⟩
  rw [hm] at hm7 hcell
  have HM := Lib.hid hm
  have HC := Lib.hid hcell
  rw [hm]
  clear hm hcell
  go_wp2_with fail
  go_loopw [13, 14, 15] (fun av iv _ wr => ∃ i : Nat, i ≤ m ∧ iv = .int .i64 i ∧ av = .int .i64 (ordL ((longs ps).take i) : Nat) ∧ Below w6.heap.size w6 wr) (fun _ iv _ _ => m - (intOf iv).toNat)
  case atStart => exact ⟨0, Nat.zero_le _, rfl, rfl, Below.refl _ _⟩
  case round =>
    obtain ⟨i, hi, rfl, rfl, hB⟩ := hrel
    by_cases him : i < m
    · obtain ⟨lb, rfl, hlb, hcl⟩ := HC.out (by omega)
      obtain ⟨u, cu, su⟩ := hcl i him
      have hxm : (longs ps)[i]?.getD [] ∈ longs ps := by
        have : i < (longs ps).length := by rw [HM.out]; exact him
        rw [List.getElem?_eq_getElem this, Option.getD_some]; exact List.getElem_mem _
      have hlong := longs_sub hxm
      have hlen7 := ((cycFacts hp).len _ hlong.1).2
      have hdo : ((longs ps)[i]?.getD []).length ∣ o := by rw [← HO.out]; exact (ordN_facts hp).2.2.1 _ hlong.1
      have hst := longs_step ps i (by rw [HM.out]; exact him)
      obtain ⟨A, hA⟩ : ∃ A, ordL ((longs ps).take i) = A := ⟨_, rfl⟩
      obtain ⟨M, hM⟩ : ∃ M, ordL ((longs ps).take (i + 1)) = M := ⟨_, rfl⟩
      have hA12 := longs_pre hp i
      have hM12 := longs_pre hp (i + 1)
      rw [hA] at hA12 hst
      rw [hM] at hM12 hst
      obtain ⟨len, hlen⟩ : ∃ len, ((longs ps)[i]?.getD []).length = len := ⟨_, rfl⟩
      obtain ⟨ua, uc, hue, _, _⟩ := su
      subst hue
      rw [ints_length] at cu
      have hl1 := hlong.2
      rw [hlen] at hst hl1 hlen7 hdo cu
      obtain ⟨f1, f2, f3, f4⟩ := lcm_step A len hA12.1 (by omega)
      rw [← hst] at f1 f2 f3 f4
      have hod := emod_dvd hdo
      have hlz : ¬ len = 0 := by omega
      have hle0 : ((len : Int) == 0) = false := by rw [beq_eq_false_iff_ne]; omega
      have cr := (hB.cell (p := ⟨lb, i, none⟩) hlb).trans cu
      obtain ⟨hA1, hA2⟩ := hA12
      obtain ⟨hM1, hM2⟩ := hM12
      have HA := Lib.hid hA
      have HMM := Lib.hid hM
      have F1 := Lib.hid f1
      have F2 := Lib.hid f2
      have F4 := Lib.hid f4
      rw [hA]
      clear hA hM hst f1 f2 f3 f4 hlen hxm hlong hdo cu hcl
      go_wp2_with fail
      go_loop [15] (fun nv => ∃ q : Nat, nv = .int .i64 q ∧ 1 ≤ q ∧ q ≤ M ∧ A ∣ q) (fun nv => M - (intOf nv).toNat)
      case atStart => exact ⟨A, rfl, hA1, Nat.le_of_dvd (by omega) F1.out, Nat.dvd_refl _⟩
      case round =>
        obtain ⟨q, rfl, hq1, hqM, hqA⟩ := hrel
        by_cases hd : len ∣ q
        · have hqe := lcm_last F4.out hq1 hqA hd hqM
          have hqd := emod_dvd hd
          have HQE := Lib.hid hqe
          clear hd hqe hqA
          go_wp2_with fail
          go_roundw
          case rel => exact ⟨i + 1, by omega, by go_num, by rw [HMM.out, HQE.out], hB⟩
          case measure => simp [intOf]; omega
        · have hqn := next_le F1.out F2.out hqA hqM hd
          have hqd := emod_ndvd hd
          have HQA := Lib.hid (Nat.dvd_add hqA (Nat.dvd_refl A))
          clear hd hqA
          go_wp2_with fail
          go_round
          case rel => exact ⟨q + A, by go_num, by omega, hqn, HQA.out⟩
          case measure => simp [intOf]; omega
    · have hie : i = m := by omega
      subst hie
      have hall : ordL ((longs ps).take i) = o := by rw [List.take_of_length_le (by rw [HM.out]; exact Nat.le_refl _), longs_ord hp, HO.out]
      rw [hall]
      have B7 := B6.trans (hB.mono B6.size)
      obtain ⟨pp, hpp⟩ : ∃ pp, parP ps = pp := ⟨_, rfl⟩
      obtain ⟨pq, hpq⟩ : ∃ pq, parP qs = pq := ⟨_, rfl⟩
      have hpp1 : pp ≤ 1 := by rw [← hpp]; unfold parP; omega
      have hpq1 : pq ≤ 1 := by rw [← hpq]; unfold parP; omega
      have hql : qs.length = ps.length := by rw [HQN.out, HPN.out]
      have hmul : parP (mulN ps qs) = (pp + pq) % 2 := by rw [parP_mul hp hq hql, hpp, hpq]
      have hcom : parP (commN ps qs) = 0 := parP_comm hp hq hql
      have hcp := commN_perm hp hq hql
      have hmp := mulN_perm hp hq hql
      have hsum : (((pp + pq) % 2 : Nat) : Int) = ((pp : Int) + (pq : Int)) % 2 := by omega
      have h00 : ((0 : Int) == 0) = true := rfl
      obtain ⟨pm, hpm⟩ : ∃ pm, (pp + pq) % 2 = pm := ⟨_, rfl⟩
      rw [hpm] at hmul hsum
      have HPP := Lib.hid hpp
      have HPQ := Lib.hid hpq
      have HMUL := Lib.hid hmul
      have HCOM := Lib.hid hcom
      clear hpp hpq hql hmul hcom hpm hall hB B6
      go_wp2_with fail
      refine (comm_ok _ _ ps qs n _ (HSP.out.below B7) (HSQ.out.below B7) hp hq HPN.out HQN.out).mono ?_
      rintro e w8 ⟨g8, rfl, hg8, b8, hB8⟩
      have B8 := B7.trans (hB8.mono B7.size)
      clear B7 hB8
      go_wp2_with fail
      refine (parity_n _ (commN ps qs) 0 _ (SlI.of_blk b8 (by rw [commN_length]; exact HPN.out) (by omega)) hcp HCOM.out).mono ?_
      rintro e w9 ⟨rfl, hB9⟩
      have B9 := B8.trans (hB9.mono B8.size)
      clear B8 hB9 b8
      go_wp2_with fail
      refine (lmul_ok _ _ ps qs n _ (HSP.out.below B9) (HSQ.out.below B9) hp hq HPN.out HQN.out).mono ?_
      rintro e w10 ⟨g10, rfl, hg10, b10, hB10⟩
      have B10 := B9.trans (hB10.mono B9.size)
      clear B9 hB10
      go_wp2_with fail
      refine (parity_n _ (mulN ps qs) pm _ (SlI.of_blk b10 (by rw [mulN_length]; exact HPN.out) (by omega)) hmp HMUL.out).mono ?_
      rintro e w11 ⟨rfl, hB11⟩
      have B11 := B10.trans (hB11.mono B10.size)
      clear B10 hB11 b10
      go_wp2_with fail
      refine (parity_n _ ps pp _ (HSP.out.below B11) hp HPP.out).mono ?_
      rintro e w12 ⟨rfl, hB12⟩
      have B12 := B11.trans (hB12.mono B11.size)
      clear B11 hB12
      go_wp2_with fail
      refine (parity_n _ qs pq _ (HSQ.out.below B12) hq HPQ.out).mono ?_
      rintro e w13 ⟨rfl, hB13⟩
      have B13 := B12.trans (hB13.mono B12.size)
      clear B12 hB13
      go_wp2_with fail
      refine (alive_any _).mono ?_
      rintro e w14 ⟨rfl, hB14⟩
      go_wp2_with fail
      go_ret
      exact ⟨rfl, B13.trans (hB14.mono B13.size)⟩

theorem orders_any (a a' : Option Addr) (n cap n' cap' : Nat) (k : Int) (l l' : List Int) (w : World) (h : SlI w (.slice a n cap) l) (h' : SlI w (.slice a' n' cap') l') :
    Calls Try.prog 9 #[.slice a n cap, .slice a' n' cap', .int .i64 k] w fun e w' => e = .returned (.bool true) ∧ Below w.heap.size w w' := by
  by_cases hu : usable2 l l' = true
  · have hu2 := hu
    unfold usable2 at hu2
    simp only [Bool.and_eq_true, decide_eq_true_eq] at hu2
    obtain ⟨⟨v0, v1⟩, hl⟩ := hu2
    obtain ⟨ps, rfl, hp⟩ := perm_valI v0
    obtain ⟨qs, rfl, hq⟩ := perm_valI v1
    rw [ints_length, ints_length] at hl
    obtain ⟨b, off, c, hv, hb, hrd⟩ := h.perm hp
    obtain ⟨b2, off2, c2, hv2, hb2, hrd2⟩ := h'.perm hq
    rw [hv, hv2, hl]
    exact orders_ok b off c b2 off2 c2 ps.length ps qs k w hp hq rfl hl hb hb2 hrd hrd2 hu
  · exact orders_no a a' n cap n' cap' k l l' w h h' (by simpa using hu)
end Go.Proofs.Ytdpnmepplkiljaa
