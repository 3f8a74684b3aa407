/-
  Contracts of Order and Power of the reference at valid permutations; and Power of package perm, whose images are those of the same power.
-/
import Derived.Test.YtdpnmepplkiljaaN
import Derived.Test.YtdpnmepplkiljaaZf
import Derived.Test.YtdpnmepplkiljaaZa
namespace Go.Proofs.Ytdpnmepplkiljaa
open Go.RowKit Go.Shelf

/-! ### ref.Order -/
theorem ints_inj {a b : List Nat} (h : ints a = ints b) : a = b := by
  have hl : a.length = b.length := by rw [← ints_length a, h, ints_length]
  refine ext_getD a b b.length hl rfl (fun k _ => ?_)
  have := congrArg (fun l => l[k]?.getD 0) h
  simp only [ints_get] at this
  exact Int.ofNat.inj this

theorem same_dec (v v' : Value) (a b : List Nat) (w : World) (h : SlI w v (ints a)) (h' : SlI w v' (ints b)) (r : Bool) (hr : decide (a = b) = r) :
    Calls Try.prog 42 #[v, v'] w fun e w' => e = .returned (.bool r) ∧ ∃ q, w' = w.drewN q := by
  have := same_any v v' _ _ w h h'
  have he : decide (ints a = ints b) = r := by
    rw [← hr, Bool.eq_iff_iff, decide_eq_true_eq, decide_eq_true_eq]
    exact ⟨ints_inj, fun e => by rw [e]⟩
  rwa [he] at this

theorem ord_lt_ne {ps : List Nat} (hp : IsPerm ps) (k : Nat) (h1 : 1 ≤ k) (hk : k < ordN ps) : iterN ps k ≠ List.range ps.length := fun h => by
  have := Nat.le_of_dvd (by omega) ((iterN_ord_iff hp k).1 h)
  omega

theorem ord_eq {ps : List Nat} (hp : IsPerm ps) : iterN ps (ordN ps) = List.range ps.length := (iterN_ord_iff hp _).2 (Nat.dvd_refl _)

set_option maxRecDepth 100000 in
set_option maxHeartbeats 1000000 in
theorem rorder_ok (b off cap n : Nat) (ps : List Nat) (w : World) (hp : IsPerm ps) (hpn : ps.length = n) (hb : b < w.heap.size) (hrd : RdN w b off ps) :
    Calls Try.prog 22 #[.slice (some ⟨b, off, none⟩) n cap] w fun e w' => e = .returned (.int .i64 (ordN ps : Nat)) ∧ Below w.heap.size w w' := by
  have h1 : 1 ≤ n := by rw [← hpn]; exact hp.1
  have h7 : n ≤ 7 := by rw [← hpn]; exact hp.2.1
  obtain ⟨ho1, ho2, _, _⟩ := ordN_facts hp
  obtain ⟨o, ho⟩ : ∃ o, ordN ps = o := ⟨_, rfl⟩
  have HO := Lib.hid ho
  have HPN := Lib.hid hpn
  rw [ho] at ho1 ho2 ⊢
  clear hpn ho
  go_enter Try.func22, Try.ntmps22
  go_wp2
  go_loopw [3, 4] (fun kv q wr => ∃ k : Nat, 1 ≤ k ∧ k ≤ o ∧ kv = .int .i64 k ∧ (∃ b' off' cap', q = .slice (some ⟨b', off', none⟩) n cap' ∧ b' < wr.heap.size ∧ RdN wr b' off' (iterN ps k)) ∧ Below w.heap.size w wr) (fun kv _ _ => o - (intOf kv).toNat)
  case atStart => exact ⟨1, Nat.le_refl _, ho1, rfl, ⟨b, off, cap, rfl, hb, by rw [iterN_one]; exact hrd⟩, Below.refl _ _⟩
  case round =>
    obtain ⟨k, hk1, hk, rfl, ⟨b', off', cap', rfl, hb', hrd'⟩, hB⟩ := hrel
    obtain ⟨hip, hil⟩ := iterN_perm hp k
    have HIL := Lib.hid (hil.trans HPN.out)
    have sB := hB.size
    clear hil
    go_wp2_with fail
    refine (rident_any n _ h7).mono ?_
    rintro e w1 ⟨g1, rfl, hg1, b1, hB1⟩
    have s1 := hB1.size
    have r1 := hrd'.below hB1 hb'
    by_cases hko : k < o
    · have hne : decide (iterN ps k = List.range n) = false := decide_eq_false (by have := ord_lt_ne hp k hk1 (by rw [HO.out]; exact hko); rwa [HPN.out] at this)
      have hs := same_dec _ _ _ _ w1 (SlI.mk_perm (cap := cap') hip HIL.out (by omega) r1) (SlI.of_blk b1 List.length_range (by omega)) _ hne
      have HS := Lib.hid hs
      clear hne hs b1
      go_wp2_with fail
      refine HS.out.mono ?_
      rintro e w2 ⟨rfl, q2, rfl⟩
      have hB2 : Below w.heap.size w (w1.drewN q2) := below_drewN' (hB.trans (hB1.mono sB)) q2
      have hlt : ∀ x, x < n → (iterN ps k)[x]?.getD 0 < n := fun x hx => by have := hip.lt x (by rw [HIL.out]; exact hx); rwa [HIL.out] at this
      have HLT := Lib.hid hlt
      clear HS hlt
      go_wp2_with fail
      refine (rmul_any b' off' cap' b off cap n (iterN ps k) ps (w1.drewN q2) h1 h7 HIL.out HPN.out HLT.out (by show b' < w1.heap.size; omega) (Nat.lt_of_lt_of_le hb hB2.size) (r1.below (below_drewN' (Below.refl _ _) q2) (by omega)) (hrd.below hB2 hb)).mono ?_
      rintro e w3 ⟨g3, rfl, hg3, b3, hB3⟩
      go_wp2_with fail
      go_roundw
      case rel => exact ⟨k + 1, by omega, by omega, by go_num, ⟨g3, 0, n, rfl, b3.lt, b3.rd⟩, hB2.trans (hB3.mono hB2.size)⟩
      case measure => simp [intOf]; omega
    · have hke : k = o := by omega
      subst hke
      have hne : decide (iterN ps k = List.range n) = true := decide_eq_true (by have := ord_eq hp; rwa [HO.out, HPN.out] at this)
      have hs := same_dec _ _ _ _ w1 (SlI.mk_perm (cap := cap') hip HIL.out (by omega) r1) (SlI.of_blk b1 List.length_range (by omega)) _ hne
      have HS := Lib.hid hs
      clear hne hs b1
      go_wp2_with fail
      refine HS.out.mono ?_
      rintro e w2 ⟨rfl, q2, rfl⟩
      go_wp2_with fail
      go_ret
      exact ⟨rfl, below_drewN' (hB.trans (hB1.mono sB)) q2⟩

/-! ### ref.Power -/
def powT (ps : List Nat) (k : Int) : Nat := ((k.tmod (ordN ps : Int) + (ordN ps : Int)).tmod (ordN ps : Int)).toNat

theorem powT_eq (o : Nat) (k : Int) (ho : 1 ≤ o) : ((((k.tmod (o : Int) + (o : Int)).tmod (o : Int)).toNat : Nat) : Int) = k % (o : Int) := by
  have hb := tmod_bounds k o ho
  have hd : k.tmod (o : Int) = k - (o : Int) * k.tdiv (o : Int) := Int.tmod_def k o
  have h0 : 0 ≤ k.tmod (o : Int) + o := by omega
  rw [Int.tmod_eq_emod_of_nonneg h0, Int.toNat_of_nonneg (Int.emod_nonneg _ (by omega)), hd]
  have : k - (o : Int) * k.tdiv o + o = k + (o : Int) * (1 - k.tdiv o) := by rw [Int.mul_sub, Int.mul_one]; omega
  rw [this, Int.add_mul_emod_self_left]

theorem shift_eq (l : Nat) (k : Int) (hl : 1 ≤ l) : (((k.tmod (l : Int) + (l : Int)).toNat : Nat) : Int) % (l : Int) = k % (l : Int) := by
  have hb := tmod_bounds k l hl
  have hd : k.tmod (l : Int) = k - (l : Int) * k.tdiv (l : Int) := Int.tmod_def k l
  rw [Int.toNat_of_nonneg (by omega), hd]
  have : k - (l : Int) * k.tdiv l + l = k + (l : Int) * (1 - k.tdiv l) := by rw [Int.mul_sub, Int.mul_one]; omega
  rw [this, Int.add_mul_emod_self_left]

theorem pow_mod (o l i : Nat) (k : Int) (ho : 1 ≤ o) (hl : 1 ≤ l) (hd : l ∣ o) : (i + ((k.tmod (o : Int) + (o : Int)).tmod (o : Int)).toNat) % l = (i + (k.tmod (l : Int) + (l : Int)).toNat) % l := by
  have h1 := powT_eq o k ho
  have h2 := shift_eq l k hl
  generalize ((k.tmod (o : Int) + (o : Int)).tmod (o : Int)).toNat = t at h1 ⊢
  generalize (k.tmod (l : Int) + (l : Int)).toNat = s at h2 ⊢
  have h3 : (t : Int) % (l : Int) = k % (l : Int) := by
    rw [h1]
    exact Int.emod_emod_of_dvd k (Int.natCast_dvd_natCast.2 hd)
  have h4 : ((i + t : Nat) : Int) % (l : Int) = ((i + s : Nat) : Int) % (l : Int) := by
    rw [Int.natCast_add, Int.natCast_add, Int.add_emod, h3, ← h2, ← Int.add_emod]
  exact_mod_cast h4

theorem powF_iter {ps : List Nat} (hp : IsPerm ps) (k : Int) : PowF ps k (fun x => (iterN ps (powT ps k))[x]?.getD 0) := by
  intro c hc i hi
  refine ⟨(cycFacts hp).lt c hc _ (get_mem c i hi), ?_⟩
  show (iterN ps (powT ps k))[c[i]?.getD 0]?.getD 0 = _
  rw [cyc_iter hp hc _ i hi]
  congr 2
  exact pow_mod _ _ i k (ordN_facts hp).1 ((cycFacts hp).len c hc).1 ((ordN_facts hp).2.2.1 c hc)

theorem powF_list {ps : List Nat} (hp : IsPerm ps) (n : Nat) (hn : ps.length = n) (t : Nat) : (List.range n).map (fun x => (iterN ps t)[x]?.getD 0) = iterN ps t := by
  refine ext_getD _ _ n (by simp) ((iterN_perm hp t).2.trans hn) (fun x hx => ?_)
  simp [hx]

theorem power_at (b off cap n : Nat) (k : Int) (ps : List Nat) (w : World) (hp : IsPerm ps) (hpn : ps.length = n) (hb : b < w.heap.size) (hrd : RdN w b off ps) :
    Calls Try.prog 37 #[.slice (some ⟨b, off, none⟩) n cap, .int .i64 k] w fun e w' => ∃ g, e = .returned (.tuple #[.slice (some ⟨g, 0, none⟩) n n, .int .i64 0]) ∧ w.heap.size ≤ g ∧ Blk w' g (iterN ps (powT ps k)) ∧ Below w.heap.size w w' := by
  have h := power_ok b off cap n k ps (fun x => (iterN ps (powT ps k))[x]?.getD 0) w hp hpn hb hrd (powF_iter hp k) (fun x hx => (cycFacts hp).cover x (by rw [hpn]; exact hx)) (cycFacts hp).len
  rw [powF_list hp n hpn] at h
  exact h

set_option maxRecDepth 100000 in
set_option maxHeartbeats 1000000 in
theorem rpower_ok (b off cap n : Nat) (k : Int) (ps : List Nat) (w : World) (hp : IsPerm ps) (hpn : ps.length = n) (hb : b < w.heap.size) (hrd : RdN w b off ps) :
    Calls Try.prog 38 #[.slice (some ⟨b, off, none⟩) n cap, .int .i64 k] w fun e w' => ∃ g, e = .returned (.slice (some ⟨g, 0, none⟩) n n) ∧ Blk w' g (iterN ps (powT ps k)) ∧ w.heap.size ≤ g ∧ Below w.heap.size w w' := by
  have h1 : 1 ≤ n := by rw [← hpn]; exact hp.1
  have h7 : n ≤ 7 := by rw [← hpn]; exact hp.2.1
  have hor := rorder_ok b off cap n ps w hp hpn hb hrd
  obtain ⟨ho1, ho2, _, _⟩ := ordN_facts hp
  obtain ⟨t, ht⟩ : ∃ t, powT ps k = t := ⟨_, rfl⟩
  obtain ⟨o, ho⟩ : ∃ o, ordN ps = o := ⟨_, rfl⟩
  have hbd := tmod_bounds k o (by omega)
  have htt : (k.tmod (o : Int) + (o : Int)).tmod (o : Int) = (t : Int) := by
    rw [← ht]; unfold powT
    rw [ho, Int.toNat_of_nonneg]
    exact Int.tmod_nonneg _ (by omega)
  have htl : t < o := by
    have := Int.tmod_lt_of_pos (k.tmod (o : Int) + (o : Int)) (show (0 : Int) < (o : Int) by omega)
    omega
  rw [ho] at hor ho1 ho2
  rw [ht]
  have HOR := Lib.hid hor
  have HPN := Lib.hid hpn
  have h0 : ¬ o = 0 := by omega
  clear hpn ho ht hor
  go_enter Try.func38, Try.ntmps38
  go_wp2_with fail
  refine HOR.out.mono ?_
  rintro e w1 ⟨rfl, hB1⟩
  have s1 := hB1.size
  go_wp2_with fail
  refine (rident_any n _ h7).mono ?_
  rintro e w2 ⟨g2, rfl, hg2, b2, hB2⟩
  have hBB2 := hB1.trans (hB2.mono s1)
  clear HOR hB2 hB1
  go_wp2_with fail
  go_loopw [6, 7] (fun q iv wr => ∃ i : Nat, i ≤ t ∧ iv = .int .i64 i ∧ (∃ g, q = .slice (some ⟨g, 0, none⟩) n n ∧ w.heap.size ≤ g ∧ Blk wr g (iterN ps i)) ∧ Below w.heap.size w wr) (fun _ iv _ => t - (intOf iv).toNat)
  case atStart => exact ⟨0, Nat.zero_le _, rfl, ⟨g2, rfl, by omega, by show Blk w2 g2 (List.range ps.length); rw [HPN.out]; exact b2⟩, hBB2⟩
  case round =>
    clear b2 hBB2
    obtain ⟨i, hi, rfl, ⟨g, rfl, hg, hbk⟩, hB⟩ := hrel
    have sB := hB.size
    by_cases hit : i < t
    · obtain ⟨hip, hil⟩ := iterN_perm hp i
      have HIL := Lib.hid (hil.trans HPN.out)
      have hlt : ∀ x, x < n → (iterN ps i)[x]?.getD 0 < n := fun x hx => by have := hip.lt x (by rw [HIL.out]; exact hx); rwa [HIL.out] at this
      have HLT := Lib.hid hlt
      clear hlt hil
      go_wp2_with fail
      refine (rmul_any g 0 n b off cap n (iterN ps i) ps _ h1 h7 HIL.out HPN.out HLT.out hbk.lt (by omega) hbk.rd (hrd.below hB hb)).mono ?_
      rintro e w3 ⟨g3, rfl, hg3, b3, hB3⟩
      go_wp2_with fail
      go_roundw
      case rel => exact ⟨i + 1, by omega, by go_num, ⟨g3, rfl, by omega, b3⟩, hB.trans (hB3.mono sB)⟩
      case measure => simp [intOf]; omega
    · have hie : i = t := by omega
      subst hie
      go_wp2_with fail
      go_ret
      exact ⟨g, rfl, hbk, hg, hB⟩
end Go.Proofs.Ytdpnmepplkiljaa
