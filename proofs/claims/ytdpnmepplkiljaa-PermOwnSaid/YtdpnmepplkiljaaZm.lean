/-
  Contracts of SameInts, SameLists and Parity of the reference.
-/
import Derived.Test.YtdpnmepplkiljaaZl
import Derived.Test.YtdpnmepplkiljaaZh
namespace Go.Proofs.Ytdpnmepplkiljaa
open Go.RowKit Go.Shelf Go.Sort

/-! ### SameInts -/
theorem sints_len (a a' : Option Addr) (n n' cap cap' : Nat) (w : World) (hne : n ≠ n') :
    Calls Try.prog 45 #[.slice a n cap, .slice a' n' cap'] w fun e w' => e = .returned (.bool false) ∧ ∃ q, w' = w.drewN q := by
  have hb : ((n : Int) != (n' : Int)) = true := by rw [bne_iff_ne]; omega
  go_enter Try.func45, Try.ntmps45
  go_wp2
  go_ret
  exact ⟨rfl, 0, rfl⟩

theorem sints_zero (a a' : Option Addr) (cap cap' : Nat) (w : World) :
    Calls Try.prog 45 #[.slice a 0 cap, .slice a' 0 cap'] w fun e w' => e = .returned (.bool true) ∧ ∃ q, w' = w.drewN q := by
  go_enter Try.func45, Try.ntmps45
  go_wp2
  refine wp_loop_rounds 1 ?_
  rw [rounds_succ]
  go_wp2
  go_ret
  exact ⟨rfl, 0, rfl⟩

set_option maxHeartbeats 400000 in
theorem sints_mid (b off cap b' off' cap' n : Nat) (l l' : List Int) (w : World) (h1 : 1 ≤ n) (hm : n ≤ 9223372036854775807) (hl : l.length = n) (hl' : l'.length = n)
    (hr : RdI w b off l) (hr' : RdI w b' off' l') :
    Calls Try.prog 45 #[.slice (some ⟨b, off, none⟩) n cap, .slice (some ⟨b', off', none⟩) n cap'] w fun e w' => e = .returned (.bool (decide (l = l'))) ∧ ∃ q, w' = w.drewN q := by
  have hb : ((n : Int) != (n : Int)) = false := bne_self_eq_false _
  have HL := Lib.hid hl
  have HL' := Lib.hid hl'
  clear hl hl'
  go_enter Try.func45, Try.ntmps45
  go_wp2
  go_loopw [5] (fun i wr => ∃ k : Nat, k ≤ n ∧ i = .int .i64 k ∧ (∀ j, j < k → l[j]?.getD 0 = l'[j]?.getD 0) ∧ ∃ q, wr = w.drewN q) (fun i _ => n - (intOf i).toNat)
  case atStart => exact ⟨0, Nat.zero_le _, rfl, fun j hj => by omega, 0, rfl⟩
  case round =>
    obtain ⟨k, hk, rfl, hall, q, rfl⟩ := hrel
    have HA := Lib.hid hall
    clear hall
    by_cases hkn : k < n
    · have c1 := hr k (by rw [HL.out]; exact hkn)
      have c2 := hr' k (by rw [HL'.out]; exact hkn)
      by_cases he : l[k]?.getD 0 = l'[k]?.getD 0
      · have hbb : (l[k]?.getD 0 != l'[k]?.getD 0) = false := by rw [he]; exact bne_self_eq_false _
        have HE := Lib.hid he
        clear he
        go_wp2
        go_quiet (fail)
        go_wp2
        go_roundw
        case rel =>
          refine ⟨k + 1, by omega, by go_num, fun j hj => ?_, _, rfl⟩
          by_cases hjk : j < k
          · exact HA.out j hjk
          · have : j = k := by omega
            subst this; exact HE.out
        case measure => simp [intOf]; omega
      · have hbb : (l[k]?.getD 0 != l'[k]?.getD 0) = true := by rw [bne_iff_ne]; exact he
        have hd : decide (l = l') = false := decide_eq_false fun e => he (by rw [e])
        have HD := Lib.hid hd
        clear he hd
        go_wp2
        go_quiet (fail)
        go_wp2
        go_ret
        exact ⟨ret_bool HD.out.symm, drewN_two _ _ _⟩
    · have hkn2 : k = n := by omega
      subst hkn2
      have hd : decide (l = l') = true := decide_eq_true (eq_of_takeI l l' k HL.out HL'.out HA.out)
      have HD := Lib.hid hd
      clear hd
      go_wp2
      go_ret
      exact ⟨ret_bool HD.out.symm, _, rfl⟩

theorem sints_any (v v' : Value) (l l' : List Int) (w : World) (h : SlI w v l) (h' : SlI w v' l') :
    Calls Try.prog 45 #[v, v'] w fun e w' => e = .returned (.bool (decide (l = l'))) ∧ ∃ q, w' = w.drewN q := by
  obtain ⟨a, cap, rfl, hm, hr⟩ := h
  obtain ⟨a', cap', rfl, hm', hr'⟩ := h'
  by_cases hn : l.length = l'.length
  · by_cases h0 : l.length = 0
    · have e1 : l = [] := List.length_eq_zero_iff.1 h0
      have e2 : l' = [] := List.length_eq_zero_iff.1 (hn ▸ h0)
      subst e1 e2
      exact sints_zero a a' cap cap' w
    · have h1 : 1 ≤ l.length := Nat.pos_of_ne_zero h0
      obtain ⟨b, off, rfl, hb, hrd⟩ := hr h1
      obtain ⟨b', off', rfl, hb', hrd'⟩ := hr' (hn ▸ h1)
      have := sints_mid b off cap b' off' cap' l.length l l' w h1 hm rfl hn.symm hrd hrd'
      rw [hn] at this ⊢
      exact this
  · have : decide (l = l') = false := decide_eq_false fun e => hn (by rw [e])
    rw [this]
    exact sints_len a a' _ _ cap cap' w hn

/-! ### SameLists -/
def SlL (w : World) (v : Value) (L : List (List Nat)) : Prop :=
  ∃ a cap, v = .slice a L.length cap ∧ L.length ≤ 7 ∧ (1 ≤ L.length → ∃ b, a = some ⟨b, 0, none⟩ ∧ b < w.heap.size ∧ ∀ j, j < L.length → ∃ u, w.cell? ⟨b, j, none⟩ = some u ∧ SlI w u (ints (L[j]?.getD [])))

theorem SlL.below {w w' : World} {v : Value} {L : List (List Nat)} (h : SlL w v L) (hB : Below w.heap.size w w') : SlL w' v L := by
  obtain ⟨a, cap, hv, hm, hr⟩ := h
  refine ⟨a, cap, hv, hm, fun h1 => ?_⟩
  obtain ⟨b, ha, hb, hrd⟩ := hr h1
  refine ⟨b, ha, Nat.lt_of_lt_of_le hb hB.size, fun j hj => ?_⟩
  obtain ⟨u, hu, hs⟩ := hrd j hj
  exact ⟨u, (hB.cell (p := ⟨b, j, none⟩) hb).trans hu, hs.below hB⟩

theorem SlL.of_lg {w : World} {base base' : Nat} {lv : Value} {xs : List Cyc} (h : w.ownsRow base 22 1 lv (lg xs).length ((lg xs).map Cyc.val)) (hr : ∀ x ∈ lg xs, Cyc.Rd base' x w) (h7 : (lg xs).length ≤ 7) : SlL w lv ((lg xs).map Cyc.cyc) := by
  obtain ⟨a, cap, hv⟩ := owns_slice h
  refine ⟨a, cap, by rw [List.length_map]; exact hv, by rw [List.length_map]; exact h7, fun h1 => ?_⟩
  rw [List.length_map] at h1
  obtain ⟨g, cap', hv'⟩ := owns_pos h h1
  rw [hv] at hv'
  simp only [Value.slice.injEq] at hv'
  refine ⟨g, hv'.1, (h.lt g (by rw [hv, hv'.1]; rfl)).2, fun j hj => ?_⟩
  rw [List.length_map] at hj
  have hx : (lg xs)[j]? = some (lg xs)[j] := List.getElem?_eq_getElem hj
  refine ⟨(lg xs)[j].val, ?_, ?_⟩
  · rw [hv, hv'.1] at h
    rw [h.cellAt j (by omega), List.getElem?_map, hx]; rfl
  · have := hr _ (List.getElem_mem hj)
    have h2 := SlI.of_owns this rfl (by
      rcases this.2 with ⟨_, h⟩ | ⟨_, _, _, hv, _, _, h1, h2, _⟩
      · omega
      · unfold maxLen at h2; omega)
    rw [List.getElem?_map, hx]
    exact h2

theorem sints_re (v v' : Value) (l : List Int) (w : World) (h : SlI w v l) (h' : SlI w v' l) (d : Nat) (os : Array Obj) :
    Calls Try.prog 45 #[v, v'] (grow (redrawn w d) os) fun e w'' => e = .returned (.bool true) ∧ ∃ p : Regrown, w'' = grow (redrawn w p.d) p.os := by
  refine Calls.regrown_of ?_
  refine (sints_any v v' l l _ (h.below (below_regrown w d os)) (h'.below (below_regrown w d os))).mono ?_
  rintro e w' ⟨he, q, rfl⟩
  exact ⟨he.trans (ret_bool (by simp)), below_drewN' (Below.refl _ _) q⟩

theorem slists_zero (a a' : Option Addr) (cap cap' : Nat) (w : World) :
    Calls Try.prog 26 #[.slice a 0 cap, .slice a' 0 cap'] w fun e w' => e = .returned (.bool true) ∧ Below w.heap.size w w' := by
  go_enter Try.func26, Try.ntmps26
  go_wp2
  refine wp_loop_rounds 1 ?_
  rw [rounds_succ]
  go_wp2
  go_ret
  exact ⟨rfl, Below.refl _ _⟩

set_option maxHeartbeats 400000 in
theorem slists_mid (b b' cap cap' n : Nat) (L : List (List Nat)) (w : World) (h1 : 1 ≤ n) (h7 : n ≤ 7) (hb : b < w.heap.size) (hb' : b' < w.heap.size)
    (hr : ∀ j, j < n → ∃ u, w.cell? ⟨b, j, none⟩ = some u ∧ SlI w u (ints (L[j]?.getD []))) (hr' : ∀ j, j < n → ∃ u, w.cell? ⟨b', j, none⟩ = some u ∧ SlI w u (ints (L[j]?.getD []))) :
    Calls Try.prog 26 #[.slice (some ⟨b, 0, none⟩) n cap, .slice (some ⟨b', 0, none⟩) n cap'] w fun e w' => e = .returned (.bool true) ∧ Below w.heap.size w w' := by
  have hbn : ((n : Int) != (n : Int)) = false := bne_self_eq_false _
  have HR := Lib.hid hr
  have HR' := Lib.hid hr'
  clear hr hr'
  go_enter Try.func26, Try.ntmps26
  go_wp2
  go_loopw [5] (fun i wr => ∃ k : Nat, k ≤ n ∧ i = .int .i64 k ∧ Below w.heap.size w wr) (fun i _ => n - (intOf i).toNat)
  case atStart => exact ⟨0, Nat.zero_le _, rfl, Below.refl _ _⟩
  case round =>
    obtain ⟨k, hk, rfl, hB⟩ := hrel
    by_cases hkn : k < n
    · obtain ⟨u, cu, su⟩ := HR.out k hkn
      obtain ⟨u', cu', su'⟩ := HR'.out k hkn
      have hV := sints_re u u' _ wr (su.below hB) (su'.below hB)
      have gx := cell_regrown ((hB.cell (p := ⟨b, k, none⟩) hb).trans cu)
      have gy := cell_regrown ((hB.cell (p := ⟨b', k, none⟩) hb').trans cu')
      obtain ⟨ua, uc, hue, _, _⟩ := su
      obtain ⟨ua', uc', hue', _, _⟩ := su'
      subst hue hue'
      clear cu cu'
      go_wp2_with fail
      refine wp_region_quiet_below (by kernel_rfl) (by kernel_rfl) ?_
      repeat (go_big_quiet_step (exact hV _ _))
      refine wpQuiet_nil ?_
      intro _ hw'
      obtain ⟨⟨dq, osq⟩, hw''⟩ := hw'
      subst hw''
      have hB2 : Below w.heap.size w (grow (redrawn wr dq) osq) := hB.trans ((below_regrown wr dq osq).mono hB.size)
      obtain ⟨W2, hW2⟩ : ∃ W2, grow (redrawn wr dq) osq = W2 := ⟨_, rfl⟩
      rw [hW2] at hB2 ⊢
      clear hW2 gx gy hV
      go_wp2_with fail
      go_roundw
      case rel => exact ⟨k + 1, by omega, by go_num, hB2⟩
      case measure => simp [intOf]; omega
    · go_wp2
      go_ret
      exact ⟨rfl, hB⟩

theorem slists_yes (v v' : Value) (L : List (List Nat)) (w : World) (h : SlL w v L) (h' : SlL w v' L) :
    Calls Try.prog 26 #[v, v'] w fun e w' => e = .returned (.bool true) ∧ Below w.heap.size w w' := by
  obtain ⟨a, cap, rfl, hm, hr⟩ := h
  obtain ⟨a', cap', rfl, _, hr'⟩ := h'
  by_cases h0 : L.length = 0
  · rw [h0]; exact slists_zero a a' cap cap' w
  · have h1 : 1 ≤ L.length := Nat.pos_of_ne_zero h0
    obtain ⟨b, rfl, hb, hrd⟩ := hr h1
    obtain ⟨b', rfl, hb', hrd'⟩ := hr' h1
    exact slists_mid b b' cap cap' L.length L w h1 hm hb hb' hrd hrd'

/-! ### ref.Parity -/
def invRow (ps : List Nat) (i : Nat) : Nat → Nat
  | 0 => 0
  | k + 1 => invRow ps i k + (if ps[i]?.getD 0 < ps[k]?.getD 0 then 1 else 0)

def invTo (ps : List Nat) : Nat → Nat
  | 0 => 0
  | i + 1 => invTo ps i + invRow ps i i

theorem invRow_le (ps : List Nat) (i : Nat) : ∀ k, invRow ps i k ≤ k
  | 0 => Nat.le_refl _
  | k + 1 => by
    have := invRow_le ps i k
    unfold invRow
    split <;> omega

theorem invTo_le (ps : List Nat) : ∀ i, i ≤ 7 → invTo ps i ≤ 7 * i
  | 0, _ => Nat.le_refl _
  | i + 1, h => by
    have h1 := invTo_le ps i (by omega)
    have h2 := invRow_le ps i i
    unfold invTo
    omega

set_option maxHeartbeats 1000000 in
theorem rparity_mid (b off cap n : Nat) (ps : List Nat) (w : World) (h1 : 1 ≤ n) (h7 : n ≤ 7) (hpn : ps.length = n) (hrd : RdN w b off ps) :
    Calls Try.prog 23 #[.slice (some ⟨b, off, none⟩) n cap] w fun e w' => e = .returned (.int .i64 ((invTo ps n % 2 : Nat))) ∧ ∃ q, w' = w.drewN q := by
  have HPN := Lib.hid hpn
  clear hpn
  go_enter Try.func23, Try.ntmps23
  go_wp2
  go_loopw [3, 4, 5] (fun s i _ wr => ∃ k : Nat, k ≤ n ∧ i = .int .i64 k ∧ s = .int .i64 (invTo ps k : Nat) ∧ ∃ q, wr = w.drewN q) (fun _ i _ _ => n - (intOf i).toNat)
  case atStart => exact ⟨0, Nat.zero_le _, rfl, rfl, 0, rfl⟩
  case round =>
    obtain ⟨k, hk, rfl, rfl, q, rfl⟩ := hrel
    by_cases hkn : k < n
    · have hit := invTo_le ps k (by omega)
      have c1 := hrd k (by rw [HPN.out]; exact hkn)
      go_wp2
      go_loopw [3, 5] (fun s j wr => ∃ t : Nat, t ≤ k ∧ j = .int .i64 t ∧ s = .int .i64 ((invTo ps k + invRow ps k t : Nat)) ∧ ∃ q, wr = w.drewN q) (fun _ j _ => k - (intOf j).toNat)
      case atStart => exact ⟨0, Nat.zero_le _, rfl, rfl, _, rfl⟩
      case round =>
        obtain ⟨t, ht, rfl, rfl, q', rfl⟩ := hrel
        have hir := invRow_le ps k t
        by_cases htk : t < k
        · have c2 := hrd t (by rw [HPN.out]; omega)
          by_cases hlt : ps[k]?.getD 0 < ps[t]?.getD 0
          · have hs : invRow ps k (t + 1) = invRow ps k t + 1 := by simp [invRow, hlt]
            have HS := Lib.hid hs
            have hlt' : ((ps[k]?.getD 0 : Nat) : Int) < ((ps[t]?.getD 0 : Nat) : Int) := by omega
            clear hs hlt
            go_wp2
            go_quiet (fail)
            go_wp2
            go_roundw
            case rel => exact ⟨t + 1, by omega, by go_num, by rw [HS.out]; go_num, (by first | exact ⟨_, rfl⟩ | exact drewN_two _ _ _)⟩
            case measure => simp [intOf]; omega
          · have hs : invRow ps k (t + 1) = invRow ps k t := by simp [invRow, hlt]
            have HS := Lib.hid hs
            have hlt' : ¬ ((ps[k]?.getD 0 : Nat) : Int) < ((ps[t]?.getD 0 : Nat) : Int) := by omega
            clear hs hlt
            go_wp2
            go_quiet (fail)
            go_wp2
            go_roundw
            case rel => exact ⟨t + 1, by omega, by go_num, by rw [HS.out]; simp, (by first | exact ⟨_, rfl⟩ | exact drewN_two _ _ _)⟩
            case measure => simp [intOf]; omega
        · have htk2 : t = k := by omega
          subst htk2
          go_wp2
          go_roundw
          case rel => exact ⟨t + 1, by omega, by go_num, rfl, _, rfl⟩
          case measure => simp [intOf]; omega
    · have hkn2 : k = n := by omega
      subst hkn2
      have hit := invTo_le ps k (by omega)
      have hx : ((invTo ps k : Nat) : Int).tmod 2 = ((invTo ps k % 2 : Nat) : Int) := by rw [Int.tmod_eq_emod_of_nonneg (by omega)]; omega
      have HX := Lib.hid hx
      clear hx
      go_wp2
      go_ret
      exact ⟨ret_int HX.out, _, rfl⟩
end Go.Proofs.Ytdpnmepplkiljaa
