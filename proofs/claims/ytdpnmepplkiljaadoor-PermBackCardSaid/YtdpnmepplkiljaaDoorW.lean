/-
  Contracts of Identity and Inverse of package perm, and of mul and usable of the statements' package; permutations are a group, plainly.
-/
import Derived.Test.YtdpnmepplkiljaaDoorV
import Derived.Lib.QuietBelow
namespace Go.Proofs.YtdpnmepplkiljaaDoor
open Go.RowKit Go.Sort

/-! ### Identity -/
theorem identity_bad (n : Int) (w : World) (hn : n < 1 ∨ 7 < n) :
    Calls Tryd.prog 30 #[.int .i64 n] w fun e w' => e = .returned (.tuple #[.slice none 0 0, .int .i64 2]) ∧ w = w' := by
  go_enter Tryd.func30, Tryd.ntmps30
  go_wp2_with (go_at_call 36; refine (fits_no _ _ hn).mono ?_; rintro e w' ⟨rfl, rfl⟩)
  go_ret2
  exact ⟨rfl, rfl⟩

theorem range_get (n k : Nat) (hk : k < n) : (List.range n)[k]?.getD 0 = k := by simp [hk]

set_option maxHeartbeats 1000000 in
theorem identity_ok (n : Nat) (w : World) (h1 : 1 ≤ n) (h7 : n ≤ 7) :
    Calls Tryd.prog 30 #[.int .i64 n] w fun e w' => ∃ g, e = .returned (.tuple #[.slice (some ⟨g, 0, none⟩) n n, .int .i64 0]) ∧ w.heap.size ≤ g ∧ Blk w' g (List.range n) ∧ Below w.heap.size w w' := by
  obtain ⟨i0, hi, hz0, hz1, hz2⟩ := info_parts Tryd.info3
  go_enter Tryd.func30, Tryd.ntmps30
  go_wp2_with (first | (go_at_call 36; refine (fits_yes _ _ (by omega) (by omega)).mono ?_; rintro e w' ⟨rfl, rfl⟩) | (at_make; refine wpList_make_full _ rfl _ _ 23 rfl w.heap.size 3 i0 (.int .i64 0) 1 Tryd.underlying23 hi hz0 hz1 .i64 .i64 _ _ n rfl rfl rfl rfl (by rw [hz2]; omega) (by unfold maxLen; omega) (Nat.le_refl _) ?_; intro w1 hown hgrow))
  clear hi hz0 hz1 hz2
  have hB1 : Below w.heap.size w w1 := (Below.refl _ w).grown hgrow (Nat.le_refl _) (fun k e => by cases e)
  clear hgrow
  rw [fillPart_zero (List.range n)] at hown
  go_loopw [13] (fun i wr => ∃ k : Nat, k ≤ n ∧ i = .int .i64 k ∧ wr.ownsRow w.heap.size 3 1 (.slice (some ⟨w.heap.size, 0, none⟩) n n) n (fillPart (List.range n) n k) ∧ Below w.heap.size w wr) (fun i _ => n - (intOf i).toNat)
  case atStart => exact ⟨0, Nat.zero_le _, rfl, hown, hB1⟩
  case round =>
    clear hown hB1
    obtain ⟨k, hk, rfl, hown, hB⟩ := hrel
    by_cases hkn : k < n
    · have c3 : wr.cell? ⟨w.heap.size, k, none⟩ = (fillPart (List.range n) n k)[k]? := hown.cellAt k (by omega)
      have c4 : (fillPart (List.range n) n k)[k]? = some (.int .i64 0) := by simp [fillPart, hkn]
      rw [c4] at c3
      have f3 := hown.frozenAt k
      have hst := hown.stored k (.int .i64 (((List.range n)[k]?.getD 0 : Nat) : Int))
      rw [fillPart_succ, range_get n k hkn] at hst
      have HST := Lib.hid hst
      clear hst c4
      go_wp2
      go_roundw
      case rel => exact ⟨k + 1, by omega, by go_num, HST.out.1, hB.setCell (p := ⟨w.heap.size, k, none⟩) (Nat.le_refl _) _⟩
      case measure => simp [intOf]; omega
    · have hkn2 : k = n := by omega
      subst hkn2
      have hfull := hown
      rw [fillPart_full (List.range k) k List.length_range] at hfull
      go_wp2
      go_ret2
      exact ⟨_, rfl, Nat.le_refl _, Blk.of_owns hfull, hB⟩

/-! ### Inverse -/
/-! ### mul -/
/-! ### usable -/
def okAt (L : List (List Int)) (k : Nat) : Bool := valI (L[k]?.getD []) && decide ((L[k]?.getD []).length = (L[0]?.getD []).length)

theorem SlI.lenEq {w : World} {x : SlV} {l : List Int} (h : SlI w x.val l) : x.n = l.length := by
  obtain ⟨a, cap, hv, _⟩ := h
  obtain ⟨xa, xn, xc⟩ := x
  simp only [SlV.val, Value.slice.injEq] at hv
  exact hv.2.1

theorem valid_re (v : Value) (l : List Int) (w : World) (h : SlI w v l) (b : Bool) (hb : valI l = b) (d : Nat) (os : Array Obj) :
    Calls Tryd.prog 23 #[v] (grow (redrawn w d) os) fun e w'' => e = .returned (.bool b) ∧ ∃ p : Regrown, w'' = grow (redrawn w p.d) p.os := by
  refine Calls.regrown_of ?_
  rw [← hb]
  exact valid_any v l _ (h.below (below_regrown w d os))

set_option maxRecDepth 100000 in
set_option maxHeartbeats 1600000 in
theorem usable_any (b cap m : Nat) (vs : List SlV) (L : List (List Int)) (w : World) (hm1 : 1 ≤ m) (hm : m ≤ 7) (hl : vs.length = m) (hb : b < w.heap.size) (hr : RdS w b 0 vs) (hL : ∀ j, j < m → SlI w (vs[j]?.getD ⟨none, 0, 0⟩).val (L[j]?.getD [])) :
    Calls Tryd.prog 15 #[.slice (some ⟨b, 0, none⟩) m cap] w fun e w' => e = .returned (.bool (decide (∀ j, j < m → (vs[j]?.getD ⟨none, 0, 0⟩).n ≤ 100) && decide (∀ j, j < m → okAt L j = true))) ∧ Below w.heap.size w w' := by
  have hs := short_any b 0 cap m vs w hm hl hr
  by_cases h100 : ∀ j, j < m → (vs[j]?.getD ⟨none, 0, 0⟩).n ≤ 100
  · rw [decide_eq_true h100] at hs ⊢
    have HS := Lib.hid hs
    have HL := Lib.hid hl
    have HLS := Lib.hid hL
    clear hs h100 hl hL
    go_enter Tryd.func15, Tryd.ntmps15
    go_wp2_with fail
    refine HS.out.mono ?_
    rintro e w1 ⟨rfl, rfl⟩
    clear HS
    go_wp2_with fail
    go_loopw [3] (fun i wr => ∃ k : Nat, k ≤ m ∧ i = .int .i64 k ∧ (∀ j, j < k → okAt L j = true) ∧ Below w.heap.size w wr) (fun i _ => m - (intOf i).toNat)
    case atStart => exact ⟨0, Nat.zero_le _, rfl, fun j hj => by omega, Below.refl _ _⟩
    case round =>
      obtain ⟨k, hk, rfl, hok, hB⟩ := hrel
      have HOK := Lib.hid hok
      clear hok
      by_cases hkn : k < m
      · obtain ⟨x, hx⟩ : ∃ x, vs[k]?.getD ⟨none, 0, 0⟩ = x := ⟨_, rfl⟩
        obtain ⟨y, hy⟩ : ∃ y, vs[0]?.getD ⟨none, 0, 0⟩ = y := ⟨_, rfl⟩
        obtain ⟨l, hlk⟩ : ∃ l, L[k]?.getD [] = l := ⟨_, rfl⟩
        obtain ⟨l0, hl0⟩ : ∃ l0, L[0]?.getD [] = l0 := ⟨_, rfl⟩
        have sx := HLS.out k hkn
        have sy := HLS.out 0 (by omega)
        have cx := (hB.cell (p := ⟨b, 0 + k, none⟩) hb).trans (hr k (by rw [HL.out]; exact hkn))
        have cy := (hB.cell (p := ⟨b, 0 + 0, none⟩) hb).trans (hr 0 (by rw [HL.out]; omega))
        rw [hx, hlk] at sx
        rw [hy, hl0] at sy
        rw [hx, Nat.zero_add] at cx
        rw [hy, Nat.zero_add] at cy
        have ex := sx.lenEq
        have ey := sy.lenEq
        obtain ⟨xa, xn, xc⟩ := x
        obtain ⟨ya, yn, yc⟩ := y
        simp only [SlV.val] at cx cy sx sy
        simp only at ex ey
        have hxm : xn ≤ 9223372036854775807 := by obtain ⟨_, _, _, hm, _⟩ := sx; rw [ex]; exact hm
        have hm0 : 0 < m := hm1
        have gx := cell_regrown cx
        have gy := cell_regrown cy
        have hvr := valid_re _ l wr (sx.below hB)
        have hokk : okAt L k = (valI l && decide (l.length = l0.length)) := by unfold okAt; rw [hlk, hl0]
        have HOKK := Lib.hid hokk
        have HEX := Lib.hid ex
        have HEY := Lib.hid ey
        have HVR := Lib.hid hvr
        clear hx hy hlk hl0 cx cy ex ey hokk hvr sx sy
        by_cases hv : valI l = true
        · have hx7 : xn ≤ 7 := by rw [HEX.out]; exact (of_decide_eq_true hv).2.1
          have hV := HVR.out true hv
          have HV := Lib.hid hv
          clear hv
          by_cases hne : xn = yn
          · subst hne
            have hbb : ((xn : Int) != (xn : Int)) = false := bne_self_eq_false _
            have hk1 : okAt L k = true := by rw [HOKK.out, HV.out, ← HEX.out, ← HEY.out]; simp
            have HK1 := Lib.hid hk1
            clear hk1
            go_wp2_with fail
            refine wp_region_quiet_below (by kernel_rfl) (by kernel_rfl) ?_
            repeat (go_big_quiet_step (exact hV _ _))
            refine wpQuiet_nil ?_
            intro _ hw'
            obtain ⟨⟨dq, osq⟩, hw''⟩ := hw'
            subst hw''
            have hB2 : Below w.heap.size w (grow (redrawn wr dq) osq) := hB.trans ((below_regrown wr dq osq).mono hB.size)
            obtain ⟨W2, hW2⟩ : ∃ W2, grow (redrawn wr dq) osq = W2 := ⟨_, rfl⟩
            rw [hW2] at hB2 ⊢
            clear hW2 gx gy hV
            go_wp2_with fail
            go_roundw
            case rel =>
              refine ⟨k + 1, by omega, by go_num, fun j hj => ?_, hB2⟩
              by_cases hjk : j < k
              · exact HOK.out j hjk
              · have : j = k := by omega
                subst this; exact HK1.out
            case measure => simp [intOf]; omega
          · have hbb : ((xn : Int) != (yn : Int)) = true := by rw [bne_iff_ne]; omega
            have hk1 : okAt L k = false := by
              rw [HOKK.out, HV.out, Bool.true_and]
              exact decide_eq_false (by rw [← HEX.out, ← HEY.out]; exact hne)
            have HK1 := Lib.hid hk1
            clear hk1 hne
            have hd : (true && decide (∀ j, j < m → okAt L j = true)) = false := by rw [Bool.true_and]; exact decide_eq_false fun h => by have := h k hkn; rw [HK1.out] at this; cases this
            have HD := Lib.hid hd
            clear hd
            go_wp2_with fail
            refine wp_region_quiet_below (by kernel_rfl) (by kernel_rfl) ?_
            repeat (go_big_quiet_step (exact hV _ _))
            refine wpQuiet_nil ?_
            intro _ hw'
            obtain ⟨⟨dq, osq⟩, hw''⟩ := hw'
            subst hw''
            have hB2 : Below w.heap.size w (grow (redrawn wr dq) osq) := hB.trans ((below_regrown wr dq osq).mono hB.size)
            obtain ⟨W2, hW2⟩ : ∃ W2, grow (redrawn wr dq) osq = W2 := ⟨_, rfl⟩
            rw [hW2] at hB2 ⊢
            clear hW2 gx gy hV
            go_wp2_with fail
            go_ret
            exact ⟨ret_bool HD.out.symm, hB2⟩
        · have hv' : valI l = false := by simpa using hv
          have hV := HVR.out false hv'
          have hk1 : okAt L k = false := by rw [HOKK.out, hv', Bool.false_and]
          have HK1 := Lib.hid hk1
          clear hk1 hv hv'
          have hd : (true && decide (∀ j, j < m → okAt L j = true)) = false := by rw [Bool.true_and]; exact decide_eq_false fun h => by have := h k hkn; rw [HK1.out] at this; cases this
          have HD := Lib.hid hd
          clear hd
          go_wp2_with fail
          refine wp_region_quiet_below (by kernel_rfl) (by kernel_rfl) ?_
          repeat (go_big_quiet_step (exact hV _ _))
          refine wpQuiet_nil ?_
          intro _ hw'
          obtain ⟨⟨dq, osq⟩, hw''⟩ := hw'
          subst hw''
          have hB2 : Below w.heap.size w (grow (redrawn wr dq) osq) := hB.trans ((below_regrown wr dq osq).mono hB.size)
          obtain ⟨W2, hW2⟩ : ∃ W2, grow (redrawn wr dq) osq = W2 := ⟨_, rfl⟩
          rw [hW2] at hB2 ⊢
          clear hW2 gx gy hV
          go_wp2_with fail
          go_ret
          exact ⟨ret_bool HD.out.symm, hB2⟩
      · have hkm : k = m := by omega
        subst hkm
        have hd : decide (∀ j, j < k → okAt L j = true) = true := decide_eq_true HOK.out
        have HD := Lib.hid hd
        clear hd
        go_wp2
        go_ret
        exact ⟨ret_bool (by rw [HD.out]; rfl), hB⟩
  · rw [decide_eq_false h100] at hs ⊢
    have HS := Lib.hid hs
    clear hs h100
    go_enter Tryd.func15, Tryd.ntmps15
    go_wp2_with fail
    refine HS.out.mono ?_
    rintro e w1 ⟨rfl, rfl⟩
    go_wp2_with fail
    go_ret
    exact ⟨rfl, Below.refl _ _⟩
end Go.Proofs.YtdpnmepplkiljaaDoor
