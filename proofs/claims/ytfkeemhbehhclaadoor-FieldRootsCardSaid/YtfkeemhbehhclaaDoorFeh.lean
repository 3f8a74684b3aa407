/-
  Contracts of the reference's Sum, and of Root and Sum of both, with one value.
-/
import Derived.Test.YtfkeemhbehhclaaDoorFef
import Derived.Test.YtfkeemhbehhclaaDoorFdt
import Derived.Test.YtfkeemhbehhclaaDoorFdp
namespace Go.Proofs.YtfkeemhbehhclaaDoor
open Go.RowKit

theorem Fld.root_ex {P M q : Nat} (h : Fld P M q) {n : Nat} (hn : 0 < n) (hd : (q - 1) % n = 0) : ∃ r, RootOf P M q n r := by
  obtain ⟨r, h1, h2, h3⟩ := h.ord_ex hn hd
  have key : ∀ m r, r ≤ m → 0 < r → r < q → Ord (mulN P M) n r → ∃ r, RootOf P M q n r := by
    intro m
    induction m with
    | zero => intro r a b; omega
    | succ m ih =>
      intro r a b c d
      by_cases hx : ∃ s, 0 < s ∧ s < r ∧ Ord (mulN P M) n s
      · obtain ⟨s, s1, s2, s3⟩ := hx
        exact ih s (by omega) s1 (by omega) s3
      · exact ⟨r, b, c, d, fun s s1 s2 s3 => hx ⟨s, s1, s2, s3⟩⟩
  exact key r r (Nat.le_refl _) h1 h2 h3

theorem root_is (P M q n r : Nat) (hf : Fld P M q) (hn : 1 ≤ n) (hd : (q - 1) % n = 0) (hr : RootOf P M q n r) (w : World) (hL : Lays w) :
    Calls Tryd.prog 30 #[.agg #[.int .i64 (P : Int), .int .i64 (M : Int)], .int .i64 n] w fun e w' => e = Ret2 r 0 ∧ Below w.heap.size w w' := by
  have key : ∀ e w', RootIs P M q n w e w' → e = Ret2 r 0 ∧ Below w.heap.size w w' := by
    rintro e w' ⟨hB, ⟨s, h1, h2, h3, h4, rfl⟩ | ⟨h, _⟩⟩
    · have hs : RootOf P M q n s := ⟨h1, h2, hf.ord_of h2 hn h3, fun t t1 t2 t3 => h4 t t1 t2 (hf.rt_of (by omega) hn t3)⟩
      rw [hs.uniq hr]
      exact ⟨rfl, hB⟩
    · exact absurd (hf.rt_of hr.2.1 hn hr.2.2.1) (h r hr.1 hr.2.1)
  rcases hf.cases with ⟨rfl, rfl⟩ | ⟨rfl, hM⟩
  · exact (Root_ok_p _ hf n hn hd w hL).mono key
  · exact (Root_ok_q M q hM hf n hn hd w hL).mono key
theorem root_bad (P M q : Nat) (hf : Fld P M q) (n : Int) (hn : n < 1 ∨ ¬ ((q : Int) - 1) % n = 0) (x : Int) (hx : x = if n < 1 then 2 else 6) (w : World) (hL : Lays w) :
    Calls Tryd.prog 30 #[.agg #[.int .i64 (P : Int), .int .i64 (M : Int)], .int .i64 n] w fun e w' => e = Ret2 0 x ∧ Below w.heap.size w w' := by
  have key : ∀ e w', RootBad n w e w' → e = Ret2 0 x ∧ Below w.heap.size w w' := by
    rintro e w' ⟨hB, rfl⟩
    rw [hx]
    exact ⟨rfl, hB⟩
  rcases hf.cases with ⟨rfl, rfl⟩ | ⟨rfl, hM⟩
  · exact (Root_bad_p _ hf n w hL hn).mono key
  · exact (Root_bad_q M q hM hf n w hL hn).mono key
theorem kitRoot_is (P M q n r : Nat) (hf : Fld P M q) (hn : 1 ≤ n) (hd : (q - 1) % n = 0) (hr : RootOf P M q n r) (w : World) :
    Calls Tryd.prog 32 #[kitV P M q, .int .i64 n] w fun e w' => e = .returned (.int .i64 (r : Nat)) ∧ Below w.heap.size w w' :=
  (kitRoot_ok P M q n hf hn hd w).mono fun e w' ⟨hB, s, he, hs⟩ => ⟨by rw [he, hs.uniq hr], hB⟩
theorem sum_neg (P M q : Nat) (hf : Fld P M q) (k x : Int) (hx : x < 0) (w : World) (hL : Lays w) :
    Calls Tryd.prog 31 #[.agg #[.int .i64 (P : Int), .int .i64 (M : Int)], .int .i64 k, .int .i64 x] w fun e w' => e = Ret2 0 2 ∧ Below w.heap.size w w' := by
  rcases hf.cases with ⟨rfl, rfl⟩ | ⟨rfl, hM⟩
  · exact Sum_neg_p _ hf k x hx w hL
  · exact Sum_neg_q M q hM hf k x hx w hL
theorem sum_bad (P M q : Nat) (hf : Fld P M q) (n : Int) (hn : n < 1 ∨ ¬ ((q : Int) - 1) % n = 0) (x : Int) (hx : x = if n < 1 then 2 else 6) (y : Int) (h0 : 0 ≤ y) (h1 : y ≤ 9223372036854775807) (w : World) (hL : Lays w) :
    Calls Tryd.prog 31 #[.agg #[.int .i64 (P : Int), .int .i64 (M : Int)], .int .i64 n, .int .i64 y] w fun e w' => e = Ret2 0 x ∧ Below w.heap.size w w' := by
  rcases hf.cases with ⟨rfl, rfl⟩ | ⟨rfl, hM⟩
  · refine (Sum_all_p _ hf n y h0 h1 w hL).mono ?_
    rintro e w' ⟨hB, ⟨h2, rfl⟩ | ⟨⟨h2, h3⟩, rfl⟩ | ⟨⟨h2, h3⟩, _⟩⟩
    · rw [hx, if_pos h2]; exact ⟨rfl, hB⟩
    · rw [hx, if_neg (by omega)]; exact ⟨rfl, hB⟩
    · rcases hn with h | h
      · omega
      · exact absurd h3 h
  · refine (Sum_all_q M q hM hf n y h0 h1 w hL).mono ?_
    rintro e w' ⟨hB, ⟨h2, rfl⟩ | ⟨⟨h2, h3⟩, rfl⟩ | ⟨⟨h2, h3⟩, _⟩⟩
    · rw [hx, if_pos h2]; exact ⟨rfl, hB⟩
    · rw [hx, if_neg (by omega)]; exact ⟨rfl, hB⟩
    · rcases hn with h | h
      · omega
      · exact absurd h3 h
/-- What Sum is. -/
def sumV (P n e : Nat) : Nat := if e % n = 0 then n % P else 0
theorem sum_is (P M q n y : Nat) (hf : Fld P M q) (hn : 1 ≤ n) (hd : (q - 1) % n = 0) (h1 : y < 9223372036854775808) (w : World) (hL : Lays w) :
    Calls Tryd.prog 31 #[.agg #[.int .i64 (P : Int), .int .i64 (M : Int)], .int .i64 n, .int .i64 y] w fun e w' => e = Ret2 (sumV P n y : Nat) 0 ∧ Below w.heap.size w w' := by
  have hq2 := hf.q_ge
  have hki : ((q : Int) - 1) % (n : Int) = 0 := by
    have : ((q : Int) - 1) = ((q - 1 : Nat) : Int) := by omega
    rw [this, ← Int.natCast_emod, hd]; rfl
  have hy : (y : Int) % (n : Int) = ((y % n : Nat) : Int) := (Int.natCast_emod y n).symm
  have hp : (n : Int) % (P : Int) = ((n % P : Nat) : Int) := (Int.natCast_emod n P).symm
  have key : ∀ (e : Ending), (¬ (y : Int) % (n : Int) = 0 ∧ e = Ret2 0 0 ∨ (y : Int) % (n : Int) = 0 ∧ e = Ret2 ((n : Int) % (P : Int)) 0) → e = Ret2 (sumV P n y : Nat) 0 := by
    rintro e (⟨h2, rfl⟩ | ⟨h2, rfl⟩)
    · rw [sumV, if_neg (by rw [hy] at h2; omega)]; rfl
    · rw [sumV, if_pos (by rw [hy] at h2; omega), hp]
  rcases hf.cases with ⟨rfl, rfl⟩ | ⟨rfl, hM⟩
  · refine (Sum_all_p _ hf n y (by omega) (by omega) w hL).mono ?_
    rintro e w' ⟨hB, ⟨h2, _⟩ | ⟨⟨_, h3⟩, _⟩ | ⟨_, h4⟩⟩
    · omega
    · exact absurd hki h3
    · exact ⟨key e h4, hB⟩
  · refine (Sum_all_q M q hM hf n y (by omega) (by omega) w hL).mono ?_
    rintro e w' ⟨hB, ⟨h2, _⟩ | ⟨⟨_, h3⟩, _⟩ | ⟨_, h4⟩⟩
    · omega
    · exact absurd hki h3
    · exact ⟨key e h4, hB⟩

theorem Fld.sum_val {P M q n r y : Nat} (h : Fld P M q) (hn : 1 ≤ n) (hr : RootOf P M q n r) : nsum (addN P M) (fun j => powN P M (np (mulN P M) r j) y) n = sumV P n y := by
  have hm := h.rng.toMon
  have hrq := hr.2.1
  have e1 : ∀ j, powN P M (np (mulN P M) r j) y = np (mulN P M) (np (mulN P M) r y) j := fun j => by
    rw [h.pow_eq (hm.np_lt hrq j), hm.np_mul hrq, hm.np_mul hrq, Nat.mul_comm]
  rw [nsum_congr n fun j _ => e1 j]
  have hw := hm.np_lt hrq y
  unfold sumV
  by_cases hy : y % n = 0
  · rw [if_pos hy]
    have h1 := (hr.2.2.1.dvd hm hrq hn).2 (Nat.dvd_of_mod_eq_zero hy)
    rw [h1, nsum_congr n fun j _ => hm.np_ones j]
    exact h.nsum_one n
  · rw [if_neg hy]
    refine h.fl.sum_zero hw ?_ fun h1 => hy (Nat.mod_eq_zero_of_dvd ((hr.2.2.1.dvd hm hrq hn).1 h1))
    rw [hm.np_mul hrq, Nat.mul_comm, ← hm.np_mul hrq, hr.2.2.1.1, hm.np_ones]

theorem kitAddIs {P M q a b z : Nat} (hf : Fld P M q) (ha : a < q) (hb : b < q) (h : addN P M a b = z) (w : World) :
    Calls Tryd.prog 23 #[.agg #[.int .i64 (P : Int), .int .i64 (M : Int), .int .i64 (q : Int), .int .i64 (modOf M : Int)], .int .i64 a, .int .i64 b] w fun e w' => e = .returned (.int .i64 (z : Nat)) ∧ Below w.heap.size w w' := by
  rw [← h]; exact kitAdd P M q a b hf ha hb w
theorem kitMulIs {P M q a b z : Nat} (hf : Fld P M q) (ha : a < q) (hb : b < q) (h : mulN P M a b = z) (w : World) :
    Calls Tryd.prog 25 #[.agg #[.int .i64 (P : Int), .int .i64 (M : Int), .int .i64 (q : Int), .int .i64 (modOf M : Int)], .int .i64 a, .int .i64 b] w fun e w' => e = .returned (.int .i64 (z : Nat)) ∧ Below w.heap.size w w' := by
  rw [← h]; exact kitMul P M q a b hf ha hb w

set_option maxRecDepth 100000 in
set_option maxHeartbeats 1000000 in
theorem kitSum_is (P M q n y r : Nat) (hf : Fld P M q) (hn : 1 ≤ n) (hn2 : n ≤ 65536) (hd : (q - 1) % n = 0) (hr : RootOf P M q n r) (hy : y < 9223372036854775808) (w : World) :
    Calls Tryd.prog 33 #[kitV P M q, .int .i64 n, .int .i64 y] w fun e w' => e = .returned (.int .i64 (sumV P n y : Nat)) ∧ Below w.heap.size w w' := by
  have hq2 := hf.q_ge
  have hq3 := hf.q_le
  have HV := Lib.hid (hf.sum_val (y := y) hn hr)
  have HR := Lib.hid (fun w => kitRoot_is P M q n r hf hn hd hr w)
  have HF := Lib.hid hf
  have HK0 := Lib.hid (Kt.new w P M q)
  have hrq := hr.2.1
  unfold kitV at HR ⊢
  obtain ⟨c0, c1, c2, c3⟩ := HK0.out.2
  clear hf hr hd
  go_enter Tryd.func33, Tryd.ntmps33
  go_wp2_with fail
  refine (HR.out _).mono ?_
  rintro e w1 ⟨rfl, hB⟩
  have HK1 := Lib.hid (HK0.out.step hB)
  clear hB c0 c1 c2 c3
  go_wp2_with fail
  go_loopw [8, 9, 10] (fun u v x wr => ∃ s z j : Nat, s < q ∧ z < q ∧ j ≤ n ∧ u = .int .i64 s ∧ v = .int .i64 z ∧ x = .int .i64 j ∧ Hid (z = np (mulN P M) r j) ∧ Hid (s = nsum (addN P M) (fun j => powN P M (np (mulN P M) r j) y) j) ∧ Hid (Kt w P M q wr)) (fun _ _ x _ => n - (intOf x).toNat)
  case atStart => exact ⟨0, 1, 0, by omega, by omega, by omega, rfl, rfl, rfl, rfl, rfl, HK1⟩
  case round =>
    obtain ⟨s, z, j, hs, hz, hj, rfl, rfl, rfl, HZ, HS, HK⟩ := hrel
    by_cases hlt : j < n
    · obtain ⟨x, hx⟩ : ∃ x, powN P M z y = x := ⟨_, rfl⟩
      have hxq : x < q := by rw [← hx]; exact HF.out.powN_lt hz y
      have HX := Lib.hid hx
      obtain ⟨s2, hs2⟩ : ∃ s2, addN P M s x = s2 := ⟨_, rfl⟩
      have hs2q : s2 < q := by rw [← hs2]; exact HF.out.addN_lt hs hxq
      have HS2 := Lib.hid hs2
      obtain ⟨z2, hz2⟩ : ∃ z2, mulN P M z r = z2 := ⟨_, rfl⟩
      have hz2q : z2 < q := by rw [← hz2]; exact HF.out.mulN_lt hz
      have HZ2 := Lib.hid hz2
      have HN : Hid (s2 = nsum (addN P M) (fun j => powN P M (np (mulN P M) r j) y) (j + 1)) := by show _ = addN P M (nsum (addN P M) _ j) (powN P M (np (mulN P M) r j) y); rw [← HS.out, ← HZ.out, hx, hs2]
      have HM : Hid (z2 = np (mulN P M) r (j + 1)) := by show _ = mulN P M _ _; rw [← HZ.out]; exact hz2.symm
      clear hx hs2 hz2
      have st : Kt w P M q wr.drew := HK.out.drew
      obtain ⟨d0, d1, d2, d3⟩ := st.2
      go_upto_region 5 with fail
      go_cut [8] (fun t1 wx => t1 = .int .i64 s2 ∧ Kt w P M q wx)
      case first =>
        go_region_held3 (fun w' => Kt w P M q w' ∧ w'.cell? ⟨w.heap.size, 0, none⟩ = some (.int .i64 (P : Int)) ∧ w'.cell? ⟨w.heap.size, 1, none⟩ = some (.int .i64 (M : Int)) ∧ w'.cell? ⟨w.heap.size, 2, none⟩ = some (.int .i64 (q : Int)) ∧ w'.cell? ⟨w.heap.size, 3, none⟩ = some (.int .i64 (modOf M : Int)))
          (first | (refine ⟨?_, ?_, ?_, ?_, ?_⟩ <;> assumption))
          (first
            | (go_at_call 29; (with_reducible refine (kitPowIs HF.out hz hy HX.out _).mono ?_); rintro e wx ⟨rfl, hBx⟩; have sx := Kt.step (by assumption) hBx; obtain ⟨y0, y1, y2, y3⟩ := sx.2; clear hBx)
            | (go_at_call 23; (with_reducible refine (kitAddIs HF.out hs hxq HS2.out _).mono ?_); rintro e wx ⟨rfl, hBx⟩; have sx := Kt.step (by assumption) hBx; obtain ⟨y0, y1, y2, y3⟩ := sx.2; clear hBx))
        all_goals
          go_wp2_with fail
          go_meet
          exact ⟨rfl, by assumption⟩
      case rest =>
        obtain ⟨rfl, hst⟩ := hcut
        have HK2 := Lib.hid hst
        clear hst st d0 d1 d2 d3
        obtain ⟨c0, c1, c2, c3⟩ := HK2.out.2
        go_wp2_with fail
        refine (kitMulIs HF.out hz hrq HZ2.out _).mono ?_
        rintro e w3 ⟨rfl, hB⟩
        have HK3 := Lib.hid (HK2.out.step hB)
        clear hB c0 c1 c2 c3
        go_wp2_with fail
        go_roundw
        case rel => exact ⟨s2, z2, j + 1, hs2q, hz2q, by omega, rfl, rfl, by go_num, HM, HN, HK3⟩
        case measure => simp [intOf]; omega
    · have hjn : j = n := by omega
      subst hjn
      have hsv : s = sumV P j y := HS.out.trans HV.out
      have HSV := Lib.hid hsv
      clear hsv
      go_wp2_with fail
      go_ret
      exact ⟨ret_int (congrArg Nat.cast HSV.out), HK.out.1⟩
end Go.Proofs.YtfkeemhbehhclaaDoor
