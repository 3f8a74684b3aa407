/-
  Contracts of Valid and Degree of package poly, of Degree of the specification, and of the law's helper number.
-/
import Derived.Test.YtiiopdomlepkmaaDoorPqs
namespace Go.Proofs.YtiiopdomlepkmaaDoor
set_option linter.unusedVariables false
open Go.RowKit Go.Maps

set_option maxHeartbeats 2000000 in
theorem PValid_no (P M n : Int) (hn0 : -9223372036854775808 ≤ n) (hn1 : n ≤ 9223372036854775807) (v : Value) (ts : List (Int × List Int)) (w : World) (hL : Lays w) (hv : PolyV w v ts) (h : ¬ ValidPs P M n [ts]) :
    Calls Tryd.prog 14 #[.agg #[.int .i64 P, .int .i64 M], .int .i64 n, v] w fun e w' => e = .returned (.bool false) ∧ Below w.heap.size w w' := by
  have hB2 := below2 w (.cells #[.int .i64 P, .int .i64 M] 23) (.cells #[v] 25)
  have hO := open_no1 P M n hn0 hn1 (some ⟨w.heap.size + 1, 0, none⟩) 1 1 [ts] rfl (by omega) _ (hL.below hB2) (rdps_one (snd_cell _ _ _ _ _) (hv.below hB2)) h
  have HO := Lib.hid hO
  have HB2 := Lib.hid hB2
  obtain ⟨VA, VC, rfl, -, -⟩ := hv
  generalize ts.length = tl at *
  clear hO hB2 hL h hn0 hn1
  go_enter Tryd.func14, Tryd.ntmps14
  go_wp2_with fail
  refine HO.out.mono ?_
  rintro e w1 ⟨rfl, hB1⟩
  have HB3 := Lib.hid (HB2.out.trans (hB1.mono HB2.out.size))
  clear HB2 hB1
  unfold zeroRing
  go_wp2_with fail
  go_ret
  exact ⟨rfl, HB3.out.alloc HB3.out.size _⟩

set_option maxHeartbeats 2000000 in
theorem PValid_yes (P M q n : Nat) (hf : Fld P M q) (hn : n ≤ 80) (v : Value) (ts : List (Int × List Int)) (w : World) (hL : Lays w) (hv : PolyV w v ts) (h : OkP q n ts) :
    Calls Tryd.prog 14 #[.agg #[.int .i64 (P : Int), .int .i64 (M : Int)], .int .i64 (n : Int), v] w fun e w' => e = .returned (.bool true) ∧ Below w.heap.size w w' := by
  have hB2 := below2 w (.cells #[.int .i64 (P : Int), .int .i64 (M : Int)] 23) (.cells #[v] 25)
  have hO := open_yes1 P M q n hf hn (some ⟨w.heap.size + 1, 0, none⟩) 1 1 [ts] rfl (by omega) _ (hL.below hB2) (rdps_one (snd_cell _ _ _ _ _) (hv.below hB2)) (by simpa using h)
  have HO := Lib.hid hO
  have HB2 := Lib.hid hB2
  obtain ⟨VA, VC, rfl, -, -⟩ := hv
  generalize ts.length = tl at *
  clear hO hB2 hL h
  go_enter Tryd.func14, Tryd.ntmps14
  go_wp2_with fail
  refine HO.out.mono ?_
  rintro e w1 ⟨rfl, hB1⟩
  have HB3 := Lib.hid (HB2.out.trans (hB1.mono HB2.out.size))
  clear HB2 hB1
  go_wp2_with fail
  go_ret
  exact ⟨rfl, HB3.out.alloc HB3.out.size _⟩

/-- The maximum of the sums of exponents, from a start. -/
def degL (d : Int) : List Tm → Int
  | [] => d
  | t :: p => degL (max d (t.2.sum : Nat)) p
theorem degL_snoc (d : Int) (p : List Tm) (t : Tm) : degL d (p ++ [t]) = max (degL d p) (t.2.sum : Nat) := by
  induction p generalizing d with
  | nil => rfl
  | cons s p ih => simp only [List.cons_append, degL]; exact ih _
def degP (p : List Tm) : Int := degL (-1) p
theorem degP_bound {n : Nat} {p : List Tm} (h : ∀ t ∈ p, Ex n t.2) (hn : n ≤ 80) (k : Nat) : -1 ≤ degP (p.take k) ∧ degP (p.take k) ≤ 5242800 := by
  have hs : ∀ e : List Nat, (∀ x ∈ e, x ≤ 65535) → e.sum ≤ 65535 * e.length := by
    intro e
    induction e with
    | nil => simp
    | cons x e ih => intro hx; have h1 := ih (fun y hy => hx y (by simp [hy])); have h2 := hx x (by simp); simp; omega
  have key : ∀ (l : List Tm) (d : Int), (∀ t ∈ l, Ex n t.2) → -1 ≤ d → d ≤ 5242800 → -1 ≤ degL d l ∧ degL d l ≤ 5242800 := by
    intro l
    induction l with
    | nil => intro d _ h1 h2; exact ⟨h1, h2⟩
    | cons t l ih =>
      intro d hx h1 h2
      have hx0 := hx t (by simp)
      have := hs t.2 hx0.2
      rw [hx0.1] at this
      exact ih _ (fun s hs => hx s (by simp [hs])) (by omega) (by omega)
  exact key _ _ (fun t ht => h t (List.mem_of_mem_take ht)) (by omega) (by omega)

set_option maxHeartbeats 2000000 in
theorem Degree_no (P M n : Int) (hn0 : -9223372036854775808 ≤ n) (hn1 : n ≤ 9223372036854775807) (v : Value) (ts : List (Int × List Int)) (w : World) (hL : Lays w) (hv : PolyV w v ts) (h : ¬ ValidPs P M n [ts]) :
    Calls Tryd.prog 11 #[.agg #[.int .i64 P, .int .i64 M], .int .i64 n, v] w fun e w' => e = .returned (.tuple #[.int .i64 0, .int .i64 1]) ∧ Below w.heap.size w w' := by
  have hB2 := below2 w (.cells #[.int .i64 P, .int .i64 M] 23) (.cells #[v] 25)
  have hO := open_no1 P M n hn0 hn1 (some ⟨w.heap.size + 1, 0, none⟩) 1 1 [ts] rfl (by omega) _ (hL.below hB2) (rdps_one (snd_cell _ _ _ _ _) (hv.below hB2)) h
  have HO := Lib.hid hO
  have HB2 := Lib.hid hB2
  obtain ⟨VA, VC, rfl, -, -⟩ := hv
  generalize ts.length = tl at *
  clear hO hB2 hL h hn0 hn1
  go_enter Tryd.func11, Tryd.ntmps11
  go_wp2_with fail
  refine HO.out.mono ?_
  rintro e w1 ⟨rfl, hB1⟩
  have HB3 := Lib.hid (HB2.out.trans (hB1.mono HB2.out.size))
  clear HB2 hB1
  unfold zeroRing
  go_wp2_with fail
  go_ret2
  exact ⟨rfl, HB3.out.alloc HB3.out.size _⟩

theorem sum_take_succ {e : List Nat} {k x : Nat} (h : e[k]? = some x) : (e.take (k + 1)).sum = (e.take k).sum + x := by
  rw [List.take_add_one, h]; simp
theorem sum_take_le {n : Nat} {e : List Nat} (h : Ex n e) (k : Nat) : (e.take k).sum ≤ 65535 * k := by
  induction k with
  | zero => simp
  | succ k ih =>
    cases hk : e[k]? with
    | none =>
      rw [List.take_add_one, hk]; simp; omega
    | some x =>
      rw [sum_take_succ hk]
      have := h.2 x (List.mem_of_getElem? hk)
      omega

set_option maxHeartbeats 4000000 in
theorem Degree_ok (P M q n : Nat) (hf : Fld P M q) (hn : n ≤ 80) (VA : Option Addr) (VC : Nat) (p : List Tm) (w : World) (hL : Lays w) (hr : RdP w VA (tms p)) (hp : Ris q n p) (hx : ∀ t ∈ p, Ex n t.2) (hlen : p.length ≤ 20000) :
    Calls Tryd.prog 11 #[.agg #[.int .i64 (P : Int), .int .i64 (M : Int)], .int .i64 (n : Int), .slice VA p.length VC] w fun e w' => e = .returned (.tuple #[.int .i64 (degP p), .int .i64 0]) ∧ Below w.heap.size w w' := by
  have hB2 := below2 w (.cells #[.int .i64 (P : Int), .int .i64 (M : Int)] 23) (.cells #[.slice VA p.length VC] 25)
  have hv : PolyV w (.slice VA p.length VC) (tms p) := ⟨VA, VC, by simp, hr, by simp; omega⟩
  have hO := open_yes1 P M q n hf hn (some ⟨w.heap.size + 1, 0, none⟩) 1 1 [tms p] rfl (by omega) _ (hL.below hB2) (rdps_one (snd_cell _ _ _ _ _) (hv.below hB2)) (fun x hx' => by
    simp at hx'
    subst hx'
    exact ⟨by simpa using hlen, p, rfl, hp, hx⟩)
  have HO := Lib.hid hO
  have HB2 := Lib.hid hB2
  have HR := Lib.hid hr
  have HX := Lib.hid hx
  have HDB := Lib.hid (degP_bound hx hn)
  clear hO hB2 hL hp hx hr hv
  go_enter Tryd.func11, Tryd.ntmps11
  go_wp2_with fail
  refine HO.out.mono ?_
  rintro e w1 ⟨rfl, hB1⟩
  have hb3 := HB2.out.trans (hB1.mono HB2.out.size)
  have HB3 := Lib.hid (hb3.alloc hb3.size (rgO P M q n))
  clear HB2 hB1 hb3 HO
  go_wp2_with fail
  go_loopw [10, 12, 13, 15, 29] (fun d _ _ _ i W => ∃ k : Nat, k ≤ p.length ∧ i = .int .i64 k ∧ d = .int .i64 (degP (p.take k)) ∧ Below w.heap.size w W) (fun _ _ _ _ i _ => p.length - (intOf i).toNat)
  case atStart => exact ⟨0, by omega, rfl, by simp [degP, degL], HB3.out⟩
  case round =>
    clear HB3
    obtain ⟨k, hk, rfl, rfl, hBw⟩ := hrel
    have HBW := Lib.hid hBw
    have hdb := HDB.out k
    by_cases hlt : k < p.length
    · obtain ⟨t, ht⟩ : ∃ t, p[k]? = some t := ⟨_, List.getElem?_eq_getElem hlt⟩
      obtain ⟨b, off, u, rfl, g1, g2, g3⟩ := HR.out k ((t.1 : Int), nz t.2) (by simp [ht])
      have k1 := (hBw.cell (World.block_lt_of_cell? w _ g1)).trans g1
      have k2 := (hBw.cell (World.block_lt_of_cell? w _ g2)).trans g2
      have htx := HX.out t (List.mem_of_getElem? ht)
      obtain ⟨EA, ec, rfl, hri, _⟩ := g3
      rw [nz_length, htx.1] at k2
      have HRI := Lib.hid hri
      have HTX := Lib.hid htx
      have HDS : Hid (degP (p.take (k + 1)) = max (degP (p.take k)) (t.2.sum : Nat)) := Lib.hid (by
        rw [show p.take (k + 1) = p.take k ++ [t] by rw [List.take_add_one, ht]; rfl]
        exact degL_snoc _ _ _)
      have hdb2 := HDB.out (k + 1)
      rw [HDS.out] at hdb2
      generalize degP (p.take k) = dk at *
      have hb1 := below1 wr (.cells #[.int .i64 (t.1 : Int), .slice EA n ec] 65)
      have HBA := Lib.hid (hBw.trans (hb1.mono hBw.size))
      clear g1 g2 hri htx ht hBw hb1
      go_wp2_with fail
      go_loopw [13, 15, 36] (fun sv _ jv W => ∃ j : Nat, j ≤ n ∧ jv = .int .i64 j ∧ sv = .int .i64 ((t.2.take j).sum : Nat) ∧ Below w.heap.size w W) (fun _ _ jv _ => n - (intOf jv).toNat)
      case atStart => exact ⟨0, by omega, rfl, by simp, HBA.out⟩
      case round =>
        clear HBA
        obtain ⟨j, hj, rfl, rfl, hBw⟩ := hrel
        have HBX := Lib.hid hBw
        have hsl := sum_take_le HTX.out j
        by_cases hjn : j < n
        · obtain ⟨x, hx⟩ : ∃ x, t.2[j]? = some x := ⟨_, List.getElem?_eq_getElem (by rw [HTX.out.1]; exact hjn)⟩
          obtain ⟨a, rfl, g3⟩ := HRI.out j _ (nz_at hx)
          have k3 := (hBw.cell (World.block_lt_of_cell? w _ g3)).trans g3
          have HSX := Lib.hid (sum_take_succ hx)
          have hx65 := HTX.out.2 x (List.mem_of_getElem? hx)
          generalize (t.2.take j).sum = sj at *
          clear g3 hx hBw k1 k2
          go_wp2_with fail
          go_roundw
          case rel => exact ⟨j + 1, by omega, by go_num, by rw [HSX.out]; go_num, HBX.out⟩
          case measure => simp [intOf]; omega
        · have hjj : j = n := by omega
          rw [hjj, List.take_of_length_le (Nat.le_of_eq HTX.out.1)] at hsl ⊢
          generalize t.2.sum = sj at *
          clear hBw k1 k2 hjj
          go_wp2_with fail
          go_roundw
          case rel => exact ⟨k + 1, by omega, by go_num, by rw [HDS.out], HBX.out⟩
          case measure => simp [intOf]; omega
    · have hkl : k = p.length := by omega
      rw [hkl, List.take_of_length_le (Nat.le_refl _)] at hdb ⊢
      clear hBw hkl
      go_wp2_with fail
      go_ret2
      exact ⟨rfl, HBW.out⟩
end Go.Proofs.YtiiopdomlepkmaaDoor
