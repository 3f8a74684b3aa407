/-
  Contract of Valid of the specification of layer 4.
-/
import Derived.Test.YtiiopdomlepkmaaDoorPqv
namespace Go.Proofs.YtiiopdomlepkmaaDoor
set_option linter.unusedVariables false
open Go.RowKit Go.Maps

/-- The order of lists of any numbers. -/
def cmpZ : List Int → List Int → Int
  | [], [] => 0
  | [], _ :: _ => -1
  | _ :: _, [] => 1
  | a :: s, b :: t => if a < b then -1 else if b < a then 1 else cmpZ s t
theorem cmpZ_nz : ∀ s t : List Nat, cmpZ (nz s) (nz t) = cmpL s t
  | [], [] => rfl
  | [], _ :: _ => rfl
  | _ :: _, [] => rfl
  | a :: s, b :: t => by
    show (if (a : Int) < (b : Int) then (-1 : Int) else if (b : Int) < (a : Int) then 1 else cmpZ (nz s) (nz t)) = if a < b then -1 else if b < a then 1 else cmpL s t
    rw [cmpZ_nz s t]
    by_cases h1 : a < b
    · rw [if_pos h1, if_pos (by omega)]
    · by_cases h2 : b < a
      · rw [if_neg h1, if_pos h2, if_neg (by omega), if_pos (by omega)]
      · rw [if_neg h1, if_neg h2, if_neg (by omega), if_neg (by omega)]
theorem cmpZ_range : ∀ s t : List Int, cmpZ s t = -1 ∨ cmpZ s t = 0 ∨ cmpZ s t = 1
  | [], [] => .inr (.inl rfl)
  | [], _ :: _ => .inl rfl
  | _ :: _, [] => .inr (.inr rfl)
  | a :: s, b :: t => by
    unfold cmpZ
    split
    · exact .inl rfl
    · split
      · exact .inr (.inr rfl)
      · exact cmpZ_range s t
theorem cmpZ_same (s t : List Int) (h : s.length = t.length) (k : Nat) (hk : k < s.length) : cmpZ (s.drop k) (t.drop k) = if s[k]?.getD 0 < t[k]?.getD 0 then -1 else if t[k]?.getD 0 < s[k]?.getD 0 then 1 else cmpZ (s.drop (k + 1)) (t.drop (k + 1)) := by
  have ht : k < t.length := by omega
  rw [List.drop_eq_getElem_cons hk, List.drop_eq_getElem_cons ht, List.getElem?_eq_getElem hk, List.getElem?_eq_getElem ht]
  rfl

set_option maxHeartbeats 2000000 in
theorem cmpZ_ok (A B : Option Addr) (c1 c2 n : Nat) (ps qs : List Int) (w : World) (hp : ps.length = n) (hq : qs.length = n) (hn : n ≤ 80) (hr : RdI w A ps) (hr2 : RdI w B qs) :
    Calls Tryd.prog 35 #[.slice A n c1, .slice B n c2] w fun e w' => e = .returned (.int .i64 (cmpZ ps qs)) ∧ Below w.heap.size w w' := by
  have HR := Lib.hid hr
  have HR2 := Lib.hid hr2
  have HP := Lib.hid hp
  have HQ := Lib.hid hq
  clear hr hr2
  go_enter Tryd.func35, Tryd.ntmps35
  go_wp2_with fail
  go_loopw [5] (fun i wr => ∃ k : Nat, k ≤ n ∧ i = .int .i64 k ∧ cmpZ ps qs = cmpZ (ps.drop k) (qs.drop k) ∧ Below w.heap.size w wr) (fun i _ => n - (intOf i).toNat)
  case atStart => exact ⟨0, Nat.zero_le _, rfl, rfl, Below.refl _ _⟩
  case round =>
    obtain ⟨k, hk, rfl, hc, hB⟩ := hrel
    by_cases hkn : k < n
    · obtain ⟨x, hx⟩ : ∃ x, ps[k]? = some x := ⟨_, List.getElem?_eq_getElem (by rw [HP.out]; exact hkn)⟩
      obtain ⟨y, hy⟩ : ∃ y, qs[k]? = some y := ⟨_, List.getElem?_eq_getElem (by rw [HQ.out]; exact hkn)⟩
      obtain ⟨a, rfl, g1⟩ := HR.out k _ hx
      obtain ⟨b, rfl, g2⟩ := HR2.out k _ hy
      have k1 := (hB.cell (World.block_lt_of_cell? w _ g1)).trans g1
      have k2 := (hB.cell (World.block_lt_of_cell? w _ g2)).trans g2
      have hs := cmpZ_same ps qs (by rw [HP.out, HQ.out]) k (by rw [HP.out]; exact hkn)
      rw [hs, hx, hy] at hc
      simp only [Option.getD_some] at hc
      have HB := Lib.hid hB
      clear hs hx hy g1 g2 hB
      by_cases h1 : x < y
      · rw [if_pos h1] at hc
        have HC := Lib.hid hc
        have hd1 : decide (x < y) = true := decide_eq_true h1
        clear hc
        go_wp2_with fail
        go_region
        go_wp2_with fail
        go_ret
        exact ⟨by rw [HC.out]; rfl, HB.out.drew⟩
      · by_cases h2 : y < x
        · rw [if_neg h1, if_pos h2] at hc
          have HC := Lib.hid hc
          have hd1 : decide (x < y) = false := decide_eq_false h1
          have hd2 : decide (y < x) = true := decide_eq_true h2
          clear hc
          go_wp2_with fail
          go_region
          go_wp2_with fail
          go_region
          go_wp2_with fail
          go_ret
          exact ⟨by rw [HC.out]; rfl, HB.out.drew.drew⟩
        · rw [if_neg h1, if_neg h2] at hc
          have HC := Lib.hid hc
          have hd1 : decide (x < y) = false := decide_eq_false h1
          have hd2 : decide (y < x) = false := decide_eq_false h2
          clear hc
          go_wp2_with fail
          go_region
          go_wp2_with fail
          go_region
          go_wp2_with fail
          go_roundw
          case rel => exact ⟨k + 1, by omega, by go_num, HC.out, HB.out.drew.drew⟩
          case measure => simp [intOf]; omega
    · have hc0 : cmpZ ps qs = 0 := by
        rw [hc, List.drop_eq_nil_of_le (by have := HP.out; omega), List.drop_eq_nil_of_le (by have := HQ.out; omega)]
        rfl
      have HC := Lib.hid hc0
      have HB := Lib.hid hB
      clear hc hc0 hB
      go_wp2_with fail
      go_ret
      exact ⟨by rw [HC.out]; rfl, HB.out⟩

theorem PreP.len {q n k : Nat} {ts : List (Int × List Int)} {c : Int} {E : List Int} (h : PreP q n ts (k + 1)) (hk : ts[k]? = some (c, E)) : E.length = n := by
  obtain ⟨p, h1, h2, h3⟩ := h
  have : (p.map (fun t : Tm => ((t.1 : Int), nz t.2)))[k]? = some (c, E) := by rw [← h1, List.getElem?_take, if_pos (by omega)]; exact hk
  obtain ⟨s, hs, e⟩ := tms_at this
  simp only [Prod.mk.injEq] at e
  rw [e.2, nz_length]
  exact (h3 s (List.mem_of_getElem? hs)).1
theorem PreP.up {q n k : Nat} {ts : List (Int × List Int)} {c c' : Int} {E E' : List Int} (h : PreP q n ts (k + 1)) (hk : ts[k + 1]? = some (c, E)) (hk' : ts[k]? = some (c', E')) (hT : OkT q n c E) (hc : cmpZ E' E < 0) : PreP q n ts (k + 2) := by
  obtain ⟨s, t, hs, he, _, _, h1, _⟩ := h.next hk hT
  rw [hs] at hk'
  simp only [Option.some.injEq, Prod.mk.injEq] at hk'
  rw [← hk'.2, he, cmpZ_nz] at hc
  exact h1 hc
theorem PreP.down {q n k : Nat} {ts : List (Int × List Int)} {c c' : Int} {E E' : List Int} (h : PreP q n ts (k + 1)) (hk : ts[k + 1]? = some (c, E)) (hk' : ts[k]? = some (c', E')) (hc : ¬ cmpZ E' E < 0) : ¬ OkP q n ts := fun hok => by
  obtain ⟨s, t, hs, he, _, _, _, h1⟩ := h.next hk (hok.term hk)
  rw [hs] at hk'
  simp only [Option.some.injEq, Prod.mk.injEq] at hk'
  rw [← hk'.2, he, cmpZ_nz] at hc
  exact h1 hc hok

theorem all_up {E : List Int} {j : Nat} {x : Int} (h : ∀ i x, i < j → E[i]? = some x → 0 ≤ x ∧ x ≤ 65535) (hx : E[j]? = some x) (h0 : ¬ x < 0) (h1 : ¬ 65535 < x) : ∀ i y, i < j + 1 → E[i]? = some y → 0 ≤ y ∧ y ≤ 65535 := fun i y hi hy => by
  rcases Nat.lt_or_ge i j with h2 | h2
  · exact h i y h2 hy
  · have e : i = j := by omega
    rw [e, hx] at hy
    cases hy
    omega

set_option maxHeartbeats 2000000 in
theorem validR_bad (P M n : Int) (v : Value) (ts : List (Int × List Int)) (w : World) (hv : PolyV w v ts) (h : n < 0 ∨ 80 < n ∨ 20000 < ts.length ∨ ¬ OkF P M) :
    Calls Tryd.prog 13 #[.agg #[.int .i64 P, .int .i64 M], .int .i64 n, v] w fun e w' => e = .returned (.bool false) ∧ Below w.heap.size w w' := by
  obtain ⟨VA, VC, rfl, -, hl⟩ := hv
  generalize ts.length = tl at *
  have HB1 := Lib.hid (below1 w (.cells #[.int .i64 P, .int .i64 M] 23))
  by_cases h1 : n < 0
  · have d1 : decide (n < 0) = true := decide_eq_true h1
    clear h
    go_enter Tryd.func13, Tryd.ntmps13
    go_wp2_with fail
    go_ret
    exact ⟨rfl, HB1.out⟩
  · have d1 : decide (n < 0) = false := decide_eq_false h1
    by_cases h2 : 80 < n
    · have d2 : decide (80 < n) = true := decide_eq_true h2
      clear h
      go_enter Tryd.func13, Tryd.ntmps13
      go_wp2_with fail
      go_ret
      exact ⟨rfl, HB1.out⟩
    · have d2 : decide (80 < n) = false := decide_eq_false h2
      by_cases h3 : 20000 < tl
      · have d3 : decide (20000 < (tl : Int)) = true := decide_eq_true (by omega)
        clear h
        go_enter Tryd.func13, Tryd.ntmps13
        go_wp2_with fail
        go_ret
        exact ⟨rfl, HB1.out⟩
      · have d3 : decide (20000 < (tl : Int)) = false := decide_eq_false (by omega)
        have h4 : ¬ OkF P M := by rcases h with h | h | h | h <;> first | exact h | omega
        have HO := Lib.hid (ordR_no P M h4)
        clear h
        go_enter Tryd.func13, Tryd.ntmps13
        go_wp2_with fail
        refine (HO.out _).mono ?_
        rintro e w1 ⟨rfl, hB⟩
        have HB2 := Lib.hid (HB1.out.trans (hB.mono HB1.out.size))
        go_wp2_with fail
        go_ret
        exact ⟨rfl, HB2.out⟩


set_option maxRecDepth 100000 in
set_option maxHeartbeats 8000000 in
theorem validR_fld (P M q n : Nat) (hf : Fld P M q) (hn : n ≤ 80) (v : Value) (ts : List (Int × List Int)) (w : World) (hv : PolyV w v ts) (hl : ts.length ≤ 20000) :
    Calls Tryd.prog 13 #[.agg #[.int .i64 (P : Int), .int .i64 (M : Int)], .int .i64 (n : Int), v] w (ContIs q n ts w) := by
  obtain ⟨VA, VC, rfl, hr, -⟩ := hv
  have HB1 := Lib.hid (below1 w (.cells #[.int .i64 (P : Int), .int .i64 (M : Int)] 23))
  have HR := Lib.hid hr
  have HO := Lib.hid (fun W => ordR_ok P M q hf W)
  have hq2 := hf.q_ge
  have hq3 := hf.q_le
  generalize hL : ts.length = L at *
  have HL := Lib.hid hL
  clear hr hL
  have d3 : decide (20000 < (L : Int)) = false := decide_eq_false (by omega)
  have hq0 : ((q : Int) == 0) = false := by simp; omega
  go_enter Tryd.func13, Tryd.ntmps13
  go_wp2_with fail
  refine (HO.out _).mono ?_
  rintro e w1 ⟨rfl, hB⟩
  have HB2 := Lib.hid (HB1.out.trans (hB.mono HB1.out.size))
  clear hB
  go_wp2_with fail
  go_loopw [8, 9] (fun i _ W => ∃ k : Nat, k ≤ L ∧ i = .int .i64 k ∧ PreP q n ts k ∧ Below w.heap.size w W) (fun i _ _ => L - (intOf i).toNat)
  case atStart => exact ⟨0, by omega, rfl, ⟨[], by simp, Ris.nil q n, by simp⟩, HB2.out⟩
  case round =>
    clear HB2
    obtain ⟨k, hk, rfl, hpre, hBw⟩ := hrel
    have HPre := Lib.hid hpre
    have HBW := Lib.hid hBw
    clear hpre
    by_cases hlt : k < L
    · obtain ⟨⟨c, E⟩, ht⟩ : ∃ t, ts[k]? = some t := ⟨_, List.getElem?_eq_getElem (by rw [HL.out]; exact hlt)⟩
      obtain ⟨b, off, u, rfl, g1, g2, g3⟩ := HR.out k _ ht
      have k1 := (hBw.cell (World.block_lt_of_cell? w _ g1)).trans g1
      have k2 := (hBw.cell (World.block_lt_of_cell? w _ g2)).trans g2
      obtain ⟨EA, ec, rfl, hri, hel⟩ := g3
      have HRI := Lib.hid hri
      have HG2 := Lib.hid g2
      have HT := Lib.hid ht
      generalize hEl : E.length = el at *
      have HEL := Lib.hid hEl
      clear g1 g2 hri ht hEl
      have HTERM : Hid (∀ hok : OkP q n ts, 1 ≤ c ∧ c < q ∧ el = n) := Lib.hid (fun hok => by have h := hok.term HT.out; exact ⟨by have := h.1; omega, h.2.1, by rw [← HEL.out]; exact h.2.2.1⟩)
      by_cases q1 : c < 1
      · have d1 : decide (c < 1) = true := decide_eq_true q1
        have HBAD : Hid (¬ OkP q n ts) := Lib.hid (fun hok => by have := HTERM.out hok; omega)
        go_wp2_with fail
        refine wp_region_text (S := (fun W => Below w.heap.size w W ∧ W.cell? ⟨b, off + k * 2, none⟩ = some (.int .i64 c) ∧ W.cell? ⟨b, off + k * 2 + 1, none⟩ = some (.slice EA el ec))) (by kernel_rfl) (by kernel_rfl) ⟨hBw.drew, k1, k2⟩ (b := ?b1) ?text1 ?post1
        case text1 =>
          iterate 7 (refine InText.pure (by rfl) (fun W hw => by (try dsimp only at hw); go_simp; try with_reducible rfl) ?_; simp only [Act.put, List.setIfInBounds_toArray, List.set_cons_zero, List.set_cons_succ])
          iterate 7 (refine InText.skip (by rfl) ?_; simp only [Act.put, List.setIfInBounds_toArray, List.set_cons_zero, List.set_cons_succ])
          iterate 2 (refine InText.pure (by rfl) (fun W hw => by (try dsimp only at hw); go_simp; try with_reducible rfl) ?_; simp only [Act.put, List.setIfInBounds_toArray, List.set_cons_zero, List.set_cons_succ])
          iterate 8 (refine InText.skip (by rfl) ?_; simp only [Act.put, List.setIfInBounds_toArray, List.set_cons_zero, List.set_cons_succ])
          iterate 2 (refine InText.pure (by rfl) (fun W hw => by (try dsimp only at hw); go_simp; try with_reducible rfl) ?_; simp only [Act.put, List.setIfInBounds_toArray, List.set_cons_zero, List.set_cons_succ])
          iterate 17 (refine InText.skip (by rfl) ?_; simp only [Act.put, List.setIfInBounds_toArray, List.set_cons_zero, List.set_cons_succ])
          iterate 1 (refine InText.pure (by rfl) (fun W hw => by (try dsimp only at hw); go_simp; try with_reducible rfl) ?_; simp only [Act.put, List.setIfInBounds_toArray, List.set_cons_zero, List.set_cons_succ])
          exact InText.done
        case post1 =>
          intro W hS
          have HS := Lib.hid hS.1
          clear hS k1 k2
          go_wp2_with fail
          go_ret
          exact ⟨HS.out, .inr ⟨HBAD.out, rfl⟩⟩
      · have d1 : decide (c < 1) = false := decide_eq_false q1
        by_cases q2 : (q : Int) ≤ c
        · have d2 : decide ((q : Int) ≤ c) = true := decide_eq_true q2
          have HBAD : Hid (¬ OkP q n ts) := Lib.hid (fun hok => by have := HTERM.out hok; omega)
          go_wp2_with fail
          refine wp_region_text (S := (fun W => Below w.heap.size w W ∧ W.cell? ⟨b, off + k * 2, none⟩ = some (.int .i64 c) ∧ W.cell? ⟨b, off + k * 2 + 1, none⟩ = some (.slice EA el ec))) (by kernel_rfl) (by kernel_rfl) ⟨hBw.drew, k1, k2⟩ (b := ?b2) ?text2 ?post2
          case text2 =>
            iterate 16 (refine InText.pure (by rfl) (fun W hw => by (try dsimp only at hw); go_simp; try with_reducible rfl) ?_; simp only [Act.put, List.setIfInBounds_toArray, List.set_cons_zero, List.set_cons_succ])
            iterate 8 (refine InText.skip (by rfl) ?_; simp only [Act.put, List.setIfInBounds_toArray, List.set_cons_zero, List.set_cons_succ])
            iterate 2 (refine InText.pure (by rfl) (fun W hw => by (try dsimp only at hw); go_simp; try with_reducible rfl) ?_; simp only [Act.put, List.setIfInBounds_toArray, List.set_cons_zero, List.set_cons_succ])
            iterate 17 (refine InText.skip (by rfl) ?_; simp only [Act.put, List.setIfInBounds_toArray, List.set_cons_zero, List.set_cons_succ])
            iterate 1 (refine InText.pure (by rfl) (fun W hw => by (try dsimp only at hw); go_simp; try with_reducible rfl) ?_; simp only [Act.put, List.setIfInBounds_toArray, List.set_cons_zero, List.set_cons_succ])
            exact InText.done
          case post2 =>
            intro W hS
            have HS := Lib.hid hS.1
            clear hS k1 k2
            go_wp2_with fail
            go_ret
            exact ⟨HS.out, .inr ⟨HBAD.out, rfl⟩⟩
        · have d2 : decide ((q : Int) ≤ c) = false := decide_eq_false q2
          by_cases q3 : el = n
          · subst q3
            cases k with
            | zero =>
              simp only [Nat.zero_mul, Nat.add_zero] at k1 k2
              have HG2 : Hid (w.cell? ⟨b, off + 1, none⟩ = some (.slice EA el ec)) := Lib.hid (by have := HG2.out; simpa using this)
              go_wp2_with fail
              refine wp_region_text (S := (fun W => Below w.heap.size w W ∧ W.cell? ⟨b, off, none⟩ = some (.int .i64 c) ∧ W.cell? ⟨b, off + 1, none⟩ = some (.slice EA el ec))) (by kernel_rfl) (by kernel_rfl) ⟨hBw.drew, k1, k2⟩ (b := ?b3) ?text3 ?post3
              case text3 =>
                iterate 29 (refine InText.pure (by rfl) (fun W hw => by (try dsimp only at hw); go_simp; try with_reducible rfl) ?_; simp only [Act.put, List.setIfInBounds_toArray, List.set_cons_zero, List.set_cons_succ])
                iterate 13 (refine InText.skip (by rfl) ?_; simp only [Act.put, List.setIfInBounds_toArray, List.set_cons_zero, List.set_cons_succ])
                iterate 2 (refine InText.pure (by rfl) (fun W hw => by (try dsimp only at hw); go_simp; try with_reducible rfl) ?_; simp only [Act.put, List.setIfInBounds_toArray, List.set_cons_zero, List.set_cons_succ])
                exact InText.done
              case post3 =>
                intro W hS
                have HS := Lib.hid hS.1
                clear hS k1 k2
                obtain ⟨wo, rfl⟩ : ∃ wo : World, wo = W := ⟨_, rfl⟩
                go_wp2_with fail
                go_loopw [9] (fun jv W => ∃ j : Nat, j ≤ el ∧ jv = .int .i64 j ∧ (∀ i x, i < j → E[i]? = some x → 0 ≤ x ∧ x ≤ 65535) ∧ Below w.heap.size w W) (fun jv _ => el - (intOf jv).toNat)
                case atStart => exact ⟨0, by omega, rfl, fun i x hi _ => absurd hi (Nat.not_lt_zero _), HS.out⟩
                case round =>
                  clear HS
                  obtain ⟨j, hj, rfl, hall, hBw2⟩ := hrel
                  have HALL := Lib.hid hall
                  have HBX := Lib.hid hBw2
                  have c2 := (hBw2.cell (World.block_lt_of_cell? w _ HG2.out)).trans HG2.out
                  clear hall
                  by_cases hjn : j < el
                  · obtain ⟨x, hx⟩ : ∃ x, E[j]? = some x := ⟨_, List.getElem?_eq_getElem (by rw [HEL.out]; exact hjn)⟩
                    obtain ⟨a, rfl, g3⟩ := HRI.out j _ hx
                    have c3 := (hBw2.cell (World.block_lt_of_cell? w _ g3)).trans g3
                    have HX := Lib.hid hx
                    clear hx g3 hBw2
                    by_cases hx0 : x < 0
                    · have d5 : decide (x < 0) = true := decide_eq_true hx0
                      have HBAD : Hid (¬ OkP q el ts) := Lib.hid (fun hok => by have := (hok.term HT.out).2.2.2 x (List.mem_of_getElem? HX.out); omega)
                      go_wp2_with fail
                      go_ret
                      exact ⟨HBX.out, .inr ⟨HBAD.out, rfl⟩⟩
                    · have d5 : decide (x < 0) = false := decide_eq_false hx0
                      by_cases hx1 : 65535 < x
                      · have d6 : decide (65535 < x) = true := decide_eq_true hx1
                        have HBAD : Hid (¬ OkP q el ts) := Lib.hid (fun hok => by have := (hok.term HT.out).2.2.2 x (List.mem_of_getElem? HX.out); omega)
                        go_wp2_with fail
                        go_ret
                        exact ⟨HBX.out, .inr ⟨HBAD.out, rfl⟩⟩
                      · have d6 : decide (65535 < x) = false := decide_eq_false hx1
                        go_wp2_with fail
                        go_roundw
                        case rel => exact ⟨j + 1, by omega, by go_num, all_up HALL.out HX.out hx0 hx1, HBX.out⟩
                        case measure => simp [intOf]; omega
                  · have hok : OkT q el c E := ⟨by omega, by omega, HEL.out, fun x hx => by
                      obtain ⟨i, hi⟩ := List.mem_iff_getElem?.1 hx
                      exact HALL.out i x (by have h1 := (List.getElem?_eq_some_iff.1 hi).1; have h2 := HEL.out; omega) hi⟩
                    have HN : Hid (PreP q el ts (0 + 1)) := Lib.hid (PreP.first HT.out hok)
                    clear hok hBw2
                    go_wp2_with fail
                    go_roundw
                    case rel => exact ⟨0 + 1, by omega, by go_num, HN.out, HBX.out⟩
                    case measure => simp [intOf]; omega
            | succ k =>
              obtain ⟨⟨c', E'⟩, ht'⟩ : ∃ t, ts[k]? = some t := ⟨_, List.getElem?_eq_getElem (by rw [HL.out]; omega)⟩
              have hl' := HPre.out.len ht'
              obtain ⟨b', off', u', e', _, g0, g3'⟩ := HR.out k _ ht'
              simp only [Option.some.injEq, Addr.mk.injEq, and_true] at e'
              obtain ⟨rfl, rfl⟩ := e'
              obtain ⟨PA, pc, rfl, p4, _⟩ := g3'
              rw [hl'] at g0
              have HCM := Lib.hid (fun W (hW : Below w.heap.size w W) => cmpZ_ok PA EA pc ec el E' E W hl' HEL.out hn (p4.below hW) (HRI.out.below hW))
              have k0 := (hBw.cell (World.block_lt_of_cell? w _ g0)).trans g0
              have HT' := Lib.hid ht'
              have hk2 : k < L := by omega
              have hb0 : (0 : Int) ≤ (k : Int) + 1 := by omega
              have hb1 : (k : Int) + 1 < (L : Int) := by omega
              have hi1 : IntKind.i64.wrap ((k : Int) + 1 - 1) = (k : Int) := by rw [show ((k : Int) + 1 - 1) = k by omega]; exact IntWalk.i64_in _ (by omega)
              have hi2 : IntKind.i64.wrap (k : Int) = (k : Int) := IntWalk.i64_in _ (by omega)
              clear ht' g0 p4 hl'
              rcases cmpZ_range E' E with hx | hx | hx
              · have HZ := Lib.hid hx
                rw [hx] at HCM
                clear hx
                go_wp2_with fail
                refine wp_region_text (S := (fun W => Below w.heap.size w W ∧ W.cell? ⟨b, off + (k + 1) * 2, none⟩ = some (.int .i64 c) ∧ W.cell? ⟨b, off + (k + 1) * 2 + 1, none⟩ = some (.slice EA el ec) ∧ W.cell? ⟨b, off + k * 2 + 1, none⟩ = some (.slice PA el pc))) (by kernel_rfl) (by kernel_rfl) ⟨hBw.drew, k1, k2, k0⟩ (b := ?b4) ?text4 ?post4
                case text4 =>
                  iterate 40 (refine InText.pure (by rfl) (fun W hw => by (try dsimp only at hw); go_simp; try with_reducible rfl) ?_; simp only [Act.put, List.setIfInBounds_toArray, List.set_cons_zero, List.set_cons_succ])
                  refine InText.call (.int .i64 (-1)) (by rfl) (fun W hw => ?_) ?_
                  · go_simp
                    refine (HCM.out W hw.1).mono ?_
                    rintro e wx ⟨rfl, hB⟩
                    have h5 := hw.1.size
                    exact ⟨rfl, hw.1.trans (hB.mono h5), (hB.cell (World.block_lt_of_cell? W _ hw.2.1)).trans hw.2.1, (hB.cell (World.block_lt_of_cell? W _ hw.2.2.1)).trans hw.2.2.1, (hB.cell (World.block_lt_of_cell? W _ hw.2.2.2)).trans hw.2.2.2⟩
                  simp only [Act.put, List.setIfInBounds_toArray, List.set_cons_zero, List.set_cons_succ]
                  iterate 3 (refine InText.pure (by rfl) (fun W hw => by (try dsimp only at hw); go_simp; try with_reducible rfl) ?_; simp only [Act.put, List.setIfInBounds_toArray, List.set_cons_zero, List.set_cons_succ])
                  exact InText.done
                case post4 =>
                  intro W hS
                  have HS := Lib.hid hS.1
                  clear hS k1 k2 k0
                  obtain ⟨wo, rfl⟩ : ∃ wo : World, wo = W := ⟨_, rfl⟩
                  go_wp2_with fail
                  go_loopw [9] (fun jv W => ∃ j : Nat, j ≤ el ∧ jv = .int .i64 j ∧ (∀ i x, i < j → E[i]? = some x → 0 ≤ x ∧ x ≤ 65535) ∧ Below w.heap.size w W) (fun jv _ => el - (intOf jv).toNat)
                  case atStart => exact ⟨0, by omega, rfl, fun i x hi _ => absurd hi (Nat.not_lt_zero _), HS.out⟩
                  case round =>
                    clear HS
                    obtain ⟨j, hj, rfl, hall, hBw2⟩ := hrel
                    have HALL := Lib.hid hall
                    have HBX := Lib.hid hBw2
                    have c2 := (hBw2.cell (World.block_lt_of_cell? w _ HG2.out)).trans HG2.out
                    clear hall
                    by_cases hjn : j < el
                    · obtain ⟨x, hx⟩ : ∃ x, E[j]? = some x := ⟨_, List.getElem?_eq_getElem (by rw [HEL.out]; exact hjn)⟩
                      obtain ⟨a, rfl, g3⟩ := HRI.out j _ hx
                      have c3 := (hBw2.cell (World.block_lt_of_cell? w _ g3)).trans g3
                      have HX := Lib.hid hx
                      clear hx g3 hBw2
                      by_cases hx0 : x < 0
                      · have d5 : decide (x < 0) = true := decide_eq_true hx0
                        have HBAD : Hid (¬ OkP q el ts) := Lib.hid (fun hok => by have := (hok.term HT.out).2.2.2 x (List.mem_of_getElem? HX.out); omega)
                        go_wp2_with fail
                        go_ret
                        exact ⟨HBX.out, .inr ⟨HBAD.out, rfl⟩⟩
                      · have d5 : decide (x < 0) = false := decide_eq_false hx0
                        by_cases hx1 : 65535 < x
                        · have d6 : decide (65535 < x) = true := decide_eq_true hx1
                          have HBAD : Hid (¬ OkP q el ts) := Lib.hid (fun hok => by have := (hok.term HT.out).2.2.2 x (List.mem_of_getElem? HX.out); omega)
                          go_wp2_with fail
                          go_ret
                          exact ⟨HBX.out, .inr ⟨HBAD.out, rfl⟩⟩
                        · have d6 : decide (65535 < x) = false := decide_eq_false hx1
                          go_wp2_with fail
                          go_roundw
                          case rel => exact ⟨j + 1, by omega, by go_num, all_up HALL.out HX.out hx0 hx1, HBX.out⟩
                          case measure => simp [intOf]; omega
                    · have hok : OkT q el c E := ⟨by omega, by omega, HEL.out, fun x hx => by
                        obtain ⟨i, hi⟩ := List.mem_iff_getElem?.1 hx
                        exact HALL.out i x (by have h1 := (List.getElem?_eq_some_iff.1 hi).1; have h2 := HEL.out; omega) hi⟩
                      have HN : Hid (PreP q el ts ((k + 1) + 1)) := Lib.hid (HPre.out.up HT.out HT'.out hok (by rw [HZ.out]; decide))
                      clear hok hBw2
                      go_wp2_with fail
                      go_roundw
                      case rel => exact ⟨(k + 1) + 1, by omega, by go_num, HN.out, HBX.out⟩
                      case measure => simp [intOf]; omega
              · have HZ := Lib.hid hx
                rw [hx] at HCM
                clear hx
                have HBAD : Hid (¬ OkP q el ts) := Lib.hid (HPre.out.down HT.out HT'.out (by rw [HZ.out]; decide))
                go_wp2_with fail
                refine wp_region_text (S := (fun W => Below w.heap.size w W ∧ W.cell? ⟨b, off + (k + 1) * 2, none⟩ = some (.int .i64 c) ∧ W.cell? ⟨b, off + (k + 1) * 2 + 1, none⟩ = some (.slice EA el ec) ∧ W.cell? ⟨b, off + k * 2 + 1, none⟩ = some (.slice PA el pc))) (by kernel_rfl) (by kernel_rfl) ⟨hBw.drew, k1, k2, k0⟩ (b := ?b5) ?text5 ?post5
                case text5 =>
                  iterate 40 (refine InText.pure (by rfl) (fun W hw => by (try dsimp only at hw); go_simp; try with_reducible rfl) ?_; simp only [Act.put, List.setIfInBounds_toArray, List.set_cons_zero, List.set_cons_succ])
                  refine InText.call (.int .i64 (0)) (by rfl) (fun W hw => ?_) ?_
                  · go_simp
                    refine (HCM.out W hw.1).mono ?_
                    rintro e wx ⟨rfl, hB⟩
                    have h5 := hw.1.size
                    exact ⟨rfl, hw.1.trans (hB.mono h5), (hB.cell (World.block_lt_of_cell? W _ hw.2.1)).trans hw.2.1, (hB.cell (World.block_lt_of_cell? W _ hw.2.2.1)).trans hw.2.2.1, (hB.cell (World.block_lt_of_cell? W _ hw.2.2.2)).trans hw.2.2.2⟩
                  simp only [Act.put, List.setIfInBounds_toArray, List.set_cons_zero, List.set_cons_succ]
                  iterate 3 (refine InText.pure (by rfl) (fun W hw => by (try dsimp only at hw); go_simp; try with_reducible rfl) ?_; simp only [Act.put, List.setIfInBounds_toArray, List.set_cons_zero, List.set_cons_succ])
                  exact InText.done
                case post5 =>
                  intro W hS
                  have HS := Lib.hid hS.1
                  clear hS k1 k2 k0
                  go_wp2_with fail
                  go_ret
                  exact ⟨HS.out, .inr ⟨HBAD.out, rfl⟩⟩
              · have HZ := Lib.hid hx
                rw [hx] at HCM
                clear hx
                have HBAD : Hid (¬ OkP q el ts) := Lib.hid (HPre.out.down HT.out HT'.out (by rw [HZ.out]; decide))
                go_wp2_with fail
                refine wp_region_text (S := (fun W => Below w.heap.size w W ∧ W.cell? ⟨b, off + (k + 1) * 2, none⟩ = some (.int .i64 c) ∧ W.cell? ⟨b, off + (k + 1) * 2 + 1, none⟩ = some (.slice EA el ec) ∧ W.cell? ⟨b, off + k * 2 + 1, none⟩ = some (.slice PA el pc))) (by kernel_rfl) (by kernel_rfl) ⟨hBw.drew, k1, k2, k0⟩ (b := ?b6) ?text6 ?post6
                case text6 =>
                  iterate 40 (refine InText.pure (by rfl) (fun W hw => by (try dsimp only at hw); go_simp; try with_reducible rfl) ?_; simp only [Act.put, List.setIfInBounds_toArray, List.set_cons_zero, List.set_cons_succ])
                  refine InText.call (.int .i64 (1)) (by rfl) (fun W hw => ?_) ?_
                  · go_simp
                    refine (HCM.out W hw.1).mono ?_
                    rintro e wx ⟨rfl, hB⟩
                    have h5 := hw.1.size
                    exact ⟨rfl, hw.1.trans (hB.mono h5), (hB.cell (World.block_lt_of_cell? W _ hw.2.1)).trans hw.2.1, (hB.cell (World.block_lt_of_cell? W _ hw.2.2.1)).trans hw.2.2.1, (hB.cell (World.block_lt_of_cell? W _ hw.2.2.2)).trans hw.2.2.2⟩
                  simp only [Act.put, List.setIfInBounds_toArray, List.set_cons_zero, List.set_cons_succ]
                  iterate 3 (refine InText.pure (by rfl) (fun W hw => by (try dsimp only at hw); go_simp; try with_reducible rfl) ?_; simp only [Act.put, List.setIfInBounds_toArray, List.set_cons_zero, List.set_cons_succ])
                  exact InText.done
                case post6 =>
                  intro W hS
                  have HS := Lib.hid hS.1
                  clear hS k1 k2 k0
                  go_wp2_with fail
                  go_ret
                  exact ⟨HS.out, .inr ⟨HBAD.out, rfl⟩⟩
          · have d3' : ((el : Int) != (n : Int)) = true := by simp; omega
            have HBAD : Hid (¬ OkP q n ts) := Lib.hid (fun hok => by have := HTERM.out hok; omega)
            go_wp2_with fail
            refine wp_region_text (S := (fun W => Below w.heap.size w W ∧ W.cell? ⟨b, off + k * 2, none⟩ = some (.int .i64 c) ∧ W.cell? ⟨b, off + k * 2 + 1, none⟩ = some (.slice EA el ec))) (by kernel_rfl) (by kernel_rfl) ⟨hBw.drew, k1, k2⟩ (b := ?b7) ?text7 ?post7
            case text7 =>
              iterate 26 (refine InText.pure (by rfl) (fun W hw => by (try dsimp only at hw); go_simp; try with_reducible rfl) ?_; simp only [Act.put, List.setIfInBounds_toArray, List.set_cons_zero, List.set_cons_succ])
              iterate 17 (refine InText.skip (by rfl) ?_; simp only [Act.put, List.setIfInBounds_toArray, List.set_cons_zero, List.set_cons_succ])
              iterate 1 (refine InText.pure (by rfl) (fun W hw => by (try dsimp only at hw); go_simp; try with_reducible rfl) ?_; simp only [Act.put, List.setIfInBounds_toArray, List.set_cons_zero, List.set_cons_succ])
              exact InText.done
            case post7 =>
              intro W hS
              have HS := Lib.hid hS.1
              clear hS k1 k2
              go_wp2_with fail
              go_ret
              exact ⟨HS.out, .inr ⟨HBAD.out, rfl⟩⟩
    · have hkl : k = ts.length := by rw [HL.out]; omega
      have HOK : Hid (OkP q n ts) := Lib.hid (PreP.all (by rw [← hkl]; exact HPre.out) (by rw [HL.out]; omega))
      clear hBw hkl
      go_wp2_with fail
      go_ret
      exact ⟨HBW.out, .inl ⟨HOK.out, rfl⟩⟩
end Go.Proofs.YtiiopdomlepkmaaDoor
