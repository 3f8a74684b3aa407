/-
  Contracts of sized, reduced, Reduce of package poly.
-/
import Derived.Test.YtiiopdomlepkmaaDoorPqk
namespace Go.Proofs.YtiiopdomlepkmaaDoor
set_option linter.unusedVariables false
open Go.RowKit Go.Maps

theorem sized_yes (v : Value) (w : World) :
    Calls Tryd.prog 40 #[v, .bool true] w fun e w' => e = .returned (.tuple #[v, .int .i64 0]) ∧ w = w' := by
  go_enter Tryd.func40, Tryd.ntmps40
  go_wp2
  go_ret2
  exact ⟨rfl, rfl⟩
theorem sized_no (v : Value) (w : World) :
    Calls Tryd.prog 40 #[v, .bool false] w fun e w' => e = .returned (.tuple #[.slice none 0 0, .int .i64 5]) ∧ w = w' := by
  go_enter Tryd.func40, Tryd.ntmps40
  go_wp2
  go_ret2
  exact ⟨rfl, rfl⟩

def redN (q e : Nat) : Nat := if e < q then e else 1 + (e - 1) % (q - 1)
theorem redN_le {q e : Nat} (hq : 2 ≤ q) (he : e ≤ 65535) : redN q e ≤ 65535 := by
  unfold redN
  split
  · exact he
  · have h1 := Nat.mod_lt (e - 1) (show 0 < q - 1 by omega)
    omega
set_option maxHeartbeats 1000000 in
theorem reduced_ok (P M q n e : Nat) (hq : 2 ≤ q) (hq2 : q ≤ 65536) (he : e ≤ 65535) (w : World) :
    Calls Tryd.prog 38 #[rg P M q n, .int .i64 (e : Int)] w fun r w' => r = .returned (.int .i64 ((redN q e : Nat) : Int)) ∧ Below w.heap.size w w' := by
  by_cases h : e < q
  · have hr : redN q e = e := if_pos h
    have HR := Lib.hid hr
    clear hr
    go_enter Tryd.func38, Tryd.ntmps38
    go_wp2
    go_ret
    exact ⟨ret_int (by rw [HR.out]), below1 _ _⟩
  · have hr : ((redN q e : Nat) : Int) = 1 + ((e : Int) - 1) % ((q : Int) - 1) := by
      have : redN q e = 1 + (e - 1) % (q - 1) := if_neg h
      rw [this]
      have e1 : ((e : Int) - 1) = ((e - 1 : Nat) : Int) := by omega
      have e2 : ((q : Int) - 1) = ((q - 1 : Nat) : Int) := by omega
      rw [e1, e2]; simp
    have HR := Lib.hid hr
    have hb1 := Int.emod_nonneg ((e : Int) - 1) (show ((q : Int) - 1) ≠ 0 by omega)
    have hb2 := Int.emod_lt_of_pos ((e : Int) - 1) (show 0 < ((q : Int) - 1) by omega)
    have hq0 : (((q : Int) - 1) == 0) = false := by simp; omega
    clear hr
    go_enter Tryd.func38, Tryd.ntmps38
    go_wp2
    go_ret
    exact ⟨ret_int HR.out.symm, below1 _ _⟩

/-! ### open, as the functions of the package call it -/
def ValidPs (P M n : Int) (ps : List (List (Int × List Int))) : Prop := ∃ P' M' q n' : Nat, P = P' ∧ M = M' ∧ n = n' ∧ Fld P' M' q ∧ n' ≤ 80 ∧ ∀ p ∈ ps, OkP q n' p
theorem Fld.uniq {P M q q' : Nat} (h : Fld P M q) (h' : Fld P M q') : q = q' := by
  rcases h with ⟨rfl, _, _, rfl⟩ | ⟨rfl, h2, _, rfl⟩
  · rcases h' with ⟨_, _, _, rfl⟩ | ⟨_, h3, _, _⟩
    · rfl
    · omega
  · rcases h' with ⟨h3, _⟩ | ⟨_, _, _, rfl⟩
    · omega
    · rfl
theorem open_no1 (P M n : Int) (hn0 : -9223372036854775808 ≤ n) (hn1 : n ≤ 9223372036854775807) (A : Option Addr) (m c : Nat) (ps : List (List (Int × List Int))) (hm : ps.length = m) (hm2 : m ≤ 1152921504606846976) (w : World) (hL : Lays w) (hr : RdPs w A ps) (h : ¬ ValidPs P M n ps) :
    Calls Tryd.prog 33 #[.agg #[.int .i64 P, .int .i64 M], .int .i64 n, .slice A m c] w fun e w' => e = .returned (.tuple #[zeroRing, .int .i64 1]) ∧ Below w.heap.size w w' := by
  obtain ⟨ov, hO, hv⟩ := ord_any P M w hL
  have hbad : (ov = 0 ∨ n < 0 ∨ 80 < n) → Calls Tryd.prog 33 #[.agg #[.int .i64 P, .int .i64 M], .int .i64 n, .slice A m c] w fun e w' => e = .returned (.tuple #[zeroRing, .int .i64 1]) ∧ Below w.heap.size w w' := fun hb =>
    open_bad P M ov n _ w (by
      rcases hv with ⟨_, rfl⟩ | ⟨_, _, q, _, _, rfl, hf⟩
      · omega
      · have := hf.q_le; omega) hO hb hn0 hn1
  rcases hv with ⟨_, hz⟩ | ⟨P', M', q, rfl, rfl, rfl, hf⟩
  · exact hbad (.inl hz)
  · by_cases hn : n < 0 ∨ 80 < n
    · exact hbad (.inr hn)
    · obtain ⟨n', rfl⟩ : ∃ n' : Nat, n = n' := ⟨n.toNat, by omega⟩
      refine (open_good P' M' q n' hf (by omega) A m c ps w hL hm hm2 hr).mono ?_
      rintro e w' ⟨hB, ⟨h1, _⟩ | ⟨_, rfl⟩⟩
      · exact absurd ⟨P', M', q, n', rfl, rfl, rfl, hf, by omega, h1⟩ h
      · exact ⟨rfl, hB⟩
theorem open_yes1 (P M q n : Nat) (hf : Fld P M q) (hn : n ≤ 80) (A : Option Addr) (m c : Nat) (ps : List (List (Int × List Int))) (hm : ps.length = m) (hm2 : m ≤ 1152921504606846976) (w : World) (hL : Lays w) (hr : RdPs w A ps) (h : ∀ p ∈ ps, OkP q n p) :
    Calls Tryd.prog 33 #[.agg #[.int .i64 (P : Int), .int .i64 (M : Int)], .int .i64 (n : Int), .slice A m c] w fun e w' => e = .returned (.tuple #[rg P M q n, .int .i64 0]) ∧ Below w.heap.size w w' := by
  refine (open_good P M q n hf hn A m c ps w hL hm hm2 hr).mono ?_
  rintro e w' ⟨hB, ⟨_, rfl⟩ | ⟨h1, _⟩⟩
  · exact ⟨rfl, hB⟩
  · exact absurd h h1
/-- A polynomial as an argument. -/
def PolyV (w : World) (v : Value) (ts : List (Int × List Int)) : Prop := ∃ A c, v = .slice A ts.length c ∧ RdP w A ts ∧ ts.length ≤ 1152921504606846976
theorem PolyV.below {w w' : World} {v : Value} {ts : List (Int × List Int)} (h : PolyV w v ts) (hB : Below w.heap.size w w') : PolyV w' v ts := by
  obtain ⟨A, c, e, h1, h2⟩ := h
  exact ⟨A, c, e, h1.below hB, h2⟩
theorem rdps_one {w : World} {g : Nat} {v : Value} {ts : List (Int × List Int)} (hc : w.cell? ⟨g, 0, none⟩ = some v) (hv : PolyV w v ts) : RdPs w (some ⟨g, 0, none⟩) [ts] := fun k p hp => by
  obtain ⟨A, c, rfl, h1, h2⟩ := hv
  match k, hp with
  | 0, hp =>
    simp at hp
    subst hp
    exact ⟨g, 0, A, c, rfl, hc, h1, h2⟩
  | k + 1, hp => simp at hp
theorem rdps_two {w : World} {g : Nat} {v v' : Value} {ts ts' : List (Int × List Int)} (hc : w.cell? ⟨g, 0, none⟩ = some v) (hc' : w.cell? ⟨g, 1, none⟩ = some v') (hv : PolyV w v ts) (hv' : PolyV w v' ts') : RdPs w (some ⟨g, 0, none⟩) [ts, ts'] := fun k p hp => by
  obtain ⟨A, c, rfl, h1, h2⟩ := hv
  obtain ⟨A', c', rfl, h1', h2'⟩ := hv'
  match k, hp with
  | 0, hp =>
    simp at hp
    subst hp
    exact ⟨g, 0, A, c, rfl, hc, h1, h2⟩
  | 1, hp =>
    simp at hp
    subst hp
    exact ⟨g, 0, A', c', rfl, hc', h1', h2'⟩
  | k + 2, hp => simp at hp

set_option maxHeartbeats 2000000 in
theorem Reduce_no (P M n : Int) (hn0 : -9223372036854775808 ≤ n) (hn1 : n ≤ 9223372036854775807) (v : Value) (ts : List (Int × List Int)) (w : World) (hL : Lays w) (hv : PolyV w v ts) (h : ¬ ValidPs P M n [ts]) :
    Calls Tryd.prog 18 #[.agg #[.int .i64 P, .int .i64 M], .int .i64 n, v] w fun e w' => e = .returned (.tuple #[.slice none 0 0, .int .i64 1]) ∧ Below w.heap.size w w' := by
  have hB2 := below2 w (.cells #[.int .i64 P, .int .i64 M] 23) (.cells #[v] 25)
  have hO := open_no1 P M n hn0 hn1 (some ⟨w.heap.size + 1, 0, none⟩) 1 1 [ts] rfl (by omega) _ (hL.below hB2) (rdps_one (snd_cell _ _ _ _ _) (hv.below hB2)) h
  have HO := Lib.hid hO
  have HB2 := Lib.hid hB2
  obtain ⟨VA, VC, rfl, -, -⟩ := hv
  generalize ts.length = tl at *
  clear hO hB2 hL h hn0 hn1
  go_enter Tryd.func18, Tryd.ntmps18
  go_wp2_with fail
  refine HO.out.mono ?_
  rintro e w1 ⟨rfl, hB1⟩
  have HB3 := Lib.hid (HB2.out.trans (hB1.mono HB2.out.size))
  clear HB2 hB1
  unfold zeroRing
  go_wp2_with fail
  go_ret2
  exact ⟨rfl, HB3.out.alloc HB3.out.size _⟩

/-- What stands in Reduce behind k terms. -/
structure RedR (w0 : World) (sb mb kb br ge P M q n : Nat) (ts : List Tm) (W : World) : Prop where
  bel : Below w0.heap.size w0 W
  sum : ∃ D, SumAt w0.heap.size sb mb kb P M q n ts.length D W ∧ Tells n (addN P M) ts D
  ring : W.heap[br]? = some (rgO P M q n)
  exps : ∃ xs : List Int, xs.length = n ∧ W.heap[ge]? = some (intsO xs)
  lb : w0.heap.size ≤ br
  lg : w0.heap.size ≤ ge
section
variable {w0 W W' : World} {sb mb kb br ge P M q n : Nat} {ts : List Tm}
theorem RedR.below (h : RedR w0 sb mb kb br ge P M q n ts W) (hB : Below W.heap.size W W') : RedR w0 sb mb kb br ge P M q n ts W' := by
  obtain ⟨D, h1, h2⟩ := h.sum
  obtain ⟨xs, h3, h4⟩ := h.exps
  exact ⟨h.bel.trans (hB.mono h.bel.size), ⟨D, h1.below hB, h2⟩, (hB.block _ (Array.getElem?_eq_some_iff.1 h.ring).1).trans h.ring, ⟨xs, h3, (hB.block _ (Array.getElem?_eq_some_iff.1 h4).1).trans h4⟩, h.lb, h.lg⟩
theorem RedR.apart (h : RedR w0 sb mb kb br ge P M q n ts W) : ge ≠ sb ∧ ge ≠ mb ∧ ge ≠ kb ∧ ge ≠ br ∧ br ≠ mb ∧ br ≠ kb ∧ w0.heap.size ≤ mb ∧ w0.heap.size ≤ kb := by
  obtain ⟨D, h1, h2⟩ := h.sum
  obtain ⟨xs, h3, h4⟩ := h.exps
  obtain ⟨bs, _, hk⟩ := h1.key
  obtain ⟨es, clock, hm, _⟩ := h1.map
  refine ⟨?_, ?_, ?_, ?_, ?_, ?_, h1.lm, h1.lk⟩
  · rintro rfl
    rw [h1.rcd] at h4
    simp [intsO] at h4
  · rintro rfl
    rw [hm] at h4
    cases h4
  · rintro rfl
    rw [hk] at h4
    simp [intsO, bytesO] at h4
  · rintro rfl
    rw [h.ring] at h4
    simp [intsO] at h4
  · rintro rfl
    have := h.ring
    rw [hm] at this
    cases this
  · rintro rfl
    have := h.ring
    rw [hk] at this
    simp [bytesO] at this
theorem RedR.put (h : RedR w0 sb mb kb br ge P M q n ts W) {xs : List Int} (hx : W.heap[ge]? = some (intsO xs)) (hn : xs.length = n) (j : Nat) (x : Int) :
    RedR w0 sb mb kb br ge P M q n ts (W.setCell ⟨ge, j, none⟩ (.int .i64 x)) ∧ (W.setCell ⟨ge, j, none⟩ (.int .i64 x)).heap[ge]? = some (intsO (xs.set j x)) := by
  obtain ⟨a1, a2, a3, a4, _⟩ := h.apart
  obtain ⟨D, h1, h2⟩ := h.sum
  have hs := ints_set (j := j) x hx
  have ho : ∀ b, b ≠ ge → (W.setCell ⟨ge, j, none⟩ (.int .i64 x)).heap[b]? = W.heap[b]? := fun b hb => heap_setCell_other _ _ _ _ (by exact hb)
  exact ⟨⟨h.bel.setCell (p := ⟨ge, j, none⟩) h.lg _, ⟨D, h1.same (ho _ a1.symm) (ho _ a2.symm) (ho _ a3.symm), h2⟩, (ho _ a4.symm).trans h.ring, ⟨_, by simpa using hn, hs⟩, h.lb, h.lg⟩, hs⟩
theorem RedR.added (h : RedR w0 sb mb kb br ge P M q n ts W) {t : Tm} {D' : DataW Unit} (hs : SumAt w0.heap.size sb mb kb P M q n (ts.length + 1) D' W') (hT : Tells n (addN P M) (ts ++ [t]) D') (hO : Only (fun g => g = mb ∨ g = kb) W W') :
    RedR w0 sb mb kb br ge P M q n (ts ++ [t]) W' := by
  obtain ⟨a1, a2, a3, a4, a5, a6, a7, a8⟩ := h.apart
  obtain ⟨xs, h3, h4⟩ := h.exps
  have hlt : br < W.heap.size := (Array.getElem?_eq_some_iff.1 h.ring).1
  have hlg : ge < W.heap.size := (Array.getElem?_eq_some_iff.1 h4).1
  refine ⟨h.bel.trans (hO.below h.bel.size fun k hk => by rcases hk with rfl | rfl <;> assumption), ⟨D', by simpa using hs, hT⟩, (hO.block _ hlt (by omega)).trans h.ring, ⟨xs, h3, (hO.block _ hlg (by omega)).trans h4⟩, h.lb, h.lg⟩
end
theorem rg_cells {W : World} {br P M q n : Nat} (h : W.heap[br]? = some (rgO P M q n)) : W.cell? ⟨br, 0, none⟩ = some (.int .i64 (P : Int)) ∧ W.cell? ⟨br, 1, none⟩ = some (.int .i64 (M : Int)) ∧ W.cell? ⟨br, 2, none⟩ = some (.int .i64 (q : Int)) ∧ W.cell? ⟨br, 3, none⟩ = some (.int .i64 (n : Int)) := by
  refine ⟨?_, ?_, ?_, ?_⟩ <;> simp [World.cell?, h]

/-- A list filled anew from the front. -/
def mixI (xs : List Int) (f : Nat → Nat) (e : List Nat) (k : Nat) : List Int := nz ((e.take k).map f) ++ xs.drop k
theorem mixI_zero (xs : List Int) (f : Nat → Nat) (e : List Nat) : mixI xs f e 0 = xs := by simp [mixI, nz]
theorem mixI_length {xs : List Int} {f : Nat → Nat} {e : List Nat} {n k : Nat} (hx : xs.length = n) (he : e.length = n) (hk : k ≤ n) : (mixI xs f e k).length = n := by
  simp [mixI, nz]; omega
theorem mixI_succ {xs : List Int} {f : Nat → Nat} {e : List Nat} {n k x : Nat} (hx : xs.length = n) (he : e.length = n) (hk : k < n) (h : e[k]? = some x) : (mixI xs f e k).set k ((f x : Nat) : Int) = mixI xs f e (k + 1) := by
  unfold mixI
  have h1 : (nz ((e.take k).map f)).length = k := by simp [nz]; omega
  rw [List.set_append_right _ _ (by omega), h1, List.take_add_one, h]
  obtain ⟨a, r, hr⟩ : ∃ a r, xs.drop k = a :: r := by
    cases h2 : xs.drop k with
    | nil => have := List.drop_eq_nil_iff.1 h2; omega
    | cons a r => exact ⟨a, r, rfl⟩
  have h3 : xs.drop (k + 1) = r := by
    have : xs.drop (k + 1) = (xs.drop k).drop 1 := by rw [List.drop_drop]
    rw [this, hr]; rfl
  rw [h3, hr]
  simp [nz]
theorem mixI_full {xs : List Int} {f : Nat → Nat} {e : List Nat} {n : Nat} (hx : xs.length = n) (he : e.length = n) : mixI xs f e n = nz (e.map f) := by
  unfold mixI
  rw [List.take_of_length_le (by omega), List.drop_of_length_le (by omega), List.append_nil]

def redT (q : Nat) (t : Tm) : Tm := (t.1, t.2.map (redN q))
theorem redT_ex {q n : Nat} {t : Tm} (hq : 2 ≤ q) (h : Ex n t.2) : Ex n (redT q t).2 := ⟨by simp [redT, h.1], fun x hx => by
  obtain ⟨y, hy, rfl⟩ := List.mem_map.1 hx
  exact redN_le hq (h.2 y hy)⟩

def PolyRes (q n : Nat) (add : Nat → Nat → Nat) (ts : List Tm) (w : World) (r : Ending) (w' : World) : Prop :=
  Below w.heap.size w w' ∧ ∃ p : List Tm, Ris q n p ∧ (∀ e, cfs add p e = cfs add ts e) ∧ (∀ t ∈ p, Ex n t.2) ∧ p.length ≤ ts.length ∧
    ((p.length ≤ 20000 ∧ ∃ A c, r = .returned (.tuple #[.slice A p.length c, .int .i64 0]) ∧ RdP w' A (tms p)) ∨ (20000 < p.length ∧ r = .returned (.tuple #[.slice none 0 0, .int .i64 5])))

set_option maxRecDepth 100000 in
set_option maxHeartbeats 4000000 in
theorem Reduce_ok (P M q n : Nat) (hf : Fld P M q) (hn : n ≤ 80) (VA : Option Addr) (VC : Nat) (p : List Tm) (w : World) (hL : Lays w) (hr : RdP w VA (tms p)) (hp : Ris q n p) (hx : ∀ t ∈ p, Ex n t.2) (hlen : p.length ≤ 20000) :
    Calls Tryd.prog 18 #[.agg #[.int .i64 (P : Int), .int .i64 (M : Int)], .int .i64 (n : Int), .slice VA p.length VC] w (PolyRes q n (addN P M) (p.map (redT q)) w) := by
  have hB2 := below2 w (.cells #[.int .i64 (P : Int), .int .i64 (M : Int)] 23) (.cells #[.slice VA p.length VC] 25)
  have hv : PolyV w (.slice VA p.length VC) (tms p) := ⟨VA, VC, by simp, hr, by simp; omega⟩
  have hO := open_yes1 P M q n hf hn (some ⟨w.heap.size + 1, 0, none⟩) 1 1 [tms p] rfl (by omega) _ (hL.below hB2) (rdps_one (snd_cell _ _ _ _ _) (hv.below hB2)) (fun x hx' => by
    simp at hx'
    subst hx'
    exact ⟨by simpa using hlen, p, rfl, hp, hx⟩)
  have HO := Lib.hid hO
  have HB2 := Lib.hid hB2
  have HL := Lib.hid hL
  have HR := Lib.hid hr
  have HP := Lib.hid hp
  have HX := Lib.hid hx
  clear hO hB2 hL hp hx hr hv
  go_enter Tryd.func18, Tryd.ntmps18
  go_wp2_with fail
  refine HO.out.mono ?_
  rintro e w1 ⟨rfl, hB1⟩
  have HB3 := Lib.hid (HB2.out.trans (hB1.mono HB2.out.size))
  have HNS := Lib.hid (fun W => newSum_ok P M q n hn W)
  have hmk := make_ints n (by omega)
  clear HB2 hB1
  go_wp2_with fail
  refine (HNS.out _).mono ?_
  rintro e w2 ⟨sb, mb, kb, rfl, hS, hB4⟩
  go_wp2_with fail
  have hnp : w1.heap.size < w2.heap.size := by have := hB4.size; simp at this; omega
  have hbr : w2.heap[w1.heap.size]? = some (rgO P M q n) := (hB4.block w1.heap.size (by simp)).trans (alloc_at _ _ _ rfl)
  have hgx : (w2.alloc (intsO (List.replicate n 0))).heap[w2.heap.size]? = some (intsO (List.replicate n 0)) := alloc_at _ _ _ rfl
  have hs2 : SumAt w.heap.size sb mb kb P M q n 0 (.map []) (w2.alloc (intsO (List.replicate n 0))) := by
    have := hS.below (below1 w2 (intsO (List.replicate n 0)))
    have hle : w.heap.size ≤ (w1.alloc (rgO P M q n)).heap.size := by have := HB3.out.size; simp; omega
    exact ⟨this.rcd, this.key, this.map, Nat.le_trans hle this.ls, Nat.le_trans hle this.lm, Nat.le_trans hle this.lk⟩
  have hb5 : Below w.heap.size w (w2.alloc (intsO (List.replicate n 0))) := by
    have h1 := HB3.out.alloc HB3.out.size (rgO P M q n)
    have h2 := h1.trans (hB4.mono (by have := HB3.out.size; simp; omega))
    exact h2.alloc h2.size _
  have hst : RedR w sb mb kb w1.heap.size w2.heap.size P M q n ([] : List Tm) (w2.alloc (intsO (List.replicate n 0))) :=
    ⟨hb5, ⟨_, hs2, Tells.empty _ _⟩, alloc_old _ _ _ _ hbr, ⟨_, by simp, hgx⟩, HB3.out.size, hb5.size |> fun _ => Nat.le_trans HB3.out.size (Nat.le_of_lt hnp)⟩
  have HST := Lib.hid hst
  clear hB4 hS hbr hgx hs2 hb5 hst hmk
  go_loopw [13, 14, 15, 33] (fun _ _ _ i wr => ∃ k : Nat, k ≤ p.length ∧ i = .int .i64 k ∧ RedR w sb mb kb w1.heap.size w2.heap.size P M q n ((p.take k).map (redT q)) wr) (fun _ _ _ i _ => p.length - (intOf i).toNat)
  case atStart => exact ⟨0, by omega, rfl, HST.out⟩
  case round =>
    obtain ⟨k, hk, rfl, hR⟩ := hrel
    by_cases hlt : k < p.length
    · obtain ⟨t, ht⟩ : ∃ t, p[k]? = some t := ⟨_, List.getElem?_eq_getElem hlt⟩
      have htx := HX.out t (List.mem_of_getElem? ht)
      have htc := HP.out.co t (List.mem_of_getElem? ht)
      obtain ⟨b, off, u, rfl, g1, g2, g3⟩ := HR.out k ((t.1 : Int), nz t.2) (by simp [ht])
      have k1 := (hR.bel.cell (World.block_lt_of_cell? w _ g1)).trans g1
      have k2 := (hR.bel.cell (World.block_lt_of_cell? w _ g2)).trans g2
      obtain ⟨EA, ec, hu, k4, _⟩ := g3
      rw [nz_length, htx.1] at hu
      subst hu
      have HT := Lib.hid ht
      have HTX := Lib.hid htx
      have HK4 := Lib.hid k4
      have HRR := Lib.hid hR
      clear g1 g2 k4 ht htx hR
      go_wp2_with fail
      have hR1 := HRR.out.below (below1 wr (.cells #[.int .i64 (t.1 : Int), .slice EA n ec] 65))
      have htb1 : (wr.alloc (.cells #[.int .i64 (t.1 : Int), .slice EA n ec] 65)).heap[wr.heap.size]? = some (.cells #[.int .i64 (t.1 : Int), .slice EA n ec] 65 (0, 0)) := alloc_at _ _ _ rfl
      obtain ⟨xs, hxl, hxg⟩ := hR1.exps
      have HXL := Lib.hid hxl
      have HI := Lib.hid (show RedR w sb mb kb w1.heap.size w2.heap.size P M q n ((p.take k).map (redT q)) (wr.alloc (.cells #[.int .i64 (t.1 : Int), .slice EA n ec] 65)) ∧ (wr.alloc (.cells #[.int .i64 (t.1 : Int), .slice EA n ec] 65)).heap[w2.heap.size]? = some (intsO (mixI xs (redN q) t.2 0)) ∧ (wr.alloc (.cells #[.int .i64 (t.1 : Int), .slice EA n ec] 65)).heap[wr.heap.size]? = some (.cells #[.int .i64 (t.1 : Int), .slice EA n ec] 65 (0, 0)) by
        rw [mixI_zero]; exact ⟨hR1, hxg, htb1⟩)
      clear hR1 htb1 hxl hxg k1 k2 HRR
      obtain ⟨wo, rfl⟩ : ∃ wo : World, wo = wr := ⟨_, rfl⟩
      go_loopw [14, 15, 40] (fun _ _ i wr => ∃ j : Nat, j ≤ n ∧ i = .int .i64 j ∧ RedR w sb mb kb w1.heap.size w2.heap.size P M q n ((p.take k).map (redT q)) wr ∧ wr.heap[w2.heap.size]? = some (intsO (mixI xs (redN q) t.2 j)) ∧ wr.heap[wo.heap.size]? = some (.cells #[.int .i64 (t.1 : Int), .slice EA n ec] 65 (0, 0))) (fun _ _ i _ => n - (intOf i).toNat)
      case atStart => exact ⟨0, by omega, rfl, HI.out⟩
      case round =>
        obtain ⟨j, hj, rfl, hR, hxg, htb⟩ := hrel
        have HTB := Lib.hid htb
        have HXG := Lib.hid hxg
        have HRR := Lib.hid hR
        by_cases hjn : j < n
        · obtain ⟨x, hx⟩ : ∃ x, t.2[j]? = some x := ⟨_, List.getElem?_eq_getElem (by rw [HTX.out.1]; exact hjn)⟩
          have hx2 := HTX.out.2 x (List.mem_of_getElem? hx)
          obtain ⟨a, rfl, g0⟩ := HK4.out j _ (nz_at hx)
          have g1 := (hR.bel.cell (World.block_lt_of_cell? w _ g0)).trans g0
          obtain ⟨d0, d1, d2, d3⟩ := rg_cells hR.ring
          have HRC := Lib.hid (reduced_ok P M q n x hf.q_ge hf.q_le hx2 wr)
          have HXX := Lib.hid hx
          have hml := mixI_length (f := redN q) HXL.out HTX.out.1 (Nat.le_of_lt hjn)
          obtain ⟨y, hy⟩ : ∃ y, (mixI xs (redN q) t.2 j)[j]? = some y := ⟨_, List.getElem?_eq_getElem (by omega)⟩
          have HY := Lib.hid hy
          have HML := Lib.hid hml
          clear hx g0 hR hxg htb hy hml
          go_wp2_with fail
          refine HRC.out.mono ?_
          rintro e w3 ⟨rfl, hB3⟩
          have hR3 := HRR.out.below hB3
          have hg3 : w3.heap[w2.heap.size]? = some (intsO (mixI xs (redN q) t.2 j)) := (hB3.block _ (Array.getElem?_eq_some_iff.1 HXG.out).1).trans HXG.out
          obtain ⟨c1, f1⟩ := ints_cell hg3 HY.out
          have hput := hR3.put hg3 HML.out j ((redN q x : Nat) : Int)
          rw [mixI_succ HXL.out HTX.out.1 hjn HXX.out] at hput
          have ht3 : (w3.setCell ⟨w2.heap.size, j, none⟩ (.int .i64 ((redN q x : Nat) : Int))).heap[wo.heap.size]? = some (.cells #[.int .i64 (t.1 : Int), .slice (some a) n ec] 65 (0, 0)) := by
            rw [heap_setCell_other _ _ _ _ (fun e => by
              have e2 : wo.heap.size = w2.heap.size := e
              rw [e2, HXG.out] at HTB
              have := HTB.out
              simp [intsO] at this)]
            exact (hB3.block _ (Array.getElem?_eq_some_iff.1 HTB.out).1).trans HTB.out
          have HPUT := Lib.hid hput
          have HT3 := Lib.hid ht3
          clear hput ht3 hR3 hg3 hB3 d0 d1 d2 d3 g1
          go_wp2_with fail
          go_roundw
          case rel => exact ⟨j + 1, by omega, by go_num, HPUT.out.1, HPUT.out.2, HT3.out⟩
          case measure => simp [intOf]; omega
        · have hjj : j = n := by omega
          subst hjj
          rw [mixI_full HXL.out HTX.out.1] at hxg
          have htc : wr.cell? ⟨wo.heap.size, 0, none⟩ = some (.int .i64 (t.1 : Int)) := by simp [World.cell?, htb]
          obtain ⟨D, hs, hT⟩ := hR.sum
          have htt := HP.out.co t (List.mem_of_getElem? HT.out)
          have hadd := add_ok w wr HL.out hR.bel sb mb kb P M q j _ hf hn D ((p.take k).map (redT q)) t.1 htt.2 (some ⟨w2.heap.size, 0, none⟩) j (t.2.map (redN q)) (redT_ex hf.q_ge HTX.out) hs hT (fun x hx => by
            obtain ⟨y, hy, rfl⟩ := List.mem_map.1 hx
            exact (HP.out.co y (List.mem_of_mem_take hy)).2) (by rw [List.length_map, List.length_take]; omega) (ints_read hxg) (fun a ha => by cases ha; exact hR.apart.2.2.1)
          have HADD := Lib.hid hadd
          clear hadd hs hT hxg htb hR
          go_wp2_with fail
          refine HADD.out.mono ?_
          rintro e w3 ⟨rfl, D', hs3, hT3, hO3⟩
          have hfin := HRR.out.added (t := redT q t) hs3 hT3 hO3
          have hfin2 : RedR w sb mb kb w1.heap.size w2.heap.size P M q j ((p.take (k + 1)).map (redT q)) w3 := by
            rw [List.take_add_one, HT.out]
            simpa using hfin
          have HFIN := Lib.hid hfin2
          clear hfin hfin2 hs3 hT3 hO3 htc
          go_wp2_with fail
          go_roundw
          case rel => exact ⟨k + 1, by omega, by go_num, HFIN.out⟩
          case measure => simp [intOf]; omega
    · have hkp : k = p.length := by omega
      subst hkp
      rw [List.take_of_length_le (Nat.le_refl _)] at hR
      obtain ⟨D, hs, hT⟩ := hR.sum
      have hpo := poly_ok w wr sb mb kb P M q n _ hf hn D (p.map (redT q)) hs hT (fun x hx => by
        obtain ⟨y, hy, rfl⟩ := List.mem_map.1 hx
        exact (HP.out.co y hy).2) (by rw [List.length_map]; omega)
      have HPO := Lib.hid hpo
      have HRR := Lib.hid hR
      clear hpo hs hT hR
      go_wp2_with fail
      refine HPO.out.mono ?_
      rintro e w3 ⟨hO3, p', h1, h2, h3, h4, h5⟩
      have hle : p'.length ≤ 20000 := by rw [List.length_map] at h4; omega
      rcases h5 with ⟨_, A, c, rfl, h6⟩ | ⟨h6, _⟩
      · have HB := Lib.hid (HRR.out.bel.trans (hO3.below HRR.out.bel.size fun k hk => by
          have hk' : k = mb := hk
          rw [hk']; exact HRR.out.apart.2.2.2.2.2.2.1))
        have H1 := Lib.hid h1
        have H2 := Lib.hid h2
        have H3 := Lib.hid h3
        have H4 := Lib.hid h4
        have H6 := Lib.hid h6
        have HLE := Lib.hid hle
        clear h1 h2 h3 h4 h6 hle hO3
        go_wp2_with fail
        refine (sized_yes _ _).mono ?_
        rintro e w4 ⟨rfl, rfl⟩
        go_wp2_with fail
        go_ret2
        exact ⟨HB.out, p', H1.out, H2.out, H3.out, H4.out, .inl ⟨HLE.out, A, c, rfl, H6.out⟩⟩
      · omega
end Go.Proofs.YtiiopdomlepkmaaDoor
