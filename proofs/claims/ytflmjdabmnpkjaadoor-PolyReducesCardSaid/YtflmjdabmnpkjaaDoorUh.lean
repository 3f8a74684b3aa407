/-
  Joined from Pql, Pqm, Pqn: see there.
-/
import Derived.Test.YtflmjdabmnpkjaaDoorUg
import Derived.Deep.RegionWith
namespace Go.Proofs.YtflmjdabmnpkjaaDoor
set_option linter.unusedVariables false
open Go.RowKit Go.Maps

theorem sized_yes (v : Value) (w : World) :
    Calls Tryd.prog 32 #[v, .bool true] w fun e w' => e = .returned (.tuple #[v, .int .i64 0]) ∧ w = w' := by
  go_enter Tryd.func32, Tryd.ntmps32
  go_wp2
  go_ret2
  exact ⟨rfl, rfl⟩
theorem sized_no (v : Value) (w : World) :
    Calls Tryd.prog 32 #[v, .bool false] w fun e w' => e = .returned (.tuple #[.slice none 0 0, .int .i64 5]) ∧ w = w' := by
  go_enter Tryd.func32, Tryd.ntmps32
  go_wp2
  go_ret2
  exact ⟨rfl, rfl⟩

def redN (q e : Nat) : Nat := if e < q then e else 1 + (e - 1) % (q - 1)
theorem redN_le {q e : Nat} (hq : 2 ≤ q) (he : e ≤ 65535) : redN q e ≤ 65535 := by
  unfold redN
  split
  · exact he
  · have h1 := Nat.mod_lt (e - 1) (show 0 < q - 1 by omega)
    omega
set_option maxHeartbeats 1000000 in
theorem reduced_ok (P M q n e : Nat) (hq : 2 ≤ q) (hq2 : q ≤ 65536) (he : e ≤ 65535) (w : World) :
    Calls Tryd.prog 30 #[rg P M q n, .int .i64 (e : Int)] w fun r w' => r = .returned (.int .i64 ((redN q e : Nat) : Int)) ∧ Below w.heap.size w w' := by
  by_cases h : e < q
  · have hr : redN q e = e := if_pos h
    have HR := Lib.hid hr
    clear hr
    go_enter Tryd.func30, Tryd.ntmps30
    go_wp2
    go_ret
    exact ⟨ret_int (by rw [HR.out]), below1 _ _⟩
  · have hr : ((redN q e : Nat) : Int) = 1 + ((e : Int) - 1) % ((q : Int) - 1) := by
      have : redN q e = 1 + (e - 1) % (q - 1) := if_neg h
      rw [this]
      have e1 : ((e : Int) - 1) = ((e - 1 : Nat) : Int) := by omega
      have e2 : ((q : Int) - 1) = ((q - 1 : Nat) : Int) := by omega
      rw [e1, e2]; simp
    have HR := Lib.hid hr
    have hb1 := Int.emod_nonneg ((e : Int) - 1) (show ((q : Int) - 1) ≠ 0 by omega)
    have hb2 := Int.emod_lt_of_pos ((e : Int) - 1) (show 0 < ((q : Int) - 1) by omega)
    have hq0 : (((q : Int) - 1) == 0) = false := by simp; omega
    clear hr
    go_enter Tryd.func30, Tryd.ntmps30
    go_wp2
    go_ret
    exact ⟨ret_int HR.out.symm, below1 _ _⟩

/-! ### open, as the functions of the package call it -/
def ValidPs (P M n : Int) (ps : List (List (Int × List Int))) : Prop := ∃ P' M' q n' : Nat, P = P' ∧ M = M' ∧ n = n' ∧ Fld P' M' q ∧ n' ≤ 80 ∧ ∀ p ∈ ps, OkP q n' p
theorem Fld.uniq {P M q q' : Nat} (h : Fld P M q) (h' : Fld P M q') : q = q' := by
  rcases h with ⟨rfl, _, _, rfl⟩ | ⟨rfl, h2, _, rfl⟩
  · rcases h' with ⟨_, _, _, rfl⟩ | ⟨_, h3, _, _⟩
    · rfl
    · omega
  · rcases h' with ⟨h3, _⟩ | ⟨_, _, _, rfl⟩
    · omega
    · rfl
theorem open_no1 (P M n : Int) (hn0 : -9223372036854775808 ≤ n) (hn1 : n ≤ 9223372036854775807) (A : Option Addr) (m c : Nat) (ps : List (List (Int × List Int))) (hm : ps.length = m) (hm2 : m ≤ 1152921504606846976) (w : World) (hL : Lays w) (hr : RdPs w A ps) (h : ¬ ValidPs P M n ps) :
    Calls Tryd.prog 24 #[.agg #[.int .i64 P, .int .i64 M], .int .i64 n, .slice A m c] w fun e w' => e = .returned (.tuple #[zeroRing, .int .i64 1]) ∧ Below w.heap.size w w' := by
  obtain ⟨ov, hO, hv⟩ := ord_any P M w hL
  have hbad : (ov = 0 ∨ n < 0 ∨ 80 < n) → Calls Tryd.prog 24 #[.agg #[.int .i64 P, .int .i64 M], .int .i64 n, .slice A m c] w fun e w' => e = .returned (.tuple #[zeroRing, .int .i64 1]) ∧ Below w.heap.size w w' := fun hb =>
    open_bad P M ov n _ w (by
      rcases hv with ⟨_, rfl⟩ | ⟨_, _, q, _, _, rfl, hf⟩
      · omega
      · have := hf.q_le; omega) hO hb hn0 hn1
  rcases hv with ⟨_, hz⟩ | ⟨P', M', q, rfl, rfl, rfl, hf⟩
  · exact hbad (.inl hz)
  · by_cases hn : n < 0 ∨ 80 < n
    · exact hbad (.inr hn)
    · obtain ⟨n', rfl⟩ : ∃ n' : Nat, n = n' := ⟨n.toNat, by omega⟩
      refine (open_good P' M' q n' hf (by omega) A m c ps w hL hm hm2 hr).mono ?_
      rintro e w' ⟨hB, ⟨h1, _⟩ | ⟨_, rfl⟩⟩
      · exact absurd ⟨P', M', q, n', rfl, rfl, rfl, hf, by omega, h1⟩ h
      · exact ⟨rfl, hB⟩
theorem open_yes1 (P M q n : Nat) (hf : Fld P M q) (hn : n ≤ 80) (A : Option Addr) (m c : Nat) (ps : List (List (Int × List Int))) (hm : ps.length = m) (hm2 : m ≤ 1152921504606846976) (w : World) (hL : Lays w) (hr : RdPs w A ps) (h : ∀ p ∈ ps, OkP q n p) :
    Calls Tryd.prog 24 #[.agg #[.int .i64 (P : Int), .int .i64 (M : Int)], .int .i64 (n : Int), .slice A m c] w fun e w' => e = .returned (.tuple #[rg P M q n, .int .i64 0]) ∧ Below w.heap.size w w' := by
  refine (open_good P M q n hf hn A m c ps w hL hm hm2 hr).mono ?_
  rintro e w' ⟨hB, ⟨_, rfl⟩ | ⟨h1, _⟩⟩
  · exact ⟨rfl, hB⟩
  · exact absurd h h1
/-- A polynomial as an argument. -/
def PolyV (w : World) (v : Value) (ts : List (Int × List Int)) : Prop := ∃ A c, v = .slice A ts.length c ∧ RdP w A ts ∧ ts.length ≤ 1152921504606846976
theorem PolyV.below {w w' : World} {v : Value} {ts : List (Int × List Int)} (h : PolyV w v ts) (hB : Below w.heap.size w w') : PolyV w' v ts := by
  obtain ⟨A, c, e, h1, h2⟩ := h
  exact ⟨A, c, e, h1.below hB, h2⟩
theorem rdps_one {w : World} {g : Nat} {v : Value} {ts : List (Int × List Int)} (hc : w.cell? ⟨g, 0, none⟩ = some v) (hv : PolyV w v ts) : RdPs w (some ⟨g, 0, none⟩) [ts] := fun k p hp => by
  obtain ⟨A, c, rfl, h1, h2⟩ := hv
  match k, hp with
  | 0, hp =>
    simp at hp
    subst hp
    exact ⟨g, 0, A, c, rfl, hc, h1, h2⟩
  | k + 1, hp => simp at hp
theorem rdps_two {w : World} {g : Nat} {v v' : Value} {ts ts' : List (Int × List Int)} (hc : w.cell? ⟨g, 0, none⟩ = some v) (hc' : w.cell? ⟨g, 1, none⟩ = some v') (hv : PolyV w v ts) (hv' : PolyV w v' ts') : RdPs w (some ⟨g, 0, none⟩) [ts, ts'] := fun k p hp => by
  obtain ⟨A, c, rfl, h1, h2⟩ := hv
  obtain ⟨A', c', rfl, h1', h2'⟩ := hv'
  match k, hp with
  | 0, hp =>
    simp at hp
    subst hp
    exact ⟨g, 0, A, c, rfl, hc, h1, h2⟩
  | 1, hp =>
    simp at hp
    subst hp
    exact ⟨g, 0, A', c', rfl, hc', h1', h2'⟩
  | k + 2, hp => simp at hp

set_option maxHeartbeats 2000000 in
theorem Reduce_no (P M n : Int) (hn0 : -9223372036854775808 ≤ n) (hn1 : n ≤ 9223372036854775807) (v : Value) (ts : List (Int × List Int)) (w : World) (hL : Lays w) (hv : PolyV w v ts) (h : ¬ ValidPs P M n [ts]) :
    Calls Tryd.prog 15 #[.agg #[.int .i64 P, .int .i64 M], .int .i64 n, v] w fun e w' => e = .returned (.tuple #[.slice none 0 0, .int .i64 1]) ∧ Below w.heap.size w w' := by
  have hB2 := below2 w (.cells #[.int .i64 P, .int .i64 M] 23) (.cells #[v] 25)
  have hO := open_no1 P M n hn0 hn1 (some ⟨w.heap.size + 1, 0, none⟩) 1 1 [ts] rfl (by omega) _ (hL.below hB2) (rdps_one (snd_cell _ _ _ _ _) (hv.below hB2)) h
  have HO := Lib.hid hO
  have HB2 := Lib.hid hB2
  obtain ⟨VA, VC, rfl, -, -⟩ := hv
  generalize ts.length = tl at *
  clear hO hB2 hL h hn0 hn1
  go_enter Tryd.func15, Tryd.ntmps15
  go_wp2_with fail
  refine HO.out.mono ?_
  rintro e w1 ⟨rfl, hB1⟩
  have HB3 := Lib.hid (HB2.out.trans (hB1.mono HB2.out.size))
  clear HB2 hB1
  unfold zeroRing
  go_wp2_with fail
  go_ret2
  exact ⟨rfl, HB3.out.alloc HB3.out.size _⟩

/-- What else changes leaves a sum alone. -/
theorem SumAt.keep {B sb mb P M q n cnt : Nat} {D : DataW Unit} {S : Nat → Prop} {w w' : World} (h : SumAt B sb mb P M q n cnt D w) (hO : Only S w w') (h1 : ¬ S sb) (h2 : ¬ S mb) (h3 : ∀ g, S g → ∃ (cs : Array Value) (T : TypeId) (fr : Nat × Nat), w.heap[g]? = some (.cells cs T fr) ∧ T ≠ 5) : SumAt B sb mb P M q n cnt D w' := by
  obtain ⟨kv, bs, hr, hk⟩ := h.rcd
  refine ⟨⟨kv, bs, (hO.block _ h.lts.1 h1).trans hr, hk.only hO fun g hg hs => ?_⟩, ownsMap_old h.map (hO.block _ h.lts.2 h2), h.ls, h.lm⟩
  obtain ⟨cs, T, fr, hc, hT⟩ := h3 g hs
  exact hk.ne hc hT hg rfl
/-- What stands in Reduce behind k terms. -/
structure RedR (w0 : World) (sb mb br ge P M q n : Nat) (ts : List Tm) (W : World) : Prop where
  bel : Below w0.heap.size w0 W
  sum : ∃ D, SumAt w0.heap.size sb mb P M q n ts.length D W ∧ Tells n (stN P M) (addN P M) ts D
  ring : W.heap[br]? = some (rgO P M q n)
  exps : ∃ xs : List Int, xs.length = n ∧ W.heap[ge]? = some (intsO xs)
  lb : w0.heap.size ≤ br
  lg : w0.heap.size ≤ ge
section
variable {w0 W W' : World} {sb mb br ge P M q n : Nat} {ts : List Tm}
theorem RedR.below (h : RedR w0 sb mb br ge P M q n ts W) (hB : Below W.heap.size W W') : RedR w0 sb mb br ge P M q n ts W' := by
  obtain ⟨D, h1, h2⟩ := h.sum
  obtain ⟨xs, h3, h4⟩ := h.exps
  exact ⟨h.bel.trans (hB.mono h.bel.size), ⟨D, h1.below hB, h2⟩, (hB.block _ (Array.getElem?_eq_some_iff.1 h.ring).1).trans h.ring, ⟨xs, h3, (hB.block _ (Array.getElem?_eq_some_iff.1 h4).1).trans h4⟩, h.lb, h.lg⟩
theorem RedR.apart (h : RedR w0 sb mb br ge P M q n ts W) : ge ≠ sb ∧ ge ≠ mb ∧ ge ≠ br ∧ br ≠ mb ∧ br ≠ sb ∧ w0.heap.size ≤ mb := by
  obtain ⟨D, h1, h2⟩ := h.sum
  obtain ⟨xs, h3, h4⟩ := h.exps
  obtain ⟨kv, bs, hr, _⟩ := h1.rcd
  obtain ⟨es, clock, hm, _⟩ := h1.map
  refine ⟨?_, ?_, ?_, ?_, ?_, h1.lm⟩
  · rintro rfl
    rw [hr] at h4
    simp [intsO] at h4
  · rintro rfl
    rw [hm] at h4
    cases h4
  · rintro rfl
    rw [h.ring] at h4
    simp [intsO] at h4
  · rintro rfl
    have := h.ring
    rw [hm] at this
    cases this
  · rintro rfl
    have := h.ring
    rw [hr] at this
    simp at this
theorem RedR.put (h : RedR w0 sb mb br ge P M q n ts W) {xs : List Int} (hx : W.heap[ge]? = some (intsO xs)) (hn : xs.length = n) (j : Nat) (x : Int) :
    RedR w0 sb mb br ge P M q n ts (W.setCell ⟨ge, j, none⟩ (.int .i64 x)) ∧ (W.setCell ⟨ge, j, none⟩ (.int .i64 x)).heap[ge]? = some (intsO (xs.set j x)) := by
  obtain ⟨a1, a2, a4, _⟩ := h.apart
  obtain ⟨D, h1, h2⟩ := h.sum
  have hs := ints_set (j := j) x hx
  have hO : Only (fun g => g = ge) W (W.setCell ⟨ge, j, none⟩ (.int .i64 x)) := Only.setCell (S := fun g => g = ge) (p := ⟨ge, j, none⟩) (Only.refl _ W) rfl _
  have ho : ∀ b, b ≠ ge → (W.setCell ⟨ge, j, none⟩ (.int .i64 x)).heap[b]? = W.heap[b]? := fun b hb => heap_setCell_other _ _ _ _ (by exact hb)
  exact ⟨⟨h.bel.setCell (p := ⟨ge, j, none⟩) h.lg _, ⟨D, h1.keep hO a1.symm a2.symm (fun g hg => by have e : g = ge := hg; subst e; exact ⟨_, _, _, hx, by decide⟩), h2⟩, (ho _ a4.symm).trans h.ring, ⟨_, by simpa using hn, hs⟩, h.lb, h.lg⟩, hs⟩
theorem RedR.added (h : RedR w0 sb mb br ge P M q n ts W) {t : Tm} {D' : DataW Unit} (hs : SumAt w0.heap.size sb mb P M q n (ts.length + 1) D' W') (hT : Tells n (stN P M) (addN P M) (ts ++ [t]) D') (hK : KeepS sb mb W W') (hB : Below w0.heap.size W W') :
    RedR w0 sb mb br ge P M q n (ts ++ [t]) W' := by
  obtain ⟨a1, a2, a4, a5, a6, _⟩ := h.apart
  obtain ⟨xs, h3, h4⟩ := h.exps
  exact ⟨h.bel.trans hB, ⟨D', by simpa using hs, hT⟩, hK _ _ h.ring a6 a5 (fun cs e => by simp at e), ⟨xs, h3, hK _ _ h4 a1 a2 (fun cs e => by simp [intsO] at e)⟩, h.lb, h.lg⟩
end
theorem rg_cells {W : World} {br P M q n : Nat} (h : W.heap[br]? = some (rgO P M q n)) : W.cell? ⟨br, 0, none⟩ = some (.int .i64 (P : Int)) ∧ W.cell? ⟨br, 1, none⟩ = some (.int .i64 (M : Int)) ∧ W.cell? ⟨br, 2, none⟩ = some (.int .i64 (q : Int)) ∧ W.cell? ⟨br, 3, none⟩ = some (.int .i64 (n : Int)) := by
  refine ⟨?_, ?_, ?_, ?_⟩ <;> simp [World.cell?, h]

/-- A list filled anew from the front. -/
def mixI (xs : List Int) (f : Nat → Nat) (e : List Nat) (k : Nat) : List Int := nz ((e.take k).map f) ++ xs.drop k
theorem mixI_zero (xs : List Int) (f : Nat → Nat) (e : List Nat) : mixI xs f e 0 = xs := by simp [mixI, nz]
theorem mixI_length {xs : List Int} {f : Nat → Nat} {e : List Nat} {n k : Nat} (hx : xs.length = n) (he : e.length = n) (hk : k ≤ n) : (mixI xs f e k).length = n := by
  simp [mixI, nz]; omega
theorem mixI_succ {xs : List Int} {f : Nat → Nat} {e : List Nat} {n k x : Nat} (hx : xs.length = n) (he : e.length = n) (hk : k < n) (h : e[k]? = some x) : (mixI xs f e k).set k ((f x : Nat) : Int) = mixI xs f e (k + 1) := by
  unfold mixI
  have h1 : (nz ((e.take k).map f)).length = k := by simp [nz]; omega
  rw [List.set_append_right _ _ (by omega), h1, List.take_add_one, h]
  obtain ⟨a, r, hr⟩ : ∃ a r, xs.drop k = a :: r := by
    cases h2 : xs.drop k with
    | nil => have := List.drop_eq_nil_iff.1 h2; omega
    | cons a r => exact ⟨a, r, rfl⟩
  have h3 : xs.drop (k + 1) = r := by
    have : xs.drop (k + 1) = (xs.drop k).drop 1 := by rw [List.drop_drop]
    rw [this, hr]; rfl
  rw [h3, hr]
  simp [nz]
theorem mixI_full {xs : List Int} {f : Nat → Nat} {e : List Nat} {n : Nat} (hx : xs.length = n) (he : e.length = n) : mixI xs f e n = nz (e.map f) := by
  unfold mixI
  rw [List.take_of_length_le (by omega), List.drop_of_length_le (by omega), List.append_nil]

def redT (q : Nat) (t : Tm) : Tm := (t.1, t.2.map (redN q))
theorem redT_ex {q n : Nat} {t : Tm} (hq : 2 ≤ q) (h : Ex n t.2) : Ex n (redT q t).2 := ⟨by simp [redT, h.1], fun x hx => by
  obtain ⟨y, hy, rfl⟩ := List.mem_map.1 hx
  exact redN_le hq (h.2 y hy)⟩

def PolyRes (q n : Nat) (add : Nat → Nat → Nat) (ts : List Tm) (w : World) (r : Ending) (w' : World) : Prop :=
  Below w.heap.size w w' ∧ ∃ p : List Tm, Ris q n p ∧ (∀ e, cfs add p e = cfs add ts e) ∧ (∀ t ∈ p, Ex n t.2) ∧ p.length ≤ ts.length ∧
    ((p.length ≤ 20000 ∧ ∃ A c, r = .returned (.tuple #[.slice A p.length c, .int .i64 0]) ∧ RdP w' A (tms p)) ∨ (20000 < p.length ∧ r = .returned (.tuple #[.slice none 0 0, .int .i64 5])))

set_option maxRecDepth 100000 in
set_option maxHeartbeats 4000000 in
theorem Reduce_ok (P M q n : Nat) (hf : Fld P M q) (hn : n ≤ 80) (VA : Option Addr) (VC : Nat) (p : List Tm) (w : World) (hL : Lays w) (hr : RdP w VA (tms p)) (hp : Ris q n p) (hx : ∀ t ∈ p, Ex n t.2) (hlen : p.length ≤ 20000) :
    Calls Tryd.prog 15 #[.agg #[.int .i64 (P : Int), .int .i64 (M : Int)], .int .i64 (n : Int), .slice VA p.length VC] w (PolyRes q n (addN P M) (p.map (redT q)) w) := by
  have hB2 := below2 w (.cells #[.int .i64 (P : Int), .int .i64 (M : Int)] 23) (.cells #[.slice VA p.length VC] 25)
  have hv : PolyV w (.slice VA p.length VC) (tms p) := ⟨VA, VC, by simp, hr, by simp; omega⟩
  have hO := open_yes1 P M q n hf hn (some ⟨w.heap.size + 1, 0, none⟩) 1 1 [tms p] rfl (by omega) _ (hL.below hB2) (rdps_one (snd_cell _ _ _ _ _) (hv.below hB2)) (fun x hx' => by
    simp at hx'
    subst hx'
    exact ⟨by simpa using hlen, p, rfl, hp, hx⟩)
  have HO := Lib.hid hO
  have HB2 := Lib.hid hB2
  have HL := Lib.hid hL
  have HR := Lib.hid hr
  have HP := Lib.hid hp
  have HX := Lib.hid hx
  clear hO hB2 hL hp hx hr hv
  go_enter Tryd.func15, Tryd.ntmps15
  go_wp2_with fail
  refine HO.out.mono ?_
  rintro e w1 ⟨rfl, hB1⟩
  have HB3 := Lib.hid (HB2.out.trans (hB1.mono HB2.out.size))
  have HNS := Lib.hid (fun W => newSum_ok P M q n W)
  have hmk := make_ints n (by omega)
  clear HB2 hB1
  go_wp2_with fail
  refine (HNS.out _).mono ?_
  rintro e w2 ⟨sb, mb, rfl, hS, hB4⟩
  go_wp2_with fail
  have hnp : w1.heap.size < w2.heap.size := by have := hB4.size; simp at this; omega
  have hbr : w2.heap[w1.heap.size]? = some (rgO P M q n) := (hB4.block w1.heap.size (by simp)).trans (alloc_at _ _ _ rfl)
  have hgx : (w2.alloc (intsO (List.replicate n 0))).heap[w2.heap.size]? = some (intsO (List.replicate n 0)) := alloc_at _ _ _ rfl
  have hs2 : SumAt w.heap.size sb mb P M q n 0 (.map []) (w2.alloc (intsO (List.replicate n 0))) := by
    have := hS.below (below1 w2 (intsO (List.replicate n 0)))
    have hle : w.heap.size ≤ (w1.alloc (rgO P M q n)).heap.size := by have := HB3.out.size; simp; omega
    exact this.rebase hle
  have hb5 : Below w.heap.size w (w2.alloc (intsO (List.replicate n 0))) := by
    have h1 := HB3.out.alloc HB3.out.size (rgO P M q n)
    have h2 := h1.trans (hB4.mono (by have := HB3.out.size; simp; omega))
    exact h2.alloc h2.size _
  have hst : RedR w sb mb w1.heap.size w2.heap.size P M q n ([] : List Tm) (w2.alloc (intsO (List.replicate n 0))) :=
    ⟨hb5, ⟨_, hs2, Tells.empty _ (stN_zero P M) _⟩, alloc_old _ _ _ _ hbr, ⟨_, by simp, hgx⟩, HB3.out.size, hb5.size |> fun _ => Nat.le_trans HB3.out.size (Nat.le_of_lt hnp)⟩
  have HST := Lib.hid hst
  clear hB4 hS hbr hgx hs2 hb5 hst hmk
  go_loopw [13, 14, 15, 33] (fun _ _ _ i wr => ∃ k : Nat, k ≤ p.length ∧ i = .int .i64 k ∧ RedR w sb mb w1.heap.size w2.heap.size P M q n ((p.take k).map (redT q)) wr) (fun _ _ _ i _ => p.length - (intOf i).toNat)
  case atStart => exact ⟨0, by omega, rfl, HST.out⟩
  case round =>
    obtain ⟨k, hk, rfl, hR⟩ := hrel
    by_cases hlt : k < p.length
    · obtain ⟨t, ht⟩ : ∃ t, p[k]? = some t := ⟨_, List.getElem?_eq_getElem hlt⟩
      have htx := HX.out t (List.mem_of_getElem? ht)
      have htc := HP.out.co t (List.mem_of_getElem? ht)
      obtain ⟨b, off, u, rfl, g1, g2, g3⟩ := HR.out k ((t.1 : Int), nz t.2) (by simp [ht])
      have k1 := (hR.bel.cell (World.block_lt_of_cell? w _ g1)).trans g1
      have k2 := (hR.bel.cell (World.block_lt_of_cell? w _ g2)).trans g2
      obtain ⟨EA, ec, hu, k4, _⟩ := g3
      rw [nz_length, htx.1] at hu
      subst hu
      have HT := Lib.hid ht
      have HTX := Lib.hid htx
      have HK4 := Lib.hid k4
      have HRR := Lib.hid hR
      clear g1 g2 k4 ht htx hR
      go_wp2_with fail
      have hR1 := HRR.out.below (below1 wr (.cells #[.int .i64 (t.1 : Int), .slice EA n ec] 53))
      have htb1 : (wr.alloc (.cells #[.int .i64 (t.1 : Int), .slice EA n ec] 53)).heap[wr.heap.size]? = some (.cells #[.int .i64 (t.1 : Int), .slice EA n ec] 53 (0, 0)) := alloc_at _ _ _ rfl
      obtain ⟨xs, hxl, hxg⟩ := hR1.exps
      have HXL := Lib.hid hxl
      have HI := Lib.hid (show RedR w sb mb w1.heap.size w2.heap.size P M q n ((p.take k).map (redT q)) (wr.alloc (.cells #[.int .i64 (t.1 : Int), .slice EA n ec] 53)) ∧ (wr.alloc (.cells #[.int .i64 (t.1 : Int), .slice EA n ec] 53)).heap[w2.heap.size]? = some (intsO (mixI xs (redN q) t.2 0)) ∧ (wr.alloc (.cells #[.int .i64 (t.1 : Int), .slice EA n ec] 53)).heap[wr.heap.size]? = some (.cells #[.int .i64 (t.1 : Int), .slice EA n ec] 53 (0, 0)) by
        rw [mixI_zero]; exact ⟨hR1, hxg, htb1⟩)
      clear hR1 htb1 hxl hxg k1 k2 HRR
      obtain ⟨wo, rfl⟩ : ∃ wo : World, wo = wr := ⟨_, rfl⟩
      go_loopw [14, 15, 40] (fun _ _ i wr => ∃ j : Nat, j ≤ n ∧ i = .int .i64 j ∧ RedR w sb mb w1.heap.size w2.heap.size P M q n ((p.take k).map (redT q)) wr ∧ wr.heap[w2.heap.size]? = some (intsO (mixI xs (redN q) t.2 j)) ∧ wr.heap[wo.heap.size]? = some (.cells #[.int .i64 (t.1 : Int), .slice EA n ec] 53 (0, 0))) (fun _ _ i _ => n - (intOf i).toNat)
      case atStart => exact ⟨0, by omega, rfl, HI.out⟩
      case round =>
        obtain ⟨j, hj, rfl, hR, hxg, htb⟩ := hrel
        have HTB := Lib.hid htb
        have HXG := Lib.hid hxg
        have HRR := Lib.hid hR
        by_cases hjn : j < n
        · obtain ⟨x, hx⟩ : ∃ x, t.2[j]? = some x := ⟨_, List.getElem?_eq_getElem (by rw [HTX.out.1]; exact hjn)⟩
          have hx2 := HTX.out.2 x (List.mem_of_getElem? hx)
          obtain ⟨a, rfl, g0⟩ := HK4.out j _ (nz_at hx)
          have g1 := (hR.bel.cell (World.block_lt_of_cell? w _ g0)).trans g0
          obtain ⟨d0, d1, d2, d3⟩ := rg_cells hR.ring
          have HRC := Lib.hid (reduced_ok P M q n x hf.q_ge hf.q_le hx2 wr)
          have HXX := Lib.hid hx
          have hml := mixI_length (f := redN q) HXL.out HTX.out.1 (Nat.le_of_lt hjn)
          obtain ⟨y, hy⟩ : ∃ y, (mixI xs (redN q) t.2 j)[j]? = some y := ⟨_, List.getElem?_eq_getElem (by omega)⟩
          have HY := Lib.hid hy
          have HML := Lib.hid hml
          clear hx g0 hR hxg htb hy hml
          go_wp2_with fail
          refine HRC.out.mono ?_
          rintro e w3 ⟨rfl, hB3⟩
          have hR3 := HRR.out.below hB3
          have hg3 : w3.heap[w2.heap.size]? = some (intsO (mixI xs (redN q) t.2 j)) := (hB3.block _ (Array.getElem?_eq_some_iff.1 HXG.out).1).trans HXG.out
          obtain ⟨c1, f1⟩ := ints_cell hg3 HY.out
          have hput := hR3.put hg3 HML.out j ((redN q x : Nat) : Int)
          rw [mixI_succ HXL.out HTX.out.1 hjn HXX.out] at hput
          have ht3 : (w3.setCell ⟨w2.heap.size, j, none⟩ (.int .i64 ((redN q x : Nat) : Int))).heap[wo.heap.size]? = some (.cells #[.int .i64 (t.1 : Int), .slice (some a) n ec] 53 (0, 0)) := by
            rw [heap_setCell_other _ _ _ _ (fun e => by
              have e2 : wo.heap.size = w2.heap.size := e
              rw [e2, HXG.out] at HTB
              have := HTB.out
              simp [intsO] at this)]
            exact (hB3.block _ (Array.getElem?_eq_some_iff.1 HTB.out).1).trans HTB.out
          have HPUT := Lib.hid hput
          have HT3 := Lib.hid ht3
          clear hput ht3 hR3 hg3 hB3 d0 d1 d2 d3 g1
          go_wp2_with fail
          go_roundw
          case rel => exact ⟨j + 1, by omega, by go_num, HPUT.out.1, HPUT.out.2, HT3.out⟩
          case measure => simp [intOf]; omega
        · have hjj : j = n := by omega
          subst hjj
          rw [mixI_full HXL.out HTX.out.1] at hxg
          have htc : wr.cell? ⟨wo.heap.size, 0, none⟩ = some (.int .i64 (t.1 : Int)) := by simp [World.cell?, htb]
          obtain ⟨D, hs, hT⟩ := hR.sum
          have htt := HP.out.co t (List.mem_of_getElem? HT.out)
          have hap := hR.apart
          have hadd := addTerm_ok w wr hR.bel sb mb P M q j _ hf hn D ((p.take k).map (redT q)) t.1 htt.2 (some ⟨w2.heap.size, 0, none⟩) j (t.2.map (redN q)) (redT_ex hf.q_ge HTX.out) hs hT (fun x hx => by
            obtain ⟨y, hy, rfl⟩ := List.mem_map.1 hx
            exact (HP.out.co y (List.mem_of_mem_take hy)).2) (by rw [List.length_map, List.length_take]; omega) (by rw [List.length_map, List.length_take]; omega) (fun W hK _ => ints_read (hK _ _ hxg (fun cs e => by simp [intsO] at e)))
          have HADD := Lib.hid hadd
          clear hadd hs hT hxg htb hR hap
          go_wp2_with fail
          refine HADD.out.mono ?_
          rintro e w3 ⟨rfl, D', hs3, hT3, hK3, hB3⟩
          have hfin := HRR.out.added (t := redT q t) hs3 hT3 hK3 hB3
          have hfin2 : RedR w sb mb w1.heap.size w2.heap.size P M q j ((p.take (k + 1)).map (redT q)) w3 := by
            rw [List.take_add_one, HT.out]
            simpa using hfin
          have HFIN := Lib.hid hfin2
          clear hfin hfin2 hs3 hT3 hK3 hB3 htc
          go_wp2_with fail
          go_roundw
          case rel => exact ⟨k + 1, by omega, by go_num, HFIN.out⟩
          case measure => simp [intOf]; omega
    · have hkp : k = p.length := by omega
      subst hkp
      rw [List.take_of_length_le (Nat.le_refl _)] at hR
      obtain ⟨D, hs, hT⟩ := hR.sum
      have hpo := poly_ok w wr hR.bel.size sb mb P M q n _ hf hn D (p.map (redT q)) hs hT (fun x hx => by
        obtain ⟨y, hy, rfl⟩ := List.mem_map.1 hx
        exact (HP.out.co y hy).2) (by rw [List.length_map]; omega) (by rw [List.length_map]; omega)
      have HPO := Lib.hid hpo
      have HRR := Lib.hid hR
      clear hpo hs hT hR
      go_wp2_with fail
      refine HPO.out.mono ?_
      rintro e w3 ⟨hO3, p', h1, h2, h3, h4, h5⟩
      have hle : p'.length ≤ 20000 := by rw [List.length_map] at h4; omega
      rcases h5 with ⟨_, A, c, rfl, h6⟩ | ⟨h6, _⟩
      · have HB := Lib.hid (HRR.out.bel.trans (hO3.below HRR.out.bel.size fun k hk => by
          have hk' : k = mb := hk
          rw [hk']; exact HRR.out.apart.2.2.2.2.2))
        have H1 := Lib.hid h1
        have H2 := Lib.hid h2
        have H3 := Lib.hid h3
        have H4 := Lib.hid h4
        have H6 := Lib.hid h6
        have HLE := Lib.hid hle
        clear h1 h2 h3 h4 h6 hle hO3
        go_wp2_with fail
        refine (sized_yes _ _).mono ?_
        rintro e w4 ⟨rfl, rfl⟩
        go_wp2_with fail
        go_ret2
        exact ⟨HB.out, p', H1.out, H2.out, H3.out, H4.out, .inl ⟨HLE.out, A, c, rfl, H6.out⟩⟩
      · omega
end Go.Proofs.YtflmjdabmnpkjaaDoor
namespace Go.Proofs.YtflmjdabmnpkjaaDoor
set_option linter.unusedVariables false
open Go.RowKit Go.Maps

def bitN (i b : Nat) : Nat := i / 2 ^ b % 2
/-- One pass: where bit b is set, what stands where it is not is taken away. -/
def mobStep (sub : Nat → Nat → Nat) (b : Nat) (xs : List Nat) : List Nat := (List.range xs.length).map fun i => if bitN i b = 1 then sub (xs[i]?.getD 0) (xs[i - 2 ^ b]?.getD 0) else xs[i]?.getD 0
def mobs (sub : Nat → Nat → Nat) (xs : List Nat) : Nat → List Nat
  | 0 => xs
  | b + 1 => mobStep sub b (mobs sub xs b)
def tab01 (bs : List Bool) : List Nat := bs.map fun b => if b then 1 else 0

theorem mobStep_length (sub : Nat → Nat → Nat) (b : Nat) (xs : List Nat) : (mobStep sub b xs).length = xs.length := by simp [mobStep]
theorem mobs_length (sub : Nat → Nat → Nat) (xs : List Nat) (b : Nat) : (mobs sub xs b).length = xs.length := by
  induction b with
  | zero => rfl
  | succ b ih => rw [mobs, mobStep_length, ih]
theorem mobStep_lt {sub : Nat → Nat → Nat} {q : Nat} (hs : ∀ a b, a < q → b < q → sub a b < q) (h0 : 0 < q) (b : Nat) {xs : List Nat} (hx : ∀ x ∈ xs, x < q) : ∀ x ∈ mobStep sub b xs, x < q := fun x hx' => by
  obtain ⟨i, hi, rfl⟩ := List.mem_map.1 hx'
  have hg : ∀ j : Nat, xs[j]?.getD 0 < q := fun j => by
    cases h : xs[j]? with
    | none => exact h0
    | some y => exact hx y (List.mem_of_getElem? h)
  split
  · exact hs _ _ (hg _) (hg _)
  · exact hg _
theorem mobs_lt {sub : Nat → Nat → Nat} {q : Nat} (hs : ∀ a b, a < q → b < q → sub a b < q) (h0 : 0 < q) {xs : List Nat} (hx : ∀ x ∈ xs, x < q) (b : Nat) : ∀ x ∈ mobs sub xs b, x < q := by
  induction b with
  | zero => exact hx
  | succ b ih => exact mobStep_lt hs h0 b ih
/-- A pass in part. -/
def mobPart (sub : Nat → Nat → Nat) (b : Nat) (xs : List Nat) (k : Nat) : List Nat := (List.range xs.length).map fun i => if i < k ∧ bitN i b = 1 then sub (xs[i]?.getD 0) (xs[i - 2 ^ b]?.getD 0) else xs[i]?.getD 0
theorem mobPart_zero (sub : Nat → Nat → Nat) (b : Nat) (xs : List Nat) : mobPart sub b xs 0 = xs := by
  unfold mobPart
  apply List.ext_getElem?
  intro i
  by_cases h : i < xs.length
  · simp [h]
  · simp [h]
theorem mobPart_full (sub : Nat → Nat → Nat) (b : Nat) (xs : List Nat) : mobPart sub b xs xs.length = mobStep sub b xs := by
  unfold mobPart mobStep
  refine List.map_congr_left fun i hi => ?_
  have := List.mem_range.1 hi
  simp [this]
theorem mobPart_length (sub : Nat → Nat → Nat) (b : Nat) (xs : List Nat) (k : Nat) : (mobPart sub b xs k).length = xs.length := by simp [mobPart]
theorem mobPart_at {sub : Nat → Nat → Nat} {b : Nat} {xs : List Nat} {k i : Nat} (hi : i < xs.length) (h : ¬ (i < k ∧ bitN i b = 1)) : (mobPart sub b xs k)[i]? = some (xs[i]?.getD 0) := by
  unfold mobPart
  rw [List.getElem?_map, List.getElem?_range hi]
  simp only [Option.map_some, if_neg h]
theorem mobPart_skip {sub : Nat → Nat → Nat} {b : Nat} {xs : List Nat} {k : Nat} (h : bitN k b ≠ 1) : mobPart sub b xs (k + 1) = mobPart sub b xs k := by
  unfold mobPart
  refine List.map_congr_left fun i hi => ?_
  by_cases hik : i = k
  · subst hik
    simp [h]
  · have : (i < k + 1) ↔ (i < k) := by omega
    simp only [this]
theorem mobPart_put {sub : Nat → Nat → Nat} {b : Nat} {xs : List Nat} {k : Nat} (hk : k < xs.length) (h : bitN k b = 1) :
    (mobPart sub b xs k).set k (sub (xs[k]?.getD 0) (xs[k - 2 ^ b]?.getD 0)) = mobPart sub b xs (k + 1) := by
  unfold mobPart
  apply List.ext_getElem?
  intro i
  by_cases hi : i < xs.length
  · rw [List.getElem?_set]
    by_cases hik : k = i
    · subst hik
      simp [hi, h]
    · rw [if_neg hik, List.getElem?_map, List.getElem?_map, List.getElem?_range hi]
      have : (i < k + 1) ↔ (i < k) := by omega
      simp only [this, Option.map_some]
  · have h1 : ¬ i < (List.range xs.length).length := by simpa using hi
    simp [hi]
theorem bitN_sub {k b : Nat} (h : bitN k b = 1) : 2 ^ b ≤ k ∧ bitN (k - 2 ^ b) b ≠ 1 := by
  unfold bitN at h ⊢
  have hp : 0 < 2 ^ b := Nat.pow_pos (by omega)
  have h1 : 1 ≤ k / 2 ^ b := by
    rcases Nat.eq_zero_or_pos (k / 2 ^ b) with h0 | h0
    · rw [h0] at h; simp at h
    · exact h0
  have h2 : 2 ^ b ≤ k := by
    have := Nat.mul_le_mul_left (2 ^ b) h1
    have h3 := Nat.mul_div_le k (2 ^ b)
    omega
  refine ⟨h2, ?_⟩
  have h3 : (k - 2 ^ b) / 2 ^ b = k / 2 ^ b - 1 := by
    have := Nat.sub_mul_div k (2 ^ b) 1
    simpa using this
  rw [h3]
  omega
theorem land_bit (k b : Nat) : k &&& 2 ^ b = bitN k b * 2 ^ b := by
  have ht : k.testBit b = decide (bitN k b = 1) := Nat.testBit_eq_decide_div_mod_eq
  have h2 : bitN k b = 0 ∨ bitN k b = 1 := by unfold bitN; omega
  apply Nat.eq_of_testBit_eq
  intro j
  rw [Nat.testBit_and, Nat.testBit_two_pow]
  by_cases hj : b = j
  · subst hj
    rw [ht]
    rcases h2 with h2 | h2 <;> simp [h2]
  · rcases h2 with h2 | h2 <;> simp [h2, hj]
theorem and_nat (a b : Nat) (ha : a < 9223372036854775808) (hb : b < 9223372036854775808) : bits .and .i64 (a : Int) (b : Int) = ((a &&& b : Nat) : Int) := by
  show IntKind.i64.wrap ((BitVec.ofInt 64 (a : Int) &&& BitVec.ofInt 64 (b : Int)).toNat : Int) = _
  rw [BitVec.toNat_and, ofInt_u64 a (by omega), ofInt_u64 b (by omega)]
  exact Lib.wrap_i64_small _ (Nat.lt_of_le_of_lt Nat.and_le_left ha)

/-- A list of truth values behind a slice's address. -/
def RdB (w : World) (A : Option Addr) (bs : List Bool) : Prop := ∀ (k : Nat) (x : Bool), bs[k]? = some x → ∃ a, A = some a ∧ w.cell? (a.add k) = some (.bool x)
theorem RdB.below {w w' : World} {A : Option Addr} {bs : List Bool} (h : RdB w A bs) (hb : Below w.heap.size w w') : RdB w' A bs := fun k x hk => by
  obtain ⟨a, ha, hc⟩ := h k x hk
  exact ⟨a, ha, (hb.cell (World.block_lt_of_cell? w _ hc)).trans hc⟩

def tabPart (bs : List Bool) (k : Nat) : List Int := nz (tab01 (bs.take k)) ++ List.replicate (bs.length - k) 0
theorem tabPart_zero (bs : List Bool) : tabPart bs 0 = List.replicate bs.length 0 := by simp [tabPart, tab01, nz]
theorem tabPart_full (bs : List Bool) : tabPart bs bs.length = nz (tab01 bs) := by simp [tabPart]
theorem tabPart_at {bs : List Bool} {k : Nat} (hk : k < bs.length) : (tabPart bs k)[k]? = some 0 := by
  unfold tabPart
  have h1 : (nz (tab01 (bs.take k))).length = k := by simp [nz, tab01]; omega
  rw [List.getElem?_append_right (by omega), h1, Nat.sub_self, List.getElem?_replicate]
  simp; omega
theorem tabPart_succ {bs : List Bool} {k : Nat} {x : Bool} (hk : k < bs.length) (hx : bs[k]? = some x) : (tabPart bs k).set k (if x then 1 else 0) = tabPart bs (k + 1) := by
  unfold tabPart
  have h1 : (nz (tab01 (bs.take k))).length = k := by simp [nz, tab01]; omega
  rw [List.set_append_right _ _ (by omega), h1, List.take_add_one, hx]
  obtain ⟨m, hm⟩ : ∃ m, bs.length - k = m + 1 := ⟨bs.length - k - 1, by omega⟩
  rw [hm, show bs.length - (k + 1) = m by omega, List.replicate_succ]
  cases x <;> simp [nz, tab01]

set_option maxRecDepth 100000 in
set_option maxHeartbeats 4000000 in
theorem coef_ok (P M q n : Nat) (hf : Fld P M q) (hn : n ≤ 12) (A : Option Addr) (cap : Nat) (bs : List Bool) (hl : bs.length = 2 ^ n) (w : World) (hL : Lays w) (hr : RdB w A bs) :
    Calls Tryd.prog 38 #[rg P M q n, .slice A bs.length cap] w fun r w' => ∃ g, w.heap.size ≤ g ∧ r = .returned (.slice (some ⟨g, 0, none⟩) bs.length bs.length) ∧ w'.heap[g]? = some (intsO (nz (mobs (subN P M) (tab01 bs) n))) ∧ Below w.heap.size w w' := by
  have hle : bs.length ≤ 4096 := by
    rw [hl]
    exact Nat.pow_le_pow_right (n := 2) (by omega) hn
  have hmk := make_ints bs.length (by omega)
  have HR := Lib.hid hr
  have HL := Lib.hid hL
  have HLE := Lib.hid hl
  clear hr hL hl
  have HST := Lib.hid (show ((w.alloc (rgO P M q n)).alloc (intsO (List.replicate bs.length 0))).heap[w.heap.size + 1]? = some (intsO (tabPart bs 0)) by rw [tabPart_zero]; exact alloc_at _ _ _ (by simp))
  generalize hbl : bs.length = L at *
  have HBL := Lib.hid hbl
  clear hbl
  go_enter Tryd.func38, Tryd.ntmps38
  go_wp2_with fail
  go_loopw [6, 7, 15] (fun _ _ i wr => ∃ k : Nat, k ≤ L ∧ i = .int .i64 k ∧ wr.heap[w.heap.size + 1]? = some (intsO (tabPart bs k)) ∧ wr.heap[w.heap.size]? = some (rgO P M q n) ∧ Below w.heap.size w wr) (fun _ _ i _ => L - (intOf i).toNat)
  case atStart => exact ⟨0, by omega, rfl, HST.out, alloc_old _ _ _ _ (alloc_at _ _ _ rfl), below2 _ _ _⟩
  case round =>
    obtain ⟨k, hk, rfl, hb, hrg, hB⟩ := hrel
    by_cases hlt : k < L
    · obtain ⟨x, hx⟩ : ∃ x, bs[k]? = some x := ⟨_, List.getElem?_eq_getElem (by rw [HBL.out]; exact hlt)⟩
      obtain ⟨a, rfl, g0⟩ := HR.out k x hx
      have g1 := (hB.cell (World.block_lt_of_cell? w _ g0)).trans g0
      obtain ⟨c1, f1⟩ := ints_cell hb (tabPart_at (by rw [HBL.out]; exact hlt))
      have HX := Lib.hid hx
      have HBK := Lib.hid hb
      have HB := Lib.hid hB
      have HRG := Lib.hid hrg
      clear hx g0 hb hB hrg
      cases x
      · have hst : wr.heap[w.heap.size + 1]? = some (intsO (tabPart bs (k + 1))) := by
          rw [← tabPart_succ (by rw [HBL.out]; exact hlt) HX.out, HBK.out]
          congr 2
          have h2 := tabPart_at (bs := bs) (k := k) (by rw [HBL.out]; exact hlt)
          have h3 := List.getElem?_eq_some_iff.1 h2
          obtain ⟨h4, h5⟩ := h3
          apply List.ext_getElem?
          intro i
          rw [List.getElem?_set]
          by_cases hki : k = i
          · subst hki
            simp [h4, h5]
          · rw [if_neg hki]
        have HS2 := Lib.hid hst
        clear hst
        go_wp2_with fail
        go_roundw
        case rel => exact ⟨k + 1, by omega, by go_num, HS2.out, HRG.out, HB.out⟩
        case measure => simp [intOf]; omega
      · have hst : (wr.setCell ⟨w.heap.size + 1, k, none⟩ (.int .i64 1)).heap[w.heap.size + 1]? = some (intsO (tabPart bs (k + 1))) := by
          rw [← tabPart_succ (by rw [HBL.out]; exact hlt) HX.out]
          exact ints_set _ HBK.out
        have HS2 := Lib.hid hst
        clear hst
        go_wp2_with fail
        go_roundw
        case rel => exact ⟨k + 1, by omega, by go_num, HS2.out, (heap_setCell_other _ _ _ _ (by show w.heap.size ≠ w.heap.size + 1; omega)).trans HRG.out, HB.out.setCell (p := ⟨w.heap.size + 1, k, none⟩) (Nat.le_succ _) _⟩
        case measure => simp [intOf]; omega
    · have hkl : k = bs.length := by rw [HBL.out]; omega
      rw [hkl, tabPart_full] at hb
      have hkL : k = L := by omega
      subst hkL
      have HB2 := Lib.hid hb
      have HRG := Lib.hid hrg
      have HB := Lib.hid hB
      clear hb hkl hrg hB
      go_wp2_with fail
      have hrng := hf.fl.toRng
      have hsub : ∀ a b, a < q → b < q → subN P M a b < q := fun a b ha hb => hrng.sub_lt ha hb
      have ht01 : ∀ x ∈ tab01 bs, x < q := fun x hx => by
        obtain ⟨b, _, rfl⟩ := List.mem_map.1 hx
        have := hf.q_ge
        cases b <;> simp <;> omega
      have HLT := Lib.hid (fun b => mobs_lt hsub hrng.pos ht01 b)
      have HLN := Lib.hid (fun b => (mobs_length (subN P M) (tab01 bs) b).trans (by simp [tab01]; exact HBL.out : (tab01 bs).length = k))
      have HSB := Lib.hid (fun (a b : Nat) (ha : a < q) (hb : b < q) (W : World) (hW : Below w.heap.size w W) => subE_ok P M q n a b hf ha hb W (HL.out.below hW))
      clear hrng hsub ht01
      go_loopw [8, 9, 33] (fun b8 _ _ W => ∃ b pb : Nat, b ≤ n ∧ pb = 2 ^ b ∧ b8 = .int .i64 (pb : Int) ∧ W.heap[w.heap.size + 1]? = some (intsO (nz (mobs (subN P M) (tab01 bs) b))) ∧ W.heap[w.heap.size]? = some (rgO P M q n) ∧ Below w.heap.size w W) (fun b8 _ _ _ => k - (intOf b8).toNat)
      case atStart => exact ⟨0, 1, by omega, rfl, rfl, HB2.out, HRG.out, HB.out⟩
      case round =>
        clear HB2 HRG HB
        obtain ⟨b, pb, hbn, hpb, rfl, hb, hrg, hB⟩ := hrel
        have HPB := Lib.hid hpb
        have hpb1 : 1 ≤ pb := by rw [hpb]; exact Nat.pow_pos (by omega)
        clear hpb
        by_cases hlt2 : pb < k
        · have hbn2 : b < n := by
            rcases Nat.lt_or_ge b n with h | h
            · exact h
            · have : b = n := by omega
              subst this
              have h1 := HPB.out
              have h2 := HLE.out
              omega
          have hst0 : wr.heap[w.heap.size + 1]? = some (intsO (nz (mobPart (subN P M) b (mobs (subN P M) (tab01 bs) b) 0))) := by rw [mobPart_zero]; exact hb
          have HST0 := Lib.hid (show wr.heap[w.heap.size + 1]? = some (intsO (nz (mobPart (subN P M) b (mobs (subN P M) (tab01 bs) b) 0))) ∧ wr.heap[w.heap.size]? = some (rgO P M q n) ∧ Below w.heap.size w wr from ⟨hst0, hrg, hB⟩)
          clear hst0 hb hrg hB
          generalize hys : mobs (subN P M) (tab01 bs) b = ys at *
          have HYL : Hid (ys.length = k) := Lib.hid (by rw [← hys]; exact HLN.out b)
          have HYT : Hid (∀ i : Nat, ys[i]?.getD 0 < q) := Lib.hid (fun i => by
            cases h : ys[i]? with
            | none => have := hf.q_ge; show 0 < q; omega
            | some y => exact HLT.out b y (by rw [hys]; exact List.mem_of_getElem? h))
          have HYS := Lib.hid hys
          clear hys
          obtain ⟨wo, rfl⟩ : ∃ wo : World, wo = wr := ⟨_, rfl⟩
          go_wp2_with fail
          go_loopw [9, 33] (fun _ i W => ∃ j : Nat, j ≤ k ∧ i = .int .i64 j ∧ W.heap[w.heap.size + 1]? = some (intsO (nz (mobPart (subN P M) b ys j))) ∧ W.heap[w.heap.size]? = some (rgO P M q n) ∧ Below w.heap.size w W) (fun _ i _ => k - (intOf i).toNat)
          case atStart => exact ⟨0, by omega, rfl, HST0.out⟩
          case round =>
            clear HST0
            obtain ⟨j, hj, rfl, hb, hrg, hB⟩ := hrel
            have HBK := Lib.hid hb
            have HRG := Lib.hid hrg
            have HB := Lib.hid hB
            by_cases hjk : j < k
            · have hand := and_nat j pb (by omega) (by omega)
              rw [HPB.out, land_bit, ← HPB.out] at hand
              by_cases hbit : bitN j b = 1
              · rw [hbit, Nat.one_mul] at hand
                have hnz : ((pb : Int) != 0) = true := by simp; omega
                obtain ⟨hs1, hs2⟩ := bitN_sub hbit
                rw [← HPB.out] at hs1 hs2
                have e1 := nz_at (mobPart_at (sub := subN P M) (b := b) (xs := ys) (k := j) (i := j) (by rw [HYL.out]; exact hjk) (by omega))
                have e2 := nz_at (mobPart_at (sub := subN P M) (b := b) (xs := ys) (k := j) (i := j - pb) (by rw [HYL.out]; omega) (fun h => hs2 h.2))
                obtain ⟨c1, f1⟩ := ints_cell hb e1
                obtain ⟨c2, f2⟩ := ints_cell hb e2
                obtain ⟨d0, d1, d2, d3⟩ := rg_cells hrg
                have hx := HYT.out j
                have hy := HYT.out (j - pb)
                have hput := mobPart_put (sub := subN P M) (b := b) (xs := ys) (k := j) (by rw [HYL.out]; exact hjk) hbit
                rw [← HPB.out] at hput
                generalize ys[j]?.getD 0 = x at *
                generalize ys[j - pb]?.getD 0 = y at *
                have HCA := Lib.hid (HSB.out x y hx hy wr.drew hB.drew)
                have HPUT := Lib.hid hput
                have w1 : IntKind.i64.wrap ((j : Int) - (pb : Int)) = (j : Int) - (pb : Int) := IntWalk.i64_in _ (by omega)
                have b1 : 0 ≤ (j : Int) - (pb : Int) := by omega
                have b2 : (j : Int) - (pb : Int) < (k : Int) := by omega
                have b3 : (pb : Int) ≤ (j : Int) := by omega
                have b4 : j - pb < k := by omega
                have t1 : ((j : Int) - (pb : Int)).toNat = j - pb := by omega
                clear hput e1 e2 hs1 hs2 hb hrg hB hx hy hbit
                go_wp2_with fail
                go_region_with (go_at_call 58; refine HCA.out.mono ?_; rintro e w3 ⟨rfl, hB3⟩; have hq3 : w3.cell? ⟨w.heap.size + 1, j, none⟩ = wr.drew.cell? ⟨w.heap.size + 1, j, none⟩ := hB3.cell (Array.getElem?_eq_some_iff.1 HBK.out).1; have c3 := hq3.trans c1; have f3 : w3.frozen? ⟨w.heap.size + 1, j, none⟩ = false := (hB3.frozen (p := ⟨w.heap.size + 1, j, none⟩) (Array.getElem?_eq_some_iff.1 HBK.out).1).trans f1)
                all_goals
                  have hb3 : w3.heap[w.heap.size + 1]? = some (intsO (nz (mobPart (subN P M) b ys j))) := (hB3.block _ (Array.getElem?_eq_some_iff.1 HBK.out).1).trans HBK.out
                  have hst3 := ints_set (j := j) ((subN P M x y : Nat) : Int) hb3
                  rw [show (nz (mobPart (subN P M) b ys j)).set j ((subN P M x y : Nat) : Int) = nz (mobPart (subN P M) b ys (j + 1)) by rw [← HPUT.out]; simp [nz, List.map_set]] at hst3
                  have hrg3 : (w3.setCell ⟨w.heap.size + 1, j, none⟩ (.int .i64 ((subN P M x y : Nat) : Int))).heap[w.heap.size]? = some (rgO P M q n) :=
                    (heap_setCell_other _ _ _ _ (by show w.heap.size ≠ w.heap.size + 1; omega)).trans ((hB3.block _ (Array.getElem?_eq_some_iff.1 HRG.out).1).trans HRG.out)
                  have hbl3 : Below w.heap.size w (w3.setCell ⟨w.heap.size + 1, j, none⟩ (.int .i64 ((subN P M x y : Nat) : Int))) :=
                    (HB.out.drew.trans (hB3.mono HB.out.size)).setCell (p := ⟨w.heap.size + 1, j, none⟩) (Nat.le_succ _) _
                  have HS3 := Lib.hid hst3
                  have HR3 := Lib.hid hrg3
                  have HL3 := Lib.hid hbl3
                  clear hb3 hst3 hrg3 hbl3 hB3 hq3 c3 f3 c1 c2 f1 f2 d0 d1 d2 d3 w1 hand
                  go_wp2_with fail
                  go_roundw
                  case rel => exact ⟨j + 1, by omega, by go_num, HS3.out, HR3.out, HL3.out⟩
                  case measure => simp [intOf]; omega
              · have hb0 : bitN j b = 0 := by unfold bitN at hbit ⊢; omega
                rw [hb0, Nat.zero_mul] at hand
                have hsk : wr.heap[w.heap.size + 1]? = some (intsO (nz (mobPart (subN P M) b ys (j + 1)))) := by rw [mobPart_skip hbit]; exact hb
                have HSK := Lib.hid hsk
                clear hsk hb hrg hB hbit hb0
                go_wp2_with fail
                go_roundw
                case rel => exact ⟨j + 1, by omega, by go_num, HSK.out, HRG.out, HB.out⟩
                case measure => simp [intOf]; omega
            · have hjj : j = ys.length := by rw [HYL.out]; omega
              rw [hjj, mobPart_full] at hb
              have hb' : wr.heap[w.heap.size + 1]? = some (intsO (nz (mobs (subN P M) (tab01 bs) (b + 1)))) := by
                show wr.heap[w.heap.size + 1]? = some (intsO (nz (mobStep (subN P M) b (mobs (subN P M) (tab01 bs) b))))
                rw [HYS.out]; exact hb
              have HB' := Lib.hid hb'
              have hp2 : pb ≤ 4096 := by omega
              clear hb hb' hjj
              go_wp2_with fail
              go_roundw
              case rel => exact ⟨b + 1, pb * 2, by omega, by rw [HPB.out, Nat.pow_succ], by go_num, HB'.out, HRG.out, HB.out⟩
              case measure => simp [intOf]; omega
        · have hbn2 : b = n := by
            rcases Nat.lt_or_ge b n with h | h
            · exfalso
              have h1 := HPB.out
              have h2 := HLE.out
              have := Nat.pow_lt_pow_right (a := 2) (by omega) h
              omega
            · omega
          subst hbn2
          have HB4 := Lib.hid hb
          have HB5 := Lib.hid hB
          clear hb hrg hB
          go_wp2_with fail
          go_ret
          exact ⟨w.heap.size + 1, Nat.le_succ _, rfl, HB4.out, HB5.out⟩
end Go.Proofs.YtflmjdabmnpkjaaDoor
namespace Go.Proofs.YtflmjdabmnpkjaaDoor
set_option linter.unusedVariables false
open Go.RowKit Go.Maps

/-- What the listed variables hold. -/
structure LayP (w : World) : Prop where
  lays : Lays w
  tz : TabAt 2 Lib.deBruijn64tab w
  pow : Lib.TabIs Tryd.prog w "internal/strconv.uint64pow10" .u64 Lib.pow10Tab
theorem LayP.below {w w' : World} (h : LayP w) (hB : Below w.heap.size w w') : LayP w' :=
  ⟨h.lays.below hB, fun j hj => (hB.cell (World.block_lt_of_cell? w _ (h.tz j hj))).trans (h.tz j hj), Lib.tabBelow_of_tabIs h.pow w' hB⟩

theorem tz_ok (x : Nat) (hx : x < 18446744073709551616) (w : World) (hL : LayP w) :
    Calls Tryd.prog 37 #[.int .u64 (x : Int)] w fun e w' => e = .returned (.int .i64 (Lib.ctz 64 x : Nat)) ∧ w = w' :=
  (Any7.bits_TrailingZeros Tryd.tzL x hx w fun _ => hL.tz).mono fun e w' ⟨h1, h2⟩ => ⟨h1, h2.symm⟩
theorem ctz_pow (n : Nat) (hn : n ≤ 12) : Lib.ctz 64 (2 ^ n) = n := by
  have : n = 0 ∨ n = 1 ∨ n = 2 ∨ n = 3 ∨ n = 4 ∨ n = 5 ∨ n = 6 ∨ n = 7 ∨ n = 8 ∨ n = 9 ∨ n = 10 ∨ n = 11 ∨ n = 12 := by omega
  rcases this with rfl | rfl | rfl | rfl | rfl | rfl | rfl | rfl | rfl | rfl | rfl | rfl | rfl <;> decide +kernel

def bitsL (n i : Nat) : List Nat := (List.range n).map (bitN i)
theorem bitsL_ex (n i : Nat) : Ex n (bitsL n i) := ⟨by simp [bitsL], fun x hx => by
  obtain ⟨v, _, rfl⟩ := List.mem_map.1 hx
  unfold bitN; omega⟩
/-- The terms of the first k entries. -/
def mlT (C : List Nat) (n k : Nat) : List Tm := (List.range k).map fun i => (C[i]?.getD 0, bitsL n i)
theorem mlT_succ (C : List Nat) (n k : Nat) : mlT C n (k + 1) = mlT C n k ++ [(C[k]?.getD 0, bitsL n k)] := by
  simp [mlT, List.range_succ]
theorem mlT_length (C : List Nat) (n k : Nat) : (mlT C n k).length = k := by simp [mlT]
theorem mlT_lt {C : List Nat} {q : Nat} (h : ∀ i : Nat, C[i]?.getD 0 < q) (n k : Nat) : CoLt q (mlT C n k) := fun t ht => by
  obtain ⟨i, _, rfl⟩ := List.mem_map.1 ht
  exact h i

/-- The table's coefficients. -/
def mlC (P M n : Nat) (bs : List Bool) : List Nat := mobs (subN P M) (tab01 bs) n
theorem mlC_lt {P M q : Nat} (hf : Fld P M q) (n : Nat) (bs : List Bool) : ∀ i : Nat, (mlC P M n bs)[i]?.getD 0 < q := fun i => by
  have hrng := hf.fl.toRng
  have ht01 : ∀ x ∈ tab01 bs, x < q := fun x hx => by
    obtain ⟨b, _, rfl⟩ := List.mem_map.1 hx
    have := hf.q_ge
    cases b <;> simp <;> omega
  cases h : (mlC P M n bs)[i]? with
  | none => exact hrng.pos
  | some y => exact mobs_lt (fun a b ha hb => hrng.sub_lt ha hb) hrng.pos ht01 n y (List.mem_of_getElem? h)
theorem rdps_none (w : World) : RdPs w none [] := fun k p hp => by simp at hp

set_option maxRecDepth 100000 in
set_option maxHeartbeats 4000000 in
theorem Multilinear_ok (P M q n : Nat) (hf : Fld P M q) (hn : n ≤ 12) (A : Option Addr) (cap : Nat) (bs : List Bool) (hl : bs.length = 2 ^ n) (w : World) (hL : LayP w) (hr : RdB w A bs) :
    Calls Tryd.prog 20 #[.agg #[.int .i64 (P : Int), .int .i64 (M : Int)], .slice A bs.length cap] w (PolyRes q n (addN P M) (mlT (mlC P M n bs) n (2 ^ n)) w) := by
  have hB1 := below1 w (.cells #[.int .i64 (P : Int), .int .i64 (M : Int)] 23)
  have HV := Lib.hid (valid_yes P M _ (hL.lays.below hB1) hf.ok)
  have HTZ := Lib.hid (fun W (hW : Below w.heap.size w W) => tz_ok (2 ^ n) (Nat.lt_of_le_of_lt (Nat.pow_le_pow_right (n := 2) (by omega) hn) (by decide)) W (hL.below hW))
  have hctz := ctz_pow n hn
  rw [hctz] at HTZ
  have HO := Lib.hid (fun W (hW : Below w.heap.size w W) => open_yes1 P M q n hf (by omega) none 0 0 [] rfl (by omega) W (hL.lays.below hW) (rdps_none W) (by simp))
  have HCO := Lib.hid (fun W (hW : Below w.heap.size w W) => coef_ok P M q n hf hn A cap bs hl W (hL.lays.below hW) (hr.below hW))
  have HB1 := Lib.hid hB1
  have HL := Lib.hid hL
  have hle : 2 ^ n ≤ 4096 := Nat.pow_le_pow_right (n := 2) (by omega) hn
  have hp1 : 1 ≤ 2 ^ n := Nat.pow_pos (by omega)
  have hsh : wrap64 ((2 : Int) ^ n) = ((2 ^ n : Nat) : Int) := by
    have : (2 : Int) ^ n = ((2 ^ n : Nat) : Int) := by simp
    rw [this]
    exact IntWalk.wrap64_in _ (by omega)
  have hu : IntKind.u64.wrap ((2 ^ n : Nat) : Int) = ((2 ^ n : Nat) : Int) := by rw [IntKind.wrap_u64]; omega
  rw [hl] at HCO ⊢
  have HLEN := Lib.hid hl
  generalize hLL : 2 ^ n = L at *
  have HLL := Lib.hid hLL
  clear hctz hL hr hB1 hl hLL
  go_enter Tryd.func20, Tryd.ntmps20
  go_wp2_with fail
  refine HV.out.mono ?_
  rintro e w1 ⟨rfl, hB⟩
  have HB := Lib.hid (HB1.out.trans (hB.mono HB1.out.size))
  have hc0 : w1.cell? ⟨w.heap.size, 0, none⟩ = some (.int .i64 (P : Int)) := (hB.cell (by simp)).trans (World.cell?_alloc_new _ _ _ _)
  have hc1 : w1.cell? ⟨w.heap.size, 1, none⟩ = some (.int .i64 (M : Int)) := (hB.cell (by simp)).trans (World.cell?_alloc_new _ _ _ _)
  clear hB HV HB1
  go_wp2_with fail
  refine (HTZ.out _ HB.out).mono ?_
  rintro e w2 ⟨rfl, rfl⟩
  go_wp2_with fail
  refine (HO.out _ HB.out).mono ?_
  rintro e w2 ⟨rfl, hB2⟩
  have HB2 := Lib.hid (HB.out.trans (hB2.mono HB.out.size))
  have HNS := Lib.hid (fun W => newSum_ok P M q n W)
  have hmk := make_ints n (by omega)
  clear hc0 hc1 hB2
  go_wp2_with fail
  refine (HNS.out _).mono ?_
  rintro e w3 ⟨sb, mb, rfl, hS, hB3⟩
  have hlt3 : w2.heap.size < w3.heap.size := by have := hB3.size; simp at this; omega
  have hbr3 : w3.heap[w2.heap.size]? = some (rgO P M q n) := (hB3.block w2.heap.size (by simp)).trans (alloc_at _ _ _ rfl)
  have hb3 : Below w.heap.size w w3 := (HB2.out.alloc HB2.out.size (rgO P M q n)).trans (hB3.mono (by have := HB2.out.size; simp; omega))
  have hb4 : Below w.heap.size w (w3.alloc (intsO (List.replicate n 0))) := hb3.alloc hb3.size _
  have hbr4 : (w3.alloc (intsO (List.replicate n 0))).heap[w2.heap.size]? = some (rgO P M q n) := alloc_old _ _ _ _ hbr3
  have hge4 : (w3.alloc (intsO (List.replicate n 0))).heap[w3.heap.size]? = some (intsO (List.replicate n 0)) := alloc_at _ _ _ rfl
  obtain ⟨d0, d1, d2, d3⟩ := rg_cells hbr4
  have hs4 : SumAt w.heap.size sb mb P M q n 0 (.map []) (w3.alloc (intsO (List.replicate n 0))) := by
    have := hS.below (below1 w3 (intsO (List.replicate n 0)))
    have hle : w.heap.size ≤ (w2.alloc (rgO P M q n)).heap.size := by have := HB2.out.size; simp; omega
    exact this.rebase hle
  have HB4 := Lib.hid hb4
  have HBR4 := Lib.hid hbr4
  have HGE4 := Lib.hid hge4
  have HS4 := Lib.hid hs4
  have HLT3 := Lib.hid hlt3
  clear hS hB3 hbr3 hb3 hb4 hbr4 hge4 hs4 hlt3
  go_wp2_with fail
  refine (HCO.out _ HB4.out).mono ?_
  rintro e w4 ⟨gc, hgc, rfl, hgb, hB5⟩
  have hR : RedR w sb mb w2.heap.size w3.heap.size P M q n ([] : List Tm) w4 :=
    RedR.below ⟨HB4.out, ⟨_, HS4.out, Tells.empty _ (stN_zero P M) _⟩, HBR4.out, ⟨_, by simp, HGE4.out⟩, HB2.out.size, Nat.le_trans HB2.out.size (Nat.le_of_lt HLT3.out)⟩ hB5
  have hgc3 : gc ≠ w3.heap.size := by simp at hgc; omega
  have HST := Lib.hid (show RedR w sb mb w2.heap.size w3.heap.size P M q n (mlT (mlC P M n bs) n 0) w4 ∧ w4.heap[gc]? = some (intsO (nz (mlC P M n bs))) from ⟨hR, hgb⟩)
  have HGC := Lib.hid hgc3
  have HCL : Hid ((mlC P M n bs).length = L) := Lib.hid (by unfold mlC; rw [mobs_length]; simp [tab01]; exact HLEN.out)
  clear hR hgb hB5 hgc3 hgc d0 d1 d2 d3 hmk hsh hu
  go_wp2_with fail
  go_loopw [11, 12, 13, 44] (fun _ _ _ i wr => ∃ k : Nat, k ≤ L ∧ i = .int .i64 k ∧ RedR w sb mb w2.heap.size w3.heap.size P M q n (mlT (mlC P M n bs) n k) wr ∧ wr.heap[gc]? = some (intsO (nz (mlC P M n bs)))) (fun _ _ _ i _ => L - (intOf i).toNat)
  case atStart => exact ⟨0, by omega, rfl, HST.out⟩
  case round =>
    clear HST
    obtain ⟨k, hk, rfl, hR, hgb⟩ := hrel
    by_cases hlt : k < L
    · have hck : (mlC P M n bs)[k]? = some ((mlC P M n bs)[k]?.getD 0) := by
        rw [List.getElem?_eq_getElem (by rw [HCL.out]; exact hlt)]; rfl
      obtain ⟨c1, _⟩ := ints_cell hgb (nz_at hck)
      have hcq := mlC_lt hf n bs k
      obtain ⟨xs, hxl, hxg⟩ := hR.exps
      have HXL := Lib.hid hxl
      have HI := Lib.hid (show RedR w sb mb w2.heap.size w3.heap.size P M q n (mlT (mlC P M n bs) n k) wr ∧ wr.heap[w3.heap.size]? = some (intsO (mixI xs (bitN k) (List.range n) 0)) ∧ wr.heap[gc]? = some (intsO (nz (mlC P M n bs))) by
        rw [mixI_zero]; exact ⟨hR, hxg, hgb⟩)
      have HCS := Lib.hid (mlT_succ (mlC P M n bs) n k)
      generalize (mlC P M n bs)[k]?.getD 0 = cv at *
      clear hck hR hgb hxl hxg
      obtain ⟨wo, rfl⟩ : ∃ wo : World, wo = wr := ⟨_, rfl⟩
      go_wp2_with fail
      go_loopw [13, 51] (fun _ i W => ∃ j : Nat, j ≤ n ∧ i = .int .i64 j ∧ RedR w sb mb w2.heap.size w3.heap.size P M q n (mlT (mlC P M n bs) n k) W ∧ W.heap[w3.heap.size]? = some (intsO (mixI xs (bitN k) (List.range n) j)) ∧ W.heap[gc]? = some (intsO (nz (mlC P M n bs)))) (fun _ i _ => n - (intOf i).toNat)
      case atStart => exact ⟨0, by omega, rfl, HI.out⟩
      case round =>
        clear HI c1
        obtain ⟨j, hj, rfl, hR, hxg, hgb⟩ := hrel
        have HRR := Lib.hid hR
        have HXG := Lib.hid hxg
        have HGB := Lib.hid hgb
        have HRL : Hid ((List.range n).length = n) := Lib.hid (by simp)
        by_cases hjn : j < n
        · have hml := mixI_length (f := bitN k) HXL.out HRL.out (Nat.le_of_lt hjn)
          obtain ⟨y, hy⟩ : ∃ y, (mixI xs (bitN k) (List.range n) j)[j]? = some y := ⟨_, List.getElem?_eq_getElem (by omega)⟩
          obtain ⟨c1, f1⟩ := ints_cell hxg hy
          have hand := and1_nat (k / 2 ^ j) (by have := Nat.div_le_self k (2 ^ j); omega)
          have hput := hR.put hxg hml j ((bitN k j : Nat) : Int)
          rw [mixI_succ (f := bitN k) HXL.out HRL.out hjn (by simp [hjn])] at hput
          have hg3 : (wr.setCell ⟨w3.heap.size, j, none⟩ (.int .i64 ((bitN k j : Nat) : Int))).heap[gc]? = some (intsO (nz (mlC P M n bs))) :=
            (heap_setCell_other _ _ _ _ (by show gc ≠ w3.heap.size; exact HGC.out)).trans hgb
          have hval : bits .and .i64 ((k : Int) / 2 ^ j) 1 = ((bitN k j : Nat) : Int) := by
            have hdv : (k : Int) / 2 ^ j = ((k / 2 ^ j : Nat) : Int) := by simp
            rw [hdv, hand]; rfl
          rw [← hval] at hput hg3
          have HPUT := Lib.hid hput
          have HG3 := Lib.hid hg3
          clear hml hy hR hxg hgb hput hg3 hand hval
          go_wp2_with fail
          go_roundw
          case rel => exact ⟨j + 1, by omega, by go_num, HPUT.out.1, HPUT.out.2, HG3.out⟩
          case measure => simp [intOf]; omega
        · have hjj : j = n := by omega
          subst hjj
          rw [mixI_full HXL.out HRL.out] at hxg
          obtain ⟨D, hs, hT⟩ := hR.sum
          have hadd := addTerm_ok w wr hR.bel sb mb P M q j _ hf (by omega) D (mlT (mlC P M j bs) j k) cv hcq (some ⟨w3.heap.size, 0, none⟩) j (bitsL j k) (bitsL_ex j k) hs hT (mlT_lt (mlC_lt hf j bs) j k) (by rw [mlT_length]; omega) (by rw [mlT_length]; omega) (fun W hK _ => ints_read (hK _ _ hxg (fun cs e => by simp [intsO] at e)))
          have HADD := Lib.hid hadd
          have HAP := Lib.hid (show gc ≠ sb ∧ gc ≠ mb by
            obtain ⟨kv, bs', hrc, _⟩ := hs.rcd
            obtain ⟨es, clock, hm, _⟩ := hs.map
            constructor
            · rintro rfl; rw [hrc] at hgb; simp [intsO] at hgb
            · rintro rfl; rw [hm] at hgb; cases hgb)
          clear hadd hs hT hxg hR hgb
          go_wp2_with fail
          refine HADD.out.mono ?_
          rintro e w5 ⟨rfl, D', hs3, hT3, hK3, hB3⟩
          have hfin := HRR.out.added (t := (cv, bitsL j k)) hs3 hT3 hK3 hB3
          rw [← HCS.out] at hfin
          have HFIN := Lib.hid hfin
          have HGF := Lib.hid (hK3 _ _ HGB.out HAP.out.1 HAP.out.2 (fun cs e => by simp [intsO] at e))
          clear hfin hs3 hT3 hK3 hB3
          go_wp2_with fail
          go_roundw
          case rel => exact ⟨k + 1, by omega, by go_num, HFIN.out, HGF.out⟩
          case measure => simp [intOf]; omega
    · have hkp : k = L := by omega
      subst hkp
      obtain ⟨D, hs, hT⟩ := hR.sum
      have hpo := poly_ok w wr hR.bel.size sb mb P M q n _ hf (by omega) D (mlT (mlC P M n bs) n k) hs hT (mlT_lt (mlC_lt hf n bs) n k) (by rw [mlT_length]; omega) (by rw [mlT_length]; omega)
      have HPO := Lib.hid hpo
      have HRR := Lib.hid hR
      clear hpo hs hT hR hgb
      go_wp2_with fail
      refine HPO.out.mono ?_
      rintro e w5 ⟨hO3, p', h1, h2, h3, h4, h5⟩
      have hle2 : p'.length ≤ 20000 := by rw [mlT_length] at h4; omega
      rcases h5 with ⟨_, A', c, rfl, h6⟩ | ⟨h6, _⟩
      · have HB := Lib.hid (HRR.out.bel.trans (hO3.below HRR.out.bel.size fun k hk => by
          have hk' : k = mb := hk
          rw [hk']; exact HRR.out.apart.2.2.2.2.2))
        have H1 := Lib.hid h1
        have H2 := Lib.hid h2
        have H3 := Lib.hid h3
        have H4 := Lib.hid h4
        have H6 := Lib.hid h6
        have HLE := Lib.hid hle2
        clear h1 h2 h3 h4 h6 hle2 hO3
        go_wp2_with fail
        refine (sized_yes _ _).mono ?_
        rintro e w6 ⟨rfl, rfl⟩
        go_wp2_with fail
        go_ret2
        exact ⟨HB.out, p', H1.out, H2.out, H3.out, H4.out, .inl ⟨HLE.out, A', c, rfl, H6.out⟩⟩
      · omega
end Go.Proofs.YtflmjdabmnpkjaaDoor
