/-
  Joined from Pqd, Pqe: see there.
-/
import Derived.Test.YtopbfgkfpgnalaaGreatDoorUe
import Derived.Test.YtopbfgkfpgnalaaGreatDoorRg
import Derived.Deep.RegionHeld3
import Derived.Deep.CutBlock
import Derived.Test.YtopbfgkfpgnalaaGreatDoorUc
namespace Go.Proofs.YtopbfgkfpgnalaaGreatDoor
set_option linter.unusedVariables false
open Go.RowKit

def nz (e : List Nat) : List Int := e.map fun (x : Nat) => (x : Int)
theorem nz_length (e : List Nat) : (nz e).length = e.length := by simp [nz]
theorem nz_at {e : List Nat} {k x : Nat} (h : e[k]? = some x) : (nz e)[k]? = some (x : Int) := by simp [nz, h]

set_option maxHeartbeats 1000000 in
theorem cmpInt_ok (a b : Int) (w : World) : Calls Tryz.prog 202 #[.int .i64 a, .int .i64 b] w fun e w' => e = .returned (.int .i64 (cmpI a b)) ∧ w' = w := by
  unfold cmpI
  by_cases h1 : a < b
  · rw [if_pos h1]
    go_enter Tryz.func202, Tryz.ntmps202
    go_wp2
    go_ret
    exact ⟨rfl, rfl⟩
  · by_cases h2 : b < a
    · rw [if_neg h1, if_pos h2]
      go_enter Tryz.func202, Tryz.ntmps202
      go_wp2
      go_ret
      exact ⟨rfl, rfl⟩
    · rw [if_neg h1, if_neg h2]
      go_enter Tryz.func202, Tryz.ntmps202
      go_wp2
      go_ret
      exact ⟨rfl, rfl⟩

set_option maxHeartbeats 2000000 in
theorem cmpE_ok (A B : Option Addr) (c1 c2 n : Nat) (ps qs : List Nat) (w : World) (hp : ps.length = n) (hq : qs.length = n) (hn : n ≤ 80) (hr : RdI w A (nz ps)) (hr2 : RdI w B (nz qs)) :
    Calls Tryz.prog 179 #[.slice A n c1, .slice B n c2] w fun e w' => e = .returned (.int .i64 (cmpL ps qs)) ∧ w = w' := by
  have HR := Lib.hid hr
  have HR2 := Lib.hid hr2
  have HP := Lib.hid hp
  have HQ := Lib.hid hq
  clear hr hr2
  go_enter Tryz.func179, Tryz.ntmps179
  go_wp2_with fail
  go_loopw [5, 6, 7, 8, 11] (fun _ _ _ _ i wr => ∃ k : Nat, k ≤ n ∧ i = .int .i64 k ∧ cmpL ps qs = cmpL (ps.drop k) (qs.drop k) ∧ w = wr) (fun _ _ _ _ i _ => n - (intOf i).toNat)
  case atStart => exact ⟨0, Nat.zero_le _, rfl, rfl, rfl⟩
  case round =>
    obtain ⟨k, hk, rfl, hc, rfl⟩ := hrel
    by_cases hkn : k < n
    · obtain ⟨x, hx⟩ : ∃ x, ps[k]? = some x := ⟨_, List.getElem?_eq_getElem (by rw [HP.out]; exact hkn)⟩
      obtain ⟨y, hy⟩ : ∃ y, qs[k]? = some y := ⟨_, List.getElem?_eq_getElem (by rw [HQ.out]; exact hkn)⟩
      obtain ⟨a, rfl, k1⟩ := HR.out k _ (nz_at hx)
      obtain ⟨b, rfl, k2⟩ := HR2.out k _ (nz_at hy)
      have hs := cmpL_same ps qs (by rw [HP.out, HQ.out]) k (by rw [HP.out]; exact hkn)
      rw [hs, hx, hy] at hc
      simp only [Option.getD_some] at hc
      clear hs hx hy
      by_cases h1 : x < y
      · rw [if_pos h1] at hc
        have e1 : cmpI (x : Int) (y : Int) = -1 := by unfold cmpI; rw [if_pos (by omega)]
        have HC := Lib.hid hc
        clear hc
        go_wp2_with (go_at_call 202; refine (cmpInt_ok _ _ _).mono ?_; rw [e1]; rintro e w1 ⟨rfl, rfl⟩)
        go_ret
        exact ⟨by rw [HC.out]; rfl, rfl⟩
      · by_cases h2 : y < x
        · rw [if_neg h1, if_pos h2] at hc
          have e1 : cmpI (x : Int) (y : Int) = 1 := by unfold cmpI; rw [if_neg (by omega), if_pos (by omega)]
          have HC := Lib.hid hc
          clear hc
          go_wp2_with (go_at_call 202; refine (cmpInt_ok _ _ _).mono ?_; rw [e1]; rintro e w1 ⟨rfl, rfl⟩)
          go_ret
          exact ⟨by rw [HC.out]; rfl, rfl⟩
        · rw [if_neg h1, if_neg h2] at hc
          have e1 : cmpI (x : Int) (y : Int) = 0 := by unfold cmpI; rw [if_neg (by omega), if_neg (by omega)]
          have HC := Lib.hid hc
          clear hc
          go_wp2_with (go_at_call 202; refine (cmpInt_ok _ _ _).mono ?_; rw [e1]; rintro e w1 ⟨rfl, rfl⟩)
          go_roundw
          case rel => exact ⟨k + 1, by omega, by go_num, HC.out, trivial⟩
          case measure => simp [intOf]; omega
    · have hc0 : cmpL ps qs = 0 := by
        rw [hc, List.drop_eq_nil_of_le (by have := HP.out; omega), List.drop_eq_nil_of_le (by have := HQ.out; omega)]
        rfl
      have HC := Lib.hid hc0
      clear hc hc0
      go_wp2_with fail
      go_ret
      exact ⟨by rw [HC.out]; rfl, rfl⟩

/-- A polynomial's terms behind a slice's address. -/
def RdP (w : World) (A : Option Addr) (ts : List (Int × List Int)) : Prop :=
  ∀ k t, ts[k]? = some t → ∃ b off u, A = some ⟨b, off, none⟩ ∧ w.cell? ⟨b, off + k * 2, none⟩ = some (.int .i64 t.1) ∧ w.cell? ⟨b, off + k * 2 + 1, none⟩ = some u ∧ SlR w u t.2
theorem RdP.below {w w' : World} {A : Option Addr} {ts : List (Int × List Int)} (h : RdP w A ts) (hb : Below w.heap.size w w') : RdP w' A ts := fun k t hk => by
  obtain ⟨b, off, u, ha, h1, h2, h3⟩ := h k t hk
  exact ⟨b, off, u, ha, (hb.cell (World.block_lt_of_cell? w _ h1)).trans h1, (hb.cell (World.block_lt_of_cell? w _ h2)).trans h2, h3.below hb⟩

def OkP (q n : Nat) (ts : List (Int × List Int)) : Prop := ts.length ≤ 20000 ∧ ∃ p : List Tm, ts = p.map (fun t => ((t.1 : Int), nz t.2)) ∧ Ris q n p ∧ ∀ t ∈ p, Ex n t.2
/-- The first k terms are as they should be. -/
def PreP (q n : Nat) (ts : List (Int × List Int)) (k : Nat) : Prop := ∃ p : List Tm, ts.take k = p.map (fun t => ((t.1 : Int), nz t.2)) ∧ Ris q n p ∧ ∀ t ∈ p, Ex n t.2
def ContIs (q n : Nat) (ts : List (Int × List Int)) (w : World) (e : Ending) (w' : World) : Prop :=
  Below w.heap.size w w' ∧ (OkP q n ts ∧ e = .returned (.bool true) ∨ ¬ OkP q n ts ∧ e = .returned (.bool false))

abbrev rgO (P M q n : Nat) : Obj := .cells #[.int .i64 (P : Int), .int .i64 (M : Int), .int .i64 (q : Int), .int .i64 (n : Int)] 163
/-- What stands while a round of contains looks at a term. -/
structure CnS (w0 : World) (P M q n tb : Nat) (c : Int) (u : Value) (w : World) : Prop where
  bel : Below (w0.heap.size + 1) (w0.alloc (rgO P M q n)) w
  le : w0.heap.size + 1 ≤ tb
  lt : tb < w.heap.size
  blk : w.heap[tb]? = some (.cells #[.int .i64 c, u] 144 (0, 0))
section
variable {w0 w w1 wr : World} {P M q n tb : Nat} {c : Int} {u : Value}
theorem CnS.start (h : Below (w0.heap.size + 1) (w0.alloc (rgO P M q n)) wr) (c : Int) (u : Value) : CnS w0 P M q n wr.heap.size c u (wr.alloc (.cells #[.int .i64 c, u] 144)) := by
  have hs := h.size
  simp at hs
  exact ⟨h.trans ((Below.refl _ wr).alloc (by omega) _), by omega, by simp, (MapKept.heap_alloc wr _).1⟩
theorem CnS.step (h : CnS w0 P M q n tb c u w) (hB : Below w.heap.size w w1) : CnS w0 P M q n tb c u w1 := by
  have := h.lt
  have := h.le
  exact ⟨h.bel.trans (hB.mono (by omega)), h.le, Nat.lt_of_lt_of_le h.lt hB.size, (hB.block _ h.lt).trans h.blk⟩
theorem CnS.drew (h : CnS w0 P M q n tb c u w) : CnS w0 P M q n tb c u w.drew := ⟨h.bel.drew, h.le, h.lt, h.blk⟩
theorem CnS.below (h : CnS w0 P M q n tb c u w) : Below w0.heap.size w0 w := (below1 _ _).trans (h.bel.mono (Nat.le_succ _))
theorem CnS.old (h : CnS w0 P M q n tb c u w) {p : Addr} {v : Value} (hp : w0.cell? p = some v) : w.cell? p = some v := (h.below.cell (World.block_lt_of_cell? w0 _ hp)).trans hp
theorem CnS.cells (h : CnS w0 P M q n tb c u w) :
    w.cell? ⟨w0.heap.size, 0, none⟩ = some (.int .i64 (P : Int)) ∧ w.cell? ⟨w0.heap.size, 1, none⟩ = some (.int .i64 (M : Int)) ∧ w.cell? ⟨w0.heap.size, 2, none⟩ = some (.int .i64 (q : Int)) ∧ w.cell? ⟨w0.heap.size, 3, none⟩ = some (.int .i64 (n : Int)) ∧
    w.cell? ⟨tb, 0, none⟩ = some (.int .i64 c) ∧ w.cell? ⟨tb, 1, none⟩ = some u := by
  have hr : ∀ j, w.cell? ⟨w0.heap.size, j, none⟩ = (#[.int .i64 (P : Int), .int .i64 (M : Int), .int .i64 (q : Int), .int .i64 (n : Int)] : Array Value)[j]? := fun j =>
    (h.bel.cell (p := ⟨w0.heap.size, j, none⟩) (Nat.lt_succ_self _)).trans (World.cell?_alloc_new _ _ _ _)
  have hb := h.blk
  exact ⟨hr 0, hr 1, hr 2, hr 3, by simp [World.cell?, hb], by simp [World.cell?, hb]⟩
end
theorem term_yes (P M q n : Nat) (c : Int) (sl : Value) (E : List Int) (w : World) (hq : q ≤ 65536) (hn : n ≤ 80) (hE : SlR w sl E) (h : OkT q n c E) :
    Calls Tryz.prog 178 #[rg P M q n, .agg #[.int .i64 c, sl]] w fun e w' => e = .returned (.bool true) ∧ Below w.heap.size w w' :=
  (term_ok P M q n c sl E w hq hn hE).mono fun e w' ⟨hB, h2⟩ => by
    rcases h2 with ⟨_, rfl⟩ | ⟨h3, _⟩
    · exact ⟨rfl, hB⟩
    · exact absurd h h3
theorem term_no (P M q n : Nat) (c : Int) (sl : Value) (E : List Int) (w : World) (hq : q ≤ 65536) (hn : n ≤ 80) (hE : SlR w sl E) (h : ¬ OkT q n c E) :
    Calls Tryz.prog 178 #[rg P M q n, .agg #[.int .i64 c, sl]] w fun e w' => e = .returned (.bool false) ∧ Below w.heap.size w w' :=
  (term_ok P M q n c sl E w hq hn hE).mono fun e w' ⟨hB, h2⟩ => by
    rcases h2 with ⟨h3, _⟩ | ⟨_, rfl⟩
    · exact absurd h3 h
    · exact ⟨rfl, hB⟩

theorem PreP.all {q n : Nat} {ts : List (Int × List Int)} (h : PreP q n ts ts.length) (hl : ts.length ≤ 20000) : OkP q n ts := by
  obtain ⟨p, h1, h2, h3⟩ := h
  rw [List.take_of_length_le (Nat.le_refl _)] at h1
  exact ⟨hl, p, h1, h2, h3⟩
theorem tm_inj : ∀ (p p' : List Tm), p.map (fun t => ((t.1 : Int), nz t.2)) = p'.map (fun t => ((t.1 : Int), nz t.2)) → p = p'
  | [], [], _ => rfl
  | [], _ :: _, h => by simp at h
  | _ :: _, [], h => by simp at h
  | a :: p, b :: p', h => by
    simp only [List.map_cons, List.cons.injEq, Prod.mk.injEq] at h
    have h2 : a.2 = b.2 := by
      have := h.1.2
      simp only [nz] at this
      have e := congrArg (List.map Int.toNat) this
      simpa [List.map_map, Function.comp_def] using e
    have h1 : a.1 = b.1 := by have := h.1.1; omega
    rw [tm_inj p p' h.2, Prod.ext h1 h2]
theorem nz_of {E : List Int} (h : ∀ x ∈ E, 0 ≤ x ∧ x ≤ 65535) : ∃ e : List Nat, E = nz e ∧ ∀ x ∈ e, x ≤ 65535 := by
  refine ⟨E.map Int.toNat, ?_, fun x hx => ?_⟩
  · unfold nz
    rw [List.map_map]
    conv => lhs; rw [← List.map_id E]
    refine List.map_congr_left fun x hx => ?_
    have := (h x hx).1
    simp; omega
  · obtain ⟨y, hy, rfl⟩ := List.mem_map.1 hx
    have := h y hy
    omega
theorem OkT.nat {q n : Nat} {c : Int} {E : List Int} (h : OkT q n c E) : ∃ t : Tm, c = t.1 ∧ E = nz t.2 ∧ 0 < t.1 ∧ t.1 < q ∧ Ex n t.2 := by
  obtain ⟨h1, h2, h3, h4⟩ := h
  obtain ⟨e, rfl, he⟩ := nz_of h4
  exact ⟨(c.toNat, e), by simp; omega, rfl, by simp; omega, by simp; omega, by rw [nz_length] at h3; exact h3, he⟩
theorem OkT.of {q n : Nat} {t : Tm} (h0 : 0 < t.1) (h1 : t.1 < q) (he : Ex n t.2) : OkT q n (t.1 : Int) (nz t.2) := by
  refine ⟨by omega, by omega, by rw [nz_length]; exact he.1, fun x hx => ?_⟩
  obtain ⟨y, hy, rfl⟩ := List.mem_map.1 hx
  have := he.2 y hy
  omega
theorem OkP.term {q n k : Nat} {ts : List (Int × List Int)} {c : Int} {E : List Int} (h : OkP q n ts) (hk : ts[k]? = some (c, E)) : OkT q n c E := by
  obtain ⟨_, p, rfl, h2, h3⟩ := h
  rw [List.getElem?_map] at hk
  obtain ⟨t, ht, e⟩ := Option.map_eq_some_iff.1 hk
  have hm := List.mem_of_getElem? ht
  have := OkT.of (h2.co t hm).1 (h2.co t hm).2 (h3 t hm)
  simp only [Prod.mk.injEq] at e
  rw [e.1, e.2] at this
  exact this
theorem PreP.first {q n : Nat} {ts : List (Int × List Int)} {c : Int} {E : List Int} (hk : ts[0]? = some (c, E)) (h : OkT q n c E) : PreP q n ts 1 := by
  obtain ⟨t, h1, h2, h3, h4, h5⟩ := h.nat
  refine ⟨[t], ?_, ⟨by simp [h3, h4], by simp [h5.1], by simp⟩, by simp [h5]⟩
  rw [List.take_add_one, hk, h1, h2]
  simp
theorem PreP.next {q n k : Nat} {ts : List (Int × List Int)} {c : Int} {E : List Int} (hp : PreP q n ts (k + 1)) (hk : ts[k + 1]? = some (c, E)) (h : OkT q n c E) :
    ∃ s t : Tm, ts[k]? = some ((s.1 : Int), nz s.2) ∧ E = nz t.2 ∧ Ex n s.2 ∧ Ex n t.2 ∧ (cmpL s.2 t.2 < 0 → PreP q n ts (k + 2)) ∧ (¬ cmpL s.2 t.2 < 0 → ¬ OkP q n ts) := by
  obtain ⟨p, h1, h2, h3⟩ := hp
  obtain ⟨t, t1, t2, t3, t4, t5⟩ := h.nat
  have hkl : k + 1 < ts.length := (List.getElem?_eq_some_iff.1 hk).1
  have hpl : p.length = k + 1 := by
    have := congrArg List.length h1
    simp at this
    omega
  have hs : ∃ s, p[k]? = some s := ⟨_, List.getElem?_eq_getElem (by omega)⟩
  obtain ⟨s, hs⟩ := hs
  have hsm := List.mem_of_getElem? hs
  have hsk : ts[k]? = some ((s.1 : Int), nz s.2) := by
    have := congrArg (fun l => l[k]?) h1
    simp only [List.getElem?_map, hs, Option.map_some] at this
    rw [← this, List.getElem?_take]
    simp
  refine ⟨s, t, hsk, t2, h3 s hsm, t5, fun hc => ?_, fun hc hok => hc ?_⟩
  · refine ⟨p ++ [t], ?_, ⟨fun x hx => ?_, fun x hx => ?_, ?_⟩, fun x hx => ?_⟩
    · rw [List.take_add_one, hk, h1, t1, t2]
      simp
    · simp at hx
      rcases hx with hx | rfl
      · exact h2.co x hx
      · exact ⟨t3, t4⟩
    · simp at hx
      rcases hx with hx | rfl
      · exact h2.ex x hx
      · exact t5.1
    · rw [List.pairwise_append]
      refine ⟨h2.up, by simp, fun x hx y hy => ?_⟩
      simp at hy
      subst hy
      obtain ⟨i, hi, rfl⟩ := List.getElem_of_mem hx
      by_cases hik : i = k
      · subst hik
        have : p[i] = s := (List.getElem?_eq_some_iff.1 hs).2
        rw [this]; exact hc
      · have h4 := List.pairwise_iff_getElem.1 h2.up i k hi (by omega) (by omega)
        have : p[k] = s := (List.getElem?_eq_some_iff.1 hs).2
        rw [this] at h4
        exact cmpL_trans _ _ _ h4 hc
    · simp at hx
      rcases hx with hx | rfl
      · exact h3 x hx
      · exact t5
  · obtain ⟨_, p', rfl, h5, _⟩ := hok
    rw [List.getElem?_map] at hk hsk
    obtain ⟨y, hy, e1⟩ := Option.map_eq_some_iff.1 hk
    obtain ⟨x, hx, e2⟩ := Option.map_eq_some_iff.1 hsk
    have h4 := List.pairwise_iff_getElem.1 h5.up k (k + 1) (List.getElem?_eq_some_iff.1 hx).1 (List.getElem?_eq_some_iff.1 hy).1 (by omega)
    rw [(List.getElem?_eq_some_iff.1 hx).2, (List.getElem?_eq_some_iff.1 hy).2] at h4
    have i1 := tm_inj [x] [s] (by simp; simpa using e2)
    have i2 := tm_inj [y] [t] (by simp; rw [t1, t2] at e1; simpa using e1)
    simp at i1 i2
    rw [i1, i2] at h4
    exact h4

set_option maxHeartbeats 4000000 in
theorem cont_ok (P M q n : Nat) (A : Option Addr) (L cp : Nat) (ts : List (Int × List Int)) (w : World) (hq : q ≤ 65536) (hn : n ≤ 80) (hL : ts.length = L) (hm : L ≤ 1152921504606846976) (hr : RdP w A ts) :
    Calls Tryz.prog 154 #[rg P M q n, .slice A L cp] w (ContIs q n ts w) := by
  have HB := Lib.hid (below1 w (rgO P M q n))
  have HR := Lib.hid hr
  have HL := Lib.hid hL
  clear hr hL
  by_cases h0 : 20000 < L
  · go_enter Tryz.func154, Tryz.ntmps154
    go_wp2_with fail
    go_ret
    exact ⟨HB.out, .inr ⟨fun h => by have := h.1; have := HL.out; omega, rfl⟩⟩
  · go_enter Tryz.func154, Tryz.ntmps154
    go_wp2_with fail
    go_loopw [5, 6, 12] (fun _ _ i wr => ∃ k : Nat, k ≤ L ∧ i = .int .i64 k ∧ PreP q n ts k ∧ Below (w.heap.size + 1) (w.alloc (rgO P M q n)) wr) (fun _ _ i _ => L - (intOf i).toNat)
    case atStart => exact ⟨0, by omega, rfl, ⟨[], by simp, Ris.nil q n, by simp⟩, Below.refl _ _⟩
    case round =>
      obtain ⟨k, hk, rfl, hpre, hB⟩ := hrel
      have hBw : Below w.heap.size w wr := HB.out.trans (hB.mono (Nat.le_succ _))
      have HPre := Lib.hid hpre
      have HBB := Lib.hid hB
      have HBW := Lib.hid hBw
      clear hpre hB
      by_cases hlt : k < L
      · obtain ⟨⟨c, E⟩, ht⟩ : ∃ t, ts[k]? = some t := ⟨_, List.getElem?_eq_getElem (by rw [HL.out]; exact hlt)⟩
        obtain ⟨b, off, u, rfl, g1, g2, g3⟩ := HR.out k _ ht
        have k1 := (hBw.cell (World.block_lt_of_cell? w _ g1)).trans g1
        have k2 := (hBw.cell (World.block_lt_of_cell? w _ g2)).trans g2
        have HSL := Lib.hid g3
        obtain ⟨EA, ec, rfl, k4, k5⟩ := g3
        clear hBw g1 g2 k4
        generalize hEl : E.length = el at *
        have HT := Lib.hid ht
        have HEL := Lib.hid hEl
        clear ht hEl
        go_wp2_with fail
        have hst : CnS w P M q n wr.heap.size c (.slice EA el ec) (wr.alloc (.cells #[.int .i64 c, .slice EA el ec] 144)) := CnS.start HBB.out _ _
        have hst' := hst.drew
        have HST := Lib.hid hst'
        obtain ⟨z0, z1, z2, z3, y0, y1⟩ := hst'.cells
        clear k1 k2 hst
        by_cases hok : OkT q n c E
        · cases k with
          | zero =>
            have HOK := Lib.hid hok
            clear hok
            refine wp_region_text (S := (fun W => CnS w P M q n wr.heap.size c (.slice EA el ec) W ∧ W.cell? ⟨w.heap.size, 0, none⟩ = some (.int .i64 (P : Int)) ∧ W.cell? ⟨w.heap.size, 1, none⟩ = some (.int .i64 (M : Int)) ∧ W.cell? ⟨w.heap.size, 2, none⟩ = some (.int .i64 (q : Int)) ∧ W.cell? ⟨w.heap.size, 3, none⟩ = some (.int .i64 (n : Int)) ∧ W.cell? ⟨wr.heap.size, 0, none⟩ = some (.int .i64 c) ∧ W.cell? ⟨wr.heap.size, 1, none⟩ = some (.slice EA el ec))) (by kernel_rfl) (by kernel_rfl) ⟨hst', z0, z1, z2, z3, y0, y1⟩ (b := ?b1) ?text1 ?post1
            case text1 =>
              iterate 2 (refine InText.pure (by rfl) (fun W hw => by (try dsimp only at hw); go_simp; try with_reducible rfl) ?_; simp only [Act.put, List.setIfInBounds_toArray, List.set_cons_zero, List.set_cons_succ])
              refine InText.call (.bool true) (by rfl) (fun W hw => ?_) ?_
              · go_simp
                refine (term_yes P M q n c _ E W hq hn (HSL.out.below hw.1.below) HOK.out).mono ?_
                rintro e wx ⟨rfl, hB⟩
                exact ⟨rfl, hw.1.step hB, (hw.1.step hB).cells⟩
              simp only [Act.put, List.setIfInBounds_toArray, List.set_cons_zero, List.set_cons_succ]
              iterate 5 (refine InText.pure (by rfl) (fun W hw => by (try dsimp only at hw); go_simp; try with_reducible rfl) ?_; simp only [Act.put, List.setIfInBounds_toArray, List.set_cons_zero, List.set_cons_succ])
              iterate 10 (refine InText.skip (by rfl) ?_; simp only [Act.put, List.setIfInBounds_toArray, List.set_cons_zero, List.set_cons_succ])
              iterate 2 (refine InText.pure (by rfl) (fun W hw => by (try dsimp only at hw); go_simp; try with_reducible rfl) ?_; simp only [Act.put, List.setIfInBounds_toArray, List.set_cons_zero, List.set_cons_succ])
              exact InText.done
            case post1 =>
              intro W hS
              have HS := Lib.hid hS.1
              clear hS hst' z0 z1 z2 z3 y0 y1
              go_wp2_with fail
              go_roundw
              case rel => exact ⟨1, by omega, by go_num, PreP.first HT.out HOK.out, HS.out.bel⟩
              case measure => simp [intOf]; omega
          | succ k =>
            obtain ⟨s, t, hs, ht2, he1, he2, hnx, hnn⟩ := HPre.out.next HT.out hok
            have hEn : el = n := by rw [← HEL.out]; exact hok.2.2.1
            subst hEn
            obtain ⟨b', off', u', e', _, g0, g3'⟩ := HR.out k _ hs
            simp only [Option.some.injEq, Addr.mk.injEq, and_true] at e'
            obtain ⟨rfl, rfl⟩ := e'
            obtain ⟨PA, pc, rfl, p4, _⟩ := g3'
            have hsl : (nz s.2).length = el := by rw [nz_length]; exact he1.1
            rw [hsl] at g0
            have hcm : ∀ W, Below w.heap.size w W → Calls Tryz.prog 179 #[.slice PA el pc, .slice EA el ec] W fun e w' => e = .returned (.int .i64 (cmpL s.2 t.2)) ∧ W = w' := fun W hW => by
              obtain ⟨EA', ec', e2, r2, _⟩ := HSL.out.below hW
              simp only [Value.slice.injEq] at e2
              obtain ⟨rfl, _, rfl⟩ := e2
              rw [ht2] at r2
              exact cmpE_ok PA EA pc ec el s.2 t.2 W he1.1 he2.1 hn (p4.below hW) r2
            have HCM := hcm
            have hk2 : k < L := by omega
            have hi1 : IntKind.i64.wrap ((k : Int) + 1 - 1) = (k : Int) := by rw [show ((k : Int) + 1 - 1) = k by omega]; exact IntWalk.i64_in _ (by omega)
            have hi2 : IntKind.i64.wrap (k : Int) = (k : Int) := IntWalk.i64_in _ (by omega)
            have HOK := Lib.hid hok
            have HNX := Lib.hid hnx
            have HNN := Lib.hid hnn
            have G0 := Lib.hid g0
            clear hok hnx hnn g0 hcm hs ht2 p4
            rcases cmpL_range s.2 t.2 with hx | hx | hx
            · rw [hx] at HCM HNX HNN
              replace HCM := Lib.hid HCM
              clear hx
              refine wp_region_text (S := (fun W => CnS w P M q el wr.heap.size c (.slice EA el ec) W ∧ W.cell? ⟨w.heap.size, 0, none⟩ = some (.int .i64 (P : Int)) ∧ W.cell? ⟨w.heap.size, 1, none⟩ = some (.int .i64 (M : Int)) ∧ W.cell? ⟨w.heap.size, 2, none⟩ = some (.int .i64 (q : Int)) ∧ W.cell? ⟨w.heap.size, 3, none⟩ = some (.int .i64 (el : Int)) ∧ W.cell? ⟨wr.heap.size, 0, none⟩ = some (.int .i64 c) ∧ W.cell? ⟨wr.heap.size, 1, none⟩ = some (.slice EA el ec) ∧ W.cell? ⟨b, off + k * 2 + 1, none⟩ = some (.slice PA el pc))) (by kernel_rfl) (by kernel_rfl) ⟨hst', z0, z1, z2, z3, y0, y1, hst'.old G0.out⟩ (b := ?c1) ?textc1 ?postc1
              case textc1 =>
                iterate 2 (refine InText.pure (by rfl) (fun W hw => by (try dsimp only at hw); go_simp; try with_reducible rfl) ?_; simp only [Act.put, List.setIfInBounds_toArray, List.set_cons_zero, List.set_cons_succ])
                refine InText.call (.bool true) (by rfl) (fun W hw => ?_) ?_
                · go_simp
                  refine (term_yes P M q el c _ E W hq hn (HSL.out.below hw.1.below) HOK.out).mono ?_
                  rintro e wx ⟨rfl, hB⟩
                  exact ⟨rfl, hw.1.step hB, by have hc := (hw.1.step hB).cells; exact ⟨hc.1, hc.2.1, hc.2.2.1, hc.2.2.2.1, hc.2.2.2.2.1, hc.2.2.2.2.2, (hw.1.step hB).old G0.out⟩⟩
                simp only [Act.put, List.setIfInBounds_toArray, List.set_cons_zero, List.set_cons_succ]
                iterate 13 (refine InText.pure (by rfl) (fun W hw => by (try dsimp only at hw); go_simp; try with_reducible rfl) ?_; simp only [Act.put, List.setIfInBounds_toArray, List.set_cons_zero, List.set_cons_succ])
                refine InText.call (.int .i64 (-1)) (by rfl) (fun W hw => ?_) ?_
                · go_simp
                  refine (HCM.out W hw.1.below).mono ?_
                  rintro e wx ⟨rfl, rfl⟩
                  exact ⟨rfl, hw⟩
                simp only [Act.put, List.setIfInBounds_toArray, List.set_cons_zero, List.set_cons_succ]
                iterate 3 (refine InText.pure (by rfl) (fun W hw => by (try dsimp only at hw); go_simp; try with_reducible rfl) ?_; simp only [Act.put, List.setIfInBounds_toArray, List.set_cons_zero, List.set_cons_succ])
                exact InText.done
              case postc1 =>
                intro W hS
                have HS := Lib.hid hS.1
                clear hS hst' z0 z1 z2 z3 y0 y1
                go_wp2_with fail
                go_roundw
                case rel => exact ⟨k + 2, by omega, by go_num, HNX.out (by omega), HS.out.bel⟩
                case measure => simp [intOf]; omega
            · rw [hx] at HCM HNX HNN
              replace HCM := Lib.hid HCM
              clear hx
              refine wp_region_text (S := (fun W => CnS w P M q el wr.heap.size c (.slice EA el ec) W ∧ W.cell? ⟨w.heap.size, 0, none⟩ = some (.int .i64 (P : Int)) ∧ W.cell? ⟨w.heap.size, 1, none⟩ = some (.int .i64 (M : Int)) ∧ W.cell? ⟨w.heap.size, 2, none⟩ = some (.int .i64 (q : Int)) ∧ W.cell? ⟨w.heap.size, 3, none⟩ = some (.int .i64 (el : Int)) ∧ W.cell? ⟨wr.heap.size, 0, none⟩ = some (.int .i64 c) ∧ W.cell? ⟨wr.heap.size, 1, none⟩ = some (.slice EA el ec) ∧ W.cell? ⟨b, off + k * 2 + 1, none⟩ = some (.slice PA el pc))) (by kernel_rfl) (by kernel_rfl) ⟨hst', z0, z1, z2, z3, y0, y1, hst'.old G0.out⟩ (b := ?c2) ?textc2 ?postc2
              case textc2 =>
                iterate 2 (refine InText.pure (by rfl) (fun W hw => by (try dsimp only at hw); go_simp; try with_reducible rfl) ?_; simp only [Act.put, List.setIfInBounds_toArray, List.set_cons_zero, List.set_cons_succ])
                refine InText.call (.bool true) (by rfl) (fun W hw => ?_) ?_
                · go_simp
                  refine (term_yes P M q el c _ E W hq hn (HSL.out.below hw.1.below) HOK.out).mono ?_
                  rintro e wx ⟨rfl, hB⟩
                  exact ⟨rfl, hw.1.step hB, by have hc := (hw.1.step hB).cells; exact ⟨hc.1, hc.2.1, hc.2.2.1, hc.2.2.2.1, hc.2.2.2.2.1, hc.2.2.2.2.2, (hw.1.step hB).old G0.out⟩⟩
                simp only [Act.put, List.setIfInBounds_toArray, List.set_cons_zero, List.set_cons_succ]
                iterate 13 (refine InText.pure (by rfl) (fun W hw => by (try dsimp only at hw); go_simp; try with_reducible rfl) ?_; simp only [Act.put, List.setIfInBounds_toArray, List.set_cons_zero, List.set_cons_succ])
                refine InText.call (.int .i64 (0)) (by rfl) (fun W hw => ?_) ?_
                · go_simp
                  refine (HCM.out W hw.1.below).mono ?_
                  rintro e wx ⟨rfl, rfl⟩
                  exact ⟨rfl, hw⟩
                simp only [Act.put, List.setIfInBounds_toArray, List.set_cons_zero, List.set_cons_succ]
                iterate 3 (refine InText.pure (by rfl) (fun W hw => by (try dsimp only at hw); go_simp; try with_reducible rfl) ?_; simp only [Act.put, List.setIfInBounds_toArray, List.set_cons_zero, List.set_cons_succ])
                exact InText.done
              case postc2 =>
                intro W hS
                have HS := Lib.hid hS.1
                clear hS hst' z0 z1 z2 z3 y0 y1
                go_wp2_with fail
                go_ret
                exact ⟨HS.out.below, .inr ⟨HNN.out (by omega), rfl⟩⟩
            · rw [hx] at HCM HNX HNN
              replace HCM := Lib.hid HCM
              clear hx
              refine wp_region_text (S := (fun W => CnS w P M q el wr.heap.size c (.slice EA el ec) W ∧ W.cell? ⟨w.heap.size, 0, none⟩ = some (.int .i64 (P : Int)) ∧ W.cell? ⟨w.heap.size, 1, none⟩ = some (.int .i64 (M : Int)) ∧ W.cell? ⟨w.heap.size, 2, none⟩ = some (.int .i64 (q : Int)) ∧ W.cell? ⟨w.heap.size, 3, none⟩ = some (.int .i64 (el : Int)) ∧ W.cell? ⟨wr.heap.size, 0, none⟩ = some (.int .i64 c) ∧ W.cell? ⟨wr.heap.size, 1, none⟩ = some (.slice EA el ec) ∧ W.cell? ⟨b, off + k * 2 + 1, none⟩ = some (.slice PA el pc))) (by kernel_rfl) (by kernel_rfl) ⟨hst', z0, z1, z2, z3, y0, y1, hst'.old G0.out⟩ (b := ?c3) ?textc3 ?postc3
              case textc3 =>
                iterate 2 (refine InText.pure (by rfl) (fun W hw => by (try dsimp only at hw); go_simp; try with_reducible rfl) ?_; simp only [Act.put, List.setIfInBounds_toArray, List.set_cons_zero, List.set_cons_succ])
                refine InText.call (.bool true) (by rfl) (fun W hw => ?_) ?_
                · go_simp
                  refine (term_yes P M q el c _ E W hq hn (HSL.out.below hw.1.below) HOK.out).mono ?_
                  rintro e wx ⟨rfl, hB⟩
                  exact ⟨rfl, hw.1.step hB, by have hc := (hw.1.step hB).cells; exact ⟨hc.1, hc.2.1, hc.2.2.1, hc.2.2.2.1, hc.2.2.2.2.1, hc.2.2.2.2.2, (hw.1.step hB).old G0.out⟩⟩
                simp only [Act.put, List.setIfInBounds_toArray, List.set_cons_zero, List.set_cons_succ]
                iterate 13 (refine InText.pure (by rfl) (fun W hw => by (try dsimp only at hw); go_simp; try with_reducible rfl) ?_; simp only [Act.put, List.setIfInBounds_toArray, List.set_cons_zero, List.set_cons_succ])
                refine InText.call (.int .i64 (1)) (by rfl) (fun W hw => ?_) ?_
                · go_simp
                  refine (HCM.out W hw.1.below).mono ?_
                  rintro e wx ⟨rfl, rfl⟩
                  exact ⟨rfl, hw⟩
                simp only [Act.put, List.setIfInBounds_toArray, List.set_cons_zero, List.set_cons_succ]
                iterate 3 (refine InText.pure (by rfl) (fun W hw => by (try dsimp only at hw); go_simp; try with_reducible rfl) ?_; simp only [Act.put, List.setIfInBounds_toArray, List.set_cons_zero, List.set_cons_succ])
                exact InText.done
              case postc3 =>
                intro W hS
                have HS := Lib.hid hS.1
                clear hS hst' z0 z1 z2 z3 y0 y1
                go_wp2_with fail
                go_ret
                exact ⟨HS.out.below, .inr ⟨HNN.out (by omega), rfl⟩⟩
        · have HNO := Lib.hid hok
          clear hok
          refine wp_region_text (S := (fun W => CnS w P M q n wr.heap.size c (.slice EA el ec) W ∧ W.cell? ⟨w.heap.size, 0, none⟩ = some (.int .i64 (P : Int)) ∧ W.cell? ⟨w.heap.size, 1, none⟩ = some (.int .i64 (M : Int)) ∧ W.cell? ⟨w.heap.size, 2, none⟩ = some (.int .i64 (q : Int)) ∧ W.cell? ⟨w.heap.size, 3, none⟩ = some (.int .i64 (n : Int)) ∧ W.cell? ⟨wr.heap.size, 0, none⟩ = some (.int .i64 c) ∧ W.cell? ⟨wr.heap.size, 1, none⟩ = some (.slice EA el ec))) (by kernel_rfl) (by kernel_rfl) ⟨hst', z0, z1, z2, z3, y0, y1⟩ (b := ?b2) ?text2 ?post2
          case text2 =>
            iterate 2 (refine InText.pure (by rfl) (fun W hw => by (try dsimp only at hw); go_simp; try with_reducible rfl) ?_; simp only [Act.put, List.setIfInBounds_toArray, List.set_cons_zero, List.set_cons_succ])
            refine InText.call (.bool false) (by rfl) (fun W hw => ?_) ?_
            · go_simp
              refine (term_no P M q n c _ E W hq hn (HSL.out.below hw.1.below) HNO.out).mono ?_
              rintro e wx ⟨rfl, hB⟩
              exact ⟨rfl, hw.1.step hB, (hw.1.step hB).cells⟩
            simp only [Act.put, List.setIfInBounds_toArray, List.set_cons_zero, List.set_cons_succ]
            iterate 2 (refine InText.pure (by rfl) (fun W hw => by (try dsimp only at hw); go_simp; try with_reducible rfl) ?_; simp only [Act.put, List.setIfInBounds_toArray, List.set_cons_zero, List.set_cons_succ])
            iterate 14 (refine InText.skip (by rfl) ?_; simp only [Act.put, List.setIfInBounds_toArray, List.set_cons_zero, List.set_cons_succ])
            refine InText.pure (by rfl) (fun W hw => by (try dsimp only at hw); go_simp; try with_reducible rfl) ?_; simp only [Act.put, List.setIfInBounds_toArray, List.set_cons_zero, List.set_cons_succ]
            exact InText.done
          case post2 =>
            intro W hS
            have HS := Lib.hid hS.1
            clear hS hst' z0 z1 z2 z3 y0 y1
            go_wp2_with fail
            go_ret
            exact ⟨HS.out.below, .inr ⟨fun h => HNO.out (h.term HT.out), rfl⟩⟩
      · have hkl : k = ts.length := by rw [HL.out]; omega
        have HP2 := Lib.hid (hkl ▸ HPre.out : PreP q n ts ts.length)
        clear hkl
        go_wp2_with fail
        go_ret
        exact ⟨HBW.out, .inl ⟨HP2.out.all (by rw [HL.out]; omega), rfl⟩⟩
end Go.Proofs.YtopbfgkfpgnalaaGreatDoor
namespace Go.Proofs.YtopbfgkfpgnalaaGreatDoor
set_option linter.unusedVariables false
open Go.RowKit

def zeroRing : Value := .agg #[.int .i64 0, .int .i64 0, .int .i64 0, .int .i64 0]
/-- The list of polynomials that open is handed. -/
def RdPs (w : World) (A : Option Addr) (ps : List (List (Int × List Int))) : Prop :=
  ∀ k p, ps[k]? = some p → ∃ b off A' c, A = some ⟨b, off, none⟩ ∧ w.cell? ⟨b, off + k, none⟩ = some (.slice A' p.length c) ∧ RdP w A' p ∧ p.length ≤ 1152921504606846976
theorem RdPs.below {w w' : World} {A : Option Addr} {ps : List (List (Int × List Int))} (h : RdPs w A ps) (hb : Below w.heap.size w w') : RdPs w' A ps := fun k t hk => by
  obtain ⟨b, off, A', c, ha, h1, h2, h3⟩ := h k t hk
  exact ⟨b, off, A', c, ha, (hb.cell (World.block_lt_of_cell? w _ h1)).trans h1, h2.below hb, h3⟩

theorem ord_any (P M : Int) (w : World) (hL : Lays w) : ∃ ov : Int, (∀ W, Below w.heap.size w W → Calls Tryz.prog 90 #[.agg #[.int .i64 P, .int .i64 M]] W fun e w' => e = .returned (.int .i64 ov) ∧ Below W.heap.size W w') ∧
    ((¬ OkF P M ∧ ov = 0) ∨ ∃ P' M' q : Nat, P = P' ∧ M = M' ∧ ov = q ∧ Fld P' M' q) := by
  by_cases h : OkF P M
  · obtain ⟨P', M', q, rfl, rfl, hf⟩ := h.fld
    exact ⟨q, fun W hW => Order_ok P' M' q hf W (hL.below hW), .inr ⟨P', M', q, rfl, rfl, rfl, hf⟩⟩
  · exact ⟨0, fun W hW => Order_form P M h W (hL.below hW), .inl ⟨h, rfl⟩⟩
theorem below_two {w : World} (o o' : Obj) {wx : World} (h : Below (w.heap.size + 2) ((w.alloc o).alloc o') wx) : Below w.heap.size w wx :=
  (below2 w o o').trans (h.mono (by omega))

set_option maxRecDepth 100000 in
set_option maxHeartbeats 2000000 in
theorem open_bad (P M ov n : Int) (v : Value) (w : World) (hov : 0 ≤ ov ∧ ov ≤ 65536) (hO : ∀ W, Below w.heap.size w W → Calls Tryz.prog 90 #[.agg #[.int .i64 P, .int .i64 M]] W fun e w' => e = .returned (.int .i64 ov) ∧ Below W.heap.size W w')
    (h : ov = 0 ∨ n < 0 ∨ 80 < n) (hn0 : -9223372036854775808 ≤ n) (hn1 : n ≤ 9223372036854775807) :
    Calls Tryz.prog 114 #[.agg #[.int .i64 P, .int .i64 M], .int .i64 n, v] w fun e w' => e = .returned (.tuple #[zeroRing, .int .i64 1]) ∧ Below w.heap.size w w' := by
  have HO := Lib.hid hO
  have HN := Lib.hid h
  clear hO h
  go_enter Tryz.func114, Tryz.ntmps114
  go_upto_region 1 with fail
  go_cut [8] (fun s8 wx => ∃ g : Nat, s8 = .pointer (some ⟨g, 0, none⟩) ∧ w.heap.size + 1 < g ∧ g < wx.heap.size ∧ Below (w.heap.size + 2) ((w.alloc (.cells #[.int .i64 P, .int .i64 M] 49)).alloc (.cells #[.int .i64 0, .int .i64 0, .int .i64 0, .int .i64 0] 163)) wx ∧
    wx.cell? ⟨g, 0, none⟩ = some (.int .i64 P) ∧ wx.cell? ⟨g, 1, none⟩ = some (.int .i64 M) ∧ wx.cell? ⟨g, 2, none⟩ = some (.int .i64 ov) ∧ wx.cell? ⟨g, 3, none⟩ = some (.int .i64 n))
  case first =>
    go_region_held3 (fun w' => w'.cell? ⟨w.heap.size, 0, none⟩ = some (.int .i64 P) ∧ w'.cell? ⟨w.heap.size, 1, none⟩ = some (.int .i64 M)) (first | go_keep | exact ⟨cell_set4 _ _ _ _ hc0 (by omega), cell_set4 _ _ _ _ hc1 (by omega)⟩)
      ((go_at_call 90; refine (HO.out _ (by first | exact (below2 w _ _).drew | exact ((below2 w _ _).alloc (by simp; omega) _).drew | exact (below2 w _ _).drew.alloc (by simp; omega) _)).mono ?_; rintro e w1 ⟨rfl, hB⟩; have hc0 := hB.cell (p := ⟨w.heap.size, 0, none⟩) (by simp; omega); have hc1 := hB.cell (p := ⟨w.heap.size, 1, none⟩) (by simp; omega); simp [cell_a3] at hc0 hc1; have k0 := @Below.cell _ _ _ hB ⟨w.heap.size + 2, 0, none⟩; try simp [cell_a3n] at k0; have k1 := @Below.cell _ _ _ hB ⟨w.heap.size + 2, 1, none⟩; try simp [cell_a3n] at k1; have k2 := @Below.cell _ _ _ hB ⟨w.heap.size + 2, 2, none⟩; try simp [cell_a3n] at k2; have k3 := @Below.cell _ _ _ hB ⟨w.heap.size + 2, 3, none⟩; try simp [cell_a3n] at k3; have f0 := @Below.frozen _ _ _ hB ⟨w.heap.size + 2, 0, none⟩; try simp [froz_a3n] at f0; have f1 := @Below.frozen _ _ _ hB ⟨w.heap.size + 2, 1, none⟩; try simp [froz_a3n] at f1; have f2 := @Below.frozen _ _ _ hB ⟨w.heap.size + 2, 2, none⟩; try simp [froz_a3n] at f2; have f3 := @Below.frozen _ _ _ hB ⟨w.heap.size + 2, 3, none⟩; try simp [froz_a3n] at f3))
    · go_wp2_with fail
      go_meet
      have hsz := hB.size
      simp at hsz
      refine ⟨w1.heap.size, rfl, by omega, by simp, ((below_undrew hB).mono (by simp)).alloc (by omega) _, by simp, by simp, by simp, by simp⟩
    · go_wp2_with fail
      go_meet
      have hsz := hB.size
      simp at hsz
      have hc := set4_at (.int .i64 P) (.int .i64 M) (.int .i64 ov) (.int .i64 n) k0 k1 k2 k3
      refine ⟨w.heap.size + 2, rfl, by omega, ?_, ?_, hc.1, hc.2.1, hc.2.2.1, hc.2.2.2⟩
      · show w.heap.size + 2 < (set4 w1 _ _ _ _ _).heap.size
        simp [set4]; omega
      · refine set4_below ?_ (Nat.le_refl _) _ _ _ _
        first | exact ((Below.refl _ _).drew.alloc (by simp) _).trans (hB.mono (by simp)) | exact ((Below.refl _ _).alloc (by simp) _).drew.trans (hB.mono (by simp))
  case rest =>
    obtain ⟨g, rfl, hg, hg2, hB, h0, h1, h2, h3⟩ := hcut
    have hb2 : wc.cell? ⟨w.heap.size + 1, 0, none⟩ = some (.int .i64 0) := (hB.cell (by simp)).trans (by simp)
    have hb3 : wc.cell? ⟨w.heap.size + 1, 1, none⟩ = some (.int .i64 0) := (hB.cell (by simp)).trans (by simp)
    have hb4 : wc.cell? ⟨w.heap.size + 1, 2, none⟩ = some (.int .i64 0) := (hB.cell (by simp)).trans (by simp)
    have hb5 : wc.cell? ⟨w.heap.size + 1, 3, none⟩ = some (.int .i64 0) := (hB.cell (by simp)).trans (by simp)
    have hz2 : wc.frozen? ⟨w.heap.size + 1, 0, none⟩ = false := (hB.frozen (by simp)).trans (by simp)
    have hz3 : wc.frozen? ⟨w.heap.size + 1, 1, none⟩ = false := (hB.frozen (by simp)).trans (by simp)
    have hz4 : wc.frozen? ⟨w.heap.size + 1, 2, none⟩ = false := (hB.frozen (by simp)).trans (by simp)
    have hz5 : wc.frozen? ⟨w.heap.size + 1, 3, none⟩ = false := (hB.frozen (by simp)).trans (by simp)
    have HB := Lib.hid hB
    clear hB
    by_cases x0 : ov = 0
    · subst x0
      go_wp2_with fail
      have hc := set4_at (w := wc) (.int .i64 0) (.int .i64 0) (.int .i64 0) (.int .i64 0) hb2 hb3 hb4 hb5
      have hbel : Below w.heap.size w (set4 wc (w.heap.size + 1) (.int .i64 0) (.int .i64 0) (.int .i64 0) (.int .i64 0)) := set4_below (below_two _ _ HB.out) (by omega) _ _ _ _
      unfold set4 at hc hbel
      generalize hW : ((((wc.setCell _ _).setCell _ _).setCell _ _).setCell _ _) = W at hc hbel ⊢
      obtain ⟨c0, c1, c2, c3⟩ := hc
      clear hW
      exact bodyPost_ret (v := .tuple #[.agg #[.int .i64 0, .int .i64 0, .int .i64 0, .int .i64 0], .int .i64 1]) (by simp [results, Tryz.results114, go_sem, c0, c1, c2, c3]) rfl ⟨rfl, hbel⟩
    · have x1 : ((ov : Int) == 0) = false := by simpa using x0
      by_cases x2 : n < 0
      · go_wp2_with fail
        have hc := set4_at (w := wc) (.int .i64 0) (.int .i64 0) (.int .i64 0) (.int .i64 0) hb2 hb3 hb4 hb5
        have hbel : Below w.heap.size w (set4 wc (w.heap.size + 1) (.int .i64 0) (.int .i64 0) (.int .i64 0) (.int .i64 0)) := set4_below (below_two _ _ HB.out) (by omega) _ _ _ _
        unfold set4 at hc hbel
        generalize hW : ((((wc.setCell _ _).setCell _ _).setCell _ _).setCell _ _) = W at hc hbel ⊢
        obtain ⟨c0, c1, c2, c3⟩ := hc
        clear hW
        exact bodyPost_ret (v := .tuple #[.agg #[.int .i64 0, .int .i64 0, .int .i64 0, .int .i64 0], .int .i64 1]) (by simp [results, Tryz.results114, go_sem, c0, c1, c2, c3]) rfl ⟨rfl, hbel⟩
      · have x3 : 80 < n := by rcases HN.out with h | h | h <;> omega
        go_wp2_with fail
        have hc := set4_at (w := wc) (.int .i64 0) (.int .i64 0) (.int .i64 0) (.int .i64 0) hb2 hb3 hb4 hb5
        have hbel : Below w.heap.size w (set4 wc (w.heap.size + 1) (.int .i64 0) (.int .i64 0) (.int .i64 0) (.int .i64 0)) := set4_below (below_two _ _ HB.out) (by omega) _ _ _ _
        unfold set4 at hc hbel
        generalize hW : ((((wc.setCell _ _).setCell _ _).setCell _ _).setCell _ _) = W at hc hbel ⊢
        obtain ⟨c0, c1, c2, c3⟩ := hc
        clear hW
        exact bodyPost_ret (v := .tuple #[.agg #[.int .i64 0, .int .i64 0, .int .i64 0, .int .i64 0], .int .i64 1]) (by simp [results, Tryz.results114, go_sem, c0, c1, c2, c3]) rfl ⟨rfl, hbel⟩

def OpenPs (P M q n : Nat) (ps : List (List (Int × List Int))) (w : World) (e : Ending) (w' : World) : Prop :=
  Below w.heap.size w w' ∧ ((∀ p ∈ ps, OkP q n p) ∧ e = .returned (.tuple #[rg P M q n, .int .i64 0]) ∨ (¬ ∀ p ∈ ps, OkP q n p) ∧ e = .returned (.tuple #[zeroRing, .int .i64 1]))

set_option maxRecDepth 100000 in
set_option maxHeartbeats 4000000 in
theorem open_good (P M q n : Nat) (hf : Fld P M q) (hn : n ≤ 80) (A : Option Addr) (m c : Nat) (ps : List (List (Int × List Int))) (w : World) (hL : Lays w) (hm : ps.length = m) (hm2 : m ≤ 1152921504606846976) (hr : RdPs w A ps) :
    Calls Tryz.prog 114 #[.agg #[.int .i64 (P : Int), .int .i64 (M : Int)], .int .i64 (n : Int), .slice A m c] w (OpenPs P M q n ps w) := by
  have HO := Lib.hid (fun W (hW : Below w.heap.size w W) => Order_ok P M q hf W (hL.below hW))
  have HR := Lib.hid hr
  have HM := Lib.hid hm
  have hq2 := hf.q_ge
  have hq3 := hf.q_le
  clear hr hm hL
  go_enter Tryz.func114, Tryz.ntmps114
  go_upto_region 1 with fail
  go_cut [8] (fun s8 wx => ∃ g : Nat, s8 = .pointer (some ⟨g, 0, none⟩) ∧ w.heap.size + 1 < g ∧ g < wx.heap.size ∧ Below (w.heap.size + 2) ((w.alloc (.cells #[.int .i64 (P : Int), .int .i64 (M : Int)] 49)).alloc (.cells #[.int .i64 0, .int .i64 0, .int .i64 0, .int .i64 0] 163)) wx ∧
    wx.cell? ⟨g, 0, none⟩ = some (.int .i64 (P : Int)) ∧ wx.cell? ⟨g, 1, none⟩ = some (.int .i64 (M : Int)) ∧ wx.cell? ⟨g, 2, none⟩ = some (.int .i64 (q : Int)) ∧ wx.cell? ⟨g, 3, none⟩ = some (.int .i64 (n : Int)))
  case first =>
    go_region_held3 (fun w' => w'.cell? ⟨w.heap.size, 0, none⟩ = some (.int .i64 (P : Int)) ∧ w'.cell? ⟨w.heap.size, 1, none⟩ = some (.int .i64 (M : Int))) (first | go_keep | exact ⟨cell_set4 _ _ _ _ hc0 (by omega), cell_set4 _ _ _ _ hc1 (by omega)⟩)
      ((go_at_call 90; refine (HO.out _ (by first | exact (below2 w _ _).drew | exact ((below2 w _ _).alloc (by simp; omega) _).drew | exact (below2 w _ _).drew.alloc (by simp; omega) _)).mono ?_; rintro e w1 ⟨rfl, hB⟩; have hc0 := hB.cell (p := ⟨w.heap.size, 0, none⟩) (by simp; omega); have hc1 := hB.cell (p := ⟨w.heap.size, 1, none⟩) (by simp; omega); simp [cell_a3] at hc0 hc1; have k0 := @Below.cell _ _ _ hB ⟨w.heap.size + 2, 0, none⟩; try simp [cell_a3n] at k0; have k1 := @Below.cell _ _ _ hB ⟨w.heap.size + 2, 1, none⟩; try simp [cell_a3n] at k1; have k2 := @Below.cell _ _ _ hB ⟨w.heap.size + 2, 2, none⟩; try simp [cell_a3n] at k2; have k3 := @Below.cell _ _ _ hB ⟨w.heap.size + 2, 3, none⟩; try simp [cell_a3n] at k3; have f0 := @Below.frozen _ _ _ hB ⟨w.heap.size + 2, 0, none⟩; try simp [froz_a3n] at f0; have f1 := @Below.frozen _ _ _ hB ⟨w.heap.size + 2, 1, none⟩; try simp [froz_a3n] at f1; have f2 := @Below.frozen _ _ _ hB ⟨w.heap.size + 2, 2, none⟩; try simp [froz_a3n] at f2; have f3 := @Below.frozen _ _ _ hB ⟨w.heap.size + 2, 3, none⟩; try simp [froz_a3n] at f3))
    · go_wp2_with fail
      go_meet
      have hsz := hB.size
      simp at hsz
      refine ⟨w1.heap.size, rfl, by omega, by simp, ((below_undrew hB).mono (by simp)).alloc (by omega) _, by simp, by simp, by simp, by simp⟩
    · go_wp2_with fail
      go_meet
      have hsz := hB.size
      simp at hsz
      have hc := set4_at (.int .i64 (P : Int)) (.int .i64 (M : Int)) (.int .i64 (q : Int)) (.int .i64 (n : Int)) k0 k1 k2 k3
      refine ⟨w.heap.size + 2, rfl, by omega, ?_, ?_, hc.1, hc.2.1, hc.2.2.1, hc.2.2.2⟩
      · show w.heap.size + 2 < (set4 w1 _ _ _ _ _).heap.size
        simp [set4]; omega
      · refine set4_below ?_ (Nat.le_refl _) _ _ _ _
        first | exact ((Below.refl _ _).drew.alloc (by simp) _).trans (hB.mono (by simp)) | exact ((Below.refl _ _).alloc (by simp) _).drew.trans (hB.mono (by simp))
  case rest =>
    obtain ⟨g, rfl, hg, hg2, hB, h0, h1, h2, h3⟩ := hcut
    have hb2 : wc.cell? ⟨w.heap.size + 1, 0, none⟩ = some (.int .i64 0) := (hB.cell (by simp)).trans (by simp)
    have hb3 : wc.cell? ⟨w.heap.size + 1, 1, none⟩ = some (.int .i64 0) := (hB.cell (by simp)).trans (by simp)
    have hb4 : wc.cell? ⟨w.heap.size + 1, 2, none⟩ = some (.int .i64 0) := (hB.cell (by simp)).trans (by simp)
    have hb5 : wc.cell? ⟨w.heap.size + 1, 3, none⟩ = some (.int .i64 0) := (hB.cell (by simp)).trans (by simp)
    have hz2 : wc.frozen? ⟨w.heap.size + 1, 0, none⟩ = false := (hB.frozen (by simp)).trans (by simp)
    have hz3 : wc.frozen? ⟨w.heap.size + 1, 1, none⟩ = false := (hB.frozen (by simp)).trans (by simp)
    have hz4 : wc.frozen? ⟨w.heap.size + 1, 2, none⟩ = false := (hB.frozen (by simp)).trans (by simp)
    have hz5 : wc.frozen? ⟨w.heap.size + 1, 3, none⟩ = false := (hB.frozen (by simp)).trans (by simp)
    have HB := Lib.hid hB
    have x1 : ((q : Int) == 0) = false := by simp; omega
    clear hB
    go_wp2_with fail
    go_loopw [10, 30] (fun _ i wr => ∃ k : Nat, k ≤ m ∧ i = .int .i64 k ∧ (∀ p ∈ ps.take k, OkP q n p) ∧ Below wc.heap.size wc wr) (fun _ i _ => m - (intOf i).toNat)
    case atStart => exact ⟨0, by omega, rfl, by simp, Below.refl _ _⟩
    case round =>
      obtain ⟨k, hk, rfl, hall, hB⟩ := hrel
      have hcz : w.heap.size + 1 < wc.heap.size := by omega
      have k0 := (hB.cell (p := ⟨g, 0, none⟩) hg2).trans h0
      have k1 := (hB.cell (p := ⟨g, 1, none⟩) hg2).trans h1
      have k2 := (hB.cell (p := ⟨g, 2, none⟩) hg2).trans h2
      have k3 := (hB.cell (p := ⟨g, 3, none⟩) hg2).trans h3
      have HA := Lib.hid hall
      have HBB := Lib.hid hB
      clear hall hB h0 h1 h2 h3
      replace hb2 := (HBB.out.cell (p := ⟨w.heap.size + 1, 0, none⟩) hcz).trans hb2
      replace hb3 := (HBB.out.cell (p := ⟨w.heap.size + 1, 1, none⟩) hcz).trans hb3
      replace hb4 := (HBB.out.cell (p := ⟨w.heap.size + 1, 2, none⟩) hcz).trans hb4
      replace hb5 := (HBB.out.cell (p := ⟨w.heap.size + 1, 3, none⟩) hcz).trans hb5
      replace hz2 := (HBB.out.frozen (p := ⟨w.heap.size + 1, 0, none⟩) hcz).trans hz2
      replace hz3 := (HBB.out.frozen (p := ⟨w.heap.size + 1, 1, none⟩) hcz).trans hz3
      replace hz4 := (HBB.out.frozen (p := ⟨w.heap.size + 1, 2, none⟩) hcz).trans hz4
      replace hz5 := (HBB.out.frozen (p := ⟨w.heap.size + 1, 3, none⟩) hcz).trans hz5
      have HBW := Lib.hid ((below_two _ _ HB.out).trans (HBB.out.mono (by omega)) : Below w.heap.size w wr)
      by_cases hlt : k < m
      · obtain ⟨p, hp⟩ : ∃ p, ps[k]? = some p := ⟨_, List.getElem?_eq_getElem (by rw [HM.out]; exact hlt)⟩
        obtain ⟨b, off, A', c', rfl, g1, g2, g3⟩ := HR.out.below HBW.out k p hp
        have HC := Lib.hid (cont_ok P M q n A' _ c' p wr hf.q_le hn rfl g3 g2)
        have HP := Lib.hid hp
        clear g2 hp
        generalize p.length = pl at *
        go_wp2_with fail
        refine HC.out.mono ?_
        rintro e w1 ⟨hB1, hC⟩
        have hlw : w.heap.size + 1 < wr.heap.size := by have := HBB.out.size; omega
        rcases hC with ⟨hok, rfl⟩ | ⟨hok, rfl⟩
        · have HOK := Lib.hid hok
          have HB1 := Lib.hid (HBB.out.trans (hB1.mono HBB.out.size))
          clear hok hB1 k0 k1 k2 k3 hb2 hb3 hb4 hb5 hz2 hz3 hz4 hz5 g1
          go_wp2_with fail
          go_roundw
          case rel => exact ⟨k + 1, by omega, by go_num, fun x hx => by
            rw [List.take_add_one, HP.out] at hx
            simp at hx
            rcases hx with hx | rfl
            · exact HA.out x hx
            · exact HOK.out, HB1.out⟩
          case measure => simp [intOf]; omega
        · have HNO := Lib.hid (fun h : (∀ p ∈ ps, OkP q n p) => hok (h p (List.mem_of_getElem? HP.out)))
          have HB1 := Lib.hid (HBW.out.trans (hB1.mono HBW.out.size))
          replace hb2 := (hB1.cell (p := ⟨w.heap.size + 1, 0, none⟩) hlw).trans hb2
          replace hb3 := (hB1.cell (p := ⟨w.heap.size + 1, 1, none⟩) hlw).trans hb3
          replace hb4 := (hB1.cell (p := ⟨w.heap.size + 1, 2, none⟩) hlw).trans hb4
          replace hb5 := (hB1.cell (p := ⟨w.heap.size + 1, 3, none⟩) hlw).trans hb5
          replace hz2 := (hB1.frozen (p := ⟨w.heap.size + 1, 0, none⟩) hlw).trans hz2
          replace hz3 := (hB1.frozen (p := ⟨w.heap.size + 1, 1, none⟩) hlw).trans hz3
          replace hz4 := (hB1.frozen (p := ⟨w.heap.size + 1, 2, none⟩) hlw).trans hz4
          replace hz5 := (hB1.frozen (p := ⟨w.heap.size + 1, 3, none⟩) hlw).trans hz5
          clear hok hB1 k0 k1 k2 k3 g1
          go_wp2_with fail
          have hc := set4_at (w := w1) (.int .i64 0) (.int .i64 0) (.int .i64 0) (.int .i64 0) hb2 hb3 hb4 hb5
          have hbel : Below w.heap.size w (set4 w1 (w.heap.size + 1) (.int .i64 0) (.int .i64 0) (.int .i64 0) (.int .i64 0)) := set4_below (HB1.out) (by omega) _ _ _ _
          unfold set4 at hc hbel
          generalize hW : ((((w1.setCell _ _).setCell _ _).setCell _ _).setCell _ _) = W at hc hbel ⊢
          obtain ⟨c0, c1, c2, c3⟩ := hc
          clear hW
          exact bodyPost_ret (v := .tuple #[.agg #[.int .i64 0, .int .i64 0, .int .i64 0, .int .i64 0], .int .i64 1]) (by simp [results, Tryz.results114, go_sem, c0, c1, c2, c3]) rfl ⟨hbel, .inr ⟨HNO.out, rfl⟩⟩
      · have hkm : k = ps.length := by rw [HM.out]; omega
        have HALL := Lib.hid (fun p (hp : p ∈ ps) => HA.out p (by rw [hkm, List.take_of_length_le (Nat.le_refl _)]; exact hp))
        clear hkm
        go_wp2_with fail
        have hc := set4_at (w := wr) (.int .i64 (P : Int)) (.int .i64 (M : Int)) (.int .i64 (q : Int)) (.int .i64 (n : Int)) hb2 hb3 hb4 hb5
        have hbel : Below w.heap.size w (set4 wr (w.heap.size + 1) (.int .i64 (P : Int)) (.int .i64 (M : Int)) (.int .i64 (q : Int)) (.int .i64 (n : Int))) := set4_below (HBW.out) (by omega) _ _ _ _
        unfold set4 at hc hbel
        generalize hW : ((((wr.setCell _ _).setCell _ _).setCell _ _).setCell _ _) = W at hc hbel ⊢
        obtain ⟨c0, c1, c2, c3⟩ := hc
        clear hW
        exact bodyPost_ret (v := .tuple #[.agg #[.int .i64 (P : Int), .int .i64 (M : Int), .int .i64 (q : Int), .int .i64 (n : Int)], .int .i64 0]) (by simp [results, Tryz.results114, go_sem, c0, c1, c2, c3]) rfl ⟨hbel, .inl ⟨HALL.out, rfl⟩⟩
end Go.Proofs.YtopbfgkfpgnalaaGreatDoor
