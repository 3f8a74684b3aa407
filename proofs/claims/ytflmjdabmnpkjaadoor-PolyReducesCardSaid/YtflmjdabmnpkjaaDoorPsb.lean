/-
  Joined from Psb: see there.
-/
import Derived.Test.YtflmjdabmnpkjaaDoorPsa
namespace Go.Proofs.YtflmjdabmnpkjaaDoor
set_option linter.unusedVariables false
open Go.RowKit Go.Maps

/-- Exponents in a block of the call's own. -/
def EB (W : World) (u : Value) (e : List Nat) : Prop := (e = [] ∧ ∃ A c, u = .slice A 0 c) ∨ ∃ (ge cap : Nat) (cs : Array Value), u = .slice (some ⟨ge, 0, none⟩) e.length cap ∧ W.heap[ge]? = some (.cells cs 3 (0, 0)) ∧ ∀ (k x : Nat), e[k]? = some x → cs[k]? = some (Value.int .i64 (x : Int))
/-- Nothing but rows of polynomials has turned. -/
def KeepP (w w' : World) : Prop := ∀ (b : Nat) (o : Obj), w.heap[b]? = some o → (∀ cs : Array Value, o ≠ .cells cs 25 (0, 0)) → w'.heap[b]? = some o
theorem KeepP.of_below {w w' : World} (h : Below w.heap.size w w') : KeepP w w' := fun b o ho _ => (h.block b (Array.getElem?_eq_some_iff.1 ho).1).trans ho
theorem KeepP.trans {a b c : World} (h : KeepP a b) (k : KeepP b c) : KeepP a c := fun x o ho hn => k x o (h x o ho hn) hn
theorem KeepP.grown {w w' : World} {B n : Nat} {v : Value} {xs : List Value} (h : w.ownsRow B 25 1 v n xs) (hg : w.grownBy w' v.ownBlock) : KeepP w w' := fun b o ho hn => by
  rw [hg.block b (Array.getElem?_eq_some_iff.1 ho).1 (fun e => ?_)]
  · exact ho
  · rcases h.2 with ⟨rfl, _⟩ | ⟨g, cap, cur, rfl, _, hgb, _⟩
    · simp [Value.ownBlock] at e
    · simp [Value.ownBlock] at e
      subst e
      rw [hgb] at ho
      cases ho
      exact hn _ rfl
theorem EB.keep {W W' : World} {u : Value} {e : List Nat} (h : EB W u e) (hk : KeepP W W') : EB W' u e := by
  rcases h with h | ⟨ge, cap, cs, h1, h2, h3⟩
  · exact .inl h
  · exact .inr ⟨ge, cap, cs, h1, hk _ _ h2 (fun cs e => by simp at e), h3⟩
theorem EB.reads {W : World} {u : Value} {e : List Nat} (h : EB W u e) (he : e.length ≤ 1000) : SlR W u (nz e) := by
  rcases h with ⟨rfl, A, c, rfl⟩ | ⟨ge, cap, cs, rfl, h2, h3⟩
  · exact ⟨A, c, rfl, RdI.nil _ _, by simp [nz]⟩
  · refine ⟨_, cap, by rw [nz_length], fun k x hk => ⟨_, rfl, ?_⟩, by rw [nz_length]; omega⟩
    simp only [nz, List.getElem?_map, Option.map_eq_some_iff] at hk
    obtain ⟨y, hy, rfl⟩ := hk
    rw [add_none, Nat.zero_add]
    simp [World.cell?, h2, h3 k y hy]

/-- The row: each element leads to a block of one term. -/
structure LisR (w : World) (v : Value) (out : List (Tm × Nat × Value)) (W : World) : Prop where
  row : W.ownsRow w.heap.size 25 1 v out.length (out.map fun x => .slice (some ⟨x.2.1, 0, none⟩) 1 1)
  bel : Below w.heap.size w W
  els : ∀ x ∈ out, W.heap[x.2.1]? = some (.cells #[.int .i64 (x.1.1 : Int), x.2.2] 53 (0, 0)) ∧ EB W x.2.2 x.1.2
theorem LisR.start (w W : World) (h : Below w.heap.size w W) : LisR w (.slice none 0 0) [] W := ⟨World.ownsRow_nil _ _ _ _, h, by simp⟩
theorem LisR.below {w W W' : World} {v : Value} {out : List (Tm × Nat × Value)} (h : LisR w v out W) (hB : Below W.heap.size W W') : LisR w v out W' :=
  ⟨ownsRow_below h.row hB, h.bel.trans (hB.mono h.bel.size), fun x hx => ⟨KeepP.of_below hB _ _ (h.els x hx).1 (fun cs e => by simp at e), (h.els x hx).2.keep (KeepP.of_below hB)⟩⟩
theorem LisR.shape {w W : World} {v : Value} {out : List (Tm × Nat × Value)} (h : LisR w v out W) : ∃ A c, v = .slice A out.length c := by
  rcases h.row.2 with ⟨rfl, h0⟩ | ⟨g, cap, cur, rfl, _⟩
  · have : out = [] := by simpa using h0
    subst this
    exact ⟨none, 0, rfl⟩
  · exact ⟨_, _, rfl⟩
theorem LisR.push {w W W2 : World} {v v' : Value} {out : List (Tm × Nat × Value)} {tmp : Obj} (h : LisR w v out W) (t : Tm) (gp : Nat) (u : Value) (hb : W.heap[gp]? = some (.cells #[.int .i64 (t.1 : Int), u] 53 (0, 0))) (hu : EB W u t.2)
    (hown : W2.ownsRow w.heap.size 25 1 v' (out.length + 1) (out.map (fun x => .slice (some ⟨x.2.1, 0, none⟩) 1 1) ++ [.slice (some ⟨gp, 0, none⟩) 1 1])) (hgrow : (W.alloc tmp).grownBy W2 v.ownBlock) : LisR w v' (out ++ [(t, gp, u)]) W2 := by
  have hk : KeepP W W2 := (KeepP.of_below ((Below.refl _ W).alloc (Nat.le_refl _) tmp)).trans (KeepP.grown (h.row.alloc tmp) hgrow)
  refine ⟨by simpa using hown, (h.bel.alloc h.bel.size tmp).grown hgrow (by have := h.bel.size; simp; omega) (fun k' e' => (h.row.lt k' e').1), fun x hx => ?_⟩
  simp at hx
  rcases hx with hx | rfl
  · exact ⟨hk _ _ (h.els x hx).1 (fun cs e => by simp at e), (h.els x hx).2.keep hk⟩
  · exact ⟨hk _ _ hb (fun cs e => by simp at e), hu.keep hk⟩
theorem LisR.reads {w W : World} {v : Value} {out : List (Tm × Nat × Value)} (h : LisR w v out W) (hn : ∀ x ∈ out, x.1.2.length ≤ 1000) : (out = [] ∧ v = .slice none 0 0) ∨ ∃ g c, v = .slice (some ⟨g, 0, none⟩) (out.map fun x => [x.1]).length c ∧ (out.map fun x => [x.1]).length ≤ c ∧ c ≤ 9223372036854775807 ∧ RdQ W g 0 (out.map fun x => [x.1]) := by
  rcases h.row.2 with ⟨rfl, h0⟩ | ⟨g, cap, cur, rfl, _, _, h3, h4, _⟩
  · exact .inl ⟨by simpa using h0, rfl⟩
  · refine .inr ⟨g, cap, by simp, by simpa using h3, h4, fun k p hk => ?_⟩
    rw [List.getElem?_map] at hk
    obtain ⟨x, hx, rfl⟩ := Option.map_eq_some_iff.1 hk
    have hkl := (List.getElem?_eq_some_iff.1 hx).1
    obtain ⟨e1, e2⟩ := h.els x (List.mem_of_getElem? hx)
    refine ⟨some ⟨x.2.1, 0, none⟩, 1, ?_, fun k t hk => ?_⟩
    · have := h.row.cellAt k (by omega)
      rw [Nat.zero_add, this]
      simp [hx]
    · match k, hk with
      | 0, hk =>
        simp at hk
        subst hk
        exact ⟨x.2.1, 0, x.2.2, rfl, by simp [World.cell?, e1], by simp [World.cell?, e1], e2.reads (hn x (List.mem_of_getElem? hx))⟩
      | k + 1, hk => simp at hk

/-- The first k exponents reduced. -/
def mixR (q : Nat) (e : List Nat) (k : Nat) : List Nat := (e.take k).map (redN q) ++ e.drop k
theorem mixR_zero (q : Nat) (e : List Nat) : mixR q e 0 = e := by simp [mixR]
theorem mixR_length (q : Nat) (e : List Nat) (k : Nat) : (mixR q e k).length = e.length := by simp [mixR]; omega
theorem mixR_full (q : Nat) (e : List Nat) : mixR q e e.length = e.map (redN q) := by simp [mixR]
theorem mixR_at {q : Nat} {e : List Nat} {k x : Nat} (h : e[k]? = some x) : (mixR q e k)[k]? = some x := by
  have hk := (List.getElem?_eq_some_iff.1 h).1
  unfold mixR
  rw [List.getElem?_append_right (by simp; omega), List.getElem?_drop]
  simp
  rw [Nat.min_eq_left (by omega), Nat.sub_self, Nat.add_zero]
  exact h
theorem mixR_put {q : Nat} {e : List Nat} {k x : Nat} (h : e[k]? = some x) : (mixR q e k).set k (redN q x) = mixR q e (k + 1) := by
  have hk := (List.getElem?_eq_some_iff.1 h).1
  unfold mixR
  have hl : ((e.take k).map (redN q)).length = k := by simp; omega
  rw [List.set_append_right _ _ (by omega), hl, Nat.sub_self, List.take_add_one, h]
  have hd : e.drop k = x :: e.drop (k + 1) := by
    rw [List.drop_eq_getElem_cons hk]
    rw [(List.getElem?_eq_some_iff.1 h).2]
  rw [hd]
  simp
theorem mixR_skip {q : Nat} {e : List Nat} {k x : Nat} (h : e[k]? = some x) (hx : redN q x = x) : mixR q e (k + 1) = mixR q e k := by
  rw [← mixR_put h, hx]
  have := mixR_at (q := q) h
  apply List.ext_getElem?
  intro i
  rw [List.getElem?_set]
  by_cases hi : k = i
  · subst hi
    rw [if_pos rfl, if_pos (List.getElem?_eq_some_iff.1 this).1, this]
  · rw [if_neg hi]
/-- A block that begins with these numbers. -/
def BegI (W : World) (g : Nat) (e : List Nat) : Prop := ∃ cs : Array Value, W.heap[g]? = some (.cells cs 3 (0, 0)) ∧ ∀ (k x : Nat), e[k]? = some x → cs[k]? = some (Value.int .i64 (x : Int))
theorem BegI.cell {W : World} {g : Nat} {e : List Nat} (h : BegI W g e) {k x : Nat} (hx : e[k]? = some x) : W.cell? ⟨g, k, none⟩ = some (.int .i64 (x : Int)) ∧ W.frozen? ⟨g, k, none⟩ = false := by
  obtain ⟨cs, h1, h2⟩ := h
  exact ⟨by simp [World.cell?, h1, h2 k x hx], by simp [World.frozen?, h1]⟩
theorem BegI.set {W : World} {g : Nat} {e : List Nat} (h : BegI W g e) (k y : Nat) (hk : k < e.length) : BegI (W.setCell ⟨g, k, none⟩ (.int .i64 (y : Int))) g (e.set k y) := by
  obtain ⟨cs, h1, h2⟩ := h
  obtain ⟨x, hx⟩ : ∃ x, e[k]? = some x := ⟨_, List.getElem?_eq_getElem hk⟩
  have hkc := (Array.getElem?_eq_some_iff.1 (h2 k x hx)).1
  refine ⟨cs.setIfInBounds k (.int .i64 (y : Int)), ?_, fun j z hz => ?_⟩
  · exact heap_setCell_same W g k cs 3 (.int .i64 (y : Int)) h1
  · rw [List.getElem?_set] at hz
    rw [Array.getElem?_setIfInBounds]
    by_cases hj : k = j
    · subst hj
      rw [if_pos rfl, if_pos hk] at hz
      cases hz
      rw [if_pos rfl, if_pos hkc]
    · rw [if_neg hj] at hz
      rw [if_neg hj]
      exact h2 j z hz
theorem BegI.of_row {W : World} {B g n cap : Nat} {e : List Nat} (h : W.ownsRow B 3 1 (.slice (some ⟨g, 0, none⟩) n cap) n ((nz e).map (Value.int .i64))) : BegI W g e := by
  rcases h.2 with ⟨hv, _⟩ | ⟨g', cap', cur, hv, _, hg, _, _, _, ht⟩
  · cases hv
  · simp only [Value.slice.injEq, Option.some.injEq, Addr.mk.injEq, and_true] at hv
    obtain ⟨rfl, _⟩ := hv
    refine ⟨cur, hg, fun k x hx => ?_⟩
    have h1 : ((nz e).map (Value.int .i64))[k]? = some (Value.int .i64 (x : Int)) := by simp [nz, hx]
    rw [← ht, List.getElem?_take] at h1
    split at h1
    · rw [← Array.getElem?_toList]; exact h1
    · cases h1

theorem Tryd.infoP : (Tryd.prog.info? 25).map (fun i => (i.zero, i.size, i.bytes)) = some (some (.slice none 0 0), 1, 24) := by kernel_rfl
theorem empty_own (w : World) (B : Nat) (h : B ≤ w.heap.size) : (w.alloc (.cells #[] 3)).ownsRow B 3 1 (.slice (some ⟨w.heap.size, 0, none⟩) 0 0) 0 [] :=
  ⟨rfl, .inr ⟨w.heap.size, 0, #[], rfl, h, alloc_at _ _ _ rfl, Nat.le_refl _, Nat.zero_le _, rfl, rfl⟩⟩

set_option maxHeartbeats 1000000 in
theorem total_nil (P M q n : Nat) (w : World) :
    Calls Tryd.prog 34 #[kitV P M q, .slice none 0 0] w (TotIs q n (addN P M) [] w) := by
  have HB0 := Lib.hid (below1 w (.cells #[.int .i64 (P : Int), .int .i64 (M : Int), .int .i64 (q : Int), .int .i64 (modOf M : Int)] 42))
  unfold kitV
  go_enter Tryd.func34, Tryd.ntmps34
  go_wp2_with fail
  go_ret
  exact ⟨⟨[], none, 0, rfl, fun k t hk => by simp at hk, Ris.nil _ _, by simp, fun x => rfl, by simp⟩, HB0.out⟩

set_option maxRecDepth 100000 in
set_option maxHeartbeats 8000000 in
theorem reduceR_ok (P M q n : Nat) (hf : Fld P M q) (hn : n ≤ 80) (hn0 : 0 < n) (VA : Option Addr) (VC : Nat) (p : List Tm) (w : World) (hr : RdP w VA (tms p)) (hp : Ris q n p) (hx : ∀ t ∈ p, Ex n t.2) (hlen : p.length ≤ 20000) :
    Calls Tryd.prog 17 #[kitV P M q, .slice VA p.length VC] w (TotIs q n (addN P M) (p.map (redT q)) w) := by
  have hq2 := hf.q_ge
  have hq3 := hf.q_le
  have hb0 := below1 w (.cells #[.int .i64 (P : Int), .int .i64 (M : Int), .int .i64 (q : Int), .int .i64 (modOf M : Int)] 42)
  have hcell0 : ∀ j, (w.alloc (.cells #[.int .i64 (P : Int), .int .i64 (M : Int), .int .i64 (q : Int), .int .i64 (modOf M : Int)] 42)).cell? ⟨w.heap.size, j, none⟩ = (#[.int .i64 (P : Int), .int .i64 (M : Int), .int .i64 (q : Int), .int .i64 (modOf M : Int)] : Array Value)[j]? := fun j => World.cell?_alloc_new _ _ _ j
  have hr0 := hr.below hb0
  obtain ⟨w0, hw0⟩ : ∃ w0 : World, w0 = w.alloc (.cells #[.int .i64 (P : Int), .int .i64 (M : Int), .int .i64 (q : Int), .int .i64 (modOf M : Int)] 42) := ⟨_, rfl⟩
  rw [← hw0] at hb0 hcell0 hr0
  have hsz : w.heap.size < w0.heap.size := by rw [hw0]; simp
  have HW0 := Lib.hid hw0
  have HB0 := Lib.hid hb0
  have HC0 := Lib.hid hcell0
  have HSZ := Lib.hid hsz
  have HR := Lib.hid hr0
  have HX := Lib.hid hx
  have HP := Lib.hid hp
  obtain ⟨i3, hi, hz0, hz1, hz2⟩ := info_parts Tryd.info3
  have HI := Lib.hid (show Tryd.prog.info? 3 = some i3 ∧ i3.zero = some (.int .i64 0) ∧ i3.size = 1 ∧ i3.bytes = 8 from ⟨hi, hz0, hz1, hz2⟩)
  clear hi hz0 hz1 hz2
  obtain ⟨i5, hi, hz0, hz1, hz2⟩ := info_parts Tryd.infoP
  have HI5 := Lib.hid (show Tryd.prog.info? 25 = some i5 ∧ i5.zero = some (.slice none 0 0) ∧ i5.size = 1 ∧ i5.bytes = 24 from ⟨hi, hz0, hz1, hz2⟩)
  clear hi hz0 hz1 hz2 hr hr0 hw0 hb0 hcell0 hsz hx hp
  unfold kitV
  go_enter Tryd.func17, Tryd.ntmps17
  go_wp2_with fail
  go_loopw [5, 6, 7, 8] (fun v iv _ _ W => ∃ (k : Nat) (out : List (Tm × Nat × Value)), k ≤ p.length ∧ iv = .int .i64 k ∧ out.map Prod.fst = (p.take k).map (redT q) ∧ LisR w0 v out W) (fun _ iv _ _ _ => p.length - (intOf iv).toNat)
  case atStart => exact ⟨0, [], by omega, rfl, by simp, by rw [← HW0.out]; exact LisR.start _ _ (Below.refl _ _)⟩
  case round =>
    obtain ⟨k, out, hk, rfl, ho, hA⟩ := hrel
    have HO := Lib.hid ho
    have HA := Lib.hid hA
    have hol : out.length = k := by
      have := congrArg List.length ho
      simp at this
      omega
    have HOL := Lib.hid hol
    obtain ⟨LA, LC, rfl⟩ := hA.shape
    clear hA ho hol
    by_cases hlt : k < p.length
    · obtain ⟨t, ht⟩ : ∃ t, p[k]? = some t := ⟨_, List.getElem?_eq_getElem hlt⟩
      obtain ⟨b, off, u, rfl, g1, g2, g3⟩ := HR.out k ((t.1 : Int), nz t.2) (by simp [ht])
      have htx := HX.out t (List.mem_of_getElem? ht)
      obtain ⟨EA, ec, rfl, hri, _⟩ := g3
      rw [nz_length, htx.1] at g2
      have HG1 := Lib.hid g1
      have HG2 := Lib.hid g2
      have HTX := Lib.hid htx
      have HT := Lib.hid ht
      obtain ⟨x0, hx0⟩ : ∃ x, t.2[0]? = some x := ⟨_, List.getElem?_eq_getElem (by rw [htx.1]; exact hn0)⟩
      obtain ⟨a, rfl, _⟩ := hri 0 _ (nz_at hx0)
      have HRI := Lib.hid hri
      have k2 := ((HA.out.bel.alloc HA.out.bel.size (.cells #[] 3)).cell (World.block_lt_of_cell? w0 _ g2)).trans g2
      have HNW : Hid (∀ (j : Nat) (u : Value), ((nz t.2).map (Value.int .i64))[j]? = some u → (wr.alloc (.cells #[] 3)).cell? (a.add j) = some u) := Lib.hid (fun j u hu => by
        rw [List.getElem?_map] at hu
        obtain ⟨z, hz, rfl⟩ := Option.map_eq_some_iff.1 hu
        obtain ⟨a', e1, h1⟩ := HRI.out j z hz
        cases e1
        exact ((HA.out.bel.alloc HA.out.bel.size _).cell (World.block_lt_of_cell? w0 _ h1)).trans h1)
      clear g1 g2 htx ht hx0 hri
      go_wp2_with (at_builtin; refine wpList_append_lies _ rfl _ _ 51 rfl w0.heap.size 3 i3 (.int .i64 0) 1 8 Tryd.underlying51 HI.out.1 HI.out.2.1 HI.out.2.2.1 HI.out.2.2.2 rfl (by decide) (.slice (some ⟨wr.heap.size, 0, none⟩) 0 0) 0 [] (by first | rfl | simp [Act.eval, Act.put]) (empty_own wr _ HA.out.bel.size) a n ec ((nz t.2).map (Value.int .i64)) (by first | rfl | simp [Act.eval, Act.put]) (by simp [nz]; exact HTX.out.1) HNW.out (by intro u hu; simp at hu; obtain ⟨z, _, rfl⟩ := hu; rfl) hn0 (by unfold maxLen; omega) (by omega) (by have := HA.out.bel.size; simp; omega) _ rfl ?_; intro g4 cap4 w4 hown hgrow hat hlt4; have hg4 : wr.heap.size ≤ g4 := (by rcases hat with h | h <;> simp [Value.ownBlock] at h <;> omega); have hb4 : Below wr.heap.size wr w4 := (((Below.refl wr.heap.size wr).alloc (Nat.le_refl _) (.cells #[] 3)).grown hgrow (by simp) (fun k e => by simp [Value.ownBlock] at e; omega)); have HB4 := Lib.hid hb4; have HG4 := Lib.hid hg4; have HBG := Lib.hid (BegI.of_row (e := t.2) (by simpa using hown)); clear hown hgrow hat hlt4 hg4 hb4)
      clear k2
      obtain ⟨wo, rfl⟩ : ∃ wo : World, wo = w4 := ⟨_, rfl⟩
      obtain ⟨w5, rfl⟩ : ∃ w5 : World, w5 = wr := ⟨_, rfl⟩
      go_loopw [8] (fun jv W => ∃ j : Nat, j ≤ n ∧ jv = .int .i64 j ∧ Below w5.heap.size w5 W ∧ BegI W g4 (mixR q t.2 j)) (fun jv _ => n - (intOf jv).toNat)
      case atStart => exact ⟨0, by omega, rfl, HB4.out, by rw [mixR_zero]; exact HBG.out⟩
      case round =>
        clear HB4 HBG
        obtain ⟨j, hj, rfl, hB, hG⟩ := hrel
        have HBJ := Lib.hid hB
        have HGJ := Lib.hid hG
        have c2 := ((HA.out.bel.trans (hB.mono HA.out.bel.size)).cell HSZ.out).trans (HC0.out 2)
        simp only [List.getElem?_toArray, List.getElem?_cons_zero, List.getElem?_cons_succ] at c2
        clear hB
        by_cases hjn : j < n
        · obtain ⟨x, hx⟩ : ∃ x, t.2[j]? = some x := ⟨_, List.getElem?_eq_getElem (by rw [HTX.out.1]; exact hjn)⟩
          obtain ⟨c1, f1⟩ := hG.cell (mixR_at (q := q) hx)
          have hx2 := HTX.out.2 x (List.mem_of_getElem? hx)
          have HXX := Lib.hid hx
          clear hx hG
          by_cases hxq : q ≤ x
          · have d1 : decide (q ≤ x) = true := decide_eq_true hxq
            have hq0 : (((q : Int) - 1) == 0) = false := by simp; omega
            have hval : (1 : Int) + ((x : Int) - 1) % ((q : Int) - 1) = ((redN q x : Nat) : Int) := by
              have : redN q x = 1 + (x - 1) % (q - 1) := if_neg (by omega)
              rw [this]
              have e1 : ((x : Int) - 1) = ((x - 1 : Nat) : Int) := by omega
              have e2 : ((q : Int) - 1) = ((q - 1 : Nat) : Int) := by omega
              rw [e1, e2]; simp
            have hb1 := Int.emod_nonneg ((x : Int) - 1) (show ((q : Int) - 1) ≠ 0 by omega)
            have hb2 := Int.emod_lt_of_pos ((x : Int) - 1) (show 0 < ((q : Int) - 1) by omega)
            have hset := (show BegI wr.drew.drew g4 (mixR q t.2 j) from HGJ.out).set j (redN q x) (by rw [mixR_length, HTX.out.1]; exact hjn)
            rw [mixR_put HXX.out] at hset
            rw [← hval] at hset
            have HSET := Lib.hid hset
            clear hset hval
            go_wp2_with fail
            go_region
            go_wp2_with fail
            go_region
            go_wp2_with fail
            go_roundw
            case rel => exact ⟨j + 1, by omega, by go_num, HBJ.out.drew.drew.setCell (p := ⟨g4, j, none⟩) HG4.out _, HSET.out⟩
            case measure => simp [intOf]; omega
          · have d1 : decide (q ≤ x) = false := decide_eq_false hxq
            have HSK : Hid (mixR q t.2 (j + 1) = mixR q t.2 j) := Lib.hid (mixR_skip HXX.out (if_pos (by omega)))
            go_wp2_with fail
            go_region
            go_wp2_with fail
            go_roundw
            case rel => exact ⟨j + 1, by omega, by go_num, HBJ.out.drew, by rw [HSK.out]; exact HGJ.out⟩
            case measure => simp [intOf]; omega
        · have hjj : j = n := by omega
          rw [hjj] at hG
          have hfull : mixR q t.2 n = (redT q t).2 := by
            have := mixR_full q t.2
            rw [HTX.out.1] at this
            exact this
          rw [hfull] at hG
          have hA1 : LisR w0 (.slice LA out.length LC) out wr := HA.out.below (HBJ.out.mono (Nat.le_refl _))
          have k1 := (hA1.bel.cell (World.block_lt_of_cell? w0 _ HG1.out)).trans HG1.out
          have hb1 := below1 wr (.cells #[.int .i64 (t.1 : Int), .slice (some ⟨g4, 0, none⟩) n cap4] 53)
          have hA2 := hA1.below hb1
          have HA2 := Lib.hid hA2
          have hEB : EB (wr.alloc (.cells #[.int .i64 (t.1 : Int), .slice (some ⟨g4, 0, none⟩) n cap4] 53)) (.slice (some ⟨g4, 0, none⟩) n cap4) (redT q t).2 := by
            obtain ⟨cs, h1, h2⟩ := hG
            refine .inr ⟨g4, cap4, cs, ?_, KeepP.of_below hb1 _ _ h1 (fun cs e => by simp at e), h2⟩
            rw [(redT_ex hq2 HTX.out).1]
          have HEB := Lib.hid hEB
          have HLB := Lib.hid hlt
          clear hG hfull hA1 hb1 hA2 hEB c2
          go_wp2_with (at_builtin; refine wpList_append_lies _ rfl _ _ 50 rfl w0.heap.size 25 i5 (.slice none 0 0) 1 24 Tryd.underlying50 HI5.out.1 HI5.out.2.1 HI5.out.2.2.1 HI5.out.2.2.2 rfl (by decide) (.slice LA out.length LC) out.length (out.map fun x => .slice (some ⟨x.2.1, 0, none⟩) 1 1) (by first | rfl | simp [Act.eval, Act.put]) (HA2.out.row.alloc _) ⟨wr.heap.size + 1, 0, none⟩ 1 1 [.slice (some ⟨wr.heap.size, 0, none⟩) 1 1] (by first | rfl | simp [Act.eval, Act.put]) rfl (by intro j u hu; have := cell_one_new (wr.alloc (.cells #[.int .i64 (t.1 : Int), .slice (some ⟨g4, 0, none⟩) n cap4] 53)) (.slice (some ⟨wr.heap.size, 0, none⟩) 1 1) 25 j u hu; simpa using this) (by intro u hu; simp at hu; subst hu; rfl) (by decide) (by have := HOL.out; unfold maxLen; omega) (by have := HOL.out; omega) (by have := HA2.out.bel.size; simp at this ⊢; omega) _ rfl ?_; intro g6 cap6 w6 hown hgrow _ _; have hnew := HA2.out.push (redT q t) wr.heap.size (.slice (some ⟨g4, 0, none⟩) n cap4) (alloc_at _ _ _ rfl) HEB.out hown hgrow; have HNEW := Lib.hid hnew; clear hown hgrow hnew)
          go_roundw
          case rel => exact ⟨k + 1, out ++ [(redT q t, wr.heap.size, .slice (some ⟨g4, 0, none⟩) n cap4)], by omega, by go_num, by rw [List.map_append, HO.out, List.take_add_one, HT.out]; simp, HNEW.out⟩
          case measure => simp [intOf]; omega
    · have hkl : k = p.length := by omega
      have hof : out.map Prod.fst = p.map (redT q) := by rw [HO.out, List.take_of_length_le (by omega)]
      have hfl : (out.map fun x => [x.1]).flatten = p.map (redT q) := by
        rw [← hof]
        have : ∀ l : List (Tm × Nat × Value), (l.map fun x => [x.1]).flatten = l.map Prod.fst := fun l => by
          induction l with
          | nil => rfl
          | cons x l ih => simp only [List.map_cons, List.flatten_cons, ih]; rfl
        exact this out
      have hmem : ∀ x ∈ out, ∃ t ∈ p, x.1 = redT q t := fun x hx => by
        have h1 : x.1 ∈ out.map Prod.fst := List.mem_map.2 ⟨x, hx, rfl⟩
        rw [hof] at h1
        obtain ⟨t, ht, e⟩ := List.mem_map.1 h1
        exact ⟨t, ht, e.symm⟩
      have hex : ∀ x ∈ out, Ex n x.1.2 := fun x hx => by
        obtain ⟨t, ht, e⟩ := hmem x hx
        rw [e]; exact redT_ex hq2 (HX.out t ht)
      have hris : ∀ l ∈ (out.map fun x => [x.1]), Ris q n l ∧ ∀ t ∈ l, Ex n t.2 := fun l hl => by
        obtain ⟨x, hx, rfl⟩ := List.mem_map.1 hl
        obtain ⟨t, ht, e⟩ := hmem x hx
        have hxe := hex x hx
        refine ⟨⟨fun y hy => ?_, fun y hy => ?_, by simp⟩, fun y hy => ?_⟩
        · simp at hy; subst hy; rw [e]; exact HP.out.co t ht
        · simp at hy; subst hy; exact hxe.1
        · simp at hy; subst hy; exact hxe
      have hba : ∀ m, wr.cell? ⟨w.heap.size, m, none⟩ = (#[.int .i64 (P : Int), .int .i64 (M : Int), .int .i64 (q : Int), .int .i64 (modOf M : Int)] : Array Value)[m]? := fun m => (HA.out.bel.cell HSZ.out).trans (HC0.out m)
      have b0 := hba 0
      have b1 := hba 1
      have b2 := hba 2
      have b3 := hba 3
      simp only [List.getElem?_toArray, List.getElem?_cons_zero, List.getElem?_cons_succ] at b0 b1 b2 b3
      have hTot : Calls Tryd.prog 34 #[kitV P M q, .slice LA out.length LC] wr (TotIs q n (addN P M) (p.map (redT q)) wr) := by
        rcases HA.out.reads (fun x hx => by have := (hex x hx).1; omega) with ⟨he, hv⟩ | ⟨g, c, hv, h1, h2, h3⟩
        · rw [hv]
          have : p.map (redT q) = [] := by rw [← hof, he]; rfl
          rw [this]
          exact total_nil P M q n wr
        · have hll : (out.map fun x => [x.1]).length = out.length := by simp
          rw [hll] at hv h1
          rw [hv, ← hfl]
          exact total_ok P M q n hf hn out.length _ hll g 0 c wr h1 h2 (by rw [hfl]; simp; omega) hris h3
      have HTOT := Lib.hid hTot
      have HBW : Hid (Below w.heap.size w wr) := Lib.hid (HB0.out.trans (HA.out.bel.mono (Nat.le_of_lt HSZ.out)))
      unfold kitV at HTOT
      clear hTot hba hris hex hmem hfl hof hkl HA HC0
      go_wp2_with fail
      refine HTOT.out.mono ?_
      rintro e w6 ⟨⟨r, A, c, rfl, h1, h2, h3, h4, h5⟩, hB⟩
      have HFIN := Lib.hid (show RdP w6 A (tms r) ∧ Ris q n r ∧ (∀ t ∈ r, Ex n t.2) ∧ (∀ x, cfs (addN P M) r x = cfs (addN P M) (p.map (redT q)) x) ∧ r.length ≤ (p.map (redT q)).length from ⟨h1, h2, h3, h4, h5⟩)
      have HBF := Lib.hid (HBW.out.trans (hB.mono HBW.out.size))
      clear h1 h2 h3 h4 h5 hB
      go_wp2_with fail
      go_ret
      exact ⟨⟨r, A, c, rfl, HFIN.out.1, HFIN.out.2.1, HFIN.out.2.2.1, HFIN.out.2.2.2.1, HFIN.out.2.2.2.2⟩, HBF.out⟩

set_option maxRecDepth 100000 in
set_option maxHeartbeats 8000000 in
theorem reduceR_zero (P M q : Nat) (hf : Fld P M q) (VA : Option Addr) (VC : Nat) (p : List Tm) (w : World) (hr : RdP w VA (tms p)) (hp : Ris q 0 p) (hx : ∀ t ∈ p, Ex 0 t.2) (hlen : p.length ≤ 20000) :
    Calls Tryd.prog 17 #[kitV P M q, .slice VA p.length VC] w (TotIs q 0 (addN P M) (p.map (redT q)) w) := by
  have hq2 := hf.q_ge
  have hq3 := hf.q_le
  have hb0 := below1 w (.cells #[.int .i64 (P : Int), .int .i64 (M : Int), .int .i64 (q : Int), .int .i64 (modOf M : Int)] 42)
  have hcell0 : ∀ j, (w.alloc (.cells #[.int .i64 (P : Int), .int .i64 (M : Int), .int .i64 (q : Int), .int .i64 (modOf M : Int)] 42)).cell? ⟨w.heap.size, j, none⟩ = (#[.int .i64 (P : Int), .int .i64 (M : Int), .int .i64 (q : Int), .int .i64 (modOf M : Int)] : Array Value)[j]? := fun j => World.cell?_alloc_new _ _ _ j
  have hr0 := hr.below hb0
  obtain ⟨w0, hw0⟩ : ∃ w0 : World, w0 = w.alloc (.cells #[.int .i64 (P : Int), .int .i64 (M : Int), .int .i64 (q : Int), .int .i64 (modOf M : Int)] 42) := ⟨_, rfl⟩
  rw [← hw0] at hb0 hcell0 hr0
  have hsz : w.heap.size < w0.heap.size := by rw [hw0]; simp
  have HW0 := Lib.hid hw0
  have HB0 := Lib.hid hb0
  have HC0 := Lib.hid hcell0
  have HSZ := Lib.hid hsz
  have HR := Lib.hid hr0
  have HX := Lib.hid hx
  have HP := Lib.hid hp
  obtain ⟨i3, hi, hz0, hz1, hz2⟩ := info_parts Tryd.info3
  have HI := Lib.hid (show Tryd.prog.info? 3 = some i3 ∧ i3.zero = some (.int .i64 0) ∧ i3.size = 1 ∧ i3.bytes = 8 from ⟨hi, hz0, hz1, hz2⟩)
  clear hi hz0 hz1 hz2
  obtain ⟨i5, hi, hz0, hz1, hz2⟩ := info_parts Tryd.infoP
  have HI5 := Lib.hid (show Tryd.prog.info? 25 = some i5 ∧ i5.zero = some (.slice none 0 0) ∧ i5.size = 1 ∧ i5.bytes = 24 from ⟨hi, hz0, hz1, hz2⟩)
  clear hi hz0 hz1 hz2 hr hr0 hw0 hb0 hcell0 hsz hx hp
  unfold kitV
  go_enter Tryd.func17, Tryd.ntmps17
  go_wp2_with fail
  go_loopw [5, 6, 7, 8] (fun v iv _ _ W => ∃ (k : Nat) (out : List (Tm × Nat × Value)), k ≤ p.length ∧ iv = .int .i64 k ∧ out.map Prod.fst = (p.take k).map (redT q) ∧ LisR w0 v out W) (fun _ iv _ _ _ => p.length - (intOf iv).toNat)
  case atStart => exact ⟨0, [], by omega, rfl, by simp, by rw [← HW0.out]; exact LisR.start _ _ (Below.refl _ _)⟩
  case round =>
    obtain ⟨k, out, hk, rfl, ho, hA⟩ := hrel
    have HO := Lib.hid ho
    have HA := Lib.hid hA
    have hol : out.length = k := by
      have := congrArg List.length ho
      simp at this
      omega
    have HOL := Lib.hid hol
    obtain ⟨LA, LC, rfl⟩ := hA.shape
    clear hA ho hol
    by_cases hlt : k < p.length
    · obtain ⟨t, ht⟩ : ∃ t, p[k]? = some t := ⟨_, List.getElem?_eq_getElem hlt⟩
      obtain ⟨b, off, u, rfl, g1, g2, g3⟩ := HR.out k ((t.1 : Int), nz t.2) (by simp [ht])
      have htx := HX.out t (List.mem_of_getElem? ht)
      obtain ⟨EA, ec, rfl, hri, _⟩ := g3
      rw [nz_length, htx.1] at g2
      have HG1 := Lib.hid g1
      have HG2 := Lib.hid g2
      have HTX := Lib.hid htx
      have HT := Lib.hid ht
      have k2 := ((HA.out.bel.alloc HA.out.bel.size (.cells #[] 3)).cell (World.block_lt_of_cell? w0 _ g2)).trans g2
      have ht0 : t.2 = [] := List.length_eq_zero_iff.1 htx.1
      have HT0 := Lib.hid ht0
      clear g1 g2 htx ht hri ht0
      cases EA with
      | none =>
        go_wp2_with fail
        have hb4 : Below wr.heap.size wr (wr.alloc (.cells #[] 3)) := below1 _ _
        have HB4 := Lib.hid hb4
        clear hb4 k2
        obtain ⟨w5, rfl⟩ : ∃ w5 : World, w5 = wr := ⟨_, rfl⟩
        go_loopw [8] (fun jv W => jv = .int .i64 0 ∧ Below w5.heap.size w5 W) (fun _ _ => 0)
        case atStart => exact ⟨rfl, HB4.out⟩
        case round =>
          clear HB4
          obtain ⟨rfl, hB⟩ := hrel
          have hA1 : LisR w0 (.slice LA out.length LC) out wr := HA.out.below (hB.mono (Nat.le_refl _))
          have k1 := (hA1.bel.cell (World.block_lt_of_cell? w0 _ HG1.out)).trans HG1.out
          have hb1 := below1 wr (.cells #[.int .i64 (t.1 : Int), .slice (some ⟨w5.heap.size, 0, none⟩) 0 0] 53)
          have hA2 := hA1.below hb1
          have HA2 := Lib.hid hA2
          have hEB : EB (wr.alloc (.cells #[.int .i64 (t.1 : Int), .slice (some ⟨w5.heap.size, 0, none⟩) 0 0] 53)) (.slice (some ⟨w5.heap.size, 0, none⟩) 0 0) (redT q t).2 := .inl ⟨by simp [redT, HT0.out], _, _, rfl⟩
          have HEB := Lib.hid hEB
          clear hA1 hb1 hA2 hEB hB
          go_wp2_with (at_builtin; refine wpList_append_lies _ rfl _ _ 50 rfl w0.heap.size 25 i5 (.slice none 0 0) 1 24 Tryd.underlying50 HI5.out.1 HI5.out.2.1 HI5.out.2.2.1 HI5.out.2.2.2 rfl (by decide) (.slice LA out.length LC) out.length (out.map fun x => .slice (some ⟨x.2.1, 0, none⟩) 1 1) (by first | rfl | simp [Act.eval, Act.put]) (HA2.out.row.alloc _) ⟨wr.heap.size + 1, 0, none⟩ 1 1 [.slice (some ⟨wr.heap.size, 0, none⟩) 1 1] (by first | rfl | simp [Act.eval, Act.put]) rfl (by intro j u hu; have := cell_one_new (wr.alloc (.cells #[.int .i64 (t.1 : Int), .slice (some ⟨w5.heap.size, 0, none⟩) 0 0] 53)) (.slice (some ⟨wr.heap.size, 0, none⟩) 1 1) 25 j u hu; simpa using this) (by intro u hu; simp at hu; subst hu; rfl) (by decide) (by have := HOL.out; unfold maxLen; omega) (by have := HOL.out; omega) (by have := HA2.out.bel.size; simp at this ⊢; omega) _ rfl ?_; intro g6 cap6 w6 hown hgrow _ _; have hnew := HA2.out.push (redT q t) wr.heap.size (.slice (some ⟨w5.heap.size, 0, none⟩) 0 0) (alloc_at _ _ _ rfl) HEB.out hown hgrow; have HNEW := Lib.hid hnew; clear hown hgrow hnew)
          go_roundw
          case rel => exact ⟨k + 1, out ++ [(redT q t, wr.heap.size, .slice (some ⟨w5.heap.size, 0, none⟩) 0 0)], by omega, by go_num, by rw [List.map_append, HO.out, List.take_add_one, HT.out]; simp, HNEW.out⟩
          case measure => simp [intOf]; omega
      | some a => 
        go_wp2_with fail
        have hb4 : Below wr.heap.size wr (wr.alloc (.cells #[] 3)) := below1 _ _
        have HB4 := Lib.hid hb4
        clear hb4 k2
        obtain ⟨w5, rfl⟩ : ∃ w5 : World, w5 = wr := ⟨_, rfl⟩
        go_loopw [8] (fun jv W => jv = .int .i64 0 ∧ Below w5.heap.size w5 W) (fun _ _ => 0)
        case atStart => exact ⟨rfl, HB4.out⟩
        case round =>
          clear HB4
          obtain ⟨rfl, hB⟩ := hrel
          have hA1 : LisR w0 (.slice LA out.length LC) out wr := HA.out.below (hB.mono (Nat.le_refl _))
          have k1 := (hA1.bel.cell (World.block_lt_of_cell? w0 _ HG1.out)).trans HG1.out
          have hb1 := below1 wr (.cells #[.int .i64 (t.1 : Int), .slice (some ⟨w5.heap.size, 0, none⟩) 0 0] 53)
          have hA2 := hA1.below hb1
          have HA2 := Lib.hid hA2
          have hEB : EB (wr.alloc (.cells #[.int .i64 (t.1 : Int), .slice (some ⟨w5.heap.size, 0, none⟩) 0 0] 53)) (.slice (some ⟨w5.heap.size, 0, none⟩) 0 0) (redT q t).2 := .inl ⟨by simp [redT, HT0.out], _, _, rfl⟩
          have HEB := Lib.hid hEB
          clear hA1 hb1 hA2 hEB hB
          go_wp2_with (at_builtin; refine wpList_append_lies _ rfl _ _ 50 rfl w0.heap.size 25 i5 (.slice none 0 0) 1 24 Tryd.underlying50 HI5.out.1 HI5.out.2.1 HI5.out.2.2.1 HI5.out.2.2.2 rfl (by decide) (.slice LA out.length LC) out.length (out.map fun x => .slice (some ⟨x.2.1, 0, none⟩) 1 1) (by first | rfl | simp [Act.eval, Act.put]) (HA2.out.row.alloc _) ⟨wr.heap.size + 1, 0, none⟩ 1 1 [.slice (some ⟨wr.heap.size, 0, none⟩) 1 1] (by first | rfl | simp [Act.eval, Act.put]) rfl (by intro j u hu; have := cell_one_new (wr.alloc (.cells #[.int .i64 (t.1 : Int), .slice (some ⟨w5.heap.size, 0, none⟩) 0 0] 53)) (.slice (some ⟨wr.heap.size, 0, none⟩) 1 1) 25 j u hu; simpa using this) (by intro u hu; simp at hu; subst hu; rfl) (by decide) (by have := HOL.out; unfold maxLen; omega) (by have := HOL.out; omega) (by have := HA2.out.bel.size; simp at this ⊢; omega) _ rfl ?_; intro g6 cap6 w6 hown hgrow _ _; have hnew := HA2.out.push (redT q t) wr.heap.size (.slice (some ⟨w5.heap.size, 0, none⟩) 0 0) (alloc_at _ _ _ rfl) HEB.out hown hgrow; have HNEW := Lib.hid hnew; clear hown hgrow hnew)
          go_roundw
          case rel => exact ⟨k + 1, out ++ [(redT q t, wr.heap.size, .slice (some ⟨w5.heap.size, 0, none⟩) 0 0)], by omega, by go_num, by rw [List.map_append, HO.out, List.take_add_one, HT.out]; simp, HNEW.out⟩
          case measure => simp [intOf]; omega
    · have hkl : k = p.length := by omega
      have hof : out.map Prod.fst = p.map (redT q) := by rw [HO.out, List.take_of_length_le (by omega)]
      have hfl : (out.map fun x => [x.1]).flatten = p.map (redT q) := by
        rw [← hof]
        have : ∀ l : List (Tm × Nat × Value), (l.map fun x => [x.1]).flatten = l.map Prod.fst := fun l => by
          induction l with
          | nil => rfl
          | cons x l ih => simp only [List.map_cons, List.flatten_cons, ih]; rfl
        exact this out
      have hmem : ∀ x ∈ out, ∃ t ∈ p, x.1 = redT q t := fun x hx => by
        have h1 : x.1 ∈ out.map Prod.fst := List.mem_map.2 ⟨x, hx, rfl⟩
        rw [hof] at h1
        obtain ⟨t, ht, e⟩ := List.mem_map.1 h1
        exact ⟨t, ht, e.symm⟩
      have hex : ∀ x ∈ out, Ex 0 x.1.2 := fun x hx => by
        obtain ⟨t, ht, e⟩ := hmem x hx
        rw [e]; exact redT_ex hq2 (HX.out t ht)
      have hris : ∀ l ∈ (out.map fun x => [x.1]), Ris q 0 l ∧ ∀ t ∈ l, Ex 0 t.2 := fun l hl => by
        obtain ⟨x, hx, rfl⟩ := List.mem_map.1 hl
        obtain ⟨t, ht, e⟩ := hmem x hx
        have hxe := hex x hx
        refine ⟨⟨fun y hy => ?_, fun y hy => ?_, by simp⟩, fun y hy => ?_⟩
        · simp at hy; subst hy; rw [e]; exact HP.out.co t ht
        · simp at hy; subst hy; exact hxe.1
        · simp at hy; subst hy; exact hxe
      have hba : ∀ m, wr.cell? ⟨w.heap.size, m, none⟩ = (#[.int .i64 (P : Int), .int .i64 (M : Int), .int .i64 (q : Int), .int .i64 (modOf M : Int)] : Array Value)[m]? := fun m => (HA.out.bel.cell HSZ.out).trans (HC0.out m)
      have b0 := hba 0
      have b1 := hba 1
      have b2 := hba 2
      have b3 := hba 3
      simp only [List.getElem?_toArray, List.getElem?_cons_zero, List.getElem?_cons_succ] at b0 b1 b2 b3
      have hTot : Calls Tryd.prog 34 #[kitV P M q, .slice LA out.length LC] wr (TotIs q 0 (addN P M) (p.map (redT q)) wr) := by
        rcases HA.out.reads (fun x hx => by have := (hex x hx).1; omega) with ⟨he, hv⟩ | ⟨g, c, hv, h1, h2, h3⟩
        · rw [hv]
          have : p.map (redT q) = [] := by rw [← hof, he]; rfl
          rw [this]
          exact total_nil P M q 0 wr
        · have hll : (out.map fun x => [x.1]).length = out.length := by simp
          rw [hll] at hv h1
          rw [hv, ← hfl]
          exact total_ok P M q 0 hf (by omega) out.length _ hll g 0 c wr h1 h2 (by rw [hfl]; simp; omega) hris h3
      have HTOT := Lib.hid hTot
      have HBW : Hid (Below w.heap.size w wr) := Lib.hid (HB0.out.trans (HA.out.bel.mono (Nat.le_of_lt HSZ.out)))
      unfold kitV at HTOT
      clear hTot hba hris hex hmem hfl hof hkl HA HC0
      go_wp2_with fail
      refine HTOT.out.mono ?_
      rintro e w6 ⟨⟨r, A, c, rfl, h1, h2, h3, h4, h5⟩, hB⟩
      have HFIN := Lib.hid (show RdP w6 A (tms r) ∧ Ris q 0 r ∧ (∀ t ∈ r, Ex 0 t.2) ∧ (∀ x, cfs (addN P M) r x = cfs (addN P M) (p.map (redT q)) x) ∧ r.length ≤ (p.map (redT q)).length from ⟨h1, h2, h3, h4, h5⟩)
      have HBF := Lib.hid (HBW.out.trans (hB.mono HBW.out.size))
      clear h1 h2 h3 h4 h5 hB
      go_wp2_with fail
      go_ret
      exact ⟨⟨r, A, c, rfl, HFIN.out.1, HFIN.out.2.1, HFIN.out.2.2.1, HFIN.out.2.2.2.1, HFIN.out.2.2.2.2⟩, HBF.out⟩

theorem reduceR_any (P M q n : Nat) (hf : Fld P M q) (hn : n ≤ 80) (VA : Option Addr) (VC : Nat) (p : List Tm) (w : World) (hr : RdP w VA (tms p)) (hp : Ris q n p) (hx : ∀ t ∈ p, Ex n t.2) (hlen : p.length ≤ 20000) :
    Calls Tryd.prog 17 #[kitV P M q, .slice VA p.length VC] w (TotIs q n (addN P M) (p.map (redT q)) w) := by
  rcases Nat.eq_zero_or_pos n with rfl | h
  · exact reduceR_zero P M q hf VA VC p w hr hp hx hlen
  · exact reduceR_ok P M q n hf hn h VA VC p w hr hp hx hlen

set_option maxRecDepth 100000 in
set_option maxHeartbeats 4000000 in
theorem polyReduces_any (P M n : Int) (hn0 : -9223372036854775808 ≤ n) (hn1 : n ≤ 9223372036854775807) (v : Value) (ts : List (Int × List Int)) (w : World) (hL : LayP w) (hv : PolyV w v ts) :
    Calls Tryd.prog 4 #[.agg #[.int .i64 P, .int .i64 M], .int .i64 n, v] w fun e w' => e = .returned (.bool true) ∧ Below w.heap.size w w' := by
  have HL := Lib.hid hL
  have HV := Lib.hid hv
  have HAL := Lib.hid (fun W (hW : BoxS w P M W) => alive_ok W (hL.below hW.bel))
  have HS0 := Lib.hid (BoxS.start w P M)
  have HB2 := Lib.hid (below1 (w.alloc (.cells #[.int .i64 P, .int .i64 M] 23)) (.cells #[v] 25))
  have HFEW := Lib.hid (few1_ok 1500 (by omega) (w.heap.size + 1) v ts ((w.alloc (.cells #[.int .i64 P, .int .i64 M] 23)).alloc (.cells #[v] 25)) (snd_cell _ _ _ _ _) (hv.below (below2 _ _ _)))
  have HS1 := Lib.hid (HS0.out.step HB2.out)
  obtain ⟨VA, VC, rfl, -, -⟩ := hv
  by_cases hval : ValidPs P M n [ts]
  · obtain ⟨P, M, q, n, p, rfl, rfl, rfl, hf, hn, rfl, hp, hx, hlen⟩ := validPs_one hval
    have hR := (show RdP w VA (tms p) from by
      obtain ⟨A', c', e, h1, _⟩ := HV.out
      simp only [Value.slice.injEq] at e
      rw [e.1]; exact h1)
    have htl : (tms p).length = p.length := by simp
    rw [htl] at HV HFEW HS1 HB2
    rw [htl]
    have hok : OkP q n (tms p) := ⟨by simpa using hlen, p, rfl, hp, hx⟩
    have hq := hf.q_le
    have HRD := Lib.hid (fun W (hW : BoxS w P M W) => Reduce_ok P M q n hf hn VA VC p W (hL.below hW.bel).lays (hR.below hW.bel) hp hx hlen)
    have HR := Lib.hid (fun W (hW : BoxS w P M W) => pvalR_yes P M q n hf hn _ (tms p) W (HV.out.below hW.bel) hok)
    have HOF := Lib.hid (fun W => of_any P M q hf W)
    have HRR := Lib.hid (fun W (hW : BoxS w P M W) => reduceR_any P M q n hf hn VA VC p W (hR.below hW.bel) hp hx hlen)
    have HIS := Lib.hid (fun A A2 c c2 r hxr W hr1 hr2 hl hc => is_ok n hn A A2 c c2 r hxr W hr1 hr2 hl hc)
    have HRNG := Lib.hid hf.fl.toRng
    have HLEN := Lib.hid hlen
    generalize htl2 : p.length = tl at *
    have HTL := Lib.hid htl2
    clear hL hval hn0 hn1 hok hR hp hx htl hlen htl2
    unfold kitV at HOF HRR
    go_enter Tryd.func4, Tryd.ntmps4
    go_wp2_with fail
    refine HFEW.out.mono ?_
    rintro e w1 ⟨⟨b, rfl, -⟩, hB1⟩
    have hs1 := HS1.out.step hB1
    clear hB1 HS1 HFEW HB2 HS0
    cases b
    · have HS2 := Lib.hid hs1
      clear hs1
      go_wp2_with fail
      refine (HAL.out _ HS2.out).mono ?_
      rintro e w2 ⟨rfl, hB2⟩
      have HS3 := Lib.hid (HS2.out.step hB2)
      go_wp2_with fail
      go_ret
      exact ⟨rfl, HS3.out.bel⟩
    · have HS2 := Lib.hid hs1
      have c0 := hs1.c0
      have c1 := hs1.c1
      clear hs1
      go_wp2_with fail
      refine (HRD.out _ HS2.out).mono ?_
      rintro e w2 ⟨hB2, p', hr1, hr2, hr3, hr4, hcase⟩
      have hs := HS2.out.step hB2
      have HS3 := Lib.hid hs
      have c0 := hs.c0
      have c1 := hs.c1
      have HP1 := Lib.hid hr1
      have HP2 := Lib.hid hr2
      have HP3 := Lib.hid hr3
      have hpl : p'.length ≤ 20000 := by have h1 := HLEN.out; have h2 := HTL.out; simp at hr4; omega
      rcases hcase with ⟨_, A1, d1, rfl, hr5⟩ | ⟨hbig, _⟩
      · have HP5 := Lib.hid hr5
        clear hB2 hs HS2 hr1 hr2 hr3 hr4 hr5
        go_wp2_with fail
        refine (HR.out _ HS3.out).mono ?_
        rintro e w3 ⟨rfl, hB3⟩
        have hs := HS3.out.step hB3
        have HS4 := Lib.hid hs
        have HP6 := Lib.hid (HP5.out.below hB3)
        have c0 := hs.c0
        have c1 := hs.c1
        clear hB3 hs HS3 HP5
        go_wp2_with fail
        refine (HOF.out _).mono ?_
        rintro e w4 ⟨rfl, hB4⟩
        have HS5 := Lib.hid (HS4.out.step hB4)
        have HP7 := Lib.hid (HP6.out.below hB4)
        clear hB4 HS4 HP6
        go_wp2_with fail
        refine (HRR.out _ HS5.out).mono ?_
        rintro e w5 ⟨⟨r, A2, d2, rfl, q1, q2, q3, q4, _⟩, hB5⟩
        obtain rfl : r = p' := q2.ext HRNG.out HP1.out (fun e => (q4 e).trans (HP2.out e).symm)
        have HS6 := Lib.hid (HS5.out.step hB5)
        have hisx := HIS.out A1 A2 d1 d2 r HP3.out w5 (HP7.out.below hB5) q1 (by omega) (fun t ht => by have := (HP1.out.co t ht).2; omega)
        have HISX := Lib.hid hisx
        clear hisx hB5 HS5 HP7 q1 q2 q3 q4
        go_wp2_with fail
        refine HISX.out.mono ?_
        rintro e w6 ⟨rfl, hB6⟩
        have HS7 := Lib.hid (HS6.out.step hB6)
        clear hB6 HS6
        go_wp2_with fail
        refine (HAL.out _ HS7.out).mono ?_
        rintro e w7 ⟨rfl, hB7⟩
        have HS8 := Lib.hid (HS7.out.step hB7)
        go_wp2_with fail
        go_ret
        exact ⟨rfl, HS8.out.bel⟩
      · omega
  · have HRD := Lib.hid (fun W (hW : BoxS w P M W) => Reduce_no P M n hn0 hn1 _ ts W (hL.below hW.bel).lays (HV.out.below hW.bel) hval)
    have HR := Lib.hid (fun W (hW : BoxS w P M W) => pvalR_no P M n _ ts W (HV.out.below hW.bel) hval)
    generalize ts.length = tl at *
    clear hL hval hn0 hn1
    go_enter Tryd.func4, Tryd.ntmps4
    go_wp2_with fail
    refine HFEW.out.mono ?_
    rintro e w1 ⟨⟨b, rfl, -⟩, hB1⟩
    have hs1 := HS1.out.step hB1
    clear hB1 HS1 HFEW HB2 HS0
    cases b
    · have HS2 := Lib.hid hs1
      clear hs1
      go_wp2_with fail
      refine (HAL.out _ HS2.out).mono ?_
      rintro e w2 ⟨rfl, hB2⟩
      have HS3 := Lib.hid (HS2.out.step hB2)
      go_wp2_with fail
      go_ret
      exact ⟨rfl, HS3.out.bel⟩
    · have HS2 := Lib.hid hs1
      have c0 := hs1.c0
      have c1 := hs1.c1
      clear hs1
      go_wp2_with fail
      refine (HRD.out _ HS2.out).mono ?_
      rintro e w2 ⟨rfl, hB2⟩
      have hs := HS2.out.step hB2
      have HS3 := Lib.hid hs
      have c0 := hs.c0
      have c1 := hs.c1
      clear hB2 hs HS2
      go_wp2_with fail
      refine (HR.out _ HS3.out).mono ?_
      rintro e w3 ⟨rfl, hB2⟩
      have HS4 := Lib.hid (HS3.out.step hB2)
      clear hB2 HS3
      go_wp2_with fail
      refine (is_bad 1 (by omega) _).mono ?_
      rintro e w4 ⟨rfl, rfl⟩
      go_wp2_with fail
      refine (HAL.out _ HS4.out).mono ?_
      rintro e w7 ⟨rfl, hB2⟩
      have HS7 := Lib.hid (HS4.out.step hB2)
      go_wp2_with fail
      go_ret
      exact ⟨rfl, HS7.out.bel⟩
end Go.Proofs.YtflmjdabmnpkjaaDoor
