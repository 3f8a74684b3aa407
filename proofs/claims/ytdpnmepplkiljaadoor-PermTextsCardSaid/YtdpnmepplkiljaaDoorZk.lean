/-
  Contract of Cycles of package perm at every slice of integers: the cycles of at least two points, each in a row of its own.
-/
import Derived.Test.YtdpnmepplkiljaaDoorZj
import Derived.Maps.AppendAt
namespace Go.Proofs.YtdpnmepplkiljaaDoor
open Go.RowKit Go.Shelf

attribute [local go_sem] Oper.semAt_some

theorem Tryd.info22 : (Tryd.prog.info? 22).map (fun i => (i.zero, i.size, i.bytes)) = some (some (.slice none 0 0), 1, 24) := by kernel_rfl

theorem appIn {F : Fence} {n : Nat} {P : Program} (w : World) {ops : Array Oper} {rest : List Oper} {o : Oper} {a : Act} {Q : Exit → Act → World → Prop}
    (hg : o.guard = none) (s x : Operand) (t : TypeId) (hop : o.op = Op.call { callee := Callee.builtin Builtin.append, args := #[s, x], argTypes := #[t, t] })
    (base : Nat) (e : TypeId) (i : TypeInfo) (z : Value) (size bytes : Nat) (h1 : P.underlying t = some (.slice e)) (h2 : P.info? e = some i) (h3 : i.zero = some z) (h4 : i.size = size) (h5 : i.bytes = bytes) (h6 : z.cells.size = size) (h7 : 0 < size)
    (v : Value) (k : Nat) (xs : List Value) (hs : a.eval s = v) (hown : w.ownsRow base e size v k xs) (ad : Addr) (m c : Nat) (news : List Value) (hx : a.eval x = .slice (some ad) m c) (hn : news.length = m * size)
    (hc : ∀ j u, news[j]? = some u → w.cell? (ad.add j) = some u) (h1c : ∀ u ∈ news, u.oneCell' = true) (b1 : k + m ≤ maxLen) (b2 : (k + m) * bytes ≤ 140737488355328) (b3 : base ≤ w.heap.size)
    (hK : ∀ v' w', w'.ownsRow base e size v' (k + m) (xs ++ news) → w.grownBy w' v.ownBlock → (v'.ownBlock = v.ownBlock ∨ v'.ownBlock = some w.heap.size) → wpListIn F n P ops Q rest (a.put o.dst v') w') :
    wpListIn F n P ops Q (o :: rest) a w := by
  refine wpListIn_plain hg fun K hK' => ?_
  obtain ⟨v', w', hrun, r1, r2, _, r4⟩ := run_append_own_at (P := P) w base t o.type e i z size bytes h1 h2 h3 h4 h5 h6 h7 v k xs hown ad m c news hn hc h1c b1 b2 b3
  unfold Oper.wpIn
  refine ⟨?_, ?_⟩
  · simp [Oper.about, hop, resolve, Target.leads, Sem.run_pure]
  · rw [Oper.semAt_plain F _ _ (by rw [hop]; intro c hc'; cases hc')]
    simp [execOp, hop, resolve, invoke, builtin, hs, hx, hrun, Result.andThen]
    exact hK' _ _ (hK v' w' r1 r2 r4)

theorem cycles_bad (v : Value) (l : List Int) (w : World) (h : SlI w v l) (hn : valI l = false) :
    Calls Tryd.prog 24 #[v] w fun e w' => e = .returned (.slice none 0 0) ∧ Below w.heap.size w w' := by
  go_enter Tryd.func24, Tryd.ntmps24
  go_wp2_with fail
  refine (valid_no v l _ h hn).mono ?_
  rintro e w1 ⟨rfl, hB1⟩
  go_wp2_with fail
  go_ret
  exact ⟨rfl, hB1⟩

def lg (pre : List Cyc) : List Cyc := pre.filter (fun x => decide (1 < x.cyc.length))


theorem iter_at2 (n : Nat) (hn : 1 ≤ n) (ps : List Nat) (hp : IsPerm ps) (b off cap : Nat) (w : World) (own : List Nat)
    (hb : b < w.heap.size) (hob : b ∉ own) (hown : ∀ k, k ∈ own → k < w.heap.size) (hrd : RdN w b off ps) :
    IterOk2 n Tryd.prog 43 #[.pointer (some ⟨w.heap.size, 0, none⟩)] (fun x : Cyc => #[x.val]) (Cyc.Next ps) Cyc.Rd (fun xs => xs.map Cyc.cyc = allCyc ps) own (w.alloc (.cells #[.slice (some ⟨b, off, none⟩) ps.length cap] 23)) :=
  iter_any2 n hn ps ps.length b off cap w.heap.size _ own hp.1 hp.2.1 rfl hp.lt (by simp; omega) (by simp) hob (fun e => by have := hown _ e; omega) (fun k e => by have := hown _ e; simp; omega)
    (hrd.below ((Below.refl w.heap.size w).alloc (Nat.le_refl _) _) hb) (by rw [World.cell?_alloc_at _ _ _ _ rfl]; rfl)

theorem rd_row {W : World} {base : Nat} {x : Cyc} (h : Cyc.Rd base x W) : base ≤ x.blk ∧ ∃ cur, W.heap[x.blk]? = some (.cells cur 3 (0, 0)) := by
  rcases h.2 with ⟨hv, _⟩ | ⟨g, cap, cur, hv, hg, hh, _⟩
  · simp [Cyc.val] at hv
  · simp only [Cyc.val, Value.slice.injEq, Option.some.injEq, Addr.mk.injEq, and_true] at hv
    obtain ⟨hv, _⟩ := hv
    subst hv
    exact ⟨hg, cur, hh⟩

theorem rd_not {W : World} {base base' k : Nat} {x : Cyc} {v : Value} {vs : List Value} (h : Cyc.Rd base x W) (hr : W.ownsRow base' 22 1 v k vs) : v.ownBlock ≠ some x.blk := by
  intro e
  obtain ⟨_, cur, hx⟩ := rd_row h
  rcases hr.2 with ⟨rfl, _⟩ | ⟨g, cap, cur', rfl, hg, hh, _⟩
  · simp [Value.ownBlock] at e
  · simp only [Value.ownBlock, Option.some.injEq] at e
    subst e
    rw [hh] at hx
    simp at hx

theorem rd_only {S : Nat → Prop} {A B : World} {base : Nat} {x : Cyc} (h : Cyc.Rd base x A) (hB : Only S A B) (hn : ¬ S x.blk) : Cyc.Rd base x B := owns_only2 h hB rfl hn

/-- What holds ahead of each round: the box q + 1 holds the list of the long cycles that have come, each of which reads in a row of its own. -/
def CycI (w : World) (q : Nat) (ps : List Nat) (pre : List Cyc) (W : World) : Prop :=
  ∃ lv, Boxed W (q + 1) 44 lv ∧ W.ownsRow w.heap.size 22 1 lv (lg pre).length ((lg pre).map Cyc.val) ∧ (∀ g, lv.ownBlock = some g → g = q ∨ q + 5 < g) ∧ (∀ x ∈ lg pre, Cyc.Rd (q + 6) x W) ∧ (pre.map Cyc.cyc <+: allCyc ps) ∧ Below w.heap.size w W

theorem CycI.stands {w : World} {q : Nat} {ps : List Nat} {pre : List Cyc} {A B : World} (hq : w.heap.size ≤ q) (h : CycI w q ps pre A) (hB : Only (fun k => k = q + 3 + 1 ∨ k = q + 3 + 2) A B) : CycI w q ps pre B := by
  obtain ⟨lv, h1, h2, h3, h4, h5, h6⟩ := h
  refine ⟨lv, (hB.block _ h1.lt (by omega)).trans h1, ?_, h3, fun x hx => ?_, h5, h6.trans (hB.below (Nat.le_trans h6.size (Nat.le_refl _)) (fun k e => by omega))⟩
  · obtain ⟨e1, e2⟩ := h2
    refine ⟨e1, ?_⟩
    rcases e2 with e2 | ⟨g, c, cur, hv, hg, hh, r⟩
    · exact .inl e2
    · have := h3 g (by rw [hv]; rfl)
      exact .inr ⟨g, c, cur, hv, hg, (hB.block g (Array.getElem?_eq_some_iff.1 hh).1 (by omega)).trans hh, r⟩
  · have := (rd_row (h4 x hx)).1
    exact rd_only (h4 x hx) hB (by omega)

theorem lg_no {pre : List Cyc} {x : Cyc} (h : ¬ 1 < x.cyc.length) : lg (pre ++ [x]) = lg pre := by simp [lg, List.filter_append, h]
theorem lg_yes {pre : List Cyc} {x : Cyc} (h : 1 < x.cyc.length) : lg (pre ++ [x]) = lg pre ++ [x] := by simp [lg, List.filter_append, h]

theorem CycI.skip {w : World} {q : Nat} {ps : List Nat} {pre : List Cyc} {x : Cyc} {W : World} (h : CycI w q ps pre W) (hn : ¬ 1 < x.cyc.length) (hpre : (pre ++ [x]).map Cyc.cyc <+: allCyc ps) : CycI w q ps (pre ++ [x]) W := by
  obtain ⟨lv, h1, h2, h3, h4, _, h6⟩ := h
  refine ⟨lv, h1, ?_, h3, ?_, hpre, h6⟩
  · rw [lg_no hn]; exact h2
  · rw [lg_no hn]; exact h4

theorem cyc_push {w : World} {q : Nat} {ps : List Nat} {pre : List Cyc} {x : Cyc} {W W2 : World} {lv v' : Value} {o : Obj} (hq : w.heap.size ≤ q) (hx : 1 < x.cyc.length) (hpre : (pre ++ [x]).map Cyc.cyc <+: allCyc ps)
    (h1 : Boxed W (q + 1) 44 lv) (h2 : W.ownsRow w.heap.size 22 1 lv (lg pre).length ((lg pre).map Cyc.val)) (h3 : ∀ g, lv.ownBlock = some g → g = q ∨ q + 5 < g) (h4 : ∀ x ∈ lg pre, Cyc.Rd (q + 6) x W) (h6 : Below w.heap.size w W) (hqW : q + 5 < W.heap.size)
    (hrd : Cyc.Rd (q + 6) x W) (hown : W2.ownsRow w.heap.size 22 1 v' ((lg pre).length + 1) ((lg pre).map Cyc.val ++ [x.val])) (hgrow : (W.alloc o).grownBy W2 lv.ownBlock) (hor : v'.ownBlock = lv.ownBlock ∨ v'.ownBlock = some (W.alloc o).heap.size) :
    Only (fun k => k ∈ [q, q + 1] ∨ q + 5 < k) W (W2.setCell ⟨q + 1, 0, none⟩ v') ∧ CycI w q ps (pre ++ [x]) (W2.setCell ⟨q + 1, 0, none⟩ v') ∧ Boxed W2 (q + 1) 44 lv := by
  have hb2 : Boxed W2 (q + 1) 44 lv := (h1.alloc o).kept hgrow (h1.not_row (by decide) h2)
  have hO1 : Only (fun k => lv.ownBlock = some k) W W2 := ((Only.refl _ W).alloc o).grown hgrow (fun k e _ => e)
  have hO2 : Only (fun k => lv.ownBlock = some k ∨ k = q + 1) W (W2.setCell ⟨q + 1, 0, none⟩ v') := (hO1.mono (fun k e => .inl e)).setCell (p := ⟨q + 1, 0, none⟩) (.inr rfl) _
  have hn : some (q + 1) ≠ v'.ownBlock := hb2.not_row (by decide) hown
  have hne : ∀ g, lv.ownBlock = some g → w.heap.size ≤ g := fun g e => (h2.lt g e).1
  have keep : ∀ y, Cyc.Rd (q + 6) y W → Cyc.Rd (q + 6) y (W2.setCell ⟨q + 1, 0, none⟩ v') := fun y hy => by
    refine rd_only hy hO2 ?_
    rintro (e | e)
    · exact rd_not hy h2 e
    · have := (rd_row hy).1; omega
  refine ⟨hO2.mono (fun k e => ?_), ⟨v', hb2.set _, ?_, ?_, ?_, hpre, h6.trans (hO2.below h6.size (fun k e => ?_))⟩, hb2⟩
  · rcases e with e | e
    · rcases h3 k e with e | e
      · exact .inl (by simp [e])
      · exact .inr e
    · exact .inl (by simp [e])
  · rw [lg_yes hx, List.length_append, List.map_append]
    exact hown.kept (grownBy_setCell' W2 (q + 1) v') (.inr (fun e => hn e.symm))
  · intro g e
    rcases hor with h | h
    · exact h3 g (h ▸ e)
    · rw [h] at e
      simp only [Option.some.injEq, World.size_alloc] at e
      omega
  · rw [lg_yes hx]
    intro y hy
    rcases List.mem_append.1 hy with hy | hy
    · exact keep y (h4 y hy)
    · rw [List.mem_singleton.1 hy]; exact keep x hrd
  · rcases e with e | e
    · exact hne k e
    · omega

set_option maxRecDepth 100000 in
set_option maxHeartbeats 400000 in
theorem cycles_ok (v : Value) (ps : List Nat) (w : World) (h : SlI w v (ints ps)) (hp : IsPerm ps) :
    Calls Tryd.prog 24 #[v] w fun e w' => ∃ lv xs, e = .returned lv ∧ xs.map Cyc.cyc = allCyc ps ∧ w'.ownsRow w.heap.size 22 1 lv (lg xs).length ((lg xs).map Cyc.val) ∧ (∀ x ∈ lg xs, Cyc.Rd w.heap.size x w') ∧ Below w.heap.size w w' := by
  obtain ⟨b, off, cap, hve, hb, hrd⟩ := h.perm hp
  subst hve
  have hv := valid_yes _ _ w h (valI_perm hp)
  have hok3 := (cyc_ok hp).2.2
  have HV := Lib.hid hv
  clear hv h
  obtain ⟨j0, hj, hk0, hk1, hk2⟩ := info_parts Tryd.info22
  refine (callsIn_wide (n := 3)).1 ?_
  refine callsIn_of_wp_marks Tryd.func24 rfl trivial ?_ rfl
  simp only [Tryd.ntmps24, List.size_toArray, List.length_cons, List.length_nil, Nat.reduceAdd, Nat.reduceSub, Array.replicate_succ, Array.replicate_zero, List.push_toArray, List.append_toArray, List.nil_append, List.cons_append]
  gi_wp2_with (first | (refine ⟨trivial, ?_⟩; gi_at_call 23; refine (callsIn_wide.2 HV.out).mono ?_; rintro e w1 ⟨rfl, hB1⟩) | (refine ⟨trivial, ?_⟩; gi_at_call 38; refine (allCycles_in _ _ _ _ _).mono ?_; rintro e w2 ⟨rfl, rfl⟩))
  have hs1 := hB1.size
  obtain ⟨q, hqe⟩ : ∃ q, w1.heap.size = q := ⟨_, rfl⟩
  have hwq : w.heap.size ≤ q := by omega
  have bL := Boxed.new (w1.alloc (.cells #[] 22)) 44 (.slice (some ⟨w1.heap.size, 0, none⟩) 0 0)
  have oL : ((w1.alloc (.cells #[] 22)).alloc (.cells #[.slice (some ⟨w1.heap.size, 0, none⟩) 0 0] 44)).ownsRow w.heap.size 22 1 (.slice (some ⟨w1.heap.size, 0, none⟩) 0 0) 0 [] :=
    (World.ownsRow_lit (e := 22) (size := 1) w1 #[] 0 hs1 (by unfold maxLen; omega) rfl).alloc _
  have hB3 : Below w.heap.size w ((w1.alloc (.cells #[] 22)).alloc (.cells #[.slice (some ⟨w1.heap.size, 0, none⟩) 0 0] 44)) := (hB1.alloc hs1 _).alloc (by simp; omega) _
  have hit := iter_at2 (3 - 1) (by omega) ps hp b off cap ((w1.alloc (.cells #[] 22)).alloc (.cells #[.slice (some ⟨w1.heap.size, 0, none⟩) 0 0] 44)) [q, q + 1] (by simp; omega) (by simp; omega) (by simp; omega) (hrd.below hB3 hb)
  have bL2 := bL.alloc (.cells #[.slice (some ⟨b, off, none⟩) ps.length cap] 23)
  have oL2 := oL.alloc (.cells #[.slice (some ⟨b, off, none⟩) ps.length cap] 23)
  have hB4 := hB3.alloc hB3.size (.cells #[.slice (some ⟨b, off, none⟩) ps.length cap] 23)
  have hsz : (((w1.alloc (.cells #[] 22)).alloc (.cells #[.slice (some ⟨w1.heap.size, 0, none⟩) 0 0] 44)).alloc (.cells #[.slice (some ⟨b, off, none⟩) ps.length cap] 23)).heap.size = q + 3 := by simp [hqe]
  simp only [World.size_alloc] at hit bL2
  rw [hqe] at bL2 oL2 hB4 hit hsz ⊢
  obtain ⟨wr, hwr⟩ : ∃ wr, ((w1.alloc (.cells #[] 22)).alloc (.cells #[.slice (some ⟨q, 0, none⟩) 0 0] 44)).alloc (.cells #[.slice (some ⟨b, off, none⟩) ps.length cap] 23) = wr := ⟨_, rfl⟩
  rw [hwr] at bL2 oL2 hB4 hit hsz ⊢
  clear hwr bL oL hB3
  have h0 : CycI w q ps [] wr := ⟨_, bL2, oL2, fun g e => .inl (by simpa [Value.ownBlock] using e.symm), fun x hx => by simp [lg] at hx, ⟨allCyc ps, rfl⟩, hB4⟩
  clear bL2 oL2 hB4
  refine rangeFunc_iter2 (gf := 43) (lb := #[.pointer (some ⟨q + 1 + 1, 0, none⟩)]) rfl (enters_of Tryd.func43 (by kernel_rfl) rfl) hit Cyc.rd_keep (by simp; omega) (fun _ => rfl)
    (CycI w q ps) (fun _ _ => False)
    (fun pre A B hi hAB => CycI.stands hwq hi (by rw [hsz] at hAB; exact hAB))
    (fun _ _ _ hf _ => hf)
    h0
    (fun x => { tmps := #[.slice (some ⟨b, off, none⟩) ps.length cap, undef, .slice none 0 0, .pointer (some ⟨q + 1, 0, none⟩), .slice (some ⟨x.blk, 0, none⟩) x.cyc.length x.cap, .slice (some ⟨b, off, none⟩) ps.length cap, .bool true, .bool false, .slice (some ⟨q, 0, none⟩) 0 0, .slice (some ⟨b, off, none⟩) ps.length cap,
      .func (.func 43) #[] #[.pointer (some ⟨q + 1 + 1, 0, none⟩)], .slice (some ⟨x.blk, 0, none⟩) x.cyc.length x.cap, undef, undef, undef, undef, undef, undef, undef, undef], defers := [] }) ?assign ?body ?done ?stop
  case assign =>
    intro l x W K hK
    simp only [Cyc.val]
    gi_wp2
    exact hK
  case body =>
    rintro l pre x W hDW ⟨lv, hbx, hown, hat, hrds, hpre, hBW⟩ hnext hrdx
    rw [hsz] at hDW hrdx ⊢
    have hnx : (pre ++ [x]).map Cyc.cyc <+: allCyc ps := by rw [List.map_append, List.map_singleton]; exact hnext
    have hlen : (lg pre).length ≤ 7 := by
      have h1 := hpre.length_le
      have h2 : (lg pre).length ≤ pre.length := List.length_filter_le _ _
      rw [List.length_map] at h1
      omega
    have hc := hbx.cell
    have hf := hbx.frozen
    have HNX := Lib.hid hnx
    have HB := Lib.hid hbx
    have HOWN := Lib.hid hown
    have HAT := Lib.hid hat
    have HRDS := Lib.hid hrds
    have HPRE := Lib.hid hpre
    have HRDX := Lib.hid hrdx
    have hxn : x.cyc.length ≤ 9223372036854775807 := by
      rcases hrdx.2 with ⟨_, h⟩ | ⟨_, _, _, hv, _, _, h1, h2, _⟩
      · omega
      · unfold maxLen at h2; omega
    have HWD := Lib.hid hDW
    have hWD2 : w.heap.size ≤ W.heap.size := hBW.size
    have HBW := Lib.hid hBW
    clear hnx hown hat hrds hpre hrdx hnext hbx hDW hBW
    by_cases hx1 : 1 < x.cyc.length
    · gi_wp2_with (gi_at_builtin; refine appIn _ rfl _ _ 44 rfl w.heap.size 22 j0 (.slice none 0 0) 1 24 Tryd.underlying44 hj hk0 hk1 hk2 rfl (by decide) _ _ _ rfl (HOWN.out.alloc _) ⟨W.heap.size, 0, none⟩ 1 1 [x.val] rfl rfl (cell_one_new W x.val 22) (by simp [Value.oneCell', Cyc.val]) (by unfold maxLen; omega) (by omega) (by simp; omega) ?_; intro v' w2 hown' hgrow hor; obtain ⟨g', cap', rfl⟩ := ownsRow_succ hown'; have hst := cyc_push hwq hx1 HNX.out HB.out HOWN.out HAT.out HRDS.out HBW.out HWD.out HRDX.out hown' hgrow hor; have HST := Lib.hid hst; have cB := hst.2.2.cell; have fB := hst.2.2.frozen; clear hst hown' hgrow hor)
      exact ⟨HST.out.1, HST.out.2.1⟩
    · gi_wp2
      exact ⟨Only.refl _ _, CycI.skip ⟨lv, HB.out, HOWN.out, HAT.out, HRDS.out, HPRE.out, HBW.out⟩ hx1 HNX.out⟩
  case done =>
    rintro D xs W rfl hS ⟨lv, hbx, hown, hat, hrds, hpre, hBW⟩ hK
    have hc := hbx.cell
    rw [hsz] at hK ⊢
    have HOWN := Lib.hid hown
    have HAT := Lib.hid hat
    have HRDS := Lib.hid hrds
    have HS := Lib.hid hS
    clear hown hat hrds hpre hS
    gi_wp2
    refine ⟨by simp, .inl ⟨_, _, rfl, run_takeDeferred hK, ?_⟩⟩
    refine ⟨_, results_tmp rfl _ _ _, ?_⟩
    refine ⟨lv, xs, rfl, HS.out, ?_, ?_, hBW.trans (belowK_b (w := w) (Nat.le_refl _) W (q + 3) _ _ (by omega) hK rfl rfl)⟩
    · obtain ⟨e1, e2⟩ := HOWN.out
      refine ⟨e1, ?_⟩
      rcases e2 with e2 | ⟨g, c, cur, hv, hg, hh, r⟩
      · exact .inl e2
      · have := HAT.out g (by rw [hv]; rfl)
        exact .inr ⟨g, c, cur, hv, hg, (World.putObj_heap_other (by omega)).trans hh, r⟩
    · intro x hx
      have h1 := HRDS.out x hx
      have h2 := (rd_row h1).1
      exact owns_weak (rd_only (S := fun k => k = q + 3) h1 (Only.putObj W (q + 3) _ rfl) (by omega)) (by omega)
  case stop =>
    rintro D pre W _ h _
    exact h.elim
end Go.Proofs.YtdpnmepplkiljaaDoor
