/-
  Contract of Cycles of the reference at valid permutations: the same cycles, each in a row of its own.
-/
import Derived.Test.YtdpnmepplkiljaaDoorZk
namespace Go.Proofs.YtdpnmepplkiljaaDoor
open Go.RowKit Go.Shelf

theorem Tryd.info4 : (Tryd.prog.info? 4).map (fun i => (i.zero, i.size, i.bytes)) = some (some (.bool false), 1, 1) := by kernel_rfl

theorem falses_take (n : Nat) (h7 : n ≤ 7) : (madeCells (Value.bool false).cells (n * 1)).toList = boolCells ((List.replicate 7 false).take n) := by
  have : (Value.bool false).cells = #[Value.bool false] := rfl
  rw [this, Nat.mul_one, toList_madeCells_one, List.take_replicate, Nat.min_eq_left h7]
  simp only [boolCells, List.map_replicate]

theorem owns_keep {wo wr : World} {D k : Nat} {v : Value} {e : TypeId} {xs : List Value} (h : wo.ownsRow (D + 1) e 1 v k xs) (hO : Only (fun k => k = D) wo wr) : wr.ownsRow (D + 1) e 1 v k xs := by
  obtain ⟨e1, e2⟩ := h
  exact ⟨e1, e2.imp id (fun ⟨g, c, cur, hv, hg, hh, r⟩ => ⟨g, c, cur, hv, hg, (hO.block g (Array.getElem?_eq_some_iff.1 hh).1 (by omega)).trans hh, r⟩)⟩

theorem owns_slice {w : World} {base k : Nat} {v : Value} {e : TypeId} {xs : List Value} (h : w.ownsRow base e 1 v k xs) : ∃ a cp, v = .slice a k cp := by
  rcases h.2 with ⟨hv, h0⟩ | ⟨g, cp, _, hv, _⟩
  · exact ⟨none, 0, by rw [hv, h0]⟩
  · exact ⟨_, cp, hv⟩

theorem take_get (u : List Bool) (n i : Nat) (hi : i < n) : (u.take n)[i]? = u[i]? := by
  simp [hi]

theorem rcyc_step {wo wr w1 : World} {D i n : Nat} {u : List Bool} {cs : List Nat} {v v' : Value} {tmp : Obj}
    (hS : wr.ownsRow D 4 1 (.slice (some ⟨D, 0, none⟩) n n) n (boolCells (u.take n))) (hc : wr.ownsRow wo.heap.size 3 1 v cs.length (natCells cs)) (hB : Only (fun k => k = D) wo wr) (hD : D < wo.heap.size)
    (hown' : w1.ownsRow wo.heap.size 3 1 v' (cs.length + 1) (natCells cs ++ [.int .i64 (i : Int)])) (hgrow : ((wr.setCell ⟨D, i, none⟩ (.bool true)).alloc tmp).grownBy w1 v.ownBlock) :
    Only (fun k => k = D) wo w1 ∧ w1.ownsRow D 4 1 (.slice (some ⟨D, 0, none⟩) n n) n (boolCells ((u.set i true).take n)) ∧ w1.ownsRow wo.heap.size 3 1 v' (cs ++ [i]).length (natCells (cs ++ [i])) := by
  have hrow : ∀ k, v.ownBlock = some k → wo.heap.size ≤ k := fun k e => (hc.lt k e).1
  obtain ⟨s1, g1⟩ := hS.stored i (.bool true)
  rw [boolCells_set, ← List.take_set] at s1
  have hB1 : Only (fun k => k = D) wo (wr.setCell ⟨D, i, none⟩ (.bool true)) := hB.setCell (p := ⟨D, i, none⟩) rfl _
  refine ⟨(hB1.alloc tmp).grown hgrow (fun k e hk => by have := hrow k e; omega), (s1.alloc tmp).kept hgrow (.inr ?_), ?_⟩
  · intro e
    have := hrow D e.symm
    omega
  · rw [List.length_append, natCells_snoc]; exact hown'

/-- What a round of the outer loop leaves where the cycle is long. -/
theorem rcyc_push {wo wr w2 : World} {D n : Nat} {u : List Bool} {pre : List Cyc} {x : Cyc} {o v' : Value} {tmp : Obj} (hx : 1 < x.cyc.length)
    (ho : wo.ownsRow (D + 1) 22 1 o (lg pre).length ((lg pre).map Cyc.val)) (hr : ∀ x ∈ lg pre, Cyc.Rd (D + 1) x wo) (hO : Only (fun k => k = D) wo wr) (hD : D < wo.heap.size)
    (hS : wr.ownsRow D 4 1 (.slice (some ⟨D, 0, none⟩) n n) n (boolCells (u.take n))) (hrd : Cyc.Rd wo.heap.size x wr)
    (hown : w2.ownsRow (D + 1) 22 1 v' ((lg pre).length + 1) ((lg pre).map Cyc.val ++ [x.val])) (hgrow : (wr.alloc tmp).grownBy w2 o.ownBlock) :
    w2.ownsRow (D + 1) 22 1 v' (lg (pre ++ [x])).length ((lg (pre ++ [x])).map Cyc.val) ∧ (∀ y ∈ lg (pre ++ [x]), Cyc.Rd (D + 1) y w2) ∧ w2.ownsRow D 4 1 (.slice (some ⟨D, 0, none⟩) n n) n (boolCells (u.take n)) ∧ Below D wr w2 := by
  have hob : ∀ g, o.ownBlock = some g → D + 1 ≤ g ∧ g < wo.heap.size := fun g e => ho.lt g e
  have keepR : ∀ y, Cyc.Rd (D + 1) y wr → o.ownBlock ≠ some y.blk → Cyc.Rd (D + 1) y w2 := fun y hy hne => by
    have h1 : Only (fun k => o.ownBlock = some k) wr w2 := ((Only.refl _ wr).alloc tmp).grown hgrow (fun k e _ => e)
    exact rd_only hy h1 hne
  refine ⟨?_, ?_, (hS.alloc tmp).kept hgrow (.inr ?_), ((Below.refl D wr).alloc ?_ tmp).grown hgrow ?_ ?_⟩
  · rw [lg_yes hx, List.length_append, List.map_append]; exact hown
  · rw [lg_yes hx]
    intro y hy
    rcases List.mem_append.1 hy with hy | hy
    · have h1 := (rd_row (hr y hy)).1
      exact keepR y (rd_only (hr y hy) hO (by omega)) (rd_not (hr y hy) ho)
    · rw [List.mem_singleton.1 hy]
      refine keepR x (owns_weak hrd (by omega)) (fun e => ?_)
      have h1 := (rd_row hrd).1
      have := (hob _ e).2
      omega
  · intro e
    have := (hob D e.symm).1
    omega
  · exact Nat.le_trans (Nat.le_of_lt hD) hO.size
  · have := hO.size; simp; omega
  · intro k e
    have := (hob k e).1
    omega

set_option maxRecDepth 100000 in
set_option maxHeartbeats 2000000 in
theorem rcycles_ok (b off cap n : Nat) (ps : List Nat) (w : World) (hp : IsPerm ps) (hpn : ps.length = n) (hb : b < w.heap.size) (hrd : RdN w b off ps) :
    Calls Tryd.prog 21 #[.slice (some ⟨b, off, none⟩) n cap] w fun e w' => ∃ lv xs, e = .returned lv ∧ xs.map Cyc.cyc = allCyc ps ∧ w'.ownsRow w.heap.size 22 1 lv (lg xs).length ((lg xs).map Cyc.val) ∧ (∀ x ∈ lg xs, Cyc.Rd w.heap.size x w') ∧ Below w.heap.size w w' := by
  have h1 : 1 ≤ n := by rw [← hpn]; exact hp.1
  have h7 : n ≤ 7 := by rw [← hpn]; exact hp.2.1
  have hlp : ∀ k, k < n → ps[k]?.getD 0 < n := fun k hk => by have := hp.lt k (by rw [hpn]; exact hk); rwa [hpn] at this
  have hac : (allCyc ps).length ≤ 7 := (cyc_ok hp).2.2
  have hcl : ∀ c ∈ allCyc ps, c.length ≤ 7 := fun c hc => ((cyc_ok hp).2.1 c hc).2
  obtain ⟨i4, hi4, hz40, hz41, hz42⟩ := info_parts Tryd.info4
  obtain ⟨i0, hi, hz0, hz1, hz2⟩ := info_parts Tryd.info3
  obtain ⟨j0, hj, hk0, hk1, hk2⟩ := info_parts Tryd.info22
  have HPN := Lib.hid hpn
  have HLP := Lib.hid hlp
  clear hpn hlp
  go_enter Tryd.func21, Tryd.ntmps21
  go_wp2_with (at_make; refine wpList_make_full _ rfl _ _ 68 rfl w.heap.size 4 i4 (.bool false) 1 Tryd.underlying68 hi4 hz40 hz41 .i64 .i64 _ _ n rfl rfl rfl rfl (by rw [hz42]; omega) (by unfold maxLen; omega) (Nat.le_refl _) ?_; intro w1 hown hgrow)
  have hB1 : Below w.heap.size w w1 := (Below.refl _ w).grown hgrow (Nat.le_refl _) (fun k e => by cases e)
  rw [falses_take n h7] at hown
  clear hgrow hi4 hz40 hz41 hz42
  go_loopw [3, 5, 6, 7] (fun o iv _ _ wr => ∃ (k : Nat) (u : List Bool) (pre : List Cyc), k ≤ n ∧ iv = .int .i64 k ∧ u.length = 7 ∧ pre.map Cyc.cyc ++ cycOuter ps (n - k) k u = allCyc ps ∧
      wr.ownsRow (w.heap.size + 1) 22 1 o (lg pre).length ((lg pre).map Cyc.val) ∧ (∀ x ∈ lg pre, Cyc.Rd (w.heap.size + 1) x wr) ∧
      wr.ownsRow w.heap.size 4 1 (.slice (some ⟨w.heap.size, 0, none⟩) n n) n (boolCells (u.take n)) ∧ Below w.heap.size w wr)
    (fun _ iv _ _ _ => n - (intOf iv).toNat)
  case atStart =>
    exact ⟨0, List.replicate 7 false, [], Nat.zero_le _, rfl, rfl, by rw [Nat.sub_zero, ← HPN.out]; rfl, World.ownsRow_nil _ _ _ _, fun x hx => by simp [lg] at hx, hown, hB1⟩
  case round =>
    clear hown hB1
    obtain ⟨k, u, pre, hk, rfl, hul, hcy, hout, hrds, hownS, hB⟩ := hrel
    have HUL := Lib.hid hul
    have HCY := Lib.hid hcy
    have HOUT := Lib.hid hout
    have HRDS := Lib.hid hrds
    have hlen : (lg pre).length ≤ 7 := by
      have h2 : (lg pre).length ≤ pre.length := List.length_filter_le _ _
      have h3 := congrArg List.length hcy
      rw [List.length_append, List.length_map] at h3
      omega
    clear hul hcy hout hrds
    by_cases hkn : k < n
    · obtain ⟨j, hj'⟩ : ∃ j, n - k = j + 1 := ⟨n - k - 1, by omega⟩
      have hj2 : n - (k + 1) = j := by omega
      have hcu : cntF u ≤ 7 := by have := cntF_le u; rw [HUL.out] at this; exact this
      have HN1 : u[k]?.getD false = true → cycOuter ps (n - k) k u = cycOuter ps (n - (k + 1)) (k + 1) u := fun hs => by rw [hj', hj2]; simp [cycOuter, hs]
      have HN2 : u[k]?.getD false = false → cycOuter ps (n - k) k u = cycRun ps 7 u k :: cycOuter ps (n - (k + 1)) (k + 1) (cycSeen ps 7 u k) := fun hs => by rw [hj', hj2]; simp [cycOuter, hs]
      have HN1 := Lib.hid HN1
      have HN2 := Lib.hid HN2
      clear hj' hj2
      obtain ⟨wo, hwo⟩ : ∃ wo : World, wo = wr := ⟨_, rfl⟩
      subst hwo
      have hDo : w.heap.size < wo.heap.size := (hownS.lt w.heap.size rfl).2
      go_wp2
      go_loopw [6, 7] (fun c x wr => ∃ (f i : Nat) (u' : List Bool) (cs : List Nat), x = .int .i64 i ∧ i < n ∧ u'.length = 7 ∧ cs.length + f = 7 ∧ cntF u' ≤ f ∧ cs ++ cycRun ps f u' i = cycRun ps 7 u k ∧ cycSeen ps f u' i = cycSeen ps 7 u k ∧
            wr.ownsRow w.heap.size 4 1 (.slice (some ⟨w.heap.size, 0, none⟩) n n) n (boolCells (u'.take n)) ∧ wr.ownsRow wo.heap.size 3 1 c cs.length (natCells cs) ∧ Only (fun k => k = w.heap.size) wo wr ∧ lenOf c = cs.length)
          (fun c _ _ => 7 - lenOf c)
      case atStart =>
        exact ⟨7, k, u, [], rfl, hkn, HUL.out, rfl, hcu, rfl, rfl, hownS, World.ownsRow_nil _ _ _ _, Only.refl _ _, rfl⟩
      case round =>
        clear hcu
        obtain ⟨f, i, u', cs, rfl, him, hul', hcf, hcu, hcr, hcn, hownS', hcyc, hBo, hlc⟩ := hrel
        have HUL' := Lib.hid hul'
        have HCF := Lib.hid hcf
        have HCR := Lib.hid hcr
        have HCN := Lib.hid hcn
        have HLC := Lib.hid hlc
        have hcl7 : cs.length ≤ 7 := by omega
        clear hul' hcf hcr hcn hlc
        have hcs : wr.cell? ⟨w.heap.size, i, none⟩ = some (.bool (u'[i]?.getD false)) := (hownS'.cellAt i (by omega)).trans (by simp [boolCells, him, show i < u'.length by rw [HUL'.out]; omega])
        have hfs := hownS'.frozenAt i
        have hBw : Below w.heap.size w wr := hB.trans (hBo.below (Nat.le_of_lt hDo) (fun k e => by omega))
        have hOs := hBo.size
        by_cases hs : u'[i]?.getD false = true
        · have hc1 : cs = cycRun ps 7 u k := by rw [← HCR.out, cycRun_seen ps f u' i hs, List.append_nil]
          have hc2 : u' = cycSeen ps 7 u k := by rw [← HCN.out, cycSeen_seen ps f u' i hs]
          rw [hs] at hcs
          have HC1 := Lib.hid hc1
          have HC2 := Lib.hid hc2
          by_cases hlong : 1 < cs.length
          · have huk : u[k]?.getD false = false := by
              cases hh : u[k]?.getD false with
              | false => rfl
              | true => rw [hc1, cycRun_seen ps 7 u k hh] at hlong; simp at hlong
            obtain ⟨g, cap', rfl⟩ := owns_pos hcyc (by omega)
            have hcy2 : (pre ++ [(⟨g, cap', cs⟩ : Cyc)]).map Cyc.cyc ++ cycOuter ps (n - (k + 1)) (k + 1) u' = allCyc ps := by
              rw [← HCY.out, HN2.out huk, ← HC1.out, ← HC2.out]; simp
            have HCY2 := Lib.hid hcy2
            have HRD := Lib.hid (show Cyc.Rd wo.heap.size ⟨g, cap', cs⟩ wr from hcyc)
            have HOW := Lib.hid hownS'
            have hout2 := owns_keep HOUT.out hBo
            have HOUT2 := Lib.hid hout2
            clear hs hc1 hc2 huk hcy2 hout2 hcyc hownS'
            go_wp2_with (at_builtin; refine wpList_append_own_at _ rfl _ _ 44 rfl (w.heap.size + 1) 22 j0 (.slice none 0 0) 1 24 Tryd.underlying44 hj hk0 hk1 hk2 rfl (by decide) _ _ _ rfl (HOUT2.out.alloc _) ⟨wr.heap.size, 0, none⟩ 1 1 [Cyc.val ⟨g, cap', cs⟩] rfl rfl (cell_one_new wr (Cyc.val ⟨g, cap', cs⟩) 22) (by simp [Value.oneCell', Cyc.val]) (by unfold maxLen; omega) (by omega) (by simp; omega) ?_; intro v' w2 hown' hgrow _ _; have hst := rcyc_push (x := ⟨g, cap', cs⟩) hlong HOUT.out HRDS.out hBo hDo HOW.out HRD.out hown' hgrow; have HST := Lib.hid hst; clear hst hown' hgrow)
            go_roundw
            case rel => exact ⟨k + 1, u', pre ++ [⟨g, cap', cs⟩], by omega, by go_num, HUL'.out, HCY2.out, HST.out.1, HST.out.2.1, HST.out.2.2.1, hBw.trans HST.out.2.2.2⟩
            case measure => simp [intOf]; omega
          · have hfin : ∃ pre' : List Cyc, pre'.map Cyc.cyc ++ cycOuter ps (n - (k + 1)) (k + 1) u' = allCyc ps ∧ lg pre' = lg pre := by
              cases huk : u[k]?.getD false with
              | true =>
                refine ⟨pre, ?_, rfl⟩
                rw [← HCY.out, HN1.out huk, HC2.out, cycSeen_seen ps 7 u k huk]
              | false =>
                refine ⟨pre ++ [⟨0, 0, cs⟩], ?_, lg_no hlong⟩
                rw [← HCY.out, HN2.out huk, ← HC1.out, ← HC2.out]; simp
            obtain ⟨pre', hp1, hp2⟩ := hfin
            have HP1 := Lib.hid hp1
            have HP2 := Lib.hid hp2
            have HOW := Lib.hid hownS'
            have hout2 := owns_keep HOUT.out hBo
            rw [← hp2] at hout2
            have HOUT2 := Lib.hid hout2
            have hrd2 : ∀ x ∈ lg pre', Cyc.Rd (w.heap.size + 1) x wr := by
              rw [hp2]
              intro x hx
              have h1 := (rd_row (HRDS.out x hx)).1
              exact rd_only (HRDS.out x hx) hBo (by omega)
            have HRD2 := Lib.hid hrd2
            have hcl2 : cs.length ≤ 1 := by omega
            obtain ⟨a, cp, hce⟩ := owns_slice hcyc
            subst hce
            clear hs hc1 hc2 hp1 hp2 hout2 hrd2 hcyc hownS'
            go_wp2
            go_roundw
            case rel => exact ⟨k + 1, u', pre', by omega, by go_num, HUL'.out, HP1.out, HOUT2.out, HRD2.out, HOW.out, hBw⟩
            case measure => simp [intOf]; omega
        · have hs' : u'[i]?.getD false = false := by simpa using hs
          rw [hs'] at hcs
          have hct := cntF_set u' i (by rw [HUL'.out]; omega) hs'
          obtain ⟨f', hf'⟩ : ∃ f', f = f' + 1 := ⟨f - 1, by omega⟩
          subst hf'
          have hcr2 : (cs ++ [i]) ++ cycRun ps f' (u'.set i true) (ps[i]?.getD 0) = cycRun ps 7 u k := by rw [← HCR.out]; simp [cycRun, hs']
          have hcn2 : cycSeen ps f' (u'.set i true) (ps[i]?.getD 0) = cycSeen ps 7 u k := by rw [← HCN.out]; simp [cycSeen, hs']
          have hcu2 : cntF (u'.set i true) ≤ f' := by omega
          have hx := HLP.out i him
          have HCR2 := Lib.hid hcr2
          have HCN2 := Lib.hid hcn2
          have HS := Lib.hid hownS'
          have HC := Lib.hid hcyc
          have hcyc2 := ownsRow_setCell_below hcyc (a := ⟨w.heap.size, i, none⟩) hDo (.bool true)
          have hrdi := hrd.below hBw hb i (by rw [HPN.out]; exact him)
          have HRDI := Lib.hid hrdi
          have HNEW := Lib.hid (new_cell_set wr ⟨w.heap.size, i, none⟩ (.bool true) (.int .i64 (i : Int)) 3)
          have hbD : ¬ b = w.heap.size := by omega
          have hbr : b < wr.heap.size := Nat.lt_of_lt_of_le hb hBw.size
          clear hs hs' hct hcr2 hcn2 hrdi hcyc
          go_wp2_with (at_builtin; refine wpList_append_own_at _ rfl _ _ 22 rfl wo.heap.size 3 i0 (.int .i64 0) 1 8 Tryd.underlying22 hi hz0 hz1 hz2 rfl (by decide) _ _ _ rfl (hcyc2.alloc _) ⟨wr.heap.size, 0, none⟩ 1 1 [.int .i64 (i : Int)] rfl rfl HNEW.out (by simp [Value.oneCell']) (by unfold maxLen; omega) (by omega) (by simp; omega) ?_; intro v' w2 hown' hgrow _ _; obtain ⟨g', cap', rfl⟩ := ownsRow_succ hown'; have hst := rcyc_step HS.out HC.out hBo hDo hown' hgrow; have HST := Lib.hid hst.2; have hBw1 := hst.1; clear hst hown' hgrow; have hB2 : Below w.heap.size w w2 := hB.trans (hBw1.below (Nat.le_of_lt hDo) (fun k e => by omega)); have cP := hrd.below hB2 hb i (by rw [HPN.out]; exact him))
          go_roundw
          case rel => exact ⟨f', ps[i]?.getD 0, u'.set i true, cs ++ [i], rfl, hx, by rw [List.length_set]; exact HUL'.out, by have := HCF.out; simp; omega, hcu2, HCR2.out, HCN2.out, HST.out.1, HST.out.2, hBw1, by simp [lenOf]⟩
          case measure =>
            have h1 := HLC.out
            have h2 := HCF.out
            show 7 - (cs.length + 1) < 7 - lenOf _
            rw [h1]
            omega
    · have hkm : k = n := by omega
      subst hkm
      have hx : pre.map Cyc.cyc = allCyc ps := by rw [← HCY.out, Nat.sub_self]; simp [cycOuter]
      have HX := Lib.hid hx
      clear hx
      go_wp2
      go_ret
      exact ⟨_, pre, rfl, HX.out, owns_weak HOUT.out (by omega), fun x hx => owns_weak (HRDS.out x hx) (by omega), hB⟩
end Go.Proofs.YtdpnmepplkiljaaDoor
