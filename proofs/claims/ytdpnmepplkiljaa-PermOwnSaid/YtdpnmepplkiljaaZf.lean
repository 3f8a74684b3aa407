/-
  Contract of Power of package perm at every valid permutation and every exponent, for whatever function F gives the images (what F is, a later text says).
-/
import Derived.Test.YtdpnmepplkiljaaV
import Derived.Test.YtdpnmepplkiljaaJ
namespace Go.Proofs.Ytdpnmepplkiljaa
open Go.RowKit Go.Shelf

attribute [local go_sem] Oper.semAt_some

theorem make_row (n : Nat) (hn : n ≤ 7) : ∀ w : World, (Instr.makeSlice 23 (.int .i64 (n : Int)) (.int .i64 (n : Int))).run Try.prog w = .ok (.slice (some ⟨w.heap.size, 0, none⟩) n n) (w.alloc (.cells (natCells (List.replicate n 0)).toArray 3)) := by
  obtain ⟨i0, hi, hz0, hz1, hz2⟩ := info_parts Try.info3
  intro w
  have h := run_make (P := Try.prog) w 23 3 i0 (.int .i64 0) Try.underlying23 hi hz0 .i64 .i64 (n : Int) (n : Int) (by omega) (by omega) (by rw [hz2]; omega) (by omega)
  rw [h, Int.toNat_natCast, hz1]
  congr 3
  apply Array.toList_inj.1
  rw [zeros_range]
  simp only [natCells, List.map_replicate]
  simp [List.map_const']

/-- A row filled at the points that have been visited. -/
def visPart (F : Nat → Nat) (n : Nat) (vis : List Nat) : List Value := (List.range n).map fun x => if x ∈ vis then Value.int .i64 ((F x : Nat) : Int) else .int .i64 0

theorem visPart_nil (F : Nat → Nat) (n : Nat) : natCells (List.replicate n 0) = visPart F n [] := by
  simp [natCells, visPart, List.map_const']

theorem visPart_set (F : Nat → Nat) (n : Nat) (vis : List Nat) (x : Nat) : (visPart F n vis).set x (.int .i64 ((F x : Nat) : Int)) = visPart F n (vis ++ [x]) := by
  unfold visPart
  rw [range_set]
  apply List.map_congr_left
  intro i _
  by_cases h : i = x
  · subst h; simp
  · simp [h]

theorem visPart_full (F : Nat → Nat) (n : Nat) (vis : List Nat) (h : ∀ x, x < n → x ∈ vis) : visPart F n vis = natCells ((List.range n).map F) :=
  natCells_eq n _ (by simp) _ (fun i hi => by simp [hi, h i hi])

theorem natCells_getz (l : List Nat) (j : Nat) (hj : j < l.length) : (natCells l)[j]? = some (.int .i64 ((l[j]?.getD 0 : Nat) : Int)) := by
  simp [natCells, hj]

theorem take_snocN' (l : List Nat) (k : Nat) (h : k < l.length) : l.take (k + 1) = l.take k ++ [l[k]?.getD 0] := by
  rw [List.take_succ_eq_append_getElem h]; simp [h]

theorem tmod_bounds (k : Int) (l : Nat) (h1 : 1 ≤ l) : 1 ≤ k.tmod (l : Int) + l ∧ k.tmod (l : Int) + l < 2 * l := by
  have hl : (0 : Int) < (l : Int) := by omega
  have h1 := Int.tmod_lt_of_pos k hl
  have h2 : -(l : Int) < k.tmod l := by
    have h3 := Int.tmod_lt_of_pos (-k) hl
    rw [Int.neg_tmod] at h3
    omega
  omega

/-- What the iterator's rounds of Power need: the image F of each point of each cycle. -/
def PowF (ps : List Nat) (k : Int) (F : Nat → Nat) : Prop := ∀ c ∈ allCyc ps, ∀ i, i < c.length → c[i]?.getD 0 < ps.length ∧ F (c[i]?.getD 0) = c[(i + (k.tmod (c.length : Int) + c.length).toNat) % c.length]?.getD 0

theorem pow_store {W wr : World} {B n : Nat} {F : Nat → Nat} {vis : List Nat} {x : Nat} {v : Value} {base : Nat}
    (hown : wr.ownsRow base 3 1 (.slice (some ⟨B, 0, none⟩) n n) n (visPart F n vis)) (hO : OnlyIn [B] W wr) (hv : v = .int .i64 ((F x : Nat) : Int)) (W' : World) (hW : W' = wr.setCell ⟨B, x, none⟩ v ∨ W' = wr.drew.setCell ⟨B, x, none⟩ v) :
    W'.ownsRow base 3 1 (.slice (some ⟨B, 0, none⟩) n n) n (visPart F n (vis ++ [x])) ∧ OnlyIn [B] W W' := by
  subst hv
  rcases hW with rfl | rfl
  · have h := (hown.stored x (.int .i64 ((F x : Nat) : Int))).1
    rw [visPart_set] at h
    exact ⟨h, hO.setCell (p := ⟨B, x, none⟩) (by simp) _⟩
  · have hd : wr.drew.ownsRow base 3 1 (.slice (some ⟨B, 0, none⟩) n n) n (visPart F n vis) := hown
    have h := (hd.stored x (.int .i64 ((F x : Nat) : Int))).1
    rw [visPart_set] at h
    exact ⟨h, hO.drew.setCell (p := ⟨B, x, none⟩) (by simp) _⟩

set_option maxRecDepth 100000 in
set_option maxHeartbeats 2000000 in
theorem power_ok (b off cap n : Nat) (k : Int) (ps : List Nat) (F : Nat → Nat) (w : World) (hp : IsPerm ps) (hpn : ps.length = n) (hb : b < w.heap.size) (hrd : RdN w b off ps) (hF : PowF ps k F) (hvis : ∀ x, x < n → x ∈ (allCyc ps).flatten) (hlen : ∀ c ∈ allCyc ps, 1 ≤ c.length ∧ c.length ≤ 7) :
    Calls Try.prog 37 #[.slice (some ⟨b, off, none⟩) n cap, .int .i64 k] w fun e w' => ∃ g, e = .returned (.tuple #[.slice (some ⟨g, 0, none⟩) n n, .int .i64 0]) ∧ w.heap.size ≤ g ∧ Blk w' g ((List.range n).map F) ∧ Below w.heap.size w w' := by
  have h1 : 1 ≤ n := by rw [← hpn]; exact hp.1
  have h7 : n ≤ 7 := by rw [← hpn]; exact hp.2.1
  have hv := valid_yes _ _ (w.alloc (.cells #[.int .i64 k] 3)) ((SlI.mk_perm (cap := cap) hp hpn hb hrd).below (alloc_below w _)) (valI_perm hp)
  have HV := Lib.hid hv
  have HPN := Lib.hid hpn
  have HF := Lib.hid hF
  have HVIS := Lib.hid hvis
  have HLEN := Lib.hid hlen
  have hmk := make_row n h7
  clear hv hpn hF hvis hlen
  refine (callsIn_wide (n := 3)).1 ?_
  refine callsIn_of_wp_marks Try.func37 rfl trivial ?_ rfl
  simp only [Try.ntmps37, List.size_toArray, List.length_cons, List.length_nil, Nat.reduceAdd, Nat.reduceSub, Array.replicate_succ, Array.replicate_zero, List.push_toArray, List.append_toArray, List.nil_append, List.cons_append]
  gi_wp2_with (first | (refine ⟨trivial, ?_⟩; gi_at_call 17; refine (callsIn_wide.2 HV.out).mono ?_; rintro e w1 ⟨rfl, hB1⟩) | (refine ⟨trivial, ?_⟩; gi_at_call 52; refine (allCycles_in _ _ _ _ _).mono ?_; rintro e w2 ⟨rfl, rfl⟩))
  have hs1 : w.heap.size < w1.heap.size := by have := hB1.size; simp at this; omega
  have bK : Boxed w1 w.heap.size 3 (.int .i64 k) := (hB1.block _ (by simp)).trans (Boxed.new w 3 (.int .i64 k))
  have hBw : Below w.heap.size w w1 := (alloc_below w _).trans (hB1.mono (by simp))
  obtain ⟨wa, hwa⟩ : ∃ wa, w1.alloc (.cells (natCells (List.replicate n 0)).toArray 3) = wa := ⟨_, rfl⟩
  have hsa : wa.heap.size = w1.heap.size + 1 := by rw [← hwa]; simp
  have hBa : Below w1.heap.size w1 wa := hwa ▸ alloc_below w1 _
  have hownA : wa.ownsRow w1.heap.size 3 1 (.slice (some ⟨w1.heap.size, 0, none⟩) n n) n (visPart F n []) := by
    have h := World.ownsRow_lit (e := 3) (size := 1) w1 (natCells (List.replicate n 0)).toArray n (Nat.le_refl w1.heap.size) (by unfold maxLen; omega) (by simp [natCells])
    rw [hwa, ← visPart_nil F n] at *
    exact h
  rw [hwa]
  have bP := Boxed.new wa 23 (.slice (some ⟨w1.heap.size, 0, none⟩) n n)
  rw [hsa] at bP
  obtain ⟨wb, hwb⟩ : ∃ wb, wa.alloc (.cells #[.slice (some ⟨w1.heap.size, 0, none⟩) n n] 23) = wb := ⟨_, rfl⟩
  have hsb : wb.heap.size = w1.heap.size + 2 := by rw [← hwb]; simp [hsa]
  have hBb : Below wa.heap.size wa wb := hwb ▸ alloc_below wa _
  rw [hwb] at bP ⊢
  have hB4 : Below w.heap.size w wb := (hBw.trans (hBa.mono (by omega))).trans (hBb.mono (by omega))
  have hownB := owns_below hownA hBb
  have bKb : Boxed wb w.heap.size 3 (.int .i64 k) := (hBb.block _ (by omega)).trans ((hBa.block _ (by omega)).trans bK)
  have hit := iter_at (3 - 1) (by omega) ps hp b off cap wb [w1.heap.size] (by omega) (by simp; omega) (by simp; omega) (hrd.below hB4 hb)
  rw [hsb, HPN.out] at hit
  clear hwa hwb hownA bK
  refine rangeFunc_iter (gf := 61) (lb := #[.pointer (some ⟨w1.heap.size + 1 + 1, 0, none⟩)]) rfl (enters_of Try.func61 (by kernel_rfl) rfl) hit Cyc.rd_keep (by simp [hsb]; omega) (fun _ => rfl)
    (fun pre W => W.ownsRow w1.heap.size 3 1 (.slice (some ⟨w1.heap.size, 0, none⟩) n n) n (visPart F n (pre.map Cyc.cyc).flatten) ∧ Boxed W (w1.heap.size + 1) 23 (.slice (some ⟨w1.heap.size, 0, none⟩) n n) ∧ Boxed W w.heap.size 3 (.int .i64 k) ∧ (pre.map Cyc.cyc <+: allCyc ps) ∧ Below w.heap.size w W)
    (fun _ _ => False)
    (fun pre A B hi hAB => ⟨?own, (hAB.block _ (by simp; omega)).trans hi.2.1, (hAB.block _ (by simp; omega)).trans hi.2.2.1, hi.2.2.2.1, hi.2.2.2.2.trans (hAB.mono (by simp; omega))⟩)
    (fun _ _ _ hf _ => hf)
    ⟨owns_below hownB (alloc_below wb _), bP.alloc _, bKb.alloc _, ⟨allCyc ps, rfl⟩, hB4.alloc hB4.size _⟩
    (fun x => { tmps := #[.slice (some ⟨b, off, none⟩) n cap, .int .i64 k, undef, .pointer (some ⟨w.heap.size, 0, none⟩), .slice none 0 0, .int .i64 0, .pointer (some ⟨w1.heap.size + 1, 0, none⟩), .slice (some ⟨x.blk, 0, none⟩) x.cyc.length x.cap, undef, undef, undef, .slice (some ⟨b, off, none⟩) n cap, .bool true, .bool false, .slice (some ⟨b, off, none⟩) n cap, .int .i64 n, .slice (some ⟨w1.heap.size, 0, none⟩) n n, .slice (some ⟨b, off, none⟩) n cap, .func (.func 61) #[] #[.pointer (some ⟨w1.heap.size + 1 + 1, 0, none⟩)], .slice (some ⟨x.blk, 0, none⟩) x.cyc.length x.cap, undef, undef, undef, undef, undef, undef, undef, undef, undef, undef, undef, undef, undef, undef, undef, undef, undef, undef, undef, undef, undef, undef, undef, undef, undef, undef, undef, undef], defers := [] }) ?assign ?body ?done ?stop
  case own =>
    obtain ⟨q1, q2⟩ := hi.1
    refine ⟨q1, ?_⟩
    rcases q2 with q2 | ⟨g, c, cur, hv, hg, hh, r⟩
    · exact .inl q2
    · refine .inr ⟨g, c, cur, hv, hg, ?_, r⟩
      cases hv
      exact (hAB.block _ (by simp; omega)).trans hh
  case assign =>
    intro l x W K hK
    simp only [Cyc.val]
    gi_wp2
    exact hK
  case body =>
    rintro l D pre x W hD hDW ⟨hown, hbp, hbk, hpre, hBW⟩ hnext hrdx
    have hDD : w1.heap.size + 3 ≤ D := by simp [hsb] at hD; omega
    have hxm : x.cyc ∈ allCyc ps := by
      obtain ⟨t, ht⟩ := hnext
      rw [← ht]; simp
    obtain ⟨hl1, hl7⟩ := HLEN.out _ hxm
    have hxf := HF.out _ hxm
    rw [HPN.out] at hxf
    obtain ⟨blk, cp, c⟩ := x
    simp only at hl1 hl7 hxf hxm
    obtain ⟨len, hlen⟩ : ∃ len, c.length = len := ⟨_, rfl⟩
    have hrc : W.ownsRow D 3 1 (.slice (some ⟨blk, 0, none⟩) c.length cp) c.length (natCells c) := hrdx
    rw [hlen] at hl1 hl7 hxf hrc
    have htb := tmod_bounds k len hl1
    obtain ⟨sh, hsh⟩ := Int.eq_ofNat_of_zero_le (show 0 ≤ k.tmod (len : Int) + len by omega)
    rw [hsh] at htb hxf
    rw [Int.toNat_natCast] at hxf
    have hkc := hbk.cell
    have hpc := hbp.cell
    have hmx : Try.prog.follows .mixedOrders = true := by kernel_rfl
    have hnx : (pre ++ [(⟨blk, cp, c⟩ : Cyc)]).map Cyc.cyc <+: allCyc ps := by rw [List.map_append, List.map_singleton]; exact hnext
    have HNX := Lib.hid hnx
    have HSH := Lib.hid hsh
    have HLN := Lib.hid hlen
    have HXF := Lib.hid hxf
    have hblk := (hrc.lt blk rfl).1
    have hl0 : ¬ len = 0 := by omega
    have hta : -10 ≤ k.tmod (len : Int) := by omega
    have htc : k.tmod (len : Int) ≤ 20 := by omega
    simp only [hlen]
    clear hpre hnext hrdx hxm hxf hsh hlen hnx
    gi_wp2_with fail
    rw [HSH.out]
    gi_loopw [29] (fun jv wr => ∃ i : Nat, i ≤ len ∧ jv = .int .i64 i ∧ wr.ownsRow w1.heap.size 3 1 (.slice (some ⟨w1.heap.size, 0, none⟩) n n) n (visPart F n ((pre.map Cyc.cyc).flatten ++ c.take i)) ∧ OnlyIn [w1.heap.size] W wr) (fun jv _ => len - (intOf jv).toNat)
    case atStart => exact ⟨0, Nat.zero_le _, rfl, by rw [List.take_zero, List.append_nil]; exact hown, OnlyIn.refl _ _⟩
    case round =>
      clear hown
      obtain ⟨i, hi, rfl, hown, hO⟩ := hrel
      by_cases hil : i < len
      · have hOs := hO.size
        obtain ⟨hxn, hxF⟩ := HXF.out i hil
        have hml : (i + sh) % len < len := Nat.mod_lt _ (by omega)
        have hrem : ((i : Int) + (sh : Int)).tmod (len : Int) = (((i + sh) % len : Nat) : Int) := by rw [Int.tmod_eq_emod_of_nonneg (by omega)]; simp
        obtain ⟨mm, hmm⟩ : ∃ mm, (i + sh) % len = mm := ⟨_, rfl⟩
        rw [hmm] at hml hrem hxF
        clear hmm
        have cc := cell_only hO (p := ⟨blk, i, none⟩) (show blk < W.heap.size from (hrc.lt blk rfl).2) (by simp; omega) ((hrc.cellAt i (by omega)).trans (natCells_getz c i (by rw [HLN.out]; exact hil)))
        have ct := cell_only hO (p := ⟨blk, mm, none⟩) (show blk < W.heap.size from (hrc.lt blk rfl).2) (by simp; omega) ((hrc.cellAt mm (by omega)).trans (natCells_getz c _ (by rw [HLN.out]; exact hml)))
        have pc := cell_only hO (p := ⟨w1.heap.size + 1, 0, none⟩) (show w1.heap.size + 1 < W.heap.size by omega) (by simp) hpc
        obtain ⟨x, hx⟩ : ∃ x, c[i]?.getD 0 = x := ⟨_, rfl⟩
        obtain ⟨y, hy⟩ : ∃ y, c[mm]?.getD 0 = y := ⟨_, rfl⟩
        rw [hx] at cc hxn hxF
        rw [hy] at ct hxF
        have hcell : wr.cell? ⟨w1.heap.size, x, none⟩ = (visPart F n ((pre.map Cyc.cyc).flatten ++ c.take i))[x]? := hown.cellAt x (by omega)
        obtain ⟨v0, hv0⟩ : ∃ v0, (visPart F n ((pre.map Cyc.cyc).flatten ++ c.take i))[x]? = some v0 := ⟨_, List.getElem?_eq_getElem (by simp [visPart]; omega)⟩
        rw [hv0] at hcell
        have hfz := hown.frozenAt x
        have htk : c.take (i + 1) = c.take i ++ [x] := by rw [take_snocN' c i (by rw [HLN.out]; exact hil), hx]
        have HTK := Lib.hid htk
        have HXF2 := Lib.hid hxF
        have HOWN := Lib.hid hown
        have HON := Lib.hid hO
        have hadd : IntKind.i64.wrap ((i : Int) + (sh : Int)) = ((i + sh : Nat) : Int) := by rw [IntWalk.i64_in _ (by omega)]; simp
        have hish : i + sh ≤ 100 := by omega
        clear hx hy hv0 htk hxF hown hO
        gi_wp2
        refine region_round l hmx (by kernel_rfl) ?_
        refine wpAnyIn_take (i := 1) (v := ?v1) rfl rfl (by kernel_rfl) (by kernel_rfl) (by kernel_rfl) (fun _ _ _ h => h) ⟨Or.inl ⟨by rfl, ?hy1⟩, fun _ => rfl⟩ ?rest1
        case hy1 => intro w; go_simp; with_reducible rfl
        refine wpAnyIn_take (i := 2) (v := ?v2) rfl rfl (by kernel_rfl) (by kernel_rfl) (by kernel_rfl) (fun _ _ _ h => h) ⟨Or.inl ⟨by rfl, ?hy2⟩, fun _ => rfl⟩ ?rest2
        case hy2 => intro w; go_simp; with_reducible rfl
        refine wpAnyIn_take (i := 3) (v := ?v3) rfl rfl (by kernel_rfl) (by kernel_rfl) (by kernel_rfl) (fun _ _ _ h => h) ⟨Or.inl ⟨by rfl, ?hy3⟩, fun _ => rfl⟩ ?rest3
        case hy3 => intro w; go_simp; with_reducible rfl
        refine wpAnyIn_take (i := 4) (v := ?v4) rfl rfl (by kernel_rfl) (by kernel_rfl) (by kernel_rfl) (fun _ _ _ h => h) ⟨Or.inl ⟨by rfl, ?hy4⟩, fun _ => rfl⟩ ?rest4
        case hy4 => intro w; go_simp; with_reducible rfl
        refine wpAnyIn_take (i := 5) (v := ?v5) rfl rfl (by kernel_rfl) (by kernel_rfl) (by kernel_rfl) (fun _ _ _ h => h) ⟨Or.inl ⟨by rfl, ?hy5⟩, fun _ => rfl⟩ ?rest5
        case hy5 => intro w; go_simp; with_reducible rfl
        refine wpAnyIn_take (i := 6) (v := ?v6) rfl rfl (by kernel_rfl) (by kernel_rfl) (by kernel_rfl) (fun _ _ _ h => h) ⟨Or.inl ⟨by rfl, ?hy6⟩, fun _ => rfl⟩ ?rest6
        case hy6 => intro w; go_simp; with_reducible rfl
        refine wpAnyIn_take (i := 7) (v := ?v7) rfl rfl (by kernel_rfl) (by kernel_rfl) (by kernel_rfl) (fun _ _ _ h => h) ⟨Or.inl ⟨by rfl, ?hy7⟩, fun _ => rfl⟩ ?rest7
        case hy7 => intro w; go_simp; with_reducible rfl
        refine wpAnyIn_take (i := 8) (v := ?v8) rfl rfl (by kernel_rfl) (by kernel_rfl) (by kernel_rfl) (fun _ _ _ h => h) ⟨Or.inl ⟨by rfl, ?hy8⟩, fun _ => rfl⟩ ?rest8
        case hy8 => intro w; go_simp; with_reducible rfl
        refine wpAnyIn_take (i := 9) (v := ?v9) rfl rfl (by kernel_rfl) (by kernel_rfl) (by kernel_rfl) (fun _ _ _ h => h) ⟨Or.inl ⟨by rfl, ?hy9⟩, fun _ => rfl⟩ ?rest9
        case hy9 => intro w; go_simp; with_reducible rfl
        refine wpAnyIn_ready (rs := [0, 10]) (by kernel_rfl) (by simp) ?_
        refine AllReadyIn.cons rfl (fun K hK => ?_) (AllReadyIn.cons rfl (fun K hK => ?_) AllReadyIn.nil)
        · go_simp
          refine hK _ _ ?_
          clear hK K
          refine wpAnyIn_ready (rs := [10]) (by kernel_rfl) (by simp) ?_
          refine AllReadyIn.cons rfl (fun K hK => ?_) AllReadyIn.nil
          go_simp
          refine hK _ _ ?_
          clear hK K
          refine wpAnyIn_ready (rs := [11]) (by kernel_rfl) (by simp) ?_
          refine AllReadyIn.cons rfl (fun K hK => ?_) AllReadyIn.nil
          go_simp
          refine hK _ _ ?_
          clear hK K
          refine wpAnyIn_ready (rs := [12]) (by kernel_rfl) (by simp) ?_
          refine AllReadyIn.cons rfl (fun K hK => ?_) AllReadyIn.nil
          go_simp
          refine hK _ _ ?_
          clear hK K
          refine wpAnyIn_done (by kernel_rfl) ?_ _
          try go_frame
          gi_wp2
          go_roundw
          case rel => exact ⟨i + 1, by omega, by go_num, by rw [HTK.out, ← List.append_assoc]; exact (pow_store HOWN.out HON.out (v := .int .i64 (y : Int)) (by rw [HXF2.out]) _ (.inl rfl)).1, (pow_store HOWN.out HON.out (v := .int .i64 (y : Int)) (by rw [HXF2.out]) _ (.inl rfl)).2.drew⟩
          case measure => simp [intOf]; omega
        · go_simp
          refine hK _ _ ?_
          clear hK K
          refine wpAnyIn_ready (rs := [0]) (by kernel_rfl) (by simp) ?_
          refine AllReadyIn.cons rfl (fun K hK => ?_) AllReadyIn.nil
          go_simp
          refine hK _ _ ?_
          clear hK K
          refine wpAnyIn_ready (rs := [11]) (by kernel_rfl) (by simp) ?_
          refine AllReadyIn.cons rfl (fun K hK => ?_) AllReadyIn.nil
          go_simp
          refine hK _ _ ?_
          clear hK K
          refine wpAnyIn_ready (rs := [12]) (by kernel_rfl) (by simp) ?_
          refine AllReadyIn.cons rfl (fun K hK => ?_) AllReadyIn.nil
          go_simp
          refine hK _ _ ?_
          clear hK K
          refine wpAnyIn_done (by kernel_rfl) ?_ _
          try go_frame
          gi_wp2
          go_roundw
          case rel => exact ⟨i + 1, by omega, by go_num, by rw [HTK.out, ← List.append_assoc]; exact (pow_store HOWN.out HON.out (v := .int .i64 (y : Int)) (by rw [HXF2.out]) _ (.inl rfl)).1, (pow_store HOWN.out HON.out (v := .int .i64 (y : Int)) (by rw [HXF2.out]) _ (.inl rfl)).2.drew⟩
          case measure => simp [intOf]; omega
      · have hie : i = len := by omega
        subst hie
        have hfl : ((pre ++ [(⟨blk, cp, c⟩ : Cyc)]).map Cyc.cyc).flatten = (pre.map Cyc.cyc).flatten ++ c.take i := by
          rw [List.map_append, List.flatten_append, List.take_of_length_le (by rw [HLN.out]; exact Nat.le_refl _)]; simp
        rw [← hfl] at hown
        have HOW := Lib.hid hown
        have hOs := hO.size
        have bp2 := Lib.hid ((hO.block (w1.heap.size + 1) (by omega) (by simp)).trans hbp)
        have bk2 := Lib.hid ((hO.block w.heap.size (by omega) (by simp; omega)).trans hbk)
        have hb2 := Lib.hid (hBW.trans (hO.below (n := w.heap.size) (by omega) (by simp; omega)))
        clear hown hfl
        gi_wp2
        exact ⟨hO, HOW.out, bp2.out, bk2.out, HNX.out, hb2.out⟩
  case done =>
    rintro D xs W hD hS ⟨hown, hbp, hbk, _, hBW⟩ hK
    have hpc := hbp.cell
    have hvv : visPart F n (xs.map Cyc.cyc).flatten = natCells ((List.range n).map F) := by rw [hS]; exact visPart_full F n _ HVIS.out
    rw [hvv] at hown
    have hblk := Blk.of_owns hown
    have HBL := Lib.hid hblk
    have hwD : w.heap.size ≤ D := by simp [hsb] at hD; omega
    have hgD : w1.heap.size ≠ D := by simp [hsb] at hD; omega
    clear hS hvv hown hblk
    gi_wp2
    refine ⟨by simp, .inl ⟨_, _, rfl, run_takeDeferred hK, ?_⟩⟩
    refine ⟨_, results_tmp2 rfl _ _ _, ?_⟩
    exact ⟨w1.heap.size, rfl, by omega, (World.putObj_heap_other hgD).trans HBL.out, hBW.trans (belowK_b (w := w) (Nat.le_refl _) W D _ _ hwD hK rfl rfl)⟩
  case stop =>
    rintro D pre W _ h _
    exact h.elim
end Go.Proofs.Ytdpnmepplkiljaa
