/-
  Contract of lengths of the statements' package; how many cycles there are of each length, plainly; and the law PermConjugate returns true at every three slices of integers, in every world, and leaves what lay as it lay.
-/
import Derived.Test.YtdpnmepplkiljaaZv
import Derived.Test.YtdpnmepplkiljaaY
namespace Go.Proofs.Ytdpnmepplkiljaa
open Go.RowKit Go.Shelf

/-! ### How many cycles of each length -/
def cntLen (L : List (List Nat)) (j : Nat) : Nat := (L.filter (fun c => decide (c.length = j))).length
def cntRow (L : List (List Nat)) : List Nat := (List.range 8).map (cntLen L)

theorem cntLen_snoc (L : List (List Nat)) (c : List Nat) (j : Nat) : cntLen (L ++ [c]) j = cntLen L j + if c.length = j then 1 else 0 := by
  unfold cntLen
  rw [List.filter_append, List.length_append]
  by_cases h : c.length = j <;> simp [h]

theorem cntLen_le (L : List (List Nat)) (j : Nat) : cntLen L j ≤ L.length := List.length_filter_le _ _

theorem cntRow_get (L : List (List Nat)) (j : Nat) (hj : j < 8) : (cntRow L)[j]?.getD 0 = cntLen L j := by simp [cntRow, hj]

theorem cntRow_set (L : List (List Nat)) (c : List Nat) (hc : c.length < 8) : (natCells (cntRow L)).set c.length (.int .i64 ((cntLen L c.length : Nat) + 1 : Int)) = natCells (cntRow (L ++ [c])) := by
  have e : (cntLen L c.length : Int) + 1 = ((cntLen L c.length + 1 : Nat) : Int) := by simp
  rw [e, natCells_set]
  congr 1
  refine ext_getD _ _ 8 (by simp [cntRow]) (by simp [cntRow]) (fun j hj => ?_)
  rw [getset _ _ _ _ (by simpa [cntRow] using hc), cntRow_get _ _ hj, cntRow_get _ _ hj, cntLen_snoc]
  by_cases h : c.length = j
  · subst h; rw [if_pos rfl, if_pos rfl]
  · rw [if_neg h, if_neg h]; rfl

theorem cnt_flat {ps : List Nat} (hp : IsPerm ps) (l : Nat) : ∀ (cs : List (List Nat)), (∀ c ∈ cs, c ∈ allCyc ps) → (cs.flatten.filter (fun x => decide (lenP ps x = l))).length = l * cntLen cs l
  | [], _ => by simp [cntLen]
  | c :: t, h => by
    have ih := cnt_flat hp l t (fun d hd => h d (List.mem_cons_of_mem _ hd))
    have hc := h c (List.mem_cons_self ..)
    have hx : ∀ x ∈ c, lenP ps x = c.length := (cycMore hp).lens c hc
    rw [List.flatten_cons, List.filter_append, List.length_append, ih]
    by_cases e : c.length = l
    · have h1 : c.filter (fun x => decide (lenP ps x = l)) = c := List.filter_eq_self.2 (fun x hm => by rw [hx x hm, e]; simp)
      have h2 : cntLen (c :: t) l = cntLen t l + 1 := by simp [cntLen, e]
      rw [h1, h2, e, Nat.mul_add, Nat.mul_one, Nat.add_comm]
    · have h1 : c.filter (fun x => decide (lenP ps x = l)) = [] := List.filter_eq_nil_iff.2 (fun x hm => by rw [hx x hm]; simpa using e)
      have h2 : cntLen (c :: t) l = cntLen t l := by simp [cntLen, e]
      rw [h1, h2]; simp

theorem cntP_eq {ps : List Nat} (hp : IsPerm ps) (l : Nat) : cntP ps l = l * cntLen (allCyc ps) l := by
  rw [← cnt_flat hp l (allCyc ps) (fun c hc => hc)]
  unfold cntP
  have hperm : (List.range ps.length).Perm (allCyc ps).flatten := (List.perm_ext_iff_of_nodup List.nodup_range (cycMore hp).nodup).2 fun a => ⟨fun ha => (cycFacts hp).cover a (List.mem_range.1 ha), fun ha => List.mem_range.2 (pre_lt hp (fun d hd => hd) ha)⟩
  exact (hperm.filter _).length_eq

theorem cntLen_long (ps : List Nat) (l : Nat) (h : 2 ≤ l) : cntLen (allCyc ps) l = cntLen (longs ps) l := by
  unfold cntLen longs
  rw [List.filter_filter]
  congr 2
  funext c
  by_cases e : c.length = l
  · simp [e]; omega
  · simp [e]

theorem cntLen_short (ps : List Nat) (l : Nat) (h : l < 2) : cntLen (longs ps) l = 0 := by
  unfold cntLen
  rw [List.length_eq_zero_iff, List.filter_eq_nil_iff]
  intro c hc
  have := (longs_sub hc).2
  simp; omega

theorem sum7 (f : Nat → Nat) : ∀ (t : List Nat), (∀ x ∈ t, 1 ≤ f x ∧ f x ≤ 7) →
    (t.filter (fun x => decide (f x = 1))).length + (t.filter (fun x => decide (f x = 2))).length + (t.filter (fun x => decide (f x = 3))).length + (t.filter (fun x => decide (f x = 4))).length + (t.filter (fun x => decide (f x = 5))).length + (t.filter (fun x => decide (f x = 6))).length + (t.filter (fun x => decide (f x = 7))).length = t.length
  | [], _ => rfl
  | x :: t, h => by
    have ih := sum7 f t (fun y hy => h y (List.mem_cons_of_mem _ hy))
    obtain ⟨h1, h7⟩ := h x (List.mem_cons_self ..)
    simp only [List.filter_cons, List.length_cons]
    obtain ⟨v, hv⟩ : ∃ v, f x = v := ⟨_, rfl⟩
    rw [hv] at h1 h7 ⊢
    match v, h1, h7 with
    | 1, _, _ => simp; omega
    | 2, _, _ => simp; omega
    | 3, _, _ => simp; omega
    | 4, _, _ => simp; omega
    | 5, _, _ => simp; omega
    | 6, _, _ => simp; omega
    | 7, _, _ => simp; omega

theorem lenP_range {ps : List Nat} (hp : IsPerm ps) (x : Nat) (hx : x < ps.length) : 1 ≤ lenP ps x ∧ lenP ps x ≤ 7 := by
  obtain ⟨c, hc, i, hi, rfl⟩ := in_cycle hp x hx
  rw [lenP_cyc hp hc i hi]
  exact (cycFacts hp).len c hc

theorem cntP_sum {ps : List Nat} (hp : IsPerm ps) : cntP ps 1 + cntP ps 2 + cntP ps 3 + cntP ps 4 + cntP ps 5 + cntP ps 6 + cntP ps 7 = ps.length := by
  have := sum7 (lenP ps) (List.range ps.length) (fun x hx => lenP_range hp x (List.mem_range.1 hx))
  rw [List.length_range] at this
  exact this

/-- Two permutations have as many cycles of each length if and only if the choice does not fail. -/
theorem rows_iff {ps qs : List Nat} (hp : IsPerm ps) (hq : IsPerm qs) (hl : qs.length = ps.length) : cntRow (longs ps) = cntRow (longs qs) ↔ ∃ L, conjN ps qs = some L := by
  constructor
  · intro h
    rcases conjN_spec hp hq hl with ⟨L, h1, _⟩ | ⟨_, ⟨l, hlt⟩, _⟩
    · exact ⟨L, h1⟩
    · exfalso
      have big : ∀ j, 2 ≤ j → j < 8 → cntP ps j = cntP qs j := fun j h2 h8 => by
        rw [cntP_eq hp, cntP_eq hq, cntLen_long _ _ h2, cntLen_long _ _ h2, ← cntRow_get _ _ h8, ← cntRow_get _ _ h8, h]
      have s1 := cntP_sum hp
      have s2 := cntP_sum hq
      have e2 := big 2 (by omega) (by omega)
      have e3 := big 3 (by omega) (by omega)
      have e4 := big 4 (by omega) (by omega)
      have e5 := big 5 (by omega) (by omega)
      have e6 := big 6 (by omega) (by omega)
      have e7 := big 7 (by omega) (by omega)
      have hpos : 0 < cntP ps l := by omega
      obtain ⟨x, hx⟩ := List.exists_mem_of_length_pos hpos
      rw [List.mem_filter, List.mem_range, decide_eq_true_eq] at hx
      have hr := lenP_range hp x hx.1
      rw [hx.2] at hr
      by_cases h1 : l = 1
      · subst h1; omega
      · have := big l (by omega) (by omega)
        omega
  · rintro ⟨L, h⟩
    rcases conjN_spec hp hq hl with ⟨L', _, hc, _⟩ | ⟨h1, _⟩
    · refine ext_getD _ _ 8 (by simp [cntRow]) (by simp [cntRow]) (fun j hj => ?_)
      rw [cntRow_get _ _ hj, cntRow_get _ _ hj]
      by_cases h2 : 2 ≤ j
      · have := conj_cnt hc hp hq hl j
        rw [cntP_eq hp, cntP_eq hq, cntLen_long _ _ h2, cntLen_long _ _ h2] at this
        exact Nat.eq_of_mul_eq_mul_left (by omega) this
      · rw [cntLen_short _ _ (by omega), cntLen_short _ _ (by omega)]
    · rw [h] at h1; cases h1

/-! ### lengths -/
set_option maxRecDepth 100000 in
set_option maxHeartbeats 1000000 in
theorem lengths_ok (v : Value) (ps : List Nat) (w : World) (h : SlI w v (ints ps)) (hp : IsPerm ps) :
    Calls Try.prog 46 #[v] w fun e w' => ∃ g, e = .returned (.slice (some ⟨g, 0, none⟩) 8 8) ∧ Blk w' g (cntRow (longs ps)) ∧ Below w.heap.size w w' := by
  obtain ⟨i0, hi, hz0, hz1, hz2⟩ := info_parts Try.info3
  have HH := Lib.hid h
  clear h
  go_enter Try.func46, Try.ntmps46
  go_wp2_with (at_make; refine wpList_make_full _ rfl _ _ 22 rfl w.heap.size 3 i0 (.int .i64 0) 1 Try.underlying22 hi hz0 hz1 .i64 .i64 _ _ 8 rfl rfl rfl rfl (by rw [hz2]; omega) (by unfold maxLen; omega) (Nat.le_refl _) ?_; intro w1 hown hgrow)
  clear hi hz0 hz1 hz2
  have hB1 : Below w.heap.size w w1 := (Below.refl _ w).grown hgrow (Nat.le_refl _) (fun k e => by cases e)
  have hg1 : w.heap.size < w1.heap.size := (hown.lt w.heap.size rfl).2
  have hz : (madeCells (Value.int .i64 0).cells (8 * 1)).toList = natCells (cntRow []) := by rw [zeros_range]; simp [natCells, cntRow, cntLen]
  rw [hz] at hown
  clear hgrow hz
  go_wp2_with fail
  refine (cycles_ok _ ps _ (HH.out.below hB1) hp).mono ?_
  rintro e w2 ⟨lv, xs, rfl, hxs, hlv, _, hB2⟩
  have hrow := owns_below hown hB2
  have B2 := hB1.trans (hB2.mono hB1.size)
  have hL : (lg xs).map Cyc.cyc = longs ps := lg_longs hxs
  have hk7 : (lg xs).length ≤ 7 := lg_le hp hxs
  obtain ⟨ys, hys⟩ : ∃ ys, lg xs = ys := ⟨_, rfl⟩
  rw [hys] at hL hk7 hlv
  have hcl : ∀ y ∈ ys, y.cyc.length ≤ 7 := fun y hy => by
    have : y.cyc ∈ longs ps := by rw [← hL]; exact List.mem_map.2 ⟨y, hy, rfl⟩
    exact ((cyc_ok hp).2.1 _ (longs_sub this).1).2
  obtain ⟨m, hm⟩ : ∃ m, ys.length = m := ⟨_, rfl⟩
  rw [hm] at hlv hk7
  obtain ⟨la, lc, hle⟩ := owns_slice hlv
  have HM := Lib.hid hm
  have HL := Lib.hid hL
  have HCL := Lib.hid hcl
  subst hle
  clear hxs hys hB1 hB2 hown hm hL hcl
  go_wp2_with fail
  go_loopw [5] (fun iv wr => ∃ i : Nat, i ≤ m ∧ iv = .int .i64 i ∧ wr.ownsRow w.heap.size 3 1 (.slice (some ⟨w.heap.size, 0, none⟩) 8 8) 8 (natCells (cntRow ((ys.map Cyc.cyc).take i))) ∧ wr.ownsRow w1.heap.size 22 1 (.slice la m lc) m (ys.map Cyc.val) ∧ Below w.heap.size w wr) (fun iv _ => m - (intOf iv).toNat)
  case atStart => exact ⟨0, Nat.zero_le _, rfl, by rw [List.take_zero]; exact hrow, hlv, B2⟩
  case round =>
    clear hrow hlv B2
    obtain ⟨i, hi, rfl, hrow, hlv, hB⟩ := hrel
    by_cases him : i < m
    · have hiy : i < ys.length := by rw [HM.out]; exact him
      obtain ⟨g, cap', hge⟩ := owns_pos hlv (by omega)
      simp only [Value.slice.injEq] at hge
      obtain ⟨rfl, _, _⟩ := hge
      have cx : wr.cell? ⟨g, i, none⟩ = some (ys[i]).val := by
        rw [hlv.cellAt i (by omega), List.getElem?_map, List.getElem?_eq_getElem hiy]; rfl
      have hc7 := HCL.out _ (List.getElem_mem hiy)
      have htk : (ys.map Cyc.cyc).take (i + 1) = (ys.map Cyc.cyc).take i ++ [(ys[i]).cyc] := by
        rw [List.take_succ_eq_append_getElem (by rw [List.length_map]; exact hiy), List.getElem_map]
      obtain ⟨y, hy⟩ : ∃ y, ys[i] = y := ⟨_, rfl⟩
      rw [hy] at cx hc7 htk
      obtain ⟨yb, yc, c⟩ := y
      simp only [Cyc.val] at cx hc7 htk
      have hset := cntRow_set ((ys.map Cyc.cyc).take i) c (by omega)
      rw [← htk] at hset
      have cr : wr.cell? ⟨w.heap.size, c.length, none⟩ = some (.int .i64 ((cntLen ((ys.map Cyc.cyc).take i) c.length : Nat) : Int)) := (hrow.cellAt c.length (by omega)).trans (by rw [← cntRow_get _ _ (by omega)]; simp [natCells, cntRow, show c.length < 8 by omega])
      have hle := cntLen_le ((ys.map Cyc.cyc).take i) c.length
      have hle2 : ((ys.map Cyc.cyc).take i).length ≤ 7 := by rw [List.length_take]; omega
      obtain ⟨k, hk⟩ : ∃ k, cntLen ((ys.map Cyc.cyc).take i) c.length = k := ⟨_, rfl⟩
      rw [hk] at cr hset hle
      have hk8 : k ≤ 7 := by omega
      have fz := hrow.frozenAt c.length
      have hst := (hrow.stored c.length (.int .i64 ((k : Int) + 1))).1
      rw [hset] at hst
      have hlv2 := ownsRow_setCell_below hlv (a := ⟨w.heap.size, c.length, none⟩) hg1 (.int .i64 ((k : Int) + 1))
      obtain ⟨len, hlen⟩ : ∃ len, c.length = len := ⟨_, rfl⟩
      rw [hlen] at cx hc7 cr fz hst hlv2
      have HST := Lib.hid hst
      have HLV := Lib.hid hlv2
      clear hrow hlv htk hset hk hst hlv2 hy hlen hle hle2
      go_wp2
      go_roundw
      case rel => exact ⟨i + 1, by omega, by go_num, HST.out, HLV.out, hB.setCell (p := ⟨w.heap.size, len, none⟩) (Nat.le_refl _) _⟩
      case measure => simp [intOf]; omega
    · have hie : i = m := by omega
      have ht : (ys.map Cyc.cyc).take i = longs ps := by rw [List.take_of_length_le (by rw [List.length_map, HM.out]; omega), HL.out]
      rw [ht] at hrow
      have HR := Lib.hid hrow
      clear hrow ht
      go_wp2
      go_ret
      exact ⟨_, rfl, Blk.of_owns HR.out, hB⟩
/-! ### The law -/
theorem sints_dec (v v' : Value) (a b : List Nat) (w : World) (h : SlI w v (ints a)) (h' : SlI w v' (ints b)) (r : Bool) (hr : decide (a = b) = r) :
    Calls Try.prog 45 #[v, v'] w fun e w' => e = .returned (.bool r) ∧ Below w.heap.size w w' := by
  have := sints_any v v' _ _ w h h'
  have he : decide (ints a = ints b) = r := by
    rw [← hr, Bool.eq_iff_iff, decide_eq_true_eq, decide_eq_true_eq]
    exact ⟨ints_inj, fun e => by rw [e]⟩
  rw [he] at this
  exact this.mono fun _ _ ⟨he, q, hw⟩ => ⟨he, hw ▸ below_drewN' (Below.refl _ w) q⟩

theorem cntRow_length (L : List (List Nat)) : (cntRow L).length = 8 := by simp [cntRow]

set_option maxRecDepth 100000 in
set_option maxHeartbeats 1000000 in
theorem conjt_no (a a' a'' : Option Addr) (n cap n' cap' n'' cap'' : Nat) (l l' l'' : List Int) (w : World) (h : SlI w (.slice a n cap) l) (h' : SlI w (.slice a' n' cap') l') (h'' : SlI w (.slice a'' n'' cap'') l'') (hu : usable3 l l' l'' = false) :
    Calls Try.prog 10 #[.slice a n cap, .slice a' n' cap', .slice a'' n'' cap''] w fun e w' => e = .returned (.bool true) ∧ Below w.heap.size w w' := by
  have hs := usable_three a a' a'' n cap n' cap' n'' cap'' l l' l'' w h h' h''
  rw [hu] at hs
  have HS := Lib.hid hs
  clear hs hu h h' h''
  go_enter Try.func10, Try.ntmps10
  go_wp2_with fail
  refine HS.out.mono ?_
  rintro e w1 ⟨rfl, hB1⟩
  go_wp2_with fail
  refine (alive_any _).mono ?_
  rintro e w2 ⟨rfl, hB⟩
  go_wp2_with fail
  go_ret
  exact ⟨rfl, hB1.trans (hB.mono hB1.size)⟩

set_option maxRecDepth 100000 in
set_option maxHeartbeats 4000000 in
theorem conjt_ok (b off cap b2 off2 cap2 b3 off3 cap3 n : Nat) (ps qs cs : List Nat) (w : World) (hp : IsPerm ps) (hq : IsPerm qs) (hc : IsPerm cs) (hpn : ps.length = n) (hqn : qs.length = n) (hcn : cs.length = n)
    (hb : b < w.heap.size) (hb2 : b2 < w.heap.size) (hb3 : b3 < w.heap.size) (hrd : RdN w b off ps) (hrd2 : RdN w b2 off2 qs) (hrd3 : RdN w b3 off3 cs) (hu : usable3 (ints ps) (ints qs) (ints cs) = true) :
    Calls Try.prog 10 #[.slice (some ⟨b, off, none⟩) n cap, .slice (some ⟨b2, off2, none⟩) n cap2, .slice (some ⟨b3, off3, none⟩) n cap3] w fun e w' => e = .returned (.bool true) ∧ Below w.heap.size w w' := by
  have h7 : n ≤ 7 := by rw [← hpn]; exact hp.2.1
  have hsp : SlI w (.slice (some ⟨b, off, none⟩) n cap) (ints ps) := SlI.mk_perm (cap := cap) hp hpn hb hrd
  have hsq : SlI w (.slice (some ⟨b2, off2, none⟩) n cap2) (ints qs) := SlI.mk_perm (cap := cap2) hq hqn hb2 hrd2
  have hsc : SlI w (.slice (some ⟨b3, off3, none⟩) n cap3) (ints cs) := SlI.mk_perm (cap := cap3) hc hcn hb3 hrd3
  have hs := usable_three _ _ _ n cap n cap2 n cap3 _ _ _ w hsp hsq hsc
  rw [hu] at hs
  have hbp := backN_perm hc
  have hbl : (backN cs).length = n := by rw [backN_length]; exact hcn
  have hm1p := mulN_perm hbp hp (by rw [hbl, hpn])
  have hm1l : (mulN (backN cs) ps).length = n := by rw [mulN_length]; exact hbl
  have hm2p := mulN_perm hm1p hc (by rw [hm1l, hcn])
  have hm2l : (mulN (mulN (backN cs) ps) cs).length = n := by rw [mulN_length]; exact hm1l
  obtain ⟨cq, hcq⟩ : ∃ cq, mulN (mulN (backN cs) ps) cs = cq := ⟨_, rfl⟩
  rw [hcq] at hm2p hm2l
  have hcj : ConjP cs ps cq := (conj_iff hc (by rw [hm2l, hpn]) (by rw [hcn, hpn])).1 hcq
  obtain ⟨L1, hL1, hL1c, hL1m⟩ : ∃ L, conjN ps cq = some L ∧ ConjP L ps cq ∧ (cs = L ∨ lessN L cs = true) := by
    rcases conjN_spec hp hm2p (by rw [hm2l, hpn]) with ⟨L, h1, h2, h3⟩ | ⟨_, _, h3⟩
    · exact ⟨L, h1, h2, h3 cs hcj⟩
    · exact absurd hcj (h3 cs)
  have hL1l : L1.length = n := hL1c.len.trans hpn
  have hless : lessN cs L1 = false := by
    rcases hL1m with h | h
    · rw [h]; exact lessN_irrefl L1
    · exact lessN_asymm _ _ h
  have hrows := rows_iff hp hq (by rw [hpn, hqn])
  have hspec := conjN_spec hp hq (by rw [hpn, hqn])
  have h00 : ((0 : Int) == 0) = true := rfl
  have h60 : ((6 : Int) == 0) = false := rfl
  have h66 : ((6 : Int) == 6) = true := rfl
  have htt : (true != true) = false := rfl
  have hff : (false != false) = false := rfl
  have HS := Lib.hid hs
  have HPN := Lib.hid hpn
  have HQN := Lib.hid hqn
  have HCN := Lib.hid hcn
  have HSP := Lib.hid hsp
  have HSQ := Lib.hid hsq
  have HSC := Lib.hid hsc
  have HBL := Lib.hid hbl
  have HM1 := Lib.hid hm1l
  have HM2 := Lib.hid hm2l
  have HCQ := Lib.hid hcq
  have HL1 := Lib.hid hL1
  have HL1L := Lib.hid hL1l
  have HLESS := Lib.hid hless
  have HROWS := Lib.hid hrows
  clear hs hpn hqn hcn hsp hsq hsc hbl hm1l hm2l hcq hL1 hL1m hL1l hless hrows hu hcj
  rcases hspec with ⟨L2, hL2, hL2c, _⟩ | ⟨hno, _, _⟩
  · have hrr : decide (cntRow (longs ps) = cntRow (longs qs)) = true := decide_eq_true (HROWS.out.2 ⟨L2, hL2⟩)
    have hL2l : L2.length = n := hL2c.len.trans HPN.out
    have hL2q : mulN (mulN (backN L2) ps) L2 = qs := (conj_iff hL2c.perm (by rw [HQN.out, HPN.out]) hL2c.len).2 hL2c
    have HL2 := Lib.hid hL2
    have HRR := Lib.hid hrr
    have HL2L := Lib.hid hL2l
    have HL2Q := Lib.hid hL2q
    clear hL2 hrr hL2l hL2q
    go_enter Try.func10, Try.ntmps10
    go_wp2_with fail
    refine HS.out.mono ?_
    rintro e w1 ⟨rfl, B1⟩
    clear HS
    go_wp2_with fail
    refine (inverse_ok b3 off3 cap3 n cs _ hc HCN.out (Nat.lt_of_lt_of_le hb3 B1.size) (hrd3.below B1 hb3)).mono ?_
    rintro e w2 ⟨g2, rfl, hg2, k2, hB2⟩
    have B2 := B1.trans (hB2.mono B1.size)
    clear B1 hB2
    go_wp2_with fail
    refine (lmul_ok _ _ (backN cs) ps n _ (SlI.of_blk k2 HBL.out (by omega)) (HSP.out.below B2) hbp hp HBL.out HPN.out).mono ?_
    rintro e w3 ⟨g3, rfl, hg3, k3, hB3⟩
    have B3 := B2.trans (hB3.mono B2.size)
    clear B2 hB3 k2
    go_wp2_with fail
    refine (lmul_ok _ _ (mulN (backN cs) ps) cs n _ (SlI.of_blk k3 HM1.out (by omega)) (HSC.out.below B3) hm1p hc HM1.out HCN.out).mono ?_
    rintro e w4 ⟨g4, rfl, hg4, k4, hB4⟩
    rw [HCQ.out] at k4
    have B4 := B3.trans (hB4.mono B3.size)
    clear B3 hB4 k3
    go_wp2_with fail
    refine (conj_some b off cap g4 0 n n ps cq L1 _ hp hm2p HPN.out HM2.out (Nat.lt_of_lt_of_le hb B4.size) k4.lt (hrd.below B4 hb) k4.rd HL1.out).mono ?_
    rintro e w5 ⟨g5, rfl, hg5, k5, hB5⟩
    have B5 := B4.trans (hB5.mono B4.size)
    clear B4 hB5 k4
    go_wp2_with fail
    refine (conj_some b off cap b2 off2 cap2 n ps qs L2 _ hp hq HPN.out HQN.out (Nat.lt_of_lt_of_le hb B5.size) (Nat.lt_of_lt_of_le hb2 B5.size) (hrd.below B5 hb) (hrd2.below B5 hb2) HL2.out).mono ?_
    rintro e w6 ⟨g6, rfl, hg6, k6, hB6⟩
    have k56 := k5.below hB6 k5.lt
    have B6 := B5.trans (hB6.mono B5.size)
    clear B5 hB6 k5
    go_wp2_with fail
    refine (less_mid b3 off3 cap3 g5 0 n n cs L1 false _ h7 HCN.out HL1L.out (hrd3.below B6 hb3) k56.rd HLESS.out).mono ?_
    rintro e w7 ⟨rfl, q7, rfl⟩
    have hB7 := below_drewN' (Below.refl w6.heap.size w6) q7
    have k67 := k6.below hB7 k6.lt
    have B7 := B6.trans (hB7.mono B6.size)
    clear B6 hB7 k6 k56
    go_wp2_with fail
    refine (lengths_ok _ ps _ (HSP.out.below B7) hp).mono ?_
    rintro e w8 ⟨g8, rfl, k8, hB8⟩
    have k68 := k67.below hB8 k67.lt
    have B8 := B7.trans (hB8.mono B7.size)
    clear B7 hB8 k67
    go_wp2_with fail
    refine (lengths_ok _ qs _ (HSQ.out.below B8) hq).mono ?_
    rintro e w9 ⟨g9, rfl, k9, hB9⟩
    have k69 := k68.below hB9 k68.lt
    have k89 := k8.below hB9 k8.lt
    have B9 := B8.trans (hB9.mono B8.size)
    clear B8 hB9 k68 k8
    have hsd := sints_dec _ _ _ _ w9 (SlI.of_blk k89 (cntRow_length _) (by omega)) (SlI.of_blk k9 (cntRow_length _) (by omega)) _ HRR.out
    have HSD := Lib.hid hsd
    clear hsd k89 k9
    go_wp2_with fail
    refine HSD.out.mono ?_
    rintro e w10 ⟨rfl, hB10⟩
    have k60 := k69.below hB10 k69.lt
    have B10 := B9.trans (hB10.mono B9.size)
    clear B9 hB10 k69 HSD
    go_wp2_with fail
    refine (inverse_ok g6 0 n n L2 _ hL2c.perm HL2L.out k60.lt k60.rd).mono ?_
    rintro e w11 ⟨g11, rfl, hg11, k11, hB11⟩
    have k61 := k60.below hB11 k60.lt
    have B11 := B10.trans (hB11.mono B10.size)
    have hb2l : (backN L2).length = n := by rw [backN_length]; exact HL2L.out
    have hb2p := backN_perm hL2c.perm
    have hn1l : (mulN (backN L2) ps).length = n := by rw [mulN_length]; exact hb2l
    have hn1p := mulN_perm hb2p hp (by rw [hb2l, HPN.out])
    have HB2L := Lib.hid hb2l
    have HN1L := Lib.hid hn1l
    clear B10 hB11 k60 hb2l hn1l
    go_wp2_with fail
    refine (lmul_ok _ _ (backN L2) ps n _ (SlI.of_blk k11 HB2L.out (by omega)) (HSP.out.below B11) hb2p hp HB2L.out HPN.out).mono ?_
    rintro e w12 ⟨g12, rfl, hg12, k12, hB12⟩
    have k62 := k61.below hB12 k61.lt
    have B12 := B11.trans (hB12.mono B11.size)
    clear B11 hB12 k61 k11
    go_wp2_with fail
    refine (lmul_ok _ _ (mulN (backN L2) ps) L2 n _ (SlI.of_blk k12 HN1L.out (by omega)) (SlI.of_blk k62 HL2L.out (by omega)) hn1p hL2c.perm HN1L.out HL2L.out).mono ?_
    rintro e w13 ⟨g13, rfl, hg13, k13, hB13⟩
    rw [HL2Q.out] at k13
    have B13 := B12.trans (hB13.mono B12.size)
    clear B12 hB13 k62 k12
    have hsm := same_b _ _ _ _ w13 (SlI.of_blk k13 HQN.out (by omega)) (HSQ.out.below B13) rfl
    have HSM := Lib.hid hsm
    clear hsm k13
    go_wp2_with fail
    refine HSM.out.mono ?_
    rintro e w14 ⟨rfl, hB14⟩
    have B14 := B13.trans (hB14.mono B13.size)
    clear B13 hB14 HSM
    go_wp2_with fail
    refine (alive_any _).mono ?_
    rintro e w15 ⟨rfl, hB15⟩
    go_wp2_with fail
    go_ret
    exact ⟨rfl, B14.trans (hB15.mono B14.size)⟩
  · have hrr : decide (cntRow (longs ps) = cntRow (longs qs)) = false := decide_eq_false (fun h => by
      obtain ⟨L, hL⟩ := HROWS.out.1 h
      rw [hno] at hL; cases hL)
    have HNO := Lib.hid hno
    have HRR := Lib.hid hrr
    clear hno hrr
    go_enter Try.func10, Try.ntmps10
    go_wp2_with fail
    refine HS.out.mono ?_
    rintro e w1 ⟨rfl, B1⟩
    clear HS
    go_wp2_with fail
    refine (inverse_ok b3 off3 cap3 n cs _ hc HCN.out (Nat.lt_of_lt_of_le hb3 B1.size) (hrd3.below B1 hb3)).mono ?_
    rintro e w2 ⟨g2, rfl, hg2, k2, hB2⟩
    have B2 := B1.trans (hB2.mono B1.size)
    clear B1 hB2
    go_wp2_with fail
    refine (lmul_ok _ _ (backN cs) ps n _ (SlI.of_blk k2 HBL.out (by omega)) (HSP.out.below B2) hbp hp HBL.out HPN.out).mono ?_
    rintro e w3 ⟨g3, rfl, hg3, k3, hB3⟩
    have B3 := B2.trans (hB3.mono B2.size)
    clear B2 hB3 k2
    go_wp2_with fail
    refine (lmul_ok _ _ (mulN (backN cs) ps) cs n _ (SlI.of_blk k3 HM1.out (by omega)) (HSC.out.below B3) hm1p hc HM1.out HCN.out).mono ?_
    rintro e w4 ⟨g4, rfl, hg4, k4, hB4⟩
    rw [HCQ.out] at k4
    have B4 := B3.trans (hB4.mono B3.size)
    clear B3 hB4 k3
    go_wp2_with fail
    refine (conj_some b off cap g4 0 n n ps cq L1 _ hp hm2p HPN.out HM2.out (Nat.lt_of_lt_of_le hb B4.size) k4.lt (hrd.below B4 hb) k4.rd HL1.out).mono ?_
    rintro e w5 ⟨g5, rfl, hg5, k5, hB5⟩
    have B5 := B4.trans (hB5.mono B4.size)
    clear B4 hB5 k4
    go_wp2_with fail
    refine (conj_none b off cap b2 off2 cap2 n ps qs _ hp hq HPN.out HQN.out (Nat.lt_of_lt_of_le hb B5.size) (Nat.lt_of_lt_of_le hb2 B5.size) (hrd.below B5 hb) (hrd2.below B5 hb2) HNO.out).mono ?_
    rintro e w6 ⟨rfl, hB6⟩
    have k56 := k5.below hB6 k5.lt
    have B6 := B5.trans (hB6.mono B5.size)
    clear B5 hB6 k5
    go_wp2_with fail
    refine (less_mid b3 off3 cap3 g5 0 n n cs L1 false _ h7 HCN.out HL1L.out (hrd3.below B6 hb3) k56.rd HLESS.out).mono ?_
    rintro e w7 ⟨rfl, q7, rfl⟩
    have B7 := below_drewN' B6 q7
    clear B6 k56
    go_wp2_with fail
    refine (lengths_ok _ ps _ (HSP.out.below B7) hp).mono ?_
    rintro e w8 ⟨g8, rfl, k8, hB8⟩
    have B8 := B7.trans (hB8.mono B7.size)
    clear B7 hB8
    go_wp2_with fail
    refine (lengths_ok _ qs _ (HSQ.out.below B8) hq).mono ?_
    rintro e w9 ⟨g9, rfl, k9, hB9⟩
    have k89 := k8.below hB9 k8.lt
    have B9 := B8.trans (hB9.mono B8.size)
    clear B8 hB9 k8
    have hsd := sints_dec _ _ _ _ w9 (SlI.of_blk k89 (cntRow_length _) (by omega)) (SlI.of_blk k9 (cntRow_length _) (by omega)) _ HRR.out
    have HSD := Lib.hid hsd
    clear hsd k89 k9
    go_wp2_with fail
    refine HSD.out.mono ?_
    rintro e w10 ⟨rfl, hB10⟩
    have B10 := B9.trans (hB10.mono B9.size)
    clear B9 hB10 HSD
    go_wp2_with fail
    refine (alive_any _).mono ?_
    rintro e w15 ⟨rfl, hB15⟩
    go_wp2_with fail
    go_ret
    exact ⟨rfl, B10.trans (hB15.mono B10.size)⟩

theorem conjt_any (a a' a'' : Option Addr) (n cap n' cap' n'' cap'' : Nat) (l l' l'' : List Int) (w : World) (h : SlI w (.slice a n cap) l) (h' : SlI w (.slice a' n' cap') l') (h'' : SlI w (.slice a'' n'' cap'') l'') :
    Calls Try.prog 10 #[.slice a n cap, .slice a' n' cap', .slice a'' n'' cap''] w fun e w' => e = .returned (.bool true) ∧ Below w.heap.size w w' := by
  by_cases hu : usable3 l l' l'' = true
  · have hu2 := hu
    unfold usable3 at hu2
    simp only [Bool.and_eq_true, decide_eq_true_eq] at hu2
    obtain ⟨⟨⟨⟨v0, v1⟩, v2⟩, hl⟩, hl2⟩ := hu2
    obtain ⟨ps, rfl, hp⟩ := perm_valI v0
    obtain ⟨qs, rfl, hq⟩ := perm_valI v1
    obtain ⟨cs, rfl, hc⟩ := perm_valI v2
    rw [ints_length, ints_length] at hl hl2
    obtain ⟨b, off, c, hv, hb, hrd⟩ := h.perm hp
    obtain ⟨b2, off2, c2, hv2, hb2, hrd2⟩ := h'.perm hq
    obtain ⟨b3, off3, c3, hv3, hb3, hrd3⟩ := h''.perm hc
    rw [hv, hv2, hv3, hl, hl2]
    exact conjt_ok b off c b2 off2 c2 b3 off3 c3 ps.length ps qs cs w hp hq hc rfl hl hl2 hb hb2 hb3 hrd hrd2 hrd3 hu
  · exact conjt_no a a' a'' n cap n' cap' n'' cap'' l l' l'' w h h' h'' (by simpa using hu)
end Go.Proofs.Ytdpnmepplkiljaa
