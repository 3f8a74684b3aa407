/-
  The law PermValid returns true at every slice of integers, in every world, and leaves what lay as it lay.
-/
import Derived.Test.YtdpnmepplkiljaaZn
namespace Go.Proofs.Ytdpnmepplkiljaa
open Go.RowKit Go.Shelf

theorem order_bad (v : Value) (l : List Int) (w : World) (h : SlI w v l) (hn : valI l = false) :
    Calls Try.prog 18 #[v] w fun e w' => e = .returned (.int .i64 0) ∧ Below w.heap.size w w' := by
  go_enter Try.func18, Try.ntmps18
  go_wp2_with fail
  refine (valid_no v l _ h hn).mono ?_
  rintro e w1 ⟨rfl, hB1⟩
  go_wp2_with fail
  go_ret
  exact ⟨rfl, hB1⟩

theorem order_n (v : Value) (ps : List Nat) (o : Nat) (w : World) (h : SlI w v (ints ps)) (hp : IsPerm ps) (ho : ordN ps = o) :
    Calls Try.prog 18 #[v] w fun e w' => e = .returned (.int .i64 (o : Nat)) ∧ Below w.heap.size w w' := by
  have := order_any v ps w h hp
  rw [← ho]; exact this

theorem parity_n (v : Value) (ps : List Nat) (o : Nat) (w : World) (h : SlI w v (ints ps)) (hp : IsPerm ps) (ho : parP ps = o) :
    Calls Try.prog 19 #[v] w fun e w' => e = .returned (.int .i64 (o : Nat)) ∧ Below w.heap.size w w' := by
  rw [← ho]; exact parity_ok v ps w h hp

theorem rorder_n (b off cap n : Nat) (ps : List Nat) (o : Nat) (w : World) (hp : IsPerm ps) (hpn : ps.length = n) (hb : b < w.heap.size) (hrd : RdN w b off ps) (ho : ordN ps = o) :
    Calls Try.prog 22 #[.slice (some ⟨b, off, none⟩) n cap] w fun e w' => e = .returned (.int .i64 (o : Nat)) ∧ Below w.heap.size w w' := by
  rw [← ho]; exact rorder_ok b off cap n ps w hp hpn hb hrd

theorem rparity_n (b off cap n : Nat) (ps : List Nat) (o : Nat) (w : World) (hp : IsPerm ps) (hpn : ps.length = n) (hrd : RdN w b off ps) (ho : parP ps = o) :
    Calls Try.prog 23 #[.slice (some ⟨b, off, none⟩) n cap] w fun e w' => e = .returned (.int .i64 (o : Nat)) ∧ Below w.heap.size w w' := by
  have := rparity_mid b off cap n ps w (by rw [← hpn]; exact hp.1) (by rw [← hpn]; exact hp.2.1) hpn hrd
  rw [← hpn, (par_facts hp).1, ho, hpn] at this
  exact this.mono fun _ _ ⟨he, q, hw⟩ => ⟨he, hw ▸ below_drewN' (Below.refl _ w) q⟩

def longs (ps : List Nat) : List (List Nat) := (allCyc ps).filter (fun c => decide (1 < c.length))

theorem lg_longs {xs : List Cyc} {ps : List Nat} (h : xs.map Cyc.cyc = allCyc ps) : (lg xs).map Cyc.cyc = longs ps := by
  unfold longs lg
  rw [← h, List.filter_map]
  rfl

theorem lg_le {xs : List Cyc} {ps : List Nat} (hp : IsPerm ps) (h : xs.map Cyc.cyc = allCyc ps) : (lg xs).length ≤ 7 := by
  have h1 : (lg xs).length ≤ xs.length := List.length_filter_le _ _
  have h2 := congrArg List.length h
  have h3 := (cyc_ok hp).2.2
  rw [List.length_map] at h2
  omega

theorem cycles_sl (v : Value) (ps : List Nat) (w : World) (h : SlI w v (ints ps)) (hp : IsPerm ps) :
    Calls Try.prog 20 #[v] w fun e w' => ∃ lv, e = .returned lv ∧ SlL w' lv (longs ps) ∧ Below w.heap.size w w' := by
  refine (cycles_ok v ps w h hp).mono ?_
  rintro e w' ⟨lv, xs, rfl, hx, hown, hr, hB⟩
  refine ⟨lv, rfl, ?_, hB⟩
  rw [← lg_longs hx]
  exact SlL.of_lg hown hr (lg_le hp hx)

theorem rcycles_sl (b off cap n : Nat) (ps : List Nat) (w : World) (hp : IsPerm ps) (hpn : ps.length = n) (hb : b < w.heap.size) (hrd : RdN w b off ps) :
    Calls Try.prog 24 #[.slice (some ⟨b, off, none⟩) n cap] w fun e w' => ∃ lv, e = .returned lv ∧ SlL w' lv (longs ps) ∧ Below w.heap.size w w' := by
  refine (rcycles_ok b off cap n ps w hp hpn hb hrd).mono ?_
  rintro e w' ⟨lv, xs, rfl, hx, hown, hr, hB⟩
  refine ⟨lv, rfl, ?_, hB⟩
  rw [← lg_longs hx]
  exact SlL.of_lg hown hr (lg_le hp hx)

set_option maxRecDepth 100000 in
set_option maxHeartbeats 1000000 in
theorem valids_long (a : Option Addr) (n cap : Nat) (w : World) (hn : ¬ n ≤ 100) :
    Calls Try.prog 3 #[.slice a n cap] w fun e w' => e = .returned (.bool true) ∧ Below w.heap.size w w' := by
  have hs := short_one a n cap w false (by rw [decide_eq_false hn])
  have HS := Lib.hid hs
  clear hs hn
  go_enter Try.func3, Try.ntmps3
  go_wp2_with fail
  refine HS.out.mono ?_
  rintro e w1 ⟨rfl, rfl⟩
  go_wp2_with fail
  refine (alive_any _).mono ?_
  rintro e w2 ⟨rfl, hB⟩
  go_wp2_with fail
  go_ret
  exact ⟨rfl, (alloc_below w _).trans (hB.mono (by simp))⟩

set_option maxRecDepth 100000 in
set_option maxHeartbeats 2000000 in
theorem valids_bad (a : Option Addr) (n cap : Nat) (l : List Int) (w : World) (h : SlI w (.slice a n cap) l) (hn : n ≤ 100) (hv : valI l = false) :
    Calls Try.prog 3 #[.slice a n cap] w fun e w' => e = .returned (.bool true) ∧ Below w.heap.size w w' := by
  have hs := short_one a n cap w true (by rw [decide_eq_true hn])
  have HS := Lib.hid hs
  have hB1 := alloc_below w (.cells #[.slice a n cap] 23)
  have hr := rvalid_no _ l _ (h.below hB1) hv
  have HR := Lib.hid hr
  have HV := Lib.hid hv
  have HH := Lib.hid h
  have hz : ((0 : Int) == 0) = true := rfl
  have hm : ((-1 : Int) == -1) = true := rfl
  clear hs hn hr hv h
  go_enter Try.func3, Try.ntmps3
  go_wp2_with fail
  refine HS.out.mono ?_
  rintro e w1 ⟨rfl, rfl⟩
  go_wp2_with fail
  refine HR.out.mono ?_
  rintro e w2 ⟨rfl, q, rfl⟩
  have hB2 := below_drewN' hB1 q
  clear HS HR hB1
  go_wp2_with fail
  refine (inverse_bad _ l _ (HH.out.below hB2) HV.out).mono ?_
  rintro e w3 ⟨rfl, hB3⟩
  have hBB3 := hB2.trans (hB3.mono hB2.size)
  clear hB2 hB3
  go_wp2_with fail
  refine (valid_no _ l _ (HH.out.below hBB3) HV.out).mono ?_
  rintro e w4 ⟨rfl, hB4⟩
  have hBB4 := hBB3.trans (hB4.mono hBB3.size)
  clear hBB3 hB4
  go_wp2_with fail
  refine (order_bad _ l _ (HH.out.below hBB4) HV.out).mono ?_
  rintro e w5 ⟨rfl, hB5⟩
  have hBB5 := hBB4.trans (hB5.mono hBB4.size)
  clear hBB4 hB5
  go_wp2_with fail
  refine (parity_bad _ l _ (HH.out.below hBB5) HV.out).mono ?_
  rintro e w6 ⟨rfl, hB6⟩
  have hBB6 := hBB5.trans (hB6.mono hBB5.size)
  clear hBB5 hB6
  go_wp2_with fail
  refine (cycles_bad _ l _ (HH.out.below hBB6) HV.out).mono ?_
  rintro e w7 ⟨rfl, hB7⟩
  have hBB7 := hBB6.trans (hB7.mono hBB6.size)
  clear hBB6 hB7
  go_wp2_with fail
  refine (is_bad _ 1 _ rfl rfl).mono ?_
  rintro e w4 ⟨rfl, rfl⟩
  go_wp2_with fail
  refine (alive_any _).mono ?_
  rintro e w8 ⟨rfl, hB8⟩
  go_wp2_with fail
  go_ret
  exact ⟨rfl, hBB7.trans (hB8.mono hBB7.size)⟩

set_option maxRecDepth 100000 in
set_option maxHeartbeats 2000000 in
theorem valids_ok (b off cap n : Nat) (ps : List Nat) (w : World) (hp : IsPerm ps) (hpn : ps.length = n) (hb : b < w.heap.size) (hrd : RdN w b off ps) :
    Calls Try.prog 3 #[.slice (some ⟨b, off, none⟩) n cap] w fun e w' => e = .returned (.bool true) ∧ Below w.heap.size w w' := by
  have h1 : 1 ≤ n := by rw [← hpn]; exact hp.1
  have h7 : n ≤ 7 := by rw [← hpn]; exact hp.2.1
  have hlp : ∀ k, k < n → ps[k]?.getD 0 < n := fun k hk => by have := hp.lt k (by rw [hpn]; exact hk); rwa [hpn] at this
  have hs := short_one (some ⟨b, off, none⟩) n cap w true (by rw [decide_eq_true]; omega)
  have HS := Lib.hid hs
  have hB1 := alloc_below w (.cells #[.slice (some ⟨b, off, none⟩) n cap] 23)
  have hsl : SlI w (.slice (some ⟨b, off, none⟩) n cap) (ints ps) := SlI.mk_perm (cap := cap) hp hpn hb hrd
  have hr := rvalid_yes _ _ _ (hsl.below hB1) (valI_perm hp)
  have HR := Lib.hid hr
  have HPN := Lib.hid hpn
  have HLP := Lib.hid hlp
  have HSL := Lib.hid hsl
  obtain ⟨o, ho⟩ : ∃ o, ordN ps = o := ⟨_, rfl⟩
  obtain ⟨p, hpar⟩ : ∃ p, parP ps = p := ⟨_, rfl⟩
  have HO := Lib.hid ho
  have HP := Lib.hid hpar
  have hoo : ((o : Int) == (o : Int)) = true := beq_self_eq_true _
  have hpp : ((p : Int) == (p : Int)) = true := beq_self_eq_true _
  clear hs hr hpn hlp hsl ho hpar
  go_enter Try.func3, Try.ntmps3
  go_wp2_with fail
  refine HS.out.mono ?_
  rintro e w1 ⟨rfl, rfl⟩
  go_wp2_with fail
  refine HR.out.mono ?_
  rintro e w2 ⟨rfl, q, rfl⟩
  have B2 := below_drewN' hB1 q
  clear HS HR hB1
  go_wp2_with fail
  refine (rorder_n b off cap n ps o _ hp HPN.out (Nat.lt_of_lt_of_le hb B2.size) (hrd.below B2 hb) HO.out).mono ?_
  rintro e w3 ⟨rfl, hB3⟩
  have B3 := B2.trans (hB3.mono B2.size)
  clear B2 hB3
  go_wp2_with fail
  refine (rparity_n b off cap n ps p _ hp HPN.out (hrd.below B3 hb) HP.out).mono ?_
  rintro e w4 ⟨rfl, hB4⟩
  have B4 := B3.trans (hB4.mono B3.size)
  clear B3 hB4
  go_wp2_with fail
  refine (rcycles_sl b off cap n ps _ hp HPN.out (Nat.lt_of_lt_of_le hb B4.size) (hrd.below B4 hb)).mono ?_
  rintro e w5 ⟨cv, rfl, c5, hB5⟩
  have B5 := B4.trans (hB5.mono B4.size)
  clear B4 hB5
  go_wp2_with fail
  refine (rinv_any b off cap n ps _ h1 h7 HPN.out hp.2.2.2 HLP.out (Nat.lt_of_lt_of_le hb B5.size) (hrd.below B5 hb)).mono ?_
  rintro e w6 ⟨g6, rfl, hg6, b6, hB6⟩
  have c6 := c5.below hB6
  have B6 := B5.trans (hB6.mono B5.size)
  clear B5 hB6 c5
  go_wp2_with fail
  refine (inverse_ok b off cap n ps _ hp HPN.out (Nat.lt_of_lt_of_le hb B6.size) (hrd.below B6 hb)).mono ?_
  rintro e w7 ⟨g7, rfl, hg7, b7, hB7⟩
  have c7 := c6.below hB7
  have b67 := b6.below hB7 b6.lt
  have B7 := B6.trans (hB7.mono B6.size)
  clear B6 hB7 c6 b6
  go_wp2_with fail
  refine (valid_yes _ _ _ (HSL.out.below B7) (valI_perm hp)).mono ?_
  rintro e w8 ⟨rfl, hB8⟩
  have c8 := c7.below hB8
  have b68 := b67.below hB8 b67.lt
  have b78 := b7.below hB8 b7.lt
  have B8 := B7.trans (hB8.mono B7.size)
  clear B7 hB8 c7 b67 b7
  go_wp2_with fail
  refine (order_n _ ps o _ (HSL.out.below B8) hp HO.out).mono ?_
  rintro e w9 ⟨rfl, hB9⟩
  have c9 := c8.below hB9
  have b69 := b68.below hB9 b68.lt
  have b79 := b78.below hB9 b78.lt
  have B9 := B8.trans (hB9.mono B8.size)
  clear B8 hB9 c8 b68 b78
  go_wp2_with fail
  refine (parity_n _ ps p _ (HSL.out.below B9) hp HP.out).mono ?_
  rintro e w10 ⟨rfl, hB10⟩
  have c10 := c9.below hB10
  have b60 := b69.below hB10 b69.lt
  have b70 := b79.below hB10 b79.lt
  have B10 := B9.trans (hB10.mono B9.size)
  clear B9 hB10 c9 b69 b79
  go_wp2_with fail
  refine (cycles_sl _ ps _ (HSL.out.below B10) hp).mono ?_
  rintro e w11 ⟨lv, rfl, l11, hB11⟩
  have c11 := c10.below hB11
  have b61 := b60.below hB11 b60.lt
  have b71 := b70.below hB11 b70.lt
  have B11 := B10.trans (hB11.mono B10.size)
  clear B10 hB11 c10 b60 b70
  go_wp2_with fail
  refine (slists_yes _ _ _ _ l11 c11).mono ?_
  rintro e w12 ⟨rfl, hB12⟩
  have b62 := b61.below hB12 b61.lt
  have b72 := b71.below hB12 b71.lt
  have B12 := B11.trans (hB12.mono B11.size)
  clear B11 hB12 c11 l11 b61 b71
  have hbl : (backN ps).length = n := by rw [backN_length]; exact HPN.out
  have his := is_okb _ _ _ _ _ (SlI.of_blk b72 hbl (by omega)) (SlI.of_blk b62 hbl (by omega)) rfl
  have HIS := Lib.hid his
  clear his hbl b62 b72
  go_wp2_with fail
  refine HIS.out.mono ?_
  rintro e w13 ⟨rfl, hB13⟩
  have B13 := B12.trans (hB13.mono B12.size)
  clear B12 hB13 HIS
  go_wp2_with fail
  refine (alive_any _).mono ?_
  rintro e w14 ⟨rfl, hB14⟩
  go_wp2_with fail
  go_ret
  exact ⟨rfl, B13.trans (hB14.mono B13.size)⟩

theorem valids_any (a : Option Addr) (n cap : Nat) (l : List Int) (w : World) (h : SlI w (.slice a n cap) l) :
    Calls Try.prog 3 #[.slice a n cap] w fun e w' => e = .returned (.bool true) ∧ Below w.heap.size w w' := by
  by_cases hn : n ≤ 100
  · by_cases hv : valI l = true
    · obtain ⟨ps, rfl, hp⟩ := perm_valI hv
      obtain ⟨b, off, c, hve, hb, hrd⟩ := h.perm hp
      rw [hve]
      exact valids_ok b off c ps.length ps w hp rfl hb hrd
    · exact valids_bad a n cap l w h hn (by simpa using hv)
  · exact valids_long a n cap w hn
end Go.Proofs.Ytdpnmepplkiljaa
