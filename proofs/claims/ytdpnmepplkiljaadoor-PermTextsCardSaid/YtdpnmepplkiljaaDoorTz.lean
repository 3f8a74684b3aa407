/-
  The laws PermTexts and PermBack at every slice of integers, string and number.
-/
import Derived.Test.YtdpnmepplkiljaaDoorTk
import Derived.Test.YtdpnmepplkiljaaDoorZh
import Derived.Test.YtdpnmepplkiljaaDoorW
namespace Go.Proofs.YtdpnmepplkiljaaDoor
open Go.RowKit Go.Shelf

theorem isrow_cap {w : World} {a : Option Addr} {len cap : Nat} {zs : List Int}
    (h : (a = none ∧ len = 0 ∧ cap = 0 ∧ zs = []) ∨
      ∃ x, a = some x ∧ len ≤ cap ∧ cap ≤ maxLen ∧ zs.length = cap ∧ (∀ i, i < zs.length → w.cell? (x.add i) = some (.int .i64 (zs.getD i 0))) ∧ ∀ n ∈ zs, (Lit.int .i64 n).wf = true) : len ≤ cap := by
  rcases h with ⟨_, rfl, rfl, _⟩ | ⟨_, _, h, _⟩
  · exact Nat.le_refl _
  · exact h

theorem rparse_no (s : ByteArray) (n : Nat) (w : World) (h1 : 1 ≤ n) (h7 : n ≤ 7) (hs : s.size ≤ 100000) (hno : ∀ qs, ¬ Parsed n s qs) :
    Calls Tryd.prog 14 #[.string s, .int .i64 n] w fun e w' => e = .returned (.tuple #[.slice none 0 0, .bool false]) ∧ Below w.heap.size w w' := by
  by_cases hb : 28 < s.size
  · exact rparse_big s n w hb hs
  · refine (rparse_any s n _ w h1 h7 (by omega) rfl).mono ?_
    rintro e w' (⟨qs, g, _, h, _⟩ | ⟨_, h2, h3⟩)
    · exact absurd h (hno qs)
    · exact ⟨h2, h3⟩

theorem rparse_yes (s : ByteArray) (n : Nat) (qs : List Nat) (w : World) (h1 : 1 ≤ n) (h7 : n ≤ 7) (hq : Parsed n s qs) :
    Calls Tryd.prog 14 #[.string s, .int .i64 n] w fun e w' => ∃ g, e = .returned (.tuple #[.slice (some ⟨g, 0, none⟩) n n, .bool true]) ∧ w.heap.size ≤ g ∧ Blk w' g qs ∧ Below w.heap.size w w' := by
  refine (rparse_any s n _ w h1 h7 hq.facts.1 hq.facts.2.2).mono ?_
  rintro e w' (⟨rs, g, _, h, h2, h3, h4, h5⟩ | ⟨h, _⟩)
  · obtain rfl := h.unique hq
    exact ⟨g, h2, h3, h4, h5⟩
  · exact absurd ⟨rfl, hq⟩ (h qs)

set_option maxRecDepth 100000 in
set_option maxHeartbeats 4000000 in
theorem texts_ok_lo (a : Option Addr) (cap : Nat) (ps : List Nat) (s : ByteArray) (hs : s.size ≤ 2000) (w : World) (h : SlI w (.slice a ps.length cap) (ints ps)) (hp : IsPerm ps) (hcap : ps.length ≤ cap) (N : Int) (hN : N < 1) :
    Calls Tryd.prog 3 #[.slice a ps.length cap, .string s, .int .i64 N] w fun e w' => e = .returned (.bool true) ∧ Below w.heap.size w w' := by
  have hn : ps.length ≤ 100 := by have := hp.2.1; omega
  have hs := short_one a ps.length cap w true (by rw [decide_eq_true hn])
  have HS := Lib.hid hs
  have HH := Lib.hid h
  have hB0 := alloc_below w (.cells #[.slice a ps.length cap] 23)
  clear hs h
  go_enter Tryd.func3, Tryd.ntmps3
  go_wp2_with fail
  refine HS.out.mono ?_
  rintro e w1 ⟨rfl, rfl⟩
  generalize w.alloc (.cells #[.slice a ps.length cap] 23) = W0 at hB0 ⊢
  clear HS
  have HV := Lib.hid (rvalid_yes _ _ W0 (HH.out.below hB0) (valI_perm hp))
  go_wp2_with fail
  refine HV.out.mono ?_
  rintro e W1 ⟨rfl, q, rfl⟩
  have hB1 : Below w.heap.size w (W0.drewN q) := below_drewN' hB0 q
  generalize W0.drewN q = W1 at hB1 ⊢
  obtain ⟨b, off, cap', hve, hb, hrd⟩ := (HH.out.below hB1).perm hp
  cases hve
  obtain ⟨m, hm⟩ : ∃ m, ps.length = m := ⟨_, rfl⟩
  have hnm : (ints ps).length = m := by rw [ints_length]; exact hm
  have hcap' : m ≤ cap := by rw [← hm]; exact hcap
  rw [hm] at HH ⊢
  have HT := Lib.hid (rtext_ok b off cap m ps W1 hp hm hb hrd)
  have HM := Lib.hid hm
  have HRD := Lib.hid hrd
  clear HV hm hnm hrd hcap
  go_wp2_with fail
  refine HT.out.mono ?_
  rintro e W2 ⟨rfl, hB2⟩
  have h2 := hB1.trans (hB2.mono hB1.size)
  have hb2 := Nat.lt_of_lt_of_le hb hB2.size
  have hrd2 := HRD.out.below hB2 hb
  have HR := Lib.hid (rrank_ok b off cap m ps W2 hp HM.out hb2 hrd2)
  have HRD2 := Lib.hid hrd2
  clear hrd2 HT
  go_wp2_with fail
  refine HR.out.mono ?_
  rintro e W3 ⟨rfl, q, rfl⟩
  have hB3 : Below w.heap.size w (W2.drewN q) := below_drewN' h2 q
  have hb3 : b < (W2.drewN q).heap.size := hb2
  have hrd3 : RdN (W2.drewN q) b off ps := HRD2.out
  generalize W2.drewN q = W3 at hB3 hb3 hrd3 ⊢
  have HT2 := Lib.hid (text_ok _ ps W3 (HH.out.below hB3) hp)
  have HRD3 := Lib.hid hrd3
  clear hrd3 HR
  go_wp2_with fail
  refine HT2.out.mono ?_
  rintro e W4 ⟨rfl, hB4⟩
  have h4 := hB3.trans (hB4.mono hB3.size)
  have HR2 := Lib.hid (rank_ok b off cap m ps W4 hp HM.out hcap' (Nat.lt_of_lt_of_le hb3 hB4.size) (HRD3.out.below hB4 hb3))
  clear HT2
  go_wp2_with fail
  refine HR2.out.mono ?_
  rintro e W5 ⟨rfl, hB5⟩
  have h5 := h4.trans (hB5.mono h4.size)
  clear HR2 hB5 hB4 hB3 hB2 h2 h4
  have HP := Lib.hid (parse_n s N W5 (.inl hN))
  go_wp2_with fail
  refine HP.out.mono ?_
  rintro e W6 ⟨rfl, hB6⟩
  have h6 := h5.trans (hB6.mono h5.size)
  clear HP
  go_wp2_with fail
  refine (is_bad _ 2 _ rfl rfl).mono ?_
  rintro e W7 ⟨rfl, rfl⟩
  go_wp2_with fail
  refine (alive_any _).mono ?_
  rintro e WZ ⟨rfl, hBZ⟩
  go_wp2_with fail
  go_ret
  exact ⟨rfl, h6.trans (hBZ.mono h6.size)⟩

set_option maxRecDepth 100000 in
set_option maxHeartbeats 4000000 in
theorem texts_ok_hi (a : Option Addr) (cap : Nat) (ps : List Nat) (s : ByteArray) (hs : s.size ≤ 2000) (w : World) (h : SlI w (.slice a ps.length cap) (ints ps)) (hp : IsPerm ps) (hcap : ps.length ≤ cap) (N : Int) (hN : 7 < N) :
    Calls Tryd.prog 3 #[.slice a ps.length cap, .string s, .int .i64 N] w fun e w' => e = .returned (.bool true) ∧ Below w.heap.size w w' := by
  have hN2 : ¬ N < 1 := by omega
  have hn : ps.length ≤ 100 := by have := hp.2.1; omega
  have hs := short_one a ps.length cap w true (by rw [decide_eq_true hn])
  have HS := Lib.hid hs
  have HH := Lib.hid h
  have hB0 := alloc_below w (.cells #[.slice a ps.length cap] 23)
  clear hs h
  go_enter Tryd.func3, Tryd.ntmps3
  go_wp2_with fail
  refine HS.out.mono ?_
  rintro e w1 ⟨rfl, rfl⟩
  generalize w.alloc (.cells #[.slice a ps.length cap] 23) = W0 at hB0 ⊢
  clear HS
  have HV := Lib.hid (rvalid_yes _ _ W0 (HH.out.below hB0) (valI_perm hp))
  go_wp2_with fail
  refine HV.out.mono ?_
  rintro e W1 ⟨rfl, q, rfl⟩
  have hB1 : Below w.heap.size w (W0.drewN q) := below_drewN' hB0 q
  generalize W0.drewN q = W1 at hB1 ⊢
  obtain ⟨b, off, cap', hve, hb, hrd⟩ := (HH.out.below hB1).perm hp
  cases hve
  obtain ⟨m, hm⟩ : ∃ m, ps.length = m := ⟨_, rfl⟩
  have hnm : (ints ps).length = m := by rw [ints_length]; exact hm
  have hcap' : m ≤ cap := by rw [← hm]; exact hcap
  rw [hm] at HH ⊢
  have HT := Lib.hid (rtext_ok b off cap m ps W1 hp hm hb hrd)
  have HM := Lib.hid hm
  have HRD := Lib.hid hrd
  clear HV hm hnm hrd hcap
  go_wp2_with fail
  refine HT.out.mono ?_
  rintro e W2 ⟨rfl, hB2⟩
  have h2 := hB1.trans (hB2.mono hB1.size)
  have hb2 := Nat.lt_of_lt_of_le hb hB2.size
  have hrd2 := HRD.out.below hB2 hb
  have HR := Lib.hid (rrank_ok b off cap m ps W2 hp HM.out hb2 hrd2)
  have HRD2 := Lib.hid hrd2
  clear hrd2 HT
  go_wp2_with fail
  refine HR.out.mono ?_
  rintro e W3 ⟨rfl, q, rfl⟩
  have hB3 : Below w.heap.size w (W2.drewN q) := below_drewN' h2 q
  have hb3 : b < (W2.drewN q).heap.size := hb2
  have hrd3 : RdN (W2.drewN q) b off ps := HRD2.out
  generalize W2.drewN q = W3 at hB3 hb3 hrd3 ⊢
  have HT2 := Lib.hid (text_ok _ ps W3 (HH.out.below hB3) hp)
  have HRD3 := Lib.hid hrd3
  clear hrd3 HR
  go_wp2_with fail
  refine HT2.out.mono ?_
  rintro e W4 ⟨rfl, hB4⟩
  have h4 := hB3.trans (hB4.mono hB3.size)
  have HR2 := Lib.hid (rank_ok b off cap m ps W4 hp HM.out hcap' (Nat.lt_of_lt_of_le hb3 hB4.size) (HRD3.out.below hB4 hb3))
  clear HT2
  go_wp2_with fail
  refine HR2.out.mono ?_
  rintro e W5 ⟨rfl, hB5⟩
  have h5 := h4.trans (hB5.mono h4.size)
  clear HR2 hB5 hB4 hB3 hB2 h2 h4
  have HP := Lib.hid (parse_n s N W5 (.inr hN))
  go_wp2_with fail
  refine HP.out.mono ?_
  rintro e W6 ⟨rfl, hB6⟩
  have h6 := h5.trans (hB6.mono h5.size)
  clear HP
  go_wp2_with fail
  refine (is_bad _ 2 _ rfl rfl).mono ?_
  rintro e W7 ⟨rfl, rfl⟩
  go_wp2_with fail
  refine (alive_any _).mono ?_
  rintro e WZ ⟨rfl, hBZ⟩
  go_wp2_with fail
  go_ret
  exact ⟨rfl, h6.trans (hBZ.mono h6.size)⟩

set_option maxRecDepth 100000 in
set_option maxHeartbeats 4000000 in
theorem texts_ok_no (a : Option Addr) (cap : Nat) (ps : List Nat) (s : ByteArray) (hs : s.size ≤ 2000) (w : World) (h : SlI w (.slice a ps.length cap) (ints ps)) (hp : IsPerm ps) (hcap : ps.length ≤ cap) (N : Nat) (h1 : 1 ≤ N) (h7 : N ≤ 7) (hno : ∀ qs, ¬ Parsed N s qs) :
    Calls Tryd.prog 3 #[.slice a ps.length cap, .string s, .int .i64 N] w fun e w' => e = .returned (.bool true) ∧ Below w.heap.size w w' := by
  have HNO := Lib.hid hno
  clear hno
  have hn : ps.length ≤ 100 := by have := hp.2.1; omega
  have hs := short_one a ps.length cap w true (by rw [decide_eq_true hn])
  have HS := Lib.hid hs
  have HH := Lib.hid h
  have hB0 := alloc_below w (.cells #[.slice a ps.length cap] 23)
  clear hs h
  go_enter Tryd.func3, Tryd.ntmps3
  go_wp2_with fail
  refine HS.out.mono ?_
  rintro e w1 ⟨rfl, rfl⟩
  generalize w.alloc (.cells #[.slice a ps.length cap] 23) = W0 at hB0 ⊢
  clear HS
  have HV := Lib.hid (rvalid_yes _ _ W0 (HH.out.below hB0) (valI_perm hp))
  go_wp2_with fail
  refine HV.out.mono ?_
  rintro e W1 ⟨rfl, q, rfl⟩
  have hB1 : Below w.heap.size w (W0.drewN q) := below_drewN' hB0 q
  generalize W0.drewN q = W1 at hB1 ⊢
  obtain ⟨b, off, cap', hve, hb, hrd⟩ := (HH.out.below hB1).perm hp
  cases hve
  obtain ⟨m, hm⟩ : ∃ m, ps.length = m := ⟨_, rfl⟩
  have hnm : (ints ps).length = m := by rw [ints_length]; exact hm
  have hcap' : m ≤ cap := by rw [← hm]; exact hcap
  rw [hm] at HH ⊢
  have HT := Lib.hid (rtext_ok b off cap m ps W1 hp hm hb hrd)
  have HM := Lib.hid hm
  have HRD := Lib.hid hrd
  clear HV hm hnm hrd hcap
  go_wp2_with fail
  refine HT.out.mono ?_
  rintro e W2 ⟨rfl, hB2⟩
  have h2 := hB1.trans (hB2.mono hB1.size)
  have hb2 := Nat.lt_of_lt_of_le hb hB2.size
  have hrd2 := HRD.out.below hB2 hb
  have HR := Lib.hid (rrank_ok b off cap m ps W2 hp HM.out hb2 hrd2)
  have HRD2 := Lib.hid hrd2
  clear hrd2 HT
  go_wp2_with fail
  refine HR.out.mono ?_
  rintro e W3 ⟨rfl, q, rfl⟩
  have hB3 : Below w.heap.size w (W2.drewN q) := below_drewN' h2 q
  have hb3 : b < (W2.drewN q).heap.size := hb2
  have hrd3 : RdN (W2.drewN q) b off ps := HRD2.out
  generalize W2.drewN q = W3 at hB3 hb3 hrd3 ⊢
  have HT2 := Lib.hid (text_ok _ ps W3 (HH.out.below hB3) hp)
  have HRD3 := Lib.hid hrd3
  clear hrd3 HR
  go_wp2_with fail
  refine HT2.out.mono ?_
  rintro e W4 ⟨rfl, hB4⟩
  have h4 := hB3.trans (hB4.mono hB3.size)
  have HR2 := Lib.hid (rank_ok b off cap m ps W4 hp HM.out hcap' (Nat.lt_of_lt_of_le hb3 hB4.size) (HRD3.out.below hB4 hb3))
  clear HT2
  go_wp2_with fail
  refine HR2.out.mono ?_
  rintro e W5 ⟨rfl, hB5⟩
  have h5 := h4.trans (hB5.mono h4.size)
  clear HR2 hB5 hB4 hB3 hB2 h2 h4
  have HP := Lib.hid (parse_no s N W5 h1 h7 (by omega) HNO.out)
  go_wp2_with fail
  refine HP.out.mono ?_
  rintro e W6 ⟨rfl, hB6⟩
  have h6 := h5.trans (hB6.mono h5.size)
  have HP2 := Lib.hid (rparse_no s N W6 h1 h7 (by omega) HNO.out)
  clear HP
  go_wp2_with fail
  refine HP2.out.mono ?_
  rintro e W7 ⟨rfl, hB7⟩
  have h7' := h6.trans (hB7.mono h6.size)
  clear HP2
  go_wp2_with fail
  refine (is_bad _ 3 _ rfl rfl).mono ?_
  rintro e W8 ⟨rfl, rfl⟩
  go_wp2_with fail
  refine (alive_any _).mono ?_
  rintro e WZ ⟨rfl, hBZ⟩
  go_wp2_with fail
  go_ret
  exact ⟨rfl, h7'.trans (hBZ.mono h7'.size)⟩

set_option maxRecDepth 100000 in
set_option maxHeartbeats 4000000 in
theorem texts_ok_yes (a : Option Addr) (cap : Nat) (ps : List Nat) (s : ByteArray) (hs : s.size ≤ 2000) (w : World) (h : SlI w (.slice a ps.length cap) (ints ps)) (hp : IsPerm ps) (hcap : ps.length ≤ cap) (N : Nat) (h1 : 1 ≤ N) (h7 : N ≤ 7) (qs : List Nat) (hq : Parsed N s qs) :
    Calls Tryd.prog 3 #[.slice a ps.length cap, .string s, .int .i64 N] w fun e w' => e = .returned (.bool true) ∧ Below w.heap.size w w' := by
  have HQ := Lib.hid hq
  clear hq
  have hn : ps.length ≤ 100 := by have := hp.2.1; omega
  have hs := short_one a ps.length cap w true (by rw [decide_eq_true hn])
  have HS := Lib.hid hs
  have HH := Lib.hid h
  have hB0 := alloc_below w (.cells #[.slice a ps.length cap] 23)
  clear hs h
  go_enter Tryd.func3, Tryd.ntmps3
  go_wp2_with fail
  refine HS.out.mono ?_
  rintro e w1 ⟨rfl, rfl⟩
  generalize w.alloc (.cells #[.slice a ps.length cap] 23) = W0 at hB0 ⊢
  clear HS
  have HV := Lib.hid (rvalid_yes _ _ W0 (HH.out.below hB0) (valI_perm hp))
  go_wp2_with fail
  refine HV.out.mono ?_
  rintro e W1 ⟨rfl, q, rfl⟩
  have hB1 : Below w.heap.size w (W0.drewN q) := below_drewN' hB0 q
  generalize W0.drewN q = W1 at hB1 ⊢
  obtain ⟨b, off, cap', hve, hb, hrd⟩ := (HH.out.below hB1).perm hp
  cases hve
  obtain ⟨m, hm⟩ : ∃ m, ps.length = m := ⟨_, rfl⟩
  have hnm : (ints ps).length = m := by rw [ints_length]; exact hm
  have hcap' : m ≤ cap := by rw [← hm]; exact hcap
  rw [hm] at HH ⊢
  have HT := Lib.hid (rtext_ok b off cap m ps W1 hp hm hb hrd)
  have HM := Lib.hid hm
  have HRD := Lib.hid hrd
  clear HV hm hnm hrd hcap
  go_wp2_with fail
  refine HT.out.mono ?_
  rintro e W2 ⟨rfl, hB2⟩
  have h2 := hB1.trans (hB2.mono hB1.size)
  have hb2 := Nat.lt_of_lt_of_le hb hB2.size
  have hrd2 := HRD.out.below hB2 hb
  have HR := Lib.hid (rrank_ok b off cap m ps W2 hp HM.out hb2 hrd2)
  have HRD2 := Lib.hid hrd2
  clear hrd2 HT
  go_wp2_with fail
  refine HR.out.mono ?_
  rintro e W3 ⟨rfl, q, rfl⟩
  have hB3 : Below w.heap.size w (W2.drewN q) := below_drewN' h2 q
  have hb3 : b < (W2.drewN q).heap.size := hb2
  have hrd3 : RdN (W2.drewN q) b off ps := HRD2.out
  generalize W2.drewN q = W3 at hB3 hb3 hrd3 ⊢
  have HT2 := Lib.hid (text_ok _ ps W3 (HH.out.below hB3) hp)
  have HRD3 := Lib.hid hrd3
  clear hrd3 HR
  go_wp2_with fail
  refine HT2.out.mono ?_
  rintro e W4 ⟨rfl, hB4⟩
  have h4 := hB3.trans (hB4.mono hB3.size)
  have HR2 := Lib.hid (rank_ok b off cap m ps W4 hp HM.out hcap' (Nat.lt_of_lt_of_le hb3 hB4.size) (HRD3.out.below hB4 hb3))
  clear HT2
  go_wp2_with fail
  refine HR2.out.mono ?_
  rintro e W5 ⟨rfl, hB5⟩
  have h5 := h4.trans (hB5.mono h4.size)
  clear HR2 hB5 hB4 hB3 hB2 h2 h4
  have HP := Lib.hid (parse_yes s N qs W5 h1 h7 (by omega) HQ.out)
  go_wp2_with fail
  refine HP.out.mono ?_
  rintro e W6 ⟨g, rfl, hg, hbk, hB6⟩
  have h6 := h5.trans (hB6.mono h5.size)
  have HP2 := Lib.hid (rparse_yes s N qs W6 h1 h7 HQ.out)
  have HBK := Lib.hid hbk
  clear HP hbk
  go_wp2_with fail
  refine HP2.out.mono ?_
  rintro e W7 ⟨g2, rfl, hg2, hbk2, hB7⟩
  have h7' := h6.trans (hB7.mono h6.size)
  have HI := Lib.hid (is_okb _ _ _ _ W7 (SlI.of_blk (HBK.out.below hB7 HBK.out.lt) HQ.out.2.1 (by omega)) (SlI.of_blk hbk2 HQ.out.2.1 (by omega)) rfl)
  clear HP2 hbk2
  go_wp2_with fail
  refine HI.out.mono ?_
  rintro e W8 ⟨rfl, hB8⟩
  have h8 := h7'.trans (hB8.mono h7'.size)
  clear HI
  go_wp2_with fail
  refine (alive_any _).mono ?_
  rintro e WZ ⟨rfl, hBZ⟩
  go_wp2_with fail
  go_ret
  exact ⟨rfl, h8.trans (hBZ.mono h8.size)⟩

set_option maxRecDepth 100000 in
set_option maxHeartbeats 4000000 in
theorem texts_bad_lo (a : Option Addr) (n cap : Nat) (l : List Int) (s : ByteArray) (hs : s.size ≤ 2000) (w : World) (h : SlI w (.slice a n cap) l) (hv : valI l = false) (hn : n ≤ 100) (N : Int) (hN : N < 1) :
    Calls Tryd.prog 3 #[.slice a n cap, .string s, .int .i64 N] w fun e w' => e = .returned (.bool true) ∧ Below w.heap.size w w' := by
  have hs := short_one a n cap w true (by rw [decide_eq_true hn])
  have HS := Lib.hid hs
  have HH := Lib.hid h
  have hB0 := alloc_below w (.cells #[.slice a n cap] 23)
  clear hs h
  go_enter Tryd.func3, Tryd.ntmps3
  go_wp2_with fail
  refine HS.out.mono ?_
  rintro e w1 ⟨rfl, rfl⟩
  generalize w.alloc (.cells #[.slice a n cap] 23) = W0 at hB0 ⊢
  clear HS
  have HV := Lib.hid (rvalid_no _ _ W0 (HH.out.below hB0) hv)
  go_wp2_with fail
  refine HV.out.mono ?_
  rintro e W1 ⟨rfl, q, rfl⟩
  have hB1 : Below w.heap.size w (W0.drewN q) := below_drewN' hB0 q
  generalize W0.drewN q = W1 at hB1 ⊢
  have HT := Lib.hid (text_bad _ _ W1 (HH.out.below hB1) hv)
  clear HV
  go_wp2_with fail
  refine HT.out.mono ?_
  rintro e W2 ⟨rfl, hB2⟩
  have h2 := hB1.trans (hB2.mono hB1.size)
  have HR := Lib.hid (rank_bad _ _ W2 (HH.out.below h2) hv)
  clear HT
  go_wp2_with fail
  refine HR.out.mono ?_
  rintro e W5 ⟨rfl, hB5⟩
  have h5 := h2.trans (hB5.mono h2.size)
  clear HR hB5 hB2 h2
  have HP := Lib.hid (parse_n s N W5 (.inl hN))
  go_wp2_with fail
  refine HP.out.mono ?_
  rintro e W6 ⟨rfl, hB6⟩
  have h6 := h5.trans (hB6.mono h5.size)
  clear HP
  go_wp2_with fail
  refine (is_bad _ 2 _ rfl rfl).mono ?_
  rintro e W7 ⟨rfl, rfl⟩
  go_wp2_with fail
  refine (alive_any _).mono ?_
  rintro e WZ ⟨rfl, hBZ⟩
  go_wp2_with fail
  go_ret
  exact ⟨rfl, h6.trans (hBZ.mono h6.size)⟩

set_option maxRecDepth 100000 in
set_option maxHeartbeats 4000000 in
theorem texts_bad_hi (a : Option Addr) (n cap : Nat) (l : List Int) (s : ByteArray) (hs : s.size ≤ 2000) (w : World) (h : SlI w (.slice a n cap) l) (hv : valI l = false) (hn : n ≤ 100) (N : Int) (hN : 7 < N) :
    Calls Tryd.prog 3 #[.slice a n cap, .string s, .int .i64 N] w fun e w' => e = .returned (.bool true) ∧ Below w.heap.size w w' := by
  have hN2 : ¬ N < 1 := by omega
  have hs := short_one a n cap w true (by rw [decide_eq_true hn])
  have HS := Lib.hid hs
  have HH := Lib.hid h
  have hB0 := alloc_below w (.cells #[.slice a n cap] 23)
  clear hs h
  go_enter Tryd.func3, Tryd.ntmps3
  go_wp2_with fail
  refine HS.out.mono ?_
  rintro e w1 ⟨rfl, rfl⟩
  generalize w.alloc (.cells #[.slice a n cap] 23) = W0 at hB0 ⊢
  clear HS
  have HV := Lib.hid (rvalid_no _ _ W0 (HH.out.below hB0) hv)
  go_wp2_with fail
  refine HV.out.mono ?_
  rintro e W1 ⟨rfl, q, rfl⟩
  have hB1 : Below w.heap.size w (W0.drewN q) := below_drewN' hB0 q
  generalize W0.drewN q = W1 at hB1 ⊢
  have HT := Lib.hid (text_bad _ _ W1 (HH.out.below hB1) hv)
  clear HV
  go_wp2_with fail
  refine HT.out.mono ?_
  rintro e W2 ⟨rfl, hB2⟩
  have h2 := hB1.trans (hB2.mono hB1.size)
  have HR := Lib.hid (rank_bad _ _ W2 (HH.out.below h2) hv)
  clear HT
  go_wp2_with fail
  refine HR.out.mono ?_
  rintro e W5 ⟨rfl, hB5⟩
  have h5 := h2.trans (hB5.mono h2.size)
  clear HR hB5 hB2 h2
  have HP := Lib.hid (parse_n s N W5 (.inr hN))
  go_wp2_with fail
  refine HP.out.mono ?_
  rintro e W6 ⟨rfl, hB6⟩
  have h6 := h5.trans (hB6.mono h5.size)
  clear HP
  go_wp2_with fail
  refine (is_bad _ 2 _ rfl rfl).mono ?_
  rintro e W7 ⟨rfl, rfl⟩
  go_wp2_with fail
  refine (alive_any _).mono ?_
  rintro e WZ ⟨rfl, hBZ⟩
  go_wp2_with fail
  go_ret
  exact ⟨rfl, h6.trans (hBZ.mono h6.size)⟩

set_option maxRecDepth 100000 in
set_option maxHeartbeats 4000000 in
theorem texts_bad_no (a : Option Addr) (n cap : Nat) (l : List Int) (s : ByteArray) (hs : s.size ≤ 2000) (w : World) (h : SlI w (.slice a n cap) l) (hv : valI l = false) (hn : n ≤ 100) (N : Nat) (h1 : 1 ≤ N) (h7 : N ≤ 7) (hno : ∀ qs, ¬ Parsed N s qs) :
    Calls Tryd.prog 3 #[.slice a n cap, .string s, .int .i64 N] w fun e w' => e = .returned (.bool true) ∧ Below w.heap.size w w' := by
  have HNO := Lib.hid hno
  clear hno
  have hs := short_one a n cap w true (by rw [decide_eq_true hn])
  have HS := Lib.hid hs
  have HH := Lib.hid h
  have hB0 := alloc_below w (.cells #[.slice a n cap] 23)
  clear hs h
  go_enter Tryd.func3, Tryd.ntmps3
  go_wp2_with fail
  refine HS.out.mono ?_
  rintro e w1 ⟨rfl, rfl⟩
  generalize w.alloc (.cells #[.slice a n cap] 23) = W0 at hB0 ⊢
  clear HS
  have HV := Lib.hid (rvalid_no _ _ W0 (HH.out.below hB0) hv)
  go_wp2_with fail
  refine HV.out.mono ?_
  rintro e W1 ⟨rfl, q, rfl⟩
  have hB1 : Below w.heap.size w (W0.drewN q) := below_drewN' hB0 q
  generalize W0.drewN q = W1 at hB1 ⊢
  have HT := Lib.hid (text_bad _ _ W1 (HH.out.below hB1) hv)
  clear HV
  go_wp2_with fail
  refine HT.out.mono ?_
  rintro e W2 ⟨rfl, hB2⟩
  have h2 := hB1.trans (hB2.mono hB1.size)
  have HR := Lib.hid (rank_bad _ _ W2 (HH.out.below h2) hv)
  clear HT
  go_wp2_with fail
  refine HR.out.mono ?_
  rintro e W5 ⟨rfl, hB5⟩
  have h5 := h2.trans (hB5.mono h2.size)
  clear HR hB5 hB2 h2
  have HP := Lib.hid (parse_no s N W5 h1 h7 (by omega) HNO.out)
  go_wp2_with fail
  refine HP.out.mono ?_
  rintro e W6 ⟨rfl, hB6⟩
  have h6 := h5.trans (hB6.mono h5.size)
  have HP2 := Lib.hid (rparse_no s N W6 h1 h7 (by omega) HNO.out)
  clear HP
  go_wp2_with fail
  refine HP2.out.mono ?_
  rintro e W7 ⟨rfl, hB7⟩
  have h7' := h6.trans (hB7.mono h6.size)
  clear HP2
  go_wp2_with fail
  refine (is_bad _ 3 _ rfl rfl).mono ?_
  rintro e W8 ⟨rfl, rfl⟩
  go_wp2_with fail
  refine (alive_any _).mono ?_
  rintro e WZ ⟨rfl, hBZ⟩
  go_wp2_with fail
  go_ret
  exact ⟨rfl, h7'.trans (hBZ.mono h7'.size)⟩

set_option maxRecDepth 100000 in
set_option maxHeartbeats 4000000 in
theorem texts_bad_yes (a : Option Addr) (n cap : Nat) (l : List Int) (s : ByteArray) (hs : s.size ≤ 2000) (w : World) (h : SlI w (.slice a n cap) l) (hv : valI l = false) (hn : n ≤ 100) (N : Nat) (h1 : 1 ≤ N) (h7 : N ≤ 7) (qs : List Nat) (hq : Parsed N s qs) :
    Calls Tryd.prog 3 #[.slice a n cap, .string s, .int .i64 N] w fun e w' => e = .returned (.bool true) ∧ Below w.heap.size w w' := by
  have HQ := Lib.hid hq
  clear hq
  have hs := short_one a n cap w true (by rw [decide_eq_true hn])
  have HS := Lib.hid hs
  have HH := Lib.hid h
  have hB0 := alloc_below w (.cells #[.slice a n cap] 23)
  clear hs h
  go_enter Tryd.func3, Tryd.ntmps3
  go_wp2_with fail
  refine HS.out.mono ?_
  rintro e w1 ⟨rfl, rfl⟩
  generalize w.alloc (.cells #[.slice a n cap] 23) = W0 at hB0 ⊢
  clear HS
  have HV := Lib.hid (rvalid_no _ _ W0 (HH.out.below hB0) hv)
  go_wp2_with fail
  refine HV.out.mono ?_
  rintro e W1 ⟨rfl, q, rfl⟩
  have hB1 : Below w.heap.size w (W0.drewN q) := below_drewN' hB0 q
  generalize W0.drewN q = W1 at hB1 ⊢
  have HT := Lib.hid (text_bad _ _ W1 (HH.out.below hB1) hv)
  clear HV
  go_wp2_with fail
  refine HT.out.mono ?_
  rintro e W2 ⟨rfl, hB2⟩
  have h2 := hB1.trans (hB2.mono hB1.size)
  have HR := Lib.hid (rank_bad _ _ W2 (HH.out.below h2) hv)
  clear HT
  go_wp2_with fail
  refine HR.out.mono ?_
  rintro e W5 ⟨rfl, hB5⟩
  have h5 := h2.trans (hB5.mono h2.size)
  clear HR hB5 hB2 h2
  have HP := Lib.hid (parse_yes s N qs W5 h1 h7 (by omega) HQ.out)
  go_wp2_with fail
  refine HP.out.mono ?_
  rintro e W6 ⟨g, rfl, hg, hbk, hB6⟩
  have h6 := h5.trans (hB6.mono h5.size)
  have HP2 := Lib.hid (rparse_yes s N qs W6 h1 h7 HQ.out)
  have HBK := Lib.hid hbk
  clear HP hbk
  go_wp2_with fail
  refine HP2.out.mono ?_
  rintro e W7 ⟨g2, rfl, hg2, hbk2, hB7⟩
  have h7' := h6.trans (hB7.mono h6.size)
  have HI := Lib.hid (is_okb _ _ _ _ W7 (SlI.of_blk (HBK.out.below hB7 HBK.out.lt) HQ.out.2.1 (by omega)) (SlI.of_blk hbk2 HQ.out.2.1 (by omega)) rfl)
  clear HP2 hbk2
  go_wp2_with fail
  refine HI.out.mono ?_
  rintro e W8 ⟨rfl, hB8⟩
  have h8 := h7'.trans (hB8.mono h7'.size)
  clear HI
  go_wp2_with fail
  refine (alive_any _).mono ?_
  rintro e WZ ⟨rfl, hBZ⟩
  go_wp2_with fail
  go_ret
  exact ⟨rfl, h8.trans (hBZ.mono h8.size)⟩

set_option maxRecDepth 100000 in
set_option maxHeartbeats 4000000 in
theorem texts_long (a : Option Addr) (n cap : Nat) (s : ByteArray) (N : Int) (w : World) (hn : ¬ (n ≤ 100 ∧ s.size ≤ 2000)) (hm : s.size ≤ 9223372036854775807) :
    Calls Tryd.prog 3 #[.slice a n cap, .string s, .int .i64 N] w fun e w' => e = .returned (.bool true) ∧ Below w.heap.size w w' := by
  by_cases h100 : n ≤ 100
  · have hs := short_one a n cap w true (by rw [decide_eq_true h100])
    have HS := Lib.hid hs
    have hbig : 2000 < s.size := by omega
    clear hs
    go_enter Tryd.func3, Tryd.ntmps3
    go_wp2_with fail
    refine HS.out.mono ?_
    rintro e w1 ⟨rfl, rfl⟩
    go_wp2_with fail
    refine (alive_any _).mono ?_
    rintro e WZ ⟨rfl, hBZ⟩
    go_wp2_with fail
    go_ret
    exact ⟨rfl, (alloc_below w _).trans (hBZ.mono (by simp))⟩
  · have hs := short_one a n cap w false (by rw [decide_eq_false h100])
    have HS := Lib.hid hs
    clear hs
    go_enter Tryd.func3, Tryd.ntmps3
    go_wp2_with fail
    refine HS.out.mono ?_
    rintro e w1 ⟨rfl, rfl⟩
    go_wp2_with fail
    refine (alive_any _).mono ?_
    rintro e WZ ⟨rfl, hBZ⟩
    go_wp2_with fail
    go_ret
    exact ⟨rfl, (alloc_below w _).trans (hBZ.mono (by simp))⟩

theorem texts_any (a : Option Addr) (n cap : Nat) (l : List Int) (s : ByteArray) (N : Int) (w : World) (h : SlI w (.slice a n cap) l) (hcap : n ≤ cap) (hm : s.size ≤ 9223372036854775807) :
    Calls Tryd.prog 3 #[.slice a n cap, .string s, .int .i64 N] w fun e w' => e = .returned (.bool true) ∧ Below w.heap.size w w' := by
  by_cases hn : n ≤ 100 ∧ s.size ≤ 2000
  · rcases hv : valI l with _ | _
    · by_cases hlo : N < 1
      · exact texts_bad_lo a n cap l s hn.2 w h hv hn.1 N hlo
      · by_cases hhi : 7 < N
        · exact texts_bad_hi a n cap l s hn.2 w h hv hn.1 N hhi
        · obtain ⟨M, rfl⟩ : ∃ M : Nat, N = M := ⟨N.toNat, by omega⟩
          by_cases hq : ∃ qs, Parsed M s qs
          · obtain ⟨qs, hq⟩ := hq
            exact texts_bad_yes a n cap l s hn.2 w h hv hn.1 M (by omega) (by omega) qs hq
          · exact texts_bad_no a n cap l s hn.2 w h hv hn.1 M (by omega) (by omega) (fun qs h => hq ⟨qs, h⟩)
    · obtain ⟨ps, rfl, hp⟩ := perm_valI hv
      obtain rfl : n = ps.length := by obtain ⟨_, _, hv, _⟩ := h; cases hv; rw [ints_length]
      by_cases hlo : N < 1
      · exact texts_ok_lo a cap ps s hn.2 w h hp hcap N hlo
      · by_cases hhi : 7 < N
        · exact texts_ok_hi a cap ps s hn.2 w h hp hcap N hhi
        · obtain ⟨M, rfl⟩ : ∃ M : Nat, N = M := ⟨N.toNat, by omega⟩
          by_cases hq : ∃ qs, Parsed M s qs
          · obtain ⟨qs, hq⟩ := hq
            exact texts_ok_yes a cap ps s hn.2 w h hp hcap M (by omega) (by omega) qs hq
          · exact texts_ok_no a cap ps s hn.2 w h hp hcap M (by omega) (by omega) (fun qs h => hq ⟨qs, h⟩)
  · exact texts_long a n cap s N w hn hm
end Go.Proofs.YtdpnmepplkiljaaDoor
