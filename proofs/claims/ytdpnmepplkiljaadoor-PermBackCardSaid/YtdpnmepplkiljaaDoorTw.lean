/-
  Contract of Text of package perm at every slice of integers.
-/
import Derived.Test.YtdpnmepplkiljaaDoorBu
import Derived.Test.YtdpnmepplkiljaaDoorTm
import Derived.Test.YtdpnmepplkiljaaDoorZl
namespace Go.Proofs.YtdpnmepplkiljaaDoor
open Go.RowKit Go.Shelf

/-- The bytes of a list of codes, as cells. -/
def bcells (l : List Nat) : List Value := l.map fun x => Value.int .u8 ((UInt8.ofNat x).toNat : Int)
theorem bcells_app (a b : List Nat) : bcells (a ++ b) = bcells a ++ bcells b := by simp [bcells]
theorem bcells_length (a : List Nat) : (bcells a).length = a.length := by simp [bcells]
theorem bcells_byte (l : List Nat) : bcells l = Lib.byteCells (l.map UInt8.ofNat) := by
  simp [bcells, Lib.byteCells, List.map_map, Function.comp_def]
theorem digit_cells (n : Nat) : Lib.strCells ⟨#[digit n]⟩ = bcells [48 + n] := rfl

theorem eltsAt_len (c : List Nat) : ∀ k, (eltsAt c k).length ≤ 2 * k
  | 0 => by simp [eltsAt]
  | k + 1 => by
    rw [eltsAt_succ, List.length_append, List.length_append]
    have := eltsAt_len c k
    rcases Nat.beq k 0 with _ | _ <;> simp <;> omega
theorem cycText_len (c : List Nat) : (cycText c).length ≤ 2 * c.length + 2 := by
  unfold cycText
  rw [List.length_cons, List.length_append]
  have := eltsAt_len c c.length
  simp
  omega

set_option maxRecDepth 100000 in
set_option maxHeartbeats 2000000 in
theorem wcycle_any (b hi g cap n : Nat) (pre cyc : List Nat) (w : World) (h : Bld b hi (bcells pre) w) (hp : pre.length ≤ 1000) (hn : cyc.length = n) (hn7 : n ≤ 7) (hlt : ∀ j, j < n → cyc[j]?.getD 0 < 7) (hr : RdN w g 0 cyc) (hg : g < hi) (hgb : g ≠ b) (hhi : hi ≤ w.heap.size) :
    Calls Tryd.prog 25 #[.pointer (some ⟨b, 0, none⟩), .slice (some ⟨g, 0, none⟩) n cap] w fun e w' => e = .returned (.tuple #[]) ∧ Bld b hi (bcells (pre ++ cycText cyc)) w' ∧ Only (fun k => k = b ∨ hi ≤ k) w w' := by
  have HN := Lib.hid hn
  have HLT := Lib.hid hlt
  have HB := Lib.hid h
  clear hn hlt h
  have hl0 : (bcells pre).length ≤ 1000 := by rw [bcells_length]; exact hp
  go_enter Tryd.func25, Tryd.ntmps25
  go_wp2_with fail
  refine (wbyte_any b hi (bcells pre) 40 w HB.out (by omega) hhi).mono ?_
  rintro e w1 ⟨rfl, hb1, hO1⟩
  go_wp2_with fail
  go_loopw [10] (fun i W => ∃ k : Nat, k ≤ n ∧ i = .int .i64 k ∧ Bld b hi (bcells (pre ++ 40 :: eltsAt cyc k)) W ∧ Only (fun k => k = b ∨ hi ≤ k) w W) (fun i _ => n - (intOf i).toNat)
  case atStart => exact ⟨0, Nat.zero_le _, rfl, by rw [bcells_app]; exact hb1, hO1⟩
  case round =>
    clear hb1 hO1
    obtain ⟨k, hk, rfl, hb, hO⟩ := hrel
    have hsz := hO.size
    have hl1 : (bcells (pre ++ 40 :: eltsAt cyc k)).length ≤ 1100 := by
      rw [bcells_length, List.length_append, List.length_cons]
      have := eltsAt_len cyc k
      omega
    by_cases hkn : k < n
    · have c1 : wr.cell? ⟨g, 0 + k, none⟩ = some (.int .i64 ((cyc[k]?.getD 0 : Nat) : Int)) := (World.cell?_of_block (w := w) (hO.block g (by omega) (by omega))).trans (hr k (by rw [HN.out]; exact hkn))
      have hx7 := HLT.out k hkn
      rw [Nat.zero_add] at c1
      obtain ⟨x, hx⟩ : ∃ x, cyc[k]?.getD 0 = x := ⟨_, rfl⟩
      rw [hx] at c1 hx7
      have HX := Lib.hid hx
      have HBK := Lib.hid hb
      have HOK := Lib.hid hO
      clear hx hb hO
      by_cases hk0 : 0 < k
      · go_wp2_with fail
        refine (wbyte_any b hi _ 32 wr HBK.out (by omega) (by omega)).mono ?_
        rintro e w2 ⟨rfl, hb2, hO2⟩
        have hs2 := hO2.size
        go_wp2_with fail
        refine (itoa_any x w2 hx7).mono ?_
        rintro e w3 ⟨rfl, rfl⟩
        go_wp2_with fail
        refine (wstr_any b hi _ ⟨#[digit x]⟩ w2 hb2 (by rw [List.length_append]; show _ + 1 + 1 ≤ _; omega) (by omega)).mono ?_
        rintro e w4 ⟨rfl, hb4, hO4⟩
        go_wp2_with fail
        go_roundw
        case rel =>
          refine ⟨k + 1, by omega, by go_num, ?_, HOK.out.trans (hO2.trans hO4)⟩
          have : bcells (pre ++ 40 :: eltsAt cyc (k + 1)) = bcells (pre ++ 40 :: eltsAt cyc k) ++ [.int .u8 32] ++ Lib.strCells ⟨#[digit x]⟩ := by
            have hz : Nat.beq k 0 = false := by rw [Bool.eq_false_iff]; intro h; have := Nat.eq_of_beq_eq_true h; omega
            rw [eltsAt_succ, hz, HX.out, digit_cells]
            simp [bcells]
          rw [this]; exact hb4
        case measure => simp [intOf]; omega
      · have hk00 : k = 0 := by omega
        subst hk00
        go_wp2_with fail
        refine (itoa_any x wr hx7).mono ?_
        rintro e w3 ⟨rfl, rfl⟩
        go_wp2_with fail
        refine (wstr_any b hi _ ⟨#[digit x]⟩ wr HBK.out (by show _ + 1 ≤ _; omega) (by omega)).mono ?_
        rintro e w4 ⟨rfl, hb4, hO4⟩
        go_wp2_with fail
        go_roundw
        case rel =>
          refine ⟨1, by omega, by go_num, ?_, HOK.out.trans hO4⟩
          have : bcells (pre ++ 40 :: eltsAt cyc (0 + 1)) = bcells (pre ++ 40 :: eltsAt cyc 0) ++ Lib.strCells ⟨#[digit x]⟩ := by
            rw [eltsAt_succ, HX.out, digit_cells]
            simp [bcells]
          rw [this]; exact hb4
        case measure => simp [intOf]; omega
    · obtain rfl : k = n := by omega
      have HBK := Lib.hid hb
      have HOK := Lib.hid hO
      clear hb hO
      go_wp2_with fail
      refine (wbyte_any b hi _ 41 wr HBK.out (by omega) (by omega)).mono ?_
      rintro e w2 ⟨rfl, hb2, hO2⟩
      go_wp2_with fail
      go_end0
      refine ⟨rfl, ?_, HOK.out.trans hO2⟩
      have : bcells (pre ++ cycText cyc) = bcells (pre ++ 40 :: eltsAt cyc k) ++ [.int .u8 41] := by
        unfold cycText
        rw [HN.out]
        simp [bcells]
      rw [this]; exact hb2

theorem text_bad (v : Value) (l : List Int) (w : World) (h : SlI w v l) (hn : valI l = false) :
    Calls Tryd.prog 10 #[v] w fun e w' => e = .returned (.tuple #[.string ⟨#[]⟩, .int .i64 1]) ∧ Below w.heap.size w w' := by
  go_enter Tryd.func10, Tryd.ntmps10
  go_wp2_with fail
  refine (valid_no v l _ h hn).mono ?_
  rintro e w1 ⟨rfl, hB1⟩
  go_wp2_with fail
  go_ret2
  exact ⟨rfl, hB1⟩

theorem lg_lcy {xs : List Cyc} {ps : List Nat} (h : xs.map Cyc.cyc = allCyc ps) : (lg xs).map Cyc.cyc = lcy ps := by
  unfold lcy lg
  rw [← h, List.filter_map]
  rfl

theorem owns_only3D {S : Nat → Prop} {w w' : World} {base n size : Nat} {e : TypeId} {v : Value} {xs : List Value} (h : w.ownsRow base e size v n xs) (hB : Only S w w') (ho : ∀ g, v.ownBlock = some g → ¬ S g) : w'.ownsRow base e size v n xs := by
  rcases hv : v.ownBlock with _ | g
  · rcases h.2 with h2 | ⟨g, _, _, rfl, _⟩
    · exact ⟨h.1, .inl h2⟩
    · simp [Value.ownBlock] at hv
  · exact owns_only2 h hB hv (ho g hv)

def txt (ys : List Cyc) (k : Nat) : List Nat := (ys.take k).flatMap fun x => cycText x.cyc
theorem txt_succ (ys : List Cyc) (k : Nat) (x : Cyc) (h : ys[k]? = some x) : txt ys (k + 1) = txt ys k ++ cycText x.cyc := by
  obtain ⟨hk, hx⟩ := List.getElem?_eq_some_iff.1 h
  unfold txt
  rw [List.take_succ_eq_append_getElem hk, List.flatMap_append, hx]
  simp
theorem txt_len (ys : List Cyc) (h : ∀ x ∈ ys, x.cyc.length ≤ 7) : ∀ k, (txt ys k).length ≤ 16 * k
  | 0 => by simp [txt]
  | k + 1 => by
    have := txt_len ys h k
    rcases hk : ys[k]? with _ | x
    · have : txt ys (k + 1) = txt ys k := by
        unfold txt
        rw [List.take_of_length_le (by have := hk; simp at this; omega), List.take_of_length_le (by have := hk; simp at this; omega)]
      rw [this]; omega
    · rw [txt_succ ys k x hk, List.length_append]
      have h1 := cycText_len x.cyc
      have h2 := h x (List.mem_of_getElem? hk)
      omega

theorem textN_nil {ps : List Nat} (h : lcy ps = []) : textN ps = [40, 41] := by unfold textN; rw [h]
theorem textN_cons {ps : List Nat} {c : List Nat} {cs : List (List Nat)} (h : lcy ps = c :: cs) : textN ps = (c :: cs).flatMap cycText := by unfold textN; rw [h]

set_option maxRecDepth 100000 in
set_option maxHeartbeats 4000000 in
theorem text_ok (v : Value) (ps : List Nat) (w : World) (h : SlI w v (ints ps)) (hp : IsPerm ps) :
    Calls Tryd.prog 10 #[v] w fun e w' => e = .returned (.tuple #[.string (strOf (textN ps)), .int .i64 0]) ∧ Below w.heap.size w w' := by
  have HV := Lib.hid (valid_yes v _ w h (valI_perm hp))
  have HH := Lib.hid h
  have hac : (allCyc ps).length ≤ 7 := (cyc_ok hp).2.2
  have hcl : ∀ c ∈ allCyc ps, c.length ≤ 7 := fun c hc => ((cyc_ok hp).2.1 c hc).2
  have hc7 : ∀ c ∈ allCyc ps, ∀ x ∈ c, x < 7 := fun c hc x hx => Nat.lt_of_lt_of_le ((cycFacts hp).lt c hc x hx) hp.2.1
  have HCL := Lib.hid hcl
  have HC7 := Lib.hid hc7
  clear h hcl hc7
  go_enter Tryd.func10, Tryd.ntmps10
  go_wp2_with fail
  refine HV.out.mono ?_
  rintro e w1 ⟨rfl, hB1⟩
  go_wp2_with fail
  have hs1 := hB1.size
  have hB2 : Below w.heap.size w (w1.alloc (.cells #[.pointer none, .slice none 0 0] 50)) := hB1.alloc hs1 _
  refine (cycles_ok _ ps _ (HH.out.below hB2) hp).mono ?_
  rintro e T ⟨lv, xs, rfl, hxs, hrow, hrds, hBT⟩
  have hys := lg_lcy hxs
  obtain ⟨ys, hye⟩ : ∃ ys, lg xs = ys := ⟨_, rfl⟩
  rw [hye] at hys hrow hrds
  obtain ⟨al, pl, rfl⟩ := owns_slice hrow
  have hy1 : ∀ x ∈ ys, x.cyc ∈ allCyc ps := fun x hx => by
    have : x.cyc ∈ lcy ps := by rw [← hys]; exact List.mem_map.2 ⟨x, hx, rfl⟩
    exact (List.mem_filter.1 this).1
  have hyl : ys.length ≤ 7 := by
    have e1 : ys.length = (lcy ps).length := by rw [← hys, List.length_map]
    have e2 : (lcy ps).length ≤ (allCyc ps).length := List.length_filter_le _ _
    omega
  have hst := hBT.size
  simp only [World.size_alloc] at hst
  have hqT : w1.heap.size < T.heap.size := by omega
  have hbld : Bld w1.heap.size T.heap.size [] T := ⟨hqT, _, _, .inl rfl, (hBT.block w1.heap.size (by simp)).trans (World.alloc_heap_new w1 _), World.ownsRow_nil _ _ _ _⟩
  have hBwT : Below w.heap.size w T := hB2.trans (hBT.mono hB2.size)
  obtain ⟨q, hq⟩ : ∃ q, w1.heap.size = q := ⟨_, rfl⟩
  obtain ⟨N, hN⟩ : ∃ N, (w1.alloc (.cells #[.pointer none, .slice none 0 0] 50)).heap.size = N := ⟨_, rfl⟩
  have hNq : N = q + 1 := by rw [← hN, ← hq]; simp
  rw [hN] at hrow hrds
  rw [hq] at hbld hqT hs1 ⊢
  have HBL := Lib.hid hbld
  have HROW := Lib.hid hrow
  have HRDS := Lib.hid hrds
  have HYS := Lib.hid hys
  have HY1 := Lib.hid hy1
  have HBW := Lib.hid hBwT
  have hNN : q < N := by omega
  have hNT : w.heap.size ≤ T.heap.size := hBwT.size
  clear hxs hys hye hrow hrds hy1 hbld hBwT hBT hB2 hB1 HH hst hq hN hNq
  go_wp2_with fail
  go_loopw [13] (fun i W => ∃ k : Nat, k ≤ ys.length ∧ i = .int .i64 k ∧ Bld q T.heap.size (bcells (txt ys k)) W ∧ Only (fun k => k = q ∨ T.heap.size ≤ k) T W) (fun i _ => ys.length - (intOf i).toNat)
  case atStart => exact ⟨0, Nat.zero_le _, rfl, HBL.out, Only.refl _ _⟩
  case round =>
    obtain ⟨k, hk, rfl, hb, hO⟩ := hrel
    have hsz := hO.size
    have HBK := Lib.hid hb
    have HOK := Lib.hid hO
    clear hb hO
    have hxl := txt_len ys (fun x hx => HCL.out _ (HY1.out x hx)) k
    by_cases hkn : k < ys.length
    · obtain ⟨x, hx⟩ : ∃ x, ys[k]? = some x := ⟨_, List.getElem?_eq_getElem hkn⟩
      have hxm : x ∈ ys := List.mem_of_getElem? hx
      have hrx := HRDS.out x hxm
      have hrowW := owns_only3D HROW.out HOK.out (fun g hg e => by have := HROW.out.lt g hg; omega)
      have hrxW : Cyc.Rd N x wr := owns_only3D hrx HOK.out (fun g hg e => by have := World.ownsRow.lt hrx g hg; omega)
      obtain ⟨gl, cl, hvl⟩ := owns_pos hrowW (by omega)
      cases hvl
      have cx := hrowW.cellAt k (by omega)
      rw [List.getElem?_map, hx] at cx
      have hblk := (World.ownsRow.lt hrxW x.blk rfl)
      have hrd : RdN wr x.blk 0 x.cyc := fun j hj => by
        rw [Nat.zero_add, World.ownsRow.cellAt hrxW j (by omega)]
        simp [natCells, hj]
      have hblT : x.blk < T.heap.size := (World.ownsRow.lt hrx x.blk rfl).2
      have hx7 : x.cyc.length ≤ 7 := HCL.out _ (HY1.out x hxm)
      have hxd : ∀ j, j < x.cyc.length → x.cyc[j]?.getD 0 < 7 := fun j hj => HC7.out _ (HY1.out x hxm) _ (get_mem x.cyc j hj)
      have HX := Lib.hid hx
      have HWC := Lib.hid (wcycle_any q T.heap.size x.blk x.cap x.cyc.length (txt ys k) x.cyc wr HBK.out (by omega) rfl hx7 hxd hrd hblT (by omega) hsz)
      clear hx hxm hrx hrowW hrxW hrd hxd
      simp only [Option.map_some, Cyc.val] at cx
      go_wp2_with fail
      refine HWC.out.mono ?_
      rintro e w2 ⟨rfl, hb2, hO2⟩
      go_wp2_with fail
      go_roundw
      case rel => exact ⟨k + 1, by omega, by go_num, by rw [txt_succ ys k x HX.out]; exact hb2, HOK.out.trans hO2⟩
      case measure => simp [intOf]; omega
    · obtain rfl : k = ys.length := by omega
      have hBwr : Below w.heap.size w wr := HBW.out.trans (HOK.out.below hNT (fun k e => by omega))
      have hlen := Tryd.Builder_Len q q _ wr HBK.out.is
      rw [bcells_length] at hlen
      have HLEN := Lib.hid hlen
      have hfull : txt ys ys.length = (lcy ps).flatMap cycText := by
        unfold txt
        rw [List.take_length, ← HYS.out, List.flatMap_map]
      rcases hl : lcy ps with _ | ⟨c, cs⟩
      · have ht0 : (txt ys ys.length).length = 0 := by rw [hfull, hl]; rfl
        have htx := textN_nil hl
        have HTX := Lib.hid htx
        rw [ht0] at HLEN
        have HBWR := Lib.hid hBwr
        clear hlen hfull hl ht0 htx hBwr
        go_wp2_with fail
        refine HLEN.out.mono ?_
        rintro e w2 ⟨rfl, rfl⟩
        go_wp2_with fail
        go_ret2
        exact ⟨by rw [HTX.out]; rfl, HBWR.out⟩
      · have htx : textN ps = txt ys ys.length := by rw [textN_cons hl, hfull, hl]
        have hpos : 1 ≤ (txt ys ys.length).length := by rw [hfull, hl, List.flatMap_cons, List.length_append]; unfold cycText; simp; omega
        obtain ⟨m, hm⟩ : ∃ m, (txt ys ys.length).length = m := ⟨_, rfl⟩
        rw [hm] at HLEN hpos
        have hstr := Tryd.Builder_String q q ((txt ys ys.length).map UInt8.ofNat) wr (by rw [← bcells_byte]; exact HBK.out.is) (fun e => by have := congrArg List.length e; simp at this; rw [this] at hm; simp at hm; omega)
        have HSTR := Lib.hid hstr
        have HTX := Lib.hid htx
        have HBWR := Lib.hid hBwr
        have hm0 : (m == 0) = false := by rw [beq_eq_false_iff_ne]; omega
        have hm1 : ((m : Int) == 0) = false := by rw [beq_eq_false_iff_ne]; omega
        clear hlen hfull hl htx hBwr hm hstr
        go_wp2_with fail
        refine HLEN.out.mono ?_
        rintro e w2 ⟨rfl, rfl⟩
        go_wp2_with fail
        refine HSTR.out.mono ?_
        rintro e w3 ⟨rfl, hB3⟩
        go_wp2_with fail
        go_ret2
        exact ⟨by rw [HTX.out]; rfl, HBWR.out.trans (hB3.mono (by omega))⟩
end Go.Proofs.YtdpnmepplkiljaaDoor
