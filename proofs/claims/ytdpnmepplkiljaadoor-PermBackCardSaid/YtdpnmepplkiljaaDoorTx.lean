/-
  Contract of Text of the reference at every permutation.
-/
import Derived.Test.YtdpnmepplkiljaaDoorTw
import Derived.Laws.IdiomStrings
namespace Go.Proofs.YtdpnmepplkiljaaDoor
open Go.RowKit Go.Shelf

theorem conv_digit (w : World) (y : Nat) (hy : y < 7) : ∀ W : World, W = w.alloc (.cells #[.int .u8 (48 + (y : Int))] 5) →
    (convert 46 9 (.slice (some ⟨w.heap.size, 0, none⟩) 1 1)).run Tryd.prog W = .ok (.string (strOf [48 + y])) W := by
  rintro W rfl
  have := run_convert_bytes_back (P := Tryd.prog) (w.alloc (.cells #[.int .u8 (48 + (y : Int))] 5)) 46 9 5 ⟨w.heap.size, 0, none⟩ 1 [UInt8.ofNat (48 + y)] Tryd.underlying46 Tryd.underlying5 Tryd.underlying9 (fun j hj => by
    have hj0 : j = 0 := by simpa using hj
    subst hj0
    have hd : ((UInt8.ofNat (48 + y)).toNat : Int) = 48 + (y : Int) := by
      have : (UInt8.ofNat (48 + y)).toNat = 48 + y := by simp; omega
      rw [this]; omega
    simp only [List.getElem_cons_zero, hd]
    exact cell_one_new w _ 5 0 _ rfl)
  exact this

def rpart (c : List Nat) (k : Nat) : List Nat := if k = 0 then [] else 40 :: eltsAt c k

theorem strOf_app (a b : List Nat) : strOf a ++ strOf b = strOf (a ++ b) := by
  unfold strOf
  rw [List.map_append]
  show ByteArray.append _ _ = _
  simp [ByteArray.append]
theorem strOf_size (a : List Nat) : (strOf a).size = a.length := by
  unfold strOf
  show (List.toArray _).size = _
  simp

theorem rtext_one (pre c : List Nat) (y : Nat) (hy : c[0]?.getD 0 = y) : strOf (pre ++ rpart c 1) = strOf (pre ++ rpart c 0) ++ ⟨#[40]⟩ ++ strOf [48 + y] := by
  have e : (⟨#[40]⟩ : ByteArray) = strOf [40] := rfl
  rw [e, strOf_app, strOf_app]
  unfold rpart
  rw [if_neg (by omega), if_pos rfl, eltsAt_succ, hy]
  simp [eltsAt]

theorem rtext_more (pre c : List Nat) (m y : Nat) (hm : ¬ m = 0) (hy : c[m]?.getD 0 = y) : strOf (pre ++ rpart c (m + 1)) = strOf (pre ++ rpart c m) ++ ⟨#[32]⟩ ++ strOf [48 + y] := by
  have e : (⟨#[32]⟩ : ByteArray) = strOf [32] := rfl
  have hz : Nat.beq m 0 = false := by rw [Bool.eq_false_iff]; intro h; exact hm (Nat.eq_of_beq_eq_true h)
  rw [e, strOf_app, strOf_app]
  unfold rpart
  rw [if_neg (by omega), if_neg hm, eltsAt_succ, hy, hz]
  simp

theorem rtext_end (pre c : List Nat) (hc : 1 < c.length) : strOf (pre ++ cycText c) = strOf (pre ++ rpart c c.length) ++ ⟨#[41]⟩ := by
  have e : (⟨#[41]⟩ : ByteArray) = strOf [41] := rfl
  rw [e, strOf_app]
  unfold rpart cycText
  rw [if_neg (by omega)]
  simp

set_option maxRecDepth 100000 in
set_option maxHeartbeats 4000000 in
theorem rtext_ok (b off cap n : Nat) (ps : List Nat) (w : World) (hp : IsPerm ps) (hpn : ps.length = n) (hb : b < w.heap.size) (hrd : RdN w b off ps) :
    Calls Tryd.prog 8 #[.slice (some ⟨b, off, none⟩) n cap] w fun e w' => e = .returned (.string (strOf (textN ps))) ∧ Below w.heap.size w w' := by
  have hac : (allCyc ps).length ≤ 7 := (cyc_ok hp).2.2
  have hcl : ∀ c ∈ allCyc ps, c.length ≤ 7 := fun c hc => ((cyc_ok hp).2.1 c hc).2
  have hc7 : ∀ c ∈ allCyc ps, ∀ x ∈ c, x < 7 := fun c hc x hx => Nat.lt_of_lt_of_le ((cycFacts hp).lt c hc x hx) hp.2.1
  have HCL := Lib.hid hcl
  have HC7 := Lib.hid hc7
  have HCY := Lib.hid (rcycles_ok b off cap n ps w hp hpn hb hrd)
  have HPN := Lib.hid hpn
  clear hcl hc7 hpn
  go_enter Tryd.func8, Tryd.ntmps8
  go_wp2_with fail
  refine HCY.out.mono ?_
  rintro e T ⟨lv, xs, rfl, hxs, hrow, hrds, hBT⟩
  have hys := lg_lcy hxs
  obtain ⟨ys, hye⟩ : ∃ ys, lg xs = ys := ⟨_, rfl⟩
  rw [hye] at hys hrow hrds
  obtain ⟨al, pl, rfl⟩ := owns_slice hrow
  have hy1 : ∀ x ∈ ys, x.cyc ∈ allCyc ps := fun x hx => by
    have : x.cyc ∈ lcy ps := by rw [← hys]; exact List.mem_map.2 ⟨x, hx, rfl⟩
    exact (List.mem_filter.1 this).1
  have hy2 : ∀ x ∈ ys, 1 < x.cyc.length := fun x hx => by
    have : x.cyc ∈ lcy ps := by rw [← hys]; exact List.mem_map.2 ⟨x, hx, rfl⟩
    simpa using (List.mem_filter.1 this).2
  have hyl : ys.length ≤ 7 := by
    have e1 : ys.length = (lcy ps).length := by rw [← hys, List.length_map]
    have e2 : (lcy ps).length ≤ (allCyc ps).length := List.length_filter_le _ _
    omega
  have HROW := Lib.hid hrow
  have HRDS := Lib.hid hrds
  have HYS := Lib.hid hys
  have HY1 := Lib.hid hy1
  have HY2 := Lib.hid hy2
  have HB := Lib.hid hBT
  clear hrow hrds hys hy1 hy2 hBT hye hxs
  by_cases hm0 : ys.length = 0
  · have hm1 : ys = [] := List.length_eq_zero_iff.1 hm0
    have htx : textN ps = [40, 41] := textN_nil (by rw [← HYS.out, hm1]; rfl)
    have HTX := Lib.hid htx
    rw [hm0]
    clear htx hm1 hm0
    go_wp2_with fail
    go_ret
    exact ⟨by rw [HTX.out]; rfl, HB.out⟩
  · have hmb : (ys.length == 0) = false := by rw [beq_eq_false_iff_ne]; omega
    have hmi : ((ys.length : Int) == 0) = false := by rw [beq_eq_false_iff_ne]; omega
    go_wp2_with fail
    go_loopw [4, 5, 6] (fun sv i _ W => ∃ k : Nat, k ≤ ys.length ∧ i = .int .i64 k ∧ sv = .string (strOf (txt ys k)) ∧ Below T.heap.size T W) (fun _ i _ _ => ys.length - (intOf i).toNat)
    case atStart => exact ⟨0, Nat.zero_le _, rfl, rfl, Below.refl _ _⟩
    case round =>
      obtain ⟨k, hk, rfl, rfl, hBW⟩ := hrel
      by_cases hkn : k < ys.length
      · obtain ⟨x, hx⟩ : ∃ x, ys[k]? = some x := ⟨_, List.getElem?_eq_getElem hkn⟩
        have hxm : x ∈ ys := List.mem_of_getElem? hx
        have hrx : Cyc.Rd w.heap.size x wr := owns_below (HRDS.out x hxm) hBW
        have hrow := owns_below HROW.out hBW
        obtain ⟨gl, cl, hvl⟩ := owns_pos hrow (by omega)
        cases hvl
        have cx := hrow.cellAt k (by omega)
        rw [List.getElem?_map, hx] at cx
        simp only [Option.map_some, Cyc.val] at cx
        have hx7 : x.cyc.length ≤ 7 := HCL.out _ (HY1.out x hxm)
        have hx1 : 1 < x.cyc.length := HY2.out x hxm
        have hxd : ∀ j, j < x.cyc.length → x.cyc[j]?.getD 0 < 7 := fun j hj => HC7.out _ (HY1.out x hxm) _ (get_mem x.cyc j hj)
        have hrd2 : RdN wr x.blk 0 x.cyc := fun j hj => by
          rw [Nat.zero_add, World.ownsRow.cellAt hrx j (by omega)]
          simp [natCells, hj]
        have hxl := txt_len ys (fun x hx => HCL.out _ (HY1.out x hx)) k
        have HX := Lib.hid hx
        have HXD := Lib.hid hxd
        have HRD2 := Lib.hid hrd2
        have HBW := Lib.hid hBW
        have hwz : T.heap.size ≤ wr.heap.size := hBW.size
        have hblk : x.blk < wr.heap.size := (World.ownsRow.lt hrx x.blk rfl).2
        have hglk : gl < wr.heap.size := (World.ownsRow.lt hrow gl rfl).2
        clear hx hxm hrx hrow hxd hrd2 hBW
        go_wp2_with fail
        obtain ⟨wo, rfl⟩ : ∃ wo : World, wo = wr := ⟨_, rfl⟩
        go_loopw [4, 6] (fun sv j W => ∃ m : Nat, m ≤ x.cyc.length ∧ j = .int .i64 m ∧ sv = .string (strOf (txt ys k ++ rpart x.cyc m)) ∧ Below wo.heap.size wo W) (fun _ j _ => x.cyc.length - (intOf j).toNat)
        case atStart => exact ⟨0, Nat.zero_le _, rfl, by simp [rpart], Below.refl _ _⟩
        case round =>
          obtain ⟨m, hm, rfl, rfl, hBV⟩ := hrel
          have hvz : wo.heap.size ≤ wr.heap.size := hBV.size
          have cx2 : wr.cell? ⟨gl, k, none⟩ = _ := (hBV.cell (p := ⟨gl, k, none⟩) hglk).trans cx
          by_cases hmn : m < x.cyc.length
          · have ce := (HRD2.out.below hBV hblk) m hmn
            have he7 := HXD.out m hmn
            rw [Nat.zero_add] at ce
            obtain ⟨y, hy⟩ : ∃ y, x.cyc[m]?.getD 0 = y := ⟨_, rfl⟩
            rw [hy] at ce he7
            have HY := Lib.hid hy
            have HBV := Lib.hid hBV
            have hps : (strOf (txt ys k ++ rpart x.cyc m)).size ≤ 300 := by
              rw [strOf_size, List.length_append]
              have := eltsAt_len x.cyc m
              have : (rpart x.cyc m).length ≤ 1 + 2 * m := by unfold rpart; split <;> simp <;> omega
              omega
            have hps2 : (strOf (txt ys k ++ rpart x.cyc m)).size + 1 ≤ 301 := by omega
            have hps3 : (strOf (txt ys k ++ rpart x.cyc m)).size + 1 + (strOf [48 + y]).size ≤ 302 := by rw [strOf_size [48 + y]]; simp; omega
            have hps4 : (strOf (txt ys k ++ rpart x.cyc m)).size + (strOf [48 + y]).size ≤ 301 := by rw [strOf_size [48 + y]]; simp; omega
            have hcv := conv_digit wr y he7 _ rfl
            clear hy hBV
            by_cases hm0' : m = 0
            · subst hm0'
              go_wp2_with fail
              go_roundw
              case rel => exact ⟨1, by omega, by go_num, by rw [rtext_one (txt ys k) x.cyc y HY.out], HBV.out.alloc hvz _⟩
              case measure => simp [intOf]; omega
            · have hmb' : (m == 0) = false := by rw [beq_eq_false_iff_ne]; omega
              have hmi' : ((m : Int) == 0) = false := by rw [beq_eq_false_iff_ne]; omega
              go_wp2_with fail
              go_roundw
              case rel => exact ⟨m + 1, by omega, by go_num, by rw [rtext_more (txt ys k) x.cyc m y hm0' HY.out], HBV.out.alloc hvz _⟩
              case measure => simp [intOf]; omega
          · have hmx : m = x.cyc.length := by omega
            have HMX := Lib.hid hmx
            have hps : (strOf (txt ys k ++ rpart x.cyc m)).size ≤ 300 := by
              rw [strOf_size, List.length_append]
              have := eltsAt_len x.cyc m
              have : (rpart x.cyc m).length ≤ 1 + 2 * m := by unfold rpart; split <;> simp <;> omega
              omega
            have hps2 : (strOf (txt ys k ++ rpart x.cyc m)).size + 1 ≤ 301 := by omega
            have HBV := Lib.hid hBV
            clear hmx hBV
            go_wp2_with fail
            go_roundw
            case rel => exact ⟨k + 1, by omega, by go_num, by rw [txt_succ ys k x HX.out, HMX.out, rtext_end (txt ys k) x.cyc hx1], HBW.out.trans (HBV.out.mono hwz)⟩
            case measure => simp [intOf]; omega
      · have hke : k = ys.length := by omega
        have hfull : txt ys ys.length = (lcy ps).flatMap cycText := by
          unfold txt
          rw [List.take_length, ← HYS.out, List.flatMap_map]
        rcases hl : lcy ps with _ | ⟨c, cs⟩
        · have h1 := congrArg List.length HYS.out
          rw [hl, List.length_map] at h1
          exact absurd h1 hm0
        · have htx : textN ps = txt ys k := by rw [textN_cons hl, hke, hfull, hl]
          have HTX := Lib.hid htx
          have HBW := Lib.hid hBW
          clear htx hfull hl hke hBW
          go_wp2_with fail
          go_ret
          exact ⟨by rw [HTX.out]; rfl, HB.out.trans (HBW.out.mono HB.out.size)⟩
end Go.Proofs.YtdpnmepplkiljaaDoor
