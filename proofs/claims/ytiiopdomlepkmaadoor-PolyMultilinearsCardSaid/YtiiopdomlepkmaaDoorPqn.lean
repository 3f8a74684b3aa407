/-
  Contract of Multilinear of package poly.
-/
import Derived.Test.YtiiopdomlepkmaaDoorPqm
namespace Go.Proofs.YtiiopdomlepkmaaDoor
set_option linter.unusedVariables false
open Go.RowKit Go.Maps

/-- What the listed variables hold. -/
structure LayP (w : World) : Prop where
  lays : Lays w
  tz : TabAt 2 Lib.deBruijn64tab w
  pow : Lib.TabIs Tryd.prog w "internal/strconv.uint64pow10" .u64 Lib.pow10Tab
theorem LayP.below {w w' : World} (h : LayP w) (hB : Below w.heap.size w w') : LayP w' :=
  ⟨h.lays.below hB, fun j hj => (hB.cell (World.block_lt_of_cell? w _ (h.tz j hj))).trans (h.tz j hj), Lib.tabBelow_of_tabIs h.pow w' hB⟩

theorem tz_ok (x : Nat) (hx : x < 18446744073709551616) (w : World) (hL : LayP w) :
    Calls Tryd.prog 45 #[.int .u64 (x : Int)] w fun e w' => e = .returned (.int .i64 (Lib.ctz 64 x : Nat)) ∧ w = w' :=
  (Any7.bits_TrailingZeros Tryd.tzL x hx w fun _ => hL.tz).mono fun e w' ⟨h1, h2⟩ => ⟨h1, h2.symm⟩
theorem ctz_pow (n : Nat) (hn : n ≤ 12) : Lib.ctz 64 (2 ^ n) = n := by
  have : n = 0 ∨ n = 1 ∨ n = 2 ∨ n = 3 ∨ n = 4 ∨ n = 5 ∨ n = 6 ∨ n = 7 ∨ n = 8 ∨ n = 9 ∨ n = 10 ∨ n = 11 ∨ n = 12 := by omega
  rcases this with rfl | rfl | rfl | rfl | rfl | rfl | rfl | rfl | rfl | rfl | rfl | rfl | rfl <;> decide +kernel

def bitsL (n i : Nat) : List Nat := (List.range n).map (bitN i)
theorem bitsL_ex (n i : Nat) : Ex n (bitsL n i) := ⟨by simp [bitsL], fun x hx => by
  obtain ⟨v, _, rfl⟩ := List.mem_map.1 hx
  unfold bitN; omega⟩
/-- The terms of the first k entries. -/
def mlT (C : List Nat) (n k : Nat) : List Tm := (List.range k).map fun i => (C[i]?.getD 0, bitsL n i)
theorem mlT_succ (C : List Nat) (n k : Nat) : mlT C n (k + 1) = mlT C n k ++ [(C[k]?.getD 0, bitsL n k)] := by
  simp [mlT, List.range_succ]
theorem mlT_length (C : List Nat) (n k : Nat) : (mlT C n k).length = k := by simp [mlT]
theorem mlT_lt {C : List Nat} {q : Nat} (h : ∀ i : Nat, C[i]?.getD 0 < q) (n k : Nat) : CoLt q (mlT C n k) := fun t ht => by
  obtain ⟨i, _, rfl⟩ := List.mem_map.1 ht
  exact h i

/-- The table's coefficients. -/
def mlC (P M n : Nat) (bs : List Bool) : List Nat := mobs (subN P M) (tab01 bs) n
theorem mlC_lt {P M q : Nat} (hf : Fld P M q) (n : Nat) (bs : List Bool) : ∀ i : Nat, (mlC P M n bs)[i]?.getD 0 < q := fun i => by
  have hrng := hf.fl.toRng
  have ht01 : ∀ x ∈ tab01 bs, x < q := fun x hx => by
    obtain ⟨b, _, rfl⟩ := List.mem_map.1 hx
    have := hf.q_ge
    cases b <;> simp <;> omega
  cases h : (mlC P M n bs)[i]? with
  | none => exact hrng.pos
  | some y => exact mobs_lt (fun a b ha hb => hrng.sub_lt ha hb) hrng.pos ht01 n y (List.mem_of_getElem? h)
theorem rdps_none (w : World) : RdPs w none [] := fun k p hp => by simp at hp

set_option maxRecDepth 100000 in
set_option maxHeartbeats 4000000 in
theorem Multilinear_ok (P M q n : Nat) (hf : Fld P M q) (hn : n ≤ 12) (A : Option Addr) (cap : Nat) (bs : List Bool) (hl : bs.length = 2 ^ n) (w : World) (hL : LayP w) (hr : RdB w A bs) :
    Calls Tryd.prog 23 #[.agg #[.int .i64 (P : Int), .int .i64 (M : Int)], .slice A bs.length cap] w (PolyRes q n (addN P M) (mlT (mlC P M n bs) n (2 ^ n)) w) := by
  have hB1 := below1 w (.cells #[.int .i64 (P : Int), .int .i64 (M : Int)] 23)
  have HV := Lib.hid (valid_yes P M _ (hL.lays.below hB1) hf.ok)
  have HTZ := Lib.hid (fun W (hW : Below w.heap.size w W) => tz_ok (2 ^ n) (Nat.lt_of_le_of_lt (Nat.pow_le_pow_right (n := 2) (by omega) hn) (by decide)) W (hL.below hW))
  have hctz := ctz_pow n hn
  rw [hctz] at HTZ
  have HO := Lib.hid (fun W (hW : Below w.heap.size w W) => open_yes1 P M q n hf (by omega) none 0 0 [] rfl (by omega) W (hL.lays.below hW) (rdps_none W) (by simp))
  have HCO := Lib.hid (fun W (hW : Below w.heap.size w W) => coef_ok P M q n hf hn A cap bs hl W (hL.lays.below hW) (hr.below hW))
  have HB1 := Lib.hid hB1
  have HL := Lib.hid hL
  have hle : 2 ^ n ≤ 4096 := Nat.pow_le_pow_right (n := 2) (by omega) hn
  have hp1 : 1 ≤ 2 ^ n := Nat.pow_pos (by omega)
  have hsh : wrap64 ((2 : Int) ^ n) = ((2 ^ n : Nat) : Int) := by
    have : (2 : Int) ^ n = ((2 ^ n : Nat) : Int) := by simp
    rw [this]
    exact IntWalk.wrap64_in _ (by omega)
  have hu : IntKind.u64.wrap ((2 ^ n : Nat) : Int) = ((2 ^ n : Nat) : Int) := by rw [IntKind.wrap_u64]; omega
  rw [hl] at HCO ⊢
  have HLEN := Lib.hid hl
  generalize hLL : 2 ^ n = L at *
  have HLL := Lib.hid hLL
  clear hctz hL hr hB1 hl hLL
  go_enter Tryd.func23, Tryd.ntmps23
  go_wp2_with fail
  refine HV.out.mono ?_
  rintro e w1 ⟨rfl, hB⟩
  have HB := Lib.hid (HB1.out.trans (hB.mono HB1.out.size))
  have hc0 : w1.cell? ⟨w.heap.size, 0, none⟩ = some (.int .i64 (P : Int)) := (hB.cell (by simp)).trans (World.cell?_alloc_new _ _ _ _)
  have hc1 : w1.cell? ⟨w.heap.size, 1, none⟩ = some (.int .i64 (M : Int)) := (hB.cell (by simp)).trans (World.cell?_alloc_new _ _ _ _)
  clear hB HV HB1
  go_wp2_with fail
  refine (HTZ.out _ HB.out).mono ?_
  rintro e w2 ⟨rfl, rfl⟩
  go_wp2_with fail
  refine (HO.out _ HB.out).mono ?_
  rintro e w2 ⟨rfl, hB2⟩
  have HB2 := Lib.hid (HB.out.trans (hB2.mono HB.out.size))
  have HNS := Lib.hid (fun W => newSum_ok P M q n (by omega) W)
  have hmk := make_ints n (by omega)
  clear hc0 hc1 hB2
  go_wp2_with fail
  refine (HNS.out _).mono ?_
  rintro e w3 ⟨sb, mb, kb, rfl, hS, hB3⟩
  have hlt3 : w2.heap.size < w3.heap.size := by have := hB3.size; simp at this; omega
  have hbr3 : w3.heap[w2.heap.size]? = some (rgO P M q n) := (hB3.block w2.heap.size (by simp)).trans (alloc_at _ _ _ rfl)
  have hb3 : Below w.heap.size w w3 := (HB2.out.alloc HB2.out.size (rgO P M q n)).trans (hB3.mono (by have := HB2.out.size; simp; omega))
  have hb4 : Below w.heap.size w (w3.alloc (intsO (List.replicate n 0))) := hb3.alloc hb3.size _
  have hbr4 : (w3.alloc (intsO (List.replicate n 0))).heap[w2.heap.size]? = some (rgO P M q n) := alloc_old _ _ _ _ hbr3
  have hge4 : (w3.alloc (intsO (List.replicate n 0))).heap[w3.heap.size]? = some (intsO (List.replicate n 0)) := alloc_at _ _ _ rfl
  obtain ⟨d0, d1, d2, d3⟩ := rg_cells hbr4
  have hs4 : SumAt w.heap.size sb mb kb P M q n 0 (.map []) (w3.alloc (intsO (List.replicate n 0))) := by
    have := hS.below (below1 w3 (intsO (List.replicate n 0)))
    have hle : w.heap.size ≤ (w2.alloc (rgO P M q n)).heap.size := by have := HB2.out.size; simp; omega
    exact ⟨this.rcd, this.key, this.map, Nat.le_trans hle this.ls, Nat.le_trans hle this.lm, Nat.le_trans hle this.lk⟩
  have HB4 := Lib.hid hb4
  have HBR4 := Lib.hid hbr4
  have HGE4 := Lib.hid hge4
  have HS4 := Lib.hid hs4
  have HLT3 := Lib.hid hlt3
  clear hS hB3 hbr3 hb3 hb4 hbr4 hge4 hs4 hlt3
  go_wp2_with fail
  refine (HCO.out _ HB4.out).mono ?_
  rintro e w4 ⟨gc, hgc, rfl, hgb, hB5⟩
  have hR : RedR w sb mb kb w2.heap.size w3.heap.size P M q n ([] : List Tm) w4 :=
    RedR.below ⟨HB4.out, ⟨_, HS4.out, Tells.empty _ _⟩, HBR4.out, ⟨_, by simp, HGE4.out⟩, HB2.out.size, Nat.le_trans HB2.out.size (Nat.le_of_lt HLT3.out)⟩ hB5
  have hgc3 : gc ≠ w3.heap.size := by simp at hgc; omega
  have HST := Lib.hid (show RedR w sb mb kb w2.heap.size w3.heap.size P M q n (mlT (mlC P M n bs) n 0) w4 ∧ w4.heap[gc]? = some (intsO (nz (mlC P M n bs))) from ⟨hR, hgb⟩)
  have HGC := Lib.hid hgc3
  have HCL : Hid ((mlC P M n bs).length = L) := Lib.hid (by unfold mlC; rw [mobs_length]; simp [tab01]; exact HLEN.out)
  clear hR hgb hB5 hgc3 hgc d0 d1 d2 d3 hmk hsh hu
  go_wp2_with fail
  go_loopw [11, 12, 13, 44] (fun _ _ _ i wr => ∃ k : Nat, k ≤ L ∧ i = .int .i64 k ∧ RedR w sb mb kb w2.heap.size w3.heap.size P M q n (mlT (mlC P M n bs) n k) wr ∧ wr.heap[gc]? = some (intsO (nz (mlC P M n bs)))) (fun _ _ _ i _ => L - (intOf i).toNat)
  case atStart => exact ⟨0, by omega, rfl, HST.out⟩
  case round =>
    clear HST
    obtain ⟨k, hk, rfl, hR, hgb⟩ := hrel
    by_cases hlt : k < L
    · have hck : (mlC P M n bs)[k]? = some ((mlC P M n bs)[k]?.getD 0) := by
        rw [List.getElem?_eq_getElem (by rw [HCL.out]; exact hlt)]; rfl
      obtain ⟨c1, _⟩ := ints_cell hgb (nz_at hck)
      have hcq := mlC_lt hf n bs k
      obtain ⟨xs, hxl, hxg⟩ := hR.exps
      have HXL := Lib.hid hxl
      have HI := Lib.hid (show RedR w sb mb kb w2.heap.size w3.heap.size P M q n (mlT (mlC P M n bs) n k) wr ∧ wr.heap[w3.heap.size]? = some (intsO (mixI xs (bitN k) (List.range n) 0)) ∧ wr.heap[gc]? = some (intsO (nz (mlC P M n bs))) by
        rw [mixI_zero]; exact ⟨hR, hxg, hgb⟩)
      have HCS := Lib.hid (mlT_succ (mlC P M n bs) n k)
      generalize (mlC P M n bs)[k]?.getD 0 = cv at *
      clear hck hR hgb hxl hxg
      obtain ⟨wo, rfl⟩ : ∃ wo : World, wo = wr := ⟨_, rfl⟩
      go_wp2_with fail
      go_loopw [13, 51] (fun _ i W => ∃ j : Nat, j ≤ n ∧ i = .int .i64 j ∧ RedR w sb mb kb w2.heap.size w3.heap.size P M q n (mlT (mlC P M n bs) n k) W ∧ W.heap[w3.heap.size]? = some (intsO (mixI xs (bitN k) (List.range n) j)) ∧ W.heap[gc]? = some (intsO (nz (mlC P M n bs)))) (fun _ i _ => n - (intOf i).toNat)
      case atStart => exact ⟨0, by omega, rfl, HI.out⟩
      case round =>
        clear HI c1
        obtain ⟨j, hj, rfl, hR, hxg, hgb⟩ := hrel
        have HRR := Lib.hid hR
        have HXG := Lib.hid hxg
        have HGB := Lib.hid hgb
        have HRL : Hid ((List.range n).length = n) := Lib.hid (by simp)
        by_cases hjn : j < n
        · have hml := mixI_length (f := bitN k) HXL.out HRL.out (Nat.le_of_lt hjn)
          obtain ⟨y, hy⟩ : ∃ y, (mixI xs (bitN k) (List.range n) j)[j]? = some y := ⟨_, List.getElem?_eq_getElem (by omega)⟩
          obtain ⟨c1, f1⟩ := ints_cell hxg hy
          have hand := and1_nat (k / 2 ^ j) (by have := Nat.div_le_self k (2 ^ j); omega)
          have hput := hR.put hxg hml j ((bitN k j : Nat) : Int)
          rw [mixI_succ (f := bitN k) HXL.out HRL.out hjn (by simp [hjn])] at hput
          have hg3 : (wr.setCell ⟨w3.heap.size, j, none⟩ (.int .i64 ((bitN k j : Nat) : Int))).heap[gc]? = some (intsO (nz (mlC P M n bs))) :=
            (heap_setCell_other _ _ _ _ (by show gc ≠ w3.heap.size; exact HGC.out)).trans hgb
          have hval : bits .and .i64 ((k : Int) / 2 ^ j) 1 = ((bitN k j : Nat) : Int) := by
            have hdv : (k : Int) / 2 ^ j = ((k / 2 ^ j : Nat) : Int) := by simp
            rw [hdv, hand]; rfl
          rw [← hval] at hput hg3
          have HPUT := Lib.hid hput
          have HG3 := Lib.hid hg3
          clear hml hy hR hxg hgb hput hg3 hand hval
          go_wp2_with fail
          go_roundw
          case rel => exact ⟨j + 1, by omega, by go_num, HPUT.out.1, HPUT.out.2, HG3.out⟩
          case measure => simp [intOf]; omega
        · have hjj : j = n := by omega
          subst hjj
          rw [mixI_full HXL.out HRL.out] at hxg
          obtain ⟨D, hs, hT⟩ := hR.sum
          have hadd := add_ok w wr HL.out.lays hR.bel sb mb kb P M q j _ hf (by omega) D (mlT (mlC P M j bs) j k) cv hcq (some ⟨w3.heap.size, 0, none⟩) j (bitsL j k) (bitsL_ex j k) hs hT (mlT_lt (mlC_lt hf j bs) j k) (by rw [mlT_length]; omega) (ints_read hxg) (fun a ha => by cases ha; exact hR.apart.2.2.1)
          have HADD := Lib.hid hadd
          have HGL := Lib.hid (Array.getElem?_eq_some_iff.1 hgb).1
          have HAP := Lib.hid (show gc ≠ mb ∧ gc ≠ kb by
            obtain ⟨bs', _, hkb⟩ := hs.key
            obtain ⟨es, clock, hm, _⟩ := hs.map
            constructor
            · rintro rfl; rw [hm] at hgb; cases hgb
            · rintro rfl; rw [hkb] at hgb; simp [intsO, bytesO] at hgb)
          clear hadd hs hT hxg hR hgb
          go_wp2_with fail
          refine HADD.out.mono ?_
          rintro e w5 ⟨rfl, D', hs3, hT3, hO3⟩
          have hfin := HRR.out.added (t := (cv, bitsL j k)) hs3 hT3 hO3
          rw [← HCS.out] at hfin
          have HFIN := Lib.hid hfin
          have HGF := Lib.hid ((hO3.block gc HGL.out (by have := HAP.out; omega)).trans HGB.out)
          clear hfin hs3 hT3 hO3
          go_wp2_with fail
          go_roundw
          case rel => exact ⟨k + 1, by omega, by go_num, HFIN.out, HGF.out⟩
          case measure => simp [intOf]; omega
    · have hkp : k = L := by omega
      subst hkp
      obtain ⟨D, hs, hT⟩ := hR.sum
      have hpo := poly_ok w wr sb mb kb P M q n _ hf (by omega) D (mlT (mlC P M n bs) n k) hs hT (mlT_lt (mlC_lt hf n bs) n k) (by rw [mlT_length]; omega)
      have HPO := Lib.hid hpo
      have HRR := Lib.hid hR
      clear hpo hs hT hR hgb
      go_wp2_with fail
      refine HPO.out.mono ?_
      rintro e w5 ⟨hO3, p', h1, h2, h3, h4, h5⟩
      have hle2 : p'.length ≤ 20000 := by rw [mlT_length] at h4; omega
      rcases h5 with ⟨_, A', c, rfl, h6⟩ | ⟨h6, _⟩
      · have HB := Lib.hid (HRR.out.bel.trans (hO3.below HRR.out.bel.size fun k hk => by
          have hk' : k = mb := hk
          rw [hk']; exact HRR.out.apart.2.2.2.2.2.2.1))
        have H1 := Lib.hid h1
        have H2 := Lib.hid h2
        have H3 := Lib.hid h3
        have H4 := Lib.hid h4
        have H6 := Lib.hid h6
        have HLE := Lib.hid hle2
        clear h1 h2 h3 h4 h6 hle2 hO3
        go_wp2_with fail
        refine (sized_yes _ _).mono ?_
        rintro e w6 ⟨rfl, rfl⟩
        go_wp2_with fail
        go_ret2
        exact ⟨HB.out, p', H1.out, H2.out, H3.out, H4.out, .inl ⟨HLE.out, A', c, rfl, H6.out⟩⟩
      · omega
end Go.Proofs.YtiiopdomlepkmaaDoor
