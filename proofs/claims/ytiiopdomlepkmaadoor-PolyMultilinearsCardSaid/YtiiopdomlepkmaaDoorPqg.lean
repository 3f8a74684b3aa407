/-
  Contract of add of package poly: a term is added to a sum.
-/
import Derived.Test.YtiiopdomlepkmaaDoorPqf
import Derived.StringKeys
namespace Go.Proofs.YtiiopdomlepkmaaDoor
set_option linter.unusedVariables false
open Go.RowKit Go.Maps

theorem SumAt.drew {B sb mb kb P M q n cnt : Nat} {D : DataW Unit} {w : World} (h : SumAt B sb mb kb P M q n cnt D w) : SumAt B sb mb kb P M q n cnt D w.drew := ⟨h.rcd, h.key, h.map, h.ls, h.lm, h.lk⟩

/-- The key filled in part. -/
def keyPart (e : List Nat) (bs : List UInt8) (k : Nat) : List UInt8 := keyB (e.take k) ++ bs.drop (2 * k)
theorem keyPart_zero (e : List Nat) (bs : List UInt8) : keyPart e bs 0 = bs := by simp [keyPart, keyB]
theorem keyB_append : ∀ a b : List Nat, keyB (a ++ b) = keyB a ++ keyB b
  | [], b => rfl
  | x :: a, b => by
    show _ :: _ :: keyB (a ++ b) = _
    rw [keyB_append a b]; rfl
theorem keyPart_length {e : List Nat} {bs : List UInt8} {k n : Nat} (he : e.length = n) (hb : bs.length = 2 * n) (hk : k ≤ n) : (keyPart e bs k).length = 2 * n := by
  simp [keyPart, keyB_length, he, hb]; omega
theorem keyPart_succ {e : List Nat} {bs : List UInt8} {k n x : Nat} (he : e.length = n) (hb : bs.length = 2 * n) (hk : k < n) (hx : e[k]? = some x) :
    ((keyPart e bs k).set (2 * k) (UInt8.ofNat (x / 256))).set (2 * k + 1) (UInt8.ofNat x) = keyPart e bs (k + 1) := by
  unfold keyPart
  have h1 : (keyB (e.take k)).length = 2 * k := by simp [keyB_length, he]; omega
  obtain ⟨a, r, hr⟩ : ∃ a r, bs.drop (2 * k) = a :: r := by
    cases h : bs.drop (2 * k) with
    | nil => have := List.drop_eq_nil_iff.1 h; omega
    | cons a r => exact ⟨a, r, rfl⟩
  obtain ⟨b, r', hr'⟩ : ∃ b r', r = b :: r' := by
    cases r with
    | nil => have := congrArg List.length hr; simp at this; omega
    | cons b r' => exact ⟨b, r', rfl⟩
  subst hr'
  have hd : bs.drop (2 * (k + 1)) = r' := by
    have : bs.drop (2 * k + 2) = (bs.drop (2 * k)).drop 2 := by rw [List.drop_drop]
    rw [show 2 * (k + 1) = 2 * k + 2 by omega, this, hr]; rfl
  rw [hd, hr, List.take_add_one, hx, keyB_append]
  rw [List.set_append_right _ _ (by omega), List.set_append_right _ _ (by omega), h1]
  simp [keyB]
theorem keyPart_full {e : List Nat} {bs : List UInt8} {n : Nat} (he : e.length = n) (hb : bs.length = 2 * n) : keyPart e bs n = keyB e := by
  unfold keyPart
  rw [List.take_of_length_le (by omega), List.drop_of_length_le (by omega), List.append_nil]

theorem bytes_cell {w : World} {g j : Nat} {bs : List UInt8} {x : UInt8} (h : w.heap[g]? = some (bytesO bs)) (hx : bs[j]? = some x) : w.cell? ⟨g, j, none⟩ = some (.int .u8 (x.toNat : Int)) ∧ w.frozen? ⟨g, j, none⟩ = false := by
  constructor
  · simp [World.cell?, h, bytesO, Lib.byteCells, hx]
  · simp [World.frozen?, h, bytesO]
theorem bytes_set {w : World} {g j : Nat} {bs : List UInt8} (x : UInt8) (h : w.heap[g]? = some (bytesO bs)) : (w.setCell ⟨g, j, none⟩ (.int .u8 (x.toNat : Int))).heap[g]? = some (bytesO (bs.set j x)) := by
  have := heap_setCell_same w g j (Lib.byteCells bs).toArray 5 (.int .u8 (x.toNat : Int)) h
  rw [this]
  simp [bytesO, Lib.byteCells, List.map_set]

theorem conv_key (n kb : Nat) (l : List UInt8) (hl : l.length = 2 * n) (W : World) (h : W.heap[kb]? = some (bytesO l)) :
    (convert 71 9 (.slice (some ⟨kb, 0, none⟩) (2 * n) (2 * n))).run Tryd.prog W = .ok (.string ⟨l.toArray⟩) W := by
  have := run_convert_bytes_back (P := Tryd.prog) W 71 9 5 ⟨kb, 0, none⟩ (2 * n) l Tryd.underlying71 Tryd.underlying5 Tryd.underlying9 (fun j hj => by
    have hc := (bytes_cell h (List.getElem?_eq_getElem hj)).1
    have ea : Addr.add ⟨kb, 0, none⟩ j = ⟨kb, j, none⟩ := by
      by_cases h0 : j = 0 <;> simp [Addr.add, h0]
    rw [ea]; exact hc)
  rwa [hl] at this

theorem key_of (l : List UInt8) (hl : l.length ≤ 160) : keyOf Tryd.prog 9 (.string ⟨l.toArray⟩) = some (.string l) := by
  have := Go.WideMaps.keyOf_string_mk (P := Tryd.prog) Tryd.underlying9 (s := ⟨l.toArray⟩) (by show l.toArray.size ≤ maxLen; simp [maxLen]; omega)
  simpa using this
theorem zero_int (w : World) : (zeroValue 3).run Tryd.prog w = .ok (.int .i64 0) w := by kernel_rfl
theorem str_keyed : Keyed Tryd.prog 9 := string_keyed Tryd.underlying9

/-- What a look-up of the key gives. -/
theorem look_key {n mb cnt : Nat} {D : DataW Unit} {W : World} (hm : W.ownsMap Tryd.prog 9 (plainElem Tryd.prog 3) mb cnt D) (l : List UInt8) (hl : l.length ≤ 160) (v : Int) (b : Bool)
    (hb : Maps.has D (.string l) = b) (hv : D.atKey (.string l) (.lit (.int .i64 0)) = .lit (.int .i64 v)) (ok : Bool) :
    (Instr.lookup 90 (.map (some mb)) (.string ⟨l.toArray⟩) true).run Tryd.prog W = .ok (.tuple #[.int .i64 v, .bool b]) W := by
  obtain ⟨x, ps, hrun, hx⟩ := hm.look_ok str_keyed Tryd.underlying90 (zero_int W) (zd := .lit (.int .i64 0)) (zp := []) (plainElem_int Tryd.underlying3 (by decide)) (key_of l hl)
  rw [hv] at hx
  obtain ⟨c, rfl, hc, hwc⟩ := plainElem_int_inv Tryd.underlying3 hx
  rw [hrun, hb]
  have : c = v := by
    have := congrArg Prod.fst hc
    simp at this
    exact this.symm
  rw [this]
theorem look_key1 {n mb cnt : Nat} {D : DataW Unit} {W : World} (hm : W.ownsMap Tryd.prog 9 (plainElem Tryd.prog 3) mb cnt D) (l : List UInt8) (hl : l.length ≤ 160) (v : Int)
    (hv : D.atKey (.string l) (.lit (.int .i64 0)) = .lit (.int .i64 v)) :
    (Instr.lookup 90 (.map (some mb)) (.string ⟨l.toArray⟩) false).run Tryd.prog W = .ok (.int .i64 v) W := by
  obtain ⟨x, ps, hrun, hx⟩ := hm.lookup str_keyed Tryd.underlying90 (zero_int W) (zd := .lit (.int .i64 0)) (zp := []) (plainElem_int Tryd.underlying3 (by decide)) (key_of l hl)
  rw [hv] at hx
  obtain ⟨c, rfl, hc, hwc⟩ := plainElem_int_inv Tryd.underlying3 hx
  rw [hrun]
  have : c = v := by
    have := congrArg Prod.fst hc
    simp at this
    exact this.symm
  rw [this]
theorem wf_nat {x : Nat} (h : x ≤ 65536) : (Lit.int .i64 (x : Int)).wf = true := WalkArith.wf_i64 (by omega)

set_option maxHeartbeats 4000000 in
theorem add_ok (w0 w : World) (hL : Lays w0) (hB0 : Below w0.heap.size w0 w) (sb mb kb P M q n cnt : Nat) (hf : Fld P M q) (hn : n ≤ 80) (D : DataW Unit) (ts : List Tm) (c : Nat) (hc : c < q) (A : Option Addr) (cap : Nat) (e : List Nat) (he : Ex n e)
    (hS : SumAt w0.heap.size sb mb kb P M q n cnt D w) (hT : Tells n (addN P M) ts D) (hcl : CoLt q ts) (hcnt : cnt ≤ 4611686018427387904) (hA : RdI w A (nz e)) (hne : ∀ a, A = some a → a.block ≠ kb) :
    Calls Tryd.prog 39 #[.pointer (some ⟨sb, 0, none⟩), .int .i64 (c : Int), .slice A n cap] w fun r w' =>
      r = .returned (.tuple #[]) ∧ ∃ D', SumAt w0.heap.size sb mb kb P M q n (cnt + 1) D' w' ∧ Tells n (addN P M) (ts ++ [(c, e)]) D' ∧ Only (fun g => g = mb ∨ g = kb) w w' := by
  obtain ⟨bs, hbs, hkb⟩ := hS.key
  have HA := Lib.hid hA
  have HS := Lib.hid hS
  have HE := Lib.hid he
  have HNE := Lib.hid hne
  have HKB := Lib.hid (by rw [keyPart_zero]; exact hkb : w.heap[kb]? = some (bytesO (keyPart e bs 0)))
  have HBS := Lib.hid hbs
  have HT := Lib.hid hT
  have HB0 := Lib.hid hB0
  have HLL := Lib.hid hL
  have HC := Lib.hid hcl
  clear hA hS he hne hkb hbs hT hB0 hL hcl
  go_enter Tryd.func39, Tryd.ntmps39
  go_wp2_with fail
  go_loopw [6, 7, 12] (fun _ _ i wr => ∃ k : Nat, k ≤ n ∧ i = .int .i64 k ∧ wr.heap[kb]? = some (bytesO (keyPart e bs k)) ∧ Only (fun g => g = kb) w wr) (fun _ _ i _ => n - (intOf i).toNat)
  case atStart => exact ⟨0, by omega, rfl, HKB.out, Only.refl _ _⟩
  case round =>
    obtain ⟨k, hk, rfl, hkb, hO⟩ := hrel
    have HK2 := Lib.hid hkb
    have HO := Lib.hid hO
    by_cases hlt : k < n
    · obtain ⟨x, hx⟩ : ∃ x, e[k]? = some x := ⟨_, List.getElem?_eq_getElem (by rw [HE.out.1]; exact hlt)⟩
      have hx2 := HE.out.2 x (List.mem_of_getElem? hx)
      obtain ⟨a, rfl, g0⟩ := HA.out k _ (nz_at hx)
      have hab : (a.add k).block ≠ kb := by
        have := HNE.out a rfl
        unfold Addr.add
        split <;> exact this
      have g1 := (hO.cell (World.block_lt_of_cell? w _ g0) hab).trans g0
      have hkl := keyPart_length HE.out.1 HBS.out (Nat.le_of_lt hlt)
      obtain ⟨y1, hy1⟩ : ∃ y, (keyPart e bs k)[2 * k]? = some y := ⟨_, List.getElem?_eq_getElem (by omega)⟩
      obtain ⟨y2, hy2⟩ : ∃ y, (keyPart e bs k)[2 * k + 1]? = some y := ⟨_, List.getElem?_eq_getElem (by omega)⟩
      obtain ⟨c1, f1⟩ := bytes_cell hkb hy1
      obtain ⟨c2, f2⟩ := bytes_cell hkb hy2
      have hsk := HS.out.sbk
      have d5 := (hO.cell (p := ⟨sb, 5, none⟩) HS.out.lts.1 hsk).trans HS.out.cells.2.1
      have HX := Lib.hid hx
      have w1 : IntKind.i64.wrap (2 * (k : Int)) = 2 * (k : Int) := IntWalk.i64_in _ (by omega)
      have w2 : IntKind.i64.wrap (2 * (k : Int) + 1) = 2 * (k : Int) + 1 := IntWalk.i64_in _ (by omega)
      have b1 : 0 ≤ 2 * (k : Int) := by omega
      have b2 : 0 ≤ 2 * (k : Int) + 1 := by omega
      have t1 : (2 * (k : Int)).toNat = 2 * k := by omega
      have t2 : (2 * (k : Int) + 1).toNat = 2 * k + 1 := by omega
      have l1 : 2 * k < 2 * n := by omega
      have l2 : 2 * k + 1 < 2 * n := by omega
      have HST := Lib.hid (show ((wr.setCell ⟨kb, 2 * k, none⟩ (.int .u8 ((x : Int) / 256))).setCell ⟨kb, 2 * k + 1, none⟩ (.int .u8 ((x : Int) % 256))).heap[kb]? = some (bytesO (keyPart e bs (k + 1))) by
        have h1 := bytes_set (j := 2 * k + 1) (UInt8.ofNat x) (bytes_set (j := 2 * k) (UInt8.ofNat (x / 256)) hkb)
        rw [byte_hi hx2, byte_lo, keyPart_succ HE.out.1 HBS.out hlt hx] at h1
        simpa using h1)
      clear hx hab g0 hkl hy1 hy2 hkb hO
      go_wp2_with fail
      generalize hwq : wr = wq at *
      go_region
      go_wp2_with fail
      go_roundw
      case rel => exact ⟨k + 1, by omega, by go_num, HST.out, ((HO.out.setCell (p := ⟨kb, 2 * k, none⟩) rfl _).setCell (p := ⟨kb, 2 * k + 1, none⟩) rfl _).drew⟩
      case measure => simp [intOf]; omega
    · have hkn : k = n := by omega
      subst hkn
      rw [keyPart_full HE.out.1 HBS.out] at hkb
      have hkl : (keyB e).length = 2 * k := by rw [keyB_length, HE.out.1]
      have hsk := HS.out.sbk
      have hmk := HS.out.mbk
      have hs2 : wr.heap[sb]? = w.heap[sb]? := hO.block _ HS.out.lts.1 hsk
      have hm2 : wr.heap[mb]? = w.heap[mb]? := hO.block _ HS.out.lts.2.1 hmk
      have hSr : SumAt w0.heap.size sb mb kb P M q k cnt D wr.drew := ⟨hs2.trans HS.out.rcd, ⟨keyB e, hkl, hkb⟩, ownsMap_old HS.out.map hm2, HS.out.ls, HS.out.lm, HS.out.lk⟩
      have HSR := Lib.hid hSr
      obtain ⟨d4, d5, d0, d1, d2, d3⟩ := hSr.cells
      have hcv := conv_key k kb (keyB e) hkl wr.drew hkb
      have HKB2 := Lib.hid hkb
      have HKL := Lib.hid hkl
      have HBL := Lib.hid (HB0.out.trans (hO.below (HB0.out.size) (fun g e => e ▸ HS.out.lk)) : Below w0.heap.size w0 wr)
      have hlen : (keyB e).length ≤ 160 := by rw [hkl]; omega
      have HLN := Lib.hid hlen
      clear hkb hkl hs2 hm2 hO hSr
      rcases HT.out.push hf.fl.toRng (t := (c, e)) hc HE.out with ⟨hh, hat, hT'⟩ | ⟨hh, hT'⟩
      · have hlk := look_key (n := k) HSR.out.map (keyB e) hlen _ true hh (hat _) true
        have hcf := cfs_lt hf.fl.toRng HC.out e
        have HT' := Lib.hid hT'
        have HLK := Lib.hid hlk
        clear hh hat hT' hlen
        simp only at hlk
        generalize hcfv : cfs (addN P M) ts e = v at *
        clear hcfv
        have hadd := addE_ok P M q k v c hf hcf hc wr.drew (HLL.out.below HBL.out.drew)
        have HVB := Lib.hid (show addN P M v c ≤ 65536 by have := hf.addN_lt hcf hc; have := hf.q_le; omega)
        have HAD := Lib.hid hadd
        clear hadd
        generalize hav : addN P M v c = av at *
        clear hav hcf
        go_wp2_with fail
        go_region
        go_wp2_with fail
        refine HAD.out.mono ?_
        rintro r w1 ⟨rfl, hB1⟩
        clear hcv hlk d0 d1 d2 d3 d4 d5
        have hS1 := HSR.out.below hB1
        obtain ⟨d4, d5, -, -, -, -⟩ := (SumAt.drew hS1).cells
        have hkb1 : w1.drew.heap[kb]? = some (bytesO (keyB e)) := (hB1.block _ HSR.out.lts.2.2).trans HKB2.out
        have hcv := conv_key k kb (keyB e) HKL.out w1.drew hkb1
        obtain ⟨w3, hrun, hm3, hg3⟩ := hS1.map.drew.update str_keyed Tryd.underlying90 (by unfold maxLen; omega) (val := .int .i64 (av : Int)) (key_of (keyB e) HLN.out) (plainElem_int Tryd.underlying3 (wf_nat HVB.out))
        have HM3 := Lib.hid hm3
        have HG3 := Lib.hid hg3
        have HS1 := Lib.hid (SumAt.drew hS1)
        have HB1 := Lib.hid hB1
        have HKB1 := Lib.hid hkb1
        clear hm3 hg3 hS1 hB1 hkb1
        go_wp2_with fail
        go_region
        go_wp2_with fail
        go_end0
        exact ⟨rfl, _, ⟨(HG3.out.block _ HS1.out.lts.1 (fun x => HS1.out.sbm (Option.some.inj x))).trans HS1.out.rcd, ⟨keyB e, HKL.out, (HG3.out.block _ HS1.out.lts.2.2 (fun x => HS1.out.mbk (Option.some.inj x).symm)).trans HKB1.out⟩, HM3.out, HS.out.ls, HS.out.lm, HS.out.lk⟩, HT'.out,
          (((HO.out.mono fun g x => .inr x).drew.trans (Only.of_below HB1.out)).drew).grown HG3.out fun g x _ => .inl (Option.some.inj x).symm⟩
      · have hlk := look_key (n := k) HSR.out.map (keyB e) hlen 0 false hh (atKey_of_not_has hh _) true
        have HT' := Lib.hid hT'
        have HVB := Lib.hid (show c ≤ 65536 by have := hf.q_le; omega)
        obtain ⟨w3, hrun, hm3, hg3⟩ := HSR.out.map.drew.update str_keyed Tryd.underlying90 (by unfold maxLen; omega) (val := .int .i64 (c : Int)) (key_of (keyB e) HLN.out) (plainElem_int Tryd.underlying3 (wf_nat HVB.out))
        have HM3 := Lib.hid hm3
        have HG3 := Lib.hid hg3
        have hcv2 := conv_key k kb (keyB e) HKL.out wr.drew.drew HKB2.out
        clear hh hT' hlen hm3 hg3
        go_wp2_with fail
        go_region
        go_wp2_with fail
        go_region
        go_wp2_with fail
        go_end0
        exact ⟨rfl, _, ⟨(HG3.out.block _ HSR.out.lts.1 (fun x => HSR.out.sbm (Option.some.inj x))).trans HSR.out.rcd, ⟨keyB e, HKL.out, (HG3.out.block _ HSR.out.lts.2.2 (fun x => HSR.out.mbk (Option.some.inj x).symm)).trans HKB2.out⟩, HM3.out, HS.out.ls, HS.out.lm, HS.out.lk⟩, HT'.out,
          ((HO.out.mono fun g x => .inr x).drew.drew).grown HG3.out fun g x _ => .inl (Option.some.inj x).symm⟩
end Go.Proofs.YtiiopdomlepkmaaDoor
