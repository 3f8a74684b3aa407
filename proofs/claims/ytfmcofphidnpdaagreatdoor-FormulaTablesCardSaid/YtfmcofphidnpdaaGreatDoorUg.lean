/-
  Joined from Pqf, Pqg, Pqh, Pqi, Pqj, Pqk: see there.
-/
import Derived.Test.YtfmcofphidnpdaaGreatDoorUf
import Derived.Test.YtfmcofphidnpdaaGreatDoorLp
import Derived.Test.YtfmcofphidnpdaaGreatDoorUd
import Derived.Laws.IdiomStrings
import Derived.Laws.OwnMore
import Derived.BigRegion
import Derived.Carry
import Derived.StringKeys
import Derived.Deep.RegionLaw
import Derived.Deep.AppendLies
namespace Go.Proofs.YtfmcofphidnpdaaGreatDoor
set_option linter.unusedVariables false
open Go.RowKit Go.Maps

set_option maxHeartbeats 1000000 in
theorem addE_ok (P M q n a b : Nat) (hf : Fld P M q) (ha : a < q) (hb : b < q) (w : World) (hL : Lays w) :
    Calls Tryz.prog 116 #[rg P M q n, .int .i64 (a : Int), .int .i64 (b : Int)] w fun e w' => e = .returned (.int .i64 ((addN P M a b : Nat) : Int)) ∧ Below w.heap.size w w' := by
  have HA := Lib.hid (fun o => Add_ok P M q hf a b ha hb (w.alloc o) (hL.below (below1 w o)))
  clear hL
  go_enter Tryz.func116, Tryz.ntmps116
  go_wp2_with fail
  refine (HA.out _).mono ?_
  rintro e w1 ⟨rfl, hB⟩
  have HB := Lib.hid ((below1 w _).trans (hB.mono (below1 w _).size))
  clear hB
  unfold Ret2
  go_wp2_with fail
  go_ret
  exact ⟨rfl, HB.out⟩
/-! ### the state of a sum -/
abbrev sumO (P M q n mb kb : Nat) : Obj := .cells #[.int .i64 (P : Int), .int .i64 (M : Int), .int .i64 (q : Int), .int .i64 (n : Int), .map (some mb), .slice (some ⟨kb, 0, none⟩) (2 * n) (2 * n)] 233
def bytesO (bs : List UInt8) : Obj := .cells (Lib.byteCells bs).toArray 5 (0, 0)
/-- A sum lies at block sb, its map at mb, its key at kb: all from B on. -/
structure SumAt (B sb mb kb P M q n cnt : Nat) (D : DataW Unit) (w : World) : Prop where
  rcd : w.heap[sb]? = some (sumO P M q n mb kb)
  key : ∃ bs : List UInt8, bs.length = 2 * n ∧ w.heap[kb]? = some (bytesO bs)
  map : w.ownsMap Tryz.prog 9 (plainElem Tryz.prog 3) mb cnt D
  ls : B ≤ sb
  lm : B ≤ mb
  lk : B ≤ kb
section
variable {B sb mb kb P M q n cnt : Nat} {D : DataW Unit} {w w' : World}
theorem SumAt.sbk (h : SumAt B sb mb kb P M q n cnt D w) : sb ≠ kb := by
  rintro rfl
  obtain ⟨bs, _, hk⟩ := h.key
  have := h.rcd
  rw [hk] at this
  simp [bytesO] at this
theorem SumAt.sbm (h : SumAt B sb mb kb P M q n cnt D w) : sb ≠ mb := by
  rintro rfl
  obtain ⟨es, clock, hm, _⟩ := h.map
  have := h.rcd
  rw [hm] at this
  cases this
theorem SumAt.mbk (h : SumAt B sb mb kb P M q n cnt D w) : mb ≠ kb := by
  rintro rfl
  obtain ⟨bs, _, hk⟩ := h.key
  obtain ⟨es, clock, hm, _⟩ := h.map
  rw [hm] at hk
  cases hk
theorem SumAt.same (h : SumAt B sb mb kb P M q n cnt D w) (hs : w'.heap[sb]? = w.heap[sb]?) (hm : w'.heap[mb]? = w.heap[mb]?) (hk : w'.heap[kb]? = w.heap[kb]?) : SumAt B sb mb kb P M q n cnt D w' := by
  refine ⟨hs.trans h.rcd, ?_, ?_, h.ls, h.lm, h.lk⟩
  · obtain ⟨bs, h1, h2⟩ := h.key
    exact ⟨bs, h1, hk.trans h2⟩
  · obtain ⟨es, clock, h1, h2⟩ := h.map
    exact ⟨es, clock, hm.trans h1, h2⟩
theorem SumAt.lts (h : SumAt B sb mb kb P M q n cnt D w) : sb < w.heap.size ∧ mb < w.heap.size ∧ kb < w.heap.size := by
  obtain ⟨bs, _, h2⟩ := h.key
  obtain ⟨es, clock, h1, _⟩ := h.map
  exact ⟨(Array.getElem?_eq_some_iff.1 h.rcd).1, (Array.getElem?_eq_some_iff.1 h1).1, (Array.getElem?_eq_some_iff.1 h2).1⟩
theorem SumAt.below (h : SumAt B sb mb kb P M q n cnt D w) (hB : Below w.heap.size w w') : SumAt B sb mb kb P M q n cnt D w' :=
  h.same (hB.block _ h.lts.1) (hB.block _ h.lts.2.1) (hB.block _ h.lts.2.2)
theorem SumAt.only (h : SumAt B sb mb kb P M q n cnt D w) {S : Nat → Prop} (hO : Only S w w') (h1 : ¬ S sb) (h2 : ¬ S mb) (h3 : ¬ S kb) : SumAt B sb mb kb P M q n cnt D w' :=
  h.same (hO.block _ h.lts.1 h1) (hO.block _ h.lts.2.1 h2) (hO.block _ h.lts.2.2 h3)
theorem SumAt.cells (h : SumAt B sb mb kb P M q n cnt D w) : w.cell? ⟨sb, 4, none⟩ = some (.map (some mb)) ∧ w.cell? ⟨sb, 5, none⟩ = some (.slice (some ⟨kb, 0, none⟩) (2 * n) (2 * n)) ∧
    w.cell? ⟨sb, 0, none⟩ = some (.int .i64 (P : Int)) ∧ w.cell? ⟨sb, 1, none⟩ = some (.int .i64 (M : Int)) ∧ w.cell? ⟨sb, 2, none⟩ = some (.int .i64 (q : Int)) ∧ w.cell? ⟨sb, 3, none⟩ = some (.int .i64 (n : Int)) := by
  have hb := h.rcd
  refine ⟨?_, ?_, ?_, ?_, ?_, ?_⟩ <;> simp [World.cell?, hb]
end

theorem Tryz.info5 : (Tryz.prog.info? 5).map (fun i => (i.zero, i.size, i.bytes)) = some (some (.int .u8 0), 1, 1) := by kernel_rfl

theorem zeros_of (z : Value) (hz : z.cells = #[z]) (n : Nat) : (madeCells z.cells (n * 1)).toList = List.replicate n z := by
  rw [hz, Nat.mul_one, toList_madeCells_one]
theorem make_key (n : Nat) (hn : n ≤ 80) : ∀ w : World, (Instr.makeSlice 126 (.int .i64 (2 * (n : Int))) (.int .i64 (2 * (n : Int)))).run Tryz.prog w = .ok (.slice (some ⟨w.heap.size, 0, none⟩) (2 * n) (2 * n)) (w.alloc (bytesO (List.replicate (2 * n) 0))) := by
  intro w
  obtain ⟨i0, hi, hz0, hz1, hz2⟩ := info_parts Tryz.info5
  have h := run_make (P := Tryz.prog) w 126 5 i0 (.int .u8 0) Tryz.underlying126 hi hz0 .i64 .i64 (2 * (n : Int)) (2 * (n : Int)) (by omega) (by omega) (by rw [hz2]; omega) (by omega)
  have e1 : ((2 * (n : Int)).toNat) = 2 * n := by omega
  rw [h, e1, hz1]
  have e2 : madeCells (Value.int .u8 0).cells (2 * n * 1) = (Lib.byteCells (List.replicate (2 * n) 0)).toArray := by
    apply Array.toList_inj.1
    rw [zeros_of _ rfl]
    simp [Lib.byteCells]
  rw [e2]
  rfl

theorem alloc_at (w : World) (o : Obj) (n : Nat) (h : n = w.heap.size) : (w.alloc o).heap[n]? = some o := by subst h; exact (MapKept.heap_alloc w o).1
theorem alloc_old (w : World) (o o' : Obj) (n : Nat) (h : w.heap[n]? = some o') : (w.alloc o).heap[n]? = some o' := by
  rw [Below.heap_alloc _ _ _ (Array.getElem?_eq_some_iff.1 h).1]; exact h
theorem ownsMap_old {w w' : World} {k : TypeId} {R : Value → Option (DataW Unit × List MemPlace)} {b n : Nat} {D : DataW Unit} (h : w.ownsMap Tryz.prog k R b n D) (hb : w'.heap[b]? = w.heap[b]?) : w'.ownsMap Tryz.prog k R b n D := by
  obtain ⟨es, clock, h1, h2⟩ := h
  exact ⟨es, clock, hb.trans h1, h2⟩

set_option maxHeartbeats 2000000 in
theorem newSum_ok (P M q n : Nat) (hn : n ≤ 80) (w : World) :
    Calls Tryz.prog 167 #[rg P M q n] w fun e w' => ∃ sb mb kb, e = .returned (.pointer (some ⟨sb, 0, none⟩)) ∧ SumAt w.heap.size sb mb kb P M q n 0 (.map []) w' ∧ Below w.heap.size w w' := by
  have hmk := make_key n hn
  have hmm := @run_makeMap Tryz.prog
  have hw : IntKind.i64.wrap (2 * (n : Int)) = 2 * (n : Int) := IntWalk.i64_in _ (by omega)
  go_enter Tryz.func167, Tryz.ntmps167
  go_wp2_with fail
  go_region
  · go_wp2_with fail
    go_ret
    refine ⟨w.heap.size + 1 + 1 + 1, w.heap.size + 1, w.heap.size + 1 + 1, rfl, ⟨?_, ⟨List.replicate (2 * n) 0, by simp, ?_⟩, ?_, by omega, by omega, by omega⟩, ?_⟩
    · exact alloc_at _ _ _ (by simp)
    · exact alloc_old _ _ _ _ (alloc_at _ _ _ (by simp))
    · refine ownsMap_old (w := (w.alloc (rgO P M q n)).alloc (.map #[] 0)) ?_ ?_
      · have := World.ownsMap_made (w.alloc (rgO P M q n)) Tryz.prog 9 (plainElem (H := Unit) Tryz.prog 3)
        simpa using this
      · have h1 := alloc_at (w.alloc (rgO P M q n)) (.map #[] 0) (w.heap.size + 1) (by simp)
        exact (alloc_old _ _ _ _ (alloc_old _ _ _ _ h1)).trans h1.symm
    · exact (((((Below.refl _ w).alloc (Nat.le_refl _) _).alloc (by simp) _).alloc (by simp; omega) _).alloc (by simp; omega) _).drew
  · go_wp2_with fail
    go_ret
    refine ⟨w.heap.size + 1 + 1 + 1, w.heap.size + 1 + 1, w.heap.size + 1, rfl, ⟨?_, ⟨List.replicate (2 * n) 0, by simp, ?_⟩, ?_, by omega, by omega, by omega⟩, ?_⟩
    · exact alloc_at _ _ _ (by simp)
    · exact alloc_old _ _ _ _ (alloc_old _ _ _ _ (alloc_at _ _ _ (by simp)))
    · refine ownsMap_old (w := ((w.alloc (rgO P M q n)).alloc (bytesO (List.replicate (2 * n) 0))).alloc (.map #[] 0)) ?_ ?_
      · have := World.ownsMap_made ((w.alloc (rgO P M q n)).alloc (bytesO (List.replicate (2 * n) 0))) Tryz.prog 9 (plainElem (H := Unit) Tryz.prog 3)
        simpa using this
      · have h1 := alloc_at ((w.alloc (rgO P M q n)).alloc (bytesO (List.replicate (2 * n) 0))) (.map #[] 0) (w.heap.size + 1 + 1) (by simp)
        exact (alloc_old _ _ _ _ h1).trans h1.symm
    · exact (((((Below.refl _ w).alloc (Nat.le_refl _) _).alloc (by simp) _).alloc (by simp; omega) _).alloc (by simp; omega) _).drew
end Go.Proofs.YtfmcofphidnpdaaGreatDoor
namespace Go.Proofs.YtfmcofphidnpdaaGreatDoor
set_option linter.unusedVariables false
open Go.RowKit Go.Maps

theorem SumAt.drew {B sb mb kb P M q n cnt : Nat} {D : DataW Unit} {w : World} (h : SumAt B sb mb kb P M q n cnt D w) : SumAt B sb mb kb P M q n cnt D w.drew := ⟨h.rcd, h.key, h.map, h.ls, h.lm, h.lk⟩

/-- The key filled in part. -/
def keyPart (e : List Nat) (bs : List UInt8) (k : Nat) : List UInt8 := keyB (e.take k) ++ bs.drop (2 * k)
theorem keyPart_zero (e : List Nat) (bs : List UInt8) : keyPart e bs 0 = bs := by simp [keyPart, keyB]
theorem keyB_append : ∀ a b : List Nat, keyB (a ++ b) = keyB a ++ keyB b
  | [], b => rfl
  | x :: a, b => by
    show _ :: _ :: keyB (a ++ b) = _
    rw [keyB_append a b]; rfl
theorem keyPart_length {e : List Nat} {bs : List UInt8} {k n : Nat} (he : e.length = n) (hb : bs.length = 2 * n) (hk : k ≤ n) : (keyPart e bs k).length = 2 * n := by
  simp [keyPart, keyB_length, he, hb]; omega
theorem keyPart_succ {e : List Nat} {bs : List UInt8} {k n x : Nat} (he : e.length = n) (hb : bs.length = 2 * n) (hk : k < n) (hx : e[k]? = some x) :
    ((keyPart e bs k).set (2 * k) (UInt8.ofNat (x / 256))).set (2 * k + 1) (UInt8.ofNat x) = keyPart e bs (k + 1) := by
  unfold keyPart
  have h1 : (keyB (e.take k)).length = 2 * k := by simp [keyB_length, he]; omega
  obtain ⟨a, r, hr⟩ : ∃ a r, bs.drop (2 * k) = a :: r := by
    cases h : bs.drop (2 * k) with
    | nil => have := List.drop_eq_nil_iff.1 h; omega
    | cons a r => exact ⟨a, r, rfl⟩
  obtain ⟨b, r', hr'⟩ : ∃ b r', r = b :: r' := by
    cases r with
    | nil => have := congrArg List.length hr; simp at this; omega
    | cons b r' => exact ⟨b, r', rfl⟩
  subst hr'
  have hd : bs.drop (2 * (k + 1)) = r' := by
    have : bs.drop (2 * k + 2) = (bs.drop (2 * k)).drop 2 := by rw [List.drop_drop]
    rw [show 2 * (k + 1) = 2 * k + 2 by omega, this, hr]; rfl
  rw [hd, hr, List.take_add_one, hx, keyB_append]
  rw [List.set_append_right _ _ (by omega), List.set_append_right _ _ (by omega), h1]
  simp [keyB]
theorem keyPart_full {e : List Nat} {bs : List UInt8} {n : Nat} (he : e.length = n) (hb : bs.length = 2 * n) : keyPart e bs n = keyB e := by
  unfold keyPart
  rw [List.take_of_length_le (by omega), List.drop_of_length_le (by omega), List.append_nil]

theorem bytes_cell {w : World} {g j : Nat} {bs : List UInt8} {x : UInt8} (h : w.heap[g]? = some (bytesO bs)) (hx : bs[j]? = some x) : w.cell? ⟨g, j, none⟩ = some (.int .u8 (x.toNat : Int)) ∧ w.frozen? ⟨g, j, none⟩ = false := by
  constructor
  · simp [World.cell?, h, bytesO, Lib.byteCells, hx]
  · simp [World.frozen?, h, bytesO]
theorem bytes_set {w : World} {g j : Nat} {bs : List UInt8} (x : UInt8) (h : w.heap[g]? = some (bytesO bs)) : (w.setCell ⟨g, j, none⟩ (.int .u8 (x.toNat : Int))).heap[g]? = some (bytesO (bs.set j x)) := by
  have := heap_setCell_same w g j (Lib.byteCells bs).toArray 5 (.int .u8 (x.toNat : Int)) h
  rw [this]
  simp [bytesO, Lib.byteCells, List.map_set]

theorem conv_key (n kb : Nat) (l : List UInt8) (hl : l.length = 2 * n) (W : World) (h : W.heap[kb]? = some (bytesO l)) :
    (convert 126 9 (.slice (some ⟨kb, 0, none⟩) (2 * n) (2 * n))).run Tryz.prog W = .ok (.string ⟨l.toArray⟩) W := by
  have := run_convert_bytes_back (P := Tryz.prog) W 126 9 5 ⟨kb, 0, none⟩ (2 * n) l Tryz.underlying126 Tryz.underlying5 Tryz.underlying9 (fun j hj => by
    have hc := (bytes_cell h (List.getElem?_eq_getElem hj)).1
    have ea : Addr.add ⟨kb, 0, none⟩ j = ⟨kb, j, none⟩ := by
      by_cases h0 : j = 0 <;> simp [Addr.add, h0]
    rw [ea]; exact hc)
  rwa [hl] at this

theorem key_of (l : List UInt8) (hl : l.length ≤ 160) : keyOf Tryz.prog 9 (.string ⟨l.toArray⟩) = some (.string l) := by
  have := Go.WideMaps.keyOf_string_mk (P := Tryz.prog) Tryz.underlying9 (s := ⟨l.toArray⟩) (by show l.toArray.size ≤ maxLen; simp [maxLen]; omega)
  simpa using this
theorem zero_int (w : World) : (zeroValue 3).run Tryz.prog w = .ok (.int .i64 0) w := by kernel_rfl
theorem str_keyed : Keyed Tryz.prog 9 := string_keyed Tryz.underlying9

/-- What a look-up of the key gives. -/
theorem look_key {n mb cnt : Nat} {D : DataW Unit} {W : World} (hm : W.ownsMap Tryz.prog 9 (plainElem Tryz.prog 3) mb cnt D) (l : List UInt8) (hl : l.length ≤ 160) (v : Int) (b : Bool)
    (hb : Maps.has D (.string l) = b) (hv : D.atKey (.string l) (.lit (.int .i64 0)) = .lit (.int .i64 v)) (ok : Bool) :
    (Instr.lookup 231 (.map (some mb)) (.string ⟨l.toArray⟩) true).run Tryz.prog W = .ok (.tuple #[.int .i64 v, .bool b]) W := by
  obtain ⟨x, ps, hrun, hx⟩ := hm.look_ok str_keyed Tryz.underlying231 (zero_int W) (zd := .lit (.int .i64 0)) (zp := []) (plainElem_int Tryz.underlying3 (by decide)) (key_of l hl)
  rw [hv] at hx
  obtain ⟨c, rfl, hc, hwc⟩ := plainElem_int_inv Tryz.underlying3 hx
  rw [hrun, hb]
  have : c = v := by
    have := congrArg Prod.fst hc
    simp at this
    exact this.symm
  rw [this]
theorem look_key1 {n mb cnt : Nat} {D : DataW Unit} {W : World} (hm : W.ownsMap Tryz.prog 9 (plainElem Tryz.prog 3) mb cnt D) (l : List UInt8) (hl : l.length ≤ 160) (v : Int)
    (hv : D.atKey (.string l) (.lit (.int .i64 0)) = .lit (.int .i64 v)) :
    (Instr.lookup 231 (.map (some mb)) (.string ⟨l.toArray⟩) false).run Tryz.prog W = .ok (.int .i64 v) W := by
  obtain ⟨x, ps, hrun, hx⟩ := hm.lookup str_keyed Tryz.underlying231 (zero_int W) (zd := .lit (.int .i64 0)) (zp := []) (plainElem_int Tryz.underlying3 (by decide)) (key_of l hl)
  rw [hv] at hx
  obtain ⟨c, rfl, hc, hwc⟩ := plainElem_int_inv Tryz.underlying3 hx
  rw [hrun]
  have : c = v := by
    have := congrArg Prod.fst hc
    simp at this
    exact this.symm
  rw [this]
theorem wf_nat {x : Nat} (h : x ≤ 65536) : (Lit.int .i64 (x : Int)).wf = true := WalkArith.wf_i64 (by omega)

set_option maxHeartbeats 4000000 in
theorem add_ok (w0 w : World) (hL : Lays w0) (hB0 : Below w0.heap.size w0 w) (sb mb kb P M q n cnt : Nat) (hf : Fld P M q) (hn : n ≤ 80) (D : DataW Unit) (ts : List Tm) (c : Nat) (hc : c < q) (A : Option Addr) (cap : Nat) (e : List Nat) (he : Ex n e)
    (hS : SumAt w0.heap.size sb mb kb P M q n cnt D w) (hT : Tells n (addN P M) ts D) (hcl : CoLt q ts) (hcnt : cnt ≤ 4611686018427387904) (hA : RdI w A (nz e)) (hne : ∀ a, A = some a → a.block ≠ kb) :
    Calls Tryz.prog 188 #[.pointer (some ⟨sb, 0, none⟩), .int .i64 (c : Int), .slice A n cap] w fun r w' =>
      r = .returned (.tuple #[]) ∧ ∃ D', SumAt w0.heap.size sb mb kb P M q n (cnt + 1) D' w' ∧ Tells n (addN P M) (ts ++ [(c, e)]) D' ∧ Only (fun g => g = mb ∨ g = kb) w w' := by
  obtain ⟨bs, hbs, hkb⟩ := hS.key
  have HA := Lib.hid hA
  have HS := Lib.hid hS
  have HE := Lib.hid he
  have HNE := Lib.hid hne
  have HKB := Lib.hid (by rw [keyPart_zero]; exact hkb : w.heap[kb]? = some (bytesO (keyPart e bs 0)))
  have HBS := Lib.hid hbs
  have HT := Lib.hid hT
  have HB0 := Lib.hid hB0
  have HLL := Lib.hid hL
  have HC := Lib.hid hcl
  clear hA hS he hne hkb hbs hT hB0 hL hcl
  go_enter Tryz.func188, Tryz.ntmps188
  go_wp2_with fail
  go_loopw [6, 7, 12] (fun _ _ i wr => ∃ k : Nat, k ≤ n ∧ i = .int .i64 k ∧ wr.heap[kb]? = some (bytesO (keyPart e bs k)) ∧ Only (fun g => g = kb) w wr) (fun _ _ i _ => n - (intOf i).toNat)
  case atStart => exact ⟨0, by omega, rfl, HKB.out, Only.refl _ _⟩
  case round =>
    obtain ⟨k, hk, rfl, hkb, hO⟩ := hrel
    have HK2 := Lib.hid hkb
    have HO := Lib.hid hO
    by_cases hlt : k < n
    · obtain ⟨x, hx⟩ : ∃ x, e[k]? = some x := ⟨_, List.getElem?_eq_getElem (by rw [HE.out.1]; exact hlt)⟩
      have hx2 := HE.out.2 x (List.mem_of_getElem? hx)
      obtain ⟨a, rfl, g0⟩ := HA.out k _ (nz_at hx)
      have hab : (a.add k).block ≠ kb := by
        have := HNE.out a rfl
        unfold Addr.add
        split <;> exact this
      have g1 := (hO.cell (World.block_lt_of_cell? w _ g0) hab).trans g0
      have hkl := keyPart_length HE.out.1 HBS.out (Nat.le_of_lt hlt)
      obtain ⟨y1, hy1⟩ : ∃ y, (keyPart e bs k)[2 * k]? = some y := ⟨_, List.getElem?_eq_getElem (by omega)⟩
      obtain ⟨y2, hy2⟩ : ∃ y, (keyPart e bs k)[2 * k + 1]? = some y := ⟨_, List.getElem?_eq_getElem (by omega)⟩
      obtain ⟨c1, f1⟩ := bytes_cell hkb hy1
      obtain ⟨c2, f2⟩ := bytes_cell hkb hy2
      have hsk := HS.out.sbk
      have d5 := (hO.cell (p := ⟨sb, 5, none⟩) HS.out.lts.1 hsk).trans HS.out.cells.2.1
      have HX := Lib.hid hx
      have w1 : IntKind.i64.wrap (2 * (k : Int)) = 2 * (k : Int) := IntWalk.i64_in _ (by omega)
      have w2 : IntKind.i64.wrap (2 * (k : Int) + 1) = 2 * (k : Int) + 1 := IntWalk.i64_in _ (by omega)
      have b1 : 0 ≤ 2 * (k : Int) := by omega
      have b2 : 0 ≤ 2 * (k : Int) + 1 := by omega
      have t1 : (2 * (k : Int)).toNat = 2 * k := by omega
      have t2 : (2 * (k : Int) + 1).toNat = 2 * k + 1 := by omega
      have l1 : 2 * k < 2 * n := by omega
      have l2 : 2 * k + 1 < 2 * n := by omega
      have HST := Lib.hid (show ((wr.setCell ⟨kb, 2 * k, none⟩ (.int .u8 ((x : Int) / 256))).setCell ⟨kb, 2 * k + 1, none⟩ (.int .u8 ((x : Int) % 256))).heap[kb]? = some (bytesO (keyPart e bs (k + 1))) by
        have h1 := bytes_set (j := 2 * k + 1) (UInt8.ofNat x) (bytes_set (j := 2 * k) (UInt8.ofNat (x / 256)) hkb)
        rw [byte_hi hx2, byte_lo, keyPart_succ HE.out.1 HBS.out hlt hx] at h1
        simpa using h1)
      clear hx hab g0 hkl hy1 hy2 hkb hO
      go_wp2_with fail
      generalize hwq : wr = wq at *
      go_region
      go_wp2_with fail
      go_roundw
      case rel => exact ⟨k + 1, by omega, by go_num, HST.out, ((HO.out.setCell (p := ⟨kb, 2 * k, none⟩) rfl _).setCell (p := ⟨kb, 2 * k + 1, none⟩) rfl _).drew⟩
      case measure => simp [intOf]; omega
    · have hkn : k = n := by omega
      subst hkn
      rw [keyPart_full HE.out.1 HBS.out] at hkb
      have hkl : (keyB e).length = 2 * k := by rw [keyB_length, HE.out.1]
      have hsk := HS.out.sbk
      have hmk := HS.out.mbk
      have hs2 : wr.heap[sb]? = w.heap[sb]? := hO.block _ HS.out.lts.1 hsk
      have hm2 : wr.heap[mb]? = w.heap[mb]? := hO.block _ HS.out.lts.2.1 hmk
      have hSr : SumAt w0.heap.size sb mb kb P M q k cnt D wr.drew := ⟨hs2.trans HS.out.rcd, ⟨keyB e, hkl, hkb⟩, ownsMap_old HS.out.map hm2, HS.out.ls, HS.out.lm, HS.out.lk⟩
      have HSR := Lib.hid hSr
      obtain ⟨d4, d5, d0, d1, d2, d3⟩ := hSr.cells
      have hcv := conv_key k kb (keyB e) hkl wr.drew hkb
      have HKB2 := Lib.hid hkb
      have HKL := Lib.hid hkl
      have HBL := Lib.hid (HB0.out.trans (hO.below (HB0.out.size) (fun g e => e ▸ HS.out.lk)) : Below w0.heap.size w0 wr)
      have hlen : (keyB e).length ≤ 160 := by rw [hkl]; omega
      have HLN := Lib.hid hlen
      clear hkb hkl hs2 hm2 hO hSr
      rcases HT.out.push hf.fl.toRng (t := (c, e)) hc HE.out with ⟨hh, hat, hT'⟩ | ⟨hh, hT'⟩
      · have hlk := look_key (n := k) HSR.out.map (keyB e) hlen _ true hh (hat _) true
        have hcf := cfs_lt hf.fl.toRng HC.out e
        have HT' := Lib.hid hT'
        have HLK := Lib.hid hlk
        clear hh hat hT' hlen
        simp only at hlk
        generalize hcfv : cfs (addN P M) ts e = v at *
        clear hcfv
        have hadd := addE_ok P M q k v c hf hcf hc wr.drew (HLL.out.below HBL.out.drew)
        have HVB := Lib.hid (show addN P M v c ≤ 65536 by have := hf.addN_lt hcf hc; have := hf.q_le; omega)
        have HAD := Lib.hid hadd
        clear hadd
        generalize hav : addN P M v c = av at *
        clear hav hcf
        go_wp2_with fail
        go_region
        go_wp2_with fail
        refine HAD.out.mono ?_
        rintro r w1 ⟨rfl, hB1⟩
        clear hcv hlk d0 d1 d2 d3 d4 d5
        have hS1 := HSR.out.below hB1
        obtain ⟨d4, d5, -, -, -, -⟩ := (SumAt.drew hS1).cells
        have hkb1 : w1.drew.heap[kb]? = some (bytesO (keyB e)) := (hB1.block _ HSR.out.lts.2.2).trans HKB2.out
        have hcv := conv_key k kb (keyB e) HKL.out w1.drew hkb1
        obtain ⟨w3, hrun, hm3, hg3⟩ := hS1.map.drew.update str_keyed Tryz.underlying231 (by unfold maxLen; omega) (val := .int .i64 (av : Int)) (key_of (keyB e) HLN.out) (plainElem_int Tryz.underlying3 (wf_nat HVB.out))
        have HM3 := Lib.hid hm3
        have HG3 := Lib.hid hg3
        have HS1 := Lib.hid (SumAt.drew hS1)
        have HB1 := Lib.hid hB1
        have HKB1 := Lib.hid hkb1
        clear hm3 hg3 hS1 hB1 hkb1
        go_wp2_with fail
        go_region
        go_wp2_with fail
        go_end0
        exact ⟨rfl, _, ⟨(HG3.out.block _ HS1.out.lts.1 (fun x => HS1.out.sbm (Option.some.inj x))).trans HS1.out.rcd, ⟨keyB e, HKL.out, (HG3.out.block _ HS1.out.lts.2.2 (fun x => HS1.out.mbk (Option.some.inj x).symm)).trans HKB1.out⟩, HM3.out, HS.out.ls, HS.out.lm, HS.out.lk⟩, HT'.out,
          (((HO.out.mono fun g x => .inr x).drew.trans (Only.of_below HB1.out)).drew).grown HG3.out fun g x _ => .inl (Option.some.inj x).symm⟩
      · have hlk := look_key (n := k) HSR.out.map (keyB e) hlen 0 false hh (atKey_of_not_has hh _) true
        have HT' := Lib.hid hT'
        have HVB := Lib.hid (show c ≤ 65536 by have := hf.q_le; omega)
        obtain ⟨w3, hrun, hm3, hg3⟩ := HSR.out.map.drew.update str_keyed Tryz.underlying231 (by unfold maxLen; omega) (val := .int .i64 (c : Int)) (key_of (keyB e) HLN.out) (plainElem_int Tryz.underlying3 (wf_nat HVB.out))
        have HM3 := Lib.hid hm3
        have HG3 := Lib.hid hg3
        have hcv2 := conv_key k kb (keyB e) HKL.out wr.drew.drew HKB2.out
        clear hh hT' hlen hm3 hg3
        go_wp2_with fail
        go_region
        go_wp2_with fail
        go_region
        go_wp2_with fail
        go_end0
        exact ⟨rfl, _, ⟨(HG3.out.block _ HSR.out.lts.1 (fun x => HSR.out.sbm (Option.some.inj x))).trans HSR.out.rcd, ⟨keyB e, HKL.out, (HG3.out.block _ HSR.out.lts.2.2 (fun x => HSR.out.mbk (Option.some.inj x).symm)).trans HKB2.out⟩, HM3.out, HS.out.ls, HS.out.lm, HS.out.lk⟩, HT'.out,
          ((HO.out.mono fun g x => .inr x).drew.drew).grown HG3.out fun g x _ => .inl (Option.some.inj x).symm⟩
end Go.Proofs.YtfmcofphidnpdaaGreatDoor
namespace Go.Proofs.YtfmcofphidnpdaaGreatDoor
set_option linter.unusedVariables false
open Go.RowKit Go.Maps Go.Sort Go.Shelf

set_option maxHeartbeats 1000000 in
theorem isZero_ok (key : Value) (a : Int) (w : World) :
    Calls Tryz.prog 211 #[key, .int .i64 a] w fun e w' => e = .returned (.bool (decide (a = 0))) ∧ w = w' := by
  by_cases h : a = 0
  · subst h
    go_enter Tryz.func211, Tryz.ntmps211
    go_wp2
    go_ret
    exact ⟨rfl, rfl⟩
  · have h1 : ((a : Int) == 0) = false := by simpa using h
    go_enter Tryz.func211, Tryz.ntmps211
    go_wp2
    go_ret
    exact ⟨ret_bool (decide_eq_false h).symm, rfl⟩

set_option maxHeartbeats 1000000 in
theorem sweep_ok (b n : Nat) (D : DataW Unit) (w : World) (hown : w.ownsMap Tryz.prog 9 (plainElem Tryz.prog 3) b n D) :
    Calls Tryz.prog 210 #[.map (some b), .func (.func 211) #[] #[]] w fun e w' => e = .returned (.tuple #[]) ∧ w'.ownsMap Tryz.prog 9 (plainElem Tryz.prog 3) b n (Lib.deleteFuncD pdZ D) ∧ w.grownBy w' (some b) :=
  AnyDf.maps_DeleteFunc Tryz.delF str_keyed (plainElem Tryz.prog 3) pdZ 211 #[] b n D w (enters_of Tryz.func211 (by kernel_rfl) rfl) hown
    (fun W key val kl yd yp hg hk hv => by
      obtain ⟨a, rfl, hz, _⟩ := plainElem_int_inv Tryz.underlying3 hv
      refine (isZero_ok key a W).mono ?_
      rintro e w' ⟨rfl, rfl⟩
      simp only [Prod.mk.injEq] at hz
      rw [hz.1]
      exact ⟨rfl, ⟨rfl, rfl, rfl, Nat.le_refl _, fun _ _ _ => rfl⟩⟩)

set_option maxHeartbeats 1000000 in
theorem settle_ok (B sb mb kb P M q n cnt : Nat) (D : DataW Unit) (w : World) (hS : SumAt B sb mb kb P M q n cnt D w) (hc : cnt ≤ 4611686018427387904) :
    Calls Tryz.prog 189 #[.pointer (some ⟨sb, 0, none⟩)] w fun e w' => e = .returned (.bool (decide (Maps.size (Lib.deleteFuncD pdZ D) ≤ 20000))) ∧ SumAt B sb mb kb P M q n cnt (Lib.deleteFuncD pdZ D) w' ∧ Only (fun g => g = mb) w w' := by
  have hd4 := hS.cells.1
  have HSW := Lib.hid (sweep_ok mb cnt D w hS.map)
  have HS := Lib.hid hS
  clear hS
  go_enter Tryz.func189, Tryz.ntmps189
  go_wp2_with fail
  refine HSW.out.mono ?_
  rintro e w1 ⟨rfl, hm, hg⟩
  have hd5 := (World.cell?_of_block (a := ⟨sb, 4, none⟩) (hg.block _ HS.out.lts.1 (fun x => HS.out.sbm (Option.some.inj x)))).trans hd4
  have hlen := hm.len Tryz.underlying231 3
  have hS1 : SumAt B sb mb kb P M q n cnt (Lib.deleteFuncD pdZ D) w1 := by
    obtain ⟨bs, h1, h2⟩ := HS.out.key
    exact ⟨(hg.block _ HS.out.lts.1 (fun x => HS.out.sbm (Option.some.inj x))).trans HS.out.rcd, ⟨bs, h1, (hg.block _ HS.out.lts.2.2 (fun x => HS.out.mbk (Option.some.inj x).symm)).trans h2⟩, hm, HS.out.ls, HS.out.lm, HS.out.lk⟩
  have HS1 := Lib.hid hS1
  have HO : Hid (Only (fun g => g = mb) w w1) := Lib.hid ((Only.refl _ w).grown hg fun k e _ => (Option.some.inj e).symm)
  have hsz := hm.size_le
  clear hS1 hg hd4 hm
  generalize hE : Maps.size (Lib.deleteFuncD pdZ D) = sz at hsz hlen
  have HE := Lib.hid hE
  clear hE
  by_cases hz : sz ≤ 20000
  · have hzd : decide (sz ≤ 20000) = true := decide_eq_true hz
    go_wp2_with fail
    go_ret
    exact ⟨ret_bool (by rw [HE.out, hzd]; simp; omega), HS1.out, HO.out⟩
  · have hzd : decide (sz ≤ 20000) = false := decide_eq_false hz
    have hzd2 : decide ((sz : Int) ≤ 20000) = false := by simp; omega
    go_wp2_with fail
    go_ret
    exact ⟨ret_bool (by rw [HE.out, hzd]), HS1.out, HO.out⟩
end Go.Proofs.YtfmcofphidnpdaaGreatDoor
namespace Go.Proofs.YtfmcofphidnpdaaGreatDoor
set_option linter.unusedVariables false
open Go.RowKit Go.Maps

/-- A block of integers. -/
def intsO (l : List Int) : Obj := .cells (l.map (Value.int .i64)).toArray 3 (0, 0)
theorem Tryz.info3 : (Tryz.prog.info? 3).map (fun i => (i.zero, i.size, i.bytes)) = some (some (.int .i64 0), 1, 8) := by kernel_rfl
theorem make_ints (n : Nat) (hn : n ≤ 1048576) : ∀ w : World, (Instr.makeSlice 57 (.int .i64 (n : Int)) (.int .i64 (n : Int))).run Tryz.prog w = .ok (.slice (some ⟨w.heap.size, 0, none⟩) n n) (w.alloc (intsO (List.replicate n 0))) := by
  intro w
  obtain ⟨i0, hi, hz0, hz1, hz2⟩ := info_parts Tryz.info3
  have h := run_make (P := Tryz.prog) w 57 3 i0 (.int .i64 0) Tryz.underlying57 hi hz0 .i64 .i64 (n : Int) (n : Int) (by omega) (by omega) (by rw [hz2]; omega) (by omega)
  rw [h, Int.toNat_natCast, hz1]
  have e2 : madeCells (Value.int .i64 0).cells (n * 1) = ((List.replicate n (0 : Int)).map (Value.int .i64)).toArray := by
    apply Array.toList_inj.1
    rw [zeros_of _ rfl]
    simp
  rw [e2]
  rfl
theorem ints_cell {w : World} {g j : Nat} {l : List Int} {x : Int} (h : w.heap[g]? = some (intsO l)) (hx : l[j]? = some x) : w.cell? ⟨g, j, none⟩ = some (.int .i64 x) ∧ w.frozen? ⟨g, j, none⟩ = false := by
  constructor
  · simp [World.cell?, h, intsO, hx]
  · simp [World.frozen?, h, intsO]
theorem ints_set {w : World} {g j : Nat} {l : List Int} (x : Int) (h : w.heap[g]? = some (intsO l)) : (w.setCell ⟨g, j, none⟩ (.int .i64 x)).heap[g]? = some (intsO (l.set j x)) := by
  have := heap_setCell_same w g j (l.map (Value.int .i64)).toArray 3 (.int .i64 x) h
  rw [this]
  simp [intsO, List.map_set]
theorem ints_read {w : World} {g : Nat} {l : List Int} (h : w.heap[g]? = some (intsO l)) : RdI w (some ⟨g, 0, none⟩) l := fun k x hk => by
  refine ⟨_, rfl, ?_⟩
  have ea : Addr.add ⟨g, 0, none⟩ k = ⟨g, k, none⟩ := by
    by_cases h0 : k = 0 <;> simp [Addr.add, h0]
  rw [ea]
  exact (ints_cell h hk).1

def intPart (e : List Nat) (n k : Nat) : List Int := nz (e.take k) ++ List.replicate (n - k) 0
theorem intPart_zero (e : List Nat) (n : Nat) : intPart e n 0 = List.replicate n 0 := by simp [intPart, nz]
theorem intPart_full {e : List Nat} {n : Nat} (h : e.length = n) : intPart e n n = nz e := by
  unfold intPart
  rw [List.take_of_length_le (by omega)]
  simp
theorem intPart_at {e : List Nat} {n k : Nat} (h : e.length = n) (hk : k < n) : (intPart e n k)[k]? = some 0 := by
  unfold intPart
  have h1 : (nz (e.take k)).length = k := by simp [nz_length]; omega
  rw [List.getElem?_append_right (by omega), h1, Nat.sub_self]
  rw [List.getElem?_replicate]
  simp; omega
theorem intPart_succ {e : List Nat} {n k x : Nat} (h : e.length = n) (hk : k < n) (hx : e[k]? = some x) : (intPart e n k).set k (x : Int) = intPart e n (k + 1) := by
  unfold intPart
  have h1 : (nz (e.take k)).length = k := by simp [nz_length]; omega
  rw [List.set_append_right _ _ (by omega), h1, List.take_add_one, hx]
  obtain ⟨m, hm⟩ : ∃ m, n - k = m + 1 := ⟨n - k - 1, by omega⟩
  rw [hm, show n - (k + 1) = m by omega, List.replicate_succ]
  simp [nz]

theorem keyB_at : ∀ (e : List Nat) (k x : Nat), e[k]? = some x → (keyB e)[2 * k]? = some (UInt8.ofNat (x / 256)) ∧ (keyB e)[2 * k + 1]? = some (UInt8.ofNat x)
  | [], k, x, h => by simp at h
  | y :: e, 0, x, h => by
    simp at h
    subst h
    simp [keyB]
  | y :: e, k + 1, x, h => by
    have := keyB_at e k x (by simpa using h)
    rw [show 2 * (k + 1) = (2 * k + 1) + 1 by omega]
    simpa [keyB] using this

theorem or_nat (a b : Nat) (ha : a < 9223372036854775808) (hb : b < 9223372036854775808) : bits .or .i64 (a : Int) (b : Int) = ((a ||| b : Nat) : Int) := by
  show IntKind.i64.wrap ((BitVec.ofInt 64 (a : Int) ||| BitVec.ofInt 64 (b : Int)).toNat : Int) = _
  rw [BitVec.toNat_or, ofInt_u64 a (by omega), ofInt_u64 b (by omega)]
  have e : (9223372036854775808 : Nat) = 2 ^ 63 := by decide
  exact Lib.wrap_i64_small _ (by rw [e] at ha hb ⊢; exact Nat.or_lt_two_pow ha hb)
theorem two_bytes {x : Nat} (h : x ≤ 65535) : bits .or .i64 ((x : Int) / 256 % 256 * 256) ((x : Int) % 256) = (x : Int) := by
  have e1 : ((x : Int) / 256 % 256 * 256) = ((x / 256 * 256 : Nat) : Int) := by omega
  have e2 : ((x : Int) % 256) = ((x % 256 : Nat) : Int) := by omega
  rw [e1, e2, or_nat _ _ (by omega) (by omega)]
  have h2 := Nat.two_pow_add_eq_or_of_lt (i := 8) (b := x % 256) (by omega) (x / 256)
  have e3 : x / 256 * 256 = 2 ^ 8 * (x / 256) := by omega
  rw [e3, ← h2]
  omega

set_option maxHeartbeats 2000000 in
theorem exps_ok (e : List Nat) (n : Nat) (he : Ex n e) (hn : n ≤ 80) (w : World) :
    Calls Tryz.prog 192 #[.string ⟨(keyB e).toArray⟩] w fun r w' => r = .returned (.slice (some ⟨w.heap.size, 0, none⟩) n n) ∧ w'.heap[w.heap.size]? = some (intsO (nz e)) ∧ Below w.heap.size w w' := by
  obtain ⟨s, hs⟩ : ∃ s : ByteArray, s = ⟨(keyB e).toArray⟩ := ⟨_, rfl⟩
  have hsz : s.size = 2 * n := by
    rw [hs]
    show (keyB e).toArray.size = 2 * n
    simp [keyB_length, he.1]
  rw [← hs]
  have HS := Lib.hid hs
  have HE := Lib.hid he
  have hmk := make_ints n (by omega)
  clear hs he
  have HH := Lib.hid (show (w.alloc (intsO (List.replicate n 0))).heap[w.heap.size]? = some (intsO (intPart e n 0)) by rw [intPart_zero]; exact alloc_at _ _ _ rfl)
  go_enter Tryz.func192, Tryz.ntmps192
  go_wp2_with fail
  go_loopw [4, 11] (fun _ i wr => ∃ k : Nat, k ≤ n ∧ i = .int .i64 k ∧ wr.heap[w.heap.size]? = some (intsO (intPart e n k)) ∧ Below w.heap.size w wr) (fun _ i _ => n - (intOf i).toNat)
  case atStart => exact ⟨0, by omega, rfl, HH.out, below1 _ _⟩
  case round =>
    obtain ⟨k, hk, rfl, hb, hB⟩ := hrel
    have HB := Lib.hid hB
    have HK := Lib.hid hb
    by_cases hlt : k < n
    · obtain ⟨x, hx⟩ : ∃ x, e[k]? = some x := ⟨_, List.getElem?_eq_getElem (by rw [HE.out.1]; exact hlt)⟩
      have hx2 := HE.out.2 x (List.mem_of_getElem? hx)
      obtain ⟨c1, f1⟩ := ints_cell hb (intPart_at HE.out.1 hlt)
      have g1 : s[2 * k]'(by omega) = UInt8.ofNat (x / 256) := by
        have := (keyB_at e k x hx).1
        have h2 : s.data[2 * k]? = some (UInt8.ofNat (x / 256)) := by rw [HS.out]; simpa using this
        exact (Array.getElem?_eq_some_iff.1 h2).2
      have g2 : s[2 * k + 1]'(by omega) = UInt8.ofNat x := by
        have := (keyB_at e k x hx).2
        have h2 : s.data[2 * k + 1]? = some (UInt8.ofNat x) := by rw [HS.out]; simpa using this
        exact (Array.getElem?_eq_some_iff.1 h2).2
      have w1 : IntKind.i64.wrap (2 * (k : Int)) = 2 * (k : Int) := IntWalk.i64_in _ (by omega)
      have w2 : IntKind.i64.wrap (2 * (k : Int) + 1) = 2 * (k : Int) + 1 := IntWalk.i64_in _ (by omega)
      have b1 : 0 ≤ 2 * (k : Int) := by omega
      have b2 : 0 ≤ 2 * (k : Int) + 1 := by omega
      have b3 : 2 * (k : Int) < 2 * (n : Int) := by omega
      have b4 : 2 * (k : Int) + 1 < 2 * (n : Int) := by omega
      have t1 : (2 * (k : Int)).toNat = 2 * k := by omega
      have t2 : (2 * (k : Int) + 1).toNat = 2 * k + 1 := by omega
      have HX := Lib.hid hx
      clear hx hb hB
      go_wp2_with fail
      generalize hwq : wr = wq at *
      have HST := Lib.hid (show (wq.setCell ⟨w.heap.size, k, none⟩ (.int .i64 (bits .or .i64 ((x : Int) / 256 % 256 * 256) ((x : Int) % 256)))).heap[w.heap.size]? = some (intsO (intPart e n (k + 1))) by
        rw [two_bytes hx2, ← intPart_succ HE.out.1 hlt HX.out]
        exact ints_set _ HK.out)
      go_region
      go_wp2_with fail
      go_roundw
      case rel => exact ⟨k + 1, by omega, by go_num, HST.out, (HB.out.setCell (p := ⟨w.heap.size, k, none⟩) (Nat.le_refl _) _).drew⟩
      case measure => simp [intOf]; omega
    · have hkn : k = n := by omega
      subst hkn
      rw [intPart_full HE.out.1] at hb
      have HB2 := Lib.hid hb
      clear hb
      go_wp2_with fail
      go_ret
      exact ⟨rfl, HB2.out, HB.out⟩
end Go.Proofs.YtfmcofphidnpdaaGreatDoor
namespace Go.Proofs.YtfmcofphidnpdaaGreatDoor
set_option linter.unusedVariables false
open Go.RowKit Go.Maps Go.Sort Go.Shelf

theorem sorts_in (m : Nat) : AnyZ.SortsIn Tryz.prog Tryz.sortedZ_ren Fence.wide m :=
  ⟨fun blk off cap ss W hH hblk hsz => callsIn_wide.2 (AnyM.slices_Sort_string Tryz.sortZ blk off cap ss W hH hblk hsz),
   fun p cap W => callsIn_wide.2 (AnyM.slices_Sort_string_none Tryz.sortZ p cap W)⟩
theorem keys_call (mb : Option Nat) (W : World) : Calls Tryz.prog 191 #[.map mb] W fun e w' => e = .returned (.func (.func 214) #[] #[.pointer (some ⟨W.heap.size, 0, none⟩)]) ∧ w' = W.alloc (.cells #[.map mb] 231) :=
  callsIn_wide.1 (AnyZ.keys_in Tryz.keysZ Fence.wide 5 trivial rfl mb W)
set_option maxHeartbeats 1000000 in
theorem sorted_call (b nn : Nat) (D0 : DataW Unit) (R : Value → Option (DataW Unit × List MemPlace)) (w : World) (hown : w.ownsMap Tryz.prog 9 R b nn D0) (hmax : Maps.size D0 ≤ maxLen) (hbytes : Maps.size D0 * 16 ≤ 140737488355328) :
    Calls Tryz.prog 190 #[.func (.func 214) #[] #[.pointer (some ⟨w.heap.size, 0, none⟩)]] (w.alloc (.cells #[.map (some b)] 231)) fun e w' => ∃ (v : Value) (ss : List (List UInt8)), e = .returned v ∧ ss.Perm (strKeys D0) ∧
      w'.ownsRow (w.alloc (.cells #[.map (some b)] 231)).heap.size 9 1 v ss.length ((ss.mergeSort (fun x y => decide (x ≤ y))).map encStr) ∧ (v = .slice none 0 0 ↔ ss = []) ∧ Below (w.alloc (.cells #[.map (some b)] 231)).heap.size (w.alloc (.cells #[.map (some b)] 231)) w' := by
  have hbl := hown.lt
  have hseq : SeqGives Fence.wide 2 Tryz.prog 214 #[.pointer (some ⟨w.heap.size, 0, none⟩)] encStr (fun ss => ss.Perm (strKeys D0)) (Maps.size D0) (w.alloc (.cells #[.map (some b)] 231)) :=
    AnyZ.keys_gives (ρ := Tryz.keysZ_ren) { Tryz.keysZ with } Fence.wide _ trivial rfl (by omega) w.heap.size b nn D0 _ (by simp) (by simp) (by
      obtain ⟨es, clock, hb, Ft, hs, hD⟩ := hown
      exact ⟨es, clock, (Below.heap_alloc _ _ b hbl).trans hb, Ft, hs, hD⟩)
  exact callsIn_wide.1 (AnyZ.sorted_in Tryz.sortedZ Fence.wide 5 trivial trivial trivial trivial rfl (by omega) (sorts_in _) (enters_of Tryz.func213 (by kernel_rfl) rfl) 214 #[.pointer (some ⟨w.heap.size, 0, none⟩)] trivial (enters_of Tryz.func214 (by kernel_rfl) rfl) _ _ hmax hbytes _ hseq)

theorem Tryz.infoT : (Tryz.prog.info? 144).map (fun i => (i.zero, i.size, i.bytes)) = some (some (.agg #[.int .i64 0, .slice none 0 0]), 2, 32) := by kernel_rfl

/-- The terms that have been made, each with the block of its exponents. -/
def flatT (n : Nat) (out : List (Tm × Nat)) : List Value := out.flatMap fun x => [.int .i64 (x.1.1 : Int), .slice (some ⟨x.2, 0, none⟩) n n]
theorem flatT_length (n : Nat) (out : List (Tm × Nat)) : (flatT n out).length = out.length * 2 := by
  induction out with
  | nil => rfl
  | cons x l ih => simp [flatT] at ih ⊢; omega
theorem flatT_at (n : Nat) : ∀ (out : List (Tm × Nat)) (k : Nat) (x : Tm × Nat), out[k]? = some x → (flatT n out)[k * 2]? = some (.int .i64 (x.1.1 : Int)) ∧ (flatT n out)[k * 2 + 1]? = some (.slice (some ⟨x.2, 0, none⟩) n n)
  | [], k, x, h => by simp at h
  | y :: l, 0, x, h => by
    simp at h
    subst h
    simp [flatT]
  | y :: l, k + 1, x, h => by
    have := flatT_at n l k x (by simpa using h)
    rw [show (k + 1) * 2 = k * 2 + 1 + 1 by omega]
    simpa [flatT] using this
structure OutS (B n : Nat) (v : Value) (out : List (Tm × Nat)) (w : World) : Prop where
  row : w.ownsRow B 144 2 v out.length (flatT n out)
  els : ∀ x ∈ out, B ≤ x.2 ∧ x.1.2.length = n ∧ w.heap[x.2]? = some (intsO (nz x.1.2))
theorem tms_at {p : List Tm} {k : Nat} {t : Int × List Int} (h : (p.map (fun t => ((t.1 : Int), nz t.2)))[k]? = some t) : ∃ s, p[k]? = some s ∧ t = ((s.1 : Int), nz s.2) := by
  rw [List.getElem?_map] at h
  obtain ⟨s, h1, h2⟩ := Option.map_eq_some_iff.1 h
  exact ⟨s, h1, h2.symm⟩
abbrev tms (p : List Tm) : List (Int × List Int) := p.map (fun t => ((t.1 : Int), nz t.2))
/-- A list of terms as the program hands it back. -/
theorem OutS.reads {B n : Nat} {v : Value} {out : List (Tm × Nat)} {w : World} (h : OutS B n v out w) (hn : n ≤ 80) : ∃ A c, v = .slice A out.length c ∧ RdP w A (tms (out.map Prod.fst)) := by
  rcases h.row.2 with ⟨rfl, h0⟩ | ⟨g, cap, cur, rfl, _⟩
  · have : out = [] := List.length_eq_zero_iff.1 (by simpa using h0)
    subst this
    exact ⟨none, 0, rfl, fun k t hk => by simp at hk⟩
  · refine ⟨_, cap, rfl, fun k t hk => ?_⟩
    obtain ⟨s, hs, rfl⟩ := tms_at hk
    rw [List.getElem?_map] at hs
    obtain ⟨x, hx, rfl⟩ := Option.map_eq_some_iff.1 hs
    obtain ⟨h1, h2⟩ := flatT_at n out k x hx
    have hkl : k < out.length := (List.getElem?_eq_some_iff.1 hx).1
    obtain ⟨_, h3, h4⟩ := h.els x (List.mem_of_getElem? hx)
    refine ⟨g, 0, .slice (some ⟨x.2, 0, none⟩) n n, rfl, ?_, ?_, ?_⟩
    · have := h.row.cellAt (k * 2) (by omega)
      rw [Nat.zero_add, this, h1]
    · have := h.row.cellAt (k * 2 + 1) (by omega)
      rw [Nat.zero_add, this, h2]
    · exact ⟨some ⟨x.2, 0, none⟩, n, by rw [nz_length, h3], ints_read h4, by rw [nz_length]; omega⟩

theorem make_terms (m : Nat) (hm : m ≤ 20000) : ∃ cs : Array Value, cs.size = m * 2 ∧ ∀ w : World, (Instr.makeSlice 67 (.int .i64 0) (.int .i64 (m : Int))).run Tryz.prog w = .ok (.slice (some ⟨w.heap.size, 0, none⟩) 0 m) (w.alloc (.cells cs 144)) := by
  obtain ⟨i0, hi, hz0, hz1, hz2⟩ := info_parts Tryz.infoT
  refine ⟨_, size_madeCells (Value.agg #[.int .i64 0, .slice none 0 0]).cells (m * 2), fun w => ?_⟩
  have h := run_make (P := Tryz.prog) w 67 144 i0 (.agg #[.int .i64 0, .slice none 0 0]) Tryz.underlying67 hi hz0 .i64 .i64 0 (m : Int) (by omega) (by omega) (by rw [hz2]; omega) (by omega)
  rw [h, Int.toNat_natCast, hz1]
  rfl
theorem OutS.start (B n m : Nat) (cs : Array Value) (hcs : cs.size = m * 2) (hm : m ≤ 20000) (w : World) (h : w.heap[B]? = some (.cells cs 144 (0, 0))) : OutS B n (.slice (some ⟨B, 0, none⟩) 0 m) [] w :=
  ⟨⟨rfl, .inr ⟨B, m, cs, rfl, Nat.le_refl _, h, Nat.zero_le _, by unfold maxLen; omega, hcs, by simp [flatT]⟩⟩, by simp⟩
theorem ownsRow_below {w w' : World} {base : Nat} {e : TypeId} {size : Nat} {v : Value} {n : Nat} {xs : List Value} (h : w.ownsRow base e size v n xs) (hB : Below w.heap.size w w') : w'.ownsRow base e size v n xs :=
  h.kept (row := none) ⟨hB.os, hB.tape, hB.output, hB.size, fun k hk _ => hB.block k hk⟩ (by cases v.ownBlock with | none => exact .inl rfl | some k => exact .inr (by simp))
/-- What is no row of terms stays. -/
def KeepT (w w' : World) : Prop := ∀ (b : Nat) (o : Obj), w.heap[b]? = some o → (∀ cs : Array Value, o ≠ .cells cs 144 (0, 0)) → w'.heap[b]? = some o
theorem KeepT.refl (w : World) : KeepT w w := fun _ _ h _ => h
theorem KeepT.trans {a b c : World} (h : KeepT a b) (k : KeepT b c) : KeepT a c := fun x o ho hn => k x o (h x o ho hn) hn
theorem KeepT.of_below {w w' : World} (h : Below w.heap.size w w') : KeepT w w' := fun b o ho _ => (h.block b (Array.getElem?_eq_some_iff.1 ho).1).trans ho
theorem KeepT.grown {w w' : World} {B n : Nat} {v : Value} {xs : List Value} (h : w.ownsRow B 144 2 v n xs) (hg : w.grownBy w' v.ownBlock) : KeepT w w' := fun b o ho hn => by
  rw [hg.block b (Array.getElem?_eq_some_iff.1 ho).1 (fun e => ?_)]
  · exact ho
  · rcases h.2 with ⟨rfl, _⟩ | ⟨g, cap, cur, rfl, _, hgb, _⟩
    · simp [Value.ownBlock] at e
    · simp [Value.ownBlock] at e
      subst e
      rw [hgb] at ho
      cases ho
      exact hn _ rfl
theorem OutS.push {B n : Nat} {v v' : Value} {out : List (Tm × Nat)} {w w1 w2 : World} (h : OutS B n v out w) (hB : Below w.heap.size w w1) (t : Tm) (ht : t.2.length = n) (g : Nat) (hg : B ≤ g) (hgb : w1.heap[g]? = some (intsO (nz t.2))) (tmp : Obj)
    (hown : w2.ownsRow B 144 2 v' (out.length + 1) (flatT n out ++ [.int .i64 (t.1 : Int), .slice (some ⟨g, 0, none⟩) n n])) (hgrow : (w1.alloc tmp).grownBy w2 v.ownBlock) :
    OutS B n v' (out ++ [(t, g)]) w2 ∧ KeepT w w2 := by
  have hr := (ownsRow_below h.row hB).alloc tmp
  have hk : KeepT w1 w2 := (KeepT.of_below ((Below.refl _ w1).alloc (Nat.le_refl _) tmp)).trans (KeepT.grown hr hgrow)
  have hk0 := (KeepT.of_below hB).trans hk
  refine ⟨⟨by simpa [flatT] using hown, fun x hx => ?_⟩, hk0⟩
  simp at hx
  rcases hx with hx | rfl
  · obtain ⟨a, b, c⟩ := h.els x hx
    exact ⟨a, b, hk0 _ _ c (fun cs e => by simp [intsO] at e)⟩
  · exact ⟨hg, ht, hk _ _ hgb (fun cs e => by simp [intsO] at e)⟩

end Go.Proofs.YtfmcofphidnpdaaGreatDoor
namespace Go.Proofs.YtfmcofphidnpdaaGreatDoor
set_option linter.unusedVariables false
open Go.RowKit Go.Maps Go.Sort Go.Shelf

theorem sorted_call2 (b nn : Nat) (D0 : DataW Unit) (R : Value → Option (DataW Unit × List MemPlace)) (w : World) (g : Nat) (hg : g = w.heap.size) (hown : w.ownsMap Tryz.prog 9 R b nn D0) (hmax : Maps.size D0 ≤ maxLen) (hbytes : Maps.size D0 * 16 ≤ 140737488355328) :
    Calls Tryz.prog 190 #[.func (.func 214) #[] #[.pointer (some ⟨g, 0, none⟩)]] (w.alloc (.cells #[.map (some b)] 231)) fun e w' => ∃ (v : Value) (ss : List (List UInt8)), e = .returned v ∧ ss.Perm (strKeys D0) ∧
      w'.ownsRow (g + 1) 9 1 v ss.length ((ss.mergeSort leB).map encStr) ∧ (v = .slice none 0 0 ↔ ss = []) ∧ Below (g + 1) (w.alloc (.cells #[.map (some b)] 231)) w' := by
  subst hg
  have := sorted_call b nn D0 R w hown hmax hbytes
  simpa using this

theorem Tells.size_le {n : Nat} {add : Nat → Nat → Nat} {ts : List Tm} {D : DataW Unit} (h : Tells n add ts D) : Maps.size D ≤ ts.length := by
  obtain ⟨_, _, _, h3⟩ := h
  exact h3

/-- What poly hands back of a sum of the terms ts. -/
def PolyIs (q n : Nat) (add : Nat → Nat → Nat) (ts : List Tm) (mb : Nat) (w : World) (r : Ending) (w' : World) : Prop :=
  Only (fun g => g = mb) w w' ∧ ∃ p : List Tm, Ris q n p ∧ (∀ e, cfs add p e = cfs add ts e) ∧ (∀ t ∈ p, Ex n t.2) ∧ p.length ≤ ts.length ∧
    ((p.length ≤ 20000 ∧ ∃ A c, r = .returned (.tuple #[.slice A p.length c, .bool true]) ∧ RdP w' A (tms p)) ∨ (20000 < p.length ∧ r = .returned (.tuple #[.slice none 0 0, .bool false])))

theorem two_new (w : World) (a b : Value) (t : TypeId) : ∀ j u, [a, b][j]? = some u → (w.alloc (.cells #[a, b] t)).cell? (Addr.add ⟨w.heap.size, 0, none⟩ j) = some u := by
  intro j u h
  match j, h with
  | 0, h => simp at h; subst h; simp [Addr.add]
  | 1, h => simp at h; subst h; simp [Addr.add]
  | j + 2, h => simp at h
theorem two_one (a : Int) (b : Option Addr) (n c : Nat) : ∀ u ∈ [Value.int .i64 a, Value.slice b n c], u.oneCell' = true := by
  intro u h
  simp at h
  rcases h with rfl | rfl <;> rfl
/-- The round of poly: k keys have been done. -/
structure PolyR (w w1 w2 : World) (sb mb kb B P M q n cnt : Nat) (D : DataW Unit) (E : List (List Nat)) (f : List Nat → Nat) (sv : Value) (v : Value) (out : List (Tm × Nat)) (wr : World) : Prop where
  outs : OutS w1.heap.size n v out wr
  terms : out.map Prod.fst = (E.take out.length).map fun e => (f e, e)
  bel : Below w1.heap.size w1 wr
  keep : KeepT w2 wr

set_option maxRecDepth 100000 in
set_option maxHeartbeats 4000000 in
theorem poly_ok (w0 w : World) (sb mb kb P M q n cnt : Nat) (hf : Fld P M q) (hn : n ≤ 80) (D : DataW Unit) (ts : List Tm) (hS : SumAt w0.heap.size sb mb kb P M q n cnt D w) (hT : Tells n (addN P M) ts D) (hcl : CoLt q ts) (hcnt : cnt ≤ 4611686018427387904) :
    Calls Tryz.prog 170 #[.pointer (some ⟨sb, 0, none⟩)] w (PolyIs q n (addN P M) ts mb w) := by
  have HST := Lib.hid (settle_ok w0.heap.size sb mb kb P M q n cnt D w hS hcnt)
  obtain ⟨hT2, hD⟩ := hT.sweep
  have HT := Lib.hid hT2
  have HD := Lib.hid hD
  have HC := Lib.hid hcl
  clear hS hT hT2 hD hcl hcnt
  generalize hDD : Lib.deleteFuncD pdZ D = DD at *
  have hz : Maps.size DD ≤ 20000 ∨ 20000 < Maps.size DD := by omega
  generalize hsz : Maps.size DD = sz at *
  have HSZ := Lib.hid hsz
  clear hDD hsz
  rcases hz with hz | hz
  · have hzd : decide (sz ≤ 20000) = true := decide_eq_true hz
    rw [hzd] at HST
    clear hzd
    go_enter Tryz.func170, Tryz.ntmps170
    go_wp2_with fail
    refine HST.out.mono ?_
    rintro e w1 ⟨rfl, hS1, hO1⟩
    obtain ⟨d4, -⟩ := hS1.cells
    have hlen := hS1.map.len Tryz.underlying231 3
    rw [HSZ.out] at hlen
    obtain ⟨cs, hcs, hmk⟩ := make_terms sz hz
    have HS1 := Lib.hid hS1
    have HO1 := Lib.hid hO1
    have HCS := Lib.hid hcs
    have hBa : Below w1.heap.size w1 (w1.alloc (.cells cs 144)) := below1 _ _
    have hS2 := hS1.below hBa
    have d4' := hS2.cells.1
    have HS2 := Lib.hid hS2
    have HKC := Lib.hid (fun W => keys_call (some mb) W)
    have HSO := Lib.hid (sorted_call2 mb cnt DD (plainElem Tryz.prog 3) (w1.alloc (.cells cs 144)) (w1.heap.size + 1) (by simp) hS2.map (by rw [HSZ.out]; unfold maxLen; omega) (by rw [HSZ.out]; omega))
    clear hS1 hO1 hcs hBa hS2
    go_wp2_with fail
    refine (HKC.out _).mono ?_
    rintro e w2 ⟨rfl, rfl⟩
    go_wp2_with fail
    refine HSO.out.mono ?_
    rintro e w2 ⟨sv, ss, rfl, hss, hrow, hnil, hB2⟩
    obtain ⟨E, hE1, hE2, hE3, hE4, hE5, hE6⟩ := Tells.poly hf.fl.toRng HC.out HD.out hss
    have hsl : ss.length = sz := by rw [← hE6, hE5]; exact HSZ.out
    obtain ⟨SA, sc, rfl⟩ : ∃ A c, sv = .slice A ss.length c := by
      rcases hrow.2 with ⟨rfl, h0⟩ | ⟨g, cap, cur, rfl, _⟩
      · refine ⟨none, 0, ?_⟩
        have := hrow.1
        rw [h0] at this
        simp at this
        rw [this]; rfl
      · exact ⟨_, _, rfl⟩
    rw [hsl] at hrow ⊢
    have hEl : E.length = sz := hE5.trans HSZ.out
    have hBw : Below w1.heap.size w1 w2 := (below2 w1 _ _).trans (hB2.mono (by omega))
    have hblk : w2.heap[w1.heap.size]? = some (.cells cs 144 (0, 0)) := (hB2.block w1.heap.size (by omega)).trans (alloc_old _ _ _ _ (alloc_at _ _ _ rfl))
    have hst := OutS.start w1.heap.size n sz cs HCS.out hz w2 hblk
    have hrd : ∀ k e, E[k]? = some e → ∃ g, SA = some ⟨g, 0, none⟩ ∧ ∀ W, KeepT w2 W → W.cell? ⟨g, k, none⟩ = some (.string ⟨(keyB e).toArray⟩) := fun k e he => by
      have hk : k < sz := by rw [← hEl]; exact (List.getElem?_eq_some_iff.1 he).1
      rcases hrow.2 with ⟨hv, h0⟩ | ⟨g, cap, cur, hv, _, hg, _, _, hcs2, htk⟩
      · simp only [Value.slice.injEq] at hv
        omega
      · simp only [Value.slice.injEq] at hv
        refine ⟨g, hv.1, fun W hW => ?_⟩
        have h1 := hW _ _ hg (fun cs' e' => by simp at e')
        have h2 := congrArg (fun l => l[k]?) htk
        rw [hE1] at h2
        simp only [List.getElem?_map, he, Option.map_some, List.getElem?_take, Nat.mul_one, hk, if_true] at h2
        rw [World.cell?, h1]
        simp only [Option.isSome_none, Bool.false_eq_true, if_false]
        rw [← Array.getElem?_toList, h2]
    have HE3 := Lib.hid hE3
    have HE2 := Lib.hid hE2
    have HE4 := Lib.hid hE4
    have HEL := Lib.hid hEl
    have HRD := Lib.hid hrd
    have HBW := Lib.hid hBw
    have HOUT := Lib.hid hst
    clear hE1 hE2 hE3 hE4 hE5 hE6 hss hnil hB2 hBw hblk hst hrd hrow hsl hEl hlen hmk d4 d4' HST HKC HSO
    go_wp2_with fail
    go_loopw [4, 6, 23] (fun v _ i wr => ∃ (k : Nat) (out : List (Tm × Nat)), k ≤ sz ∧ i = .int .i64 k ∧ out.length = k ∧ PolyR w w1 w2 sb mb kb w1.heap.size P M q n cnt DD E (cfs (addN P M) ts) v v out wr) (fun _ _ i _ => sz - (intOf i).toNat)
    case atStart => exact ⟨0, [], by omega, rfl, rfl, HOUT.out, by simp, HBW.out, KeepT.refl _⟩
    case round =>
      obtain ⟨k, out, hk, rfl, hol, hR⟩ := hrel
      have HR := Lib.hid hR
      have HOL := Lib.hid hol
      clear hol
      by_cases hlt : k < sz
      · obtain ⟨e, he⟩ : ∃ e, E[k]? = some e := ⟨_, List.getElem?_eq_getElem (by rw [HEL.out]; exact hlt)⟩
        obtain ⟨gs, rfl, hcell⟩ := HRD.out k e he
        have ck := hcell _ hR.keep
        have hem := HE2.out e (List.mem_of_getElem? he)
        have HEM := Lib.hid hem
        have HE := Lib.hid he
        have hSr := HS1.out.below hR.bel
        have d4 := hSr.cells.1
        have HSR := Lib.hid hSr
        have hkl : (keyB e).length ≤ 160 := by rw [keyB_length, hem.1.1]; omega
        have hatk : ∀ z, DD.atKey (.string (keyB e)) z = .lit (.int .i64 (cfs (addN P M) ts e : Int)) := (HD.out.at hem.1).2 _ (by rw [if_neg hem.2])
        have hlk := look_key1 (n := n) (W := wr.drew) hSr.map.drew (keyB e) hkl _ (hatk _)
        have HLK2 := Lib.hid (fun (W : World) (hW : Below wr.heap.size wr W) => look_key1 (n := n) (W := W) (hSr.below hW).map (keyB e) hkl _ (hatk (.lit (.int .i64 0))))
        have HX := Lib.hid (exps_ok e n hem.1 hn)
        obtain ⟨vb, vn, vc, hv⟩ : ∃ a m c, u4 = .slice a m c := by
          rcases hR.outs.row.2 with ⟨h, _⟩ | ⟨_, _, _, h, _⟩
          · exact ⟨_, _, _, h⟩
          · exact ⟨_, _, _, h⟩
        subst hv
        obtain ⟨i0, hi, hz0, hz1, hz2⟩ := info_parts Tryz.infoT
        have hcf := cfs_lt hf.fl.toRng HC.out e
        generalize hcv : cfs (addN P M) ts e = cv at *
        have HCV := Lib.hid hcv
        have HSZW : Hid (w1.heap.size ≤ wr.heap.size) := Lib.hid hR.bel.size
        clear hcv hcell he hem hSr hatk hR
        go_wp2_with fail
        generalize hwq : wr = wq at *
        go_region_law (first
          | (refine step_append_lies _ rfl (.tmp 27) (.tmp 37) 67 rfl w1.heap.size 144 i0 (.agg #[.int .i64 0, .slice none 0 0]) 2 32 Tryz.underlying67 hi hz0 hz1 hz2 rfl (by decide) (.slice vb vn vc) out.length (flatT n out) (by simp [Act.eval]) ((ownsRow_below HR.out.outs.row (below_undrew hB3)).alloc _) ⟨w3.heap.size, 0, none⟩ 1 1 [.int .i64 (cv : Int), .slice (some ⟨wq.heap.size, 0, none⟩) n n] (by simp [Act.eval]) rfl (two_new _ _ _ _) (two_one _ _ _ _) (by decide) (by have := HOL.out; unfold maxLen; omega) (by have := HOL.out; omega) (by have h1 := hB3.size; have h2 := HSZW.out; rw [World.size_alloc]; exact Nat.le_trans h2 (Nat.le_trans h1 (Nat.le_succ _))) (w3.heap.size + 1) (by simp) ?_; intro g cap w4 hown hgrow hgo hglt)
          | (go_simp; (with_reducible refine (HX.out _).mono ?_); rintro r w3 ⟨rfl, hg3, hB3⟩; have hlk2 := HLK2.out w3 (below_undrew hB3); have d43 := (SumAt.below HSR.out (below_undrew hB3)).cells.1))
        all_goals
          obtain ⟨q1, q2⟩ := HR.out.outs.push (below_undrew hB3) (cv, e) HEM.out.1.1 wq.heap.size HSZW.out hg3 _ hown hgrow
          have hb4 : Below w1.heap.size w1 w4 := by
            have h3 := (HR.out.bel.trans ((below_undrew hB3).mono HSZW.out))
            have hsz3 : w1.heap.size ≤ w3.heap.size := Nat.le_trans HSZW.out hB3.size
            exact (h3.alloc hsz3 (.cells #[.int .i64 (cv : Int), .slice (some ⟨wq.heap.size, 0, none⟩) n n] 144)).grown hgrow (by rw [World.size_alloc]; omega) (fun k' e' => (HR.out.outs.row.lt k' e').1)
          have hnew : PolyR w w1 w2 sb mb kb w1.heap.size P M q n cnt DD E (cfs (addN P M) ts) (.slice (some ⟨g, 0, none⟩) (out.length + 1) cap) (.slice (some ⟨g, 0, none⟩) (out.length + 1) cap) (out ++ [((cv, e), wq.heap.size)]) w4 :=
            ⟨q1, by
              rw [List.map_append, HR.out.terms, List.length_append, List.length_singleton, List.take_add_one, HOL.out, HE.out, List.map_append]
              simp [HCV.out], hb4, HR.out.keep.trans q2⟩
          have HNEW := Lib.hid hnew
          clear hnew q1 q2 hb4 hown hgrow hgo hglt hg3 hB3 hlk hlk2 d4 d43 ck
          go_wp2_with fail
          go_roundw
          case rel => exact ⟨k + 1, out ++ [((cv, e), wq.heap.size)], by omega, by go_num, by simp [HOL.out], HNEW.out⟩
          case measure => simp [intOf]; omega
      · have hks : k = sz := by omega
        subst hks
        have hfst : out.map Prod.fst = E.map fun e => (cfs (addN P M) ts e, e) := by
          rw [hR.terms, HOL.out, List.take_of_length_le (by rw [HEL.out]; exact Nat.le_refl _)]
        obtain ⟨RA, rc, hrv, hrr⟩ := hR.outs.reads hn
        rw [hfst] at hrr
        have HFIN := Lib.hid hrr
        have HBB := Lib.hid hR.bel
        rw [HOL.out] at hrv
        subst hrv
        clear hrr hR hfst
        go_wp2_with fail
        go_ret2
        have hlenE : (E.map fun e => (cfs (addN P M) ts e, e)).length = k := by rw [List.length_map]; exact HEL.out
        refine ⟨HO1.out.trans (Only.of_below HBB.out), E.map fun e => (cfs (addN P M) ts e, e), HE3.out, HE4.out, fun t ht => ?_, ?_, .inl ⟨by rw [hlenE]; exact hz, RA, rc, (by rw [hlenE]; rfl), HFIN.out⟩⟩
        · obtain ⟨e, he, rfl⟩ := List.mem_map.1 ht
          exact (HE2.out e he).1
        · rw [hlenE, ← HSZ.out]
          exact HT.out.size_le
  · have hzd : decide (sz ≤ 20000) = false := decide_eq_false (by omega)
    rw [hzd] at HST
    clear hzd
    go_enter Tryz.func170, Tryz.ntmps170
    go_wp2_with fail
    refine HST.out.mono ?_
    rintro e w1 ⟨rfl, hS1, hO1⟩
    have HO1 := Lib.hid hO1
    obtain ⟨E, hE1, hE2, hE3, hE4, hE5, hE6⟩ := Tells.poly hf.fl.toRng HC.out HD.out (List.Perm.refl _)
    have hlenE : (E.map fun e => (cfs (addN P M) ts e, e)).length = sz := by rw [List.length_map, hE5]; exact HSZ.out
    have HE2 := Lib.hid hE2
    have HE3 := Lib.hid hE3
    have HE4 := Lib.hid hE4
    have HLE := Lib.hid hlenE
    clear hS1 hO1 hE1 hE2 hE3 hE4 hE5 hE6 hlenE
    go_wp2_with fail
    go_ret2
    refine ⟨HO1.out, E.map fun e => (cfs (addN P M) ts e, e), HE3.out, HE4.out, fun t ht => ?_, ?_, .inr ⟨by rw [HLE.out]; exact hz, rfl⟩⟩
    · obtain ⟨e, he, rfl⟩ := List.mem_map.1 ht
      exact (HE2.out e he).1
    · rw [HLE.out, ← HSZ.out]
      exact HT.out.size_le
end Go.Proofs.YtfmcofphidnpdaaGreatDoor
