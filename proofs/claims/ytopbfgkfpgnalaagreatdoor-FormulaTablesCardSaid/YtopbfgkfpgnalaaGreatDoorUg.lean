/-
  Joined from Pqf, Pqga, Pqg, Pqgb, Pqh, Pqi, Pqj, Pqk: see there.
-/
import Derived.Test.YtopbfgkfpgnalaaGreatDoorUf
import Derived.Test.YtopbfgkfpgnalaaGreatDoorLp
import Derived.Test.YtopbfgkfpgnalaaGreatDoorUd
import Derived.Laws.IdiomStrings
import Derived.Laws.OwnMore
import Derived.BigRegion
import Derived.Carry
import Derived.StringKeys
import Derived.Deep.RegionLaw
import Derived.Deep.AppendLies
namespace Go.Proofs.YtopbfgkfpgnalaaGreatDoor
set_option linter.unusedVariables false
open Go.RowKit Go.Maps

set_option maxHeartbeats 1000000 in
theorem addE_ok (P M q n a b : Nat) (hf : Fld P M q) (ha : a < q) (hb : b < q) (w : World) (hL : Lays w) :
    Calls Tryz.prog 116 #[rg P M q n, .int .i64 (a : Int), .int .i64 (b : Int)] w fun e w' => e = .returned (.int .i64 ((addN P M a b : Nat) : Int)) ∧ Below w.heap.size w w' := by
  have HA := Lib.hid (fun o => Add_ok P M q hf a b ha hb (w.alloc o) (hL.below (below1 w o)))
  clear hL
  go_enter Tryz.func116, Tryz.ntmps116
  go_wp2_with fail
  refine (HA.out _).mono ?_
  rintro e w1 ⟨rfl, hB⟩
  have HB := Lib.hid ((below1 w _).trans (hB.mono (below1 w _).size))
  clear hB
  unfold Ret2
  go_wp2_with fail
  go_ret
  exact ⟨rfl, HB.out⟩
/-! ### the state of a sum -/
/-- A row of bytes of the call's own: a keys slice. -/
def KeyV (B : Nat) (w : World) (v : Value) (bs : List UInt8) : Prop := ∃ A n c, v = .slice A n c ∧ bs.length = n ∧ w.ownsRow B 5 1 v n (Lib.byteCells bs)
abbrev sumO (P M q n mb : Nat) (kv : Value) : Obj := .cells #[.int .i64 (P : Int), .int .i64 (M : Int), .int .i64 (q : Int), .int .i64 (n : Int), .map (some mb), kv] 234
/-- A sum lies at block sb, its map at mb, its keys in a block of bytes: all from B on. -/
structure SumAt (B sb mb P M q n cnt : Nat) (D : DataW Unit) (w : World) : Prop where
  rcd : ∃ kv bs, w.heap[sb]? = some (sumO P M q n mb kv) ∧ KeyV B w kv bs
  map : w.ownsMap Tryz.prog 9 (plainElem Tryz.prog 121) mb cnt D
  ls : B ≤ sb
  lm : B ≤ mb
/-- What is no row of bytes stays. -/
def KeepY (w w' : World) : Prop := ∀ (b : Nat) (o : Obj), w.heap[b]? = some o → (∀ cs : Array Value, o ≠ .cells cs 5 (0, 0)) → w'.heap[b]? = some o
theorem KeepY.refl (w : World) : KeepY w w := fun _ _ h _ => h
theorem KeepY.trans {u v w : World} (h : KeepY u v) (k : KeepY v w) : KeepY u w := fun b o hb ho => k b o (h b o hb ho) ho
theorem KeepY.of_below {w w' : World} (hB : Below w.heap.size w w') : KeepY w w' := fun b o hb _ => (hB.block b (Array.getElem?_eq_some_iff.1 hb).1).trans hb
theorem KeyV.grown {B : Nat} {w w' : World} {v : Value} {bs : List UInt8} (h : KeyV B w v bs) (hg : w.grownBy w' v.ownBlock) : KeepY w w' := fun b o hb ho => by
  obtain ⟨A, n, c, rfl, hl, hown⟩ := h
  refine (hg.block b (Array.getElem?_eq_some_iff.1 hb).1 fun e => ?_).trans hb
  rcases hown.2 with ⟨h1, _⟩ | ⟨g, cap, cur, h1, _, hgc, _⟩
  · rw [h1] at e
    simp [Value.ownBlock] at e
  · rw [h1] at e
    simp [Value.ownBlock] at e
    subst e
    rw [hgc] at hb
    exact ho cur (Option.some.inj hb).symm
theorem KeyV.below {B : Nat} {w w' : World} {v : Value} {bs : List UInt8} (h : KeyV B w v bs) (hB : Below w.heap.size w w') : KeyV B w' v bs := by
  obtain ⟨A, n, c, e, hl, hown⟩ := h
  exact ⟨A, n, c, e, hl, hown.kept (row := none) ⟨hB.os, hB.tape, hB.output, hB.size, fun k hk _ => hB.block k hk⟩ (by cases v.ownBlock with | none => exact .inl rfl | some k => exact .inr (by simp))⟩
/-- The keys from the start again. -/
theorem KeyV.zero {B : Nat} {w : World} {A : Option Addr} {n c : Nat} {bs : List UInt8} (h : KeyV B w (.slice A n c) bs) : KeyV B w (.slice A 0 c) [] := by
  obtain ⟨A', n', c', e, hl, hown⟩ := h
  cases e
  refine ⟨A, 0, c, rfl, rfl, ?_⟩
  rcases hown.2 with ⟨h1, h0⟩ | ⟨g, cap, cur, h1, h2, h3, h4, h5, h6, h7⟩
  · cases h1
    exact ⟨rfl, .inl ⟨rfl, rfl⟩⟩
  · cases h1
    exact ⟨rfl, .inr ⟨g, c, cur, rfl, h2, h3, Nat.zero_le _, h5, h6, by simp [Lib.byteCells]⟩⟩
theorem Tryz.info5 : (Tryz.prog.info? 5).map (fun i => (i.zero, i.size, i.bytes)) = some (some (.int .u8 0), 1, 1) := by kernel_rfl

theorem zeros_of (z : Value) (hz : z.cells = #[z]) (n : Nat) : (madeCells z.cells (n * 1)).toList = List.replicate n z := by
  rw [hz, Nat.mul_one, toList_madeCells_one]
theorem alloc_at (w : World) (o : Obj) (n : Nat) (h : n = w.heap.size) : (w.alloc o).heap[n]? = some o := by subst h; exact (MapKept.heap_alloc w o).1
theorem alloc_old (w : World) (o o' : Obj) (n : Nat) (h : w.heap[n]? = some o') : (w.alloc o).heap[n]? = some o' := by
  rw [Below.heap_alloc _ _ _ (Array.getElem?_eq_some_iff.1 h).1]; exact h
theorem ownsMap_old {w w' : World} {k : TypeId} {R : Value → Option (DataW Unit × List MemPlace)} {b n : Nat} {D : DataW Unit} (h : w.ownsMap Tryz.prog k R b n D) (hb : w'.heap[b]? = w.heap[b]?) : w'.ownsMap Tryz.prog k R b n D := by
  obtain ⟨es, clock, h1, h2⟩ := h
  exact ⟨es, clock, hb.trans h1, h2⟩
section
variable {B sb mb P M q n cnt : Nat} {D : DataW Unit} {w w' : World}
theorem SumAt.sbm (h : SumAt B sb mb P M q n cnt D w) : sb ≠ mb := by
  rintro rfl
  obtain ⟨es, clock, hm, _⟩ := h.map
  obtain ⟨kv, bs, hr, _⟩ := h.rcd
  rw [hm] at hr
  cases hr
theorem SumAt.lts (h : SumAt B sb mb P M q n cnt D w) : sb < w.heap.size ∧ mb < w.heap.size := by
  obtain ⟨es, clock, h1, _⟩ := h.map
  obtain ⟨kv, bs, hr, _⟩ := h.rcd
  exact ⟨(Array.getElem?_eq_some_iff.1 hr).1, (Array.getElem?_eq_some_iff.1 h1).1⟩
theorem SumAt.below (h : SumAt B sb mb P M q n cnt D w) (hB : Below w.heap.size w w') : SumAt B sb mb P M q n cnt D w' := by
  obtain ⟨kv, bs, hr, hk⟩ := h.rcd
  exact ⟨⟨kv, bs, (hB.block _ h.lts.1).trans hr, hk.below hB⟩, ownsMap_old h.map (hB.block _ h.lts.2), h.ls, h.lm⟩
theorem SumAt.drew (h : SumAt B sb mb P M q n cnt D w) : SumAt B sb mb P M q n cnt D w.drew := h.below (Below.refl _ w).drew
theorem SumAt.cells (h : SumAt B sb mb P M q n cnt D w) : w.cell? ⟨sb, 4, none⟩ = some (.map (some mb)) ∧
    w.cell? ⟨sb, 0, none⟩ = some (.int .i64 (P : Int)) ∧ w.cell? ⟨sb, 1, none⟩ = some (.int .i64 (M : Int)) ∧ w.cell? ⟨sb, 2, none⟩ = some (.int .i64 (q : Int)) ∧ w.cell? ⟨sb, 3, none⟩ = some (.int .i64 (n : Int)) := by
  obtain ⟨kv, bs, hb, _⟩ := h.rcd
  refine ⟨?_, ?_, ?_, ?_, ?_⟩ <;> simp [World.cell?, hb]
theorem SumAt.rebase {B' : Nat} (h : SumAt B sb mb P M q n cnt D w) (hle : B' ≤ B) : SumAt B' sb mb P M q n cnt D w := by
  obtain ⟨kv, bs, hb, A, l, c, e, hl, hown⟩ := h.rcd
  refine ⟨⟨kv, bs, hb, A, l, c, e, hl, hown.1, ?_⟩, h.map, Nat.le_trans hle h.ls, Nat.le_trans hle h.lm⟩
  rcases hown.2 with h0 | ⟨g, cap, cur, h1, h2, h3⟩
  · exact .inl h0
  · exact .inr ⟨g, cap, cur, h1, Nat.le_trans hle h2, h3⟩
/-- The map alone has changed. -/
theorem SumAt.mapped {cnt' : Nat} {D' : DataW Unit} (h : SumAt B sb mb P M q n cnt D w) (hm : w'.ownsMap Tryz.prog 9 (plainElem Tryz.prog 121) mb cnt' D') (hg : w.grownBy w' (some mb)) : SumAt B sb mb P M q n cnt' D' w' := by
  obtain ⟨kv, bs, hr, A, l, c, e, hl, hown⟩ := h.rcd
  refine ⟨⟨kv, bs, (hg.block _ h.lts.1 (fun x => h.sbm (Option.some.inj x))).trans hr, A, l, c, e, hl, hown.kept hg ?_⟩, hm, h.ls, h.lm⟩
  subst e
  rcases hown.2 with ⟨h1, _⟩ | ⟨g, cap, cur, h1, _, hgc, _⟩
  · rw [h1]; exact .inl rfl
  · rw [h1]
    refine .inr ?_
    simp only [Value.ownBlock]
    intro x
    obtain ⟨es, clock, h2, _⟩ := h.map
    have : g = mb := by simpa using x
    subst this
    rw [h2] at hgc
    cases hgc
end

set_option maxHeartbeats 2000000 in
theorem newSum_ok (P M q n : Nat) (w : World) :
    Calls Tryz.prog 167 #[rg P M q n] w fun e w' => ∃ sb mb, e = .returned (.pointer (some ⟨sb, 0, none⟩)) ∧ SumAt w.heap.size sb mb P M q n 0 (.map []) w' ∧ Below w.heap.size w w' := by
  have hmm := @run_makeMap Tryz.prog
  go_enter Tryz.func167, Tryz.ntmps167
  go_wp2_with fail
  go_ret
  refine ⟨w.heap.size + 1 + 1, w.heap.size + 1, rfl, ⟨⟨.slice none 0 0, [], ?_, none, 0, 0, rfl, rfl, rfl, .inl ⟨rfl, rfl⟩⟩, ?_, by omega, by omega⟩, ?_⟩
  · exact alloc_at _ _ _ (by simp)
  · refine ownsMap_old (w := (w.alloc (rgO P M q n)).alloc (.map #[] 0)) ?_ ?_
    · have := World.ownsMap_made (w.alloc (rgO P M q n)) Tryz.prog 9 (plainElem (H := Unit) Tryz.prog 121)
      simpa using this
    · have h1 := alloc_at (w.alloc (rgO P M q n)) (.map #[] 0) (w.heap.size + 1) (by simp)
      exact (alloc_old _ _ _ _ h1).trans h1.symm
  · exact ((((Below.refl _ w).alloc (Nat.le_refl _) _).alloc (by simp) _).alloc (by simp; omega) _)
end Go.Proofs.YtopbfgkfpgnalaaGreatDoor
namespace Go.Proofs.YtopbfgkfpgnalaaGreatDoor
set_option linter.unusedVariables false
open Go.RowKit Go.Maps

theorem keyB_append : ∀ a b : List Nat, keyB (a ++ b) = keyB a ++ keyB b
  | [], b => rfl
  | x :: a, b => by
    show _ :: _ :: keyB (a ++ b) = _
    rw [keyB_append a b]; rfl
theorem keyB_take {e : List Nat} {k x : Nat} (h : e[k]? = some x) : keyB (e.take (k + 1)) = keyB (e.take k) ++ [UInt8.ofNat (x / 256), UInt8.ofNat x] := by
  rw [List.take_add_one, h, keyB_append]; rfl
theorem pair_new (w : World) (a b : Value) (t : TypeId) : ∀ j u, [a, b][j]? = some u → (w.alloc (.cells #[a, b] t)).cell? (Addr.add ⟨w.heap.size, 0, none⟩ j) = some u := by
  intro j u h
  match j, h with
  | 0, h => simp at h; subst h; simp [Addr.add]
  | 1, h => simp at h; subst h; simp [Addr.add]
  | j + 2, h => simp at h
theorem pair_one (a b : Int) : ∀ u ∈ [Value.int .u8 a, Value.int .u8 b], u.oneCell' = true := by
  intro u h
  simp at h
  rcases h with rfl | rfl <;> rfl

set_option maxRecDepth 100000 in
set_option maxHeartbeats 4000000 in
theorem appendKey_ok (B : Nat) (e : List Nat) (n : Nat) (he : Ex n e) (hn : n ≤ 80) (A : Option Addr) (cap : Nat) (K0 : Option Addr) (l0 kc : Nat) (bs0 : List UInt8) (hl0 : l0 ≤ 1000000000) (w : World) (hB : B ≤ w.heap.size) (hK : KeyV B w (.slice K0 l0 kc) bs0)
    (hA : ∀ W, KeepY w W → Below B w W → RdI W A (nz e)) :
    Calls Tryz.prog 216 #[.slice K0 l0 kc, .slice A n cap] w fun r w' => ∃ v, r = .returned v ∧ KeyV B w' v (bs0 ++ keyB e) ∧ KeepY w w' ∧ Below B w w' := by
  have hlen : bs0.length = l0 := by
    obtain ⟨_, _, _, h, hl, _⟩ := hK
    cases h
    exact hl
  have HLN := Lib.hid hlen
  have HA := Lib.hid hA
  have HE := Lib.hid he
  have HK := Lib.hid hK
  clear hA he hK hlen
  go_enter Tryz.func216, Tryz.ntmps216
  go_wp2_with fail
  go_loopw [0, 6, 9] (fun kv _ i wr => ∃ k : Nat, k ≤ n ∧ i = .int .i64 k ∧ KeyV B wr kv (bs0 ++ keyB (e.take k)) ∧ KeepY w wr ∧ Below B w wr) (fun _ _ i _ => n - (intOf i).toNat)
  case atStart => exact ⟨0, by omega, rfl, by simpa [keyB] using HK.out, KeepY.refl _, Below.refl _ _⟩
  case round =>
    obtain ⟨k, hk, rfl, hkv, hkp, hbl⟩ := hrel
    have HKP := Lib.hid (And.intro hkp hbl)
    by_cases hlt : k < n
    · obtain ⟨x, hx⟩ : ∃ x, e[k]? = some x := ⟨_, List.getElem?_eq_getElem (by rw [HE.out.1]; exact hlt)⟩
      have hx2 := HE.out.2 x (List.mem_of_getElem? hx)
      obtain ⟨a, rfl, g0⟩ := HA.out wr hkp hbl k _ (nz_at hx)
      have HKV := Lib.hid hkv
      obtain ⟨KA, kl, kcp, rfl, hkl, hown⟩ := hkv
      have hkl2 : kl = l0 + 2 * k := by
        rw [← hkl, List.length_append, keyB_length, List.length_take, HLN.out, HE.out.1]; omega
      have HX := Lib.hid hx
      have HOW := Lib.hid hown
      have HKL := Lib.hid (And.intro hkl hkl2)
      obtain ⟨i0, hi, hz0, hz1, hz2⟩ := info_parts Tryz.info5
      have HBS := Lib.hid (Nat.le_trans hB hbl.size)
      clear hx hkp hbl hown hkl hkl2
      have HNX : Hid (∀ g gc w4, w4.ownsRow B 5 1 (.slice (some ⟨g, 0, none⟩) (kl + 2) gc) (kl + 2) (Lib.byteCells (bs0 ++ keyB (e.take k)) ++ [.int .u8 ((x : Int) / 256), .int .u8 ((x : Int) % 256)]) → (wr.alloc (.cells #[.int .u8 ((x : Int) / 256), .int .u8 ((x : Int) % 256)] 5)).grownBy w4 (Value.slice KA kl kcp).ownBlock →
          KeyV B w4 (.slice (some ⟨g, 0, none⟩) (kl + 2) gc) (bs0 ++ keyB (e.take (k + 1))) ∧ KeepY w w4 ∧ Below B w w4) := Lib.hid (fun g gc w4 h1 h2 => by
        have hb := below1 wr (.cells #[.int .u8 ((x : Int) / 256), .int .u8 ((x : Int) % 256)] 5)
        have hkv2 := HKV.out.below hb
        refine ⟨⟨_, _, _, rfl, ?_, ?_⟩, HKP.out.1.trans ((KeepY.of_below hb).trans (hkv2.grown h2)), ?_⟩
        · rw [List.length_append, keyB_length, List.length_take, HLN.out, HE.out.1, HKL.out.2]; omega
        · rw [keyB_take HX.out, ← List.append_assoc]
          have e1 : Lib.byteCells (bs0 ++ keyB (e.take k) ++ [UInt8.ofNat (x / 256), UInt8.ofNat x]) = Lib.byteCells (bs0 ++ keyB (e.take k)) ++ [.int .u8 ((x : Int) / 256), .int .u8 ((x : Int) % 256)] := by
            simp only [Lib.byteCells, List.map_append, List.map_cons, List.map_nil, byte_hi hx2, byte_lo]
            simp
          rw [e1]
          exact h1
        · refine (HKP.out.2.alloc HBS.out _).grown h2 (by simp; have := HBS.out; omega) (fun k' e' => (HOW.out.lt k' e').1))
      go_wp2_with (at_builtin; refine wpList_append_lies _ rfl _ _ 126 rfl B 5 i0 (.int .u8 0) 1 1 Tryz.underlying126 hi hz0 hz1 hz2 rfl (by decide) (.slice KA kl kcp) kl (Lib.byteCells (bs0 ++ keyB (e.take k))) rfl (HOW.out.alloc _) ⟨wr.heap.size, 0, none⟩ 2 2 [.int .u8 ((x : Int) / 256), .int .u8 ((x : Int) % 256)] rfl rfl (pair_new _ _ _ _) (pair_one _ _) (by decide) (by have := HKL.out.2; unfold maxLen; omega) (by have := HKL.out.2; omega) (by have := HBS.out; simp; omega) (wr.heap.size + 1) (by simp) ?_; intro g gc w4 hown4 hgrow4 hgo hglt)
      have HNEW := Lib.hid (HNX.out g gc w4 hown4 hgrow4)
      clear hown4 hgrow4 hgo hglt
      go_wp2_with fail
      go_roundw
      case rel => exact ⟨k + 1, by omega, by go_num, HNEW.out⟩
      case measure => simp [intOf]; omega
    · have hkn : k = n := by omega
      subst hkn
      have hte : e.take k = e := List.take_of_length_le (by rw [HE.out.1]; exact Nat.le_refl _)
      rw [hte] at hkv
      have HF := Lib.hid hkv
      clear hkv hkp hbl hte
      go_wp2_with fail
      go_ret
      exact ⟨_, rfl, HF.out, HKP.out⟩
end Go.Proofs.YtopbfgkfpgnalaaGreatDoor
namespace Go.Proofs.YtopbfgkfpgnalaaGreatDoor
set_option linter.unusedVariables false
open Go.RowKit Go.Maps

theorem key_of (l : List UInt8) (hl : l.length ≤ 160) : keyOf Tryz.prog 9 (.string ⟨l.toArray⟩) = some (.string l) := by
  have := Go.WideMaps.keyOf_string_mk (P := Tryz.prog) Tryz.underlying9 (s := ⟨l.toArray⟩) (by show l.toArray.size ≤ maxLen; simp [maxLen]; omega)
  simpa using this
theorem zero_u64 (w : World) : (zeroValue 121).run Tryz.prog w = .ok (.int .u64 0) w := by kernel_rfl
theorem str_keyed : Keyed Tryz.prog 9 := string_keyed Tryz.underlying9
theorem wf_u {x : Nat} (h : x < 18446744073709551616) : (Lit.int .u64 (x : Int)).wf = true := by
  simp [Lit.wf, IntKind.min, IntKind.max, IntKind.signed, IntKind.bits]
  omega
theorem wrap_u {x : Nat} (h : x < 18446744073709551616) : IntKind.u64.wrap (x : Int) = (x : Int) := by
  simp [IntKind.wrap, IntKind.signed, IntKind.bits]
  omega
theorem xor_u64n (a b : Nat) (ha : a < 18446744073709551616) (hb : b < 18446744073709551616) : bits .xor .u64 (a : Int) (b : Int) = ((a ^^^ b : Nat) : Int) := by
  show IntKind.u64.wrap ((BitVec.ofInt 64 (a : Int) ^^^ BitVec.ofInt 64 (b : Int)).toNat : Int) = _
  rw [BitVec.toNat_xor, ofInt_u64 a (by omega), ofInt_u64 b (by omega)]
  have e : (18446744073709551616 : Nat) = 2 ^ 64 := by decide
  exact wrap_u (by rw [e] at ha hb ⊢; exact Nat.xor_lt_two_pow ha hb)
/-- What a look-up of the key gives. -/
theorem look_u {mb cnt : Nat} {D : DataW Unit} {W : World} (hm : W.ownsMap Tryz.prog 9 (plainElem Tryz.prog 121) mb cnt D) (l : List UInt8) (hl : l.length ≤ 160) (v : Int)
    (hv : D.atKey (.string l) (.lit (.int .u64 0)) = .lit (.int .u64 v)) :
    (Instr.lookup 232 (.map (some mb)) (.string ⟨l.toArray⟩) false).run Tryz.prog W = .ok (.int .u64 v) W := by
  obtain ⟨x, ps, hrun, hx⟩ := hm.lookup str_keyed Tryz.underlying232 (zero_u64 W) (zd := .lit (.int .u64 0)) (zp := []) (plainElem_int Tryz.underlying121 (by decide)) (key_of l hl)
  rw [hv] at hx
  obtain ⟨c, rfl, hc, hwc⟩ := plainElem_int_inv Tryz.underlying121 hx
  rw [hrun]
  have : c = v := by
    have := congrArg Prod.fst hc
    simp at this
    exact this.symm
  rw [this]

set_option maxRecDepth 100000 in
set_option maxHeartbeats 4000000 in
theorem add_ok (w0 w : World) (hB0 : Below w0.heap.size w0 w) (sb mb P M q n cnt : Nat) (hf : Fld P M q) (hn : n ≤ 80) (D : DataW Unit) (ts : List Tm) (c d : Nat) (hc : c < q) (hd : d < q) (e : List Nat) (he : Ex n e)
    (hS : SumAt w0.heap.size sb mb P M q n cnt D w) (hT : Tells n (stN P M) (addN P M) ts D) (hcl : CoLt q ts) (hcnt : cnt ≤ 4611686018427387904) (htl : ts.length ≤ 2000000000)
    (hme : M ≠ 1 → ∀ W, Below w0.heap.size w0 W → Calls Tryz.prog 156 #[rg P M q n, .int .i64 (c : Int), .int .i64 (d : Int)] W fun e w' => e = .returned (.int .i64 (mulN P M c d : Nat)) ∧ Below W.heap.size W w') :
    Calls Tryz.prog 217 #[.pointer (some ⟨sb, 0, none⟩), .int .i64 (c : Int), .int .i64 (d : Int), .string ⟨(keyB e).toArray⟩] w fun r w' =>
      r = .returned (.tuple #[]) ∧ ∃ D', SumAt w0.heap.size sb mb P M q n (cnt + 1) D' w' ∧ Tells n (stN P M) (addN P M) (ts ++ [(mulN P M c d, e)]) D' ∧ Only (fun g => g = mb) w w' := by
  obtain ⟨v, hat, hsv, hvb, hput⟩ := hT.at he
  have hkl : (keyB e).length ≤ 160 := by rw [keyB_length, he.1]; omega
  have hlk := look_u hS.map (keyB e) hkl v hat
  obtain ⟨d4, d0, d1, d2, d3⟩ := hS.cells
  have hq := hf.q_le
  have HVB := Lib.hid hvb
  have HPUT := Lib.hid hput
  have HS := Lib.hid hS
  have HSV := Lib.hid hsv
  have HAT := Lib.hid hat
  clear hvb hput hat hsv
  have hcd : c * d ≤ 65536 * 65536 := Nat.mul_le_mul (by omega) (by omega)
  have hbd : v + c * d ≤ (ts.length + 1) * 4294967296 := by
    have := HVB.out
    rw [Nat.add_mul, Nat.one_mul]
    exact Nat.add_le_add this (Nat.le_trans hcd (by decide))
  have hsm : (ts.length + 1) * 4294967296 < 18446744073709551616 := Nat.lt_of_le_of_lt (Nat.mul_le_mul_right 4294967296 (show ts.length + 1 ≤ 2000000001 by omega)) (by decide)
  rcases id hf with ⟨rfl, hp, hp2, rfl⟩ | ⟨hP2, hm1, hm2, hqe⟩
  · have ew : IntKind.u64.wrap ((v : Int) + IntKind.u64.wrap ((c : Int) * (d : Int))) = ((v + c * d : Nat) : Int) := by
      rw [show ((c : Int) * (d : Int)) = ((c * d : Nat) : Int) by simp, wrap_u (Nat.lt_of_le_of_lt (Nat.le_trans (Nat.le_add_left _ _) hbd) hsm), show ((v : Int) + ((c * d : Nat) : Int)) = ((v + c * d : Nat) : Int) by simp, wrap_u (Nat.lt_of_le_of_lt hbd hsm)]
    obtain ⟨w3, hrun, hm3, hg3⟩ := HS.out.map.update str_keyed Tryz.underlying232 (by unfold maxLen; omega) (val := .int .u64 ((v + c * d : Nat) : Int)) (key_of (keyB e) hkl) (plainElem_int Tryz.underlying121 (wf_u (Nat.lt_of_le_of_lt hbd hsm)))
    rw [← ew] at hrun
    have hst : stN q 1 (v + c * d) = addN q 1 (cfs (addN q 1) ts e) (mulN q 1 c d) := by
      rw [← HSV.out]
      simp only [stN, addN, mulN, if_pos]
      rw [Nat.add_mod]
    have HT2 := Lib.hid (HPUT.out _ _ hst hbd)
    have HS2 := Lib.hid (HS.out.mapped hm3 hg3)
    have HO : Hid (Only (fun g => g = mb) w w3) := Lib.hid ((Only.refl _ w).grown hg3 fun k e _ => (Option.some.inj e).symm)
    clear hS hme hT hcl hB0 hcd hbd hsm hm3 hg3 hst ew
    go_enter Tryz.func217, Tryz.ntmps217
    go_wp2_with fail
    (try simp only [Exit.inBlock, Exit.then])
    refine bodyPost_ret (results_none rfl _ _ _) rfl ?_
    exact ⟨rfl, _, HS2.out, HT2.out, HO.out⟩
  · have hfl := hf
    have hb16 : mulN P M c d < 2 ^ M := by rw [← hqe]; exact hf.mulN_lt hc
    have hM1 : M ≠ 1 := by omega
    have hq' : 2 ^ M ≤ 65536 := by rw [← hqe]; exact hq
    have hv16 : v < 2 ^ M := by
      have h1 := cfs_lt hfl.fl.toRng hcl e
      rw [← HSV.out, hqe] at h1
      simpa [stN, hM1] using h1
    have hx16 : v ^^^ mulN P M c d < 2 ^ M := Nat.xor_lt_two_pow hv16 hb16
    have hst : stN P M (v ^^^ mulN P M c d) = addN P M (cfs (addN P M) ts e) (mulN P M c d) := by
      rw [← HSV.out]
      simp [stN, addN, hM1]
    have hbx : v ^^^ mulN P M c d ≤ (ts.length + 1) * 4294967296 := by
      rw [Nat.add_mul, Nat.one_mul]
      exact Nat.le_trans (Nat.le_of_lt (Nat.lt_of_lt_of_le hx16 hq')) (Nat.le_trans (by decide) (Nat.le_add_left _ _))
    have HT2 := Lib.hid (HPUT.out _ _ hst hbx)
    have HME := Lib.hid (hme hM1 w.drew hB0.drew)
    unfold rg at HME
    have hM : ((M : Int) == 1) = false := by simp; omega
    have hmv : mulN P M c d ≤ 65536 := Nat.le_trans (Nat.le_of_lt hb16) hq'
    have hxu : v ^^^ mulN P M c d < 18446744073709551616 := Nat.lt_of_lt_of_le hx16 (Nat.le_trans hq' (by decide))
    have wmv : IntKind.u64.wrap ((mulN P M c d : Nat) : Int) = ((mulN P M c d : Nat) : Int) := wrap_u (Nat.lt_of_le_of_lt hmv (by decide))
    have HXU := Lib.hid (And.intro hxu (show bits .xor .u64 (v : Int) ((mulN P M c d : Nat) : Int) = ((v ^^^ mulN P M c d : Nat) : Int) from xor_u64n _ _ (Nat.lt_of_lt_of_le hv16 (Nat.le_trans hq' (by decide))) (Nat.lt_of_lt_of_le hb16 (Nat.le_trans hq' (by decide)))))
    have HWA : Hid (∀ wa, Below w.drew.heap.size w.drew wa → SumAt w0.heap.size sb mb P M q n cnt D wa ∧ (Instr.lookup 232 (.map (some mb)) (.string ⟨(keyB e).toArray⟩) false).run Tryz.prog wa = .ok (.int .u64 v) wa ∧ wa.cell? ⟨sb, 4, none⟩ = some (.map (some mb)) ∧
        ∃ w3, (Instr.mapUpdate 232 (.map (some mb)) (.string ⟨(keyB e).toArray⟩) (.int .u64 (bits .xor .u64 (v : Int) ((mulN P M c d : Nat) : Int)))).run Tryz.prog wa = .ok () w3 ∧ wa.grownBy w3 (some mb) ∧ SumAt w0.heap.size sb mb P M q n (cnt + 1) (D.put (.string (keyB e)) (.lit (.int .u64 ((v ^^^ mulN P M c d : Nat) : Int)))) w3) := Lib.hid (fun wa hwa => by
      have hSa := HS.out.drew.below hwa
      obtain ⟨w3, hrun, hm3, hg3⟩ := hSa.map.update str_keyed Tryz.underlying232 (by unfold maxLen; omega) (val := .int .u64 ((v ^^^ mulN P M c d : Nat) : Int)) (key_of (keyB e) hkl) (plainElem_int Tryz.underlying121 (wf_u HXU.out.1))
      refine ⟨hSa, look_u hSa.map (keyB e) hkl v HAT.out, hSa.cells.1, w3, ?_, hg3, hSa.mapped hm3 hg3⟩
      rw [HXU.out.2]
      exact hrun)
    have hld := look_u HS.out.drew.map (keyB e) hkl v HAT.out
    clear hS hme hT hcl hB0 hcd hbd hsm hb16 hv16 hx16 hst hbx hxu hc hd hq hq' hlk hqe hP2 hf hfl
    generalize mulN P M c d = mv at *
    go_enter Tryz.func217, Tryz.ntmps217
    go_wp2_with fail
    go_region_law (first
      | (go_simp; (with_reducible refine HME.out.mono ?_); rintro r wa ⟨rfl, hBa⟩; obtain ⟨-, hlka, da4, w3, hrun, hg3, hS3⟩ := HWA.out wa hBa))
    all_goals
      have HS4 := Lib.hid hS3
      have HO : Hid (Only (fun g => g = mb) w w3) := Lib.hid ((((Only.refl _ w).drew).trans (Only.of_below hBa)).grown hg3 fun k e _ => (Option.some.inj e).symm)
      clear hS3 hg3 hrun hBa hlka da4
      go_wp2_with fail
      go_end0
      exact ⟨rfl, _, HS4.out, HT2.out, HO.out⟩
end Go.Proofs.YtopbfgkfpgnalaaGreatDoor
namespace Go.Proofs.YtopbfgkfpgnalaaGreatDoor
set_option linter.unusedVariables false
open Go.RowKit Go.Maps

/-- What is no row of bytes, and not of the sum, stays. -/
def KeepS (sb mb : Nat) (w w' : World) : Prop := ∀ (b : Nat) (o : Obj), w.heap[b]? = some o → b ≠ sb → b ≠ mb → (∀ cs : Array Value, o ≠ .cells cs 5 (0, 0)) → w'.heap[b]? = some o
theorem KeepS.refl (sb mb : Nat) (w : World) : KeepS sb mb w w := fun _ _ h _ _ _ => h
theorem KeepS.trans {sb mb : Nat} {u v w : World} (h : KeepS sb mb u v) (k : KeepS sb mb v w) : KeepS sb mb u w := fun b o hb h1 h2 ho => k b o (h b o hb h1 h2 ho) h1 h2 ho
theorem KeepY.keepS {sb mb : Nat} {w w' : World} (h : KeepY w w') : KeepS sb mb w w' := fun b o hb _ _ ho => h b o hb ho
theorem KeepS.of_below {sb mb : Nat} {w w' : World} (hB : Below w.heap.size w w') : KeepS sb mb w w' := (KeepY.of_below hB).keepS
theorem Only.keepS {sb mb : Nat} {w w' : World} (h : Only (fun g => g = sb ∨ g = mb) w w') : KeepS sb mb w w' := fun b o hb h1 h2 _ => (h.block b (Array.getElem?_eq_some_iff.1 hb).1 (by rintro (h | h); exact h1 h; exact h2 h)).trans hb
theorem KeyV.only {B : Nat} {S : Nat → Prop} {w w' : World} {v : Value} {bs : List UInt8} (h : KeyV B w v bs) (hO : Only S w w') (hg : ∀ g, v.ownBlock = some g → ¬ S g) : KeyV B w' v bs := by
  obtain ⟨A, n, c, rfl, hl, hown⟩ := h
  refine ⟨A, n, c, rfl, hl, hown.1, ?_⟩
  rcases hown.2 with h0 | ⟨g, cap, cur, h1, h2, h3, h4⟩
  · exact .inl h0
  · refine .inr ⟨g, cap, cur, h1, h2, (hO.block g (Array.getElem?_eq_some_iff.1 h3).1 (hg g ?_)).trans h3, h4⟩
    rw [h1]; rfl
theorem KeyV.ne {B g sb : Nat} {w : World} {v : Value} {bs : List UInt8} {cs : Array Value} {T : TypeId} {fr : Nat × Nat} (h : KeyV B w v bs) (hs : w.heap[sb]? = some (.cells cs T fr)) (hT : T ≠ 5) (hg : v.ownBlock = some g) : g ≠ sb := by
  rintro rfl
  obtain ⟨A, n, c, rfl, hl, hown⟩ := h
  rcases hown.2 with ⟨h1, _⟩ | ⟨g', cap, cur, h1, _, h3, _⟩
  · rw [h1] at hg; simp [Value.ownBlock] at hg
  · rw [h1] at hg
    simp [Value.ownBlock] at hg
    subst hg
    rw [h3] at hs
    cases hs
    exact hT rfl
theorem conv_nil (w : World) : (convert 126 9 (.slice none 0 0)).run Tryz.prog w = .ok (.string ⟨#[]⟩) w := by kernel_rfl
theorem KeyV.conv {B : Nat} {w : World} {A : Option Addr} {n c : Nat} {bs : List UInt8} (h : KeyV B w (.slice A n c) bs) :
    (convert 126 9 (.slice A n c)).run Tryz.prog w = .ok (.string ⟨bs.toArray⟩) w := by
  obtain ⟨A', n', c', e, hl, hown⟩ := h
  cases e
  rcases hown.2 with ⟨h1, h0⟩ | ⟨g, cap, cur, h1, h2, h3, h4, h5, h6, h7⟩
  · cases h1
    have : bs = [] := List.length_eq_zero_iff.1 hl
    subst this
    exact conv_nil w
  · cases h1
    subst hl
    exact run_convert_bytes_back (P := Tryz.prog) w 126 9 5 ⟨g, 0, none⟩ c bs Tryz.underlying126 Tryz.underlying5 Tryz.underlying9 (fun j hj => by
      have ea : Addr.add ⟨g, 0, none⟩ j = ⟨g, j, none⟩ := by
        by_cases h0 : j = 0 <;> simp [Addr.add, h0]
      rw [ea]
      have h8 := congrArg (fun l => l[j]?) h7
      simp only [List.getElem?_take, Nat.mul_one, hj, if_true, Lib.byteCells, List.getElem?_map, List.getElem?_eq_getElem hj, Option.map_some] at h8
      simp [World.cell?, h3]
      rw [← Array.getElem?_toList, h8])

theorem mulN_one {P M q c : Nat} (hf : Fld P M q) (hc : c < q) : mulN P M c 1 = c := by
  have h := hf.fl.toRng
  rw [h.comm hc h.two, h.one hc]
theorem mulE_one (P M q n : Nat) (a : Int) (w : World) :
    Calls Tryz.prog 156 #[rg P M q n, .int .i64 a, .int .i64 1] w fun e w' => e = .returned (.int .i64 a) ∧ Below w.heap.size w w' := by
  have HB := Lib.hid (below1 w (.cells #[.int .i64 (P : Int), .int .i64 (M : Int), .int .i64 (q : Int), .int .i64 (n : Int)] 163))
  unfold rg
  by_cases h : a = 1
  · subst h
    go_enter Tryz.func156, Tryz.ntmps156
    go_wp2_with fail
    go_ret
    exact ⟨rfl, HB.out⟩
  · have h1 : ((a : Int) == 1) = false := by simpa using h
    go_enter Tryz.func156, Tryz.ntmps156
    go_wp2_with fail
    go_ret
    exact ⟨rfl, HB.out⟩

set_option maxRecDepth 100000 in
set_option maxHeartbeats 4000000 in
theorem addTerm_ok (w0 w : World) (hB0 : Below w0.heap.size w0 w) (sb mb P M q n cnt : Nat) (hf : Fld P M q) (hn : n ≤ 80) (D : DataW Unit) (ts : List Tm) (c : Nat) (hc : c < q) (A : Option Addr) (cap : Nat) (e : List Nat) (he : Ex n e)
    (hS : SumAt w0.heap.size sb mb P M q n cnt D w) (hT : Tells n (stN P M) (addN P M) ts D) (hcl : CoLt q ts) (hcnt : cnt ≤ 4611686018427387904) (htl : ts.length ≤ 2000000000)
    (hA : ∀ W, KeepY w W → Below w0.heap.size w W → RdI W A (nz e)) :
    Calls Tryz.prog 188 #[.pointer (some ⟨sb, 0, none⟩), .int .i64 (c : Int), .slice A n cap] w fun r w' =>
      r = .returned (.tuple #[]) ∧ ∃ D', SumAt w0.heap.size sb mb P M q n (cnt + 1) D' w' ∧ Tells n (stN P M) (addN P M) (ts ++ [(c, e)]) D' ∧ KeepS sb mb w w' ∧ Below w0.heap.size w w' := by
  obtain ⟨kv, bs, hrcd, hkv⟩ := hS.rcd
  obtain ⟨KA, kl, kc, rfl, -, -⟩ := id hkv
  have hKA := appendKey_ok w0.heap.size e n he hn A cap KA 0 kc [] (by omega) w hB0.size hkv.zero hA
  have HKA := Lib.hid hKA
  have HS := Lib.hid hS
  have HR := Lib.hid hrcd
  have HB0 := Lib.hid hB0
  have d5 : w.cell? ⟨sb, 5, none⟩ = some (.slice KA kl kc) := by simp [World.cell?, hrcd]
  have HADD := Lib.hid (fun W (hW : Below w0.heap.size w0 W) (hS : SumAt w0.heap.size sb mb P M q n cnt D W) => add_ok w0 W hW sb mb P M q n cnt hf hn D ts c 1 hc hf.fl.toRng.two e he hS hT hcl hcnt htl (fun _ W' hW' => by rw [mulN_one hf hc]; exact mulE_one P M q n c W'))
  rw [mulN_one hf hc] at HADD
  clear hKA hS hrcd hkv hB0 hT hcl hA he
  go_enter Tryz.func188, Tryz.ntmps188
  go_wp2_with fail
  refine HKA.out.mono ?_
  rintro r w1 ⟨v1, rfl, hk1, hy1, hb1⟩
  rw [List.nil_append] at hk1
  obtain ⟨A1, n1, c1, rfl, -, -⟩ := id hk1
  have hr1 := hy1 sb _ HR.out (fun cs h => by simp at h)
  have hmb1 : w1.heap[mb]? = w.heap[mb]? := by
    obtain ⟨es, clock, hm, _⟩ := HS.out.map
    rw [hm]
    exact hy1 mb _ hm (fun cs h => by cases h)
  have hc1 : w1.cell? ⟨sb, 5, none⟩ = some (.slice KA kl kc) := by simp [World.cell?, hr1]
  have hf1 : w1.frozen? ⟨sb, 5, none⟩ = false := by simp [World.frozen?, hr1]
  have hO2 : Only (fun g => g = sb) w1 (w1.setCell ⟨sb, 5, none⟩ (.slice A1 n1 c1)) := Only.setCell (S := fun g => g = sb) (p := ⟨sb, 5, none⟩) (Only.refl _ w1) rfl _
  have hr2 : (w1.setCell ⟨sb, 5, none⟩ (.slice A1 n1 c1)).heap[sb]? = some (sumO P M q n mb (.slice A1 n1 c1)) := by
    have := heap_setCell_same w1 sb 5 _ _ (.slice A1 n1 c1) hr1
    rw [this]; simp
  have hk2 := hk1.only hO2 (fun g hg => hk1.ne hr1 (by decide) hg)
  have hS2 : SumAt w0.heap.size sb mb P M q n cnt D (w1.setCell ⟨sb, 5, none⟩ (.slice A1 n1 c1)) :=
    ⟨⟨_, _, hr2, hk2⟩, ownsMap_old HS.out.map ((hO2.block mb (by have := HS.out.lts.2; have := hb1.size; omega) (fun h => HS.out.sbm h.symm)).trans hmb1), HS.out.ls, HS.out.lm⟩
  have hb2 : Below w0.heap.size w (w1.setCell ⟨sb, 5, none⟩ (.slice A1 n1 c1)) := hb1.setCell (p := ⟨sb, 5, none⟩) HS.out.ls _
  have hb02 := HB0.out.trans hb2
  have hcv := hk2.conv
  have hd5 : (w1.setCell ⟨sb, 5, none⟩ (.slice A1 n1 c1)).cell? ⟨sb, 5, none⟩ = some (.slice A1 n1 c1) := by simp [World.cell?, hr2]
  have HK2 : Hid (KeepS sb mb w (w1.setCell ⟨sb, 5, none⟩ (.slice A1 n1 c1))) := Lib.hid (hy1.keepS.trans (Only.keepS (hO2.mono fun g h => .inl h)))
  have HAD2 := Lib.hid (HADD.out _ hb02 hS2)
  have HB2 := Lib.hid hb2
  clear hk1 hy1 hb1 hr1 hmb1 hO2 hr2 hk2 hS2 hb2 hb02 d5
  go_wp2_with fail
  refine HAD2.out.mono ?_
  rintro r w3 ⟨rfl, D', hS3, hT3, hO3⟩
  have HF := Lib.hid (And.intro hS3 (And.intro hT3 (And.intro (HK2.out.trans (Only.keepS (hO3.mono fun g h => .inr h))) (HB2.out.trans (hO3.below (Nat.le_trans HB0.out.size HB2.out.size) fun g h => by have := HS.out.lm; have h' : g = mb := h; omega)))))
  clear hS3 hT3 hO3
  go_wp2_with fail
  go_end0
  exact ⟨rfl, D', HF.out⟩
end Go.Proofs.YtopbfgkfpgnalaaGreatDoor
namespace Go.Proofs.YtopbfgkfpgnalaaGreatDoor
set_option linter.unusedVariables false
open Go.RowKit Go.Maps Go.Sort Go.Shelf

theorem wrap_i {x : Nat} (h : x < 9223372036854775808) : IntKind.i64.wrap (x : Int) = (x : Int) := IntWalk.i64_in _ (by omega)
theorem wrap_i0 {x : Nat} (h : x < 18446744073709551616) : (IntKind.i64.wrap (x : Int) == 0) = decide (x = 0) := by
  by_cases h0 : x < 9223372036854775808
  · rw [wrap_i h0, Bool.eq_iff_iff]
    simp
  · have h1 : x ≠ 0 := by omega
    rw [decide_eq_false h1]
    simp [IntKind.wrap, IntKind.signed, IntKind.bits]
    omega
set_option maxRecDepth 100000 in
set_option maxHeartbeats 1000000 in
theorem settled_any (sb P M q v : Nat) (hf : Fld P M q) (hv : v < 18446744073709551616) (w : World) (c0 : w.cell? ⟨sb, 0, none⟩ = some (.int .i64 (P : Int))) (c1 : w.cell? ⟨sb, 1, none⟩ = some (.int .i64 (M : Int))) :
    Calls Tryz.prog 192 #[.pointer (some ⟨sb, 0, none⟩), .int .u64 (v : Int)] w fun e w' => e = .returned (.int .i64 (IntKind.i64.wrap (stN P M v : Nat))) ∧ w = w' := by
  have hq := hf.q_le
  rcases id hf with ⟨rfl, hp, hp2, rfl⟩ | ⟨hP2, hm1, hm2, hqe⟩
  · have hq0 : 0 < q := by have := hp.1; omega
    have hr : stN q 1 v = v % q := by simp [stN]
    rw [hr]
    have hlt : v % q < 65536 := Nat.lt_of_lt_of_le (Nat.mod_lt _ hq0) hp2
    have wq : IntKind.u64.wrap (q : Int) = (q : Int) := wrap_u (by omega)
    have d0 : ((q : Int) == 0) = false := by simp; omega
    have wv : IntKind.i64.wrap ((v % q : Nat) : Int) = (v : Int) % (q : Int) := by rw [wrap_i (by omega)]; simp
    rw [wv]
    have HW := Lib.hid wv
    clear wv
    go_enter Tryz.func192, Tryz.ntmps192
    go_wp2_with fail
    go_ret
    refine ⟨?_, rfl⟩
    rfl
  · have hM : ((M : Int) == 1) = false := by simp; omega
    have hr : stN P M v = v := by simp [stN]; omega
    rw [hr]
    go_enter Tryz.func192, Tryz.ntmps192
    go_wp2_with fail
    go_ret
    refine ⟨?_, rfl⟩
    show Ending.returned (.int .i64 (wrap64 (v : Int))) = _
    rw [IntWalk.i64_left]
theorem settled_ok (sb P M q v : Nat) (hf : Fld P M q) (hv : v < 9223372036854775808) (w : World) (c0 : w.cell? ⟨sb, 0, none⟩ = some (.int .i64 (P : Int))) (c1 : w.cell? ⟨sb, 1, none⟩ = some (.int .i64 (M : Int))) :
    Calls Tryz.prog 192 #[.pointer (some ⟨sb, 0, none⟩), .int .u64 (v : Int)] w fun e w' => e = .returned (.int .i64 (stN P M v : Nat)) ∧ w = w' := by
  refine (settled_any sb P M q v hf (by omega) w c0 c1).mono ?_
  rintro e w' ⟨rfl, rfl⟩
  have : stN P M v ≤ v := by
    unfold stN
    split
    · exact Nat.mod_le _ _
    · exact Nat.le_refl _
  rw [wrap_i (by omega)]
  exact ⟨rfl, rfl⟩

set_option maxRecDepth 100000 in
set_option maxHeartbeats 1000000 in
theorem isZero_ok (g sb P M q v : Nat) (hf : Fld P M q) (hv : v < 18446744073709551616) (key : Value) (w : World) (cg : w.cell? ⟨g, 0, none⟩ = some (.pointer (some ⟨sb, 0, none⟩))) (c0 : w.cell? ⟨sb, 0, none⟩ = some (.int .i64 (P : Int))) (c1 : w.cell? ⟨sb, 1, none⟩ = some (.int .i64 (M : Int))) :
    Calls Tryz.prog 219 #[key, .int .u64 (v : Int), .pointer (some ⟨g, 0, none⟩)] w fun e w' => e = .returned (.bool (decide (stN P M v = 0))) ∧ w = w' := by
  have HST := Lib.hid (settled_any sb P M q v hf hv w c0 c1)
  have hr : stN P M v < 18446744073709551616 := by
    have : stN P M v ≤ v := by
      unfold stN
      split
      · exact Nat.mod_le _ _
      · exact Nat.le_refl _
    omega
  have h0 := wrap_i0 hr
  rw [← h0]
  generalize IntKind.i64.wrap ((stN P M v : Nat) : Int) = r at *
  clear hf hr h0
  go_enter Tryz.func219, Tryz.ntmps219
  go_wp2_with fail
  refine HST.out.mono ?_
  rintro e w1 ⟨rfl, rfl⟩
  go_wp2_with fail
  go_ret
  exact ⟨rfl, rfl⟩

set_option maxHeartbeats 1000000 in
theorem sweep_ok (g sb P M q : Nat) (hf : Fld P M q) (b n : Nat) (D : DataW Unit) (w : World) (hown : w.ownsMap Tryz.prog 9 (plainElem Tryz.prog 121) b n D) (hgb : g ≠ b) (hsb : sb ≠ b)
    (cg : w.cell? ⟨g, 0, none⟩ = some (.pointer (some ⟨sb, 0, none⟩))) (c0 : w.cell? ⟨sb, 0, none⟩ = some (.int .i64 (P : Int))) (c1 : w.cell? ⟨sb, 1, none⟩ = some (.int .i64 (M : Int))) :
    Calls Tryz.prog 218 #[.map (some b), .func (.func 219) #[] #[.pointer (some ⟨g, 0, none⟩)]] w fun e w' => e = .returned (.tuple #[]) ∧ w'.ownsMap Tryz.prog 9 (plainElem Tryz.prog 121) b n (Lib.deleteFuncD (pdS (stN P M)) D) ∧ w.grownBy w' (some b) :=
  AnyDf.maps_DeleteFunc Tryz.delF str_keyed (plainElem Tryz.prog 121) (pdS (stN P M)) 219 #[.pointer (some ⟨g, 0, none⟩)] b n D w (enters_of Tryz.func219 (by kernel_rfl) rfl) hown
    (fun W key val kl yd yp hg hk hv => by
      obtain ⟨a, rfl, hz, hwf⟩ := plainElem_int_inv Tryz.underlying121 hv
      obtain ⟨v, rfl, hv2⟩ : ∃ v : Nat, a = v ∧ v < 18446744073709551616 := by
        simp [Lit.wf, IntKind.min, IntKind.max, IntKind.signed, IntKind.bits] at hwf
        exact ⟨a.toNat, by omega, by omega⟩
      have keep : ∀ {k j : Nat} {u : Value}, k ≠ b → w.cell? ⟨k, j, none⟩ = some u → W.cell? ⟨k, j, none⟩ = some u := fun hk hu =>
        (World.cell?_of_block (hg.block _ (World.block_lt_of_cell? w _ hu) (fun e => hk (Option.some.inj e)))).trans hu
      refine (isZero_ok g sb P M q v hf hv2 key W (keep hgb cg) (keep hsb c0) (keep hsb c1)).mono ?_
      rintro e w' ⟨rfl, rfl⟩
      simp only [Prod.mk.injEq] at hz
      rw [hz.1]
      exact ⟨rfl, ⟨rfl, rfl, rfl, Nat.le_refl _, fun _ _ _ => rfl⟩⟩)

set_option maxHeartbeats 1000000 in
theorem settle_ok (B sb mb P M q n cnt : Nat) (hf : Fld P M q) (D : DataW Unit) (w : World) (hB : B ≤ w.heap.size) (hS : SumAt B sb mb P M q n cnt D w) (hc : cnt ≤ 4611686018427387904) :
    Calls Tryz.prog 189 #[.pointer (some ⟨sb, 0, none⟩)] w fun e w' => e = .returned (.bool (decide (Maps.size (Lib.deleteFuncD (pdS (stN P M)) D) ≤ 20000))) ∧ SumAt B sb mb P M q n cnt (Lib.deleteFuncD (pdS (stN P M)) D) w' ∧ Only (fun g => g = mb) w w' := by
  have hb1 := below1 w (.cells #[.pointer (some ⟨sb, 0, none⟩)] 208)
  have hS1 := hS.below hb1
  obtain ⟨hd4, hd0, hd1, -, -⟩ := hS1.cells
  have hcg : (w.alloc (.cells #[.pointer (some ⟨sb, 0, none⟩)] 208)).cell? ⟨w.heap.size, 0, none⟩ = some (.pointer (some ⟨sb, 0, none⟩)) := World.cell?_alloc_new _ _ _ 0
  have HSW := Lib.hid (sweep_ok w.heap.size sb P M q hf mb cnt D _ hS1.map (by have := hS.lts.2; omega) hS.sbm hcg hd0 hd1)
  have HCG := Lib.hid hcg
  have HS := Lib.hid hS1
  have HS0 := Lib.hid hS
  clear hS hS1 hcg hb1 hd0 hd1
  go_enter Tryz.func189, Tryz.ntmps189
  go_wp2_with fail
  refine HSW.out.mono ?_
  rintro e w1 ⟨rfl, hm, hg⟩
  have hS2 := HS.out.mapped hm hg
  have hd5 := hS2.cells.1
  have hcg1 := (World.cell?_of_block (a := ⟨w.heap.size, 0, none⟩) (hg.block _ (by simp) (fun x => by have h1 := HS0.out.lts.2; have h2 := Option.some.inj x; have h3 : w.heap.size = mb := h2; omega))).trans HCG.out
  have hlen := hm.len Tryz.underlying232 3
  have HS1 := Lib.hid hS2
  have HO : Hid (Only (fun g => g = mb) w w1) := Lib.hid ((Only.of_below (below1 w (.cells #[.pointer (some ⟨sb, 0, none⟩)] 208))).grown hg fun k e _ => (Option.some.inj e).symm)
  have hsz := hm.size_le
  clear hS2 hg hd4 hm
  generalize hE : Maps.size (Lib.deleteFuncD (pdS (stN P M)) D) = sz at hsz hlen
  have HE := Lib.hid hE
  clear hE
  by_cases hz : sz ≤ 20000
  · have hzd : decide (sz ≤ 20000) = true := decide_eq_true hz
    go_wp2_with fail
    go_ret
    exact ⟨ret_bool (by rw [HE.out, hzd]; simp; omega), HS1.out, HO.out⟩
  · have hzd : decide (sz ≤ 20000) = false := decide_eq_false hz
    have hzd2 : decide ((sz : Int) ≤ 20000) = false := by simp; omega
    go_wp2_with fail
    go_ret
    exact ⟨ret_bool (by rw [HE.out, hzd]), HS1.out, HO.out⟩
end Go.Proofs.YtopbfgkfpgnalaaGreatDoor
namespace Go.Proofs.YtopbfgkfpgnalaaGreatDoor
set_option linter.unusedVariables false
open Go.RowKit Go.Maps

/-- A block of integers. -/
def intsO (l : List Int) : Obj := .cells (l.map (Value.int .i64)).toArray 3 (0, 0)
theorem Tryz.info3 : (Tryz.prog.info? 3).map (fun i => (i.zero, i.size, i.bytes)) = some (some (.int .i64 0), 1, 8) := by kernel_rfl
theorem make_ints (n : Nat) (hn : n ≤ 1048576) : ∀ w : World, (Instr.makeSlice 57 (.int .i64 (n : Int)) (.int .i64 (n : Int))).run Tryz.prog w = .ok (.slice (some ⟨w.heap.size, 0, none⟩) n n) (w.alloc (intsO (List.replicate n 0))) := by
  intro w
  obtain ⟨i0, hi, hz0, hz1, hz2⟩ := info_parts Tryz.info3
  have h := run_make (P := Tryz.prog) w 57 3 i0 (.int .i64 0) Tryz.underlying57 hi hz0 .i64 .i64 (n : Int) (n : Int) (by omega) (by omega) (by rw [hz2]; omega) (by omega)
  rw [h, Int.toNat_natCast, hz1]
  have e2 : madeCells (Value.int .i64 0).cells (n * 1) = ((List.replicate n (0 : Int)).map (Value.int .i64)).toArray := by
    apply Array.toList_inj.1
    rw [zeros_of _ rfl]
    simp
  rw [e2]
  rfl
theorem ints_cell {w : World} {g j : Nat} {l : List Int} {x : Int} (h : w.heap[g]? = some (intsO l)) (hx : l[j]? = some x) : w.cell? ⟨g, j, none⟩ = some (.int .i64 x) ∧ w.frozen? ⟨g, j, none⟩ = false := by
  constructor
  · simp [World.cell?, h, intsO, hx]
  · simp [World.frozen?, h, intsO]
theorem ints_set {w : World} {g j : Nat} {l : List Int} (x : Int) (h : w.heap[g]? = some (intsO l)) : (w.setCell ⟨g, j, none⟩ (.int .i64 x)).heap[g]? = some (intsO (l.set j x)) := by
  have := heap_setCell_same w g j (l.map (Value.int .i64)).toArray 3 (.int .i64 x) h
  rw [this]
  simp [intsO, List.map_set]
theorem ints_read {w : World} {g : Nat} {l : List Int} (h : w.heap[g]? = some (intsO l)) : RdI w (some ⟨g, 0, none⟩) l := fun k x hk => by
  refine ⟨_, rfl, ?_⟩
  have ea : Addr.add ⟨g, 0, none⟩ k = ⟨g, k, none⟩ := by
    by_cases h0 : k = 0 <;> simp [Addr.add, h0]
  rw [ea]
  exact (ints_cell h hk).1

def intPart (e : List Nat) (n k : Nat) : List Int := nz (e.take k) ++ List.replicate (n - k) 0
theorem intPart_zero (e : List Nat) (n : Nat) : intPart e n 0 = List.replicate n 0 := by simp [intPart, nz]
theorem intPart_full {e : List Nat} {n : Nat} (h : e.length = n) : intPart e n n = nz e := by
  unfold intPart
  rw [List.take_of_length_le (by omega)]
  simp
theorem intPart_at {e : List Nat} {n k : Nat} (h : e.length = n) (hk : k < n) : (intPart e n k)[k]? = some 0 := by
  unfold intPart
  have h1 : (nz (e.take k)).length = k := by simp [nz_length]; omega
  rw [List.getElem?_append_right (by omega), h1, Nat.sub_self]
  rw [List.getElem?_replicate]
  simp; omega
theorem intPart_succ {e : List Nat} {n k x : Nat} (h : e.length = n) (hk : k < n) (hx : e[k]? = some x) : (intPart e n k).set k (x : Int) = intPart e n (k + 1) := by
  unfold intPart
  have h1 : (nz (e.take k)).length = k := by simp [nz_length]; omega
  rw [List.set_append_right _ _ (by omega), h1, List.take_add_one, hx]
  obtain ⟨m, hm⟩ : ∃ m, n - k = m + 1 := ⟨n - k - 1, by omega⟩
  rw [hm, show n - (k + 1) = m by omega, List.replicate_succ]
  simp [nz]

theorem keyB_at : ∀ (e : List Nat) (k x : Nat), e[k]? = some x → (keyB e)[2 * k]? = some (UInt8.ofNat (x / 256)) ∧ (keyB e)[2 * k + 1]? = some (UInt8.ofNat x)
  | [], k, x, h => by simp at h
  | y :: e, 0, x, h => by
    simp at h
    subst h
    simp [keyB]
  | y :: e, k + 1, x, h => by
    have := keyB_at e k x (by simpa using h)
    rw [show 2 * (k + 1) = (2 * k + 1) + 1 by omega]
    simpa [keyB] using this

theorem or_nat (a b : Nat) (ha : a < 9223372036854775808) (hb : b < 9223372036854775808) : bits .or .i64 (a : Int) (b : Int) = ((a ||| b : Nat) : Int) := by
  show IntKind.i64.wrap ((BitVec.ofInt 64 (a : Int) ||| BitVec.ofInt 64 (b : Int)).toNat : Int) = _
  rw [BitVec.toNat_or, ofInt_u64 a (by omega), ofInt_u64 b (by omega)]
  have e : (9223372036854775808 : Nat) = 2 ^ 63 := by decide
  exact Lib.wrap_i64_small _ (by rw [e] at ha hb ⊢; exact Nat.or_lt_two_pow ha hb)
theorem two_bytes {x : Nat} (h : x ≤ 65535) : bits .or .i64 ((x : Int) / 256 % 256 * 256) ((x : Int) % 256) = (x : Int) := by
  have e1 : ((x : Int) / 256 % 256 * 256) = ((x / 256 * 256 : Nat) : Int) := by omega
  have e2 : ((x : Int) % 256) = ((x % 256 : Nat) : Int) := by omega
  rw [e1, e2, or_nat _ _ (by omega) (by omega)]
  have h2 := Nat.two_pow_add_eq_or_of_lt (i := 8) (b := x % 256) (by omega) (x / 256)
  have e3 : x / 256 * 256 = 2 ^ 8 * (x / 256) := by omega
  rw [e3, ← h2]
  omega

set_option maxHeartbeats 2000000 in
theorem exps_ok (e : List Nat) (n : Nat) (he : Ex n e) (hn : n ≤ 80) (w : World) :
    Calls Tryz.prog 193 #[.string ⟨(keyB e).toArray⟩] w fun r w' => r = .returned (.slice (some ⟨w.heap.size, 0, none⟩) n n) ∧ w'.heap[w.heap.size]? = some (intsO (nz e)) ∧ Below w.heap.size w w' := by
  obtain ⟨s, hs⟩ : ∃ s : ByteArray, s = ⟨(keyB e).toArray⟩ := ⟨_, rfl⟩
  have hsz : s.size = 2 * n := by
    rw [hs]
    show (keyB e).toArray.size = 2 * n
    simp [keyB_length, he.1]
  rw [← hs]
  have HS := Lib.hid hs
  have HE := Lib.hid he
  have hmk := make_ints n (by omega)
  clear hs he
  have HH := Lib.hid (show (w.alloc (intsO (List.replicate n 0))).heap[w.heap.size]? = some (intsO (intPart e n 0)) by rw [intPart_zero]; exact alloc_at _ _ _ rfl)
  go_enter Tryz.func193, Tryz.ntmps193
  go_wp2_with fail
  go_loopw [4, 11] (fun _ i wr => ∃ k : Nat, k ≤ n ∧ i = .int .i64 k ∧ wr.heap[w.heap.size]? = some (intsO (intPart e n k)) ∧ Below w.heap.size w wr) (fun _ i _ => n - (intOf i).toNat)
  case atStart => exact ⟨0, by omega, rfl, HH.out, below1 _ _⟩
  case round =>
    obtain ⟨k, hk, rfl, hb, hB⟩ := hrel
    have HB := Lib.hid hB
    have HK := Lib.hid hb
    by_cases hlt : k < n
    · obtain ⟨x, hx⟩ : ∃ x, e[k]? = some x := ⟨_, List.getElem?_eq_getElem (by rw [HE.out.1]; exact hlt)⟩
      have hx2 := HE.out.2 x (List.mem_of_getElem? hx)
      obtain ⟨c1, f1⟩ := ints_cell hb (intPart_at HE.out.1 hlt)
      have g1 : s[2 * k]'(by omega) = UInt8.ofNat (x / 256) := by
        have := (keyB_at e k x hx).1
        have h2 : s.data[2 * k]? = some (UInt8.ofNat (x / 256)) := by rw [HS.out]; simpa using this
        exact (Array.getElem?_eq_some_iff.1 h2).2
      have g2 : s[2 * k + 1]'(by omega) = UInt8.ofNat x := by
        have := (keyB_at e k x hx).2
        have h2 : s.data[2 * k + 1]? = some (UInt8.ofNat x) := by rw [HS.out]; simpa using this
        exact (Array.getElem?_eq_some_iff.1 h2).2
      have w1 : IntKind.i64.wrap (2 * (k : Int)) = 2 * (k : Int) := IntWalk.i64_in _ (by omega)
      have w2 : IntKind.i64.wrap (2 * (k : Int) + 1) = 2 * (k : Int) + 1 := IntWalk.i64_in _ (by omega)
      have b1 : 0 ≤ 2 * (k : Int) := by omega
      have b2 : 0 ≤ 2 * (k : Int) + 1 := by omega
      have b3 : 2 * (k : Int) < 2 * (n : Int) := by omega
      have b4 : 2 * (k : Int) + 1 < 2 * (n : Int) := by omega
      have t1 : (2 * (k : Int)).toNat = 2 * k := by omega
      have t2 : (2 * (k : Int) + 1).toNat = 2 * k + 1 := by omega
      have HX := Lib.hid hx
      clear hx hb hB
      go_wp2_with fail
      generalize hwq : wr = wq at *
      have HST := Lib.hid (show (wq.setCell ⟨w.heap.size, k, none⟩ (.int .i64 (bits .or .i64 ((x : Int) / 256 % 256 * 256) ((x : Int) % 256)))).heap[w.heap.size]? = some (intsO (intPart e n (k + 1))) by
        rw [two_bytes hx2, ← intPart_succ HE.out.1 hlt HX.out]
        exact ints_set _ HK.out)
      go_region
      go_wp2_with fail
      go_roundw
      case rel => exact ⟨k + 1, by omega, by go_num, HST.out, (HB.out.setCell (p := ⟨w.heap.size, k, none⟩) (Nat.le_refl _) _).drew⟩
      case measure => simp [intOf]; omega
    · have hkn : k = n := by omega
      subst hkn
      rw [intPart_full HE.out.1] at hb
      have HB2 := Lib.hid hb
      clear hb
      go_wp2_with fail
      go_ret
      exact ⟨rfl, HB2.out, HB.out⟩
end Go.Proofs.YtopbfgkfpgnalaaGreatDoor
namespace Go.Proofs.YtopbfgkfpgnalaaGreatDoor
set_option linter.unusedVariables false
open Go.RowKit Go.Maps Go.Sort Go.Shelf

theorem sorts_in (m : Nat) : AnyZ.SortsIn Tryz.prog Tryz.sortedZ_ren Fence.wide m :=
  ⟨fun blk off cap ss W hH hblk hsz => callsIn_wide.2 (AnyM.slices_Sort_string Tryz.sortZ blk off cap ss W hH hblk hsz),
   fun p cap W => callsIn_wide.2 (AnyM.slices_Sort_string_none Tryz.sortZ p cap W)⟩
theorem keys_call (mb : Option Nat) (W : World) : Calls Tryz.prog 191 #[.map mb] W fun e w' => e = .returned (.func (.func 222) #[] #[.pointer (some ⟨W.heap.size, 0, none⟩)]) ∧ w' = W.alloc (.cells #[.map mb] 232) :=
  callsIn_wide.1 (AnyZ.keys_in Tryz.keysZ Fence.wide 5 trivial rfl mb W)
set_option maxHeartbeats 1000000 in
theorem sorted_call (b nn : Nat) (D0 : DataW Unit) (R : Value → Option (DataW Unit × List MemPlace)) (w : World) (hown : w.ownsMap Tryz.prog 9 R b nn D0) (hmax : Maps.size D0 ≤ maxLen) (hbytes : Maps.size D0 * 16 ≤ 140737488355328) :
    Calls Tryz.prog 190 #[.func (.func 222) #[] #[.pointer (some ⟨w.heap.size, 0, none⟩)]] (w.alloc (.cells #[.map (some b)] 232)) fun e w' => ∃ (v : Value) (ss : List (List UInt8)), e = .returned v ∧ ss.Perm (strKeys D0) ∧
      w'.ownsRow (w.alloc (.cells #[.map (some b)] 232)).heap.size 9 1 v ss.length ((ss.mergeSort (fun x y => decide (x ≤ y))).map encStr) ∧ (v = .slice none 0 0 ↔ ss = []) ∧ Below (w.alloc (.cells #[.map (some b)] 232)).heap.size (w.alloc (.cells #[.map (some b)] 232)) w' := by
  have hbl := hown.lt
  have hseq : SeqGives Fence.wide 2 Tryz.prog 222 #[.pointer (some ⟨w.heap.size, 0, none⟩)] encStr (fun ss => ss.Perm (strKeys D0)) (Maps.size D0) (w.alloc (.cells #[.map (some b)] 232)) :=
    AnyZ.keys_gives (ρ := Tryz.keysZ_ren) { Tryz.keysZ with } Fence.wide _ trivial rfl (by omega) w.heap.size b nn D0 _ (by simp) (by simp) (by
      obtain ⟨es, clock, hb, Ft, hs, hD⟩ := hown
      exact ⟨es, clock, (Below.heap_alloc _ _ b hbl).trans hb, Ft, hs, hD⟩)
  exact callsIn_wide.1 (AnyZ.sorted_in Tryz.sortedZ Fence.wide 5 trivial trivial trivial trivial rfl (by omega) (sorts_in _) (enters_of Tryz.func221 (by kernel_rfl) rfl) 222 #[.pointer (some ⟨w.heap.size, 0, none⟩)] trivial (enters_of Tryz.func222 (by kernel_rfl) rfl) _ _ hmax hbytes _ hseq)

theorem Tryz.infoT : (Tryz.prog.info? 144).map (fun i => (i.zero, i.size, i.bytes)) = some (some (.agg #[.int .i64 0, .slice none 0 0]), 2, 32) := by kernel_rfl

/-- The terms that have been made, each with the block of its exponents. -/
def flatT (n : Nat) (out : List (Tm × Nat)) : List Value := out.flatMap fun x => [.int .i64 (x.1.1 : Int), .slice (some ⟨x.2, 0, none⟩) n n]
theorem flatT_length (n : Nat) (out : List (Tm × Nat)) : (flatT n out).length = out.length * 2 := by
  induction out with
  | nil => rfl
  | cons x l ih => simp [flatT] at ih ⊢; omega
theorem flatT_at (n : Nat) : ∀ (out : List (Tm × Nat)) (k : Nat) (x : Tm × Nat), out[k]? = some x → (flatT n out)[k * 2]? = some (.int .i64 (x.1.1 : Int)) ∧ (flatT n out)[k * 2 + 1]? = some (.slice (some ⟨x.2, 0, none⟩) n n)
  | [], k, x, h => by simp at h
  | y :: l, 0, x, h => by
    simp at h
    subst h
    simp [flatT]
  | y :: l, k + 1, x, h => by
    have := flatT_at n l k x (by simpa using h)
    rw [show (k + 1) * 2 = k * 2 + 1 + 1 by omega]
    simpa [flatT] using this
structure OutS (B n : Nat) (v : Value) (out : List (Tm × Nat)) (w : World) : Prop where
  row : w.ownsRow B 144 2 v out.length (flatT n out)
  els : ∀ x ∈ out, B ≤ x.2 ∧ x.1.2.length = n ∧ w.heap[x.2]? = some (intsO (nz x.1.2))
theorem tms_at {p : List Tm} {k : Nat} {t : Int × List Int} (h : (p.map (fun t => ((t.1 : Int), nz t.2)))[k]? = some t) : ∃ s, p[k]? = some s ∧ t = ((s.1 : Int), nz s.2) := by
  rw [List.getElem?_map] at h
  obtain ⟨s, h1, h2⟩ := Option.map_eq_some_iff.1 h
  exact ⟨s, h1, h2.symm⟩
abbrev tms (p : List Tm) : List (Int × List Int) := p.map (fun t => ((t.1 : Int), nz t.2))
/-- A list of terms as the program hands it back. -/
theorem OutS.reads {B n : Nat} {v : Value} {out : List (Tm × Nat)} {w : World} (h : OutS B n v out w) (hn : n ≤ 80) : ∃ A c, v = .slice A out.length c ∧ RdP w A (tms (out.map Prod.fst)) := by
  rcases h.row.2 with ⟨rfl, h0⟩ | ⟨g, cap, cur, rfl, _⟩
  · have : out = [] := List.length_eq_zero_iff.1 (by simpa using h0)
    subst this
    exact ⟨none, 0, rfl, fun k t hk => by simp at hk⟩
  · refine ⟨_, cap, rfl, fun k t hk => ?_⟩
    obtain ⟨s, hs, rfl⟩ := tms_at hk
    rw [List.getElem?_map] at hs
    obtain ⟨x, hx, rfl⟩ := Option.map_eq_some_iff.1 hs
    obtain ⟨h1, h2⟩ := flatT_at n out k x hx
    have hkl : k < out.length := (List.getElem?_eq_some_iff.1 hx).1
    obtain ⟨_, h3, h4⟩ := h.els x (List.mem_of_getElem? hx)
    refine ⟨g, 0, .slice (some ⟨x.2, 0, none⟩) n n, rfl, ?_, ?_, ?_⟩
    · have := h.row.cellAt (k * 2) (by omega)
      rw [Nat.zero_add, this, h1]
    · have := h.row.cellAt (k * 2 + 1) (by omega)
      rw [Nat.zero_add, this, h2]
    · exact ⟨some ⟨x.2, 0, none⟩, n, by rw [nz_length, h3], ints_read h4, by rw [nz_length]; omega⟩

theorem make_terms (m : Nat) (hm : m ≤ 20000) : ∃ cs : Array Value, cs.size = m * 2 ∧ ∀ w : World, (Instr.makeSlice 67 (.int .i64 0) (.int .i64 (m : Int))).run Tryz.prog w = .ok (.slice (some ⟨w.heap.size, 0, none⟩) 0 m) (w.alloc (.cells cs 144)) := by
  obtain ⟨i0, hi, hz0, hz1, hz2⟩ := info_parts Tryz.infoT
  refine ⟨_, size_madeCells (Value.agg #[.int .i64 0, .slice none 0 0]).cells (m * 2), fun w => ?_⟩
  have h := run_make (P := Tryz.prog) w 67 144 i0 (.agg #[.int .i64 0, .slice none 0 0]) Tryz.underlying67 hi hz0 .i64 .i64 0 (m : Int) (by omega) (by omega) (by rw [hz2]; omega) (by omega)
  rw [h, Int.toNat_natCast, hz1]
  rfl
theorem OutS.start (B n m : Nat) (cs : Array Value) (hcs : cs.size = m * 2) (hm : m ≤ 20000) (w : World) (h : w.heap[B]? = some (.cells cs 144 (0, 0))) : OutS B n (.slice (some ⟨B, 0, none⟩) 0 m) [] w :=
  ⟨⟨rfl, .inr ⟨B, m, cs, rfl, Nat.le_refl _, h, Nat.zero_le _, by unfold maxLen; omega, hcs, by simp [flatT]⟩⟩, by simp⟩
theorem ownsRow_below {w w' : World} {base : Nat} {e : TypeId} {size : Nat} {v : Value} {n : Nat} {xs : List Value} (h : w.ownsRow base e size v n xs) (hB : Below w.heap.size w w') : w'.ownsRow base e size v n xs :=
  h.kept (row := none) ⟨hB.os, hB.tape, hB.output, hB.size, fun k hk _ => hB.block k hk⟩ (by cases v.ownBlock with | none => exact .inl rfl | some k => exact .inr (by simp))
/-- What is no row of terms stays. -/
def KeepT (w w' : World) : Prop := ∀ (b : Nat) (o : Obj), w.heap[b]? = some o → (∀ cs : Array Value, o ≠ .cells cs 144 (0, 0)) → w'.heap[b]? = some o
theorem KeepT.refl (w : World) : KeepT w w := fun _ _ h _ => h
theorem KeepT.trans {a b c : World} (h : KeepT a b) (k : KeepT b c) : KeepT a c := fun x o ho hn => k x o (h x o ho hn) hn
theorem KeepT.of_below {w w' : World} (h : Below w.heap.size w w') : KeepT w w' := fun b o ho _ => (h.block b (Array.getElem?_eq_some_iff.1 ho).1).trans ho
theorem KeepT.grown {w w' : World} {B n : Nat} {v : Value} {xs : List Value} (h : w.ownsRow B 144 2 v n xs) (hg : w.grownBy w' v.ownBlock) : KeepT w w' := fun b o ho hn => by
  rw [hg.block b (Array.getElem?_eq_some_iff.1 ho).1 (fun e => ?_)]
  · exact ho
  · rcases h.2 with ⟨rfl, _⟩ | ⟨g, cap, cur, rfl, _, hgb, _⟩
    · simp [Value.ownBlock] at e
    · simp [Value.ownBlock] at e
      subst e
      rw [hgb] at ho
      cases ho
      exact hn _ rfl
theorem OutS.push {B n : Nat} {v v' : Value} {out : List (Tm × Nat)} {w w1 w2 : World} (h : OutS B n v out w) (hB : Below w.heap.size w w1) (t : Tm) (ht : t.2.length = n) (g : Nat) (hg : B ≤ g) (hgb : w1.heap[g]? = some (intsO (nz t.2))) (tmp : Obj)
    (hown : w2.ownsRow B 144 2 v' (out.length + 1) (flatT n out ++ [.int .i64 (t.1 : Int), .slice (some ⟨g, 0, none⟩) n n])) (hgrow : (w1.alloc tmp).grownBy w2 v.ownBlock) :
    OutS B n v' (out ++ [(t, g)]) w2 ∧ KeepT w w2 := by
  have hr := (ownsRow_below h.row hB).alloc tmp
  have hk : KeepT w1 w2 := (KeepT.of_below ((Below.refl _ w1).alloc (Nat.le_refl _) tmp)).trans (KeepT.grown hr hgrow)
  have hk0 := (KeepT.of_below hB).trans hk
  refine ⟨⟨by simpa [flatT] using hown, fun x hx => ?_⟩, hk0⟩
  simp at hx
  rcases hx with hx | rfl
  · obtain ⟨a, b, c⟩ := h.els x hx
    exact ⟨a, b, hk0 _ _ c (fun cs e => by simp [intsO] at e)⟩
  · exact ⟨hg, ht, hk _ _ hgb (fun cs e => by simp [intsO] at e)⟩

end Go.Proofs.YtopbfgkfpgnalaaGreatDoor
namespace Go.Proofs.YtopbfgkfpgnalaaGreatDoor
set_option linter.unusedVariables false
open Go.RowKit Go.Maps Go.Sort Go.Shelf

theorem sorted_call2 (b nn : Nat) (D0 : DataW Unit) (R : Value → Option (DataW Unit × List MemPlace)) (w : World) (g : Nat) (hg : g = w.heap.size) (hown : w.ownsMap Tryz.prog 9 R b nn D0) (hmax : Maps.size D0 ≤ maxLen) (hbytes : Maps.size D0 * 16 ≤ 140737488355328) :
    Calls Tryz.prog 190 #[.func (.func 222) #[] #[.pointer (some ⟨g, 0, none⟩)]] (w.alloc (.cells #[.map (some b)] 232)) fun e w' => ∃ (v : Value) (ss : List (List UInt8)), e = .returned v ∧ ss.Perm (strKeys D0) ∧
      w'.ownsRow (g + 1) 9 1 v ss.length ((ss.mergeSort leB).map encStr) ∧ (v = .slice none 0 0 ↔ ss = []) ∧ Below (g + 1) (w.alloc (.cells #[.map (some b)] 232)) w' := by
  subst hg
  have := sorted_call b nn D0 R w hown hmax hbytes
  simpa using this

theorem Tells.size_le {n : Nat} {st : Nat → Nat} {add : Nat → Nat → Nat} {ts : List Tm} {D : DataW Unit} (h : Tells n st add ts D) : Maps.size D ≤ ts.length := by
  obtain ⟨_, _, _, h3, _⟩ := h
  exact h3
theorem stN_zero (P M : Nat) : stN P M 0 = 0 := by
  unfold stN
  split <;> simp

/-- What poly hands back of a sum of the terms ts. -/
def PolyIs (q n : Nat) (add : Nat → Nat → Nat) (ts : List Tm) (mb : Nat) (w : World) (r : Ending) (w' : World) : Prop :=
  Only (fun g => g = mb) w w' ∧ ∃ p : List Tm, Ris q n p ∧ (∀ e, cfs add p e = cfs add ts e) ∧ (∀ t ∈ p, Ex n t.2) ∧ p.length ≤ ts.length ∧
    ((p.length ≤ 20000 ∧ ∃ A c, r = .returned (.tuple #[.slice A p.length c, .bool true]) ∧ RdP w' A (tms p)) ∨ (20000 < p.length ∧ r = .returned (.tuple #[.slice none 0 0, .bool false])))

theorem two_new (w : World) (a b : Value) (t : TypeId) : ∀ j u, [a, b][j]? = some u → (w.alloc (.cells #[a, b] t)).cell? (Addr.add ⟨w.heap.size, 0, none⟩ j) = some u := by
  intro j u h
  match j, h with
  | 0, h => simp at h; subst h; simp [Addr.add]
  | 1, h => simp at h; subst h; simp [Addr.add]
  | j + 2, h => simp at h
theorem two_one (a : Int) (b : Option Addr) (n c : Nat) : ∀ u ∈ [Value.int .i64 a, Value.slice b n c], u.oneCell' = true := by
  intro u h
  simp at h
  rcases h with rfl | rfl <;> rfl
/-- The round of poly: k keys have been done. -/
structure PolyR (w w1 w2 : World) (sb mb B P M q n cnt : Nat) (D : DataW Unit) (E : List (List Nat)) (f : List Nat → Nat) (sv : Value) (v : Value) (out : List (Tm × Nat)) (wr : World) : Prop where
  outs : OutS w1.heap.size n v out wr
  terms : out.map Prod.fst = (E.take out.length).map fun e => (f e, e)
  bel : Below w1.heap.size w1 wr
  keep : KeepT w2 wr

set_option maxRecDepth 100000 in
set_option maxHeartbeats 4000000 in
theorem poly_ok (w0 w : World) (hw : w0.heap.size ≤ w.heap.size) (sb mb P M q n cnt : Nat) (hf : Fld P M q) (hn : n ≤ 80) (D : DataW Unit) (ts : List Tm) (hS : SumAt w0.heap.size sb mb P M q n cnt D w) (hT : Tells n (stN P M) (addN P M) ts D) (hcl : CoLt q ts) (hcnt : cnt ≤ 4611686018427387904) (htl : ts.length ≤ 2000000000) :
    Calls Tryz.prog 170 #[.pointer (some ⟨sb, 0, none⟩)] w (PolyIs q n (addN P M) ts mb w) := by
  have HST := Lib.hid (settle_ok w0.heap.size sb mb P M q n cnt hf D w hw hS hcnt)
  obtain ⟨hT2, hD⟩ := hT.sweep (stN_zero P M)
  have HT := Lib.hid hT2
  have HD := Lib.hid hD
  have HC := Lib.hid hcl
  have HTL := Lib.hid htl
  clear hS hT hT2 hD hcl hcnt htl
  generalize hDD : Lib.deleteFuncD (pdS (stN P M)) D = DD at *
  have hz : Maps.size DD ≤ 20000 ∨ 20000 < Maps.size DD := by omega
  generalize hsz : Maps.size DD = sz at *
  have HSZ := Lib.hid hsz
  clear hDD hsz
  rcases hz with hz | hz
  · have hzd : decide (sz ≤ 20000) = true := decide_eq_true hz
    rw [hzd] at HST
    clear hzd
    go_enter Tryz.func170, Tryz.ntmps170
    go_wp2_with fail
    refine HST.out.mono ?_
    rintro e w1 ⟨rfl, hS1, hO1⟩
    obtain ⟨d4, -⟩ := hS1.cells
    have hlen := hS1.map.len Tryz.underlying232 3
    rw [HSZ.out] at hlen
    obtain ⟨cs, hcs, hmk⟩ := make_terms sz hz
    have HS1 := Lib.hid hS1
    have HO1 := Lib.hid hO1
    have HCS := Lib.hid hcs
    have hBa : Below w1.heap.size w1 (w1.alloc (.cells cs 144)) := below1 _ _
    have hS2 := hS1.below hBa
    have d4' := hS2.cells.1
    have HS2 := Lib.hid hS2
    have HKC := Lib.hid (fun W => keys_call (some mb) W)
    have HSO := Lib.hid (sorted_call2 mb cnt DD (plainElem Tryz.prog 121) (w1.alloc (.cells cs 144)) (w1.heap.size + 1) (by simp) hS2.map (by rw [HSZ.out]; unfold maxLen; omega) (by rw [HSZ.out]; omega))
    clear hS1 hO1 hcs hBa hS2
    go_wp2_with fail
    refine (HKC.out _).mono ?_
    rintro e w2 ⟨rfl, rfl⟩
    go_wp2_with fail
    refine HSO.out.mono ?_
    rintro e w2 ⟨sv, ss, rfl, hss, hrow, hnil, hB2⟩
    obtain ⟨E, hE1, hE2, hE3, hE4, hE5, hE6⟩ := Tells.poly hf.fl.toRng HC.out HD.out hss
    have hsl : ss.length = sz := by rw [← hE6, hE5]; exact HSZ.out
    obtain ⟨SA, sc, rfl⟩ : ∃ A c, sv = .slice A ss.length c := by
      rcases hrow.2 with ⟨rfl, h0⟩ | ⟨g, cap, cur, rfl, _⟩
      · refine ⟨none, 0, ?_⟩
        have := hrow.1
        rw [h0] at this
        simp at this
        rw [this]; rfl
      · exact ⟨_, _, rfl⟩
    rw [hsl] at hrow ⊢
    have hEl : E.length = sz := hE5.trans HSZ.out
    have hBw : Below w1.heap.size w1 w2 := (below2 w1 _ _).trans (hB2.mono (by omega))
    have hblk : w2.heap[w1.heap.size]? = some (.cells cs 144 (0, 0)) := (hB2.block w1.heap.size (by omega)).trans (alloc_old _ _ _ _ (alloc_at _ _ _ rfl))
    have hst := OutS.start w1.heap.size n sz cs HCS.out hz w2 hblk
    have hrd : ∀ k e, E[k]? = some e → ∃ g, SA = some ⟨g, 0, none⟩ ∧ ∀ W, KeepT w2 W → W.cell? ⟨g, k, none⟩ = some (.string ⟨(keyB e).toArray⟩) := fun k e he => by
      have hk : k < sz := by rw [← hEl]; exact (List.getElem?_eq_some_iff.1 he).1
      rcases hrow.2 with ⟨hv, h0⟩ | ⟨g, cap, cur, hv, _, hg, _, _, hcs2, htk⟩
      · simp only [Value.slice.injEq] at hv
        omega
      · simp only [Value.slice.injEq] at hv
        refine ⟨g, hv.1, fun W hW => ?_⟩
        have h1 := hW _ _ hg (fun cs' e' => by simp at e')
        have h2 := congrArg (fun l => l[k]?) htk
        rw [hE1] at h2
        simp only [List.getElem?_map, he, Option.map_some, List.getElem?_take, Nat.mul_one, hk, if_true] at h2
        rw [World.cell?, h1]
        simp only [Option.isSome_none, Bool.false_eq_true, if_false]
        rw [← Array.getElem?_toList, h2]
    have HE3 := Lib.hid hE3
    have HE2 := Lib.hid hE2
    have HE4 := Lib.hid hE4
    have HEL := Lib.hid hEl
    have HRD := Lib.hid hrd
    have HBW := Lib.hid hBw
    have HOUT := Lib.hid hst
    clear hE1 hE2 hE3 hE4 hE5 hE6 hss hnil hB2 hBw hblk hst hrd hrow hsl hEl hlen hmk d4 d4' HST HKC HSO
    go_wp2_with fail
    go_loopw [4, 6, 23] (fun v _ i wr => ∃ (k : Nat) (out : List (Tm × Nat)), k ≤ sz ∧ i = .int .i64 k ∧ out.length = k ∧ PolyR w w1 w2 sb mb w1.heap.size P M q n cnt DD E (cfs (addN P M) ts) v v out wr) (fun _ _ i _ => sz - (intOf i).toNat)
    case atStart => exact ⟨0, [], by omega, rfl, rfl, HOUT.out, by simp, HBW.out, KeepT.refl _⟩
    case round =>
      obtain ⟨k, out, hk, rfl, hol, hR⟩ := hrel
      have HR := Lib.hid hR
      have HOL := Lib.hid hol
      clear hol
      by_cases hlt : k < sz
      · obtain ⟨e, he⟩ : ∃ e, E[k]? = some e := ⟨_, List.getElem?_eq_getElem (by rw [HEL.out]; exact hlt)⟩
        obtain ⟨gs, rfl, hcell⟩ := HRD.out k e he
        have ck := hcell _ hR.keep
        have hem := HE2.out e (List.mem_of_getElem? he)
        have HEM := Lib.hid hem
        have HE := Lib.hid he
        have hSr := HS1.out.below hR.bel
        have d4 := hSr.cells.1
        have HSR := Lib.hid hSr
        have hkl : (keyB e).length ≤ 160 := by rw [keyB_length, hem.1.1]; omega
        obtain ⟨v, hatk, hsv, hvb⟩ := HD.out.at hem.1 hem.2
        have hv63 : v < 9223372036854775808 := Nat.lt_of_le_of_lt hvb (Nat.lt_of_le_of_lt (Nat.mul_le_mul_right 4294967296 HTL.out) (by decide))
        have hlk := look_u hSr.map (keyB e) hkl v (hatk _)
        have hset := settled_ok sb P M q v hf hv63 wr hSr.cells.2.1 hSr.cells.2.2.1
        rw [hsv] at hset
        have HSET := Lib.hid hset
        have HX := Lib.hid (exps_ok e n hem.1 hn)
        obtain ⟨vb, vn, vc, hv⟩ : ∃ a m c, u4 = .slice a m c := by
          rcases hR.outs.row.2 with ⟨h, _⟩ | ⟨_, _, _, h, _⟩
          · exact ⟨_, _, _, h⟩
          · exact ⟨_, _, _, h⟩
        subst hv
        obtain ⟨i0, hi, hz0, hz1, hz2⟩ := info_parts Tryz.infoT
        have hcf := cfs_lt hf.fl.toRng HC.out e
        generalize hcv : cfs (addN P M) ts e = cv at *
        have HCV := Lib.hid hcv
        have HSZW : Hid (w1.heap.size ≤ wr.heap.size) := Lib.hid hR.bel.size
        clear hcv hcell he hem hSr hatk hR hset hsv hvb hv63
        go_wp2_with fail
        refine HSET.out.mono ?_
        rintro r w2' ⟨rfl, rfl⟩
        go_wp2_with fail
        refine (HX.out _).mono ?_
        rintro r w3 ⟨rfl, hg3, hB3⟩
        go_wp2_with (at_builtin; refine wpList_append_lies _ rfl _ _ 67 rfl w1.heap.size 144 i0 (.agg #[.int .i64 0, .slice none 0 0]) 2 32 Tryz.underlying67 hi hz0 hz1 hz2 rfl (by decide) (.slice vb vn vc) out.length (flatT n out) rfl ((ownsRow_below HR.out.outs.row hB3).alloc _) ⟨w3.heap.size, 0, none⟩ 1 1 [.int .i64 (cv : Int), .slice (some ⟨wr.heap.size, 0, none⟩) n n] rfl rfl (two_new _ _ _ _) (two_one _ _ _ _) (by decide) (by have := HOL.out; unfold maxLen; omega) (by have := HOL.out; omega) (by have h1 := hB3.size; have h2 := HSZW.out; rw [World.size_alloc]; exact Nat.le_trans h2 (Nat.le_trans h1 (Nat.le_succ _))) (w3.heap.size + 1) (by simp) ?_; intro g cap w4 hown hgrow hgo hglt)
        · obtain ⟨q1, q2⟩ := HR.out.outs.push hB3 (cv, e) HEM.out.1.1 wr.heap.size HSZW.out hg3 _ hown hgrow
          have hb4 : Below w1.heap.size w1 w4 := by
            have h3 := (HR.out.bel.trans (hB3.mono HSZW.out))
            have hsz3 : w1.heap.size ≤ w3.heap.size := Nat.le_trans HSZW.out hB3.size
            exact (h3.alloc hsz3 (.cells #[.int .i64 (cv : Int), .slice (some ⟨wr.heap.size, 0, none⟩) n n] 144)).grown hgrow (by rw [World.size_alloc]; omega) (fun k' e' => (HR.out.outs.row.lt k' e').1)
          have hnew : PolyR w w1 w2 sb mb w1.heap.size P M q n cnt DD E (cfs (addN P M) ts) (.slice (some ⟨g, 0, none⟩) (out.length + 1) cap) (.slice (some ⟨g, 0, none⟩) (out.length + 1) cap) (out ++ [((cv, e), wr.heap.size)]) w4 :=
            ⟨q1, by
              rw [List.map_append, HR.out.terms, List.length_append, List.length_singleton, List.take_add_one, HOL.out, HE.out, List.map_append]
              simp [HCV.out], hb4, HR.out.keep.trans q2⟩
          have HNEW := Lib.hid hnew
          clear hnew q1 q2 hb4 hown hgrow hgo hglt hg3 hB3 hlk d4 ck
          go_wp2_with fail
          go_roundw
          case rel => exact ⟨k + 1, out ++ [((cv, e), wr.heap.size)], by omega, by go_num, by simp [HOL.out], HNEW.out⟩
          case measure => simp [intOf]; omega
      · have hks : k = sz := by omega
        subst hks
        have hfst : out.map Prod.fst = E.map fun e => (cfs (addN P M) ts e, e) := by
          rw [hR.terms, HOL.out, List.take_of_length_le (by rw [HEL.out]; exact Nat.le_refl _)]
        obtain ⟨RA, rc, hrv, hrr⟩ := hR.outs.reads hn
        rw [hfst] at hrr
        have HFIN := Lib.hid hrr
        have HBB := Lib.hid hR.bel
        rw [HOL.out] at hrv
        subst hrv
        clear hrr hR hfst
        go_wp2_with fail
        go_ret2
        have hlenE : (E.map fun e => (cfs (addN P M) ts e, e)).length = k := by rw [List.length_map]; exact HEL.out
        refine ⟨HO1.out.trans (Only.of_below HBB.out), E.map fun e => (cfs (addN P M) ts e, e), HE3.out, HE4.out, fun t ht => ?_, ?_, .inl ⟨by rw [hlenE]; exact hz, RA, rc, (by rw [hlenE]; rfl), HFIN.out⟩⟩
        · obtain ⟨e, he, rfl⟩ := List.mem_map.1 ht
          exact (HE2.out e he).1
        · rw [hlenE, ← HSZ.out]
          exact HT.out.size_le
  · have hzd : decide (sz ≤ 20000) = false := decide_eq_false (by omega)
    rw [hzd] at HST
    clear hzd
    go_enter Tryz.func170, Tryz.ntmps170
    go_wp2_with fail
    refine HST.out.mono ?_
    rintro e w1 ⟨rfl, hS1, hO1⟩
    have HO1 := Lib.hid hO1
    obtain ⟨E, hE1, hE2, hE3, hE4, hE5, hE6⟩ := Tells.poly hf.fl.toRng HC.out HD.out (List.Perm.refl _)
    have hlenE : (E.map fun e => (cfs (addN P M) ts e, e)).length = sz := by rw [List.length_map, hE5]; exact HSZ.out
    have HE2 := Lib.hid hE2
    have HE3 := Lib.hid hE3
    have HE4 := Lib.hid hE4
    have HLE := Lib.hid hlenE
    clear hS1 hO1 hE1 hE2 hE3 hE4 hE5 hE6 hlenE
    go_wp2_with fail
    go_ret2
    refine ⟨HO1.out, E.map fun e => (cfs (addN P M) ts e, e), HE3.out, HE4.out, fun t ht => ?_, ?_, .inr ⟨by rw [HLE.out]; exact hz, rfl⟩⟩
    · obtain ⟨e, he, rfl⟩ := List.mem_map.1 ht
      exact (HE2.out e he).1
    · rw [HLE.out, ← HSZ.out]
      exact HT.out.size_le
end Go.Proofs.YtopbfgkfpgnalaaGreatDoor
