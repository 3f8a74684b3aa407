/-
  Joined from Pqf, Pqga, Pqg, Pqgb, Pqh, Pqi, Pqj, Pqk: see there.
-/
import Derived.Test.YtcophfhnhlaonaaGreatDoorUf
import Derived.Test.YtcophfhnhlaonaaGreatDoorLp
import Derived.Test.YtcophfhnhlaonaaGreatDoorUd
import Derived.Laws.IdiomStrings
import Derived.Laws.OwnMore
import Derived.BigRegion
import Derived.Carry
import Derived.StringKeys
import Derived.Deep.RegionLaw
import Derived.Deep.AppendLies
namespace Go.Proofs.YtcophfhnhlaonaaGreatDoor
set_option linter.unusedVariables false
open Go.RowKit Go.Maps

/-! ### the state of a sum -/
/-- A row of bytes of the call's own: a keys slice. -/
def KeyV (B : Nat) (w : World) (v : Value) (bs : List UInt8) : Prop := ∃ A n c, v = .slice A n c ∧ bs.length = n ∧ w.ownsRow B 5 1 v n (Lib.byteCells bs)
/-- What is no row of bytes stays. -/
def KeepY (w w' : World) : Prop := ∀ (b : Nat) (o : Obj), w.heap[b]? = some o → (∀ cs : Array Value, o ≠ .cells cs 5 (0, 0)) → w'.heap[b]? = some o
theorem KeepY.refl (w : World) : KeepY w w := fun _ _ h _ => h
theorem KeepY.trans {u v w : World} (h : KeepY u v) (k : KeepY v w) : KeepY u w := fun b o hb ho => k b o (h b o hb ho) ho
theorem KeepY.of_below {w w' : World} (hB : Below w.heap.size w w') : KeepY w w' := fun b o hb _ => (hB.block b (Array.getElem?_eq_some_iff.1 hb).1).trans hb
theorem KeyV.grown {B : Nat} {w w' : World} {v : Value} {bs : List UInt8} (h : KeyV B w v bs) (hg : w.grownBy w' v.ownBlock) : KeepY w w' := fun b o hb ho => by
  obtain ⟨A, n, c, rfl, hl, hown⟩ := h
  refine (hg.block b (Array.getElem?_eq_some_iff.1 hb).1 fun e => ?_).trans hb
  rcases hown.2 with ⟨h1, _⟩ | ⟨g, cap, cur, h1, _, hgc, _⟩
  · rw [h1] at e
    simp [Value.ownBlock] at e
  · rw [h1] at e
    simp [Value.ownBlock] at e
    subst e
    rw [hgc] at hb
    exact ho cur (Option.some.inj hb).symm
theorem KeyV.below {B : Nat} {w w' : World} {v : Value} {bs : List UInt8} (h : KeyV B w v bs) (hB : Below w.heap.size w w') : KeyV B w' v bs := by
  obtain ⟨A, n, c, e, hl, hown⟩ := h
  exact ⟨A, n, c, e, hl, hown.kept (row := none) ⟨hB.os, hB.tape, hB.output, hB.size, fun k hk _ => hB.block k hk⟩ (by cases v.ownBlock with | none => exact .inl rfl | some k => exact .inr (by simp))⟩
/-- The keys from the start again. -/
theorem KeyV.zero {B : Nat} {w : World} {A : Option Addr} {n c : Nat} {bs : List UInt8} (h : KeyV B w (.slice A n c) bs) : KeyV B w (.slice A 0 c) [] := by
  obtain ⟨A', n', c', e, hl, hown⟩ := h
  cases e
  refine ⟨A, 0, c, rfl, rfl, ?_⟩
  rcases hown.2 with ⟨h1, h0⟩ | ⟨g, cap, cur, h1, h2, h3, h4, h5, h6, h7⟩
  · cases h1
    exact ⟨rfl, .inl ⟨rfl, rfl⟩⟩
  · cases h1
    exact ⟨rfl, .inr ⟨g, c, cur, rfl, h2, h3, Nat.zero_le _, h5, h6, by simp [Lib.byteCells]⟩⟩
theorem Tryz.info5 : (Tryz.prog.info? 5).map (fun i => (i.zero, i.size, i.bytes)) = some (some (.int .u8 0), 1, 1) := by kernel_rfl

theorem zeros_of (z : Value) (hz : z.cells = #[z]) (n : Nat) : (madeCells z.cells (n * 1)).toList = List.replicate n z := by
  rw [hz, Nat.mul_one, toList_madeCells_one]
theorem alloc_at (w : World) (o : Obj) (n : Nat) (h : n = w.heap.size) : (w.alloc o).heap[n]? = some o := by subst h; exact (MapKept.heap_alloc w o).1
theorem alloc_old (w : World) (o o' : Obj) (n : Nat) (h : w.heap[n]? = some o') : (w.alloc o).heap[n]? = some o' := by
  rw [Below.heap_alloc _ _ _ (Array.getElem?_eq_some_iff.1 h).1]; exact h
theorem ownsMap_old {w w' : World} {k : TypeId} {R : Value → Option (DataW Unit × List MemPlace)} {b n : Nat} {D : DataW Unit} (h : w.ownsMap Tryz.prog k R b n D) (hb : w'.heap[b]? = w.heap[b]?) : w'.ownsMap Tryz.prog k R b n D := by
  obtain ⟨es, clock, h1, h2⟩ := h
  exact ⟨es, clock, hb.trans h1, h2⟩
section
variable {B sb mb P M q n cnt : Nat} {D : DataW Unit} {w w' : World}
end

end Go.Proofs.YtcophfhnhlaonaaGreatDoor
namespace Go.Proofs.YtcophfhnhlaonaaGreatDoor
set_option linter.unusedVariables false
open Go.RowKit Go.Maps

theorem keyB_append : ∀ a b : List Nat, keyB (a ++ b) = keyB a ++ keyB b
  | [], b => rfl
  | x :: a, b => by
    show _ :: _ :: keyB (a ++ b) = _
    rw [keyB_append a b]; rfl
theorem keyB_take {e : List Nat} {k x : Nat} (h : e[k]? = some x) : keyB (e.take (k + 1)) = keyB (e.take k) ++ [UInt8.ofNat (x / 256), UInt8.ofNat x] := by
  rw [List.take_add_one, h, keyB_append]; rfl
theorem pair_new (w : World) (a b : Value) (t : TypeId) : ∀ j u, [a, b][j]? = some u → (w.alloc (.cells #[a, b] t)).cell? (Addr.add ⟨w.heap.size, 0, none⟩ j) = some u := by
  intro j u h
  match j, h with
  | 0, h => simp at h; subst h; simp [Addr.add]
  | 1, h => simp at h; subst h; simp [Addr.add]
  | j + 2, h => simp at h
theorem pair_one (a b : Int) : ∀ u ∈ [Value.int .u8 a, Value.int .u8 b], u.oneCell' = true := by
  intro u h
  simp at h
  rcases h with rfl | rfl <;> rfl

end Go.Proofs.YtcophfhnhlaonaaGreatDoor
namespace Go.Proofs.YtcophfhnhlaonaaGreatDoor
set_option linter.unusedVariables false
open Go.RowKit Go.Maps

theorem key_of (l : List UInt8) (hl : l.length ≤ 160) : keyOf Tryz.prog 9 (.string ⟨l.toArray⟩) = some (.string l) := by
  have := Go.WideMaps.keyOf_string_mk (P := Tryz.prog) Tryz.underlying9 (s := ⟨l.toArray⟩) (by show l.toArray.size ≤ maxLen; simp [maxLen]; omega)
  simpa using this
theorem zero_u64 (w : World) : (zeroValue 88).run Tryz.prog w = .ok (.int .u64 0) w := by kernel_rfl
theorem str_keyed : Keyed Tryz.prog 9 := string_keyed Tryz.underlying9
theorem wf_u {x : Nat} (h : x < 18446744073709551616) : (Lit.int .u64 (x : Int)).wf = true := by
  simp [Lit.wf, IntKind.min, IntKind.max, IntKind.signed, IntKind.bits]
  omega
theorem wrap_u {x : Nat} (h : x < 18446744073709551616) : IntKind.u64.wrap (x : Int) = (x : Int) := by
  simp [IntKind.wrap, IntKind.signed, IntKind.bits]
  omega
theorem xor_u64n (a b : Nat) (ha : a < 18446744073709551616) (hb : b < 18446744073709551616) : bits .xor .u64 (a : Int) (b : Int) = ((a ^^^ b : Nat) : Int) := by
  show IntKind.u64.wrap ((BitVec.ofInt 64 (a : Int) ^^^ BitVec.ofInt 64 (b : Int)).toNat : Int) = _
  rw [BitVec.toNat_xor, ofInt_u64 a (by omega), ofInt_u64 b (by omega)]
  have e : (18446744073709551616 : Nat) = 2 ^ 64 := by decide
  exact wrap_u (by rw [e] at ha hb ⊢; exact Nat.xor_lt_two_pow ha hb)
end Go.Proofs.YtcophfhnhlaonaaGreatDoor
namespace Go.Proofs.YtcophfhnhlaonaaGreatDoor
set_option linter.unusedVariables false
open Go.RowKit Go.Maps

/-- What is no row of bytes, and not of the sum, stays. -/
def KeepS (sb mb : Nat) (w w' : World) : Prop := ∀ (b : Nat) (o : Obj), w.heap[b]? = some o → b ≠ sb → b ≠ mb → (∀ cs : Array Value, o ≠ .cells cs 5 (0, 0)) → w'.heap[b]? = some o
theorem KeepS.refl (sb mb : Nat) (w : World) : KeepS sb mb w w := fun _ _ h _ _ _ => h
theorem KeepS.trans {sb mb : Nat} {u v w : World} (h : KeepS sb mb u v) (k : KeepS sb mb v w) : KeepS sb mb u w := fun b o hb h1 h2 ho => k b o (h b o hb h1 h2 ho) h1 h2 ho
theorem KeepY.keepS {sb mb : Nat} {w w' : World} (h : KeepY w w') : KeepS sb mb w w' := fun b o hb _ _ ho => h b o hb ho
theorem KeepS.of_below {sb mb : Nat} {w w' : World} (hB : Below w.heap.size w w') : KeepS sb mb w w' := (KeepY.of_below hB).keepS
theorem Only.keepS {sb mb : Nat} {w w' : World} (h : Only (fun g => g = sb ∨ g = mb) w w') : KeepS sb mb w w' := fun b o hb h1 h2 _ => (h.block b (Array.getElem?_eq_some_iff.1 hb).1 (by rintro (h | h); exact h1 h; exact h2 h)).trans hb
theorem KeyV.only {B : Nat} {S : Nat → Prop} {w w' : World} {v : Value} {bs : List UInt8} (h : KeyV B w v bs) (hO : Only S w w') (hg : ∀ g, v.ownBlock = some g → ¬ S g) : KeyV B w' v bs := by
  obtain ⟨A, n, c, rfl, hl, hown⟩ := h
  refine ⟨A, n, c, rfl, hl, hown.1, ?_⟩
  rcases hown.2 with h0 | ⟨g, cap, cur, h1, h2, h3, h4⟩
  · exact .inl h0
  · refine .inr ⟨g, cap, cur, h1, h2, (hO.block g (Array.getElem?_eq_some_iff.1 h3).1 (hg g ?_)).trans h3, h4⟩
    rw [h1]; rfl
theorem KeyV.ne {B g sb : Nat} {w : World} {v : Value} {bs : List UInt8} {cs : Array Value} {T : TypeId} {fr : Nat × Nat} (h : KeyV B w v bs) (hs : w.heap[sb]? = some (.cells cs T fr)) (hT : T ≠ 5) (hg : v.ownBlock = some g) : g ≠ sb := by
  rintro rfl
  obtain ⟨A, n, c, rfl, hl, hown⟩ := h
  rcases hown.2 with ⟨h1, _⟩ | ⟨g', cap, cur, h1, _, h3, _⟩
  · rw [h1] at hg; simp [Value.ownBlock] at hg
  · rw [h1] at hg
    simp [Value.ownBlock] at hg
    subst hg
    rw [h3] at hs
    cases hs
    exact hT rfl
theorem conv_nil (w : World) : (convert 150 9 (.slice none 0 0)).run Tryz.prog w = .ok (.string ⟨#[]⟩) w := by kernel_rfl
theorem KeyV.conv {B : Nat} {w : World} {A : Option Addr} {n c : Nat} {bs : List UInt8} (h : KeyV B w (.slice A n c) bs) :
    (convert 150 9 (.slice A n c)).run Tryz.prog w = .ok (.string ⟨bs.toArray⟩) w := by
  obtain ⟨A', n', c', e, hl, hown⟩ := h
  cases e
  rcases hown.2 with ⟨h1, h0⟩ | ⟨g, cap, cur, h1, h2, h3, h4, h5, h6, h7⟩
  · cases h1
    have : bs = [] := List.length_eq_zero_iff.1 hl
    subst this
    exact conv_nil w
  · cases h1
    subst hl
    exact run_convert_bytes_back (P := Tryz.prog) w 150 9 5 ⟨g, 0, none⟩ c bs Tryz.underlying150 Tryz.underlying5 Tryz.underlying9 (fun j hj => by
      have ea : Addr.add ⟨g, 0, none⟩ j = ⟨g, j, none⟩ := by
        by_cases h0 : j = 0 <;> simp [Addr.add, h0]
      rw [ea]
      have h8 := congrArg (fun l => l[j]?) h7
      simp only [List.getElem?_take, Nat.mul_one, hj, if_true, Lib.byteCells, List.getElem?_map, List.getElem?_eq_getElem hj, Option.map_some] at h8
      simp [World.cell?, h3]
      rw [← Array.getElem?_toList, h8])

theorem mulN_one {P M q c : Nat} (hf : Fld P M q) (hc : c < q) : mulN P M c 1 = c := by
  have h := hf.fl.toRng
  rw [h.comm hc h.two, h.one hc]
end Go.Proofs.YtcophfhnhlaonaaGreatDoor
namespace Go.Proofs.YtcophfhnhlaonaaGreatDoor
set_option linter.unusedVariables false
open Go.RowKit Go.Maps Go.Sort Go.Shelf

theorem wrap_i {x : Nat} (h : x < 9223372036854775808) : IntKind.i64.wrap (x : Int) = (x : Int) := IntWalk.i64_in _ (by omega)
theorem wrap_i0 {x : Nat} (h : x < 18446744073709551616) : (IntKind.i64.wrap (x : Int) == 0) = decide (x = 0) := by
  by_cases h0 : x < 9223372036854775808
  · rw [wrap_i h0, Bool.eq_iff_iff]
    simp
  · have h1 : x ≠ 0 := by omega
    rw [decide_eq_false h1]
    simp [IntKind.wrap, IntKind.signed, IntKind.bits]
    omega
end Go.Proofs.YtcophfhnhlaonaaGreatDoor
namespace Go.Proofs.YtcophfhnhlaonaaGreatDoor
set_option linter.unusedVariables false
open Go.RowKit Go.Maps

/-- A block of integers. -/
def intsO (l : List Int) : Obj := .cells (l.map (Value.int .i64)).toArray 3 (0, 0)
theorem Tryz.info3 : (Tryz.prog.info? 3).map (fun i => (i.zero, i.size, i.bytes)) = some (some (.int .i64 0), 1, 8) := by kernel_rfl
theorem make_ints (n : Nat) (hn : n ≤ 1048576) : ∀ w : World, (Instr.makeSlice 76 (.int .i64 (n : Int)) (.int .i64 (n : Int))).run Tryz.prog w = .ok (.slice (some ⟨w.heap.size, 0, none⟩) n n) (w.alloc (intsO (List.replicate n 0))) := by
  intro w
  obtain ⟨i0, hi, hz0, hz1, hz2⟩ := info_parts Tryz.info3
  have h := run_make (P := Tryz.prog) w 76 3 i0 (.int .i64 0) Tryz.underlying76 hi hz0 .i64 .i64 (n : Int) (n : Int) (by omega) (by omega) (by rw [hz2]; omega) (by omega)
  rw [h, Int.toNat_natCast, hz1]
  have e2 : madeCells (Value.int .i64 0).cells (n * 1) = ((List.replicate n (0 : Int)).map (Value.int .i64)).toArray := by
    apply Array.toList_inj.1
    rw [zeros_of _ rfl]
    simp
  rw [e2]
  rfl
theorem ints_cell {w : World} {g j : Nat} {l : List Int} {x : Int} (h : w.heap[g]? = some (intsO l)) (hx : l[j]? = some x) : w.cell? ⟨g, j, none⟩ = some (.int .i64 x) ∧ w.frozen? ⟨g, j, none⟩ = false := by
  constructor
  · simp [World.cell?, h, intsO, hx]
  · simp [World.frozen?, h, intsO]
theorem ints_set {w : World} {g j : Nat} {l : List Int} (x : Int) (h : w.heap[g]? = some (intsO l)) : (w.setCell ⟨g, j, none⟩ (.int .i64 x)).heap[g]? = some (intsO (l.set j x)) := by
  have := heap_setCell_same w g j (l.map (Value.int .i64)).toArray 3 (.int .i64 x) h
  rw [this]
  simp [intsO, List.map_set]
theorem ints_read {w : World} {g : Nat} {l : List Int} (h : w.heap[g]? = some (intsO l)) : RdI w (some ⟨g, 0, none⟩) l := fun k x hk => by
  refine ⟨_, rfl, ?_⟩
  have ea : Addr.add ⟨g, 0, none⟩ k = ⟨g, k, none⟩ := by
    by_cases h0 : k = 0 <;> simp [Addr.add, h0]
  rw [ea]
  exact (ints_cell h hk).1

def intPart (e : List Nat) (n k : Nat) : List Int := nz (e.take k) ++ List.replicate (n - k) 0
theorem intPart_zero (e : List Nat) (n : Nat) : intPart e n 0 = List.replicate n 0 := by simp [intPart, nz]
theorem intPart_full {e : List Nat} {n : Nat} (h : e.length = n) : intPart e n n = nz e := by
  unfold intPart
  rw [List.take_of_length_le (by omega)]
  simp
theorem intPart_at {e : List Nat} {n k : Nat} (h : e.length = n) (hk : k < n) : (intPart e n k)[k]? = some 0 := by
  unfold intPart
  have h1 : (nz (e.take k)).length = k := by simp [nz_length]; omega
  rw [List.getElem?_append_right (by omega), h1, Nat.sub_self]
  rw [List.getElem?_replicate]
  simp; omega
theorem intPart_succ {e : List Nat} {n k x : Nat} (h : e.length = n) (hk : k < n) (hx : e[k]? = some x) : (intPart e n k).set k (x : Int) = intPart e n (k + 1) := by
  unfold intPart
  have h1 : (nz (e.take k)).length = k := by simp [nz_length]; omega
  rw [List.set_append_right _ _ (by omega), h1, List.take_add_one, hx]
  obtain ⟨m, hm⟩ : ∃ m, n - k = m + 1 := ⟨n - k - 1, by omega⟩
  rw [hm, show n - (k + 1) = m by omega, List.replicate_succ]
  simp [nz]

theorem keyB_at : ∀ (e : List Nat) (k x : Nat), e[k]? = some x → (keyB e)[2 * k]? = some (UInt8.ofNat (x / 256)) ∧ (keyB e)[2 * k + 1]? = some (UInt8.ofNat x)
  | [], k, x, h => by simp at h
  | y :: e, 0, x, h => by
    simp at h
    subst h
    simp [keyB]
  | y :: e, k + 1, x, h => by
    have := keyB_at e k x (by simpa using h)
    rw [show 2 * (k + 1) = (2 * k + 1) + 1 by omega]
    simpa [keyB] using this

theorem or_nat (a b : Nat) (ha : a < 9223372036854775808) (hb : b < 9223372036854775808) : bits .or .i64 (a : Int) (b : Int) = ((a ||| b : Nat) : Int) := by
  show IntKind.i64.wrap ((BitVec.ofInt 64 (a : Int) ||| BitVec.ofInt 64 (b : Int)).toNat : Int) = _
  rw [BitVec.toNat_or, ofInt_u64 a (by omega), ofInt_u64 b (by omega)]
  have e : (9223372036854775808 : Nat) = 2 ^ 63 := by decide
  exact Lib.wrap_i64_small _ (by rw [e] at ha hb ⊢; exact Nat.or_lt_two_pow ha hb)
theorem two_bytes {x : Nat} (h : x ≤ 65535) : bits .or .i64 ((x : Int) / 256 % 256 * 256) ((x : Int) % 256) = (x : Int) := by
  have e1 : ((x : Int) / 256 % 256 * 256) = ((x / 256 * 256 : Nat) : Int) := by omega
  have e2 : ((x : Int) % 256) = ((x % 256 : Nat) : Int) := by omega
  rw [e1, e2, or_nat _ _ (by omega) (by omega)]
  have h2 := Nat.two_pow_add_eq_or_of_lt (i := 8) (b := x % 256) (by omega) (x / 256)
  have e3 : x / 256 * 256 = 2 ^ 8 * (x / 256) := by omega
  rw [e3, ← h2]
  omega

end Go.Proofs.YtcophfhnhlaonaaGreatDoor
namespace Go.Proofs.YtcophfhnhlaonaaGreatDoor
set_option linter.unusedVariables false
open Go.RowKit Go.Maps Go.Sort Go.Shelf

/-- The terms that have been made, each with the block of its exponents. -/
def flatT (n : Nat) (out : List (Tm × Nat)) : List Value := out.flatMap fun x => [.int .i64 (x.1.1 : Int), .slice (some ⟨x.2, 0, none⟩) n n]
theorem flatT_length (n : Nat) (out : List (Tm × Nat)) : (flatT n out).length = out.length * 2 := by
  induction out with
  | nil => rfl
  | cons x l ih => simp [flatT] at ih ⊢; omega
theorem flatT_at (n : Nat) : ∀ (out : List (Tm × Nat)) (k : Nat) (x : Tm × Nat), out[k]? = some x → (flatT n out)[k * 2]? = some (.int .i64 (x.1.1 : Int)) ∧ (flatT n out)[k * 2 + 1]? = some (.slice (some ⟨x.2, 0, none⟩) n n)
  | [], k, x, h => by simp at h
  | y :: l, 0, x, h => by
    simp at h
    subst h
    simp [flatT]
  | y :: l, k + 1, x, h => by
    have := flatT_at n l k x (by simpa using h)
    rw [show (k + 1) * 2 = k * 2 + 1 + 1 by omega]
    simpa [flatT] using this
theorem tms_at {p : List Tm} {k : Nat} {t : Int × List Int} (h : (p.map (fun t => ((t.1 : Int), nz t.2)))[k]? = some t) : ∃ s, p[k]? = some s ∧ t = ((s.1 : Int), nz s.2) := by
  rw [List.getElem?_map] at h
  obtain ⟨s, h1, h2⟩ := Option.map_eq_some_iff.1 h
  exact ⟨s, h1, h2.symm⟩
abbrev tms (p : List Tm) : List (Int × List Int) := p.map (fun t => ((t.1 : Int), nz t.2))
theorem ownsRow_below {w w' : World} {base : Nat} {e : TypeId} {size : Nat} {v : Value} {n : Nat} {xs : List Value} (h : w.ownsRow base e size v n xs) (hB : Below w.heap.size w w') : w'.ownsRow base e size v n xs :=
  h.kept (row := none) ⟨hB.os, hB.tape, hB.output, hB.size, fun k hk _ => hB.block k hk⟩ (by cases v.ownBlock with | none => exact .inl rfl | some k => exact .inr (by simp))
end Go.Proofs.YtcophfhnhlaonaaGreatDoor
namespace Go.Proofs.YtcophfhnhlaonaaGreatDoor
set_option linter.unusedVariables false
open Go.RowKit Go.Maps Go.Sort Go.Shelf

theorem Tells.size_le {n : Nat} {st : Nat → Nat} {add : Nat → Nat → Nat} {ts : List Tm} {D : DataW Unit} (h : Tells n st add ts D) : Maps.size D ≤ ts.length := by
  obtain ⟨_, _, _, h3, _⟩ := h
  exact h3
theorem stN_zero (P M : Nat) : stN P M 0 = 0 := by
  unfold stN
  split <;> simp

/-- What poly hands back of a sum of the terms ts. -/
def PolyIs (q n : Nat) (add : Nat → Nat → Nat) (ts : List Tm) (mb : Nat) (w : World) (r : Ending) (w' : World) : Prop :=
  Only (fun g => g = mb) w w' ∧ ∃ p : List Tm, Ris q n p ∧ (∀ e, cfs add p e = cfs add ts e) ∧ (∀ t ∈ p, Ex n t.2) ∧ p.length ≤ ts.length ∧
    ((p.length ≤ 20000 ∧ ∃ A c, r = .returned (.tuple #[.slice A p.length c, .bool true]) ∧ RdP w' A (tms p)) ∨ (20000 < p.length ∧ r = .returned (.tuple #[.slice none 0 0, .bool false])))

theorem two_new (w : World) (a b : Value) (t : TypeId) : ∀ j u, [a, b][j]? = some u → (w.alloc (.cells #[a, b] t)).cell? (Addr.add ⟨w.heap.size, 0, none⟩ j) = some u := by
  intro j u h
  match j, h with
  | 0, h => simp at h; subst h; simp [Addr.add]
  | 1, h => simp at h; subst h; simp [Addr.add]
  | j + 2, h => simp at h
theorem two_one (a : Int) (b : Option Addr) (n c : Nat) : ∀ u ∈ [Value.int .i64 a, Value.slice b n c], u.oneCell' = true := by
  intro u h
  simp at h
  rcases h with rfl | rfl <;> rfl
end Go.Proofs.YtcophfhnhlaonaaGreatDoor
