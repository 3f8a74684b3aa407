/-
  Contract of poly of package poly: a sum as a polynomial.
-/
import Derived.Test.YtiiopdomlepkmaaDoorPqi
namespace Go.Proofs.YtiiopdomlepkmaaDoor
set_option linter.unusedVariables false
open Go.RowKit Go.Maps Go.Sort Go.Shelf

theorem sorts_in (m : Nat) : AnyZ.SortsIn Tryd.prog Tryd.sortedZ_ren Fence.wide m :=
  ⟨fun blk off cap ss W hH hblk hsz => callsIn_wide.2 (AnyM.slices_Sort_string Tryd.sortZ blk off cap ss W hH hblk hsz),
   fun p cap W => callsIn_wide.2 (AnyM.slices_Sort_string_none Tryd.sortZ p cap W)⟩
theorem keys_call (mb : Option Nat) (W : World) : Calls Tryd.prog 60 #[.map mb] W fun e w' => e = .returned (.func (.func 83) #[] #[.pointer (some ⟨W.heap.size, 0, none⟩)]) ∧ w' = W.alloc (.cells #[.map mb] 90) :=
  callsIn_wide.1 (AnyZ.keys_in Tryd.keysZ Fence.wide 5 trivial rfl mb W)
set_option maxHeartbeats 1000000 in
theorem sorted_call (b nn : Nat) (D0 : DataW Unit) (R : Value → Option (DataW Unit × List MemPlace)) (w : World) (hown : w.ownsMap Tryd.prog 9 R b nn D0) (hmax : Maps.size D0 ≤ maxLen) (hbytes : Maps.size D0 * 16 ≤ 140737488355328) :
    Calls Tryd.prog 59 #[.func (.func 83) #[] #[.pointer (some ⟨w.heap.size, 0, none⟩)]] (w.alloc (.cells #[.map (some b)] 90)) fun e w' => ∃ (v : Value) (ss : List (List UInt8)), e = .returned v ∧ ss.Perm (strKeys D0) ∧
      w'.ownsRow (w.alloc (.cells #[.map (some b)] 90)).heap.size 9 1 v ss.length ((ss.mergeSort (fun x y => decide (x ≤ y))).map encStr) ∧ (v = .slice none 0 0 ↔ ss = []) ∧ Below (w.alloc (.cells #[.map (some b)] 90)).heap.size (w.alloc (.cells #[.map (some b)] 90)) w' := by
  have hbl := hown.lt
  have hseq : SeqGives Fence.wide 2 Tryd.prog 83 #[.pointer (some ⟨w.heap.size, 0, none⟩)] encStr (fun ss => ss.Perm (strKeys D0)) (Maps.size D0) (w.alloc (.cells #[.map (some b)] 90)) :=
    AnyZ.keys_gives (ρ := Tryd.keysZ_ren) { Tryd.keysZ with } Fence.wide _ trivial rfl (by omega) w.heap.size b nn D0 _ (by simp) (by simp) (by
      obtain ⟨es, clock, hb, Ft, hs, hD⟩ := hown
      exact ⟨es, clock, (Below.heap_alloc _ _ b hbl).trans hb, Ft, hs, hD⟩)
  exact callsIn_wide.1 (AnyZ.sorted_in Tryd.sortedZ Fence.wide 5 trivial trivial trivial trivial rfl (by omega) (sorts_in _) (enters_of Tryd.func82 (by kernel_rfl) rfl) 83 #[.pointer (some ⟨w.heap.size, 0, none⟩)] trivial (enters_of Tryd.func83 (by kernel_rfl) rfl) _ _ hmax hbytes _ hseq)

theorem Tryd.infoT : (Tryd.prog.info? 65).map (fun i => (i.zero, i.size, i.bytes)) = some (some (.agg #[.int .i64 0, .slice none 0 0]), 2, 32) := by kernel_rfl

/-- The terms that have been made, each with the block of its exponents. -/
def flatT (n : Nat) (out : List (Tm × Nat)) : List Value := out.flatMap fun x => [.int .i64 (x.1.1 : Int), .slice (some ⟨x.2, 0, none⟩) n n]
theorem flatT_length (n : Nat) (out : List (Tm × Nat)) : (flatT n out).length = out.length * 2 := by
  induction out with
  | nil => rfl
  | cons x l ih => simp [flatT] at ih ⊢; omega
theorem flatT_at (n : Nat) : ∀ (out : List (Tm × Nat)) (k : Nat) (x : Tm × Nat), out[k]? = some x → (flatT n out)[k * 2]? = some (.int .i64 (x.1.1 : Int)) ∧ (flatT n out)[k * 2 + 1]? = some (.slice (some ⟨x.2, 0, none⟩) n n)
  | [], k, x, h => by simp at h
  | y :: l, 0, x, h => by
    simp at h
    subst h
    simp [flatT]
  | y :: l, k + 1, x, h => by
    have := flatT_at n l k x (by simpa using h)
    rw [show (k + 1) * 2 = k * 2 + 1 + 1 by omega]
    simpa [flatT] using this
structure OutS (B n : Nat) (v : Value) (out : List (Tm × Nat)) (w : World) : Prop where
  row : w.ownsRow B 65 2 v out.length (flatT n out)
  els : ∀ x ∈ out, B ≤ x.2 ∧ x.1.2.length = n ∧ w.heap[x.2]? = some (intsO (nz x.1.2))
theorem tms_at {p : List Tm} {k : Nat} {t : Int × List Int} (h : (p.map (fun t => ((t.1 : Int), nz t.2)))[k]? = some t) : ∃ s, p[k]? = some s ∧ t = ((s.1 : Int), nz s.2) := by
  rw [List.getElem?_map] at h
  obtain ⟨s, h1, h2⟩ := Option.map_eq_some_iff.1 h
  exact ⟨s, h1, h2.symm⟩
abbrev tms (p : List Tm) : List (Int × List Int) := p.map (fun t => ((t.1 : Int), nz t.2))
/-- A list of terms as the program hands it back. -/
theorem OutS.reads {B n : Nat} {v : Value} {out : List (Tm × Nat)} {w : World} (h : OutS B n v out w) (hn : n ≤ 80) : ∃ A c, v = .slice A out.length c ∧ RdP w A (tms (out.map Prod.fst)) := by
  rcases h.row.2 with ⟨rfl, h0⟩ | ⟨g, cap, cur, rfl, _⟩
  · have : out = [] := List.length_eq_zero_iff.1 (by simpa using h0)
    subst this
    exact ⟨none, 0, rfl, fun k t hk => by simp at hk⟩
  · refine ⟨_, cap, rfl, fun k t hk => ?_⟩
    obtain ⟨s, hs, rfl⟩ := tms_at hk
    rw [List.getElem?_map] at hs
    obtain ⟨x, hx, rfl⟩ := Option.map_eq_some_iff.1 hs
    obtain ⟨h1, h2⟩ := flatT_at n out k x hx
    have hkl : k < out.length := (List.getElem?_eq_some_iff.1 hx).1
    obtain ⟨_, h3, h4⟩ := h.els x (List.mem_of_getElem? hx)
    refine ⟨g, 0, .slice (some ⟨x.2, 0, none⟩) n n, rfl, ?_, ?_, ?_⟩
    · have := h.row.cellAt (k * 2) (by omega)
      rw [Nat.zero_add, this, h1]
    · have := h.row.cellAt (k * 2 + 1) (by omega)
      rw [Nat.zero_add, this, h2]
    · exact ⟨some ⟨x.2, 0, none⟩, n, by rw [nz_length, h3], ints_read h4, by rw [nz_length]; omega⟩

theorem make_terms (m : Nat) (hm : m ≤ 20000) : ∃ cs : Array Value, cs.size = m * 2 ∧ ∀ w : World, (Instr.makeSlice 25 (.int .i64 0) (.int .i64 (m : Int))).run Tryd.prog w = .ok (.slice (some ⟨w.heap.size, 0, none⟩) 0 m) (w.alloc (.cells cs 65)) := by
  obtain ⟨i0, hi, hz0, hz1, hz2⟩ := info_parts Tryd.infoT
  refine ⟨_, size_madeCells (Value.agg #[.int .i64 0, .slice none 0 0]).cells (m * 2), fun w => ?_⟩
  have h := run_make (P := Tryd.prog) w 25 65 i0 (.agg #[.int .i64 0, .slice none 0 0]) Tryd.underlying25 hi hz0 .i64 .i64 0 (m : Int) (by omega) (by omega) (by rw [hz2]; omega) (by omega)
  rw [h, Int.toNat_natCast, hz1]
  rfl
theorem OutS.start (B n m : Nat) (cs : Array Value) (hcs : cs.size = m * 2) (hm : m ≤ 20000) (w : World) (h : w.heap[B]? = some (.cells cs 65 (0, 0))) : OutS B n (.slice (some ⟨B, 0, none⟩) 0 m) [] w :=
  ⟨⟨rfl, .inr ⟨B, m, cs, rfl, Nat.le_refl _, h, Nat.zero_le _, by unfold maxLen; omega, hcs, by simp [flatT]⟩⟩, by simp⟩
theorem ownsRow_below {w w' : World} {base : Nat} {e : TypeId} {size : Nat} {v : Value} {n : Nat} {xs : List Value} (h : w.ownsRow base e size v n xs) (hB : Below w.heap.size w w') : w'.ownsRow base e size v n xs :=
  h.kept (row := none) ⟨hB.os, hB.tape, hB.output, hB.size, fun k hk _ => hB.block k hk⟩ (by cases v.ownBlock with | none => exact .inl rfl | some k => exact .inr (by simp))
/-- What is no row of terms stays. -/
def KeepT (w w' : World) : Prop := ∀ (b : Nat) (o : Obj), w.heap[b]? = some o → (∀ cs : Array Value, o ≠ .cells cs 65 (0, 0)) → w'.heap[b]? = some o
theorem KeepT.refl (w : World) : KeepT w w := fun _ _ h _ => h
theorem KeepT.trans {a b c : World} (h : KeepT a b) (k : KeepT b c) : KeepT a c := fun x o ho hn => k x o (h x o ho hn) hn
theorem KeepT.of_below {w w' : World} (h : Below w.heap.size w w') : KeepT w w' := fun b o ho _ => (h.block b (Array.getElem?_eq_some_iff.1 ho).1).trans ho
theorem KeepT.grown {w w' : World} {B n : Nat} {v : Value} {xs : List Value} (h : w.ownsRow B 65 2 v n xs) (hg : w.grownBy w' v.ownBlock) : KeepT w w' := fun b o ho hn => by
  rw [hg.block b (Array.getElem?_eq_some_iff.1 ho).1 (fun e => ?_)]
  · exact ho
  · rcases h.2 with ⟨rfl, _⟩ | ⟨g, cap, cur, rfl, _, hgb, _⟩
    · simp [Value.ownBlock] at e
    · simp [Value.ownBlock] at e
      subst e
      rw [hgb] at ho
      cases ho
      exact hn _ rfl
theorem OutS.push {B n : Nat} {v v' : Value} {out : List (Tm × Nat)} {w w1 w2 : World} (h : OutS B n v out w) (hB : Below w.heap.size w w1) (t : Tm) (ht : t.2.length = n) (g : Nat) (hg : B ≤ g) (hgb : w1.heap[g]? = some (intsO (nz t.2))) (tmp : Obj)
    (hown : w2.ownsRow B 65 2 v' (out.length + 1) (flatT n out ++ [.int .i64 (t.1 : Int), .slice (some ⟨g, 0, none⟩) n n])) (hgrow : (w1.alloc tmp).grownBy w2 v.ownBlock) :
    OutS B n v' (out ++ [(t, g)]) w2 ∧ KeepT w w2 := by
  have hr := (ownsRow_below h.row hB).alloc tmp
  have hk : KeepT w1 w2 := (KeepT.of_below ((Below.refl _ w1).alloc (Nat.le_refl _) tmp)).trans (KeepT.grown hr hgrow)
  have hk0 := (KeepT.of_below hB).trans hk
  refine ⟨⟨by simpa [flatT] using hown, fun x hx => ?_⟩, hk0⟩
  simp at hx
  rcases hx with hx | rfl
  · obtain ⟨a, b, c⟩ := h.els x hx
    exact ⟨a, b, hk0 _ _ c (fun cs e => by simp [intsO] at e)⟩
  · exact ⟨hg, ht, hk _ _ hgb (fun cs e => by simp [intsO] at e)⟩

end Go.Proofs.YtiiopdomlepkmaaDoor
