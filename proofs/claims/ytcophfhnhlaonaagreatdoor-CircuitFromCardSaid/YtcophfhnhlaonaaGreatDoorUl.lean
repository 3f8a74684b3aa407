/-
  Joined from Fma, Fmb, Fmc, Fmd, Fme: see there.
-/
import Derived.Test.YtcophfhnhlaonaaGreatDoorOn
import Derived.Lib.AtoiAll
import Derived.Lib.SlTrimSet
import Derived.Lib.ItoaLen
import Derived.Test.YtcophfhnhlaonaaGreatDoorLq
import Derived.Test.YtcophfhnhlaonaaGreatDoorUb
import Derived.Test.YtcophfhnhlaonaaGreatDoorUg
import Derived.WalkLawsBesides
import Derived.Laws.EntriesVeiled
import Derived.Test.YtcophfhnhlaonaaGreatDoorLp
import Derived.Test.YtcophfhnhlaonaaGreatDoorUj
import Derived.BigQuiet
namespace Go.Proofs.YtcophfhnhlaonaaGreatDoor
set_option linter.unusedVariables false
open Go.RowKit

/-- What nodes of one kind have in common. -/
structure Sh where
  op : List UInt8
  num : Nat
  kids : Nat
  dep : Nat
def fSh : List Sh := [⟨[120], 16, 0, 0⟩, ⟨[], 2, 0, 0⟩, ⟨[110, 111, 116, 40], 1, 1, 0⟩, ⟨[97, 110, 100, 40], 1, 2, 1⟩, ⟨[111, 114, 40], 1, 2, 1⟩, ⟨[120, 111, 114, 40], 1, 2, 2⟩]
def eSh (q : Nat) : List Sh := [⟨[120], 16, 0, 0⟩, ⟨[], q, 0, 0⟩, ⟨[97, 100, 100, 40], 1, 2, 1⟩, ⟨[109, 117, 108, 40], 1, 2, 1⟩]

inductive Tre where
  | mk (kind n : Int) (kids : List Tre)

mutual
def TreV (B : Nat) (w : World) : Tre → Value → Prop
  | .mk k n ts, v => ∃ A c, v = .agg #[.int .i64 k, .int .i64 n, .slice A ts.length c] ∧ RowV B w ts A 0
def RowV (B : Nat) (w : World) : List Tre → Option Addr → Nat → Prop
  | [], _, _ => True
  | t :: ts, A, i => (∃ b off x y z, A = some ⟨b, off, none⟩ ∧ B ≤ b ∧ w.cell? ⟨b, off + i * 3, none⟩ = some x ∧ w.cell? ⟨b, off + i * 3 + 1, none⟩ = some y ∧ w.cell? ⟨b, off + i * 3 + 2, none⟩ = some z ∧ TreV B w t (.agg #[x, y, z])) ∧ RowV B w ts A (i + 1)
end
/-- The blocks from B on stand. -/
def KeepB (B : Nat) (w w' : World) : Prop := ∀ b, B ≤ b → b < w.heap.size → w'.heap[b]? = w.heap[b]?
theorem KeepB.cell {B : Nat} {w w' : World} (h : KeepB B w w') {p : Addr} {x : Value} (hb : B ≤ p.block) (hc : w.cell? p = some x) : w'.cell? p = some x :=
  (World.cell?_of_block (h _ hb (World.block_lt_of_cell? w p hc))).trans hc
theorem KeepB.of_below {w w' : World} (B : Nat) (h : Below w.heap.size w w') : KeepB B w w' := fun b _ hb => h.block b hb
theorem KeepB.of_only {S : Nat → Prop} {w w' : World} {B : Nat} (h : Only S w w') (hs : ∀ k, S k → k < B) : KeepB B w w' := fun b hb hl => h.block b hl (fun e => by have := hs b e; omega)
theorem KeepB.trans {B : Nat} {u v w : World} (h : KeepB B u v) (hsz : u.heap.size ≤ v.heap.size) (k : KeepB B v w) : KeepB B u w := fun b hb hl => (k b hb (by omega)).trans (h b hb hl)
mutual
theorem TreV.keep {B : Nat} {w w' : World} (hk : KeepB B w w') : ∀ {t : Tre} {v : Value}, TreV B w t v → TreV B w' t v
  | .mk k n ts, v, h => by
    unfold TreV at h ⊢
    obtain ⟨A, c, e, h⟩ := h
    exact ⟨A, c, e, RowV.keep hk h⟩
theorem RowV.keep {B : Nat} {w w' : World} (hk : KeepB B w w') : ∀ {ts : List Tre} {A : Option Addr} {i : Nat}, RowV B w ts A i → RowV B w' ts A i
  | [], _, _, _ => by unfold RowV; trivial
  | t :: ts, A, i, h => by
    unfold RowV at h ⊢
    obtain ⟨⟨b, off, x, y, z, e, hb, c0, c1, c2, ht⟩, hr⟩ := h
    exact ⟨⟨b, off, x, y, z, e, hb, hk.cell hb c0, hk.cell hb c1, hk.cell hb c2, TreV.keep hk ht⟩, RowV.keep hk hr⟩
end
mutual
theorem TreV.mono {B B' : Nat} {w : World} (hb : B' ≤ B) : ∀ {t : Tre} {v : Value}, TreV B w t v → TreV B' w t v
  | .mk k n ts, v, h => by
    unfold TreV at h ⊢
    obtain ⟨A, c, e, h⟩ := h
    exact ⟨A, c, e, RowV.mono hb h⟩
theorem RowV.mono {B B' : Nat} {w : World} (hb : B' ≤ B) : ∀ {ts : List Tre} {A : Option Addr} {i : Nat}, RowV B w ts A i → RowV B' w ts A i
  | [], _, _, _ => by unfold RowV; trivial
  | t :: ts, A, i, h => by
    unfold RowV at h ⊢
    obtain ⟨⟨b, off, x, y, z, e, hb', c0, c1, c2, ht⟩, hr⟩ := h
    exact ⟨⟨b, off, x, y, z, e, Nat.le_trans hb hb', c0, c1, c2, TreV.mono hb ht⟩, RowV.mono hb hr⟩
end
theorem RowV.at {B : Nat} {w : World} : ∀ {ts : List Tre} {A : Option Addr} {i j : Nat} {t : Tre}, RowV B w ts A i → ts[j]? = some t →
    ∃ b off x y z, A = some ⟨b, off, none⟩ ∧ B ≤ b ∧ w.cell? ⟨b, off + (i + j) * 3, none⟩ = some x ∧ w.cell? ⟨b, off + (i + j) * 3 + 1, none⟩ = some y ∧ w.cell? ⟨b, off + (i + j) * 3 + 2, none⟩ = some z ∧ TreV B w t (.agg #[x, y, z])
  | [], _, _, _, _, _, hj => by simp at hj
  | t :: ts, A, i, 0, u, h, hj => by
    unfold RowV at h
    simp at hj
    subst hj
    exact h.1
  | t :: ts, A, i, j + 1, u, h, hj => by
    unfold RowV at h
    have := RowV.at h.2 (j := j) (by simpa using hj)
    rw [show i + 1 + j = i + (j + 1) by omega] at this
    exact this
theorem RowV.of {B : Nat} {w : World} {A : Option Addr} : ∀ {ts : List Tre} {i : Nat}, (∀ (j : Nat) (t : Tre), ts[j]? = some t →
    ∃ b off x y z, A = some ⟨b, off, none⟩ ∧ B ≤ b ∧ w.cell? ⟨b, off + (i + j) * 3, none⟩ = some x ∧ w.cell? ⟨b, off + (i + j) * 3 + 1, none⟩ = some y ∧ w.cell? ⟨b, off + (i + j) * 3 + 2, none⟩ = some z ∧ TreV B w t (.agg #[x, y, z])) → RowV B w ts A i
  | [], _, _ => by unfold RowV; trivial
  | t :: ts, i, h => by
    unfold RowV
    refine ⟨h 0 t rfl, RowV.of fun j u hj => ?_⟩
    have := h (j + 1) u (by simpa using hj)
    rw [show i + (j + 1) = i + 1 + j by omega] at this
    exact this

/-- The kind that a text begins with: what the loop over the first k shapes has found. -/
def opAt (sh : List Sh) (c : Nat) : List UInt8 := (sh[c]?.map Sh.op).getD []
def kindN (sh : List Sh) (l : List UInt8) : Nat → Nat
  | 0 => 1
  | k + 1 => if Lib.hasPrefix l (opAt sh k) ∧ (opAt sh (kindN sh l k)).length < (opAt sh k).length then k else kindN sh l k
theorem kindN_lt (sh : List Sh) (l : List UInt8) : ∀ k, k ≤ sh.length → 2 ≤ sh.length → kindN sh l k < sh.length
  | 0, _, h => by unfold kindN; omega
  | k + 1, hk, h => by
    unfold kindN
    split
    · omega
    · exact kindN_lt sh l k (by omega) h
def stripP (p l : List UInt8) : Option (List UInt8) := if Lib.hasPrefix l p then some (Lib.trimPrefix l p) else none
def digs : List UInt8 := [48, 49, 50, 51, 52, 53, 54, 55, 56, 57]
def digsOf (l : List UInt8) : List UInt8 := l.take (l.length - (Lib.trimLeftS l digs).length)
def numN (lim : Nat) (l : List UInt8) : Option (Int × List UInt8) :=
  match Lib.atoiAll (digsOf l) with
  | .ok v => if v < (lim : Int) ∧ Lib.itoa v = digsOf l then some (v, Lib.trimLeftS l digs) else none
  | _ => none
def pKids (f : List UInt8 → Option (Tre × List UInt8)) : Nat → List UInt8 → Option (List Tre × List UInt8)
  | 0, l => some ([], l)
  | i + 1, l =>
    match pKids f i l with
    | none => none
    | some (ts, l1) =>
      match (if i = 0 then some l1 else stripP [44, 32] l1) with
      | none => none
      | some l2 =>
        match f l2 with
        | none => none
        | some (t, l3) => some (ts ++ [t], l3)
def pNode (sh : List Sh) : Nat → List UInt8 → Option (Tre × List UInt8)
  | 0, _ => none
  | m + 1, l =>
    match sh[kindN sh l sh.length]? with
    | none => none
    | some s =>
      match stripP s.op l with
      | none => none
      | some l1 =>
        if s.kids = 0 then
          match numN s.num l1 with
          | none => none
          | some (n, l2) => some (.mk (kindN sh l sh.length : Nat) n [], l2)
        else
          match pKids (pNode sh m) s.kids l1 with
          | none => none
          | some (ts, l2) =>
            match stripP [41] l2 with
            | none => none
            | some l3 => some (.mk (kindN sh l sh.length : Nat) 0 ts, l3)
def pAll (sh : List Sh) (l : List UInt8) : Option Tre :=
  if 40000 < l.length then none
  else match pNode sh 1000 l with
    | some (t, []) => some t
    | _ => none
theorem pKids_length {f : List UInt8 → Option (Tre × List UInt8)} : ∀ {i : Nat} {l l' : List UInt8} {ts : List Tre}, pKids f i l = some (ts, l') → ts.length = i
  | 0, l, l', ts, h => by
    simp [pKids] at h
    rw [h.1]; rfl
  | i + 1, l, l', ts, h => by
    unfold pKids at h
    split at h
    · simp at h
    · rename_i ts1 l1 h1
      split at h
      · simp at h
      · split at h
        · simp at h
        · simp at h
          rw [← h.1]
          simp [pKids_length h1]
end Go.Proofs.YtcophfhnhlaonaaGreatDoor
namespace Go.Proofs.YtcophfhnhlaonaaGreatDoor
set_option linter.unusedVariables false
open Go.RowKit

def bstr (l : List UInt8) : Value := .string ⟨l.toArray⟩
/-- The row of a language's shapes. -/
def ShR (w : World) (g : Nat) (sh : List Sh) : Prop := ∀ (k : Nat) (s : Sh), sh[k]? = some s →
  w.cell? ⟨g, k * 4, none⟩ = some (.string ⟨s.op.toArray⟩) ∧ w.cell? ⟨g, k * 4 + 1, none⟩ = some (.int .i64 (s.num : Int)) ∧ w.cell? ⟨g, k * 4 + 2, none⟩ = some (.int .i64 (s.kids : Int)) ∧ w.cell? ⟨g, k * 4 + 3, none⟩ = some (.int .i64 (s.dep : Int))
theorem ShR.keep {w w' : World} {g B : Nat} {sh : List Sh} (h : ShR w g sh) (hk : KeepB B w w') (hg : B ≤ g) : ShR w' g sh := fun k s hs => by
  obtain ⟨h0, h1, h2, h3⟩ := h k s hs
  exact ⟨hk.cell hg h0, hk.cell hg h1, hk.cell hg h2, hk.cell hg h3⟩
theorem ShR.below {w w' : World} {g : Nat} {sh : List Sh} (h : ShR w g sh) (hB : Below w.heap.size w w') : ShR w' g sh := h.keep (KeepB.of_below 0 hB) (Nat.zero_le _)
def langV (g : Nat) (sh : List Sh) (f j : Nat) : Value := .agg #[.slice (some ⟨g, 0, none⟩) sh.length sh.length, .func (Fn.func f) #[] #[], .func (Fn.func j) #[] #[]]

set_option maxRecDepth 100000 in
set_option maxHeartbeats 1000000 in
theorem formulas_ok (w : World) :
    Calls Tryz.prog 61 #[] w fun e w' => ∃ g, w.heap.size ≤ g ∧ e = .returned (langV g fSh 76 77) ∧ ShR w' g fSh ∧ Below w.heap.size w w' := by
  go_enter Tryz.func61, Tryz.ntmps61
  go_wp2_with fail
  have hbel := below2 w (.cells #[Value.slice (some ⟨w.heap.size + 1, 0, none⟩) 6 6, Value.func (Fn.func 76) #[] #[], Value.func (Fn.func 77) #[] #[]] 98) (.cells (fSh.flatMap fun s => [Value.string ⟨s.op.toArray⟩, .int .i64 (s.num : Int), .int .i64 (s.kids : Int), .int .i64 (s.dep : Int)]).toArray 115)
  have hblk : (w.alloc (.cells #[Value.slice (some ⟨w.heap.size + 1, 0, none⟩) 6 6, Value.func (Fn.func 76) #[] #[], Value.func (Fn.func 77) #[] #[]] 98)).alloc (.cells (fSh.flatMap fun s => [Value.string ⟨s.op.toArray⟩, .int .i64 (s.num : Int), .int .i64 (s.kids : Int), .int .i64 (s.dep : Int)]).toArray 115) = _ := rfl
  have hsh : ShR ((w.alloc (.cells #[Value.slice (some ⟨w.heap.size + 1, 0, none⟩) 6 6, Value.func (Fn.func 76) #[] #[], Value.func (Fn.func 77) #[] #[]] 98)).alloc (.cells (fSh.flatMap fun s => [Value.string ⟨s.op.toArray⟩, .int .i64 (s.num : Int), .int .i64 (s.kids : Int), .int .i64 (s.dep : Int)]).toArray 115)) (w.heap.size + 1) fSh := fun k s hs => by
    have hc := fun j => World.cell?_alloc_new (w.alloc (.cells #[Value.slice (some ⟨w.heap.size + 1, 0, none⟩) 6 6, Value.func (Fn.func 76) #[] #[], Value.func (Fn.func 77) #[] #[]] 98)) (fSh.flatMap fun s => [Value.string ⟨s.op.toArray⟩, .int .i64 (s.num : Int), .int .i64 (s.kids : Int), .int .i64 (s.dep : Int)]).toArray 115 j
    rw [World.size_alloc] at hc
    have hk : k < 6 := (List.getElem?_eq_some_iff.1 hs).1
    rw [hc, hc, hc, hc]
    have : k = 0 ∨ k = 1 ∨ k = 2 ∨ k = 3 ∨ k = 4 ∨ k = 5 := by omega
    rcases this with rfl | rfl | rfl | rfl | rfl | rfl <;> (cases hs; exact ⟨rfl, rfl, rfl, rfl⟩)
  have HF := Lib.hid (And.intro hsh hbel)
  clear hbel hsh hblk
  exact bodyPost_ret (v := langV (w.heap.size + 1) fSh 76 77) (by simp [results, Tryz.results61, go_sem, langV, fSh]) rfl ⟨w.heap.size + 1, Nat.le_succ _, rfl, HF.out⟩

set_option maxHeartbeats 1000000 in
theorem split_ok (a b c : Value) (w : World) :
    Calls Tryz.prog 76 #[.agg #[a, b, c]] w fun e w' => e = .returned (.tuple #[a, b, c]) ∧ Below w.heap.size w w' := by
  have HB := Lib.hid ((below1 w (.cells #[a, b, c] 24)).drew)
  go_enter Tryz.func76, Tryz.ntmps76
  go_wp2_with fail
  go_region
  go_wp2_with fail
  exact bodyPost_ret (v := .tuple #[a, b, c]) (by simp [results, Tryz.results76, go_sem]) rfl ⟨rfl, HB.out⟩
set_option maxHeartbeats 1000000 in
theorem join_ok (k n : Int) (A : Option Addr) (l c : Nat) (w : World) :
    Calls Tryz.prog 77 #[.int .i64 k, .int .i64 n, .slice A l c] w fun e w' => e = .returned (.agg #[.int .i64 k, .int .i64 n, .slice A l c]) ∧ Below w.heap.size w w' := by
  have HB := Lib.hid (below1 w (.cells #[.int .i64 k, .int .i64 n, .slice A l c] 24))
  go_enter Tryz.func77, Tryz.ntmps77
  go_wp2_with fail
  exact bodyPost_ret (v := .agg #[.int .i64 k, .int .i64 n, .slice A l c]) (by simp [results, Tryz.results77, go_sem]) rfl ⟨rfl, HB.out⟩
end Go.Proofs.YtcophfhnhlaonaaGreatDoor
namespace Go.Proofs.YtcophfhnhlaonaaGreatDoor
set_option linter.unusedVariables false
open Go.RowKit

def synV : Value := .iface 123 (.agg #[])

theorem cut_ok (l p : List UInt8) (w : World) :
    Calls Tryz.prog 85 #[.string ⟨l.toArray⟩, .string ⟨p.toArray⟩] w fun e w' => e = .returned (.tuple #[.string ⟨(Lib.trimPrefix l p).toArray⟩, .bool (Lib.hasPrefix l p)]) ∧ w = w' :=
  (Any.strings_CutPrefix Tryz.cpL ⟨l.toArray⟩ ⟨p.toArray⟩ w).mono fun e w' ⟨h1, h2⟩ => ⟨by simpa using h1, h2.symm⟩

set_option maxHeartbeats 1000000 in
theorem take_yes (gr : Nat) (p l l' : List UInt8) (h : stripP p l = some l') (w : World) (hc : w.cell? ⟨gr, 0, none⟩ = some (.string ⟨l.toArray⟩)) (hz : w.frozen? ⟨gr, 0, none⟩ = false) :
    Calls Tryz.prog 81 #[.pointer (some ⟨gr, 0, none⟩), .string ⟨p.toArray⟩] w fun e w' => e = .returned (.tuple #[]) ∧ w' = w.setCell ⟨gr, 0, none⟩ (.string ⟨l'.toArray⟩) := by
  have h1 : Lib.hasPrefix l p = true ∧ Lib.trimPrefix l p = l' := by
    unfold stripP at h
    split at h
    · rename_i h1; exact ⟨h1, by simpa using h⟩
    · simp at h
  have HC := Lib.hid (cut_ok l p w)
  rw [h1.1, h1.2] at HC
  clear h h1
  go_enter Tryz.func81, Tryz.ntmps81
  go_wp2_with fail
  refine HC.out.mono ?_
  rintro e w1 ⟨rfl, rfl⟩
  go_wp2_with fail
  go_end0
  exact ⟨rfl, rfl⟩

set_option maxHeartbeats 1000000 in
theorem take_no (gr : Nat) (p l : List UInt8) (h : stripP p l = none) (w : World) (hc : w.cell? ⟨gr, 0, none⟩ = some (.string ⟨l.toArray⟩)) :
    Calls Tryz.prog 81 #[.pointer (some ⟨gr, 0, none⟩), .string ⟨p.toArray⟩] w fun e w' => e = .panicked [{ v := synV, recovered := false }] ∧ w' = w := by
  have h1 : Lib.hasPrefix l p = false := by
    unfold stripP at h
    split at h
    · simp at h
    · rename_i h1; simpa using h1
  have HC := Lib.hid (cut_ok l p w)
  rw [h1] at HC
  clear h h1
  go_enter Tryz.func81, Tryz.ntmps81
  go_wp2_with fail
  refine HC.out.mono ?_
  rintro e w1 ⟨rfl, rfl⟩
  go_wp2_with fail
  exact ⟨rfl, rfl, rfl⟩

set_option maxHeartbeats 1000000 in
theorem end_yes (gr : Nat) (w : World) (hc : w.cell? ⟨gr, 0, none⟩ = some (.string ⟨#[]⟩)) :
    Calls Tryz.prog 75 #[.pointer (some ⟨gr, 0, none⟩)] w fun e w' => e = .returned (.tuple #[]) ∧ w' = w := by
  go_enter Tryz.func75, Tryz.ntmps75
  go_wp2_with fail
  go_end0
  exact ⟨rfl, rfl⟩
set_option maxHeartbeats 1000000 in
theorem end_no (gr : Nat) (c : UInt8) (l : List UInt8) (w : World) (hc : w.cell? ⟨gr, 0, none⟩ = some (.string ⟨(c :: l).toArray⟩)) :
    Calls Tryz.prog 75 #[.pointer (some ⟨gr, 0, none⟩)] w fun e w' => e = .panicked [{ v := synV, recovered := false }] ∧ w' = w := by
  go_enter Tryz.func75, Tryz.ntmps75
  go_wp2_with fail
  exact ⟨rfl, rfl, rfl⟩
end Go.Proofs.YtcophfhnhlaonaaGreatDoor
namespace Go.Proofs.YtcophfhnhlaonaaGreatDoor
set_option linter.unusedVariables false
open Go.RowKit

theorem atoiAll_low {l : List UInt8} {v : Int} (h : Lib.atoiAll l = .ok v) : -9223372036854775808 ≤ v := by
  unfold Lib.atoiAll at h
  split at h
  · simp at h
  · simp only at h
    split at h
    · simp at h
    · simp at h
    · split at h
      · simp at h
      · split at h
        · simp at h
        · rename_i u _ h1 h2
          simp at h
          subst h
          split
          · rename_i hn
            have : u ≤ 9223372036854775808 := by
              rcases Nat.lt_or_ge 9223372036854775808 u with h3 | h3
              · exact absurd ⟨hn, h3⟩ h2
              · exact h3
            omega
          · omega
theorem trim_ok (l : List UInt8) (w : World) :
    Calls Tryz.prog 86 #[.string ⟨l.toArray⟩, .string ⟨#[48, 49, 50, 51, 52, 53, 54, 55, 56, 57]⟩] w fun e w' => e = .returned (.string ⟨(Lib.trimLeftS l digs).toArray⟩) ∧ Below w.heap.size w w' :=
  (Any.strings_TrimLeft_laid Tryz.tlL (by kernel_rfl) ⟨l.toArray⟩ ⟨#[48, 49, 50, 51, 52, 53, 54, 55, 56, 57]⟩ w (by decide) (Go.Proofs.ascii_of_all (by decide))).mono fun e w' ⟨h1, h2⟩ => ⟨by simpa [digs] using h1, h2⟩
theorem atoi_ok (l : List UInt8) (hl : l.length ≤ 40000) (v : Int) (h : Lib.atoiAll l = .ok v) (w : World) :
    Calls Tryz.prog 87 #[.string ⟨l.toArray⟩] w fun e w' => e = .returned (.tuple #[.int .i64 v, .nilIface]) ∧ Below w.heap.size w w' := by
  refine (Any.strconv_Atoi_ok Tryz.atoiL ⟨l.toArray⟩ (by simp [ByteArray.size]; omega) v (by simpa using h) w).mono ?_
  rintro e w' ⟨rfl, rfl | ⟨t, rfl⟩⟩
  · exact ⟨rfl, Below.refl _ _⟩
  · exact ⟨rfl, Lib.bytesWorld_below _ _ _⟩
theorem itoaI_ok (i : Int) (h0 : -9223372036854775808 ≤ i) (h1 : i ≤ 9223372036854775807) (w : World) (htab : Lib.TabIs Tryz.prog w "internal/strconv.uint64pow10" .u64 Lib.pow10Tab) :
    Calls Tryz.prog 88 #[.int .i64 i] w fun e w' => e = .returned (.string ⟨(Lib.itoa i).toArray⟩) ∧ Below w.heap.size w w' := by
  refine (Any.strconv_Itoa Tryz.itoaL i h0 h1 w htab).mono ?_
  rintro e w' ⟨rfl, k, os, rfl⟩
  refine ⟨rfl, rfl, rfl, rfl, by simp [Go.Sort.grow], fun b hb => ?_⟩
  simp [Go.Sort.grow, Array.getElem?_append, hb]

theorem extract_take (l : List UInt8) (m : Nat) : (⟨l.toArray⟩ : ByteArray).extract 0 m = ⟨(l.take m).toArray⟩ := by
  apply ByteArray.ext
  simp
theorem trimLeft_suffix (l : List UInt8) : (Lib.trimLeftS l digs).length ≤ l.length := by
  unfold Lib.trimLeftS
  exact (List.dropWhile_suffix _).length_le
theorem digsOf_length (l : List UInt8) : (digsOf l).length ≤ l.length := by unfold digsOf; rw [List.length_take]; omega

set_option maxRecDepth 100000 in
set_option maxHeartbeats 2000000 in
theorem number_yes (gr lim : Nat) (l l' : List UInt8) (v : Int) (h : numN lim l = some (v, l')) (hlim : lim ≤ 65536) (hl : l.length ≤ 40000) (w : World) (hc : w.cell? ⟨gr, 0, none⟩ = some (.string ⟨l.toArray⟩)) (hz : w.frozen? ⟨gr, 0, none⟩ = false)
    (htab : ∀ W, Below w.heap.size w W → Lib.TabIs Tryz.prog W "internal/strconv.uint64pow10" .u64 Lib.pow10Tab) :
    Calls Tryz.prog 82 #[.pointer (some ⟨gr, 0, none⟩), .int .i64 (lim : Int)] w fun e w' => e = .returned (.int .i64 v) ∧ Only (· = gr) w w' ∧ w'.cell? ⟨gr, 0, none⟩ = some (.string ⟨l'.toArray⟩) ∧ w'.frozen? ⟨gr, 0, none⟩ = false := by
  obtain ⟨hat, hv, hi, rfl⟩ : Lib.atoiAll (digsOf l) = .ok v ∧ v < (lim : Int) ∧ Lib.itoa v = digsOf l ∧ Lib.trimLeftS l digs = l' := by
    unfold numN at h
    split at h
    · rename_i v' hat
      split at h
      · rename_i hh
        simp at h
        obtain ⟨rfl, rfl⟩ := h
        exact ⟨hat, hh.1, hh.2, rfl⟩
      · simp at h
    · simp at h
  have hlow := atoiAll_low hat
  have HT := Lib.hid (trim_ok l w)
  have HA := Lib.hid (fun W => atoi_ok (digsOf l) (Nat.le_trans (digsOf_length l) hl) v hat W)
  have HI := Lib.hid (fun W hW => itoaI_ok v hlow (by omega) W (htab W hW))
  rw [hi] at HI
  have hsl := trimLeft_suffix l
  have hdg : (digsOf l) = l.take (l.length - (Lib.trimLeftS l digs).length) := rfl
  generalize Lib.trimLeftS l digs = r at *
  generalize digsOf l = d at *
  have HD := Lib.hid hdg
  clear hat hi h htab hdg
  go_enter Tryz.func82, Tryz.ntmps82
  go_wp2_with fail
  refine HT.out.mono ?_
  rintro e w1 ⟨rfl, hB1⟩
  have c1 := (hB1.cell (World.block_lt_of_cell? w _ hc)).trans hc
  have z1 := (hB1.frozen (p := ⟨gr, 0, none⟩) (World.block_lt_of_cell? w _ hc)).trans hz
  have HB1 := Lib.hid hB1
  clear hB1 hc hz
  go_wp2_with fail
  go_region
  have hex : (⟨l.toArray⟩ : ByteArray).extract 0 (l.length - r.length) = ⟨d.toArray⟩ := by rw [extract_take, ← HD.out]
  rw [hex]
  clear hex
  go_wp2_with fail
  refine (HA.out _).mono ?_
  rintro e w2 ⟨rfl, hB2⟩
  have HB2 := Lib.hid (HB1.out.drew.trans (hB2.mono HB1.out.drew.size))
  have c2 := (hB2.cell (World.block_lt_of_cell? w1.drew _ c1)).trans c1
  have z2 := (hB2.frozen (p := ⟨gr, 0, none⟩) (World.block_lt_of_cell? w1.drew _ c1)).trans z1
  have hlt : decide (v < (lim : Int)) = true := decide_eq_true hv
  have hge : decide ((lim : Int) ≤ v) = false := decide_eq_false (by omega)
  clear hB2 c1 z1 HB1
  go_wp2_with fail
  refine (HI.out _ HB2.out).mono ?_
  rintro e w3 ⟨rfl, hB3⟩
  have HB3 := Lib.hid (HB2.out.trans (hB3.mono HB2.out.size))
  have c3 := (hB3.cell (World.block_lt_of_cell? w2 _ c2)).trans c2
  have z3 := (hB3.frozen (p := ⟨gr, 0, none⟩) (World.block_lt_of_cell? w2 _ c2)).trans z2
  clear hB3 c2 z2 HB2
  go_wp2_with fail
  go_ret
  exact ⟨rfl, Only.setCell (S := (· = gr)) (p := ⟨gr, 0, none⟩) (Only.of_below HB3.out) rfl _, by simp [go_sem, c3], by simp [go_sem, z3]⟩

/-- What the package's two error variables hold. -/
def ErrsAt (w : World) : Prop := (∃ ev, w.cell? ⟨0, 0, none⟩ = some ev ∧ (ev = .nilIface ∨ ∃ te pe, ev = .iface te pe)) ∧ (∃ ev, w.cell? ⟨1, 0, none⟩ = some ev ∧ (ev = .nilIface ∨ ∃ te pe, ev = .iface te pe))
theorem ErrsAt.below {w w' : World} (h : ErrsAt w) (hB : Below w.heap.size w w') : ErrsAt w' := by
  obtain ⟨⟨a, h1, h2⟩, b, h3, h4⟩ := h
  exact ⟨⟨a, (hB.cell (World.block_lt_of_cell? w _ h1)).trans h1, h2⟩, b, (hB.cell (World.block_lt_of_cell? w _ h3)).trans h3, h4⟩
theorem atoi_bad (l : List UInt8) (hl : l.length ≤ 40000) (h : ∀ v, Lib.atoiAll l ≠ .ok v) (w : World) (he : ErrsAt w) :
    Calls Tryz.prog 87 #[.string ⟨l.toArray⟩] w fun e w' => (∃ (x : Int) (t : TypeId) (p : Value), e = .returned (.tuple #[.int .i64 x, .iface t p])) ∧ Below w.heap.size w w' := by
  obtain ⟨⟨a, h1, h2⟩, b, h3, h4⟩ := he
  cases hat : Lib.atoiAll l
  · rename_i v
    exact absurd hat (h v)
  · refine (Any.strconv_Atoi_syntax Tryz.atoiL ⟨l.toArray⟩ (by simp [ByteArray.size]; omega) (by simpa using hat) a w h1 h2).mono ?_
    rintro e w' ⟨N, rfl, _, _, hB⟩
    exact ⟨⟨_, _, _, rfl⟩, hB⟩
  · refine (Any.strconv_Atoi_range Tryz.atoiL ⟨l.toArray⟩ (by simp [ByteArray.size]; omega) (by simpa using hat) b w h3 h4).mono ?_
    rintro e w' ⟨N, rfl, _, _, hB⟩
    exact ⟨⟨_, _, _, rfl⟩, hB⟩

set_option maxRecDepth 100000 in
set_option maxHeartbeats 2000000 in
theorem number_no (gr lim : Nat) (l : List UInt8) (h : numN lim l = none) (hlim : lim ≤ 65536) (hl : l.length ≤ 40000) (w : World) (hc : w.cell? ⟨gr, 0, none⟩ = some (.string ⟨l.toArray⟩))
    (htab : ∀ W, Below w.heap.size w W → Lib.TabIs Tryz.prog W "internal/strconv.uint64pow10" .u64 Lib.pow10Tab) (herr : ErrsAt w) :
    Calls Tryz.prog 82 #[.pointer (some ⟨gr, 0, none⟩), .int .i64 (lim : Int)] w fun e w' => e = .panicked [{ v := synV, recovered := false }] ∧ Below w.heap.size w w' := by
  have HT := Lib.hid (trim_ok l w)
  have hsl := trimLeft_suffix l
  have hdg : (digsOf l) = l.take (l.length - (Lib.trimLeftS l digs).length) := rfl
  have HDL := Lib.hid (Nat.le_trans (digsOf_length l) hl)
  have HNN := Lib.hid h
  have HTAB := Lib.hid htab
  have HERR := Lib.hid herr
  unfold numN at HNN
  generalize Lib.trimLeftS l digs = r at *
  generalize digsOf l = d at *
  have HD := Lib.hid hdg
  clear h htab hdg herr
  go_enter Tryz.func82, Tryz.ntmps82
  go_wp2_with fail
  refine HT.out.mono ?_
  rintro e w1 ⟨rfl, hB1⟩
  have c1 := (hB1.cell (World.block_lt_of_cell? w _ hc)).trans hc
  have HB1 := Lib.hid hB1
  clear hB1 hc
  go_wp2_with fail
  go_region
  have hex : (⟨l.toArray⟩ : ByteArray).extract 0 (l.length - r.length) = ⟨d.toArray⟩ := by rw [extract_take, ← HD.out]
  rw [hex]
  clear hex
  by_cases hok : ∃ v, Lib.atoiAll d = .ok v
  · obtain ⟨v, hat⟩ := hok
    have HA := Lib.hid (fun W => atoi_ok d HDL.out v hat W)
    have hlow := atoiAll_low hat
    have HAT := Lib.hid hat
    clear hat
    go_wp2_with fail
    refine (HA.out _).mono ?_
    rintro e w2 ⟨rfl, hB2⟩
    have HB2 := Lib.hid (HB1.out.drew.trans (hB2.mono HB1.out.drew.size))
    clear hB2 HB1 c1
    by_cases hv : v < (lim : Int)
    · have hlt : decide (v < (lim : Int)) = true := decide_eq_true hv
      have hge : decide ((lim : Int) ≤ v) = false := decide_eq_false (by omega)
      have HI := Lib.hid (fun W hW => itoaI_ok v hlow (by omega) W (HTAB.out W hW))
      have hne : Lib.itoa v ≠ d := fun e => by
        have := HNN.out
        rw [HAT.out] at this
        simp [hv, e] at this
      have hne2 : ((Lib.itoa v) == d) = false := by simpa using hne
      go_wp2_with fail
      refine (HI.out _ HB2.out).mono ?_
      rintro e w3 ⟨rfl, hB3⟩
      have HB3 := Lib.hid (HB2.out.trans (hB3.mono HB2.out.size))
      clear hB3 HB2
      go_wp2_with fail
      exact ⟨rfl, rfl, HB3.out⟩
    · have hlt : decide (v < (lim : Int)) = false := decide_eq_false hv
      have hge : decide ((lim : Int) ≤ v) = true := decide_eq_true (by omega)
      go_wp2_with fail
      exact ⟨rfl, rfl, HB2.out⟩
  · have HA := Lib.hid (atoi_bad d HDL.out (fun v hv => hok ⟨v, hv⟩) w1.drew ((HERR.out.below HB1.out).below ((Below.refl _ w1).drew)))
    clear hok
    go_wp2_with fail
    refine HA.out.mono ?_
    rintro e w2 ⟨⟨x, t, p, rfl⟩, hB2⟩
    have HB2 := Lib.hid (HB1.out.drew.trans (hB2.mono HB1.out.drew.size))
    clear hB2 HB1 c1
    go_wp2_with fail
    exact ⟨rfl, rfl, HB2.out⟩
end Go.Proofs.YtcophfhnhlaonaaGreatDoor
namespace Go.Proofs.YtcophfhnhlaonaaGreatDoor
set_option linter.unusedVariables false
open Go.RowKit

theorem hasP_ok (l p : List UInt8) (w : World) :
    Calls Tryz.prog 84 #[.string ⟨l.toArray⟩, .string ⟨p.toArray⟩] w fun e w' => e = .returned (.bool (Lib.hasPrefix l p)) ∧ w = w' :=
  (Any.strings_HasPrefix Tryz.hpL ⟨l.toArray⟩ ⟨p.toArray⟩ w).mono fun e w' ⟨h1, h2⟩ => ⟨by simpa using h1, h2.symm⟩
theorem below_drewN {n : Nat} {A W : World} (h : Below n A W) (m : Nat) : Below n A (W.drewN m) := ⟨h.os, h.tape, h.output, h.size, h.block⟩
theorem opAt_of {sh : List Sh} {k : Nat} {s : Sh} (h : sh[k]? = some s) : opAt sh k = s.op := by simp [opAt, h]

set_option maxRecDepth 100000 in
set_option maxHeartbeats 4000000 in
theorem kindOf_ok (g f j : Nat) (sh : List Sh) (h2 : 2 ≤ sh.length) (h6 : sh.length ≤ 6) (hop : ∀ s ∈ sh, s.op.length ≤ 10) (l : List UInt8) (w : World) (hs : ShR w g sh) :
    Calls Tryz.prog 80 #[langV g sh f j, .string ⟨l.toArray⟩] w fun e w' => e = .returned (.int .i64 (kindN sh l sh.length : Nat)) ∧ Below w.heap.size w w' := by
  have hb0 := below1 w (.cells #[.slice (some ⟨g, 0, none⟩) sh.length sh.length, .func (Fn.func f) #[] #[], .func (Fn.func j) #[] #[]] 98)
  have hc0 : (w.alloc (.cells #[.slice (some ⟨g, 0, none⟩) sh.length sh.length, .func (Fn.func f) #[] #[], .func (Fn.func j) #[] #[]] 98)).cell? ⟨w.heap.size, 0, none⟩ = some (.slice (some ⟨g, 0, none⟩) sh.length sh.length) := World.cell?_alloc_new _ _ _ 0
  obtain ⟨w0, hw0⟩ : ∃ w0, w0 = w.alloc (.cells #[.slice (some ⟨g, 0, none⟩) sh.length sh.length, .func (Fn.func f) #[] #[], .func (Fn.func j) #[] #[]] 98) := ⟨_, rfl⟩
  rw [← hw0] at hb0 hc0
  have HS := Lib.hid (hs.below hb0)
  have HC0 := Lib.hid hc0
  have HB0 := Lib.hid hb0
  have HW0 := Lib.hid hw0
  have HOP := Lib.hid hop
  have HPX := Lib.hid (fun p W => hasP_ok l p W)
  have HK := Lib.hid (fun k (hk : k ≤ sh.length) => kindN_lt sh l k hk h2)
  clear hb0 hc0 hw0 hs hop
  generalize hL : sh.length = L at *
  have HL := Lib.hid hL
  clear hL
  unfold langV
  rw [HL.out]
  go_enter Tryz.func80, Tryz.ntmps80
  go_wp2_with fail
  go_loopw [5, 6, 7, 11] (fun kv _ _ iv W => ∃ k : Nat, k ≤ L ∧ iv = .int .i64 k ∧ kv = .int .i64 (kindN sh l k : Nat) ∧ Below w0.heap.size w0 W) (fun _ _ _ iv _ => L - (intOf iv).toNat)
  case atStart => exact ⟨0, by omega, rfl, rfl, by rw [← HW0.out]; exact Below.refl _ _⟩
  case round =>
    obtain ⟨k, hk, rfl, rfl, hB⟩ := hrel
    have HB := Lib.hid hB
    by_cases hlt : k < L
    · obtain ⟨s, hs⟩ : ∃ s, sh[k]? = some s := ⟨_, List.getElem?_eq_getElem (by rw [HL.out]; exact hlt)⟩
      have hcl := HK.out k (by omega)
      obtain ⟨sc, hsc⟩ : ∃ sc, sh[kindN sh l k]? = some sc := ⟨_, List.getElem?_eq_getElem (by rw [HL.out]; exact hcl)⟩
      obtain ⟨e0, e1, e2, e3⟩ := (HS.out.below hB) k s hs
      have hsA := (HS.out.below hB).below (below1 wr (.cells #[.string ⟨s.op.toArray⟩, .int .i64 (s.num : Int), .int .i64 (s.kids : Int), .int .i64 (s.dep : Int)] 115))
      have d0 := (hsA _ _ hsc).1
      have hcb := ((hB.alloc hB.size (.cells #[.string ⟨s.op.toArray⟩, .int .i64 (s.num : Int), .int .i64 (s.kids : Int), .int .i64 (s.dep : Int)] 115)).cell (World.block_lt_of_cell? w0 _ HC0.out)).trans HC0.out
      have hol := HOP.out s (List.mem_of_getElem? hs)
      have holc := HOP.out sc (List.mem_of_getElem? hsc)
      have hkn : kindN sh l (k + 1) = if Lib.hasPrefix l s.op = true ∧ sc.op.length < s.op.length then k else kindN sh l k := by
        rw [kindN, opAt_of hs, opAt_of hsc]
      have HKN := Lib.hid hkn
      have HB2 := Lib.hid (fun n => (show Below w0.heap.size w0 ((wr.alloc (.cells #[.string ⟨s.op.toArray⟩, .int .i64 (s.num : Int), .int .i64 (s.kids : Int), .int .i64 (s.dep : Int)] 115)).drewN n) from below_drewN (hB.alloc hB.size (.cells #[.string ⟨s.op.toArray⟩, .int .i64 (s.num : Int), .int .i64 (s.kids : Int), .int .i64 (s.dep : Int)] 115)) n))
      have HP1 := Lib.hid (fun W => HPX.out s.op W)
      generalize kindN sh l k = kn at *
      generalize s.op = op at *
      generalize sc.op = opc at *
      generalize Lib.hasPrefix l op = hp at *
      clear hs hsc hB hsA hkn
      cases hp
      · have HN2 : Hid (kindN sh l (k + 1) = kn) := Lib.hid (by rw [HKN.out, if_neg (by simp)])
        go_wp2_with fail
        go_quiet (first | (go_at_call 84; exact Calls.quiet_of_same ((HP1.out _).mono (fun e w' h => ⟨h.1, h.2.symm⟩))))
        go_wp2_with fail
        go_roundw
        case rel => exact ⟨k + 1, by omega, by go_num, by rw [HN2.out], HB2.out _⟩
        case measure => simp [intOf]; omega
      · by_cases hlo : opc.length < op.length
        · have HN2 : Hid (kindN sh l (k + 1) = k) := Lib.hid (by rw [HKN.out, if_pos ⟨rfl, hlo⟩])
          have d1 : decide (opc.length < op.length) = true := decide_eq_true hlo
          have d1' : decide ((opc.length : Int) < (op.length : Int)) = true := decide_eq_true (by omega)
          go_wp2_with fail
          go_quiet (first | (go_at_call 84; exact Calls.quiet_of_same ((HP1.out _).mono (fun e w' h => ⟨h.1, h.2.symm⟩))))
          go_wp2_with fail
          go_roundw
          case rel => exact ⟨k + 1, by omega, by go_num, by rw [HN2.out], HB2.out _⟩
          case measure => simp [intOf]; omega
        · have HN2 : Hid (kindN sh l (k + 1) = kn) := Lib.hid (by rw [HKN.out, if_neg (fun h => hlo h.2)])
          have d1 : decide (opc.length < op.length) = false := decide_eq_false hlo
          have d1' : decide ((opc.length : Int) < (op.length : Int)) = false := decide_eq_false (by omega)
          go_wp2_with fail
          go_quiet (first | (go_at_call 84; exact Calls.quiet_of_same ((HP1.out _).mono (fun e w' h => ⟨h.1, h.2.symm⟩))))
          go_wp2_with fail
          go_roundw
          case rel => exact ⟨k + 1, by omega, by go_num, by rw [HN2.out], HB2.out _⟩
          case measure => simp [intOf]; omega
    · have hkl : k = L := by omega
      subst hkl
      clear hB
      go_wp2_with fail
      go_ret
      exact ⟨rfl, HB0.out.trans (HB.out.mono HB0.out.size)⟩
end Go.Proofs.YtcophfhnhlaonaaGreatDoor
