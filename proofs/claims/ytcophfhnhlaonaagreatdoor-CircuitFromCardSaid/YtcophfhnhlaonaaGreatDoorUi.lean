/-
  Joined from Pqo, Pqp, Pqq, Pqr, Pqs, Pqt: see there.
-/
import Derived.Test.YtcophfhnhlaonaaGreatDoorUh
import Derived.Lib.ItoaLen
import Derived.Maps.AppendAt
namespace Go.Proofs.YtcophfhnhlaonaaGreatDoor
set_option linter.unusedVariables false
open Go.RowKit Go.Maps

/-- A text that the call builds. -/
structure Tx (B : Nat) (l : List UInt8) (v : Value) (w : World) : Prop where
  own : w.ownsRow B 5 1 v l.length (Lib.byteCells l)
  le : B ≤ w.heap.size
/-- Below B nothing has turned, and nothing but rows of bytes. -/
def KT (B : Nat) (w w' : World) : Prop := Below B w w' ∧ Lib.OthersKept 5 none w w'
theorem KT.refl (B : Nat) (w : World) : KT B w w := ⟨Below.refl _ _, Lib.OthersKept.refl _ _ _⟩
theorem KT.trans {B : Nat} {a b c : World} (h : KT B a b) (k : KT B b c) : KT B a c := ⟨h.1.trans k.1, h.2.trans k.2⟩
theorem KT.of_below {B : Nat} {w w' : World} (h : Below w.heap.size w w') (hB : B ≤ w.heap.size) : KT B w w' := ⟨h.mono hB, fun k o hk _ _ => (h.block k (Array.getElem?_eq_some_iff.1 hk).1).trans hk⟩
theorem KT.grown {B n : Nat} {v : Value} {xs : List Value} {w w' : World} (h : w.ownsRow B 5 1 v n xs) (hB : B ≤ w.heap.size) (hg : w.grownBy w' v.ownBlock) : KT B w w' := by
  refine ⟨(Below.refl B w).grown hg hB fun k e => (h.lt k e).1, fun k o hk _ ho => ?_⟩
  rw [hg.block k (Array.getElem?_eq_some_iff.1 hk).1 (fun e => ?_)]
  · exact hk
  · rcases h.2 with ⟨rfl, _⟩ | ⟨g, cap, cur, rfl, _, hgb, _⟩
    · simp [Value.ownBlock] at e
    · simp [Value.ownBlock] at e
      subst e
      rw [hgb] at hk
      cases hk
      exact ho _ _ rfl
theorem Tx.nil (w : World) : Tx w.heap.size [] (.slice none 0 0) w := ⟨World.ownsRow_nil _ _ _ _, Nat.le_refl _⟩
theorem Tx.shape {B : Nat} {l : List UInt8} {v : Value} {w : World} (h : Tx B l v w) : ∃ A c, v = .slice A l.length c := by
  have h1 := h.own.1
  rcases h.own.2 with ⟨rfl, h0⟩ | ⟨g, cap, cur, rfl, _⟩
  · rw [h0] at h1
    have : l.length = 0 := by simp at h1; omega
    exact ⟨none, 0, by rw [this]⟩
  · exact ⟨_, _, rfl⟩
theorem Tx.below {B : Nat} {l : List UInt8} {v : Value} {w w' : World} (h : Tx B l v w) (hB : Below w.heap.size w w') : Tx B l v w' := ⟨ownsRow_below h.own hB, Nat.le_trans h.le hB.size⟩

theorem Tx.push {B : Nat} {l l2 : List UInt8} {v v2 : Value} {w w2 : World} (h : Tx B l v w) (hown : w2.ownsRow B 5 1 v2 (l.length + ByteArray.size ⟨l2.toArray⟩) (Lib.byteCells l ++ Lib.strCells ⟨l2.toArray⟩)) (hg : w.grownBy w2 v.ownBlock) : Tx B (l ++ l2) v2 w2 ∧ KT B w w2 := by
  have e1 : ByteArray.size ⟨l2.toArray⟩ = l2.length := by show l2.toArray.size = _; simp
  have e2 : Lib.strCells ⟨l2.toArray⟩ = Lib.byteCells l2 := rfl
  rw [e1, e2] at hown
  exact ⟨⟨by simpa [Lib.byteCells] using hown, Nat.le_trans h.le hg.size⟩, KT.grown h.own h.le hg⟩
theorem Tx.push1 {B : Nat} {l : List UInt8} {c : UInt8} {v v2 : Value} {w w2 : World} {o : Obj} (h : Tx B l v w) (hown : w2.ownsRow B 5 1 v2 (l.length + 1) (Lib.byteCells l ++ [.int .u8 (c.toNat : Int)])) (hg : (w.alloc o).grownBy w2 v.ownBlock) : Tx B (l ++ [c]) v2 w2 ∧ KT B w w2 := by
  have hB := below1 w o
  have h2 := h.below hB
  exact ⟨⟨by simpa [Lib.byteCells] using hown, Nat.le_trans h2.le hg.size⟩, (KT.of_below hB h.le).trans (KT.grown h2.own h2.le hg)⟩

def expT (k x : Nat) : List UInt8 := if x = 0 then [] else [42, 120] ++ Lib.itoa k ++ (if x = 1 then [] else [94] ++ Lib.itoa x)
/-- The text of the exponents of the variables from k on. -/
def expsT : Nat → List Nat → List UInt8
  | _, [] => []
  | k, x :: e => expT k x ++ expsT (k + 1) e
def termT (t : Tm) : List UInt8 := Lib.itoa t.1 ++ expsT 0 t.2
theorem expsT_snoc (e : List Nat) (x : Nat) : ∀ k, expsT k (e ++ [x]) = expsT k e ++ expT (k + e.length) x := by
  induction e with
  | nil => intro k; simp [expsT]
  | cons y e ih =>
    intro k
    show expT k y ++ expsT (k + 1) (e ++ [x]) = _
    rw [ih]
    simp [expsT, Nat.add_assoc, Nat.add_comm 1]
theorem itoa_le (i : Nat) (h : i ≤ 1000000) : (Lib.itoa i).length ≤ 21 := Lib.itoa_length_le i (by omega) (by omega)
theorem expT_length (k x : Nat) (hk : k ≤ 1000) (hx : x ≤ 65535) : (expT k x).length ≤ 45 := by
  have h1 := itoa_le k (by omega)
  have h2 := itoa_le x (by omega)
  unfold expT
  split
  · simp
  · split <;> simp <;> omega

end Go.Proofs.YtcophfhnhlaonaaGreatDoor
namespace Go.Proofs.YtcophfhnhlaonaaGreatDoor
set_option linter.unusedVariables false
open Go.RowKit Go.Maps

def sepT (t : Tm) : List UInt8 := [32, 43, 32] ++ termT t
def catT : List Tm → List UInt8
  | [] => []
  | t :: ts => termT t ++ ts.flatMap sepT
def textP (p : List Tm) : List UInt8 := if p = [] then [48] else catT p
theorem catT_snoc (ts : List Tm) (t : Tm) (h : ts ≠ []) : catT (ts ++ [t]) = catT ts ++ sepT t := by
  cases ts with
  | nil => exact absurd rfl h
  | cons s ts => simp [catT, List.flatMap_append]
theorem catT_le (p : List Tm) (k : Nat) : (catT (p.take k)).length ≤ (catT p).length := by
  cases p with
  | nil => simp
  | cons t ts =>
    cases k with
    | zero => simp [catT]
    | succ k =>
      simp only [List.take_succ_cons, catT, List.length_append]
      have : (ts.flatMap sepT).length = ((ts.take k).flatMap sepT).length + ((ts.drop k).flatMap sepT).length := by
        rw [← List.length_append, ← List.flatMap_append, List.take_append_drop]
      omega
theorem expsT_length (e : List Nat) : ∀ k, k + e.length ≤ 1000 → (∀ x ∈ e, x ≤ 65535) → (expsT k e).length ≤ 45 * e.length := by
  induction e with
  | nil => intro k _ _; simp [expsT]
  | cons x e ih =>
    intro k hk hx
    have h1 := expT_length k x (by simp at hk; omega) (hx x (by simp))
    have h2 := ih (k + 1) (by simp at hk; omega) (fun y hy => hx y (by simp [hy]))
    simp [expsT]
    omega
theorem termT_length {n : Nat} (t : Tm) (hn : n ≤ 80) (ht : t.1 ≤ 65536) (he : Ex n t.2) : (termT t).length ≤ 3700 := by
  have h1 := itoa_le t.1 (by omega)
  have h2 := expsT_length t.2 0 (by rw [he.1]; omega) he.2
  rw [he.1] at h2
  unfold termT
  rw [List.length_append]
  omega

theorem itoa_pos (i : Nat) : 0 < (Lib.itoa i).length := by
  rw [Lib.itoa_nonneg, Lib.decDigits_length]
  unfold Lib.nDigits
  split <;> omega
theorem catT_ne {n : Nat} {p : List Tm} (hx : ∀ t ∈ p, Ex n t.2) (h : 0 < p.length) : 0 < (catT p).length := by
  cases p with
  | nil => simp at h
  | cons t ts =>
    have := itoa_pos t.1
    simp [catT, termT]
    omega
theorem conv_text (l : List UInt8) (A : Option Addr) (c : Nat) {B : Nat} {W : World} (h : Tx B l (.slice A l.length c) W) (hl : l ≠ []) : (convert 150 9 (.slice A l.length c)).run Tryz.prog W = .ok (.string ⟨l.toArray⟩) W := by
  rcases h.own.2 with ⟨hv, h0⟩ | ⟨g, cap, cur, hv, _⟩
  · exfalso
    simp at h0
    exact hl h0
  · simp only [Value.slice.injEq] at hv
    obtain ⟨rfl, _, rfl⟩ := hv
    refine run_convert_bytes_back W 150 9 5 ⟨g, 0, none⟩ c l Tryz.underlying150 Tryz.underlying5 Tryz.underlying9 fun j hj => ?_
    have hc := h.own.cells (g := g) rfl j (.int .u8 ((l[j] : UInt8).toNat : Int)) (by simp [Lib.byteCells, hj])
    exact hc

def TextIs (p : List Tm) (w : World) (r : Ending) (w' : World) : Prop :=
  Below w.heap.size w w' ∧ (((textP p).length ≤ 40000 ∧ r = .returned (.tuple #[.string ⟨(textP p).toArray⟩, .int .i64 0])) ∨ (40000 < (textP p).length ∧ r = .returned (.tuple #[.string ⟨#[]⟩, .int .i64 5])))

end Go.Proofs.YtcophfhnhlaonaaGreatDoor
namespace Go.Proofs.YtcophfhnhlaonaaGreatDoor
set_option linter.unusedVariables false
open Go.RowKit Go.Maps

end Go.Proofs.YtcophfhnhlaonaaGreatDoor
namespace Go.Proofs.YtcophfhnhlaonaaGreatDoor
set_option linter.unusedVariables false
open Go.RowKit Go.Maps

theorem al_f2 : Fld 2 1 2 := .inl ⟨rfl, pr_two, by omega, rfl⟩
def alB : List Bool := [false, true, true, true]
def alP : List Tm := [(1, [0, 1]), (1, [1, 0]), (1, [1, 1])]
def alQ : List Tm := [(1, [1])]
theorem al_terms : mlT (mlC 2 1 2 alB) 2 4 = [(0, [0, 0]), (1, [1, 0]), (1, [0, 1]), (1, [1, 1])] := by decide
theorem al_ris : Ris 2 2 alP := ⟨by decide, by decide, by decide⟩
theorem al_ex : ∀ t ∈ alP, Ex 2 t.2 := by
  intro t ht
  simp [alP] at ht
  rcases ht with rfl | rfl | rfl <;> exact ⟨rfl, by decide⟩
theorem al_cfs (e : List Nat) : cfs (addN 2 1) (mlT (mlC 2 1 2 alB) 2 4) e = cfs (addN 2 1) alP e := by
  rw [al_terms]
  by_cases h0 : e = [0, 0]
  · subst h0; decide
  · by_cases h1 : e = [1, 0]
    · subst h1; decide
    · by_cases h2 : e = [0, 1]
      · subst h2; decide
      · by_cases h3 : e = [1, 1]
        · subst h3; decide
        · rw [cfs_none, cfs_none]
          · intro t ht e'
            simp [alP] at ht
            rcases ht with rfl | rfl | rfl
            · exact h2 e'.symm
            · exact h1 e'.symm
            · exact h3 e'.symm
          · intro t ht e'
            simp at ht
            rcases ht with rfl | rfl | rfl | rfl
            · exact h0 e'.symm
            · exact h1 e'.symm
            · exact h2 e'.symm
            · exact h3 e'.symm
theorem al_eq {p : List Tm} (hr : Ris 2 2 p) (hc : ∀ e, cfs (addN 2 1) p e = cfs (addN 2 1) (mlT (mlC 2 1 2 alB) 2 4) e) : p = alP :=
  hr.ext al_f2.fl.toRng al_ris fun e => (hc e).trans (al_cfs e)
theorem itoa_small (i : Nat) (h : i < 10) : Lib.itoa i = [UInt8.ofNat (48 + i)] := by
  rw [Lib.itoa_nonneg, Lib.decDigits, dif_pos h]
theorem al_text : textP alP = [49, 42, 120, 49, 32, 43, 32, 49, 42, 120, 48, 32, 43, 32, 49, 42, 120, 48, 42, 120, 49] := by
  have h0 := itoa_small 0 (by omega)
  have h1 := itoa_small 1 (by omega)
  simp [textP, alP, catT, sepT, termT, expsT, expT]
  simp at h0 h1
  rw [h0, h1]
  decide
theorem al_q {p : List Tm} (hr : Ris 2 1 p) (hc : ∀ e, cfs (addN 2 1) p e = cfs (addN 2 1) (([(1, [3])] : List Tm).map (redT 2)) e) : p = alQ :=
  hr.ext al_f2.fl.toRng (⟨by decide, by decide, by decide⟩ : Ris 2 1 alQ) fun e => (hc e).trans (by rw [show ([(1, [3])] : List Tm).map (redT 2) = alQ by decide])

theorem alB_rd {w : World} {g : Nat} (h : w.heap[g]? = some (.cells #[.bool false, .bool true, .bool true, .bool true] 4 (0, 0))) : RdB w (some ⟨g, 0, none⟩) alB := fun k x hk => by
  refine ⟨_, rfl, ?_⟩
  match k, hk with
  | 0, hk => simp [alB] at hk; subst hk; simp [World.cell?, h, Addr.add]
  | 1, hk => simp [alB] at hk; subst hk; simp [World.cell?, h, Addr.add]
  | 2, hk => simp [alB] at hk; subst hk; simp [World.cell?, h, Addr.add]
  | 3, hk => simp [alB] at hk; subst hk; simp [World.cell?, h, Addr.add]
  | k + 4, hk => simp [alB] at hk
theorem one_rd {w : World} {g h' : Nat} (e : Nat) (h1 : w.cell? ⟨g, 0, none⟩ = some (.int .i64 1)) (h2 : w.cell? ⟨g, 1, none⟩ = some (.slice (some ⟨h', 0, none⟩) 1 1)) (h3 : w.cell? ⟨h', 0, none⟩ = some (.int .i64 (e : Int))) : RdP w (some ⟨g, 0, none⟩) (tms [(1, [e])]) := fun k t hk => by
  match k, hk with
  | 0, hk =>
    simp at hk
    subst hk
    refine ⟨g, 0, _, rfl, h1, h2, some ⟨h', 0, none⟩, 1, by simp [nz], ?_, by simp [nz]⟩
    intro k x hk
    match k, hk with
    | 0, hk =>
      simp [nz] at hk
      subst hk
      exact ⟨_, rfl, h3⟩
    | k + 1, hk => simp [nz] at hk
  | k + 1, hk => simp at hk
end Go.Proofs.YtcophfhnhlaonaaGreatDoor
namespace Go.Proofs.YtcophfhnhlaonaaGreatDoor
set_option linter.unusedVariables false
open Go.RowKit Go.Maps

end Go.Proofs.YtcophfhnhlaonaaGreatDoor
namespace Go.Proofs.YtcophfhnhlaonaaGreatDoor
set_option linter.unusedVariables false
open Go.RowKit Go.Maps

/-- The maximum of the sums of exponents, from a start. -/
def degL (d : Int) : List Tm → Int
  | [] => d
  | t :: p => degL (max d (t.2.sum : Nat)) p
theorem degL_snoc (d : Int) (p : List Tm) (t : Tm) : degL d (p ++ [t]) = max (degL d p) (t.2.sum : Nat) := by
  induction p generalizing d with
  | nil => rfl
  | cons s p ih => simp only [List.cons_append, degL]; exact ih _
def degP (p : List Tm) : Int := degL (-1) p
theorem degP_bound {n : Nat} {p : List Tm} (h : ∀ t ∈ p, Ex n t.2) (hn : n ≤ 80) (k : Nat) : -1 ≤ degP (p.take k) ∧ degP (p.take k) ≤ 5242800 := by
  have hs : ∀ e : List Nat, (∀ x ∈ e, x ≤ 65535) → e.sum ≤ 65535 * e.length := by
    intro e
    induction e with
    | nil => simp
    | cons x e ih => intro hx; have h1 := ih (fun y hy => hx y (by simp [hy])); have h2 := hx x (by simp); simp; omega
  have key : ∀ (l : List Tm) (d : Int), (∀ t ∈ l, Ex n t.2) → -1 ≤ d → d ≤ 5242800 → -1 ≤ degL d l ∧ degL d l ≤ 5242800 := by
    intro l
    induction l with
    | nil => intro d _ h1 h2; exact ⟨h1, h2⟩
    | cons t l ih =>
      intro d hx h1 h2
      have hx0 := hx t (by simp)
      have := hs t.2 hx0.2
      rw [hx0.1] at this
      exact ih _ (fun s hs => hx s (by simp [hs])) (by omega) (by omega)
  exact key _ _ (fun t ht => h t (List.mem_of_mem_take ht)) (by omega) (by omega)

theorem sum_take_succ {e : List Nat} {k x : Nat} (h : e[k]? = some x) : (e.take (k + 1)).sum = (e.take k).sum + x := by
  rw [List.take_add_one, h]; simp
theorem sum_take_le {n : Nat} {e : List Nat} (h : Ex n e) (k : Nat) : (e.take k).sum ≤ 65535 * k := by
  induction k with
  | zero => simp
  | succ k ih =>
    cases hk : e[k]? with
    | none =>
      rw [List.take_add_one, hk]; simp; omega
    | some x =>
      rw [sum_take_succ hk]
      have := h.2 x (List.mem_of_getElem? hk)
      omega

end Go.Proofs.YtcophfhnhlaonaaGreatDoor
