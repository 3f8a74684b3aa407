/-
  Circuits, plainly: gates, what is asked of them, a fold that keeps what came before; a row of gates in memory.
-/
import Derived.Test.YtcophfhnhlaonaaDoorUv
namespace Go.Proofs.YtcophfhnhlaonaaDoor
set_option linter.unusedVariables false
open Go.RowKit

/-- A gate. -/
structure Gat where
  k : Int
  n : Int
  ks : List Int

/-- What the kind, the number and the number of kids must be, for so many inputs. -/
def shpN (inp k n : Int) (len : Nat) : Bool :=
  if k = 0 then decide (0 ≤ n) && decide (n < inp) && decide (len = 0)
  else if k = 1 then decide (0 ≤ n) && decide (n < 2) && decide (len = 0)
  else if k = 2 then decide (0 ≤ n) && decide (n < 1) && decide (len = 1)
  else if k = 3 ∨ k = 4 ∨ k = 5 then decide (0 ≤ n) && decide (n < 1) && decide (len = 2)
  else false
def kidN (e : Nat) (x : Int) : Bool := decide (0 ≤ x) && decide (x < (e : Int))
def kidsN (e : Nat) (l : List Int) : Bool := l.all (kidN e)
def okG (inp : Int) (e : Nat) (g : Gat) : Bool := shpN inp g.k g.n g.ks.length && kidsN e g.ks
def gokL (inp : Int) : List Gat → Nat → Bool
  | [], _ => true
  | g :: gs, i => okG inp i g && gokL inp gs (i + 1)
def okC (inp : Int) (gs : List Gat) : Bool := decide (0 ≤ inp) && decide (inp ≤ 16) && decide (1 ≤ gs.length) && decide (gs.length ≤ 20000) && gokL inp gs 0

theorem gokL_append (inp : Int) : ∀ (xs ys : List Gat) (i : Nat), gokL inp (xs ++ ys) i = (gokL inp xs i && gokL inp ys (i + xs.length))
  | [], ys, i => by simp [gokL]
  | x :: xs, ys, i => by
    rw [List.cons_append, gokL, gokL, gokL_append inp xs ys (i + 1), List.length_cons, Bool.and_assoc, show i + 1 + xs.length = i + (xs.length + 1) by omega]
theorem gokL_next {inp : Int} {gs : List Gat} {i : Nat} {g : Gat} (hg : gs[i]? = some g) : gokL inp (gs.take (i + 1)) 0 = (gokL inp (gs.take i) 0 && okG inp i g) := by
  have hi : i < gs.length := (List.getElem?_eq_some_iff.1 hg).1
  rw [List.take_add_one, hg, gokL_append]
  simp only [Option.toList_some, gokL, Bool.and_true]
  rw [List.length_take, Nat.min_eq_left (by omega), Nat.zero_add]
theorem gokL_dead {inp : Int} {gs : List Gat} {i : Nat} (h : gokL inp (gs.take i) 0 = false) : gokL inp gs 0 = false := by
  have := gokL_append inp (gs.take i) (gs.drop i) 0
  rw [List.take_append_drop, h] at this
  simpa using this
theorem gokL_at {inp : Int} : ∀ {gs : List Gat} {i j : Nat} {g : Gat}, gokL inp gs i = true → gs[j]? = some g → okG inp (i + j) g = true
  | [], _, _, _, _, hj => by simp at hj
  | x :: xs, i, 0, g, h, hj => by
    simp at hj
    subst hj
    rw [gokL, Bool.and_eq_true] at h
    exact h.1
  | x :: xs, i, j + 1, g, h, hj => by
    rw [gokL, Bool.and_eq_true] at h
    have := gokL_at h.2 (j := j) (by simpa using hj)
    rw [show i + 1 + j = i + (j + 1) by omega] at this
    exact this
theorem gokL_of {inp : Int} : ∀ {gs : List Gat} {i : Nat}, (∀ j g, gs[j]? = some g → okG inp (i + j) g = true) → gokL inp gs i = true
  | [], _, _ => rfl
  | x :: xs, i, h => by
    rw [gokL, Bool.and_eq_true]
    refine ⟨h 0 x rfl, gokL_of fun j g hj => ?_⟩
    have := h (j + 1) g (by simpa using hj)
    rw [show i + (j + 1) = i + 1 + j by omega] at this
    exact this
theorem okC_iff {inp : Int} {gs : List Gat} : okC inp gs = true ↔ 0 ≤ inp ∧ inp ≤ 16 ∧ 1 ≤ gs.length ∧ gs.length ≤ 20000 ∧ gokL inp gs 0 = true := by
  simp only [okC, Bool.and_eq_true, decide_eq_true_eq, and_assoc]
theorem okC_at {inp : Int} {gs : List Gat} {j : Nat} {g : Gat} (h : okC inp gs = true) (hj : gs[j]? = some g) : okG inp j g = true := by
  have := gokL_at (okC_iff.1 h).2.2.2.2 hj
  rwa [Nat.zero_add] at this

/-- What a valid gate is. -/
theorem okG_cases {inp : Int} {e : Nat} {g : Gat} (h : okG inp e g = true) :
    (g.k = 0 ∧ 0 ≤ g.n ∧ g.n < inp ∧ g.ks = []) ∨ (g.k = 1 ∧ (g.n = 0 ∨ g.n = 1) ∧ g.ks = []) ∨ (∃ a : Nat, g.k = 2 ∧ g.n = 0 ∧ g.ks = [(a : Int)] ∧ a < e) ∨ (∃ a b : Nat, (g.k = 3 ∨ g.k = 4 ∨ g.k = 5) ∧ g.n = 0 ∧ g.ks = [(a : Int), (b : Int)] ∧ a < e ∧ b < e) := by
  obtain ⟨k, n, ks⟩ := g
  simp only [okG, shpN, Bool.and_eq_true] at h
  obtain ⟨h1, h2⟩ := h
  simp only [kidsN, List.all_eq_true, kidN, Bool.and_eq_true, decide_eq_true_eq] at h2
  split at h1
  · simp only [Bool.and_eq_true, decide_eq_true_eq] at h1
    exact .inl ⟨by assumption, h1.1.1, h1.1.2, List.eq_nil_of_length_eq_zero h1.2⟩
  · split at h1
    · simp only [Bool.and_eq_true, decide_eq_true_eq] at h1
      exact .inr (.inl ⟨by assumption, by dsimp only; omega, List.eq_nil_of_length_eq_zero h1.2⟩)
    · split at h1
      · simp only [Bool.and_eq_true, decide_eq_true_eq] at h1
        obtain ⟨x, hx⟩ := List.length_eq_one_iff.1 h1.2
        subst hx
        have := h2 x (by simp)
        exact .inr (.inr (.inl ⟨x.toNat, by assumption, by dsimp only; omega, by simp; omega, by omega⟩))
      · split at h1
        · simp only [Bool.and_eq_true, decide_eq_true_eq] at h1
          obtain ⟨x, y, hx⟩ := length_two h1.2
          subst hx
          have := h2 x (by simp)
          have := h2 y (by simp)
          exact .inr (.inr (.inr ⟨x.toNat, y.toNat, by assumption, by dsimp only; omega, by simp; omega, by omega, by omega⟩))
        · cases h1

/-- A fold over a list whose step sees what all earlier elements gave. -/
def runL {α : Type} (f : List α → Gat → α) : List Gat → List α → List α
  | [], acc => acc
  | g :: gs, acc => runL f gs (acc ++ [f acc g])
section
variable {α : Type} {f : List α → Gat → α}
theorem runL_append : ∀ (xs ys : List Gat) (acc : List α), runL f (xs ++ ys) acc = runL f ys (runL f xs acc)
  | [], ys, acc => rfl
  | x :: xs, ys, acc => by
    rw [List.cons_append, runL, runL, runL_append xs ys]
theorem runL_length : ∀ (xs : List Gat) (acc : List α), (runL f xs acc).length = acc.length + xs.length
  | [], acc => by simp [runL]
  | x :: xs, acc => by
    rw [runL, runL_length xs]
    simp; omega
theorem runL_next {gs : List Gat} {i : Nat} {g : Gat} (hg : gs[i]? = some g) (acc : List α) : runL f (gs.take (i + 1)) acc = runL f (gs.take i) acc ++ [f (runL f (gs.take i) acc) g] := by
  rw [List.take_add_one, hg, runL_append]
  rfl
theorem runL_prefix : ∀ (xs : List Gat) (acc : List α), ∃ l, runL f xs acc = acc ++ l
  | [], acc => ⟨[], by simp [runL]⟩
  | x :: xs, acc => by
    obtain ⟨l, hl⟩ := runL_prefix xs (acc ++ [f acc x])
    exact ⟨f acc x :: l, by rw [runL, hl]; simp⟩
theorem runL_len (gs : List Gat) (i : Nat) (hi : i ≤ gs.length) : (runL f (gs.take i) []).length = i := by
  rw [runL_length, List.length_nil, List.length_take, Nat.min_eq_left hi, Nat.zero_add]
theorem runL_take (gs : List Gat) (i : Nat) (hi : i ≤ gs.length) : (runL f gs []).take i = runL f (gs.take i) [] := by
  have h := runL_append (f := f) (gs.take i) (gs.drop i) []
  rw [List.take_append_drop] at h
  obtain ⟨l, hl⟩ := runL_prefix (f := f) (gs.drop i) (runL f (gs.take i) [])
  rw [h, hl, List.take_append_of_le_length (by rw [runL_len gs i hi]; omega), List.take_of_length_le (by rw [runL_len gs i hi]; omega)]
theorem runL_at {gs : List Gat} {i : Nat} {g : Gat} (hg : gs[i]? = some g) : (runL f gs [])[i]? = some (f (runL f (gs.take i) []) g) := by
  have hi : i < gs.length := (List.getElem?_eq_some_iff.1 hg).1
  have h : ((runL f gs []).take (i + 1))[i]? = (runL f gs [])[i]? := by rw [List.getElem?_take, if_pos (by omega)]
  rw [← h, runL_take gs (i + 1) (by omega), runL_next hg, List.getElem?_append_right (by rw [runL_len gs i (by omega)]; omega), runL_len gs i (by omega), Nat.sub_self]
  rfl
end

/-- A row that is filled from the left: the rest is z. -/
def rowZ {α : Type} (l : List α) (n : Nat) (z : α) : List α := l ++ List.replicate (n - l.length) z
section
variable {α : Type} {l : List α} {n : Nat} {z : α}
theorem rowZ_nil : rowZ ([] : List α) n z = List.replicate n z := by simp [rowZ]
theorem rowZ_full (h : l.length = n) : rowZ l n z = l := by simp [rowZ, h]
theorem rowZ_len (h : l.length ≤ n) : (rowZ l n z).length = n := by simp [rowZ]; omega
theorem rowZ_at {i : Nat} {x : α} (h : l[i]? = some x) : (rowZ l n z)[i]? = some x := by
  have hi := (List.getElem?_eq_some_iff.1 h).1
  rw [rowZ, List.getElem?_append_left hi, h]
theorem rowZ_cur (h : l.length < n) : (rowZ l n z)[l.length]? = some z := by
  rw [rowZ, List.getElem?_append_right (by omega), Nat.sub_self, List.getElem?_replicate, if_pos (by omega)]
theorem rowZ_next (h : l.length < n) (x : α) : (rowZ l n z).set l.length x = rowZ (l ++ [x]) n z := by
  obtain ⟨m, hm⟩ : ∃ m, n - l.length = m + 1 := ⟨n - l.length - 1, by omega⟩
  rw [rowZ, rowZ, List.set_append_right _ _ (by omega), Nat.sub_self, hm, List.length_append, List.length_singleton, show n - (l.length + 1) = m by omega, List.replicate_succ, List.set_cons_zero, List.append_assoc]
  rfl
end

/-- The greatest of the numbers of kids, from m on. -/
def greatN (ds : List Nat) : List Int → Nat → Nat
  | [], m => m
  | x :: xs, m => greatN ds xs (max m (ds[x.toNat]?.getD 0))
theorem greatN_append (ds : List Nat) : ∀ (xs ys : List Int) (m : Nat), greatN ds (xs ++ ys) m = greatN ds ys (greatN ds xs m)
  | [], ys, m => rfl
  | x :: xs, ys, m => by rw [List.cons_append, greatN, greatN, greatN_append]
theorem greatN_next {ds : List Nat} {ks : List Int} {i m : Nat} {x : Int} (hx : ks[i]? = some x) : greatN ds (ks.take (i + 1)) m = max (greatN ds (ks.take i) m) (ds[x.toNat]?.getD 0) := by
  rw [List.take_add_one, hx, greatN_append]
  rfl
theorem greatN_le {ds : List Nat} {B : Nat} (hB : ∀ d ∈ ds, d ≤ B) : ∀ (ks : List Int) (m : Nat), m ≤ B → greatN ds ks m ≤ B
  | [], m, h => h
  | x :: xs, m, h => by
    rw [greatN]
    refine greatN_le hB xs _ (Nat.max_le.2 ⟨h, ?_⟩)
    cases hx : ds[x.toNat]? with
    | none => simp
    | some d => exact hB d (List.mem_of_getElem? hx)
/-- The depths of gates. -/
def depG (ds : List Nat) (g : Gat) : Nat := depAt fSh g.k + greatN ds g.ks 0
def depsL (gs : List Gat) : List Nat := runL depG gs []
theorem deps_le : ∀ (gs : List Gat) (acc : List Nat) (B : Nat), (∀ d ∈ acc, d ≤ B) → ∀ d ∈ runL depG gs acc, d ≤ B + 2 * gs.length
  | [], acc, B, h => fun d hd => by simpa using h d hd
  | g :: gs, acc, B, h => fun d hd => by
    rw [runL] at hd
    have := deps_le gs (acc ++ [depG acc g]) (B + 2) (fun x hx => by
      simp only [List.mem_append, List.mem_singleton] at hx
      rcases hx with hx | rfl
      · have := h x hx; omega
      · have h1 := greatN_le h g.ks 0 (Nat.zero_le _)
        have h2 : depAt fSh g.k ≤ 2 := depAt_le (by decide) g.k
        unfold depG
        omega) d hd
    rw [List.length_cons]
    omega

/-- A row of gates behind a slice's address. -/
def RdG (w : World) (A : Option Addr) (gs : List Gat) : Prop :=
  ∀ i g, gs[i]? = some g → ∃ b off u, A = some ⟨b, off, none⟩ ∧ w.cell? ⟨b, off + i * 3, none⟩ = some (.int .i64 g.k) ∧ w.cell? ⟨b, off + i * 3 + 1, none⟩ = some (.int .i64 g.n) ∧ w.cell? ⟨b, off + i * 3 + 2, none⟩ = some u ∧ SlR w u g.ks
theorem RdG.below {w w' : World} {A : Option Addr} {gs : List Gat} (h : RdG w A gs) (hb : Below w.heap.size w w') : RdG w' A gs := fun k g hk => by
  obtain ⟨b, off, u, ha, h1, h2, h3, h4⟩ := h k g hk
  exact ⟨b, off, u, ha, (hb.cell (World.block_lt_of_cell? w _ h1)).trans h1, (hb.cell (World.block_lt_of_cell? w _ h2)).trans h2, (hb.cell (World.block_lt_of_cell? w _ h3)).trans h3, h4.below hb⟩
/-- A circuit in memory. -/
def CirV (w : World) (v : Value) (inp : Int) (gs : List Gat) : Prop := ∃ A c, v = .agg #[.int .i64 inp, .slice A gs.length c] ∧ RdG w A gs ∧ gs.length ≤ 1152921504606846976
theorem CirV.below {w w' : World} {v : Value} {inp : Int} {gs : List Gat} (h : CirV w v inp gs) (hb : Below w.heap.size w w') : CirV w' v inp gs := by
  obtain ⟨A, c, e, hr, hl⟩ := h
  exact ⟨A, c, e, hr.below hb, hl⟩
end Go.Proofs.YtcophfhnhlaonaaDoor
