/-
  Joined from Cia, Cib, Cic, Cid: see there.
-/
import Derived.Test.YtcophfhnhlaonaaGreatDoorUv
namespace Go.Proofs.YtcophfhnhlaonaaGreatDoor
set_option linter.unusedVariables false
open Go.RowKit

/-- A gate. -/
structure Gat where
  k : Int
  n : Int
  ks : List Int

/-- What the kind, the number and the number of kids must be, for so many inputs. -/
def shpN (inp k n : Int) (len : Nat) : Bool :=
  if k = 0 then decide (0 ≤ n) && decide (n < inp) && decide (len = 0)
  else if k = 1 then decide (0 ≤ n) && decide (n < 2) && decide (len = 0)
  else if k = 2 then decide (0 ≤ n) && decide (n < 1) && decide (len = 1)
  else if k = 3 ∨ k = 4 ∨ k = 5 then decide (0 ≤ n) && decide (n < 1) && decide (len = 2)
  else false
def kidN (e : Nat) (x : Int) : Bool := decide (0 ≤ x) && decide (x < (e : Int))
def kidsN (e : Nat) (l : List Int) : Bool := l.all (kidN e)
def okG (inp : Int) (e : Nat) (g : Gat) : Bool := shpN inp g.k g.n g.ks.length && kidsN e g.ks
def gokL (inp : Int) : List Gat → Nat → Bool
  | [], _ => true
  | g :: gs, i => okG inp i g && gokL inp gs (i + 1)
def okC (inp : Int) (gs : List Gat) : Bool := decide (0 ≤ inp) && decide (inp ≤ 16) && decide (1 ≤ gs.length) && decide (gs.length ≤ 20000) && gokL inp gs 0

theorem gokL_append (inp : Int) : ∀ (xs ys : List Gat) (i : Nat), gokL inp (xs ++ ys) i = (gokL inp xs i && gokL inp ys (i + xs.length))
  | [], ys, i => by simp [gokL]
  | x :: xs, ys, i => by
    rw [List.cons_append, gokL, gokL, gokL_append inp xs ys (i + 1), List.length_cons, Bool.and_assoc, show i + 1 + xs.length = i + (xs.length + 1) by omega]
theorem gokL_next {inp : Int} {gs : List Gat} {i : Nat} {g : Gat} (hg : gs[i]? = some g) : gokL inp (gs.take (i + 1)) 0 = (gokL inp (gs.take i) 0 && okG inp i g) := by
  have hi : i < gs.length := (List.getElem?_eq_some_iff.1 hg).1
  rw [List.take_add_one, hg, gokL_append]
  simp only [Option.toList_some, gokL, Bool.and_true]
  rw [List.length_take, Nat.min_eq_left (by omega), Nat.zero_add]
theorem gokL_dead {inp : Int} {gs : List Gat} {i : Nat} (h : gokL inp (gs.take i) 0 = false) : gokL inp gs 0 = false := by
  have := gokL_append inp (gs.take i) (gs.drop i) 0
  rw [List.take_append_drop, h] at this
  simpa using this
theorem gokL_at {inp : Int} : ∀ {gs : List Gat} {i j : Nat} {g : Gat}, gokL inp gs i = true → gs[j]? = some g → okG inp (i + j) g = true
  | [], _, _, _, _, hj => by simp at hj
  | x :: xs, i, 0, g, h, hj => by
    simp at hj
    subst hj
    rw [gokL, Bool.and_eq_true] at h
    exact h.1
  | x :: xs, i, j + 1, g, h, hj => by
    rw [gokL, Bool.and_eq_true] at h
    have := gokL_at h.2 (j := j) (by simpa using hj)
    rw [show i + 1 + j = i + (j + 1) by omega] at this
    exact this
theorem gokL_of {inp : Int} : ∀ {gs : List Gat} {i : Nat}, (∀ j g, gs[j]? = some g → okG inp (i + j) g = true) → gokL inp gs i = true
  | [], _, _ => rfl
  | x :: xs, i, h => by
    rw [gokL, Bool.and_eq_true]
    refine ⟨h 0 x rfl, gokL_of fun j g hj => ?_⟩
    have := h (j + 1) g (by simpa using hj)
    rw [show i + (j + 1) = i + 1 + j by omega] at this
    exact this
theorem okC_iff {inp : Int} {gs : List Gat} : okC inp gs = true ↔ 0 ≤ inp ∧ inp ≤ 16 ∧ 1 ≤ gs.length ∧ gs.length ≤ 20000 ∧ gokL inp gs 0 = true := by
  simp only [okC, Bool.and_eq_true, decide_eq_true_eq, and_assoc]
theorem okC_at {inp : Int} {gs : List Gat} {j : Nat} {g : Gat} (h : okC inp gs = true) (hj : gs[j]? = some g) : okG inp j g = true := by
  have := gokL_at (okC_iff.1 h).2.2.2.2 hj
  rwa [Nat.zero_add] at this

/-- What a valid gate is. -/
theorem okG_cases {inp : Int} {e : Nat} {g : Gat} (h : okG inp e g = true) :
    (g.k = 0 ∧ 0 ≤ g.n ∧ g.n < inp ∧ g.ks = []) ∨ (g.k = 1 ∧ (g.n = 0 ∨ g.n = 1) ∧ g.ks = []) ∨ (∃ a : Nat, g.k = 2 ∧ g.n = 0 ∧ g.ks = [(a : Int)] ∧ a < e) ∨ (∃ a b : Nat, (g.k = 3 ∨ g.k = 4 ∨ g.k = 5) ∧ g.n = 0 ∧ g.ks = [(a : Int), (b : Int)] ∧ a < e ∧ b < e) := by
  obtain ⟨k, n, ks⟩ := g
  simp only [okG, shpN, Bool.and_eq_true] at h
  obtain ⟨h1, h2⟩ := h
  simp only [kidsN, List.all_eq_true, kidN, Bool.and_eq_true, decide_eq_true_eq] at h2
  split at h1
  · simp only [Bool.and_eq_true, decide_eq_true_eq] at h1
    exact .inl ⟨by assumption, h1.1.1, h1.1.2, List.eq_nil_of_length_eq_zero h1.2⟩
  · split at h1
    · simp only [Bool.and_eq_true, decide_eq_true_eq] at h1
      exact .inr (.inl ⟨by assumption, by dsimp only; omega, List.eq_nil_of_length_eq_zero h1.2⟩)
    · split at h1
      · simp only [Bool.and_eq_true, decide_eq_true_eq] at h1
        obtain ⟨x, hx⟩ := List.length_eq_one_iff.1 h1.2
        subst hx
        have := h2 x (by simp)
        exact .inr (.inr (.inl ⟨x.toNat, by assumption, by dsimp only; omega, by simp; omega, by omega⟩))
      · split at h1
        · simp only [Bool.and_eq_true, decide_eq_true_eq] at h1
          obtain ⟨x, y, hx⟩ := length_two h1.2
          subst hx
          have := h2 x (by simp)
          have := h2 y (by simp)
          exact .inr (.inr (.inr ⟨x.toNat, y.toNat, by assumption, by dsimp only; omega, by simp; omega, by omega, by omega⟩))
        · cases h1

/-- A fold over a list whose step sees what all earlier elements gave. -/
def runL {α : Type} (f : List α → Gat → α) : List Gat → List α → List α
  | [], acc => acc
  | g :: gs, acc => runL f gs (acc ++ [f acc g])
section
variable {α : Type} {f : List α → Gat → α}
theorem runL_append : ∀ (xs ys : List Gat) (acc : List α), runL f (xs ++ ys) acc = runL f ys (runL f xs acc)
  | [], ys, acc => rfl
  | x :: xs, ys, acc => by
    rw [List.cons_append, runL, runL, runL_append xs ys]
theorem runL_length : ∀ (xs : List Gat) (acc : List α), (runL f xs acc).length = acc.length + xs.length
  | [], acc => by simp [runL]
  | x :: xs, acc => by
    rw [runL, runL_length xs]
    simp; omega
theorem runL_next {gs : List Gat} {i : Nat} {g : Gat} (hg : gs[i]? = some g) (acc : List α) : runL f (gs.take (i + 1)) acc = runL f (gs.take i) acc ++ [f (runL f (gs.take i) acc) g] := by
  rw [List.take_add_one, hg, runL_append]
  rfl
theorem runL_prefix : ∀ (xs : List Gat) (acc : List α), ∃ l, runL f xs acc = acc ++ l
  | [], acc => ⟨[], by simp [runL]⟩
  | x :: xs, acc => by
    obtain ⟨l, hl⟩ := runL_prefix xs (acc ++ [f acc x])
    exact ⟨f acc x :: l, by rw [runL, hl]; simp⟩
theorem runL_len (gs : List Gat) (i : Nat) (hi : i ≤ gs.length) : (runL f (gs.take i) []).length = i := by
  rw [runL_length, List.length_nil, List.length_take, Nat.min_eq_left hi, Nat.zero_add]
theorem runL_take (gs : List Gat) (i : Nat) (hi : i ≤ gs.length) : (runL f gs []).take i = runL f (gs.take i) [] := by
  have h := runL_append (f := f) (gs.take i) (gs.drop i) []
  rw [List.take_append_drop] at h
  obtain ⟨l, hl⟩ := runL_prefix (f := f) (gs.drop i) (runL f (gs.take i) [])
  rw [h, hl, List.take_append_of_le_length (by rw [runL_len gs i hi]; omega), List.take_of_length_le (by rw [runL_len gs i hi]; omega)]
theorem runL_at {gs : List Gat} {i : Nat} {g : Gat} (hg : gs[i]? = some g) : (runL f gs [])[i]? = some (f (runL f (gs.take i) []) g) := by
  have hi : i < gs.length := (List.getElem?_eq_some_iff.1 hg).1
  have h : ((runL f gs []).take (i + 1))[i]? = (runL f gs [])[i]? := by rw [List.getElem?_take, if_pos (by omega)]
  rw [← h, runL_take gs (i + 1) (by omega), runL_next hg, List.getElem?_append_right (by rw [runL_len gs i (by omega)]; omega), runL_len gs i (by omega), Nat.sub_self]
  rfl
end

/-- A row that is filled from the left: the rest is z. -/
def rowZ {α : Type} (l : List α) (n : Nat) (z : α) : List α := l ++ List.replicate (n - l.length) z
section
variable {α : Type} {l : List α} {n : Nat} {z : α}
theorem rowZ_nil : rowZ ([] : List α) n z = List.replicate n z := by simp [rowZ]
theorem rowZ_full (h : l.length = n) : rowZ l n z = l := by simp [rowZ, h]
theorem rowZ_len (h : l.length ≤ n) : (rowZ l n z).length = n := by simp [rowZ]; omega
theorem rowZ_at {i : Nat} {x : α} (h : l[i]? = some x) : (rowZ l n z)[i]? = some x := by
  have hi := (List.getElem?_eq_some_iff.1 h).1
  rw [rowZ, List.getElem?_append_left hi, h]
theorem rowZ_cur (h : l.length < n) : (rowZ l n z)[l.length]? = some z := by
  rw [rowZ, List.getElem?_append_right (by omega), Nat.sub_self, List.getElem?_replicate, if_pos (by omega)]
theorem rowZ_next (h : l.length < n) (x : α) : (rowZ l n z).set l.length x = rowZ (l ++ [x]) n z := by
  obtain ⟨m, hm⟩ : ∃ m, n - l.length = m + 1 := ⟨n - l.length - 1, by omega⟩
  rw [rowZ, rowZ, List.set_append_right _ _ (by omega), Nat.sub_self, hm, List.length_append, List.length_singleton, show n - (l.length + 1) = m by omega, List.replicate_succ, List.set_cons_zero, List.append_assoc]
  rfl
end

/-- The greatest of the numbers of kids, from m on. -/
def greatN (ds : List Nat) : List Int → Nat → Nat
  | [], m => m
  | x :: xs, m => greatN ds xs (max m (ds[x.toNat]?.getD 0))
theorem greatN_append (ds : List Nat) : ∀ (xs ys : List Int) (m : Nat), greatN ds (xs ++ ys) m = greatN ds ys (greatN ds xs m)
  | [], ys, m => rfl
  | x :: xs, ys, m => by rw [List.cons_append, greatN, greatN, greatN_append]
theorem greatN_next {ds : List Nat} {ks : List Int} {i m : Nat} {x : Int} (hx : ks[i]? = some x) : greatN ds (ks.take (i + 1)) m = max (greatN ds (ks.take i) m) (ds[x.toNat]?.getD 0) := by
  rw [List.take_add_one, hx, greatN_append]
  rfl
theorem greatN_le {ds : List Nat} {B : Nat} (hB : ∀ d ∈ ds, d ≤ B) : ∀ (ks : List Int) (m : Nat), m ≤ B → greatN ds ks m ≤ B
  | [], m, h => h
  | x :: xs, m, h => by
    rw [greatN]
    refine greatN_le hB xs _ (Nat.max_le.2 ⟨h, ?_⟩)
    cases hx : ds[x.toNat]? with
    | none => simp
    | some d => exact hB d (List.mem_of_getElem? hx)
/-- The depths of gates. -/
def depG (ds : List Nat) (g : Gat) : Nat := depAt fSh g.k + greatN ds g.ks 0
def depsL (gs : List Gat) : List Nat := runL depG gs []
theorem deps_le : ∀ (gs : List Gat) (acc : List Nat) (B : Nat), (∀ d ∈ acc, d ≤ B) → ∀ d ∈ runL depG gs acc, d ≤ B + 2 * gs.length
  | [], acc, B, h => fun d hd => by simpa using h d hd
  | g :: gs, acc, B, h => fun d hd => by
    rw [runL] at hd
    have := deps_le gs (acc ++ [depG acc g]) (B + 2) (fun x hx => by
      simp only [List.mem_append, List.mem_singleton] at hx
      rcases hx with hx | rfl
      · have := h x hx; omega
      · have h1 := greatN_le h g.ks 0 (Nat.zero_le _)
        have h2 : depAt fSh g.k ≤ 2 := depAt_le (by decide) g.k
        unfold depG
        omega) d hd
    rw [List.length_cons]
    omega

/-- A row of gates behind a slice's address. -/
def RdG (w : World) (A : Option Addr) (gs : List Gat) : Prop :=
  ∀ i g, gs[i]? = some g → ∃ b off u, A = some ⟨b, off, none⟩ ∧ w.cell? ⟨b, off + i * 3, none⟩ = some (.int .i64 g.k) ∧ w.cell? ⟨b, off + i * 3 + 1, none⟩ = some (.int .i64 g.n) ∧ w.cell? ⟨b, off + i * 3 + 2, none⟩ = some u ∧ SlR w u g.ks
theorem RdG.below {w w' : World} {A : Option Addr} {gs : List Gat} (h : RdG w A gs) (hb : Below w.heap.size w w') : RdG w' A gs := fun k g hk => by
  obtain ⟨b, off, u, ha, h1, h2, h3, h4⟩ := h k g hk
  exact ⟨b, off, u, ha, (hb.cell (World.block_lt_of_cell? w _ h1)).trans h1, (hb.cell (World.block_lt_of_cell? w _ h2)).trans h2, (hb.cell (World.block_lt_of_cell? w _ h3)).trans h3, h4.below hb⟩
/-- A circuit in memory. -/
def CirV (w : World) (v : Value) (inp : Int) (gs : List Gat) : Prop := ∃ A c, v = .agg #[.int .i64 inp, .slice A gs.length c] ∧ RdG w A gs ∧ gs.length ≤ 1152921504606846976
theorem CirV.below {w w' : World} {v : Value} {inp : Int} {gs : List Gat} (h : CirV w v inp gs) (hb : Below w.heap.size w w') : CirV w' v inp gs := by
  obtain ⟨A, c, e, hr, hl⟩ := h
  exact ⟨A, c, e, hr.below hb, hl⟩
end Go.Proofs.YtcophfhnhlaonaaGreatDoor
namespace Go.Proofs.YtcophfhnhlaonaaGreatDoor
set_option linter.unusedVariables false
open Go.RowKit

theorem shp0 (inp n : Int) (L : Nat) : shpN inp 0 n L = (decide (0 ≤ n) && decide (n < inp) && decide (L = 0)) := by rw [shpN, if_pos rfl]
theorem shp1 (inp n : Int) (L : Nat) : shpN inp 1 n L = (decide (0 ≤ n) && decide (n < 2) && decide (L = 0)) := by rw [shpN, if_neg (by decide), if_pos rfl]
theorem shp2 (inp n : Int) (L : Nat) : shpN inp 2 n L = (decide (0 ≤ n) && decide (n < 1) && decide (L = 1)) := by rw [shpN, if_neg (by decide), if_neg (by decide), if_pos rfl]
theorem shp3 (inp n : Int) (L : Nat) : shpN inp 3 n L = (decide (0 ≤ n) && decide (n < 1) && decide (L = 2)) := by rw [shpN, if_neg (by decide), if_neg (by decide), if_neg (by decide), if_pos (by decide)]
theorem shp4 (inp n : Int) (L : Nat) : shpN inp 4 n L = (decide (0 ≤ n) && decide (n < 1) && decide (L = 2)) := by rw [shpN, if_neg (by decide), if_neg (by decide), if_neg (by decide), if_pos (by decide)]
theorem shp5 (inp n : Int) (L : Nat) : shpN inp 5 n L = (decide (0 ≤ n) && decide (n < 1) && decide (L = 2)) := by rw [shpN, if_neg (by decide), if_neg (by decide), if_neg (by decide), if_pos (by decide)]
theorem shpX {inp k n : Int} {L : Nat} (h0 : k ≠ 0) (h1 : k ≠ 1) (h2 : k ≠ 2) (h3 : k ≠ 3) (h4 : k ≠ 4) (h5 : k ≠ 5) : shpN inp k n L = false := by rw [shpN, if_neg h0, if_neg h1, if_neg h2, if_neg (by omega)]
theorem kidsN_next {e : Nat} {ks : List Int} {i : Nat} {x : Int} (hx : ks[i]? = some x) : kidsN e (ks.take (i + 1)) = (kidsN e (ks.take i) && kidN e x) := by
  rw [List.take_add_one, hx]
  simp [kidsN]
theorem kidsN_dead {e : Nat} {ks : List Int} {i : Nat} {x : Int} (hx : ks[i]? = some x) (h : kidN e x = false) : kidsN e ks = false := by
  cases hb : kidsN e ks with
  | false => rfl
  | true =>
    rw [kidsN, List.all_eq_true] at hb
    rw [hb x (List.mem_of_getElem? hx)] at h
    cases h


set_option maxRecDepth 100000 in
set_option maxHeartbeats 8000000 in
theorem isGate_ok (inp : Int) (e : Nat) (k n : Int) (K : Option Addr) (c : Nat) (ks : List Int) (w : World) (hK : RdI w K ks) (hl : ks.length ≤ 1152921504606846976) :
    Calls Tryz.prog 66 #[.agg #[.int .i64 k, .int .i64 n, .slice K ks.length c], .int .i64 inp, .int .i64 (e : Int)] w fun r w' => r = .returned (.bool (okG inp e ⟨k, n, ks⟩)) ∧ Below w.heap.size w w' := by
  have hb1 := below1 w (.cells #[.int .i64 k, .int .i64 n, .slice K ks.length c] 78)
  have HB1 := Lib.hid hb1
  have HK := Lib.hid hK
  have HG : Hid (okG inp e ⟨k, n, ks⟩ = (shpN inp k n ks.length && kidsN e ks)) := Lib.hid rfl
  clear hb1 hK
  by_cases h0 : k = 0
  · obtain rfl := h0
    have HS : Hid (shpN inp 0 n ks.length = (decide (0 ≤ n) && decide (n < inp) && decide (ks.length = 0))) := Lib.hid (shp0 _ _ _)
    by_cases t0 : n < 0
    · have HE : Hid (okG inp e ⟨0, n, ks⟩ = false) := Lib.hid (by rw [HG.out, HS.out, decide_eq_false (by omega : ¬ (0 ≤ n))]; rfl)
      have d0 : decide (n < 0) = true := decide_eq_true t0
      clear t0
      go_enter Tryz.func66, Tryz.ntmps66
      go_wp2_with fail
      go_ret
      exact ⟨by rw [HE.out]; rfl, HB1.out⟩
    · have d0 : decide (n < 0) = false := decide_eq_false t0
      by_cases t1 : inp ≤ n
      · have HE : Hid (okG inp e ⟨0, n, ks⟩ = false) := Lib.hid (by rw [HG.out, HS.out, decide_eq_false (by omega : ¬ (n < inp)), Bool.and_false]; rfl)
        have d1 : decide (inp ≤ n) = true := decide_eq_true t1
        clear t0 t1
        go_enter Tryz.func66, Tryz.ntmps66
        go_wp2_with fail
        go_ret
        exact ⟨by rw [HE.out]; rfl, HB1.out⟩
      · have d1 : decide (inp ≤ n) = false := decide_eq_false t1
        by_cases t2 : ks.length = 0
        · have HE : Hid (okG inp e ⟨0, n, ks⟩ = kidsN e ks) := Lib.hid (by rw [HG.out, HS.out, decide_eq_true (by omega : 0 ≤ n), decide_eq_true (by omega : n < inp), decide_eq_true t2]; rfl)
          have d2 : ((ks.length : Int) == 0) = true := by rw [t2]; rfl
          have HT2 := Lib.hid t2
          clear t0 t1 t2
          generalize hL : ks.length = L at *
          have HL := Lib.hid hL
          clear hL
          go_enter Tryz.func66, Tryz.ntmps66
          go_wp2_with fail
          go_loopw [10, 43] (fun _ iv W => ∃ i : Nat, i ≤ L ∧ iv = .int .i64 i ∧ kidsN e (ks.take i) = true ∧ Below w.heap.size w W) (fun _ iv _ => L - (intOf iv).toNat)
          case atStart => exact ⟨0, by omega, rfl, rfl, HB1.out⟩
          case round =>
            obtain ⟨i, hi, rfl, hp, hB⟩ := hrel
            have HP := Lib.hid hp
            have HB := Lib.hid hB
            clear hp
            by_cases hil : i < L
            · obtain ⟨x, hx⟩ : ∃ x, ks[i]? = some x := ⟨_, List.getElem?_eq_getElem (by rw [HL.out]; exact hil)⟩
              obtain ⟨p, rfl, e0⟩ := HK.out i x hx
              have e1 := (hB.cell (World.block_lt_of_cell? w _ e0)).trans e0
              have HNX := Lib.hid (kidsN_next (e := e) hx)
              have HDD := Lib.hid (fun h => kidsN_dead (e := e) hx h)
              clear hx e0 hB
              by_cases q0 : x < 0
              · have d5 : decide (x < 0) = true := decide_eq_true q0
                have HE2 : Hid (okG inp e ⟨0, n, ks⟩ = false) := Lib.hid (by rw [HE.out]; exact HDD.out (by rw [kidN, decide_eq_false (by omega : ¬ (0 ≤ x))]; rfl))
                clear q0
                go_wp2_with fail
                go_ret
                exact ⟨by rw [HE2.out]; rfl, HB.out⟩
              · have d5 : decide (x < 0) = false := decide_eq_false q0
                by_cases q1 : (e : Int) ≤ x
                · have d6 : decide ((e : Int) ≤ x) = true := decide_eq_true q1
                  have HE2 : Hid (okG inp e ⟨0, n, ks⟩ = false) := Lib.hid (by rw [HE.out]; exact HDD.out (by rw [kidN, decide_eq_false (by omega : ¬ (x < (e : Int))), Bool.and_false]))
                  clear q0 q1
                  go_wp2_with fail
                  go_ret
                  exact ⟨by rw [HE2.out]; rfl, HB.out⟩
                · have d6 : decide ((e : Int) ≤ x) = false := decide_eq_false q1
                  have HK2 : Hid (kidN e x = true) := Lib.hid (by rw [kidN, decide_eq_true (by omega : 0 ≤ x), decide_eq_true (by omega : x < (e : Int))]; rfl)
                  clear q0 q1
                  go_wp2_with fail
                  go_roundw
                  case rel => exact ⟨i + 1, by omega, by go_num, by rw [HNX.out, HP.out, HK2.out]; rfl, HB.out⟩
                  case measure => simp [intOf]; omega
            · have HE2 : Hid (okG inp e ⟨0, n, ks⟩ = true) := Lib.hid (by rw [HE.out, ← HP.out, List.take_of_length_le (by rw [HL.out]; omega)])
              go_wp2_with fail
              go_ret
              exact ⟨by rw [HE2.out]; rfl, HB.out⟩
        · have HE : Hid (okG inp e ⟨0, n, ks⟩ = false) := Lib.hid (by rw [HG.out, HS.out, decide_eq_false t2, Bool.and_false]; rfl)
          have d2 : ((ks.length : Int) == 0) = false := by rw [beq_eq_false_iff_ne]; omega
          clear t0 t1 t2
          go_enter Tryz.func66, Tryz.ntmps66
          go_wp2_with fail
          go_ret
          exact ⟨by rw [HE.out]; rfl, HB1.out⟩
  · have f0 : ((k : Int) == 0) = false := by simp [h0]
    by_cases h1 : k = 1
    · obtain rfl := h1
      clear h0 f0
      have HS : Hid (shpN inp 1 n ks.length = (decide (0 ≤ n) && decide (n < 2) && decide (ks.length = 0))) := Lib.hid (shp1 _ _ _)
      by_cases t0 : n < 0
      · have HE : Hid (okG inp e ⟨1, n, ks⟩ = false) := Lib.hid (by rw [HG.out, HS.out, decide_eq_false (by omega : ¬ (0 ≤ n))]; rfl)
        have d0 : decide (n < 0) = true := decide_eq_true t0
        clear t0
        go_enter Tryz.func66, Tryz.ntmps66
        go_wp2_with fail
        go_ret
        exact ⟨by rw [HE.out]; rfl, HB1.out⟩
      · have d0 : decide (n < 0) = false := decide_eq_false t0
        by_cases t1 : 2 ≤ n
        · have HE : Hid (okG inp e ⟨1, n, ks⟩ = false) := Lib.hid (by rw [HG.out, HS.out, decide_eq_false (by omega : ¬ (n < 2)), Bool.and_false]; rfl)
          have d1 : decide (2 ≤ n) = true := decide_eq_true t1
          clear t0 t1
          go_enter Tryz.func66, Tryz.ntmps66
          go_wp2_with fail
          go_ret
          exact ⟨by rw [HE.out]; rfl, HB1.out⟩
        · have d1 : decide (2 ≤ n) = false := decide_eq_false t1
          by_cases t2 : ks.length = 0
          · have HE : Hid (okG inp e ⟨1, n, ks⟩ = kidsN e ks) := Lib.hid (by rw [HG.out, HS.out, decide_eq_true (by omega : 0 ≤ n), decide_eq_true (by omega : n < 2), decide_eq_true t2]; rfl)
            have d2 : ((ks.length : Int) == 0) = true := by rw [t2]; rfl
            have HT2 := Lib.hid t2
            clear t0 t1 t2
            generalize hL : ks.length = L at *
            have HL := Lib.hid hL
            clear hL
            go_enter Tryz.func66, Tryz.ntmps66
            go_wp2_with fail
            go_loopw [10, 43] (fun _ iv W => ∃ i : Nat, i ≤ L ∧ iv = .int .i64 i ∧ kidsN e (ks.take i) = true ∧ Below w.heap.size w W) (fun _ iv _ => L - (intOf iv).toNat)
            case atStart => exact ⟨0, by omega, rfl, rfl, HB1.out⟩
            case round =>
              obtain ⟨i, hi, rfl, hp, hB⟩ := hrel
              have HP := Lib.hid hp
              have HB := Lib.hid hB
              clear hp
              by_cases hil : i < L
              · obtain ⟨x, hx⟩ : ∃ x, ks[i]? = some x := ⟨_, List.getElem?_eq_getElem (by rw [HL.out]; exact hil)⟩
                obtain ⟨p, rfl, e0⟩ := HK.out i x hx
                have e1 := (hB.cell (World.block_lt_of_cell? w _ e0)).trans e0
                have HNX := Lib.hid (kidsN_next (e := e) hx)
                have HDD := Lib.hid (fun h => kidsN_dead (e := e) hx h)
                clear hx e0 hB
                by_cases q0 : x < 0
                · have d5 : decide (x < 0) = true := decide_eq_true q0
                  have HE2 : Hid (okG inp e ⟨1, n, ks⟩ = false) := Lib.hid (by rw [HE.out]; exact HDD.out (by rw [kidN, decide_eq_false (by omega : ¬ (0 ≤ x))]; rfl))
                  clear q0
                  go_wp2_with fail
                  go_ret
                  exact ⟨by rw [HE2.out]; rfl, HB.out⟩
                · have d5 : decide (x < 0) = false := decide_eq_false q0
                  by_cases q1 : (e : Int) ≤ x
                  · have d6 : decide ((e : Int) ≤ x) = true := decide_eq_true q1
                    have HE2 : Hid (okG inp e ⟨1, n, ks⟩ = false) := Lib.hid (by rw [HE.out]; exact HDD.out (by rw [kidN, decide_eq_false (by omega : ¬ (x < (e : Int))), Bool.and_false]))
                    clear q0 q1
                    go_wp2_with fail
                    go_ret
                    exact ⟨by rw [HE2.out]; rfl, HB.out⟩
                  · have d6 : decide ((e : Int) ≤ x) = false := decide_eq_false q1
                    have HK2 : Hid (kidN e x = true) := Lib.hid (by rw [kidN, decide_eq_true (by omega : 0 ≤ x), decide_eq_true (by omega : x < (e : Int))]; rfl)
                    clear q0 q1
                    go_wp2_with fail
                    go_roundw
                    case rel => exact ⟨i + 1, by omega, by go_num, by rw [HNX.out, HP.out, HK2.out]; rfl, HB.out⟩
                    case measure => simp [intOf]; omega
              · have HE2 : Hid (okG inp e ⟨1, n, ks⟩ = true) := Lib.hid (by rw [HE.out, ← HP.out, List.take_of_length_le (by rw [HL.out]; omega)])
                go_wp2_with fail
                go_ret
                exact ⟨by rw [HE2.out]; rfl, HB.out⟩
          · have HE : Hid (okG inp e ⟨1, n, ks⟩ = false) := Lib.hid (by rw [HG.out, HS.out, decide_eq_false t2, Bool.and_false]; rfl)
            have d2 : ((ks.length : Int) == 0) = false := by rw [beq_eq_false_iff_ne]; omega
            clear t0 t1 t2
            go_enter Tryz.func66, Tryz.ntmps66
            go_wp2_with fail
            go_ret
            exact ⟨by rw [HE.out]; rfl, HB1.out⟩
    · have f1 : ((k : Int) == 1) = false := by simp [h1]
      by_cases h2 : k = 2
      · obtain rfl := h2
        clear h0 f0
        clear h1 f1
        have HS : Hid (shpN inp 2 n ks.length = (decide (0 ≤ n) && decide (n < 1) && decide (ks.length = 1))) := Lib.hid (shp2 _ _ _)
        by_cases t0 : n < 0
        · have HE : Hid (okG inp e ⟨2, n, ks⟩ = false) := Lib.hid (by rw [HG.out, HS.out, decide_eq_false (by omega : ¬ (0 ≤ n))]; rfl)
          have d0 : decide (n < 0) = true := decide_eq_true t0
          clear t0
          go_enter Tryz.func66, Tryz.ntmps66
          go_wp2_with fail
          go_ret
          exact ⟨by rw [HE.out]; rfl, HB1.out⟩
        · have d0 : decide (n < 0) = false := decide_eq_false t0
          by_cases t1 : 1 ≤ n
          · have HE : Hid (okG inp e ⟨2, n, ks⟩ = false) := Lib.hid (by rw [HG.out, HS.out, decide_eq_false (by omega : ¬ (n < 1)), Bool.and_false]; rfl)
            have d1 : decide (1 ≤ n) = true := decide_eq_true t1
            clear t0 t1
            go_enter Tryz.func66, Tryz.ntmps66
            go_wp2_with fail
            go_ret
            exact ⟨by rw [HE.out]; rfl, HB1.out⟩
          · have d1 : decide (1 ≤ n) = false := decide_eq_false t1
            by_cases t2 : ks.length = 1
            · have HE : Hid (okG inp e ⟨2, n, ks⟩ = kidsN e ks) := Lib.hid (by rw [HG.out, HS.out, decide_eq_true (by omega : 0 ≤ n), decide_eq_true (by omega : n < 1), decide_eq_true t2]; rfl)
              have d2 : ((ks.length : Int) == 1) = true := by rw [t2]; rfl
              have HT2 := Lib.hid t2
              clear t0 t1 t2
              generalize hL : ks.length = L at *
              have HL := Lib.hid hL
              clear hL
              go_enter Tryz.func66, Tryz.ntmps66
              go_wp2_with fail
              go_loopw [10, 43] (fun _ iv W => ∃ i : Nat, i ≤ L ∧ iv = .int .i64 i ∧ kidsN e (ks.take i) = true ∧ Below w.heap.size w W) (fun _ iv _ => L - (intOf iv).toNat)
              case atStart => exact ⟨0, by omega, rfl, rfl, HB1.out⟩
              case round =>
                obtain ⟨i, hi, rfl, hp, hB⟩ := hrel
                have HP := Lib.hid hp
                have HB := Lib.hid hB
                clear hp
                by_cases hil : i < L
                · obtain ⟨x, hx⟩ : ∃ x, ks[i]? = some x := ⟨_, List.getElem?_eq_getElem (by rw [HL.out]; exact hil)⟩
                  obtain ⟨p, rfl, e0⟩ := HK.out i x hx
                  have e1 := (hB.cell (World.block_lt_of_cell? w _ e0)).trans e0
                  have HNX := Lib.hid (kidsN_next (e := e) hx)
                  have HDD := Lib.hid (fun h => kidsN_dead (e := e) hx h)
                  clear hx e0 hB
                  by_cases q0 : x < 0
                  · have d5 : decide (x < 0) = true := decide_eq_true q0
                    have HE2 : Hid (okG inp e ⟨2, n, ks⟩ = false) := Lib.hid (by rw [HE.out]; exact HDD.out (by rw [kidN, decide_eq_false (by omega : ¬ (0 ≤ x))]; rfl))
                    clear q0
                    go_wp2_with fail
                    go_ret
                    exact ⟨by rw [HE2.out]; rfl, HB.out⟩
                  · have d5 : decide (x < 0) = false := decide_eq_false q0
                    by_cases q1 : (e : Int) ≤ x
                    · have d6 : decide ((e : Int) ≤ x) = true := decide_eq_true q1
                      have HE2 : Hid (okG inp e ⟨2, n, ks⟩ = false) := Lib.hid (by rw [HE.out]; exact HDD.out (by rw [kidN, decide_eq_false (by omega : ¬ (x < (e : Int))), Bool.and_false]))
                      clear q0 q1
                      go_wp2_with fail
                      go_ret
                      exact ⟨by rw [HE2.out]; rfl, HB.out⟩
                    · have d6 : decide ((e : Int) ≤ x) = false := decide_eq_false q1
                      have HK2 : Hid (kidN e x = true) := Lib.hid (by rw [kidN, decide_eq_true (by omega : 0 ≤ x), decide_eq_true (by omega : x < (e : Int))]; rfl)
                      clear q0 q1
                      go_wp2_with fail
                      go_roundw
                      case rel => exact ⟨i + 1, by omega, by go_num, by rw [HNX.out, HP.out, HK2.out]; rfl, HB.out⟩
                      case measure => simp [intOf]; omega
                · have HE2 : Hid (okG inp e ⟨2, n, ks⟩ = true) := Lib.hid (by rw [HE.out, ← HP.out, List.take_of_length_le (by rw [HL.out]; omega)])
                  go_wp2_with fail
                  go_ret
                  exact ⟨by rw [HE2.out]; rfl, HB.out⟩
            · have HE : Hid (okG inp e ⟨2, n, ks⟩ = false) := Lib.hid (by rw [HG.out, HS.out, decide_eq_false t2, Bool.and_false]; rfl)
              have d2 : ((ks.length : Int) == 1) = false := by rw [beq_eq_false_iff_ne]; omega
              clear t0 t1 t2
              go_enter Tryz.func66, Tryz.ntmps66
              go_wp2_with fail
              go_ret
              exact ⟨by rw [HE.out]; rfl, HB1.out⟩
      · have f2 : ((k : Int) == 2) = false := by simp [h2]
        by_cases h3 : k = 3
        · obtain rfl := h3
          clear h0 f0
          clear h1 f1
          clear h2 f2
          have HS : Hid (shpN inp 3 n ks.length = (decide (0 ≤ n) && decide (n < 1) && decide (ks.length = 2))) := Lib.hid (shp3 _ _ _)
          by_cases t0 : n < 0
          · have HE : Hid (okG inp e ⟨3, n, ks⟩ = false) := Lib.hid (by rw [HG.out, HS.out, decide_eq_false (by omega : ¬ (0 ≤ n))]; rfl)
            have d0 : decide (n < 0) = true := decide_eq_true t0
            clear t0
            go_enter Tryz.func66, Tryz.ntmps66
            go_wp2_with fail
            go_ret
            exact ⟨by rw [HE.out]; rfl, HB1.out⟩
          · have d0 : decide (n < 0) = false := decide_eq_false t0
            by_cases t1 : 1 ≤ n
            · have HE : Hid (okG inp e ⟨3, n, ks⟩ = false) := Lib.hid (by rw [HG.out, HS.out, decide_eq_false (by omega : ¬ (n < 1)), Bool.and_false]; rfl)
              have d1 : decide (1 ≤ n) = true := decide_eq_true t1
              clear t0 t1
              go_enter Tryz.func66, Tryz.ntmps66
              go_wp2_with fail
              go_ret
              exact ⟨by rw [HE.out]; rfl, HB1.out⟩
            · have d1 : decide (1 ≤ n) = false := decide_eq_false t1
              by_cases t2 : ks.length = 2
              · have HE : Hid (okG inp e ⟨3, n, ks⟩ = kidsN e ks) := Lib.hid (by rw [HG.out, HS.out, decide_eq_true (by omega : 0 ≤ n), decide_eq_true (by omega : n < 1), decide_eq_true t2]; rfl)
                have d2 : ((ks.length : Int) == 2) = true := by rw [t2]; rfl
                have HT2 := Lib.hid t2
                clear t0 t1 t2
                generalize hL : ks.length = L at *
                have HL := Lib.hid hL
                clear hL
                go_enter Tryz.func66, Tryz.ntmps66
                go_wp2_with fail
                go_loopw [10, 43] (fun _ iv W => ∃ i : Nat, i ≤ L ∧ iv = .int .i64 i ∧ kidsN e (ks.take i) = true ∧ Below w.heap.size w W) (fun _ iv _ => L - (intOf iv).toNat)
                case atStart => exact ⟨0, by omega, rfl, rfl, HB1.out⟩
                case round =>
                  obtain ⟨i, hi, rfl, hp, hB⟩ := hrel
                  have HP := Lib.hid hp
                  have HB := Lib.hid hB
                  clear hp
                  by_cases hil : i < L
                  · obtain ⟨x, hx⟩ : ∃ x, ks[i]? = some x := ⟨_, List.getElem?_eq_getElem (by rw [HL.out]; exact hil)⟩
                    obtain ⟨p, rfl, e0⟩ := HK.out i x hx
                    have e1 := (hB.cell (World.block_lt_of_cell? w _ e0)).trans e0
                    have HNX := Lib.hid (kidsN_next (e := e) hx)
                    have HDD := Lib.hid (fun h => kidsN_dead (e := e) hx h)
                    clear hx e0 hB
                    by_cases q0 : x < 0
                    · have d5 : decide (x < 0) = true := decide_eq_true q0
                      have HE2 : Hid (okG inp e ⟨3, n, ks⟩ = false) := Lib.hid (by rw [HE.out]; exact HDD.out (by rw [kidN, decide_eq_false (by omega : ¬ (0 ≤ x))]; rfl))
                      clear q0
                      go_wp2_with fail
                      go_ret
                      exact ⟨by rw [HE2.out]; rfl, HB.out⟩
                    · have d5 : decide (x < 0) = false := decide_eq_false q0
                      by_cases q1 : (e : Int) ≤ x
                      · have d6 : decide ((e : Int) ≤ x) = true := decide_eq_true q1
                        have HE2 : Hid (okG inp e ⟨3, n, ks⟩ = false) := Lib.hid (by rw [HE.out]; exact HDD.out (by rw [kidN, decide_eq_false (by omega : ¬ (x < (e : Int))), Bool.and_false]))
                        clear q0 q1
                        go_wp2_with fail
                        go_ret
                        exact ⟨by rw [HE2.out]; rfl, HB.out⟩
                      · have d6 : decide ((e : Int) ≤ x) = false := decide_eq_false q1
                        have HK2 : Hid (kidN e x = true) := Lib.hid (by rw [kidN, decide_eq_true (by omega : 0 ≤ x), decide_eq_true (by omega : x < (e : Int))]; rfl)
                        clear q0 q1
                        go_wp2_with fail
                        go_roundw
                        case rel => exact ⟨i + 1, by omega, by go_num, by rw [HNX.out, HP.out, HK2.out]; rfl, HB.out⟩
                        case measure => simp [intOf]; omega
                  · have HE2 : Hid (okG inp e ⟨3, n, ks⟩ = true) := Lib.hid (by rw [HE.out, ← HP.out, List.take_of_length_le (by rw [HL.out]; omega)])
                    go_wp2_with fail
                    go_ret
                    exact ⟨by rw [HE2.out]; rfl, HB.out⟩
              · have HE : Hid (okG inp e ⟨3, n, ks⟩ = false) := Lib.hid (by rw [HG.out, HS.out, decide_eq_false t2, Bool.and_false]; rfl)
                have d2 : ((ks.length : Int) == 2) = false := by rw [beq_eq_false_iff_ne]; omega
                clear t0 t1 t2
                go_enter Tryz.func66, Tryz.ntmps66
                go_wp2_with fail
                go_ret
                exact ⟨by rw [HE.out]; rfl, HB1.out⟩
        · have f3 : ((k : Int) == 3) = false := by simp [h3]
          by_cases h4 : k = 4
          · obtain rfl := h4
            clear h0 f0
            clear h1 f1
            clear h2 f2
            clear h3 f3
            have HS : Hid (shpN inp 4 n ks.length = (decide (0 ≤ n) && decide (n < 1) && decide (ks.length = 2))) := Lib.hid (shp4 _ _ _)
            by_cases t0 : n < 0
            · have HE : Hid (okG inp e ⟨4, n, ks⟩ = false) := Lib.hid (by rw [HG.out, HS.out, decide_eq_false (by omega : ¬ (0 ≤ n))]; rfl)
              have d0 : decide (n < 0) = true := decide_eq_true t0
              clear t0
              go_enter Tryz.func66, Tryz.ntmps66
              go_wp2_with fail
              go_ret
              exact ⟨by rw [HE.out]; rfl, HB1.out⟩
            · have d0 : decide (n < 0) = false := decide_eq_false t0
              by_cases t1 : 1 ≤ n
              · have HE : Hid (okG inp e ⟨4, n, ks⟩ = false) := Lib.hid (by rw [HG.out, HS.out, decide_eq_false (by omega : ¬ (n < 1)), Bool.and_false]; rfl)
                have d1 : decide (1 ≤ n) = true := decide_eq_true t1
                clear t0 t1
                go_enter Tryz.func66, Tryz.ntmps66
                go_wp2_with fail
                go_ret
                exact ⟨by rw [HE.out]; rfl, HB1.out⟩
              · have d1 : decide (1 ≤ n) = false := decide_eq_false t1
                by_cases t2 : ks.length = 2
                · have HE : Hid (okG inp e ⟨4, n, ks⟩ = kidsN e ks) := Lib.hid (by rw [HG.out, HS.out, decide_eq_true (by omega : 0 ≤ n), decide_eq_true (by omega : n < 1), decide_eq_true t2]; rfl)
                  have d2 : ((ks.length : Int) == 2) = true := by rw [t2]; rfl
                  have HT2 := Lib.hid t2
                  clear t0 t1 t2
                  generalize hL : ks.length = L at *
                  have HL := Lib.hid hL
                  clear hL
                  go_enter Tryz.func66, Tryz.ntmps66
                  go_wp2_with fail
                  go_loopw [10, 43] (fun _ iv W => ∃ i : Nat, i ≤ L ∧ iv = .int .i64 i ∧ kidsN e (ks.take i) = true ∧ Below w.heap.size w W) (fun _ iv _ => L - (intOf iv).toNat)
                  case atStart => exact ⟨0, by omega, rfl, rfl, HB1.out⟩
                  case round =>
                    obtain ⟨i, hi, rfl, hp, hB⟩ := hrel
                    have HP := Lib.hid hp
                    have HB := Lib.hid hB
                    clear hp
                    by_cases hil : i < L
                    · obtain ⟨x, hx⟩ : ∃ x, ks[i]? = some x := ⟨_, List.getElem?_eq_getElem (by rw [HL.out]; exact hil)⟩
                      obtain ⟨p, rfl, e0⟩ := HK.out i x hx
                      have e1 := (hB.cell (World.block_lt_of_cell? w _ e0)).trans e0
                      have HNX := Lib.hid (kidsN_next (e := e) hx)
                      have HDD := Lib.hid (fun h => kidsN_dead (e := e) hx h)
                      clear hx e0 hB
                      by_cases q0 : x < 0
                      · have d5 : decide (x < 0) = true := decide_eq_true q0
                        have HE2 : Hid (okG inp e ⟨4, n, ks⟩ = false) := Lib.hid (by rw [HE.out]; exact HDD.out (by rw [kidN, decide_eq_false (by omega : ¬ (0 ≤ x))]; rfl))
                        clear q0
                        go_wp2_with fail
                        go_ret
                        exact ⟨by rw [HE2.out]; rfl, HB.out⟩
                      · have d5 : decide (x < 0) = false := decide_eq_false q0
                        by_cases q1 : (e : Int) ≤ x
                        · have d6 : decide ((e : Int) ≤ x) = true := decide_eq_true q1
                          have HE2 : Hid (okG inp e ⟨4, n, ks⟩ = false) := Lib.hid (by rw [HE.out]; exact HDD.out (by rw [kidN, decide_eq_false (by omega : ¬ (x < (e : Int))), Bool.and_false]))
                          clear q0 q1
                          go_wp2_with fail
                          go_ret
                          exact ⟨by rw [HE2.out]; rfl, HB.out⟩
                        · have d6 : decide ((e : Int) ≤ x) = false := decide_eq_false q1
                          have HK2 : Hid (kidN e x = true) := Lib.hid (by rw [kidN, decide_eq_true (by omega : 0 ≤ x), decide_eq_true (by omega : x < (e : Int))]; rfl)
                          clear q0 q1
                          go_wp2_with fail
                          go_roundw
                          case rel => exact ⟨i + 1, by omega, by go_num, by rw [HNX.out, HP.out, HK2.out]; rfl, HB.out⟩
                          case measure => simp [intOf]; omega
                    · have HE2 : Hid (okG inp e ⟨4, n, ks⟩ = true) := Lib.hid (by rw [HE.out, ← HP.out, List.take_of_length_le (by rw [HL.out]; omega)])
                      go_wp2_with fail
                      go_ret
                      exact ⟨by rw [HE2.out]; rfl, HB.out⟩
                · have HE : Hid (okG inp e ⟨4, n, ks⟩ = false) := Lib.hid (by rw [HG.out, HS.out, decide_eq_false t2, Bool.and_false]; rfl)
                  have d2 : ((ks.length : Int) == 2) = false := by rw [beq_eq_false_iff_ne]; omega
                  clear t0 t1 t2
                  go_enter Tryz.func66, Tryz.ntmps66
                  go_wp2_with fail
                  go_ret
                  exact ⟨by rw [HE.out]; rfl, HB1.out⟩
          · have f4 : ((k : Int) == 4) = false := by simp [h4]
            by_cases h5 : k = 5
            · obtain rfl := h5
              clear h0 f0
              clear h1 f1
              clear h2 f2
              clear h3 f3
              clear h4 f4
              have HS : Hid (shpN inp 5 n ks.length = (decide (0 ≤ n) && decide (n < 1) && decide (ks.length = 2))) := Lib.hid (shp5 _ _ _)
              by_cases t0 : n < 0
              · have HE : Hid (okG inp e ⟨5, n, ks⟩ = false) := Lib.hid (by rw [HG.out, HS.out, decide_eq_false (by omega : ¬ (0 ≤ n))]; rfl)
                have d0 : decide (n < 0) = true := decide_eq_true t0
                clear t0
                go_enter Tryz.func66, Tryz.ntmps66
                go_wp2_with fail
                go_ret
                exact ⟨by rw [HE.out]; rfl, HB1.out⟩
              · have d0 : decide (n < 0) = false := decide_eq_false t0
                by_cases t1 : 1 ≤ n
                · have HE : Hid (okG inp e ⟨5, n, ks⟩ = false) := Lib.hid (by rw [HG.out, HS.out, decide_eq_false (by omega : ¬ (n < 1)), Bool.and_false]; rfl)
                  have d1 : decide (1 ≤ n) = true := decide_eq_true t1
                  clear t0 t1
                  go_enter Tryz.func66, Tryz.ntmps66
                  go_wp2_with fail
                  go_ret
                  exact ⟨by rw [HE.out]; rfl, HB1.out⟩
                · have d1 : decide (1 ≤ n) = false := decide_eq_false t1
                  by_cases t2 : ks.length = 2
                  · have HE : Hid (okG inp e ⟨5, n, ks⟩ = kidsN e ks) := Lib.hid (by rw [HG.out, HS.out, decide_eq_true (by omega : 0 ≤ n), decide_eq_true (by omega : n < 1), decide_eq_true t2]; rfl)
                    have d2 : ((ks.length : Int) == 2) = true := by rw [t2]; rfl
                    have HT2 := Lib.hid t2
                    clear t0 t1 t2
                    generalize hL : ks.length = L at *
                    have HL := Lib.hid hL
                    clear hL
                    go_enter Tryz.func66, Tryz.ntmps66
                    go_wp2_with fail
                    go_loopw [10, 43] (fun _ iv W => ∃ i : Nat, i ≤ L ∧ iv = .int .i64 i ∧ kidsN e (ks.take i) = true ∧ Below w.heap.size w W) (fun _ iv _ => L - (intOf iv).toNat)
                    case atStart => exact ⟨0, by omega, rfl, rfl, HB1.out⟩
                    case round =>
                      obtain ⟨i, hi, rfl, hp, hB⟩ := hrel
                      have HP := Lib.hid hp
                      have HB := Lib.hid hB
                      clear hp
                      by_cases hil : i < L
                      · obtain ⟨x, hx⟩ : ∃ x, ks[i]? = some x := ⟨_, List.getElem?_eq_getElem (by rw [HL.out]; exact hil)⟩
                        obtain ⟨p, rfl, e0⟩ := HK.out i x hx
                        have e1 := (hB.cell (World.block_lt_of_cell? w _ e0)).trans e0
                        have HNX := Lib.hid (kidsN_next (e := e) hx)
                        have HDD := Lib.hid (fun h => kidsN_dead (e := e) hx h)
                        clear hx e0 hB
                        by_cases q0 : x < 0
                        · have d5 : decide (x < 0) = true := decide_eq_true q0
                          have HE2 : Hid (okG inp e ⟨5, n, ks⟩ = false) := Lib.hid (by rw [HE.out]; exact HDD.out (by rw [kidN, decide_eq_false (by omega : ¬ (0 ≤ x))]; rfl))
                          clear q0
                          go_wp2_with fail
                          go_ret
                          exact ⟨by rw [HE2.out]; rfl, HB.out⟩
                        · have d5 : decide (x < 0) = false := decide_eq_false q0
                          by_cases q1 : (e : Int) ≤ x
                          · have d6 : decide ((e : Int) ≤ x) = true := decide_eq_true q1
                            have HE2 : Hid (okG inp e ⟨5, n, ks⟩ = false) := Lib.hid (by rw [HE.out]; exact HDD.out (by rw [kidN, decide_eq_false (by omega : ¬ (x < (e : Int))), Bool.and_false]))
                            clear q0 q1
                            go_wp2_with fail
                            go_ret
                            exact ⟨by rw [HE2.out]; rfl, HB.out⟩
                          · have d6 : decide ((e : Int) ≤ x) = false := decide_eq_false q1
                            have HK2 : Hid (kidN e x = true) := Lib.hid (by rw [kidN, decide_eq_true (by omega : 0 ≤ x), decide_eq_true (by omega : x < (e : Int))]; rfl)
                            clear q0 q1
                            go_wp2_with fail
                            go_roundw
                            case rel => exact ⟨i + 1, by omega, by go_num, by rw [HNX.out, HP.out, HK2.out]; rfl, HB.out⟩
                            case measure => simp [intOf]; omega
                      · have HE2 : Hid (okG inp e ⟨5, n, ks⟩ = true) := Lib.hid (by rw [HE.out, ← HP.out, List.take_of_length_le (by rw [HL.out]; omega)])
                        go_wp2_with fail
                        go_ret
                        exact ⟨by rw [HE2.out]; rfl, HB.out⟩
                  · have HE : Hid (okG inp e ⟨5, n, ks⟩ = false) := Lib.hid (by rw [HG.out, HS.out, decide_eq_false t2, Bool.and_false]; rfl)
                    have d2 : ((ks.length : Int) == 2) = false := by rw [beq_eq_false_iff_ne]; omega
                    clear t0 t1 t2
                    go_enter Tryz.func66, Tryz.ntmps66
                    go_wp2_with fail
                    go_ret
                    exact ⟨by rw [HE.out]; rfl, HB1.out⟩
            · have f5 : ((k : Int) == 5) = false := by simp [h5]
              have HE : Hid (okG inp e ⟨k, n, ks⟩ = false) := Lib.hid (by rw [HG.out, shpX h0 h1 h2 h3 h4 h5]; rfl)
              clear h0 h1 h2 h3 h4 h5
              go_enter Tryz.func66, Tryz.ntmps66
              go_wp2_with fail
              go_ret
              exact ⟨by rw [HE.out]; rfl, HB1.out⟩
end Go.Proofs.YtcophfhnhlaonaaGreatDoor
namespace Go.Proofs.YtcophfhnhlaonaaGreatDoor
set_option linter.unusedVariables false
open Go.RowKit

theorem blk2_cells {W : World} {g : Nat} {x y : Value} {T : TypeId} (h : W.heap[g]? = some (.cells #[x, y] T (0, 0))) : (W.cell? ⟨g, 0, none⟩ = some x ∧ W.cell? ⟨g, 1, none⟩ = some y) ∧ W.frozen? ⟨g, 0, none⟩ = false ∧ W.frozen? ⟨g, 1, none⟩ = false := by
  refine ⟨⟨?_, ?_⟩, ?_, ?_⟩ <;> simp [World.cell?, World.frozen?, h]
/-- The state of a function of one circuit behind its first step: the circuit's box. -/
structure BoxC (w : World) (inp : Int) (A : Option Addr) (len c : Nat) (W : World) : Prop where
  bel : Below w.heap.size w W
  box : W.heap[w.heap.size]? = some (.cells #[.int .i64 inp, .slice A len c] 30 (0, 0))
theorem BoxC.step {w W W' : World} {inp : Int} {A : Option Addr} {len c : Nat} (h : BoxC w inp A len c W) (hB : Below W.heap.size W W') : BoxC w inp A len c W' :=
  ⟨h.bel.trans (hB.mono h.bel.size), (hB.block _ (Array.getElem?_eq_some_iff.1 h.box).1).trans h.box⟩
theorem BoxC.start (w : World) (inp : Int) (A : Option Addr) (len c : Nat) : BoxC w inp A len c (w.alloc (.cells #[.int .i64 inp, .slice A len c] 30)) :=
  ⟨below1 _ _, alloc_at _ _ _ rfl⟩
theorem BoxC.cells {w W : World} {inp : Int} {A : Option Addr} {len c : Nat} (h : BoxC w inp A len c W) : W.cell? ⟨w.heap.size, 0, none⟩ = some (.int .i64 inp) ∧ W.cell? ⟨w.heap.size, 1, none⟩ = some (.slice A len c) := (blk2_cells h.box).1
theorem BoxC.drew {w W : World} {inp : Int} {A : Option Addr} {len c : Nat} (h : BoxC w inp A len c W) : BoxC w inp A len c W.drew := h.step (Below.refl _ W).drew
theorem BoxC.put {w W : World} {inp : Int} {A : Option Addr} {len c : Nat} (h : BoxC w inp A len c W) {p : Addr} (hp : w.heap.size < p.block) (x : Value) : BoxC w inp A len c (W.setCell p x) :=
  ⟨h.bel.setCell (by omega) x, by rw [heap_setCell_other _ _ _ _ (by omega)]; exact h.box⟩
theorem BoxC.lt {w W : World} {inp : Int} {A : Option Addr} {len c : Nat} (h : BoxC w inp A len c W) : w.heap.size < W.heap.size := (Array.getElem?_eq_some_iff.1 h.box).1

set_option maxRecDepth 100000 in
set_option maxHeartbeats 8000000 in
theorem CValid_ok (inp : Int) (v : Value) (gs : List Gat) (w : World) (hv : CirV w v inp gs) :
    Calls Tryz.prog 50 #[v] w fun r w' => r = .returned (.bool (okC inp gs)) ∧ Below w.heap.size w w' := by
  obtain ⟨A, c, rfl, hr, hl⟩ := hv
  have HS0 := Lib.hid (BoxC.start w inp A gs.length c)
  have HR := Lib.hid hr
  have HG : Hid (okC inp gs = (decide (0 ≤ inp) && decide (inp ≤ 16) && decide (1 ≤ gs.length) && decide (gs.length ≤ 20000) && gokL inp gs 0)) := Lib.hid rfl
  obtain ⟨c0, c1⟩ := HS0.out.cells
  clear hr
  by_cases t0 : inp < 0
  · have d0 : decide (inp < 0) = true := decide_eq_true t0
    have HE : Hid (okC inp gs = false) := Lib.hid (by rw [HG.out, decide_eq_false (by omega : ¬ (0 ≤ inp))]; rfl)
    clear t0
    go_enter Tryz.func50, Tryz.ntmps50
    go_wp2_with fail
    go_ret
    exact ⟨by rw [HE.out]; rfl, HS0.out.bel⟩
  have d0 : decide (inp < 0) = false := decide_eq_false t0
  by_cases t1 : 16 < inp
  · have d1 : decide (16 < inp) = true := decide_eq_true t1
    have HE : Hid (okC inp gs = false) := Lib.hid (by rw [HG.out, decide_eq_false (by omega : ¬ (inp ≤ 16)), Bool.and_false]; rfl)
    clear t0 t1
    go_enter Tryz.func50, Tryz.ntmps50
    go_wp2_with fail
    go_ret
    exact ⟨by rw [HE.out]; rfl, HS0.out.bel⟩
  have d1 : decide (16 < inp) = false := decide_eq_false t1
  by_cases t2 : gs.length = 0
  · have d2 : ((gs.length : Int) == 0) = true := by rw [t2]; rfl
    have HE : Hid (okC inp gs = false) := Lib.hid (by rw [HG.out, decide_eq_false (by omega : ¬ (1 ≤ gs.length)), Bool.and_false]; rfl)
    clear t0 t1 t2
    go_enter Tryz.func50, Tryz.ntmps50
    go_wp2_with fail
    go_ret
    exact ⟨by rw [HE.out]; rfl, HS0.out.bel⟩
  have d2 : ((gs.length : Int) == 0) = false := by simp; exact fun h => t2 (by rw [h]; rfl)
  by_cases t3 : 20000 < gs.length
  · have d3 : decide ((20000 : Int) < (gs.length : Int)) = true := decide_eq_true (by omega)
    have d3' : decide (20000 < gs.length) = true := decide_eq_true t3
    have HE : Hid (okC inp gs = false) := Lib.hid (by rw [HG.out, decide_eq_false (by omega : ¬ (gs.length ≤ 20000)), Bool.and_false]; rfl)
    clear t0 t1 t2 t3
    go_enter Tryz.func50, Tryz.ntmps50
    go_wp2_with fail
    go_ret
    exact ⟨by rw [HE.out]; rfl, HS0.out.bel⟩
  have d3 : decide ((20000 : Int) < (gs.length : Int)) = false := decide_eq_false (by omega)
  have d3' : decide (20000 < gs.length) = false := decide_eq_false t3
  have HE : Hid (okC inp gs = gokL inp gs 0) := Lib.hid (by rw [HG.out, decide_eq_true (by omega : 0 ≤ inp), decide_eq_true (by omega : inp ≤ 16), decide_eq_true (by omega : 1 ≤ gs.length), decide_eq_true (by omega : gs.length ≤ 20000)]; rfl)
  clear t0 t1 t2 t3
  generalize hL : gs.length = L at *
  have HL := Lib.hid hL
  clear hL
  go_enter Tryz.func50, Tryz.ntmps50
  go_wp2_with fail
  go_loopw [3, 4, 28] (fun _ _ iv W => ∃ i : Nat, i ≤ L ∧ iv = .int .i64 i ∧ gokL inp (gs.take i) 0 = true ∧ BoxC w inp A L c W) (fun _ _ iv _ => L - (intOf iv).toNat)
  case atStart => exact ⟨0, by omega, rfl, rfl, HS0.out⟩
  case round =>
    obtain ⟨i, hi, rfl, hp, hB⟩ := hrel
    have HP := Lib.hid hp
    have HB := Lib.hid hB
    clear hp hB
    by_cases hil : i < L
    · obtain ⟨⟨k, n, ks⟩, hg⟩ : ∃ g, gs[i]? = some g := ⟨_, List.getElem?_eq_getElem (by rw [HL.out]; exact hil)⟩
      obtain ⟨b, off, u, rfl, g0, g1, g2, K, kc, rfl, hK, hKl⟩ := HR.out i _ hg
      have e0 := (HB.out.bel.cell (World.block_lt_of_cell? w _ g0)).trans g0
      have e1 := (HB.out.bel.cell (World.block_lt_of_cell? w _ g1)).trans g1
      have e2 := (HB.out.bel.cell (World.block_lt_of_cell? w _ g2)).trans g2
      have HNX := Lib.hid (gokL_next (inp := inp) hg)
      have HDD := Lib.hid (fun h => gokL_dead (inp := inp) (gs := gs) (i := i + 1) h)
      have HB1 := Lib.hid (HB.out.step (below1 wr (.cells #[.int .i64 k, .int .i64 n, .slice K ks.length kc] 78)))
      have HC := Lib.hid (isGate_ok inp i k n K kc ks _ (hK.below HB1.out.bel) hKl)
      obtain ⟨y0, y1⟩ := HB.out.cells
      obtain ⟨z0, z1⟩ := HB1.out.cells
      obtain ⟨bb, hbb⟩ : ∃ b, okG inp i ⟨k, n, ks⟩ = b := ⟨_, rfl⟩
      rw [hbb] at HNX HC
      clear hg g0 g1 g2 hK hKl c0 c1 hbb
      generalize ks.length = kl at *
      go_wp2_with fail
      refine HC.out.mono ?_
      rintro e w2 ⟨rfl, hB2⟩
      have HB2 := Lib.hid (HB1.out.step hB2)
      clear hB2
      cases bb
      · have HE2 : Hid (okC inp gs = false) := Lib.hid (by rw [HE.out]; exact HDD.out (by rw [HNX.out, Bool.and_false]))
        go_wp2_with fail
        go_ret
        exact ⟨by rw [HE2.out]; rfl, HB2.out.bel⟩
      · go_wp2_with fail
        go_roundw
        case rel => exact ⟨i + 1, by omega, by go_num, by rw [HNX.out, HP.out]; rfl, HB2.out⟩
        case measure => simp [intOf]; omega
    · have HE2 : Hid (okC inp gs = true) := Lib.hid (by rw [HE.out, ← HP.out, List.take_of_length_le (by rw [HL.out]; omega)])
      go_wp2_with fail
      go_ret
      exact ⟨by rw [HE2.out]; rfl, HB.out.bel⟩

set_option maxHeartbeats 1000000 in
theorem steps_ok (k : Int) (w : World) :
    Calls Tryz.prog 62 #[.int .i64 k] w fun e w' => e = .returned (.int .i64 (depAt fSh k : Nat)) ∧ w = w' := by
  have H : Hid ((k = 3 → depAt fSh k = 1) ∧ (k = 4 → depAt fSh k = 1) ∧ (k = 5 → depAt fSh k = 2) ∧ (k ≠ 3 → k ≠ 4 → k ≠ 5 → depAt fSh k = 0)) := Lib.hid (by
    refine ⟨by rintro rfl; rfl, by rintro rfl; rfl, by rintro rfl; rfl, fun h3 h4 h5 => ?_⟩
    unfold depAt
    have hk : k.toNat = 0 ∨ k.toNat = 1 ∨ k.toNat = 2 ∨ 6 ≤ k.toNat := by omega
    rcases hk with h | h | h | h
    · rw [h]; rfl
    · rw [h]; rfl
    · rw [h]; rfl
    · rw [List.getElem?_eq_none (by simpa [fSh] using h)]; rfl)
  by_cases h3 : k = 3
  · have d3 : ((k : Int) == 3) = true := by simp [h3]
    have HE := Lib.hid (H.out.1 h3)
    clear h3
    go_enter Tryz.func62, Tryz.ntmps62
    go_wp2_with fail
    go_ret
    exact ⟨by rw [HE.out]; rfl, rfl⟩
  · have d3 : ((k : Int) == 3) = false := by simp [h3]
    by_cases h4 : k = 4
    · have d4 : ((k : Int) == 4) = true := by simp [h4]
      have HE := Lib.hid (H.out.2.1 h4)
      clear h3 h4
      go_enter Tryz.func62, Tryz.ntmps62
      go_wp2_with fail
      go_ret
      exact ⟨by rw [HE.out]; rfl, rfl⟩
    · have d4 : ((k : Int) == 4) = false := by simp [h4]
      by_cases h5 : k = 5
      · have d5 : ((k : Int) == 5) = true := by simp [h5]
        have HE := Lib.hid (H.out.2.2.1 h5)
        clear h3 h4 h5
        go_enter Tryz.func62, Tryz.ntmps62
        go_wp2_with fail
        go_ret
        exact ⟨by rw [HE.out]; rfl, rfl⟩
      · have d5 : ((k : Int) == 5) = false := by simp [h5]
        have HE := Lib.hid (H.out.2.2.2 h3 h4 h5)
        clear h3 h4 h5
        go_enter Tryz.func62, Tryz.ntmps62
        go_wp2_with fail
        go_ret
        exact ⟨by rw [HE.out]; rfl, rfl⟩

/-- A row of ints that are numbers, and what kids ask of it. -/
def kidsIn (e : Nat) (ks : List Int) : Prop := ∀ x ∈ ks, 0 ≤ x ∧ x < (e : Int)
theorem kidsIn_of {e : Nat} {ks : List Int} (h : kidsN e ks = true) : kidsIn e ks := fun x hx => by
  rw [kidsN, List.all_eq_true] at h
  have := h x hx
  simp only [kidN, Bool.and_eq_true, decide_eq_true_eq] at this
  exact this

set_option maxRecDepth 100000 in
set_option maxHeartbeats 4000000 in
theorem greatest_ok (ds : List Nat) (N : Nat) (A K : Option Addr) (ca ck : Nat) (ks : List Int) (w : World) (hd : RdI w A (nz (rowZ ds N 0))) (hN : ds.length ≤ N) (hN2 : N ≤ 1048576) (hK : RdI w K ks) (hk : kidsIn ds.length ks) (hB : ∀ d ∈ ds, d ≤ 1048576) (hl : ks.length ≤ 1048576) :
    Calls Tryz.prog 63 #[.slice A N ca, .slice K ks.length ck] w fun e w' => e = .returned (.int .i64 (greatN ds ks 0 : Nat)) ∧ w = w' := by
  have HD := Lib.hid hd
  have HK := Lib.hid hK
  have HKI := Lib.hid hk
  have HBD := Lib.hid hB
  have HL : Hid (∀ i, greatN ds (ks.take i) 0 ≤ 1048576) := Lib.hid (fun i => greatN_le hB _ _ (Nat.zero_le _))
  have HEQ : Hid (greatN ds (ks.take ks.length) 0 = greatN ds ks 0) := Lib.hid (by rw [List.take_length])
  have HNN := Lib.hid hN
  clear hd hK hk hB hN
  generalize hKL : ks.length = kl at *
  have HKL := Lib.hid hKL
  clear hKL
  go_enter Tryz.func63, Tryz.ntmps63
  go_wp2_with fail
  go_loopw [5, 7, 10] (fun mv _ iv W => ∃ (i m : Nat), i ≤ kl ∧ iv = .int .i64 i ∧ mv = .int .i64 m ∧ m = greatN ds (ks.take i) 0 ∧ w = W) (fun _ _ iv _ => kl - (intOf iv).toNat)
  case atStart => exact ⟨0, 0, by omega, rfl, rfl, rfl, rfl⟩
  case round =>
    obtain ⟨i, m, hi, rfl, rfl, hm, rfl⟩ := hrel
    have hm2 : m ≤ 1048576 := by rw [hm]; exact HL.out i
    have HM := Lib.hid hm
    clear hm
    by_cases hil : i < kl
    · obtain ⟨x, hx⟩ : ∃ x, ks[i]? = some x := ⟨_, List.getElem?_eq_getElem (by rw [HKL.out]; exact hil)⟩
      obtain ⟨p, rfl, e0⟩ := HK.out i x hx
      obtain ⟨hx0, hx1⟩ := HKI.out x (List.mem_of_getElem? hx)
      obtain ⟨y, rfl⟩ : ∃ y : Nat, x = y := ⟨x.toNat, by omega⟩
      obtain ⟨d, hd⟩ : ∃ d, ds[y]? = some d := ⟨_, List.getElem?_eq_getElem (by omega)⟩
      have hyl : y < N := by have := HNN.out; omega
      obtain ⟨q, rfl, e1⟩ := HD.out y (d : Int) (nz_at (rowZ_at hd))
      have hd2 : d ≤ 1048576 := HBD.out d (List.mem_of_getElem? hd)
      have HNX : Hid (max m d = greatN ds (ks.take (i + 1)) 0) := Lib.hid (by rw [greatN_next hx, ← HM.out]; simp [hd])
      clear hx hx0 hx1 hd
      go_wp2_with fail
      go_roundw
      case rel => exact ⟨i + 1, max m d, by omega, by go_num, by go_num, HNX.out, trivial⟩
      case measure => simp [intOf]; omega
    · have HE : Hid (greatN ds ks 0 = m) := Lib.hid (by rw [HM.out, show i = kl by omega, HEQ.out])
      go_wp2_with fail
      go_ret
      exact ⟨by rw [HE.out]; rfl, rfl⟩
end Go.Proofs.YtcophfhnhlaonaaGreatDoor
namespace Go.Proofs.YtcophfhnhlaonaaGreatDoor
set_option linter.unusedVariables false
open Go.RowKit

theorem below_drew_alloc (w : World) (o : Obj) : Below w.heap.size w (w.alloc o).drew := (below1 w o).drew
def depC (gs : List Gat) : Nat := (depsL gs)[gs.length - 1]?.getD 0
theorem nz_set (l : List Nat) (i d : Nat) : (nz l).set i (d : Int) = nz (l.set i d) := by simp [nz, List.map_set]
theorem deps_small {gs : List Gat} (i : Nat) (h : gs.length ≤ 20000) : ∀ d ∈ runL depG (gs.take i) [], d ≤ 1048576 := fun d hd => by
  have := deps_le (gs.take i) [] 0 (by simp) d hd
  have h2 : (gs.take i).length ≤ gs.length := by rw [List.length_take]; omega
  omega

set_option maxRecDepth 100000 in
set_option maxHeartbeats 8000000 in
theorem CDepth_ok (inp : Int) (v : Value) (gs : List Gat) (w : World) (hv : CirV w v inp gs) :
    Calls Tryz.prog 40 #[v] w fun r w' => r = .returned (.int .i64 (if okC inp gs = true then ((depC gs : Nat) : Int) else -1)) ∧ Below w.heap.size w w' := by
  have hv0 := hv
  obtain ⟨A, c, rfl, hr, hl⟩ := hv
  have HS0 := Lib.hid (BoxC.start w inp A gs.length c)
  have HR := Lib.hid hr
  have HVC := Lib.hid (CValid_ok inp _ gs _ (hv0.below HS0.out.bel))
  have HOK : Hid (okC inp gs = true → 1 ≤ gs.length ∧ gs.length ≤ 20000 ∧ ∀ i g, gs[i]? = some g → okG inp i g = true) := Lib.hid (fun h => ⟨(okC_iff.1 h).2.2.1, (okC_iff.1 h).2.2.2.1, fun i g hg => okC_at h hg⟩)
  obtain ⟨c0, c1⟩ := HS0.out.cells
  clear hr hv0
  obtain ⟨bb, hbb⟩ : ∃ b, okC inp gs = b := ⟨_, rfl⟩
  rw [hbb] at HVC HOK ⊢
  obtain ⟨res, hres⟩ : ∃ r : Int, (if bb = true then ((depC gs : Nat) : Int) else -1) = r := ⟨_, rfl⟩
  have HRES : Hid ((bb = true → res = (depC gs : Nat)) ∧ (bb = false → res = -1)) := Lib.hid ⟨fun h => by rw [← hres, if_pos h], fun h => by rw [← hres, if_neg (by rw [h]; decide)]⟩
  rw [hres]
  clear hbb hres
  go_enter Tryz.func40, Tryz.ntmps40
  go_wp2_with fail
  refine HVC.out.mono ?_
  rintro e w2 ⟨rfl, hB2⟩
  have HS2 := Lib.hid (HS0.out.step hB2)
  obtain ⟨y0, y1⟩ := HS2.out.cells
  clear hB2 c0 c1
  cases bb
  · have HR0 := Lib.hid (HRES.out.2 rfl)
    clear HRES
    go_wp2_with fail
    go_ret
    exact ⟨by rw [HR0.out]; rfl, HS2.out.bel⟩
  have HR1 := Lib.hid (HRES.out.1 rfl)
  clear HRES
  obtain ⟨hl1, hl2, hgg⟩ := HOK.out rfl
  have HGG := Lib.hid hgg
  clear hgg HOK
  have HSM := Lib.hid (fun i => deps_small (gs := gs) i hl2)
  have HLN := Lib.hid (fun i hi => runL_len (f := depG) gs i hi)
  have HFU : Hid (∀ l : List Nat, l = runL depG (gs.take gs.length) [] → l[gs.length - 1]?.getD 0 = depC gs) := Lib.hid (fun l hl => by rw [hl, List.take_length]; rfl)
  generalize hL : gs.length = L at *
  have HL := Lib.hid hL
  clear hL
  have hmk := make_ints L (by omega)
  have HST : Hid (BoxC w inp A L c (w2.alloc (intsO (List.replicate L 0))) ∧ (w2.alloc (intsO (List.replicate L 0))).heap[w2.heap.size]? = some (intsO (nz (rowZ (runL depG (gs.take 0) []) L 0)))) :=
    Lib.hid ⟨HS2.out.step (below1 _ _), by rw [alloc_at _ _ _ rfl]; simp [runL, rowZ_nil, nz]⟩
  obtain ⟨x0, x1⟩ := HST.out.1.cells
  have HSZ := Lib.hid HS2.out.bel.size
  go_wp2_with fail
  go_loopw [4, 5, 16] (fun _ _ iv W => ∃ i : Nat, i ≤ L ∧ iv = .int .i64 i ∧ BoxC w inp A L c W ∧ W.heap[w2.heap.size]? = some (intsO (nz (rowZ (runL depG (gs.take i) []) L 0)))) (fun _ _ iv _ => L - (intOf iv).toNat)
  case atStart => exact ⟨0, by omega, rfl, HST.out.1, HST.out.2⟩
  case round =>
    obtain ⟨i, hi, rfl, hB, hD⟩ := hrel
    have HB := Lib.hid hB
    have hlen := HLN.out i hi
    by_cases hil : i < L
    · obtain ⟨⟨k, n, ks⟩, hg⟩ : ∃ g, gs[i]? = some g := ⟨_, List.getElem?_eq_getElem (by rw [HL.out]; exact hil)⟩
      obtain ⟨b, off, u, rfl, g0, g1, g2, K, kc, rfl, hK, hKl⟩ := HR.out i _ hg
      have e0 := (HB.out.bel.cell (World.block_lt_of_cell? w _ g0)).trans g0
      have e1 := (HB.out.bel.cell (World.block_lt_of_cell? w _ g1)).trans g1
      have e2 := (HB.out.bel.cell (World.block_lt_of_cell? w _ g2)).trans g2
      have hok := HGG.out i _ hg
      have hkin : kidsIn i ks := kidsIn_of (by rw [okG, Bool.and_eq_true] at hok; exact hok.2)
      have hks2 : ks.length ≤ 2 := by
        rcases okG_cases hok with ⟨_, _, _, h⟩ | ⟨_, _, h⟩ | ⟨_, _, _, h, _⟩ | ⟨_, _, _, _, h, _⟩ <;> (dsimp only at h; rw [h]; simp)
      have hd1 : Below w.heap.size w (wr.alloc (.cells #[.int .i64 k, .int .i64 n, .slice K ks.length kc] 78)).drew := HB.out.bel.trans ((below_drew_alloc wr _).mono HB.out.bel.size)
      have hD1 : (wr.alloc (.cells #[.int .i64 k, .int .i64 n, .slice K ks.length kc] 78)).drew.heap[w2.heap.size]? = some (intsO (nz (rowZ (runL depG (gs.take i) []) L 0))) := ((below_drew_alloc wr _).block _ (Array.getElem?_eq_some_iff.1 hD).1).trans hD
      have HS1 := Lib.hid (HB.out.step (below1 wr (.cells #[.int .i64 k, .int .i64 n, .slice K ks.length kc] 78)))
      have HST1 := Lib.hid (steps_ok k (wr.alloc (.cells #[.int .i64 k, .int .i64 n, .slice K ks.length kc] 78)).drew)
      have HGR := Lib.hid (greatest_ok (runL depG (gs.take i) []) L (some ⟨w2.heap.size, 0, none⟩) K L kc ks _ (ints_read hD1) (by omega) (by omega) (hK.below hd1) (by rw [hlen]; exact hkin) (HSM.out i) (by omega))
      have hdk : depAt fSh k ≤ 2 := depAt_le (by decide) k
      have hgk := greatN_le (HSM.out i) ks 0 (Nat.zero_le _)
      obtain ⟨q1, f1⟩ := ints_cell (j := i) (x := 0) hD1 (by have := nz_at (rowZ_cur (z := 0) (show (runL depG (gs.take i) []).length < L by omega)); rw [hlen] at this; exact this)
      have HNX : Hid (∀ d, d = depG (runL depG (gs.take i) []) ⟨k, n, ks⟩ → (rowZ (runL depG (gs.take i) []) L 0).set i d = rowZ (runL depG (gs.take (i + 1)) []) L 0) := Lib.hid (fun d hd => by
        have h := rowZ_next (z := 0) (show (runL depG (gs.take i) []).length < L by omega) d
        rw [hlen] at h
        rw [h, hd, runL_next hg])
      have hset := ints_set (j := i) ((depAt fSh k + greatN (runL depG (gs.take i) []) ks 0 : Nat) : Int) hD1
      rw [nz_set, HNX.out (depAt fSh k + greatN (runL depG (gs.take i) []) ks 0) rfl, Int.natCast_add] at hset
      have HSET := Lib.hid hset
      generalize depAt fSh k = dk at *
      generalize greatN (runL depG (gs.take i) []) ks 0 = gk at *
      generalize ks.length = kl at *
      clear hg g0 g1 g2 hK hKl hok hkin hB hD hD1 hd1 hset x0 x1 y0 y1
      go_wp2_with fail
      go_region_with (first | (go_at_call 62; refine HST1.out.mono ?_; rintro e w1 ⟨rfl, rfl⟩) | (go_at_call 63; refine HGR.out.mono ?_; rintro e w1 ⟨rfl, rfl⟩))
      all_goals
        go_wp2_with fail
        go_roundw
        case rel => exact ⟨i + 1, by omega, by go_num, (HS1.out.put (p := ⟨w2.heap.size, i, none⟩) HS2.out.lt _).drew, HSET.out⟩
        case measure => simp [intOf]; omega
    · obtain rfl : i = L := by omega
      obtain ⟨m, rfl⟩ : ∃ m, i = m + 1 := ⟨i - 1, by omega⟩
      obtain ⟨x, hx⟩ : ∃ x, (runL depG (gs.take (m + 1)) [])[m]? = some x := ⟨_, List.getElem?_eq_getElem (by rw [hlen]; omega)⟩
      obtain ⟨q1, f1⟩ := ints_cell (j := m) (x := (x : Int)) hD (nz_at (rowZ_at hx))
      have HE : Hid (res = (x : Nat)) := Lib.hid (by
        rw [HR1.out, ← HFU.out (runL depG (gs.take (m + 1)) []) rfl, show m + 1 - 1 = m from rfl, hx]; rfl)
      clear hB hD hx x0 x1 y0 y1 hlen
      go_wp2_with fail
      go_ret
      exact ⟨by rw [HE.out]; rfl, HB.out.bel⟩
end Go.Proofs.YtcophfhnhlaonaaGreatDoor
