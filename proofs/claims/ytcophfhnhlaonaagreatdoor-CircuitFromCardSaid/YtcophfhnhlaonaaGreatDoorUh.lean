/-
  Joined from Pql, Pqm, Pqn: see there.
-/
import Derived.Test.YtcophfhnhlaonaaGreatDoorUg
import Derived.Deep.RegionWith
namespace Go.Proofs.YtcophfhnhlaonaaGreatDoor
set_option linter.unusedVariables false
open Go.RowKit Go.Maps

def redN (q e : Nat) : Nat := if e < q then e else 1 + (e - 1) % (q - 1)
theorem redN_le {q e : Nat} (hq : 2 ≤ q) (he : e ≤ 65535) : redN q e ≤ 65535 := by
  unfold redN
  split
  · exact he
  · have h1 := Nat.mod_lt (e - 1) (show 0 < q - 1 by omega)
    omega
/-! ### open, as the functions of the package call it -/
def ValidPs (P M n : Int) (ps : List (List (Int × List Int))) : Prop := ∃ P' M' q n' : Nat, P = P' ∧ M = M' ∧ n = n' ∧ Fld P' M' q ∧ n' ≤ 80 ∧ ∀ p ∈ ps, OkP q n' p
theorem Fld.uniq {P M q q' : Nat} (h : Fld P M q) (h' : Fld P M q') : q = q' := by
  rcases h with ⟨rfl, _, _, rfl⟩ | ⟨rfl, h2, _, rfl⟩
  · rcases h' with ⟨_, _, _, rfl⟩ | ⟨_, h3, _, _⟩
    · rfl
    · omega
  · rcases h' with ⟨h3, _⟩ | ⟨_, _, _, rfl⟩
    · omega
    · rfl
/-- A polynomial as an argument. -/
def PolyV (w : World) (v : Value) (ts : List (Int × List Int)) : Prop := ∃ A c, v = .slice A ts.length c ∧ RdP w A ts ∧ ts.length ≤ 1152921504606846976
theorem PolyV.below {w w' : World} {v : Value} {ts : List (Int × List Int)} (h : PolyV w v ts) (hB : Below w.heap.size w w') : PolyV w' v ts := by
  obtain ⟨A, c, e, h1, h2⟩ := h
  exact ⟨A, c, e, h1.below hB, h2⟩
theorem rdps_one {w : World} {g : Nat} {v : Value} {ts : List (Int × List Int)} (hc : w.cell? ⟨g, 0, none⟩ = some v) (hv : PolyV w v ts) : RdPs w (some ⟨g, 0, none⟩) [ts] := fun k p hp => by
  obtain ⟨A, c, rfl, h1, h2⟩ := hv
  match k, hp with
  | 0, hp =>
    simp at hp
    subst hp
    exact ⟨g, 0, A, c, rfl, hc, h1, h2⟩
  | k + 1, hp => simp at hp
theorem rdps_two {w : World} {g : Nat} {v v' : Value} {ts ts' : List (Int × List Int)} (hc : w.cell? ⟨g, 0, none⟩ = some v) (hc' : w.cell? ⟨g, 1, none⟩ = some v') (hv : PolyV w v ts) (hv' : PolyV w v' ts') : RdPs w (some ⟨g, 0, none⟩) [ts, ts'] := fun k p hp => by
  obtain ⟨A, c, rfl, h1, h2⟩ := hv
  obtain ⟨A', c', rfl, h1', h2'⟩ := hv'
  match k, hp with
  | 0, hp =>
    simp at hp
    subst hp
    exact ⟨g, 0, A, c, rfl, hc, h1, h2⟩
  | 1, hp =>
    simp at hp
    subst hp
    exact ⟨g, 0, A', c', rfl, hc', h1', h2'⟩
  | k + 2, hp => simp at hp

section
variable {w0 W W' : World} {sb mb br ge P M q n : Nat} {ts : List Tm}
end
/-- A list filled anew from the front. -/
def mixI (xs : List Int) (f : Nat → Nat) (e : List Nat) (k : Nat) : List Int := nz ((e.take k).map f) ++ xs.drop k
theorem mixI_zero (xs : List Int) (f : Nat → Nat) (e : List Nat) : mixI xs f e 0 = xs := by simp [mixI, nz]
theorem mixI_length {xs : List Int} {f : Nat → Nat} {e : List Nat} {n k : Nat} (hx : xs.length = n) (he : e.length = n) (hk : k ≤ n) : (mixI xs f e k).length = n := by
  simp [mixI, nz]; omega
theorem mixI_succ {xs : List Int} {f : Nat → Nat} {e : List Nat} {n k x : Nat} (hx : xs.length = n) (he : e.length = n) (hk : k < n) (h : e[k]? = some x) : (mixI xs f e k).set k ((f x : Nat) : Int) = mixI xs f e (k + 1) := by
  unfold mixI
  have h1 : (nz ((e.take k).map f)).length = k := by simp [nz]; omega
  rw [List.set_append_right _ _ (by omega), h1, List.take_add_one, h]
  obtain ⟨a, r, hr⟩ : ∃ a r, xs.drop k = a :: r := by
    cases h2 : xs.drop k with
    | nil => have := List.drop_eq_nil_iff.1 h2; omega
    | cons a r => exact ⟨a, r, rfl⟩
  have h3 : xs.drop (k + 1) = r := by
    have : xs.drop (k + 1) = (xs.drop k).drop 1 := by rw [List.drop_drop]
    rw [this, hr]; rfl
  rw [h3, hr]
  simp [nz]
theorem mixI_full {xs : List Int} {f : Nat → Nat} {e : List Nat} {n : Nat} (hx : xs.length = n) (he : e.length = n) : mixI xs f e n = nz (e.map f) := by
  unfold mixI
  rw [List.take_of_length_le (by omega), List.drop_of_length_le (by omega), List.append_nil]

def redT (q : Nat) (t : Tm) : Tm := (t.1, t.2.map (redN q))
theorem redT_ex {q n : Nat} {t : Tm} (hq : 2 ≤ q) (h : Ex n t.2) : Ex n (redT q t).2 := ⟨by simp [redT, h.1], fun x hx => by
  obtain ⟨y, hy, rfl⟩ := List.mem_map.1 hx
  exact redN_le hq (h.2 y hy)⟩

def PolyRes (q n : Nat) (add : Nat → Nat → Nat) (ts : List Tm) (w : World) (r : Ending) (w' : World) : Prop :=
  Below w.heap.size w w' ∧ ∃ p : List Tm, Ris q n p ∧ (∀ e, cfs add p e = cfs add ts e) ∧ (∀ t ∈ p, Ex n t.2) ∧ p.length ≤ ts.length ∧
    ((p.length ≤ 20000 ∧ ∃ A c, r = .returned (.tuple #[.slice A p.length c, .int .i64 0]) ∧ RdP w' A (tms p)) ∨ (20000 < p.length ∧ r = .returned (.tuple #[.slice none 0 0, .int .i64 5])))

end Go.Proofs.YtcophfhnhlaonaaGreatDoor
namespace Go.Proofs.YtcophfhnhlaonaaGreatDoor
set_option linter.unusedVariables false
open Go.RowKit Go.Maps

def bitN (i b : Nat) : Nat := i / 2 ^ b % 2
/-- One pass: where bit b is set, what stands where it is not is taken away. -/
def mobStep (sub : Nat → Nat → Nat) (b : Nat) (xs : List Nat) : List Nat := (List.range xs.length).map fun i => if bitN i b = 1 then sub (xs[i]?.getD 0) (xs[i - 2 ^ b]?.getD 0) else xs[i]?.getD 0
def mobs (sub : Nat → Nat → Nat) (xs : List Nat) : Nat → List Nat
  | 0 => xs
  | b + 1 => mobStep sub b (mobs sub xs b)
def tab01 (bs : List Bool) : List Nat := bs.map fun b => if b then 1 else 0

theorem mobStep_length (sub : Nat → Nat → Nat) (b : Nat) (xs : List Nat) : (mobStep sub b xs).length = xs.length := by simp [mobStep]
theorem mobs_length (sub : Nat → Nat → Nat) (xs : List Nat) (b : Nat) : (mobs sub xs b).length = xs.length := by
  induction b with
  | zero => rfl
  | succ b ih => rw [mobs, mobStep_length, ih]
theorem mobStep_lt {sub : Nat → Nat → Nat} {q : Nat} (hs : ∀ a b, a < q → b < q → sub a b < q) (h0 : 0 < q) (b : Nat) {xs : List Nat} (hx : ∀ x ∈ xs, x < q) : ∀ x ∈ mobStep sub b xs, x < q := fun x hx' => by
  obtain ⟨i, hi, rfl⟩ := List.mem_map.1 hx'
  have hg : ∀ j : Nat, xs[j]?.getD 0 < q := fun j => by
    cases h : xs[j]? with
    | none => exact h0
    | some y => exact hx y (List.mem_of_getElem? h)
  split
  · exact hs _ _ (hg _) (hg _)
  · exact hg _
theorem mobs_lt {sub : Nat → Nat → Nat} {q : Nat} (hs : ∀ a b, a < q → b < q → sub a b < q) (h0 : 0 < q) {xs : List Nat} (hx : ∀ x ∈ xs, x < q) (b : Nat) : ∀ x ∈ mobs sub xs b, x < q := by
  induction b with
  | zero => exact hx
  | succ b ih => exact mobStep_lt hs h0 b ih
/-- A pass in part. -/
def mobPart (sub : Nat → Nat → Nat) (b : Nat) (xs : List Nat) (k : Nat) : List Nat := (List.range xs.length).map fun i => if i < k ∧ bitN i b = 1 then sub (xs[i]?.getD 0) (xs[i - 2 ^ b]?.getD 0) else xs[i]?.getD 0
theorem mobPart_zero (sub : Nat → Nat → Nat) (b : Nat) (xs : List Nat) : mobPart sub b xs 0 = xs := by
  unfold mobPart
  apply List.ext_getElem?
  intro i
  by_cases h : i < xs.length
  · simp [h]
  · simp [h]
theorem mobPart_full (sub : Nat → Nat → Nat) (b : Nat) (xs : List Nat) : mobPart sub b xs xs.length = mobStep sub b xs := by
  unfold mobPart mobStep
  refine List.map_congr_left fun i hi => ?_
  have := List.mem_range.1 hi
  simp [this]
theorem mobPart_length (sub : Nat → Nat → Nat) (b : Nat) (xs : List Nat) (k : Nat) : (mobPart sub b xs k).length = xs.length := by simp [mobPart]
theorem mobPart_at {sub : Nat → Nat → Nat} {b : Nat} {xs : List Nat} {k i : Nat} (hi : i < xs.length) (h : ¬ (i < k ∧ bitN i b = 1)) : (mobPart sub b xs k)[i]? = some (xs[i]?.getD 0) := by
  unfold mobPart
  rw [List.getElem?_map, List.getElem?_range hi]
  simp only [Option.map_some, if_neg h]
theorem mobPart_skip {sub : Nat → Nat → Nat} {b : Nat} {xs : List Nat} {k : Nat} (h : bitN k b ≠ 1) : mobPart sub b xs (k + 1) = mobPart sub b xs k := by
  unfold mobPart
  refine List.map_congr_left fun i hi => ?_
  by_cases hik : i = k
  · subst hik
    simp [h]
  · have : (i < k + 1) ↔ (i < k) := by omega
    simp only [this]
theorem mobPart_put {sub : Nat → Nat → Nat} {b : Nat} {xs : List Nat} {k : Nat} (hk : k < xs.length) (h : bitN k b = 1) :
    (mobPart sub b xs k).set k (sub (xs[k]?.getD 0) (xs[k - 2 ^ b]?.getD 0)) = mobPart sub b xs (k + 1) := by
  unfold mobPart
  apply List.ext_getElem?
  intro i
  by_cases hi : i < xs.length
  · rw [List.getElem?_set]
    by_cases hik : k = i
    · subst hik
      simp [hi, h]
    · rw [if_neg hik, List.getElem?_map, List.getElem?_map, List.getElem?_range hi]
      have : (i < k + 1) ↔ (i < k) := by omega
      simp only [this, Option.map_some]
  · have h1 : ¬ i < (List.range xs.length).length := by simpa using hi
    simp [hi]
theorem bitN_sub {k b : Nat} (h : bitN k b = 1) : 2 ^ b ≤ k ∧ bitN (k - 2 ^ b) b ≠ 1 := by
  unfold bitN at h ⊢
  have hp : 0 < 2 ^ b := Nat.pow_pos (by omega)
  have h1 : 1 ≤ k / 2 ^ b := by
    rcases Nat.eq_zero_or_pos (k / 2 ^ b) with h0 | h0
    · rw [h0] at h; simp at h
    · exact h0
  have h2 : 2 ^ b ≤ k := by
    have := Nat.mul_le_mul_left (2 ^ b) h1
    have h3 := Nat.mul_div_le k (2 ^ b)
    omega
  refine ⟨h2, ?_⟩
  have h3 : (k - 2 ^ b) / 2 ^ b = k / 2 ^ b - 1 := by
    have := Nat.sub_mul_div k (2 ^ b) 1
    simpa using this
  rw [h3]
  omega
theorem land_bit (k b : Nat) : k &&& 2 ^ b = bitN k b * 2 ^ b := by
  have ht : k.testBit b = decide (bitN k b = 1) := Nat.testBit_eq_decide_div_mod_eq
  have h2 : bitN k b = 0 ∨ bitN k b = 1 := by unfold bitN; omega
  apply Nat.eq_of_testBit_eq
  intro j
  rw [Nat.testBit_and, Nat.testBit_two_pow]
  by_cases hj : b = j
  · subst hj
    rw [ht]
    rcases h2 with h2 | h2 <;> simp [h2]
  · rcases h2 with h2 | h2 <;> simp [h2, hj]
theorem and_nat (a b : Nat) (ha : a < 9223372036854775808) (hb : b < 9223372036854775808) : bits .and .i64 (a : Int) (b : Int) = ((a &&& b : Nat) : Int) := by
  show IntKind.i64.wrap ((BitVec.ofInt 64 (a : Int) &&& BitVec.ofInt 64 (b : Int)).toNat : Int) = _
  rw [BitVec.toNat_and, ofInt_u64 a (by omega), ofInt_u64 b (by omega)]
  exact Lib.wrap_i64_small _ (Nat.lt_of_le_of_lt Nat.and_le_left ha)

/-- A list of truth values behind a slice's address. -/
def RdB (w : World) (A : Option Addr) (bs : List Bool) : Prop := ∀ (k : Nat) (x : Bool), bs[k]? = some x → ∃ a, A = some a ∧ w.cell? (a.add k) = some (.bool x)
theorem RdB.below {w w' : World} {A : Option Addr} {bs : List Bool} (h : RdB w A bs) (hb : Below w.heap.size w w') : RdB w' A bs := fun k x hk => by
  obtain ⟨a, ha, hc⟩ := h k x hk
  exact ⟨a, ha, (hb.cell (World.block_lt_of_cell? w _ hc)).trans hc⟩

def tabPart (bs : List Bool) (k : Nat) : List Int := nz (tab01 (bs.take k)) ++ List.replicate (bs.length - k) 0
theorem tabPart_zero (bs : List Bool) : tabPart bs 0 = List.replicate bs.length 0 := by simp [tabPart, tab01, nz]
theorem tabPart_full (bs : List Bool) : tabPart bs bs.length = nz (tab01 bs) := by simp [tabPart]
theorem tabPart_at {bs : List Bool} {k : Nat} (hk : k < bs.length) : (tabPart bs k)[k]? = some 0 := by
  unfold tabPart
  have h1 : (nz (tab01 (bs.take k))).length = k := by simp [nz, tab01]; omega
  rw [List.getElem?_append_right (by omega), h1, Nat.sub_self, List.getElem?_replicate]
  simp; omega
theorem tabPart_succ {bs : List Bool} {k : Nat} {x : Bool} (hk : k < bs.length) (hx : bs[k]? = some x) : (tabPart bs k).set k (if x then 1 else 0) = tabPart bs (k + 1) := by
  unfold tabPart
  have h1 : (nz (tab01 (bs.take k))).length = k := by simp [nz, tab01]; omega
  rw [List.set_append_right _ _ (by omega), h1, List.take_add_one, hx]
  obtain ⟨m, hm⟩ : ∃ m, bs.length - k = m + 1 := ⟨bs.length - k - 1, by omega⟩
  rw [hm, show bs.length - (k + 1) = m by omega, List.replicate_succ]
  cases x <;> simp [nz, tab01]

end Go.Proofs.YtcophfhnhlaonaaGreatDoor
namespace Go.Proofs.YtcophfhnhlaonaaGreatDoor
set_option linter.unusedVariables false
open Go.RowKit Go.Maps

theorem ctz_pow (n : Nat) (hn : n ≤ 12) : Lib.ctz 64 (2 ^ n) = n := by
  have : n = 0 ∨ n = 1 ∨ n = 2 ∨ n = 3 ∨ n = 4 ∨ n = 5 ∨ n = 6 ∨ n = 7 ∨ n = 8 ∨ n = 9 ∨ n = 10 ∨ n = 11 ∨ n = 12 := by omega
  rcases this with rfl | rfl | rfl | rfl | rfl | rfl | rfl | rfl | rfl | rfl | rfl | rfl | rfl <;> decide +kernel

def bitsL (n i : Nat) : List Nat := (List.range n).map (bitN i)
theorem bitsL_ex (n i : Nat) : Ex n (bitsL n i) := ⟨by simp [bitsL], fun x hx => by
  obtain ⟨v, _, rfl⟩ := List.mem_map.1 hx
  unfold bitN; omega⟩
/-- The terms of the first k entries. -/
def mlT (C : List Nat) (n k : Nat) : List Tm := (List.range k).map fun i => (C[i]?.getD 0, bitsL n i)
theorem mlT_succ (C : List Nat) (n k : Nat) : mlT C n (k + 1) = mlT C n k ++ [(C[k]?.getD 0, bitsL n k)] := by
  simp [mlT, List.range_succ]
theorem mlT_length (C : List Nat) (n k : Nat) : (mlT C n k).length = k := by simp [mlT]
theorem mlT_lt {C : List Nat} {q : Nat} (h : ∀ i : Nat, C[i]?.getD 0 < q) (n k : Nat) : CoLt q (mlT C n k) := fun t ht => by
  obtain ⟨i, _, rfl⟩ := List.mem_map.1 ht
  exact h i

/-- The table's coefficients. -/
def mlC (P M n : Nat) (bs : List Bool) : List Nat := mobs (subN P M) (tab01 bs) n
theorem mlC_lt {P M q : Nat} (hf : Fld P M q) (n : Nat) (bs : List Bool) : ∀ i : Nat, (mlC P M n bs)[i]?.getD 0 < q := fun i => by
  have hrng := hf.fl.toRng
  have ht01 : ∀ x ∈ tab01 bs, x < q := fun x hx => by
    obtain ⟨b, _, rfl⟩ := List.mem_map.1 hx
    have := hf.q_ge
    cases b <;> simp <;> omega
  cases h : (mlC P M n bs)[i]? with
  | none => exact hrng.pos
  | some y => exact mobs_lt (fun a b ha hb => hrng.sub_lt ha hb) hrng.pos ht01 n y (List.mem_of_getElem? h)
theorem rdps_none (w : World) : RdPs w none [] := fun k p hp => by simp at hp

end Go.Proofs.YtcophfhnhlaonaaGreatDoor
