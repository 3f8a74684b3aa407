/-
  Joined from Fdk, Fdl, Fdm, Fdn, Fdo: see there.
-/
import Derived.Test.YtcophfhnhlaonaaGreatDoorUb
import Derived.Deep.RegionHeld3
import Derived.Deep.DeepCutAuto
import Derived.Maps.AppendAt
import Derived.OwnWalk
import Derived.Laws.OwnMore
namespace Go.Proofs.YtcophfhnhlaonaaGreatDoor
open Go.RowKit

/-- The kit of a valid field, as a value. -/
def modOf (M : Nat) : Nat := if M = 1 then 0 else modN M
def kitV (P M q : Nat) : Value := .agg #[.int .i64 (P : Int), .int .i64 (M : Int), .int .i64 (q : Int), .int .i64 (modOf M : Int)]

theorem cell_a3 (w : World) (o b c : Obj) (i : Nat) : (((w.alloc o).alloc b).alloc c).cell? ⟨w.heap.size, i, none⟩ = (w.alloc o).cell? ⟨w.heap.size, i, none⟩ := by
  rw [World.cell?_alloc_lt _ _ _ (by simp; omega), World.cell?_alloc_lt _ _ _ (by simp)]
theorem cell_a3n (w : World) (o b : Obj) (cs : Array Value) (t : TypeId) (i : Nat) : (((w.alloc o).alloc b).alloc (.cells cs t)).cell? ⟨w.heap.size + 2, i, none⟩ = cs[i]? := by
  have := World.cell?_alloc_new ((w.alloc o).alloc b) cs t i
  simpa using this
theorem froz_a3n (w : World) (o b : Obj) (cs : Array Value) (t : TypeId) (i : Nat) : (((w.alloc o).alloc b).alloc (.cells cs t)).frozen? ⟨w.heap.size + 2, i, none⟩ = false := by
  have := World.frozen?_alloc_new ((w.alloc o).alloc b) cs t i
  simpa using this
theorem cell_set4 {w : World} {b g i : Nat} {x : Option Value} (v0 v1 v2 v3 : Value) (h : w.cell? ⟨b, i, none⟩ = x) (hne : b ≠ g) :
    ((((w.setCell ⟨g, 0, none⟩ v0).setCell ⟨g, 1, none⟩ v1).setCell ⟨g, 2, none⟩ v2).setCell ⟨g, 3, none⟩ v3).cell? ⟨b, i, none⟩ = x := by
  have hn : ∀ j, (⟨g, j, none⟩ : Addr) ≠ ⟨b, i, none⟩ := fun j e => hne (by cases e; rfl)
  rw [World.cell?_setCell_other _ _ _ _ (hn 3), World.cell?_setCell_other _ _ _ _ (hn 2), World.cell?_setCell_other _ _ _ _ (hn 1), World.cell?_setCell_other _ _ _ _ (hn 0)]
  exact h

def set4 (w : World) (g : Nat) (v0 v1 v2 v3 : Value) : World := (((w.setCell ⟨g, 0, none⟩ v0).setCell ⟨g, 1, none⟩ v1).setCell ⟨g, 2, none⟩ v2).setCell ⟨g, 3, none⟩ v3
theorem set4_at {w : World} {g : Nat} (v0 v1 v2 v3 : Value) {u0 u1 u2 u3 : Value} (h0 : w.cell? ⟨g, 0, none⟩ = some u0) (h1 : w.cell? ⟨g, 1, none⟩ = some u1) (h2 : w.cell? ⟨g, 2, none⟩ = some u2) (h3 : w.cell? ⟨g, 3, none⟩ = some u3) :
    (set4 w g v0 v1 v2 v3).cell? ⟨g, 0, none⟩ = some v0 ∧ (set4 w g v0 v1 v2 v3).cell? ⟨g, 1, none⟩ = some v1 ∧ (set4 w g v0 v1 v2 v3).cell? ⟨g, 2, none⟩ = some v2 ∧ (set4 w g v0 v1 v2 v3).cell? ⟨g, 3, none⟩ = some v3 := by
  have hn : ∀ i j, i ≠ j → (⟨g, i, none⟩ : Addr) ≠ ⟨g, j, none⟩ := fun i j hij e => hij (by cases e; rfl)
  unfold set4
  refine ⟨?_, ?_, ?_, ?_⟩
  · rw [World.cell?_setCell_other _ _ _ _ (hn 3 0 (by omega)), World.cell?_setCell_other _ _ _ _ (hn 2 0 (by omega)), World.cell?_setCell_other _ _ _ _ (hn 1 0 (by omega))]
    exact World.cell?_setCell_same _ _ _ h0
  · rw [World.cell?_setCell_other _ _ _ _ (hn 3 1 (by omega)), World.cell?_setCell_other _ _ _ _ (hn 2 1 (by omega))]
    exact World.cell?_setCell_same (u := u1) _ _ _ (by rw [World.cell?_setCell_other _ _ _ _ (hn 0 1 (by omega))]; exact h1)
  · rw [World.cell?_setCell_other _ _ _ _ (hn 3 2 (by omega))]
    exact World.cell?_setCell_same (u := u2) _ _ _ (by rw [World.cell?_setCell_other _ _ _ _ (hn 1 2 (by omega)), World.cell?_setCell_other _ _ _ _ (hn 0 2 (by omega))]; exact h2)
  · exact World.cell?_setCell_same (u := u3) _ _ _ (by rw [World.cell?_setCell_other _ _ _ _ (hn 2 3 (by omega)), World.cell?_setCell_other _ _ _ _ (hn 1 3 (by omega)), World.cell?_setCell_other _ _ _ _ (hn 0 3 (by omega))]; exact h3)
theorem set4_below {B : Nat} {a w : World} (h : Below B a w) {g : Nat} (hg : B ≤ g) (v0 v1 v2 v3 : Value) : Below B a (set4 w g v0 v1 v2 v3) :=
  (((h.setCell (p := ⟨g, 0, none⟩) hg v0).setCell (p := ⟨g, 1, none⟩) hg v1).setCell (p := ⟨g, 2, none⟩) hg v2).setCell (p := ⟨g, 3, none⟩) hg v3
theorem set4_frozen {w : World} {g : Nat} (v0 v1 v2 v3 : Value) (p : Addr) : (set4 w g v0 v1 v2 v3).frozen? p = w.frozen? p := by simp [set4]
theorem below_undrew {B : Nat} {W w1 : World} (h : Below B W.drew w1) : Below B W w1 := ⟨h.os, h.tape, h.output, h.size, h.block⟩

end Go.Proofs.YtcophfhnhlaonaaGreatDoor
namespace Go.Proofs.YtcophfhnhlaonaaGreatDoor
open Go.RowKit

theorem Fld.m_ge {P M q : Nat} (h : Fld P M q) : 1 ≤ M := by
  rcases h with ⟨h, _⟩ | ⟨_, h, _⟩ <;> omega
theorem Fld.p_eq {P q : Nat} (h : Fld P 1 q) : q = P := by
  rcases h with ⟨_, _, _, h⟩ | ⟨_, h, _⟩
  · exact h
  · omega
theorem Fld.p_two {P M q : Nat} (h : Fld P M q) (hM : 2 ≤ M) : P = 2 := by
  rcases h with ⟨h, _⟩ | ⟨h, _⟩
  · omega
  · exact h

def negN (P M a : Nat) : Nat := if M = 1 then (P - a) % P else a
theorem Fld.negN_lt {P M q a : Nat} (h : Fld P M q) (ha : a < q) : negN P M a < q := by
  unfold negN
  by_cases hM : M = 1
  · subst hM
    rw [if_pos rfl, h.p_eq]
    exact Nat.mod_lt _ (by have := h.p_eq; omega)
  · rw [if_neg hM]; exact ha
theorem Fld.add_neg {P M q a b : Nat} (h : Fld P M q) : addN P M a (negN P M b) = subN P M a b := by
  unfold addN negN subN
  by_cases hM : M = 1
  · subst hM
    rw [if_pos rfl, if_pos rfl, if_pos rfl, Nat.add_mod_mod]
  · rw [if_neg hM, if_neg hM, if_neg hM]

theorem bit_val (b i : Nat) (hb : b < 9223372036854775808) : bits .and .i64 ((b : Int) / 2 ^ i) 1 = ((b >>> i % 2 : Nat) : Int) := by
  have h1 : (b : Int) / 2 ^ i = ((b >>> i : Nat) : Int) := by rw [Nat.shiftRight_eq_div_pow]; simp
  rw [h1]
  exact and1_nat _ (Nat.lt_of_le_of_lt (by rw [Nat.shiftRight_eq_div_pow]; exact Nat.div_le_self _ _) hb)
theorem shl_slot (c a i : Nat) (hc : c < 4294967296) (ha : a < 65536) (hi : i < 16) : bits .xor .i64 (c : Int) (wrap64 ((a : Int) * 2 ^ i)) = ((c ^^^ a <<< i : Nat) : Int) ∧ c ^^^ a <<< i < 4294967296 := by
  have h1 : a <<< i < 4294967296 := by
    rw [Nat.shiftLeft_eq]
    have h2 : 2 ^ i ≤ 2 ^ 15 := Nat.pow_le_pow_right (by omega) (by omega)
    have h3 : a * 2 ^ i ≤ 65535 * 2 ^ 15 := Nat.mul_le_mul (by omega) h2
    exact Nat.lt_of_le_of_lt h3 (by decide)
  have hx : (a : Int) * 2 ^ i = ((a <<< i : Nat) : Int) := by rw [Nat.shiftLeft_eq]; simp
  have hy : ∀ y : Nat, y < 4294967296 → wrap64 (y : Int) = (y : Int) := fun y h => IntWalk.wrap64_in _ (by omega)
  have e32 : (4294967296 : Nat) = 2 ^ 32 := by decide
  refine ⟨?_, ?_⟩
  · rw [hx, hy _ h1]
    exact xor_nat c _ (by omega) (Nat.lt_trans h1 (by decide))
  · rw [e32] at hc h1 ⊢
    exact Nat.xor_lt_two_pow hc h1
theorem clm_round {a b c i t : Nat} (hr : c ^^^ clm (a <<< i) (b >>> i) = t) :
    (b >>> i % 2 = 1 → c ^^^ a <<< i ^^^ clm (a <<< (i + 1)) (b >>> (i + 1)) = t) ∧ (¬ b >>> i % 2 = 1 → c ^^^ clm (a <<< (i + 1)) (b >>> (i + 1)) = t) := by
  have h1 : a <<< (i + 1) = 2 * a <<< i := Nat.shiftLeft_succ _ _
  have h2 : b >>> (i + 1) = b >>> i / 2 := Nat.shiftRight_succ _ _
  rw [h1, h2]
  rw [clm_step] at hr
  exact ⟨fun h => by rw [if_pos h, ← Nat.xor_assoc] at hr; exact hr, fun h => by rw [if_neg h, Nat.zero_xor] at hr; exact hr⟩
theorem clm_done {M a b c : Nat} (hb : b < 2 ^ M) (hr : c ^^^ clm (a <<< M) (b >>> M) = clm a b) : c = clm a b := by
  rw [Nat.shiftRight_eq_div_pow, Nat.div_eq_of_lt hb, clm_zero, Nat.xor_zero] at hr
  exact hr

end Go.Proofs.YtcophfhnhlaonaaGreatDoor
namespace Go.Proofs.YtcophfhnhlaonaaGreatDoor
open Go.RowKit

def KitAt (w : World) (g P M q : Nat) : Prop :=
  w.cell? ⟨g, 0, none⟩ = some (.int .i64 (P : Int)) ∧ w.cell? ⟨g, 1, none⟩ = some (.int .i64 (M : Int)) ∧ w.cell? ⟨g, 2, none⟩ = some (.int .i64 (q : Int)) ∧ w.cell? ⟨g, 3, none⟩ = some (.int .i64 (modOf M : Int))
theorem KitAt.below {w w' : World} {g P M q B : Nat} (h : KitAt w g P M q) (hb : Below B w w') (hg : g < B) : KitAt w' g P M q :=
  ⟨(hb.cell (p := ⟨g, 0, none⟩) hg).trans h.1, (hb.cell (p := ⟨g, 1, none⟩) hg).trans h.2.1, (hb.cell (p := ⟨g, 2, none⟩) hg).trans h.2.2.1, (hb.cell (p := ⟨g, 3, none⟩) hg).trans h.2.2.2⟩

end Go.Proofs.YtcophfhnhlaonaaGreatDoor
namespace Go.Proofs.YtcophfhnhlaonaaGreatDoor
open Go.RowKit

theorem Pr.gcd {p a : Nat} (h : Pr p) (ha : ¬ p ∣ a) : Nat.gcd p a = 1 := by
  have h1 := Nat.gcd_dvd_left p a
  have h2 := Nat.gcd_dvd_right p a
  have hp := h.1
  have hpos : 0 < Nat.gcd p a := Nat.gcd_pos_of_pos_left _ (by omega)
  have hle := Nat.le_of_dvd (by omega) h1
  by_cases hg : Nat.gcd p a = 1
  · exact hg
  · exfalso
    by_cases he : Nat.gcd p a = p
    · rw [he] at h2; exact ha h2
    · exact h.2 _ (by omega) (by omega) (Nat.mod_eq_zero_of_dvd h1)
theorem Pr.dvd_mul {p a b : Nat} (h : Pr p) (hab : p ∣ a * b) : p ∣ a ∨ p ∣ b := by
  by_cases ha : p ∣ a
  · exact .inl ha
  · exact .inr (Nat.Coprime.dvd_of_dvd_mul_left (h.gcd ha) hab)
theorem Pr.dvd_pr {p d : Nat} (h : Pr p) (hd : Pr d) (hpd : p ∣ d) : p = d := by
  have hle := Nat.le_of_dvd (by have := hd.1; omega) hpd
  by_cases he : p = d
  · exact he
  · exact absurd (Nat.mod_eq_zero_of_dvd hpd) (hd.2 p h.1 (by omega))

/-- The list of the prime divisors of k, in some order. -/
def PrimesOf (k : Nat) (ds : List Nat) : Prop := (∀ d ∈ ds, Pr d ∧ d ∣ k) ∧ ∀ p, Pr p → p ∣ k → p ∈ ds

structure DivInv (k0 kc d : Nat) (ds : List Nat) : Prop where
  one : 1 ≤ kc
  two : 2 ≤ d
  dvd : kc ∣ k0
  low : ∀ e, 2 ≤ e → e < d → kc % e ≠ 0
  ok : ∀ x ∈ ds, Pr x ∧ x ∣ k0
  all : ∀ p, Pr p → p ∣ k0 → p ∈ ds ∨ p ∣ kc
  len : ds.length + 2 ≤ d

theorem DivInv.start {k : Nat} (h : 1 ≤ k) : DivInv k k 2 [] :=
  ⟨h, by omega, Nat.dvd_refl _, fun e h1 h2 => by omega, (fun x hx => by cases hx), fun p _ h => .inr h, by simp⟩
theorem DivInv.le {k0 kc d : Nat} {ds : List Nat} (h : DivInv k0 kc d ds) (hk : 1 < kc) : d ≤ kc := by
  rcases Nat.lt_or_ge kc d with hlt | hge
  · exact absurd (Nat.mod_self kc) (h.low kc (by omega) hlt)
  · exact hge
theorem DivInv.skip {k0 kc d : Nat} {ds : List Nat} (h : DivInv k0 kc d ds) (hk : kc % d ≠ 0) : DivInv k0 kc (d + 1) ds :=
  ⟨h.one, by have := h.two; omega, h.dvd, fun e h1 h2 => by
    by_cases he : e = d
    · subst he; exact hk
    · exact h.low e h1 (by omega), h.ok, h.all, by have := h.len; omega⟩
theorem DivInv.prime {k0 kc d : Nat} {ds : List Nat} (h : DivInv k0 kc d ds) (hk : kc % d = 0) : Pr d :=
  ⟨h.two, fun e h1 h2 he => h.low e h1 h2 (Nat.mod_eq_zero_of_dvd (Nat.dvd_trans (Nat.dvd_of_mod_eq_zero he) (Nat.dvd_of_mod_eq_zero hk)))⟩

/-- Within the inner loop, d being in the list. -/
structure DivIn (k0 kc d : Nat) (ds : List Nat) : Prop where
  one : 1 ≤ kc
  pr : Pr d
  dvd : kc ∣ k0
  low : ∀ e, 2 ≤ e → e < d → kc % e ≠ 0
  ok : ∀ x ∈ ds, Pr x ∧ x ∣ k0
  all : ∀ p, Pr p → p ∣ k0 → p ∈ ds ∨ p ∣ kc
  mem : d ∈ ds
  len : ds.length + 1 ≤ d
theorem DivInv.enter {k0 kc d : Nat} {ds : List Nat} (h : DivInv k0 kc d ds) (hk : kc % d = 0) : DivIn k0 kc d (ds ++ [d]) :=
  ⟨h.one, h.prime hk, h.dvd, h.low, fun x hx => by
    rcases List.mem_append.1 hx with hx | hx
    · exact h.ok x hx
    · rw [List.mem_singleton] at hx
      subst hx
      exact ⟨h.prime hk, Nat.dvd_trans (Nat.dvd_of_mod_eq_zero hk) h.dvd⟩, fun p hp hpk => by
    rcases h.all p hp hpk with h1 | h1
    · exact .inl (List.mem_append_left _ h1)
    · exact .inr h1, by simp, by have := h.len; simp; omega⟩
theorem DivIn.step {k0 kc d : Nat} {ds : List Nat} (h : DivIn k0 kc d ds) (hk : kc % d = 0) : DivIn k0 (kc / d) d ds := by
  obtain ⟨c, hc⟩ := Nat.dvd_of_mod_eq_zero hk
  have hd := h.pr.1
  have hdc : kc / d = c := by rw [hc]; exact Nat.mul_div_cancel_left _ (by omega)
  rw [hdc]
  have hck : c ∣ kc := ⟨d, by rw [hc, Nat.mul_comm]⟩
  refine ⟨?_, h.pr, Nat.dvd_trans hck h.dvd, fun e h1 h2 he => ?_, h.ok, fun p hp hpk => ?_, h.mem, h.len⟩
  · have := h.one
    rcases c with _ | c
    · simp at hc; omega
    · omega
  · exact h.low e h1 h2 (Nat.mod_eq_zero_of_dvd (Nat.dvd_trans (Nat.dvd_of_mod_eq_zero he) hck))
  · rcases h.all p hp hpk with h1 | h1
    · exact .inl h1
    · rw [hc] at h1
      rcases hp.dvd_mul h1 with h2 | h2
      · rw [hp.dvd_pr h.pr h2]; exact .inl h.mem
      · exact .inr h2
theorem DivIn.lt {k0 kc d : Nat} {ds : List Nat} (h : DivIn k0 kc d ds) : kc / d < kc := Nat.div_lt_self (by have := h.one; omega) (by have := h.pr.1; omega)
theorem DivIn.leave {k0 kc d : Nat} {ds : List Nat} (h : DivIn k0 kc d ds) (hk : kc % d ≠ 0) : DivInv k0 kc (d + 1) ds :=
  ⟨h.one, by have := h.pr.1; omega, h.dvd, fun e h1 h2 => by
    by_cases he : e = d
    · subst he; exact hk
    · exact h.low e h1 (by omega), h.ok, h.all, by have := h.len; omega⟩
theorem DivInv.done {k0 kc d : Nat} {ds : List Nat} (h : DivInv k0 kc d ds) (hk : ¬ 1 < kc) : PrimesOf k0 ds :=
  ⟨h.ok, fun p hp hpk => by
    rcases h.all p hp hpk with h1 | h1
    · exact h1
    · exfalso
      have := Nat.le_of_dvd h.one h1
      have := hp.1
      omega⟩
theorem DivInv.kc_le {k0 kc d : Nat} {ds : List Nat} (h : DivInv k0 kc d ds) (h0 : 1 ≤ k0) : kc ≤ k0 := Nat.le_of_dvd h0 h.dvd
theorem DivIn.kc_le {k0 kc d : Nat} {ds : List Nat} (h : DivIn k0 kc d ds) (h0 : 1 ≤ k0) : kc ≤ k0 := Nat.le_of_dvd h0 h.dvd

theorem wrap_small (y : Nat) (h : y ≤ 65536) : wrap64 (y : Int) = (y : Int) := IntWalk.wrap64_in _ (by omega)

def cellsN (ds : List Nat) : List Value := ds.map fun (d : Nat) => Value.int .i64 (d : Int)
def DivsIs (k : Nat) (w : World) (e : Ending) (w' : World) : Prop := ∃ (v : Value) (ds : List Nat), e = .returned v ∧ PrimesOf k ds ∧ ds.length ≤ 65536 ∧ w'.ownsRow w.heap.size 3 1 v ds.length (cellsN ds) ∧ Below w.heap.size w w'

theorem int_info : (Tryz.prog.info? 3).map (fun i => (i.zero, i.size, i.bytes)) = some (some (.int .i64 0), 1, 8) := by kernel_rfl
theorem info_parts {P : Program} {t : TypeId} {z : Value} {s b : Nat} (h : (P.info? t).map (fun i => (i.zero, i.size, i.bytes)) = some (some z, s, b)) : ∃ i, P.info? t = some i ∧ i.zero = some z ∧ i.size = s ∧ i.bytes = b := by
  cases hi : P.info? t with
  | none => rw [hi] at h; cases h
  | some i =>
    rw [hi] at h
    simp only [Option.map_some, Option.some.injEq, Prod.mk.injEq] at h
    exact ⟨i, rfl, h.1, h.2.1, h.2.2⟩

theorem divs_step {w wr w2 : World} {v v' : Value} {d : Nat} {ds : List Nat} (hB : Below w.heap.size w wr) (hown : wr.ownsRow w.heap.size 3 1 v ds.length (cellsN ds))
    (hown' : w2.ownsRow w.heap.size 3 1 v' (ds.length + 1) (cellsN ds ++ [.int .i64 (d : Int)])) (hg : (wr.alloc (.cells #[.int .i64 (d : Int)] 3)).grownBy w2 v.ownBlock) :
    w2.ownsRow w.heap.size 3 1 v' (ds ++ [d]).length (cellsN (ds ++ [d])) ∧ Below w.heap.size w w2 := by
  refine ⟨?_, ?_⟩
  · simpa [cellsN] using hown'
  · exact (hB.alloc hB.size _).grown hg (by have := hB.size; simp; omega) (fun k hk => (hown.lt k hk).1)

end Go.Proofs.YtcophfhnhlaonaaGreatDoor
namespace Go.Proofs.YtcophfhnhlaonaaGreatDoor
open Go.RowKit

/-- An element whose k-th power is 1, and no power whose exponent is k divided by a prime. -/
def IsRt (P M k r : Nat) : Prop := powN P M r k = 1 ∧ ∀ d, Pr d → d ∣ k → powN P M r (k / d) ≠ 1
def RootB (P M k r : Nat) (w : World) (e : Ending) (w' : World) : Prop := ∃ b : Bool, e = .returned (.bool b) ∧ (b = true ↔ IsRt P M k r) ∧ w = w'
def NotUpto (P M k r : Nat) (ds : List Nat) (i : Nat) : Prop := ∀ j d, j < i → ds[j]? = some d → powN P M r (k / d) ≠ 1
theorem NotUpto.succ {P M k r i d : Nat} {ds : List Nat} (h : NotUpto P M k r ds i) (hd : ds[i]? = some d) (hn : powN P M r (k / d) ≠ 1) : NotUpto P M k r ds (i + 1) := fun j e hj he => by
  by_cases h1 : j = i
  · subst h1
    rw [hd] at he
    cases he
    exact hn
  · exact h j e (by omega) he
theorem NotUpto.done {P M k r : Nat} {ds : List Nat} (h : NotUpto P M k r ds ds.length) (hp : PrimesOf k ds) (h1 : powN P M r k = 1) : IsRt P M k r := ⟨h1, fun d hd hdk => by
  obtain ⟨j, hj, he⟩ := List.getElem_of_mem (hp.2 d hd hdk)
  exact h j d hj (by rw [List.getElem?_eq_getElem hj, he])⟩
def RdF (w : World) (A : Option Addr) (ds : List Nat) : Prop := ∀ k x : Nat, ds[k]? = some x → ∃ a, A = some a ∧ w.cell? (a.add k) = some (.int .i64 (x : Int))
theorem RdF.of_cells {w w' : World} {A : Option Addr} {xs : List Nat} (h : RdF w A xs) (hc : ∀ p : Addr, p.block < w.heap.size → w'.cell? p = w.cell? p) : RdF w' A xs := fun k x hx => by
  obtain ⟨a, ha, hv⟩ := h k x hx
  exact ⟨a, ha, (hc _ (World.block_lt_of_cell? w _ hv)).trans hv⟩
theorem RdF.below {w w' : World} {A : Option Addr} {xs : List Nat} (h : RdF w A xs) (hb : Below w.heap.size w w') : RdF w' A xs := h.of_cells fun _ hp => hb.cell hp
theorem rdf_of_owns {w : World} {B : Nat} {v : Value} {ds : List Nat} (h : w.ownsRow B 3 1 v ds.length (cellsN ds)) : ∃ A c, v = .slice A ds.length c ∧ RdF w A ds := by
  cases ds with
  | nil =>
    rcases h.2 with ⟨rfl, _⟩ | ⟨g, cap, cur, rfl, _⟩
    · exact ⟨none, 0, rfl, fun k x hx => by cases hx⟩
    · exact ⟨_, _, rfl, fun k x hx => by cases hx⟩
  | cons d t =>
    rcases h.2 with ⟨rfl, h0⟩ | ⟨g, cap, cur, rfl, _⟩
    · simp at h0
    refine ⟨_, _, rfl, fun k x hx => ⟨_, rfl, World.ownsRow.cells h rfl k _ ?_⟩⟩
    rw [cellsN, List.getElem?_map, hx]
    rfl

def OpenRIs (o : Value) (q : Nat) (k : Int) (w : World) (e : Ending) (w' : World) : Prop :=
  Below w.heap.size w w' ∧ (k < 1 ∧ e = .returned (.tuple #[.nilIface, .int .i64 2]) ∨ (1 ≤ k ∧ ¬ ((q : Int) - 1) % k = 0) ∧ e = .returned (.tuple #[.nilIface, .int .i64 6]) ∨ (1 ≤ k ∧ ((q : Int) - 1) % k = 0) ∧ e = .returned (.tuple #[o, .int .i64 0]))
end Go.Proofs.YtcophfhnhlaonaaGreatDoor
