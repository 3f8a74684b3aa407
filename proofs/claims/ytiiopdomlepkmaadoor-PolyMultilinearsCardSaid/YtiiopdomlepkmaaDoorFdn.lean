/-
  Plain facts: prime divisors; and the contract of primeDivisors of package field.
-/
import Derived.Test.YtiiopdomlepkmaaDoorFdm
import Derived.Maps.AppendAt
import Derived.OwnWalk
namespace Go.Proofs.YtiiopdomlepkmaaDoor
open Go.RowKit

theorem Pr.gcd {p a : Nat} (h : Pr p) (ha : ¬ p ∣ a) : Nat.gcd p a = 1 := by
  have h1 := Nat.gcd_dvd_left p a
  have h2 := Nat.gcd_dvd_right p a
  have hp := h.1
  have hpos : 0 < Nat.gcd p a := Nat.gcd_pos_of_pos_left _ (by omega)
  have hle := Nat.le_of_dvd (by omega) h1
  by_cases hg : Nat.gcd p a = 1
  · exact hg
  · exfalso
    by_cases he : Nat.gcd p a = p
    · rw [he] at h2; exact ha h2
    · exact h.2 _ (by omega) (by omega) (Nat.mod_eq_zero_of_dvd h1)
theorem Pr.dvd_mul {p a b : Nat} (h : Pr p) (hab : p ∣ a * b) : p ∣ a ∨ p ∣ b := by
  by_cases ha : p ∣ a
  · exact .inl ha
  · exact .inr (Nat.Coprime.dvd_of_dvd_mul_left (h.gcd ha) hab)
theorem Pr.dvd_pr {p d : Nat} (h : Pr p) (hd : Pr d) (hpd : p ∣ d) : p = d := by
  have hle := Nat.le_of_dvd (by have := hd.1; omega) hpd
  by_cases he : p = d
  · exact he
  · exact absurd (Nat.mod_eq_zero_of_dvd hpd) (hd.2 p h.1 (by omega))

/-- The list of the prime divisors of k, in some order. -/
def PrimesOf (k : Nat) (ds : List Nat) : Prop := (∀ d ∈ ds, Pr d ∧ d ∣ k) ∧ ∀ p, Pr p → p ∣ k → p ∈ ds

structure DivInv (k0 kc d : Nat) (ds : List Nat) : Prop where
  one : 1 ≤ kc
  two : 2 ≤ d
  dvd : kc ∣ k0
  low : ∀ e, 2 ≤ e → e < d → kc % e ≠ 0
  ok : ∀ x ∈ ds, Pr x ∧ x ∣ k0
  all : ∀ p, Pr p → p ∣ k0 → p ∈ ds ∨ p ∣ kc
  len : ds.length + 2 ≤ d

theorem DivInv.start {k : Nat} (h : 1 ≤ k) : DivInv k k 2 [] :=
  ⟨h, by omega, Nat.dvd_refl _, fun e h1 h2 => by omega, (fun x hx => by cases hx), fun p _ h => .inr h, by simp⟩
theorem DivInv.le {k0 kc d : Nat} {ds : List Nat} (h : DivInv k0 kc d ds) (hk : 1 < kc) : d ≤ kc := by
  rcases Nat.lt_or_ge kc d with hlt | hge
  · exact absurd (Nat.mod_self kc) (h.low kc (by omega) hlt)
  · exact hge
theorem DivInv.skip {k0 kc d : Nat} {ds : List Nat} (h : DivInv k0 kc d ds) (hk : kc % d ≠ 0) : DivInv k0 kc (d + 1) ds :=
  ⟨h.one, by have := h.two; omega, h.dvd, fun e h1 h2 => by
    by_cases he : e = d
    · subst he; exact hk
    · exact h.low e h1 (by omega), h.ok, h.all, by have := h.len; omega⟩
theorem DivInv.prime {k0 kc d : Nat} {ds : List Nat} (h : DivInv k0 kc d ds) (hk : kc % d = 0) : Pr d :=
  ⟨h.two, fun e h1 h2 he => h.low e h1 h2 (Nat.mod_eq_zero_of_dvd (Nat.dvd_trans (Nat.dvd_of_mod_eq_zero he) (Nat.dvd_of_mod_eq_zero hk)))⟩

/-- Within the inner loop, d being in the list. -/
structure DivIn (k0 kc d : Nat) (ds : List Nat) : Prop where
  one : 1 ≤ kc
  pr : Pr d
  dvd : kc ∣ k0
  low : ∀ e, 2 ≤ e → e < d → kc % e ≠ 0
  ok : ∀ x ∈ ds, Pr x ∧ x ∣ k0
  all : ∀ p, Pr p → p ∣ k0 → p ∈ ds ∨ p ∣ kc
  mem : d ∈ ds
  len : ds.length + 1 ≤ d
theorem DivInv.enter {k0 kc d : Nat} {ds : List Nat} (h : DivInv k0 kc d ds) (hk : kc % d = 0) : DivIn k0 kc d (ds ++ [d]) :=
  ⟨h.one, h.prime hk, h.dvd, h.low, fun x hx => by
    rcases List.mem_append.1 hx with hx | hx
    · exact h.ok x hx
    · rw [List.mem_singleton] at hx
      subst hx
      exact ⟨h.prime hk, Nat.dvd_trans (Nat.dvd_of_mod_eq_zero hk) h.dvd⟩, fun p hp hpk => by
    rcases h.all p hp hpk with h1 | h1
    · exact .inl (List.mem_append_left _ h1)
    · exact .inr h1, by simp, by have := h.len; simp; omega⟩
theorem DivIn.step {k0 kc d : Nat} {ds : List Nat} (h : DivIn k0 kc d ds) (hk : kc % d = 0) : DivIn k0 (kc / d) d ds := by
  obtain ⟨c, hc⟩ := Nat.dvd_of_mod_eq_zero hk
  have hd := h.pr.1
  have hdc : kc / d = c := by rw [hc]; exact Nat.mul_div_cancel_left _ (by omega)
  rw [hdc]
  have hck : c ∣ kc := ⟨d, by rw [hc, Nat.mul_comm]⟩
  refine ⟨?_, h.pr, Nat.dvd_trans hck h.dvd, fun e h1 h2 he => ?_, h.ok, fun p hp hpk => ?_, h.mem, h.len⟩
  · have := h.one
    rcases c with _ | c
    · simp at hc; omega
    · omega
  · exact h.low e h1 h2 (Nat.mod_eq_zero_of_dvd (Nat.dvd_trans (Nat.dvd_of_mod_eq_zero he) hck))
  · rcases h.all p hp hpk with h1 | h1
    · exact .inl h1
    · rw [hc] at h1
      rcases hp.dvd_mul h1 with h2 | h2
      · rw [hp.dvd_pr h.pr h2]; exact .inl h.mem
      · exact .inr h2
theorem DivIn.lt {k0 kc d : Nat} {ds : List Nat} (h : DivIn k0 kc d ds) : kc / d < kc := Nat.div_lt_self (by have := h.one; omega) (by have := h.pr.1; omega)
theorem DivIn.leave {k0 kc d : Nat} {ds : List Nat} (h : DivIn k0 kc d ds) (hk : kc % d ≠ 0) : DivInv k0 kc (d + 1) ds :=
  ⟨h.one, by have := h.pr.1; omega, h.dvd, fun e h1 h2 => by
    by_cases he : e = d
    · subst he; exact hk
    · exact h.low e h1 (by omega), h.ok, h.all, by have := h.len; omega⟩
theorem DivInv.done {k0 kc d : Nat} {ds : List Nat} (h : DivInv k0 kc d ds) (hk : ¬ 1 < kc) : PrimesOf k0 ds :=
  ⟨h.ok, fun p hp hpk => by
    rcases h.all p hp hpk with h1 | h1
    · exact h1
    · exfalso
      have := Nat.le_of_dvd h.one h1
      have := hp.1
      omega⟩
theorem DivInv.kc_le {k0 kc d : Nat} {ds : List Nat} (h : DivInv k0 kc d ds) (h0 : 1 ≤ k0) : kc ≤ k0 := Nat.le_of_dvd h0 h.dvd
theorem DivIn.kc_le {k0 kc d : Nat} {ds : List Nat} (h : DivIn k0 kc d ds) (h0 : 1 ≤ k0) : kc ≤ k0 := Nat.le_of_dvd h0 h.dvd

theorem wrap_small (y : Nat) (h : y ≤ 65536) : wrap64 (y : Int) = (y : Int) := IntWalk.wrap64_in _ (by omega)

def cellsN (ds : List Nat) : List Value := ds.map fun (d : Nat) => Value.int .i64 (d : Int)
def DivsIs (k : Nat) (w : World) (e : Ending) (w' : World) : Prop := ∃ (v : Value) (ds : List Nat), e = .returned v ∧ PrimesOf k ds ∧ ds.length ≤ 65536 ∧ w'.ownsRow w.heap.size 3 1 v ds.length (cellsN ds) ∧ Below w.heap.size w w'

theorem int_info : (Tryd.prog.info? 3).map (fun i => (i.zero, i.size, i.bytes)) = some (some (.int .i64 0), 1, 8) := by kernel_rfl
theorem info_parts {P : Program} {t : TypeId} {z : Value} {s b : Nat} (h : (P.info? t).map (fun i => (i.zero, i.size, i.bytes)) = some (some z, s, b)) : ∃ i, P.info? t = some i ∧ i.zero = some z ∧ i.size = s ∧ i.bytes = b := by
  cases hi : P.info? t with
  | none => rw [hi] at h; cases h
  | some i =>
    rw [hi] at h
    simp only [Option.map_some, Option.some.injEq, Prod.mk.injEq] at h
    exact ⟨i, rfl, h.1, h.2.1, h.2.2⟩

theorem divs_step {w wr w2 : World} {v v' : Value} {d : Nat} {ds : List Nat} (hB : Below w.heap.size w wr) (hown : wr.ownsRow w.heap.size 3 1 v ds.length (cellsN ds))
    (hown' : w2.ownsRow w.heap.size 3 1 v' (ds.length + 1) (cellsN ds ++ [.int .i64 (d : Int)])) (hg : (wr.alloc (.cells #[.int .i64 (d : Int)] 3)).grownBy w2 v.ownBlock) :
    w2.ownsRow w.heap.size 3 1 v' (ds ++ [d]).length (cellsN (ds ++ [d])) ∧ Below w.heap.size w w2 := by
  refine ⟨?_, ?_⟩
  · simpa [cellsN] using hown'
  · exact (hB.alloc hB.size _).grown hg (by have := hB.size; simp; omega) (fun k hk => (hown.lt k hk).1)

end Go.Proofs.YtiiopdomlepkmaaDoor
