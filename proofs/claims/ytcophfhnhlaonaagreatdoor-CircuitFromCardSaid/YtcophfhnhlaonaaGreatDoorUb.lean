/-
  Joined from Fdf, Fdg, Fdh, Fdi, Fdj: see there.
-/
import Derived.Test.YtcophfhnhlaonaaGreatDoorUa
namespace Go.Proofs.YtcophfhnhlaonaaGreatDoor
open Go.RowKit

theorem below2 (w : World) (o o' : Obj) : Below w.heap.size w ((w.alloc o).alloc o') := ((Below.refl _ w).alloc (Nat.le_refl _) _).alloc (by simp) _
theorem rd2 (w : World) (o : Obj) (a b : Int) : RdI ((w.alloc o).alloc (.cells #[.int .i64 a, .int .i64 b] 3)) (some ⟨w.heap.size + 1, 0, none⟩) [a, b] := by
  intro k x hx
  refine ⟨_, rfl, ?_⟩
  match k, hx with
  | 0, hx => cases hx; simp [Addr.add, World.cell?_alloc_at]
  | 1, hx => cases hx; simp [Addr.add, World.cell?_alloc_at]
theorem rd1 (w : World) (o : Obj) (a : Int) : RdI ((w.alloc o).alloc (.cells #[.int .i64 a] 3)) (some ⟨w.heap.size + 1, 0, none⟩) [a] := by
  intro k x hx
  refine ⟨_, rfl, ?_⟩
  match k, hx with
  | 0, hx => cases hx; simp [Addr.add, World.cell?_alloc_at]

theorem two_inq {q : Nat} {a b : Int} (h : ∀ x ∈ [a, b], InQ q x) : InQ q a ∧ InQ q b := ⟨h a (by simp), h b (by simp)⟩
theorem two_not {q : Nat} {a b : Int} (h : ∃ x ∈ [a, b], ¬ InQ q x) : ¬ (InQ q a ∧ InQ q b) := by
  obtain ⟨x, hx, hn⟩ := h
  intro hh
  simp only [List.mem_cons, List.not_mem_nil, or_false] at hx
  rcases hx with rfl | rfl
  · exact hn hh.1
  · exact hn hh.2
theorem inq_nat {q : Nat} {a : Int} (h : InQ q a) : ∃ n : Nat, a = n ∧ n < q := ⟨a.toNat, by have := h.1; omega, by have := h.1; have := h.2; omega⟩
theorem inq_of {q n : Nat} (h : n < q) : InQ q (n : Int) := ⟨by omega, by omega⟩

def Ret2 (x e : Int) : Ending := .returned (.tuple #[.int .i64 x, .int .i64 e])

theorem Fld.cases {P M q : Nat} (h : Fld P M q) : (M = 1 ∧ q = P) ∨ (P = 2 ∧ 2 ≤ M) := by
  rcases h with ⟨h0, h1, h2, h3⟩ | ⟨h0, h1, h2, h3⟩
  · exact .inl ⟨h0, h3⟩
  · exact .inr ⟨h0, h1⟩

end Go.Proofs.YtcophfhnhlaonaaGreatDoor
namespace Go.Proofs.YtcophfhnhlaonaaGreatDoor
open Go.RowKit

theorem one_inq {q : Nat} {a : Int} (h : ∀ x ∈ [a], InQ q x) : InQ q a := h a (by simp)
theorem one_not {q : Nat} {a : Int} (h : ∃ x ∈ [a], ¬ InQ q x) : ¬ InQ q a := by
  obtain ⟨x, hx, hn⟩ := h
  simp only [List.mem_cons, List.not_mem_nil, or_false] at hx
  subst hx
  exact hn
theorem below1 (w : World) (o : Obj) : Below w.heap.size w (w.alloc o) := (Below.refl _ w).alloc (Nat.le_refl _) _

end Go.Proofs.YtcophfhnhlaonaaGreatDoor
namespace Go.Proofs.YtcophfhnhlaonaaGreatDoor
open Go.RowKit

def OrdIs (P : Nat) (w : World) (e : Ending) (w' : World) : Prop := Below w.heap.size w w' ∧ (Pr P ∧ e = .returned (.int .i64 (P : Nat)) ∨ ¬ Pr P ∧ e = .returned (.int .i64 0))
def NoDiv (P k : Nat) : Prop := ∀ j, 2 ≤ j → j < k → P % j ≠ 0
theorem NoDiv.succ {P k : Nat} (h : NoDiv P k) (hk : P % k ≠ 0) : NoDiv P (k + 1) := fun j h2 hj => by
  by_cases he : j = k
  · subst he; exact hk
  · exact h j h2 (by omega)


end Go.Proofs.YtcophfhnhlaonaaGreatDoor
namespace Go.Proofs.YtcophfhnhlaonaaGreatDoor
open Go.RowKit

theorem blen_zero : blen 0 = 0 := rfl
theorem blen_pos {a : Nat} (h : 0 < a) : 0 < blen a := by
  have : ¬ blen a ≤ 0 := by rw [blen_le]; simp; omega
  omega

theorem rest_slot (x b lx lb : Nat) (hx : x < 1099511627776) (hb : 0 < b) (hlx40 : lx ≤ 40) (hlx : lx = blen x) (hlb : lb = blen b) (h : lb ≤ lx) :
    bits .xor .i64 (x : Int) (wrap64 ((b : Int) * 2 ^ (lx - 1 - (lb - 1)))) = ((x ^^^ b <<< (blen x - blen b) : Nat) : Int) ∧ x ^^^ b <<< (blen x - blen b) < 1099511627776 ∧ blen (x ^^^ b <<< (blen x - blen b)) < blen x := by
  have hlb1 := blen_pos hb
  have he : lx - 1 - (lb - 1) = blen x - blen b := by omega
  have hs : blen (b <<< (blen x - blen b)) ≤ 40 := by rw [blen_shift hb]; omega
  have hs2 := blen_le.1 hs
  have e40 : (2 : Nat) ^ 40 = 1099511627776 := by decide
  have hc : (b : Int) * 2 ^ (blen x - blen b) = ((b <<< (blen x - blen b) : Nat) : Int) := by rw [Nat.shiftLeft_eq]; simp
  have hst := blen_step (a := x) hb (by omega)
  refine ⟨?_, ?_, hst⟩
  · have hy : ∀ y : Nat, y < 2 ^ 40 → wrap64 (y : Int) = (y : Int) := fun y h => IntWalk.wrap64_in _ (by omega)
    rw [he, hc, hy _ hs2]
    exact xor_nat x _ (by omega) (Nat.lt_trans hs2 (by decide))
  · rw [← e40] at hx ⊢
    exact Nat.xor_lt_two_pow hx hs2

end Go.Proofs.YtcophfhnhlaonaaGreatDoor
namespace Go.Proofs.YtcophfhnhlaonaaGreatDoor
open Go.RowKit

theorem irr_succ (a b : Nat) (hb : 2 ≤ b) : irrUpto a (b + 1) = (irrUpto a b && restN a b != 0) := by
  unfold irrUpto
  rw [List.range_succ, List.all_append]
  have : decide (b < 2) = false := decide_eq_false (by omega)
  simp [this]
theorem irr_two (a : Nat) : irrUpto a 2 = true := by
  unfold irrUpto
  simp [List.range_succ]
theorem irr_mono {a b c : Nat} (h : irrUpto a b = false) (hbc : b ≤ c) : irrUpto a c = false := by
  unfold irrUpto at *
  rw [List.all_eq_false] at *
  obtain ⟨x, hx, hn⟩ := h
  exact ⟨x, List.mem_range.2 (by have := List.mem_range.1 hx; omega), hn⟩
theorem divB_le {M : Nat} (h : M ≤ 16) : divB M ≤ 512 := by
  have : 2 ^ (M / 2 + 1) ≤ 2 ^ 9 := Nat.pow_le_pow_right (by omega) (by omega)
  exact this
theorem divB_ge (M : Nat) : 2 ≤ divB M := by
  have : 2 ^ 1 ≤ 2 ^ (M / 2 + 1) := Nat.pow_le_pow_right (by omega) (by omega)
  exact this
theorem deg_le {M b l : Nat} (hl : l = blen b) (hb : 0 < b) : (2 * (l - 1) ≤ M) ↔ b < divB M := by
  unfold divB
  rw [← blen_le, ← hl]
  have := blen_pos hb
  omega

theorem low_red {M a : Nat} (h2 : 2 ≤ M) (h16 : M ≤ 16) (h : 2 ^ M ≤ a) (hlt : a < modN M) : irrUpto a (divB M) = false := by
  have := mod_least M (by omega) h2
  rw [List.all_eq_true] at this
  have := this (a - 2 ^ M) (List.mem_range.2 (by omega))
  rw [show 2 ^ M + (a - 2 ^ M) = a by omega] at this
  simpa using this

theorem shl_val (M : Nat) (h : M ≤ 16) : wrap64 ((2 : Int) ^ M) = ((2 ^ M : Nat) : Int) := by
  have : (2 : Int) ^ M = ((2 ^ M : Nat) : Int) := by simp
  have hy : ∀ y : Nat, y ≤ 65536 → wrap64 (y : Int) = (y : Int) := fun y h => IntWalk.wrap64_in _ (by omega)
  rw [this]
  exact hy _ (pow16 h)
theorem bne_cast (n : Nat) : ((n : Int) != 0) = (n != 0) := by
  rw [Bool.eq_iff_iff]; simp

end Go.Proofs.YtcophfhnhlaonaaGreatDoor
