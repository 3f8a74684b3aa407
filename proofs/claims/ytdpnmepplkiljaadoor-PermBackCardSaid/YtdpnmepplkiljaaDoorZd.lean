/-
  The two ways to count out a permutation agree at every rank, by enumeration; and the law PermMakes.
-/
import Derived.Test.YtdpnmepplkiljaaDoorZc
import Derived.Test.YtdpnmepplkiljaaDoorR
namespace Go.Proofs.YtdpnmepplkiljaaDoor
open Go.RowKit

def eqB : List Nat → List Nat → Bool
  | [], [] => true
  | x :: t, y :: u => Nat.beq x y && eqB t u
  | _, _ => false

theorem eqB_eq : ∀ {a b : List Nat}, eqB a b = true → a = b
  | [], [], _ => rfl
  | x :: t, y :: u, h => by
    unfold eqB at h
    rw [Bool.and_eq_true] at h
    rw [beqI.1 h.1, eqB_eq h.2]

def chunkE (n : Nat) : Nat → Nat → Bool
  | 0, _ => true
  | c + 1, r => eqB (runR n (List.range n) r) (unrankN n r) && chunkE n c (r + 1)

theorem chunkE_at (n : Nat) : ∀ (c r : Nat), chunkE n c r = true → ∀ i, i < c → runR n (List.range n) (r + i) = unrankN n (r + i)
  | 0, _, _, _, h => absurd h (by omega)
  | c + 1, r, h, i, hi => by
    unfold chunkE at h
    rw [Bool.and_eq_true] at h
    match i with
    | 0 => exact eqB_eq h.1
    | i + 1 =>
      have := chunkE_at n c (r + 1) h.2 i (by omega)
      rw [show r + 1 + i = r + (i + 1) by omega] at this
      exact this

theorem e70 : chunkE 7 1008 0 = true := by decide +kernel
theorem e71 : chunkE 7 1008 1008 = true := by decide +kernel
theorem e72 : chunkE 7 1008 2016 = true := by decide +kernel
theorem e73 : chunkE 7 1008 3024 = true := by decide +kernel
theorem e74 : chunkE 7 1008 4032 = true := by decide +kernel

theorem runR_7 (r : Nat) (hr : r < 5040) : runR 7 (List.range 7) r = unrankN 7 r := by
  have pick : ∀ s, chunkE 7 1008 s = true → s ≤ r → r < s + 1008 → runR 7 (List.range 7) r = unrankN 7 r := fun s h h1 h2 => by
    have := chunkE_at 7 1008 s h (r - s) (by omega)
    rwa [show s + (r - s) = r by omega] at this
  by_cases h0 : r < 1008
  · exact pick 0 e70 (by omega) (by omega)
  by_cases h1 : r < 2016
  · exact pick 1008 e71 (by omega) (by omega)
  by_cases h2 : r < 3024
  · exact pick 2016 e72 (by omega) (by omega)
  by_cases h3 : r < 4032
  · exact pick 3024 e73 (by omega) (by omega)
  · exact pick 4032 e74 (by omega) (by omega)

theorem runR_small (n c : Nat) (h : chunkE n c 0 = true) (hc : facN n = c) (r : Nat) (hr : r < facN n) : runR n (List.range n) r = unrankN n r := by
  have := chunkE_at n c 0 h r (by omega)
  rwa [Nat.zero_add] at this

theorem runR_eq : ∀ n, 1 ≤ n → n ≤ 7 → ∀ r, r < facN n → runR n (List.range n) r = unrankN n r
  | 1, _, _ => runR_small 1 1 (by decide +kernel) rfl
  | 2, _, _ => runR_small 2 2 (by decide +kernel) rfl
  | 3, _, _ => runR_small 3 6 (by decide +kernel) rfl
  | 4, _, _ => runR_small 4 24 (by decide +kernel) rfl
  | 5, _, _ => runR_small 5 120 (by decide +kernel) rfl
  | 6, _, _ => runR_small 6 720 (by decide +kernel) rfl
  | 7, _, _ => fun r hr => runR_7 r hr
  | n + 8, _, h => absurd h (by omega)

theorem SlI.of_owns {w : World} {base g n cap : Nat} {ps : List Nat} (h : w.ownsRow base 3 1 (.slice (some ⟨g, 0, none⟩) n cap) n (natCells ps)) (hn : ps.length = n) (hm : n ≤ 9223372036854775807) : SlI w (.slice (some ⟨g, 0, none⟩) n cap) (ints ps) := by
  refine ⟨some ⟨g, 0, none⟩, cap, by rw [ints_length, hn], by rw [ints_length, hn]; exact hm, fun _ => ⟨g, 0, rfl, (h.lt g rfl).2, RdN.int fun j hj => ?_⟩⟩
  rw [Nat.zero_add, h.cellAt j (by omega)]
  exact natCells_get ps j hj

theorem is_okb (v v' : Value) (l l' : List Int) (w : World) (h : SlI w v l) (h' : SlI w v' l') (he : l = l') :
    Calls Tryd.prog 13 #[v, .int .i64 0, v', .int .i64 0] w fun e w' => e = .returned (.bool true) ∧ Below w.heap.size w w' :=
  (is_ok v v' l l' w h h' he).mono fun _ _ ⟨he, q, hw⟩ => ⟨he, hw ▸ below_drewN' (Below.refl _ w) q⟩

end Go.Proofs.YtdpnmepplkiljaaDoor
