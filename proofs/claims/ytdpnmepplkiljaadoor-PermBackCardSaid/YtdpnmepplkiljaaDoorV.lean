/-
  The law PermMuls returns true at all pairs of slices of integers, in every world, and leaves what lay as it lay.
-/
import Derived.Test.YtdpnmepplkiljaaDoorT
import Derived.ProofKit
import Derived.OpenShut
namespace Go.Proofs.YtdpnmepplkiljaaDoor
open Go.RowKit

theorem isrow_sl {w : World} {a : Option Addr} {len cap : Nat} {zs : List Int}
    (h : (a = none ∧ len = 0 ∧ cap = 0 ∧ zs = []) ∨
      ∃ x, a = some x ∧ len ≤ cap ∧ cap ≤ maxLen ∧ zs.length = cap ∧ (∀ i, i < zs.length → w.cell? (x.add i) = some (.int .i64 (zs.getD i 0))) ∧ ∀ n ∈ zs, (Lit.int .i64 n).wf = true) :
    SlI w (.slice a len cap) (zs.take len) ∧ (zs.take len).length = len := by
  rcases h with ⟨rfl, rfl, rfl, rfl⟩ | ⟨x, rfl, hl, hm, hz, hcell, _⟩
  · exact ⟨⟨none, 0, rfl, by simp, fun h => by simp at h⟩, rfl⟩
  · have hlen : (zs.take len).length = len := by simp; omega
    refine ⟨⟨some x, cap, by rw [hlen], by rw [hlen]; unfold maxLen at hm; omega, fun h1 => ?_⟩, hlen⟩
    rw [hlen] at h1
    obtain ⟨b, off, rfl, hc⟩ := ints_at hcell (by omega)
    have hb : b < w.heap.size := by
      have h0 := hc 0 (by omega)
      unfold World.cell? at h0
      cases hh : w.heap[b]? with
      | none => simp [hh] at h0
      | some o => exact (Array.getElem?_eq_some_iff.1 hh).1
    refine ⟨b, off, rfl, hb, fun j hj => ?_⟩
    rw [hlen] at hj
    rw [hc j (by omega)]
    simp [hj]

theorem rds_two (w : World) (x y : SlV) : RdS (w.alloc (.cells #[x.val, y.val] 23)) w.heap.size 0 [x, y] := fun j hj => by
  rw [cell_of_row _ w.heap.size (0 + j) #[x.val, y.val] 23 (0, 0) (World.alloc_heap_new w _)]
  match j, hj with
  | 0, _ => rfl
  | 1, _ => rfl

theorem short_two (a a' : Option Addr) (n cap n' cap' : Nat) (w : World) (r : Bool) (hr : r = decide (n ≤ 100 ∧ n' ≤ 100)) :
    Calls Tryd.prog 5 #[.slice (some ⟨w.heap.size, 0, none⟩) 2 2] (w.alloc (.cells #[.slice a n cap, .slice a' n' cap'] 23)) fun e w' => e = .returned (.bool r) ∧ w.alloc (.cells #[.slice a n cap, .slice a' n' cap'] 23) = w' := by
  refine (short_any w.heap.size 0 2 2 [⟨a, n, cap⟩, ⟨a', n', cap'⟩] _ (by omega) rfl (rds_two w ⟨a, n, cap⟩ ⟨a', n', cap'⟩)).mono fun e w' ⟨he, hw⟩ => ⟨he.trans (ret_bool ?_), hw⟩
  rw [hr, Bool.eq_iff_iff, decide_eq_true_eq, decide_eq_true_eq]
  constructor
  · exact fun h => ⟨h 0 (by omega), h 1 (by omega)⟩
  · rintro ⟨h0, h1⟩ j hj
    match j, hj with
    | 0, _ => exact h0
    | 1, _ => exact h1

theorem alloc_below (w : World) (o : Obj) : Below w.heap.size w (w.alloc o) := (Below.refl _ w).alloc (Nat.le_refl _) o

theorem SlI.mk_perm {w : World} {b off cap n : Nat} {ps : List Nat} (hp : IsPerm ps) (hn : ps.length = n) (hb : b < w.heap.size) (h : RdN w b off ps) : SlI w (.slice (some ⟨b, off, none⟩) n cap) (ints ps) :=
  ⟨some ⟨b, off, none⟩, cap, by rw [ints_length, hn], by rw [ints_length]; have := hp.2.1; omega, fun _ => ⟨b, off, rfl, hb, h.int⟩⟩

end Go.Proofs.YtdpnmepplkiljaaDoor
