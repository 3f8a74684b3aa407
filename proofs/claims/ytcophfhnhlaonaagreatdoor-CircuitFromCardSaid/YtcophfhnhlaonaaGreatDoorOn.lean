/-
  Joined from On: see there.
-/
import Derived.Test.YtcophfhnhlaonaaGreatDoorChecked
import Derived.WalkKit
import Derived.OwnWalk
import Derived.Deep.QuietTactic
namespace Go.Proofs.YtcophfhnhlaonaaGreatDoor
open Go.RowKit

/-- Between W and W' only the blocks of S have turned; the streams are as they were; no block has gone. -/
structure Only (S : Nat → Prop) (W W' : World) : Prop where
  os : W'.os = W.os
  tape : W'.tape = W.tape
  output : W'.output = W.output
  size : W.heap.size ≤ W'.heap.size
  block : ∀ k, k < W.heap.size → ¬ S k → W'.heap[k]? = W.heap[k]?

theorem Only.refl (S : Nat → Prop) (W : World) : Only S W W := ⟨rfl, rfl, rfl, Nat.le_refl _, fun _ _ _ => rfl⟩
theorem Only.trans {S : Nat → Prop} {A B C : World} (h : Only S A B) (k : Only S B C) : Only S A C :=
  ⟨k.os.trans h.os, k.tape.trans h.tape, k.output.trans h.output, Nat.le_trans h.size k.size, fun i hi hn => (k.block i (Nat.lt_of_lt_of_le hi h.size) hn).trans (h.block i hi hn)⟩
theorem Only.mono {S T : Nat → Prop} {A B : World} (h : Only S A B) (hs : ∀ k, S k → T k) : Only T A B :=
  ⟨h.os, h.tape, h.output, h.size, fun i hi hn => h.block i hi (fun e => hn (hs i e))⟩
theorem Only.of_below {S : Nat → Prop} {A B : World} (h : Below A.heap.size A B) : Only S A B := ⟨h.os, h.tape, h.output, h.size, fun k hk _ => h.block k hk⟩
theorem Only.setCell {S : Nat → Prop} {A W : World} (h : Only S A W) {p : Addr} (hp : S p.block) (u : Value) : Only S A (W.setCell p u) :=
  h.trans ⟨rfl, rfl, rfl, by simp [World.setCell], fun k _ hn => Below.heap_setCell _ _ _ _ (fun e => hn (e ▸ hp))⟩
theorem Only.alloc {S : Nat → Prop} {A W : World} (h : Only S A W) (o : Obj) : Only S A (W.alloc o) :=
  h.trans (Only.of_below ((Below.refl _ W).alloc (Nat.le_refl _) o))
theorem Only.drew {S : Nat → Prop} {A W : World} (h : Only S A W) : Only S A W.drew := ⟨h.os, h.tape, h.output, h.size, h.block⟩
theorem Only.drewN {S : Nat → Prop} {A W : World} (h : Only S A W) (n : Nat) : Only S A (W.drewN n) := ⟨h.os, h.tape, h.output, h.size, h.block⟩
theorem Only.grown {S : Nat → Prop} {A W W' : World} {ob : Option Nat} (h : Only S A W) (hg : W.grownBy W' ob) (ho : ∀ k, ob = some k → k < A.heap.size → S k) : Only S A W' := by
  refine ⟨hg.os.trans h.os, hg.tape.trans h.tape, hg.output.trans h.output, Nat.le_trans h.size hg.size, fun k hk hn => ?_⟩
  exact (hg.block k (Nat.lt_of_lt_of_le hk h.size) (fun e => hn (ho k e.symm hk))).trans (h.block k hk hn)
theorem Only.below {S : Nat → Prop} {A B : World} {n : Nat} (h : Only S A B) (hn : n ≤ A.heap.size) (ho : ∀ k, S k → n ≤ k) : Below n A B :=
  ⟨h.os, h.tape, h.output, h.size, fun k hk => h.block k (by omega) (fun e => by have := ho k e; omega)⟩
theorem Only.setNew {S : Nat → Prop} {A W : World} (h : Only S A W) {p : Addr} (hp : A.heap.size ≤ p.block) (u : Value) : Only S A (W.setCell p u) := by
  refine ⟨h.os, h.tape, h.output, by simpa [World.setCell] using h.size, fun k hk hn => ?_⟩
  exact (Below.heap_setCell _ _ _ _ (fun e => by omega)).trans (h.block k hk hn)
theorem Only.cell {S : Nat → Prop} {A B : World} (h : Only S A B) {p : Addr} (hp : p.block < A.heap.size) (hn : ¬ S p.block) : B.cell? p = A.cell? p :=
  World.cell?_of_block (h.block _ hp hn)
end Go.Proofs.YtcophfhnhlaonaaGreatDoor
