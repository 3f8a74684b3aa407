/-
  The parity by the lengths of the cycles is the parity of the inversions, of every permutation of at most seven points, by enumeration; and inversions add up in products, plainly.
-/
import Derived.Test.YtdpnmepplkiljaaZm
import Derived.Test.YtdpnmepplkiljaaZi
namespace Go.Proofs.Ytdpnmepplkiljaa
open Go.RowKit

def rowX (F : Nat → Nat → Bool) (x : Nat) : List Nat → Bool
  | [] => false
  | y :: t => Bool.xor (F x y) (rowX F x t)

def pairX (F : Nat → Nat → Bool) : List Nat → Bool
  | [] => false
  | x :: t => Bool.xor (rowX F x t) (pairX F t)

def LtB (x y : Nat) : Bool := Nat.blt y x

def parOk (ps : List Nat) : Bool := Nat.beq (invTo ps ps.length % 2) (parL (allCyc ps) % 2) && Nat.beq (parL (allCyc ps) % 2) (if pairX LtB ps then 1 else 0)

theorem parOk_all : ∀ n, 1 ≤ n → n ≤ 7 → (perms n).all parOk = true :=
  upto7 (by decide +kernel) (by decide +kernel) (by decide +kernel) (by decide +kernel) (by decide +kernel) (by decide +kernel) (by decide +kernel)

theorem par_facts {ps : List Nat} (hp : IsPerm ps) : invTo ps ps.length % 2 = parP ps ∧ parP ps = if pairX LtB ps then 1 else 0 := by
  have h := all_perms parOk_all hp
  unfold parOk at h
  rw [Bool.and_eq_true] at h
  exact ⟨beqI.1 h.1, beqI.1 h.2⟩
end Go.Proofs.Ytdpnmepplkiljaa
