/-
  More of the cycles of every permutation of at most seven points, by enumeration: no point is in two, each begins with the least point that is in none before; the array of the lengths; and ranks lead back.
-/
import Derived.Test.YtdpnmepplkiljaaZr
import Derived.Test.YtdpnmepplkiljaaZd
namespace Go.Proofs.Ytdpnmepplkiljaa
open Go.RowKit

def headsB : List Nat → List (List Nat) → Bool
  | _, [] => true
  | seen, c :: t => covB seen (c[0]?.getD 0) && headsB (seen ++ c) t

def lensRow (ls : List Nat) (l : Nat) : List Nat → Bool
  | [] => true
  | x :: t => Nat.beq (ls[x]?.getD 0) l && lensRow ls l t

def lensAll (ls : List Nat) : List (List Nat) → Bool
  | [] => true
  | c :: t => lensRow ls c.length c && lensAll ls t

def cycOk3 (ps : List Nat) : Bool :=
  nodB (allCyc ps).flatten && headsB [] (allCyc ps) && lensAll (lensL (allCyc ps)) (allCyc ps) && eqB (unrankN ps.length (rankB ps.length ps)) ps

def with7 (x : Nat) : List (List Nat) := (genP 6 ((List.range 7).erase x)).map (x :: ·)

theorem chunk7 {P : List Nat → Bool} (h0 : (with7 0).all P = true) (h1 : (with7 1).all P = true) (h2 : (with7 2).all P = true) (h3 : (with7 3).all P = true) (h4 : (with7 4).all P = true) (h5 : (with7 5).all P = true) (h6 : (with7 6).all P = true) : (perms 7).all P = true := by
  show ((List.range 7).flatMap with7).all P = true
  rw [List.all_flatMap, List.all_eq_true]
  intro x hx
  have hx := List.mem_range.1 hx
  match x, hx with
  | 0, _ => exact h0
  | 1, _ => exact h1
  | 2, _ => exact h2
  | 3, _ => exact h3
  | 4, _ => exact h4
  | 5, _ => exact h5
  | 6, _ => exact h6

theorem k0 : (with7 0).all cycOk3 = true := by decide +kernel
theorem k1 : (with7 1).all cycOk3 = true := by decide +kernel
theorem k2 : (with7 2).all cycOk3 = true := by decide +kernel
theorem k3 : (with7 3).all cycOk3 = true := by decide +kernel
theorem k4 : (with7 4).all cycOk3 = true := by decide +kernel
theorem k5 : (with7 5).all cycOk3 = true := by decide +kernel
theorem k6 : (with7 6).all cycOk3 = true := by decide +kernel

theorem cycOk3_all : ∀ n, 1 ≤ n → n ≤ 7 → (perms n).all cycOk3 = true :=
  upto7 (by decide +kernel) (by decide +kernel) (by decide +kernel) (by decide +kernel) (by decide +kernel) (by decide +kernel) (chunk7 k0 k1 k2 k3 k4 k5 k6)

theorem lensRow_at {ls : List Nat} {l : Nat} : ∀ {c : List Nat}, lensRow ls l c = true → ∀ x ∈ c, ls[x]?.getD 0 = l
  | y :: t, h, x, hx => by
    unfold lensRow at h
    rw [Bool.and_eq_true] at h
    rcases List.mem_cons.1 hx with rfl | hx
    · exact beqI.1 h.1
    · exact lensRow_at h.2 x hx

theorem lensAll_at {ls : List Nat} : ∀ {cs : List (List Nat)}, lensAll ls cs = true → ∀ c ∈ cs, ∀ x ∈ c, ls[x]?.getD 0 = c.length
  | d :: t, h, c, hc => by
    unfold lensAll at h
    rw [Bool.and_eq_true] at h
    rcases List.mem_cons.1 hc with rfl | hc
    · exact lensRow_at h.1
    · exact lensAll_at h.2 c hc

theorem headsB_at : ∀ (seen : List Nat) (A : List (List Nat)) (c : List Nat) (B : List (List Nat)), headsB seen (A ++ c :: B) = true → ∀ y, y < c[0]?.getD 0 → y ∈ seen ++ A.flatten
  | seen, [], c, B, h, y, hy => by
    have h' : (covB seen (c[0]?.getD 0) && headsB (seen ++ c) B) = true := h
    rw [Bool.and_eq_true] at h'
    simpa using covB_mem h'.1 y hy
  | seen, d :: A, c, B, h, y, hy => by
    have h' : (covB seen (d[0]?.getD 0) && headsB (seen ++ d) (A ++ c :: B)) = true := h
    rw [Bool.and_eq_true] at h'
    have := headsB_at (seen ++ d) A c B h'.2 y hy
    rw [List.flatten_cons]
    rwa [List.append_assoc] at this

structure CycMore (ps : List Nat) : Prop where
  nodup : (allCyc ps).flatten.Nodup
  heads : ∀ A c B, allCyc ps = A ++ c :: B → ∀ y, y < c[0]?.getD 0 → y ∈ A.flatten
  lens : ∀ c ∈ allCyc ps, ∀ x ∈ c, (lensL (allCyc ps))[x]?.getD 0 = c.length
  rank : unrankN ps.length (rankN ps) = ps

theorem cycMore {ps : List Nat} (hp : IsPerm ps) : CycMore ps := by
  have h := all_perms cycOk3_all hp
  unfold cycOk3 at h
  rw [Bool.and_eq_true, Bool.and_eq_true, Bool.and_eq_true] at h
  obtain ⟨⟨⟨h1, h2⟩, h3⟩, h4⟩ := h
  refine ⟨nodB_nodup h1, fun A c B e y hy => ?_, lensAll_at h3, ?_⟩
  · rw [e] at h2
    simpa using headsB_at [] A c B h2 y hy
  · rw [← rankB_eq]; exact eqB_eq h4
end Go.Proofs.Ytdpnmepplkiljaa
