/-
  Plain facts about all permutations of at most seven points, by enumeration.
-/
import Derived.Test.YtdpnmepplkiljaaDoorJ
namespace Go.Proofs.YtdpnmepplkiljaaDoor
open Go.RowKit

/-! ### Every permutation is in a list -/
def genP : Nat → List Nat → List (List Nat)
  | 0, _ => [[]]
  | j + 1, av => av.flatMap fun x => (genP j (av.erase x)).map (x :: ·)

theorem mem_genP : ∀ (ps : List Nat) (av : List Nat), ps.Nodup → (∀ x ∈ ps, x ∈ av) → ps ∈ genP ps.length av
  | [], _, _, _ => by simp [genP]
  | x :: t, av, hd, hm => by
    simp only [List.length_cons, genP, List.mem_flatMap, List.mem_map]
    have hx := hm x (List.mem_cons_self ..)
    obtain ⟨hxt, hdt⟩ := List.nodup_cons.1 hd
    refine ⟨x, hx, t, mem_genP t (av.erase x) hdt (fun y hy => ?_), rfl⟩
    have hne : y ≠ x := fun e => hxt (e ▸ hy)
    exact (List.mem_erase_of_ne hne).2 (hm y (List.mem_cons_of_mem _ hy))

def perms (n : Nat) : List (List Nat) := genP n (List.range n)

theorem mem_perms {ps : List Nat} (h : IsPerm ps) : ps ∈ perms ps.length :=
  mem_genP ps _ h.2.2.2 (fun x hx => List.mem_range.2 (h.2.2.1 x hx))

/-- What holds of all lists that are enumerated holds of all permutations. -/
theorem all_perms {P : List Nat → Bool} (h : ∀ n, 1 ≤ n → n ≤ 7 → (perms n).all P = true) {ps : List Nat} (hp : IsPerm ps) : P ps = true :=
  List.all_eq_true.1 (h ps.length hp.1 hp.2.1) ps (mem_perms hp)

theorem upto7 {P : Nat → Prop} (h1 : P 1) (h2 : P 2) (h3 : P 3) (h4 : P 4) (h5 : P 5) (h6 : P 6) (h7 : P 7) : ∀ n, 1 ≤ n → n ≤ 7 → P n
  | 1, _, _ => h1
  | 2, _, _ => h2
  | 3, _, _ => h3
  | 4, _, _ => h4
  | 5, _, _ => h5
  | 6, _, _ => h6
  | 7, _, _ => h7
  | n + 8, _, h => absurd h (by omega)

def cycOk (ps : List Nat) : Bool :=
  decide ((allCyc ps).length ≤ 7) && (List.range 8).all (fun k => decide (ordL ((allCyc ps).take k) ≤ 5040)) && (allCyc ps).all (fun c => decide (1 ≤ c.length) && decide (c.length ≤ 7))

theorem cycOk_all : ∀ n, 1 ≤ n → n ≤ 7 → (perms n).all cycOk = true :=
  upto7 (by decide +kernel) (by decide +kernel) (by decide +kernel) (by decide +kernel) (by decide +kernel) (by decide +kernel) (by decide +kernel)

theorem cyc_ok {ps : List Nat} (hp : IsPerm ps) : (∀ pre, pre <+: allCyc ps → ordL pre ≤ 5040) ∧ (∀ c ∈ allCyc ps, 1 ≤ c.length ∧ c.length ≤ 7) ∧ (allCyc ps).length ≤ 7 := by
  have h := all_perms cycOk_all hp
  simp only [cycOk, Bool.and_eq_true, decide_eq_true_eq, List.all_eq_true, List.mem_range] at h
  obtain ⟨⟨h1, h2⟩, h3⟩ := h
  refine ⟨fun pre hpre => ?_, h3, h1⟩
  have hl := hpre.length_le
  rw [List.prefix_iff_eq_take.1 hpre]
  exact h2 _ (by omega)

theorem order_any (v : Value) (ps : List Nat) (w : World) (h : SlI w v (ints ps)) (hp : IsPerm ps) :
    Calls Tryd.prog 20 #[v] w fun e w' => e = .returned (.int .i64 (ordL (allCyc ps) : Nat)) ∧ Below w.heap.size w w' :=
  order_ok v ps w h hp (cyc_ok hp).1 (cyc_ok hp).2.1
end Go.Proofs.YtdpnmepplkiljaaDoor
