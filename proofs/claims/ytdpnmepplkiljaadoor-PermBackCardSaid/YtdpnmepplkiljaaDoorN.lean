/-
  The cycles of every permutation of at most seven points, by enumeration: each point of a cycle is mapped to the next, every point is in one; and what powers are, plainly.
-/
import Derived.Test.YtdpnmepplkiljaaDoorM
import Derived.Test.YtdpnmepplkiljaaDoorP
import Derived.Test.YtdpnmepplkiljaaDoorX
namespace Go.Proofs.YtdpnmepplkiljaaDoor
open Go.RowKit

def stepOk (ps : List Nat) (c0 : Nat) : List Nat → Bool
  | [] => true
  | [x] => Nat.beq (ps[x]?.getD 0) c0
  | x :: y :: t => Nat.beq (ps[x]?.getD 0) y && stepOk ps c0 (y :: t)

def cycB (ps : List Nat) (n : Nat) : List Nat → Bool
  | [] => false
  | x :: t => stepOk ps x (x :: t) && ltB n (x :: t) && nodB (x :: t)

def covB (fl : List Nat) : Nat → Bool
  | 0 => true
  | x + 1 => memB x fl && covB fl x

def allB (ps : List Nat) (n : Nat) : List (List Nat) → Bool
  | [] => true
  | c :: t => cycB ps n c && allB ps n t

def cycOk2 (ps : List Nat) : Bool := allB ps ps.length (allCyc ps) && covB (allCyc ps).flatten ps.length

theorem cycOk2_all : ∀ n, 1 ≤ n → n ≤ 7 → (perms n).all cycOk2 = true :=
  upto7 (by decide +kernel) (by decide +kernel) (by decide +kernel) (by decide +kernel) (by decide +kernel) (by decide +kernel) (by decide +kernel)

theorem memB_mem {x : Nat} : ∀ {t : List Nat}, memB x t = true → x ∈ t
  | y :: t, h => by
    unfold memB at h
    rw [Bool.or_eq_true] at h
    rcases h with h | h
    · rw [beqI.1 h]; exact List.mem_cons_self ..
    · exact List.mem_cons_of_mem _ (memB_mem h)

theorem covB_mem {fl : List Nat} : ∀ {n : Nat}, covB fl n = true → ∀ x, x < n → x ∈ fl
  | n + 1, h, x, hx => by
    unfold covB at h
    rw [Bool.and_eq_true] at h
    by_cases e : x = n
    · subst e; exact memB_mem h.1
    · exact covB_mem h.2 x (by omega)

theorem stepOk_at (ps : List Nat) (c0 : Nat) : ∀ (l : List Nat), stepOk ps c0 l = true → ∀ i, i < l.length → ps[l[i]?.getD 0]?.getD 0 = if i + 1 < l.length then l[i + 1]?.getD 0 else c0
  | [x], h, i, hi => by
    have : i = 0 := by simpa using hi
    subst this
    simpa using beqI.1 h
  | x :: y :: t, h, 0, _ => by
    unfold stepOk at h
    rw [Bool.and_eq_true] at h
    simpa using beqI.1 h.1
  | x :: y :: t, h, i + 1, hi => by
    unfold stepOk at h
    rw [Bool.and_eq_true] at h
    have := stepOk_at ps c0 (y :: t) h.2 i (by simpa using hi)
    simpa using this

theorem cycB_facts {ps : List Nat} {n : Nat} : ∀ {c : List Nat}, cycB ps n c = true → c.Nodup ∧ (∀ x ∈ c, x < n) ∧ ∀ i, i < c.length → ps[c[i]?.getD 0]?.getD 0 = c[(i + 1) % c.length]?.getD 0
  | x :: t, h => by
    unfold cycB at h
    rw [Bool.and_eq_true, Bool.and_eq_true] at h
    refine ⟨nodB_nodup h.2, ltB_lt h.1.2, fun i hi => ?_⟩
    rw [stepOk_at ps x (x :: t) h.1.1 i hi]
    by_cases hl : i + 1 < (x :: t).length
    · rw [if_pos hl, Nat.mod_eq_of_lt hl]
    · have : i + 1 = (x :: t).length := by omega
      rw [if_neg hl, this, Nat.mod_self]; rfl

theorem allB_mem {ps : List Nat} {n : Nat} : ∀ {cs : List (List Nat)}, allB ps n cs = true → ∀ c ∈ cs, cycB ps n c = true
  | d :: t, h, c, hc => by
    unfold allB at h
    rw [Bool.and_eq_true] at h
    rcases List.mem_cons.1 hc with rfl | hc
    · exact h.1
    · exact allB_mem h.2 c hc

structure CycFacts (ps : List Nat) : Prop where
  nodup : ∀ c ∈ allCyc ps, c.Nodup
  lt : ∀ c ∈ allCyc ps, ∀ x ∈ c, x < ps.length
  step : ∀ c ∈ allCyc ps, ∀ i, i < c.length → ps[c[i]?.getD 0]?.getD 0 = c[(i + 1) % c.length]?.getD 0
  cover : ∀ x, x < ps.length → x ∈ (allCyc ps).flatten
  len : ∀ c ∈ allCyc ps, 1 ≤ c.length ∧ c.length ≤ 7

theorem cycFacts {ps : List Nat} (hp : IsPerm ps) : CycFacts ps := by
  have h := all_perms cycOk2_all hp
  unfold cycOk2 at h
  rw [Bool.and_eq_true] at h
  exact ⟨fun c hc => (cycB_facts (allB_mem h.1 c hc)).1, fun c hc => (cycB_facts (allB_mem h.1 c hc)).2.1, fun c hc => (cycB_facts (allB_mem h.1 c hc)).2.2, covB_mem h.2, (cyc_ok hp).2.1⟩

/-! ### Powers -/
def iterN (ps : List Nat) : Nat → List Nat
  | 0 => List.range ps.length
  | t + 1 => mulN (iterN ps t) ps

theorem iterN_perm {ps : List Nat} (hp : IsPerm ps) : ∀ t, IsPerm (iterN ps t) ∧ (iterN ps t).length = ps.length
  | 0 => ⟨range_perm hp.1 hp.2.1, List.length_range⟩
  | t + 1 => by
    obtain ⟨h1, h2⟩ := iterN_perm hp t
    exact ⟨mulN_perm h1 hp h2.symm, by rw [iterN, mulN_length, h2]⟩

theorem iterN_one {ps : List Nat} : iterN ps 1 = ps := one_mulN ps

theorem get_mem (c : List Nat) (i : Nat) (hi : i < c.length) : c[i]?.getD 0 ∈ c := by simp [hi]

theorem cyc_iter {ps : List Nat} (hp : IsPerm ps) {c : List Nat} (hc : c ∈ allCyc ps) : ∀ (t i : Nat), i < c.length → (iterN ps t)[c[i]?.getD 0]?.getD 0 = c[(i + t) % c.length]?.getD 0
  | 0, i, hi => by
    have hl := (cycFacts hp).lt c hc _ (get_mem c i hi)
    rw [Nat.add_zero, Nat.mod_eq_of_lt hi]
    show (List.range ps.length)[c[i]?.getD 0]?.getD 0 = _
    rw [List.getElem?_range hl]; rfl
  | t + 1, i, hi => by
    have hl := (cycFacts hp).lt c hc _ (get_mem c i hi)
    have ih := cyc_iter hp hc t i hi
    have hpos : 0 < c.length := by omega
    show (mulN (iterN ps t) ps)[c[i]?.getD 0]?.getD 0 = _
    rw [mulN_get _ _ _ (by rw [(iterN_perm hp t).2]; exact hl), ih, (cycFacts hp).step c hc _ (Nat.mod_lt _ hpos)]
    congr 2
    rw [Nat.mod_add_mod, Nat.add_assoc]

theorem lcm_step (o l : Nat) (ho : 1 ≤ o) (hl : 1 ≤ l) : o ∣ o / Nat.gcd o l * l ∧ l ∣ o / Nat.gcd o l * l ∧ 1 ≤ o / Nat.gcd o l * l ∧ ∀ k, o ∣ k → l ∣ k → o / Nat.gcd o l * l ∣ k := by
  have hg : 0 < Nat.gcd o l := Nat.gcd_pos_of_pos_left _ ho
  have he : o / Nat.gcd o l * l = Nat.lcm o l := by
    rw [Nat.lcm, Nat.div_mul_right_comm (Nat.gcd_dvd_left o l)]
  rw [he]
  exact ⟨Nat.dvd_lcm_left o l, Nat.dvd_lcm_right o l, Nat.lcm_pos ho hl, fun k h1 h2 => Nat.lcm_dvd h1 h2⟩

theorem ordL_facts : ∀ (cs : List (List Nat)) (o : Nat), 1 ≤ o → (∀ c ∈ cs, 1 ≤ c.length) → 1 ≤ cs.foldl ordStep o ∧ o ∣ cs.foldl ordStep o ∧ (∀ c ∈ cs, c.length ∣ cs.foldl ordStep o) ∧ ∀ k, o ∣ k → (∀ c ∈ cs, c.length ∣ k) → cs.foldl ordStep o ∣ k
  | [], o, ho, _ => ⟨ho, Nat.dvd_refl _, by simp, fun k h _ => h⟩
  | c :: t, o, ho, hl => by
    obtain ⟨h1, h2, h3, h4⟩ := lcm_step o c.length ho (hl c (List.mem_cons_self ..))
    obtain ⟨g1, g2, g3, g4⟩ := ordL_facts t (ordStep o c) h3 (fun d hd => hl d (List.mem_cons_of_mem _ hd))
    refine ⟨g1, Nat.dvd_trans h1 g2, fun d hd => ?_, fun k hk hc => g4 k (h4 k hk (hc c (List.mem_cons_self ..))) (fun d hd => hc d (List.mem_cons_of_mem _ hd))⟩
    rcases List.mem_cons.1 hd with rfl | hd
    · exact Nat.dvd_trans h2 g2
    · exact g3 d hd

def ordN (ps : List Nat) : Nat := ordL (allCyc ps)

theorem ordN_facts {ps : List Nat} (hp : IsPerm ps) : 1 ≤ ordN ps ∧ ordN ps ≤ 5040 ∧ (∀ c ∈ allCyc ps, c.length ∣ ordN ps) ∧ ∀ k, (∀ c ∈ allCyc ps, c.length ∣ k) → ordN ps ∣ k := by
  obtain ⟨h1, _, h3, h4⟩ := ordL_facts (allCyc ps) 1 (Nat.le_refl _) (fun c hc => ((cycFacts hp).len c hc).1)
  exact ⟨h1, (cyc_ok hp).1 _ (List.prefix_refl _), h3, fun k h => h4 k (Nat.one_dvd k) h⟩

/-- Every point lies in a cycle. -/
theorem in_cycle {ps : List Nat} (hp : IsPerm ps) (x : Nat) (hx : x < ps.length) : ∃ c ∈ allCyc ps, ∃ i, i < c.length ∧ c[i]?.getD 0 = x := by
  obtain ⟨c, hc, hxc⟩ := List.mem_flatten.1 ((cycFacts hp).cover x hx)
  obtain ⟨i, hi, he⟩ := List.getElem_of_mem hxc
  exact ⟨c, hc, i, hi, by simp [hi, he]⟩

theorem iterN_ord_iff {ps : List Nat} (hp : IsPerm ps) (t : Nat) : iterN ps t = List.range ps.length ↔ ordN ps ∣ t := by
  obtain ⟨h1, _, h3, h4⟩ := ordN_facts hp
  constructor
  · intro h
    refine h4 t (fun c hc => ?_)
    have hl := ((cycFacts hp).len c hc).1
    have hc0 := cyc_iter hp hc t 0 (by omega)
    have hlt := (cycFacts hp).lt c hc _ (get_mem c 0 (by omega))
    rw [h, List.getElem?_range hlt, Option.getD_some, Nat.zero_add] at hc0
    have hm : t % c.length < c.length := Nat.mod_lt _ (by omega)
    rw [get_lt c 0 (by omega), get_lt c _ hm] at hc0
    have := (List.getElem_inj (h₀ := by omega) (h₁ := hm) ((cycFacts hp).nodup c hc)).1 hc0
    exact Nat.dvd_of_mod_eq_zero this.symm
  · intro h
    refine ext_getD _ _ ps.length (iterN_perm hp t).2 List.length_range (fun x hx => ?_)
    obtain ⟨c, hc, i, hi, rfl⟩ := in_cycle hp x hx
    obtain ⟨m, hm⟩ := Nat.dvd_trans (h3 c hc) h
    rw [cyc_iter hp hc t i hi, hm, Nat.add_mul_mod_self_left, Nat.mod_eq_of_lt hi, List.getElem?_range hx, Option.getD_some]
end Go.Proofs.YtdpnmepplkiljaaDoor
