/-
  Parities add up in products, and those of commutators are even, plainly; the orders of the long cycles.
-/
import Derived.Test.YtdpnmepplkiljaaZo
namespace Go.Proofs.Ytdpnmepplkiljaa
open Go.RowKit

theorem xor_swap4 (a b c d e : Bool) (h : a = b) : Bool.xor (Bool.xor a c) (Bool.xor d e) = Bool.xor (Bool.xor b d) (Bool.xor c e) := by
  subst h
  cases a <;> cases c <;> cases d <;> cases e <;> rfl

theorem xor_left (a b c d : Bool) (h : Bool.xor b c = d) : Bool.xor a (Bool.xor b c) = Bool.xor a d := by rw [h]

theorem rowX_perm (F : Nat → Nat → Bool) (x : Nat) {l m : List Nat} (h : l.Perm m) : rowX F x l = rowX F x m := by
  induction h with
  | nil => rfl
  | cons y _ ih => simp only [rowX, ih]
  | swap y z t =>
    simp only [rowX]
    cases F x y <;> cases F x z <;> cases rowX F x t <;> rfl
  | trans _ _ ih1 ih2 => rw [ih1, ih2]

theorem pairX_perm (F : Nat → Nat → Bool) (hs : ∀ x y, F x y = F y x) {l m : List Nat} (h : l.Perm m) : pairX F l = pairX F m := by
  induction h with
  | nil => rfl
  | cons y hp ih => simp only [pairX, ih, rowX_perm F y hp]
  | swap y z t =>
    simp only [pairX, rowX]
    exact xor_swap4 _ _ _ _ _ (hs _ _)
  | trans _ _ ih1 ih2 => rw [ih1, ih2]

theorem rowX_map (F : Nat → Nat → Bool) (Q : Nat → Nat) (x : Nat) : ∀ l : List Nat, rowX F (Q x) (l.map Q) = rowX (fun a b => F (Q a) (Q b)) x l
  | [] => rfl
  | y :: t => by simp only [List.map_cons, rowX, rowX_map F Q x t]

theorem pairX_map (F : Nat → Nat → Bool) (Q : Nat → Nat) : ∀ l : List Nat, pairX F (l.map Q) = pairX (fun a b => F (Q a) (Q b)) l
  | [] => rfl
  | y :: t => by simp only [List.map_cons, pairX, rowX_map F Q y t, pairX_map F Q t]

theorem rowX_congr (F G : Nat → Nat → Bool) (x : Nat) : ∀ l : List Nat, (∀ y ∈ l, F x y = G x y) → rowX F x l = rowX G x l
  | [], _ => rfl
  | y :: t, h => by simp only [rowX, h y (List.mem_cons_self ..), rowX_congr F G x t (fun z hz => h z (List.mem_cons_of_mem _ hz))]

theorem pairX_congr (F G : Nat → Nat → Bool) : ∀ l : List Nat, l.Nodup → (∀ x ∈ l, ∀ y ∈ l, x ≠ y → F x y = G x y) → pairX F l = pairX G l
  | [], _, _ => rfl
  | x :: t, hd, h => by
    obtain ⟨hx, ht⟩ := List.nodup_cons.1 hd
    simp only [pairX]
    rw [rowX_congr F G x t (fun y hy => h x (List.mem_cons_self ..) y (List.mem_cons_of_mem _ hy) (fun e => hx (e ▸ hy))),
      pairX_congr F G t ht (fun a ha b hb hab => h a (List.mem_cons_of_mem _ ha) b (List.mem_cons_of_mem _ hb) hab)]

theorem rowX_xor (F G : Nat → Nat → Bool) (x : Nat) : ∀ l : List Nat, rowX (fun a b => Bool.xor (F a b) (G a b)) x l = Bool.xor (rowX F x l) (rowX G x l)
  | [] => rfl
  | y :: t => by
    simp only [rowX, rowX_xor F G x t]
    cases F x y <;> cases G x y <;> cases rowX F x t <;> cases rowX G x t <;> rfl

theorem pairX_xor (F G : Nat → Nat → Bool) : ∀ l : List Nat, pairX (fun a b => Bool.xor (F a b) (G a b)) l = Bool.xor (pairX F l) (pairX G l)
  | [] => rfl
  | y :: t => by
    simp only [pairX, rowX_xor F G y t, pairX_xor F G t]
    cases rowX F y t <;> cases rowX G y t <;> cases pairX F t <;> cases pairX G t <;> rfl

theorem LtB_iff (x y : Nat) : LtB x y = decide (y < x) := by
  unfold LtB
  rw [Bool.eq_iff_iff, decide_eq_true_eq]
  exact ⟨fun h => by simpa [Nat.blt_eq] using h, fun h => by simpa [Nat.blt_eq] using h⟩

/-- Where q turns the order of two points about: symmetric. -/
def turnB (n : Nat) (Q : Nat → Nat) (x y : Nat) : Bool := if x < n ∧ y < n ∧ x ≠ y then Bool.xor (LtB (Q x) (Q y)) (LtB x y) else false

theorem turnB_symm (n : Nat) (Q : Nat → Nat) (hQ : ∀ x y, x < n → y < n → Q x = Q y → x = y) (x y : Nat) : turnB n Q x y = turnB n Q y x := by
  unfold turnB
  by_cases h : x < n ∧ y < n ∧ x ≠ y
  · have h' : y < n ∧ x < n ∧ y ≠ x := ⟨h.2.1, h.1, fun e => h.2.2 e.symm⟩
    have hq : Q x ≠ Q y := fun e => h.2.2 (hQ x y h.1 h.2.1 e)
    rw [if_pos h, if_pos h', LtB_iff, LtB_iff, LtB_iff, LtB_iff]
    have hxy := h.2.2
    by_cases a : Q y < Q x
    · have a' : ¬ Q x < Q y := by omega
      by_cases b : y < x
      · have b' : ¬ x < y := by omega
        simp [a, a', b, b']
      · have b' : x < y := by omega
        simp [a, a', b, b']
    · have a' : Q x < Q y := by omega
      by_cases b : y < x
      · have b' : ¬ x < y := by omega
        simp [a, a', b, b']
      · have b' : x < y := by omega
        simp [a, a', b, b']
  · have h' : ¬ (y < n ∧ x < n ∧ y ≠ x) := fun e => h ⟨e.2.1, e.1, fun q => e.2.2 q.symm⟩
    rw [if_neg h, if_neg h']

theorem pairX_range : ∀ n, n ≤ 7 → pairX LtB (List.range n) = false
  | 0, _ => by decide +kernel
  | 1, _ => by decide +kernel
  | 2, _ => by decide +kernel
  | 3, _ => by decide +kernel
  | 4, _ => by decide +kernel
  | 5, _ => by decide +kernel
  | 6, _ => by decide +kernel
  | 7, _ => by decide +kernel
  | n + 8, h => absurd h (by omega)

theorem inv_map (ps : List Nat) (n : Nat) (Q : Nat → Nat) (hd : ps.Nodup) (hlt : ∀ x ∈ ps, x < n) : pairX LtB (ps.map Q) = Bool.xor (pairX (turnB n Q) ps) (pairX LtB ps) := by
  rw [pairX_map, ← pairX_xor]
  refine pairX_congr _ _ ps hd (fun x hx y hy hxy => ?_)
  show _ = Bool.xor (turnB n Q x y) (LtB x y)
  unfold turnB
  rw [if_pos ⟨hlt x hx, hlt y hy, hxy⟩]
  cases LtB (Q x) (Q y) <;> cases LtB x y <;> rfl

theorem inv_mul {ps qs : List Nat} (hp : IsPerm ps) (hq : IsPerm qs) (h : qs.length = ps.length) : pairX LtB (mulN ps qs) = Bool.xor (pairX LtB ps) (pairX LtB qs) := by
  have hQ : ∀ x y, x < ps.length → y < ps.length → qs[x]?.getD 0 = qs[y]?.getD 0 → x = y := fun x y hx hy e => hq.inj (by omega) (by omega) e
  have h1 := inv_map ps ps.length (fun x => qs[x]?.getD 0) hp.2.2.2 hp.2.2.1
  have h2 := inv_map (List.range ps.length) ps.length (fun x => qs[x]?.getD 0) List.nodup_range (fun x hx => List.mem_range.1 hx)
  have h3 : (List.range ps.length).map (fun x => qs[x]?.getD 0) = qs := by
    refine ext_getD _ _ ps.length (by simp) h (fun k hk => ?_)
    simp [hk]
  have h4 : ps.Perm (List.range ps.length) := (List.perm_ext_iff_of_nodup hp.2.2.2 List.nodup_range).2 fun a => ⟨fun ha => List.mem_range.2 (hp.2.2.1 a ha), fun ha => hp.mem a (List.mem_range.1 ha)⟩
  have h5 := pairX_perm (turnB ps.length (fun x => qs[x]?.getD 0)) (turnB_symm _ _ hQ) h4
  rw [h3, pairX_range _ hp.2.1] at h2
  unfold mulN
  rw [h1, h5, h2]
  generalize pairX (turnB ps.length (fun x => qs[x]?.getD 0)) (List.range ps.length) = a
  generalize pairX LtB ps = c
  cases a <;> cases c <;> rfl

theorem parP_mul {ps qs : List Nat} (hp : IsPerm ps) (hq : IsPerm qs) (h : qs.length = ps.length) : parP (mulN ps qs) = (parP ps + parP qs) % 2 := by
  rw [(par_facts hp).2, (par_facts hq).2, (par_facts (mulN_perm hp hq h)).2, inv_mul hp hq h]
  cases pairX LtB ps <;> cases pairX LtB qs <;> rfl

theorem inv_back {ps : List Nat} (hp : IsPerm ps) : pairX LtB (backN ps) = pairX LtB ps := by
  have h := inv_mul hp (backN_perm hp) (backN_length ps)
  rw [mul_backN hp, pairX_range _ hp.2.1] at h
  revert h
  cases pairX LtB ps <;> cases pairX LtB (backN ps) <;> simp

theorem commN_perm {ps qs : List Nat} (hp : IsPerm ps) (hq : IsPerm qs) (h : qs.length = ps.length) : IsPerm (commN ps qs) :=
  mulN_perm (mulN_perm (backN_perm hp) (backN_perm hq) (by rw [backN_length, backN_length]; exact h)) (mulN_perm hp hq h) (by rw [mulN_length, mulN_length, backN_length])

theorem parP_comm {ps qs : List Nat} (hp : IsPerm ps) (hq : IsPerm qs) (h : qs.length = ps.length) : parP (commN ps qs) = 0 := by
  rw [(par_facts (commN_perm hp hq h)).2]
  unfold commN
  rw [inv_mul (mulN_perm (backN_perm hp) (backN_perm hq) (by rw [backN_length, backN_length]; exact h)) (mulN_perm hp hq h) (by rw [mulN_length, mulN_length, backN_length]),
    inv_mul (backN_perm hp) (backN_perm hq) (by rw [backN_length, backN_length]; exact h), inv_mul hp hq h, inv_back hp, inv_back hq]
  cases pairX LtB ps <;> cases pairX LtB qs <;> rfl

/-! ### The orders of the long cycles -/
theorem longs_sub {ps : List Nat} {c : List Nat} (h : c ∈ longs ps) : c ∈ allCyc ps ∧ 1 < c.length := by
  unfold longs at h
  rw [List.mem_filter, decide_eq_true_eq] at h
  exact h

theorem longs_ord {ps : List Nat} (hp : IsPerm ps) : ordL (longs ps) = ordN ps := by
  obtain ⟨h1, _, h3, h4⟩ := ordL_facts (longs ps) 1 (Nat.le_refl _) (fun c hc => Nat.le_of_lt (longs_sub hc).2)
  obtain ⟨g1, _, g3, g4⟩ := ordN_facts hp
  refine Nat.dvd_antisymm (h4 _ (Nat.one_dvd _) (fun c hc => g3 c (longs_sub hc).1)) (g4 _ (fun c hc => ?_))
  by_cases hl : 1 < c.length
  · refine h3 c ?_
    unfold longs
    rw [List.mem_filter, decide_eq_true_eq]
    exact ⟨hc, hl⟩
  · have := ((cycFacts hp).len c hc).1
    have : c.length = 1 := by omega
    rw [this]; exact Nat.one_dvd _

theorem longs_pre {ps : List Nat} (hp : IsPerm ps) (i : Nat) : 1 ≤ ordL ((longs ps).take i) ∧ ordL ((longs ps).take i) ≤ 5040 := by
  obtain ⟨h1, _, h3, h4⟩ := ordL_facts ((longs ps).take i) 1 (Nat.le_refl _) (fun c hc => Nat.le_of_lt (longs_sub (List.mem_of_mem_take hc)).2)
  obtain ⟨g1, g2, g3, g4⟩ := ordN_facts hp
  have hd : ordL ((longs ps).take i) ∣ ordN ps := h4 _ (Nat.one_dvd _) (fun c hc => g3 c (longs_sub (List.mem_of_mem_take hc)).1)
  exact ⟨h1, Nat.le_trans (Nat.le_of_dvd (by omega) hd) g2⟩

theorem longs_len {ps : List Nat} (hp : IsPerm ps) : (longs ps).length ≤ 7 := by
  have h1 : (longs ps).length ≤ (allCyc ps).length := List.length_filter_le _ _
  have h2 := (cyc_ok hp).2.2
  omega

theorem longs_step (ps : List Nat) (i : Nat) (hi : i < (longs ps).length) : ordL ((longs ps).take (i + 1)) = ordL ((longs ps).take i) / Nat.gcd (ordL ((longs ps).take i)) ((longs ps)[i]?.getD []).length * ((longs ps)[i]?.getD []).length := by
  rw [List.take_succ_eq_append_getElem hi, ordL_snoc, List.getElem?_eq_getElem hi, Option.getD_some]
end Go.Proofs.Ytdpnmepplkiljaa
