/-
  The greedy choice of Conjugator, plainly: what it chooses conjugates, and is the first of all that do; it fails only where the cycles differ.
-/
import Derived.Test.YtdpnmepplkiljaaZs
import Derived.Test.YtdpnmepplkiljaaZt
namespace Go.Proofs.Ytdpnmepplkiljaa
open Go.RowKit

/-! ### Lengths of cycles -/
def lenP (ps : List Nat) (x : Nat) : Nat := (lensL (allCyc ps))[x]?.getD 0

theorem lenP_cyc {ps : List Nat} (hp : IsPerm ps) {c : List Nat} (hc : c ∈ allCyc ps) (i : Nat) (hi : i < c.length) : lenP ps (c[i]?.getD 0) = c.length :=
  (cycMore hp).lens c hc _ (get_mem c i hi)

theorem mod_back {l i t : Nat} (h : (i + t) % l = i) : l ∣ t := by
  have := Nat.div_add_mod (i + t) l
  exact ⟨(i + t) / l, by omega⟩

theorem lenP_iff {ps : List Nat} (hp : IsPerm ps) (x : Nat) (hx : x < ps.length) (t : Nat) : (iterN ps t)[x]?.getD 0 = x ↔ lenP ps x ∣ t := by
  obtain ⟨c, hc, i, hi, rfl⟩ := in_cycle hp x hx
  rw [lenP_cyc hp hc i hi, cyc_iter hp hc t i hi]
  constructor
  · intro h
    have hm := Nat.mod_lt (i + t) (show 0 < c.length by omega)
    rw [get_lt c _ hm, get_lt c i hi] at h
    exact mod_back ((List.getElem_inj (h₀ := hm) (h₁ := hi) ((cycFacts hp).nodup c hc)).1 h)
  · rintro ⟨m, rfl⟩
    rw [Nat.add_mul_mod_self_left, Nat.mod_eq_of_lt hi]

theorem iter_lt {ps : List Nat} (hp : IsPerm ps) (t x : Nat) (hx : x < ps.length) : (iterN ps t)[x]?.getD 0 < ps.length := by
  have h := iterN_perm hp t
  have := h.1.lt x (by rw [h.2]; exact hx)
  rwa [h.2] at this

structure ConjP (cs ps qs : List Nat) : Prop where
  perm : IsPerm cs
  len : cs.length = ps.length
  rel : ∀ x, x < ps.length → cs[ps[x]?.getD 0]?.getD 0 = qs[cs[x]?.getD 0]?.getD 0

theorem ConjP.lt {cs ps qs : List Nat} (h : ConjP cs ps qs) (x : Nat) (hx : x < ps.length) : cs[x]?.getD 0 < ps.length := by
  have := h.perm.lt x (by rw [h.len]; exact hx)
  rwa [h.len] at this

theorem conj_iter {cs ps qs : List Nat} (h : ConjP cs ps qs) (hp : IsPerm ps) (hq : IsPerm qs) (hl : qs.length = ps.length) : ∀ (t x : Nat), x < ps.length → cs[(iterN ps t)[x]?.getD 0]?.getD 0 = (iterN qs t)[cs[x]?.getD 0]?.getD 0
  | 0, x, hx => by
    show cs[(List.range ps.length)[x]?.getD 0]?.getD 0 = (List.range qs.length)[cs[x]?.getD 0]?.getD 0
    rw [range_get _ _ hx, range_get _ _ (by rw [hl]; exact h.lt x hx)]
  | t + 1, x, hx => by
    show cs[(mulN (iterN ps t) ps)[x]?.getD 0]?.getD 0 = (mulN (iterN qs t) qs)[cs[x]?.getD 0]?.getD 0
    rw [mulN_get _ _ _ (by rw [(iterN_perm hp t).2]; exact hx), mulN_get _ _ _ (by rw [(iterN_perm hq t).2, hl]; exact h.lt x hx), h.rel _ (iter_lt hp t x hx), conj_iter h hp hq hl t x hx]

theorem conj_len {cs ps qs : List Nat} (h : ConjP cs ps qs) (hp : IsPerm ps) (hq : IsPerm qs) (hl : qs.length = ps.length) (x : Nat) (hx : x < ps.length) : lenP qs (cs[x]?.getD 0) = lenP ps x := by
  have hx' := h.lt x hx
  have key : ∀ t, lenP qs (cs[x]?.getD 0) ∣ t ↔ lenP ps x ∣ t := fun t => by
    rw [← lenP_iff hq _ (by rw [hl]; exact hx'), ← lenP_iff hp x hx, ← conj_iter h hp hq hl t x hx]
    constructor
    · intro e
      exact h.perm.inj (by rw [h.len]; exact iter_lt hp t x hx) (by rw [h.len]; exact hx) e
    · intro e; rw [e]
  exact Nat.dvd_antisymm ((key _).2 (Nat.dvd_refl _)) ((key _).1 (Nat.dvd_refl _))

/-! ### The choice -/
theorem pickF_spec (bl : Nat → Bool) : ∀ (f s : Nat), s ≤ pickF bl f s ∧ pickF bl f s ≤ s + f ∧ (∀ j, s ≤ j → j < pickF bl f s → bl j = true) ∧ (pickF bl f s = s + f ∨ bl (pickF bl f s) = false)
  | 0, s => ⟨Nat.le_refl _, Nat.le_refl _, fun j h1 h2 => by have h3 : j < s := h2; omega, .inl rfl⟩
  | f + 1, s => by
    unfold pickF
    by_cases h : bl s = true
    · rw [if_pos h]
      obtain ⟨h1, h2, h3, h4⟩ := pickF_spec bl f (s + 1)
      refine ⟨by omega, by omega, fun j a b => ?_, by rcases h4 with h4 | h4; exact .inl (by omega); exact .inr h4⟩
      by_cases e : j = s
      · rw [e]; exact h
      · exact h3 j (by omega) b
    · rw [if_neg h]
      exact ⟨Nat.le_refl _, by omega, fun j a b => by omega, .inr (by simpa using h)⟩

theorem pick_spec (u : List Bool) (ls : List Nat) (len n : Nat) : pick u ls len n ≤ n ∧ (∀ j, j < pick u ls len n → blockedB u ls len j = true) ∧ (pick u ls len n = n ∨ blockedB u ls len (pick u ls len n) = false) := by
  obtain ⟨_, h2, h3, h4⟩ := pickF_spec (blockedB u ls len) n 0
  rw [Nat.zero_add] at h2 h4
  exact ⟨h2, fun j hj => h3 j (Nat.zero_le _) hj, h4⟩

theorem blocked_no {u : List Bool} {ls : List Nat} {len j : Nat} : blockedB u ls len j = false ↔ u[j]?.getD false = false ∧ ls[j]?.getD 0 = len := by
  unfold blockedB
  rw [Bool.or_eq_false_iff, Bool.not_eq_false', beqI]

/-! ### Placing a cycle -/
theorem getset (l : List Nat) (i a j : Nat) (hi : i < l.length) : (l.set i a)[j]?.getD 0 = if i = j then a else l[j]?.getD 0 := by
  rw [List.getElem?_set]
  by_cases h : i = j
  · rw [if_pos h, if_pos h, if_pos (by omega)]; rfl
  · rw [if_neg h, if_neg h]

theorem getsetB (l : List Bool) (i : Nat) (a : Bool) (j : Nat) (hi : i < l.length) : (l.set i a)[j]?.getD false = if i = j then a else l[j]?.getD false := by
  rw [List.getElem?_set]
  by_cases h : i = j
  · rw [if_pos h, if_pos h, if_pos (by omega)]; rfl
  · rw [if_neg h, if_neg h]

structure Placed (n : Nat) (c D : List Nat) (j0 : Nat) (L : List Nat) (u : List Bool) (k : Nat) (s : CSt) : Prop where
  to : s.to = D[(j0 + k) % D.length]?.getD 0
  lenL : s.L.length = n
  lenU : s.u.length = 7
  new : ∀ i, i < k → s.L[c[i]?.getD 0]?.getD 0 = D[(j0 + i) % D.length]?.getD 0
  old : ∀ x, x ∉ c.take k → s.L[x]?.getD 0 = L[x]?.getD 0
  used : ∀ y, s.u[y]?.getD false = true ↔ (u[y]?.getD false = true ∨ ∃ i, i < k ∧ y = D[(j0 + i) % D.length]?.getD 0)

theorem placed {qs : List Nat} (hq : IsPerm qs) {n : Nat} (hqn : qs.length = n) {c D : List Nat} (hD : D ∈ allCyc qs) (j0 : Nat) (hj0 : j0 < D.length) (hcd : c.Nodup) (hcl : ∀ x ∈ c, x < n) (L : List Nat) (u : List Bool) (hL : L.length = n) (hu : u.length = 7) :
    ∀ k, k ≤ c.length → Placed n c D j0 L u k (place qs (c.take k) ⟨L, u, D[j0]?.getD 0⟩)
  | 0, _ => by
    rw [List.take_zero]
    exact ⟨by show D[j0]?.getD 0 = _; rw [Nat.add_zero, Nat.mod_eq_of_lt hj0], hL, hu, fun i hi => by omega, fun x _ => rfl, fun y => ⟨fun h => .inl h, fun h => by rcases h with h | ⟨i, hi, _⟩; exact h; omega⟩⟩
  | k + 1, hk => by
    have ih := placed hq hqn hD j0 hj0 hcd hcl L u hL hu k (by omega)
    have hkc : k < c.length := by omega
    have htk := take_snocN'' c k hkc
    rw [htk, place_snoc]
    obtain ⟨s, hs⟩ : ∃ s, place qs (c.take k) ⟨L, u, D[j0]?.getD 0⟩ = s := ⟨_, rfl⟩
    rw [hs] at ih ⊢
    have hm : (j0 + k) % D.length < D.length := Nat.mod_lt _ (by omega)
    have hton : s.to < n := by
      rw [ih.to, ← hqn]
      exact (cycFacts hq).lt D hD _ (get_mem D _ hm)
    have hn7 : n ≤ 7 := by rw [← hqn]; exact hq.2.1
    have hck : c[k]?.getD 0 < s.L.length := by rw [ih.lenL]; exact hcl _ (get_mem c k hkc)
    refine ⟨?_, ?_, ?_, ?_, ?_, ?_⟩
    · show qs[s.to]?.getD 0 = _
      rw [ih.to, (cycFacts hq).step D hD _ hm, Nat.mod_add_mod]; rfl
    · show (s.L.set _ _).length = n
      rw [List.length_set]; exact ih.lenL
    · show (s.u.set _ _).length = 7
      rw [List.length_set]; exact ih.lenU
    · intro i hi
      show (s.L.set _ _)[c[i]?.getD 0]?.getD 0 = _
      rw [getset _ _ _ _ hck]
      by_cases e : i = k
      · subst e; rw [if_pos rfl, ih.to]
      · have hne : ¬ c[k]?.getD 0 = c[i]?.getD 0 := fun h => e (by
          rw [get_lt c k hkc, get_lt c i (by omega)] at h
          exact ((List.getElem_inj (h₀ := hkc) (h₁ := by omega) hcd).1 h).symm)
        rw [if_neg hne]
        exact ih.new i (by omega)
    · intro x hx
      show (s.L.set _ _)[x]?.getD 0 = _
      rw [htk, List.mem_append, not_or] at hx
      have hne : ¬ c[k]?.getD 0 = x := fun e => hx.2 (by rw [e]; exact List.mem_singleton.2 rfl)
      rw [getset _ _ _ _ hck, if_neg hne]
      exact ih.old x hx.1
    · intro y
      show (s.u.set _ _)[y]?.getD false = true ↔ _
      rw [getsetB _ _ _ _ (by rw [ih.lenU]; omega)]
      by_cases e : s.to = y
      · rw [if_pos e]
        refine ⟨fun _ => .inr ⟨k, by omega, by rw [← e, ih.to]⟩, fun _ => rfl⟩
      · rw [if_neg e, ih.used y]
        constructor
        · rintro (h | ⟨i, hi, h⟩)
          · exact .inl h
          · exact .inr ⟨i, by omega, h⟩
        · rintro (h | ⟨i, hi, h⟩)
          · exact .inl h
          · by_cases e2 : i = k
            · exact absurd (by rw [ih.to, h, e2]) e
            · exact .inr ⟨i, by omega, h⟩
/-! ### What holds of the choice so far -/
structure GInv (ps qs : List Nat) (A : List (List Nat)) (L : List Nat) (u : List Bool) : Prop where
  lenL : L.length = ps.length
  lenU : u.length = 7
  img : ∀ x ∈ A.flatten, L[x]?.getD 0 < ps.length ∧ u[L[x]?.getD 0]?.getD false = true
  rel : ∀ x ∈ A.flatten, L[ps[x]?.getD 0]?.getD 0 = qs[L[x]?.getD 0]?.getD 0
  onto : ∀ y, u[y]?.getD false = true → ∃ x ∈ A.flatten, L[x]?.getD 0 = y
  inj : ∀ x ∈ A.flatten, ∀ x' ∈ A.flatten, L[x]?.getD 0 = L[x']?.getD 0 → x = x'
  lens : ∀ x ∈ A.flatten, lenP qs (L[x]?.getD 0) = lenP ps x

theorem ginv_nil (ps qs : List Nat) : GInv ps qs [] (List.replicate ps.length 0) (List.replicate 7 false) :=
  ⟨by simp, by simp, by simp, by simp, fun y h => by
    exfalso
    rw [List.getElem?_replicate] at h
    split at h <;> simp at h, by simp, by simp⟩

theorem pre_mem {ps : List Nat} {A B : List (List Nat)} {c : List Nat} (hA : allCyc ps = A ++ c :: B) {d : List Nat} (hd : d ∈ A) : d ∈ allCyc ps := by
  rw [hA]; exact List.mem_append_left _ hd

theorem in_pre {A : List (List Nat)} {x : Nat} (hx : x ∈ A.flatten) : ∃ c ∈ A, ∃ i, i < c.length ∧ c[i]?.getD 0 = x := by
  obtain ⟨c, hc, hxc⟩ := List.mem_flatten.1 hx
  obtain ⟨i, hi, he⟩ := List.getElem_of_mem hxc
  exact ⟨c, hc, i, hi, by simp [hi, he]⟩

theorem pre_step {ps : List Nat} (hp : IsPerm ps) {A : List (List Nat)} (hA : ∀ d ∈ A, d ∈ allCyc ps) {x : Nat} (hx : x ∈ A.flatten) : ps[x]?.getD 0 ∈ A.flatten := by
  obtain ⟨c, hc, i, hi, rfl⟩ := in_pre hx
  rw [(cycFacts hp).step c (hA c hc) i hi]
  exact List.mem_flatten.2 ⟨c, hc, get_mem c _ (Nat.mod_lt _ (by omega))⟩

theorem pre_lt {ps : List Nat} (hp : IsPerm ps) {A : List (List Nat)} (hA : ∀ d ∈ A, d ∈ allCyc ps) {x : Nat} (hx : x ∈ A.flatten) : x < ps.length := by
  obtain ⟨c, hc, i, hi, rfl⟩ := in_pre hx
  exact (cycFacts hp).lt c (hA c hc) _ (get_mem c i hi)

theorem used_step {ps qs : List Nat} (hp : IsPerm ps) {A : List (List Nat)} (hA : ∀ d ∈ A, d ∈ allCyc ps) {L : List Nat} {u : List Bool} (g : GInv ps qs A L u) (y : Nat) (hy : u[y]?.getD false = true) : u[qs[y]?.getD 0]?.getD false = true := by
  obtain ⟨x, hx, rfl⟩ := g.onto y hy
  rw [← g.rel x hx]
  exact (g.img _ (pre_step hp hA hx)).2

theorem used_cycle {ps qs : List Nat} (hp : IsPerm ps) (hq : IsPerm qs) {A : List (List Nat)} (hA : ∀ d ∈ A, d ∈ allCyc ps) {L : List Nat} {u : List Bool} (g : GInv ps qs A L u) {D : List Nat} (hD : D ∈ allCyc qs) (i : Nat) (hi : i < D.length) (hu : u[D[i]?.getD 0]?.getD false = true) :
    ∀ k, u[D[(i + k) % D.length]?.getD 0]?.getD false = true
  | 0 => by rw [Nat.add_zero, Nat.mod_eq_of_lt hi]; exact hu
  | k + 1 => by
    have h := used_step hp hA g _ (used_cycle hp hq hA g hD i hi hu k)
    rw [(cycFacts hq).step D hD _ (Nat.mod_lt _ (by omega)), Nat.mod_add_mod] at h
    exact h

theorem unused_cycle {ps qs : List Nat} (hp : IsPerm ps) (hq : IsPerm qs) {A : List (List Nat)} (hA : ∀ d ∈ A, d ∈ allCyc ps) {L : List Nat} {u : List Bool} (g : GInv ps qs A L u) {D : List Nat} (hD : D ∈ allCyc qs) (j : Nat) (hj : j < D.length) (hu : u[D[j]?.getD 0]?.getD false = false) (i : Nat) :
    u[D[i % D.length]?.getD 0]?.getD false = false := by
  have hi : i % D.length < D.length := Nat.mod_lt _ (by omega)
  cases h : u[D[i % D.length]?.getD 0]?.getD false with
  | false => rfl
  | true =>
    have h2 := used_cycle hp hq hA g hD (i % D.length) hi h (D.length - i % D.length + j)
    rw [← Nat.add_assoc, Nat.add_sub_cancel' (Nat.le_of_lt hi), Nat.add_mod_left, Nat.mod_eq_of_lt hj, hu] at h2
    cases h2

theorem rot_inj {l j0 i i' : Nat} (hj : j0 < l) (hi : i < l) (hi' : i' < l) (h : (j0 + i) % l = (j0 + i') % l) : i = i' := by
  have f : ∀ z, z < l → ((j0 + z) % l + (l - j0)) % l = z := fun z hz => by
    rw [Nat.mod_add_mod, show j0 + z + (l - j0) = z + l by omega, Nat.add_mod_right, Nat.mod_eq_of_lt hz]
  rw [← f i hi, ← f i' hi', h]

theorem ginv_step {ps qs : List Nat} (hp : IsPerm ps) (hq : IsPerm qs) (hl : qs.length = ps.length) {A B : List (List Nat)} {c : List Nat} (hA : allCyc ps = A ++ c :: B) {L : List Nat} {u : List Bool} (g : GInv ps qs A L u) (to : Nat) (hto : to < ps.length) (hu : u[to]?.getD false = false) (hle : lenP qs to = c.length) :
    GInv ps qs (A ++ [c]) (place qs c ⟨L, u, to⟩).L (place qs c ⟨L, u, to⟩).u ∧ (∀ x ∈ A.flatten, (place qs c ⟨L, u, to⟩).L[x]?.getD 0 = L[x]?.getD 0) ∧ ∀ i, i < c.length → (place qs c ⟨L, u, to⟩).L[c[i]?.getD 0]?.getD 0 = (iterN qs i)[to]?.getD 0 := by
  have hcm : c ∈ allCyc ps := by rw [hA]; exact List.mem_append_right _ (List.mem_cons_self ..)
  have hAm : ∀ d ∈ A, d ∈ allCyc ps := fun d hd => pre_mem hA hd
  obtain ⟨D, hD, j0, hj0, rfl⟩ := in_cycle hq to (by rw [hl]; exact hto)
  have hDl : D.length = c.length := by rw [← hle, lenP_cyc hq hD j0 hj0]
  have P := placed hq hl hD j0 hj0 ((cycFacts hp).nodup c hcm) (fun x hx => (cycFacts hp).lt c hcm x hx) L u g.lenL g.lenU c.length (Nat.le_refl _)
  rw [List.take_length] at P
  obtain ⟨s, hs⟩ : ∃ s, place qs c ⟨L, u, D[j0]?.getD 0⟩ = s := ⟨_, rfl⟩
  rw [hs] at P ⊢
  have hdis : ∀ x, x ∈ A.flatten → x ∉ c := fun x hx hxc => by
    have h := (cycMore hp).nodup
    rw [hA, List.flatten_append, List.flatten_cons, List.nodup_append] at h
    exact h.2.2 x hx x (List.mem_append_left _ hxc) rfl
  have hold : ∀ x ∈ A.flatten, s.L[x]?.getD 0 = L[x]?.getD 0 := fun x hx => by
    have := P.old x (by rw [List.take_length]; exact hdis x hx)
    exact this
  have hnu : ∀ i, u[D[(j0 + i) % D.length]?.getD 0]?.getD false = false := fun i => unused_cycle hp hq hAm g hD j0 hj0 hu (j0 + i)
  have hfl : (A ++ [c]).flatten = A.flatten ++ c := by simp
  have split : ∀ x, x ∈ (A ++ [c]).flatten → x ∈ A.flatten ∨ ∃ i, i < c.length ∧ c[i]?.getD 0 = x := fun x hx => by
    rw [hfl, List.mem_append] at hx
    rcases hx with hx | hx
    · exact .inl hx
    · obtain ⟨i, hi, he⟩ := List.getElem_of_mem hx
      exact .inr ⟨i, hi, by simp [hi, he]⟩
  have hmod : ∀ i, (j0 + i) % D.length < D.length := fun i => Nat.mod_lt _ (by omega)
  refine ⟨⟨P.lenL, P.lenU, ?_, ?_, ?_, ?_, ?_⟩, hold, ?_⟩
  · intro x hx
    rcases split x hx with hx | ⟨i, hi, rfl⟩
    · rw [hold x hx]
      exact ⟨(g.img x hx).1, (P.used _).2 (.inl (g.img x hx).2)⟩
    · rw [P.new i hi]
      exact ⟨by rw [← hl]; exact (cycFacts hq).lt D hD _ (get_mem D _ (hmod i)), (P.used _).2 (.inr ⟨i, hi, rfl⟩)⟩
  · intro x hx
    rcases split x hx with hx | ⟨i, hi, rfl⟩
    · rw [hold x hx, hold _ (pre_step hp hAm hx)]
      exact g.rel x hx
    · have hi1 : (i + 1) % c.length < c.length := Nat.mod_lt _ (by omega)
      rw [P.new i hi, (cycFacts hp).step c hcm i hi, P.new _ hi1, (cycFacts hq).step D hD _ (hmod i), ← hDl, Nat.add_mod_mod, Nat.mod_add_mod, Nat.add_assoc]
  · intro y hy
    rcases (P.used y).1 hy with hy | ⟨i, hi, rfl⟩
    · obtain ⟨x, hx, he⟩ := g.onto y hy
      exact ⟨x, by rw [hfl]; exact List.mem_append_left _ hx, by rw [hold x hx, he]⟩
    · exact ⟨c[i]?.getD 0, by rw [hfl]; exact List.mem_append_right _ (get_mem c i hi), P.new i hi⟩
  · intro x hx x' hx' e
    rcases split x hx with hx | ⟨i, hi, rfl⟩
    · rcases split x' hx' with hx' | ⟨i', hi', rfl⟩
      · rw [hold x hx, hold x' hx'] at e
        exact g.inj x hx x' hx' e
      · exfalso
        rw [hold x hx, P.new i' hi'] at e
        have := (g.img x hx).2
        rw [e, hnu i'] at this
        cases this
    · rcases split x' hx' with hx' | ⟨i', hi', rfl⟩
      · exfalso
        rw [hold x' hx', P.new i hi] at e
        have := (g.img x' hx').2
        rw [← e, hnu i] at this
        cases this
      · rw [P.new i hi, P.new i' hi', get_lt D _ (hmod i), get_lt D _ (hmod i')] at e
        have h1 := (List.getElem_inj (h₀ := hmod i) (h₁ := hmod i') ((cycFacts hq).nodup D hD)).1 e
        rw [rot_inj hj0 (by omega) (by omega) h1]
  · intro x hx
    rcases split x hx with hx | ⟨i, hi, rfl⟩
    · rw [hold x hx]; exact g.lens x hx
    · rw [P.new i hi, lenP_cyc hq hD _ (hmod i), lenP_cyc hp hcm i hi, hDl]
  · intro i hi
    rw [P.new i hi, cyc_iter hq hD i j0 hj0]

/-! ### The whole -/
def Less2 (L cs : List Nat) (A : List (List Nat)) : Prop := ∃ z ∈ A.flatten, (∀ y, y < z → y ∈ A.flatten ∧ L[y]?.getD 0 = cs[y]?.getD 0) ∧ L[z]?.getD 0 < cs[z]?.getD 0

def First (ps qs : List Nat) (A : List (List Nat)) (L : List Nat) : Prop := ∀ cs, ConjP cs ps qs → (∀ x ∈ A.flatten, L[x]?.getD 0 = cs[x]?.getD 0) ∨ Less2 L cs A

theorem first_step {ps qs : List Nat} (hp : IsPerm ps) (hq : IsPerm qs) (hl : qs.length = ps.length) {A B : List (List Nat)} {c : List Nat} (hA : allCyc ps = A ++ c :: B) {L : List Nat} {u : List Bool} (g : GInv ps qs A L u) (to : Nat) (hmin : ∀ j, j < to → blockedB u (lensL (allCyc qs)) c.length j = true)
    {L' : List Nat} (hold : ∀ x ∈ A.flatten, L'[x]?.getD 0 = L[x]?.getD 0) (hnew : ∀ i, i < c.length → L'[c[i]?.getD 0]?.getD 0 = (iterN qs i)[to]?.getD 0) (hto : to < ps.length) (h : First ps qs A L) : First ps qs (A ++ [c]) L' := by
  intro cs hc
  have hcm : c ∈ allCyc ps := by rw [hA]; exact List.mem_append_right _ (List.mem_cons_self ..)
  have hc1 : 1 ≤ c.length := ((cycFacts hp).len c hcm).1
  have hfl : (A ++ [c]).flatten = A.flatten ++ c := by simp
  rcases h cs hc with h | ⟨z, hz, hbelow, hlt⟩
  · have hx0 : c[0]?.getD 0 < ps.length := (cycFacts hp).lt c hcm _ (get_mem c 0 hc1)
    have hnb : blockedB u (lensL (allCyc qs)) c.length (cs[c[0]?.getD 0]?.getD 0) = false := by
      rw [blocked_no]
      constructor
      · cases hu : u[cs[c[0]?.getD 0]?.getD 0]?.getD false with
        | false => rfl
        | true =>
          exfalso
          obtain ⟨x, hx, he⟩ := g.onto _ hu
          rw [h x hx] at he
          have hAm : ∀ d ∈ A, d ∈ allCyc ps := fun d hd => pre_mem hA hd
          have := hc.perm.inj (by rw [hc.len]; exact pre_lt hp hAm hx) (by rw [hc.len]; exact hx0) he
          have hn := (cycMore hp).nodup
          rw [hA, List.flatten_append, List.flatten_cons, List.nodup_append] at hn
          exact hn.2.2 x hx (c[0]?.getD 0) (List.mem_append_left _ (get_mem c 0 hc1)) this
      · have := conj_len hc hp hq hl _ hx0
        rw [lenP_cyc hp hcm 0 hc1] at this
        exact this
    have hle : to ≤ cs[c[0]?.getD 0]?.getD 0 := by
      apply Nat.le_of_not_lt
      intro hlt
      rw [hmin _ hlt] at hnb
      cases hnb
    have hn0 := hnew 0 hc1
    have hi0 : (iterN qs 0)[to]?.getD 0 = to := range_get _ _ (by rw [hl]; exact hto)
    rw [hi0] at hn0
    by_cases he : to = cs[c[0]?.getD 0]?.getD 0
    · refine .inl fun x hx => ?_
      rw [hfl, List.mem_append] at hx
      rcases hx with hx | hx
      · rw [hold x hx, h x hx]
      · obtain ⟨i, hi, hxi⟩ := List.getElem_of_mem hx
        have hxi' : c[i]?.getD 0 = x := by simp [hi, hxi]
        rw [← hxi', hnew i hi, he, ← conj_iter hc hp hq hl i _ hx0, cyc_iter hp hcm i 0 hc1, Nat.zero_add, Nat.mod_eq_of_lt hi]
    · refine .inr ⟨c[0]?.getD 0, by rw [hfl]; exact List.mem_append_right _ (get_mem c 0 hc1), fun y hy => ?_, by rw [hn0]; omega⟩
      have := (cycMore hp).heads A c B hA y hy
      exact ⟨by rw [hfl]; exact List.mem_append_left _ this, by rw [hold y this, h y this]⟩
  · refine .inr ⟨z, by rw [hfl]; exact List.mem_append_left _ hz, fun y hy => ?_, by rw [hold z hz]; exact hlt⟩
    obtain ⟨h1, h2⟩ := hbelow y hy
    exact ⟨by rw [hfl]; exact List.mem_append_left _ h1, by rw [hold y h1, h2]⟩

/-- How many points lie in cycles of l points. -/
def cntP (ps : List Nat) (l : Nat) : Nat := ((List.range ps.length).filter (fun x => decide (lenP ps x = l))).length

theorem fail_cnt {ps qs : List Nat} (hp : IsPerm ps) (hl : qs.length = ps.length) {A B : List (List Nat)} {c : List Nat} (hA : allCyc ps = A ++ c :: B) {L : List Nat} {u : List Bool} (g : GInv ps qs A L u) (hall : ∀ j, j < ps.length → blockedB u (lensL (allCyc qs)) c.length j = true) : cntP qs c.length < cntP ps c.length := by
  have hcm : c ∈ allCyc ps := by rw [hA]; exact List.mem_append_right _ (List.mem_cons_self ..)
  have hAm : ∀ d ∈ A, d ∈ allCyc ps := fun d hd => pre_mem hA hd
  have hc1 : 1 ≤ c.length := ((cycFacts hp).len c hcm).1
  have hn := (cycMore hp).nodup
  rw [hA, List.flatten_append, List.flatten_cons, List.nodup_append] at hn
  -- the points of q are images of the points that have been placed
  have h1 : cntP qs c.length ≤ ((A.flatten.filter (fun x => decide (lenP ps x = c.length))).map (fun x => L[x]?.getD 0)).length := by
    refine nodup_len _ _ (List.nodup_range.filter _) (fun y hy => ?_)
    rw [List.mem_filter, List.mem_range, decide_eq_true_eq] at hy
    have hb := hall y (by rw [← hl]; exact hy.1)
    have hu : u[y]?.getD false = true := by
      cases hu : u[y]?.getD false with
      | true => rfl
      | false =>
        have := blocked_no.2 ⟨hu, hy.2⟩
        rw [hb] at this
        cases this
    obtain ⟨x, hx, rfl⟩ := g.onto y hu
    exact List.mem_map.2 ⟨x, List.mem_filter.2 ⟨hx, by rw [decide_eq_true_eq, ← g.lens x hx]; exact hy.2⟩, rfl⟩
  have h2 : (c[0]?.getD 0 :: A.flatten.filter (fun x => decide (lenP ps x = c.length))).length ≤ cntP ps c.length := by
    refine nodup_len _ _ (List.nodup_cons.2 ⟨fun h => ?_, hn.1.filter _⟩) (fun x hx => ?_)
    · exact hn.2.2 _ (List.mem_filter.1 h).1 _ (List.mem_append_left _ (get_mem c 0 hc1)) rfl
    · rw [List.mem_filter, List.mem_range, decide_eq_true_eq]
      rcases List.mem_cons.1 hx with rfl | hx
      · exact ⟨(cycFacts hp).lt c hcm _ (get_mem c 0 hc1), lenP_cyc hp hcm 0 hc1⟩
      · rw [List.mem_filter, decide_eq_true_eq] at hx
        exact ⟨pre_lt hp hAm hx.1, hx.2⟩
  rw [List.length_map] at h1
  rw [List.length_cons] at h2
  omega

theorem conj_cnt {cs ps qs : List Nat} (h : ConjP cs ps qs) (hp : IsPerm ps) (hq : IsPerm qs) (hl : qs.length = ps.length) (l : Nat) : cntP ps l = cntP qs l := by
  have inj : ∀ (t : List Nat), t.Nodup → (∀ x ∈ t, x < ps.length) → (t.map fun x => cs[x]?.getD 0).Nodup := by
    intro t ht hlt
    induction t with
    | nil => exact List.nodup_nil
    | cons x t ih =>
      obtain ⟨hx, ht⟩ := List.nodup_cons.1 ht
      rw [List.map_cons, List.nodup_cons]
      refine ⟨fun hm => ?_, ih ht (fun y hy => hlt y (List.mem_cons_of_mem _ hy))⟩
      obtain ⟨y, hy, he⟩ := List.mem_map.1 hm
      have := h.perm.inj (by rw [h.len]; exact hlt y (List.mem_cons_of_mem _ hy)) (by rw [h.len]; exact hlt x (List.mem_cons_self ..)) he
      exact hx (this ▸ hy)
  have hrl : ∀ x ∈ (List.range ps.length).filter (fun x => decide (lenP ps x = l)), x < ps.length := fun x hx => List.mem_range.1 (List.mem_filter.1 hx).1
  apply Nat.le_antisymm
  · have h1 := nodup_len _ ((List.range qs.length).filter (fun x => decide (lenP qs x = l))) (inj _ (List.nodup_range.filter _) hrl) (fun y hy => by
      obtain ⟨x, hx, rfl⟩ := List.mem_map.1 hy
      rw [List.mem_filter, List.mem_range, decide_eq_true_eq] at hx ⊢
      exact ⟨by rw [hl]; exact h.lt x hx.1, by rw [conj_len h hp hq hl x hx.1]; exact hx.2⟩)
    rw [List.length_map] at h1
    exact h1
  · have h1 := nodup_len ((List.range qs.length).filter (fun x => decide (lenP qs x = l))) (((List.range ps.length).filter (fun x => decide (lenP ps x = l))).map fun x => cs[x]?.getD 0) (List.nodup_range.filter _) (fun y hy => by
      rw [List.mem_filter, List.mem_range, decide_eq_true_eq] at hy
      have hm := h.perm.mem y (by rw [h.len, ← hl]; exact hy.1)
      obtain ⟨x, hx, he⟩ := List.getElem_of_mem hm
      rw [h.len] at hx
      have hxe : cs[x]?.getD 0 = y := by rw [get_lt cs x (by rw [h.len]; exact hx)]; exact he
      refine List.mem_map.2 ⟨x, ?_, hxe⟩
      rw [List.mem_filter, List.mem_range, decide_eq_true_eq]
      exact ⟨hx, by rw [← conj_len h hp hq hl x hx, hxe]; exact hy.2⟩)
    rw [List.length_map] at h1
    exact h1

theorem go_some {ps qs : List Nat} (hp : IsPerm ps) (hq : IsPerm qs) (hl : qs.length = ps.length) : ∀ (B A : List (List Nat)) (L : List Nat) (u : List Bool), allCyc ps = A ++ B → GInv ps qs A L u → First ps qs A L →
    (∃ s, conjGo qs (lensL (allCyc qs)) ps.length B (L, u) = some s ∧ GInv ps qs (allCyc ps) s.1 s.2 ∧ First ps qs (allCyc ps) s.1) ∨ (conjGo qs (lensL (allCyc qs)) ps.length B (L, u) = none ∧ ∃ l, cntP qs l < cntP ps l)
  | [], A, L, u, hA, g, f => .inl ⟨(L, u), rfl, by rw [hA, List.append_nil]; exact g, by rw [hA, List.append_nil]; exact f⟩
  | c :: B, A, L, u, hA, g, f => by
    obtain ⟨s1, s2, s3⟩ := pick_spec u (lensL (allCyc qs)) c.length ps.length
    obtain ⟨to, hto⟩ : ∃ to, pick u (lensL (allCyc qs)) c.length ps.length = to := ⟨_, rfl⟩
    rw [hto] at s1 s2 s3
    show (∃ s, (if pick u (lensL (allCyc qs)) c.length ps.length = ps.length then none else _) = some s ∧ _) ∨ ((if pick u (lensL (allCyc qs)) c.length ps.length = ps.length then none else _) = none ∧ _)
    rw [hto]
    by_cases e : to = ps.length
    · rw [if_pos e]
      exact .inr ⟨rfl, c.length, fail_cnt hp hl hA g (fun j hj => s2 j (by omega))⟩
    · rw [if_neg e]
      rcases s3 with s3 | s3
      · exact absurd s3 e
      · obtain ⟨hu, hle⟩ := blocked_no.1 s3
        obtain ⟨g', hold, hnew⟩ := ginv_step hp hq hl hA g to (by omega) hu hle
        exact go_some hp hq hl B (A ++ [c]) _ _ (by rw [hA]; simp) g' (first_step hp hq hl hA g to s2 hold hnew (by omega) f)

theorem first_less {L cs : List Nat} {n : Nat} (h1 : L.length = n) (h2 : cs.length = n) (z : Nat) (hz : z < n) (hb : ∀ y, y < z → L[y]?.getD 0 = cs[y]?.getD 0) (hlt : L[z]?.getD 0 < cs[z]?.getD 0) : lessN L cs = true := by
  have key : ∀ k, k ≤ z → lessN (L.drop (z - k)) (cs.drop (z - k)) = true := by
    intro k
    induction k with
    | zero =>
      intro _
      rw [Nat.sub_zero, lessN_diff L cs z (by omega) (by omega) (by omega)]
      exact decide_eq_true hlt
    | succ k ih =>
      intro hk
      rw [lessN_same L cs (z - (k + 1)) (by omega) (by omega) (hb _ (by omega)), show z - (k + 1) + 1 = z - k by omega]
      exact ih (by omega)
  have := key z (Nat.le_refl _)
  rwa [Nat.sub_self, List.drop_zero, List.drop_zero] at this

/-- WHAT THE CHOICE IS: a conjugating permutation ahead of all others, or there is none, and then the cycles differ in their lengths. -/
theorem conjN_spec {ps qs : List Nat} (hp : IsPerm ps) (hq : IsPerm qs) (hl : qs.length = ps.length) :
    (∃ L, conjN ps qs = some L ∧ ConjP L ps qs ∧ ∀ cs, ConjP cs ps qs → cs = L ∨ lessN L cs = true) ∨ (conjN ps qs = none ∧ (∃ l, cntP qs l < cntP ps l) ∧ ∀ cs, ¬ ConjP cs ps qs) := by
  rcases go_some hp hq hl (allCyc ps) [] _ _ rfl (ginv_nil ps qs) (fun cs _ => .inl (by simp)) with ⟨s, hs, g, f⟩ | ⟨hs, l, hlt⟩
  · refine .inl ⟨s.1, by unfold conjN conj0; rw [hs]; rfl, ?_, ?_⟩
    · have hcov := (cycFacts hp).cover
      refine ⟨isPerm_of _ ps.length hp.1 hp.2.1 g.lenL (fun k hk => (g.img k (hcov k hk)).1) (fun i j hi hj e => g.inj i (hcov i hi) j (hcov j hj) e), g.lenL, fun x hx => g.rel x (hcov x hx)⟩
    · intro cs hc
      rcases f cs hc with h | ⟨z, hz, hb, hlt⟩
      · exact .inl (ext_getD _ _ ps.length hc.len g.lenL (fun x hx => (h x ((cycFacts hp).cover x hx)).symm))
      · exact .inr (first_less g.lenL hc.len z (pre_lt hp (fun d hd => hd) hz) (fun y hy => (hb y hy).2) hlt)
  · refine .inr ⟨by unfold conjN conj0; rw [hs]; rfl, ⟨l, hlt⟩, fun cs hc => ?_⟩
    have := conj_cnt hc hp hq hl l
    omega
end Go.Proofs.Ytdpnmepplkiljaa
