/-
  Permutations as lists are a group, plainly.
-/
import Derived.Test.YtdpnmepplkiljaaDoorE
namespace Go.Proofs.YtdpnmepplkiljaaDoor

theorem ne_of_mem {x y : Nat} {t : List Nat} (hy : y ∈ t) (hx : x ∉ t) : y ≠ x := fun e => by subst e; exact hx hy

theorem nodup_len : ∀ (l m : List Nat), l.Nodup → (∀ x ∈ l, x ∈ m) → l.length ≤ m.length
  | [], _, _, _ => Nat.zero_le _
  | x :: t, m, hd, hm => by
    obtain ⟨hx, ht⟩ := List.nodup_cons.1 hd
    have hxm := hm x (List.mem_cons_self ..)
    have h := nodup_len t (m.erase x) ht (fun y hy => (List.mem_erase_of_ne (ne_of_mem hy hx)).2 (hm y (List.mem_cons_of_mem _ hy)))
    have h2 := List.length_erase_of_mem hxm
    have h3 := List.length_pos_of_mem hxm
    simp only [List.length_cons]
    omega

theorem IsPerm.mem {ps : List Nat} (h : IsPerm ps) (j : Nat) (hj : j < ps.length) : j ∈ ps := by
  by_cases hm : j ∈ ps
  · exact hm
  · exfalso
    have h2 := nodup_len ps ((List.range ps.length).erase j) h.2.2.2 (fun x hx => (List.mem_erase_of_ne (ne_of_mem hx hm)).2 (List.mem_range.2 (h.2.2.1 x hx)))
    rw [List.length_erase_of_mem (List.mem_range.2 hj), List.length_range] at h2
    omega

theorem get_lt (ps : List Nat) (k : Nat) (hk : k < ps.length) : ps[k]?.getD 0 = ps[k] := by simp [hk]

theorem ext_getD (a b : List Nat) (n : Nat) (ha : a.length = n) (hb : b.length = n) (h : ∀ k, k < n → a[k]?.getD 0 = b[k]?.getD 0) : a = b := by
  apply List.ext_getElem (by rw [ha, hb])
  intro i h1 h2
  have := h i (by omega)
  rwa [get_lt a i h1, get_lt b i h2] at this

theorem mulN_get (ps qs : List Nat) (k : Nat) (hk : k < ps.length) : (mulN ps qs)[k]?.getD 0 = qs[ps[k]?.getD 0]?.getD 0 := by
  simp [mulN, hk]

theorem backN_get (ps : List Nat) (k : Nat) (hk : k < ps.length) (hm : k ∈ ps) : (backN ps)[k]?.getD 0 = ps.idxOf k := by
  have : ps.idxOf k < ps.length := List.idxOf_lt_length_of_mem hm
  simp [backN, hk, this]

theorem IsPerm.inj {ps : List Nat} (h : IsPerm ps) {i j : Nat} (hi : i < ps.length) (hj : j < ps.length) (e : ps[i]?.getD 0 = ps[j]?.getD 0) : i = j := by
  rw [get_lt ps i hi, get_lt ps j hj] at e
  exact (List.getElem_inj (h₀ := hi) (h₁ := hj) h.2.2.2).1 e

theorem isPerm_of (l : List Nat) (n : Nat) (h1 : 1 ≤ n) (h7 : n ≤ 7) (hl : l.length = n) (hlt : ∀ k, k < n → l[k]?.getD 0 < n) (hinj : ∀ i j, i < n → j < n → l[i]?.getD 0 = l[j]?.getD 0 → i = j) : IsPerm l := by
  refine ⟨by omega, by omega, fun x hx => ?_, ?_⟩
  · obtain ⟨i, hi, rfl⟩ := List.getElem_of_mem hx
    have := hlt i (by omega)
    rw [get_lt l i hi] at this
    omega
  · rw [List.nodup_iff_pairwise_ne, List.pairwise_iff_getElem]
    intro i j hi hj hij e
    have := hinj i j (by omega) (by omega) (by rw [get_lt l i hi, get_lt l j hj, e])
    omega

theorem mulN_perm {ps qs : List Nat} (hp : IsPerm ps) (hq : IsPerm qs) (h : qs.length = ps.length) : IsPerm (mulN ps qs) := by
  refine isPerm_of _ ps.length hp.1 hp.2.1 (mulN_length ps qs) (fun k hk => ?_) (fun i j hi hj e => ?_)
  · rw [mulN_get ps qs k hk, ← h]
    exact hq.lt _ (by rw [h]; exact hp.lt k hk)
  · rw [mulN_get ps qs i hi, mulN_get ps qs j hj] at e
    exact hp.inj hi hj (hq.inj (by rw [h]; exact hp.lt i hi) (by rw [h]; exact hp.lt j hj) e)

theorem backN_perm {ps : List Nat} (hp : IsPerm ps) : IsPerm (backN ps) := by
  refine isPerm_of _ ps.length hp.1 hp.2.1 (backN_length ps) (backN_lt ps ps.length rfl) (fun i j hi hj e => ?_)
  rw [backN_get ps i hi (hp.mem i hi), backN_get ps j hj (hp.mem j hj)] at e
  have h1 := List.getElem_idxOf (List.idxOf_lt_length_of_mem (hp.mem i hi))
  have h2 := List.getElem_idxOf (List.idxOf_lt_length_of_mem (hp.mem j hj))
  simp only [e] at h1
  rw [← h1]
  exact h2

theorem range_perm {n : Nat} (h1 : 1 ≤ n) (h7 : n ≤ 7) : IsPerm (List.range n) :=
  ⟨by rw [List.length_range]; exact h1, by rw [List.length_range]; exact h7, fun x hx => by rw [List.length_range]; exact List.mem_range.1 hx, List.nodup_range⟩

theorem mul_assocN {ps qs rs : List Nat} (hp : IsPerm ps) (hq : qs.length = ps.length) : mulN (mulN ps qs) rs = mulN ps (mulN qs rs) := by
  refine ext_getD _ _ ps.length (by rw [mulN_length, mulN_length]) (mulN_length _ _) (fun k hk => ?_)
  rw [mulN_get _ _ k (by rw [mulN_length]; exact hk), mulN_get _ _ k hk, mulN_get _ _ k hk, mulN_get _ _ _ (by rw [hq]; exact hp.lt k hk)]

theorem one_mulN (ps : List Nat) : mulN (List.range ps.length) ps = ps := by
  refine ext_getD _ _ ps.length (by rw [mulN_length, List.length_range]) rfl (fun k hk => ?_)
  rw [mulN_get _ _ k (by rw [List.length_range]; exact hk)]
  congr 2
  simp [hk]

theorem mul_oneN {ps : List Nat} (hp : IsPerm ps) : mulN ps (List.range ps.length) = ps := by
  refine ext_getD _ _ ps.length (mulN_length _ _) rfl (fun k hk => ?_)
  have hlt := hp.lt k hk
  rw [mulN_get _ _ k hk]
  simp only [List.getElem?_range hlt, Option.getD_some]

theorem mul_backN {ps : List Nat} (hp : IsPerm ps) : mulN ps (backN ps) = List.range ps.length := by
  refine ext_getD _ _ ps.length (mulN_length _ _) List.length_range (fun k hk => ?_)
  have hlt := hp.lt k hk
  rw [mulN_get _ _ k hk, backN_get _ _ hlt (hp.mem _ hlt), get_lt ps k hk, hp.2.2.2.idxOf_getElem k hk]
  simp [hk]

theorem back_mulN {ps : List Nat} (hp : IsPerm ps) : mulN (backN ps) ps = List.range ps.length := by
  refine ext_getD _ _ ps.length (by rw [mulN_length, backN_length]) List.length_range (fun k hk => ?_)
  have hi := List.idxOf_lt_length_of_mem (hp.mem k hk)
  rw [mulN_get _ _ k (by rw [backN_length]; exact hk), backN_get _ _ hk (hp.mem k hk), get_lt _ _ hi, List.getElem_idxOf hi]
  simp [hk]
end Go.Proofs.YtdpnmepplkiljaaDoor
