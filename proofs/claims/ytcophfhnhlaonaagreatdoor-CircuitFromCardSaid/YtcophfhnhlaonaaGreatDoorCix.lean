/-
  The gates of a formula, plainly: each gate unfolds into a tree; values and depths are those of the trees; the last gate is the formula.
-/
import Derived.Test.YtcophfhnhlaonaaGreatDoorJg
import Derived.Test.YtcophfhnhlaonaaGreatDoorJd
namespace Go.Proofs.YtcophfhnhlaonaaGreatDoor
set_option linter.unusedVariables false

/-- A gate whose kids unfold into us unfolds into u. -/
def UnfA (us : List Tre) (g : Gat) (e : Nat) (u : Tre) : Prop :=
  ∃ ts : List Tre, u = .mk g.k g.n ts ∧ g.ks.length = ts.length ∧ ∀ (j : Nat) (x : Int), g.ks[j]? = some x → 0 ≤ x ∧ x < (e : Int) ∧ us[x.toNat]? = ts[j]?
/-- Gates that unfold into trees. -/
def Unf (gs : List Gat) (us : List Tre) : Prop := gs.length = us.length ∧ ∀ (i : Nat) (g : Gat), gs[i]? = some g → ∃ u, us[i]? = some u ∧ UnfA us g i u
theorem UnfA.append {us vs : List Tre} {g : Gat} {e : Nat} {u : Tre} (h : UnfA us g e u) (he : e ≤ us.length) : UnfA (us ++ vs) g e u := by
  obtain ⟨ts, h1, h2, h3⟩ := h
  exact ⟨ts, h1, h2, fun j x hx => ⟨(h3 j x hx).1, (h3 j x hx).2.1, by rw [List.getElem?_append_left (by have := h3 j x hx; omega)]; exact (h3 j x hx).2.2⟩⟩
theorem UnfA.unique {us : List Tre} {g : Gat} {e e' : Nat} {u u' : Tre} (h : UnfA us g e u) (h' : UnfA us g e' u') : u = u' := by
  obtain ⟨ts, rfl, h2, h3⟩ := h
  obtain ⟨ts', rfl, h2', h3'⟩ := h'
  have : ts = ts' := by
    apply List.ext_getElem?
    intro j
    cases hx : g.ks[j]? with
    | some x => rw [← (h3 j x hx).2.2, ← (h3' j x hx).2.2]
    | none =>
      have := List.getElem?_eq_none_iff.1 hx
      rw [List.getElem?_eq_none (by omega), List.getElem?_eq_none (by omega)]
  rw [this]
theorem Unf.push {gs : List Gat} {us : List Tre} {g : Gat} {u : Tre} (h : Unf gs us) (hu : UnfA us g gs.length u) : Unf (gs ++ [g]) (us ++ [u]) := by
  refine ⟨by simp [h.1], fun i x hx => ?_⟩
  by_cases hi : i < gs.length
  · rw [List.getElem?_append_left hi] at hx
    obtain ⟨v, h1, h2⟩ := h.2 i x hx
    exact ⟨v, by rw [List.getElem?_append_left (by rw [← h.1]; exact hi)]; exact h1, h2.append (by rw [← h.1]; omega)⟩
  · have hil : i = gs.length := by
      have := (List.getElem?_eq_some_iff.1 hx).1
      simp at this
      omega
    subst hil
    rw [List.getElem?_append_right (Nat.le_refl _), Nat.sub_self] at hx
    simp at hx
    subst hx
    exact ⟨u, by rw [h.1, List.getElem?_append_right (Nat.le_refl _), Nat.sub_self]; rfl, hu.append (by rw [h.1]; exact Nat.le_refl _)⟩
theorem idx_at {gs : List Gat} {g : Gat} {i : Nat} (h : gs.findIdx? (fun x => decide (x = g)) = some i) : gs[i]? = some g := by
  obtain ⟨h1, h2, _⟩ := List.findIdx?_eq_some_iff_getElem.1 h
  rw [List.getElem?_eq_getElem h1]
  simpa using h2

mutual
theorem addT_unf (m : Nat) : ∀ (t : Tre) (gs : List Gat) (us : List Tre), Unf gs us → ∃ us', Unf (addT t gs).1 (us ++ us') ∧ (us ++ us')[(addT t gs).2]? = some t ∧ ∀ u ∈ us', SizeOf.sizeOf u ≤ SizeOf.sizeOf t ∧ (okT fSh m t → okT fSh m u)
  | .mk k n ts, gs, us, h => by
    obtain ⟨us1, h1, h2, h3⟩ := addK_unf m ts gs us h
    have hlen := addK_length ts gs
    have hg : UnfA (us ++ us1) ⟨k, n, (addK ts gs).2⟩ (addK ts gs).1.length (.mk k n ts) := ⟨ts, rfl, hlen, h2⟩
    have hk : ∀ u ∈ us1, SizeOf.sizeOf u ≤ SizeOf.sizeOf (Tre.mk k n ts) ∧ (okT fSh m (.mk k n ts) → okT fSh m u) := fun u hu => by
      obtain ⟨t, ht, hs, ho⟩ := h3 u hu
      have := kid_size (k := k) (n := n) ht
      refine ⟨by omega, fun hok => ho ?_⟩
      rw [okT] at hok
      obtain ⟨j, hj, rfl⟩ := List.getElem_of_mem ht
      exact okL_at hok.2.2 (List.getElem?_eq_getElem hj)
    rw [addT]
    unfold addOne
    split
    · rename_i i hi
      obtain ⟨v, hv1, hv2⟩ := h1.2 i _ (idx_at hi)
      exact ⟨us1, h1, by rw [hv1, hv2.unique hg], hk⟩
    · refine ⟨us1 ++ [.mk k n ts], ?_, ?_, fun u hu => ?_⟩
      · rw [← List.append_assoc]
        exact h1.push hg
      · rw [← List.append_assoc, h1.1, List.getElem?_append_right (Nat.le_refl _), Nat.sub_self]
        rfl
      · simp only [List.mem_append, List.mem_singleton] at hu
        rcases hu with hu | rfl
        · exact hk u hu
        · exact ⟨Nat.le_refl _, id⟩
theorem addK_unf (m : Nat) : ∀ (ts : List Tre) (gs : List Gat) (us : List Tre), Unf gs us → ∃ us', Unf (addK ts gs).1 (us ++ us') ∧ (∀ (j : Nat) (x : Int), (addK ts gs).2[j]? = some x → 0 ≤ x ∧ x < ((addK ts gs).1.length : Int) ∧ (us ++ us')[x.toNat]? = ts[j]?) ∧ ∀ u ∈ us', ∃ t ∈ ts, SizeOf.sizeOf u ≤ SizeOf.sizeOf t ∧ (okT fSh m t → okT fSh m u)
  | [], gs, us, h => by
    rw [addK]
    exact ⟨[], by simpa using h, by simp, by simp⟩
  | t :: ts, gs, us, h => by
    obtain ⟨us1, h1, h2, h3⟩ := addT_unf m t gs us h
    obtain ⟨us2, k1, k2, k3⟩ := addK_unf m ts (addT t gs).1 (us ++ us1) h1
    have hl := (addT_lt t gs).1
    have hp := (addK_lt ts (addT t gs).1).2.1.length_le
    rw [addK]
    refine ⟨us1 ++ us2, by rw [← List.append_assoc]; exact k1, fun j x hx => ?_, fun u hu => ?_⟩
    · rw [← List.append_assoc]
      match j, hx with
      | 0, hx =>
        simp at hx
        subst hx
        refine ⟨by omega, by dsimp only; omega, ?_⟩
        rw [Int.toNat_natCast, List.getElem?_append_left (by rw [← h1.1]; exact hl), h2]
        rfl
      | j + 1, hx =>
        have := k2 j x (by simpa using hx)
        simpa using this
    · simp only [List.mem_append] at hu
      rcases hu with hu | hu
      · exact ⟨t, by simp, h3 u hu⟩
      · obtain ⟨t', ht', hs⟩ := k3 u hu
        exact ⟨t', by simp [ht'], hs⟩
end
/-- The last gate is the formula itself. -/
theorem gates_last (m : Nat) (t : Tre) (hok : okT fSh m t) : ∃ us, Unf (gatesT t) us ∧ us[(gatesT t).length - 1]? = some t ∧ (∀ u ∈ us, okT fSh m u) ∧ 1 ≤ (gatesT t).length ∧ (gatesT t).length ≤ nodT t := by
  have hlt := addT_lt t []
  obtain ⟨k, n, ts⟩ := t
  obtain ⟨us1, h1, h2, h3⟩ := addK_unf m ts [] [] ⟨rfl, by simp⟩
  simp only [List.nil_append] at h1 h2
  have hlen := addK_length ts []
  have hg : UnfA us1 ⟨k, n, (addK ts []).2⟩ (addK ts []).1.length (.mk k n ts) := ⟨ts, rfl, hlen, h2⟩
  have hsz : ∀ u ∈ us1, SizeOf.sizeOf u < SizeOf.sizeOf (Tre.mk k n ts) ∧ okT fSh m u := fun u hu => by
    obtain ⟨t, ht, hs, ho⟩ := h3 u hu
    have := kid_size (k := k) (n := n) ht
    refine ⟨by omega, ho ?_⟩
    rw [okT] at hok
    obtain ⟨j, hj, rfl⟩ := List.getElem_of_mem ht
    exact okL_at hok.2.2 (List.getElem?_eq_getElem hj)
  have hnew : (addK ts []).1.findIdx? (fun x => decide (x = ⟨k, n, (addK ts []).2⟩)) = none := by
    cases hf : (addK ts []).1.findIdx? (fun x => decide (x = ⟨k, n, (addK ts []).2⟩)) with
    | none => rfl
    | some i =>
      obtain ⟨v, hv1, hv2⟩ := h1.2 i _ (idx_at hf)
      have := (hsz v (List.mem_of_getElem? hv1)).1
      rw [hv2.unique hg] at this
      omega
  have hG : gatesT (.mk k n ts) = (addK ts []).1 ++ [⟨k, n, (addK ts []).2⟩] := by
    unfold gatesT
    rw [addT, addOne, hnew]
  have hle : (gatesT (.mk k n ts)).length ≤ nodT (.mk k n ts) := by
    have := hlt.2.2
    simpa [gatesT] using this
  refine ⟨us1 ++ [.mk k n ts], by rw [hG]; exact h1.push hg, ?_, fun u hu => ?_, by rw [hG]; simp, hle⟩
  · rw [hG, List.length_append, List.length_singleton, Nat.add_sub_cancel, h1.1, List.getElem?_append_right (Nat.le_refl _), Nat.sub_self]
    rfl
  · simp only [List.mem_append, List.mem_singleton] at hu
    rcases hu with hu | rfl
    · exact (hsz u hu).2
    · exact hok

theorem evL_at (f : Nat → Bool) : ∀ (ts : List Tre) (j : Nat), (evL f ts)[j]? = ts[j]?.map (evT f)
  | [], j => by simp [evL]
  | t :: ts, 0 => by simp [evL]
  | t :: ts, j + 1 => by simp [evL, evL_at f ts j]
theorem okT_shape {m : Nat} {k n : Int} {ts : List Tre} (h : okT fSh m (.mk k n ts)) : (k = 0 ∧ 0 ≤ n ∧ n < (m : Int) ∧ ts = []) ∨ (k = 1 ∧ 0 ≤ n ∧ n < 2 ∧ ts = []) ∨ (k = 2 ∧ n = 0 ∧ ∃ a, ts = [a]) ∨ ((k = 3 ∨ k = 4 ∨ k = 5) ∧ n = 0 ∧ ∃ a b, ts = [a, b]) := by
  rw [okT] at h
  obtain ⟨s, hs, a1, a2, a3, a4⟩ := permN_of h.1
  have h6 := (List.getElem?_eq_some_iff.1 hs).1
  simp only [fSh, List.length_cons, List.length_nil] at h6
  have hkk : k = 0 ∨ k = 1 ∨ k = 2 ∨ k = 3 ∨ k = 4 ∨ k = 5 := by omega
  rcases hkk with rfl | rfl | rfl | rfl | rfl | rfl <;> cases hs
  · exact .inl ⟨rfl, a2, h.2.1 rfl, List.eq_nil_of_length_eq_zero a4⟩
  · exact .inr (.inl ⟨rfl, a2, a3, List.eq_nil_of_length_eq_zero a4⟩)
  · exact .inr (.inr (.inl ⟨rfl, by simp at a3; omega, List.length_eq_one_iff.1 a4⟩))
  · exact .inr (.inr (.inr ⟨.inl rfl, by simp at a3; omega, length_two a4⟩))
  · exact .inr (.inr (.inr ⟨.inr (.inl rfl), by simp at a3; omega, length_two a4⟩))
  · exact .inr (.inr (.inr ⟨.inr (.inr rfl), by simp at a3; omega, length_two a4⟩))

section
variable {m : Nat} {gs : List Gat} {us : List Tre}
theorem Unf.okG (h : Unf gs us) (hok : ∀ u ∈ us, okT fSh m u) {i : Nat} {g : Gat} (hg : gs[i]? = some g) {inp : Int} (hm : (m : Int) ≤ inp) : okG inp i g = true := by
  obtain ⟨u, hu, ts, rfl, hl, hk⟩ := h.2 i g hg
  have hs := okT_shape (hok _ (List.mem_of_getElem? hu))
  have hkid : kidsN i g.ks = true := by
    rw [kidsN, List.all_eq_true]
    intro x hx
    obtain ⟨j, hj, rfl⟩ := List.getElem_of_mem hx
    have := hk j _ (List.getElem?_eq_getElem hj)
    rw [kidN, decide_eq_true this.1, decide_eq_true this.2.1]
    rfl
  have hsh : shpN inp g.k g.n g.ks.length = true := by
    rcases hs with ⟨e, n0, n1, rfl⟩ | ⟨e, n0, n1, rfl⟩ | ⟨e, n0, a, rfl⟩ | ⟨e, n0, a, b, rfl⟩
    · rw [e, shp0, decide_eq_true n0, decide_eq_true (by omega : g.n < inp), decide_eq_true (by simpa using hl)]; rfl
    · rw [e, shp1, decide_eq_true n0, decide_eq_true (by omega : g.n < 2), decide_eq_true (by simpa using hl)]; rfl
    · rw [e, n0, shp2, hl]; rfl
    · rcases e with e | e | e
      · rw [e, n0, shp3, hl]; rfl
      · rw [e, n0, shp4, hl]; rfl
      · rw [e, n0, shp5, hl]; rfl
  unfold Go.Proofs.YtcophfhnhlaonaaGreatDoor.okG
  rw [hsh, hkid]
  rfl
theorem Unf.vals (h : Unf gs us) (hok : ∀ u ∈ us, okT fSh m u) (f : Nat → Bool) : ∀ i, i ≤ gs.length → runL (gvG f) (gs.take i) [] = (us.take i).map (evT f)
  | 0, _ => by simp [runL]
  | i + 1, hi => by
    obtain ⟨g, hg⟩ : ∃ g, gs[i]? = some g := ⟨_, List.getElem?_eq_getElem (by omega)⟩
    obtain ⟨u, hu, ts, rfl, hl, hk⟩ := h.2 i g hg
    have ih := Unf.vals h hok f i (by omega)
    rw [runL_next hg, ih, List.take_add_one, hu, List.map_append]
    simp only [Option.toList_some, List.map_cons, List.map_nil]
    congr 2
    have hat : ∀ j t, ts[j]? = some t → atB ((us.take i).map (evT f)) (g.ks[j]?.getD 0) = (evL f ts)[j]?.getD false := fun j t ht => by
      have hjl : j < g.ks.length := by have := (List.getElem?_eq_some_iff.1 ht).1; omega
      have hx := List.getElem?_eq_getElem hjl
      obtain ⟨x0, x1, x2⟩ := hk j _ hx
      rw [hx, Option.getD_some, atB, List.getElem?_map, List.getElem?_take, if_pos (by omega), x2, evL_at]
    rw [evT, evC, gvG]
    rcases okT_shape (hok _ (List.mem_of_getElem? hu)) with ⟨e, _⟩ | ⟨e, _⟩ | ⟨e, _, a, rfl⟩ | ⟨e, _, a, b, rfl⟩
    · rw [e]; rfl
    · rw [e]; rfl
    · rw [e, if_neg (by decide), if_neg (by decide), if_pos rfl, if_neg (by decide), if_neg (by decide), if_pos rfl, hat 0 a rfl]
    · have ha := hat 0 a rfl
      have hb := hat 1 b rfl
      rcases e with e | e | e
      · rw [e, if_neg (by decide), if_neg (by decide), if_neg (by decide), if_pos rfl, if_neg (by decide), if_neg (by decide), if_neg (by decide), if_pos rfl, ha, hb]
      · rw [e, if_neg (by decide), if_neg (by decide), if_neg (by decide), if_neg (by decide), if_pos rfl, if_neg (by decide), if_neg (by decide), if_neg (by decide), if_neg (by decide), if_pos rfl, ha, hb]
      · rw [e, if_neg (by decide), if_neg (by decide), if_neg (by decide), if_neg (by decide), if_neg (by decide), if_neg (by decide), if_neg (by decide), if_neg (by decide), if_neg (by decide), if_neg (by decide), ha, hb]
theorem greatN_dep (ds : List Nat) : ∀ (ks : List Int) (ts : List Tre) (m : Nat), ks.length = ts.length → (∀ (j : Nat) (x : Int) (t : Tre), ks[j]? = some x → ts[j]? = some t → ds[x.toNat]?.getD 0 = depT fSh t) → greatN ds ks m = depL fSh ts m
  | [], [], m, _, _ => by rw [greatN, depL]
  | [], _ :: _, m, hl, _ => by simp at hl
  | _ :: _, [], m, hl, _ => by simp at hl
  | x :: ks, t :: ts, m, hl, h => by
    rw [greatN, depL, h 0 x t rfl rfl]
    exact greatN_dep ds ks ts _ (by simpa using hl) (fun j y u hy hu => h (j + 1) y u (by simpa using hy) (by simpa using hu))
theorem Unf.deps (h : Unf gs us) : ∀ i, i ≤ gs.length → runL depG (gs.take i) [] = (us.take i).map (depT fSh)
  | 0, _ => by simp [runL]
  | i + 1, hi => by
    obtain ⟨g, hg⟩ : ∃ g, gs[i]? = some g := ⟨_, List.getElem?_eq_getElem (by omega)⟩
    obtain ⟨u, hu, ts, rfl, hl, hk⟩ := h.2 i g hg
    have ih := Unf.deps h i (by omega)
    rw [runL_next hg, ih, List.take_add_one, hu, List.map_append]
    simp only [Option.toList_some, List.map_cons, List.map_nil]
    congr 2
    rw [depG, depT, Nat.add_comm]
    congr 1
    refine greatN_dep _ _ _ _ hl fun j x t hx ht => ?_
    obtain ⟨x0, x1, x2⟩ := hk j x hx
    rw [List.getElem?_map, List.getElem?_take, if_pos (by omega), x2, ht]
    rfl
end
/-- What the gates of a formula are. -/
theorem gates_facts {m : Nat} {t : Tre} (hok : okT fSh m t) (hn : nodT t ≤ 20000) {inp : Int} (hm : (m : Int) ≤ inp) (h16 : inp ≤ 16) : okC inp (gatesT t) = true ∧ (gatesT t).length ≤ nodT t ∧ depC (gatesT t) = depT fSh t ∧ ∀ f, gvC f (gatesT t) = evT f t := by
  obtain ⟨us, h1, h2, h3, h4, h5⟩ := gates_last m t hok
  refine ⟨okC_iff.2 ⟨by omega, h16, h4, by omega, gokL_of fun j g hg => by rw [Nat.zero_add]; exact h1.okG h3 hg hm⟩, h5, ?_, fun f => ?_⟩
  · have := h1.deps _ (Nat.le_refl _)
    rw [List.take_length, List.take_of_length_le (by rw [h1.1]; exact Nat.le_refl _)] at this
    rw [depC, depsL, this, List.getElem?_map, h2]
    rfl
  · have := h1.vals h3 f _ (Nat.le_refl _)
    rw [List.take_length, List.take_of_length_le (by rw [h1.1]; exact Nat.le_refl _)] at this
    rw [gvC, gvL, this, List.getElem?_map, h2]
    rfl
end Go.Proofs.YtcophfhnhlaonaaGreatDoor
