/-
  Joined from Psa: see there.
-/
import Derived.Test.YtflmjdabmnpkjaaDoorUk
import Derived.Test.YtflmjdabmnpkjaaDoorUc
import Derived.Deep.AppendLies
namespace Go.Proofs.YtflmjdabmnpkjaaDoor
set_option linter.unusedVariables false
open Go.RowKit Go.Maps

/-- The merge of two lists of terms. -/
def mrg (add : Nat → Nat → Nat) : List Tm → List Tm → List Tm
  | [], q => q
  | s :: p, [] => s :: p
  | s :: p, t :: q => if cmpL s.2 t.2 < 0 then s :: mrg add p (t :: q) else if 0 < cmpL s.2 t.2 then t :: mrg add (s :: p) q else
      if add s.1 t.1 = 0 then mrg add p q else (add s.1 t.1, s.2) :: mrg add p q
termination_by p q => p.length + q.length
decreasing_by all_goals (simp_wf; try omega)

section
variable {q n : Nat} {add sub mul : Nat → Nat → Nat}

theorem mrg_mem (h : Rng q add sub mul) : ∀ (p p' : List Tm), CoLt q p → CoLt q p' → ∀ t ∈ mrg add p p', (t.1 < q) ∧ ((0 < t.1) ∨ (∃ s ∈ p, s = t) ∨ ∃ s ∈ p', s = t) ∧ ((∃ s ∈ p, s.2 = t.2) ∨ ∃ s ∈ p', s.2 = t.2)
  | [], p', _, hq, t, ht => by
    rw [mrg] at ht
    exact ⟨hq t ht, .inr (.inr ⟨t, ht, rfl⟩), .inr ⟨t, ht, rfl⟩⟩
  | s :: p, [], hp, _, t, ht => by
    rw [mrg] at ht
    exact ⟨hp t ht, .inr (.inl ⟨t, ht, rfl⟩), .inl ⟨t, ht, rfl⟩⟩
  | s :: p, t :: p', hp, hq, x, hx => by
    have hp' : CoLt q p := fun y hy => hp y (by simp [hy])
    have hq' : CoLt q p' := fun y hy => hq y (by simp [hy])
    rw [mrg] at hx
    split at hx
    · rcases List.mem_cons.1 hx with rfl | hx
      · exact ⟨hp _ (by simp), .inr (.inl ⟨_, by simp, rfl⟩), .inl ⟨_, by simp, rfl⟩⟩
      · obtain ⟨a, b, c⟩ := mrg_mem h p (t :: p') hp' hq x hx
        refine ⟨a, ?_, ?_⟩
        · rcases b with b | ⟨y, hy, e⟩ | b
          · exact .inl b
          · exact .inr (.inl ⟨y, by simp [hy], e⟩)
          · exact .inr (.inr b)
        · rcases c with ⟨y, hy, e⟩ | c
          · exact .inl ⟨y, by simp [hy], e⟩
          · exact .inr c
    · split at hx
      · rcases List.mem_cons.1 hx with rfl | hx
        · exact ⟨hq _ (by simp), .inr (.inr ⟨_, by simp, rfl⟩), .inr ⟨_, by simp, rfl⟩⟩
        · obtain ⟨a, b, c⟩ := mrg_mem h (s :: p) p' hp hq' x hx
          refine ⟨a, ?_, ?_⟩
          · rcases b with b | b | ⟨y, hy, e⟩
            · exact .inl b
            · exact .inr (.inl b)
            · exact .inr (.inr ⟨y, by simp [hy], e⟩)
          · rcases c with c | ⟨y, hy, e⟩
            · exact .inl c
            · exact .inr ⟨y, by simp [hy], e⟩
      · have key : ∀ y ∈ mrg add p p', (y.1 < q) ∧ ((0 < y.1) ∨ (∃ z ∈ s :: p, z = y) ∨ ∃ z ∈ t :: p', z = y) ∧ ((∃ z ∈ s :: p, z.2 = y.2) ∨ ∃ z ∈ t :: p', z.2 = y.2) := fun y hy => by
          obtain ⟨a, b, c⟩ := mrg_mem h p p' hp' hq' y hy
          refine ⟨a, ?_, ?_⟩
          · rcases b with b | ⟨z, hz, e⟩ | ⟨z, hz, e⟩
            · exact .inl b
            · exact .inr (.inl ⟨z, by simp [hz], e⟩)
            · exact .inr (.inr ⟨z, by simp [hz], e⟩)
          · rcases c with ⟨z, hz, e⟩ | ⟨z, hz, e⟩
            · exact .inl ⟨z, by simp [hz], e⟩
            · exact .inr ⟨z, by simp [hz], e⟩
        split at hx
        · exact key x hx
        · rename_i h0
          rcases List.mem_cons.1 hx with rfl | hx
          · exact ⟨h.add_lt (hp _ (by simp)) (hq _ (by simp)), .inl (by show 0 < add s.1 t.1; omega), .inl ⟨s, by simp, rfl⟩⟩
          · exact key x hx
termination_by p p' => p.length + p'.length
decreasing_by all_goals (simp_wf; try omega)

theorem mrg_length (add : Nat → Nat → Nat) : ∀ (p p' : List Tm), (mrg add p p').length ≤ p.length + p'.length
  | [], p' => by rw [mrg]; simp
  | s :: p, [] => by rw [mrg]; simp
  | s :: p, t :: p' => by
    rw [mrg]
    have h1 := mrg_length add p (t :: p')
    have h2 := mrg_length add (s :: p) p'
    have h3 := mrg_length add p p'
    split
    · simp at h1 ⊢; omega
    · split
      · simp at h2 ⊢; omega
      · split
        · simp; omega
        · simp; omega
termination_by p p' => p.length + p'.length
decreasing_by all_goals (simp_wf; try omega)

theorem mrg_cfs (h : Rng q add sub mul) (e : List Nat) : ∀ (p p' : List Tm), CoLt q p → CoLt q p' → cfs add (mrg add p p') e = add (cfs add p e) (cfs add p' e)
  | [], p', _, hq => by rw [mrg, cfs_nil, h.zero_add (cfs_lt h hq e)]
  | s :: p, [], hp, _ => by rw [mrg, cfs_nil, h.add_zero (cfs_lt h hp e)]
  | s :: p, t :: p', hp, hq => by
    have hp' : CoLt q p := fun y hy => hp y (by simp [hy])
    have hq' : CoLt q p' := fun y hy => hq y (by simp [hy])
    have hs := hp s (by simp)
    have ht := hq t (by simp)
    have c1 := cfs_lt h hp' e
    have c2 := cfs_lt h hq' e
    have c1' := cfs_lt h hp e
    have c2' := cfs_lt h hq e
    rw [mrg]
    split
    · have hm : CoLt q (mrg add p (t :: p')) := fun y hy => (mrg_mem h p (t :: p') hp' hq y hy).1
      rw [cfs_cons h hs hm, mrg_cfs h e p (t :: p') hp' hq, cfs_cons h hs hp']
      split
      · rw [h.add_assoc hs c1 c2']
      · rfl
    · split
      · have hm : CoLt q (mrg add (s :: p) p') := fun y hy => (mrg_mem h (s :: p) p' hp hq' y hy).1
        rw [cfs_cons h ht hm, mrg_cfs h e (s :: p) p' hp hq', cfs_cons h ht hq']
        split
        · rw [← h.add_assoc ht c1' c2, h.add_comm ht c1', h.add_assoc c1' ht c2]
        · rfl
      · rename_i n1 n2
        have he : s.2 = t.2 := cmpL_zero _ _ (by omega)
        have hm : CoLt q (mrg add p p') := fun y hy => (mrg_mem h p p' hp' hq' y hy).1
        have key : ∀ a b c d : Nat, a < q → b < q → c < q → d < q → add (add a b) (add c d) = add (add a c) (add b d) := fun a b c d ha hb hc hd => by
          rw [h.add_assoc ha hb (h.add_lt hc hd), ← h.add_assoc hb hc hd, h.add_comm hb hc, h.add_assoc hc hb hd, ← h.add_assoc ha hc (h.add_lt hb hd)]
        split
        · rename_i h0
          rw [mrg_cfs h e p p' hp' hq', cfs_cons h hs hp', cfs_cons h ht hq', ← he]
          by_cases hx : s.2 = e
          · rw [if_pos hx, if_pos hx, key _ _ _ _ hs c1 ht c2, h0, h.zero_add (h.add_lt c1 c2)]
          · rw [if_neg hx, if_neg hx]
        · rw [cfs_cons h (show ((add s.1 t.1, s.2) : Tm).1 < q from h.add_lt hs ht) hm, mrg_cfs h e p p' hp' hq', cfs_cons h hs hp', cfs_cons h ht hq', ← he]
          by_cases hx : s.2 = e
          · rw [if_pos hx, if_pos hx, if_pos hx, key _ _ _ _ hs c1 ht c2]
          · rw [if_neg hx, if_neg hx, if_neg hx]
termination_by p p' => p.length + p'.length
decreasing_by all_goals (simp_wf; try omega)

theorem mrg_above (add : Nat → Nat → Nat) (u : List Nat) : ∀ (p p' : List Tm), (∀ t ∈ p, cmpL u t.2 < 0) → (∀ t ∈ p', cmpL u t.2 < 0) → ∀ t ∈ mrg add p p', cmpL u t.2 < 0
  | [], p', _, hq, t, ht => by rw [mrg] at ht; exact hq t ht
  | s :: p, [], hp, _, t, ht => by rw [mrg] at ht; exact hp t ht
  | s :: p, t :: p', hp, hq, x, hx => by
    have hp' : ∀ y ∈ p, cmpL u y.2 < 0 := fun y hy => hp y (by simp [hy])
    have hq' : ∀ y ∈ p', cmpL u y.2 < 0 := fun y hy => hq y (by simp [hy])
    rw [mrg] at hx
    split at hx
    · rcases List.mem_cons.1 hx with rfl | hx
      · exact hp _ (by simp)
      · exact mrg_above add u p (t :: p') hp' hq x hx
    · split at hx
      · rcases List.mem_cons.1 hx with rfl | hx
        · exact hq _ (by simp)
        · exact mrg_above add u (s :: p) p' hp hq' x hx
      · split at hx
        · exact mrg_above add u p p' hp' hq' x hx
        · rcases List.mem_cons.1 hx with rfl | hx
          · exact hp s (by simp)
          · exact mrg_above add u p p' hp' hq' x hx
termination_by p p' => p.length + p'.length
decreasing_by all_goals (simp_wf; try omega)

theorem mrg_up (add : Nat → Nat → Nat) : ∀ (p p' : List Tm), p.Pairwise (fun s t => cmpL s.2 t.2 < 0) → p'.Pairwise (fun s t => cmpL s.2 t.2 < 0) → (mrg add p p').Pairwise (fun s t => cmpL s.2 t.2 < 0)
  | [], p', _, hq => by rw [mrg]; exact hq
  | s :: p, [], hp, _ => by rw [mrg]; exact hp
  | s :: p, t :: p', hp, hq => by
    have hp' := List.pairwise_cons.1 hp
    have hq' := List.pairwise_cons.1 hq
    rw [mrg]
    split
    · rename_i h1
      refine List.pairwise_cons.2 ⟨fun x hx => mrg_above add s.2 p (t :: p') hp'.1 (fun y hy => ?_) x hx, mrg_up add p (t :: p') hp'.2 hq⟩
      rcases List.mem_cons.1 hy with rfl | hy
      · exact h1
      · exact cmpL_trans _ _ _ h1 (hq'.1 y hy)
    · split
      · rename_i n1 h1
        have h2 : cmpL t.2 s.2 < 0 := by rw [cmpL_neg]; omega
        refine List.pairwise_cons.2 ⟨fun x hx => mrg_above add t.2 (s :: p) p' (fun y hy => ?_) hq'.1 x hx, mrg_up add (s :: p) p' hp hq'.2⟩
        rcases List.mem_cons.1 hy with rfl | hy
        · exact h2
        · exact cmpL_trans _ _ _ h2 (hp'.1 y hy)
      · rename_i n1 n2
        have he : s.2 = t.2 := cmpL_zero _ _ (by omega)
        split
        · exact mrg_up add p p' hp'.2 hq'.2
        · exact List.pairwise_cons.2 ⟨fun x hx => mrg_above add s.2 p p' hp'.1 (fun y hy => by rw [he]; exact hq'.1 y hy) x hx, mrg_up add p p' hp'.2 hq'.2⟩
termination_by p p' => p.length + p'.length
decreasing_by all_goals (simp_wf; try omega)

theorem mrg_ris (h : Rng q add sub mul) {p p' : List Tm} (hp : Ris q n p) (hp' : Ris q n p') : Ris q n (mrg add p p') := by
  refine ⟨fun t ht => ?_, fun t ht => ?_, mrg_up add p p' hp.up hp'.up⟩
  · obtain ⟨a, b, _⟩ := mrg_mem h p p' hp.lt hp'.lt t ht
    refine ⟨?_, a⟩
    rcases b with b | ⟨s, hs, rfl⟩ | ⟨s, hs, rfl⟩
    · exact b
    · exact (hp.co s hs).1
    · exact (hp'.co s hs).1
  · obtain ⟨_, _, c⟩ := mrg_mem h p p' hp.lt hp'.lt t ht
    rcases c with ⟨s, hs, e⟩ | ⟨s, hs, e⟩
    · rw [← e]; exact hp.ex s hs
    · rw [← e]; exact hp'.ex s hs
theorem mrg_ex (h : Rng q add sub mul) {p p' : List Tm} (hp : CoLt q p) (hp' : CoLt q p') (hx : ∀ t ∈ p, Ex n t.2) (hx' : ∀ t ∈ p', Ex n t.2) : ∀ t ∈ mrg add p p', Ex n t.2 := fun t ht => by
  obtain ⟨_, _, c⟩ := mrg_mem h p p' hp hp' t ht
  rcases c with ⟨s, hs, e⟩ | ⟨s, hs, e⟩
  · rw [← e]; exact hx s hs
  · rw [← e]; exact hx' s hs
end

theorem ret_val {a b : Value} (h : a = b) : Ending.returned a = .returned b := by rw [h]
def flatQ (out : List (Tm × Value)) : List Value := out.flatMap fun x => [.int .i64 (x.1.1 : Int), x.2]
theorem flatQ_length (out : List (Tm × Value)) : (flatQ out).length = out.length * 2 := by
  induction out with
  | nil => rfl
  | cons x l ih => simp [flatQ] at ih ⊢; omega
theorem flatQ_at : ∀ (out : List (Tm × Value)) (k : Nat) (x : Tm × Value), out[k]? = some x → (flatQ out)[k * 2]? = some (.int .i64 (x.1.1 : Int)) ∧ (flatQ out)[k * 2 + 1]? = some x.2
  | [], k, x, h => by simp at h
  | y :: l, 0, x, h => by
    simp at h
    subst h
    simp [flatQ]
  | y :: l, k + 1, x, h => by
    have := flatQ_at l k x (by simpa using h)
    rw [show (k + 1) * 2 = k * 2 + 1 + 1 by omega]
    simpa [flatQ] using this
/-- A row of terms that the call builds; the exponents lie where they lay. -/
structure AddR (w : World) (v : Value) (out : List (Tm × Value)) (W : World) : Prop where
  row : W.ownsRow w.heap.size 53 2 v out.length (flatQ out)
  bel : Below w.heap.size w W
  els : ∀ x ∈ out, SlR w x.2 (nz x.1.2)
theorem AddR.start (w W : World) (h : Below w.heap.size w W) : AddR w (.slice none 0 0) [] W := ⟨World.ownsRow_nil _ _ _ _, h, by simp⟩
theorem AddR.below {w W W' : World} {v : Value} {out : List (Tm × Value)} (h : AddR w v out W) (hB : Below W.heap.size W W') : AddR w v out W' :=
  ⟨ownsRow_below h.row hB, h.bel.trans (hB.mono h.bel.size), h.els⟩
theorem AddR.shape {w W : World} {v : Value} {out : List (Tm × Value)} (h : AddR w v out W) : ∃ A c, v = .slice A out.length c := by
  rcases h.row.2 with ⟨rfl, h0⟩ | ⟨g, cap, cur, rfl, _⟩
  · have h1 := h.row.1
    rw [h0] at h1
    have : out.length = 0 := by simp at h1; omega
    exact ⟨none, 0, by rw [this]⟩
  · exact ⟨_, _, rfl⟩
theorem AddR.push {w W W2 : World} {v v' : Value} {out : List (Tm × Value)} {tmp : Obj} (h : AddR w v out W) (t : Tm) (u : Value) (hu : SlR w u (nz t.2))
    (hown : W2.ownsRow w.heap.size 53 2 v' (out.length + 1) (flatQ out ++ [.int .i64 (t.1 : Int), u])) (hgrow : (W.alloc tmp).grownBy W2 v.ownBlock) : AddR w v' (out ++ [(t, u)]) W2 :=
  ⟨by simpa [flatQ] using hown, (h.bel.alloc h.bel.size tmp).grown hgrow (by have := h.bel.size; simp; omega) (fun k' e' => (h.row.lt k' e').1), fun x hx => by
    simp at hx
    rcases hx with hx | rfl
    · exact h.els x hx
    · exact hu⟩
theorem AddR.reads {w W : World} {v : Value} {out : List (Tm × Value)} (h : AddR w v out W) : ∃ A c, v = .slice A (out.map Prod.fst).length c ∧ RdP W A (tms (out.map Prod.fst)) := by
  rcases h.row.2 with ⟨rfl, h0⟩ | ⟨g, cap, cur, rfl, _⟩
  · have h1 := h.row.1
    rw [h0] at h1
    have : out = [] := List.length_eq_zero_iff.1 (by simp at h1; omega)
    subst this
    exact ⟨none, 0, rfl, fun k t hk => by simp at hk⟩
  · refine ⟨some ⟨g, 0, none⟩, cap, by simp, fun k t hk => ?_⟩
    obtain ⟨s, hs, rfl⟩ := tms_at hk
    rw [List.getElem?_map] at hs
    obtain ⟨x, hx, rfl⟩ := Option.map_eq_some_iff.1 hs
    obtain ⟨h1, h2⟩ := flatQ_at out k x hx
    have hkl : k < out.length := (List.getElem?_eq_some_iff.1 hx).1
    refine ⟨g, 0, x.2, rfl, ?_, ?_, (h.els x (List.mem_of_getElem? hx)).below h.bel⟩
    · have := h.row.cellAt (k * 2) (by omega)
      rw [Nat.zero_add, this, h1]
    · have := h.row.cellAt (k * 2 + 1) (by omega)
      rw [Nat.zero_add, this, h2]

theorem mrg_l (add : Nat → Nat → Nat) {p p' : List Tm} {i j : Nat} {s t : Tm} (hs : p[i]? = some s) (ht : p'[j]? = some t) (hc : cmpL s.2 t.2 = -1) : mrg add (p.drop i) (p'.drop j) = s :: mrg add (p.drop (i + 1)) (p'.drop j) := by
  obtain ⟨h1, rfl⟩ := List.getElem?_eq_some_iff.1 hs
  obtain ⟨h2, rfl⟩ := List.getElem?_eq_some_iff.1 ht
  rw [List.drop_eq_getElem_cons h1, List.drop_eq_getElem_cons h2, mrg, if_pos (by omega)]
theorem mrg_r (add : Nat → Nat → Nat) {p p' : List Tm} {i j : Nat} {s t : Tm} (hs : p[i]? = some s) (ht : p'[j]? = some t) (hc : cmpL s.2 t.2 = 1) : mrg add (p.drop i) (p'.drop j) = t :: mrg add (p.drop i) (p'.drop (j + 1)) := by
  obtain ⟨h1, rfl⟩ := List.getElem?_eq_some_iff.1 hs
  obtain ⟨h2, rfl⟩ := List.getElem?_eq_some_iff.1 ht
  rw [List.drop_eq_getElem_cons h1, List.drop_eq_getElem_cons h2, mrg, if_neg (by omega), if_pos (by omega)]
theorem mrg_e (add : Nat → Nat → Nat) {p p' : List Tm} {i j : Nat} {s t : Tm} (hs : p[i]? = some s) (ht : p'[j]? = some t) (hc : cmpL s.2 t.2 = 0) : mrg add (p.drop i) (p'.drop j) = if add s.1 t.1 = 0 then mrg add (p.drop (i + 1)) (p'.drop (j + 1)) else (add s.1 t.1, s.2) :: mrg add (p.drop (i + 1)) (p'.drop (j + 1)) := by
  obtain ⟨h1, rfl⟩ := List.getElem?_eq_some_iff.1 hs
  obtain ⟨h2, rfl⟩ := List.getElem?_eq_some_iff.1 ht
  rw [List.drop_eq_getElem_cons h1, List.drop_eq_getElem_cons h2, mrg, if_neg (by omega), if_neg (by omega)]
theorem mrg_nil (add : Nat → Nat → Nat) (p : List Tm) : mrg add p [] = p := by cases p <;> rw [mrg]
theorem mrg_pl (add : Nat → Nat → Nat) {p p' : List Tm} {i : Nat} {s : Tm} (hs : p[i]? = some s) : mrg add (p.drop i) (p'.drop p'.length) = s :: mrg add (p.drop (i + 1)) (p'.drop p'.length) := by
  obtain ⟨h1, rfl⟩ := List.getElem?_eq_some_iff.1 hs
  rw [List.drop_length, mrg_nil, mrg_nil, List.drop_eq_getElem_cons h1]
theorem mrg_pr (add : Nat → Nat → Nat) {p p' : List Tm} {j : Nat} {t : Tm} (ht : p'[j]? = some t) : mrg add (p.drop p.length) (p'.drop j) = t :: mrg add (p.drop p.length) (p'.drop (j + 1)) := by
  obtain ⟨h2, rfl⟩ := List.getElem?_eq_some_iff.1 ht
  rw [List.drop_length, mrg, mrg, List.drop_eq_getElem_cons h2]

set_option maxRecDepth 100000 in
set_option maxHeartbeats 8000000 in
theorem addR_ok (P M q n : Nat) (hf : Fld P M q) (hn : n ≤ 80) (A B : Option Addr) (c c2 : Nat) (p p' : List Tm) (w : World) (hr : RdP w A (tms p)) (hr' : RdP w B (tms p')) (hx : ∀ t ∈ p, Ex n t.2) (hx' : ∀ t ∈ p', Ex n t.2) (hq : CoLt q p) (hq' : CoLt q p') (hlen : p.length + p'.length ≤ 1000000) :
    Calls Tryd.prog 52 #[kitV P M q, .slice A p.length c, .slice B p'.length c2] w fun e w' => (∃ A' c', e = .returned (.slice A' (mrg (addN P M) p p').length c') ∧ RdP w' A' (tms (mrg (addN P M) p p'))) ∧ Below w.heap.size w w' := by
  have hb0 := below1 w (.cells #[.int .i64 (P : Int), .int .i64 (M : Int), .int .i64 (q : Int), .int .i64 (modOf M : Int)] 42)
  have hcell0 : ∀ j, (w.alloc (.cells #[.int .i64 (P : Int), .int .i64 (M : Int), .int .i64 (q : Int), .int .i64 (modOf M : Int)] 42)).cell? ⟨w.heap.size, j, none⟩ = (#[.int .i64 (P : Int), .int .i64 (M : Int), .int .i64 (q : Int), .int .i64 (modOf M : Int)] : Array Value)[j]? := fun j => World.cell?_alloc_new _ _ _ j
  have hr0 := hr.below hb0
  have hr0' := hr'.below hb0
  obtain ⟨w0, hw0⟩ : ∃ w0 : World, w0 = w.alloc (.cells #[.int .i64 (P : Int), .int .i64 (M : Int), .int .i64 (q : Int), .int .i64 (modOf M : Int)] 42) := ⟨_, rfl⟩
  rw [← hw0] at hb0 hcell0 hr0 hr0'
  have hsz : w.heap.size < w0.heap.size := by rw [hw0]; simp
  have HW0 := Lib.hid hw0
  have HB0 := Lib.hid hb0
  have HC0 := Lib.hid hcell0
  have HSZ := Lib.hid hsz
  have HR := Lib.hid hr0
  have HR2 := Lib.hid hr0'
  have HX := Lib.hid hx
  have HX2 := Lib.hid hx'
  have HQ := Lib.hid hq
  have HQ2 := Lib.hid hq'
  obtain ⟨i0, hi, hz0, hz1, hz2⟩ := info_parts Tryd.infoT
  have HI := Lib.hid (show Tryd.prog.info? 53 = some i0 ∧ i0.zero = some (.agg #[.int .i64 0, .slice none 0 0]) ∧ i0.size = 2 ∧ i0.bytes = 32 from ⟨hi, hz0, hz1, hz2⟩)
  generalize hL1 : p.length = L1 at *
  generalize hL2 : p'.length = L2 at *
  have HL1 := Lib.hid hL1
  have HL2 := Lib.hid hL2
  clear hr hr' hr0 hr0' hw0 hb0 hcell0 hsz hx hx' hq hq' hi hz0 hz1 hz2 hL1 hL2
  unfold kitV
  go_enter Tryd.func52, Tryd.ntmps52
  go_wp2_with fail
  go_loopw [7, 8, 9, 10, 11] (fun v iv jv _ _ W => ∃ (i j : Nat) (out : List (Tm × Value)), i ≤ L1 ∧ j ≤ L2 ∧ iv = .int .i64 i ∧ jv = .int .i64 j ∧ out.length ≤ i + j ∧ mrg (addN P M) p p' = out.map Prod.fst ++ mrg (addN P M) (p.drop i) (p'.drop j) ∧ AddR w0 v out W) (fun _ iv jv _ _ _ => L1 - (intOf iv).toNat + (L2 - (intOf jv).toNat))
  case atStart => exact ⟨0, 0, [], by omega, by omega, rfl, rfl, by simp, by simp, by rw [← HW0.out]; exact AddR.start _ _ (Below.refl _ _)⟩
  case round =>
    obtain ⟨i, j, out, hi, hj, rfl, rfl, hol, hm, hA⟩ := hrel
    have HM := Lib.hid hm
    have HA := Lib.hid hA
    have HLEN := Lib.hid hol
    obtain ⟨VA, VC, rfl⟩ := hA.shape
    clear hm hA hol
    by_cases hlt_i : i < L1
    · obtain ⟨s, hs⟩ : ∃ t, p[i]? = some t := ⟨_, List.getElem?_eq_getElem (by rw [HL1.out]; exact hlt_i)⟩
      obtain ⟨bs, offs, u_s, rfl, g1, g2, g3⟩ := HR.out i ((s.1 : Int), nz s.2) (by simp [hs])
      have ks1 := (HA.out.bel.cell (World.block_lt_of_cell? w0 _ g1)).trans g1
      have ks2 := (HA.out.bel.cell (World.block_lt_of_cell? w0 _ g2)).trans g2
      obtain ⟨EAs, ecs, rfl, hri, hel⟩ := g3
      have hns : s.2.length = n := (HX.out s (List.mem_of_getElem? hs)).1
      have HU_s : Hid (SlR w0 (.slice EAs n ecs) (nz s.2)) := Lib.hid ⟨EAs, ecs, by rw [nz_length, hns], hri, hel⟩
      rw [nz_length, hns] at ks2
      have HRI_s := Lib.hid hri
      have HN_s := Lib.hid hns
      have HS_s := Lib.hid hs
      have hq_s := HQ.out s (List.mem_of_getElem? hs)
      have HG_s1 := Lib.hid g1
      have HG_s2 : Hid (w0.cell? ⟨bs, offs + i * 2 + 1, none⟩ = some (.slice EAs n ecs)) := Lib.hid (by rw [nz_length, hns] at g2; exact g2)
      clear g1 g2 hri hs hel hns
      by_cases hlt_j : j < L2
      · obtain ⟨t, hs⟩ : ∃ t, p'[j]? = some t := ⟨_, List.getElem?_eq_getElem (by rw [HL2.out]; exact hlt_j)⟩
        obtain ⟨bt, offt, u_t, rfl, g1, g2, g3⟩ := HR2.out j ((t.1 : Int), nz t.2) (by simp [hs])
        have kt1 := (HA.out.bel.cell (World.block_lt_of_cell? w0 _ g1)).trans g1
        have kt2 := (HA.out.bel.cell (World.block_lt_of_cell? w0 _ g2)).trans g2
        obtain ⟨EAt, ect, rfl, hri, hel⟩ := g3
        have hnt : t.2.length = n := (HX2.out t (List.mem_of_getElem? hs)).1
        have HU_t : Hid (SlR w0 (.slice EAt n ect) (nz t.2)) := Lib.hid ⟨EAt, ect, by rw [nz_length, hnt], hri, hel⟩
        rw [nz_length, hnt] at kt2
        have HRI_t := Lib.hid hri
        have HN_t := Lib.hid hnt
        have HS_t := Lib.hid hs
        have hq_t := HQ2.out t (List.mem_of_getElem? hs)
        have HG_t1 := Lib.hid g1
        have HG_t2 : Hid (w0.cell? ⟨bt, offt + j * 2 + 1, none⟩ = some (.slice EAt n ect)) := Lib.hid (by rw [nz_length, hnt] at g2; exact g2)
        clear g1 g2 hri hs hel hnt
        have HCM := Lib.hid (fun W (hW : AddR w0 (.slice VA out.length VC) out W) => cmpR_ok EAs EAt ecs ect n s.2 t.2 W HN_s.out HN_t.out hn (HRI_s.out.below hW.bel) (HRI_t.out.below hW.bel))
        have d1 : ((i : Int) == (L1 : Int)) = false := by simp; omega
        have hA0 := HA.out.below (Below.refl wr.heap.size wr).drew
        rcases cmpL_range s.2 t.2 with hcm | hcm | hcm
        · have HCV := Lib.hid hcm
          rw [hcm] at HCM
          clear hcm
          go_wp2_with fail
          refine wp_region_text (S := (fun W => AddR w0 (.slice VA out.length VC) out W ∧ W.cell? ⟨bs, offs + i * 2 + 1, none⟩ = some (.slice EAs n ecs) ∧ W.cell? ⟨bt, offt + j * 2 + 1, none⟩ = some (.slice EAt n ect))) (by kernel_rfl) (by kernel_rfl) ⟨hA0, ks2, kt2⟩ (b := ?b1) ?text1 ?post1
          case text1 =>
            iterate 10 (refine InText.pure (by rfl) (fun W hw => by (try dsimp only at hw); go_simp; try with_reducible rfl) ?_; simp only [Act.put, List.setIfInBounds_toArray, List.set_cons_zero, List.set_cons_succ])
            refine InText.call (.int .i64 (-1)) (by rfl) (fun W hw => ?_) ?_
            · go_simp
              refine (HCM.out W hw.1).mono ?_
              rintro e wx ⟨rfl, hB⟩
              exact ⟨rfl, hw.1.below hB, (hB.cell (World.block_lt_of_cell? W _ hw.2.1)).trans hw.2.1, (hB.cell (World.block_lt_of_cell? W _ hw.2.2)).trans hw.2.2⟩
            simp only [Act.put, List.setIfInBounds_toArray, List.set_cons_zero, List.set_cons_succ]
            iterate 1 (refine InText.pure (by rfl) (fun W hw => by (try dsimp only at hw); go_simp; try with_reducible rfl) ?_; simp only [Act.put, List.setIfInBounds_toArray, List.set_cons_zero, List.set_cons_succ])
            exact InText.done
          case post1 =>
            intro W hS
            clear hA0 ks1 ks2 kt1 kt2
            have HA2 := Lib.hid hS.1
            clear hS
            have ks1 := (HA2.out.bel.cell (World.block_lt_of_cell? w0 _ HG_s1.out)).trans HG_s1.out
            have ks2 := (HA2.out.bel.cell (World.block_lt_of_cell? w0 _ HG_s2.out)).trans HG_s2.out
            have kt1 := (HA2.out.bel.cell (World.block_lt_of_cell? w0 _ HG_t1.out)).trans HG_t1.out
            have kt2 := (HA2.out.bel.cell (World.block_lt_of_cell? w0 _ HG_t2.out)).trans HG_t2.out
            have HST : Hid (mrg (addN P M) p p' = (out ++ [(s, (.slice EAs n ecs : Value))]).map Prod.fst ++ mrg (addN P M) (p.drop (i + 1)) (p'.drop j)) := Lib.hid (by rw [HM.out, mrg_l _ HS_s.out HS_t.out HCV.out]; simp)
            go_wp2_with (at_builtin; refine wpList_append_lies _ rfl _ _ 25 rfl w0.heap.size 53 i0 (.agg #[.int .i64 0, .slice none 0 0]) 2 32 Tryd.underlying25 HI.out.1 HI.out.2.1 HI.out.2.2.1 HI.out.2.2.2 rfl (by decide) (.slice VA out.length VC) out.length (flatQ out) (by first | rfl | simp [Act.eval, Act.put]) (HA2.out.row.alloc _) ⟨W.heap.size, 0, none⟩ 1 1 [.int .i64 (s.1 : Int), (.slice EAs n ecs)] (by first | rfl | simp [Act.eval, Act.put]) rfl (two_new _ _ _ _) (two_one _ _ _ _) (by decide) (by have := HLEN.out; unfold maxLen; omega) (by have := HLEN.out; omega) (by have := HA2.out.bel.size; simp; omega) _ rfl ?_; intro g4 cap4 w4 hown hgrow _ _; have hnew := HA2.out.push s (.slice EAs n ecs) HU_s.out hown hgrow; have HNEW := Lib.hid hnew; clear hown hgrow hnew)
            go_roundw
            case rel => exact ⟨i + 1, j, out ++ [(s, .slice EAs n ecs)], by omega, by omega, by go_num, by go_num, by have := HLEN.out; simp; omega, HST.out, HNEW.out⟩
            case measure => simp [intOf]; omega
        · have HCV := Lib.hid hcm
          rw [hcm] at HCM
          clear hcm
          go_wp2_with fail
          refine wp_region_text (S := (fun W => AddR w0 (.slice VA out.length VC) out W ∧ W.cell? ⟨bs, offs + i * 2 + 1, none⟩ = some (.slice EAs n ecs) ∧ W.cell? ⟨bt, offt + j * 2 + 1, none⟩ = some (.slice EAt n ect))) (by kernel_rfl) (by kernel_rfl) ⟨hA0, ks2, kt2⟩ (b := ?b2) ?text2 ?post2
          case text2 =>
            iterate 10 (refine InText.pure (by rfl) (fun W hw => by (try dsimp only at hw); go_simp; try with_reducible rfl) ?_; simp only [Act.put, List.setIfInBounds_toArray, List.set_cons_zero, List.set_cons_succ])
            refine InText.call (.int .i64 (0)) (by rfl) (fun W hw => ?_) ?_
            · go_simp
              refine (HCM.out W hw.1).mono ?_
              rintro e wx ⟨rfl, hB⟩
              exact ⟨rfl, hw.1.below hB, (hB.cell (World.block_lt_of_cell? W _ hw.2.1)).trans hw.2.1, (hB.cell (World.block_lt_of_cell? W _ hw.2.2)).trans hw.2.2⟩
            simp only [Act.put, List.setIfInBounds_toArray, List.set_cons_zero, List.set_cons_succ]
            iterate 1 (refine InText.pure (by rfl) (fun W hw => by (try dsimp only at hw); go_simp; try with_reducible rfl) ?_; simp only [Act.put, List.setIfInBounds_toArray, List.set_cons_zero, List.set_cons_succ])
            exact InText.done
          case post2 =>
            intro W hS
            clear hA0 ks1 ks2 kt1 kt2
            have HA2 := Lib.hid hS.1
            clear hS
            have ks1 := (HA2.out.bel.cell (World.block_lt_of_cell? w0 _ HG_s1.out)).trans HG_s1.out
            have ks2 := (HA2.out.bel.cell (World.block_lt_of_cell? w0 _ HG_s2.out)).trans HG_s2.out
            have kt1 := (HA2.out.bel.cell (World.block_lt_of_cell? w0 _ HG_t1.out)).trans HG_t1.out
            have kt2 := (HA2.out.bel.cell (World.block_lt_of_cell? w0 _ HG_t2.out)).trans HG_t2.out
            have hE := mrg_e (addN P M) HS_s.out HS_t.out HCV.out
            have hba : ∀ m, W.cell? ⟨w.heap.size, m, none⟩ = (#[.int .i64 (P : Int), .int .i64 (M : Int), .int .i64 (q : Int), .int .i64 (modOf M : Int)] : Array Value)[m]? := fun m => (HA2.out.bel.cell HSZ.out).trans (HC0.out m)
            have b0 := hba 0
            have b1 := hba 1
            have b2 := hba 2
            have b3 := hba 3
            have HKA := Lib.hid (fun W => kitAdd P M q s.1 t.1 hf hq_s hq_t W)
            have hA3 := HA2.out.below (Below.refl W.heap.size W).drew
            simp only [List.getElem?_toArray, List.getElem?_cons_zero, List.getElem?_cons_succ] at b0 b1 b2 b3
            have HE := Lib.hid hE
            clear hba hE
            unfold kitV at HKA
            go_wp2_with fail
            obtain ⟨wo, hwo⟩ : ∃ wo : World, wo = W := ⟨_, rfl⟩
            refine wp_region_text (S := (fun W => AddR w0 (.slice VA out.length VC) out W ∧ W.cell? ⟨bs, offs + i * 2, none⟩ = some (.int .i64 (s.1 : Int)) ∧ W.cell? ⟨bt, offt + j * 2, none⟩ = some (.int .i64 (t.1 : Int)) ∧ W.cell? ⟨w.heap.size, 0, none⟩ = some (.int .i64 (P : Int)) ∧ W.cell? ⟨w.heap.size, 1, none⟩ = some (.int .i64 (M : Int)) ∧ W.cell? ⟨w.heap.size, 2, none⟩ = some (.int .i64 (q : Int)) ∧ W.cell? ⟨w.heap.size, 3, none⟩ = some (.int .i64 (modOf M : Int)))) (by kernel_rfl) (by kernel_rfl) ⟨hA3, ks1, kt1, b0, b1, b2, b3⟩ (b := ?b7) ?text7 ?post7
            case text7 =>
              iterate 11 (refine InText.pure (by rfl) (fun W hw => by (try dsimp only at hw); go_simp; try with_reducible rfl) ?_; simp only [Act.put, List.setIfInBounds_toArray, List.set_cons_zero, List.set_cons_succ])
              refine InText.call (.int .i64 (addN P M s.1 t.1 : Nat)) (by rfl) (fun W hw => ?_) ?_
              · go_simp
                refine (HKA.out W).mono ?_
                rintro e wx ⟨rfl, hB⟩
                exact ⟨rfl, hw.1.below hB, (hB.cell (World.block_lt_of_cell? W _ hw.2.1)).trans hw.2.1, (hB.cell (World.block_lt_of_cell? W _ hw.2.2.1)).trans hw.2.2.1, (hB.cell (World.block_lt_of_cell? W _ hw.2.2.2.1)).trans hw.2.2.2.1, (hB.cell (World.block_lt_of_cell? W _ hw.2.2.2.2.1)).trans hw.2.2.2.2.1, (hB.cell (World.block_lt_of_cell? W _ hw.2.2.2.2.2.1)).trans hw.2.2.2.2.2.1, (hB.cell (World.block_lt_of_cell? W _ hw.2.2.2.2.2.2)).trans hw.2.2.2.2.2.2⟩
              simp only [Act.put, List.setIfInBounds_toArray, List.set_cons_zero, List.set_cons_succ]
              iterate 1 (refine InText.pure (by rfl) (fun W hw => by (try dsimp only at hw); go_simp; try with_reducible rfl) ?_; simp only [Act.put, List.setIfInBounds_toArray, List.set_cons_zero, List.set_cons_succ])
              exact InText.done
            case post7 =>
              intro W hS
              clear hA3 ks1 ks2 kt1 kt2 b0 b1 b2 b3
              have HA4 := Lib.hid hS.1
              clear hS
              have ks2 := (HA4.out.bel.cell (World.block_lt_of_cell? w0 _ HG_s2.out)).trans HG_s2.out
              have hE := HE.out
              by_cases h0 : addN P M s.1 t.1 = 0
              · rw [if_pos h0] at hE
                have HST : Hid (mrg (addN P M) p p' = out.map Prod.fst ++ mrg (addN P M) (p.drop (i + 1)) (p'.drop (j + 1))) := Lib.hid (by rw [HM.out, hE])
                have d5 : (((addN P M s.1 t.1 : Nat) : Int) != 0) = false := by simp [h0]
                generalize addN P M s.1 t.1 = cf at *
                clear hE
                have HNEW := HA4
                go_wp2_with fail
                go_roundw
                case rel => exact ⟨i + 1, j + 1, out, by omega, by omega, by go_num, by go_num, by have := HLEN.out; simp; omega, HST.out, HNEW.out⟩
                case measure => simp [intOf]; omega
              · rw [if_neg h0] at hE
                have HST : Hid (mrg (addN P M) p p' = (out ++ [((addN P M s.1 t.1, s.2), (.slice EAs n ecs : Value))]).map Prod.fst ++ mrg (addN P M) (p.drop (i + 1)) (p'.drop (j + 1))) := Lib.hid (by rw [HM.out, hE]; simp)
                have d5 : (((addN P M s.1 t.1 : Nat) : Int) != 0) = true := by simp; omega
                obtain ⟨cf, hcf⟩ : ∃ cf, cf = addN P M s.1 t.1 := ⟨_, rfl⟩
                rw [← hcf] at d5 h0 HST ⊢
                clear hE hcf HKA HE
                go_wp2_with (at_builtin; refine wpList_append_lies _ rfl _ _ 25 rfl w0.heap.size 53 i0 (.agg #[.int .i64 0, .slice none 0 0]) 2 32 Tryd.underlying25 HI.out.1 HI.out.2.1 HI.out.2.2.1 HI.out.2.2.2 rfl (by decide) (.slice VA out.length VC) out.length (flatQ out) (by first | rfl | simp [Act.eval, Act.put]) (HA4.out.row.alloc _) ⟨W.heap.size, 0, none⟩ 1 1 [.int .i64 (cf : Int), (.slice EAs n ecs)] (by first | rfl | simp [Act.eval, Act.put]) rfl (two_new _ _ _ _) (two_one _ _ _ _) (by decide) (by have := HLEN.out; unfold maxLen; omega) (by have := HLEN.out; omega) (by have := HA4.out.bel.size; simp; omega) _ rfl ?_; intro g4 cap4 w4 hown hgrow _ _; have hnew := HA4.out.push (cf, s.2) (.slice EAs n ecs) HU_s.out hown hgrow; have HNEW := Lib.hid hnew; clear hown hgrow hnew)
                go_roundw
                case rel => exact ⟨i + 1, j + 1, out ++ [((cf, s.2), .slice EAs n ecs)], by omega, by omega, by go_num, by go_num, by have := HLEN.out; simp; omega, HST.out, HNEW.out⟩
                case measure => simp [intOf]; omega
        · have HCV := Lib.hid hcm
          rw [hcm] at HCM
          clear hcm
          go_wp2_with fail
          refine wp_region_text (S := (fun W => AddR w0 (.slice VA out.length VC) out W ∧ W.cell? ⟨bs, offs + i * 2 + 1, none⟩ = some (.slice EAs n ecs) ∧ W.cell? ⟨bt, offt + j * 2 + 1, none⟩ = some (.slice EAt n ect))) (by kernel_rfl) (by kernel_rfl) ⟨hA0, ks2, kt2⟩ (b := ?b3) ?text3 ?post3
          case text3 =>
            iterate 10 (refine InText.pure (by rfl) (fun W hw => by (try dsimp only at hw); go_simp; try with_reducible rfl) ?_; simp only [Act.put, List.setIfInBounds_toArray, List.set_cons_zero, List.set_cons_succ])
            refine InText.call (.int .i64 (1)) (by rfl) (fun W hw => ?_) ?_
            · go_simp
              refine (HCM.out W hw.1).mono ?_
              rintro e wx ⟨rfl, hB⟩
              exact ⟨rfl, hw.1.below hB, (hB.cell (World.block_lt_of_cell? W _ hw.2.1)).trans hw.2.1, (hB.cell (World.block_lt_of_cell? W _ hw.2.2)).trans hw.2.2⟩
            simp only [Act.put, List.setIfInBounds_toArray, List.set_cons_zero, List.set_cons_succ]
            iterate 1 (refine InText.pure (by rfl) (fun W hw => by (try dsimp only at hw); go_simp; try with_reducible rfl) ?_; simp only [Act.put, List.setIfInBounds_toArray, List.set_cons_zero, List.set_cons_succ])
            exact InText.done
          case post3 =>
            intro W hS
            clear hA0 ks1 ks2 kt1 kt2
            have HA2 := Lib.hid hS.1
            clear hS
            have ks1 := (HA2.out.bel.cell (World.block_lt_of_cell? w0 _ HG_s1.out)).trans HG_s1.out
            have ks2 := (HA2.out.bel.cell (World.block_lt_of_cell? w0 _ HG_s2.out)).trans HG_s2.out
            have kt1 := (HA2.out.bel.cell (World.block_lt_of_cell? w0 _ HG_t1.out)).trans HG_t1.out
            have kt2 := (HA2.out.bel.cell (World.block_lt_of_cell? w0 _ HG_t2.out)).trans HG_t2.out
            have HST : Hid (mrg (addN P M) p p' = (out ++ [(t, (.slice EAt n ect : Value))]).map Prod.fst ++ mrg (addN P M) (p.drop i) (p'.drop (j + 1))) := Lib.hid (by rw [HM.out, mrg_r _ HS_s.out HS_t.out HCV.out]; simp)
            go_wp2_with (at_builtin; refine wpList_append_lies _ rfl _ _ 25 rfl w0.heap.size 53 i0 (.agg #[.int .i64 0, .slice none 0 0]) 2 32 Tryd.underlying25 HI.out.1 HI.out.2.1 HI.out.2.2.1 HI.out.2.2.2 rfl (by decide) (.slice VA out.length VC) out.length (flatQ out) (by first | rfl | simp [Act.eval, Act.put]) (HA2.out.row.alloc _) ⟨W.heap.size, 0, none⟩ 1 1 [.int .i64 (t.1 : Int), (.slice EAt n ect)] (by first | rfl | simp [Act.eval, Act.put]) rfl (two_new _ _ _ _) (two_one _ _ _ _) (by decide) (by have := HLEN.out; unfold maxLen; omega) (by have := HLEN.out; omega) (by have := HA2.out.bel.size; simp; omega) _ rfl ?_; intro g4 cap4 w4 hown hgrow _ _; have hnew := HA2.out.push t (.slice EAt n ect) HU_t.out hown hgrow; have HNEW := Lib.hid hnew; clear hown hgrow hnew)
            go_roundw
            case rel => exact ⟨i, j + 1, out ++ [(t, .slice EAt n ect)], by omega, by omega, by go_num, by go_num, by have := HLEN.out; simp; omega, HST.out, HNEW.out⟩
            case measure => simp [intOf]; omega
      · have hj2 : j = L2 := by omega
        subst hj2
        have HST : Hid (mrg (addN P M) p p' = (out ++ [(s, (.slice EAs n ecs : Value))]).map Prod.fst ++ mrg (addN P M) (p.drop (i + 1)) (p'.drop j)) := Lib.hid (by rw [HM.out, ← HL2.out, mrg_pl _ HS_s.out]; simp)
        have d1 : ((i : Int) == (L1 : Int)) = false := by simp; omega
        go_wp2_with (at_builtin; refine wpList_append_lies _ rfl _ _ 25 rfl w0.heap.size 53 i0 (.agg #[.int .i64 0, .slice none 0 0]) 2 32 Tryd.underlying25 HI.out.1 HI.out.2.1 HI.out.2.2.1 HI.out.2.2.2 rfl (by decide) (.slice VA out.length VC) out.length (flatQ out) (by first | rfl | simp [Act.eval, Act.put]) (HA.out.row.alloc _) ⟨wr.heap.size, 0, none⟩ 1 1 [.int .i64 (s.1 : Int), (.slice EAs n ecs)] (by first | rfl | simp [Act.eval, Act.put]) rfl (two_new _ _ _ _) (two_one _ _ _ _) (by decide) (by have := HLEN.out; unfold maxLen; omega) (by have := HLEN.out; omega) (by have := HA.out.bel.size; simp; omega) _ rfl ?_; intro g4 cap4 w4 hown hgrow _ _; have hnew := HA.out.push s (.slice EAs n ecs) HU_s.out hown hgrow; have HNEW := Lib.hid hnew; clear hown hgrow hnew)
        go_roundw
        case rel => exact ⟨i + 1, j, out ++ [(s, .slice EAs n ecs)], by omega, by omega, by go_num, by go_num, by have := HLEN.out; simp; omega, HST.out, HNEW.out⟩
        case measure => simp [intOf]; omega
    · have hi2 : i = L1 := by omega
      subst hi2
      by_cases hlt_j : j < L2
      · obtain ⟨t, hs⟩ : ∃ t, p'[j]? = some t := ⟨_, List.getElem?_eq_getElem (by rw [HL2.out]; exact hlt_j)⟩
        obtain ⟨bt, offt, u_t, rfl, g1, g2, g3⟩ := HR2.out j ((t.1 : Int), nz t.2) (by simp [hs])
        have kt1 := (HA.out.bel.cell (World.block_lt_of_cell? w0 _ g1)).trans g1
        have kt2 := (HA.out.bel.cell (World.block_lt_of_cell? w0 _ g2)).trans g2
        obtain ⟨EAt, ect, rfl, hri, hel⟩ := g3
        have hnt : t.2.length = n := (HX2.out t (List.mem_of_getElem? hs)).1
        have HU_t : Hid (SlR w0 (.slice EAt n ect) (nz t.2)) := Lib.hid ⟨EAt, ect, by rw [nz_length, hnt], hri, hel⟩
        rw [nz_length, hnt] at kt2
        have HRI_t := Lib.hid hri
        have HN_t := Lib.hid hnt
        have HS_t := Lib.hid hs
        have hq_t := HQ2.out t (List.mem_of_getElem? hs)
        have HG_t1 := Lib.hid g1
        have HG_t2 : Hid (w0.cell? ⟨bt, offt + j * 2 + 1, none⟩ = some (.slice EAt n ect)) := Lib.hid (by rw [nz_length, hnt] at g2; exact g2)
        clear g1 g2 hri hs hel hnt
        have HST : Hid (mrg (addN P M) p p' = (out ++ [(t, (.slice EAt n ect : Value))]).map Prod.fst ++ mrg (addN P M) (p.drop i) (p'.drop (j + 1))) := Lib.hid (by rw [HM.out, ← HL1.out, mrg_pr _ HS_t.out]; simp)
        have d1 : ((i : Int) == (i : Int)) = true := by simp
        go_wp2_with (at_builtin; refine wpList_append_lies _ rfl _ _ 25 rfl w0.heap.size 53 i0 (.agg #[.int .i64 0, .slice none 0 0]) 2 32 Tryd.underlying25 HI.out.1 HI.out.2.1 HI.out.2.2.1 HI.out.2.2.2 rfl (by decide) (.slice VA out.length VC) out.length (flatQ out) (by first | rfl | simp [Act.eval, Act.put]) (HA.out.row.alloc _) ⟨wr.heap.size, 0, none⟩ 1 1 [.int .i64 (t.1 : Int), (.slice EAt n ect)] (by first | rfl | simp [Act.eval, Act.put]) rfl (two_new _ _ _ _) (two_one _ _ _ _) (by decide) (by have := HLEN.out; unfold maxLen; omega) (by have := HLEN.out; omega) (by have := HA.out.bel.size; simp; omega) _ rfl ?_; intro g4 cap4 w4 hown hgrow _ _; have hnew := HA.out.push t (.slice EAt n ect) HU_t.out hown hgrow; have HNEW := Lib.hid hnew; clear hown hgrow hnew)
        go_roundw
        case rel => exact ⟨i, j + 1, out ++ [(t, .slice EAt n ect)], by omega, by omega, by go_num, by go_num, by have := HLEN.out; simp; omega, HST.out, HNEW.out⟩
        case measure => simp [intOf]; omega
      · have hj2 : j = L2 := by omega
        have hfin : out.map Prod.fst = mrg (addN P M) p p' := by rw [HM.out, hj2, ← HL1.out, ← HL2.out, List.drop_length, List.drop_length, mrg, List.append_nil]
        obtain ⟨A', c', hv, hrd⟩ := HA.out.reads
        rw [hfin] at hv hrd
        have HV := Lib.hid hv
        have HRD := Lib.hid hrd
        clear hfin hv hrd hj2
        go_wp2_with fail
        go_ret
        exact ⟨⟨A', c', ret_val HV.out, HRD.out⟩, HB0.out.trans (HA.out.bel.mono (Nat.le_of_lt HSZ.out))⟩

set_option maxHeartbeats 1000000 in
theorem is_bad (x : Nat) (hx : x ≠ 0) (w : World) :
    Calls Tryd.prog 16 #[.slice none 0 0, .int .i64 (x : Int), .slice none 0 0, .int .i64 (x : Int)] w fun e w' => e = .returned (.bool true) ∧ w = w' := by
  have h1 : ((x : Int) == (x : Int)) = true := by simp
  have h2 : ((x : Int) != 0) = true := by simp; omega
  go_enter Tryd.func16, Tryd.ntmps16
  go_wp2
  go_ret
  exact ⟨ret_bool (by simp), rfl⟩

set_option maxHeartbeats 1000000 in
theorem is_ok (n : Nat) (hn : n ≤ 80) (A A2 : Option Addr) (c c2 : Nat) (p : List Tm) (hx : ∀ t ∈ p, Ex n t.2) (w : World) (hr : RdP w A (tms p)) (hr' : RdP w A2 (tms p)) (hl : p.length ≤ 1000000) (hc : ∀ t ∈ p, t.1 ≤ 65536) :
    Calls Tryd.prog 16 #[.slice A p.length c, .int .i64 0, .slice A2 p.length c2, .int .i64 0] w fun e w' => e = .returned (.bool true) ∧ Below w.heap.size w w' := by
  have HS := Lib.hid (same_ok n hn A A2 c c2 p p hx hx w hr hr' hl hl hc hc)
  simp only [decide_true] at HS
  generalize p.length = L at *
  clear hr hr' hx hc
  go_enter Tryd.func16, Tryd.ntmps16
  go_wp2_with fail
  refine HS.out.mono ?_
  rintro e w1 ⟨rfl, hB⟩
  have HB := Lib.hid hB
  clear hB
  go_wp2_with fail
  go_ret
  exact ⟨rfl, HB.out⟩

/-- A row of polynomials. -/
def RdQ (w : World) (b off : Nat) (ps : List (List Tm)) : Prop := ∀ k p, ps[k]? = some p → ∃ A c, w.cell? ⟨b, off + k, none⟩ = some (.slice A p.length c) ∧ RdP w A (tms p)
theorem RdQ.below {w w' : World} {b off : Nat} {ps : List (List Tm)} (h : RdQ w b off ps) (hB : Below w.heap.size w w') : RdQ w' b off ps := fun k p hk => by
  obtain ⟨A, c, h1, h2⟩ := h k p hk
  exact ⟨A, c, (hB.cell (World.block_lt_of_cell? w _ h1)).trans h1, h2.below hB⟩
theorem RdQ.take {w : World} {b off : Nat} {ps : List (List Tm)} (h : RdQ w b off ps) (m : Nat) : RdQ w b off (ps.take m) := fun k p hk => by
  rw [List.getElem?_take] at hk
  split at hk
  · exact h k p hk
  · cases hk
theorem RdQ.drop {w : World} {b off : Nat} {ps : List (List Tm)} (h : RdQ w b off ps) (m : Nat) : RdQ w b (off + m) (ps.drop m) := fun k p hk => by
  rw [List.getElem?_drop] at hk
  obtain ⟨A, c, h1, h2⟩ := h _ p hk
  exact ⟨A, c, by rw [Nat.add_assoc]; exact h1, h2⟩

def TotIs (q n : Nat) (add : Nat → Nat → Nat) (ts : List Tm) (w : World) (e : Ending) (w' : World) : Prop :=
  (∃ (r : List Tm) (A : Option Addr) (c : Nat), e = .returned (.slice A r.length c) ∧ RdP w' A (tms r) ∧ Ris q n r ∧ (∀ t ∈ r, Ex n t.2) ∧ (∀ x, cfs add r x = cfs add ts x) ∧ r.length ≤ ts.length) ∧ Below w.heap.size w w'

theorem flat_lt {q n : Nat} {ps qs : List (List Tm)} (h : ∀ p ∈ ps, Ris q n p ∧ ∀ t ∈ p, Ex n t.2) (hs : ∀ p ∈ qs, p ∈ ps) : CoLt q qs.flatten := fun t ht => by
  obtain ⟨p, hp, htp⟩ := List.mem_flatten.1 ht
  exact (h p (hs p hp)).1.lt t htp

set_option maxRecDepth 100000 in
set_option maxHeartbeats 8000000 in
theorem total_ok (P M q n : Nat) (hf : Fld P M q) (hn : n ≤ 80) : ∀ (m : Nat) (ps : List (List Tm)), ps.length = m → ∀ (b off c : Nat) (w : World), m ≤ c → c ≤ 9223372036854775807 → ps.flatten.length ≤ 1000000 → (∀ p ∈ ps, Ris q n p ∧ ∀ t ∈ p, Ex n t.2) → RdQ w b off ps →
    Calls Tryd.prog 34 #[kitV P M q, .slice (some ⟨b, off, none⟩) m c] w (TotIs q n (addN P M) ps.flatten w) := by
  intro m
  induction m using Nat.strongRecOn with
  | ind m ih =>
    intro ps hm b off c w hmc hc hfl hps hr
    have HB0 := Lib.hid (below1 w (.cells #[.int .i64 (P : Int), .int .i64 (M : Int), .int .i64 (q : Int), .int .i64 (modOf M : Int)] 42))
    have HR := Lib.hid hr
    have HPS := Lib.hid hps
    have HM := Lib.hid hm
    have HFL := Lib.hid hfl
    rcases (show m = 0 ∨ m = 1 ∨ 2 ≤ m by omega) with rfl | rfl | h2
    · have he : ps = [] := List.length_eq_zero_iff.1 hm
      subst he
      clear ih hr hps hm hfl
      unfold kitV
      go_enter Tryd.func34, Tryd.ntmps34
      go_wp2_with fail
      go_ret
      exact ⟨⟨[], none, 0, rfl, fun k t hk => by simp at hk, Ris.nil _ _, by simp, fun x => rfl, by simp⟩, HB0.out⟩
    · obtain ⟨p, rfl⟩ : ∃ p, ps = [p] := by
        cases ps with
        | nil => simp at hm
        | cons p l => cases l with
          | nil => exact ⟨p, rfl⟩
          | cons _ _ => simp at hm
      obtain ⟨A, c', g1, g2⟩ := hr 0 p rfl
      have k1 := (HB0.out.cell (World.block_lt_of_cell? w _ g1)).trans g1
      simp only [Nat.add_zero] at k1
      have HG2 := Lib.hid (g2.below HB0.out)
      obtain ⟨hp1, hp2⟩ := hps p (by simp)
      have HP1 := Lib.hid hp1
      have HP2 := Lib.hid hp2
      clear ih hr hps hm hfl g1 g2 hp1 hp2
      unfold kitV
      go_enter Tryd.func34, Tryd.ntmps34
      go_wp2_with fail
      go_ret
      exact ⟨⟨p, A, c', rfl, HG2.out, HP1.out, HP2.out, fun x => by simp, by simp⟩, HB0.out⟩
    · obtain ⟨h, hh⟩ : ∃ h, h = m / 2 := ⟨_, rfl⟩
      have hhm : h < m := by omega
      have hh1 : 1 ≤ h := by omega
      have hq2 : (m : Int) / 2 = (h : Int) := by omega
      have d0 : ((m : Int) == 0) = false := by simp; omega
      have d1 : ((m : Int) == 1) = false := by simp; omega
      have hspl : (ps.take h).flatten ++ (ps.drop h).flatten = ps.flatten := by rw [← List.flatten_append, List.take_append_drop]
      have hspll : (ps.take h).flatten.length + (ps.drop h).flatten.length = ps.flatten.length := by rw [← hspl, List.length_append]
      have hrk := hr.below (below1 w (.cells #[.int .i64 (P : Int), .int .i64 (M : Int), .int .i64 (q : Int), .int .i64 (modOf M : Int)] 42))
      have hcell0 : ∀ j, (w.alloc (.cells #[.int .i64 (P : Int), .int .i64 (M : Int), .int .i64 (q : Int), .int .i64 (modOf M : Int)] 42)).cell? ⟨w.heap.size, j, none⟩ = (#[.int .i64 (P : Int), .int .i64 (M : Int), .int .i64 (q : Int), .int .i64 (modOf M : Int)] : Array Value)[j]? := fun j => World.cell?_alloc_new _ _ _ j
      have HT1 := Lib.hid (fun W (hW : Below (w.alloc (.cells #[.int .i64 (P : Int), .int .i64 (M : Int), .int .i64 (q : Int), .int .i64 (modOf M : Int)] 42)).heap.size (w.alloc (.cells #[.int .i64 (P : Int), .int .i64 (M : Int), .int .i64 (q : Int), .int .i64 (modOf M : Int)] 42)) W) => ih h hhm (ps.take h) (by rw [List.length_take]; omega) b off c W (by omega) hc (by omega) (fun p hp => hps p (List.mem_of_mem_take hp)) ((hrk.below hW).take h))
      have HT2 := Lib.hid (fun W (hW : Below (w.alloc (.cells #[.int .i64 (P : Int), .int .i64 (M : Int), .int .i64 (q : Int), .int .i64 (modOf M : Int)] 42)).heap.size (w.alloc (.cells #[.int .i64 (P : Int), .int .i64 (M : Int), .int .i64 (q : Int), .int .i64 (modOf M : Int)] 42)) W) => ih (m - h) (by omega) (ps.drop h) (by rw [List.length_drop]; omega) b (off + h) (c - h) W (by omega) (by omega) (by omega) (fun p hp => hps p (List.mem_of_mem_drop hp)) ((hrk.below hW).drop h))
      have HADD := Lib.hid (fun A B c1 c2 p1 p2 W hr1 hr2 hx1 hx2 hq1 hq2 hl => addR_ok P M q n hf hn A B c1 c2 p1 p2 W hr1 hr2 hx1 hx2 hq1 hq2 hl)
      unfold kitV at HT1 HT2 HADD ⊢
      have HH := Lib.hid hh
      have hhc : h ≤ c := by omega
      have hhl : h ≤ m := by omega
      have hch : ¬ c = h := by omega
      have HSPL := Lib.hid hspl
      have HSPLL := Lib.hid hspll
      have c0 := hcell0 0
      have c1 := hcell0 1
      have c2 := hcell0 2
      have c3 := hcell0 3
      simp only [List.getElem?_toArray, List.getElem?_cons_zero, List.getElem?_cons_succ] at c0 c1 c2 c3
      clear ih hr hps hm hfl hh hrk hcell0 hspl hspll
      go_enter Tryd.func34, Tryd.ntmps34
      go_wp2_with fail
      generalize (w.alloc (.cells #[.int .i64 (P : Int), .int .i64 (M : Int), .int .i64 (q : Int), .int .i64 (modOf M : Int)] 42)) = w0 at *
      have HRNG := Lib.hid hf.fl.toRng
      go_region_law (first
        | (have hp := (Below.refl w0.heap.size w0).drew; go_simp; (with_reducible refine (HT1.out w0.drew hp).mono ?_); rintro e wa ⟨⟨r1, A1, d1', rfl, hr1, hs1, hx1, hk1, hl1⟩, hBa⟩; have hba := hp.trans (hBa.mono (Nat.le_refl _)); have nwa0 := (hba.cell (World.block_lt_of_cell? w0 _ c0)).trans c0; have nwa1 := (hba.cell (World.block_lt_of_cell? w0 _ c1)).trans c1; have nwa2 := (hba.cell (World.block_lt_of_cell? w0 _ c2)).trans c2; have nwa3 := (hba.cell (World.block_lt_of_cell? w0 _ c3)).trans c3)
        | (have hp := hba; go_simp; (with_reducible refine (HT2.out wa hp).mono ?_); rintro e wb ⟨⟨r2, A2, d2', rfl, hr2, hs2, hx2, hk2, hl2⟩, hBb⟩; have hbb := hp.trans (hBb.mono hba.size); have nwb0 := (hbb.cell (World.block_lt_of_cell? w0 _ c0)).trans c0; have nwb1 := (hbb.cell (World.block_lt_of_cell? w0 _ c1)).trans c1; have nwb2 := (hbb.cell (World.block_lt_of_cell? w0 _ c2)).trans c2; have nwb3 := (hbb.cell (World.block_lt_of_cell? w0 _ c3)).trans c3)
        | (have hp := (Below.refl w0.heap.size w0).drew; go_simp; (with_reducible refine (HT2.out w0.drew hp).mono ?_); rintro e wc ⟨⟨r2, A2, d2', rfl, hr2, hs2, hx2, hk2, hl2⟩, hBc⟩; have hbc := hp.trans (hBc.mono (Nat.le_refl _)); have nwc0 := (hbc.cell (World.block_lt_of_cell? w0 _ c0)).trans c0; have nwc1 := (hbc.cell (World.block_lt_of_cell? w0 _ c1)).trans c1; have nwc2 := (hbc.cell (World.block_lt_of_cell? w0 _ c2)).trans c2; have nwc3 := (hbc.cell (World.block_lt_of_cell? w0 _ c3)).trans c3)
        | (have hp := hbc; go_simp; (with_reducible refine (HT1.out wc hp).mono ?_); rintro e wd ⟨⟨r1, A1, d1', rfl, hr1, hs1, hx1, hk1, hl1⟩, hBd⟩; have hbd := hp.trans (hBd.mono hbc.size); have nwd0 := (hbd.cell (World.block_lt_of_cell? w0 _ c0)).trans c0; have nwd1 := (hbd.cell (World.block_lt_of_cell? w0 _ c1)).trans c1; have nwd2 := (hbd.cell (World.block_lt_of_cell? w0 _ c2)).trans c2; have nwd3 := (hbd.cell (World.block_lt_of_cell? w0 _ c3)).trans c3)
        | (have hra := hr1.below hBb; have hq1 := hs1.lt; have hq2 := hs2.lt; have hll : r1.length + r2.length ≤ 1000000 := (by have h1 := HSPLL.out; have h3 := HFL.out; omega); go_simp; (with_reducible refine (HADD.out A1 A2 d1' d2' r1 r2 wb hra hr2 hx1 hx2 hq1 hq2 hll).mono ?_); rintro e we ⟨⟨A', c', rfl, hrd⟩, hBe⟩; have hbe := hbb.trans (hBe.mono hbb.size))
        | (have hrb := hr2.below hBd; have hq1 := hs1.lt; have hq2 := hs2.lt; have hll : r1.length + r2.length ≤ 1000000 := (by have h1 := HSPLL.out; have h3 := HFL.out; omega); go_simp; (with_reducible refine (HADD.out A1 A2 d1' d2' r1 r2 wd hr1 hrb hx1 hx2 hq1 hq2 hll).mono ?_); rintro e we ⟨⟨A', c', rfl, hrd⟩, hBe⟩; have hbe := hbd.trans (hBe.mono hbd.size)))
      all_goals
        have HRD := Lib.hid hrd
        have HBE := Lib.hid hbe
        have HF : Hid (Ris q n (mrg (addN P M) r1 r2) ∧ (∀ t ∈ mrg (addN P M) r1 r2, Ex n t.2) ∧ (∀ x, cfs (addN P M) (mrg (addN P M) r1 r2) x = cfs (addN P M) ps.flatten x) ∧ (mrg (addN P M) r1 r2).length ≤ ps.flatten.length) := Lib.hid ⟨mrg_ris HRNG.out hs1 hs2, mrg_ex HRNG.out hs1.lt hs2.lt hx1 hx2, fun x => by
          rw [mrg_cfs HRNG.out x r1 r2 hs1.lt hs2.lt, hk1, hk2, ← HSPL.out]
          exact (cfs_append HRNG.out (flat_lt HPS.out fun p hp => List.mem_of_mem_take hp) (flat_lt HPS.out fun p hp => List.mem_of_mem_drop hp) x).symm, by
          have h1 := mrg_length (addN P M) r1 r2
          have h3 := HSPLL.out
          omega⟩
        go_wp2_with fail
        go_ret
        exact ⟨⟨_, A', c', rfl, HRD.out, HF.out.1, HF.out.2.1, HF.out.2.2.1, HF.out.2.2.2⟩, HB0.out.trans (HBE.out.mono HB0.out.size)⟩
end Go.Proofs.YtflmjdabmnpkjaaDoor
