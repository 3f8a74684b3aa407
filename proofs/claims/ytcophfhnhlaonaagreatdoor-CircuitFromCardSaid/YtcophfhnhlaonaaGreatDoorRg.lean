/-
  Joined from Rg: see there.
-/
import Derived.Test.YtcophfhnhlaonaaGreatDoorChecked
import Derived.Orders
import Derived.Deep.RegionHeld
import Derived.WalkKit
namespace Go.Proofs.YtcophfhnhlaonaaGreatDoor
set_option linter.unusedVariables false

/-- The operations one after the other, in the text's order. -/
def InText (P : Program) (ops : Array Oper) (S : World → Prop) : List Oper → Act → Act → Prop
  | [], a, b => a = b
  | o :: rest, a, b => ∃ v, (if Region.wanted o (yielded ops a.tmps) = true then ∀ w, S w → o.wp P a w (fun a' w' => a' = a.put o.dst v ∧ S w') (fun _ _ _ => False) else v = undef) ∧ InText P ops S rest (a.put o.dst v) b

def StepP (P : Program) (ops : Array Oper) (S : World → Prop) (o : Oper) (a : Act) (v : Value) : Prop :=
  if Region.wanted o (yielded ops a.tmps) = true then ∀ w, S w → o.wp P a w (fun a' w' => a' = a.put o.dst v ∧ S w') (fun _ _ _ => False) else v = undef

/-- What the law asks of the operations alone. -/
def regOk (ops : Array Oper) : Bool :=
  Region.noSelect ops && (List.range ops.size).all fun i => match ops[i]? with
    | none => true
    | some o => o.after.all (fun e => Nat.blt e.on i) &&
      (List.range ops.size).all fun j => match ops[j]? with
        | none => true
        | some oj => match oj.dst with
          | none => true
          | some d => (!(o.looksAt ops).contains d || o.after.any (fun e => Region.binds .any e && Nat.beq e.on j)) && (Nat.beq i j || o.dst != some d)

section
variable {P : Program} {ops : Array Oper} {S : World → Prop}

structure RegOk (ops : Array Oper) : Prop where
  sel : Region.noSelect ops = true
  back : ∀ (i : Nat) (o : Oper), ops[i]? = some o → ∀ e ∈ o.after, e.on < i
  look : ∀ (i : Nat) (o : Oper) (j : Nat) (oj : Oper) (d : Tmp), ops[i]? = some o → ops[j]? = some oj → oj.dst = some d → d ∈ o.looksAt ops → ∃ e ∈ o.after, Region.binds .any e = true ∧ e.on = j
  dist : ∀ (i : Nat) (o : Oper) (j : Nat) (oj : Oper) (d : Tmp), ops[i]? = some o → ops[j]? = some oj → oj.dst = some d → o.dst = some d → i = j

theorem regOk_spec (h : regOk ops = true) : RegOk ops := by
  unfold regOk at h
  rw [Bool.and_eq_true, List.all_eq_true] at h
  obtain ⟨h0, h1⟩ := h
  have key : ∀ i o, ops[i]? = some o → (∀ e ∈ o.after, e.on < i) ∧ ∀ j oj, ops[j]? = some oj → ∀ d, oj.dst = some d → (d ∈ o.looksAt ops → ∃ e ∈ o.after, Region.binds .any e = true ∧ e.on = j) ∧ (o.dst = some d → i = j) := by
    intro i o hi
    have hlt := (Array.getElem?_eq_some_iff.1 hi).1
    have h2 := h1 i (List.mem_range.2 hlt)
    rw [hi] at h2
    simp only [Bool.and_eq_true, List.all_eq_true] at h2
    refine ⟨fun e he => ?_, fun j oj hj d hd => ?_⟩
    · have h3 := Array.all_eq_true'.1 h2.1 e he
      simpa [Nat.blt_eq] using h3
    · have hjl := (Array.getElem?_eq_some_iff.1 hj).1
      have h3 := h2.2 j (List.mem_range.2 hjl)
      rw [hj] at h3
      simp only [hd, Bool.and_eq_true, Bool.or_eq_true] at h3
      refine ⟨fun hm => ?_, fun ho => ?_⟩
      · rcases h3.1 with h4 | h4
        · simp [hm] at h4
        · obtain ⟨e, he, hb⟩ := Array.any_eq_true'.1 h4
          rw [Bool.and_eq_true] at hb
          exact ⟨e, he, hb.1, Nat.eq_of_beq_eq_true hb.2⟩
      · rcases h3.2 with h4 | h4
        · exact Nat.eq_of_beq_eq_true h4
        · rw [ho] at h4; simp at h4
  exact ⟨h0, fun i o hi => (key i o hi).1, fun i o j oj d hi hj hd hm => ((key i o hi).2 j oj hj d hd).1 hm, fun i o j oj d hi hj hd ho => ((key i o hi).2 j oj hj d hd).2 ho⟩

theorem put_tmps (a : Act) (dst : Option Tmp) (v : Value) (k : Nat) (h : dst ≠ some k) : (a.put dst v).tmps[k]? = a.tmps[k]? := by
  cases dst with
  | none => rfl
  | some d =>
    have : d ≠ k := fun e => h (by rw [e])
    simp [Act.put, Array.getElem?_setIfInBounds_ne this]
theorem put_size (a : Act) (dst : Option Tmp) (v : Value) : (a.put dst v).tmps.size = a.tmps.size := by
  cases dst <;> simp [Act.put]
theorem put_defs (a : Act) (dst : Option Tmp) (v : Value) : (a.put dst v).defers = a.defers := by cases dst <;> rfl
theorem put_at (a : Act) (d : Tmp) (v : Value) : (a.put (some d) v).tmps[d]? = if d < a.tmps.size then some v else none := by
  simp [Act.put, Array.getElem?_setIfInBounds]

theorem inText_keeps : ∀ (l : List Oper) (a b : Act), InText P ops S l a b → b.tmps.size = a.tmps.size ∧ b.defers = a.defers ∧ ∀ k, (∀ o ∈ l, o.dst ≠ some k) → b.tmps[k]? = a.tmps[k]?
  | [], a, b, h => by cases h; exact ⟨rfl, rfl, fun _ _ => rfl⟩
  | o :: l, a, b, h => by
    obtain ⟨v, _, h2⟩ := h
    obtain ⟨h3, h4, h5⟩ := inText_keeps l _ b h2
    refine ⟨h3.trans (put_size _ _ _), h4.trans (put_defs _ _ _), fun k hk => (h5 k fun o ho => hk o (List.mem_cons_of_mem _ ho)).trans (put_tmps _ _ _ _ (hk o List.mem_cons_self))⟩
theorem inText_split : ∀ (l1 : List Oper) (o : Oper) (l2 : List Oper) (a b : Act), InText P ops S (l1 ++ o :: l2) a b → ∃ a1 v, StepP P ops S o a1 v ∧ a1.tmps.size = a.tmps.size ∧ a1.defers = a.defers ∧ InText P ops S (o :: l2) a1 b ∧ InText P ops S l2 (a1.put o.dst v) b
  | [], o, l2, a, b, h => by
    obtain ⟨v, h1, h2⟩ := h
    exact ⟨a, v, h1, rfl, rfl, ⟨v, h1, h2⟩, h2⟩
  | x :: l1, o, l2, a, b, h => by
    obtain ⟨v, _, h2⟩ := h
    obtain ⟨a1, u, h3, h4, h5, h6, h7⟩ := inText_split l1 o l2 _ b h2
    exact ⟨a1, u, h3, h4.trans (put_size _ _ _), h5.trans (put_defs _ _ _), h6, h7⟩

/-- The facts on one operation. -/
theorem step_at (hk : RegOk ops) {a b : Act} (h : InText P ops S ops.toList a b) {i : Nat} {o : Oper} (hi : ops[i]? = some o) :
    ∃ a1 v, StepP P ops S o a1 v ∧ a1.tmps.size = a.tmps.size ∧ a1.defers = a.defers ∧ (∀ t, t ∈ o.looksAt ops → b.tmps[t]? = a1.tmps[t]?) ∧ ∀ d, o.dst = some d → b.tmps[d]? = if d < a.tmps.size then some v else none := by
  have hlt := (Array.getElem?_eq_some_iff.1 hi).1
  have hlt2 : i < ops.toList.length := by simpa using hlt
  have hge : ops.toList[i] = o := by
    have := (Array.getElem?_eq_some_iff.1 hi).2
    simpa using this
  have hsp : ops.toList = ops.toList.take i ++ o :: ops.toList.drop (i + 1) := by
    rw [← hge, List.getElem_cons_drop hlt2, List.take_append_drop]
  rw [hsp] at h
  obtain ⟨a1, v, h1, h2, h3, h4, h5⟩ := inText_split _ _ _ _ _ h
  have later : ∀ x, x ∈ ops.toList.drop (i + 1) → ∃ j, i < j ∧ ops[j]? = some x := by
    intro x hx
    obtain ⟨m, hm, he⟩ := List.getElem_of_mem hx
    refine ⟨i + 1 + m, by omega, ?_⟩
    rw [List.getElem_drop] at he
    rw [← he, ← Array.getElem?_toList, List.getElem?_eq_getElem]
  refine ⟨a1, v, h1, h2, h3, fun t ht => ?_, fun d hd => ?_⟩
  · refine (inText_keeps _ _ _ h4).2.2 t fun x hx hxt => ?_
    rcases List.mem_cons.1 hx with rfl | hx
    · obtain ⟨e, he, _, hej⟩ := hk.look i x i x t hi hi hxt ht
      have := hk.back i x hi e he
      omega
    · obtain ⟨j, hj, hjx⟩ := later x hx
      obtain ⟨e, he, _, hej⟩ := hk.look i o j x t hi hjx hxt ht
      have := hk.back i o hi e he
      omega
  · have h6 := (inText_keeps _ _ _ h5).2.2 d fun x hx hxd => by
      obtain ⟨j, hj, hjx⟩ := later x hx
      have := hk.dist i o j x d hi hjx hxd hd
      omega
    rw [h6, hd, put_at, h2]

theorem eval_agree {o : Oper} {a a1 : Act} (h : ∀ t, t ∈ o.looksAt ops → a.tmps[t]? = a1.tmps[t]?) : ∀ x ∈ o.op.operands, a.eval x = a1.eval x := by
  intro x hx
  cases x with
  | tmp t =>
    have := h t (List.mem_append_left _ (List.mem_filterMap.2 ⟨.tmp t, by simpa using hx, rfl⟩))
    show a.tmps.getD t undef = a1.tmps.getD t undef
    simp only [Array.getD_eq_getD_getElem?, this]
  | _ => rfl
theorem wanted_agree {o : Oper} {a a1 : Act} (h : ∀ t, t ∈ o.looksAt ops → a.tmps[t]? = a1.tmps[t]?) : Region.wanted o (yielded ops a.tmps) = Region.wanted o (yielded ops a1.tmps) := by
  unfold Region.wanted
  cases hg : o.guard with
  | none => rfl
  | some gw =>
    obtain ⟨g, want⟩ := gw
    have hy : yielded ops a.tmps g = yielded ops a1.tmps g := by
      unfold yielded
      cases ht : (ops[g]?).bind (·.dst) with
      | none => rfl
      | some t =>
        have := h t (by simp [Oper.looksAt, hg, ht])
        simp only [Option.bind_some, this]
    simp only [hy]

theorem put_same {a a1 : Act} (hs : a.tmps.size = a1.tmps.size) {dst : Option Tmp} {u v : Value} (h : a1.put dst u = a1.put dst v) : a.put dst u = a.put dst v := by
  cases dst with
  | none => rfl
  | some d =>
    by_cases hd : d < a1.tmps.size
    · have h1 := put_at a1 d u
      have h2 := put_at a1 d v
      rw [h, h2, if_pos hd, if_pos hd] at h1
      rw [Option.some.inj h1]
    · have : ∀ x, a.put (some d) x = a := fun x => by
        simp only [Act.put]
        rw [Array.setIfInBounds_eq_of_size_le (by rw [hs]; exact Nat.le_of_not_lt hd)]
      rw [this, this]

theorem upon_move {o : Oper} {a a1 : Act} (hs : a.tmps.size = a1.tmps.size) {v : Value} {Q : Exit → Act → World → Prop} {K : Act → World → Prop} (hK : ∀ w, S w → K (a.put o.dst v) w) :
    ∀ r, o.upon P a1 (fun a' w' => a' = a1.put o.dst v ∧ S w') (fun _ _ _ => False) r → o.upon P a K Q r := by
  have key : ∀ u w', a1.put o.dst u = a1.put o.dst v ∧ S w' → K (a.put o.dst u) w' := fun u w' ⟨h1, h2⟩ => by rw [put_same hs h1]; exact hK w' h2
  intro r h
  cases r with
  | ok n w' =>
    cases n with
    | value u => exact key _ _ h
    | skip => exact key _ _ h
    | defer d =>
      exfalso
      have := congrArg (·.defers) h.1
      simp only [put_defs] at this
      exact List.cons_ne_self _ _ this
    | enter f args =>
      refine Calls.mono h fun e w'' he => ?_
      cases e with
      | returned u => exact key _ _ he
      | panicked c => exact absurd he (fun h => h)
      | outgrown => obtain ⟨_, _, hf⟩ := he; exact hf.elim
    | row row args => exact Rows.mono h fun u w'' hu => key _ _ hu
    | _ => exact h
  | halt x w' => cases x <;> first | exact h.elim | exact h

/-- Some listed operation writes slot k. -/
def Wrote (ops : Array Oper) (listed : Array Bool) (k : Nat) : Prop := ∃ (j : Nat) (o : Oper), ops[j]? = some o ∧ listed.getD j false = true ∧ o.dst = some k

structure Mid (ops : Array Oper) (a b : Act) (listed : Array Bool) (c : Act) : Prop where
  size : listed.size = ops.size
  tsize : c.tmps.size = a.tmps.size
  defs : c.defers = a.defers
  wrote : ∀ k, Wrote ops listed k → c.tmps[k]? = b.tmps[k]?
  other : ∀ k, ¬ Wrote ops listed k → c.tmps[k]? = a.tmps[k]?

theorem getD_listed {listed : Array Bool} {j : Nat} (h : j < listed.size) : listed.getD j true = listed.getD j false := by
  simp [Array.getD_eq_getD_getElem?, h]

/-- How many are not listed yet. -/
def unl (listed : Array Bool) : Nat := (listed.toList.filter (· == false)).length
theorem unl_set : ∀ (l : List Bool) (i : Nat), l[i]? = some false → ((l.set i true).filter (· == false)).length + 1 = (l.filter (· == false)).length
  | [], i, h => by simp at h
  | x :: l, 0, h => by
    simp at h
    subst h
    simp
  | x :: l, i + 1, h => by
    have := unl_set l i (by simpa using h)
    cases x <;> simp_all <;> omega

theorem ready_or_done (hk : RegOk ops) {listed : Array Bool} (hs : listed.size = ops.size) (h : Region.ready .any ops listed = []) : ∀ i, i < ops.size → listed.getD i false = true := by
  intro i
  induction i using Nat.strongRecOn with
  | ind i ih =>
    intro hi
    cases hl : listed.getD i false with
    | true => rfl
    | false =>
      exfalso
      have : i ∈ Region.ready .any ops listed := by
        refine mem_ready.2 ⟨by rw [getD_listed (by omega)]; exact hl, ops[i], by simp [hi], fun e he _ => ?_⟩
        have hb := hk.back i ops[i] (by simp [hi]) e he
        exact ih e.on hb (by omega)
      rw [h] at this
      cases this

theorem mid_done (hk : RegOk ops) {a b c : Act} (h : InText P ops S ops.toList a b) {listed : Array Bool} (hm : Mid ops a b listed c) (hall : ∀ i, i < ops.size → listed.getD i false = true) : c = b := by
  obtain ⟨h1, h2, h3⟩ := inText_keeps _ _ _ h
  obtain ⟨ct, cd⟩ := c
  obtain ⟨bt, bd⟩ := b
  have e1 : cd = bd := hm.defs.trans h2.symm
  have e2 : ct = bt := by
    apply Array.ext_getElem?
    intro k
    by_cases hw : Wrote ops listed k
    · exact hm.wrote k hw
    · refine (hm.other k hw).trans (h3 k fun o ho hd => hw ?_).symm
      obtain ⟨j, hj, he⟩ := List.getElem_of_mem ho
      have hj2 : j < ops.size := by simpa using hj
      exact ⟨j, o, by rw [← he, ← Array.getElem?_toList, List.getElem?_eq_getElem], hall j hj2, hd⟩
  rw [e1, e2]

theorem mid_agree (hk : RegOk ops) {a b c : Act} (h : InText P ops S ops.toList a b) {listed : Array Bool} (hm : Mid ops a b listed c) {i : Nat} {o : Oper} (hi : ops[i]? = some o)
    (hr : ∀ e ∈ o.after, Region.binds .any e = true → listed.getD e.on false = true) : ∀ t, t ∈ o.looksAt ops → c.tmps[t]? = b.tmps[t]? := by
  intro t ht
  by_cases hw : Wrote ops listed t
  · exact hm.wrote t hw
  · refine (hm.other t hw).trans ((inText_keeps _ _ _ h).2.2 t fun x hx hxt => hw ?_).symm
    obtain ⟨j, hj, he⟩ := List.getElem_of_mem hx
    have hj2 : ops[j]? = some x := by rw [← he, ← Array.getElem?_toList, List.getElem?_eq_getElem]
    obtain ⟨e, hea, hb, hej⟩ := hk.look i o j x t hi hj2 hxt ht
    exact ⟨j, x, hj2, by rw [← hej]; exact hr e hea hb, hxt⟩

theorem mid_next {a b c : Act} {listed : Array Bool} (hm : Mid ops a b listed c) (hk : RegOk ops) {i : Nat} {o : Oper} (hi : ops[i]? = some o) {v : Value} (hv : ∀ d, o.dst = some d → b.tmps[d]? = if d < a.tmps.size then some v else none) :
    Mid ops a b (listed.setIfInBounds i true) (c.put o.dst v) := by
  have hil := (Array.getElem?_eq_some_iff.1 hi).1
  have hset : ∀ j, (listed.setIfInBounds i true).getD j false = true ↔ j = i ∨ listed.getD j false = true := by
    intro j
    have := hm.size
    by_cases hji : i = j
    · subst hji; simp [Array.getD_eq_getD_getElem?, this, hil]
    · have hji2 : ¬ j = i := fun e => hji e.symm
      simp [Array.getD_eq_getD_getElem?, Array.getElem?_setIfInBounds_ne hji, hji2]
  refine ⟨by rw [Array.size_setIfInBounds]; exact hm.size, (put_size _ _ _).trans hm.tsize, (put_defs _ _ _).trans hm.defs, fun k hw => ?_, fun k hw => ?_⟩
  · by_cases hd : o.dst = some k
    · rw [hd, put_at, hv k hd, hm.tsize]
    · rw [put_tmps _ _ _ _ hd]
      obtain ⟨j, x, hj, hl, hx⟩ := hw
      rcases (hset j).1 hl with rfl | hl
      · rw [hi] at hj; cases hj; exact absurd hx hd
      · exact hm.wrote k ⟨j, x, hj, hl, hx⟩
  · have hd : o.dst ≠ some k := fun hd => hw ⟨i, o, hi, (hset i).2 (.inl rfl), hd⟩
    rw [put_tmps _ _ _ _ hd]
    exact hm.other k fun ⟨j, x, hj, hl, hx⟩ => hw ⟨j, x, hj, (hset j).2 (.inr hl), hx⟩

theorem text_any (hk : RegOk ops) {a b : Act} (h : InText P ops S ops.toList a b) {Q : Exit → Act → World → Prop} (hQ : ∀ w, S w → Q .normal b w) :
    ∀ (fuel : Nat) (listed : Array Bool) (c : Act) (w : World), unl listed ≤ fuel → Mid ops a b listed c → S w → wpAny P .any ops Q fuel listed c w := by
  have fin : ∀ (listed : Array Bool) (c : Act) (w : World), Region.ready .any ops listed = [] → Mid ops a b listed c → S w → Q .normal c w := by
    intro listed c w hr hm hS
    rw [mid_done hk h hm (ready_or_done hk hm.size hr)]
    exact hQ w hS
  intro fuel
  induction fuel with
  | zero =>
    intro listed c w hu hm hS
    have hr : Region.ready .any ops listed = [] := by
      apply List.eq_nil_iff_forall_not_mem.2
      intro i hi
      obtain ⟨h1, o, ho, _⟩ := mem_ready.1 hi
      have hil := (Array.getElem?_eq_some_iff.1 ho).1
      have hl : listed.toList[i]? = some false := by
        have : i < listed.size := by rw [hm.size]; exact hil
        rw [Array.getElem?_toList]
        simp [Array.getD_eq_getD_getElem?, this] at h1
        simp [this, h1]
      have := unl_set _ _ hl
      unfold unl at hu
      omega
    exact ⟨hr, fin listed c w hr hm hS⟩
  | succ fuel ih =>
    intro listed c w hu hm hS
    refine ⟨fun hr => fin listed c w hr hm hS, fun i hi => ?_⟩
    obtain ⟨h1, o, ho, hall⟩ := mem_ready.1 hi
    have hil := (Array.getElem?_eq_some_iff.1 ho).1
    have hl : listed.toList[i]? = some false := by
      have : i < listed.size := by rw [hm.size]; exact hil
      rw [Array.getElem?_toList]
      simp [Array.getD_eq_getD_getElem?, this] at h1
      simp [this, h1]
    have hu2 : unl (listed.setIfInBounds i true) ≤ fuel := by
      have := unl_set _ _ hl
      unfold unl at hu ⊢
      rw [Array.toList_setIfInBounds]
      omega
    obtain ⟨a1, v, hs, hsz, _, hlk, hv⟩ := step_at hk h ho
    have hag : ∀ t, t ∈ o.looksAt ops → c.tmps[t]? = a1.tmps[t]? := fun t ht => (mid_agree hk h hm ho hall t ht).trans (hlk t ht)
    have hm2 := mid_next hm hk ho hv
    have hK : ∀ w, S w → wpAny P .any ops Q fuel (listed.setIfInBounds i true) (c.put o.dst v) w := fun w hw => ih _ _ w hu2 hm2 hw
    unfold wpOp
    rw [ho]
    show if Region.wanted o (yielded ops c.tmps) = true then _ else _
    unfold StepP at hs
    rw [← wanted_agree hag] at hs
    by_cases hw : Region.wanted o (yielded ops c.tmps) = true
    · rw [if_pos hw] at hs ⊢
      have h2 := hs w hS
      unfold Oper.wp at h2 ⊢
      refine .inl ?_
      rw [execOp_congr o (Region.noSelect_spec hk.sel i o · · ho) (eval_agree hag)]
      exact upon_move (hm.tsize.trans hsz.symm) hK _ h2
    · rw [if_neg hw] at hs ⊢
      rw [← hs]
      exact hK w hS

/-- **The law.** -/
theorem wp_region_text {id : Nat} {Q : Exit → Act → World → Prop} {a b : Act} {w : World} (hm : P.follows .mixedOrders = true) (hk : regOk ops = true) (hS : S w.drew) (h : InText P ops S ops.toList a b) (hQ : ∀ w', S w' → Q .normal b w') :
    (Code.region id ops true).wp P Q a w := by
  refine wp_region_any hm (text_any (regOk_spec hk) h hQ _ _ _ _ ?_ ?_ hS)
  · unfold unl
    simp
  · refine ⟨by simp, rfl, rfl, fun k hw => ?_, fun _ _ => rfl⟩
    obtain ⟨j, o, hj, hl, _⟩ := hw
    have hjl := (Array.getElem?_eq_some_iff.1 hj).1
    simp [Array.getD_eq_getD_getElem?, hjl] at hl

theorem InText.pure {o : Oper} {rest : List Oper} {a b : Act} {v : Value} (hw : Region.wanted o (yielded ops a.tmps) = true) (hy : ∀ w, S w → (execOp a.eval o).run P w = .ok (.value v) w) (h : InText P ops S rest (a.put o.dst v) b) : InText P ops S (o :: rest) a b :=
  ⟨v, by
    rw [if_pos hw]
    intro w hS
    unfold Oper.wp
    rw [hy w hS]
    exact ⟨rfl, hS⟩, h⟩
theorem InText.skip {o : Oper} {rest : List Oper} {a b : Act} (hw : Region.wanted o (yielded ops a.tmps) = false) (h : InText P ops S rest (a.put o.dst undef) b) : InText P ops S (o :: rest) a b :=
  ⟨undef, by rw [if_neg (by rw [hw]; simp)], h⟩
theorem InText.call {o : Oper} {rest : List Oper} {a b : Act} (v : Value) (hw : Region.wanted o (yielded ops a.tmps) = true) (hy : ∀ w, S w → o.wp P a w (fun a' w' => a' = a.put o.dst v ∧ S w') (fun _ _ _ => False)) (h : InText P ops S rest (a.put o.dst v) b) : InText P ops S (o :: rest) a b :=
  ⟨v, by rw [if_pos hw]; exact hy, h⟩
theorem InText.done {a : Act} : InText P ops S [] a a := rfl
end
end Go.Proofs.YtcophfhnhlaonaaGreatDoor
