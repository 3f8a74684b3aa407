/-
  Contracts of SpoilInts and Spoil: they write only to the row that they are handed, and every row keeps its size.
-/
import Derived.Test.YtdpnmepplkiljaaZl
import Derived.Laws.AppendOwnNone
namespace Go.Proofs.Ytdpnmepplkiljaa
open Go.RowKit Go.Shelf

/-- Every row of cells keeps its type and its size. -/
def Keeps (w w' : World) : Prop := ∀ (g : Nat) (cur : Array Value) (e : TypeId), w.heap[g]? = some (.cells cur e (0, 0)) → ∃ cur', w'.heap[g]? = some (.cells cur' e (0, 0)) ∧ cur'.size = cur.size

theorem Keeps.refl (w : World) : Keeps w w := fun _ cur _ h => ⟨cur, h, rfl⟩
theorem Keeps.trans {a b c : World} (h : Keeps a b) (k : Keeps b c) : Keeps a c := fun g cur e hg => by
  obtain ⟨c1, h1, s1⟩ := h g cur e hg
  obtain ⟨c2, h2, s2⟩ := k g c1 e h1
  exact ⟨c2, h2, s2.trans s1⟩
theorem Keeps.of_below {w w' : World} (h : Below w.heap.size w w') : Keeps w w' := fun g cur _ hg => ⟨cur, (h.block g (Array.getElem?_eq_some_iff.1 hg).1).trans hg, rfl⟩
theorem Keeps.alloc (w : World) (o : Obj) : Keeps w (w.alloc o) := Keeps.of_below ((Below.refl _ w).alloc (Nat.le_refl _) o)
theorem Keeps.set (w : World) (g j : Nat) (u : Value) : Keeps w (w.setCell ⟨g, j, none⟩ u) := fun k cur e hk => by
  by_cases hkg : k = g
  · subst hkg
    exact ⟨_, heap_setCell_same w k j cur e u hk, by simp⟩
  · exact ⟨cur, (heap_setCell_other w ⟨g, j, none⟩ k u hkg).trans hk, rfl⟩

theorem Only.setNew {S : Nat → Prop} {A W : World} (h : Only S A W) {p : Addr} (hp : A.heap.size ≤ p.block) (u : Value) : Only S A (W.setCell p u) := by
  refine ⟨h.os, h.tape, h.output, by simpa [World.setCell] using h.size, fun k hk hn => ?_⟩
  exact (Below.heap_setCell _ _ _ _ (fun e => by omega)).trans (h.block k hk hn)

/-- What an append reads: nothing, or cells. -/
def Src (w : World) (v : Value) (news : List Value) : Prop := (v = .slice none 0 0 ∧ news = []) ∨ ∃ ad c, v = .slice (some ad) news.length c ∧ ∀ j u, news[j]? = some u → w.cell? (ad.add j) = some u

theorem Src.of_owns {w : World} {base n : Nat} {e : TypeId} {v : Value} {xs : List Value} (h : w.ownsRow base e 1 v n xs) : Src w v xs := by
  have hl := h.1
  rcases h.2 with ⟨hv, h0⟩ | ⟨g, cap, cur, rfl, _⟩
  · exact .inl ⟨hv, List.length_eq_zero_iff.1 (by omega)⟩
  · exact .inr ⟨⟨g, 0, none⟩, cap, by rw [hl, Nat.mul_one], h.cells rfl⟩

theorem app2_wp {o : Oper} {a : Act} {w : World} {K : Act → World → Prop} {Q : Exit → Act → World → Prop} (s x : Operand) (t : TypeId) (ho : o.op = .call { callee := .builtin .append, args := #[s, x], argTypes := #[t, t] })
    (ht : Try.prog.underlying t = some (.slice 3)) (base : Nat) (v : Value) (n : Nat) (xs : List Value) (hs : a.eval s = v) (hown : w.ownsRow base 3 1 v n xs)
    (sv : Value) (news : List Value) (hx : a.eval x = sv) (hsrc : Src w sv news) (h1 : ∀ u ∈ news, u.oneCell' = true)
    (hbig : n + news.length ≤ 1000) (hbase : base ≤ w.heap.size)
    (h : ∀ v' w', w'.ownsRow base 3 1 v' (n + news.length) (xs ++ news) → Only (fun k => v.ownBlock = some k) w w' → Keeps w w' → (v'.ownBlock = v.ownBlock ∨ ∀ k, v'.ownBlock = some k → w.heap.size ≤ k) → K (a.put o.dst v') w') : o.wp Try.prog a w K Q := by
  obtain ⟨i0, hi, hz0, hz1, hz2⟩ := info_parts Try.info3
  have go : ∀ v' w', (Builtin.append_ #[t, t] o.type #[v, sv]).run Try.prog w = .ok v' w' → K (a.put o.dst v') w' → o.wp Try.prog a w K Q := by
    intro v' w' hr hk
    unfold Oper.wp execOp
    simp only [ho, resolve, invoke, builtin, Sem.run_bind, Sem.run_pure, Result.andThen_ok, List.map_toArray, List.map_cons, List.map_nil, hs, hx, hr]
    exact hk
  rcases hsrc with ⟨rfl, rfl⟩ | ⟨ad, c, rfl, hnews⟩
  · refine go _ _ (run_append_owned_none (P := Try.prog) (w := w) base t o.type 3 i0 1 ht hi v n xs hown) (h _ _ (by simpa using hown) (Only.refl _ _) (Keeps.refl _) (.inl rfl))
  · have hl' : news.length = news.length * 1 := by rw [Nat.mul_one]
    have noneOnly : ∀ {w' : World} {S : Nat → Prop}, w.grownBy w' none → Only S w w' := fun hg => (Only.refl _ w).grown hg (fun k e => by cases e)
    have noneKeeps : ∀ {w' : World}, w.grownBy w' none → Keeps w w' := fun hg g cur e hc => ⟨cur, (hg.block g (Array.getElem?_eq_some_iff.1 hc).1 (by simp)).trans hc, rfl⟩
    rcases hown.2 with ⟨rfl, rfl⟩ | ⟨g, cap, cur, rfl, hg, hcur, hnc, hcm, hcs, htake⟩
    · have hxs : xs = [] := List.length_eq_zero_iff.1 (by have := hown.1; omega)
      subst hxs
      obtain ⟨v', w', hr, h2, h3, _⟩ := run_append_own (P := Try.prog) w w.heap.size t o.type 3 i0 (.int .i64 0) 1 8 ht hi hz0 hz1 hz2 rfl (by decide) (.slice none 0 0) 0 [] (World.ownsRow_nil _ _ _ _) ad news.length c news hl' hnews h1 (by unfold maxLen; omega) (by omega) (Nat.le_refl _)
      exact go v' w' hr (h v' w' (owns_weak h2 hbase) (noneOnly h3) (noneKeeps h3) (.inr fun k e => (h2.lt k e).1))
    · by_cases hroom : n + news.length ≤ cap
      · obtain ⟨w', hr, h2, h3⟩ := run_append_fits (P := Try.prog) w base t o.type 3 i0 1 ht hi hz1 g n cap xs hown ad news.length c news hl' hnews h1 hroom
        refine go _ w' hr (h _ w' h2 ((Only.refl _ w).grown h3 (fun k e _ => by simpa [Value.ownBlock] using e)) (fun k cu e hk => ?_) (.inl rfl))
        by_cases hkg : k = g
        · subst hkg
          rcases h2.2 with ⟨hv, _⟩ | ⟨g', cap', cur', hv, _, hc', _, _, hs', _⟩
          · cases hv
          · cases hv
            rw [hcur] at hk
            cases hk
            exact ⟨cur', hc', by rw [hs', hcs]⟩
        · exact ⟨cu, (h3.block k (Array.getElem?_eq_some_iff.1 hk).1 (by simpa using hkg)).trans hk, rfl⟩
      · obtain ⟨v', w', hr, h2, h3⟩ := run_append_arg_grows (P := Try.prog) w t o.type 3 i0 (.int .i64 0) 1 8 ht hi hz0 hz1 hz2 rfl (by decide) ⟨g, 0, none⟩ n cap xs hown.1 (hown.cells rfl) ad news.length c news hl' hnews (by omega) (by unfold maxLen; omega) (by omega)
        exact go v' w' hr (h v' w' (owns_weak h2 hbase) (noneOnly h3) (noneKeeps h3) (.inr fun k e => (h2.lt k e).1))

theorem app2_list {ops : Array Oper} {rest : List Oper} {o : Oper} {a : Act} {w : World} {Q : Exit → Act → World → Prop} (hgd : o.guard = none) (s x : Operand) (t : TypeId) (ho : o.op = .call { callee := .builtin .append, args := #[s, x], argTypes := #[t, t] })
    (ht : Try.prog.underlying t = some (.slice 3)) (base : Nat) (v : Value) (n : Nat) (xs : List Value) (hs : a.eval s = v) (hown : w.ownsRow base 3 1 v n xs)
    (sv : Value) (news : List Value) (hx : a.eval x = sv) (hsrc : Src w sv news) (h1 : ∀ u ∈ news, u.oneCell' = true)
    (hbig : n + news.length ≤ 1000) (hbase : base ≤ w.heap.size)
    (h : ∀ v' w', w'.ownsRow base 3 1 v' (n + news.length) (xs ++ news) → Only (fun k => v.ownBlock = some k) w w' → Keeps w w' → (v'.ownBlock = v.ownBlock ∨ ∀ k, v'.ownBlock = some k → w.heap.size ≤ k) → wpList Try.prog ops Q rest (a.put o.dst v') w') : wpList Try.prog ops Q (o :: rest) a w :=
  wpList_plain hgd fun _ hK => app2_wp s x t ho ht base v n xs hs hown sv news hx hsrc h1 hbig hbase fun v' w' a b c d => hK _ _ (h v' w' a b c d)

theorem Src.lit (w : World) (u : Value) : Src (w.alloc (.cells #[u] 3)) (.slice (some ⟨w.heap.size, 0, none⟩) 1 1) [u] := .inr ⟨_, 1, rfl, cell_one_new _ _ _⟩

set_option maxRecDepth 100000 in
set_option maxHeartbeats 1000000 in
theorem spoilI_any (v : Value) (n base : Nat) (xs : List Value) (w : World) (hown : w.ownsRow base 3 1 v n xs) (hn : n ≤ 900) (hb : base ≤ w.heap.size) :
    Calls Try.prog 60 #[v] w fun e w' => e = .returned (.tuple #[]) ∧ Only (fun k => v.ownBlock = some k) w w' ∧ Keeps w w' := by
  obtain ⟨a, cp, rfl⟩ := owns_slice hown
  have HO := Lib.hid hown
  clear hown
  go_enter Try.func60, Try.ntmps60
  go_wp2
  go_loopw [2] (fun i wr => ∃ (k : Nat) (xs' : List Value), k ≤ n ∧ i = .int .i64 k ∧ wr.ownsRow base 3 1 (.slice a n cp) n xs' ∧ Only (fun k => Value.ownBlock (.slice a n cp) = some k) w wr ∧ Keeps w wr) (fun i _ => n - (intOf i).toNat)
  case atStart => exact ⟨0, xs, Nat.zero_le _, rfl, HO.out, Only.refl _ _, Keeps.refl _⟩
  case round =>
    obtain ⟨k, xs', hk, rfl, hown, hO, hK⟩ := hrel
    by_cases hkn : k < n
    · obtain ⟨g, cap, hv⟩ := owns_pos hown (by omega)
      cases hv
      have c1 := hown.cellAt k (by omega)
      have f1 := hown.frozenAt k
      have hl : xs'.length = n := by have := hown.1; omega
      rw [List.getElem?_eq_getElem (by omega : k < xs'.length)] at c1
      have HOWN := Lib.hid hown
      have HON := Lib.hid hO
      have HKP := Lib.hid hK
      clear hown hO hK
      go_wp2
      go_roundw
      case rel => exact ⟨k + 1, _, by omega, by go_num, (HOWN.out.stored k _).1, HON.out.setCell (p := ⟨g, k, none⟩) rfl _, HKP.out.trans (Keeps.set _ _ _ _)⟩
      case measure => simp [intOf]; omega
    · have hown2 := hown.alloc (.cells #[.int .i64 (-8)] 3)
      have hsz := hO.size
      have hlt := hown.lt
      have HLT := Lib.hid hlt
      have HON := Lib.hid hO
      have HKP := Lib.hid hK
      have HO2 := Lib.hid hown2
      clear hown hO hK hown2 hlt
      go_wp2_with (at_builtin; refine app2_list rfl _ _ 22 rfl Try.underlying22 base (.slice a n cp) n xs' rfl HO2.out _ [.int .i64 (-8)] rfl (Src.lit wr _) (by simp [Value.oneCell']) (by simp; omega) (by simp; omega) ?_; intro v' w2 hown' hOn hKp hfr; obtain ⟨g', cap', rfl⟩ := owns_pos hown' (by simp); have hc := hown'.cellAt 0 (by simp); have hf := hown'.frozenAt 0; rw [List.getElem?_eq_getElem (by simp : 0 < (xs' ++ [Value.int .i64 (-8)]).length)] at hc; have HOWN' := Lib.hid hown'; have HON2 := Lib.hid hOn; have HKP2 := Lib.hid hKp; have HFR := Lib.hid hfr; clear hown' hOn hKp hfr)
      go_end0
      have o1 := (HON.out.alloc (.cells #[.int .i64 (-8)] 3)).trans HON2.out
      refine ⟨rfl, ?_, (HKP.out.trans (Keeps.alloc _ _)).trans (HKP2.out.trans (Keeps.set _ _ _ _))⟩
      rcases HFR.out with h | h
      · exact o1.setCell (p := ⟨g', 0, none⟩) (h.symm.trans rfl) _
      · have := h g' rfl
        simp at this
        exact o1.setNew (p := ⟨g', 0, none⟩) (by show w.heap.size ≤ g'; omega) _

theorem spoil_any (v : Value) (n base : Nat) (xs : List Value) (w : World) (hown : w.ownsRow base 3 1 v n xs) (hn : n ≤ 900) (hb : base ≤ w.heap.size) :
    Calls Try.prog 49 #[v] w fun e w' => e = .returned (.tuple #[]) ∧ Only (fun k => v.ownBlock = some k) w w' ∧ Keeps w w' := by
  have HK := Lib.hid (spoilI_any v n base xs w hown hn hb)
  clear hown
  go_enter Try.func49, Try.ntmps49
  go_wp2_with fail
  refine HK.out.mono ?_
  rintro e w1 ⟨rfl, h1, h2⟩
  go_wp2_with fail
  go_end0
  exact ⟨rfl, h1, h2⟩
end Go.Proofs.Ytdpnmepplkiljaa
