/-
  Contracts of has, containsTerm of package poly and of slices.Compare at exponents.
-/
import Derived.Test.YtiiopdomlepkmaaDoorPqb
import Derived.Test.YtiiopdomlepkmaaDoorOn
import Derived.Test.YtiiopdomlepkmaaDoorFdg
namespace Go.Proofs.YtiiopdomlepkmaaDoor
set_option linter.unusedVariables false
open Go.RowKit

theorem fst_cell (w : World) (cs : Array Value) (t : TypeId) (o : Obj) (j : Nat) : ((w.alloc (.cells cs t)).alloc o).cell? ⟨w.heap.size, j, none⟩ = cs[j]? := by
  rw [World.cell?_alloc_lt _ _ _ (by simp)]
  exact World.cell?_alloc_new w cs t j
theorem snd_cell (w : World) (o : Obj) (cs : Array Value) (t : TypeId) (j : Nat) : ((w.alloc o).alloc (.cells cs t)).cell? ⟨w.heap.size + 1, j, none⟩ = cs[j]? := by
  exact World.cell?_alloc_at cs t _ j (by simp)

/-- A ring of polynomials as a value. -/
abbrev rg (P M q n : Nat) : Value := .agg #[.int .i64 (P : Int), .int .i64 (M : Int), .int .i64 (q : Int), .int .i64 (n : Int)]

/-- A slice that reads as a list of integers (nil let in). -/
def SlR (w : World) (v : Value) (xs : List Int) : Prop := ∃ A c, v = .slice A xs.length c ∧ RdI w A xs ∧ xs.length ≤ 1152921504606846976

theorem SlR.below {w w' : World} {v : Value} {xs : List Int} (h : SlR w v xs) (hb : Below w.heap.size w w') : SlR w' v xs := by
  obtain ⟨A, c, e, hr, hl⟩ := h
  exact ⟨A, c, e, hr.below hb, hl⟩

set_option maxHeartbeats 1000000 in
theorem has_yes (P M q n : Nat) (c : Int) (w : World) (h0 : 0 ≤ c) (h1 : c < q) :
    Calls Tryd.prog 51 #[rg P M q n, .int .i64 c] w fun e w' => e = .returned (.bool true) ∧ Below w.heap.size w w' := by
  unfold rg
  go_enter Tryd.func51, Tryd.ntmps51
  go_wp2
  go_ret
  exact ⟨rfl, below1 _ _⟩
set_option maxHeartbeats 1000000 in
theorem has_no (P M q n : Nat) (c : Int) (w : World) (h : ¬ InQ q c) :
    Calls Tryd.prog 51 #[rg P M q n, .int .i64 c] w fun e w' => e = .returned (.bool false) ∧ Below w.heap.size w w' := by
  unfold rg
  by_cases h0 : 0 ≤ c
  · have h1 : (q : Int) ≤ c := by
      have : ¬ c < q := fun h2 => h ⟨h0, h2⟩
      omega
    have h2 : decide (c < (q : Int)) = false := by simp; omega
    clear h
    go_enter Tryd.func51, Tryd.ntmps51
    go_wp2
    go_ret
    exact ⟨rfl, below1 _ _⟩
  · clear h
    go_enter Tryd.func51, Tryd.ntmps51
    go_wp2
    go_ret
    exact ⟨rfl, below1 _ _⟩

def OkT (q n : Nat) (c : Int) (E : List Int) : Prop := 0 < c ∧ c < q ∧ E.length = n ∧ ∀ x ∈ E, 0 ≤ x ∧ x ≤ 65535
def PreE (E : List Int) (k : Nat) : Prop := ∀ j x, j < k → E[j]? = some x → 0 ≤ x ∧ x ≤ 65535
theorem PreE.succ {E : List Int} {k : Nat} {x : Int} (h : PreE E k) (hx : E[k]? = some x) (h1 : 0 ≤ x ∧ x ≤ 65535) : PreE E (k + 1) := fun j y hj hy => by
  rcases Nat.lt_or_ge j k with h2 | h2
  · exact h j y h2 hy
  · have : j = k := by omega
    subst this
    rw [hx] at hy
    cases hy
    exact h1
theorem PreE.all {E : List Int} (h : PreE E E.length) : ∀ x ∈ E, 0 ≤ x ∧ x ≤ 65535 := fun x hx => by
  obtain ⟨j, hj, rfl⟩ := List.getElem_of_mem hx
  exact h j _ hj (List.getElem?_eq_getElem hj)

def TermIs (q n : Nat) (c : Int) (E : List Int) (w : World) (e : Ending) (w' : World) : Prop :=
  Below w.heap.size w w' ∧ (OkT q n c E ∧ e = .returned (.bool true) ∨ ¬ OkT q n c E ∧ e = .returned (.bool false))

set_option maxHeartbeats 2000000 in
theorem term_ok (P M q n : Nat) (c : Int) (sl : Value) (E : List Int) (w : World) (hq : q ≤ 65536) (hn : n ≤ 80) (hE : SlR w sl E) :
    Calls Tryd.prog 75 #[rg P M q n, .agg #[.int .i64 c, sl]] w (TermIs q n c E w) := by
  obtain ⟨A, cp, rfl, hr, hm⟩ := hE
  generalize hL : E.length = L at hm ⊢
  have hB2 := below2 w (.cells #[.int .i64 (P : Int), .int .i64 (M : Int), .int .i64 (q : Int), .int .i64 (n : Int)] 68) (.cells #[.int .i64 c, .slice A L cp] 65)
  have HB := Lib.hid hB2
  have HR := Lib.hid (hr.below hB2)
  have HL := Lib.hid hL
  clear hr hB2 hL
  by_cases h0 : c = 0
  · subst h0
    unfold rg
    go_enter Tryd.func75, Tryd.ntmps75
    go_wp2
    go_ret
    exact ⟨HB.out, .inr ⟨fun h => by have := h.1; omega, rfl⟩⟩
  · have c0 : ((c : Int) == 0) = false := by simpa using h0
    by_cases h1 : InQ q c
    · have HH := Lib.hid (fun w => has_yes P M q n c w h1.1 h1.2)
      unfold rg at HH ⊢
      go_enter Tryd.func75, Tryd.ntmps75
      go_wp2_with fail
      refine (HH.out _).mono ?_
      rintro e w1 ⟨rfl, hB⟩
      have HB1 := Lib.hid (HB.out.trans (hB.mono HB.out.size))
      have HR1 := Lib.hid (HR.out.below hB)
      have hc3 : w1.cell? ⟨w.heap.size, 3, none⟩ = some (.int .i64 (n : Int)) := (hB.cell (by simp; omega)).trans (fst_cell _ _ _ _ _)
      have hd1 : w1.cell? ⟨w.heap.size + 1, 1, none⟩ = some (.slice A L cp) := (hB.cell (by simp)).trans (snd_cell _ _ _ _ _)
      clear hB
      by_cases hn2 : L = n
      · have e1 : ((L : Int) != (n : Int)) = false := by rw [hn2]; simp
        have HLN := Lib.hid hn2
        clear hn2
        go_wp2_with fail
        go_loop [6, 28] (fun _ i => ∃ k : Nat, k ≤ L ∧ i = .int .i64 k ∧ PreE E k) (fun _ i => L - (intOf i).toNat)
        case atStart => exact ⟨0, by omega, rfl, fun j x hj => by omega⟩
        case round =>
          obtain ⟨k, hk, rfl, hpre⟩ := hrel
          have HP := Lib.hid hpre
          clear hpre
          by_cases hlt : k < L
          · have hxk : E[k]? = some (E[k]'(by rw [HL.out]; exact hlt)) := List.getElem?_eq_getElem _
            obtain ⟨x, hx⟩ : ∃ x, x = E[k]'(by rw [HL.out]; exact hlt) := ⟨_, rfl⟩
            rw [← hx] at hxk
            obtain ⟨a, rfl, hcell⟩ := HR1.out k x hxk
            have HX := Lib.hid hxk
            clear hx hxk
            by_cases h2 : x < 0
            · go_wp2_with fail
              go_ret
              exact ⟨HB1.out, .inr ⟨fun h => by have := h.2.2.2 x (List.mem_of_getElem? HX.out); omega, rfl⟩⟩
            · by_cases h3 : x ≤ 65535
              · go_wp2_with fail
                go_round
                case rel => exact ⟨k + 1, by omega, by go_num, HP.out.succ HX.out ⟨by omega, h3⟩⟩
                case measure => simp [intOf]; omega
              · go_wp2_with fail
                go_ret
                exact ⟨HB1.out, .inr ⟨fun h => by have := h.2.2.2 x (List.mem_of_getElem? HX.out); omega, rfl⟩⟩
          · have hkn : k = E.length := by rw [HL.out]; omega
            have HP2 := Lib.hid (hkn ▸ HP.out : PreE E E.length)
            clear hkn
            go_wp2
            go_ret
            exact ⟨HB1.out, .inl ⟨⟨by have := h1.1; omega, h1.2, by rw [HL.out]; exact HLN.out, HP2.out.all⟩, rfl⟩⟩
      · have e1 : ((L : Int) != (n : Int)) = true := by simp; omega
        have HLN := Lib.hid hn2
        clear hn2
        go_wp2_with fail
        go_ret
        exact ⟨HB1.out, .inr ⟨fun h => HLN.out (by rw [← HL.out]; exact h.2.2.1), rfl⟩⟩
    · have HH := Lib.hid (fun w => has_no P M q n c w h1)
      unfold rg at HH ⊢
      go_enter Tryd.func75, Tryd.ntmps75
      go_wp2_with fail
      refine (HH.out _).mono ?_
      rintro e w1 ⟨rfl, hB⟩
      go_wp2_with fail
      go_ret
      exact ⟨HB.out.trans (hB.mono HB.out.size), .inr ⟨fun h => h1 ⟨by have := h.1; omega, h.2.1⟩, rfl⟩⟩
end Go.Proofs.YtiiopdomlepkmaaDoor
