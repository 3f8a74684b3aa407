/-
  Contract of open of package field: at a valid field it returns the field's operations, or the error for what is no element.
-/
import Derived.Test.YtiiopdomlepkmaaDoorFdc
namespace Go.Proofs.YtiiopdomlepkmaaDoor
open Go.RowKit

/-- A valid field: its characteristic, its degree, its order. -/
def Fld (P M q : Nat) : Prop := (M = 1 ∧ Pr P ∧ P ≤ 65536 ∧ q = P) ∨ (P = 2 ∧ 2 ≤ M ∧ M ≤ 16 ∧ q = 2 ^ M)

theorem Fld.ok {P M q : Nat} (h : Fld P M q) : OkF P M := by
  rcases h with ⟨rfl, h1, h2, rfl⟩ | ⟨rfl, h1, h2, rfl⟩
  · by_cases h0 : q = 2
    · subst h0; exact .inl ⟨rfl, by omega, by omega⟩
    · exact .inr ⟨by omega, rfl, by have := h1.1; omega, by omega, h1⟩
  · exact .inl ⟨rfl, by omega, by omega⟩

theorem OkF.fld {P M : Int} (h : OkF P M) : ∃ P' M' q : Nat, P = P' ∧ M = M' ∧ Fld P' M' q := by
  rcases h with ⟨rfl, h1, h2⟩ | ⟨h0, rfl, h1, h2, h3⟩
  · by_cases h0 : M = 1
    · exact ⟨2, 1, 2, rfl, h0, .inl ⟨rfl, pr_two, by omega, rfl⟩⟩
    · exact ⟨2, M.toNat, 2 ^ M.toNat, rfl, by omega, .inr ⟨rfl, by omega, by omega, rfl⟩⟩
  · exact ⟨P.toNat, 1, P.toNat, by omega, rfl, .inl ⟨rfl, h3, by omega, rfl⟩⟩

theorem Fld.q_le {P M q : Nat} (h : Fld P M q) : q ≤ 65536 := by
  rcases h with ⟨rfl, h1, h2, rfl⟩ | ⟨rfl, h1, h2, rfl⟩
  · exact h2
  · exact pow16 h2
theorem Fld.m_le {P M q : Nat} (h : Fld P M q) : M ≤ 16 := by
  rcases h with ⟨rfl, _⟩ | ⟨_, _, h2, _⟩
  · omega
  · exact h2
theorem Fld.q_eq {P M q : Nat} (h : Fld P M q) (hM : 2 ≤ M) : q = 2 ^ M := by
  rcases h with ⟨rfl, _⟩ | ⟨_, _, _, h3⟩
  · omega
  · exact h3
theorem Fld.q_ge {P M q : Nat} (h : Fld P M q) : 2 ≤ q := by
  rcases h with ⟨rfl, h1, h2, rfl⟩ | ⟨rfl, h1, h2, rfl⟩
  · exact h1.1
  · have : 2 ^ 1 ≤ 2 ^ M := Nat.pow_le_pow_right (by omega) (by omega)
    exact this

/-- A list of integers behind a slice's address. -/
def RdI (w : World) (A : Option Addr) (xs : List Int) : Prop := ∀ k x, xs[k]? = some x → ∃ a, A = some a ∧ w.cell? (a.add k) = some (.int .i64 x)

theorem RdI.nil (w : World) (A : Option Addr) : RdI w A [] := fun k x h => by simp at h
theorem RdI.of_cells {w w' : World} {A : Option Addr} {xs : List Int} (h : RdI w A xs) (hc : ∀ p : Addr, p.block < w.heap.size → w'.cell? p = w.cell? p) : RdI w' A xs := fun k x hx => by
  obtain ⟨a, ha, hv⟩ := h k x hx
  exact ⟨a, ha, (hc _ (World.block_lt_of_cell? w _ hv)).trans hv⟩
theorem RdI.below {w w' : World} {A : Option Addr} {xs : List Int} (h : RdI w A xs) (hb : Below w.heap.size w w') : RdI w' A xs := h.of_cells fun _ hp => hb.cell hp

def InQ (q : Nat) (x : Int) : Prop := 0 ≤ x ∧ x < q
def OpenIs (o : Value) (q : Nat) (xs : List Int) (w : World) (e : Ending) (w' : World) : Prop :=
  Below w.heap.size w w' ∧ ((∀ x ∈ xs, InQ q x) ∧ e = .returned (.tuple #[o, .int .i64 0]) ∨ (∃ x ∈ xs, ¬ InQ q x) ∧ e = .returned (.tuple #[.nilIface, .int .i64 2]))

def PreQ (q : Nat) (xs : List Int) (k : Nat) : Prop := ∀ j x, j < k → xs[j]? = some x → InQ q x
theorem PreQ.succ {q : Nat} {xs : List Int} {k : Nat} {x : Int} (h : PreQ q xs k) (hx : xs[k]? = some x) (hq : InQ q x) : PreQ q xs (k + 1) := fun j y hj hy => by
  rcases Nat.lt_or_ge j k with h1 | h1
  · exact h j y h1 hy
  · have : j = k := by omega
    subst this
    rw [hx] at hy
    cases hy
    exact hq
theorem PreQ.all {q : Nat} {xs : List Int} (h : PreQ q xs xs.length) : ∀ x ∈ xs, InQ q x := fun x hx => by
  obtain ⟨j, hj, rfl⟩ := List.getElem_of_mem hx
  exact h j _ hj (List.getElem?_eq_getElem hj)

theorem m_order_q (M : Int) (w : World) (n : Nat) : (method (n + 1) 134 (.int .i64 M) "commodatum/field.order").run Tryd.prog w = .ok (146, .int .i64 M) w := by kernel_rfl
theorem m_order_p (P : Int) (w : World) (n : Nat) : (method (n + 1) 133 (.int .i64 P) "commodatum/field.order").run Tryd.prog w = .ok (141, .int .i64 P) w := by kernel_rfl

set_option maxHeartbeats 1000000 in
theorem open_p (q : Nat) (hf : Fld q 1 q) (A : Option Addr) (xs : List Int) (n c : Nat) (hn : xs.length = n) (hn2 : n ≤ 100) (w : World) (hL : Lays w) (hr : RdI w A xs) :
    Calls Tryd.prog 74 #[.agg #[.int .i64 (q : Int), .int .i64 1], .slice A n c] w (OpenIs (.iface 133 (.int .i64 q)) q xs w) := by
  have hB1 : Below w.heap.size w (w.alloc (.cells #[.int .i64 (q : Int), .int .i64 1] 23)) := (Below.refl w.heap.size w).alloc (Nat.le_refl _) _
  have HV := Lib.hid (valid_yes (q : Int) 1 _ (hL.below hB1) hf.ok)
  have HR := Lib.hid hr
  have HB1 := Lib.hid hB1
  have hq2 := hf.q_ge
  have hq3 := hf.q_le
  have HQ := Lib.hid (fun w => p_order q w)
  clear hL hr hB1 hf 
  have hmo := m_order_p q
  go_enter Tryd.func74, Tryd.ntmps74
  go_wp2_with fail
  refine HV.out.mono ?_
  rintro e w1 ⟨rfl, hB⟩
  have HB2 := Lib.hid (HB1.out.trans (hB.mono HB1.out.size))
  have hcc : w1.cell? ⟨w.heap.size, 0, none⟩ = some (.int .i64 (q : Int)) := (hB.cell (by simp)).trans (by simp [World.cell?_alloc_at])
  have hcd : w1.cell? ⟨w.heap.size, 1, none⟩ = some (.int .i64 1) := (hB.cell (by simp)).trans (by simp [World.cell?_alloc_at])
  clear HB1 hB
  go_wp2_with fail
  refine (opsOf_one _ _).mono ?_
  rintro e w2 ⟨rfl, hB⟩
  have HB3 := Lib.hid (HB2.out.trans (hB.mono HB2.out.size))
  clear HB2 hB hcc hcd HV
  have hr2 := HR.out.below HB3.out
  have HR2 := Lib.hid hr2
  clear hr2 HR
  go_wp2_with fail
  go_loop [8, 16] (fun _ i => ∃ k : Nat, k ≤ n ∧ i = .int .i64 k ∧ PreQ q xs k) (fun _ i => n - (intOf i).toNat)
  case atStart => exact ⟨0, by omega, rfl, fun j x hj => by omega⟩
  case round =>
    obtain ⟨k, hk, rfl, hpre⟩ := hrel
    have HP := Lib.hid hpre
    clear hpre
    by_cases hlt : k < n
    · have hxk : xs[k]? = some (xs[k]'(by omega)) := List.getElem?_eq_getElem (by omega)
      obtain ⟨x, hx⟩ : ∃ x, x = xs[k]'(by omega) := ⟨_, rfl⟩
      rw [← hx] at hxk
      obtain ⟨a, rfl, hcell⟩ := HR2.out k x hxk
      have HX := Lib.hid hxk
      clear hx hxk
      by_cases h1 : x < 0
      · go_wp2_with fail
        go_ret2
        exact ⟨HB3.out, .inr ⟨⟨x, List.mem_of_getElem? HX.out, fun h => by have := h.1; omega⟩, rfl⟩⟩
      · by_cases h2 : x < q
        · go_wp2_with (go_at_call 141; refine (HQ.out _).mono ?_; rintro e w3 ⟨rfl, rfl⟩)
          go_round
          case rel => exact ⟨k + 1, by omega, by go_num, HP.out.succ HX.out ⟨by omega, h2⟩⟩
          case measure => simp [intOf]; omega
        · go_wp2_with (go_at_call 141; refine (HQ.out _).mono ?_; rintro e w3 ⟨rfl, rfl⟩)
          go_ret2
          exact ⟨HB3.out, .inr ⟨⟨x, List.mem_of_getElem? HX.out, fun h => by have := h.2; omega⟩, rfl⟩⟩
    · have hkn : k = n := by omega
      subst hkn
      go_wp2
      go_ret2
      have hpre := HP.out
      subst hn
      exact ⟨HB3.out, .inl ⟨hpre.all, rfl⟩⟩

set_option maxHeartbeats 1000000 in
theorem open_q (M q : Nat) (hM : 2 ≤ M) (hf : Fld 2 M q) (A : Option Addr) (xs : List Int) (n c : Nat) (hn : xs.length = n) (hn2 : n ≤ 100) (w : World) (hL : Lays w) (hr : RdI w A xs) :
    Calls Tryd.prog 74 #[.agg #[.int .i64 2, .int .i64 (M : Int)], .slice A n c] w (OpenIs (.iface 134 (.int .i64 M)) q xs w) := by
  have hB1 : Below w.heap.size w (w.alloc (.cells #[.int .i64 2, .int .i64 (M : Int)] 23)) := (Below.refl w.heap.size w).alloc (Nat.le_refl _) _
  have HV := Lib.hid (valid_yes 2 (M : Int) _ (hL.below hB1) hf.ok)
  have HR := Lib.hid hr
  have HB1 := Lib.hid hB1
  have hq2 := hf.q_ge
  have hq3 := hf.q_le
  have HQ := Lib.hid (fun w => q_order M q (hf.m_le) (hf.q_eq hM) w)
  clear hL hr hB1 hf 
  have hmo := m_order_q M
  go_enter Tryd.func74, Tryd.ntmps74
  go_wp2_with fail
  refine HV.out.mono ?_
  rintro e w1 ⟨rfl, hB⟩
  have HB2 := Lib.hid (HB1.out.trans (hB.mono HB1.out.size))
  have hcc : w1.cell? ⟨w.heap.size, 0, none⟩ = some (.int .i64 2) := (hB.cell (by simp)).trans (by simp [World.cell?_alloc_at])
  have hcd : w1.cell? ⟨w.heap.size, 1, none⟩ = some (.int .i64 (M : Int)) := (hB.cell (by simp)).trans (by simp [World.cell?_alloc_at])
  clear HB1 hB
  go_wp2_with fail
  refine (opsOf_more _ _ (by omega) _).mono ?_
  rintro e w2 ⟨rfl, hB⟩
  have HB3 := Lib.hid (HB2.out.trans (hB.mono HB2.out.size))
  clear HB2 hB hcc hcd HV
  have hr2 := HR.out.below HB3.out
  have HR2 := Lib.hid hr2
  clear hr2 HR
  go_wp2_with fail
  go_loop [8, 16] (fun _ i => ∃ k : Nat, k ≤ n ∧ i = .int .i64 k ∧ PreQ q xs k) (fun _ i => n - (intOf i).toNat)
  case atStart => exact ⟨0, by omega, rfl, fun j x hj => by omega⟩
  case round =>
    obtain ⟨k, hk, rfl, hpre⟩ := hrel
    have HP := Lib.hid hpre
    clear hpre
    by_cases hlt : k < n
    · have hxk : xs[k]? = some (xs[k]'(by omega)) := List.getElem?_eq_getElem (by omega)
      obtain ⟨x, hx⟩ : ∃ x, x = xs[k]'(by omega) := ⟨_, rfl⟩
      rw [← hx] at hxk
      obtain ⟨a, rfl, hcell⟩ := HR2.out k x hxk
      have HX := Lib.hid hxk
      clear hx hxk
      by_cases h1 : x < 0
      · go_wp2_with fail
        go_ret2
        exact ⟨HB3.out, .inr ⟨⟨x, List.mem_of_getElem? HX.out, fun h => by have := h.1; omega⟩, rfl⟩⟩
      · by_cases h2 : x < q
        · go_wp2_with (go_at_call 146; refine (HQ.out _).mono ?_; rintro e w3 ⟨rfl, rfl⟩)
          go_round
          case rel => exact ⟨k + 1, by omega, by go_num, HP.out.succ HX.out ⟨by omega, h2⟩⟩
          case measure => simp [intOf]; omega
        · go_wp2_with (go_at_call 146; refine (HQ.out _).mono ?_; rintro e w3 ⟨rfl, rfl⟩)
          go_ret2
          exact ⟨HB3.out, .inr ⟨⟨x, List.mem_of_getElem? HX.out, fun h => by have := h.2; omega⟩, rfl⟩⟩
    · have hkn : k = n := by omega
      subst hkn
      go_wp2
      go_ret2
      have hpre := HP.out
      subst hn
      exact ⟨HB3.out, .inl ⟨hpre.all, rfl⟩⟩

/-- What all functions of package field begin with. -/
theorem open_no (P M : Int) (h : ¬ OkF P M) (v : Value) (w : World) (hL : Lays w) :
    Calls Tryd.prog 74 #[.agg #[.int .i64 P, .int .i64 M], v] w fun e w' => e = .returned (.tuple #[.nilIface, .int .i64 1]) ∧ Below w.heap.size w w' := by
  have hB1 : Below w.heap.size w (w.alloc (.cells #[.int .i64 P, .int .i64 M] 23)) := (Below.refl w.heap.size w).alloc (Nat.le_refl _) _
  have HV := Lib.hid (valid_no P M _ (hL.below hB1) h)
  have HB1 := Lib.hid hB1
  clear hL hB1 h
  go_enter Tryd.func74, Tryd.ntmps74
  go_wp2_with fail
  refine HV.out.mono ?_
  rintro e w1 ⟨rfl, hB⟩
  have HB2 := Lib.hid (HB1.out.trans (hB.mono HB1.out.size))
  clear HB1 hB HV
  go_wp2_with fail
  go_ret2
  exact ⟨rfl, HB2.out⟩
end Go.Proofs.YtiiopdomlepkmaaDoor
