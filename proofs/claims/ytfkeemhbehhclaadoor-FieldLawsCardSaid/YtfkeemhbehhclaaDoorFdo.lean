/-
  Contracts of isRoot, openRoots, Root and Sum of package field.
-/
import Derived.Test.YtfkeemhbehhclaaDoorFdn
import Derived.Laws.OwnMore
namespace Go.Proofs.YtfkeemhbehhclaaDoor
open Go.RowKit

/-- An element whose k-th power is 1, and no power whose exponent is k divided by a prime. -/
def IsRt (P M k r : Nat) : Prop := powN P M r k = 1 ∧ ∀ d, Pr d → d ∣ k → powN P M r (k / d) ≠ 1
def RootB (P M k r : Nat) (w : World) (e : Ending) (w' : World) : Prop := ∃ b : Bool, e = .returned (.bool b) ∧ (b = true ↔ IsRt P M k r) ∧ w = w'
def NotUpto (P M k r : Nat) (ds : List Nat) (i : Nat) : Prop := ∀ j d, j < i → ds[j]? = some d → powN P M r (k / d) ≠ 1
theorem NotUpto.succ {P M k r i d : Nat} {ds : List Nat} (h : NotUpto P M k r ds i) (hd : ds[i]? = some d) (hn : powN P M r (k / d) ≠ 1) : NotUpto P M k r ds (i + 1) := fun j e hj he => by
  by_cases h1 : j = i
  · subst h1
    rw [hd] at he
    cases he
    exact hn
  · exact h j e (by omega) he
theorem NotUpto.done {P M k r : Nat} {ds : List Nat} (h : NotUpto P M k r ds ds.length) (hp : PrimesOf k ds) (h1 : powN P M r k = 1) : IsRt P M k r := ⟨h1, fun d hd hdk => by
  obtain ⟨j, hj, he⟩ := List.getElem_of_mem (hp.2 d hd hdk)
  exact h j d hj (by rw [List.getElem?_eq_getElem hj, he])⟩
def RdF (w : World) (A : Option Addr) (ds : List Nat) : Prop := ∀ k x : Nat, ds[k]? = some x → ∃ a, A = some a ∧ w.cell? (a.add k) = some (.int .i64 (x : Int))
theorem RdF.of_cells {w w' : World} {A : Option Addr} {xs : List Nat} (h : RdF w A xs) (hc : ∀ p : Addr, p.block < w.heap.size → w'.cell? p = w.cell? p) : RdF w' A xs := fun k x hx => by
  obtain ⟨a, ha, hv⟩ := h k x hx
  exact ⟨a, ha, (hc _ (World.block_lt_of_cell? w _ hv)).trans hv⟩
theorem RdF.below {w w' : World} {A : Option Addr} {xs : List Nat} (h : RdF w A xs) (hb : Below w.heap.size w w') : RdF w' A xs := h.of_cells fun _ hp => hb.cell hp
theorem rdf_of_owns {w : World} {B : Nat} {v : Value} {ds : List Nat} (h : w.ownsRow B 3 1 v ds.length (cellsN ds)) : ∃ A c, v = .slice A ds.length c ∧ RdF w A ds := by
  cases ds with
  | nil =>
    rcases h.2 with ⟨rfl, _⟩ | ⟨g, cap, cur, rfl, _⟩
    · exact ⟨none, 0, rfl, fun k x hx => by cases hx⟩
    · exact ⟨_, _, rfl, fun k x hx => by cases hx⟩
  | cons d t =>
    rcases h.2 with ⟨rfl, h0⟩ | ⟨g, cap, cur, rfl, _⟩
    · simp at h0
    refine ⟨_, _, rfl, fun k x hx => ⟨_, rfl, World.ownsRow.cells h rfl k _ ?_⟩⟩
    rw [cellsN, List.getElem?_map, hx]
    rfl

set_option maxHeartbeats 1000000 in
theorem isRoot_p (q : Nat) (hf : Fld q 1 q) (r k : Nat) (hr : r < q) (hk1 : 1 ≤ k) (hk2 : k ≤ 65536) (A : Option Addr) (c : Nat) (ds : List Nat) (hp : PrimesOf k ds) (hl : ds.length ≤ 65536) (w : World) (hL : Lays w) (hrd : RdF w A ds) :
    Calls Tryd.prog 45 #[.iface 60 (.int .i64 q), .int .i64 r, .int .i64 k, .slice A ds.length c] w (RootB q 1 k r w) := by
  have HPW := Lib.hid (fun j (hj : j ≤ 65536) => power_p q hf r j hr (by omega) w hL)
  have HRD := Lib.hid hrd
  have HP := Lib.hid hp
  obtain ⟨n, hn⟩ : ∃ n, n = ds.length := ⟨_, rfl⟩
  rw [← hn] at hl ⊢
  have HN := Lib.hid hn
  obtain ⟨x, hx⟩ : ∃ x, x = powN q 1 r k := ⟨_, rfl⟩
  have H0 := HPW.out k hk2
  rw [← hx] at H0
  have HX := Lib.hid hx
  have HP0 := Lib.hid H0
  clear hL hf hrd hp hn hx H0
  by_cases h1 : x = 1
  · subst h1
    go_enter Tryd.func45, Tryd.ntmps45
    go_wp2_with fail
    refine HP0.out.mono ?_
    rintro e w1 ⟨rfl, rfl⟩
    go_wp2_with fail
    go_loop [10, 18] (fun _ i => ∃ j : Nat, j ≤ n ∧ i = .int .i64 j ∧ Hid (NotUpto q 1 k r ds j)) (fun _ i => n - (intOf i).toNat)
    case atStart => exact ⟨0, by omega, rfl, fun j d hj => by omega⟩
    case round =>
      obtain ⟨j, hj, rfl, HU⟩ := hrel
      by_cases hlt : j < n
      · have hdj : ds[j]? = some (ds[j]'(by rw [← HN.out]; exact hlt)) := List.getElem?_eq_getElem _
        obtain ⟨d, hd⟩ : ∃ d, d = ds[j]'(by rw [← HN.out]; exact hlt) := ⟨_, rfl⟩
        rw [← hd] at hdj
        obtain ⟨a, rfl, hcell⟩ := HRD.out j d hdj
        have hdm := HP.out.1 d (List.mem_of_getElem? hdj)
        have hd2 := hdm.1.1
        have hdk : d ≤ 65536 := Nat.le_trans (Nat.le_of_dvd (by omega) hdm.2) hk2
        have HD := Lib.hid hdj
        have HDM := Lib.hid hdm
        obtain ⟨y, hy⟩ : ∃ y, y = powN q 1 r (k / d) := ⟨_, rfl⟩
        have H1 := HPW.out (k / d) (Nat.le_trans (Nat.div_le_self _ _) hk2)
        rw [← hy] at H1
        have HY := Lib.hid hy
        have hkd : IntKind.i64.wrap ((k : Int) / (d : Int)) = ((k / d : Nat) : Int) := by rw [(Int.natCast_ediv k d).symm, IntWalk.i64_left]; exact wrap_small _ (Nat.le_trans (Nat.div_le_self _ _) hk2)
        have hkd2 : wrap64 ((k : Int) / (d : Int)) = ((k / d : Nat) : Int) := by rw [← IntWalk.i64_left]; exact hkd
        have H2 : Calls Tryd.prog 42 #[.iface 60 (.int .i64 q), .int .i64 r, .int .i64 (wrap64 ((k : Int) / (d : Int)))] w fun e w' => e = .returned (.int .i64 (y : Nat)) ∧ w = w' := by rw [hkd2]; exact H1
        have HP1 := Lib.hid H2
        clear hd hdj hdm hy H1 H2 hkd hkd2
        by_cases hy1 : y = 1
        · subst hy1
          go_wp2_with fail
          refine HP1.out.mono ?_
          rintro e w1 ⟨rfl, rfl⟩
          go_wp2_with fail
          go_ret
          exact ⟨false, rfl, ⟨(fun h => by cases h), fun h => absurd HY.out.symm (h.2 d HDM.out.1 HDM.out.2)⟩, rfl⟩
        · go_wp2_with fail
          refine HP1.out.mono ?_
          rintro e w1 ⟨rfl, rfl⟩
          go_wp2_with fail
          go_round
          case rel => exact ⟨j + 1, by omega, by go_num, HU.out.succ HD.out (by rw [← HY.out]; exact hy1)⟩
          case measure => simp [intOf]; omega
      · have hjn : j = n := by omega
        subst hjn
        go_wp2_with fail
        go_ret
        have hu := HU.out
        rw [HN.out] at hu
        exact ⟨true, rfl, ⟨fun _ => NotUpto.done hu HP.out HX.out.symm, fun _ => rfl⟩, rfl⟩
  · go_enter Tryd.func45, Tryd.ntmps45
    go_wp2_with fail
    refine HP0.out.mono ?_
    rintro e w1 ⟨rfl, rfl⟩
    go_wp2_with fail
    go_ret
    exact ⟨false, rfl, ⟨(fun h => by cases h), fun h => absurd (HX.out.trans h.1) h1⟩, rfl⟩
set_option maxHeartbeats 1000000 in
theorem isRoot_q (M q : Nat) (hM : 2 ≤ M) (hf : Fld 2 M q) (r k : Nat) (hr : r < q) (hk1 : 1 ≤ k) (hk2 : k ≤ 65536) (A : Option Addr) (c : Nat) (ds : List Nat) (hp : PrimesOf k ds) (hl : ds.length ≤ 65536) (w : World) (hL : Lays w) (hrd : RdF w A ds) :
    Calls Tryd.prog 45 #[.iface 45 (.int .i64 M), .int .i64 r, .int .i64 k, .slice A ds.length c] w (RootB 2 M k r w) := by
  have HPW := Lib.hid (fun j (hj : j ≤ 65536) => power_q M q hM hf r j hr (by omega) w hL)
  have HRD := Lib.hid hrd
  have HP := Lib.hid hp
  obtain ⟨n, hn⟩ : ∃ n, n = ds.length := ⟨_, rfl⟩
  rw [← hn] at hl ⊢
  have HN := Lib.hid hn
  obtain ⟨x, hx⟩ : ∃ x, x = powN 2 M r k := ⟨_, rfl⟩
  have H0 := HPW.out k hk2
  rw [← hx] at H0
  have HX := Lib.hid hx
  have HP0 := Lib.hid H0
  clear hL hf hrd hp hn hx H0
  by_cases h1 : x = 1
  · subst h1
    go_enter Tryd.func45, Tryd.ntmps45
    go_wp2_with fail
    refine HP0.out.mono ?_
    rintro e w1 ⟨rfl, rfl⟩
    go_wp2_with fail
    go_loop [10, 18] (fun _ i => ∃ j : Nat, j ≤ n ∧ i = .int .i64 j ∧ Hid (NotUpto 2 M k r ds j)) (fun _ i => n - (intOf i).toNat)
    case atStart => exact ⟨0, by omega, rfl, fun j d hj => by omega⟩
    case round =>
      obtain ⟨j, hj, rfl, HU⟩ := hrel
      by_cases hlt : j < n
      · have hdj : ds[j]? = some (ds[j]'(by rw [← HN.out]; exact hlt)) := List.getElem?_eq_getElem _
        obtain ⟨d, hd⟩ : ∃ d, d = ds[j]'(by rw [← HN.out]; exact hlt) := ⟨_, rfl⟩
        rw [← hd] at hdj
        obtain ⟨a, rfl, hcell⟩ := HRD.out j d hdj
        have hdm := HP.out.1 d (List.mem_of_getElem? hdj)
        have hd2 := hdm.1.1
        have hdk : d ≤ 65536 := Nat.le_trans (Nat.le_of_dvd (by omega) hdm.2) hk2
        have HD := Lib.hid hdj
        have HDM := Lib.hid hdm
        obtain ⟨y, hy⟩ : ∃ y, y = powN 2 M r (k / d) := ⟨_, rfl⟩
        have H1 := HPW.out (k / d) (Nat.le_trans (Nat.div_le_self _ _) hk2)
        rw [← hy] at H1
        have HY := Lib.hid hy
        have hkd : IntKind.i64.wrap ((k : Int) / (d : Int)) = ((k / d : Nat) : Int) := by rw [(Int.natCast_ediv k d).symm, IntWalk.i64_left]; exact wrap_small _ (Nat.le_trans (Nat.div_le_self _ _) hk2)
        have hkd2 : wrap64 ((k : Int) / (d : Int)) = ((k / d : Nat) : Int) := by rw [← IntWalk.i64_left]; exact hkd
        have H2 : Calls Tryd.prog 42 #[.iface 45 (.int .i64 M), .int .i64 r, .int .i64 (wrap64 ((k : Int) / (d : Int)))] w fun e w' => e = .returned (.int .i64 (y : Nat)) ∧ w = w' := by rw [hkd2]; exact H1
        have HP1 := Lib.hid H2
        clear hd hdj hdm hy H1 H2 hkd hkd2
        by_cases hy1 : y = 1
        · subst hy1
          go_wp2_with fail
          refine HP1.out.mono ?_
          rintro e w1 ⟨rfl, rfl⟩
          go_wp2_with fail
          go_ret
          exact ⟨false, rfl, ⟨(fun h => by cases h), fun h => absurd HY.out.symm (h.2 d HDM.out.1 HDM.out.2)⟩, rfl⟩
        · go_wp2_with fail
          refine HP1.out.mono ?_
          rintro e w1 ⟨rfl, rfl⟩
          go_wp2_with fail
          go_round
          case rel => exact ⟨j + 1, by omega, by go_num, HU.out.succ HD.out (by rw [← HY.out]; exact hy1)⟩
          case measure => simp [intOf]; omega
      · have hjn : j = n := by omega
        subst hjn
        go_wp2_with fail
        go_ret
        have hu := HU.out
        rw [HN.out] at hu
        exact ⟨true, rfl, ⟨fun _ => NotUpto.done hu HP.out HX.out.symm, fun _ => rfl⟩, rfl⟩
  · go_enter Tryd.func45, Tryd.ntmps45
    go_wp2_with fail
    refine HP0.out.mono ?_
    rintro e w1 ⟨rfl, rfl⟩
    go_wp2_with fail
    go_ret
    exact ⟨false, rfl, ⟨(fun h => by cases h), fun h => absurd (HX.out.trans h.1) h1⟩, rfl⟩

def OpenRIs (o : Value) (q : Nat) (k : Int) (w : World) (e : Ending) (w' : World) : Prop :=
  Below w.heap.size w w' ∧ (k < 1 ∧ e = .returned (.tuple #[.nilIface, .int .i64 2]) ∨ (1 ≤ k ∧ ¬ ((q : Int) - 1) % k = 0) ∧ e = .returned (.tuple #[.nilIface, .int .i64 6]) ∨ (1 ≤ k ∧ ((q : Int) - 1) % k = 0) ∧ e = .returned (.tuple #[o, .int .i64 0]))
theorem openRoots_form (P M k : Int) (h : ¬ OkF P M) (w : World) (hL : Lays w) :
    Calls Tryd.prog 43 #[.agg #[.int .i64 P, .int .i64 M], .int .i64 k] w fun e w' => e = .returned (.tuple #[.nilIface, .int .i64 1]) ∧ Below w.heap.size w w' := by
  have H := Lib.hid (fun o v => open_no P M h v _ (hL.below (below1 w o)))
  clear hL h
  go_enter Tryd.func43, Tryd.ntmps43
  go_wp2_with fail
  refine (H.out _ _).mono ?_
  rintro e w1 ⟨rfl, hB⟩
  have HB := Lib.hid ((below1 w _).trans (hB.mono (below1 w _).size))
  clear hB
  go_wp2_with fail
  go_ret2
  exact ⟨rfl, HB.out⟩
set_option maxHeartbeats 400000 in
theorem openRoots_p (q : Nat) (hf : Fld q 1 q) (k : Int) (w : World) (hL : Lays w) :
    Calls Tryd.prog 43 #[.agg #[.int .i64 (q : Int), .int .i64 1], .int .i64 k] w (OpenRIs (.iface 60 (.int .i64 q)) q k w) := by
  have H := Lib.hid (fun o => open_p q hf none [] 0 0 rfl (by omega) _ (hL.below (below1 w o)) (RdI.nil _ _))
  have HM := Lib.hid (fun w => p_order q w)
  have hmm := m_order_p q
  have hq2 := hf.q_ge
  have hq3 := hf.q_le
  clear hL hf
  by_cases h1 : k < 1
  · go_enter Tryd.func43, Tryd.ntmps43
    go_wp2_with fail
    refine (H.out _).mono ?_
    rintro e w1 ⟨hB, ⟨hO, rfl⟩ | ⟨hO, rfl⟩⟩
    case inr =>
      obtain ⟨x, hx, _⟩ := hO
      cases hx
    have HB := Lib.hid ((below1 w _).trans (hB.mono (below1 w _).size))
    clear hB hO
    go_wp2_with fail
    go_ret2
    exact ⟨HB.out, .inl ⟨by omega, rfl⟩⟩
  · have h1' : 1 ≤ k := by omega
    by_cases h2 : ((q : Int) - 1) % k = 0
    · go_enter Tryd.func43, Tryd.ntmps43
      go_wp2_with fail
      refine (H.out _).mono ?_
      rintro e w1 ⟨hB, ⟨hO, rfl⟩ | ⟨hO, rfl⟩⟩
      case inr =>
        obtain ⟨x, hx, _⟩ := hO
        cases hx
      have HB := Lib.hid ((below1 w _).trans (hB.mono (below1 w _).size))
      clear hB hO
      go_wp2_with fail
      refine (HM.out _).mono ?_
      rintro e w2 ⟨rfl, rfl⟩
      go_wp2_with fail
      go_ret2
      exact ⟨HB.out, .inr (.inr ⟨⟨by omega, h2⟩, rfl⟩)⟩
    · go_enter Tryd.func43, Tryd.ntmps43
      go_wp2_with fail
      refine (H.out _).mono ?_
      rintro e w1 ⟨hB, ⟨hO, rfl⟩ | ⟨hO, rfl⟩⟩
      case inr =>
        obtain ⟨x, hx, _⟩ := hO
        cases hx
      have HB := Lib.hid ((below1 w _).trans (hB.mono (below1 w _).size))
      clear hB hO
      go_wp2_with fail
      refine (HM.out _).mono ?_
      rintro e w2 ⟨rfl, rfl⟩
      go_wp2_with fail
      go_ret2
      exact ⟨HB.out, .inr (.inl ⟨⟨by omega, h2⟩, rfl⟩)⟩
set_option maxHeartbeats 400000 in
theorem openRoots_q (M q : Nat) (hM : 2 ≤ M) (hf : Fld 2 M q) (k : Int) (w : World) (hL : Lays w) :
    Calls Tryd.prog 43 #[.agg #[.int .i64 2, .int .i64 (M : Int)], .int .i64 k] w (OpenRIs (.iface 45 (.int .i64 M)) q k w) := by
  have H := Lib.hid (fun o => open_q M q hM hf none [] 0 0 rfl (by omega) _ (hL.below (below1 w o)) (RdI.nil _ _))
  have HM := Lib.hid (fun w => q_order M q hf.m_le (hf.q_eq hM) w)
  have hmm := m_order_q M
  have hq2 := hf.q_ge
  have hq3 := hf.q_le
  clear hL hf
  by_cases h1 : k < 1
  · go_enter Tryd.func43, Tryd.ntmps43
    go_wp2_with fail
    refine (H.out _).mono ?_
    rintro e w1 ⟨hB, ⟨hO, rfl⟩ | ⟨hO, rfl⟩⟩
    case inr =>
      obtain ⟨x, hx, _⟩ := hO
      cases hx
    have HB := Lib.hid ((below1 w _).trans (hB.mono (below1 w _).size))
    clear hB hO
    go_wp2_with fail
    go_ret2
    exact ⟨HB.out, .inl ⟨by omega, rfl⟩⟩
  · have h1' : 1 ≤ k := by omega
    by_cases h2 : ((q : Int) - 1) % k = 0
    · go_enter Tryd.func43, Tryd.ntmps43
      go_wp2_with fail
      refine (H.out _).mono ?_
      rintro e w1 ⟨hB, ⟨hO, rfl⟩ | ⟨hO, rfl⟩⟩
      case inr =>
        obtain ⟨x, hx, _⟩ := hO
        cases hx
      have HB := Lib.hid ((below1 w _).trans (hB.mono (below1 w _).size))
      clear hB hO
      go_wp2_with fail
      refine (HM.out _).mono ?_
      rintro e w2 ⟨rfl, rfl⟩
      go_wp2_with fail
      go_ret2
      exact ⟨HB.out, .inr (.inr ⟨⟨by omega, h2⟩, rfl⟩)⟩
    · go_enter Tryd.func43, Tryd.ntmps43
      go_wp2_with fail
      refine (H.out _).mono ?_
      rintro e w1 ⟨hB, ⟨hO, rfl⟩ | ⟨hO, rfl⟩⟩
      case inr =>
        obtain ⟨x, hx, _⟩ := hO
        cases hx
      have HB := Lib.hid ((below1 w _).trans (hB.mono (below1 w _).size))
      clear hB hO
      go_wp2_with fail
      refine (HM.out _).mono ?_
      rintro e w2 ⟨rfl, rfl⟩
      go_wp2_with fail
      go_ret2
      exact ⟨HB.out, .inr (.inl ⟨⟨by omega, h2⟩, rfl⟩)⟩

end Go.Proofs.YtfkeemhbehhclaaDoor
