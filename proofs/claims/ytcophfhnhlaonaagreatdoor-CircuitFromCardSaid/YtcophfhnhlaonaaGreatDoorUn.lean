/-
  Joined from Fmi, Fmj, Fmk: see there.
-/
import Derived.Test.YtcophfhnhlaonaaGreatDoorUm
namespace Go.Proofs.YtcophfhnhlaonaaGreatDoor
set_option linter.unusedVariables false
open Go.RowKit

def permN (sh : List Sh) (k n : Int) (len : Nat) : Bool :=
  match sh[k.toNat]? with
  | some s => decide (0 ≤ k) && decide (0 ≤ n) && decide (n < (s.num : Int)) && decide (len = s.kids)
  | none => false
/-- The measures: nodes, inputs, size. -/
structure Ms where
  nodes : Nat
  inputs : Nat
  size : Nat
def Ms.step (m : Ms) (k n : Int) (len : Nat) : Ms :=
  ⟨m.nodes, if k = 0 then max m.inputs (n + 1).toNat else m.inputs, if len = 0 then m.size + 1 else m.size⟩
def depAt (sh : List Sh) (k : Int) : Nat := (sh[k.toNat]?.map Sh.dep).getD 0
mutual
def visN (sh : List Sh) : Tre → Nat → Ms → Option Nat × Ms
  | .mk k n ts, nest, m =>
    if 20000 < m.nodes + 1 ∨ 1000 < nest ∨ permN sh k n ts.length = false then (none, { m with nodes := m.nodes + 1 })
    else
      match visL sh ts (nest + 1) (Ms.step { m with nodes := m.nodes + 1 } k n ts.length) 0 with
      | (none, m') => (none, m')
      | (some d, m') => (some (d + depAt sh k), m')
def visL (sh : List Sh) : List Tre → Nat → Ms → Nat → Option Nat × Ms
  | [], _, m, d => (some d, m)
  | t :: ts, nest, m, d =>
    match visN sh t nest m with
    | (none, m') => (none, m')
    | (some x, m') => visL sh ts nest m' (max d x)
end
theorem permN_of {sh : List Sh} {k n : Int} {len : Nat} (h : permN sh k n len = true) : ∃ s, sh[k.toNat]? = some s ∧ 0 ≤ k ∧ 0 ≤ n ∧ n < (s.num : Int) ∧ len = s.kids := by
  unfold permN at h
  split at h
  · rename_i s hs
    simp only [Bool.and_eq_true, decide_eq_true_eq] at h
    exact ⟨s, hs, h.1.1.1, h.1.1.2, h.1.2, h.2⟩
  · simp at h
/-- What the visit's numbers are bounded by. -/
def MsOk (m : Ms) : Prop := m.nodes ≤ 20000 ∧ m.size ≤ m.nodes ∧ m.inputs ≤ 65536
mutual
theorem visN_ok {sh : List Sh} (hd : ∀ s ∈ sh, s.dep ≤ 2) (hn : ∀ s ∈ sh, s.num ≤ 65536) : ∀ {t : Tre} {nest : Nat} {m m' : Ms} {d : Nat}, MsOk m → visN sh t nest m = (some d, m') → MsOk m' ∧ nest ≤ 1000 ∧ d ≤ 2 * (1001 - nest)
  | .mk k n ts, nest, m, m', d, hm, h => by
    unfold visN at h
    split at h
    · simp at h
    · rename_i hc
      obtain ⟨s, hs, hk0, hn0, hn1, hlen⟩ := permN_of (sh := sh) (k := k) (n := n) (len := ts.length) (by cases hp : permN sh k n ts.length; exact absurd (.inr (.inr hp)) hc; rfl)
      have hsn := hn s (List.mem_of_getElem? hs)
      have hdep : depAt sh k ≤ 2 := by simp [depAt, hs]; exact hd s (List.mem_of_getElem? hs)
      have hst : MsOk (Ms.step { m with nodes := m.nodes + 1 } k n ts.length) := by
        obtain ⟨h1, h2, h3⟩ := hm
        refine ⟨?_, ?_, ?_⟩
        · show m.nodes + 1 ≤ 20000; omega
        · show (if ts.length = 0 then m.size + 1 else m.size) ≤ m.nodes + 1
          split <;> omega
        · show (if k = 0 then max m.inputs (n + 1).toNat else m.inputs) ≤ 65536
          split
          · omega
          · exact h3
      split at h
      · simp at h
      · rename_i d1 m1 h1
        simp at h
        obtain ⟨rfl, rfl⟩ := h
        obtain ⟨a1, a2⟩ := visL_ok hd hn hst (by omega) h1
        refine ⟨a1, by omega, by omega⟩
theorem visL_ok {sh : List Sh} (hd : ∀ s ∈ sh, s.dep ≤ 2) (hn : ∀ s ∈ sh, s.num ≤ 65536) : ∀ {ts : List Tre} {nest : Nat} {m m' : Ms} {d0 d : Nat}, MsOk m → d0 ≤ 2 * (1001 - nest) → visL sh ts nest m d0 = (some d, m') → MsOk m' ∧ d ≤ 2 * (1001 - nest)
  | [], nest, m, m', d0, d, hm, h0, h => by
    unfold visL at h
    simp at h
    obtain ⟨rfl, rfl⟩ := h
    exact ⟨hm, h0⟩
  | t :: ts, nest, m, m', d0, d, hm, h0, h => by
    unfold visL at h
    split at h
    · simp at h
    · rename_i x m1 h1
      obtain ⟨a1, a2, a3⟩ := visN_ok hd hn hm h1
      exact visL_ok hd hn a1 (by omega) h
end

set_option maxRecDepth 100000 in
set_option maxHeartbeats 4000000 in
theorem permits_ok (g f j : Nat) (sh : List Sh) (h6 : sh.length ≤ 6) (k n : Int) (len : Nat) (w : World) (hs : ShR w g sh) :
    Calls Tryz.prog 83 #[langV g sh f j, .int .i64 k, .int .i64 n, .int .i64 (len : Int)] w fun e w' => e = .returned (.bool (permN sh k n len)) ∧ Below w.heap.size w w' := by
  have hb0 := below1 w (.cells #[.slice (some ⟨g, 0, none⟩) sh.length sh.length, .func (Fn.func f) #[] #[], .func (Fn.func j) #[] #[]] 98)
  have HB0 := Lib.hid hb0
  have HS := Lib.hid (hs.below hb0)
  clear hs
  unfold langV
  by_cases hk0 : k < 0
  · have dk : decide (k < 0) = true := decide_eq_true hk0
    have hp : permN sh k n len = false := by
      unfold permN
      split
      · have : ¬ (0 ≤ k) := by omega
        simp [this]
      · rfl
    have HP := Lib.hid hp
    clear hp hb0
    go_enter Tryz.func83, Tryz.ntmps83
    go_wp2_with fail
    go_ret
    exact ⟨by rw [HP.out]; rfl, HB0.out⟩
  · have dk : decide (k < 0) = false := decide_eq_false hk0
    obtain ⟨kn, rfl⟩ : ∃ kn : Nat, k = kn := ⟨k.toNat, by omega⟩
    by_cases hkl : kn < sh.length
    · obtain ⟨s, hs⟩ : ∃ s, sh[kn]? = some s := ⟨_, List.getElem?_eq_getElem hkl⟩
      have dl : decide ((sh.length : Int) ≤ (kn : Int)) = false := decide_eq_false (by omega)
      obtain ⟨e0, e1, e2, e3⟩ := HS.out kn s hs
      have hp : permN sh (kn : Int) n len = (decide (0 ≤ n) && decide (n < (s.num : Int)) && decide (len = s.kids)) := by
        unfold permN
        rw [Int.toNat_natCast, hs]
        simp
      have HP := Lib.hid hp
      have HB1 := Lib.hid (hb0.alloc hb0.size (.cells #[.string ⟨s.op.toArray⟩, .int .i64 (s.num : Int), .int .i64 (s.kids : Int), .int .i64 (s.dep : Int)] 115))
      generalize sh.length = L at *
      clear hp hb0 hs
      go_enter Tryz.func83, Tryz.ntmps83
      by_cases hn0 : 0 ≤ n
      · have dn : decide (0 ≤ n) = true := decide_eq_true hn0
        by_cases hn1 : n < (s.num : Int)
        · have dn1 : decide (n < (s.num : Int)) = true := decide_eq_true hn1
          by_cases hl : len = s.kids
          · have dl1 : ((len : Int) == (s.kids : Int)) = true := by simp [hl]
            have HQ : Hid (permN sh (kn : Int) n len = true) := Lib.hid (by rw [HP.out]; simp [hn0, hn1, hl])
            clear hl
            go_wp2_with fail
            go_ret
            exact ⟨by rw [HQ.out]; rfl, HB1.out⟩
          · have dl1 : ((len : Int) == (s.kids : Int)) = false := by simp; omega
            have HQ : Hid (permN sh (kn : Int) n len = false) := Lib.hid (by rw [HP.out]; simp [hl])
            clear hl
            go_wp2_with fail
            go_ret
            exact ⟨by rw [HQ.out]; rfl, HB1.out⟩
        · have dn1 : decide (n < (s.num : Int)) = false := decide_eq_false hn1
          have HQ : Hid (permN sh (kn : Int) n len = false) := Lib.hid (by rw [HP.out]; simp [hn1])
          go_wp2_with fail
          go_ret
          exact ⟨by rw [HQ.out]; rfl, HB1.out⟩
      · have dn : decide (0 ≤ n) = false := decide_eq_false hn0
        have HQ : Hid (permN sh (kn : Int) n len = false) := Lib.hid (by rw [HP.out]; simp [hn0])
        go_wp2_with fail
        go_ret
        exact ⟨by rw [HQ.out]; rfl, HB1.out⟩
    · have dl : decide ((sh.length : Int) ≤ (kn : Int)) = true := decide_eq_true (by omega)
      have hp : permN sh (kn : Int) n len = false := by
        unfold permN
        rw [Int.toNat_natCast, List.getElem?_eq_none (by omega)]
      have HP := Lib.hid hp
      generalize sh.length = L at *
      clear hp hb0
      go_enter Tryz.func83, Tryz.ntmps83
      go_wp2_with fail
      go_ret
      exact ⟨by rw [HP.out]; rfl, HB0.out⟩
end Go.Proofs.YtcophfhnhlaonaaGreatDoor
namespace Go.Proofs.YtcophfhnhlaonaaGreatDoor
set_option linter.unusedVariables false
open Go.RowKit

theorem visL_append (sh : List Sh) : ∀ (xs bs : List Tre) (nest : Nat) (m : Ms) (d : Nat), visL sh (xs ++ bs) nest m d = (match visL sh xs nest m d with | (none, m') => (none, m') | (some x, m') => visL sh bs nest m' x)
  | [], bs, nest, m, d => by simp [visL]
  | t :: xs, bs, nest, m, d => by
    rw [List.cons_append, visL, visL]
    cases h : visN sh t nest m with
    | mk r m1 =>
      cases r with
      | none => rfl
      | some x => exact visL_append sh xs bs nest m1 (max d x)
theorem visL_next {sh : List Sh} {ts : List Tre} {i : Nat} {t : Tre} (ht : ts[i]? = some t) {nest : Nat} {m m' : Ms} {d x : Nat} (h : visL sh (ts.take i) nest m d = (some x, m')) :
    visL sh (ts.take (i + 1)) nest m d = (match visN sh t nest m' with | (none, m'') => (none, m'') | (some y, m'') => (some (max x y), m'')) := by
  rw [List.take_add_one, ht, visL_append, h]
  simp only [Option.toList_some]
  rw [visL]
  cases h : visN sh t nest m' with
  | mk r m1 => cases r <;> simp [visL]
theorem visL_dead {sh : List Sh} {ts : List Tre} {i : Nat} {nest : Nat} {m m' : Ms} {d : Nat} (h : visL sh (ts.take i) nest m d = (none, m')) : visL sh ts nest m d = (none, m') := by
  have := visL_append sh (ts.take i) (ts.drop i) nest m d
  rw [List.take_append_drop, h] at this
  exact this
/-- The cells of the measures. -/
def MsAt (W : World) (gm : Nat) (m : Ms) : Prop := W.heap[gm]? = some (.cells #[.int .i64 (m.nodes : Int), .int .i64 (m.inputs : Int), .int .i64 (m.size : Int), .int .i64 0] 102 (0, 0))
theorem MsAt.cells {W : World} {gm : Nat} {m : Ms} (h : MsAt W gm m) : (W.cell? ⟨gm, 0, none⟩ = some (.int .i64 (m.nodes : Int)) ∧ W.cell? ⟨gm, 1, none⟩ = some (.int .i64 (m.inputs : Int)) ∧ W.cell? ⟨gm, 2, none⟩ = some (.int .i64 (m.size : Int))) ∧ W.frozen? ⟨gm, 0, none⟩ = false ∧ W.frozen? ⟨gm, 1, none⟩ = false ∧ W.frozen? ⟨gm, 2, none⟩ = false := by
  unfold MsAt at h
  refine ⟨⟨?_, ?_, ?_⟩, ?_, ?_, ?_⟩ <;> simp [World.cell?, World.frozen?, h]
theorem MsAt.put0 {W : World} {gm : Nat} {m : Ms} (h : MsAt W gm m) (x : Nat) : MsAt (W.setCell ⟨gm, 0, none⟩ (.int .i64 (x : Int))) gm { m with nodes := x } := heap_setCell_same W gm 0 _ _ _ h
theorem MsAt.put1 {W : World} {gm : Nat} {m : Ms} (h : MsAt W gm m) (x : Nat) : MsAt (W.setCell ⟨gm, 1, none⟩ (.int .i64 (x : Int))) gm { m with inputs := x } := heap_setCell_same W gm 1 _ _ _ h
theorem MsAt.put2 {W : World} {gm : Nat} {m : Ms} (h : MsAt W gm m) (x : Nat) : MsAt (W.setCell ⟨gm, 2, none⟩ (.int .i64 (x : Int))) gm { m with size := x } := heap_setCell_same W gm 2 _ _ _ h
theorem MsAt.below {W W' : World} {gm : Nat} {m : Ms} (h : MsAt W gm m) (hB : Below W.heap.size W W') : MsAt W' gm m := (hB.block gm (Array.getElem?_eq_some_iff.1 h).1).trans h
theorem kid_size {k n : Int} {ts : List Tre} {t : Tre} (h : t ∈ ts) : SizeOf.sizeOf t < SizeOf.sizeOf (Tre.mk k n ts) := by
  have := List.sizeOf_lt_of_mem h
  simp only [Tre.mk.sizeOf_spec]
  omega

set_option maxRecDepth 100000 in
set_option maxHeartbeats 8000000 in
theorem visit_ok (W0 : World) (g gm : Nat) (sh : List Sh) (h6 : sh.length ≤ 6) (hd : ∀ s ∈ sh, s.dep ≤ 2) (hnm : ∀ s ∈ sh, s.num ≤ 65536) (hkids : ∀ s ∈ sh, s.kids ≤ 2) (hs : ShR W0 g sh) (hgm : W0.heap.size ≤ gm) (f j : Nat) (hf : f = 76) :
    ∀ (N : Nat) (t : Tre), SizeOf.sizeOf t < N → ∀ (v : Value) (nest : Nat) (m : Ms) (w : World), TreV 0 W0 t v → Below W0.heap.size W0 w → MsAt w gm m → MsOk m → nest ≤ 1001 →
    Calls Tryz.prog 78 #[langV g sh f j, v, .int .i64 (nest : Int), .pointer (some ⟨gm, 0, none⟩)] w fun e w' =>
      e = .returned (.tuple #[.int .i64 (((visN sh t nest m).1.getD 0 : Nat) : Int), .bool (visN sh t nest m).1.isSome]) ∧ MsAt w' gm (visN sh t nest m).2 ∧ Only (· = gm) w w' := by
  intro N
  induction N with
  | zero => intro t h; omega
  | succ N ih =>
    intro t htN v nest m w hT hB hM hOk hnest
    obtain ⟨k, n, ts⟩ := t
    have hT2 := hT
    unfold TreV at hT2
    obtain ⟨A, c, rfl, hrow⟩ := hT2
    obtain ⟨w0, hw0⟩ : ∃ w0, w0 = (w.alloc (.cells #[.slice (some ⟨g, 0, none⟩) sh.length sh.length, .func (Fn.func f) #[] #[], .func (Fn.func j) #[] #[]] 98)).alloc (.cells #[.int .i64 k, .int .i64 n, .slice A ts.length c] 24) := ⟨_, rfl⟩
    have hb0 : Below w.heap.size w w0 := by rw [hw0]; exact below2 _ _ _
    have hsz0 : w0.heap.size = w.heap.size + 2 := by rw [hw0]; simp
    have hgmw : gm < w.heap.size := (Array.getElem?_eq_some_iff.1 hM).1
    have hlb : w0.heap[w.heap.size]? = some (.cells #[.slice (some ⟨g, 0, none⟩) sh.length sh.length, .func (Fn.func f) #[] #[], .func (Fn.func j) #[] #[]] 98 (0, 0)) := by
      rw [hw0]; exact alloc_old _ _ _ _ (alloc_at _ _ _ rfl)
    have htb : w0.heap[w.heap.size + 1]? = some (.cells #[.int .i64 k, .int .i64 n, .slice A ts.length c] 24 (0, 0)) := by
      rw [hw0]; exact alloc_at _ _ _ (by simp)
    have HW0 := Lib.hid hw0
    have HB0 := Lib.hid hb0
    have HSZ := Lib.hid (And.intro hsz0 hgmw)
    have HBX := Lib.hid (show ∀ W, Only (· = gm) w0 W → ((W.cell? ⟨w.heap.size, 0, none⟩ = some (.slice (some ⟨g, 0, none⟩) sh.length sh.length) ∧ W.cell? ⟨w.heap.size, 1, none⟩ = some (.func (Fn.func f) #[] #[]) ∧ W.cell? ⟨w.heap.size, 2, none⟩ = some (.func (Fn.func j) #[] #[])) ∧ (W.cell? ⟨w.heap.size + 1, 0, none⟩ = some (.int .i64 k) ∧ W.cell? ⟨w.heap.size + 1, 1, none⟩ = some (.int .i64 n) ∧ W.cell? ⟨w.heap.size + 1, 2, none⟩ = some (.slice A ts.length c))) from fun W ho =>
      ⟨(blk3_cells ((ho.block _ (by omega) (by show ¬ _ = _; omega)).trans hlb)).1, (blk3_cells ((ho.block _ (by omega) (by show ¬ _ = _; omega)).trans htb)).1⟩)
    have HBW : Hid (∀ W, Only (· = gm) w0 W → Below W0.heap.size W0 W) := Lib.hid (fun W ho => (hB.trans (hb0.mono hB.size)).trans (ho.below (Nat.le_trans hB.size hb0.size) (fun k hk => by have hk' : k = gm := hk; omega)))
    have HIH := Lib.hid ih
    have HM := Lib.hid (hM.below hb0)
    have HSP := Lib.hid (fun W => split_ok (.int .i64 k) (.int .i64 n) (.slice A ts.length c) W)
    have HPM := Lib.hid (fun (W : World) (ho : Only (· = gm) w0 W) => permits_ok g f j sh h6 k n ts.length W (hs.below (HBW.out W ho)))
    have HROW := Lib.hid hrow
    have HOK := Lib.hid hOk
    have HS := Lib.hid hs
    obtain ⟨⟨c0, c1, c2⟩, b0, b1, b2⟩ := HBX.out w0 (Only.refl _ _)
    have HTN := Lib.hid htN
    have HD := Lib.hid hd
    have HNM := Lib.hid hnm
    have HKD := Lib.hid hkids
    have hnd : m.nodes ≤ 20000 := hOk.1
    clear ih hlb htb hb0 hw0 hsz0 hgmw hM hrow hs htN hT hB hd hnm hOk hkids
    unfold langV
    rw [hf] at *
    clear hf
    go_enter Tryz.func78, Tryz.ntmps78
    go_wp2_with fail
    rw [← HW0.out]
    refine (HSP.out w0).mono ?_
    rintro e w1 ⟨rfl, hB1⟩
    have ho1 : Only (· = gm) w0 w1 := Only.of_below hB1
    have hM1 := HM.out.below hB1
    obtain ⟨⟨c0, c1, c2⟩, b0, b1, b2⟩ := HBX.out w1 ho1
    obtain ⟨⟨m0, m1, m2⟩, z0, z1, z2⟩ := hM1.cells
    have hM2 : MsAt (w1.setCell ⟨gm, 0, none⟩ (.int .i64 ((m.nodes : Int) + 1))) gm { m with nodes := m.nodes + 1 } := hM1.put0 (m.nodes + 1)
    have ho2 : Only (· = gm) w0 (w1.setCell ⟨gm, 0, none⟩ (.int .i64 ((m.nodes : Int) + 1))) := Only.setCell (S := (· = gm)) (p := ⟨gm, 0, none⟩) ho1 rfl _
    have HM2 := Lib.hid hM2
    have HO2 := Lib.hid ho2
    have hvn : visN sh (.mk k n ts) nest m = if 20000 < m.nodes + 1 ∨ 1000 < nest ∨ permN sh k n ts.length = false then (none, { m with nodes := m.nodes + 1 })
      else
        match visL sh ts (nest + 1) (Ms.step { m with nodes := m.nodes + 1 } k n ts.length) 0 with
        | (none, m') => (none, m')
        | (some d, m') => (some (d + depAt sh k), m') := by
      rw [visN]
      try rfl
    have HVN := Lib.hid hvn
    clear hB1 ho1 hM1 hM2 ho2 hvn
    by_cases h20 : 20000 < m.nodes + 1
    · have dA : decide ((20000 : Int) < (m.nodes : Int) + 1) = true := decide_eq_true (by omega)
      have HR := Lib.hid (HVN.out.trans (if_pos (.inl h20)))
      go_wp2_with fail
      go_ret2
      exact ⟨by rw [HR.out]; rfl, by rw [HR.out]; exact HM2.out, (Only.of_below HB0.out).trans HO2.out⟩
    · have dA : decide ((20000 : Int) < (m.nodes : Int) + 1) = false := decide_eq_false (by omega)
      by_cases hne : 1000 < nest
      · have dB : decide ((1000 : Int) < (nest : Int)) = true := decide_eq_true (by omega)
        have dB' : decide (1000 < nest) = true := decide_eq_true hne
        have HR := Lib.hid (HVN.out.trans (if_pos (.inr (.inl hne))))
        go_wp2_with fail
        go_ret2
        exact ⟨by rw [HR.out]; rfl, by rw [HR.out]; exact HM2.out, (Only.of_below HB0.out).trans HO2.out⟩
      · have dB : decide ((1000 : Int) < (nest : Int)) = false := decide_eq_false (by omega)
        have dB' : decide (1000 < nest) = false := decide_eq_false hne
        have HP2 := Lib.hid (HPM.out _ HO2.out)
        unfold langV at HP2
        obtain ⟨⟨q0, q1, q2⟩, _⟩ := HBX.out _ HO2.out
        cases hpm : permN sh k n ts.length with
        | false =>
          rw [hpm] at HP2
          have HR := Lib.hid (HVN.out.trans (if_pos (.inr (.inr hpm))))
          clear hpm
          go_wp2_with fail
          refine HP2.out.mono ?_
          rintro e w3 ⟨rfl, hB3⟩
          have HF3 := Lib.hid (And.intro (HM2.out.below hB3) (HO2.out.trans (Only.of_below hB3)))
          clear hB3
          go_wp2_with fail
          go_ret2
          exact ⟨by rw [HR.out]; rfl, by rw [HR.out]; exact HF3.out.1, (Only.of_below HB0.out).trans HF3.out.2⟩
        | true =>
          rw [hpm] at HP2
          have HR := Lib.hid (HVN.out.trans (if_neg (by rw [hpm]; simp; omega)))
          have HVN := HR
          obtain ⟨s, hsk, hk0, hn0, hn1, hlen⟩ := permN_of hpm
          have HSN : Hid (sh[k.toNat]? = some s) := Lib.hid hsk
          have hkl : k < (sh.length : Int) := by have := (List.getElem?_eq_some_iff.1 hsk).1; omega
          have hsnum := HNM.out s (List.mem_of_getElem? hsk)
          have hst : MsOk (Ms.step { m with nodes := m.nodes + 1 } k n ts.length) := by
            obtain ⟨h1, h2, h3⟩ := HOK.out
            refine ⟨?_, ?_, ?_⟩
            · show m.nodes + 1 ≤ 20000; omega
            · show (if ts.length = 0 then m.size + 1 else m.size) ≤ m.nodes + 1
              split <;> omega
            · show (if k = 0 then max m.inputs (n + 1).toNat else m.inputs) ≤ 65536
              split
              · omega
              · exact h3
          have HST := Lib.hid hst
          have hbm := HOK.out.2
          have hl2 : ts.length ≤ 2 := by rw [hlen]; exact HKD.out s (List.mem_of_getElem? hsk)
          clear hpm hsk hst hlen
          go_wp2_with fail
          refine HP2.out.mono ?_
          rintro e w3 ⟨rfl, hB3⟩
          have hM3 := HM2.out.below hB3
          have ho3 := HO2.out.trans (Only.of_below hB3)
          obtain ⟨⟨m0, m1, m2⟩, z0, z1, z2⟩ := hM3.cells
          obtain ⟨⟨c0, c1, c2⟩, b0, b1, b2⟩ := HBX.out _ ho3
          by_cases hl0 : ts.length = 0
          · have dl : ((ts.length : Int) == 0) = true := by simp [hl0]
            by_cases hkz : k = 0
            · have dk : ((k : Int) == 0) = true := by simp [hkz]
              have HKZ := Lib.hid hkz
              have hsteq : Ms.step { m with nodes := m.nodes + 1 } k n ts.length = ⟨m.nodes + 1, max m.inputs (n + 1).toNat, m.size + 1⟩ := by simp [Ms.step, hkz, hl0]
              have emax : ((max m.inputs (n + 1).toNat : Nat) : Int) = max (m.inputs : Int) (n + 1) := by omega
              have hmm := (hM3.put2 (m.size + 1)).put1 (max m.inputs (n + 1).toNat)
              rw [emax] at hmm
              have HF : Hid (MsAt ((w3.setCell ⟨gm, 2, none⟩ (.int .i64 ((m.size : Int) + 1))).setCell ⟨gm, 1, none⟩ (.int .i64 (max (m.inputs : Int) (n + 1)))) gm (Ms.step { m with nodes := m.nodes + 1 } k n ts.length) ∧ Only (· = gm) w0 ((w3.setCell ⟨gm, 2, none⟩ (.int .i64 ((m.size : Int) + 1))).setCell ⟨gm, 1, none⟩ (.int .i64 (max (m.inputs : Int) (n + 1))))) := Lib.hid ⟨by rw [hsteq]; exact hmm, Only.setCell (S := (· = gm)) (p := ⟨gm, 1, none⟩) (Only.setCell (S := (· = gm)) (p := ⟨gm, 2, none⟩) ho3 rfl _) rfl _⟩
              clear hsteq hM3 ho3 hB3 hmm emax hkz
              have HSD := Lib.hid (show MsOk (Ms.step { m with nodes := m.nodes + 1 } k n ts.length) from HST.out)
              go_wp2_with fail
              go_loopw [13, 15, 16, 17, 75] (fun dv _ _ _ iv W => ∃ (i d : Nat) (m' : Ms), i ≤ ts.length ∧ iv = .int .i64 i ∧ dv = .int .i64 (d : Int) ∧ visL sh (ts.take i) (nest + 1) (Ms.step { m with nodes := m.nodes + 1 } k n ts.length) 0 = (some d, m') ∧ MsAt W gm m' ∧ Only (· = gm) w0 W) (fun _ _ _ _ iv _ => ts.length - (intOf iv).toNat)
              case atStart => exact ⟨0, 0, Ms.step { m with nodes := m.nodes + 1 } k n ts.length, by omega, rfl, rfl, by simp [visL], HF.out.1, HF.out.2⟩
              case round =>
                clear HF
                obtain ⟨i, d, m', hi, rfl, rfl, hvl, hM', ho'⟩ := hrel
                have HVL := Lib.hid hvl
                have HM' := Lib.hid hM'
                have HO' := Lib.hid ho'
                obtain ⟨⟨c0, c1, c2⟩, b0, b1, b2⟩ := HBX.out _ ho'
                obtain ⟨hok', hdb⟩ := visL_ok HD.out HNM.out HSD.out (Nat.zero_le _) hvl
                have HOK' := Lib.hid hok'
                clear hvl hM' ho' hok'
                by_cases hil : i < ts.length
                · omega
                · have hil2 : ts.take i = ts := List.take_of_length_le (by omega)
                  have hvf := HVL.out
                  rw [hil2] at hvf
                  have HDONE := Lib.hid (show visN sh (.mk k n ts) nest m = (some (d + depAt sh k), m') by rw [HVN.out, hvf])
                  obtain ⟨_, _, _, g3⟩ := (HS.out.below (HBW.out _ HO'.out)) k.toNat s HSN.out
                  have hde : depAt sh k = s.dep := by simp [depAt, HSN.out]
                  have hsd := HD.out s (List.mem_of_getElem? HSN.out)
                  have HDE := Lib.hid hde
                  clear hil2 hvf hde
                  go_wp2_with fail
                  go_ret2
                  exact ⟨by rw [HDONE.out, HDE.out]; rfl, by rw [HDONE.out]; exact HM'.out, (Only.of_below HB0.out).trans HO'.out⟩
            · have dk : ((k : Int) == 0) = false := by simp [hkz]
              have hsteq : Ms.step { m with nodes := m.nodes + 1 } k n ts.length = ⟨m.nodes + 1, m.inputs, m.size + 1⟩ := by simp [Ms.step, hkz, hl0]
              have hmm := hM3.put2 (m.size + 1)
              have HF : Hid (MsAt (w3.setCell ⟨gm, 2, none⟩ (.int .i64 ((m.size : Int) + 1))) gm (Ms.step { m with nodes := m.nodes + 1 } k n ts.length) ∧ Only (· = gm) w0 (w3.setCell ⟨gm, 2, none⟩ (.int .i64 ((m.size : Int) + 1)))) := Lib.hid ⟨by rw [hsteq]; exact hmm, Only.setCell (S := (· = gm)) (p := ⟨gm, 2, none⟩) ho3 rfl _⟩
              clear hsteq hM3 ho3 hB3 hmm
              have HSD := Lib.hid (show MsOk (Ms.step { m with nodes := m.nodes + 1 } k n ts.length) from HST.out)
              go_wp2_with fail
              go_loopw [13, 15, 16, 17, 75] (fun dv _ _ _ iv W => ∃ (i d : Nat) (m' : Ms), i ≤ ts.length ∧ iv = .int .i64 i ∧ dv = .int .i64 (d : Int) ∧ visL sh (ts.take i) (nest + 1) (Ms.step { m with nodes := m.nodes + 1 } k n ts.length) 0 = (some d, m') ∧ MsAt W gm m' ∧ Only (· = gm) w0 W) (fun _ _ _ _ iv _ => ts.length - (intOf iv).toNat)
              case atStart => exact ⟨0, 0, Ms.step { m with nodes := m.nodes + 1 } k n ts.length, by omega, rfl, rfl, by simp [visL], HF.out.1, HF.out.2⟩
              case round =>
                clear HF
                obtain ⟨i, d, m', hi, rfl, rfl, hvl, hM', ho'⟩ := hrel
                have HVL := Lib.hid hvl
                have HM' := Lib.hid hM'
                have HO' := Lib.hid ho'
                obtain ⟨⟨c0, c1, c2⟩, b0, b1, b2⟩ := HBX.out _ ho'
                obtain ⟨hok', hdb⟩ := visL_ok HD.out HNM.out HSD.out (Nat.zero_le _) hvl
                have HOK' := Lib.hid hok'
                clear hvl hM' ho' hok'
                by_cases hil : i < ts.length
                · omega
                · have hil2 : ts.take i = ts := List.take_of_length_le (by omega)
                  have hvf := HVL.out
                  rw [hil2] at hvf
                  have HDONE := Lib.hid (show visN sh (.mk k n ts) nest m = (some (d + depAt sh k), m') by rw [HVN.out, hvf])
                  obtain ⟨_, _, _, g3⟩ := (HS.out.below (HBW.out _ HO'.out)) k.toNat s HSN.out
                  have hde : depAt sh k = s.dep := by simp [depAt, HSN.out]
                  have hsd := HD.out s (List.mem_of_getElem? HSN.out)
                  have HDE := Lib.hid hde
                  clear hil2 hvf hde
                  go_wp2_with fail
                  go_ret2
                  exact ⟨by rw [HDONE.out, HDE.out]; rfl, by rw [HDONE.out]; exact HM'.out, (Only.of_below HB0.out).trans HO'.out⟩
          · have dl : ((ts.length : Int) == 0) = false := by simp; intro h; exact hl0 (by simp [h])
            by_cases hkz : k = 0
            · have dk : ((k : Int) == 0) = true := by simp [hkz]
              have HKZ := Lib.hid hkz
              have hsteq : Ms.step { m with nodes := m.nodes + 1 } k n ts.length = ⟨m.nodes + 1, max m.inputs (n + 1).toNat, m.size⟩ := by simp [Ms.step, hkz, hl0]
              have emax : ((max m.inputs (n + 1).toNat : Nat) : Int) = max (m.inputs : Int) (n + 1) := by omega
              have hmm := hM3.put1 (max m.inputs (n + 1).toNat)
              rw [emax] at hmm
              have HF : Hid (MsAt (w3.setCell ⟨gm, 1, none⟩ (.int .i64 (max (m.inputs : Int) (n + 1)))) gm (Ms.step { m with nodes := m.nodes + 1 } k n ts.length) ∧ Only (· = gm) w0 (w3.setCell ⟨gm, 1, none⟩ (.int .i64 (max (m.inputs : Int) (n + 1))))) := Lib.hid ⟨by rw [hsteq]; exact hmm, Only.setCell (S := (· = gm)) (p := ⟨gm, 1, none⟩) ho3 rfl _⟩
              clear hsteq hM3 ho3 hB3 hmm emax hkz
              have HSD := Lib.hid (show MsOk (Ms.step { m with nodes := m.nodes + 1 } k n ts.length) from HST.out)
              go_wp2_with fail
              go_loopw [13, 15, 16, 17, 75] (fun dv _ _ _ iv W => ∃ (i d : Nat) (m' : Ms), i ≤ ts.length ∧ iv = .int .i64 i ∧ dv = .int .i64 (d : Int) ∧ visL sh (ts.take i) (nest + 1) (Ms.step { m with nodes := m.nodes + 1 } k n ts.length) 0 = (some d, m') ∧ MsAt W gm m' ∧ Only (· = gm) w0 W) (fun _ _ _ _ iv _ => ts.length - (intOf iv).toNat)
              case atStart => exact ⟨0, 0, Ms.step { m with nodes := m.nodes + 1 } k n ts.length, by omega, rfl, rfl, by simp [visL], HF.out.1, HF.out.2⟩
              case round =>
                clear HF
                obtain ⟨i, d, m', hi, rfl, rfl, hvl, hM', ho'⟩ := hrel
                have HVL := Lib.hid hvl
                have HM' := Lib.hid hM'
                have HO' := Lib.hid ho'
                obtain ⟨⟨c0, c1, c2⟩, b0, b1, b2⟩ := HBX.out _ ho'
                obtain ⟨hok', hdb⟩ := visL_ok HD.out HNM.out HSD.out (Nat.zero_le _) hvl
                have HOK' := Lib.hid hok'
                clear hvl hM' ho' hok'
                by_cases hil : i < ts.length
                · obtain ⟨t, ht⟩ : ∃ t, ts[i]? = some t := ⟨_, List.getElem?_eq_getElem hil⟩
                  obtain ⟨b, off, x, y, z, rfl, _, e0, e1, e2, hTk⟩ := HROW.out.at ht
                  rw [Nat.zero_add] at e0 e1 e2
                  have HSZT := Lib.hid (kid_size (k := k) (n := n) (List.mem_of_getElem? ht))
                  obtain ⟨k', n', us⟩ := t
                  have hTk2 := hTk
                  unfold TreV at hTk2
                  obtain ⟨A', c', hag, _⟩ := hTk2
                  simp only [Value.agg.injEq, Array.mk.injEq, List.cons.injEq, and_true] at hag
                  obtain ⟨rfl, rfl, rfl⟩ := hag
                  have hbw := HBW.out _ HO'.out
                  have f0 := (hbw.cell (World.block_lt_of_cell? W0 _ e0)).trans e0
                  have f1 := (hbw.cell (World.block_lt_of_cell? W0 _ e1)).trans e1
                  have f2 := (hbw.cell (World.block_lt_of_cell? W0 _ e2)).trans e2
                  have hb2 := below1 wr (.cells #[.int .i64 k', .int .i64 n', .slice A' us.length c'] 24)
                  have ho2 := HO'.out.trans (Only.of_below hb2)
                  have HV := Lib.hid (HIH.out (.mk k' n' us) (by have := HSZT.out; have := HTN.out; omega) _ (nest + 1) m' (wr.alloc (.cells #[.int .i64 k', .int .i64 n', .slice A' us.length c'] 24)) hTk (HBW.out _ ho2) (HM'.out.below hb2) HOK'.out (by omega))
                  have enest : ((nest + 1 : Nat) : Int) = (nest : Int) + 1 := by omega
                  rw [enest] at HV
                  have HO2 := Lib.hid ho2
                  obtain ⟨⟨q0, q1, q2⟩, _⟩ := HBX.out _ ho2
                  have HNX := Lib.hid (visL_next ht HVL.out)
                  clear hTk e0 e1 e2 ht hbw hb2 ho2 enest
                  unfold langV at HV
                  cases hvn : visN sh (.mk k' n' us) (nest + 1) m' with
                  | mk r m4 =>
                    rw [hvn] at HV HNX
                    cases r with
                    | none =>
                      have HDEAD := Lib.hid (show visN sh (.mk k n ts) nest m = (none, m4) by rw [HVN.out, visL_dead HNX.out])
                      clear hvn
                      go_wp2_with fail
                      refine HV.out.mono ?_
                      rintro e w5 ⟨rfl, hM5, ho5⟩
                      have HF5 := Lib.hid (And.intro hM5 ((Only.of_below HB0.out).trans (HO2.out.trans ho5)))
                      clear hM5 ho5
                      simp only [Option.getD_none, Option.isSome_none]
                      go_wp2_with fail
                      go_ret2
                      exact ⟨by rw [HDEAD.out]; rfl, by rw [HDEAD.out]; exact HF5.out.1, HF5.out.2⟩
                    | some d' =>
                      clear hvn
                      go_wp2_with fail
                      refine HV.out.mono ?_
                      rintro e w5 ⟨rfl, hM5, ho5⟩
                      have HF5 := Lib.hid (And.intro hM5 (HO2.out.trans ho5))
                      clear hM5 ho5
                      simp only [Option.getD_some, Option.isSome_some]
                      go_wp2_with fail
                      go_roundw
                      case rel => exact ⟨i + 1, max d d', m4, by omega, by go_num, by congr 1; omega, HNX.out, HF5.out.1, HF5.out.2⟩
                      case measure => simp [intOf]; omega
                · have hil2 : ts.take i = ts := List.take_of_length_le (by omega)
                  have hvf := HVL.out
                  rw [hil2] at hvf
                  have HDONE := Lib.hid (show visN sh (.mk k n ts) nest m = (some (d + depAt sh k), m') by rw [HVN.out, hvf])
                  obtain ⟨_, _, _, g3⟩ := (HS.out.below (HBW.out _ HO'.out)) k.toNat s HSN.out
                  have hde : depAt sh k = s.dep := by simp [depAt, HSN.out]
                  have hsd := HD.out s (List.mem_of_getElem? HSN.out)
                  have HDE := Lib.hid hde
                  clear hil2 hvf hde
                  go_wp2_with fail
                  go_ret2
                  exact ⟨by rw [HDONE.out, HDE.out]; rfl, by rw [HDONE.out]; exact HM'.out, (Only.of_below HB0.out).trans HO'.out⟩
            · have dk : ((k : Int) == 0) = false := by simp [hkz]
              have hsteq : Ms.step { m with nodes := m.nodes + 1 } k n ts.length = { m with nodes := m.nodes + 1 } := by simp [Ms.step, hkz, hl0]
              have HF : Hid (MsAt w3 gm (Ms.step { m with nodes := m.nodes + 1 } k n ts.length) ∧ Only (· = gm) w0 w3) := Lib.hid ⟨by rw [hsteq]; exact hM3, ho3⟩
              clear hsteq hM3 ho3 hB3
              have HSD := Lib.hid (show MsOk (Ms.step { m with nodes := m.nodes + 1 } k n ts.length) from HST.out)
              go_wp2_with fail
              go_loopw [13, 15, 16, 17, 75] (fun dv _ _ _ iv W => ∃ (i d : Nat) (m' : Ms), i ≤ ts.length ∧ iv = .int .i64 i ∧ dv = .int .i64 (d : Int) ∧ visL sh (ts.take i) (nest + 1) (Ms.step { m with nodes := m.nodes + 1 } k n ts.length) 0 = (some d, m') ∧ MsAt W gm m' ∧ Only (· = gm) w0 W) (fun _ _ _ _ iv _ => ts.length - (intOf iv).toNat)
              case atStart => exact ⟨0, 0, Ms.step { m with nodes := m.nodes + 1 } k n ts.length, by omega, rfl, rfl, by simp [visL], HF.out.1, HF.out.2⟩
              case round =>
                clear HF
                obtain ⟨i, d, m', hi, rfl, rfl, hvl, hM', ho'⟩ := hrel
                have HVL := Lib.hid hvl
                have HM' := Lib.hid hM'
                have HO' := Lib.hid ho'
                obtain ⟨⟨c0, c1, c2⟩, b0, b1, b2⟩ := HBX.out _ ho'
                obtain ⟨hok', hdb⟩ := visL_ok HD.out HNM.out HSD.out (Nat.zero_le _) hvl
                have HOK' := Lib.hid hok'
                clear hvl hM' ho' hok'
                by_cases hil : i < ts.length
                · obtain ⟨t, ht⟩ : ∃ t, ts[i]? = some t := ⟨_, List.getElem?_eq_getElem hil⟩
                  obtain ⟨b, off, x, y, z, rfl, _, e0, e1, e2, hTk⟩ := HROW.out.at ht
                  rw [Nat.zero_add] at e0 e1 e2
                  have HSZT := Lib.hid (kid_size (k := k) (n := n) (List.mem_of_getElem? ht))
                  obtain ⟨k', n', us⟩ := t
                  have hTk2 := hTk
                  unfold TreV at hTk2
                  obtain ⟨A', c', hag, _⟩ := hTk2
                  simp only [Value.agg.injEq, Array.mk.injEq, List.cons.injEq, and_true] at hag
                  obtain ⟨rfl, rfl, rfl⟩ := hag
                  have hbw := HBW.out _ HO'.out
                  have f0 := (hbw.cell (World.block_lt_of_cell? W0 _ e0)).trans e0
                  have f1 := (hbw.cell (World.block_lt_of_cell? W0 _ e1)).trans e1
                  have f2 := (hbw.cell (World.block_lt_of_cell? W0 _ e2)).trans e2
                  have hb2 := below1 wr (.cells #[.int .i64 k', .int .i64 n', .slice A' us.length c'] 24)
                  have ho2 := HO'.out.trans (Only.of_below hb2)
                  have HV := Lib.hid (HIH.out (.mk k' n' us) (by have := HSZT.out; have := HTN.out; omega) _ (nest + 1) m' (wr.alloc (.cells #[.int .i64 k', .int .i64 n', .slice A' us.length c'] 24)) hTk (HBW.out _ ho2) (HM'.out.below hb2) HOK'.out (by omega))
                  have enest : ((nest + 1 : Nat) : Int) = (nest : Int) + 1 := by omega
                  rw [enest] at HV
                  have HO2 := Lib.hid ho2
                  obtain ⟨⟨q0, q1, q2⟩, _⟩ := HBX.out _ ho2
                  have HNX := Lib.hid (visL_next ht HVL.out)
                  clear hTk e0 e1 e2 ht hbw hb2 ho2 enest
                  unfold langV at HV
                  cases hvn : visN sh (.mk k' n' us) (nest + 1) m' with
                  | mk r m4 =>
                    rw [hvn] at HV HNX
                    cases r with
                    | none =>
                      have HDEAD := Lib.hid (show visN sh (.mk k n ts) nest m = (none, m4) by rw [HVN.out, visL_dead HNX.out])
                      clear hvn
                      go_wp2_with fail
                      refine HV.out.mono ?_
                      rintro e w5 ⟨rfl, hM5, ho5⟩
                      have HF5 := Lib.hid (And.intro hM5 ((Only.of_below HB0.out).trans (HO2.out.trans ho5)))
                      clear hM5 ho5
                      simp only [Option.getD_none, Option.isSome_none]
                      go_wp2_with fail
                      go_ret2
                      exact ⟨by rw [HDEAD.out]; rfl, by rw [HDEAD.out]; exact HF5.out.1, HF5.out.2⟩
                    | some d' =>
                      clear hvn
                      go_wp2_with fail
                      refine HV.out.mono ?_
                      rintro e w5 ⟨rfl, hM5, ho5⟩
                      have HF5 := Lib.hid (And.intro hM5 (HO2.out.trans ho5))
                      clear hM5 ho5
                      simp only [Option.getD_some, Option.isSome_some]
                      go_wp2_with fail
                      go_roundw
                      case rel => exact ⟨i + 1, max d d', m4, by omega, by go_num, by congr 1; omega, HNX.out, HF5.out.1, HF5.out.2⟩
                      case measure => simp [intOf]; omega
                · have hil2 : ts.take i = ts := List.take_of_length_le (by omega)
                  have hvf := HVL.out
                  rw [hil2] at hvf
                  have HDONE := Lib.hid (show visN sh (.mk k n ts) nest m = (some (d + depAt sh k), m') by rw [HVN.out, hvf])
                  obtain ⟨_, _, _, g3⟩ := (HS.out.below (HBW.out _ HO'.out)) k.toNat s HSN.out
                  have hde : depAt sh k = s.dep := by simp [depAt, HSN.out]
                  have hsd := HD.out s (List.mem_of_getElem? HSN.out)
                  have HDE := Lib.hid hde
                  clear hil2 hvf hde
                  go_wp2_with fail
                  go_ret2
                  exact ⟨by rw [HDONE.out, HDE.out]; rfl, by rw [HDONE.out]; exact HM'.out, (Only.of_below HB0.out).trans HO'.out⟩
end Go.Proofs.YtcophfhnhlaonaaGreatDoor
namespace Go.Proofs.YtcophfhnhlaonaaGreatDoor
set_option linter.unusedVariables false
open Go.RowKit

/-- The measures of a tree: what measure returns. -/
def mesI (sh : List Sh) (t : Tre) : Option (Nat × Nat × Nat × Nat) :=
  match visN sh t 1 ⟨0, 0, 0⟩ with
  | (some d, m) => some (m.nodes, m.inputs, m.size, d)
  | (none, _) => none
def mesV : Option (Nat × Nat × Nat × Nat) → Value
  | some (a, b, c, d) => .agg #[.int .i64 (a : Int), .int .i64 (b : Int), .int .i64 (c : Int), .int .i64 (d : Int)]
  | none => .agg #[.int .i64 (-1), .int .i64 (-1), .int .i64 (-1), .int .i64 (-1)]
theorem blk4_cells {w : World} {b : Nat} {x y z u : Value} {T : TypeId} (h : w.heap[b]? = some (.cells #[x, y, z, u] T (0, 0))) : (w.cell? ⟨b, 0, none⟩ = some x ∧ w.cell? ⟨b, 1, none⟩ = some y ∧ w.cell? ⟨b, 2, none⟩ = some z ∧ w.cell? ⟨b, 3, none⟩ = some u) ∧ w.frozen? ⟨b, 0, none⟩ = false ∧ w.frozen? ⟨b, 1, none⟩ = false ∧ w.frozen? ⟨b, 2, none⟩ = false ∧ w.frozen? ⟨b, 3, none⟩ = false := by
  refine ⟨⟨?_, ?_, ?_, ?_⟩, ?_, ?_, ?_, ?_⟩ <;> simp [World.cell?, World.frozen?, h]
def put4 (w : World) (b : Nat) (x y z u : Value) : World := (((w.setCell ⟨b, 0, none⟩ x).setCell ⟨b, 1, none⟩ y).setCell ⟨b, 2, none⟩ z).setCell ⟨b, 3, none⟩ u
theorem put4_heap {w : World} {b : Nat} {x' y' z' u' : Value} {T : TypeId} (x y z u : Value) (h : w.heap[b]? = some (.cells #[x', y', z', u'] T (0, 0))) : (put4 w b x y z u).heap[b]? = some (.cells #[x, y, z, u] T (0, 0)) := by
  have h1 := heap_setCell_same w b 0 _ T x h
  have h2 := heap_setCell_same _ b 1 _ T y h1
  have h3 := heap_setCell_same _ b 2 _ T z h2
  exact heap_setCell_same _ b 3 _ T u h3
theorem put4_below {w W : World} {B b : Nat} (h : Below B w W) (hb : B ≤ b) (x y z u : Value) : Below B w (put4 W b x y z u) :=
  (((h.setCell (p := ⟨b, 0, none⟩) hb x).setCell (p := ⟨b, 1, none⟩) hb y).setCell (p := ⟨b, 2, none⟩) hb z).setCell (p := ⟨b, 3, none⟩) hb u

set_option maxHeartbeats 1000000 in
theorem unmeasured_ok (w : World) :
    Calls Tryz.prog 79 #[] w fun e w' => e = .returned (mesV none) ∧ Below w.heap.size w w' := by
  have HB := Lib.hid (below1 w (.cells #[.int .i64 (-1), .int .i64 (-1), .int .i64 (-1), .int .i64 (-1)] 102))
  go_enter Tryz.func79, Tryz.ntmps79
  go_wp2_with fail
  exact bodyPost_ret (v := mesV none) (by simp [results, Tryz.results79, go_sem, mesV]) rfl ⟨rfl, HB.out⟩

set_option maxRecDepth 100000 in
set_option maxHeartbeats 4000000 in
theorem measure_ok (g : Nat) (sh : List Sh) (h6 : sh.length ≤ 6) (hd : ∀ s ∈ sh, s.dep ≤ 2) (hnm : ∀ s ∈ sh, s.num ≤ 65536) (hkids : ∀ s ∈ sh, s.kids ≤ 2) (t : Tre) (v : Value) (w : World) (hs : ShR w g sh) (hT : TreV 0 w t v) :
    Calls Tryz.prog 64 #[langV g sh 76 77, v] w fun e w' => e = .returned (.tuple #[mesV (mesI sh t), .bool (mesI sh t).isSome]) ∧ Below w.heap.size w w' := by
  obtain ⟨k, n, ts⟩ := t
  have hT2 := hT
  unfold TreV at hT2
  obtain ⟨A, c, rfl, _⟩ := hT2
  have hb4 : Below w.heap.size w ((((w.alloc (.cells #[.slice (some ⟨g, 0, none⟩) sh.length sh.length, .func (Fn.func 76) #[] #[], .func (Fn.func 77) #[] #[]] 98)).alloc (.cells #[.int .i64 k, .int .i64 n, .slice A ts.length c] 24)).alloc (.cells #[.int .i64 0, .int .i64 0, .int .i64 0, .int .i64 0] 102)).alloc (.cells #[.int .i64 0, .int .i64 0, .int .i64 0, .int .i64 0] 102)) := ((below2 w (.cells #[.slice (some ⟨g, 0, none⟩) sh.length sh.length, .func (Fn.func 76) #[] #[], .func (Fn.func 77) #[] #[]] 98) (.cells #[.int .i64 k, .int .i64 n, .slice A ts.length c] 24)).alloc (by simp <;> omega) (.cells #[.int .i64 0, .int .i64 0, .int .i64 0, .int .i64 0] 102)).alloc (by simp <;> omega) (.cells #[.int .i64 0, .int .i64 0, .int .i64 0, .int .i64 0] 102)
  have hr4 : ((((w.alloc (.cells #[.slice (some ⟨g, 0, none⟩) sh.length sh.length, .func (Fn.func 76) #[] #[], .func (Fn.func 77) #[] #[]] 98)).alloc (.cells #[.int .i64 k, .int .i64 n, .slice A ts.length c] 24)).alloc (.cells #[.int .i64 0, .int .i64 0, .int .i64 0, .int .i64 0] 102)).alloc (.cells #[.int .i64 0, .int .i64 0, .int .i64 0, .int .i64 0] 102)).heap[w.heap.size + 2]? = some (.cells #[.int .i64 0, .int .i64 0, .int .i64 0, .int .i64 0] 102 (0, 0)) := alloc_old _ _ _ _ (alloc_at _ _ _ (by simp))
  have hm4 : MsAt ((((w.alloc (.cells #[.slice (some ⟨g, 0, none⟩) sh.length sh.length, .func (Fn.func 76) #[] #[], .func (Fn.func 77) #[] #[]] 98)).alloc (.cells #[.int .i64 k, .int .i64 n, .slice A ts.length c] 24)).alloc (.cells #[.int .i64 0, .int .i64 0, .int .i64 0, .int .i64 0] 102)).alloc (.cells #[.int .i64 0, .int .i64 0, .int .i64 0, .int .i64 0] 102)) (w.heap.size + 3) ⟨0, 0, 0⟩ := alloc_at _ _ _ (by simp)
  have hV := visit_ok w g (w.heap.size + 3) sh h6 hd hnm hkids hs (by omega) 76 77 rfl _ (.mk k n ts) (Nat.lt_succ_self _) _ 1 ⟨0, 0, 0⟩ ((((w.alloc (.cells #[.slice (some ⟨g, 0, none⟩) sh.length sh.length, .func (Fn.func 76) #[] #[], .func (Fn.func 77) #[] #[]] 98)).alloc (.cells #[.int .i64 k, .int .i64 n, .slice A ts.length c] 24)).alloc (.cells #[.int .i64 0, .int .i64 0, .int .i64 0, .int .i64 0] 102)).alloc (.cells #[.int .i64 0, .int .i64 0, .int .i64 0, .int .i64 0] 102)) hT hb4 hm4 ⟨by simp, by simp, by simp⟩ (by omega)
  have hsz4 : ((((w.alloc (.cells #[.slice (some ⟨g, 0, none⟩) sh.length sh.length, .func (Fn.func 76) #[] #[], .func (Fn.func 77) #[] #[]] 98)).alloc (.cells #[.int .i64 k, .int .i64 n, .slice A ts.length c] 24)).alloc (.cells #[.int .i64 0, .int .i64 0, .int .i64 0, .int .i64 0] 102)).alloc (.cells #[.int .i64 0, .int .i64 0, .int .i64 0, .int .i64 0] 102)).heap.size = w.heap.size + 4 := by simp
  have HV := Lib.hid hV
  have H4 := Lib.hid (And.intro hb4 (And.intro hr4 hsz4))
  have HU := Lib.hid (fun W => unmeasured_ok W)
  have HMI : Hid (mesI sh (.mk k n ts) = (match visN sh (.mk k n ts) 1 ⟨0, 0, 0⟩ with | (some d, m) => some (m.nodes, m.inputs, m.size, d) | (none, _) => none)) := Lib.hid rfl
  clear hV hb4 hr4 hm4 hsz4 hT hs hd hnm hkids
  unfold langV at HV ⊢
  go_enter Tryz.func64, Tryz.ntmps64
  go_wp2_with fail
  refine HV.out.mono ?_
  generalize (((w.alloc (.cells #[.slice (some ⟨g, 0, none⟩) sh.length sh.length, .func (Fn.func 76) #[] #[], .func (Fn.func 77) #[] #[]] 98)).alloc (.cells #[.int .i64 k, .int .i64 n, .slice A ts.length c] 24)).alloc (.cells #[.int .i64 0, .int .i64 0, .int .i64 0, .int .i64 0] 102)).alloc (.cells #[.int .i64 0, .int .i64 0, .int .i64 0, .int .i64 0] 102) = w4 at *
  rintro e w5 ⟨rfl, hM5, ho5⟩
  obtain ⟨hb4, hr4, hsz4⟩ := H4.out
  have hr5 := (ho5.block (w.heap.size + 2) (by omega) (by show ¬ _ = _; omega)).trans hr4
  have hb5 := hb4.trans (ho5.below hb4.size (fun k hk => by have hk' : k = w.heap.size + 3 := hk; omega))
  have hsz5 : w.heap.size + 4 ≤ w5.heap.size := by have := ho5.size; omega
  cases hvn : visN sh (.mk k n ts) 1 ⟨0, 0, 0⟩ with
  | mk r m =>
    rw [hvn] at HMI hM5
    cases r with
    | none =>
      have HMI2 : Hid (mesI sh (.mk k n ts) = none) := Lib.hid HMI.out
      have HR5 := Lib.hid (And.intro hr5 (And.intro hb5 hsz5))
      simp only [Option.getD_none, Option.isSome_none]
      clear hvn hM5 ho5 hr5 hb5 hr4 hb4
      go_wp2_with fail
      refine (HU.out _).mono ?_
      rintro e w6 ⟨rfl, hB6⟩
      obtain ⟨hr5, hb5, hsz5⟩ := HR5.out
      have hr6 := (hB6.block (w.heap.size + 2) (by omega)).trans hr5
      have hb6 := hb5.trans (hB6.mono (by omega))
      obtain ⟨⟨v0, v1, v2, v3⟩, z0, z1, z2, z3⟩ := blk4_cells hr6
      have hh := put4_heap (.int .i64 (-1)) (.int .i64 (-1)) (.int .i64 (-1)) (.int .i64 (-1)) hr6
      have hbb := put4_below hb6 (Nat.le_add_right w.heap.size 2) (.int .i64 (-1)) (.int .i64 (-1)) (.int .i64 (-1)) (.int .i64 (-1))
      have HF := Lib.hid (And.intro hh hbb)
      clear hh hbb hr6 hb6 hr5 hb5 hB6 hsz5
      unfold mesV
      go_wp2_with fail
      show bodyPost _ _ _ _ _ (put4 w6 (w.heap.size + 2) (.int .i64 (-1)) (.int .i64 (-1)) (.int .i64 (-1)) (.int .i64 (-1)))
      obtain ⟨hh, hbb⟩ := HF.out
      generalize put4 w6 (w.heap.size + 2) (.int .i64 (-1)) (.int .i64 (-1)) (.int .i64 (-1)) (.int .i64 (-1)) = W at *
      obtain ⟨⟨v0, v1, v2, v3⟩, _⟩ := blk4_cells hh
      exact bodyPost_ret (v := .tuple #[mesV none, .bool false]) (by simp [results, Tryz.results64, go_sem, v0, v1, v2, v3, mesV]) rfl ⟨by rw [HMI2.out]; rfl, hbb⟩
    | some d =>
      have HMI2 : Hid (mesI sh (.mk k n ts) = some (m.nodes, m.inputs, m.size, d)) := Lib.hid HMI.out
      simp only [Option.getD_some, Option.isSome_some]
      obtain ⟨⟨m0, m1, m2, m3⟩, y0, y1, y2, y3⟩ := blk4_cells hM5
      obtain ⟨⟨v0, v1, v2, v3⟩, z0, z1, z2, z3⟩ := blk4_cells hr5
      have hb6 := hb5.setCell (p := ⟨w.heap.size + 3, 3, none⟩) (Nat.le_add_right _ _) (.int .i64 (d : Int))
      have hr6 : (w5.setCell ⟨w.heap.size + 3, 3, none⟩ (.int .i64 (d : Int))).heap[w.heap.size + 2]? = _ := (heap_setCell_other _ _ _ _ (by show w.heap.size + 2 ≠ w.heap.size + 3; omega)).trans hr5
      have hh := put4_heap (.int .i64 (m.nodes : Int)) (.int .i64 (m.inputs : Int)) (.int .i64 (m.size : Int)) (.int .i64 (d : Int)) hr6
      have hbb := put4_below hb6 (Nat.le_add_right w.heap.size 2) (.int .i64 (m.nodes : Int)) (.int .i64 (m.inputs : Int)) (.int .i64 (m.size : Int)) (.int .i64 (d : Int))
      have HF := Lib.hid (And.intro hh hbb)
      clear hh hbb hr6 hb6 hr5 hb5 hvn hM5 ho5 hr4 hb4
      go_wp2_with fail
      show bodyPost _ _ _ _ _ (put4 (w5.setCell ⟨w.heap.size + 3, 3, none⟩ (.int .i64 (d : Int))) (w.heap.size + 2) (.int .i64 (m.nodes : Int)) (.int .i64 (m.inputs : Int)) (.int .i64 (m.size : Int)) (.int .i64 (d : Int)))
      obtain ⟨hh, hbb⟩ := HF.out
      generalize put4 (w5.setCell ⟨w.heap.size + 3, 3, none⟩ (.int .i64 (d : Int))) (w.heap.size + 2) (.int .i64 (m.nodes : Int)) (.int .i64 (m.inputs : Int)) (.int .i64 (m.size : Int)) (.int .i64 (d : Int)) = W at *
      obtain ⟨⟨v0, v1, v2, v3⟩, _⟩ := blk4_cells hh
      exact bodyPost_ret (v := .tuple #[.agg #[.int .i64 (m.nodes : Int), .int .i64 (m.inputs : Int), .int .i64 (m.size : Int), .int .i64 (d : Int)], .bool true]) (by simp [results, Tryz.results64, go_sem, v0, v1, v2, v3]) rfl ⟨by rw [HMI2.out]; rfl, hbb⟩
end Go.Proofs.YtcophfhnhlaonaaGreatDoor
