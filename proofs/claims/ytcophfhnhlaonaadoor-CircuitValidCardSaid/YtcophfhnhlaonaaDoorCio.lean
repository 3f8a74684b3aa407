/-
  Contract of the law's helper 'alive' of layer 7: it returns true in every world in which the listed variables read as the program's text lays them.
-/
import Derived.Test.YtcophfhnhlaonaaDoorCin
import Derived.Test.YtcophfhnhlaonaaDoorVb
namespace Go.Proofs.YtcophfhnhlaonaaDoor
set_option linter.unusedVariables false
open Go.RowKit Go.Maps

/-- What the listed variables hold. -/
structure LayC (w : World) : Prop where
  pow : Lib.TabIs Tryd.prog w "internal/strconv.uint64pow10" .u64 Lib.pow10Tab
  errs : ErrsAt w
def alC : Tre := .mk 3 0 [.mk 0 0 [], .mk 2 0 [.mk 0 0 []]]
def alG : List Gat := [⟨0, 0, []⟩, ⟨2, 0, [0]⟩, ⟨3, 0, [0, 1]⟩]
theorem parse_alC : pAll fSh [97, 110, 100, 40, 120, 48, 44, 32, 110, 111, 116, 40, 120, 48, 41, 41] = some alC := by kernel_rfl
theorem mes_alC : mesI fSh alC = some (4, 1, 2, 1) := by kernel_rfl
theorem gates_alC : gatesT alC = alG := by kernel_rfl
theorem ok_alG : okC 1 alG = true := by kernel_rfl
theorem dep_alG : depC alG = 1 := by kernel_rfl
theorem tab_alG : tbR (tabC alG 1) 2 2 = [false, false] := by kernel_rfl
theorem blO_rdC {w : World} {g : Nat} {l : List Bool} (h : w.heap[g]? = some (blO l)) : BlR w (some ⟨g, 0, none⟩) l := fun i x hi => by
  refine ⟨g, 0, rfl, ?_⟩
  rw [Nat.zero_add]
  exact (bl_cell h hi).1
theorem tre_valC {B : Nat} {W : World} {k n : Int} {ts : List Tre} {v : Value} (h : TreV B W (.mk k n ts) v) : ∃ A c, v = .agg #[.int .i64 k, .int .i64 n, .slice A ts.length c] := by
  unfold TreV at h
  obtain ⟨A, c, e, _⟩ := h
  exact ⟨A, c, e⟩

set_option maxRecDepth 100000 in
set_option maxHeartbeats 8000000 in
theorem aliveC_ok (w : World) (hL : ∀ W, Below w.heap.size w W → LayC W) :
    Calls Tryd.prog 8 #[] w fun e w' => e = .returned (.bool true) ∧ Below w.heap.size w w' := by
  have HP1 : Hid (∀ W, Below w.heap.size w W → Calls Tryd.prog 30 #[.string { data := #[97, 110, 100, 40, 120, 48, 44, 32, 110, 111, 116, 40, 120, 48, 41, 41] }] W fun e w' => (∃ A c, e = .returned (.tuple #[.agg #[.int .i64 3, .int .i64 0, .slice A 2 c], .int .i64 0]) ∧ TreV 0 w' alC (.agg #[.int .i64 3, .int .i64 0, .slice A 2 c])) ∧ Below W.heap.size W w') := Lib.hid (fun W hW =>
    (Parse_ok [97, 110, 100, 40, 120, 48, 44, 32, 110, 111, 116, 40, 120, 48, 41, 41] W (fun W' h => (hL W' (hW.trans (h.mono hW.size))).pow) (fun W' h => (hL W' (hW.trans (h.mono hW.size))).errs)).mono (fun e w' h => by
      unfold ParIs at h
      rw [parse_alC] at h
      obtain ⟨⟨v, rfl, hT⟩, hB⟩ := h
      obtain ⟨A, c, rfl⟩ := tre_valC hT
      exact ⟨⟨A, c, rfl, hT.mono (Nat.zero_le _)⟩, hB⟩))
  have HFR : Hid (∀ W v, TreV 0 W alC v → Calls Tryd.prog 25 #[v, .int .i64 1] W fun e w' => (∃ A c, e = .returned (.tuple #[.agg #[.int .i64 1, .slice A 3 c], .int .i64 0]) ∧ RdG w' A alG) ∧ Below W.heap.size W w') := Lib.hid (fun W v hT =>
    (From_ok alC v 1 W hT).mono (fun e w' h => by
      obtain ⟨h, hB⟩ := h
      rw [mes_alC] at h
      unfold FrmIs at h
      rw [gates_alC] at h
      rcases h with ⟨h, _⟩ | ⟨_, _, A, c, rfl, hr⟩
      · rcases h with h | h <;> simp at h
      · exact ⟨⟨A, c, rfl, hr⟩, hB⟩))
  have HTB : Hid (∀ W v, CirV W v 1 alG → Calls Tryd.prog 14 #[v] W fun e w' => (∃ g, e = .returned (.tuple #[.slice (some ⟨g, 0, none⟩) 2 2, .int .i64 0]) ∧ BlR w' (some ⟨g, 0, none⟩) [false, false]) ∧ Below W.heap.size W w') := Lib.hid (fun W v hC =>
    (CTable_ok 1 v alG W hC).mono (fun e w' h => by
      obtain ⟨h, hB⟩ := h
      obtain ⟨g, _, rfl, hb⟩ := h.tab ok_alG (by decide)
      rw [show ((2 : Nat) ^ (1 : Int).toNat) = 2 from rfl, show (1 : Int).toNat = 1 from rfl, tab_alG] at hb
      exact ⟨⟨g, rfl, blO_rdC hb⟩, hB⟩))
  have HDE : Hid (∀ W v, CirV W v 1 alG → Calls Tryd.prog 11 #[v] W fun e w' => e = .returned (.int .i64 1) ∧ Below W.heap.size W w') := Lib.hid (fun W v hC =>
    (CDepth_ok 1 v alG W hC).mono (fun e w' h => by
      rw [if_pos ok_alG, dep_alG] at h
      exact h))
  have HSB : Hid (∀ W A A' c c', BlR W A [false, false] → BlR W A' [false, false] → Calls Tryd.prog 16 #[.slice A 2 c, .slice A' 2 c'] W fun e w' => e = .returned (.bool true) ∧ Below W.heap.size W w') := Lib.hid (fun W A A' c c' h h' => (SameBools_ok [false, false] [false, false] A A' c c' W h h' (by decide)).mono (fun e w' h => by simpa using h))
  have HB0 := Lib.hid (Below.refl w.heap.size w)
  clear hL
  go_enter Tryd.func8, Tryd.ntmps8
  go_wp2_with fail
  refine (HP1.out _ HB0.out).mono ?_
  rintro e w1 ⟨⟨A1, c1, rfl, hT1⟩, hB1⟩
  have hT2 := hT1.below (below1 w1 (.cells #[.int .i64 3, .int .i64 0, .slice A1 2 c1] 47))
  have HF1 := Lib.hid (HFR.out _ _ hT2)
  have hu1 := hB1.alloc hB1.size (.cells #[.int .i64 3, .int .i64 0, .slice A1 2 c1] 47)
  have HU1 := Lib.hid hu1
  clear hT1 hT2 hB1 hu1 HP1 HFR
  go_wp2_with fail
  generalize hue : w1.alloc (.cells #[.int .i64 3, .int .i64 0, .slice A1 2 c1] 47) = u1 at *
  clear hue
  refine HF1.out.mono ?_
  rintro e w2 ⟨⟨A2, c2, rfl, hr2⟩, hB2⟩
  have hu2 := hB2.alloc hB2.size (.cells #[.int .i64 1, .slice A2 3 c2] 24)
  have HU2 := Lib.hid (HU1.out.trans (hu2.mono HU1.out.size))
  have hbx := alloc_at w2 (.cells #[.int .i64 1, .slice A2 3 c2] 24) w2.heap.size rfl
  have hr3 := hr2.below (below1 w2 (.cells #[.int .i64 1, .slice A2 3 c2] 24))
  generalize hve : w2.alloc (.cells #[.int .i64 1, .slice A2 3 c2] 24) = u2 at *
  have HVE := Lib.hid hve
  have HCV : Hid (∀ W, Below u2.heap.size u2 W → CirV W (.agg #[.int .i64 1, .slice A2 3 c2]) 1 alG ∧ W.heap[w2.heap.size]? = some (.cells #[.int .i64 1, .slice A2 3 c2] 24 (0, 0))) := Lib.hid (fun W hW => ⟨⟨A2, c2, rfl, hr3.below hW, by decide⟩, (hW.block _ (Array.getElem?_eq_some_iff.1 hbx).1).trans hbx⟩)
  clear hr2 hB2 hu2 hbx hr3 hve HF1
  obtain ⟨⟨p0, p1⟩, _⟩ := blk2_cells (HCV.out u2 (Below.refl _ _)).2
  go_upto_region 3 with fail
  rw [HVE.out]
  go_wp2_with fail
  refine (HTB.out _ _ (HCV.out u2 (Below.refl _ _)).1).mono ?_
  rintro e w3 ⟨⟨g3, rfl, hb3⟩, hB3⟩
  have HB3 := Lib.hid hB3
  have HBR := Lib.hid hb3
  obtain ⟨⟨p0, p1⟩, _⟩ := blk2_cells (HCV.out w3 hB3).2
  have HD3 := Lib.hid (HDE.out w3 _ (HCV.out w3 hB3).1)
  clear hb3 hB3
  go_wp2_with fail
  refine HD3.out.mono ?_
  rintro e w4 ⟨rfl, hB4⟩
  have hn : (w4.alloc (.cells #[.bool false, .bool false] 4)).heap[w4.heap.size]? = some (blO [false, false]) := alloc_at _ _ _ rfl
  have HS4 := Lib.hid (HSB.out (w4.alloc (.cells #[.bool false, .bool false] 4)) (some ⟨g3, 0, none⟩) (some ⟨w4.heap.size, 0, none⟩) 2 2 ((HBR.out.below hB4).below (below1 _ _)) (blO_rdC hn))
  have HB4 := Lib.hid (HU2.out.trans ((HB3.out.trans (hB4.mono HB3.out.size)).mono HU2.out.size))
  have HB5 := Lib.hid (HB4.out.alloc HB4.out.size (.cells #[.bool false, .bool false] 4))
  clear hB4 hn
  go_wp2_with fail
  refine HS4.out.mono ?_
  rintro e w5 ⟨rfl, hB5⟩
  have HB6 := Lib.hid (HB5.out.trans (hB5.mono HB5.out.size))
  clear hB5
  go_wp2_with fail
  go_ret
  exact ⟨rfl, HB6.out⟩
end Go.Proofs.YtcophfhnhlaonaaDoor
