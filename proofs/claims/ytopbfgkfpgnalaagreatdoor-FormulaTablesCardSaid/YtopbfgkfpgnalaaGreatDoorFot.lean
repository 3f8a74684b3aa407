/-
  Contract of the law's helper 'alive' of layer 5: it returns true in every world in which the listed variables read as the program's text lays them.
-/
import Derived.Test.YtopbfgkfpgnalaaGreatDoorFor
namespace Go.Proofs.YtopbfgkfpgnalaaGreatDoor
set_option linter.unusedVariables false
open Go.RowKit Go.Maps

def alT4 : List Bool := [false, true, true, false]
theorem alT4_rd {w : World} {g : Nat} (h : w.heap[g]? = some (blO alT4)) : BlR w (some ⟨g, 0, none⟩) alT4 := fun i x hi => by
  refine ⟨g, 0, rfl, ?_⟩
  rw [Nat.zero_add]
  exact (bl_cell h hi).1

set_option maxRecDepth 100000 in
set_option maxHeartbeats 8000000 in
theorem aliveF_ok (w : World) (hL : LayF w) :
    Calls Tryz.prog 16 #[] w fun e w' => e = .returned (.bool true) ∧ Below w.heap.size w w' := by
  have HL := Lib.hid (fun W (hW : Below w.heap.size w W) => hL.below hW)
  have HP1 : Hid (∀ W, Below w.heap.size w W → Calls Tryz.prog 32 #[.string { data := #[111, 114, 40, 120, 48, 44, 32, 97, 110, 100, 40, 120, 49, 44, 32, 110, 111, 116, 40, 120, 50, 41, 41, 41] }] W fun e w' => (∃ A c, e = .returned (.tuple #[.agg #[.int .i64 4, .int .i64 0, .slice A 2 c], .int .i64 0]) ∧ TreV 0 w' alF (.agg #[.int .i64 4, .int .i64 0, .slice A 2 c])) ∧ Below W.heap.size W w') := Lib.hid (fun W hW =>
    (Parse_ok [111, 114, 40, 120, 48, 44, 32, 97, 110, 100, 40, 120, 49, 44, 32, 110, 111, 116, 40, 120, 50, 41, 41, 41] W (fun W' h => (HL.out W' (hW.trans (h.mono hW.size))).layp.pow) (fun W' h => (HL.out W' (hW.trans (h.mono hW.size))).errs)).mono (fun e w' h => by
      unfold ParIs at h
      rw [parse_alF] at h
      obtain ⟨⟨v, rfl, hT⟩, hB⟩ := h
      obtain ⟨A, c, rfl⟩ := tre_val hT
      exact ⟨⟨A, c, rfl, hT.mono (Nat.zero_le _)⟩, hB⟩))
  have HP2 : Hid (∀ W, Below w.heap.size w W → Calls Tryz.prog 32 #[.string { data := #[120, 111, 114, 40, 120, 48, 44, 32, 120, 49, 41] }] W fun e w' => (∃ A c, e = .returned (.tuple #[.agg #[.int .i64 5, .int .i64 0, .slice A 2 c], .int .i64 0]) ∧ TreV 0 w' alX (.agg #[.int .i64 5, .int .i64 0, .slice A 2 c])) ∧ Below W.heap.size W w') := Lib.hid (fun W hW =>
    (Parse_ok [120, 111, 114, 40, 120, 48, 44, 32, 120, 49, 41] W (fun W' h => (HL.out W' (hW.trans (h.mono hW.size))).layp.pow) (fun W' h => (HL.out W' (hW.trans (h.mono hW.size))).errs)).mono (fun e w' h => by
      unfold ParIs at h
      rw [parse_alX] at h
      obtain ⟨⟨v, rfl, hT⟩, hB⟩ := h
      obtain ⟨A, c, rfl⟩ := tre_val hT
      exact ⟨⟨A, c, rfl, hT.mono (Nat.zero_le _)⟩, hB⟩))
  have HPE : Hid (∀ W, Below w.heap.size w W → Calls Tryz.prog 53 #[.agg #[.int .i64 2, .int .i64 1], .string { data := #[109, 117, 108, 40, 97, 100, 100, 40, 120, 48, 44, 32, 49, 41, 44, 32, 120, 49, 41] }] W fun e w' => (∃ A c, e = .returned (.tuple #[.agg #[.int .i64 3, .int .i64 0, .slice A 2 c], .int .i64 0]) ∧ TreV 0 w' alE (.agg #[.int .i64 3, .int .i64 0, .slice A 2 c])) ∧ Below W.heap.size W w') := Lib.hid (fun W hW =>
    (X.ParseExpr_ok 2 1 2 al_f2 [109, 117, 108, 40, 97, 100, 100, 40, 120, 48, 44, 32, 49, 41, 44, 32, 120, 49, 41] W (HL.out W hW).layp.lays (fun W' h => (HL.out W' (hW.trans (h.mono hW.size))).layp.pow) (fun W' h => (HL.out W' (hW.trans (h.mono hW.size))).errs)).mono (fun e w' h => by
      unfold X.ParIs at h
      rw [parse_alE] at h
      obtain ⟨⟨v, rfl, hT⟩, hB⟩ := h
      obtain ⟨A, c, rfl⟩ := tre_val hT
      exact ⟨⟨A, c, rfl, hT.mono (Nat.zero_le _)⟩, hB⟩))
  have HTB : Hid (∀ W v, TreV 0 W alX v → Calls Tryz.prog 26 #[v, .int .i64 2] W fun e w' => (∃ g, e = .returned (.tuple #[.slice (some ⟨g, 0, none⟩) 4 4, .int .i64 0]) ∧ BlR w' (some ⟨g, 0, none⟩) alT4) ∧ Below W.heap.size W w') := Lib.hid (fun W v hT =>
    (Table_ok alX v 2 (by omega) W hT).mono (fun e w' h => by
      obtain ⟨h, hB⟩ := h
      rw [mes_alX] at h
      unfold TblIs at h
      have e2 : (2 : Int).toNat = 2 := rfl
      simp only [e2] at h
      rcases h with ⟨h, _⟩ | ⟨_, _, g, _, rfl, hb⟩
      · simp at h
      · rw [show (2 : Nat) ^ 2 = 4 from rfl, tab_alX] at hb
        exact ⟨⟨g, rfl, alT4_rd hb⟩, hB⟩))
  have HPO : Hid (∀ W v, Below w.heap.size w W → TreV 0 W alE v → Calls Tryz.prog 49 #[.agg #[.int .i64 2, .int .i64 1], v, .int .i64 2] W fun e w' => (∃ A c, e = .returned (.tuple #[.slice A 2 c, .int .i64 0]) ∧ RdP w' A (tms po1)) ∧ Below W.heap.size W w') := Lib.hid (fun W v hW hT => PolyOf_al v W (HL.out W hW) hT)
  have HIN : Hid (∀ W v, TreV 0 W alF v → Calls Tryz.prog 19 #[v] W fun e w' => e = .returned (.int .i64 3) ∧ Below W.heap.size W w') := Lib.hid (fun W v hT => (Inputs_ok alF v W hT).mono (fun e w' h => by rw [mes_alF] at h; exact h))
  have HSZ : Hid (∀ W v, TreV 0 W alF v → Calls Tryz.prog 20 #[v] W fun e w' => e = .returned (.int .i64 3) ∧ Below W.heap.size W w') := Lib.hid (fun W v hT => (Size_ok alF v W hT).mono (fun e w' h => by rw [mes_alF] at h; exact h))
  have HDE : Hid (∀ W v, TreV 0 W alF v → Calls Tryz.prog 21 #[v] W fun e w' => e = .returned (.int .i64 2) ∧ Below W.heap.size W w') := Lib.hid (fun W v hT => (Depth_ok alF v W hT).mono (fun e w' h => by rw [mes_alF] at h; exact h))
  have HSB : Hid (∀ W A A' c c', BlR W A alT4 → BlR W A' alT4 → Calls Tryz.prog 28 #[.slice A 4 c, .slice A' 4 c'] W fun e w' => e = .returned (.bool true) ∧ Below W.heap.size W w') := Lib.hid (fun W A A' c c' h h' => (SameBools_ok alT4 alT4 A A' c c' W h h' (by decide)).mono (fun e w' h => by simpa using h))
  have HTX : Hid (∀ W A c, Below w.heap.size w W → RdP W A (tms po1) → Calls Tryz.prog 73 #[.slice A 2 c] W fun e w' => e = .returned (.string { data := #[49, 42, 120, 49, 32, 43, 32, 49, 42, 120, 48, 42, 120, 49] }) ∧ Below W.heap.size W w') := Lib.hid (fun W A c hW hr => (textR_ok 2 (by omega) A c po1 W (HL.out W hW).layp hr po1_ex (by decide) (by decide)).mono (fun e w' h => by rw [po1_text] at h; exact h))
  have HB0 := Lib.hid (Below.refl w.heap.size w)
  clear hL
  go_enter Tryz.func16, Tryz.ntmps16
  go_wp2_with fail
  refine (HP1.out _ HB0.out).mono ?_
  rintro e w1 ⟨⟨A1, c1, rfl, hT1⟩, hB1⟩
  have hbx1 := box_keep (T := 24) hT1
  have HF := Lib.hid hbx1
  have hu1 := hB1.alloc hB1.size (.cells #[.int .i64 4, .int .i64 0, .slice A1 2 c1] 24)
  have HU1 := Lib.hid hu1
  clear hT1 hB1 hbx1 hu1 HP1
  go_wp2_with fail
  generalize hue : w1.alloc (.cells #[.int .i64 4, .int .i64 0, .slice A1 2 c1] 24) = u1 at *
  clear hue
  refine (HP2.out _ HU1.out).mono ?_
  rintro e w2 ⟨⟨A2, c2, rfl, hT2⟩, hB2⟩
  have hu2 := hB2.alloc hB2.size (.cells #[.int .i64 5, .int .i64 0, .slice A2 2 c2] 24)
  have HT2 := Lib.hid ((box_keep (T := 24) hT2 _ (Below.refl _ _)).2)
  have HU2 := Lib.hid hu2
  have HBU2 := Lib.hid (HU1.out.trans (hu2.mono HU1.out.size))
  clear hT2 hB2 hu2 HP2
  go_wp2_with fail
  refine (HTB.out _ _ HT2.out).mono ?_
  rintro e w3 ⟨⟨g3, rfl, hR3⟩, hB3⟩
  have hu3 := hB3.alloc hB3.size (.cells #[.int .i64 2, .int .i64 1] 49)
  have HU3 := Lib.hid (HU2.out.trans (hu3.mono HU2.out.size))
  have HBU3 := Lib.hid (HU1.out.trans (HU3.out.mono HU1.out.size))
  have hR3' := hR3.below (below1 w3 (.cells #[.int .i64 2, .int .i64 1] 49))
  have HR3 := Lib.hid hR3'
  have hfc : (w3.alloc (.cells #[.int .i64 2, .int .i64 1] 49)).heap[w3.heap.size]? = some (.cells #[.int .i64 2, .int .i64 1] 49 (0, 0)) := alloc_at _ _ _ rfl
  have HFC := Lib.hid hfc
  clear hB3 hR3 hR3' hu3 HT2 HTB HU2 HBU2 hfc
  go_wp2_with fail
  generalize hue : w3.alloc (.cells #[.int .i64 2, .int .i64 1] 49) = u3 at *
  refine (HPE.out _ HBU3.out).mono ?_
  rintro e w4 ⟨⟨A4, c4, rfl, hT4⟩, hB4⟩
  have hu4 := hB4.alloc hB4.size (.cells #[.int .i64 3, .int .i64 0, .slice A4 2 c4] 52)
  have hk4 := box_keep (T := 52) hT4 _ (Below.refl _ _)
  have HT4 := Lib.hid hk4.2
  have hf4 := (hu4.block _ (Array.getElem?_eq_some_iff.1 HFC.out).1).trans HFC.out
  have f0 : (w4.alloc (.cells #[.int .i64 3, .int .i64 0, .slice A4 2 c4] 52)).cell? ⟨w3.heap.size, 0, none⟩ = some (.int .i64 2) := by simp [World.cell?, hf4]
  have f1 : (w4.alloc (.cells #[.int .i64 3, .int .i64 0, .slice A4 2 c4] 52)).cell? ⟨w3.heap.size, 1, none⟩ = some (.int .i64 1) := by simp [World.cell?, hf4]
  have HU4 := Lib.hid (HU3.out.trans (hu4.mono HU3.out.size))
  have HBU4 := Lib.hid (HU1.out.trans (HU4.out.mono HU1.out.size))
  have HR4 := Lib.hid (HR3.out.below hu4)
  clear hT4 hB4 hu4 hk4 hf4 HPE HR3 hue HFC
  go_wp2_with fail
  refine (HPO.out _ _ HBU4.out HT4.out).mono ?_
  rintro e w5 ⟨⟨A5, c5, rfl, hR5⟩, hB5⟩
  have HU5 := Lib.hid (HU4.out.trans (hB5.mono HU4.out.size))
  have HBU5 := Lib.hid (HU1.out.trans (HU5.out.mono HU1.out.size))
  have HR5 := Lib.hid (HR4.out.below hB5)
  have HP5 := Lib.hid hR5
  obtain ⟨⟨b0, b1, b2⟩, ht5⟩ := HF.out _ HU5.out
  have HT5 := Lib.hid ht5
  clear hR5 hB5 ht5 f0 f1 HPO HT4 HR4
  go_wp2_with fail
  refine (HIN.out _ _ HT5.out).mono ?_
  rintro e w6 ⟨rfl, hB6⟩
  have HU6 := Lib.hid (HU5.out.trans (hB6.mono HU5.out.size))
  have HR6 := Lib.hid (HR5.out.below hB6)
  have HP6 := Lib.hid (HP5.out.below hB6)
  obtain ⟨⟨b0, b1, b2⟩, ht6⟩ := HF.out _ HU6.out
  have HT6 := Lib.hid ht6
  clear hB6 ht6 HIN HT5 HR5 HP5 HU5
  go_wp2_with fail
  refine (HSZ.out _ _ HT6.out).mono ?_
  rintro e w7 ⟨rfl, hB7⟩
  have HU7 := Lib.hid (HU6.out.trans (hB7.mono HU6.out.size))
  have HR7 := Lib.hid (HR6.out.below hB7)
  have HP7 := Lib.hid (HP6.out.below hB7)
  obtain ⟨⟨b0, b1, b2⟩, ht7⟩ := HF.out _ HU7.out
  have HT7 := Lib.hid ht7
  clear hB7 ht7 HSZ HT6 HR6 HP6 HU6
  go_wp2_with fail
  refine (HDE.out _ _ HT7.out).mono ?_
  rintro e w8 ⟨rfl, hB8⟩
  have hb8 := hB8.alloc hB8.size (.cells #[.bool false, .bool true, .bool true, .bool false] 4)
  have HU8 := Lib.hid (HU7.out.trans (hb8.mono HU7.out.size))
  have HR8 := Lib.hid (HR7.out.below hb8)
  have HP8 := Lib.hid (HP7.out.below hb8)
  have HN8 : Hid (BlR (w8.alloc (.cells #[.bool false, .bool true, .bool true, .bool false] 4)) (some ⟨w8.heap.size, 0, none⟩) alT4) := Lib.hid (alT4_rd (alloc_at _ _ _ rfl))
  clear hB8 hb8 HDE HT7 HR7 HP7 HU7
  go_wp2_with fail
  refine (HSB.out _ _ _ _ _ HR8.out HN8.out).mono ?_
  rintro e w9 ⟨rfl, hB9⟩
  have HU9 := Lib.hid (HU8.out.trans (hB9.mono HU8.out.size))
  have HBU9 := Lib.hid (HU1.out.trans (HU9.out.mono HU1.out.size))
  have HP9 := Lib.hid (HP8.out.below hB9)
  clear hB9 HSB HR8 HN8 HP8 HU8
  go_wp2_with fail
  refine (HTX.out _ _ _ HBU9.out HP9.out).mono ?_
  rintro e w10 ⟨rfl, hB10⟩
  have HB10 := Lib.hid (HBU9.out.trans (hB10.mono HBU9.out.size))
  clear hB10
  go_wp2_with fail
  go_ret
  exact ⟨rfl, HB10.out⟩
end Go.Proofs.YtopbfgkfpgnalaaGreatDoor
