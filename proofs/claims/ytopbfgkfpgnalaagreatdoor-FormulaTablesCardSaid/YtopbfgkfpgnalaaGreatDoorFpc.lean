/-
  Contract of appendWord of package poly (at two words).
-/
import Derived.Test.YtopbfgkfpgnalaaGreatDoorFpb
namespace Go.Proofs.YtopbfgkfpgnalaaGreatDoor
set_option linter.unusedVariables false
open Go.RowKit Go.Maps

def by8 (a : Nat) : List UInt8 := [0, UInt8.ofNat a, 0, 1, 0, 0, 0, 0]
theorem by8_new (w : World) (l : List Value) (t : TypeId) : ∀ j u, l[j]? = some u → (w.alloc (.cells l.toArray t)).cell? (Addr.add ⟨w.heap.size, 0, none⟩ j) = some u := by
  intro j u h
  have hadd : Addr.add ⟨w.heap.size, 0, none⟩ j = ⟨w.heap.size, j, none⟩ := by
    by_cases h0 : j = 0 <;> simp [Addr.add, h0]
  rw [hadd, World.cell?_alloc_new]
  simpa using h

theorem one8 (a b c d e f g h : Int) : ∀ u ∈ [Value.int .u8 a, .int .u8 b, .int .u8 c, .int .u8 d, .int .u8 e, .int .u8 f, .int .u8 g, .int .u8 h], u.oneCell' = true := by
  intro u hu
  simp at hu
  rcases hu with rfl | rfl | rfl | rfl | rfl | rfl | rfl | rfl <;> rfl

set_option maxRecDepth 100000 in
set_option maxHeartbeats 4000000 in
theorem appendWord_ok (B a : Nat) (ha : a ≤ 1) (K0 : Option Addr) (l0 kc : Nat) (bs0 : List UInt8) (hl0 : l0 ≤ 1000000000) (w : World) (hB : B ≤ w.heap.size) (hK : KeyV B w (.slice K0 l0 kc) bs0) :
    Calls Tryz.prog 268 #[.slice K0 l0 kc, .int .u64 ((a : Int) * 281474976710656 + 4294967296)] w fun r w' => ∃ v, r = .returned v ∧ KeyV B w' v (bs0 ++ by8 a) ∧ KeepY w w' ∧ Below B w w' := by
  have HK := Lib.hid hK
  obtain ⟨_, _, _, he, hlen, hown⟩ := hK
  cases he
  have HOW := Lib.hid hown
  obtain ⟨i0, hi, hz0, hz1, hz2⟩ := info_parts Tryz.info5
  have ha2 : a = 0 ∨ a = 1 := by omega
  have HLN := Lib.hid hlen
  clear hown hlen
  rcases ha2 with rfl | rfl
  · rw [show (((0 : Nat) : Int) * 281474976710656 + 4294967296) = 4294967296 from rfl]
    have HNX : Hid (∀ g gc w4, w4.ownsRow B 5 1 (.slice (some ⟨g, 0, none⟩) (l0 + 8) gc) (l0 + 8) (Lib.byteCells bs0 ++ [.int .u8 0, .int .u8 0, .int .u8 0, .int .u8 1, .int .u8 0, .int .u8 0, .int .u8 0, .int .u8 0]) → (w.alloc (.cells #[.int .u8 0, .int .u8 0, .int .u8 0, .int .u8 1, .int .u8 0, .int .u8 0, .int .u8 0, .int .u8 0] 5)).grownBy w4 (Value.slice K0 l0 kc).ownBlock →
        KeyV B w4 (.slice (some ⟨g, 0, none⟩) (l0 + 8) gc) (bs0 ++ by8 0) ∧ KeepY w w4 ∧ Below B w w4) := Lib.hid (fun g gc w4 h1 h2 => by
      have hb := below1 w (.cells #[.int .u8 0, .int .u8 0, .int .u8 0, .int .u8 1, .int .u8 0, .int .u8 0, .int .u8 0, .int .u8 0] 5)
      refine ⟨⟨_, _, _, rfl, by rw [List.length_append, HLN.out]; rfl, ?_⟩, (KeepY.of_below hb).trans ((HK.out.below hb).grown h2), ?_⟩
      · have e1 : Lib.byteCells (bs0 ++ by8 0) = Lib.byteCells bs0 ++ [.int .u8 0, .int .u8 0, .int .u8 0, .int .u8 1, .int .u8 0, .int .u8 0, .int .u8 0, .int .u8 0] := by
          simp only [Lib.byteCells, List.map_append]
          rfl
        rw [e1]
        exact h1
      · exact ((Below.refl B w).alloc hB _).grown h2 (by simp; omega) (fun k' e' => (HOW.out.lt k' e').1))
    go_enter Tryz.func268, Tryz.ntmps268
    go_wp2_with (at_builtin; go_loud (refine wpList_append_lies _ rfl _ _ 126 rfl B 5 i0 (.int .u8 0) 1 1 Tryz.underlying126 hi hz0 hz1 hz2 rfl (by decide) (.slice K0 l0 kc) l0 (Lib.byteCells bs0) rfl (HOW.out.alloc _) ⟨w.heap.size, 0, none⟩ 8 8 [.int .u8 0, .int .u8 0, .int .u8 0, .int .u8 1, .int .u8 0, .int .u8 0, .int .u8 0, .int .u8 0] rfl rfl (by8_new _ _ _) (one8 _ _ _ _ _ _ _ _) (by decide) (by unfold maxLen; omega) (by omega) (by simp; omega) (w.heap.size + 1) (by simp) ?_); intro g gc w4 hown4 hgrow4 hgo hglt)
    have HNEW := Lib.hid (HNX.out g gc w4 hown4 hgrow4)
    clear hown4 hgrow4 hgo hglt
    go_wp2_with fail
    go_ret
    exact ⟨_, rfl, HNEW.out⟩
  · rw [show (((1 : Nat) : Int) * 281474976710656 + 4294967296) = 281479271677952 from rfl]
    have HNX : Hid (∀ g gc w4, w4.ownsRow B 5 1 (.slice (some ⟨g, 0, none⟩) (l0 + 8) gc) (l0 + 8) (Lib.byteCells bs0 ++ [.int .u8 0, .int .u8 1, .int .u8 0, .int .u8 1, .int .u8 0, .int .u8 0, .int .u8 0, .int .u8 0]) → (w.alloc (.cells #[.int .u8 0, .int .u8 1, .int .u8 0, .int .u8 1, .int .u8 0, .int .u8 0, .int .u8 0, .int .u8 0] 5)).grownBy w4 (Value.slice K0 l0 kc).ownBlock →
        KeyV B w4 (.slice (some ⟨g, 0, none⟩) (l0 + 8) gc) (bs0 ++ by8 1) ∧ KeepY w w4 ∧ Below B w w4) := Lib.hid (fun g gc w4 h1 h2 => by
      have hb := below1 w (.cells #[.int .u8 0, .int .u8 1, .int .u8 0, .int .u8 1, .int .u8 0, .int .u8 0, .int .u8 0, .int .u8 0] 5)
      refine ⟨⟨_, _, _, rfl, by rw [List.length_append, HLN.out]; rfl, ?_⟩, (KeepY.of_below hb).trans ((HK.out.below hb).grown h2), ?_⟩
      · have e1 : Lib.byteCells (bs0 ++ by8 1) = Lib.byteCells bs0 ++ [.int .u8 0, .int .u8 1, .int .u8 0, .int .u8 1, .int .u8 0, .int .u8 0, .int .u8 0, .int .u8 0] := by
          simp only [Lib.byteCells, List.map_append]
          rfl
        rw [e1]
        exact h1
      · exact ((Below.refl B w).alloc hB _).grown h2 (by simp; omega) (fun k' e' => (HOW.out.lt k' e').1))
    go_enter Tryz.func268, Tryz.ntmps268
    go_wp2_with (at_builtin; go_loud (refine wpList_append_lies _ rfl _ _ 126 rfl B 5 i0 (.int .u8 0) 1 1 Tryz.underlying126 hi hz0 hz1 hz2 rfl (by decide) (.slice K0 l0 kc) l0 (Lib.byteCells bs0) rfl (HOW.out.alloc _) ⟨w.heap.size, 0, none⟩ 8 8 [.int .u8 0, .int .u8 1, .int .u8 0, .int .u8 1, .int .u8 0, .int .u8 0, .int .u8 0, .int .u8 0] rfl rfl (by8_new _ _ _) (one8 _ _ _ _ _ _ _ _) (by decide) (by unfold maxLen; omega) (by omega) (by simp; omega) (w.heap.size + 1) (by simp) ?_); intro g gc w4 hown4 hgrow4 hgo hglt)
    have HNEW := Lib.hid (HNX.out g gc w4 hown4 hgrow4)
    clear hown4 hgrow4 hgo hglt
    go_wp2_with fail
    go_ret
    exact ⟨_, rfl, HNEW.out⟩
end Go.Proofs.YtopbfgkfpgnalaaGreatDoor
