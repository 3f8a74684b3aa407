/-
  Contract of lists of the laws of layer 7: a row of lists of values.
-/
import Derived.Test.YtcophfhnhlaonaaGreatDoorJg
import Derived.Test.YtcophfhnhlaonaaGreatDoorJd
namespace Go.Proofs.YtcophfhnhlaonaaGreatDoor
set_option linter.unusedVariables false
open Go.RowKit

theorem Tryz.infoBS : (Tryz.prog.info? 44).map (fun i => (i.zero, i.size, i.bytes)) = some (some (.slice none 0 0), 1, 24) := by kernel_rfl
/-- The row that lists builds: each element leads to a block of its own. -/
structure LsR (n : Nat) (w : World) (v : Value) (L : List (Nat × Nat)) (W : World) : Prop where
  row : W.ownsRow w.heap.size 44 1 v L.length (L.map fun x => .slice (some ⟨x.2, 0, none⟩) n n)
  bel : Below w.heap.size w W
  els : ∀ x ∈ L, W.heap[x.2]? = some (blO (tbR (ptF x.1) n n))
theorem LsR.start (n : Nat) (w W : World) (h : Below w.heap.size w W) : LsR n w (.slice none 0 0) [] W := ⟨World.ownsRow_nil _ _ _ _, h, by simp⟩
theorem LsR.below {n : Nat} {w W W' : World} {v : Value} {L : List (Nat × Nat)} (h : LsR n w v L W) (hB : Below W.heap.size W W') : LsR n w v L W' :=
  ⟨ownsRow_below h.row hB, h.bel.trans (hB.mono h.bel.size), fun x hx => (hB.block _ (Array.getElem?_eq_some_iff.1 (h.els x hx)).1).trans (h.els x hx)⟩
theorem LsR.shape {n : Nat} {w W : World} {v : Value} {L : List (Nat × Nat)} (h : LsR n w v L W) : ∃ A c, v = .slice A L.length c := by
  rcases h.row.2 with ⟨rfl, h0⟩ | ⟨g, cap, cur, rfl, _⟩
  · exact ⟨none, 0, by rw [h0]⟩
  · exact ⟨_, _, rfl⟩
theorem LsR.push {n : Nat} {w W W2 : World} {v v' : Value} {L : List (Nat × Nat)} {tmp : Obj} (h : LsR n w v L W) (i g : Nat) (hg : W.heap[g]? = some (blO (tbR (ptF i) n n)))
    (hown : W2.ownsRow w.heap.size 44 1 v' (L.length + 1) (L.map (fun x => .slice (some ⟨x.2, 0, none⟩) n n) ++ [.slice (some ⟨g, 0, none⟩) n n])) (hgrow : (W.alloc tmp).grownBy W2 v.ownBlock) : LsR n w v' (L ++ [(i, g)]) W2 := by
  have kept : ∀ (k : Nat) (l : List Bool), W.heap[k]? = some (blO l) → W2.heap[k]? = some (blO l) := fun k l hk => by
    have hlt := (Array.getElem?_eq_some_iff.1 hk).1
    rw [hgrow.block k (by simp; omega) (fun e => row_not_cells h.row hk (by decide) e.symm), Below.heap_alloc _ _ _ hlt]
    exact hk
  refine ⟨by simpa using hown, (h.bel.alloc h.bel.size tmp).grown hgrow (by have := h.bel.size; simp; omega) (fun k' e' => (h.row.lt k' e').1), fun x hx => ?_⟩
  simp only [List.mem_append, List.mem_singleton] at hx
  rcases hx with hx | rfl
  · exact kept _ _ (h.els x hx)
  · exact kept _ _ hg
/-- The lists as they are read. -/
theorem LsR.at {n i : Nat} {w W : World} {g c : Nat} {L : List (Nat × Nat)} {x : Nat × Nat} (h : LsR n w (.slice (some ⟨g, 0, none⟩) L.length c) L W) (hx : L[i]? = some x) : W.cell? ⟨g, i, none⟩ = some (.slice (some ⟨x.2, 0, none⟩) n n) ∧ BlR W (some ⟨x.2, 0, none⟩) (tbR (ptF x.1) n n) := by
  refine ⟨?_, blO_rdS (h.els x (List.mem_of_getElem? hx))⟩
  have := h.row.cellAt i (by have := (List.getElem?_eq_some_iff.1 hx).1; omega)
  rw [this]
  simp [hx]

set_option maxRecDepth 100000 in
set_option maxHeartbeats 8000000 in
theorem lists_ok (n more : Nat) (hn : n ≤ 16) (hm : more ≤ 65535) (w : World) :
    Calls Tryz.prog 18 #[.int .i64 (n : Int), .int .u16 (more : Int)] w fun e w' => ∃ g c L, L.length = 65 ∧ e = .returned (.slice (some ⟨g, 0, none⟩) 65 c) ∧ LsR n w (.slice (some ⟨g, 0, none⟩) L.length c) L w' := by
  have HPT := Lib.hid (fun i (hi : i ≤ 1099511627776) W => Point_ref n i hn hi W)
  have hle : 2 ^ n ≤ 65536 := Nat.pow_le_pow_right (n := 2) (by omega) hn
  have hL1 : 1 ≤ 2 ^ n := Nat.pow_pos (by omega)
  have hsh : wrap64 ((2 : Int) ^ n) = ((2 ^ n : Nat) : Int) := by
    have : (2 : Int) ^ n = ((2 ^ n : Nat) : Int) := by simp
    rw [this]
    exact IntWalk.wrap64_in _ (by omega)
  have hsh2 : IntKind.i64.wrap ((2 : Int) ^ n) = ((2 ^ n : Nat) : Int) := by
    have : (2 : Int) ^ n = ((2 ^ n : Nat) : Int) := by simp
    rw [this]
    exact IntWalk.i64_in _ (by omega)
  generalize 2 ^ n = P at *
  obtain ⟨i0, hi, hz0, hz1, hz2⟩ := info_parts Tryz.infoBS
  have HI := Lib.hid (show Tryz.prog.info? 44 = some i0 ∧ i0.zero = some (.slice none 0 0) ∧ i0.size = 1 ∧ i0.bytes = 24 from ⟨hi, hz0, hz1, hz2⟩)
  clear hi hz0 hz1 hz2
  have HST := Lib.hid (LsR.start n w w (Below.refl _ _))
  go_enter Tryz.func18, Tryz.ntmps18
  go_wp2_with fail
  go_loopw [5, 6] (fun v iv W => ∃ (i : Nat) (L : List (Nat × Nat)), i ≤ 64 ∧ iv = .int .i64 i ∧ L.length = i ∧ LsR n w v L W) (fun _ iv _ => 64 - (intOf iv).toNat)
  case atStart => exact ⟨0, [], by omega, rfl, rfl, HST.out⟩
  case round =>
    clear HST
    obtain ⟨i, L, hi, rfl, hLl, hL⟩ := hrel
    have HL := Lib.hid hL
    obtain ⟨VA, VC, rfl⟩ := hL.shape
    rw [hLl] at HL
    have HLL := Lib.hid hLl
    clear hL
    rw [hLl]
    clear hLl
    have hsz : w.heap.size ≤ wr.heap.size := HL.out.bel.size
    by_cases hil : i < 64
    · have hmod : ((i : Int) * 2654435761).tmod (P : Int) = ((i * 2654435761 % P : Nat) : Int) := by
        rw [Int.tmod_eq_emod_of_nonneg (by omega)]
        simp
      have hml : i * 2654435761 % P < P := Nat.mod_lt _ (by omega)
      have HPI := Lib.hid (HPT.out (i * 2654435761 % P) (by omega) wr)
      generalize hq : i * 2654435761 % P = q at *
      clear hq
      go_wp2_with fail
      refine HPI.out.mono ?_
      rintro e w2 ⟨g2, _, rfl, hg2, hB2⟩
      have HG2 := Lib.hid hg2
      have ho2 := HL.out.below hB2
      have HO3 := Lib.hid ho2
      have HO2 : Hid (LsR n w (.slice VA i VC) L w2 ∧ w2.ownsRow w.heap.size 44 1 (.slice VA i VC) i (L.map fun x => .slice (some ⟨x.2, 0, none⟩) n n)) := Lib.hid ⟨ho2, by have := ho2.row; rw [HLL.out] at this; exact this⟩
      clear hg2 hB2 ho2
      go_wp2_with (at_builtin; refine wpList_append_lies _ rfl _ _ 41 rfl w.heap.size 44 i0 (.slice none 0 0) 1 24 Tryz.underlying41 HI.out.1 HI.out.2.1 HI.out.2.2.1 HI.out.2.2.2 rfl (by decide) (.slice VA i VC) i (L.map fun x => .slice (some ⟨x.2, 0, none⟩) n n) (by first | rfl | simp [Act.eval, Act.put]) (HO2.out.2.alloc _) ⟨w2.heap.size, 0, none⟩ 1 1 [.slice (some ⟨g2, 0, none⟩) n n] (by first | rfl | simp [Act.eval, Act.put]) rfl (cell_one_new _ _ _) (by intro u hu; simp at hu; subst hu; rfl) (by decide) (by unfold maxLen; omega) (by omega) (by have := HO3.out.bel.size; simp; omega) _ rfl ?_; intro g4 cap4 w4 hown hgrow _ _; have hnew := HO3.out.push q g2 HG2.out (by rw [HLL.out]; exact hown) hgrow; have HNEW := Lib.hid hnew; clear hown hgrow hnew)
      go_roundw
      case rel => exact ⟨i + 1, _, by omega, by go_num, by rw [List.length_append, HLL.out]; rfl, HNEW.out⟩
      case measure => simp [intOf]; omega
    · obtain rfl : i = 64 := by omega
      have hmod : (more : Int).tmod (P : Int) = ((more % P : Nat) : Int) := by
        rw [Int.tmod_eq_emod_of_nonneg (by omega)]
        simp
      have hml : more % P < P := Nat.mod_lt _ (by omega)
      have hw16 : IntKind.i64.wrap (more : Int) = (more : Int) := IntWalk.i64_in _ (by omega)
      have HPI := Lib.hid (HPT.out (more % P) (by omega) wr)
      generalize hq : more % P = q at *
      clear hq
      go_wp2_with fail
      refine HPI.out.mono ?_
      rintro e w2 ⟨g2, _, rfl, hg2, hB2⟩
      have HG2 := Lib.hid hg2
      have ho2 := HL.out.below hB2
      have HO3 := Lib.hid ho2
      have HO2 : Hid (LsR n w (.slice VA 64 VC) L w2 ∧ w2.ownsRow w.heap.size 44 1 (.slice VA 64 VC) 64 (L.map fun x => .slice (some ⟨x.2, 0, none⟩) n n)) := Lib.hid ⟨ho2, by have := ho2.row; rw [HLL.out] at this; exact this⟩
      clear hg2 hB2 ho2
      go_wp2_with (at_builtin; refine wpList_append_lies _ rfl _ _ 41 rfl w.heap.size 44 i0 (.slice none 0 0) 1 24 Tryz.underlying41 HI.out.1 HI.out.2.1 HI.out.2.2.1 HI.out.2.2.2 rfl (by decide) (.slice VA 64 VC) 64 (L.map fun x => .slice (some ⟨x.2, 0, none⟩) n n) (by first | rfl | simp [Act.eval, Act.put]) (HO2.out.2.alloc _) ⟨w2.heap.size, 0, none⟩ 1 1 [.slice (some ⟨g2, 0, none⟩) n n] (by first | rfl | simp [Act.eval, Act.put]) rfl (cell_one_new _ _ _) (by intro u hu; simp at hu; subst hu; rfl) (by decide) (by unfold maxLen; omega) (by omega) (by have := HO3.out.bel.size; simp; omega) _ rfl ?_; intro g4 cap4 w4 hown hgrow _ _; have hnew := HO3.out.push q g2 HG2.out (by rw [HLL.out]; exact hown) hgrow; have HNEW := Lib.hid hnew; clear hown hgrow hnew)
      go_ret
      exact ⟨g4, cap4, L ++ [(q, g2)], by rw [List.length_append, HLL.out]; rfl, rfl, by rw [List.length_append, HLL.out]; exact HNEW.out⟩
end Go.Proofs.YtcophfhnhlaonaaGreatDoor
