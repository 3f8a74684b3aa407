/-
  Joined from Fml, Fmn: see there.
-/
import Derived.Test.YtcophfhnhlaonaaGreatDoorUn
namespace Go.Proofs.YtcophfhnhlaonaaGreatDoor
set_option linter.unusedVariables false
open Go.RowKit

def mesA : Option (Nat × Nat × Nat × Nat) → Int
  | some (a, _, _, _) => a
  | none => -1
def mesB : Option (Nat × Nat × Nat × Nat) → Int
  | some (_, b, _, _) => b
  | none => -1
def mesC : Option (Nat × Nat × Nat × Nat) → Int
  | some (_, _, c, _) => c
  | none => -1
def mesD : Option (Nat × Nat × Nat × Nat) → Int
  | some (_, _, _, d) => d
  | none => -1
theorem mesV_eq (o : Option (Nat × Nat × Nat × Nat)) : mesV o = .agg #[.int .i64 (mesA o), .int .i64 (mesB o), .int .i64 (mesC o), .int .i64 (mesD o)] := by
  rcases o with _ | ⟨a, b, c, d⟩ <;> rfl
theorem TreV.below {B : Nat} {w w' : World} {t : Tre} {v : Value} (h : TreV B w t v) (hb : Below w.heap.size w w') : TreV B w' t v := h.keep (KeepB.of_below B hb)

set_option maxRecDepth 100000 in
set_option maxHeartbeats 4000000 in
theorem Inputs_ok (t : Tre) (v : Value) (w : World) (hT : TreV 0 w t v) :
    Calls Tryz.prog 42 #[v] w fun e w' => e = .returned (.int .i64 (mesB (mesI fSh t))) ∧ Below w.heap.size w w' := by
  obtain ⟨k, n, ts⟩ := t
  have hT2 := hT
  unfold TreV at hT2
  obtain ⟨A, c, rfl, _⟩ := hT2
  have hb1 := below1 w (.cells #[.int .i64 k, .int .i64 n, .slice A ts.length c] 24)
  have HTT := Lib.hid (fun W (hW : Below w.heap.size w W) => hT.below hW)
  have HF := Lib.hid (fun W => formulas_ok W)
  have HME := Lib.hid (fun g W hs hT => measure_ok g fSh (by decide) (by decide) (by decide) (by decide) (.mk k n ts) (.agg #[.int .i64 k, .int .i64 n, .slice A ts.length c]) W hs hT)
  have HB1 := Lib.hid hb1
  have hsz : (w.alloc (.cells #[.int .i64 k, .int .i64 n, .slice A ts.length c] 24)).heap.size = w.heap.size + 1 := by simp
  have HSZ := Lib.hid hsz
  obtain ⟨t0, t1, t2⟩ := (show (w.alloc (.cells #[.int .i64 k, .int .i64 n, .slice A ts.length c] 24)).cell? ⟨w.heap.size, 0, none⟩ = some (.int .i64 k) ∧ (w.alloc (.cells #[.int .i64 k, .int .i64 n, .slice A ts.length c] 24)).cell? ⟨w.heap.size, 1, none⟩ = some (.int .i64 n) ∧ (w.alloc (.cells #[.int .i64 k, .int .i64 n, .slice A ts.length c] 24)).cell? ⟨w.heap.size, 2, none⟩ = some (.slice A ts.length c) from ⟨World.cell?_alloc_new _ _ _ 0, World.cell?_alloc_new _ _ _ 1, World.cell?_alloc_new _ _ _ 2⟩)
  have hbd := (below1 w (.cells #[.int .i64 k, .int .i64 n, .slice A ts.length c] 24)).alloc (by simp) (.cells #[.int .i64 0, .int .i64 0, .int .i64 0, .int .i64 0] 102)
  obtain ⟨d0, d1, d2⟩ := (show ((w.alloc (.cells #[.int .i64 k, .int .i64 n, .slice A ts.length c] 24)).alloc (.cells #[.int .i64 0, .int .i64 0, .int .i64 0, .int .i64 0] 102)).cell? ⟨w.heap.size, 0, none⟩ = some (.int .i64 k) ∧ ((w.alloc (.cells #[.int .i64 k, .int .i64 n, .slice A ts.length c] 24)).alloc (.cells #[.int .i64 0, .int .i64 0, .int .i64 0, .int .i64 0] 102)).cell? ⟨w.heap.size, 1, none⟩ = some (.int .i64 n) ∧ ((w.alloc (.cells #[.int .i64 k, .int .i64 n, .slice A ts.length c] 24)).alloc (.cells #[.int .i64 0, .int .i64 0, .int .i64 0, .int .i64 0] 102)).cell? ⟨w.heap.size, 2, none⟩ = some (.slice A ts.length c) from ⟨(World.cell?_alloc_lt _ _ _ (by simp)).trans t0, (World.cell?_alloc_lt _ _ _ (by simp)).trans t1, (World.cell?_alloc_lt _ _ _ (by simp)).trans t2⟩)
  clear hT hb1 hsz hbd
  rw [mesV_eq] at HME
  generalize mesI fSh (.mk k n ts) = o at *
  unfold langV at HF HME
  go_enter Tryz.func42, Tryz.ntmps42
  go_upto_region 1 with fail
  generalize w.alloc (.cells #[.int .i64 k, .int .i64 n, .slice A ts.length c] 24) = w1 at *
  go_region_law (first
    | (have hp := (Below.refl w1.heap.size w1).drew; go_simp; (with_reducible refine (HF.out w1.drew).mono ?_); rintro e wa ⟨g, hg, rfl, hs, hBa⟩; have hba := hp.trans (hBa.mono (Nat.le_refl _)); have a0 := (hba.cell (World.block_lt_of_cell? w1 _ t0)).trans t0; have a1 := (hba.cell (World.block_lt_of_cell? w1 _ t1)).trans t1; have a2 := (hba.cell (World.block_lt_of_cell? w1 _ t2)).trans t2; have hq := hba.alloc hba.size (.cells #[.int .i64 0, .int .i64 0, .int .i64 0, .int .i64 0] 102); have aa0 := (hq.cell (World.block_lt_of_cell? w1 _ t0)).trans t0; have aa1 := (hq.cell (World.block_lt_of_cell? w1 _ t1)).trans t1; have aa2 := (hq.cell (World.block_lt_of_cell? w1 _ t2)).trans t2)
    | (have hp := ((Below.refl w1.heap.size w1).alloc (Nat.le_refl _) (.cells #[.int .i64 0, .int .i64 0, .int .i64 0, .int .i64 0] 102)).drew; go_simp; (with_reducible refine (HF.out (w1.alloc (.cells #[.int .i64 0, .int .i64 0, .int .i64 0, .int .i64 0] 102)).drew).mono ?_); rintro e wa ⟨g, hg, rfl, hs, hBa⟩; have hba := hp.trans (hBa.mono (by simp)); have a0 := (hba.cell (World.block_lt_of_cell? w1 _ t0)).trans t0; have a1 := (hba.cell (World.block_lt_of_cell? w1 _ t1)).trans t1; have a2 := (hba.cell (World.block_lt_of_cell? w1 _ t2)).trans t2; obtain ⟨⟨q0, q1, q2, q3⟩, y0, y1, y2, y3⟩ := blk4_cells ((hBa.block w1.heap.size (by simp)).trans (alloc_at w1 (.cells #[.int .i64 0, .int .i64 0, .int .i64 0, .int .i64 0] 102) w1.heap.size rfl)))
    | (have hp := hba; have hlt := World.block_lt_of_cell? wa _ (hs 0 _ rfl).1; go_simp; (with_reducible refine (HME.out g wa hs (HTT.out wa (HB1.out.trans (hp.mono HB1.out.size)))).mono ?_); rintro e wb ⟨rfl, hBb⟩; have hbb := hp.trans (hBb.mono hp.size); have u0 := (hBb.cell (World.block_lt_of_cell? wa _ q0)).trans q0; have u1 := (hBb.cell (World.block_lt_of_cell? wa _ q1)).trans q1; have u2 := (hBb.cell (World.block_lt_of_cell? wa _ q2)).trans q2; have u3 := (hBb.cell (World.block_lt_of_cell? wa _ q3)).trans q3; have x0 := (hBb.frozen (p := ⟨w1.heap.size, 0, none⟩) (World.block_lt_of_cell? wa _ q0)).trans y0; have x1 := (hBb.frozen (p := ⟨w1.heap.size, 1, none⟩) (World.block_lt_of_cell? wa _ q1)).trans y1; have x2 := (hBb.frozen (p := ⟨w1.heap.size, 2, none⟩) (World.block_lt_of_cell? wa _ q2)).trans y2; have x3 := (hBb.frozen (p := ⟨w1.heap.size, 3, none⟩) (World.block_lt_of_cell? wa _ q3)).trans y3)
    | (have hp := hba; have hlt := World.block_lt_of_cell? wa _ (hs 0 _ rfl).1; go_simp; (with_reducible refine (HME.out g wa hs (HTT.out wa (HB1.out.trans (hp.mono HB1.out.size)))).mono ?_); rintro e wb ⟨rfl, hBb⟩; have hbb := hp.trans (hBb.mono hp.size))
    | (have hp := hba.alloc hba.size (.cells #[.int .i64 0, .int .i64 0, .int .i64 0, .int .i64 0] 102); have hsb := hs.below (below1 wa (.cells #[.int .i64 0, .int .i64 0, .int .i64 0, .int .i64 0] 102)); go_simp; (with_reducible refine (HME.out g (wa.alloc (.cells #[.int .i64 0, .int .i64 0, .int .i64 0, .int .i64 0] 102)) hsb (HTT.out (wa.alloc (.cells #[.int .i64 0, .int .i64 0, .int .i64 0, .int .i64 0] 102)) (HB1.out.trans (hp.mono HB1.out.size)))).mono ?_); rintro e wb ⟨rfl, hBb⟩; have hbb := hp.trans (hBb.mono hp.size); obtain ⟨⟨q0, q1, q2, q3⟩, y0, y1, y2, y3⟩ := blk4_cells ((hBb.block wa.heap.size (by simp)).trans (alloc_at wa (.cells #[.int .i64 0, .int .i64 0, .int .i64 0, .int .i64 0] 102) wa.heap.size rfl))))
  all_goals
    have hw := HB1.out.trans (hbb.mono HB1.out.size)
    have hl1 := HB1.out.size
    have hl2 := Nat.le_trans hl1 hba.size
    have hl3 := hw.size
    have HW := Lib.hid (And.intro hw (And.intro hl1 (And.intro hl2 hl3)))
    clear hw hl1 hl2 hl3
    go_wp2_with fail
    go_ret
    obtain ⟨hw, hl1, hl2, hl3⟩ := HW.out
    refine ⟨rfl, ?_⟩
    first
      | exact hw.alloc hl3 _
      | exact put4_below hw hl2 _ _ _ _
      | exact put4_below hw hl1 _ _ _ _

set_option maxRecDepth 100000 in
set_option maxHeartbeats 4000000 in
theorem Valid_ok (t : Tre) (v : Value) (w : World) (hT : TreV 0 w t v) :
    Calls Tryz.prog 41 #[v] w fun e w' => e = .returned (.bool (mesI fSh t).isSome) ∧ Below w.heap.size w w' := by
  obtain ⟨k, n, ts⟩ := t
  have hT2 := hT
  unfold TreV at hT2
  obtain ⟨A, c, rfl, _⟩ := hT2
  have hb1 := below1 w (.cells #[.int .i64 k, .int .i64 n, .slice A ts.length c] 24)
  have HTT := Lib.hid (fun W (hW : Below w.heap.size w W) => hT.below hW)
  have HF := Lib.hid (fun W => formulas_ok W)
  have HME := Lib.hid (fun g W hs hT => measure_ok g fSh (by decide) (by decide) (by decide) (by decide) (.mk k n ts) (.agg #[.int .i64 k, .int .i64 n, .slice A ts.length c]) W hs hT)
  have HB1 := Lib.hid hb1
  have hsz : (w.alloc (.cells #[.int .i64 k, .int .i64 n, .slice A ts.length c] 24)).heap.size = w.heap.size + 1 := by simp
  have HSZ := Lib.hid hsz
  obtain ⟨t0, t1, t2⟩ := (show (w.alloc (.cells #[.int .i64 k, .int .i64 n, .slice A ts.length c] 24)).cell? ⟨w.heap.size, 0, none⟩ = some (.int .i64 k) ∧ (w.alloc (.cells #[.int .i64 k, .int .i64 n, .slice A ts.length c] 24)).cell? ⟨w.heap.size, 1, none⟩ = some (.int .i64 n) ∧ (w.alloc (.cells #[.int .i64 k, .int .i64 n, .slice A ts.length c] 24)).cell? ⟨w.heap.size, 2, none⟩ = some (.slice A ts.length c) from ⟨World.cell?_alloc_new _ _ _ 0, World.cell?_alloc_new _ _ _ 1, World.cell?_alloc_new _ _ _ 2⟩)
  have hbd := (below1 w (.cells #[.int .i64 k, .int .i64 n, .slice A ts.length c] 24)).alloc (by simp) (.cells #[.int .i64 0, .int .i64 0, .int .i64 0, .int .i64 0] 102)
  obtain ⟨d0, d1, d2⟩ := (show ((w.alloc (.cells #[.int .i64 k, .int .i64 n, .slice A ts.length c] 24)).alloc (.cells #[.int .i64 0, .int .i64 0, .int .i64 0, .int .i64 0] 102)).cell? ⟨w.heap.size, 0, none⟩ = some (.int .i64 k) ∧ ((w.alloc (.cells #[.int .i64 k, .int .i64 n, .slice A ts.length c] 24)).alloc (.cells #[.int .i64 0, .int .i64 0, .int .i64 0, .int .i64 0] 102)).cell? ⟨w.heap.size, 1, none⟩ = some (.int .i64 n) ∧ ((w.alloc (.cells #[.int .i64 k, .int .i64 n, .slice A ts.length c] 24)).alloc (.cells #[.int .i64 0, .int .i64 0, .int .i64 0, .int .i64 0] 102)).cell? ⟨w.heap.size, 2, none⟩ = some (.slice A ts.length c) from ⟨(World.cell?_alloc_lt _ _ _ (by simp)).trans t0, (World.cell?_alloc_lt _ _ _ (by simp)).trans t1, (World.cell?_alloc_lt _ _ _ (by simp)).trans t2⟩)
  clear hT hb1 hsz hbd
  rw [mesV_eq] at HME
  generalize mesI fSh (.mk k n ts) = o at *
  unfold langV at HF HME
  go_enter Tryz.func41, Tryz.ntmps41
  go_upto_region 1 with fail
  generalize w.alloc (.cells #[.int .i64 k, .int .i64 n, .slice A ts.length c] 24) = w1 at *
  go_region_law (first
    | (have hp := (Below.refl w1.heap.size w1).drew; go_simp; (with_reducible refine (HF.out w1.drew).mono ?_); rintro e wa ⟨g, hg, rfl, hs, hBa⟩; have hba := hp.trans (hBa.mono (Nat.le_refl _)); have a0 := (hba.cell (World.block_lt_of_cell? w1 _ t0)).trans t0; have a1 := (hba.cell (World.block_lt_of_cell? w1 _ t1)).trans t1; have a2 := (hba.cell (World.block_lt_of_cell? w1 _ t2)).trans t2; have hq := hba.alloc hba.size (.cells #[.int .i64 0, .int .i64 0, .int .i64 0, .int .i64 0] 102); have aa0 := (hq.cell (World.block_lt_of_cell? w1 _ t0)).trans t0; have aa1 := (hq.cell (World.block_lt_of_cell? w1 _ t1)).trans t1; have aa2 := (hq.cell (World.block_lt_of_cell? w1 _ t2)).trans t2)
    | (have hp := ((Below.refl w1.heap.size w1).alloc (Nat.le_refl _) (.cells #[.int .i64 0, .int .i64 0, .int .i64 0, .int .i64 0] 102)).drew; go_simp; (with_reducible refine (HF.out (w1.alloc (.cells #[.int .i64 0, .int .i64 0, .int .i64 0, .int .i64 0] 102)).drew).mono ?_); rintro e wa ⟨g, hg, rfl, hs, hBa⟩; have hba := hp.trans (hBa.mono (by simp)); have a0 := (hba.cell (World.block_lt_of_cell? w1 _ t0)).trans t0; have a1 := (hba.cell (World.block_lt_of_cell? w1 _ t1)).trans t1; have a2 := (hba.cell (World.block_lt_of_cell? w1 _ t2)).trans t2; obtain ⟨⟨q0, q1, q2, q3⟩, y0, y1, y2, y3⟩ := blk4_cells ((hBa.block w1.heap.size (by simp)).trans (alloc_at w1 (.cells #[.int .i64 0, .int .i64 0, .int .i64 0, .int .i64 0] 102) w1.heap.size rfl)))
    | (have hp := hba; have hlt := World.block_lt_of_cell? wa _ (hs 0 _ rfl).1; go_simp; (with_reducible refine (HME.out g wa hs (HTT.out wa (HB1.out.trans (hp.mono HB1.out.size)))).mono ?_); rintro e wb ⟨rfl, hBb⟩; have hbb := hp.trans (hBb.mono hp.size); have u0 := (hBb.cell (World.block_lt_of_cell? wa _ q0)).trans q0; have u1 := (hBb.cell (World.block_lt_of_cell? wa _ q1)).trans q1; have u2 := (hBb.cell (World.block_lt_of_cell? wa _ q2)).trans q2; have u3 := (hBb.cell (World.block_lt_of_cell? wa _ q3)).trans q3; have x0 := (hBb.frozen (p := ⟨w1.heap.size, 0, none⟩) (World.block_lt_of_cell? wa _ q0)).trans y0; have x1 := (hBb.frozen (p := ⟨w1.heap.size, 1, none⟩) (World.block_lt_of_cell? wa _ q1)).trans y1; have x2 := (hBb.frozen (p := ⟨w1.heap.size, 2, none⟩) (World.block_lt_of_cell? wa _ q2)).trans y2; have x3 := (hBb.frozen (p := ⟨w1.heap.size, 3, none⟩) (World.block_lt_of_cell? wa _ q3)).trans y3)
    | (have hp := hba; have hlt := World.block_lt_of_cell? wa _ (hs 0 _ rfl).1; go_simp; (with_reducible refine (HME.out g wa hs (HTT.out wa (HB1.out.trans (hp.mono HB1.out.size)))).mono ?_); rintro e wb ⟨rfl, hBb⟩; have hbb := hp.trans (hBb.mono hp.size))
    | (have hp := hba.alloc hba.size (.cells #[.int .i64 0, .int .i64 0, .int .i64 0, .int .i64 0] 102); have hsb := hs.below (below1 wa (.cells #[.int .i64 0, .int .i64 0, .int .i64 0, .int .i64 0] 102)); go_simp; (with_reducible refine (HME.out g (wa.alloc (.cells #[.int .i64 0, .int .i64 0, .int .i64 0, .int .i64 0] 102)) hsb (HTT.out (wa.alloc (.cells #[.int .i64 0, .int .i64 0, .int .i64 0, .int .i64 0] 102)) (HB1.out.trans (hp.mono HB1.out.size)))).mono ?_); rintro e wb ⟨rfl, hBb⟩; have hbb := hp.trans (hBb.mono hp.size); obtain ⟨⟨q0, q1, q2, q3⟩, y0, y1, y2, y3⟩ := blk4_cells ((hBb.block wa.heap.size (by simp)).trans (alloc_at wa (.cells #[.int .i64 0, .int .i64 0, .int .i64 0, .int .i64 0] 102) wa.heap.size rfl))))
  all_goals
    have hw := HB1.out.trans (hbb.mono HB1.out.size)
    have hl1 := HB1.out.size
    have hl2 := Nat.le_trans hl1 hba.size
    have hl3 := hw.size
    have HW := Lib.hid (And.intro hw (And.intro hl1 (And.intro hl2 hl3)))
    clear hw hl1 hl2 hl3
    go_wp2_with fail
    go_ret
    obtain ⟨hw, hl1, hl2, hl3⟩ := HW.out
    refine ⟨rfl, ?_⟩
    first
      | exact hw.alloc hl3 _
      | exact put4_below hw hl2 _ _ _ _
      | exact put4_below hw hl1 _ _ _ _
end Go.Proofs.YtcophfhnhlaonaaGreatDoor
namespace Go.Proofs.YtcophfhnhlaonaaGreatDoor
set_option linter.unusedVariables false
open Go.RowKit

def comb (x : List (BitVec 64)) (k n : Int) (vs : List (BitVec 64)) : BitVec 64 :=
  if k = 0 then x[n.toNat]?.getD 0
  else if k = 1 then (if n = 0 then 0 else BitVec.allOnes 64)
  else if k = 2 then ~~~ (vs[0]?.getD 0)
  else if k = 3 then vs[0]?.getD 0 &&& vs[1]?.getD 0
  else if k = 4 then vs[0]?.getD 0 ||| vs[1]?.getD 0
  else vs[0]?.getD 0 ^^^ vs[1]?.getD 0
mutual
def valB (x : List (BitVec 64)) : Tre → BitVec 64
  | .mk k n ts => comb x k n (valL x ts)
def valL (x : List (BitVec 64)) : List Tre → List (BitVec 64)
  | [] => []
  | t :: ts => valB x t :: valL x ts
end
theorem valL_at {x : List (BitVec 64)} : ∀ {ts : List Tre} {i : Nat} {t : Tre}, ts[i]? = some t → (valL x ts)[i]?.getD 0 = valB x t
  | [], _, _, h => by simp at h
  | t :: ts, 0, u, h => by simp at h; subst h; simp [valL]
  | t :: ts, i + 1, u, h => by
    have := valL_at (x := x) (ts := ts) (i := i) (t := u) (by simpa using h)
    simpa [valL] using this
mutual
def okT (sh : List Sh) (m : Nat) : Tre → Prop
  | .mk k n ts => permN sh k n ts.length = true ∧ (k = 0 → n < (m : Int)) ∧ okL sh m ts
def okL (sh : List Sh) (m : Nat) : List Tre → Prop
  | [] => True
  | t :: ts => okT sh m t ∧ okL sh m ts
end
theorem okL_at {sh : List Sh} {m : Nat} : ∀ {ts : List Tre} {i : Nat} {t : Tre}, okL sh m ts → ts[i]? = some t → okT sh m t
  | [], _, _, _, h => by simp at h
  | t :: ts, 0, u, hk, h => by
    unfold okL at hk
    simp at h; subst h; exact hk.1
  | t :: ts, i + 1, u, hk, h => by
    unfold okL at hk
    exact okL_at hk.2 (by simpa using h)
mutual
theorem okT.mono {sh : List Sh} {m m' : Nat} (h : m ≤ m') : ∀ {t : Tre}, okT sh m t → okT sh m' t
  | .mk k n ts, hk => by
    unfold okT at hk ⊢
    exact ⟨hk.1, fun e => by have := hk.2.1 e; omega, okL.mono h hk.2.2⟩
theorem okL.mono {sh : List Sh} {m m' : Nat} (h : m ≤ m') : ∀ {ts : List Tre}, okL sh m ts → okL sh m' ts
  | [], _ => by unfold okL; trivial
  | t :: ts, hk => by
    unfold okL at hk ⊢
    exact ⟨okT.mono h hk.1, okL.mono h hk.2⟩
end
mutual
theorem visN_okT {sh : List Sh} : ∀ {t : Tre} {nest : Nat} {m m' : Ms} {d : Nat}, visN sh t nest m = (some d, m') → okT sh m'.inputs t ∧ m.inputs ≤ m'.inputs
  | .mk k n ts, nest, m, m', d, h => by
    unfold visN at h
    split at h
    · simp at h
    · rename_i hc
      split at h
      · simp at h
      · rename_i d1 m1 h1
        simp at h
        obtain ⟨rfl, rfl⟩ := h
        obtain ⟨a1, a2⟩ := visL_okT h1
        have hp : permN sh k n ts.length = true := by cases hp : permN sh k n ts.length; exact absurd (.inr (.inr hp)) hc; rfl
        have hst : m.inputs ≤ (Ms.step { m with nodes := m.nodes + 1 } k n ts.length).inputs := by
          show m.inputs ≤ (if k = 0 then max m.inputs (n + 1).toNat else m.inputs)
          split <;> omega
        refine ⟨?_, by omega⟩
        unfold okT
        refine ⟨hp, fun e => ?_, a1⟩
        have : (Ms.step { m with nodes := m.nodes + 1 } k n ts.length).inputs = max m.inputs (n + 1).toNat := by simp [Ms.step, e]
        omega
theorem visL_okT {sh : List Sh} : ∀ {ts : List Tre} {nest : Nat} {m m' : Ms} {d0 d : Nat}, visL sh ts nest m d0 = (some d, m') → okL sh m'.inputs ts ∧ m.inputs ≤ m'.inputs
  | [], nest, m, m', d0, d, h => by
    unfold visL at h
    simp at h
    obtain ⟨_, rfl⟩ := h
    exact ⟨by unfold okL; trivial, Nat.le_refl _⟩
  | t :: ts, nest, m, m', d0, d, h => by
    unfold visL at h
    split at h
    · simp at h
    · rename_i x m1 h1
      obtain ⟨a1, a2⟩ := visN_okT h1
      obtain ⟨b1, b2⟩ := visL_okT h
      refine ⟨?_, by omega⟩
      unfold okL
      exact ⟨a1.mono b2, b1⟩
end
theorem ofInt_toNat (a : BitVec 64) : BitVec.ofInt 64 ((a.toNat : Nat) : Int) = a := by
  apply BitVec.eq_of_toNat_eq
  simp
theorem wrap_u64_toNat (a : BitVec 64) : IntKind.u64.wrap ((a.toNat : Nat) : Int) = ((a.toNat : Nat) : Int) := by
  rw [IntKind.wrap_u64]
  have := a.isLt
  omega
theorem and_u64 (a b : BitVec 64) : bits .and .u64 ((a.toNat : Nat) : Int) ((b.toNat : Nat) : Int) = (((a &&& b).toNat : Nat) : Int) := by
  show IntKind.u64.wrap (((BitVec.ofInt 64 ((a.toNat : Nat) : Int)) &&& (BitVec.ofInt 64 ((b.toNat : Nat) : Int))).toNat : Int) = _
  rw [ofInt_toNat, ofInt_toNat, wrap_u64_toNat]
theorem or_u64 (a b : BitVec 64) : bits .or .u64 ((a.toNat : Nat) : Int) ((b.toNat : Nat) : Int) = (((a ||| b).toNat : Nat) : Int) := by
  show IntKind.u64.wrap (((BitVec.ofInt 64 ((a.toNat : Nat) : Int)) ||| (BitVec.ofInt 64 ((b.toNat : Nat) : Int))).toNat : Int) = _
  rw [ofInt_toNat, ofInt_toNat, wrap_u64_toNat]
theorem xor_u64 (a b : BitVec 64) : bits .xor .u64 ((a.toNat : Nat) : Int) ((b.toNat : Nat) : Int) = (((a ^^^ b).toNat : Nat) : Int) := by
  show IntKind.u64.wrap (((BitVec.ofInt 64 ((a.toNat : Nat) : Int)) ^^^ (BitVec.ofInt 64 ((b.toNat : Nat) : Int))).toNat : Int) = _
  rw [ofInt_toNat, ofInt_toNat, wrap_u64_toNat]
theorem not_u64 (a : BitVec 64) : bits .xor .u64 IntKind.u64.max ((a.toNat : Nat) : Int) = (((~~~ a).toNat : Nat) : Int) := by
  have h := xor_u64 (BitVec.allOnes 64) a
  have e : (((BitVec.allOnes 64).toNat : Nat) : Int) = IntKind.u64.max := by decide
  rw [e] at h
  rw [h, BitVec.allOnes_xor]
theorem length_two {α : Type} {l : List α} (h : l.length = 2) : ∃ a b, l = [a, b] := by
  match l, h with
  | [a, b], _ => exact ⟨a, b, rfl⟩

/-- A row of words that comes in. -/
def RdW (w : World) (A : Option Addr) (xs : List (BitVec 64)) : Prop := ∀ (k : Nat) (x : BitVec 64), xs[k]? = some x → ∃ b off, A = some ⟨b, off, none⟩ ∧ w.cell? ⟨b, off + k, none⟩ = some (.int .u64 ((x.toNat : Nat) : Int))
theorem RdW.below {w w' : World} {A : Option Addr} {xs : List (BitVec 64)} (h : RdW w A xs) (hB : Below w.heap.size w w') : RdW w' A xs := fun k x hk => by
  obtain ⟨b, off, e, hc⟩ := h k x hk
  exact ⟨b, off, e, (hB.cell (World.block_lt_of_cell? w _ hc)).trans hc⟩

end Go.Proofs.YtcophfhnhlaonaaGreatDoor
