/-
  Contract of Table of package circuit.
-/
import Derived.Test.YtcophfhnhlaonaaDoorCim
namespace Go.Proofs.YtcophfhnhlaonaaDoor
set_option linter.unusedVariables false
open Go.RowKit

/-- The first k entries of a table. -/
def tbR (f : Nat → Bool) (L k : Nat) : List Bool := (List.range L).map fun a => if a < k then f a else false
section
variable {f : Nat → Bool} {L k : Nat}
theorem tbR_length (f : Nat → Bool) (L k : Nat) : (tbR f L k).length = L := by simp [tbR]
theorem tbR_zero (f : Nat → Bool) (L : Nat) : tbR f L 0 = List.replicate L false := by
  apply List.ext_getElem?
  intro a
  by_cases h : a < L <;> simp [tbR, h]
theorem tbR_at (h : k < L) : (tbR f L k)[k]? = some false := by simp [tbR, h]
theorem tbR_full {a : Nat} (h : a < L) : (tbR f L L)[a]? = some (f a) := by simp [tbR, h]
theorem tbR_next (h : k < L) : (tbR f L k).set k (f k) = tbR f L (k + 1) := by
  apply List.ext_getElem?
  intro a
  rw [List.getElem?_set]
  by_cases ha : a < L
  · by_cases hka : k = a
    · subst hka
      simp [tbR, ha]
    · have h1 : ¬ a = k := fun e => hka e.symm
      by_cases hlt : a < k
      · have h2 : a < k + 1 := by omega
        simp [tbR, ha, hka, hlt, h2]
      · have h2 : ¬ a < k + 1 := by omega
        simp [tbR, ha, hka, hlt, h2]
  · by_cases hka : k = a
    · omega
    · simp [tbR, ha, hka]
end
/-- Entry i of a circuit's table, as the program finds it. -/
def tabC (gs : List Gat) (n i : Nat) : Bool := decide ((valC (rowI (i / 64 * 64) n n 0) gs).toNat / 2 ^ (i % 64) % 2 = 1)
structure CTbl (inp : Int) (gs : List Gat) (w : World) (e : Ending) (w' : World) : Prop where
  bad : okC inp gs = false → e = .returned (.tuple #[.slice none 0 0, .int .i64 1])
  big : okC inp gs = true → 12 < inp → e = .returned (.tuple #[.slice none 0 0, .int .i64 5])
  tab : okC inp gs = true → inp ≤ 12 → ∃ g, w.heap.size ≤ g ∧ e = .returned (.tuple #[.slice (some ⟨g, 0, none⟩) (2 ^ inp.toNat) (2 ^ inp.toNat), .int .i64 0]) ∧ w'.heap[g]? = some (blO (tbR (tabC gs inp.toNat) (2 ^ inp.toNat) (2 ^ inp.toNat)))

set_option maxRecDepth 100000 in
set_option maxHeartbeats 8000000 in
theorem CTable_ok (inp : Int) (v : Value) (gs : List Gat) (w : World) (hv : CirV w v inp gs) :
    Calls Tryd.prog 14 #[v] w fun e w' => CTbl inp gs w e w' ∧ Below w.heap.size w w' := by
  have hv0 := hv
  obtain ⟨A, c, rfl, hr, hl⟩ := hv
  have HS0 := Lib.hid (BoxC.start w inp A gs.length c)
  have HVC := Lib.hid (CValid_ok inp _ gs _ (hv0.below HS0.out.bel))
  have HRW := Lib.hid (fun W (hW : Below w.heap.size w W) => hr.below hW)
  have HOK : Hid (okC inp gs = true → 0 ≤ inp ∧ inp ≤ 16) := Lib.hid (fun h => ⟨(okC_iff.1 h).1, (okC_iff.1 h).2.1⟩)
  obtain ⟨c0, c1⟩ := HS0.out.cells
  clear hr hv0
  have HVAL := Lib.hid (fun (h : okC inp gs = true) (W : World) (hW : Below w.heap.size w W) AX cx xs (hx : inp ≤ (List.length xs : Int)) hl hX => values_okC inp gs A AX c cx xs W (HRW.out W hW) h hx hl hX)
  obtain ⟨bb, hbb⟩ : ∃ b, okC inp gs = b := ⟨_, rfl⟩
  have HBB := Lib.hid hbb
  rw [hbb] at HVC HOK HVAL
  generalize gs.length = gl at *
  clear hbb HRW
  go_enter Tryd.func14, Tryd.ntmps14
  go_wp2_with fail
  refine HVC.out.mono ?_
  rintro e w2 ⟨rfl, hB2⟩
  have HS2 := Lib.hid (HS0.out.step hB2)
  obtain ⟨y0, y1⟩ := HS2.out.cells
  clear hB2 c0 c1
  cases bb
  · go_wp2_with fail
    go_ret2
    exact ⟨⟨fun _ => rfl, fun h => absurd (HBB.out.symm.trans h) (by decide), fun h => absurd (HBB.out.symm.trans h) (by decide)⟩, HS2.out.bel⟩
  have hval' := HVAL.out rfl
  obtain ⟨h0, h16⟩ := HOK.out rfl
  have HVL' := Lib.hid hval'
  clear hval' HVAL HOK
  by_cases t0 : 12 < inp
  · have d0 : decide (12 < inp) = true := decide_eq_true t0
    have HT0 := Lib.hid t0
    go_wp2_with fail
    go_ret2
    exact ⟨⟨fun h => absurd (HBB.out.symm.trans h) (by decide), fun _ _ => rfl, fun _ h => by have := HT0.out; omega⟩, HS2.out.bel⟩
  have d0 : decide (12 < inp) = false := decide_eq_false t0
  obtain ⟨n', rfl⟩ : ∃ n' : Nat, inp = n' := ⟨inp.toNat, by omega⟩
  have hn12 : n' ≤ 12 := by omega
  have HFIN : Hid (∀ e w', (∃ g, w.heap.size ≤ g ∧ e = .returned (.tuple #[.slice (some ⟨g, 0, none⟩) (2 ^ n') (2 ^ n'), .int .i64 0]) ∧ w'.heap[g]? = some (blO (tbR (tabC gs n') (2 ^ n') (2 ^ n')))) → CTbl n' gs w e w') := Lib.hid (fun e w' h => ⟨fun h2 => absurd (HBB.out.symm.trans h2) (by decide), fun _ h2 => by omega, fun _ _ => by rw [Int.toNat_natCast]; exact h⟩)
  have hle : 2 ^ n' ≤ 4096 := Nat.pow_le_pow_right (n := 2) (by omega) hn12
  have hL1 : 1 ≤ 2 ^ n' := Nat.pow_pos (by omega)
  have hsh : wrap64 ((2 : Int) ^ n') = ((2 ^ n' : Nat) : Int) := by
    have : (2 : Int) ^ n' = ((2 ^ n' : Nat) : Int) := by simp
    rw [this]
    exact IntWalk.wrap64_in _ (by omega)
  have hsh2 : IntKind.i64.wrap ((2 : Int) ^ n') = ((2 ^ n' : Nat) : Int) := by
    have : (2 : Int) ^ n' = ((2 ^ n' : Nat) : Int) := by simp
    rw [this]
    exact IntWalk.i64_in _ (by omega)
  generalize 2 ^ n' = L at *
  have hmk := make_bools L (by omega)
  have HST : Hid (BoxC w n' A gl c (w2.alloc (blO (List.replicate L false))) ∧ (w2.alloc (blO (List.replicate L false))).heap[w2.heap.size]? = some (blO (tbR (tabC gs n') L 0))) :=
    Lib.hid ⟨HS2.out.step (below1 _ _), by rw [tbR_zero]; exact alloc_at _ _ _ rfl⟩
  have HVL := Lib.hid (fun s g W (hW : Below w.heap.size w W) (hg : W.heap[g]? = some (wdO (rowI s n' n' 0))) => HVL'.out W hW (some ⟨g, 0, none⟩) n' (rowI s n' n' 0) (by rw [rowI_length]; omega) (by rw [rowI_length]; omega) (RdW.of_block hg))
  simp only [rowI_length] at HVL
  have HIF := Lib.hid (fun s (hs : s ≤ 8192) W => inputsFromC_ok s n' hs (by omega) W)
  have HWC := Lib.hid HS2.out.bel.size
  have HLT2 := Lib.hid HS2.out.lt
  clear HVL' t0
  go_wp2_with fail
  go_loopw [5, 6, 7] (fun sv _ _ W => ∃ cc st : Nat, st = 64 * cc ∧ st ≤ L + 63 ∧ sv = .int .i64 (st : Int) ∧ W.heap[w2.heap.size]? = some (blO (tbR (tabC gs n') L (min st L))) ∧ BoxC w n' A gl c W) (fun sv _ _ _ => L + 64 - (intOf sv).toNat)
  case atStart => exact ⟨0, 0, rfl, by omega, rfl, by rw [show min 0 L = 0 by omega]; exact HST.out.2, HST.out.1⟩
  case round =>
    clear HST y0 y1
    obtain ⟨cc, st, hst, hc, rfl, hg, hB⟩ := hrel
    have HG := Lib.hid (And.intro hg hB)
    have HSTT := Lib.hid hst
    obtain ⟨p0, p1⟩ := hB.cells
    clear hg hB hst
    by_cases hlt : st < L
    · have HIF1 := Lib.hid (HIF.out st (by omega) wr.drew)
      have hgl : w2.heap.size < wr.heap.size := (Array.getElem?_eq_some_iff.1 HG.out.1).1
      have HGL := Lib.hid hgl
      have HTP : Hid (∀ i, st ≤ i → i < st + 64 → tabC gs n' i = decide ((valC (rowI st n' n' 0) gs).toNat / 2 ^ (i - st) % 2 = 1)) := Lib.hid (fun i h1 h2 => by
        have e := HSTT.out
        have e1 : i / 64 * 64 = st := by omega
        have e2 : i % 64 = i - st := by omega
        rw [tabC, e1, e2])
      clear hgl
      obtain ⟨wo, rfl⟩ : ∃ wo : World, wo = wr := ⟨_, rfl⟩
      go_upto_region 9 with fail
      go_cut [6] (fun tv W => tv = .int .u64 (((valC (rowI st n' n' 0) gs).toNat : Nat) : Int) ∧ Below wo.heap.size wo W)
      case first =>
        go_region_law (first
          | (go_simp; (with_reducible refine HIF1.out.mono ?_); rintro e wa ⟨ga, hga, rfl, hgb, hBa⟩; have hba := ((Below.refl wo.heap.size wo).drew).trans (hBa.mono (Nat.le_refl _)); have q0 := (hba.cell (World.block_lt_of_cell? wo _ p0)).trans p0; have q1 := (hba.cell (World.block_lt_of_cell? wo _ p1)).trans p1)
          | (have hp := HG.out.2.bel.trans (hba.mono HG.out.2.bel.size); go_simp; (with_reducible refine (HVL.out st ga wa hp hgb).mono ?_); rintro e wb ⟨rfl, hBb⟩; have hbb := hba.trans (hBb.mono hba.size)))
        all_goals
          go_wp2_with fail
          go_meet
          exact ⟨rfl, hbb⟩
      case rest =>
        obtain ⟨rfl, hbx⟩ := hcut
        have HS5 := Lib.hid (And.intro ((hbx.block w2.heap.size HGL.out).trans HG.out.1) (HG.out.2.step hbx))
        generalize valC (rowI st n' n' 0) gs = x at *
        clear hbx p0 p1
        go_wp2_with fail
        go_loopw [7] (fun iv W => ∃ i : Nat, st ≤ i ∧ i ≤ L ∧ i ≤ st + 64 ∧ iv = .int .i64 i ∧ W.heap[w2.heap.size]? = some (blO (tbR (tabC gs n') L i)) ∧ BoxC w n' A gl c W) (fun iv _ => L - (intOf iv).toNat)
        case atStart => exact ⟨st, Nat.le_refl _, by omega, by omega, rfl, by have h := HS5.out.1; rw [show min st L = st by omega] at h; exact h, HS5.out.2⟩
        case round =>
          clear HS5
          obtain ⟨i, hi1, hi2, hi3, rfl, hg, hB⟩ := hrel
          have HGI := Lib.hid (And.intro hg hB)
          by_cases hil : i < L
          · by_cases hi64 : i < st + 64
            · obtain ⟨c1, f1⟩ := bl_cell hg (tbR_at hil)
              have dA : decide ((i : Int) < (st : Int) + 64) = true := decide_eq_true (by omega)
              have hbool : (bits .and .u64 (((x.toNat : Nat) : Int) / 2 ^ (i - st)) 1 == 1) = tabC gs n' i := by
                rw [take_bit x (i - st) (by omega), HTP.out i hi1 hi64]
                by_cases h : x.toNat / 2 ^ (i - st) % 2 = 1
                · simp [h]
                · have : x.toNat / 2 ^ (i - st) % 2 = 0 := by omega
                  simp [this]
              have hset := bl_set (j := i) (tabC gs n' i) hg
              rw [tbR_next hil, ← hbool] at hset
              have HSET := Lib.hid hset
              clear hg hB hbool hset
              go_wp2_with fail
              go_roundw
              case rel => exact ⟨i + 1, by omega, by omega, by omega, by go_num, HSET.out, HGI.out.2.put (p := ⟨w2.heap.size, i, none⟩) HLT2.out _⟩
              case measure => simp [intOf]; omega
            · have dA : decide ((i : Int) < (st : Int) + 64) = false := decide_eq_false (by omega)
              have hmin : min (st + 64) L = i := by omega
              have HMIN := Lib.hid hmin
              clear hg hB hmin
              go_wp2_with fail
              go_roundw
              case rel => exact ⟨cc + 1, st + 64, by have := HSTT.out; omega, by omega, by go_num, by rw [HMIN.out]; exact HGI.out.1, HGI.out.2⟩
              case measure => simp [intOf]; omega
          · have hmin : min (st + 64) L = i := by omega
            have HMIN := Lib.hid hmin
            clear hg hB hmin
            go_wp2_with fail
            go_roundw
            case rel => exact ⟨cc + 1, st + 64, by have := HSTT.out; omega, by omega, by go_num, by rw [HMIN.out]; exact HGI.out.1, HGI.out.2⟩
            case measure => simp [intOf]; omega
    · have hmin : min st L = L := by omega
      have HFG : Hid (wr.heap[w2.heap.size]? = some (blO (tbR (tabC gs n') L L)) ∧ BoxC w n' A gl c wr) := Lib.hid (by have h := HG.out; rw [hmin] at h; exact h)
      clear hmin
      go_wp2_with fail
      go_ret2
      exact ⟨HFIN.out _ _ ⟨w2.heap.size, HWC.out, rfl, HFG.out.1⟩, HFG.out.2.bel⟩
end Go.Proofs.YtcophfhnhlaonaaDoor
