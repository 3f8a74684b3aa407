/-
  Joined from Cis, Cit, Ciu, Civ: see there.
-/
import Derived.Test.YtcophfhnhlaonaaGreatDoorJe
import Derived.Test.YtcophfhnhlaonaaGreatDoorVd
import Derived.BigRegion
import Derived.StillTailTactics
namespace Go.Proofs.YtcophfhnhlaonaaGreatDoor
set_option linter.unusedVariables false
open Go.RowKit

def atB (vs : List Bool) (x : Int) : Bool := vs[x.toNat]?.getD false
/-- The value of a gate. -/
def gvG (x : Nat → Bool) (vs : List Bool) (g : Gat) : Bool :=
  if g.k = 0 then x g.n.toNat
  else if g.k = 1 then decide (g.n ≠ 0)
  else if g.k = 2 then !(atB vs (g.ks[0]?.getD 0))
  else if g.k = 3 then atB vs (g.ks[0]?.getD 0) && atB vs (g.ks[1]?.getD 0)
  else if g.k = 4 then atB vs (g.ks[0]?.getD 0) || atB vs (g.ks[1]?.getD 0)
  else atB vs (g.ks[0]?.getD 0) != atB vs (g.ks[1]?.getD 0)
def gvL (x : Nat → Bool) (gs : List Gat) : List Bool := runL (gvG x) gs []
def gvC (x : Nat → Bool) (gs : List Gat) : Bool := (gvL x gs)[gs.length - 1]?.getD false
theorem atB_at {vs : List Bool} {a : Nat} {y : Bool} (h : vs[a]? = some y) : atB vs (a : Int) = y := by simp [atB, h]
theorem runL_map {α β : Type} {f : List α → Gat → α} {f' : List β → Gat → β} {h : α → β} (hf : ∀ ws g, h (f ws g) = f' (ws.map h) g) : ∀ (gs : List Gat) (acc : List α), (runL f gs acc).map h = runL f' gs (acc.map h)
  | [], acc => rfl
  | g :: gs, acc => by
    rw [runL, runL, runL_map hf gs, List.map_append, List.map_singleton, hf]
theorem atW_bit (ws : List (BitVec 64)) (x : Int) (j : Nat) : (atW ws x).getLsbD j = atB (ws.map fun y => y.getLsbD j) x := by
  unfold atW atB
  exact bit_getD ws _ j
theorem valG_bit (xs ws : List (BitVec 64)) (g : Gat) (j : Nat) (hj : j < 64) : (valG xs ws g).getLsbD j = gvG (fun a => (xs[a]?.getD 0).getLsbD j) (ws.map fun y => y.getLsbD j) g := by
  unfold valG gvG
  by_cases h0 : g.k = 0
  · rw [if_pos h0, if_pos h0]; rfl
  · rw [if_neg h0, if_neg h0]
    by_cases h1 : g.k = 1
    · rw [if_pos h1, if_pos h1]
      by_cases hn : g.n = 0
      · rw [if_pos hn]; simp [hn]
      · rw [if_neg hn, BitVec.getLsbD_allOnes]; simp [hn, hj]
    · rw [if_neg h1, if_neg h1]
      by_cases h2 : g.k = 2
      · rw [if_pos h2, if_pos h2, ← atW_bit]; simp [hj]
      · rw [if_neg h2, if_neg h2]
        by_cases h3 : g.k = 3
        · rw [if_pos h3, if_pos h3, ← atW_bit, ← atW_bit]; simp
        · rw [if_neg h3, if_neg h3]
          by_cases h4 : g.k = 4
          · rw [if_pos h4, if_pos h4, ← atW_bit, ← atW_bit]; simp
          · rw [if_neg h4, if_neg h4, ← atW_bit, ← atW_bit]; simp
theorem valC_bit (xs : List (BitVec 64)) (gs : List Gat) (j : Nat) (hj : j < 64) : (valC xs gs).getLsbD j = gvC (fun a => (xs[a]?.getD 0).getLsbD j) gs := by
  unfold valC gvC valsL gvL
  rw [bit_getD, runL_map (h := fun y : BitVec 64 => y.getLsbD j) (fun ws g => valG_bit xs ws g j hj)]
  rfl
theorem gvG_congr {inp : Int} {e : Nat} {f g : Nat → Bool} {vs : List Bool} {gt : Gat} (hok : okG inp e gt = true) (h : ∀ a : Nat, (a : Int) < inp → f a = g a) : gvG f vs gt = gvG g vs gt := by
  unfold gvG
  by_cases h0 : gt.k = 0
  · rw [if_pos h0, if_pos h0]
    rcases okG_cases hok with ⟨_, h1, h2, _⟩ | ⟨h1, _⟩ | ⟨_, h1, _⟩ | ⟨_, _, h1, _⟩
    · exact h _ (by omega)
    · omega
    · omega
    · omega
  · rw [if_neg h0, if_neg h0]
theorem gvL_congr {inp : Int} {f g : Nat → Bool} (h : ∀ a : Nat, (a : Int) < inp → f a = g a) : ∀ (gs : List Gat) (i : Nat) (acc : List Bool), gokL inp gs i = true → runL (gvG f) gs acc = runL (gvG g) gs acc
  | [], i, acc, _ => rfl
  | x :: gs, i, acc, hk => by
    rw [gokL, Bool.and_eq_true] at hk
    rw [runL, runL, gvG_congr hk.1 h, gvL_congr h gs (i + 1) _ hk.2]
theorem gvC_congr {inp : Int} {f g : Nat → Bool} {gs : List Gat} (hok : okC inp gs = true) (h : ∀ a : Nat, (a : Int) < inp → f a = g a) : gvC f gs = gvC g gs := by
  unfold gvC gvL
  rw [gvL_congr h gs 0 [] (okC_iff.1 hok).2.2.2.2]
/-- The value at the bits of i. -/
def gvB (gs : List Gat) (i : Nat) : Bool := gvC (fun a => decide (bitN i a = 1)) gs
theorem tabC_gv {inp : Int} {gs : List Gat} (hok : okC inp gs = true) (i : Nat) : tabC gs inp.toNat i = gvB gs i := by
  unfold tabC gvB
  rw [toNat_bit, valC_bit _ _ _ (Nat.mod_lt _ (by omega))]
  refine gvC_congr hok fun a ha => ?_
  rw [row_bit]
  have : a < inp.toNat := by omega
  simp [this]
theorem tbR_congr {f g : Nat → Bool} (h : ∀ a, f a = g a) (L k : Nat) : tbR f L k = tbR g L k := by
  rw [show f = g from funext h]

/-- What Eval of package circuit returns. -/
structure CEvl (inp : Int) (gs : List Gat) (xs : List Bool) (e : Ending) : Prop where
  bad : okC inp gs = false → e = .returned (.tuple #[.bool false, .int .i64 1])
  arg : okC inp gs = true → (xs.length : Int) ≠ inp → e = .returned (.tuple #[.bool false, .int .i64 2])
  val : okC inp gs = true → (xs.length : Int) = inp → e = .returned (.tuple #[.bool (gvC (fun a => xs[a]?.getD false) gs), .int .i64 0])

set_option maxRecDepth 100000 in
set_option maxHeartbeats 8000000 in
theorem CEval_ok (inp : Int) (v : Value) (gs : List Gat) (AX : Option Addr) (cx : Nat) (xs : List Bool) (w : World) (hv : CirV w v inp gs) (hX : BlR w AX xs) (hx40 : xs.length ≤ 1099511627776) :
    Calls Tryz.prog 33 #[v, .slice AX xs.length cx] w fun e w' => CEvl inp gs xs e ∧ Below w.heap.size w w' := by
  have hv0 := hv
  obtain ⟨A, c, rfl, hr, hl⟩ := hv
  have HS0 := Lib.hid (BoxC.start w inp A gs.length c)
  have HVC := Lib.hid (CValid_ok inp _ gs _ (hv0.below HS0.out.bel))
  have HRW := Lib.hid (fun W (hW : Below w.heap.size w W) => hr.below hW)
  have HXW := Lib.hid (fun W (hW : Below w.heap.size w W) => hX.below hW)
  have HOK : Hid (okC inp gs = true → 0 ≤ inp ∧ inp ≤ 16) := Lib.hid (fun h => ⟨(okC_iff.1 h).1, (okC_iff.1 h).2.1⟩)
  obtain ⟨c0, c1⟩ := HS0.out.cells
  clear hr hv0 hX
  have HVAL := Lib.hid (fun (h : okC inp gs = true) (W : World) (hW : Below w.heap.size w W) AX cx xs (hx : inp ≤ (List.length xs : Int)) hl hX => values_okC inp gs A AX c cx xs W (HRW.out W hW) h hx hl hX)
  have HCG := Lib.hid (fun (h : okC inp gs = true) => gvC_congr (f := fun a => ((evW xs inp.toNat inp.toNat)[a]?.getD 0).getLsbD 0) (g := fun a => xs[a]?.getD false) h (fun a ha => by
    have ha2 : a < inp.toNat := by omega
    simp only [evW, List.getElem?_map, List.getElem?_range ha2, Option.map_some, Option.getD_some]
    cases xs[a]?.getD false <;> simp [ha2]))
  obtain ⟨bb, hbb⟩ : ∃ b, okC inp gs = b := ⟨_, rfl⟩
  have HBB := Lib.hid hbb
  rw [hbb] at HVC HOK HVAL HCG
  generalize gs.length = gl at *
  clear hbb HRW
  go_enter Tryz.func33, Tryz.ntmps33
  go_wp2_with fail
  refine HVC.out.mono ?_
  rintro e w2 ⟨rfl, hB2⟩
  have HS2 := Lib.hid (HS0.out.step hB2)
  obtain ⟨y0, y1⟩ := HS2.out.cells
  clear hB2 c0 c1
  cases bb
  · go_wp2_with fail
    go_ret2
    exact ⟨⟨fun _ => rfl, fun h => absurd (HBB.out.symm.trans h) (by decide), fun h => absurd (HBB.out.symm.trans h) (by decide)⟩, HS2.out.bel⟩
  have hval' := HVAL.out rfl
  have hcg := HCG.out rfl
  obtain ⟨h0, h16⟩ := HOK.out rfl
  have HVL' := Lib.hid hval'
  have HCG2 := Lib.hid hcg
  clear hval' hcg HVAL HOK HCG
  obtain ⟨m, rfl⟩ : ∃ m : Nat, inp = m := ⟨inp.toNat, by omega⟩
  rw [Int.toNat_natCast] at HCG2
  by_cases t0 : ¬ xs.length = m
  · have d0 : ((xs.length : Int) == (m : Int)) = false := by rw [beq_eq_false_iff_ne]; omega
    have HT0 := Lib.hid t0
    clear t0
    go_wp2_with fail
    go_ret2
    exact ⟨⟨fun h => absurd (HBB.out.symm.trans h) (by decide), fun _ _ => rfl, fun _ h => absurd (show xs.length = m by omega) HT0.out⟩, HS2.out.bel⟩
  have t0 := Decidable.not_not.1 t0
  have d0 : ((xs.length : Int) == (m : Int)) = true := by rw [t0]; simp
  have HXL := Lib.hid t0
  have hmk := make_words m (by omega)
  have HST : Hid (BoxC w m A gl c (w2.alloc (wdO (List.replicate m 0))) ∧ (w2.alloc (wdO (List.replicate m 0))).heap[w2.heap.size]? = some (wdO (evW xs m 0))) :=
    Lib.hid ⟨HS2.out.step (below1 _ _), by rw [evW_zero]; exact alloc_at _ _ _ rfl⟩
  have HFIN : Hid (∀ b, b = gvC (fun a => xs[a]?.getD false) gs → CEvl m gs xs (.returned (.tuple #[.bool b, .int .i64 0]))) := Lib.hid (fun b hb => ⟨fun h => absurd (HBB.out.symm.trans h) (by decide), fun _ h => absurd (by rw [t0]) h, fun _ _ => by rw [hb]⟩)
  have HVL := Lib.hid (fun W (hW : Below w.heap.size w W) (hg : W.heap[w2.heap.size]? = some (wdO (evW xs m m))) => HVL'.out W hW (some ⟨w2.heap.size, 0, none⟩) m (evW xs m m) (by rw [evW_length]; omega) (by rw [evW_length]; omega) (RdW.of_block hg))
  simp only [evW_length] at HVL
  have HLT2 := Lib.hid HS2.out.lt
  rw [t0]
  clear HVL' t0 d0
  go_wp2_with fail
  go_loopw [7, 8, 22] (fun _ _ iv W => ∃ i : Nat, i ≤ m ∧ iv = .int .i64 i ∧ W.heap[w2.heap.size]? = some (wdO (evW xs m i)) ∧ BoxC w m A gl c W) (fun _ _ iv _ => m - (intOf iv).toNat)
  case atStart => exact ⟨0, by omega, rfl, HST.out.2, HST.out.1⟩
  case round =>
    clear HST y0 y1
    obtain ⟨i, hi, rfl, hg, hB⟩ := hrel
    have HG := Lib.hid (And.intro hg hB)
    obtain ⟨p0, p1⟩ := hB.cells
    by_cases hil : i < m
    · obtain ⟨x, hx⟩ : ∃ x, xs[i]? = some x := ⟨_, List.getElem?_eq_getElem (by rw [HXL.out]; exact hil)⟩
      obtain ⟨b, off, rfl, e0⟩ := HXW.out wr hB.bel i x hx
      obtain ⟨g0, g1⟩ := wd_cell hg (j := i) (evW_at hil)
      have hgs := wd_set (j := i) (1 : BitVec 64) hg
      have hbs := hB.put (p := ⟨w2.heap.size, i, none⟩) HLT2.out (.int .u64 (((1 : BitVec 64).toNat : Nat) : Int))
      cases x
      · have HN := Lib.hid (evW_no (m := m) hx)
        clear hgs hbs hx hg hB
        go_wp2_with fail
        go_roundw
        case rel => exact ⟨i + 1, by omega, by go_num, by rw [HN.out]; exact HG.out.1, HG.out.2⟩
        case measure => simp [intOf]; omega
      · have HN := Lib.hid (evW_yes hx hil)
        have HF2 := Lib.hid (And.intro hgs hbs)
        clear hgs hbs hx hg hB
        go_wp2_with fail
        go_roundw
        case rel => exact ⟨i + 1, by omega, by go_num, by rw [HN.out]; exact HF2.out.1, HF2.out.2⟩
        case measure => simp [intOf]; omega
    · obtain rfl : i = m := by omega
      have HC := Lib.hid (HVL.out wr hB.bel hg)
      have hand := take_bit (valC (evW xs i i) gs) 0 (by omega)
      rw [Int.pow_zero, Int.ediv_one, Nat.pow_zero, Nat.div_one] at hand
      have HEV : Hid (decide ((valC (evW xs i i) gs).toNat % 2 = 1) = gvC (fun a => xs[a]?.getD false) gs) := Lib.hid (by
        have h := toNat_bit (valC (evW xs i i) gs) 0
        rw [Nat.pow_zero, Nat.div_one] at h
        rw [h, valC_bit _ _ _ (by omega), HCG2.out])
      clear hg hB
      generalize valC (evW xs i i) gs = vv at *
      generalize hm2 : vv.toNat % 2 = mm at *
      have hmm : mm = 0 ∨ mm = 1 := by omega
      clear hm2
      go_wp2_with fail
      refine HC.out.mono ?_
      rintro e w9 ⟨rfl, hB9⟩
      have HB9 := Lib.hid (HG.out.2.step hB9)
      clear hB9
      rcases hmm with rfl | rfl
      · go_wp2_with fail
        go_ret2
        exact ⟨HFIN.out _ (by rw [← HEV.out]; rfl), HB9.out.bel⟩
      · go_wp2_with fail
        go_ret2
        exact ⟨HFIN.out _ (by rw [← HEV.out]; rfl), HB9.out.bel⟩
end Go.Proofs.YtcophfhnhlaonaaGreatDoor
namespace Go.Proofs.YtcophfhnhlaonaaGreatDoor
set_option linter.unusedVariables false
open Go.RowKit

def ptF (idx a : Nat) : Bool := decide (bitN idx a = 1)
set_option maxRecDepth 100000 in
set_option maxHeartbeats 4000000 in
theorem Point_ref (n idx : Nat) (hn : n ≤ 16) (hi : idx ≤ 1099511627776) (w : World) :
    Calls Tryz.prog 48 #[.int .i64 (n : Int), .int .i64 (idx : Int)] w fun e w' => ∃ g, w.heap.size ≤ g ∧ e = .returned (.slice (some ⟨g, 0, none⟩) n n) ∧ w'.heap[g]? = some (blO (tbR (ptF idx) n n)) ∧ Below w.heap.size w w' := by
  have hmk := make_bools n (by omega)
  have HST := Lib.hid (show (w.alloc (blO (List.replicate n false))).heap[w.heap.size]? = some (blO (tbR (ptF idx) n 0)) by rw [tbR_zero]; exact alloc_at _ _ _ rfl)
  have HB0 := Lib.hid (below1 w (blO (List.replicate n false)))
  go_enter Tryz.func48, Tryz.ntmps48
  go_wp2_with fail
  go_loopw [6] (fun iv W => ∃ i : Nat, i ≤ n ∧ iv = .int .i64 i ∧ W.heap[w.heap.size]? = some (blO (tbR (ptF idx) n i)) ∧ Below w.heap.size w W) (fun iv _ => n - (intOf iv).toNat)
  case atStart => exact ⟨0, by omega, rfl, HST.out, HB0.out⟩
  case round =>
    obtain ⟨i, hi2, rfl, hg, hB⟩ := hrel
    have HG := Lib.hid (And.intro hg hB)
    by_cases hil : i < n
    · have d1 : decide ((i : Int) < (n : Int)) = true := decide_eq_true (by omega)
      have d1' : decide (i < n) = true := decide_eq_true hil
      obtain ⟨c1, f1⟩ := bl_cell hg (tbR_at hil)
      have hbit : bits .and .i64 ((idx : Int) / 2 ^ i) 1 = ((bitN idx i : Nat) : Int) := by
        have hdv : (idx : Int) / 2 ^ i = ((idx / 2 ^ i : Nat) : Int) := by simp
        rw [hdv, and1_nat _ (by have := Nat.div_le_self idx (2 ^ i); omega)]
        rfl
      have h01 : bitN idx i = 0 ∨ bitN idx i = 1 := by have := bitN_le idx i; omega
      have hset := bl_set (j := i) (ptF idx i) hg
      rw [tbR_next hil] at hset
      have hpt : (bits .and .i64 ((idx : Int) / 2 ^ i) 1 == 1) = ptF idx i := by
        rw [hbit]
        unfold ptF
        rcases h01 with h | h <;> simp [h]
      rw [← hpt] at hset
      have HSET := Lib.hid hset
      clear hg hB hset hpt hbit h01
      go_wp2_with fail
      go_roundw
      case rel => exact ⟨i + 1, by omega, by go_num, HSET.out, HG.out.2.setCell (p := ⟨w.heap.size, i, none⟩) (Nat.le_refl _) _⟩
      case measure => simp [intOf]; omega
    · have d1 : decide ((i : Int) < (n : Int)) = false := decide_eq_false (by omega)
      have d1' : decide (i < n) = false := decide_eq_false hil
      obtain rfl : i = n := by omega
      clear hg hB
      go_wp2_with fail
      go_ret
      exact ⟨w.heap.size, Nat.le_refl _, rfl, HG.out⟩

theorem blO_rdS {w : World} {g : Nat} {l : List Bool} (h : w.heap[g]? = some (blO l)) : BlR w (some ⟨g, 0, none⟩) l := fun i x hi => by
  refine ⟨g, 0, rfl, ?_⟩
  rw [Nat.zero_add]
  exact (bl_cell h hi).1

def apB (k : Int) (a b : Bool) : Bool := if k = 2 then !a else if k = 3 then a && b else if k = 4 then a || b else a != b
set_option maxHeartbeats 2000000 in
theorem ApplyG_ref (k : Int) (a b : Bool) (w : World) :
    Calls Tryz.prog 49 #[.int .i64 k, .bool a, .bool b] w fun e w' => e = .returned (.bool (apB k a b)) ∧ w = w' := by
  by_cases h2 : k = 2
  · subst h2
    cases a <;> cases b <;> (
      go_enter Tryz.func49, Tryz.ntmps49
      go_wp2_with fail
      go_ret
      exact ⟨rfl, rfl⟩)
  · by_cases h3 : k = 3
    · subst h3
      clear h2
      cases a <;> cases b <;> (
        go_enter Tryz.func49, Tryz.ntmps49
        go_wp2_with fail
        go_ret
        exact ⟨rfl, rfl⟩)
    · by_cases h4 : k = 4
      · subst h4
        clear h2 h3
        cases a <;> cases b <;> (
          go_enter Tryz.func49, Tryz.ntmps49
          go_wp2_with fail
          go_ret
          exact ⟨rfl, rfl⟩)
      · have HE : Hid (∀ a b, apB k a b = (a != b)) := Lib.hid (fun a b => by rw [apB, if_neg h2, if_neg h3, if_neg h4])
        have d2 : ((k : Int) == 2) = false := by simp [h2]
        have d3 : ((k : Int) == 3) = false := by simp [h3]
        have d4 : ((k : Int) == 4) = false := by simp [h4]
        clear h2 h3 h4
        cases a <;> cases b <;> (
          go_enter Tryz.func49, Tryz.ntmps49
          go_wp2_with fail
          go_ret
          exact ⟨by rw [HE.out]; rfl, rfl⟩)

end Go.Proofs.YtcophfhnhlaonaaGreatDoor
namespace Go.Proofs.YtcophfhnhlaonaaGreatDoor
set_option linter.unusedVariables false
open Go.RowKit

set_option maxRecDepth 100000 in
set_option maxHeartbeats 8000000 in
theorem CEval_ref (inp : Int) (v : Value) (gs : List Gat) (AX : Option Addr) (cx : Nat) (xs : List Bool) (w : World) (hv : CirV w v inp gs) (hok : okC inp gs = true) (hX : BlR w AX xs) (hxl : inp ≤ (xs.length : Int)) (hx40 : xs.length ≤ 1099511627776) :
    Calls Tryz.prog 19 #[v, .slice AX xs.length cx] w fun r w' => r = .returned (.bool (gvC (fun a => xs[a]?.getD false) gs)) ∧ Below w.heap.size w w' := by
  obtain ⟨A, c, rfl, hr, hl⟩ := hv
  have HS0 := Lib.hid (BoxC.start w inp A gs.length c)
  have HR := Lib.hid hr
  have HXR := Lib.hid hX
  obtain ⟨-, -, hl1, hl2, -⟩ := okC_iff.1 hok
  have HGG := Lib.hid (fun i g (hg : gs[i]? = some g) => okC_at hok hg)
  have HXL := Lib.hid hxl
  obtain ⟨f, hf⟩ : ∃ f : Nat → Bool, f = fun a => xs[a]?.getD false := ⟨_, rfl⟩
  have HF : Hid (∀ a x, xs[a]? = some x → f a = x) := Lib.hid (fun a x hx => by rw [hf]; simp [hx])
  rw [← hf]
  have HLN := Lib.hid (fun i hi => runL_len (f := gvG f) gs i hi)
  have HFU : Hid (∀ l : List Bool, l = runL (gvG f) (gs.take gs.length) [] → l[gs.length - 1]?.getD false = gvC f gs) := Lib.hid (fun l hl => by rw [hl, List.take_length]; rfl)
  clear hok hr hX hxl hf
  generalize hL : gs.length = L at *
  have HL := Lib.hid hL
  clear hL
  obtain ⟨w2, hw2⟩ : ∃ w2, w2 = w.alloc (.cells #[.int .i64 inp, .slice A L c] 30) := ⟨_, rfl⟩
  have HW2 := Lib.hid hw2
  rw [← hw2] at HS0
  have hmk := make_bools L (by omega)
  have HST : Hid (BoxC w inp A L c (w2.alloc (blO (List.replicate L false))) ∧ (w2.alloc (blO (List.replicate L false))).heap[w2.heap.size]? = some (blO (rowZ (runL (gvG f) (gs.take 0) []) L false))) :=
    Lib.hid ⟨HS0.out.step (below1 _ _), by rw [alloc_at _ _ _ rfl]; simp [runL, rowZ_nil]⟩
  have HSZ := Lib.hid HS0.out.lt
  clear hw2
  go_enter Tryz.func19, Tryz.ntmps19
  go_upto_region 1 with fail
  rw [← HW2.out]
  obtain ⟨y0, y1⟩ := HS0.out.cells
  obtain ⟨x0, x1⟩ := HST.out.1.cells
  go_wp2_with fail
  go_loopw [6, 7] (fun iv _ W => ∃ i : Nat, i ≤ L ∧ iv = .int .i64 i ∧ BoxC w inp A L c W ∧ W.heap[w2.heap.size]? = some (blO (rowZ (runL (gvG f) (gs.take i) []) L false))) (fun iv _ _ => L - (intOf iv).toNat)
  case atStart => exact ⟨0, by omega, rfl, HST.out.1, HST.out.2⟩
  case round =>
    obtain ⟨i, hi, rfl, hB, hD⟩ := hrel
    have HB := Lib.hid hB
    obtain ⟨y0, y1⟩ := HB.out.cells
    have hlen := HLN.out i hi
    clear x0 x1
    by_cases hil : i < L
    · have e3 : decide ((i : Int) < (L : Int)) = true := decide_eq_true (by omega)
      have e3' : decide (i < L) = true := decide_eq_true hil
      obtain ⟨⟨k, n, ks⟩, hg⟩ : ∃ g, gs[i]? = some g := ⟨_, List.getElem?_eq_getElem (by rw [HL.out]; exact hil)⟩
      obtain ⟨b, off, u, rfl, g0, g1, g2, K, kc, rfl, hK, hKl⟩ := HR.out i _ hg
      have hok := HGG.out i _ hg
      have e0 := (HB.out.bel.cell (World.block_lt_of_cell? w _ g0)).trans g0
      have e1 := (HB.out.bel.cell (World.block_lt_of_cell? w _ g1)).trans g1
      have e2 := (HB.out.bel.cell (World.block_lt_of_cell? w _ g2)).trans g2
      have hs1 := HB.out.step (below1 wr (.cells #[.int .i64 k, .int .i64 n, .slice K ks.length kc] 78))
      have hD1 : (wr.alloc (.cells #[.int .i64 k, .int .i64 n, .slice K ks.length kc] 78)).heap[w2.heap.size]? = some (blO (rowZ (runL (gvG f) (gs.take i) []) L false)) := ((below1 wr _).block _ (Array.getElem?_eq_some_iff.1 hD).1).trans hD
      have hbx := alloc_at wr (.cells #[.int .i64 k, .int .i64 n, .slice K ks.length kc] 78) wr.heap.size rfl
      have hcur := rowZ_cur (z := false) (show (runL (gvG f) (gs.take i) []).length < L by omega)
      rw [hlen] at hcur
      have HCUR := Lib.hid hcur
      have HNX : Hid (∀ d, d = gvG f (runL (gvG f) (gs.take i) []) ⟨k, n, ks⟩ → (rowZ (runL (gvG f) (gs.take i) []) L false).set i d = rowZ (runL (gvG f) (gs.take (i + 1)) []) L false) := Lib.hid (fun d hd => by
        have h := rowZ_next (z := false) (show (runL (gvG f) (gs.take i) []).length < L by omega) d
        rw [hlen] at h
        rw [h, hd, runL_next hg])
      have HSW : Hid (∀ (W : World) (d : Bool), Below w.heap.size w W → BoxC w inp (some ⟨b, off, none⟩) L c W → W.heap[w2.heap.size]? = some (blO (rowZ (runL (gvG f) (gs.take i) []) L false)) → d = gvG f (runL (gvG f) (gs.take i) []) ⟨k, n, ks⟩ →
          BoxC w inp (some ⟨b, off, none⟩) L c (W.setCell ⟨w2.heap.size, i, none⟩ (.bool d)) ∧ (W.setCell ⟨w2.heap.size, i, none⟩ (.bool d)).heap[w2.heap.size]? = some (blO (rowZ (runL (gvG f) (gs.take (i + 1)) []) L false))) := Lib.hid (fun W d h1 h2 h3 h4 => ⟨h2.put (p := ⟨w2.heap.size, i, none⟩) HSZ.out _, by
            have := bl_set (j := i) d h3
            rw [HNX.out d h4] at this
            exact this⟩)
      clear hg g0 g1 g2 hKl hB hD
      go_upto_region 6 with fail
      generalize hW1 : wr.alloc (.cells #[.int .i64 k, .int .i64 n, .slice K ks.length kc] 78) = w1 at *
      have HS1 := Lib.hid hs1
      have HD1 := Lib.hid hD1
      obtain ⟨⟨p0, p1, p2⟩, _⟩ := blk3_cells hbx
      obtain ⟨z0, z1⟩ := hs1.cells
      obtain ⟨q1, f1⟩ := bl_cell hD1 HCUR.out
      have hKW := hK.below hs1.bel
      have HXW := Lib.hid (HXR.out.below hs1.bel)
      clear e0 e1 e2 y0 y1 hs1 hbx hW1 hK hcur
      rcases okG_cases hok with ⟨h0, h1, h2, h3⟩ | ⟨h0, h1, h2⟩ | ⟨a, h0, h1, h2, h3⟩ | ⟨a, a2, h0, h1, h2, h3, h4⟩
      · dsimp only at h0 h1 h2 h3
        subst h0
        subst h3
        obtain ⟨n', rfl⟩ : ∃ n' : Nat, n = n' := ⟨n.toNat, by omega⟩
        have hnl : n' < xs.length := by have := HXL.out; omega
        obtain ⟨x, hxx⟩ : ∃ x, xs[n']? = some x := ⟨_, List.getElem?_eq_getElem hnl⟩
        obtain ⟨bx, ox, rfl, cx0⟩ := HXW.out n' x hxx
        have HV : Hid (x = gvG f (runL (gvG f) (gs.take i) []) ⟨0, (n' : Int), []⟩) := Lib.hid (by rw [gvG, if_pos rfl]; exact (HF.out n' x hxx).symm)
        clear hok hxx h1 h2 hD1 hKW
        go_wp2_with fail
        go_roundw
        case rel => exact ⟨i + 1, by omega, by go_num, (HSW.out _ _ HS1.out.bel HS1.out HD1.out HV.out).1, (HSW.out _ _ HS1.out.bel HS1.out HD1.out HV.out).2⟩
        case measure => simp [intOf]; omega
      · dsimp only at h0 h1 h2
        subst h0
        subst h2
        clear hok hD1 hKW
        rcases h1 with rfl | rfl
        · have HV : Hid (false = gvG f (runL (gvG f) (gs.take i) []) ⟨1, 0, []⟩) := Lib.hid (by simp [gvG])
          go_wp2_with fail
          go_roundw
          case rel => exact ⟨i + 1, by omega, by go_num, (HSW.out _ _ HS1.out.bel HS1.out HD1.out HV.out).1, (HSW.out _ _ HS1.out.bel HS1.out HD1.out HV.out).2⟩
          case measure => simp [intOf]; omega
        · have HV : Hid (true = gvG f (runL (gvG f) (gs.take i) []) ⟨1, 1, []⟩) := Lib.hid (by simp [gvG])
          go_wp2_with fail
          go_roundw
          case rel => exact ⟨i + 1, by omega, by go_num, (HSW.out _ _ HS1.out.bel HS1.out HD1.out HV.out).1, (HSW.out _ _ HS1.out.bel HS1.out HD1.out HV.out).2⟩
          case measure => simp [intOf]; omega
      · dsimp only at h0 h1 h2 h3
        subst h0
        subst h1
        subst h2
        obtain ⟨va, hva⟩ : ∃ x, (runL (gvG f) (gs.take i) [])[a]? = some x := ⟨_, List.getElem?_eq_getElem (by omega)⟩
        obtain ⟨r1, s1⟩ := bl_cell hD1 (rowZ_at hva)
        obtain ⟨p, rfl, k0⟩ := hKW 0 (a : Int) rfl
        rw [show p.add 0 = p by simp [Addr.add]] at k0
        obtain ⟨pb, po, rfl⟩ : ∃ b o, p = ⟨b, o, none⟩ := ⟨_, _, spot_none k0⟩
        have HV : Hid ((!va) = gvG f (runL (gvG f) (gs.take i) []) ⟨2, 0, [(a : Int)]⟩) := Lib.hid (by rw [← atB_at hva]; rfl)
        have haN : a < L := by omega
        simp only [List.length_cons, List.length_nil, Nat.zero_add] at p2
        clear hok hva hD1 hKW
        go_wp2_with fail
        go_roundw
        case rel => exact ⟨i + 1, by omega, by go_num, (HSW.out _ _ HS1.out.bel HS1.out HD1.out HV.out).1, (HSW.out _ _ HS1.out.bel HS1.out HD1.out HV.out).2⟩
        case measure => simp [intOf]; omega
      · dsimp only at h0 h1 h2 h3 h4
        subst h1
        subst h2
        obtain ⟨va, hva⟩ : ∃ x, (runL (gvG f) (gs.take i) [])[a]? = some x := ⟨_, List.getElem?_eq_getElem (by omega)⟩
        obtain ⟨vb, hvb⟩ : ∃ x, (runL (gvG f) (gs.take i) [])[a2]? = some x := ⟨_, List.getElem?_eq_getElem (by omega)⟩
        obtain ⟨r1, s1⟩ := bl_cell hD1 (rowZ_at hva)
        obtain ⟨r2, s2⟩ := bl_cell hD1 (rowZ_at hvb)
        obtain ⟨p, rfl, k0⟩ := hKW 0 (a : Int) rfl
        obtain ⟨p', hpe, k1⟩ := hKW 1 (a2 : Int) rfl
        cases hpe
        rw [show p.add 0 = p by simp [Addr.add]] at k0
        obtain ⟨pb, po, rfl⟩ : ∃ b o, p = ⟨b, o, none⟩ := ⟨_, _, spot_none k0⟩
        rw [add_none] at k1
        have haN : a < L := by omega
        have hbN : a2 < L := by omega
        have HAP := Lib.hid (ApplyG_ref k va vb w1.drew)
        have HV : Hid (apB k va vb = gvG f (runL (gvG f) (gs.take i) []) ⟨k, 0, [(a : Int), (a2 : Int)]⟩) := Lib.hid (by
          rw [← atB_at hva, ← atB_at hvb]
          rcases h0 with rfl | rfl | rfl <;> rfl)
        have f0 : ((k : Int) == 0) = false := by simp; omega
        have f1' : ((k : Int) == 1) = false := by simp; omega
        have f2 : ((k : Int) == 2) = false := by simp; omega
        simp only [List.length_cons, List.length_nil, Nat.zero_add, Nat.reduceAdd] at p2
        clear hok hva hvb hD1 hKW h0
        go_upto_region 7 with fail
        go_still_tail 20, (by kernel_rfl)
        still_call (HAP.out.mono (fun e w'' h => ⟨h.1, h.2.symm⟩))
        repeat still_step
        refine wpStill_nil ?_
        change wpList _ _ _ _ _ w1.drew
        all_goals
          go_wp2_with fail
          go_roundw
          case rel => exact ⟨i + 1, by omega, by go_num, (HSW.out _ _ HS1.out.bel HS1.out HD1.out HV.out).1.drew, (HSW.out _ _ HS1.out.bel HS1.out HD1.out HV.out).2⟩
          case measure => simp [intOf]; omega
    · have e3 : decide ((i : Int) < (L : Int)) = false := decide_eq_false (by omega)
      have e3' : decide (i < L) = false := decide_eq_false hil
      obtain rfl : i = L := by omega
      obtain ⟨m, rfl⟩ : ∃ m, i = m + 1 := ⟨i - 1, by omega⟩
      obtain ⟨x, hx⟩ : ∃ x, (runL (gvG f) (gs.take (m + 1)) [])[m]? = some x := ⟨_, List.getElem?_eq_getElem (by rw [hlen]; omega)⟩
      obtain ⟨q1, f1⟩ := bl_cell (j := m) (x := x) hD (rowZ_at hx)
      have HE : Hid (gvC f gs = x) := Lib.hid (by
        rw [← HFU.out (runL (gvG f) (gs.take (m + 1)) []) rfl, show m + 1 - 1 = m from rfl, hx]; rfl)
      clear hB hD hx hlen
      go_wp2_with fail
      go_ret
      exact ⟨by rw [HE.out]; rfl, HB.out.bel⟩

end Go.Proofs.YtcophfhnhlaonaaGreatDoor
namespace Go.Proofs.YtcophfhnhlaonaaGreatDoor
set_option linter.unusedVariables false
open Go.RowKit

set_option maxRecDepth 100000 in
set_option maxHeartbeats 8000000 in
theorem CTruth_ref (n' : Nat) (v : Value) (gs : List Gat) (w : World) (hv : CirV w v n' gs) (hok : okC n' gs = true) (hn12 : n' ≤ 12) :
    Calls Tryz.prog 22 #[v] w fun e w' => ∃ g, w.heap.size ≤ g ∧ e = .returned (.slice (some ⟨g, 0, none⟩) (2 ^ n') (2 ^ n')) ∧ w'.heap[g]? = some (blO (tbR (gvB gs) (2 ^ n') (2 ^ n'))) ∧ Below w.heap.size w w' := by
  have hv0 := hv
  obtain ⟨A, c, rfl, hr, hl⟩ := hv
  have HS0 := Lib.hid (BoxC.start w n' A gs.length c)
  have HEV := Lib.hid (fun W (hW : Below w.heap.size w W) g i (hg : W.heap[g]? = some (blO (tbR (ptF i) n' n'))) => (CEval_ref n' _ gs (some ⟨g, 0, none⟩) n' (tbR (ptF i) n' n') W (hv0.below hW) hok (blO_rdS hg) (by rw [tbR_length]; omega) (by rw [tbR_length]; omega)).mono (fun e w' h => by
    rw [show gvC (fun a => (tbR (ptF i) n' n')[a]?.getD false) gs = gvB gs i from gvC_congr hok (fun a ha => by
      have ha2 : a < n' := by omega
      simp [tbR_full ha2, ptF])] at h
    exact h))
  simp only [tbR_length] at HEV
  have HPT := Lib.hid (fun i (hi : i ≤ 1099511627776) W => Point_ref n' i (by omega) hi W)
  have hle : 2 ^ n' ≤ 4096 := Nat.pow_le_pow_right (n := 2) (by omega) hn12
  have hL1 : 1 ≤ 2 ^ n' := Nat.pow_pos (by omega)
  have hsh : wrap64 ((2 : Int) ^ n') = ((2 ^ n' : Nat) : Int) := by
    have : (2 : Int) ^ n' = ((2 ^ n' : Nat) : Int) := by simp
    rw [this]
    exact IntWalk.wrap64_in _ (by omega)
  have hsh2 : IntKind.i64.wrap ((2 : Int) ^ n') = ((2 ^ n' : Nat) : Int) := by
    have : (2 : Int) ^ n' = ((2 ^ n' : Nat) : Int) := by simp
    rw [this]
    exact IntWalk.i64_in _ (by omega)
  generalize 2 ^ n' = L at *
  generalize gs.length = gl at *
  have hmk := make_bools L (by omega)
  obtain ⟨w2, hw2⟩ : ∃ w2, w2 = w.alloc (.cells #[.int .i64 (n' : Int), .slice A gl c] 30) := ⟨_, rfl⟩
  have HW2 := Lib.hid hw2
  rw [← hw2] at HS0
  have HST : Hid (BoxC w n' A gl c (w2.alloc (blO (List.replicate L false))) ∧ (w2.alloc (blO (List.replicate L false))).heap[w2.heap.size]? = some (blO (tbR (gvB gs) L 0))) :=
    Lib.hid ⟨HS0.out.step (below1 _ _), by rw [tbR_zero]; exact alloc_at _ _ _ rfl⟩
  have HSZ := Lib.hid HS0.out.lt
  have HWC := Lib.hid HS0.out.bel.size
  clear hw2 hv0 hr hok
  obtain ⟨c0, c1⟩ := (show (w.alloc (.cells #[.int .i64 (n' : Int), .slice A gl c] 30)).cell? ⟨w.heap.size, 0, none⟩ = some (.int .i64 (n' : Int)) ∧ (w.alloc (.cells #[.int .i64 (n' : Int), .slice A gl c] 30)).cell? ⟨w.heap.size, 1, none⟩ = some (.slice A gl c) from ⟨World.cell?_alloc_new _ _ _ 0, World.cell?_alloc_new _ _ _ 1⟩)
  go_enter Tryz.func22, Tryz.ntmps22
  go_upto_region 1 with fail
  rw [← HW2.out]
  obtain ⟨y0, y1⟩ := HS0.out.cells
  clear c0 c1
  go_wp2_with fail
  go_loopw [4] (fun iv W => ∃ i : Nat, i ≤ L ∧ iv = .int .i64 i ∧ BoxC w n' A gl c W ∧ W.heap[w2.heap.size]? = some (blO (tbR (gvB gs) L i))) (fun iv _ => L - (intOf iv).toNat)
  case atStart => exact ⟨0, by omega, rfl, HST.out.1, HST.out.2⟩
  case round =>
    clear HST y0 y1
    obtain ⟨i, hi, rfl, hB, hD⟩ := hrel
    have HB := Lib.hid (And.intro hB hD)
    obtain ⟨y0, y1⟩ := hB.cells
    by_cases hil : i < L
    · have e3 : decide ((i : Int) < (L : Int)) = true := decide_eq_true (by omega)
      have e3' : decide (i < L) = true := decide_eq_true hil
      have HPI := Lib.hid (HPT.out i (by omega) wr.drew)
      have hgl : w2.heap.size < wr.heap.size := (Array.getElem?_eq_some_iff.1 hD).1
      have HGL := Lib.hid hgl
      clear hB hD hgl
      obtain ⟨wo, rfl⟩ : ∃ wo : World, wo = wr := ⟨_, rfl⟩
      go_wp2_with fail
      go_region_law (first
        | (go_simp; (with_reducible refine HPI.out.mono ?_); rintro e wa ⟨ga, hga, rfl, hgb, hBa⟩; have hba := ((Below.refl wo.heap.size wo).drew).trans (hBa.mono (Nat.le_refl _)); have q0 := (hba.cell (World.block_lt_of_cell? wo _ y0)).trans y0; have q1 := (hba.cell (World.block_lt_of_cell? wo _ y1)).trans y1)
        | (have hp := HB.out.1.bel.trans (hba.mono HB.out.1.bel.size); go_simp; (with_reducible refine (HEV.out wa hp ga i hgb).mono ?_); rintro e wb ⟨rfl, hBb⟩; have hbb := hba.trans (hBb.mono hba.size); have hD2 := (hbb.block _ HGL.out).trans HB.out.2; obtain ⟨r1, s1⟩ := bl_cell hD2 (tbR_at hil)))
      all_goals
        have hset := bl_set (j := i) (gvB gs i) hD2
        rw [tbR_next hil] at hset
        have HF2 := Lib.hid (And.intro ((HB.out.1.step hbb).put (p := ⟨w2.heap.size, i, none⟩) HSZ.out (.bool (gvB gs i))) hset)
        clear hset hD2 hbb
        go_wp2_with fail
        go_roundw
        case rel => exact ⟨i + 1, by omega, by go_num, HF2.out.1, HF2.out.2⟩
        case measure => simp [intOf]; omega
    · have e3 : decide ((i : Int) < (L : Int)) = false := decide_eq_false (by omega)
      have e3' : decide (i < L) = false := decide_eq_false hil
      obtain rfl : i = L := by omega
      clear hB hD
      go_wp2_with fail
      go_ret
      exact ⟨w2.heap.size, HWC.out, rfl, HB.out.2, HB.out.1.bel⟩
end Go.Proofs.YtcophfhnhlaonaaGreatDoor
