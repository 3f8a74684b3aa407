/-
  Joined from Fnk, Fnl, Fnm, Fno: see there.
-/
import Derived.Test.YtcophfhnhlaonaaGreatDoorUw
import Derived.Test.YtcophfhnhlaonaaGreatDoorUk
import Derived.Test.YtcophfhnhlaonaaGreatDoorUh
import Derived.Test.YtcophfhnhlaonaaGreatDoorUp
namespace Go.Proofs.YtcophfhnhlaonaaGreatDoor
open Go.RowKit Go.ChangeShapes Go.WideShapes Go.Deep
set_option linter.unusedVariables false

instance : Inhabited Tre := ⟨.mk 0 0 []⟩
section
variable {H : Type} {enc : TypeId × Value → H} {P : Program} {w : World} {base : Nat} {spare : Nat → Bool} {held : Bool}
theorem open_tree {T L : TypeId} {fs : Array Field} {f0 f1 f2 : Field} (ht : P.underlying T = some (.struct fs)) (h0 : fs[0]? = some f0) (h1 : fs[1]? = some f1) (h2 : fs[2]? = some f2)
    (o0 : f0.offset = 0 ∧ P.underlying f0.type = some (.int .i64) ∧ P.cellsOf f0.type = 1) (o1 : f1.offset = 1 ∧ P.underlying f1.type = some (.int .i64) ∧ P.cellsOf f1.type = 1)
    (o2 : f2.offset = 2 ∧ f2.type = L ∧ P.cellsOf L = 1) (hL : P.underlying L = some (.slice T)) (hC : P.cellsOf T = 3) :
    ∀ (N fuel : Nat), fuel < N → ∀ (cs : List Value) (x : DataW H × List MemPlace), DataW.trod enc P w base spare held fuel T cs = some x → ∃ t, TreV 0 w t (.agg cs.toArray) := by
  intro N
  induction N with
  | zero => intro fuel h; omega
  | succ N ih =>
    intro fuel hN cs x h
    obtain ⟨xs, m, hm, hx, hcl, hxl, hf⟩ := DataW.trod_struct ht h
    rw [hC] at hcl
    obtain ⟨v0, v1, v2, rfl⟩ : ∃ a b c, cs = [a, b, c] := by
      match cs, hcl with
      | [a, b, c], _ => exact ⟨a, b, c, rfl⟩
    have g0 := hf 0 f0 h0
    have g1 := hf 1 f1 h1
    have g2 := hf 2 f2 h2
    have hxs : ∀ i (f : Field), fs[i]? = some f → ∃ y, xs[i]? = some y := fun i f hi => ⟨_, List.getElem?_eq_getElem (by rw [hxl]; exact (Array.getElem?_eq_some_iff.1 hi).1)⟩
    obtain ⟨y0, e0⟩ := hxs 0 f0 h0
    obtain ⟨y1, e1⟩ := hxs 1 f1 h1
    obtain ⟨y2, e2⟩ := hxs 2 f2 h2
    rw [o0.1, o0.2.2, e0] at g0
    rw [o1.1, o1.2.2, e1] at g1
    rw [o2.1, o2.2.1, o2.2.2, e2] at g2
    obtain ⟨k, hk, _⟩ := DataW.trod_int o0.2.1 (show DataW.trod enc P w base spare held m f0.type [v0] = some y0 from g0)
    obtain ⟨n, hn, _⟩ := DataW.trod_int o1.2.1 (show DataW.trod enc P w base spare held m f1.type [v1] = some y1 from g1)
    obtain rfl : v0 = .int .i64 k := by simpa using hk
    obtain rfl : v1 = .int .i64 n := by simpa using hn
    rcases DataW.trod_slice hL (show DataW.trod enc P w base spare held m L [v2] = some y2 from g2) with ⟨hs, _⟩ | ⟨a, len, cap, elems, rest, m2, hm2, hs, _, _, _, _, hel, hi, _, _⟩
    · obtain rfl : v2 = .slice none 0 0 := by simpa using hs
      exact ⟨.mk k n [], by unfold TreV; exact ⟨none, 0, rfl, by unfold RowV; trivial⟩⟩
    · obtain rfl : v2 = .slice (some a) len cap := by simpa using hs
      have hsn : 0 < len → a = ⟨a.block, a.off, none⟩ := fun h0l => by
        have hii := hi 0 h0l
        rw [hC, List.getElem?_eq_getElem (by omega)] at hii
        simp only [Option.bind_eq_some_iff] at hii
        obtain ⟨cs', hc', htr⟩ := hii
        obtain ⟨_, hl3, hat⟩ := World.cells?_some hc'
        obtain ⟨p, q, r, rfl⟩ : ∃ a b c, cs' = [a, b, c] := by
          match cs', hl3 with
          | [a, b, c], _ => exact ⟨a, b, c, rfl⟩
        have c0 := hat 0 (by omega)
        have hz : (a.add (0 * 3)).add 0 = a := rfl
        rw [hz] at c0
        exact spot_none (show w.cell? a = some p from c0)
      obtain ⟨l, hl, hQ⟩ := list_choose (α := Tre) len (fun i t => ∃ b off x y z, (some a : Option Addr) = some ⟨b, off, none⟩ ∧ 0 ≤ b ∧ w.cell? ⟨b, off + (0 + i) * 3, none⟩ = some x ∧ w.cell? ⟨b, off + (0 + i) * 3 + 1, none⟩ = some y ∧ w.cell? ⟨b, off + (0 + i) * 3 + 2, none⟩ = some z ∧ TreV 0 w t (.agg #[x, y, z])) (fun i hil => by
        have hii := hi i hil
        rw [hC, List.getElem?_eq_getElem (by omega)] at hii
        simp only [Option.bind_eq_some_iff] at hii
        obtain ⟨cs', hc', htr⟩ := hii
        obtain ⟨_, hl3, hat⟩ := World.cells?_some hc'
        obtain ⟨p, q, r, rfl⟩ : ∃ a b c, cs' = [a, b, c] := by
          match cs', hl3 with
          | [a, b, c], _ => exact ⟨a, b, c, rfl⟩
        obtain ⟨t, hT⟩ := ih m2 (by omega) _ _ htr
        have c0 := hat 0 (by omega)
        have c1 := hat 1 (by omega)
        have c2 := hat 2 (by omega)
        have ha := hsn (by omega)
        rw [ha] at c0 c1 c2
        rw [add_none, add_none] at c0 c1 c2
        exact ⟨t, a.block, a.off, p, q, r, congrArg some ha, Nat.zero_le _, by simpa using c0, by simpa using c1, by simpa using c2, hT⟩)
      refine ⟨.mk k n l, ?_⟩
      unfold TreV
      exact ⟨some a, cap, by rw [hl], RowV.of fun j t hj => hQ j t hj⟩
end
end Go.Proofs.YtcophfhnhlaonaaGreatDoor
namespace Go.Proofs.YtcophfhnhlaonaaGreatDoor
open Go.RowKit Go.ChangeShapes Go.WideShapes Go.Deep
set_option linter.unusedVariables false
section
variable {H : Type} {enc : TypeId × Value → H} {w : World} {base : Nat} {spare : Nat → Bool} {held : Bool}
theorem open_formula {fuel : Nat} {cs : List Value} {x : DataW H × List MemPlace} (h : DataW.trod enc Tryz.prog w base spare held fuel 24 cs = some x) : ∃ t, TreV 0 w t (.agg cs.toArray) :=
  open_tree Tryz.underlying24 rfl rfl rfl ⟨rfl, Tryz.underlying3, by kernel_rfl⟩ ⟨rfl, Tryz.underlying3, by kernel_rfl⟩ ⟨rfl, rfl, by kernel_rfl⟩ Tryz.underlying22 (by kernel_rfl) _ _ (Nat.lt_succ_self _) _ _ h
end
end Go.Proofs.YtcophfhnhlaonaaGreatDoor
namespace Go.Proofs.YtcophfhnhlaonaaGreatDoor
set_option linter.unusedVariables false
open Go.RowKit

/-- A row of truth values. -/
def BlR (w : World) (A : Option Addr) (l : List Bool) : Prop := ∀ i x, l[i]? = some x → ∃ b off, A = some ⟨b, off, none⟩ ∧ w.cell? ⟨b, off + i, none⟩ = some (.bool x)
theorem BlR.below {w w' : World} {A : Option Addr} {l : List Bool} (h : BlR w A l) (hB : Below w.heap.size w w') : BlR w' A l := fun i x hx => by
  obtain ⟨b, off, e, c⟩ := h i x hx
  exact ⟨b, off, e, (hB.cell (World.block_lt_of_cell? w _ c)).trans c⟩
theorem take_eq_next {l l' : List Bool} {i : Nat} {x y : Bool} (hx : l[i]? = some x) (hy : l'[i]? = some y) (h : l.take i = l'.take i) : l.take (i + 1) = l'.take (i + 1) ↔ x = y := by
  rw [List.take_add_one, List.take_add_one, hx, hy, h]
  simp

set_option maxRecDepth 100000 in
set_option maxHeartbeats 4000000 in
theorem SameBools_ok (l l' : List Bool) (A A' : Option Addr) (c c' : Nat) (w : World) (h : BlR w A l) (h' : BlR w A' l') (h40 : l.length ≤ 1099511627776) :
    Calls Tryz.prog 21 #[.slice A l.length c, .slice A' l'.length c'] w fun e w' => e = .returned (.bool (decide (l = l'))) ∧ Below w.heap.size w w' := by
  have H := Lib.hid h
  have H' := Lib.hid h'
  clear h h'
  by_cases hl : l.length = l'.length
  · have d0 : ((l.length : Int) == (l'.length : Int)) = true := by simp [hl]
    have HL := Lib.hid hl
    generalize hn : l.length = len at *
    generalize hn' : l'.length = len' at *
    have HN := Lib.hid (And.intro hn hn')
    clear hl hn hn'
    go_enter Tryz.func21, Tryz.ntmps21
    go_wp2_with fail
    go_loopw [5] (fun iv W => ∃ i : Nat, i ≤ len ∧ iv = .int .i64 i ∧ l.take i = l'.take i ∧ Below w.heap.size w W) (fun iv _ => len - (intOf iv).toNat)
    case atStart => exact ⟨0, by omega, rfl, rfl, Below.refl _ _⟩
    case round =>
      obtain ⟨i, hi, rfl, hq, hB⟩ := hrel
      have HB := Lib.hid hB
      have HQ := Lib.hid hq
      clear hq
      by_cases hil : i < len
      · have d1 : decide ((i : Int) < (len : Int)) = true := decide_eq_true (by omega)
        have d1' : decide (i < len) = true := decide_eq_true hil
        obtain ⟨x, hx⟩ : ∃ x, l[i]? = some x := ⟨_, List.getElem?_eq_getElem (by rw [HN.out.1]; exact hil)⟩
        obtain ⟨y, hy⟩ : ∃ y, l'[i]? = some y := ⟨_, List.getElem?_eq_getElem (by rw [HN.out.2, ← HL.out]; exact hil)⟩
        obtain ⟨b, off, rfl, e0⟩ := H.out.below hB i x hx
        obtain ⟨b', off', rfl, e0'⟩ := H'.out.below hB i y hy
        have hil' : i < len' := by have := HL.out; omega
        have HX := Lib.hid (take_eq_next hx hy HQ.out)
        clear hx hy hB
        cases hxy : (x == y) with
        | true =>
          have hxy2 : x = y := by simpa using hxy
          subst hxy2
          have HX2 := Lib.hid (HX.out.2 rfl)
          clear hxy HX
          go_wp2_with fail
          go_region
          go_wp2_with fail
          go_roundw
          case rel => exact ⟨i + 1, by omega, by go_num, HX2.out, by first | exact HB.out | exact HB.out.drew⟩
          case measure => simp [intOf]; omega
        | false =>
          have HE : Hid (decide (l = l') = false) := Lib.hid (decide_eq_false (fun h => by
            have := HX.out.1 (by rw [h])
            rw [this] at hxy
            simp at hxy))
          clear HX
          go_wp2_with fail
          go_region
          go_wp2_with fail
          go_ret
          exact ⟨by rw [HE.out]; rfl, by first | exact HB.out | exact HB.out.drew⟩
      · have d1 : decide ((i : Int) < (len : Int)) = false := decide_eq_false (by omega)
        have d1' : decide (i < len) = false := decide_eq_false hil
        have HE : Hid (decide (l = l') = true) := Lib.hid (decide_eq_true (by
          have h := HQ.out
          rw [List.take_of_length_le (by rw [HN.out.1]; omega), List.take_of_length_le (by rw [HN.out.2, ← HL.out]; omega)] at h
          exact h))
        go_wp2_with fail
        go_ret
        exact ⟨by rw [HE.out]; rfl, HB.out⟩
  · have d0 : ((l.length : Int) == (l'.length : Int)) = false := by simp; omega
    have HE : Hid (decide (l = l') = false) := Lib.hid (decide_eq_false (fun h => hl (by rw [h])))
    clear hl
    go_enter Tryz.func21, Tryz.ntmps21
    go_wp2_with fail
    go_ret
    exact ⟨by rw [HE.out]; rfl, Below.refl _ _⟩
end Go.Proofs.YtcophfhnhlaonaaGreatDoor
namespace Go.Proofs.YtcophfhnhlaonaaGreatDoor
set_option linter.unusedVariables false
open Go.RowKit

/-- The value of a tree where input a is f a. -/
def evC (f : Nat → Bool) (k n : Int) (vs : List Bool) : Bool :=
  if k = 0 then f n.toNat
  else if k = 1 then decide (n ≠ 0)
  else if k = 2 then !(vs[0]?.getD false)
  else if k = 3 then vs[0]?.getD false && vs[1]?.getD false
  else if k = 4 then vs[0]?.getD false || vs[1]?.getD false
  else (vs[0]?.getD false) ^^ (vs[1]?.getD false)
mutual
def evT (f : Nat → Bool) : Tre → Bool
  | .mk k n ts => evC f k n (evL f ts)
def evL (f : Nat → Bool) : List Tre → List Bool
  | [] => []
  | t :: ts => evT f t :: evL f ts
end
theorem bit_getD (vs : List (BitVec 64)) (i j : Nat) : (vs[i]?.getD 0).getLsbD j = ((vs.map fun x => x.getLsbD j)[i]?.getD false) := by
  rw [List.getElem?_map]
  cases vs[i]? <;> simp
theorem comb_bit (x : List (BitVec 64)) (k n : Int) (vs : List (BitVec 64)) (j : Nat) (hj : j < 64) :
    (comb x k n vs).getLsbD j = evC (fun a => (x[a]?.getD 0).getLsbD j) k n (vs.map fun x => x.getLsbD j) := by
  unfold comb evC
  split
  · rfl
  split
  · split
    · rename_i h; simp [h]
    · rename_i h; rw [BitVec.getLsbD_allOnes, decide_eq_true hj, decide_eq_true h]
  split
  · rw [BitVec.getLsbD_not, bit_getD]; simp [hj]
  split
  · rw [BitVec.getLsbD_and, bit_getD, bit_getD]
  split
  · rw [BitVec.getLsbD_or, bit_getD, bit_getD]
  · rw [BitVec.getLsbD_xor, bit_getD, bit_getD]
mutual
theorem valB_bit (x : List (BitVec 64)) (j : Nat) (hj : j < 64) : ∀ t : Tre, (valB x t).getLsbD j = evT (fun a => (x[a]?.getD 0).getLsbD j) t
  | .mk k n ts => by
    unfold valB evT
    rw [comb_bit x k n _ j hj, valL_bit x j hj ts]
theorem valL_bit (x : List (BitVec 64)) (j : Nat) (hj : j < 64) : ∀ ts : List Tre, ((valL x ts).map fun y => y.getLsbD j) = evL (fun a => (x[a]?.getD 0).getLsbD j) ts
  | [] => by unfold valL evL; rfl
  | t :: ts => by
    unfold valL evL
    rw [List.map_cons, valB_bit x j hj t, valL_bit x j hj ts]
end
theorem toNat_bit (v : BitVec 64) (j : Nat) : decide (v.toNat / 2 ^ j % 2 = 1) = v.getLsbD j := by
  rw [BitVec.getLsbD, Nat.testBit_eq_decide_div_mod_eq]
theorem inpW_bit (start i : Nat) (hb : ∀ a, bitN a i ≤ 1) : ∀ (J j : Nat), J ≤ 64 → j < 64 → (inpW start i J).getLsbD j = (decide (j < J) && decide (bitN (start + j) i = 1))
  | 0, j, _, _ => by simp [inpW]
  | J + 1, j, hJ, hj => by
    rw [inpW, BitVec.getLsbD_or, inpW_bit start i hb J j (by omega) hj, BitVec.getLsbD_shiftLeft]
    have h1 := hb (start + J)
    rcases Nat.lt_trichotomy j J with h | h | h
    · simp [h, hj, show j < J + 1 by omega]
    · subst h
      have : bitN (start + j) i = 0 ∨ bitN (start + j) i = 1 := by omega
      rcases this with h2 | h2 <;> simp [hj, h2]
    · have h2 : ¬ j < J := by omega
      have h3 : ¬ j < J + 1 := by omega
      have h4 : 1 ≤ j - J := by omega
      have : bitN (start + J) i = 0 ∨ bitN (start + J) i = 1 := by omega
      rcases this with h5 | h5 <;> simp [h2, h3, hj, h5]
      omega
theorem bitN_le (i b : Nat) : bitN i b ≤ 1 := by unfold bitN; omega
theorem row_bit (n i a : Nat) : ((rowI (i / 64 * 64) n n 0)[a]?.getD 0).getLsbD (i % 64) = (decide (a < n) && decide (bitN i a = 1)) := by
  by_cases h : a < n
  · have hr : (rowI (i / 64 * 64) n n 0)[a]? = some (inpW (i / 64 * 64) a 64) := by simp [rowI, h]
    have hm : i % 64 < 64 := Nat.mod_lt _ (by omega)
    rw [hr, Option.getD_some, inpW_bit _ a (fun b => bitN_le b a) 64 (i % 64) (Nat.le_refl _) hm, show i / 64 * 64 + i % 64 = i by omega]
    simp [h, hm]
  · have hr : (rowI (i / 64 * 64) n n 0)[a]? = none := by simp [rowI]; omega
    rw [hr]
    simp [h]
/-- Entry i of the table is the value at the inputs that are the bits of i. -/
theorem tabP_ev (t : Tre) (n i : Nat) : tabP t n i = evT (fun a => decide (a < n) && decide (bitN i a = 1)) t := by
  unfold tabP
  rw [toNat_bit, valB_bit _ _ (Nat.mod_lt _ (by omega))]
  congr 1
  funext a
  exact row_bit n i a
end Go.Proofs.YtcophfhnhlaonaaGreatDoor
