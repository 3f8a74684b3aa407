/-
  Contract of appendTerm of package poly: the textual form of a term.
-/
import Derived.Test.YtiiopdomlepkmaaDoorPqn
import Derived.Lib.ItoaLen
import Derived.Maps.AppendAt
namespace Go.Proofs.YtiiopdomlepkmaaDoor
set_option linter.unusedVariables false
open Go.RowKit Go.Maps

/-- A text that the call builds. -/
structure Tx (B : Nat) (l : List UInt8) (v : Value) (w : World) : Prop where
  own : w.ownsRow B 5 1 v l.length (Lib.byteCells l)
  le : B ≤ w.heap.size
/-- Below B nothing has turned, and nothing but rows of bytes. -/
def KT (B : Nat) (w w' : World) : Prop := Below B w w' ∧ Lib.OthersKept 5 none w w'
theorem KT.refl (B : Nat) (w : World) : KT B w w := ⟨Below.refl _ _, Lib.OthersKept.refl _ _ _⟩
theorem KT.trans {B : Nat} {a b c : World} (h : KT B a b) (k : KT B b c) : KT B a c := ⟨h.1.trans k.1, h.2.trans k.2⟩
theorem KT.of_below {B : Nat} {w w' : World} (h : Below w.heap.size w w') (hB : B ≤ w.heap.size) : KT B w w' := ⟨h.mono hB, fun k o hk _ _ => (h.block k (Array.getElem?_eq_some_iff.1 hk).1).trans hk⟩
theorem KT.grown {B n : Nat} {v : Value} {xs : List Value} {w w' : World} (h : w.ownsRow B 5 1 v n xs) (hB : B ≤ w.heap.size) (hg : w.grownBy w' v.ownBlock) : KT B w w' := by
  refine ⟨(Below.refl B w).grown hg hB fun k e => (h.lt k e).1, fun k o hk _ ho => ?_⟩
  rw [hg.block k (Array.getElem?_eq_some_iff.1 hk).1 (fun e => ?_)]
  · exact hk
  · rcases h.2 with ⟨rfl, _⟩ | ⟨g, cap, cur, rfl, _, hgb, _⟩
    · simp [Value.ownBlock] at e
    · simp [Value.ownBlock] at e
      subst e
      rw [hgb] at hk
      cases hk
      exact ho _ _ rfl
theorem Tx.nil (w : World) : Tx w.heap.size [] (.slice none 0 0) w := ⟨World.ownsRow_nil _ _ _ _, Nat.le_refl _⟩
theorem Tx.shape {B : Nat} {l : List UInt8} {v : Value} {w : World} (h : Tx B l v w) : ∃ A c, v = .slice A l.length c := by
  have h1 := h.own.1
  rcases h.own.2 with ⟨rfl, h0⟩ | ⟨g, cap, cur, rfl, _⟩
  · rw [h0] at h1
    have : l.length = 0 := by simp at h1; omega
    exact ⟨none, 0, by rw [this]⟩
  · exact ⟨_, _, rfl⟩
theorem Tx.below {B : Nat} {l : List UInt8} {v : Value} {w w' : World} (h : Tx B l v w) (hB : Below w.heap.size w w') : Tx B l v w' := ⟨ownsRow_below h.own hB, Nat.le_trans h.le hB.size⟩

theorem Tx.push {B : Nat} {l l2 : List UInt8} {v v2 : Value} {w w2 : World} (h : Tx B l v w) (hown : w2.ownsRow B 5 1 v2 (l.length + ByteArray.size ⟨l2.toArray⟩) (Lib.byteCells l ++ Lib.strCells ⟨l2.toArray⟩)) (hg : w.grownBy w2 v.ownBlock) : Tx B (l ++ l2) v2 w2 ∧ KT B w w2 := by
  have e1 : ByteArray.size ⟨l2.toArray⟩ = l2.length := by show l2.toArray.size = _; simp
  have e2 : Lib.strCells ⟨l2.toArray⟩ = Lib.byteCells l2 := rfl
  rw [e1, e2] at hown
  exact ⟨⟨by simpa [Lib.byteCells] using hown, Nat.le_trans h.le hg.size⟩, KT.grown h.own h.le hg⟩
theorem Tx.push1 {B : Nat} {l : List UInt8} {c : UInt8} {v v2 : Value} {w w2 : World} {o : Obj} (h : Tx B l v w) (hown : w2.ownsRow B 5 1 v2 (l.length + 1) (Lib.byteCells l ++ [.int .u8 (c.toNat : Int)])) (hg : (w.alloc o).grownBy w2 v.ownBlock) : Tx B (l ++ [c]) v2 w2 ∧ KT B w w2 := by
  have hB := below1 w o
  have h2 := h.below hB
  exact ⟨⟨by simpa [Lib.byteCells] using hown, Nat.le_trans h2.le hg.size⟩, (KT.of_below hB h.le).trans (KT.grown h2.own h2.le hg)⟩

set_option maxHeartbeats 1000000 in
theorem aint_ok (B : Nat) (l : List UInt8) (v : Value) (i : Nat) (w : World) (hT : Tx B l v w) (hlim : l.length ≤ 1000000) (hi : i ≤ 1000000) (htab : ∀ W, Below B w W → Lib.TabIs Tryd.prog W "internal/strconv.uint64pow10" .u64 Lib.pow10Tab) :
    Calls Tryd.prog 56 #[v, .int .i64 (i : Int), .int .i64 10] w fun e w' => ∃ v', e = .returned v' ∧ Tx B (l ++ Lib.itoa i) v' w' ∧ KT B w w' := by
  refine (Any.strconv_AppendInt_10 Tryd.aintL B l.length (i : Int) (by omega) (by omega) v _ w hT.own hT.le (by omega) htab).mono ?_
  rintro e w' ⟨v', rfl, h1, h2, h3⟩
  have h1' : w'.ownsRow B 5 1 v' (l.length + (Lib.itoa i).length) (Lib.byteCells l ++ Lib.byteCells (Lib.itoa i)) := h1
  exact ⟨v', rfl, ⟨by simpa [Lib.byteCells] using h1', Nat.le_trans hT.le h2.size⟩, h2, h3⟩

def expT (k x : Nat) : List UInt8 := if x = 0 then [] else [42, 120] ++ Lib.itoa k ++ (if x = 1 then [] else [94] ++ Lib.itoa x)
/-- The text of the exponents of the variables from k on. -/
def expsT : Nat → List Nat → List UInt8
  | _, [] => []
  | k, x :: e => expT k x ++ expsT (k + 1) e
def termT (t : Tm) : List UInt8 := Lib.itoa t.1 ++ expsT 0 t.2
theorem expsT_snoc (e : List Nat) (x : Nat) : ∀ k, expsT k (e ++ [x]) = expsT k e ++ expT (k + e.length) x := by
  induction e with
  | nil => intro k; simp [expsT]
  | cons y e ih =>
    intro k
    show expT k y ++ expsT (k + 1) (e ++ [x]) = _
    rw [ih]
    simp [expsT, Nat.add_assoc, Nat.add_comm 1]
theorem itoa_le (i : Nat) (h : i ≤ 1000000) : (Lib.itoa i).length ≤ 21 := Lib.itoa_length_le i (by omega) (by omega)
theorem expT_length (k x : Nat) (hk : k ≤ 1000) (hx : x ≤ 65535) : (expT k x).length ≤ 45 := by
  have h1 := itoa_le k (by omega)
  have h2 := itoa_le x (by omega)
  unfold expT
  split
  · simp
  · split <;> simp <;> omega

set_option maxRecDepth 100000 in
set_option maxHeartbeats 4000000 in
theorem appT_ok (B : Nat) (l : List UInt8) (v : Value) (t : Tm) (n : Nat) (hn : n ≤ 80) (he : Ex n t.2) (ht : t.1 ≤ 65536) (A : Option Addr) (cp : Nat) (w : World) (hT : Tx B l v w) (hlim : l.length ≤ 100000)
    (hE : ∀ W, KT B w W → RdI W A (nz t.2)) (htab : ∀ W, Below B w W → Lib.TabIs Tryd.prog W "internal/strconv.uint64pow10" .u64 Lib.pow10Tab) :
    Calls Tryd.prog 34 #[v, .agg #[.int .i64 (t.1 : Int), .slice A n cp]] w fun e w' => ∃ v', e = .returned v' ∧ Tx B (l ++ termT t) v' w' ∧ KT B w w' := by
  obtain ⟨VA, VC, rfl⟩ := hT.shape
  have hB1 := below1 w (.cells #[.int .i64 (t.1 : Int), .slice A n cp] 65)
  have HK1 := Lib.hid (KT.of_below hB1 hT.le)
  have HA := Lib.hid (aint_ok B l _ t.1 _ (hT.below hB1) (by omega) (by omega) (fun W hW => htab W (HK1.out.1.trans hW)))
  have HE := Lib.hid hE
  have HX := Lib.hid he
  have HTB := Lib.hid htab
  have HLI := Lib.hid hlim
  have hitl := itoa_le t.1 (by omega)
  have HIT := Lib.hid hitl
  have HBK : Hid ((w.alloc (.cells #[.int .i64 (t.1 : Int), .slice A n cp] 65)).heap[w.heap.size]? = some (.cells #[.int .i64 (t.1 : Int), .slice A n cp] 65 (0, 0))) := Lib.hid (alloc_at _ _ _ rfl)
  clear hT hB1 hE he htab hlim hitl
  go_enter Tryd.func34, Tryd.ntmps34
  go_wp2_with fail
  refine HA.out.mono ?_
  rintro e w1 ⟨v1, rfl, hT1, hK1⟩
  have hbk1 := hK1.2 _ _ HBK.out (by simp) (fun c fz e => by simp at e)
  have hc1 : w1.cell? ⟨w.heap.size, 1, none⟩ = some (.slice A n cp) := by simp [World.cell?, hbk1]
  have HT1 := Lib.hid hT1
  have HKK := Lib.hid (HK1.out.trans hK1)
  clear hT1 hK1 hbk1
  go_wp2_with fail
  go_loopw [0, 5, 6, 14] (fun tv _ _ i W => ∃ (k : Nat) (cur : List UInt8), k ≤ n ∧ i = .int .i64 k ∧ cur = l ++ Lib.itoa t.1 ++ expsT 0 (t.2.take k) ∧ cur.length ≤ 100030 + 45 * k ∧ Tx B cur tv W ∧ KT B w W) (fun _ _ _ i _ => n - (intOf i).toNat)
  case atStart => exact ⟨0, l ++ Lib.itoa t.1, by omega, rfl, by simp [expsT], by rw [List.length_append]; have := HIT.out; have := HLI.out; omega, HT1.out, HKK.out⟩
  case round =>
    clear HT1 HKK hc1
    obtain ⟨k, cur, hk, rfl, hcur, hcl, hT, hK⟩ := hrel
    have HCUR := Lib.hid hcur
    have HCL := Lib.hid hcl
    have HT := Lib.hid hT
    have HK := Lib.hid hK
    obtain ⟨UA, UC, rfl⟩ := hT.shape
    clear hcur hT hcl
    by_cases hlt : k < n
    · obtain ⟨x, hx⟩ : ∃ x, t.2[k]? = some x := ⟨_, List.getElem?_eq_getElem (by rw [HX.out.1]; exact hlt)⟩
      have hx2 := HX.out.2 x (List.mem_of_getElem? hx)
      obtain ⟨a, rfl, g1⟩ := HE.out wr hK k _ (nz_at hx)
      have HXK := Lib.hid hx
      have HTK := Lib.hid (show t.2.take (k + 1) = t.2.take k ++ [x] by rw [List.take_add_one, hx]; rfl)
      have HKL := Lib.hid (show (t.2.take k).length = k by rw [List.length_take, HX.out.1]; omega)
      clear hx hK
      by_cases h0 : x = 0
      · subst h0
        go_wp2_with fail
        go_roundw
        case rel => exact ⟨k + 1, cur, by omega, by go_num, by rw [HTK.out, expsT_snoc, HKL.out, HCUR.out]; simp [expT], by have := HCL.out; omega, HT.out, HK.out⟩
        case measure => simp [intOf]; omega
      · have h0' : ((x : Int) == 0) = false := by simpa using h0
        obtain ⟨i0, hi, hz0, hz1, hz2⟩ := info_parts Tryd.info5
        go_wp2_with (at_builtin; refine Lib.wpList_append_own_string _ rfl _ _ 71 9 rfl B 5 i0 Tryd.underlying71 Tryd.underlying9 hi hz0 hz1 hz2 _ cur.length _ rfl HT.out.own ⟨#[42, 120]⟩ rfl (by have h1 := HCL.out; show cur.length + 2 ≤ maxLen; unfold maxLen; omega) (by have h1 := HCL.out; show cur.length + 2 ≤ _; omega) HT.out.le ?_; intro v2 w2 hown2 hgrow2 _; obtain ⟨hT2, hK2⟩ := Tx.push (l2 := [42, 120]) HT.out hown2 hgrow2; have HT2 := Lib.hid hT2; have HK2 := Lib.hid (HK.out.trans hK2); clear hown2 hgrow2 hT2 hK2)
        refine (aint_ok B _ _ k _ HT2.out (by have h1 := HCL.out; rw [List.length_append]; simp; omega) (by omega) (fun W hW => HTB.out W (HK2.out.1.trans hW))).mono ?_
        rintro e w3 ⟨v3, rfl, hT3, hK3⟩
        obtain ⟨l3, hl3⟩ : ∃ l3, l3 = cur ++ [42, 120] ++ Lib.itoa k := ⟨_, rfl⟩
        rw [← hl3] at hT3
        have HL3 := Lib.hid hl3
        have HT3 := Lib.hid hT3
        have HK3 := Lib.hid (HK2.out.trans hK3)
        have hik := itoa_le k (by omega)
        have HIK := Lib.hid hik
        obtain ⟨XA, XC, rfl⟩ := hT3.shape
        clear hT3 hK3 hik hl3
        by_cases h1 : x = 1
        · subst h1
          go_wp2_with fail
          go_roundw
          case rel => exact ⟨k + 1, l3, by omega, by go_num, by rw [HL3.out, HTK.out, expsT_snoc, HKL.out, HCUR.out]; simp [expT], by rw [HL3.out]; have := HCL.out; have := HIK.out; simp; omega, HT3.out, HK3.out⟩
          case measure => simp [intOf]; omega
        · have h1' : 1 < x := by omega
          have HEQ := Lib.hid h1
          clear h1
          go_wp2_with (at_builtin; refine wpList_append_own_at _ rfl _ _ 71 rfl B 5 i0 (.int .u8 0) 1 1 Tryd.underlying71 hi hz0 hz1 hz2 rfl (by decide) _ l3.length _ rfl (HT3.out.own.alloc _) ⟨w3.heap.size, 0, none⟩ 1 1 [.int .u8 94] rfl rfl (cell_one_new _ _ _) (by intro u hu; simp at hu; subst hu; rfl) (by rw [HL3.out]; have h1 := HCL.out; have h2 := HIK.out; unfold maxLen; simp; omega) (by rw [HL3.out]; have h1 := HCL.out; have h2 := HIK.out; simp; omega) (by have := HT3.out.le; simp; omega) ?_; intro v4 w4 hown4 hgrow4 _ _; obtain ⟨hT4, hK4⟩ := Tx.push1 (c := 94) HT3.out hown4 hgrow4; have HT4 := Lib.hid hT4; have HK4 := Lib.hid (HK3.out.trans hK4); clear hown4 hgrow4 hT4 hK4)
          refine (aint_ok B _ _ x _ HT4.out (by rw [HL3.out]; have h1 := HCL.out; have h2 := HIK.out; simp; omega) (by omega) (fun W hW => HTB.out W (HK4.out.1.trans hW))).mono ?_
          rintro e w5 ⟨v5, rfl, hT5, hK5⟩
          obtain ⟨l5, hl5⟩ : ∃ l5, l5 = l3 ++ [94] ++ Lib.itoa x := ⟨_, rfl⟩
          rw [← hl5] at hT5
          have HL5 := Lib.hid hl5
          have HT5 := Lib.hid hT5
          have HK5 := Lib.hid (HK4.out.trans hK5)
          have hix := itoa_le x (by omega)
          have HIX := Lib.hid hix
          obtain ⟨ZA, ZC, rfl⟩ := hT5.shape
          clear hT5 hK5 hix hl5
          go_wp2_with fail
          go_roundw
          case rel => exact ⟨k + 1, l5, by omega, by go_num, by rw [HL5.out, HL3.out, HTK.out, expsT_snoc, HKL.out, HCUR.out]; unfold expT; rw [Nat.zero_add, if_neg h0, if_neg HEQ.out]; simp, by rw [HL5.out, HL3.out]; have h1 := HCL.out; have h2 := HIK.out; have h3 := HIX.out; simp; omega, HT5.out, HK5.out⟩
          case measure => simp [intOf]; omega
    · have hkn : k = n := by omega
      subst hkn
      have hfin : cur = l ++ termT t := by rw [HCUR.out, List.take_of_length_le (by rw [HX.out.1]; exact Nat.le_refl _)]; simp [termT]
      have HF := Lib.hid hfin
      clear hfin hK
      go_wp2_with fail
      go_ret
      exact ⟨_, rfl, by rw [← HF.out]; exact HT.out, HK.out⟩
end Go.Proofs.YtiiopdomlepkmaaDoor
