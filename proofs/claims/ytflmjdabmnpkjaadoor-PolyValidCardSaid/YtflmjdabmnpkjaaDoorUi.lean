/-
  Joined from Pqo, Pqp, Pqq, Pqr, Pqs, Pqt: see there.
-/
import Derived.Test.YtflmjdabmnpkjaaDoorUh
import Derived.Lib.ItoaLen
import Derived.Maps.AppendAt
namespace Go.Proofs.YtflmjdabmnpkjaaDoor
set_option linter.unusedVariables false
open Go.RowKit Go.Maps

/-- A text that the call builds. -/
structure Tx (B : Nat) (l : List UInt8) (v : Value) (w : World) : Prop where
  own : w.ownsRow B 5 1 v l.length (Lib.byteCells l)
  le : B ≤ w.heap.size
/-- Below B nothing has turned, and nothing but rows of bytes. -/
def KT (B : Nat) (w w' : World) : Prop := Below B w w' ∧ Lib.OthersKept 5 none w w'
theorem KT.refl (B : Nat) (w : World) : KT B w w := ⟨Below.refl _ _, Lib.OthersKept.refl _ _ _⟩
theorem KT.trans {B : Nat} {a b c : World} (h : KT B a b) (k : KT B b c) : KT B a c := ⟨h.1.trans k.1, h.2.trans k.2⟩
theorem KT.of_below {B : Nat} {w w' : World} (h : Below w.heap.size w w') (hB : B ≤ w.heap.size) : KT B w w' := ⟨h.mono hB, fun k o hk _ _ => (h.block k (Array.getElem?_eq_some_iff.1 hk).1).trans hk⟩
theorem KT.grown {B n : Nat} {v : Value} {xs : List Value} {w w' : World} (h : w.ownsRow B 5 1 v n xs) (hB : B ≤ w.heap.size) (hg : w.grownBy w' v.ownBlock) : KT B w w' := by
  refine ⟨(Below.refl B w).grown hg hB fun k e => (h.lt k e).1, fun k o hk _ ho => ?_⟩
  rw [hg.block k (Array.getElem?_eq_some_iff.1 hk).1 (fun e => ?_)]
  · exact hk
  · rcases h.2 with ⟨rfl, _⟩ | ⟨g, cap, cur, rfl, _, hgb, _⟩
    · simp [Value.ownBlock] at e
    · simp [Value.ownBlock] at e
      subst e
      rw [hgb] at hk
      cases hk
      exact ho _ _ rfl
theorem Tx.nil (w : World) : Tx w.heap.size [] (.slice none 0 0) w := ⟨World.ownsRow_nil _ _ _ _, Nat.le_refl _⟩
theorem Tx.shape {B : Nat} {l : List UInt8} {v : Value} {w : World} (h : Tx B l v w) : ∃ A c, v = .slice A l.length c := by
  have h1 := h.own.1
  rcases h.own.2 with ⟨rfl, h0⟩ | ⟨g, cap, cur, rfl, _⟩
  · rw [h0] at h1
    have : l.length = 0 := by simp at h1; omega
    exact ⟨none, 0, by rw [this]⟩
  · exact ⟨_, _, rfl⟩
theorem Tx.below {B : Nat} {l : List UInt8} {v : Value} {w w' : World} (h : Tx B l v w) (hB : Below w.heap.size w w') : Tx B l v w' := ⟨ownsRow_below h.own hB, Nat.le_trans h.le hB.size⟩

theorem Tx.push {B : Nat} {l l2 : List UInt8} {v v2 : Value} {w w2 : World} (h : Tx B l v w) (hown : w2.ownsRow B 5 1 v2 (l.length + ByteArray.size ⟨l2.toArray⟩) (Lib.byteCells l ++ Lib.strCells ⟨l2.toArray⟩)) (hg : w.grownBy w2 v.ownBlock) : Tx B (l ++ l2) v2 w2 ∧ KT B w w2 := by
  have e1 : ByteArray.size ⟨l2.toArray⟩ = l2.length := by show l2.toArray.size = _; simp
  have e2 : Lib.strCells ⟨l2.toArray⟩ = Lib.byteCells l2 := rfl
  rw [e1, e2] at hown
  exact ⟨⟨by simpa [Lib.byteCells] using hown, Nat.le_trans h.le hg.size⟩, KT.grown h.own h.le hg⟩
theorem Tx.push1 {B : Nat} {l : List UInt8} {c : UInt8} {v v2 : Value} {w w2 : World} {o : Obj} (h : Tx B l v w) (hown : w2.ownsRow B 5 1 v2 (l.length + 1) (Lib.byteCells l ++ [.int .u8 (c.toNat : Int)])) (hg : (w.alloc o).grownBy w2 v.ownBlock) : Tx B (l ++ [c]) v2 w2 ∧ KT B w w2 := by
  have hB := below1 w o
  have h2 := h.below hB
  exact ⟨⟨by simpa [Lib.byteCells] using hown, Nat.le_trans h2.le hg.size⟩, (KT.of_below hB h.le).trans (KT.grown h2.own h2.le hg)⟩

set_option maxHeartbeats 1000000 in
theorem aint_ok (B : Nat) (l : List UInt8) (v : Value) (i : Nat) (w : World) (hT : Tx B l v w) (hlim : l.length ≤ 1000000) (hi : i ≤ 1000000) (htab : ∀ W, Below B w W → Lib.TabIs Tryd.prog W "internal/strconv.uint64pow10" .u64 Lib.pow10Tab) :
    Calls Tryd.prog 43 #[v, .int .i64 (i : Int), .int .i64 10] w fun e w' => ∃ v', e = .returned v' ∧ Tx B (l ++ Lib.itoa i) v' w' ∧ KT B w w' := by
  refine (Any.strconv_AppendInt_10 Tryd.aintL B l.length (i : Int) (by omega) (by omega) v _ w hT.own hT.le (by omega) htab).mono ?_
  rintro e w' ⟨v', rfl, h1, h2, h3⟩
  have h1' : w'.ownsRow B 5 1 v' (l.length + (Lib.itoa i).length) (Lib.byteCells l ++ Lib.byteCells (Lib.itoa i)) := h1
  exact ⟨v', rfl, ⟨by simpa [Lib.byteCells] using h1', Nat.le_trans hT.le h2.size⟩, h2, h3⟩

def expT (k x : Nat) : List UInt8 := if x = 0 then [] else [42, 120] ++ Lib.itoa k ++ (if x = 1 then [] else [94] ++ Lib.itoa x)
/-- The text of the exponents of the variables from k on. -/
def expsT : Nat → List Nat → List UInt8
  | _, [] => []
  | k, x :: e => expT k x ++ expsT (k + 1) e
def termT (t : Tm) : List UInt8 := Lib.itoa t.1 ++ expsT 0 t.2
theorem expsT_snoc (e : List Nat) (x : Nat) : ∀ k, expsT k (e ++ [x]) = expsT k e ++ expT (k + e.length) x := by
  induction e with
  | nil => intro k; simp [expsT]
  | cons y e ih =>
    intro k
    show expT k y ++ expsT (k + 1) (e ++ [x]) = _
    rw [ih]
    simp [expsT, Nat.add_assoc, Nat.add_comm 1]
theorem itoa_le (i : Nat) (h : i ≤ 1000000) : (Lib.itoa i).length ≤ 21 := Lib.itoa_length_le i (by omega) (by omega)
theorem expT_length (k x : Nat) (hk : k ≤ 1000) (hx : x ≤ 65535) : (expT k x).length ≤ 45 := by
  have h1 := itoa_le k (by omega)
  have h2 := itoa_le x (by omega)
  unfold expT
  split
  · simp
  · split <;> simp <;> omega

set_option maxRecDepth 100000 in
set_option maxHeartbeats 4000000 in
theorem appT_ok (B : Nat) (l : List UInt8) (v : Value) (t : Tm) (n : Nat) (hn : n ≤ 80) (he : Ex n t.2) (ht : t.1 ≤ 65536) (A : Option Addr) (cp : Nat) (w : World) (hT : Tx B l v w) (hlim : l.length ≤ 100000)
    (hE : ∀ W, KT B w W → RdI W A (nz t.2)) (htab : ∀ W, Below B w W → Lib.TabIs Tryd.prog W "internal/strconv.uint64pow10" .u64 Lib.pow10Tab) :
    Calls Tryd.prog 25 #[v, .agg #[.int .i64 (t.1 : Int), .slice A n cp]] w fun e w' => ∃ v', e = .returned v' ∧ Tx B (l ++ termT t) v' w' ∧ KT B w w' := by
  obtain ⟨VA, VC, rfl⟩ := hT.shape
  have hB1 := below1 w (.cells #[.int .i64 (t.1 : Int), .slice A n cp] 53)
  have HK1 := Lib.hid (KT.of_below hB1 hT.le)
  have HA := Lib.hid (aint_ok B l _ t.1 _ (hT.below hB1) (by omega) (by omega) (fun W hW => htab W (HK1.out.1.trans hW)))
  have HE := Lib.hid hE
  have HX := Lib.hid he
  have HTB := Lib.hid htab
  have HLI := Lib.hid hlim
  have hitl := itoa_le t.1 (by omega)
  have HIT := Lib.hid hitl
  have HBK : Hid ((w.alloc (.cells #[.int .i64 (t.1 : Int), .slice A n cp] 53)).heap[w.heap.size]? = some (.cells #[.int .i64 (t.1 : Int), .slice A n cp] 53 (0, 0))) := Lib.hid (alloc_at _ _ _ rfl)
  clear hT hB1 hE he htab hlim hitl
  go_enter Tryd.func25, Tryd.ntmps25
  go_wp2_with fail
  refine HA.out.mono ?_
  rintro e w1 ⟨v1, rfl, hT1, hK1⟩
  have hbk1 := hK1.2 _ _ HBK.out (by simp) (fun c fz e => by simp at e)
  have hc1 : w1.cell? ⟨w.heap.size, 1, none⟩ = some (.slice A n cp) := by simp [World.cell?, hbk1]
  have HT1 := Lib.hid hT1
  have HKK := Lib.hid (HK1.out.trans hK1)
  clear hT1 hK1 hbk1
  go_wp2_with fail
  go_loopw [0, 5, 6, 14] (fun tv _ _ i W => ∃ (k : Nat) (cur : List UInt8), k ≤ n ∧ i = .int .i64 k ∧ cur = l ++ Lib.itoa t.1 ++ expsT 0 (t.2.take k) ∧ cur.length ≤ 100030 + 45 * k ∧ Tx B cur tv W ∧ KT B w W) (fun _ _ _ i _ => n - (intOf i).toNat)
  case atStart => exact ⟨0, l ++ Lib.itoa t.1, by omega, rfl, by simp [expsT], by rw [List.length_append]; have := HIT.out; have := HLI.out; omega, HT1.out, HKK.out⟩
  case round =>
    clear HT1 HKK hc1
    obtain ⟨k, cur, hk, rfl, hcur, hcl, hT, hK⟩ := hrel
    have HCUR := Lib.hid hcur
    have HCL := Lib.hid hcl
    have HT := Lib.hid hT
    have HK := Lib.hid hK
    obtain ⟨UA, UC, rfl⟩ := hT.shape
    clear hcur hT hcl
    by_cases hlt : k < n
    · obtain ⟨x, hx⟩ : ∃ x, t.2[k]? = some x := ⟨_, List.getElem?_eq_getElem (by rw [HX.out.1]; exact hlt)⟩
      have hx2 := HX.out.2 x (List.mem_of_getElem? hx)
      obtain ⟨a, rfl, g1⟩ := HE.out wr hK k _ (nz_at hx)
      have HXK := Lib.hid hx
      have HTK := Lib.hid (show t.2.take (k + 1) = t.2.take k ++ [x] by rw [List.take_add_one, hx]; rfl)
      have HKL := Lib.hid (show (t.2.take k).length = k by rw [List.length_take, HX.out.1]; omega)
      clear hx hK
      by_cases h0 : x = 0
      · subst h0
        go_wp2_with fail
        go_roundw
        case rel => exact ⟨k + 1, cur, by omega, by go_num, by rw [HTK.out, expsT_snoc, HKL.out, HCUR.out]; simp [expT], by have := HCL.out; omega, HT.out, HK.out⟩
        case measure => simp [intOf]; omega
      · have h0' : ((x : Int) == 0) = false := by simpa using h0
        obtain ⟨i0, hi, hz0, hz1, hz2⟩ := info_parts Tryd.info5
        go_wp2_with (at_builtin; refine Lib.wpList_append_own_string _ rfl _ _ 59 9 rfl B 5 i0 Tryd.underlying59 Tryd.underlying9 hi hz0 hz1 hz2 _ cur.length _ rfl HT.out.own ⟨#[42, 120]⟩ rfl (by have h1 := HCL.out; show cur.length + 2 ≤ maxLen; unfold maxLen; omega) (by have h1 := HCL.out; show cur.length + 2 ≤ _; omega) HT.out.le ?_; intro v2 w2 hown2 hgrow2 _; obtain ⟨hT2, hK2⟩ := Tx.push (l2 := [42, 120]) HT.out hown2 hgrow2; have HT2 := Lib.hid hT2; have HK2 := Lib.hid (HK.out.trans hK2); clear hown2 hgrow2 hT2 hK2)
        refine (aint_ok B _ _ k _ HT2.out (by have h1 := HCL.out; rw [List.length_append]; simp; omega) (by omega) (fun W hW => HTB.out W (HK2.out.1.trans hW))).mono ?_
        rintro e w3 ⟨v3, rfl, hT3, hK3⟩
        obtain ⟨l3, hl3⟩ : ∃ l3, l3 = cur ++ [42, 120] ++ Lib.itoa k := ⟨_, rfl⟩
        rw [← hl3] at hT3
        have HL3 := Lib.hid hl3
        have HT3 := Lib.hid hT3
        have HK3 := Lib.hid (HK2.out.trans hK3)
        have hik := itoa_le k (by omega)
        have HIK := Lib.hid hik
        obtain ⟨XA, XC, rfl⟩ := hT3.shape
        clear hT3 hK3 hik hl3
        by_cases h1 : x = 1
        · subst h1
          go_wp2_with fail
          go_roundw
          case rel => exact ⟨k + 1, l3, by omega, by go_num, by rw [HL3.out, HTK.out, expsT_snoc, HKL.out, HCUR.out]; simp [expT], by rw [HL3.out]; have := HCL.out; have := HIK.out; simp; omega, HT3.out, HK3.out⟩
          case measure => simp [intOf]; omega
        · have h1' : 1 < x := by omega
          have HEQ := Lib.hid h1
          clear h1
          go_wp2_with (at_builtin; refine wpList_append_own_at _ rfl _ _ 59 rfl B 5 i0 (.int .u8 0) 1 1 Tryd.underlying59 hi hz0 hz1 hz2 rfl (by decide) _ l3.length _ rfl (HT3.out.own.alloc _) ⟨w3.heap.size, 0, none⟩ 1 1 [.int .u8 94] rfl rfl (cell_one_new _ _ _) (by intro u hu; simp at hu; subst hu; rfl) (by rw [HL3.out]; have h1 := HCL.out; have h2 := HIK.out; unfold maxLen; simp; omega) (by rw [HL3.out]; have h1 := HCL.out; have h2 := HIK.out; simp; omega) (by have := HT3.out.le; simp; omega) ?_; intro v4 w4 hown4 hgrow4 _ _; obtain ⟨hT4, hK4⟩ := Tx.push1 (c := 94) HT3.out hown4 hgrow4; have HT4 := Lib.hid hT4; have HK4 := Lib.hid (HK3.out.trans hK4); clear hown4 hgrow4 hT4 hK4)
          refine (aint_ok B _ _ x _ HT4.out (by rw [HL3.out]; have h1 := HCL.out; have h2 := HIK.out; simp; omega) (by omega) (fun W hW => HTB.out W (HK4.out.1.trans hW))).mono ?_
          rintro e w5 ⟨v5, rfl, hT5, hK5⟩
          obtain ⟨l5, hl5⟩ : ∃ l5, l5 = l3 ++ [94] ++ Lib.itoa x := ⟨_, rfl⟩
          rw [← hl5] at hT5
          have HL5 := Lib.hid hl5
          have HT5 := Lib.hid hT5
          have HK5 := Lib.hid (HK4.out.trans hK5)
          have hix := itoa_le x (by omega)
          have HIX := Lib.hid hix
          obtain ⟨ZA, ZC, rfl⟩ := hT5.shape
          clear hT5 hK5 hix hl5
          go_wp2_with fail
          go_roundw
          case rel => exact ⟨k + 1, l5, by omega, by go_num, by rw [HL5.out, HL3.out, HTK.out, expsT_snoc, HKL.out, HCUR.out]; unfold expT; rw [Nat.zero_add, if_neg h0, if_neg HEQ.out]; simp, by rw [HL5.out, HL3.out]; have h1 := HCL.out; have h2 := HIK.out; have h3 := HIX.out; simp; omega, HT5.out, HK5.out⟩
          case measure => simp [intOf]; omega
    · have hkn : k = n := by omega
      subst hkn
      have hfin : cur = l ++ termT t := by rw [HCUR.out, List.take_of_length_le (by rw [HX.out.1]; exact Nat.le_refl _)]; simp [termT]
      have HF := Lib.hid hfin
      clear hfin hK
      go_wp2_with fail
      go_ret
      exact ⟨_, rfl, by rw [← HF.out]; exact HT.out, HK.out⟩
end Go.Proofs.YtflmjdabmnpkjaaDoor
namespace Go.Proofs.YtflmjdabmnpkjaaDoor
set_option linter.unusedVariables false
open Go.RowKit Go.Maps

def sepT (t : Tm) : List UInt8 := [32, 43, 32] ++ termT t
def catT : List Tm → List UInt8
  | [] => []
  | t :: ts => termT t ++ ts.flatMap sepT
def textP (p : List Tm) : List UInt8 := if p = [] then [48] else catT p
theorem catT_snoc (ts : List Tm) (t : Tm) (h : ts ≠ []) : catT (ts ++ [t]) = catT ts ++ sepT t := by
  cases ts with
  | nil => exact absurd rfl h
  | cons s ts => simp [catT, List.flatMap_append]
theorem catT_le (p : List Tm) (k : Nat) : (catT (p.take k)).length ≤ (catT p).length := by
  cases p with
  | nil => simp
  | cons t ts =>
    cases k with
    | zero => simp [catT]
    | succ k =>
      simp only [List.take_succ_cons, catT, List.length_append]
      have : (ts.flatMap sepT).length = ((ts.take k).flatMap sepT).length + ((ts.drop k).flatMap sepT).length := by
        rw [← List.length_append, ← List.flatMap_append, List.take_append_drop]
      omega
theorem expsT_length (e : List Nat) : ∀ k, k + e.length ≤ 1000 → (∀ x ∈ e, x ≤ 65535) → (expsT k e).length ≤ 45 * e.length := by
  induction e with
  | nil => intro k _ _; simp [expsT]
  | cons x e ih =>
    intro k hk hx
    have h1 := expT_length k x (by simp at hk; omega) (hx x (by simp))
    have h2 := ih (k + 1) (by simp at hk; omega) (fun y hy => hx y (by simp [hy]))
    simp [expsT]
    omega
theorem termT_length {n : Nat} (t : Tm) (hn : n ≤ 80) (ht : t.1 ≤ 65536) (he : Ex n t.2) : (termT t).length ≤ 3700 := by
  have h1 := itoa_le t.1 (by omega)
  have h2 := expsT_length t.2 0 (by rw [he.1]; omega) he.2
  rw [he.1] at h2
  unfold termT
  rw [List.length_append]
  omega

theorem kt_term {B g : Nat} {a b : Value} {w w' : World} (hK : KT B w w') (h : w.heap[g]? = some (.cells #[a, b] 53 (0, 0))) : w'.cell? ⟨g, 0, none⟩ = some a ∧ w'.cell? ⟨g, 1, none⟩ = some b := by
  have h2 := hK.2 _ _ h (by simp) (fun c fz e => by simp at e)
  constructor <;> simp [World.cell?, h2]
theorem itoa_pos (i : Nat) : 0 < (Lib.itoa i).length := by
  rw [Lib.itoa_nonneg, Lib.decDigits_length]
  unfold Lib.nDigits
  split <;> omega
theorem catT_ne {n : Nat} {p : List Tm} (hx : ∀ t ∈ p, Ex n t.2) (h : 0 < p.length) : 0 < (catT p).length := by
  cases p with
  | nil => simp at h
  | cons t ts =>
    have := itoa_pos t.1
    simp [catT, termT]
    omega
theorem conv_text (l : List UInt8) (A : Option Addr) (c : Nat) {B : Nat} {W : World} (h : Tx B l (.slice A l.length c) W) (hl : l ≠ []) : (convert 59 9 (.slice A l.length c)).run Tryd.prog W = .ok (.string ⟨l.toArray⟩) W := by
  rcases h.own.2 with ⟨hv, h0⟩ | ⟨g, cap, cur, hv, _⟩
  · exfalso
    simp at h0
    exact hl h0
  · simp only [Value.slice.injEq] at hv
    obtain ⟨rfl, _, rfl⟩ := hv
    refine run_convert_bytes_back W 59 9 5 ⟨g, 0, none⟩ c l Tryd.underlying59 Tryd.underlying5 Tryd.underlying9 fun j hj => ?_
    have hc := h.own.cells (g := g) rfl j (.int .u8 ((l[j] : UInt8).toNat : Int)) (by simp [Lib.byteCells, hj])
    exact hc

set_option maxHeartbeats 2000000 in
theorem Text_no (P M n : Int) (hn0 : -9223372036854775808 ≤ n) (hn1 : n ≤ 9223372036854775807) (v : Value) (ts : List (Int × List Int)) (w : World) (hL : Lays w) (hv : PolyV w v ts) (h : ¬ ValidPs P M n [ts]) :
    Calls Tryd.prog 9 #[.agg #[.int .i64 P, .int .i64 M], .int .i64 n, v] w fun e w' => e = .returned (.tuple #[.string ⟨#[]⟩, .int .i64 1]) ∧ Below w.heap.size w w' := by
  have hB2 := below2 w (.cells #[.int .i64 P, .int .i64 M] 23) (.cells #[v] 25)
  have hO := open_no1 P M n hn0 hn1 (some ⟨w.heap.size + 1, 0, none⟩) 1 1 [ts] rfl (by omega) _ (hL.below hB2) (rdps_one (snd_cell _ _ _ _ _) (hv.below hB2)) h
  have HO := Lib.hid hO
  have HB2 := Lib.hid hB2
  obtain ⟨VA, VC, rfl, -, -⟩ := hv
  generalize ts.length = tl at *
  clear hO hB2 hL h hn0 hn1
  go_enter Tryd.func9, Tryd.ntmps9
  go_wp2_with fail
  refine HO.out.mono ?_
  rintro e w1 ⟨rfl, hB1⟩
  have HB3 := Lib.hid (HB2.out.trans (hB1.mono HB2.out.size))
  clear HB2 hB1
  unfold zeroRing
  go_wp2_with fail
  go_ret2
  exact ⟨rfl, HB3.out.alloc HB3.out.size _⟩

def TextIs (p : List Tm) (w : World) (r : Ending) (w' : World) : Prop :=
  Below w.heap.size w w' ∧ (((textP p).length ≤ 40000 ∧ r = .returned (.tuple #[.string ⟨(textP p).toArray⟩, .int .i64 0])) ∨ (40000 < (textP p).length ∧ r = .returned (.tuple #[.string ⟨#[]⟩, .int .i64 5])))

set_option maxRecDepth 100000 in
set_option maxHeartbeats 4000000 in
theorem Text_ok (P M q n : Nat) (hf : Fld P M q) (hn : n ≤ 80) (VA : Option Addr) (VC : Nat) (p : List Tm) (w : World) (hL : LayP w) (hr : RdP w VA (tms p)) (hp : Ris q n p) (hx : ∀ t ∈ p, Ex n t.2) (hlen : p.length ≤ 20000) :
    Calls Tryd.prog 9 #[.agg #[.int .i64 (P : Int), .int .i64 (M : Int)], .int .i64 (n : Int), .slice VA p.length VC] w (TextIs p w) := by
  have hB2 := below2 w (.cells #[.int .i64 (P : Int), .int .i64 (M : Int)] 23) (.cells #[.slice VA p.length VC] 25)
  have hv : PolyV w (.slice VA p.length VC) (tms p) := ⟨VA, VC, by simp, hr, by simp; omega⟩
  have hO := open_yes1 P M q n hf hn (some ⟨w.heap.size + 1, 0, none⟩) 1 1 [tms p] rfl (by omega) _ (hL.lays.below hB2) (rdps_one (snd_cell _ _ _ _ _) (hv.below hB2)) (fun x hx' => by
    simp at hx'
    subst hx'
    exact ⟨by simpa using hlen, p, rfl, hp, hx⟩)
  have HO := Lib.hid hO
  have HB2 := Lib.hid hB2
  have HL := Lib.hid hL
  have HR := Lib.hid hr
  have HP := Lib.hid hp
  have HX := Lib.hid hx
  clear hO hB2 hL hp hx hr hv
  by_cases hp0 : p = []
  · subst hp0
    go_enter Tryd.func9, Tryd.ntmps9
    go_wp2_with fail
    refine HO.out.mono ?_
    rintro e w1 ⟨rfl, hB1⟩
    have HB3 := Lib.hid (HB2.out.trans (hB1.mono HB2.out.size))
    clear HB2 hB1
    go_wp2_with fail
    go_ret2
    exact ⟨HB3.out.alloc HB3.out.size _, .inl ⟨by decide, rfl⟩⟩
  · have hpl : 0 < p.length := List.length_pos_iff.2 hp0
    have hpe : ((p.length : Int) == 0) = false := by simp; exact hp0
    have HTP : Hid (textP p = catT p) := Lib.hid (if_neg hp0)
    clear hp0
    go_enter Tryd.func9, Tryd.ntmps9
    go_wp2_with fail
    refine HO.out.mono ?_
    rintro e w1 ⟨rfl, hB1⟩
    have hb3 := HB2.out.trans (hB1.mono HB2.out.size)
    have HB3 := Lib.hid (hb3.alloc hb3.size (rgO P M q n))
    clear HB2 hB1 hb3
    go_wp2_with fail
    obtain ⟨w2, hw2⟩ : ∃ w2 : World, w2 = w1.alloc (rgO P M q n) := ⟨_, rfl⟩
    have HW2 := Lib.hid hw2
    have HB4 := Lib.hid (show Below w.heap.size w w2 by rw [hw2]; exact HB3.out)
    clear hw2 HB3
    go_loopw [10, 11, 12, 29] (fun tv _ _ i W => ∃ (k : Nat) (cur : List UInt8), k ≤ p.length ∧ i = .int .i64 k ∧ cur = catT (p.take k) ∧ cur.length ≤ 40000 ∧ Tx w2.heap.size cur tv W ∧ KT w2.heap.size w2 W) (fun _ _ _ i _ => p.length - (intOf i).toNat)
    case atStart => exact ⟨0, [], by omega, rfl, by simp [catT], by simp, by rw [HW2.out]; exact Tx.nil _, by rw [HW2.out]; exact KT.refl _ _⟩
    case round =>
      obtain ⟨k, cur, hk, rfl, hcur, hcl, hT, hK⟩ := hrel
      have hBw : Below w.heap.size w wr := HB4.out.trans (hK.1.mono HB4.out.size)
      have HCUR := Lib.hid hcur
      have HCL := Lib.hid hcl
      have HT := Lib.hid hT
      have HK := Lib.hid hK
      have HBW := Lib.hid hBw
      obtain ⟨UA, UC, rfl⟩ := hT.shape
      clear hcur hT hcl hK
      by_cases hlt : k < p.length
      · obtain ⟨t, ht⟩ : ∃ t, p[k]? = some t := ⟨_, List.getElem?_eq_getElem hlt⟩
        have htx := HX.out t (List.mem_of_getElem? ht)
        have htc := HP.out.co t (List.mem_of_getElem? ht)
        have hq := hf.q_le
        obtain ⟨b, off, u, rfl, g1, g2, g3⟩ := HR.out k ((t.1 : Int), nz t.2) (by simp [ht])
        have k1 := (hBw.cell (World.block_lt_of_cell? w _ g1)).trans g1
        have k2 := (hBw.cell (World.block_lt_of_cell? w _ g2)).trans g2
        obtain ⟨EA, ec, hu, k4, _⟩ := g3
        rw [nz_length, htx.1] at hu
        subst hu
        have htl := termT_length t hn (by omega) htx
        have HTK := Lib.hid (show p.take (k + 1) = p.take k ++ [t] by rw [List.take_add_one, ht]; rfl)
        have HTX := Lib.hid htx
        have HTL := Lib.hid htl
        have HK4 := Lib.hid k4
        have HTC := Lib.hid (show t.1 ≤ 65536 by omega)
        have hBa := below1 wr (.cells #[.int .i64 (t.1 : Int), .slice EA n ec] 53)
        have HTA := Lib.hid (HT.out.below hBa)
        have HKA := Lib.hid (HK.out.trans (KT.of_below hBa HT.out.le))
        have HBLK := Lib.hid (show (wr.alloc (.cells #[.int .i64 (t.1 : Int), .slice EA n ec] 53)).heap[wr.heap.size]? = some (.cells #[.int .i64 (t.1 : Int), .slice EA n ec] 53 (0, 0)) from alloc_at _ _ _ rfl)
        have HEX := Lib.hid (fun W (hW : Below w.heap.size w W) => HK4.out.below hW)
        have HTAB := Lib.hid (fun W (hW : Below w.heap.size w W) => (HL.out.below hW).pow)
        clear g1 g2 k4 ht htx htl htc hBw hBa hq
        by_cases hk0 : k = 0
        · subst hk0
          simp only [Nat.zero_mul, Nat.add_zero] at k1 k2
          go_wp2_with fail
          refine (appT_ok w2.heap.size (cur) _ t n hn HTX.out HTC.out EA ec _ HTA.out (by have h1 := HCL.out; simp; omega) (fun W hW => HEX.out W (HB4.out.trans ((HKA.out.trans hW).1.mono HB4.out.size))) (fun W hW => HTAB.out W (HB4.out.trans ((HKA.out.1.trans hW).mono HB4.out.size)))).mono ?_
          rintro e w5 ⟨v5, rfl, hT5, hK5⟩
          obtain ⟨l5, hl5⟩ : ∃ l5, l5 = cur ++ termT t := ⟨_, rfl⟩
          rw [← hl5] at hT5
          have hc5 : l5 = catT (p.take (0 + 1)) := by rw [hl5, HTK.out, HCUR.out]; simp [catT]
          have HC5 := Lib.hid hc5
          have HT5 := Lib.hid hT5
          have HK5 := Lib.hid (HKA.out.trans hK5)
          have h5l : l5.length ≤ 50000 := by rw [hl5]; have h1 := HCL.out; have h2 := HTL.out; simp; omega
          obtain ⟨ZA, ZC, rfl⟩ := hT5.shape
          clear hT5 hK5 hl5 hc5
          by_cases hbig : 40000 < l5.length
          · go_wp2_with fail
            go_ret2
            exact ⟨HB4.out.trans (HK5.out.1.mono HB4.out.size), .inr ⟨by rw [HTP.out]; have h1 := catT_le p (0 + 1); rw [← HC5.out] at h1; omega, rfl⟩⟩
          · go_wp2_with fail
            go_roundw
            case rel => exact ⟨0 + 1, l5, by omega, by go_num, HC5.out, by omega, HT5.out, HK5.out⟩
            case measure => simp [intOf]; omega
        · have hkp : 0 < k := by omega
          obtain ⟨i0, hi, hz0, hz1, hz2⟩ := info_parts Tryd.info5
          go_wp2_with (at_builtin; refine Lib.wpList_append_own_string _ rfl _ _ 59 9 rfl w2.heap.size 5 i0 Tryd.underlying59 Tryd.underlying9 hi hz0 hz1 hz2 _ cur.length _ rfl HTA.out.own ⟨#[32, 43, 32]⟩ rfl (by have h1 := HCL.out; show cur.length + 3 ≤ maxLen; unfold maxLen; omega) (by have h1 := HCL.out; show cur.length + 3 ≤ _; omega) HTA.out.le ?_; intro v3 w3 hown3 hgrow3 _; obtain ⟨hT3, hK3⟩ := Tx.push (l2 := [32, 43, 32]) HTA.out hown3 hgrow3; have HT3 := Lib.hid hT3; have HK3 := Lib.hid (HKA.out.trans hK3); obtain ⟨hc1, hc2⟩ := kt_term hK3 HBLK.out; clear hown3 hgrow3 hT3 hK3)
          refine (appT_ok w2.heap.size (cur ++ [32, 43, 32]) _ t n hn HTX.out HTC.out EA ec _ HT3.out (by have h1 := HCL.out; simp; omega) (fun W hW => HEX.out W (HB4.out.trans ((HK3.out.trans hW).1.mono HB4.out.size))) (fun W hW => HTAB.out W (HB4.out.trans ((HK3.out.1.trans hW).mono HB4.out.size)))).mono ?_
          rintro e w5 ⟨v5, rfl, hT5, hK5⟩
          obtain ⟨l5, hl5⟩ : ∃ l5, l5 = cur ++ [32, 43, 32] ++ termT t := ⟨_, rfl⟩
          rw [← hl5] at hT5
          have hc5 : l5 = catT (p.take (k + 1)) := by rw [hl5, HTK.out, catT_snoc _ _ (fun h => by have h2 := congrArg List.length h; rw [List.length_take, List.length_nil] at h2; omega), HCUR.out]; simp [sepT]
          have HC5 := Lib.hid hc5
          have HT5 := Lib.hid hT5
          have HK5 := Lib.hid (HK3.out.trans hK5)
          have h5l : l5.length ≤ 50000 := by rw [hl5]; have h1 := HCL.out; have h2 := HTL.out; simp; omega
          obtain ⟨ZA, ZC, rfl⟩ := hT5.shape
          clear hT5 hK5 hl5 hc5
          by_cases hbig : 40000 < l5.length
          · go_wp2_with fail
            go_ret2
            exact ⟨HB4.out.trans (HK5.out.1.mono HB4.out.size), .inr ⟨by rw [HTP.out]; have h1 := catT_le p (k + 1); rw [← HC5.out] at h1; omega, rfl⟩⟩
          · go_wp2_with fail
            go_roundw
            case rel => exact ⟨k + 1, l5, by omega, by go_num, HC5.out, by omega, HT5.out, HK5.out⟩
            case measure => simp [intOf]; omega
      · have hkl : k = p.length := by omega
        subst hkl
        have hcf : cur = catT p := by rw [HCUR.out, List.take_of_length_le (Nat.le_refl _)]
        have hne : cur ≠ [] := fun h => by
          have h2 : (catT p).length ≤ 0 := by rw [← hcf, h]; simp
          have h3 := catT_ne HX.out hpl
          omega
        have hcv := conv_text cur UA UC HT.out hne
        have HCF := Lib.hid hcf
        clear hcf hne hBw
        go_wp2_with fail
        go_ret2
        exact ⟨HBW.out, .inl ⟨by rw [HTP.out, ← HCF.out]; exact HCL.out, (by rw [HTP.out, ← HCF.out]; rfl)⟩⟩
end Go.Proofs.YtflmjdabmnpkjaaDoor
namespace Go.Proofs.YtflmjdabmnpkjaaDoor
set_option linter.unusedVariables false
open Go.RowKit Go.Maps

set_option maxHeartbeats 2000000 in
theorem cmpR_ok (A B : Option Addr) (c1 c2 n : Nat) (ps qs : List Nat) (w : World) (hp : ps.length = n) (hq : qs.length = n) (hn : n ≤ 80) (hr : RdI w A (nz ps)) (hr2 : RdI w B (nz qs)) :
    Calls Tryd.prog 27 #[.slice A n c1, .slice B n c2] w fun e w' => e = .returned (.int .i64 (cmpL ps qs)) ∧ Below w.heap.size w w' := by
  have HR := Lib.hid hr
  have HR2 := Lib.hid hr2
  have HP := Lib.hid hp
  have HQ := Lib.hid hq
  clear hr hr2
  go_enter Tryd.func27, Tryd.ntmps27
  go_wp2_with fail
  go_loopw [5] (fun i wr => ∃ k : Nat, k ≤ n ∧ i = .int .i64 k ∧ cmpL ps qs = cmpL (ps.drop k) (qs.drop k) ∧ Below w.heap.size w wr) (fun i _ => n - (intOf i).toNat)
  case atStart => exact ⟨0, Nat.zero_le _, rfl, rfl, Below.refl _ _⟩
  case round =>
    obtain ⟨k, hk, rfl, hc, hB⟩ := hrel
    by_cases hkn : k < n
    · obtain ⟨x, hx⟩ : ∃ x, ps[k]? = some x := ⟨_, List.getElem?_eq_getElem (by rw [HP.out]; exact hkn)⟩
      obtain ⟨y, hy⟩ : ∃ y, qs[k]? = some y := ⟨_, List.getElem?_eq_getElem (by rw [HQ.out]; exact hkn)⟩
      obtain ⟨a, rfl, g1⟩ := HR.out k _ (nz_at hx)
      obtain ⟨b, rfl, g2⟩ := HR2.out k _ (nz_at hy)
      have k1 := (hB.cell (World.block_lt_of_cell? w _ g1)).trans g1
      have k2 := (hB.cell (World.block_lt_of_cell? w _ g2)).trans g2
      have hs := cmpL_same ps qs (by rw [HP.out, HQ.out]) k (by rw [HP.out]; exact hkn)
      rw [hs, hx, hy] at hc
      simp only [Option.getD_some] at hc
      have HB := Lib.hid hB
      clear hs hx hy g1 g2 hB
      by_cases h1 : x < y
      · rw [if_pos h1] at hc
        have HC := Lib.hid hc
        have hd1 : decide ((x : Int) < (y : Int)) = true := decide_eq_true (by omega)
        clear hc
        go_wp2_with fail
        go_region
        go_wp2_with fail
        go_ret
        exact ⟨by rw [HC.out]; rfl, HB.out.drew⟩
      · by_cases h2 : y < x
        · rw [if_neg h1, if_pos h2] at hc
          have HC := Lib.hid hc
          have hd1 : decide ((x : Int) < (y : Int)) = false := decide_eq_false (by omega)
          have hd2 : decide ((y : Int) < (x : Int)) = true := decide_eq_true (by omega)
          clear hc
          go_wp2_with fail
          go_region
          go_wp2_with fail
          go_region
          go_wp2_with fail
          go_ret
          exact ⟨by rw [HC.out]; rfl, HB.out.drew.drew⟩
        · rw [if_neg h1, if_neg h2] at hc
          have HC := Lib.hid hc
          have hd1 : decide ((x : Int) < (y : Int)) = false := decide_eq_false (by omega)
          have hd2 : decide ((y : Int) < (x : Int)) = false := decide_eq_false (by omega)
          clear hc
          go_wp2_with fail
          go_region
          go_wp2_with fail
          go_region
          go_wp2_with fail
          go_roundw
          case rel => exact ⟨k + 1, by omega, by go_num, HC.out, HB.out.drew.drew⟩
          case measure => simp [intOf]; omega
    · have hc0 : cmpL ps qs = 0 := by
        rw [hc, List.drop_eq_nil_of_le (by have := HP.out; omega), List.drop_eq_nil_of_le (by have := HQ.out; omega)]
        rfl
      have HC := Lib.hid hc0
      have HB := Lib.hid hB
      clear hc hc0 hB
      go_wp2_with fail
      go_ret
      exact ⟨by rw [HC.out]; rfl, HB.out⟩

set_option maxRecDepth 100000 in
set_option maxHeartbeats 4000000 in
theorem same_ok (n : Nat) (hn : n ≤ 80) (A A2 : Option Addr) (c c2 : Nat) (p p' : List Tm) (hx : ∀ t ∈ p, Ex n t.2) (hx' : ∀ t ∈ p', Ex n t.2) (w : World) (hr : RdP w A (tms p)) (hr' : RdP w A2 (tms p')) (hl : p.length ≤ 1000000) (hl2 : p'.length ≤ 1000000) (hc : ∀ t ∈ p, t.1 ≤ 65536) (hc' : ∀ t ∈ p', t.1 ≤ 65536) :
    Calls Tryd.prog 23 #[.slice A p.length c, .slice A2 p'.length c2] w fun e w' => e = .returned (.bool (decide (p = p'))) ∧ Below w.heap.size w w' := by
  by_cases hlen : p.length = p'.length
  · have HL := Lib.hid hlen
    have HR := Lib.hid hr
    have HR2 := Lib.hid hr'
    have HX := Lib.hid hx
    have HX2 := Lib.hid hx'
    have HCC := Lib.hid hc
    have HCC2 := Lib.hid hc'
    rw [← hlen]
    have hll : ((p.length : Int) != (p.length : Int)) = false := by simp
    clear hr hr' hx hx' hlen hl2 hc hc'
    go_enter Tryd.func23, Tryd.ntmps23
    go_wp2_with fail
    go_loopw [5] (fun i wr => ∃ k : Nat, k ≤ p.length ∧ i = .int .i64 k ∧ p.take k = p'.take k ∧ Below w.heap.size w wr) (fun i _ => p.length - (intOf i).toNat)
    case atStart => exact ⟨0, Nat.zero_le _, rfl, by simp, Below.refl _ _⟩
    case round =>
      obtain ⟨k, hk, rfl, htk, hBw⟩ := hrel
      have HTK := Lib.hid htk
      have HBW := Lib.hid hBw
      clear htk
      by_cases hkn : k < p.length
      · obtain ⟨s, hs⟩ : ∃ s, p[k]? = some s := ⟨_, List.getElem?_eq_getElem hkn⟩
        obtain ⟨t, ht⟩ : ∃ t, p'[k]? = some t := ⟨_, List.getElem?_eq_getElem (by rw [← HL.out]; exact hkn)⟩
        have hsx := HX.out s (List.mem_of_getElem? hs)
        have htx := HX2.out t (List.mem_of_getElem? ht)
        have hs1 := HCC.out s (List.mem_of_getElem? hs)
        have ht1 := HCC2.out t (List.mem_of_getElem? ht)
        obtain ⟨b, off, u, rfl, g1, g3, q1⟩ := HR.out k ((s.1 : Int), nz s.2) (by simp [hs])
        obtain ⟨b2, off2, u2, rfl, g2, g4, q2⟩ := HR2.out k ((t.1 : Int), nz t.2) (by simp [ht])
        obtain ⟨SA, sc, e1, r1, -⟩ := q1
        obtain ⟨TA, tc, e2, r2, -⟩ := q2
        rw [nz_length, hsx.1] at e1
        rw [nz_length, htx.1] at e2
        subst e1 e2
        have k1 := (hBw.cell (World.block_lt_of_cell? w _ g1)).trans g1
        have k2 := (hBw.cell (World.block_lt_of_cell? w _ g2)).trans g2
        have k3 := (hBw.cell (World.block_lt_of_cell? w _ g3)).trans g3
        have k4 := (hBw.cell (World.block_lt_of_cell? w _ g4)).trans g4
        have HST := Lib.hid (show s = t ↔ p.take (k + 1) = p'.take (k + 1) by
          rw [List.take_add_one, List.take_add_one, hs, ht, HTK.out]
          simp)
        have HNEQ := Lib.hid (show p = p' → s = t by
          rintro rfl
          rw [hs] at ht
          exact Option.some.inj ht)
        have HCM := Lib.hid (fun W (hW : Below w.heap.size w W) => cmpR_ok SA TA sc tc n s.2 t.2 W hsx.1 htx.1 hn (r1.below hW) (r2.below hW))
        clear g1 g2 g3 g4 r1 r2 hs ht hsx htx
        by_cases hcc : s.1 = t.1
        · have hcb : ((s.1 : Int) != (t.1 : Int)) = false := by rw [hcc]; simp
          have hnn : ((n : Int) != (n : Int)) = false := by simp
          have HCQ := Lib.hid hcc
          clear hcc
          rcases cmpL_range s.2 t.2 with hcm | hcm | hcm
          · have HNE := Lib.hid (show ¬ p = p' from fun h => by
              have h2 := HNEQ.out h
              rw [h2, cmpL_self] at hcm
              omega)
            rw [hcm] at HCM
            clear hcm
            go_wp2_with fail
            refine wp_region_text (S := (fun W => Below w.heap.size w W ∧ W.cell? ⟨b, off + k * 2, none⟩ = some (.int .i64 (s.1 : Int)) ∧ W.cell? ⟨b2, off2 + k * 2, none⟩ = some (.int .i64 (t.1 : Int)) ∧ W.cell? ⟨b, off + k * 2 + 1, none⟩ = some (.slice SA n sc) ∧ W.cell? ⟨b2, off2 + k * 2 + 1, none⟩ = some (.slice TA n tc))) (by kernel_rfl) (by kernel_rfl) ⟨hBw.drew, k1, k2, k3, k4⟩ (b := ?b1) ?text1 ?post1
            case text1 =>
              iterate 12 (refine InText.pure (by rfl) (fun W hw => by (try dsimp only at hw); go_simp; try with_reducible rfl) ?_; simp only [Act.put, List.setIfInBounds_toArray, List.set_cons_zero, List.set_cons_succ])
              iterate 15 (refine InText.pure (by rfl) (fun W hw => by (try dsimp only at hw); go_simp; try with_reducible rfl) ?_; simp only [Act.put, List.setIfInBounds_toArray, List.set_cons_zero, List.set_cons_succ])
              iterate 10 (refine InText.pure (by rfl) (fun W hw => by (try dsimp only at hw); go_simp; try with_reducible rfl) ?_; simp only [Act.put, List.setIfInBounds_toArray, List.set_cons_zero, List.set_cons_succ])
              refine InText.call (.int .i64 (-1)) (by rfl) (fun W hw => ?_) ?_
              · go_simp
                refine (HCM.out W hw.1).mono ?_
                rintro e wx ⟨rfl, hB⟩
                have h5 := hw.1.size
                exact ⟨rfl, hw.1.trans (hB.mono h5), (hB.cell (World.block_lt_of_cell? W _ hw.2.1)).trans hw.2.1, (hB.cell (World.block_lt_of_cell? W _ hw.2.2.1)).trans hw.2.2.1, (hB.cell (World.block_lt_of_cell? W _ hw.2.2.2.1)).trans hw.2.2.2.1, (hB.cell (World.block_lt_of_cell? W _ hw.2.2.2.2)).trans hw.2.2.2.2⟩
              simp only [Act.put, List.setIfInBounds_toArray, List.set_cons_zero, List.set_cons_succ]
              iterate 2 (refine InText.pure (by rfl) (fun W hw => by (try dsimp only at hw); go_simp; try with_reducible rfl) ?_; simp only [Act.put, List.setIfInBounds_toArray, List.set_cons_zero, List.set_cons_succ])
              exact InText.done
            case post1 =>
              intro W hS
              have HS := Lib.hid hS.1
              clear hS k1 k2 k3 k4
              go_wp2_with fail
              go_ret
              exact ⟨ret_bool (decide_eq_false HNE.out).symm, HS.out⟩
          · have HEQ := Lib.hid (show s = t from Prod.ext HCQ.out (cmpL_zero _ _ hcm))
            rw [hcm] at HCM
            clear hcm
            go_wp2_with fail
            refine wp_region_text (S := (fun W => Below w.heap.size w W ∧ W.cell? ⟨b, off + k * 2, none⟩ = some (.int .i64 (s.1 : Int)) ∧ W.cell? ⟨b2, off2 + k * 2, none⟩ = some (.int .i64 (t.1 : Int)) ∧ W.cell? ⟨b, off + k * 2 + 1, none⟩ = some (.slice SA n sc) ∧ W.cell? ⟨b2, off2 + k * 2 + 1, none⟩ = some (.slice TA n tc))) (by kernel_rfl) (by kernel_rfl) ⟨hBw.drew, k1, k2, k3, k4⟩ (b := ?b2) ?text2 ?post2
            case text2 =>
              iterate 12 (refine InText.pure (by rfl) (fun W hw => by (try dsimp only at hw); go_simp; try with_reducible rfl) ?_; simp only [Act.put, List.setIfInBounds_toArray, List.set_cons_zero, List.set_cons_succ])
              iterate 15 (refine InText.pure (by rfl) (fun W hw => by (try dsimp only at hw); go_simp; try with_reducible rfl) ?_; simp only [Act.put, List.setIfInBounds_toArray, List.set_cons_zero, List.set_cons_succ])
              iterate 10 (refine InText.pure (by rfl) (fun W hw => by (try dsimp only at hw); go_simp; try with_reducible rfl) ?_; simp only [Act.put, List.setIfInBounds_toArray, List.set_cons_zero, List.set_cons_succ])
              refine InText.call (.int .i64 (0)) (by rfl) (fun W hw => ?_) ?_
              · go_simp
                refine (HCM.out W hw.1).mono ?_
                rintro e wx ⟨rfl, hB⟩
                have h5 := hw.1.size
                exact ⟨rfl, hw.1.trans (hB.mono h5), (hB.cell (World.block_lt_of_cell? W _ hw.2.1)).trans hw.2.1, (hB.cell (World.block_lt_of_cell? W _ hw.2.2.1)).trans hw.2.2.1, (hB.cell (World.block_lt_of_cell? W _ hw.2.2.2.1)).trans hw.2.2.2.1, (hB.cell (World.block_lt_of_cell? W _ hw.2.2.2.2)).trans hw.2.2.2.2⟩
              simp only [Act.put, List.setIfInBounds_toArray, List.set_cons_zero, List.set_cons_succ]
              iterate 2 (refine InText.pure (by rfl) (fun W hw => by (try dsimp only at hw); go_simp; try with_reducible rfl) ?_; simp only [Act.put, List.setIfInBounds_toArray, List.set_cons_zero, List.set_cons_succ])
              exact InText.done
            case post2 =>
              intro W hS
              have HS := Lib.hid hS.1
              clear hS k1 k2 k3 k4
              go_wp2_with fail
              go_roundw
              case rel => exact ⟨k + 1, by omega, by go_num, HST.out.1 HEQ.out, HS.out⟩
              case measure => simp [intOf]; omega
          · have HNE := Lib.hid (show ¬ p = p' from fun h => by
              have h2 := HNEQ.out h
              rw [h2, cmpL_self] at hcm
              omega)
            rw [hcm] at HCM
            clear hcm
            go_wp2_with fail
            refine wp_region_text (S := (fun W => Below w.heap.size w W ∧ W.cell? ⟨b, off + k * 2, none⟩ = some (.int .i64 (s.1 : Int)) ∧ W.cell? ⟨b2, off2 + k * 2, none⟩ = some (.int .i64 (t.1 : Int)) ∧ W.cell? ⟨b, off + k * 2 + 1, none⟩ = some (.slice SA n sc) ∧ W.cell? ⟨b2, off2 + k * 2 + 1, none⟩ = some (.slice TA n tc))) (by kernel_rfl) (by kernel_rfl) ⟨hBw.drew, k1, k2, k3, k4⟩ (b := ?b3) ?text3 ?post3
            case text3 =>
              iterate 12 (refine InText.pure (by rfl) (fun W hw => by (try dsimp only at hw); go_simp; try with_reducible rfl) ?_; simp only [Act.put, List.setIfInBounds_toArray, List.set_cons_zero, List.set_cons_succ])
              iterate 15 (refine InText.pure (by rfl) (fun W hw => by (try dsimp only at hw); go_simp; try with_reducible rfl) ?_; simp only [Act.put, List.setIfInBounds_toArray, List.set_cons_zero, List.set_cons_succ])
              iterate 10 (refine InText.pure (by rfl) (fun W hw => by (try dsimp only at hw); go_simp; try with_reducible rfl) ?_; simp only [Act.put, List.setIfInBounds_toArray, List.set_cons_zero, List.set_cons_succ])
              refine InText.call (.int .i64 (1)) (by rfl) (fun W hw => ?_) ?_
              · go_simp
                refine (HCM.out W hw.1).mono ?_
                rintro e wx ⟨rfl, hB⟩
                have h5 := hw.1.size
                exact ⟨rfl, hw.1.trans (hB.mono h5), (hB.cell (World.block_lt_of_cell? W _ hw.2.1)).trans hw.2.1, (hB.cell (World.block_lt_of_cell? W _ hw.2.2.1)).trans hw.2.2.1, (hB.cell (World.block_lt_of_cell? W _ hw.2.2.2.1)).trans hw.2.2.2.1, (hB.cell (World.block_lt_of_cell? W _ hw.2.2.2.2)).trans hw.2.2.2.2⟩
              simp only [Act.put, List.setIfInBounds_toArray, List.set_cons_zero, List.set_cons_succ]
              iterate 2 (refine InText.pure (by rfl) (fun W hw => by (try dsimp only at hw); go_simp; try with_reducible rfl) ?_; simp only [Act.put, List.setIfInBounds_toArray, List.set_cons_zero, List.set_cons_succ])
              exact InText.done
            case post3 =>
              intro W hS
              have HS := Lib.hid hS.1
              clear hS k1 k2 k3 k4
              go_wp2_with fail
              go_ret
              exact ⟨ret_bool (decide_eq_false HNE.out).symm, HS.out⟩
        · have hcb : ((s.1 : Int) != (t.1 : Int)) = true := by simp; omega
          have HNE := Lib.hid (show ¬ p = p' from fun h => hcc (by rw [HNEQ.out h]))
          clear hcc
          go_wp2_with fail
          refine wp_region_text (S := (fun W => Below w.heap.size w W ∧ W.cell? ⟨b, off + k * 2, none⟩ = some (.int .i64 (s.1 : Int)) ∧ W.cell? ⟨b2, off2 + k * 2, none⟩ = some (.int .i64 (t.1 : Int)) ∧ W.cell? ⟨b, off + k * 2 + 1, none⟩ = some (.slice SA n sc) ∧ W.cell? ⟨b2, off2 + k * 2 + 1, none⟩ = some (.slice TA n tc))) (by kernel_rfl) (by kernel_rfl) ⟨hBw.drew, k1, k2, k3, k4⟩ (b := ?b4) ?text4 ?post4
          case text4 =>
            iterate 12 (refine InText.pure (by rfl) (fun W hw => by (try dsimp only at hw); go_simp; try with_reducible rfl) ?_; simp only [Act.put, List.setIfInBounds_toArray, List.set_cons_zero, List.set_cons_succ])
            iterate 13 (refine InText.skip (by rfl) ?_; simp only [Act.put, List.setIfInBounds_toArray, List.set_cons_zero, List.set_cons_succ])
            iterate 2 (refine InText.pure (by rfl) (fun W hw => by (try dsimp only at hw); go_simp; try with_reducible rfl) ?_; simp only [Act.put, List.setIfInBounds_toArray, List.set_cons_zero, List.set_cons_succ])
            iterate 12 (refine InText.skip (by rfl) ?_; simp only [Act.put, List.setIfInBounds_toArray, List.set_cons_zero, List.set_cons_succ])
            refine InText.pure (by rfl) (fun W hw => by (try dsimp only at hw); go_simp; try with_reducible rfl) ?_; simp only [Act.put, List.setIfInBounds_toArray, List.set_cons_zero, List.set_cons_succ]
            exact InText.done
          case post4 =>
            intro W hS
            have HS := Lib.hid hS.1
            clear hS k1 k2 k3 k4
            go_wp2_with fail
            go_ret
            exact ⟨ret_bool (decide_eq_false HNE.out).symm, HS.out⟩
      · have hkl : k = p.length := by omega
        have heq : p = p' := by
          have h := HTK.out
          rw [hkl, List.take_of_length_le (Nat.le_refl _), HL.out, List.take_of_length_le (Nat.le_refl _)] at h
          exact h
        have HE := Lib.hid heq
        clear heq hkl hBw
        go_wp2_with fail
        go_ret
        exact ⟨ret_bool (decide_eq_true HE.out).symm, HBW.out⟩
  · have hll : ((p.length : Int) != (p'.length : Int)) = true := by simp; omega
    have HNE : Hid (¬ p = p') := Lib.hid (fun h => hlen (by rw [h]))
    clear hr hr' hx hx' hlen hc hc'
    go_enter Tryd.func23, Tryd.ntmps23
    go_wp2_with fail
    go_ret
    exact ⟨ret_bool (decide_eq_false HNE.out).symm, Below.refl _ _⟩
end Go.Proofs.YtflmjdabmnpkjaaDoor
namespace Go.Proofs.YtflmjdabmnpkjaaDoor
set_option linter.unusedVariables false
open Go.RowKit Go.Maps

theorem al_f2 : Fld 2 1 2 := .inl ⟨rfl, pr_two, by omega, rfl⟩
def alB : List Bool := [false, true, true, true]
def alP : List Tm := [(1, [0, 1]), (1, [1, 0]), (1, [1, 1])]
def alQ : List Tm := [(1, [1])]
theorem al_terms : mlT (mlC 2 1 2 alB) 2 4 = [(0, [0, 0]), (1, [1, 0]), (1, [0, 1]), (1, [1, 1])] := by decide
theorem al_ris : Ris 2 2 alP := ⟨by decide, by decide, by decide⟩
theorem al_ex : ∀ t ∈ alP, Ex 2 t.2 := by
  intro t ht
  simp [alP] at ht
  rcases ht with rfl | rfl | rfl <;> exact ⟨rfl, by decide⟩
theorem al_cfs (e : List Nat) : cfs (addN 2 1) (mlT (mlC 2 1 2 alB) 2 4) e = cfs (addN 2 1) alP e := by
  rw [al_terms]
  by_cases h0 : e = [0, 0]
  · subst h0; decide
  · by_cases h1 : e = [1, 0]
    · subst h1; decide
    · by_cases h2 : e = [0, 1]
      · subst h2; decide
      · by_cases h3 : e = [1, 1]
        · subst h3; decide
        · rw [cfs_none, cfs_none]
          · intro t ht e'
            simp [alP] at ht
            rcases ht with rfl | rfl | rfl
            · exact h2 e'.symm
            · exact h1 e'.symm
            · exact h3 e'.symm
          · intro t ht e'
            simp at ht
            rcases ht with rfl | rfl | rfl | rfl
            · exact h0 e'.symm
            · exact h1 e'.symm
            · exact h2 e'.symm
            · exact h3 e'.symm
theorem al_eq {p : List Tm} (hr : Ris 2 2 p) (hc : ∀ e, cfs (addN 2 1) p e = cfs (addN 2 1) (mlT (mlC 2 1 2 alB) 2 4) e) : p = alP :=
  hr.ext al_f2.fl.toRng al_ris fun e => (hc e).trans (al_cfs e)
theorem itoa_small (i : Nat) (h : i < 10) : Lib.itoa i = [UInt8.ofNat (48 + i)] := by
  rw [Lib.itoa_nonneg, Lib.decDigits, dif_pos h]
theorem al_text : textP alP = [49, 42, 120, 49, 32, 43, 32, 49, 42, 120, 48, 32, 43, 32, 49, 42, 120, 48, 42, 120, 49] := by
  have h0 := itoa_small 0 (by omega)
  have h1 := itoa_small 1 (by omega)
  simp [textP, alP, catT, sepT, termT, expsT, expT]
  simp at h0 h1
  rw [h0, h1]
  decide
theorem al_q {p : List Tm} (hr : Ris 2 1 p) (hc : ∀ e, cfs (addN 2 1) p e = cfs (addN 2 1) (([(1, [3])] : List Tm).map (redT 2)) e) : p = alQ :=
  hr.ext al_f2.fl.toRng (⟨by decide, by decide, by decide⟩ : Ris 2 1 alQ) fun e => (hc e).trans (by rw [show ([(1, [3])] : List Tm).map (redT 2) = alQ by decide])

theorem alB_rd {w : World} {g : Nat} (h : w.heap[g]? = some (.cells #[.bool false, .bool true, .bool true, .bool true] 4 (0, 0))) : RdB w (some ⟨g, 0, none⟩) alB := fun k x hk => by
  refine ⟨_, rfl, ?_⟩
  match k, hk with
  | 0, hk => simp [alB] at hk; subst hk; simp [World.cell?, h, Addr.add]
  | 1, hk => simp [alB] at hk; subst hk; simp [World.cell?, h, Addr.add]
  | 2, hk => simp [alB] at hk; subst hk; simp [World.cell?, h, Addr.add]
  | 3, hk => simp [alB] at hk; subst hk; simp [World.cell?, h, Addr.add]
  | k + 4, hk => simp [alB] at hk
theorem one_rd {w : World} {g h' : Nat} (e : Nat) (h1 : w.cell? ⟨g, 0, none⟩ = some (.int .i64 1)) (h2 : w.cell? ⟨g, 1, none⟩ = some (.slice (some ⟨h', 0, none⟩) 1 1)) (h3 : w.cell? ⟨h', 0, none⟩ = some (.int .i64 (e : Int))) : RdP w (some ⟨g, 0, none⟩) (tms [(1, [e])]) := fun k t hk => by
  match k, hk with
  | 0, hk =>
    simp at hk
    subst hk
    refine ⟨g, 0, _, rfl, h1, h2, some ⟨h', 0, none⟩, 1, by simp [nz], ?_, by simp [nz]⟩
    intro k x hk
    match k, hk with
    | 0, hk =>
      simp [nz] at hk
      subst hk
      exact ⟨_, rfl, h3⟩
    | k + 1, hk => simp [nz] at hk
  | k + 1, hk => simp at hk
theorem alM (w : World) (hL : LayP w) (g : Nat) (h : w.heap[g]? = some (.cells #[.bool false, .bool true, .bool true, .bool true] 4 (0, 0))) :
    Calls Tryd.prog 20 #[.agg #[.int .i64 2, .int .i64 1], .slice (some ⟨g, 0, none⟩) 4 4] w fun e w' => (∃ A c, e = .returned (.tuple #[.slice A 3 c, .int .i64 0]) ∧ RdP w' A (tms alP)) ∧ Below w.heap.size w w' := by
  refine (Multilinear_ok 2 1 2 2 al_f2 (by omega) (some ⟨g, 0, none⟩) 4 alB rfl w hL (alB_rd h)).mono ?_
  rintro e w' ⟨hB, p, h1, h2, h3, h4, h5⟩
  obtain rfl := al_eq h1 h2
  rcases h5 with ⟨_, A, c, rfl, hr⟩ | ⟨h5, _⟩
  · exact ⟨⟨A, c, rfl, hr⟩, hB⟩
  · exact absurd h5 (by decide)
theorem alT (w : World) (hL : LayP w) (A : Option Addr) (c : Nat) (hr : RdP w A (tms alP)) :
    Calls Tryd.prog 9 #[.agg #[.int .i64 2, .int .i64 1], .int .i64 2, .slice A 3 c] w fun e w' => e = .returned (.tuple #[.string ⟨#[49, 42, 120, 49, 32, 43, 32, 49, 42, 120, 48, 32, 43, 32, 49, 42, 120, 48, 42, 120, 49]⟩, .int .i64 0]) ∧ Below w.heap.size w w' := by
  refine (Text_ok 2 1 2 2 al_f2 (by omega) A c alP w hL hr al_ris al_ex (by decide)).mono ?_
  rintro e w' ⟨hB, ⟨_, rfl⟩ | ⟨h, _⟩⟩
  · exact ⟨by rw [al_text], hB⟩
  · rw [al_text] at h; simp at h
theorem alR (w : World) (hL : LayP w) (g h' : Nat) (h1 : w.cell? ⟨g, 0, none⟩ = some (.int .i64 1)) (h2 : w.cell? ⟨g, 1, none⟩ = some (.slice (some ⟨h', 0, none⟩) 1 1)) (h3 : w.cell? ⟨h', 0, none⟩ = some (.int .i64 3)) :
    Calls Tryd.prog 15 #[.agg #[.int .i64 2, .int .i64 1], .int .i64 1, .slice (some ⟨g, 0, none⟩) 1 1] w fun e w' => (∃ A c, e = .returned (.tuple #[.slice A 1 c, .int .i64 0]) ∧ RdP w' A (tms alQ)) ∧ Below w.heap.size w w' := by
  refine (Reduce_ok 2 1 2 1 al_f2 (by omega) (some ⟨g, 0, none⟩) 1 [(1, [3])] w hL.lays (one_rd 3 h1 h2 h3) ⟨by decide, by decide, by decide⟩ (fun t ht => by simp at ht; subst ht; exact ⟨rfl, by decide⟩) (by decide)).mono ?_
  rintro e w' ⟨hB, p, k1, k2, k3, k4, k5⟩
  obtain rfl := al_q k1 k2
  rcases k5 with ⟨_, A, c, rfl, hr⟩ | ⟨k5, _⟩
  · exact ⟨⟨A, c, rfl, hr⟩, hB⟩
  · exact absurd k5 (by decide)
theorem alS (w : World) (A : Option Addr) (c g h' : Nat) (hr : RdP w A (tms alQ)) (h1 : w.cell? ⟨g, 0, none⟩ = some (.int .i64 1)) (h2 : w.cell? ⟨g, 1, none⟩ = some (.slice (some ⟨h', 0, none⟩) 1 1)) (h3 : w.cell? ⟨h', 0, none⟩ = some (.int .i64 1)) :
    Calls Tryd.prog 23 #[.slice A 1 c, .slice (some ⟨g, 0, none⟩) 1 1] w fun e w' => e = .returned (.bool true) ∧ Below w.heap.size w w' := by
  have hx : ∀ t ∈ alQ, Ex 1 t.2 := fun t ht => by simp [alQ] at ht; subst ht; exact ⟨rfl, by decide⟩
  have hc : ∀ t ∈ alQ, t.1 ≤ 65536 := by decide
  exact same_ok 1 (by omega) A (some ⟨g, 0, none⟩) c 1 alQ alQ hx hx w hr (one_rd 1 h1 h2 h3) (by decide) (by decide) hc hc

set_option maxRecDepth 100000 in
set_option maxHeartbeats 4000000 in
theorem alive_ok (w : World) (hL : LayP w) :
    Calls Tryd.prog 7 #[] w fun e w' => e = .returned (.bool true) ∧ Below w.heap.size w w' := by
  have HL := Lib.hid hL
  clear hL
  go_enter Tryd.func7, Tryd.ntmps7
  go_wp2_with fail
  have hb2 := below2 w (.cells #[.int .i64 2, .int .i64 1] 23) (.cells #[.bool false, .bool true, .bool true, .bool true] 4)
  refine (alM _ (HL.out.below hb2) (w.heap.size + 1) (alloc_at _ _ _ (by simp))).mono ?_
  rintro e w1 ⟨⟨A, c, rfl, hr⟩, hB⟩
  have c0 : w1.cell? ⟨w.heap.size, 0, none⟩ = some (.int .i64 2) := (hB.cell (by simp; omega)).trans (fst_cell _ _ _ _ _)
  have c1 : w1.cell? ⟨w.heap.size, 1, none⟩ = some (.int .i64 1) := (hB.cell (by simp; omega)).trans (fst_cell _ _ _ _ _)
  have HB1 := Lib.hid (hb2.trans (hB.mono hb2.size))
  have HR := Lib.hid hr
  clear hb2 hB hr
  go_wp2_with fail
  refine (alT _ (HL.out.below HB1.out) A c HR.out).mono ?_
  rintro e w2 ⟨rfl, hB⟩
  have d0 : w2.cell? ⟨w.heap.size, 0, none⟩ = some (.int .i64 2) := (hB.cell (World.block_lt_of_cell? w1 _ c0)).trans c0
  have d1 : w2.cell? ⟨w.heap.size, 1, none⟩ = some (.int .i64 1) := (hB.cell (World.block_lt_of_cell? w1 _ c1)).trans c1
  have HB2 := Lib.hid (HB1.out.trans (hB.mono HB1.out.size))
  clear hB HB1 HR c0 c1
  go_wp2_with fail
  have hb2 := below2 w2 (.cells #[.int .i64 3] 3) (.cells #[.int .i64 1, .slice (some ⟨w2.heap.size, 0, none⟩) 1 1] 53)
  refine (alR _ (HL.out.below (HB2.out.trans (hb2.mono HB2.out.size))) (w2.heap.size + 1) w2.heap.size (snd_cell _ _ _ _ _) (snd_cell _ _ _ _ _) (fst_cell _ _ _ _ _)).mono ?_
  rintro e w3 ⟨⟨A3, c3, rfl, hr⟩, hB⟩
  have HB3 := Lib.hid (HB2.out.trans ((hb2.trans (hB.mono hb2.size)).mono HB2.out.size))
  have HR := Lib.hid hr
  clear hb2 hB hr HB2 d0 d1
  go_wp2_with fail
  have hb2 := below2 w3 (.cells #[.int .i64 1] 3) (.cells #[.int .i64 1, .slice (some ⟨w3.heap.size, 0, none⟩) 1 1] 53)
  refine (alS _ A3 c3 (w3.heap.size + 1) w3.heap.size (HR.out.below hb2) (snd_cell _ _ _ _ _) (snd_cell _ _ _ _ _) (fst_cell _ _ _ _ _)).mono ?_
  rintro e w4 ⟨rfl, hB⟩
  have HB4 := Lib.hid (HB3.out.trans ((hb2.trans (hB.mono hb2.size)).mono HB3.out.size))
  clear hb2 hB HB3
  go_wp2_with fail
  go_ret
  exact ⟨rfl, HB4.out⟩
end Go.Proofs.YtflmjdabmnpkjaaDoor
namespace Go.Proofs.YtflmjdabmnpkjaaDoor
set_option linter.unusedVariables false
open Go.RowKit Go.Maps

set_option maxHeartbeats 2000000 in
theorem few1_ok (most : Nat) (hm : most ≤ 100000) (g : Nat) (v : Value) (ts : List (Int × List Int)) (w : World) (hc : w.cell? ⟨g, 0, none⟩ = some v) (hv : PolyV w v ts) :
    Calls Tryd.prog 6 #[.int .i64 (most : Int), .slice (some ⟨g, 0, none⟩) 1 1] w fun e w' => (∃ b : Bool, e = .returned (.bool b) ∧ (b = true → ts.length ≤ most)) ∧ Below w.heap.size w w' := by
  obtain ⟨VA, VC, rfl, hr, hl⟩ := hv
  have HR := Lib.hid hr
  have HC := Lib.hid hc
  clear hr
  generalize htl : ts.length = tl at *
  have HTL := Lib.hid htl
  clear htl
  go_enter Tryd.func6, Tryd.ntmps6
  go_wp2_with fail
  go_loopw [5, 6, 7] (fun n i _ W => ∃ (k m : Nat), i = .int .i64 k ∧ n = .int .i64 m ∧ m ≤ 2305843009213693952 ∧ (k = 0 ∧ m = 0 ∨ k = 1 ∧ tl ≤ m) ∧ Below w.heap.size w W) (fun _ i _ _ => 1 - (intOf i).toNat)
  case atStart => exact ⟨0, 0, rfl, rfl, by omega, .inl ⟨rfl, rfl⟩, Below.refl _ _⟩
  case round =>
    obtain ⟨k, m, rfl, rfl, hm2, hk, hB⟩ := hrel
    have k1 := (hB.cell (World.block_lt_of_cell? w _ hc)).trans hc
    have HB := Lib.hid hB
    clear hB hc
    rcases hk with ⟨rfl, rfl⟩ | ⟨rfl, hk⟩
    · obtain ⟨wo, rfl⟩ : ∃ wo : World, wo = wr := ⟨_, rfl⟩
      go_wp2_with fail
      go_loopw [5, 7] (fun n i W => ∃ (k m : Nat), i = .int .i64 k ∧ n = .int .i64 m ∧ k ≤ tl ∧ tl ≤ m ∧ m ≤ 2305843009213693952 ∧ Below w.heap.size w W) (fun _ i _ => tl - (intOf i).toNat)
      case atStart => exact ⟨0, tl, rfl, by go_num, by omega, by omega, by omega, HB.out⟩
      case round =>
        obtain ⟨k, m, rfl, rfl, hk, hm3, hm4, hB⟩ := hrel
        have k2 := (hB.cell (World.block_lt_of_cell? w _ HC.out)).trans HC.out
        have HB := Lib.hid hB
        by_cases h1 : k < tl
        · by_cases h2 : m ≤ most
          · obtain ⟨t, ht⟩ : ∃ t, ts[k]? = some t := ⟨_, List.getElem?_eq_getElem (by rw [HTL.out]; exact h1)⟩
            obtain ⟨b, off, u, rfl, g1, g2, g3⟩ := HR.out k t ht
            obtain ⟨EA, ec, rfl, _, hel⟩ := g3
            have k3 := (HB.out.cell (World.block_lt_of_cell? w _ g2)).trans g2
            have d1 : decide ((k : Int) < (tl : Int)) = true := decide_eq_true (by omega)
            have d2 : decide ((m : Int) ≤ (most : Int)) = true := decide_eq_true (by omega)
            generalize t.2.length = el at *
            clear g1 g2 hB ht
            go_wp2_with fail
            go_roundw
            case rel => exact ⟨k + 1, m + el, by go_num, by go_num, by omega, by omega, by omega, HB.out⟩
            case measure => simp [intOf]; omega
          · have d1 : decide ((k : Int) < (tl : Int)) = true := decide_eq_true (by omega)
            have d2 : decide ((m : Int) ≤ (most : Int)) = false := decide_eq_false (by omega)
            clear hB
            go_wp2_with fail
            go_roundw
            case rel => exact ⟨1, m, by go_num, rfl, hm4, .inr ⟨rfl, hm3⟩, HB.out⟩
            case measure => simp [intOf]
        · have d1 : decide ((k : Int) < (tl : Int)) = false := decide_eq_false (by omega)
          clear hB
          go_wp2_with fail
          go_roundw
          case rel => exact ⟨1, m, by go_num, rfl, hm4, .inr ⟨rfl, hm3⟩, HB.out⟩
          case measure => simp [intOf]
    · go_wp2_with fail
      go_ret
      exact ⟨⟨decide (m ≤ most), ret_bool (by simp), fun h => by have := of_decide_eq_true h; omega⟩, HB.out⟩
end Go.Proofs.YtflmjdabmnpkjaaDoor
namespace Go.Proofs.YtflmjdabmnpkjaaDoor
set_option linter.unusedVariables false
open Go.RowKit Go.Maps

set_option maxHeartbeats 2000000 in
theorem PValid_no (P M n : Int) (hn0 : -9223372036854775808 ≤ n) (hn1 : n ≤ 9223372036854775807) (v : Value) (ts : List (Int × List Int)) (w : World) (hL : Lays w) (hv : PolyV w v ts) (h : ¬ ValidPs P M n [ts]) :
    Calls Tryd.prog 11 #[.agg #[.int .i64 P, .int .i64 M], .int .i64 n, v] w fun e w' => e = .returned (.bool false) ∧ Below w.heap.size w w' := by
  have hB2 := below2 w (.cells #[.int .i64 P, .int .i64 M] 23) (.cells #[v] 25)
  have hO := open_no1 P M n hn0 hn1 (some ⟨w.heap.size + 1, 0, none⟩) 1 1 [ts] rfl (by omega) _ (hL.below hB2) (rdps_one (snd_cell _ _ _ _ _) (hv.below hB2)) h
  have HO := Lib.hid hO
  have HB2 := Lib.hid hB2
  obtain ⟨VA, VC, rfl, -, -⟩ := hv
  generalize ts.length = tl at *
  clear hO hB2 hL h hn0 hn1
  go_enter Tryd.func11, Tryd.ntmps11
  go_wp2_with fail
  refine HO.out.mono ?_
  rintro e w1 ⟨rfl, hB1⟩
  have HB3 := Lib.hid (HB2.out.trans (hB1.mono HB2.out.size))
  clear HB2 hB1
  unfold zeroRing
  go_wp2_with fail
  go_ret
  exact ⟨rfl, HB3.out.alloc HB3.out.size _⟩

set_option maxHeartbeats 2000000 in
theorem PValid_yes (P M q n : Nat) (hf : Fld P M q) (hn : n ≤ 80) (v : Value) (ts : List (Int × List Int)) (w : World) (hL : Lays w) (hv : PolyV w v ts) (h : OkP q n ts) :
    Calls Tryd.prog 11 #[.agg #[.int .i64 (P : Int), .int .i64 (M : Int)], .int .i64 (n : Int), v] w fun e w' => e = .returned (.bool true) ∧ Below w.heap.size w w' := by
  have hB2 := below2 w (.cells #[.int .i64 (P : Int), .int .i64 (M : Int)] 23) (.cells #[v] 25)
  have hO := open_yes1 P M q n hf hn (some ⟨w.heap.size + 1, 0, none⟩) 1 1 [ts] rfl (by omega) _ (hL.below hB2) (rdps_one (snd_cell _ _ _ _ _) (hv.below hB2)) (by simpa using h)
  have HO := Lib.hid hO
  have HB2 := Lib.hid hB2
  obtain ⟨VA, VC, rfl, -, -⟩ := hv
  generalize ts.length = tl at *
  clear hO hB2 hL h
  go_enter Tryd.func11, Tryd.ntmps11
  go_wp2_with fail
  refine HO.out.mono ?_
  rintro e w1 ⟨rfl, hB1⟩
  have HB3 := Lib.hid (HB2.out.trans (hB1.mono HB2.out.size))
  clear HB2 hB1
  go_wp2_with fail
  go_ret
  exact ⟨rfl, HB3.out.alloc HB3.out.size _⟩

/-- The maximum of the sums of exponents, from a start. -/
def degL (d : Int) : List Tm → Int
  | [] => d
  | t :: p => degL (max d (t.2.sum : Nat)) p
theorem degL_snoc (d : Int) (p : List Tm) (t : Tm) : degL d (p ++ [t]) = max (degL d p) (t.2.sum : Nat) := by
  induction p generalizing d with
  | nil => rfl
  | cons s p ih => simp only [List.cons_append, degL]; exact ih _
def degP (p : List Tm) : Int := degL (-1) p
theorem degP_bound {n : Nat} {p : List Tm} (h : ∀ t ∈ p, Ex n t.2) (hn : n ≤ 80) (k : Nat) : -1 ≤ degP (p.take k) ∧ degP (p.take k) ≤ 5242800 := by
  have hs : ∀ e : List Nat, (∀ x ∈ e, x ≤ 65535) → e.sum ≤ 65535 * e.length := by
    intro e
    induction e with
    | nil => simp
    | cons x e ih => intro hx; have h1 := ih (fun y hy => hx y (by simp [hy])); have h2 := hx x (by simp); simp; omega
  have key : ∀ (l : List Tm) (d : Int), (∀ t ∈ l, Ex n t.2) → -1 ≤ d → d ≤ 5242800 → -1 ≤ degL d l ∧ degL d l ≤ 5242800 := by
    intro l
    induction l with
    | nil => intro d _ h1 h2; exact ⟨h1, h2⟩
    | cons t l ih =>
      intro d hx h1 h2
      have hx0 := hx t (by simp)
      have := hs t.2 hx0.2
      rw [hx0.1] at this
      exact ih _ (fun s hs => hx s (by simp [hs])) (by omega) (by omega)
  exact key _ _ (fun t ht => h t (List.mem_of_mem_take ht)) (by omega) (by omega)

set_option maxHeartbeats 2000000 in
theorem Degree_no (P M n : Int) (hn0 : -9223372036854775808 ≤ n) (hn1 : n ≤ 9223372036854775807) (v : Value) (ts : List (Int × List Int)) (w : World) (hL : Lays w) (hv : PolyV w v ts) (h : ¬ ValidPs P M n [ts]) :
    Calls Tryd.prog 8 #[.agg #[.int .i64 P, .int .i64 M], .int .i64 n, v] w fun e w' => e = .returned (.tuple #[.int .i64 0, .int .i64 1]) ∧ Below w.heap.size w w' := by
  have hB2 := below2 w (.cells #[.int .i64 P, .int .i64 M] 23) (.cells #[v] 25)
  have hO := open_no1 P M n hn0 hn1 (some ⟨w.heap.size + 1, 0, none⟩) 1 1 [ts] rfl (by omega) _ (hL.below hB2) (rdps_one (snd_cell _ _ _ _ _) (hv.below hB2)) h
  have HO := Lib.hid hO
  have HB2 := Lib.hid hB2
  obtain ⟨VA, VC, rfl, -, -⟩ := hv
  generalize ts.length = tl at *
  clear hO hB2 hL h hn0 hn1
  go_enter Tryd.func8, Tryd.ntmps8
  go_wp2_with fail
  refine HO.out.mono ?_
  rintro e w1 ⟨rfl, hB1⟩
  have HB3 := Lib.hid (HB2.out.trans (hB1.mono HB2.out.size))
  clear HB2 hB1
  unfold zeroRing
  go_wp2_with fail
  go_ret2
  exact ⟨rfl, HB3.out.alloc HB3.out.size _⟩

theorem sum_take_succ {e : List Nat} {k x : Nat} (h : e[k]? = some x) : (e.take (k + 1)).sum = (e.take k).sum + x := by
  rw [List.take_add_one, h]; simp
theorem sum_take_le {n : Nat} {e : List Nat} (h : Ex n e) (k : Nat) : (e.take k).sum ≤ 65535 * k := by
  induction k with
  | zero => simp
  | succ k ih =>
    cases hk : e[k]? with
    | none =>
      rw [List.take_add_one, hk]; simp; omega
    | some x =>
      rw [sum_take_succ hk]
      have := h.2 x (List.mem_of_getElem? hk)
      omega

set_option maxHeartbeats 4000000 in
theorem Degree_ok (P M q n : Nat) (hf : Fld P M q) (hn : n ≤ 80) (VA : Option Addr) (VC : Nat) (p : List Tm) (w : World) (hL : Lays w) (hr : RdP w VA (tms p)) (hp : Ris q n p) (hx : ∀ t ∈ p, Ex n t.2) (hlen : p.length ≤ 20000) :
    Calls Tryd.prog 8 #[.agg #[.int .i64 (P : Int), .int .i64 (M : Int)], .int .i64 (n : Int), .slice VA p.length VC] w fun e w' => e = .returned (.tuple #[.int .i64 (degP p), .int .i64 0]) ∧ Below w.heap.size w w' := by
  have hB2 := below2 w (.cells #[.int .i64 (P : Int), .int .i64 (M : Int)] 23) (.cells #[.slice VA p.length VC] 25)
  have hv : PolyV w (.slice VA p.length VC) (tms p) := ⟨VA, VC, by simp, hr, by simp; omega⟩
  have hO := open_yes1 P M q n hf hn (some ⟨w.heap.size + 1, 0, none⟩) 1 1 [tms p] rfl (by omega) _ (hL.below hB2) (rdps_one (snd_cell _ _ _ _ _) (hv.below hB2)) (fun x hx' => by
    simp at hx'
    subst hx'
    exact ⟨by simpa using hlen, p, rfl, hp, hx⟩)
  have HO := Lib.hid hO
  have HB2 := Lib.hid hB2
  have HR := Lib.hid hr
  have HX := Lib.hid hx
  have HDB := Lib.hid (degP_bound hx hn)
  clear hO hB2 hL hp hx hr hv
  go_enter Tryd.func8, Tryd.ntmps8
  go_wp2_with fail
  refine HO.out.mono ?_
  rintro e w1 ⟨rfl, hB1⟩
  have hb3 := HB2.out.trans (hB1.mono HB2.out.size)
  have HB3 := Lib.hid (hb3.alloc hb3.size (rgO P M q n))
  clear HB2 hB1 hb3 HO
  go_wp2_with fail
  go_loopw [10, 12, 13, 15, 29] (fun d _ _ _ i W => ∃ k : Nat, k ≤ p.length ∧ i = .int .i64 k ∧ d = .int .i64 (degP (p.take k)) ∧ Below w.heap.size w W) (fun _ _ _ _ i _ => p.length - (intOf i).toNat)
  case atStart => exact ⟨0, by omega, rfl, by simp [degP, degL], HB3.out⟩
  case round =>
    clear HB3
    obtain ⟨k, hk, rfl, rfl, hBw⟩ := hrel
    have HBW := Lib.hid hBw
    have hdb := HDB.out k
    by_cases hlt : k < p.length
    · obtain ⟨t, ht⟩ : ∃ t, p[k]? = some t := ⟨_, List.getElem?_eq_getElem hlt⟩
      obtain ⟨b, off, u, rfl, g1, g2, g3⟩ := HR.out k ((t.1 : Int), nz t.2) (by simp [ht])
      have k1 := (hBw.cell (World.block_lt_of_cell? w _ g1)).trans g1
      have k2 := (hBw.cell (World.block_lt_of_cell? w _ g2)).trans g2
      have htx := HX.out t (List.mem_of_getElem? ht)
      obtain ⟨EA, ec, rfl, hri, _⟩ := g3
      rw [nz_length, htx.1] at k2
      have HRI := Lib.hid hri
      have HTX := Lib.hid htx
      have HDS : Hid (degP (p.take (k + 1)) = max (degP (p.take k)) (t.2.sum : Nat)) := Lib.hid (by
        rw [show p.take (k + 1) = p.take k ++ [t] by rw [List.take_add_one, ht]; rfl]
        exact degL_snoc _ _ _)
      have hdb2 := HDB.out (k + 1)
      rw [HDS.out] at hdb2
      generalize degP (p.take k) = dk at *
      have hb1 := below1 wr (.cells #[.int .i64 (t.1 : Int), .slice EA n ec] 53)
      have HBA := Lib.hid (hBw.trans (hb1.mono hBw.size))
      clear g1 g2 hri htx ht hBw hb1
      go_wp2_with fail
      go_loopw [13, 15, 36] (fun sv _ jv W => ∃ j : Nat, j ≤ n ∧ jv = .int .i64 j ∧ sv = .int .i64 ((t.2.take j).sum : Nat) ∧ Below w.heap.size w W) (fun _ _ jv _ => n - (intOf jv).toNat)
      case atStart => exact ⟨0, by omega, rfl, by simp, HBA.out⟩
      case round =>
        clear HBA
        obtain ⟨j, hj, rfl, rfl, hBw⟩ := hrel
        have HBX := Lib.hid hBw
        have hsl := sum_take_le HTX.out j
        by_cases hjn : j < n
        · obtain ⟨x, hx⟩ : ∃ x, t.2[j]? = some x := ⟨_, List.getElem?_eq_getElem (by rw [HTX.out.1]; exact hjn)⟩
          obtain ⟨a, rfl, g3⟩ := HRI.out j _ (nz_at hx)
          have k3 := (hBw.cell (World.block_lt_of_cell? w _ g3)).trans g3
          have HSX := Lib.hid (sum_take_succ hx)
          have hx65 := HTX.out.2 x (List.mem_of_getElem? hx)
          generalize (t.2.take j).sum = sj at *
          clear g3 hx hBw k1 k2
          go_wp2_with fail
          go_roundw
          case rel => exact ⟨j + 1, by omega, by go_num, by rw [HSX.out]; go_num, HBX.out⟩
          case measure => simp [intOf]; omega
        · have hjj : j = n := by omega
          rw [hjj, List.take_of_length_le (Nat.le_of_eq HTX.out.1)] at hsl ⊢
          generalize t.2.sum = sj at *
          clear hBw k1 k2 hjj
          go_wp2_with fail
          go_roundw
          case rel => exact ⟨k + 1, by omega, by go_num, by rw [HDS.out], HBX.out⟩
          case measure => simp [intOf]; omega
    · have hkl : k = p.length := by omega
      rw [hkl, List.take_of_length_le (Nat.le_refl _)] at hdb ⊢
      clear hBw hkl
      go_wp2_with fail
      go_ret2
      exact ⟨rfl, HBW.out⟩
end Go.Proofs.YtflmjdabmnpkjaaDoor
