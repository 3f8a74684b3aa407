/-
  Contract of Text of package poly.
-/
import Derived.Test.YtiiopdomlepkmaaDoorPqo
namespace Go.Proofs.YtiiopdomlepkmaaDoor
set_option linter.unusedVariables false
open Go.RowKit Go.Maps

def sepT (t : Tm) : List UInt8 := [32, 43, 32] ++ termT t
def catT : List Tm → List UInt8
  | [] => []
  | t :: ts => termT t ++ ts.flatMap sepT
def textP (p : List Tm) : List UInt8 := if p = [] then [48] else catT p
theorem catT_snoc (ts : List Tm) (t : Tm) (h : ts ≠ []) : catT (ts ++ [t]) = catT ts ++ sepT t := by
  cases ts with
  | nil => exact absurd rfl h
  | cons s ts => simp [catT, List.flatMap_append]
theorem catT_le (p : List Tm) (k : Nat) : (catT (p.take k)).length ≤ (catT p).length := by
  cases p with
  | nil => simp
  | cons t ts =>
    cases k with
    | zero => simp [catT]
    | succ k =>
      simp only [List.take_succ_cons, catT, List.length_append]
      have : (ts.flatMap sepT).length = ((ts.take k).flatMap sepT).length + ((ts.drop k).flatMap sepT).length := by
        rw [← List.length_append, ← List.flatMap_append, List.take_append_drop]
      omega
theorem expsT_length (e : List Nat) : ∀ k, k + e.length ≤ 1000 → (∀ x ∈ e, x ≤ 65535) → (expsT k e).length ≤ 45 * e.length := by
  induction e with
  | nil => intro k _ _; simp [expsT]
  | cons x e ih =>
    intro k hk hx
    have h1 := expT_length k x (by simp at hk; omega) (hx x (by simp))
    have h2 := ih (k + 1) (by simp at hk; omega) (fun y hy => hx y (by simp [hy]))
    simp [expsT]
    omega
theorem termT_length {n : Nat} (t : Tm) (hn : n ≤ 80) (ht : t.1 ≤ 65536) (he : Ex n t.2) : (termT t).length ≤ 3700 := by
  have h1 := itoa_le t.1 (by omega)
  have h2 := expsT_length t.2 0 (by rw [he.1]; omega) he.2
  rw [he.1] at h2
  unfold termT
  rw [List.length_append]
  omega

theorem kt_term {B g : Nat} {a b : Value} {w w' : World} (hK : KT B w w') (h : w.heap[g]? = some (.cells #[a, b] 65 (0, 0))) : w'.cell? ⟨g, 0, none⟩ = some a ∧ w'.cell? ⟨g, 1, none⟩ = some b := by
  have h2 := hK.2 _ _ h (by simp) (fun c fz e => by simp at e)
  constructor <;> simp [World.cell?, h2]
theorem itoa_pos (i : Nat) : 0 < (Lib.itoa i).length := by
  rw [Lib.itoa_nonneg, Lib.decDigits_length]
  unfold Lib.nDigits
  split <;> omega
theorem catT_ne {n : Nat} {p : List Tm} (hx : ∀ t ∈ p, Ex n t.2) (h : 0 < p.length) : 0 < (catT p).length := by
  cases p with
  | nil => simp at h
  | cons t ts =>
    have := itoa_pos t.1
    simp [catT, termT]
    omega
theorem conv_text (l : List UInt8) (A : Option Addr) (c : Nat) {B : Nat} {W : World} (h : Tx B l (.slice A l.length c) W) (hl : l ≠ []) : (convert 71 9 (.slice A l.length c)).run Tryd.prog W = .ok (.string ⟨l.toArray⟩) W := by
  rcases h.own.2 with ⟨hv, h0⟩ | ⟨g, cap, cur, hv, _⟩
  · exfalso
    simp at h0
    exact hl h0
  · simp only [Value.slice.injEq] at hv
    obtain ⟨rfl, _, rfl⟩ := hv
    refine run_convert_bytes_back W 71 9 5 ⟨g, 0, none⟩ c l Tryd.underlying71 Tryd.underlying5 Tryd.underlying9 fun j hj => ?_
    have hc := h.own.cells (g := g) rfl j (.int .u8 ((l[j] : UInt8).toNat : Int)) (by simp [Lib.byteCells, hj])
    exact hc

set_option maxHeartbeats 2000000 in
theorem Text_no (P M n : Int) (hn0 : -9223372036854775808 ≤ n) (hn1 : n ≤ 9223372036854775807) (v : Value) (ts : List (Int × List Int)) (w : World) (hL : Lays w) (hv : PolyV w v ts) (h : ¬ ValidPs P M n [ts]) :
    Calls Tryd.prog 12 #[.agg #[.int .i64 P, .int .i64 M], .int .i64 n, v] w fun e w' => e = .returned (.tuple #[.string ⟨#[]⟩, .int .i64 1]) ∧ Below w.heap.size w w' := by
  have hB2 := below2 w (.cells #[.int .i64 P, .int .i64 M] 23) (.cells #[v] 25)
  have hO := open_no1 P M n hn0 hn1 (some ⟨w.heap.size + 1, 0, none⟩) 1 1 [ts] rfl (by omega) _ (hL.below hB2) (rdps_one (snd_cell _ _ _ _ _) (hv.below hB2)) h
  have HO := Lib.hid hO
  have HB2 := Lib.hid hB2
  obtain ⟨VA, VC, rfl, -, -⟩ := hv
  generalize ts.length = tl at *
  clear hO hB2 hL h hn0 hn1
  go_enter Tryd.func12, Tryd.ntmps12
  go_wp2_with fail
  refine HO.out.mono ?_
  rintro e w1 ⟨rfl, hB1⟩
  have HB3 := Lib.hid (HB2.out.trans (hB1.mono HB2.out.size))
  clear HB2 hB1
  unfold zeroRing
  go_wp2_with fail
  go_ret2
  exact ⟨rfl, HB3.out.alloc HB3.out.size _⟩

def TextIs (p : List Tm) (w : World) (r : Ending) (w' : World) : Prop :=
  Below w.heap.size w w' ∧ (((textP p).length ≤ 40000 ∧ r = .returned (.tuple #[.string ⟨(textP p).toArray⟩, .int .i64 0])) ∨ (40000 < (textP p).length ∧ r = .returned (.tuple #[.string ⟨#[]⟩, .int .i64 5])))

set_option maxRecDepth 100000 in
set_option maxHeartbeats 4000000 in
theorem Text_ok (P M q n : Nat) (hf : Fld P M q) (hn : n ≤ 80) (VA : Option Addr) (VC : Nat) (p : List Tm) (w : World) (hL : LayP w) (hr : RdP w VA (tms p)) (hp : Ris q n p) (hx : ∀ t ∈ p, Ex n t.2) (hlen : p.length ≤ 20000) :
    Calls Tryd.prog 12 #[.agg #[.int .i64 (P : Int), .int .i64 (M : Int)], .int .i64 (n : Int), .slice VA p.length VC] w (TextIs p w) := by
  have hB2 := below2 w (.cells #[.int .i64 (P : Int), .int .i64 (M : Int)] 23) (.cells #[.slice VA p.length VC] 25)
  have hv : PolyV w (.slice VA p.length VC) (tms p) := ⟨VA, VC, by simp, hr, by simp; omega⟩
  have hO := open_yes1 P M q n hf hn (some ⟨w.heap.size + 1, 0, none⟩) 1 1 [tms p] rfl (by omega) _ (hL.lays.below hB2) (rdps_one (snd_cell _ _ _ _ _) (hv.below hB2)) (fun x hx' => by
    simp at hx'
    subst hx'
    exact ⟨by simpa using hlen, p, rfl, hp, hx⟩)
  have HO := Lib.hid hO
  have HB2 := Lib.hid hB2
  have HL := Lib.hid hL
  have HR := Lib.hid hr
  have HP := Lib.hid hp
  have HX := Lib.hid hx
  clear hO hB2 hL hp hx hr hv
  by_cases hp0 : p = []
  · subst hp0
    go_enter Tryd.func12, Tryd.ntmps12
    go_wp2_with fail
    refine HO.out.mono ?_
    rintro e w1 ⟨rfl, hB1⟩
    have HB3 := Lib.hid (HB2.out.trans (hB1.mono HB2.out.size))
    clear HB2 hB1
    go_wp2_with fail
    go_ret2
    exact ⟨HB3.out.alloc HB3.out.size _, .inl ⟨by decide, rfl⟩⟩
  · have hpl : 0 < p.length := List.length_pos_iff.2 hp0
    have hpe : ((p.length : Int) == 0) = false := by simp; exact hp0
    have HTP : Hid (textP p = catT p) := Lib.hid (if_neg hp0)
    clear hp0
    go_enter Tryd.func12, Tryd.ntmps12
    go_wp2_with fail
    refine HO.out.mono ?_
    rintro e w1 ⟨rfl, hB1⟩
    have hb3 := HB2.out.trans (hB1.mono HB2.out.size)
    have HB3 := Lib.hid (hb3.alloc hb3.size (rgO P M q n))
    clear HB2 hB1 hb3
    go_wp2_with fail
    obtain ⟨w2, hw2⟩ : ∃ w2 : World, w2 = w1.alloc (rgO P M q n) := ⟨_, rfl⟩
    have HW2 := Lib.hid hw2
    have HB4 := Lib.hid (show Below w.heap.size w w2 by rw [hw2]; exact HB3.out)
    clear hw2 HB3
    go_loopw [10, 11, 12, 29] (fun tv _ _ i W => ∃ (k : Nat) (cur : List UInt8), k ≤ p.length ∧ i = .int .i64 k ∧ cur = catT (p.take k) ∧ cur.length ≤ 40000 ∧ Tx w2.heap.size cur tv W ∧ KT w2.heap.size w2 W) (fun _ _ _ i _ => p.length - (intOf i).toNat)
    case atStart => exact ⟨0, [], by omega, rfl, by simp [catT], by simp, by rw [HW2.out]; exact Tx.nil _, by rw [HW2.out]; exact KT.refl _ _⟩
    case round =>
      obtain ⟨k, cur, hk, rfl, hcur, hcl, hT, hK⟩ := hrel
      have hBw : Below w.heap.size w wr := HB4.out.trans (hK.1.mono HB4.out.size)
      have HCUR := Lib.hid hcur
      have HCL := Lib.hid hcl
      have HT := Lib.hid hT
      have HK := Lib.hid hK
      have HBW := Lib.hid hBw
      obtain ⟨UA, UC, rfl⟩ := hT.shape
      clear hcur hT hcl hK
      by_cases hlt : k < p.length
      · obtain ⟨t, ht⟩ : ∃ t, p[k]? = some t := ⟨_, List.getElem?_eq_getElem hlt⟩
        have htx := HX.out t (List.mem_of_getElem? ht)
        have htc := HP.out.co t (List.mem_of_getElem? ht)
        have hq := hf.q_le
        obtain ⟨b, off, u, rfl, g1, g2, g3⟩ := HR.out k ((t.1 : Int), nz t.2) (by simp [ht])
        have k1 := (hBw.cell (World.block_lt_of_cell? w _ g1)).trans g1
        have k2 := (hBw.cell (World.block_lt_of_cell? w _ g2)).trans g2
        obtain ⟨EA, ec, hu, k4, _⟩ := g3
        rw [nz_length, htx.1] at hu
        subst hu
        have htl := termT_length t hn (by omega) htx
        have HTK := Lib.hid (show p.take (k + 1) = p.take k ++ [t] by rw [List.take_add_one, ht]; rfl)
        have HTX := Lib.hid htx
        have HTL := Lib.hid htl
        have HK4 := Lib.hid k4
        have HTC := Lib.hid (show t.1 ≤ 65536 by omega)
        have hBa := below1 wr (.cells #[.int .i64 (t.1 : Int), .slice EA n ec] 65)
        have HTA := Lib.hid (HT.out.below hBa)
        have HKA := Lib.hid (HK.out.trans (KT.of_below hBa HT.out.le))
        have HBLK := Lib.hid (show (wr.alloc (.cells #[.int .i64 (t.1 : Int), .slice EA n ec] 65)).heap[wr.heap.size]? = some (.cells #[.int .i64 (t.1 : Int), .slice EA n ec] 65 (0, 0)) from alloc_at _ _ _ rfl)
        have HEX := Lib.hid (fun W (hW : Below w.heap.size w W) => HK4.out.below hW)
        have HTAB := Lib.hid (fun W (hW : Below w.heap.size w W) => (HL.out.below hW).pow)
        clear g1 g2 k4 ht htx htl htc hBw hBa hq
        by_cases hk0 : k = 0
        · subst hk0
          simp only [Nat.zero_mul, Nat.add_zero] at k1 k2
          go_wp2_with fail
          refine (appT_ok w2.heap.size (cur) _ t n hn HTX.out HTC.out EA ec _ HTA.out (by have h1 := HCL.out; simp; omega) (fun W hW => HEX.out W (HB4.out.trans ((HKA.out.trans hW).1.mono HB4.out.size))) (fun W hW => HTAB.out W (HB4.out.trans ((HKA.out.1.trans hW).mono HB4.out.size)))).mono ?_
          rintro e w5 ⟨v5, rfl, hT5, hK5⟩
          obtain ⟨l5, hl5⟩ : ∃ l5, l5 = cur ++ termT t := ⟨_, rfl⟩
          rw [← hl5] at hT5
          have hc5 : l5 = catT (p.take (0 + 1)) := by rw [hl5, HTK.out, HCUR.out]; simp [catT]
          have HC5 := Lib.hid hc5
          have HT5 := Lib.hid hT5
          have HK5 := Lib.hid (HKA.out.trans hK5)
          have h5l : l5.length ≤ 50000 := by rw [hl5]; have h1 := HCL.out; have h2 := HTL.out; simp; omega
          obtain ⟨ZA, ZC, rfl⟩ := hT5.shape
          clear hT5 hK5 hl5 hc5
          by_cases hbig : 40000 < l5.length
          · go_wp2_with fail
            go_ret2
            exact ⟨HB4.out.trans (HK5.out.1.mono HB4.out.size), .inr ⟨by rw [HTP.out]; have h1 := catT_le p (0 + 1); rw [← HC5.out] at h1; omega, rfl⟩⟩
          · go_wp2_with fail
            go_roundw
            case rel => exact ⟨0 + 1, l5, by omega, by go_num, HC5.out, by omega, HT5.out, HK5.out⟩
            case measure => simp [intOf]; omega
        · have hkp : 0 < k := by omega
          obtain ⟨i0, hi, hz0, hz1, hz2⟩ := info_parts Tryd.info5
          go_wp2_with (at_builtin; refine Lib.wpList_append_own_string _ rfl _ _ 71 9 rfl w2.heap.size 5 i0 Tryd.underlying71 Tryd.underlying9 hi hz0 hz1 hz2 _ cur.length _ rfl HTA.out.own ⟨#[32, 43, 32]⟩ rfl (by have h1 := HCL.out; show cur.length + 3 ≤ maxLen; unfold maxLen; omega) (by have h1 := HCL.out; show cur.length + 3 ≤ _; omega) HTA.out.le ?_; intro v3 w3 hown3 hgrow3 _; obtain ⟨hT3, hK3⟩ := Tx.push (l2 := [32, 43, 32]) HTA.out hown3 hgrow3; have HT3 := Lib.hid hT3; have HK3 := Lib.hid (HKA.out.trans hK3); obtain ⟨hc1, hc2⟩ := kt_term hK3 HBLK.out; clear hown3 hgrow3 hT3 hK3)
          refine (appT_ok w2.heap.size (cur ++ [32, 43, 32]) _ t n hn HTX.out HTC.out EA ec _ HT3.out (by have h1 := HCL.out; simp; omega) (fun W hW => HEX.out W (HB4.out.trans ((HK3.out.trans hW).1.mono HB4.out.size))) (fun W hW => HTAB.out W (HB4.out.trans ((HK3.out.1.trans hW).mono HB4.out.size)))).mono ?_
          rintro e w5 ⟨v5, rfl, hT5, hK5⟩
          obtain ⟨l5, hl5⟩ : ∃ l5, l5 = cur ++ [32, 43, 32] ++ termT t := ⟨_, rfl⟩
          rw [← hl5] at hT5
          have hc5 : l5 = catT (p.take (k + 1)) := by rw [hl5, HTK.out, catT_snoc _ _ (fun h => by have h2 := congrArg List.length h; rw [List.length_take, List.length_nil] at h2; omega), HCUR.out]; simp [sepT]
          have HC5 := Lib.hid hc5
          have HT5 := Lib.hid hT5
          have HK5 := Lib.hid (HK3.out.trans hK5)
          have h5l : l5.length ≤ 50000 := by rw [hl5]; have h1 := HCL.out; have h2 := HTL.out; simp; omega
          obtain ⟨ZA, ZC, rfl⟩ := hT5.shape
          clear hT5 hK5 hl5 hc5
          by_cases hbig : 40000 < l5.length
          · go_wp2_with fail
            go_ret2
            exact ⟨HB4.out.trans (HK5.out.1.mono HB4.out.size), .inr ⟨by rw [HTP.out]; have h1 := catT_le p (k + 1); rw [← HC5.out] at h1; omega, rfl⟩⟩
          · go_wp2_with fail
            go_roundw
            case rel => exact ⟨k + 1, l5, by omega, by go_num, HC5.out, by omega, HT5.out, HK5.out⟩
            case measure => simp [intOf]; omega
      · have hkl : k = p.length := by omega
        subst hkl
        have hcf : cur = catT p := by rw [HCUR.out, List.take_of_length_le (Nat.le_refl _)]
        have hne : cur ≠ [] := fun h => by
          have h2 : (catT p).length ≤ 0 := by rw [← hcf, h]; simp
          have h3 := catT_ne HX.out hpl
          omega
        have hcv := conv_text cur UA UC HT.out hne
        have HCF := Lib.hid hcf
        clear hcf hne hBw
        go_wp2_with fail
        go_ret2
        exact ⟨HBW.out, .inl ⟨by rw [HTP.out, ← HCF.out]; exact HCL.out, (by rw [HTP.out, ← HCF.out]; rfl)⟩⟩
end Go.Proofs.YtiiopdomlepkmaaDoor
