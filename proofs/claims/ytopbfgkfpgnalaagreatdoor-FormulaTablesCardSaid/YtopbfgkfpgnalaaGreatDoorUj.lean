/-
  Joined from Pqu, Pqv: see there.
-/
import Derived.Test.YtopbfgkfpgnalaaGreatDoorUi
import Derived.Deep.AppendLies
import Derived.Deep.RegionLaw
import Derived.WalkSmall
namespace Go.Proofs.YtopbfgkfpgnalaaGreatDoor
set_option linter.unusedVariables false
open Go.RowKit Go.Maps

end Go.Proofs.YtopbfgkfpgnalaaGreatDoor
namespace Go.Proofs.YtopbfgkfpgnalaaGreatDoor
set_option linter.unusedVariables false
open Go.RowKit Go.Maps

theorem itoa_ok (i : Nat) (hi : i ≤ 1000000) (w : World) (htab : Lib.TabIs Tryz.prog w "internal/strconv.uint64pow10" .u64 Lib.pow10Tab) :
    Calls Tryz.prog 119 #[.int .i64 (i : Int)] w fun e w' => e = .returned (.string ⟨(Lib.itoa i).toArray⟩) ∧ Below w.heap.size w w' := by
  refine (Any.strconv_Itoa Tryz.itoaL (i : Int) (by omega) (by omega) w htab).mono ?_
  rintro e w' ⟨rfl, k, os, rfl⟩
  refine ⟨rfl, rfl, rfl, rfl, by simp [Go.Sort.grow], fun b hb => ?_⟩
  simp [Go.Sort.grow, Array.getElem?_append, hb]

theorem step_append_str {P : Program} {w : World} {ops : Array Oper} {o : Oper} {a : Act} {K : Act → World → Prop} {Q : Exit → Act → World → Prop} {E : Prop} (hgd : o.guard = none) (sl x : Operand) (t u : TypeId)
    (ho : o.op = .call { callee := .builtin .append, args := #[sl, x], argTypes := #[t, u] })
    (base : Nat) (e : TypeId) (i : TypeInfo) (ht : P.underlying t = some (.slice e)) (hu : P.underlying u = some .string) (hi : P.info? e = some i) (hz : i.zero = some (.int .u8 0))
    (hsize : i.size = 1) (hby : i.bytes = 1)
    (v : Value) (n : Nat) (xs : List Value) (hs : a.eval sl = v) (hown : w.ownsRow base e 1 v n xs) (s : ByteArray) (hx : a.eval x = .string s)
    (h63 : n + s.size ≤ maxLen) (hbytes : n + s.size ≤ 140737488355328) (hbase : base ≤ w.heap.size)
    (h : ∀ v' w', w'.ownsRow base e 1 v' (n + s.size) (xs ++ Lib.strCells s) → w.grownBy w' v.ownBlock → K (a.put o.dst v') w') :
    if Region.wanted o (yielded ops a.tmps) = true then Oper.wp P o a w K Q else E := by
  have hw : Region.wanted o (yielded ops a.tmps) = true := by simp [Region.wanted, hgd]
  rw [if_pos hw]
  obtain ⟨v', w', hr, h2, h3, h4⟩ := Lib.run_append_own_string (P := P) w base t u o.type e i ht hu hi hz hsize hby v n xs hown s h63 hbytes hbase
  unfold Oper.wp execOp
  simp only [ho, resolve, invoke, builtin, Sem.run_bind, Sem.run_pure, Result.andThen_ok, List.map_toArray, List.map_cons, List.map_nil, hs, hx, hr]
  exact h v' w' h2 h3

theorem tk_below {B : Nat} {l : List UInt8} {v : Value} {w0 w w' : World} (h : Tx B l v w ∧ KT B w0 w) (hB : Below w.heap.size w w') : Tx B l v w' ∧ KT B w0 w' :=
  ⟨h.1.below hB, h.2.trans (KT.of_below hB h.1.le)⟩
theorem Tx.push1g {B : Nat} {l : List UInt8} {c : UInt8} {v v2 : Value} {w0 w w2 : World} (hK : KT B w0 w) (h : Tx B l v w) (hown : w2.ownsRow B 5 1 v2 (l.length + 1) (Lib.byteCells l ++ [.int .u8 (c.toNat : Int)])) (hg : w.grownBy w2 v.ownBlock) : Tx B (l ++ [c]) v2 w2 ∧ KT B w0 w2 :=
  ⟨⟨by simpa [Lib.byteCells] using hown, Nat.le_trans h.le hg.size⟩, hK.trans (KT.grown h.own h.le hg)⟩

theorem catT_bound {n : Nat} {p : List Tm} (hn : n ≤ 80) (hx : ∀ t ∈ p, Ex n t.2) (hc : ∀ t ∈ p, t.1 ≤ 65536) (k : Nat) : (catT (p.take k)).length ≤ 4000 * k := by
  induction k with
  | zero => simp [catT]
  | succ k ih =>
    cases h : p[k]? with
    | none => rw [List.take_add_one, h]; simp; omega
    | some t =>
      have ht := List.mem_of_getElem? h
      have h1 := termT_length t hn (hc t ht) (hx t ht)
      rw [List.take_add_one, h]
      simp only [Option.toList_some]
      by_cases h0 : p.take k = []
      · rw [h0]; simp [catT]; omega
      · rw [catT_snoc _ _ h0]; simp [sepT]; omega

set_option maxRecDepth 100000 in
set_option maxHeartbeats 8000000 in
theorem textR_ok (n : Nat) (hn : n ≤ 80) (VA : Option Addr) (VC : Nat) (p : List Tm) (w : World) (hL : LayP w) (hr : RdP w VA (tms p)) (hx : ∀ t ∈ p, Ex n t.2) (hc : ∀ t ∈ p, t.1 ≤ 65536) (hlen : p.length ≤ 20000) :
    Calls Tryz.prog 73 #[.slice VA p.length VC] w fun e w' => e = .returned (.string ⟨(textP p).toArray⟩) ∧ Below w.heap.size w w' := by
  have HL := Lib.hid hL
  have HR := Lib.hid hr
  have HX := Lib.hid hx
  have HC := Lib.hid hc
  have HCB := Lib.hid (catT_bound hn hx hc)
  have HTAB := Lib.hid (fun W (hW : Below w.heap.size w W) => (hL.below hW).pow)
  clear hL hr hx hc
  by_cases hp0 : p = []
  · subst hp0
    go_enter Tryz.func73, Tryz.ntmps73
    go_wp2_with fail
    go_ret
    exact ⟨rfl, Below.refl _ _⟩
  · have hpl : 0 < p.length := List.length_pos_iff.2 hp0
    have hpe : ((p.length : Int) == 0) = false := by simp; exact hp0
    have HTP : Hid (textP p = catT p) := Lib.hid (if_neg hp0)
    clear hp0
    obtain ⟨i0, hi, hz0, hz1, hz2⟩ := info_parts Tryz.info5
    have HI := Lib.hid (show Tryz.prog.info? 5 = some i0 ∧ i0.zero = some (.int .u8 0) ∧ i0.size = 1 ∧ i0.bytes = 1 from ⟨hi, hz0, hz1, hz2⟩)
    clear hi hz0 hz1 hz2
    go_enter Tryz.func73, Tryz.ntmps73
    go_wp2_with fail
    go_loopw [3, 4, 5] (fun tv i _ W => ∃ (k : Nat) (cur : List UInt8), k ≤ p.length ∧ i = .int .i64 k ∧ cur = catT (p.take k) ∧ Tx w.heap.size cur tv W ∧ KT w.heap.size w W) (fun _ i _ _ => p.length - (intOf i).toNat)
    case atStart => exact ⟨0, [], by omega, rfl, by simp [catT], Tx.nil _, KT.refl _ _⟩
    case round =>
      obtain ⟨k, cur, hk, rfl, hcur, hT, hK⟩ := hrel
      have hcl := HCB.out k
      rw [← hcur] at hcl
      have HCUR := Lib.hid hcur
      have HCL := Lib.hid hcl
      have HT := Lib.hid hT
      have HK := Lib.hid hK
      obtain ⟨UA, UC, rfl⟩ := hT.shape
      clear hcur hT hcl hK
      by_cases hlt : k < p.length
      · obtain ⟨t, ht⟩ : ∃ t, p[k]? = some t := ⟨_, List.getElem?_eq_getElem hlt⟩
        have htx := HX.out t (List.mem_of_getElem? ht)
        have htc := HC.out t (List.mem_of_getElem? ht)
        obtain ⟨b, off, u, rfl, g1, g2, g3⟩ := HR.out k ((t.1 : Int), nz t.2) (by simp [ht])
        obtain ⟨EA, ec, rfl, hri, _⟩ := g3
        rw [nz_length, htx.1] at g2
        have HTK := Lib.hid (show p.take (k + 1) = p.take k ++ [t] by rw [List.take_add_one, ht]; rfl)
        have HTX := Lib.hid htx
        have HTC := Lib.hid htc
        have HRI := Lib.hid hri
        have HG1 := Lib.hid g1
        have HG2 := Lib.hid g2
        have hit := itoa_le t.1 (by omega)
        have HIT := Lib.hid hit
        clear g1 g2 hri ht htx hit
        -- the text ahead of the coefficient
        obtain ⟨cur1, hc1⟩ : ∃ c1, c1 = if k = 0 then cur else cur ++ [32, 43, 32] := ⟨_, rfl⟩
        have HC1 := Lib.hid hc1
        have HC1L : Hid (cur1.length ≤ cur.length + 3) := Lib.hid (by rw [hc1]; split <;> simp)
        clear hc1
        rcases (show k = 0 ∨ 0 < k by omega) with hk0 | hk0
        · have e1 : cur1 = cur := by rw [HC1.out]; simp [hk0]
          have hz : catT (p.take (k + 1)) = cur1 ++ termT t := by rw [HTK.out, e1, HCUR.out, hk0]; simp [catT]
          have HZ := Lib.hid hz
          have d0 : decide (0 < k) = false := decide_eq_false (by omega)
          have hw1 := (HK.out.1.cell (World.block_lt_of_cell? w _ HG1.out)).trans HG1.out
          have HT1 : Hid (Tx w.heap.size cur1 (.slice UA cur.length UC) wr) := Lib.hid (by rw [e1]; exact HT.out)
          clear e1 hk0 hz
          go_wp2_with fail
          clear hw1
          refine (itoa_ok t.1 (by have := HTC.out; omega) _ (HTAB.out _ HK.out.1)).mono ?_
          rintro e w4 ⟨rfl, hB4⟩
          have HT4 := Lib.hid (HT1.out.below hB4)
          have HK4 := Lib.hid (HK.out.trans (KT.of_below hB4 HT1.out.le))
          clear hB4
          go_wp2_with (at_builtin; refine Lib.wpList_append_own_string _ rfl _ _ 126 9 rfl w.heap.size 5 i0 Tryz.underlying126 Tryz.underlying9 HI.out.1 HI.out.2.1 HI.out.2.2.1 HI.out.2.2.2 (.slice UA cur.length UC) cur1.length (Lib.byteCells cur1) (by first | rfl | simp [Act.eval, Act.put]) HT4.out.own ⟨(Lib.itoa t.1).toArray⟩ (by first | rfl | simp [Act.eval, Act.put]) (by have h1 := HCL.out; have h2 := HC1L.out; have h3 := HIT.out; simp only [ByteArray.size, List.size_toArray]; unfold maxLen; omega) (by have h1 := HCL.out; have h2 := HC1L.out; have h3 := HIT.out; simp only [ByteArray.size, List.size_toArray]; omega) HT4.out.le ?_; intro v5 w5 hown hgrow _; obtain ⟨hTn, hKn⟩ := Tx.push (l2 := Lib.itoa t.1) HT4.out hown hgrow; clear hown hgrow; have HT5 := Lib.hid hTn; have HK5 := Lib.hid (HK4.out.trans hKn); clear hTn hKn HT4 HK4)
          go_loopw [3, 5] (fun tv jv W => ∃ (j : Nat) (cu : List UInt8), j ≤ n ∧ jv = .int .i64 j ∧ cu = cur1 ++ Lib.itoa t.1 ++ expsT 0 (t.2.take j) ∧ cu.length ≤ cur1.length + 21 + 45 * j ∧ Tx w.heap.size cu tv W ∧ KT w.heap.size w W) (fun _ jv _ => n - (intOf jv).toNat)
          case atStart => exact ⟨0, cur1 ++ Lib.itoa t.1, by omega, rfl, by simp [expsT], by rw [List.length_append]; have := HIT.out; omega, HT5.out, HK5.out⟩
          case round =>
            clear HT5 HK5
            obtain ⟨j, cu, hj, rfl, hcu, hcul, hT, hK⟩ := hrel
            have HCU := Lib.hid hcu
            have HCUL : Hid (cu.length ≤ 80000000 + 45 * j) := Lib.hid (by have h1 := HCL.out; have h2 := HC1L.out; omega)
            have HCUM := Lib.hid hcul
            have HTJ := Lib.hid hT
            have HKJ := Lib.hid hK
            have c2 := (hK.1.cell (World.block_lt_of_cell? w _ HG2.out)).trans HG2.out
            obtain ⟨XA, XC, rfl⟩ := hT.shape
            clear hcu hcul hT hK
            by_cases hjn : j < n
            · obtain ⟨x, hx⟩ : ∃ x, t.2[j]? = some x := ⟨_, List.getElem?_eq_getElem (by rw [HTX.out.1]; exact hjn)⟩
              have hx2 := HTX.out.2 x (List.mem_of_getElem? hx)
              obtain ⟨a, rfl, g3⟩ := HRI.out j _ (nz_at hx)
              have HG3 := Lib.hid g3
              have c3 := (HKJ.out.1.cell (World.block_lt_of_cell? w _ g3)).trans g3
              have HJK : Hid (expsT 0 (t.2.take (j + 1)) = expsT 0 (t.2.take j) ++ expT j x) := Lib.hid (by rw [show t.2.take (j + 1) = t.2.take j ++ [x] by rw [List.take_add_one, hx]; rfl, expsT_snoc, List.length_take, HTX.out.1, Nat.min_eq_left (Nat.le_of_lt hjn), Nat.zero_add])
              have hijl := itoa_le j (by omega)
              have hixl := itoa_le x (by omega)
              have HIJ := Lib.hid hijl
              have HIX := Lib.hid hixl
              clear hx g3 hijl hixl
              rcases (show x = 0 ∨ x = 1 ∨ 1 < x by omega) with rfl | rfl | h1
              · go_wp2_with fail
                go_roundw
                case rel => exact ⟨j + 1, cu, by omega, by go_num, by rw [HJK.out, HCU.out]; simp [expT], by have := HCUM.out; omega, HTJ.out, HKJ.out⟩
                case measure => simp [intOf]; omega
              · go_wp2_with (at_builtin; refine Lib.wpList_append_own_string _ rfl _ _ 126 9 rfl w.heap.size 5 i0 Tryz.underlying126 Tryz.underlying9 HI.out.1 HI.out.2.1 HI.out.2.2.1 HI.out.2.2.2 (.slice XA cu.length XC) cu.length (Lib.byteCells cu) (by first | rfl | simp [Act.eval, Act.put]) HTJ.out.own ⟨#[42, 120]⟩ (by first | rfl | simp [Act.eval, Act.put]) (by have h1 := HCUL.out; show cu.length + 2 ≤ _; unfold maxLen; omega) (by have h1 := HCUL.out; show cu.length + 2 ≤ _; omega) HTJ.out.le ?_; intro v6 w6 hown hgrow _; obtain ⟨hTn, hKn⟩ := Tx.push (l2 := [42, 120]) HTJ.out hown hgrow; clear hown hgrow; have HT6 := Lib.hid hTn; have HK6 := Lib.hid (HKJ.out.trans hKn); clear hTn hKn c2 c3)
                refine (itoa_ok j (by omega) _ (HTAB.out _ HK6.out.1)).mono ?_
                rintro e w7 ⟨rfl, hB7⟩
                have HT7 := Lib.hid (HT6.out.below hB7)
                have HK7 := Lib.hid (HK6.out.trans (KT.of_below hB7 HT6.out.le))
                clear hB7
                go_wp2_with (at_builtin; refine Lib.wpList_append_own_string _ rfl _ _ 126 9 rfl w.heap.size 5 i0 Tryz.underlying126 Tryz.underlying9 HI.out.1 HI.out.2.1 HI.out.2.2.1 HI.out.2.2.2 v6 (cu ++ [42, 120]).length (Lib.byteCells (cu ++ [42, 120])) (by first | rfl | simp [Act.eval, Act.put]) HT7.out.own ⟨(Lib.itoa j).toArray⟩ (by first | rfl | simp [Act.eval, Act.put]) (by have h1 := HCUL.out; have h2 := HIJ.out; simp only [ByteArray.size, List.size_toArray]; simp only [List.length_append, List.length_cons, List.length_nil]; unfold maxLen; omega) (by have h1 := HCUL.out; have h2 := HIJ.out; simp only [ByteArray.size, List.size_toArray]; simp only [List.length_append, List.length_cons, List.length_nil]; omega) HT7.out.le ?_; intro v8 w8 hown hgrow _; obtain ⟨hTn, hKn⟩ := Tx.push (l2 := Lib.itoa j) HT7.out hown hgrow; clear hown hgrow; obtain ⟨l8, hl8⟩ : ∃ l8, l8 = cu ++ [42, 120] ++ Lib.itoa j := ⟨_, rfl⟩; rw [← hl8] at hTn; have HL8 := Lib.hid hl8; have HT8 := Lib.hid hTn; have HK8 := Lib.hid (HK7.out.trans hKn); obtain ⟨YA, YC, rfl⟩ := hTn.shape; have c2 := (HK8.out.1.cell (World.block_lt_of_cell? w _ HG2.out)).trans HG2.out; have c3 := (HK8.out.1.cell (World.block_lt_of_cell? w _ HG3.out)).trans HG3.out; clear hTn hKn hl8)
                go_roundw
                case rel => exact ⟨j + 1, l8, by omega, by go_num, by rw [HL8.out, HJK.out, HCU.out]; simp [expT], by rw [HL8.out]; have h1 := HCUM.out; have h2 := HIJ.out; simp; omega, HT8.out, HK8.out⟩
                case measure => simp [intOf]; omega
              · have d1 : decide (0 < x) = true := decide_eq_true (by omega)
                have d2 : decide (1 < x) = true := decide_eq_true (by omega)
                go_wp2_with (at_builtin; refine Lib.wpList_append_own_string _ rfl _ _ 126 9 rfl w.heap.size 5 i0 Tryz.underlying126 Tryz.underlying9 HI.out.1 HI.out.2.1 HI.out.2.2.1 HI.out.2.2.2 (.slice XA cu.length XC) cu.length (Lib.byteCells cu) (by first | rfl | simp [Act.eval, Act.put]) HTJ.out.own ⟨#[42, 120]⟩ (by first | rfl | simp [Act.eval, Act.put]) (by have h1 := HCUL.out; show cu.length + 2 ≤ _; unfold maxLen; omega) (by have h1 := HCUL.out; show cu.length + 2 ≤ _; omega) HTJ.out.le ?_; intro v6 w6 hown hgrow _; obtain ⟨hTn, hKn⟩ := Tx.push (l2 := [42, 120]) HTJ.out hown hgrow; clear hown hgrow; have HT6 := Lib.hid hTn; have HK6 := Lib.hid (HKJ.out.trans hKn); clear hTn hKn c2 c3)
                refine (itoa_ok j (by omega) _ (HTAB.out _ HK6.out.1)).mono ?_
                rintro e w7 ⟨rfl, hB7⟩
                have HT7 := Lib.hid (HT6.out.below hB7)
                have HK7 := Lib.hid (HK6.out.trans (KT.of_below hB7 HT6.out.le))
                clear hB7
                go_wp2_with (at_builtin; refine Lib.wpList_append_own_string _ rfl _ _ 126 9 rfl w.heap.size 5 i0 Tryz.underlying126 Tryz.underlying9 HI.out.1 HI.out.2.1 HI.out.2.2.1 HI.out.2.2.2 v6 (cu ++ [42, 120]).length (Lib.byteCells (cu ++ [42, 120])) (by first | rfl | simp [Act.eval, Act.put]) HT7.out.own ⟨(Lib.itoa j).toArray⟩ (by first | rfl | simp [Act.eval, Act.put]) (by have h1 := HCUL.out; have h2 := HIJ.out; simp only [ByteArray.size, List.size_toArray]; simp only [List.length_append, List.length_cons, List.length_nil]; unfold maxLen; omega) (by have h1 := HCUL.out; have h2 := HIJ.out; simp only [ByteArray.size, List.size_toArray]; simp only [List.length_append, List.length_cons, List.length_nil]; omega) HT7.out.le ?_; intro v8 w8 hown hgrow _; obtain ⟨hTn, hKn⟩ := Tx.push (l2 := Lib.itoa j) HT7.out hown hgrow; clear hown hgrow; obtain ⟨l8, hl8⟩ : ∃ l8, l8 = cu ++ [42, 120] ++ Lib.itoa j := ⟨_, rfl⟩; rw [← hl8] at hTn; have HL8 := Lib.hid hl8; have HT8 := Lib.hid hTn; have HK8 := Lib.hid (HK7.out.trans hKn); obtain ⟨YA, YC, rfl⟩ := hTn.shape; have c2 := (HK8.out.1.cell (World.block_lt_of_cell? w _ HG2.out)).trans HG2.out; have c3 := (HK8.out.1.cell (World.block_lt_of_cell? w _ HG3.out)).trans HG3.out; clear hTn hKn hl8)
                have HP8 : Hid (Tx w.heap.size l8 (.slice YA l8.length YC) w8.drew ∧ KT w.heap.size w w8.drew) := Lib.hid (tk_below ⟨HT8.out, HK8.out⟩ (Below.refl w8.heap.size w8).drew)
                have HITX := Lib.hid (fun W (hW : Below w.heap.size w W) => itoa_ok x (by omega) W (HTAB.out W hW))
                have c2a := ((tk_below ⟨HT8.out, HK8.out⟩ (below1 w8 (.cells #[.int .u8 94] 5))).2.1.cell (World.block_lt_of_cell? w _ HG2.out)).trans HG2.out
                have c3a := ((tk_below ⟨HT8.out, HK8.out⟩ (below1 w8 (.cells #[.int .u8 94] 5))).2.1.cell (World.block_lt_of_cell? w _ HG3.out)).trans HG3.out
                generalize hwq : w8 = wq at *
                go_region_law (first
                  | (have hx := tk_below HP8.out (below1 wq.drew (.cells #[.int .u8 94] 5)); refine step_append_lies _ rfl (.tmp 60) (.tmp 61) 126 rfl w.heap.size 5 i0 (.int .u8 0) 1 1 Tryz.underlying126 HI.out.1 HI.out.2.1 HI.out.2.2.1 HI.out.2.2.2 rfl (by decide) (.slice YA l8.length YC) l8.length (Lib.byteCells l8) (by simp [Act.eval, Act.put]) hx.1.own ⟨wq.heap.size, 0, none⟩ 1 1 [.int .u8 94] (by simp [Act.eval, Act.put]) rfl (cell_one_new _ _ _) (by intro u hu; simp at hu; subst hu; rfl) (by decide) (by rw [HL8.out]; have h1 := HCUL.out; have h2 := HIJ.out; unfold maxLen; simp; omega) (by rw [HL8.out]; have h1 := HCUL.out; have h2 := HIJ.out; simp; omega) hx.1.le _ rfl ?_; intro g9 cap9 w9 hown9 hgrow9 _ _; obtain ⟨hT9, hK9⟩ := Tx.push1g (c := 94) hx.2 hx.1 hown9 hgrow9; have c29 := (hK9.1.cell (World.block_lt_of_cell? w _ HG2.out)).trans HG2.out; have c39 := (hK9.1.cell (World.block_lt_of_cell? w _ HG3.out)).trans HG3.out; clear hown9 hgrow9 hx)
                  | (have hx := tk_below (tk_below HP8.out (below1 wq.drew (.cells #[.int .u8 94] 5))) hBB; refine step_append_lies _ rfl (.tmp 60) (.tmp 61) 126 rfl w.heap.size 5 i0 (.int .u8 0) 1 1 Tryz.underlying126 HI.out.1 HI.out.2.1 HI.out.2.2.1 HI.out.2.2.2 rfl (by decide) (.slice YA l8.length YC) l8.length (Lib.byteCells l8) (by simp [Act.eval, Act.put]) hx.1.own ⟨wq.heap.size, 0, none⟩ 1 1 [.int .u8 94] (by simp [Act.eval, Act.put]) rfl (fun j u hu => (hBB.cell (by simp [Addr.add])).trans (cell_one_new _ _ _ j u hu)) (by intro u hu; simp at hu; subst hu; rfl) (by decide) (by rw [HL8.out]; have h1 := HCUL.out; have h2 := HIJ.out; unfold maxLen; simp; omega) (by rw [HL8.out]; have h1 := HCUL.out; have h2 := HIJ.out; simp; omega) hx.1.le _ rfl ?_; intro g9 cap9 w9 hown9 hgrow9 _ _; obtain ⟨hT9, hK9⟩ := Tx.push1g (c := 94) hx.2 hx.1 hown9 hgrow9; have c29 := (hK9.1.cell (World.block_lt_of_cell? w _ HG2.out)).trans HG2.out; have c39 := (hK9.1.cell (World.block_lt_of_cell? w _ HG3.out)).trans HG3.out; clear hown9 hgrow9 hx)
                  | (have hx := tk_below (tk_below HP8.out hBC) (below1 wC (.cells #[.int .u8 94] 5)); refine step_append_lies _ rfl (.tmp 60) (.tmp 61) 126 rfl w.heap.size 5 i0 (.int .u8 0) 1 1 Tryz.underlying126 HI.out.1 HI.out.2.1 HI.out.2.2.1 HI.out.2.2.2 rfl (by decide) (.slice YA l8.length YC) l8.length (Lib.byteCells l8) (by simp [Act.eval, Act.put]) hx.1.own ⟨wC.heap.size, 0, none⟩ 1 1 [.int .u8 94] (by simp [Act.eval, Act.put]) rfl (cell_one_new _ _ _) (by intro u hu; simp at hu; subst hu; rfl) (by decide) (by rw [HL8.out]; have h1 := HCUL.out; have h2 := HIJ.out; unfold maxLen; simp; omega) (by rw [HL8.out]; have h1 := HCUL.out; have h2 := HIJ.out; simp; omega) hx.1.le _ rfl ?_; intro g9 cap9 w9 hown9 hgrow9 _ _; obtain ⟨hT9, hK9⟩ := Tx.push1g (c := 94) hx.2 hx.1 hown9 hgrow9; have c29 := (hK9.1.cell (World.block_lt_of_cell? w _ HG2.out)).trans HG2.out; have c39 := (hK9.1.cell (World.block_lt_of_cell? w _ HG3.out)).trans HG3.out; clear hown9 hgrow9 hx)
                  | (have hy := tk_below (⟨hT9, hK9⟩ : _ ∧ _) hBA; refine step_append_str rfl (.tmp 62) (.tmp 71) 126 9 rfl w.heap.size 5 i0 Tryz.underlying126 Tryz.underlying9 HI.out.1 HI.out.2.1 HI.out.2.2.1 HI.out.2.2.2 (.slice (some ⟨g9, 0, none⟩) (l8.length + 1) cap9) (l8 ++ [94]).length (Lib.byteCells (l8 ++ [94])) (by simp [Act.eval]) hy.1.own ⟨(Lib.itoa x).toArray⟩ (by simp [Act.eval]) (by rw [HL8.out]; have h1 := HCUL.out; have h2 := HIJ.out; have h3 := HIX.out; unfold maxLen; simp only [ByteArray.size, List.size_toArray, List.length_append, List.length_cons, List.length_nil]; omega) (by rw [HL8.out]; have h1 := HCUL.out; have h2 := HIJ.out; have h3 := HIX.out; simp only [ByteArray.size, List.size_toArray, List.length_append, List.length_cons, List.length_nil]; omega) hy.1.le ?_; intro v11 w11 hown11 hgrow11; obtain ⟨hT11, hK11⟩ := Tx.push (l2 := Lib.itoa x) hy.1 hown11 hgrow11; have hK11 := hy.2.trans hK11; clear hown11 hgrow11 hy)
                  | (have hy := (⟨hT9, hK9⟩ : Tx w.heap.size (l8 ++ [94]) _ w9 ∧ KT w.heap.size w w9); refine step_append_str rfl (.tmp 62) (.tmp 71) 126 9 rfl w.heap.size 5 i0 Tryz.underlying126 Tryz.underlying9 HI.out.1 HI.out.2.1 HI.out.2.2.1 HI.out.2.2.2 (.slice (some ⟨g9, 0, none⟩) (l8.length + 1) cap9) (l8 ++ [94]).length (Lib.byteCells (l8 ++ [94])) (by simp [Act.eval]) hy.1.own ⟨(Lib.itoa x).toArray⟩ (by simp [Act.eval]) (by rw [HL8.out]; have h1 := HCUL.out; have h2 := HIJ.out; have h3 := HIX.out; unfold maxLen; simp only [ByteArray.size, List.size_toArray, List.length_append, List.length_cons, List.length_nil]; omega) (by rw [HL8.out]; have h1 := HCUL.out; have h2 := HIJ.out; have h3 := HIX.out; simp only [ByteArray.size, List.size_toArray, List.length_append, List.length_cons, List.length_nil]; omega) hy.1.le ?_; intro v11 w11 hown11 hgrow11; obtain ⟨hT11, hK11⟩ := Tx.push (l2 := Lib.itoa x) hy.1 hown11 hgrow11; have hK11 := hy.2.trans hK11; clear hown11 hgrow11 hy)
                  | (have hp := hK9.1; go_simp; (with_reducible refine (HITX.out w9 hp).mono ?_); rintro e wA ⟨rfl, hBA⟩; clear hp)
                  | (have hp := (tk_below HP8.out (below1 wq.drew (.cells #[.int .u8 94] 5))).2.1; go_simp; (with_reducible refine (HITX.out _ hp).mono ?_); rintro e wB ⟨rfl, hBB⟩; clear hp)
                  | (have hp := HP8.out.2.1; go_simp; (with_reducible refine (HITX.out wq.drew hp).mono ?_); rintro e wC ⟨rfl, hBC⟩; clear hp))
                all_goals
                  obtain ⟨l11, hl11⟩ : ∃ l11, l11 = l8 ++ [94] ++ Lib.itoa x := ⟨_, rfl⟩
                  rw [← hl11] at hT11
                  have HL11 := Lib.hid hl11
                  have HF := Lib.hid hT11
                  have HFK := Lib.hid hK11
                  have HX1 := Lib.hid h1
                  obtain ⟨ZA, ZC, rfl⟩ := hT11.shape
                  clear hl11 hT11 hK11 hT9 hK9 c29 c39 c2a c3a c2 c3
                  go_wp2_with fail
                  go_roundw
                  case rel => exact ⟨j + 1, l11, by omega, by go_num, by rw [HL11.out, HL8.out, HJK.out, HCU.out]; unfold expT; rw [if_neg (by omega), if_neg (by omega)]; simp, by rw [HL11.out, HL8.out]; have h1 := HCUM.out; have h2 := HIJ.out; have h3 := HIX.out; simp; omega, HF.out, HFK.out⟩
                  case measure => simp [intOf]; omega
            · have hjj : j = n := by omega
              have HF : Hid (cu = catT (p.take (k + 1))) := Lib.hid (by
                have h1 : t.2.take j = t.2 := List.take_of_length_le (by rw [HTX.out.1]; omega)
                rw [HCU.out, h1]
                rw [HZ.out]; simp [termT])
              go_wp2_with fail
              go_roundw
              case rel => exact ⟨k + 1, cu, by omega, by go_num, HF.out, HTJ.out, HKJ.out⟩
              case measure => simp [intOf]; omega
        · have e1 : cur1 = cur ++ [32, 43, 32] := by rw [HC1.out, if_neg (by omega)]
          have hz : catT (p.take (k + 1)) = cur1 ++ termT t := by
            rw [HTK.out, catT_snoc _ _ (fun h => by have h2 := congrArg List.length h; rw [List.length_take, List.length_nil] at h2; omega), e1, HCUR.out]; simp [sepT]
          have HZ := Lib.hid hz
          have E1 := Lib.hid e1
          have d0 : decide (0 < k) = true := decide_eq_true hk0
          clear e1 hz
          go_wp2_with (at_builtin; refine Lib.wpList_append_own_string _ rfl _ _ 126 9 rfl w.heap.size 5 i0 Tryz.underlying126 Tryz.underlying9 HI.out.1 HI.out.2.1 HI.out.2.2.1 HI.out.2.2.2 (.slice UA cur.length UC) cur.length (Lib.byteCells cur) (by first | rfl | simp [Act.eval, Act.put]) HT.out.own ⟨#[32, 43, 32]⟩ (by first | rfl | simp [Act.eval, Act.put]) (by have h1 := HCL.out; show cur.length + 3 ≤ _; unfold maxLen; omega) (by have h1 := HCL.out; show cur.length + 3 ≤ _; omega) HT.out.le ?_; intro v1 w1 hown hgrow _; obtain ⟨hTn, hKn⟩ := Tx.push (l2 := [32, 43, 32]) HT.out hown hgrow; clear hown hgrow; rw [← E1.out] at hTn; have HT1 := Lib.hid hTn; have HK1 := Lib.hid (HK.out.trans hKn); have hw1 := (HK1.out.1.cell (World.block_lt_of_cell? w _ HG1.out)).trans HG1.out; clear hTn hKn)
          clear hw1
          refine (itoa_ok t.1 (by have := HTC.out; omega) _ (HTAB.out _ HK1.out.1)).mono ?_
          rintro e w4 ⟨rfl, hB4⟩
          have HT4 := Lib.hid (HT1.out.below hB4)
          have HK4 := Lib.hid (HK1.out.trans (KT.of_below hB4 HT1.out.le))
          clear hB4
          go_wp2_with (at_builtin; refine Lib.wpList_append_own_string _ rfl _ _ 126 9 rfl w.heap.size 5 i0 Tryz.underlying126 Tryz.underlying9 HI.out.1 HI.out.2.1 HI.out.2.2.1 HI.out.2.2.2 v1 cur1.length (Lib.byteCells cur1) (by first | rfl | simp [Act.eval, Act.put]) HT4.out.own ⟨(Lib.itoa t.1).toArray⟩ (by first | rfl | simp [Act.eval, Act.put]) (by have h1 := HCL.out; have h2 := HC1L.out; have h3 := HIT.out; simp only [ByteArray.size, List.size_toArray]; unfold maxLen; omega) (by have h1 := HCL.out; have h2 := HC1L.out; have h3 := HIT.out; simp only [ByteArray.size, List.size_toArray]; omega) HT4.out.le ?_; intro v5 w5 hown hgrow _; obtain ⟨hTn, hKn⟩ := Tx.push (l2 := Lib.itoa t.1) HT4.out hown hgrow; clear hown hgrow; have HT5 := Lib.hid hTn; have HK5 := Lib.hid (HK4.out.trans hKn); clear hTn hKn HT4 HK4)
          go_loopw [3, 5] (fun tv jv W => ∃ (j : Nat) (cu : List UInt8), j ≤ n ∧ jv = .int .i64 j ∧ cu = cur1 ++ Lib.itoa t.1 ++ expsT 0 (t.2.take j) ∧ cu.length ≤ cur1.length + 21 + 45 * j ∧ Tx w.heap.size cu tv W ∧ KT w.heap.size w W) (fun _ jv _ => n - (intOf jv).toNat)
          case atStart => exact ⟨0, cur1 ++ Lib.itoa t.1, by omega, rfl, by simp [expsT], by rw [List.length_append]; have := HIT.out; omega, HT5.out, HK5.out⟩
          case round =>
            clear HT5 HK5
            obtain ⟨j, cu, hj, rfl, hcu, hcul, hT, hK⟩ := hrel
            have HCU := Lib.hid hcu
            have HCUL : Hid (cu.length ≤ 80000000 + 45 * j) := Lib.hid (by have h1 := HCL.out; have h2 := HC1L.out; omega)
            have HCUM := Lib.hid hcul
            have HTJ := Lib.hid hT
            have HKJ := Lib.hid hK
            have c2 := (hK.1.cell (World.block_lt_of_cell? w _ HG2.out)).trans HG2.out
            obtain ⟨XA, XC, rfl⟩ := hT.shape
            clear hcu hcul hT hK
            by_cases hjn : j < n
            · obtain ⟨x, hx⟩ : ∃ x, t.2[j]? = some x := ⟨_, List.getElem?_eq_getElem (by rw [HTX.out.1]; exact hjn)⟩
              have hx2 := HTX.out.2 x (List.mem_of_getElem? hx)
              obtain ⟨a, rfl, g3⟩ := HRI.out j _ (nz_at hx)
              have HG3 := Lib.hid g3
              have c3 := (HKJ.out.1.cell (World.block_lt_of_cell? w _ g3)).trans g3
              have HJK : Hid (expsT 0 (t.2.take (j + 1)) = expsT 0 (t.2.take j) ++ expT j x) := Lib.hid (by rw [show t.2.take (j + 1) = t.2.take j ++ [x] by rw [List.take_add_one, hx]; rfl, expsT_snoc, List.length_take, HTX.out.1, Nat.min_eq_left (Nat.le_of_lt hjn), Nat.zero_add])
              have hijl := itoa_le j (by omega)
              have hixl := itoa_le x (by omega)
              have HIJ := Lib.hid hijl
              have HIX := Lib.hid hixl
              clear hx g3 hijl hixl
              rcases (show x = 0 ∨ x = 1 ∨ 1 < x by omega) with rfl | rfl | h1
              · go_wp2_with fail
                go_roundw
                case rel => exact ⟨j + 1, cu, by omega, by go_num, by rw [HJK.out, HCU.out]; simp [expT], by have := HCUM.out; omega, HTJ.out, HKJ.out⟩
                case measure => simp [intOf]; omega
              · go_wp2_with (at_builtin; refine Lib.wpList_append_own_string _ rfl _ _ 126 9 rfl w.heap.size 5 i0 Tryz.underlying126 Tryz.underlying9 HI.out.1 HI.out.2.1 HI.out.2.2.1 HI.out.2.2.2 (.slice XA cu.length XC) cu.length (Lib.byteCells cu) (by first | rfl | simp [Act.eval, Act.put]) HTJ.out.own ⟨#[42, 120]⟩ (by first | rfl | simp [Act.eval, Act.put]) (by have h1 := HCUL.out; show cu.length + 2 ≤ _; unfold maxLen; omega) (by have h1 := HCUL.out; show cu.length + 2 ≤ _; omega) HTJ.out.le ?_; intro v6 w6 hown hgrow _; obtain ⟨hTn, hKn⟩ := Tx.push (l2 := [42, 120]) HTJ.out hown hgrow; clear hown hgrow; have HT6 := Lib.hid hTn; have HK6 := Lib.hid (HKJ.out.trans hKn); clear hTn hKn c2 c3)
                refine (itoa_ok j (by omega) _ (HTAB.out _ HK6.out.1)).mono ?_
                rintro e w7 ⟨rfl, hB7⟩
                have HT7 := Lib.hid (HT6.out.below hB7)
                have HK7 := Lib.hid (HK6.out.trans (KT.of_below hB7 HT6.out.le))
                clear hB7
                go_wp2_with (at_builtin; refine Lib.wpList_append_own_string _ rfl _ _ 126 9 rfl w.heap.size 5 i0 Tryz.underlying126 Tryz.underlying9 HI.out.1 HI.out.2.1 HI.out.2.2.1 HI.out.2.2.2 v6 (cu ++ [42, 120]).length (Lib.byteCells (cu ++ [42, 120])) (by first | rfl | simp [Act.eval, Act.put]) HT7.out.own ⟨(Lib.itoa j).toArray⟩ (by first | rfl | simp [Act.eval, Act.put]) (by have h1 := HCUL.out; have h2 := HIJ.out; simp only [ByteArray.size, List.size_toArray]; simp only [List.length_append, List.length_cons, List.length_nil]; unfold maxLen; omega) (by have h1 := HCUL.out; have h2 := HIJ.out; simp only [ByteArray.size, List.size_toArray]; simp only [List.length_append, List.length_cons, List.length_nil]; omega) HT7.out.le ?_; intro v8 w8 hown hgrow _; obtain ⟨hTn, hKn⟩ := Tx.push (l2 := Lib.itoa j) HT7.out hown hgrow; clear hown hgrow; obtain ⟨l8, hl8⟩ : ∃ l8, l8 = cu ++ [42, 120] ++ Lib.itoa j := ⟨_, rfl⟩; rw [← hl8] at hTn; have HL8 := Lib.hid hl8; have HT8 := Lib.hid hTn; have HK8 := Lib.hid (HK7.out.trans hKn); obtain ⟨YA, YC, rfl⟩ := hTn.shape; have c2 := (HK8.out.1.cell (World.block_lt_of_cell? w _ HG2.out)).trans HG2.out; have c3 := (HK8.out.1.cell (World.block_lt_of_cell? w _ HG3.out)).trans HG3.out; clear hTn hKn hl8)
                go_roundw
                case rel => exact ⟨j + 1, l8, by omega, by go_num, by rw [HL8.out, HJK.out, HCU.out]; simp [expT], by rw [HL8.out]; have h1 := HCUM.out; have h2 := HIJ.out; simp; omega, HT8.out, HK8.out⟩
                case measure => simp [intOf]; omega
              · have d1 : decide (0 < x) = true := decide_eq_true (by omega)
                have d2 : decide (1 < x) = true := decide_eq_true (by omega)
                go_wp2_with (at_builtin; refine Lib.wpList_append_own_string _ rfl _ _ 126 9 rfl w.heap.size 5 i0 Tryz.underlying126 Tryz.underlying9 HI.out.1 HI.out.2.1 HI.out.2.2.1 HI.out.2.2.2 (.slice XA cu.length XC) cu.length (Lib.byteCells cu) (by first | rfl | simp [Act.eval, Act.put]) HTJ.out.own ⟨#[42, 120]⟩ (by first | rfl | simp [Act.eval, Act.put]) (by have h1 := HCUL.out; show cu.length + 2 ≤ _; unfold maxLen; omega) (by have h1 := HCUL.out; show cu.length + 2 ≤ _; omega) HTJ.out.le ?_; intro v6 w6 hown hgrow _; obtain ⟨hTn, hKn⟩ := Tx.push (l2 := [42, 120]) HTJ.out hown hgrow; clear hown hgrow; have HT6 := Lib.hid hTn; have HK6 := Lib.hid (HKJ.out.trans hKn); clear hTn hKn c2 c3)
                refine (itoa_ok j (by omega) _ (HTAB.out _ HK6.out.1)).mono ?_
                rintro e w7 ⟨rfl, hB7⟩
                have HT7 := Lib.hid (HT6.out.below hB7)
                have HK7 := Lib.hid (HK6.out.trans (KT.of_below hB7 HT6.out.le))
                clear hB7
                go_wp2_with (at_builtin; refine Lib.wpList_append_own_string _ rfl _ _ 126 9 rfl w.heap.size 5 i0 Tryz.underlying126 Tryz.underlying9 HI.out.1 HI.out.2.1 HI.out.2.2.1 HI.out.2.2.2 v6 (cu ++ [42, 120]).length (Lib.byteCells (cu ++ [42, 120])) (by first | rfl | simp [Act.eval, Act.put]) HT7.out.own ⟨(Lib.itoa j).toArray⟩ (by first | rfl | simp [Act.eval, Act.put]) (by have h1 := HCUL.out; have h2 := HIJ.out; simp only [ByteArray.size, List.size_toArray]; simp only [List.length_append, List.length_cons, List.length_nil]; unfold maxLen; omega) (by have h1 := HCUL.out; have h2 := HIJ.out; simp only [ByteArray.size, List.size_toArray]; simp only [List.length_append, List.length_cons, List.length_nil]; omega) HT7.out.le ?_; intro v8 w8 hown hgrow _; obtain ⟨hTn, hKn⟩ := Tx.push (l2 := Lib.itoa j) HT7.out hown hgrow; clear hown hgrow; obtain ⟨l8, hl8⟩ : ∃ l8, l8 = cu ++ [42, 120] ++ Lib.itoa j := ⟨_, rfl⟩; rw [← hl8] at hTn; have HL8 := Lib.hid hl8; have HT8 := Lib.hid hTn; have HK8 := Lib.hid (HK7.out.trans hKn); obtain ⟨YA, YC, rfl⟩ := hTn.shape; have c2 := (HK8.out.1.cell (World.block_lt_of_cell? w _ HG2.out)).trans HG2.out; have c3 := (HK8.out.1.cell (World.block_lt_of_cell? w _ HG3.out)).trans HG3.out; clear hTn hKn hl8)
                have HP8 : Hid (Tx w.heap.size l8 (.slice YA l8.length YC) w8.drew ∧ KT w.heap.size w w8.drew) := Lib.hid (tk_below ⟨HT8.out, HK8.out⟩ (Below.refl w8.heap.size w8).drew)
                have HITX := Lib.hid (fun W (hW : Below w.heap.size w W) => itoa_ok x (by omega) W (HTAB.out W hW))
                have c2a := ((tk_below ⟨HT8.out, HK8.out⟩ (below1 w8 (.cells #[.int .u8 94] 5))).2.1.cell (World.block_lt_of_cell? w _ HG2.out)).trans HG2.out
                have c3a := ((tk_below ⟨HT8.out, HK8.out⟩ (below1 w8 (.cells #[.int .u8 94] 5))).2.1.cell (World.block_lt_of_cell? w _ HG3.out)).trans HG3.out
                generalize hwq : w8 = wq at *
                go_region_law (first
                  | (have hx := tk_below HP8.out (below1 wq.drew (.cells #[.int .u8 94] 5)); refine step_append_lies _ rfl (.tmp 60) (.tmp 61) 126 rfl w.heap.size 5 i0 (.int .u8 0) 1 1 Tryz.underlying126 HI.out.1 HI.out.2.1 HI.out.2.2.1 HI.out.2.2.2 rfl (by decide) (.slice YA l8.length YC) l8.length (Lib.byteCells l8) (by simp [Act.eval, Act.put]) hx.1.own ⟨wq.heap.size, 0, none⟩ 1 1 [.int .u8 94] (by simp [Act.eval, Act.put]) rfl (cell_one_new _ _ _) (by intro u hu; simp at hu; subst hu; rfl) (by decide) (by rw [HL8.out]; have h1 := HCUL.out; have h2 := HIJ.out; unfold maxLen; simp; omega) (by rw [HL8.out]; have h1 := HCUL.out; have h2 := HIJ.out; simp; omega) hx.1.le _ rfl ?_; intro g9 cap9 w9 hown9 hgrow9 _ _; obtain ⟨hT9, hK9⟩ := Tx.push1g (c := 94) hx.2 hx.1 hown9 hgrow9; have c29 := (hK9.1.cell (World.block_lt_of_cell? w _ HG2.out)).trans HG2.out; have c39 := (hK9.1.cell (World.block_lt_of_cell? w _ HG3.out)).trans HG3.out; clear hown9 hgrow9 hx)
                  | (have hx := tk_below (tk_below HP8.out (below1 wq.drew (.cells #[.int .u8 94] 5))) hBB; refine step_append_lies _ rfl (.tmp 60) (.tmp 61) 126 rfl w.heap.size 5 i0 (.int .u8 0) 1 1 Tryz.underlying126 HI.out.1 HI.out.2.1 HI.out.2.2.1 HI.out.2.2.2 rfl (by decide) (.slice YA l8.length YC) l8.length (Lib.byteCells l8) (by simp [Act.eval, Act.put]) hx.1.own ⟨wq.heap.size, 0, none⟩ 1 1 [.int .u8 94] (by simp [Act.eval, Act.put]) rfl (fun j u hu => (hBB.cell (by simp [Addr.add])).trans (cell_one_new _ _ _ j u hu)) (by intro u hu; simp at hu; subst hu; rfl) (by decide) (by rw [HL8.out]; have h1 := HCUL.out; have h2 := HIJ.out; unfold maxLen; simp; omega) (by rw [HL8.out]; have h1 := HCUL.out; have h2 := HIJ.out; simp; omega) hx.1.le _ rfl ?_; intro g9 cap9 w9 hown9 hgrow9 _ _; obtain ⟨hT9, hK9⟩ := Tx.push1g (c := 94) hx.2 hx.1 hown9 hgrow9; have c29 := (hK9.1.cell (World.block_lt_of_cell? w _ HG2.out)).trans HG2.out; have c39 := (hK9.1.cell (World.block_lt_of_cell? w _ HG3.out)).trans HG3.out; clear hown9 hgrow9 hx)
                  | (have hx := tk_below (tk_below HP8.out hBC) (below1 wC (.cells #[.int .u8 94] 5)); refine step_append_lies _ rfl (.tmp 60) (.tmp 61) 126 rfl w.heap.size 5 i0 (.int .u8 0) 1 1 Tryz.underlying126 HI.out.1 HI.out.2.1 HI.out.2.2.1 HI.out.2.2.2 rfl (by decide) (.slice YA l8.length YC) l8.length (Lib.byteCells l8) (by simp [Act.eval, Act.put]) hx.1.own ⟨wC.heap.size, 0, none⟩ 1 1 [.int .u8 94] (by simp [Act.eval, Act.put]) rfl (cell_one_new _ _ _) (by intro u hu; simp at hu; subst hu; rfl) (by decide) (by rw [HL8.out]; have h1 := HCUL.out; have h2 := HIJ.out; unfold maxLen; simp; omega) (by rw [HL8.out]; have h1 := HCUL.out; have h2 := HIJ.out; simp; omega) hx.1.le _ rfl ?_; intro g9 cap9 w9 hown9 hgrow9 _ _; obtain ⟨hT9, hK9⟩ := Tx.push1g (c := 94) hx.2 hx.1 hown9 hgrow9; have c29 := (hK9.1.cell (World.block_lt_of_cell? w _ HG2.out)).trans HG2.out; have c39 := (hK9.1.cell (World.block_lt_of_cell? w _ HG3.out)).trans HG3.out; clear hown9 hgrow9 hx)
                  | (have hy := tk_below (⟨hT9, hK9⟩ : _ ∧ _) hBA; refine step_append_str rfl (.tmp 62) (.tmp 71) 126 9 rfl w.heap.size 5 i0 Tryz.underlying126 Tryz.underlying9 HI.out.1 HI.out.2.1 HI.out.2.2.1 HI.out.2.2.2 (.slice (some ⟨g9, 0, none⟩) (l8.length + 1) cap9) (l8 ++ [94]).length (Lib.byteCells (l8 ++ [94])) (by simp [Act.eval]) hy.1.own ⟨(Lib.itoa x).toArray⟩ (by simp [Act.eval]) (by rw [HL8.out]; have h1 := HCUL.out; have h2 := HIJ.out; have h3 := HIX.out; unfold maxLen; simp only [ByteArray.size, List.size_toArray, List.length_append, List.length_cons, List.length_nil]; omega) (by rw [HL8.out]; have h1 := HCUL.out; have h2 := HIJ.out; have h3 := HIX.out; simp only [ByteArray.size, List.size_toArray, List.length_append, List.length_cons, List.length_nil]; omega) hy.1.le ?_; intro v11 w11 hown11 hgrow11; obtain ⟨hT11, hK11⟩ := Tx.push (l2 := Lib.itoa x) hy.1 hown11 hgrow11; have hK11 := hy.2.trans hK11; clear hown11 hgrow11 hy)
                  | (have hy := (⟨hT9, hK9⟩ : Tx w.heap.size (l8 ++ [94]) _ w9 ∧ KT w.heap.size w w9); refine step_append_str rfl (.tmp 62) (.tmp 71) 126 9 rfl w.heap.size 5 i0 Tryz.underlying126 Tryz.underlying9 HI.out.1 HI.out.2.1 HI.out.2.2.1 HI.out.2.2.2 (.slice (some ⟨g9, 0, none⟩) (l8.length + 1) cap9) (l8 ++ [94]).length (Lib.byteCells (l8 ++ [94])) (by simp [Act.eval]) hy.1.own ⟨(Lib.itoa x).toArray⟩ (by simp [Act.eval]) (by rw [HL8.out]; have h1 := HCUL.out; have h2 := HIJ.out; have h3 := HIX.out; unfold maxLen; simp only [ByteArray.size, List.size_toArray, List.length_append, List.length_cons, List.length_nil]; omega) (by rw [HL8.out]; have h1 := HCUL.out; have h2 := HIJ.out; have h3 := HIX.out; simp only [ByteArray.size, List.size_toArray, List.length_append, List.length_cons, List.length_nil]; omega) hy.1.le ?_; intro v11 w11 hown11 hgrow11; obtain ⟨hT11, hK11⟩ := Tx.push (l2 := Lib.itoa x) hy.1 hown11 hgrow11; have hK11 := hy.2.trans hK11; clear hown11 hgrow11 hy)
                  | (have hp := hK9.1; go_simp; (with_reducible refine (HITX.out w9 hp).mono ?_); rintro e wA ⟨rfl, hBA⟩; clear hp)
                  | (have hp := (tk_below HP8.out (below1 wq.drew (.cells #[.int .u8 94] 5))).2.1; go_simp; (with_reducible refine (HITX.out _ hp).mono ?_); rintro e wB ⟨rfl, hBB⟩; clear hp)
                  | (have hp := HP8.out.2.1; go_simp; (with_reducible refine (HITX.out wq.drew hp).mono ?_); rintro e wC ⟨rfl, hBC⟩; clear hp))
                all_goals
                  obtain ⟨l11, hl11⟩ : ∃ l11, l11 = l8 ++ [94] ++ Lib.itoa x := ⟨_, rfl⟩
                  rw [← hl11] at hT11
                  have HL11 := Lib.hid hl11
                  have HF := Lib.hid hT11
                  have HFK := Lib.hid hK11
                  have HX1 := Lib.hid h1
                  obtain ⟨ZA, ZC, rfl⟩ := hT11.shape
                  clear hl11 hT11 hK11 hT9 hK9 c29 c39 c2a c3a c2 c3
                  go_wp2_with fail
                  go_roundw
                  case rel => exact ⟨j + 1, l11, by omega, by go_num, by rw [HL11.out, HL8.out, HJK.out, HCU.out]; unfold expT; rw [if_neg (by omega), if_neg (by omega)]; simp, by rw [HL11.out, HL8.out]; have h1 := HCUM.out; have h2 := HIJ.out; have h3 := HIX.out; simp; omega, HF.out, HFK.out⟩
                  case measure => simp [intOf]; omega
            · have hjj : j = n := by omega
              have HF : Hid (cu = catT (p.take (k + 1))) := Lib.hid (by
                have h1 : t.2.take j = t.2 := List.take_of_length_le (by rw [HTX.out.1]; omega)
                rw [HCU.out, h1]
                rw [HZ.out]; simp [termT])
              go_wp2_with fail
              go_roundw
              case rel => exact ⟨k + 1, cu, by omega, by go_num, HF.out, HTJ.out, HKJ.out⟩
              case measure => simp [intOf]; omega
      · have hkl : k = p.length := by omega
        have hcf : cur = catT p := by rw [HCUR.out, List.take_of_length_le (by omega)]
        have hne : cur ≠ [] := fun h => by
          have h2 : (catT p).length ≤ 0 := by rw [← hcf, h]; simp
          have h3 := catT_ne HX.out hpl
          omega
        have hcv := conv_text cur UA UC HT.out hne
        have HCF := Lib.hid hcf
        clear hcf hne
        go_wp2_with fail
        go_ret
        exact ⟨(by rw [HTP.out, ← HCF.out]; rfl), HK.out.1⟩
end Go.Proofs.YtopbfgkfpgnalaaGreatDoor
