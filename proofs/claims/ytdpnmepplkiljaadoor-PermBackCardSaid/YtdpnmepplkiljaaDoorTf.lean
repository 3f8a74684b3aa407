/-
  Contract of Parse of the reference at every string.
-/
import Derived.Test.YtdpnmepplkiljaaDoorTr
import Derived.Test.YtdpnmepplkiljaaDoorZa
import Derived.RegionTactic
import Derived.ChangeAlike
namespace Go.Proofs.YtdpnmepplkiljaaDoor
open Go.RowKit Go.Shelf

theorem rr_eq (n ch : Nat) (t ps c : List Nat) : readR n (ch :: t) ps c = (bif Nat.beq ch 40 then readR n t ps [] else bif Nat.ble 48 ch && Nat.ble ch 57 then (bif Nat.ble n (ch - 48) then none else readR n t ps (c ++ [ch - 48]))
    else bif Nat.beq ch 41 then readR n t (closeC c c.length ps) c else readR n t ps c) := rfl

/-- Behind the loop of the reference's Parse: what has been read. -/
def RdR (R : Option (List Nat)) (n g : Nat) (W : World) : Prop := ∃ qs, R = some qs ∧ qs.length = n ∧ Blk W g qs

set_option maxRecDepth 100000 in
set_option maxHeartbeats 4000000 in
theorem rparse_any (s : ByteArray) (n : Nat) (R : Option (List Nat)) (w : World) (h1 : 1 ≤ n) (h7 : n ≤ 7) (hs : s.size ≤ 28) (hR : readR n (codes s) (List.range n) [] = R) :
    Calls Tryd.prog 14 #[.string s, .int .i64 n] w fun e w' =>
      (∃ qs g, R = some qs ∧ Parsed n s qs ∧ e = .returned (.tuple #[.slice (some ⟨g, 0, none⟩) n n, .bool true]) ∧ w.heap.size ≤ g ∧ Blk w' g qs ∧ Below w.heap.size w w') ∨
      ((∀ qs, ¬ (R = some qs ∧ Parsed n s qs)) ∧ e = .returned (.tuple #[.slice none 0 0, .bool false]) ∧ Below w.heap.size w w') := by
  have HI := Lib.hid (rident_any n w h7)
  have HR := Lib.hid hR
  clear hR
  go_enter Tryd.func14, Tryd.ntmps14
  go_wp2_with fail
  refine HI.out.mono ?_
  rintro e w1 ⟨g, rfl, hg, hb, hB⟩
  have hgl := hb.lt
  have HB1 := Lib.hid hb
  have HBW := Lib.hid hB
  clear hb hB
  go_wp2_with fail
  go_loopw [7, 8, 9] (fun cv i _ W => ∃ (k : Nat) (ps c : List Nat), k ≤ s.size ∧ i = .int .i64 k ∧ c.length ≤ k ∧ (∀ j, j < c.length → c[j]?.getD 0 < n) ∧ ps.length = n ∧ readR n ((codes s).drop k) ps c = R ∧ W.ownsRow w1.heap.size 3 1 cv c.length (natCells c) ∧ Blk W g ps ∧ Only (fun k => k = g) w1 W) (fun _ i _ _ => s.size - (intOf i).toNat)
  case atStart => exact ⟨0, List.range n, [], Nat.zero_le _, rfl, Nat.zero_le _, (fun j hj => by simp at hj), List.length_range, HR.out, World.ownsRow_nil _ _ _ _, HB1.out, Only.refl _ _⟩
  case round =>
    obtain ⟨k, ps, c, hk, rfl, hck, hcn, hpn, hrd, hown, hbk, hO⟩ := hrel
    obtain ⟨ac, pc, rfl⟩ := owns_slice hown
    have hsz := hO.size
    have HCN := Lib.hid hcn
    have HPN := Lib.hid hpn
    have HBK := Lib.hid hbk
    have HO := Lib.hid hO
    have HOWN := Lib.hid hown
    clear hcn hpn hbk hO hown
    by_cases hks : k < s.size
    · have hdr := codes_drop s k hks
      obtain ⟨ch, hc⟩ : ∃ c, s[k].toNat = c := ⟨_, rfl⟩
      have hc8 : ch < 256 := by rw [← hc]; exact s[k].toNat_lt
      rw [hc] at hdr
      rw [hdr, rr_eq] at hrd
      have HRD := Lib.hid hrd
      clear hdr hrd
      by_cases h40 : ch = 40
      · subst h40
        have HRD2 := Lib.hid (show readR n ((codes s).drop (k + 1)) ps [] = R from HRD.out)
        go_wp2_with fail
        go_roundw
        case rel => exact ⟨k + 1, ps, [], by omega, by go_num, Nat.zero_le _, (fun j hj => by simp at hj), HPN.out, HRD2.out, World.ownsRow_nil _ _ _ _, HBK.out, HO.out⟩
        case measure => simp [intOf]; omega
      · have e40 : ((ch : Int) == 40) = false := by rw [beq_eq_false_iff_ne]; omega
        have b40 : Nat.beq ch 40 = false := by rw [Bool.eq_false_iff]; intro h; exact h40 (Nat.eq_of_beq_eq_true h)
        by_cases hd : 48 ≤ ch ∧ ch ≤ 57
        · obtain ⟨hd1, hd2⟩ := hd
          have bd : (Nat.ble 48 ch && Nat.ble ch 57) = true := by rw [Bool.and_eq_true, Nat.ble_eq, Nat.ble_eq]; exact ⟨hd1, hd2⟩
          have hr2 := HRD.out
          rw [b40, bd] at hr2
          simp only [cond_false, cond_true] at hr2
          have e41 : ((ch : Int) == 41) = false := by rw [beq_eq_false_iff_ne]; omega
          have i1 : (48 : Int) ≤ ch := by omega
          have i2 : (ch : Int) ≤ 57 := by omega
          have i3 : 0 ≤ (ch : Int) - 48 := by omega
          have i4 : (ch : Int) - 48 ≤ 9 := by omega
          by_cases hx : n ≤ ch - 48
          · have bx : Nat.ble n (ch - 48) = true := by rw [Nat.ble_eq]; exact hx
            rw [bx] at hr2
            have HRN := Lib.hid (show R = none from hr2.symm)
            have i5 : (n : Int) ≤ (ch : Int) - 48 := by omega
            clear bd b40 bx hr2
            go_wp2_with fail
            go_ret2
            exact .inr ⟨(fun qs h => by rw [HRN.out] at h; cases h.1), rfl, HBW.out.trans (HO.out.below HBW.out.size (fun k e => by omega))⟩
          · have bx : Nat.ble n (ch - 48) = false := by rw [Bool.eq_false_iff, ne_eq, Nat.ble_eq]; exact hx
            rw [bx] at hr2
            simp only [cond_false] at hr2
            have HRD2 := Lib.hid hr2
            have i5 : (ch : Int) - 48 < (n : Int) := by omega
            have i6 : ¬ (n : Int) ≤ (ch : Int) - 48 := by omega
            have hxx : (ch : Int) - 48 = ((ch - 48 : Nat) : Int) := by omega
            have HXX := Lib.hid hxx
            clear bd b40 bx hr2 hxx
            go_wp2_with (at_builtin; refine app_list rfl _ _ 22 rfl Tryd.underlying22 w1.heap.size (.slice ac c.length pc) c.length (natCells c) rfl (HOWN.out.alloc _) ⟨wr.heap.size, 0, none⟩ 1 1 [.int .i64 ((ch : Int) - 48)] rfl rfl (cell_one_new _ _ _) (by simp [Value.oneCell']) (by omega) (by simp; omega) ?_; intro vp2 w2 hop2 hgrow2 hfresh2 _; obtain ⟨a2, p2, rfl⟩ := owns_slice hop2; have HOP2 := Lib.hid hop2; have HG2 := Lib.hid hgrow2; clear hop2 hgrow2 hfresh2)
            go_roundw
            case rel =>
              have hne : ∀ g', (Value.slice ac c.length pc).ownBlock = some g' → w1.heap.size ≤ g' := fun g' hg' => (HOWN.out.lt g' hg').1
              refine ⟨k + 1, ps, c ++ [ch - 48], by omega, by go_num, by simp; omega, fun j hj => ?_, HPN.out, HRD2.out, ?_, ?_, (HO.out.alloc _).grown HG2.out (fun k e hk => by have := hne k e; omega)⟩
              · by_cases hjc : j < c.length
                · rw [List.getElem?_append_left hjc]; exact HCN.out j hjc
                · have : j = c.length := by simp at hj; omega
                  subst this
                  simp; omega
              · have := HOP2.out
                rw [HXX.out, ← natCells_snoc] at this
                rw [List.length_append]; exact this
              · have hgb : g < wr.heap.size := by omega
                have : w2.heap[g]? = wr.heap[g]? := (HG2.out.block g (by simp; omega) (fun e => by have := hne g e.symm; omega)).trans (Below.heap_alloc wr _ g hgb)
                exact this.trans HBK.out
            case measure => simp [intOf]; omega
        · have bd : (Nat.ble 48 ch && Nat.ble ch 57) = false := by
            rw [Bool.eq_false_iff, ne_eq, Bool.and_eq_true, Nat.ble_eq, Nat.ble_eq]; exact hd
          have hr2 := HRD.out
          rw [b40, bd] at hr2
          simp only [cond_false] at hr2
          by_cases h41 : ch = 41
          · subst h41
            have HRD2 := Lib.hid (show readR n ((codes s).drop (k + 1)) (closeC c c.length ps) c = R from hr2)
            clear hr2 bd b40 hd
            go_wp2_with fail
            obtain ⟨wo, rfl⟩ : ∃ wo : World, wo = wr := ⟨_, rfl⟩
            go_loopw [10] (fun ki W => ∃ m : Nat, m ≤ c.length ∧ ki = .int .i64 m ∧ Blk W g (closeC c m ps) ∧ Only (fun k => k = g) wo W) (fun ki _ => c.length - (intOf ki).toNat)
            case atStart => exact ⟨0, Nat.zero_le _, rfl, HBK.out, Only.refl _ _⟩
            case round =>
              obtain ⟨m, hm, rfl, hbm, hOm⟩ := hrel
              by_cases hmn : m < c.length
              · obtain ⟨gc, pc2, hv⟩ := owns_pos HOWN.out (by omega)
                cases hv
                have hor := owns_only2 (S := fun k => k = g) HOWN.out hOm rfl (fun e => by have h9 := (HOWN.out.lt gc rfl).1; have e' : gc = g := e; omega)
                have hml : (m + 1) % c.length < c.length := Nat.mod_lt _ (by omega)
                have c1 := hor.cellAt m (by omega)
                have c2 := hor.cellAt ((m + 1) % c.length) (by omega)
                have hg1 : (natCells c)[m]? = some (.int .i64 ((c[m]?.getD 0 : Nat) : Int)) := by simp [natCells, hmn]
                have hg2 : (natCells c)[(m + 1) % c.length]? = some (.int .i64 ((c[(m + 1) % c.length]?.getD 0 : Nat) : Int)) := by simp [natCells, hml]
                rw [hg1] at c1
                rw [hg2] at c2
                have hxn := HCN.out m hmn
                obtain ⟨x, hx⟩ : ∃ x, c[m]?.getD 0 = x := ⟨_, rfl⟩
                obtain ⟨y, hy⟩ : ∃ y, c[(m + 1) % c.length]?.getD 0 = y := ⟨_, rfl⟩
                obtain ⟨r, hr⟩ : ∃ r, (m + 1) % c.length = r := ⟨_, rfl⟩
                rw [hx] at c1 hxn
                rw [hy] at c2
                rw [hr] at c2 hml
                have c3 := hbm.cellAt (j := x) (by rw [closeC_length, HPN.out]; exact hxn)
                have f3 := hbm.frozenAt x
                have hput := hbm.put x y
                have hcs := closeC_succ c m ps
                rw [hx, hy] at hcs
                rw [← hcs] at hput
                have HPUT := Lib.hid hput
                have hrt : ((m : Int) + 1).tmod (c.length : Int) = (r : Int) := by
                  rw [← hr, Int.natCast_emod, ← Int.tmod_eq_emod_of_nonneg (by omega)]; simp
                have hre : ((m : Int) + 1) % (c.length : Int) = (r : Int) := by rw [← hr]; simp
                have HOM := Lib.hid hOm
                have hw1 : IntKind.i64.wrap ((m : Int) + 1) = (m : Int) + 1 := IntWalk.i64_in _ (by omega)
                have hw2 : IntKind.i64.wrap (r : Int) = (r : Int) := IntWalk.i64_in _ (by omega)
                have hcz : ¬ (c.length : Int) = 0 := by omega
                have hr0 : (0 : Int) ≤ (r : Int) := by omega
                have hrl : (r : Int) < (c.length : Int) := by omega
                clear hx hy hr hcs hput hbm hOm hg1 hg2 hor
                go_wp2_with fail
                go_region
                go_wp2_with fail
                go_roundw
                case rel => exact ⟨m + 1, by omega, by go_num, HPUT.out, (HOM.out.setCell (p := ⟨g, x, none⟩) rfl _).drew⟩
                case measure => simp [intOf]; omega
              · have hme : m = c.length := by omega
                have HME := Lib.hid hme
                have HBM := Lib.hid hbm
                have HOM := Lib.hid hOm
                clear hme hbm hOm
                go_wp2_with fail
                go_roundw
                case rel =>
                  refine ⟨k + 1, closeC c c.length ps, c, by omega, by go_num, by omega, HCN.out, by rw [closeC_length]; exact HPN.out, HRD2.out, ?_, by rw [← HME.out]; exact HBM.out, HO.out.trans HOM.out⟩
                  exact owns_only3D HOWN.out HOM.out (fun g' hg' e => by have := (HOWN.out.lt g' hg').1; omega)
                case measure => simp [intOf]; omega
          · have e41 : ((ch : Int) == 41) = false := by rw [beq_eq_false_iff_ne]; omega
            have b41 : Nat.beq ch 41 = false := by rw [Bool.eq_false_iff]; intro h; exact h41 (Nat.eq_of_beq_eq_true h)
            rw [b41] at hr2
            have HRD2 := Lib.hid (show readR n ((codes s).drop (k + 1)) ps c = R from hr2)
            clear hr2 bd b40 b41
            by_cases hlo : 48 ≤ ch
            · have i1 : (48 : Int) ≤ ch := by omega
              have i2 : ¬ (ch : Int) ≤ 57 := by omega
              go_wp2_with fail
              go_roundw
              case rel => exact ⟨k + 1, ps, c, by omega, by go_num, by omega, HCN.out, HPN.out, HRD2.out, HOWN.out, HBK.out, HO.out⟩
              case measure => simp [intOf]; omega
            · have i1 : ¬ (48 : Int) ≤ ch := by omega
              go_wp2_with fail
              go_roundw
              case rel => exact ⟨k + 1, ps, c, by omega, by go_num, by omega, HCN.out, HPN.out, HRD2.out, HOWN.out, HBK.out, HO.out⟩
              case measure => simp [intOf]; omega
    · have hke : (codes s).drop k = [] := List.drop_of_length_le (by rw [codes_length]; omega)
      rw [hke] at hrd
      have HRN := Lib.hid (show R = some ps from hrd.symm)
      have hsl := SlI.of_blk HBK.out HPN.out (by omega)
      have hB : Below w.heap.size w wr := HBW.out.trans (HO.out.below HBW.out.size (fun k e => by omega))
      clear hke hrd
      by_cases hperm : IsPerm ps
      · have HV := Lib.hid (rvalid_yes _ _ wr hsl (valI_perm hperm))
        clear hsl
        go_wp2_with fail
        refine HV.out.mono ?_
        rintro e w2 ⟨rfl, hw2⟩
        have hB2 : Below wr.heap.size wr w2 := by obtain ⟨q, rfl⟩ := hw2; exact below_drewN' (Below.refl _ _) q
        have hbk2 := HBK.out.below hB2 HBK.out.lt
        have HT := Lib.hid (rtext_ok g 0 n n ps w2 hperm HPN.out hbk2.lt hbk2.rd)
        have HB2 := Lib.hid hB2
        have HBK2 := Lib.hid hbk2
        clear hw2 hB2 hbk2
        by_cases he : strOf (textN ps) = s
        · have hb1 : ((strOf (textN ps)).toList == s.toList) = true := by rw [he]; exact beq_self_eq_true _
          have HP := Lib.hid (show Parsed n s ps from ⟨hperm, HPN.out, he⟩)
          clear he hperm
          go_wp2_with fail
          refine HT.out.mono ?_
          rintro e w3 ⟨rfl, hB3⟩
          go_wp2_with fail
          go_ret2
          exact .inl ⟨ps, g, HRN.out, HP.out, rfl, hg, HBK2.out.below hB3 HBK2.out.lt, hB.trans ((HB2.out.trans (hB3.mono HB2.out.size)).mono hB.size)⟩
        · have hb1 : ((strOf (textN ps)).toList == s.toList) = false := by rw [beq_eq_false_iff_ne]; exact fun e => he (toList_inj e)
          have HP := Lib.hid (show ¬ Parsed n s ps from fun h => he h.2.2)
          clear he hperm
          go_wp2_with fail
          refine HT.out.mono ?_
          rintro e w3 ⟨rfl, hB3⟩
          go_wp2_with fail
          go_ret2
          exact .inr ⟨(fun qs h => by have h1 := h.1; rw [HRN.out] at h1; cases h1; exact HP.out h.2), rfl, hB.trans ((HB2.out.trans (hB3.mono HB2.out.size)).mono hB.size)⟩
      · have hv : valI (ints ps) = false := by
          rw [Bool.eq_false_iff]
          intro hv
          obtain ⟨rs, he, hr⟩ := perm_valI hv
          have : ps = rs := by
            have h1 := congrArg (List.map Int.toNat) he
            simpa [ints, List.map_map, Function.comp_def] using h1
          exact hperm (this ▸ hr)
        have HV := Lib.hid (rvalid_no _ _ wr hsl hv)
        clear hsl hv
        go_wp2_with fail
        refine HV.out.mono ?_
        rintro e w2 ⟨rfl, hw2⟩
        have hB2 : Below wr.heap.size wr w2 := by obtain ⟨q, rfl⟩ := hw2; exact below_drewN' (Below.refl _ _) q
        clear hw2
        go_wp2_with fail
        go_ret2
        exact .inr ⟨(fun qs h => by have h1 := h.1; rw [HRN.out] at h1; cases h1; exact hperm h.2.1), rfl, hB.trans (hB2.mono hB.size)⟩
end Go.Proofs.YtdpnmepplkiljaaDoor
