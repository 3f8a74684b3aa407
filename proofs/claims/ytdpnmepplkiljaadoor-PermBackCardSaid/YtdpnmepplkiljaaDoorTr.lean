/-
  Contracts of readCycles and Parse of package perm at every string.
-/
import Derived.Test.YtdpnmepplkiljaaDoorTx
namespace Go.Proofs.YtdpnmepplkiljaaDoor
open Go.RowKit Go.Shelf

def RPost (R : Option (List Nat)) (g : Nat) (e : Ending) (w' : World) : Prop := match R with
  | some qs => e = .returned (.bool true) ∧ Blk w' g qs
  | none => e = .returned (.bool false)

theorem Blk.cellAt {w : World} {g : Nat} {ps : List Nat} (h : Blk w g ps) {j : Nat} (hj : j < ps.length) : w.cell? ⟨g, j, none⟩ = some (.int .i64 ((ps[j]?.getD 0 : Nat) : Int)) := by
  have := h.rd j hj
  rwa [Nat.zero_add] at this
theorem Blk.frozenAt {w : World} {g : Nat} {ps : List Nat} (h : Blk w g ps) (j : Nat) : w.frozen? ⟨g, j, none⟩ = false := Lib.frozen_of_heap h j
theorem Blk.put {w : World} {g : Nat} {ps : List Nat} (h : Blk w g ps) (j x : Nat) : Blk (w.setCell ⟨g, j, none⟩ (.int .i64 (x : Int))) g (ps.set j x) := by
  have := heap_setCell_same w g j _ 3 (.int .i64 (x : Int)) h
  unfold Blk
  rw [this]
  congr 2
  unfold natCells
  rw [List.setIfInBounds_toArray, List.map_set]

def slotsFl (fl : Option (Nat × Nat)) : Value × Value := match fl with
  | none => (.int .i64 (-1), .int .i64 (-1))
  | some (f, l) => (.int .i64 (f : Int), .int .i64 (l : Int))
def FlOk (n : Nat) (fl : Option (Nat × Nat)) : Prop := ∀ f l, fl = some (f, l) → f < n ∧ l < n

theorem codes_drop (s : ByteArray) (k : Nat) (h : k < s.size) : (codes s).drop k = s[k].toNat :: (codes s).drop (k + 1) := by
  have hk : k < (codes s).length := by rw [codes_length]; exact h
  rw [List.drop_eq_getElem_cons hk]
  congr 1
  simp [codes]
  rfl

set_option maxRecDepth 100000 in
set_option maxHeartbeats 4000000 in
theorem read_any (g n cap : Nat) (ps0 : List Nat) (s : ByteArray) (R : Option (List Nat)) (w : World) (hb : Blk w g ps0) (hn : ps0.length = n) (h7 : n ≤ 7) (hs : s.size ≤ 100000) (hR : readA n (codes s) ps0 none = R) :
    Calls Tryd.prog 31 #[.slice (some ⟨g, 0, none⟩) n cap, .string s] w fun e w' => RPost R g e w' ∧ Only (fun k => k = g) w w' := by
  have HR := Lib.hid hR
  have HN := Lib.hid hn
  have HB := Lib.hid hb
  clear hR hn hb
  go_enter Tryd.func31, Tryd.ntmps31
  go_wp2_with fail
  go_loopw [5, 6, 12] (fun fv lv i W => ∃ (k : Nat) (ps : List Nat) (fl : Option (Nat × Nat)), k ≤ s.size ∧ i = .int .i64 k ∧ fv = (slotsFl fl).1 ∧ lv = (slotsFl fl).2 ∧ FlOk n fl ∧ ps.length = n ∧ readA n ((codes s).drop k) ps fl = R ∧ Blk W g ps ∧ Only (fun k => k = g) w W) (fun _ _ i _ => s.size - (intOf i).toNat)
  case atStart => exact ⟨0, ps0, none, Nat.zero_le _, rfl, rfl, rfl, (fun f l h => by cases h), HN.out, HR.out, HB.out, Only.refl _ _⟩
  case round =>
    obtain ⟨k, ps, fl, hk, rfl, rfl, rfl, hfl, hpn, hrd, hbk, hO⟩ := hrel
    by_cases hks : k < s.size
    · have hdr := codes_drop s k hks
      obtain ⟨c, hc⟩ : ∃ c, s[k].toNat = c := ⟨_, rfl⟩
      have hc8 : c < 256 := by rw [← hc]; exact s[k].toNat_lt
      rw [hc] at hdr
      rw [hdr] at hrd
      have HRD := Lib.hid hrd
      have HPN := Lib.hid hpn
      have HBK := Lib.hid hbk
      have HO := Lib.hid hO
      have HFL := Lib.hid hfl
      clear hdr hrd hpn hbk hO hfl
      by_cases h40 : c = 40
      · subst h40
        have hrd := HRD.out
        unfold readA at hrd
        have HRD2 := Lib.hid (show readA n ((codes s).drop (k + 1)) ps none = R from hrd)
        clear hrd
        go_wp2_with fail
        go_roundw
        case rel => exact ⟨k + 1, ps, none, by omega, by go_num, rfl, rfl, (fun f l h => by cases h), HPN.out, HRD2.out, HBK.out, HO.out⟩
        case measure => simp [intOf]; omega
      · by_cases h41 : c = 41
        · subst h41
          have hrd := HRD.out
          unfold readA at hrd
          rcases fl with _ | ⟨f, l⟩
          · have HRD2 := Lib.hid (show readA n ((codes s).drop (k + 1)) ps none = R from hrd)
            clear hrd
            simp only [slotsFl]
            go_wp2_with fail
            go_roundw
            case rel => exact ⟨k + 1, ps, none, by omega, by go_num, rfl, rfl, (fun f l h => by cases h), HPN.out, HRD2.out, HBK.out, HO.out⟩
            case measure => simp [intOf]; omega
          · have HRD2 := Lib.hid (show readA n ((codes s).drop (k + 1)) (ps.set l f) (some (f, l)) = R from hrd)
            have hfn := (HFL.out f l rfl).1
            have hln := (HFL.out f l rfl).2
            have cl := HBK.out.cellAt (j := l) (by rw [HPN.out]; exact hln)
            have fl := HBK.out.frozenAt l
            have hfe : ((f : Int) == -1) = false := by rw [beq_eq_false_iff_ne]; omega
            simp only [slotsFl]
            clear hrd
            go_wp2_with fail
            go_roundw
            case rel => exact ⟨k + 1, ps.set l f, some (f, l), by omega, by go_num, rfl, rfl, HFL.out, by rw [List.length_set]; exact HPN.out, HRD2.out, HBK.out.put l f, HO.out.setCell (p := ⟨g, l, none⟩) rfl _⟩
            case measure => simp [intOf]; omega
        · by_cases h32 : c = 32
          · subst h32
            have hrd := HRD.out
            unfold readA at hrd
            have HRD2 := Lib.hid (show readA n ((codes s).drop (k + 1)) ps fl = R from hrd)
            clear hrd
            go_wp2_with fail
            go_roundw
            case rel => exact ⟨k + 1, ps, fl, by omega, by go_num, rfl, rfl, HFL.out, HPN.out, HRD2.out, HBK.out, HO.out⟩
            case measure => simp [intOf]; omega
          · have e40 : ((c : Int) == 40) = false := by rw [beq_eq_false_iff_ne]; omega
            have e41 : ((c : Int) == 41) = false := by rw [beq_eq_false_iff_ne]; omega
            have e32 : ((c : Int) == 32) = false := by rw [beq_eq_false_iff_ne]; omega
            have b40 : Nat.beq c 40 = false := by rw [Bool.eq_false_iff]; intro h; exact h40 (Nat.eq_of_beq_eq_true h)
            have b41 : Nat.beq c 41 = false := by rw [Bool.eq_false_iff]; intro h; exact h41 (Nat.eq_of_beq_eq_true h)
            have b32 : Nat.beq c 32 = false := by rw [Bool.eq_false_iff]; intro h; exact h32 (Nat.eq_of_beq_eq_true h)
            have hrd := HRD.out
            unfold readA at hrd
            rw [b40, b41, b32] at hrd
            simp only [cond_false] at hrd
            have HRD2 := Lib.hid hrd
            clear hrd b40 b41 b32
            by_cases hlo : c < 48
            · have hlo' : (c : Int) - 48 < 0 := by omega
              have hb : Nat.blt c 48 = true := by rw [Nat.blt_eq]; exact hlo
              have hrn : R = none := by have := HRD2.out; rw [hb] at this; exact this.symm
              have HRN := Lib.hid hrn
              clear hb hrn
              go_wp2_with fail
              go_ret
              exact ⟨by rw [HRN.out]; rfl, HO.out⟩
            · have hb : Nat.blt c 48 = false := by rw [Bool.eq_false_iff, ne_eq, Nat.blt_eq]; exact hlo
              have hlo' : 0 ≤ (c : Int) - 48 := by omega
              have hlo'' : ¬ (c : Int) - 48 < 0 := by omega
              have hr2 := HRD2.out
              rw [hb] at hr2
              simp only [cond_false] at hr2
              have HRD3 := Lib.hid hr2
              clear hb hr2 HRD2
              by_cases hhi : n ≤ c - 48
              · have hhi' : (n : Int) ≤ (c : Int) - 48 := by omega
                have hb : Nat.ble n (c - 48) = true := by rw [Nat.ble_eq]; exact hhi
                have hrn : R = none := by have := HRD3.out; rw [hb] at this; exact this.symm
                have HRN := Lib.hid hrn
                clear hb hrn
                go_wp2_with fail
                go_ret
                exact ⟨by rw [HRN.out]; rfl, HO.out⟩
              · have hhi' : (c : Int) - 48 < (n : Int) := by omega
                have hhi'' : ¬ (n : Int) ≤ (c : Int) - 48 := by omega
                have hb : Nat.ble n (c - 48) = false := by rw [Bool.eq_false_iff, ne_eq, Nat.ble_eq]; exact hhi
                have hr2 := HRD3.out
                rw [hb] at hr2
                simp only [cond_false] at hr2
                have hcx : (c : Int) - 48 = ((c - 48 : Nat) : Int) := by omega
                have HCX := Lib.hid hcx
                clear hb hcx
                rcases fl with _ | ⟨f, l⟩
                · have HRD4 := Lib.hid hr2
                  clear hr2
                  simp only [slotsFl]
                  go_wp2_with fail
                  go_roundw
                  case rel => exact ⟨k + 1, ps, some (c - 48, c - 48), by omega, by go_num, by simp only [slotsFl]; rw [HCX.out], by simp only [slotsFl]; rw [HCX.out], (fun f l h => by cases h; omega), HPN.out, HRD4.out, HBK.out, HO.out⟩
                  case measure => simp [intOf]; omega
                · have HRD4 := Lib.hid hr2
                  have hfn := (HFL.out f l rfl).1
                  have hln := (HFL.out f l rfl).2
                  have cl := HBK.out.cellAt (j := l) (by rw [HPN.out]; exact hln)
                  have fl := HBK.out.frozenAt l
                  have hfe : ((f : Int) == -1) = false := by rw [beq_eq_false_iff_ne]; omega
                  simp only [slotsFl]
                  clear hr2
                  go_wp2_with fail
                  go_roundw
                  case rel => exact ⟨k + 1, ps.set l (c - 48), some (f, c - 48), by omega, by go_num, rfl, by simp only [slotsFl]; rw [HCX.out], (fun f' l' h => by cases h; exact ⟨hfn, by omega⟩), by rw [List.length_set]; exact HPN.out, HRD4.out, by rw [HCX.out]; exact HBK.out.put l (c - 48), HO.out.setCell (p := ⟨g, l, none⟩) rfl _⟩
                  case measure => simp [intOf]; omega
    · have hke : (codes s).drop k = [] := List.drop_of_length_le (by rw [codes_length]; omega)
      rw [hke] at hrd
      have hrn : R = some ps := hrd.symm
      have HRN := Lib.hid hrn
      have HBK := Lib.hid hbk
      have HO := Lib.hid hO
      clear hke hrd hrn hbk hO hpn hfl
      go_wp2_with fail
      go_ret
      exact ⟨by rw [HRN.out]; exact ⟨rfl, HBK.out⟩, HO.out⟩

theorem toList_inj {a b : ByteArray} (h : a.toList = b.toList) : a = b := by
  rw [Lib.toList_data, Lib.toList_data] at h
  cases a
  cases b
  simpa using h

theorem parse_n (s : ByteArray) (n : Int) (w : World) (hn : n < 1 ∨ 7 < n) :
    Calls Tryd.prog 12 #[.string s, .int .i64 n] w fun e w' => e = .returned (.tuple #[.slice none 0 0, .int .i64 2]) ∧ Below w.heap.size w w' := by
  have HI := Lib.hid (identity_bad n w hn)
  clear hn
  go_enter Tryd.func12, Tryd.ntmps12
  go_wp2_with fail
  refine HI.out.mono ?_
  rintro e w1 ⟨rfl, rfl⟩
  go_wp2_with fail
  go_ret2
  exact ⟨rfl, Below.refl _ _⟩

set_option maxRecDepth 100000 in
set_option maxHeartbeats 4000000 in
theorem parse_no (s : ByteArray) (n : Nat) (w : World) (h1 : 1 ≤ n) (h7 : n ≤ 7) (hs : s.size ≤ 100000) (hno : ∀ qs, ¬ Parsed n s qs) :
    Calls Tryd.prog 12 #[.string s, .int .i64 n] w fun e w' => e = .returned (.tuple #[.slice none 0 0, .int .i64 3]) ∧ Below w.heap.size w w' := by
  have HI := Lib.hid (identity_ok n w h1 h7)
  have HNO := Lib.hid hno
  clear hno
  go_enter Tryd.func12, Tryd.ntmps12
  go_wp2_with fail
  refine HI.out.mono ?_
  rintro e w1 ⟨g, rfl, hg, hb, hB⟩
  obtain ⟨R, hR⟩ : ∃ R, readA n (codes s) (List.range n) none = R := ⟨_, rfl⟩
  have hrd := read_any g n n (List.range n) s R w1 hb List.length_range h7 hs hR
  have HRD := Lib.hid hrd
  have HR := Lib.hid hR
  clear hrd hR hb
  go_wp2_with fail
  refine HRD.out.mono ?_
  rintro e w2 ⟨hp, hO⟩
  have hB2 : Below w.heap.size w w2 := hB.trans (hO.below hB.size (fun k e => by omega))
  rcases R with _ | qs
  · obtain rfl : e = .returned (.bool false) := hp
    go_wp2_with fail
    go_ret2
    exact ⟨rfl, hB2⟩
  · obtain ⟨rfl, hb2⟩ := hp
    have hql : qs.length = n := by rw [readA_length n _ _ _ _ HR.out, List.length_range]
    have hsl := SlI.of_blk hb2 hql (by omega)
    by_cases hperm : IsPerm qs
    · have hne : strOf (textN qs) ≠ s := fun e => HNO.out qs ⟨hperm, hql, e⟩
      have HT := Lib.hid (text_ok _ qs w2 hsl hperm)
      have hb1 : ((strOf (textN qs)).toList == s.toList) = false := by rw [beq_eq_false_iff_ne]; exact fun e => hne (toList_inj e)
      clear hsl hb2 hperm hql
      go_wp2_with fail
      refine HT.out.mono ?_
      rintro e w3 ⟨rfl, hB3⟩
      go_wp2_with fail
      go_ret2
      exact ⟨rfl, hB2.trans (hB3.mono hB2.size)⟩
    · have hv : valI (ints qs) = false := by
        rw [Bool.eq_false_iff]
        intro hv
        obtain ⟨rs, he, hr⟩ := perm_valI hv
        have : qs = rs := by
          have h1 := congrArg (List.map Int.toNat) he
          simpa [ints, List.map_map, Function.comp_def] using h1
        exact hperm (this ▸ hr)
      have HT := Lib.hid (text_bad _ _ w2 hsl hv)
      clear hsl hb2 hperm hql hv
      go_wp2_with fail
      refine HT.out.mono ?_
      rintro e w3 ⟨rfl, hB3⟩
      go_wp2_with fail
      go_ret2
      exact ⟨rfl, hB2.trans (hB3.mono hB2.size)⟩

set_option maxRecDepth 100000 in
set_option maxHeartbeats 4000000 in
theorem parse_yes (s : ByteArray) (n : Nat) (qs : List Nat) (w : World) (h1 : 1 ≤ n) (h7 : n ≤ 7) (hs : s.size ≤ 100000) (hq : Parsed n s qs) :
    Calls Tryd.prog 12 #[.string s, .int .i64 n] w fun e w' => ∃ g, e = .returned (.tuple #[.slice (some ⟨g, 0, none⟩) n n, .int .i64 0]) ∧ w.heap.size ≤ g ∧ Blk w' g qs ∧ Below w.heap.size w w' := by
  have HI := Lib.hid (identity_ok n w h1 h7)
  have HQ := Lib.hid hq
  clear hq
  go_enter Tryd.func12, Tryd.ntmps12
  go_wp2_with fail
  refine HI.out.mono ?_
  rintro e w1 ⟨g, rfl, hg, hb, hB⟩
  have hrd := read_any g n n (List.range n) s (some qs) w1 hb List.length_range h7 hs HQ.out.facts.2.1
  have HRD := Lib.hid hrd
  clear hrd hb
  go_wp2_with fail
  refine HRD.out.mono ?_
  rintro e w2 ⟨hp, hO⟩
  have hB2 : Below w.heap.size w w2 := hB.trans (hO.below hB.size (fun k e => by omega))
  obtain ⟨rfl, hb2⟩ := hp
  have hsl := SlI.of_blk hb2 HQ.out.2.1 (by omega)
  have HT := Lib.hid (text_ok _ qs w2 hsl HQ.out.1)
  have hb1 : ((strOf (textN qs)).toList == s.toList) = true := by rw [HQ.out.2.2]; exact beq_self_eq_true _
  have HBK := Lib.hid hb2
  clear hsl hb2
  go_wp2_with fail
  refine HT.out.mono ?_
  rintro e w3 ⟨rfl, hB3⟩
  go_wp2_with fail
  go_ret2
  exact ⟨g, rfl, hg, HBK.out.below hB3 HBK.out.lt, hB2.trans (hB3.mono hB2.size)⟩
end Go.Proofs.YtdpnmepplkiljaaDoor
