/-
  Contracts of back and Valid of package perm: back at a valid permutation, Valid at every slice.
-/
import Derived.Test.YtdpnmepplkiljaaDoorB
namespace Go.Proofs.YtdpnmepplkiljaaDoor
open Go.RowKit

/-! ### back -/
def backN (ps : List Nat) : List Nat := (List.range ps.length).map fun j => if ps.idxOf j < ps.length then ps.idxOf j else 0

theorem backN_length (ps : List Nat) : (backN ps).length = ps.length := by simp [backN]

def backPart (ps : List Nat) (n k : Nat) : List Value := (List.range n).map fun j => if ps.idxOf j < k then Value.int .i64 ((ps.idxOf j : Nat) : Int) else .int .i64 0

theorem backPart_zero (ps : List Nat) (n : Nat) : (madeCells (Value.int .i64 0).cells (n * 1)).toList = backPart ps n 0 := by
  rw [zeros_range]; simp [backPart]

theorem backPart_succ (ps : List Nat) (n k : Nat) (hp : ps.length = n) (hd : ps.Nodup) (hk : k < n) :
    (backPart ps n k).set (ps[k]?.getD 0) (.int .i64 (k : Int)) = backPart ps n (k + 1) := by
  have hk' : k < ps.length := by omega
  have hix : ps.idxOf ps[k] = k := hd.idxOf_getElem k hk'
  have hg : ps[k]?.getD 0 = ps[k] := by simp [hk']
  rw [hg]
  unfold backPart
  rw [range_set]
  apply List.map_congr_left
  intro i _
  by_cases h : i = ps[k]
  · subst h
    rw [if_pos rfl, hix, if_pos (by omega)]
  · rw [if_neg h]
    have hne : ps.idxOf i ≠ k := fun e => h (by
      have hl : ps.idxOf i < ps.length := by omega
      have := List.getElem_idxOf hl
      simp only [e] at this
      exact this.symm)
    by_cases h2 : ps.idxOf i < k
    · rw [if_pos h2, if_pos (by omega)]
    · rw [if_neg h2, if_neg (by omega)]

theorem backPart_full (ps : List Nat) (n : Nat) (hp : ps.length = n) : backPart ps n n = natCells (backN ps) :=
  natCells_eq n _ (by rw [backN_length, hp]) _ (fun i hi => by
    simp only [backN, hp, List.getElem?_map, List.getElem?_range hi, Option.map_some, Option.getD_some]
    split <;> rfl)

set_option maxHeartbeats 1000000 in
theorem back_any (b off cap n : Nat) (ps : List Nat) (w : World) (h1 : 1 ≤ n) (h7 : n ≤ 7) (hp : ps.length = n) (hd : ps.Nodup) (hlt : ∀ k, k < n → ps[k]?.getD 0 < n)
    (hb : b < w.heap.size) (hrp : RdN w b off ps) :
    Calls Tryd.prog 35 #[.slice (some ⟨b, off, none⟩) n cap] w fun e w' =>
      ∃ g, e = .returned (.slice (some ⟨g, 0, none⟩) n n) ∧ w.heap.size ≤ g ∧ Blk w' g (backN ps) ∧ Below w.heap.size w w' := by
  obtain ⟨i0, hi, hz0, hz1, hz2⟩ := info_parts Tryd.info3
  have HP := Lib.hid hp
  have HD := Lib.hid hd
  have HLT := Lib.hid hlt
  clear hp hd hlt
  go_enter Tryd.func35, Tryd.ntmps35
  go_wp2_with (at_make; refine wpList_make_full _ rfl _ _ 23 rfl w.heap.size 3 i0 (.int .i64 0) 1 Tryd.underlying23 hi hz0 hz1 .i64 .i64 _ _ n rfl rfl rfl rfl (by rw [hz2]; omega) (by unfold maxLen; omega) (Nat.le_refl _) ?_; intro w1 hown hgrow)
  clear hi hz0 hz1 hz2
  have hB1 : Below w.heap.size w w1 := (Below.refl _ w).grown hgrow (Nat.le_refl _) (fun k e => by cases e)
  clear hgrow
  rw [backPart_zero ps] at hown
  go_loopw [11] (fun i wr => ∃ k : Nat, k ≤ n ∧ i = .int .i64 k ∧ wr.ownsRow w.heap.size 3 1 (.slice (some ⟨w.heap.size, 0, none⟩) n n) n (backPart ps n k) ∧ Below w.heap.size w wr) (fun i _ => n - (intOf i).toNat)
  case atStart => exact ⟨0, Nat.zero_le _, rfl, hown, hB1⟩
  case round =>
    clear hown hB1
    obtain ⟨k, hk, rfl, hown, hB⟩ := hrel
    by_cases hkn : k < n
    · have hx := HLT.out k hkn
      have c1 := hrp.below hB hb k (by rw [HP.out]; exact hkn)
      have c3 : wr.cell? ⟨w.heap.size, ps[k]?.getD 0, none⟩ = (backPart ps n k)[ps[k]?.getD 0]? := hown.cellAt _ (by omega)
      obtain ⟨v, c4⟩ : ∃ v, (backPart ps n k)[ps[k]?.getD 0]? = some v := ⟨_, List.getElem?_eq_getElem (by simp [backPart]; omega)⟩
      rw [c4] at c3
      have f3 := hown.frozenAt (ps[k]?.getD 0)
      have hst := hown.stored (ps[k]?.getD 0) (.int .i64 (k : Int))
      rw [backPart_succ ps n k HP.out HD.out hkn] at hst
      have HST := Lib.hid hst
      clear hst c4
      go_wp2
      go_roundw
      case rel => exact ⟨k + 1, by omega, by go_num, HST.out.1, hB.setCell (p := ⟨w.heap.size, _, none⟩) (Nat.le_refl _) _⟩
      case measure => simp [intOf]; omega
    · have hkn2 : k = n := by omega
      subst hkn2
      have hfull := hown
      rw [backPart_full ps k HP.out] at hfull
      go_wp2
      go_ret
      exact ⟨_, rfl, Nat.le_refl _, Blk.of_owns hfull, hB⟩

/-! ### Valid -/
def RdI (w : World) (b off : Nat) (l : List Int) : Prop := ∀ j, j < l.length → w.cell? ⟨b, off + j, none⟩ = some (.int .i64 (l[j]?.getD 0))

theorem RdI.below {B b off : Nat} {l : List Int} {w w' : World} (h : RdI w b off l) (hB : Below B w w') (hb : b < B) : RdI w' b off l :=
  fun j hj => (hB.cell (p := ⟨b, off + j, none⟩) hb).trans (h j hj)

def valI (l : List Int) : Bool := decide (1 ≤ l.length ∧ l.length ≤ 7 ∧ (∀ x ∈ l, 0 ≤ x ∧ x < l.length) ∧ l.Nodup)

def seenL (t : List Int) : List Value := (List.range 7).map fun (j : Nat) => Value.bool (decide ((j : Int) ∈ t))

theorem seenL_nil : seenL [] = [.bool false, .bool false, .bool false, .bool false, .bool false, .bool false, .bool false] := rfl

theorem seenL_set (t : List Int) (m : Nat) : (seenL t).set m (.bool true) = seenL (t ++ [(m : Int)]) := by
  unfold seenL
  rw [range_set]
  apply List.map_congr_left
  intro i _
  by_cases h : i = m
  · subst h; simp
  · have : ¬ (i : Int) = m := by omega
    simp [h, this]

theorem seenL_get (t : List Int) (m : Nat) (hm : m < 7) : (seenL t)[m]? = some (.bool (decide ((m : Int) ∈ t))) := by
  simp [seenL, hm]

theorem take_snocI (l : List Int) (k : Nat) (h : k < l.length) : l.take (k + 1) = l.take k ++ [l[k]?.getD 0] := by
  rw [List.take_succ_eq_append_getElem h]; simp [h]

theorem valid_short (a : Option Addr) (n cap : Nat) (w : World) (hn : n < 1 ∨ 7 < n) (hm : n ≤ 9223372036854775807) :
    Calls Tryd.prog 23 #[.slice a n cap] w fun e w' => e = .returned (.bool false) ∧ w = w' := by
  go_enter Tryd.func23, Tryd.ntmps23
  go_wp2_with (go_at_call 36; refine (fits_no _ _ (by omega)).mono ?_; rintro e w' ⟨rfl, rfl⟩)
  go_ret
  exact ⟨rfl, rfl⟩

set_option maxHeartbeats 1000000 in
theorem valid_mid (b off cap n : Nat) (l : List Int) (w : World) (h1 : 1 ≤ n) (h7 : n ≤ 7) (hp : l.length = n)
    (hb : b < w.heap.size) (hrp : RdI w b off l) :
    Calls Tryd.prog 23 #[.slice (some ⟨b, off, none⟩) n cap] w fun e w' => e = .returned (.bool (valI l)) ∧ Below w.heap.size w w' := by
  have HP := Lib.hid hp
  clear hp
  have hown0 : (w.alloc (.cells #[.bool false, .bool false, .bool false, .bool false, .bool false, .bool false, .bool false] 62)).ownsRow w.heap.size 62 1 (.slice (some ⟨w.heap.size, 0, none⟩) 7 7) 7 (seenL (l.take 0)) :=
    World.ownsRow_lit w _ 7 (Nat.le_refl _) (by unfold maxLen; omega) rfl
  have hB0 := (Below.refl w.heap.size w).alloc (Nat.le_refl _) (.cells #[.bool false, .bool false, .bool false, .bool false, .bool false, .bool false, .bool false] 62)
  go_enter Tryd.func23, Tryd.ntmps23
  go_wp2_with (go_at_call 36; refine (fits_yes _ _ (by omega) (by omega)).mono ?_; rintro e w' ⟨rfl, rfl⟩)
  go_loopw [12] (fun i wr => ∃ k : Nat, k ≤ n ∧ i = .int .i64 k ∧ (∀ j, j < k → 0 ≤ l[j]?.getD 0 ∧ l[j]?.getD 0 < n) ∧ (l.take k).Nodup ∧ wr.ownsRow w.heap.size 62 1 (.slice (some ⟨w.heap.size, 0, none⟩) 7 7) 7 (seenL (l.take k)) ∧ Below w.heap.size w wr) (fun i _ => n - (intOf i).toNat)
  case atStart => exact ⟨0, Nat.zero_le _, rfl, fun j hj => by omega, by simp, hown0, hB0⟩
  case round =>
    clear hown0 hB0
    obtain ⟨k, hk, rfl, hok, hnd, hown, hB⟩ := hrel
    have HOK := Lib.hid hok
    have HND := Lib.hid hnd
    clear hok hnd
    by_cases hkn : k < n
    · have hkl : k < l.length := by rw [HP.out]; exact hkn
      have hmem : l[k]?.getD 0 ∈ l := by simp [hkl]
      have hts := take_snocI l k hkl
      have HTS := Lib.hid hts
      clear hts
      have c1 := hrp.below hB hb k hkl
      obtain ⟨x, hx⟩ : ∃ x, l[k]?.getD 0 = x := ⟨_, rfl⟩
      rw [hx] at c1 hmem
      by_cases h0 : 0 ≤ x
      · obtain ⟨m, rfl⟩ := Int.eq_ofNat_of_zero_le h0
        by_cases hmn : m < n
        · have c3 : wr.cell? ⟨w.heap.size, m, none⟩ = some (.bool (decide ((m : Int) ∈ l.take k))) := (hown.cellAt m (by omega)).trans (seenL_get _ _ (by omega))
          by_cases hs : (m : Int) ∈ l.take k
          · have hv : valI l = false := by
              refine decide_eq_false fun h => ?_
              have hnd := h.2.2.2
              have : (l.take (k + 1)).Nodup := hnd.sublist (List.take_sublist _ _)
              rw [HTS.out, hx, List.nodup_append] at this
              exact this.2.2 _ hs _ (List.mem_singleton.2 rfl) rfl
            rw [decide_eq_true hs] at c3
            have HV := Lib.hid hv
            have HX := Lib.hid hx
            clear hx hv hs
            go_wp2
            go_ret
            exact ⟨ret_bool HV.out.symm, hB⟩
          · rw [decide_eq_false hs] at c3
            have f3 := hown.frozenAt m
            have hst := hown.stored m (.bool true)
            rw [seenL_set, ← hx, ← HTS.out] at hst
            have HST := Lib.hid hst
            have hnd' : (l.take (k + 1)).Nodup := by
              rw [HTS.out, hx, List.nodup_append]
              exact ⟨HND.out, by simp, fun y hy z hz e => hs (by rw [← List.mem_singleton.1 hz, ← e]; exact hy)⟩
            have HND' := Lib.hid hnd'
            have HX := Lib.hid hx
            clear hst hnd' hx hs
            go_wp2
            go_roundw
            case rel =>
              refine ⟨k + 1, by omega, by go_num, fun j hj => ?_, HND'.out, HST.out.1, hB.setCell (p := ⟨w.heap.size, _, none⟩) (Nat.le_refl _) _⟩
              by_cases hjk : j < k
              · exact HOK.out j hjk
              · have : j = k := by omega
                subst this
                rw [HX.out]; omega
            case measure => simp [intOf]; omega
        · have hv : valI l = false := by
            refine decide_eq_false fun h => ?_
            have := (h.2.2.1 _ hmem).2
            rw [HP.out] at this
            omega
          have HV := Lib.hid hv
          clear hv hx
          go_wp2
          go_ret
          exact ⟨ret_bool HV.out.symm, hB⟩
      · have hv : valI l = false := by
          refine decide_eq_false fun h => ?_
          exact h0 (h.2.2.1 _ hmem).1
        have HV := Lib.hid hv
        clear hv hx
        go_wp2
        go_ret
        exact ⟨ret_bool HV.out.symm, hB⟩
    · have hkn2 : k = n := by omega
      subst hkn2
      have hv : valI l = true := by
        refine decide_eq_true ⟨by rw [HP.out]; exact h1, by rw [HP.out]; exact h7, ?_, ?_⟩
        · intro x hx
          obtain ⟨j, hj, rfl⟩ := List.getElem_of_mem hx
          have := HOK.out j (by rw [← HP.out]; exact hj)
          simp only [hj, List.getElem?_eq_getElem, Option.getD_some] at this
          rw [HP.out]
          exact this
        · have := HND.out
          rw [List.take_of_length_le (by rw [HP.out]; exact Nat.le_refl _)] at this
          exact this
      have HV := Lib.hid hv
      clear hv
      go_wp2
      go_ret
      exact ⟨ret_bool HV.out.symm, hB⟩
end Go.Proofs.YtdpnmepplkiljaaDoor
