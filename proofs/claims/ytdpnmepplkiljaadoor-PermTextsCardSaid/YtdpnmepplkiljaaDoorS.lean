/-
  Contracts of short and is of the statements' package, and of Valid, Alike, Mul, Inverse and Commutator of the reference.
-/
import Derived.Test.YtdpnmepplkiljaaDoorK
namespace Go.Proofs.YtdpnmepplkiljaaDoor
open Go.RowKit

/-! ### short -/
structure SlV where
  a : Option Addr
  n : Nat
  cap : Nat

def SlV.val (x : SlV) : Value := .slice x.a x.n x.cap

def RdS (w : World) (b off : Nat) (vs : List SlV) : Prop := ∀ j, j < vs.length → w.cell? ⟨b, off + j, none⟩ = some ((vs[j]?.getD ⟨none, 0, 0⟩).val)

theorem short_any (b off cap m : Nat) (vs : List SlV) (w : World) (hm : m ≤ 7) (hl : vs.length = m) (hr : RdS w b off vs) :
    Calls Tryd.prog 5 #[.slice (some ⟨b, off, none⟩) m cap] w fun e w' => e = .returned (.bool (decide (∀ j, j < m → (vs[j]?.getD ⟨none, 0, 0⟩).n ≤ 100))) ∧ w = w' := by
  have HL := Lib.hid hl
  clear hl
  go_enter Tryd.func5, Tryd.ntmps5
  go_wp2
  go_loop [3] (fun i => ∃ k : Nat, k ≤ m ∧ i = .int .i64 k ∧ ∀ j, j < k → (vs[j]?.getD ⟨none, 0, 0⟩).n ≤ 100) (fun i => m - (intOf i).toNat)
  case atStart => exact ⟨0, Nat.zero_le _, rfl, fun j hj => by omega⟩
  case round =>
    obtain ⟨k, hk, rfl, hall⟩ := hrel
    have HA := Lib.hid hall
    clear hall
    by_cases hkn : k < m
    · have c1 := hr k (by rw [HL.out]; exact hkn)
      obtain ⟨x, hx⟩ : ∃ x, vs[k]?.getD ⟨none, 0, 0⟩ = x := ⟨_, rfl⟩
      rw [hx] at c1
      obtain ⟨a, n, c⟩ := x
      simp only [SlV.val] at c1
      by_cases hn : n ≤ 100
      · have HX := Lib.hid hx
        clear hx
        go_wp2
        go_round
        case rel =>
          refine ⟨k + 1, by omega, by go_num, fun j hj => ?_⟩
          by_cases hjk : j < k
          · exact HA.out j hjk
          · have : j = k := by omega
            subst this; rw [HX.out]; exact hn
        case measure => simp [intOf]; omega
      · have hd : decide (∀ j, j < m → (vs[j]?.getD ⟨none, 0, 0⟩).n ≤ 100) = false := decide_eq_false fun h => hn (by have := h k hkn; rw [hx] at this; exact this)
        have HD := Lib.hid hd
        clear hd hx
        go_wp2
        go_ret
        exact ⟨ret_bool HD.out.symm, rfl⟩
    · have hkm : k = m := by omega
      subst hkm
      have hd : decide (∀ j, j < k → (vs[j]?.getD ⟨none, 0, 0⟩).n ≤ 100) = true := decide_eq_true HA.out
      have HD := Lib.hid hd
      clear hd
      go_wp2
      go_ret
      exact ⟨ret_bool HD.out.symm, rfl⟩

/-! ### ref.Valid -/
theorem rvalid_short (a : Option Addr) (n cap : Nat) (w : World) (hn : n < 1 ∨ 7 < n) (hm : n ≤ 9223372036854775807) :
    Calls Tryd.prog 7 #[.slice a n cap] w fun e w' => e = .returned (.bool false) ∧ ∃ q, w' = w.drewN q := by
  rcases hn with hn | hn
  · go_enter Tryd.func7, Tryd.ntmps7
    go_wp2
    go_ret
    exact ⟨rfl, 0, rfl⟩
  · have h1 : 1 ≤ n := by omega
    go_enter Tryd.func7, Tryd.ntmps7
    go_wp2
    go_ret
    exact ⟨rfl, 0, rfl⟩

set_option maxHeartbeats 2000000 in
theorem rvalid_mid (b off cap n : Nat) (l : List Int) (w : World) (h1 : 1 ≤ n) (h7 : n ≤ 7) (hp : l.length = n) (hrp : RdI w b off l) :
    Calls Tryd.prog 7 #[.slice (some ⟨b, off, none⟩) n cap] w fun e w' => e = .returned (.bool (valI l)) ∧ ∃ q, w' = w.drewN q := by
  have HP := Lib.hid hp
  clear hp
  go_enter Tryd.func7, Tryd.ntmps7
  go_wp2
  go_loopw [3, 4] (fun i _ wr => ∃ k : Nat, k ≤ n ∧ i = .int .i64 k ∧ (∀ j, j < k → 0 ≤ l[j]?.getD 0 ∧ l[j]?.getD 0 < n) ∧ (l.take k).Nodup ∧ ∃ q, wr = w.drewN q) (fun i _ _ => n - (intOf i).toNat)
  case atStart => exact ⟨0, Nat.zero_le _, rfl, fun j hj => by omega, by simp, 0, rfl⟩
  case round =>
    obtain ⟨k, hk, rfl, hok, hnd, q, rfl⟩ := hrel
    have HOK := Lib.hid hok
    have HND := Lib.hid hnd
    clear hok hnd
    by_cases hkn : k < n
    · have hkl : k < l.length := by rw [HP.out]; exact hkn
      have hmem : l[k]?.getD 0 ∈ l := by simp [hkl]
      have hts := take_snocI l k hkl
      have HTS := Lib.hid hts
      have c1 := hrp k hkl
      obtain ⟨x, hx⟩ : ∃ x, l[k]?.getD 0 = x := ⟨_, rfl⟩
      rw [hx] at c1 hmem
      clear hts
      by_cases h0 : 0 ≤ x
      · obtain ⟨m, rfl⟩ := Int.eq_ofNat_of_zero_le h0
        by_cases hmn : m < n
        · have HX := Lib.hid hx
          have HMEM := Lib.hid hmem
          have hmm : (m : Int) < (n : Int) := by omega
          clear hx hmem hkl
          go_wp2
          go_loopw [4] (fun j wr => ∃ t : Nat, t ≤ k ∧ j = .int .i64 t ∧ (∀ i, i < t → l[i]?.getD 0 ≠ (m : Int)) ∧ ∃ q, wr = w.drewN q) (fun j _ => k - (intOf j).toNat)
          case atStart => exact ⟨0, Nat.zero_le _, rfl, fun j hj => by omega, _, rfl⟩
          case round =>
            obtain ⟨t, ht, rfl, hne, q', rfl⟩ := hrel
            have HNE := Lib.hid hne
            clear hne
            by_cases htk : t < k
            · have c2 := hrp t (by rw [HP.out]; omega)
              by_cases he : l[t]?.getD 0 = (m : Int)
              · have hbb : (l[t]?.getD 0 == (m : Int)) = true := by rw [he]; exact beq_self_eq_true _
                have hv : valI l = false := by
                  refine decide_eq_false fun h => ?_
                  have hnd := h.2.2.2
                  have hkl : k < l.length := by rw [HP.out]; exact hkn
                  have htl : t < l.length := by omega
                  have e1 : l[t] = l[k] := by
                    have a1 := HX.out
                    simp only [hkl, List.getElem?_eq_getElem, Option.getD_some] at a1
                    simp only [htl, List.getElem?_eq_getElem, Option.getD_some] at he
                    rw [a1, he]
                  have := (List.getElem_inj (h₀ := htl) (h₁ := hkl) hnd).1 e1
                  omega
                have HV := Lib.hid hv
                clear hv he
                go_wp2
                go_quiet (fail)
                go_wp2
                go_ret
                exact ⟨ret_bool HV.out.symm, (by first | exact ⟨_, rfl⟩ | exact drewN_two _ _ _)⟩
              · have hbb : (l[t]?.getD 0 == (m : Int)) = false := beq_eq_false_iff_ne.2 he
                have HE := Lib.hid he
                clear he
                go_wp2
                go_quiet (fail)
                go_wp2
                go_roundw
                case rel =>
                  refine ⟨t + 1, by omega, by go_num, fun i hi => ?_, (by first | exact ⟨_, rfl⟩ | exact drewN_two _ _ _)⟩
                  by_cases hit : i < t
                  · exact HNE.out i hit
                  · have : i = t := by omega
                    subst this; exact HE.out
                case measure => simp [intOf]; omega
            · have htk2 : t = k := by omega
              subst htk2
              have hnd' : (l.take (t + 1)).Nodup := by
                rw [HTS.out, HX.out, List.nodup_append]
                refine ⟨HND.out, by simp, fun y hy z hz e => ?_⟩
                rw [List.mem_singleton] at hz
                subst hz
                obtain ⟨i, hi, hiy⟩ := List.getElem_of_mem hy
                simp only [List.length_take] at hi
                rw [List.getElem_take] at hiy
                refine HNE.out i (by omega) ?_
                have hil : i < l.length := by omega
                simp only [hil, List.getElem?_eq_getElem, Option.getD_some]
                rw [hiy, e]
              have HND' := Lib.hid hnd'
              clear hnd'
              go_wp2
              go_roundw
              case rel =>
                refine ⟨t + 1, by omega, by go_num, fun j hj => ?_, HND'.out, _, rfl⟩
                by_cases hjk : j < t
                · exact HOK.out j hjk
                · have : j = t := by omega
                  subst this
                  rw [HX.out]; omega
              case measure => simp [intOf]; omega
        · have hv : valI l = false := by
            refine decide_eq_false fun h => ?_
            have := (h.2.2.1 _ hmem).2
            rw [HP.out] at this
            omega
          have HV := Lib.hid hv
          clear hv hx
          go_wp2
          go_ret
          exact ⟨ret_bool HV.out.symm, _, rfl⟩
      · have hv : valI l = false := by
          refine decide_eq_false fun h => ?_
          exact h0 (h.2.2.1 _ hmem).1
        have HV := Lib.hid hv
        clear hv hx
        go_wp2
        go_ret
        exact ⟨ret_bool HV.out.symm, _, rfl⟩
    · have hkn2 : k = n := by omega
      subst hkn2
      have hv : valI l = true := by
        refine decide_eq_true ⟨by rw [HP.out]; exact h1, by rw [HP.out]; exact h7, ?_, ?_⟩
        · intro x hx
          obtain ⟨j, hj, rfl⟩ := List.getElem_of_mem hx
          have := HOK.out j (by rw [← HP.out]; exact hj)
          simp only [hj, List.getElem?_eq_getElem, Option.getD_some] at this
          rw [HP.out]
          exact this
        · have := HND.out
          rw [List.take_of_length_le (by rw [HP.out]; exact Nat.le_refl _)] at this
          exact this
      have HV := Lib.hid hv
      clear hv
      go_wp2
      go_ret
      exact ⟨ret_bool HV.out.symm, _, rfl⟩

theorem rvalid_any (v : Value) (l : List Int) (w : World) (hv : SlI w v l) :
    Calls Tryd.prog 7 #[v] w fun e w' => e = .returned (.bool (valI l)) ∧ ∃ q, w' = w.drewN q := by
  obtain ⟨a, cap, rfl, hm, hr⟩ := hv
  by_cases h : 1 ≤ l.length ∧ l.length ≤ 7
  · obtain ⟨b, off, rfl, hb, hrd⟩ := hr h.1
    exact rvalid_mid b off cap l.length l w h.1 h.2 rfl hrd
  · rw [valI_out h]
    exact rvalid_short a l.length cap w (by clear hr; omega) hm

theorem rvalid_yes (v : Value) (l : List Int) (w : World) (hv : SlI w v l) (h : valI l = true) :
    Calls Tryd.prog 7 #[v] w fun e w' => e = .returned (.bool true) ∧ ∃ q, w' = w.drewN q := by rw [← h]; exact rvalid_any v l w hv

theorem rvalid_no (v : Value) (l : List Int) (w : World) (hv : SlI w v l) (h : valI l = false) :
    Calls Tryd.prog 7 #[v] w fun e w' => e = .returned (.bool false) ∧ ∃ q, w' = w.drewN q := by rw [← h]; exact rvalid_any v l w hv

theorem SlI.drewN {w : World} {v : Value} {l : List Int} (h : SlI w v l) (q : Nat) : SlI (w.drewN q) v l := h.below (below_drewN' (Below.refl _ w) q)

/-! ### ref.Alike -/
end Go.Proofs.YtdpnmepplkiljaaDoor
