/-
  Contract of Few of the laws of layer 7.
-/
import Derived.Test.YtcophfhnhlaonaaDoorCif
namespace Go.Proofs.YtcophfhnhlaonaaDoor
set_option linter.unusedVariables false
open Go.RowKit

/-- What Few counts in one list of gates, from n on. -/
def kF (most : Nat) : List Gat → Nat → Nat
  | [], n => n
  | g :: gs, n => if n ≤ most then kF most gs (n + g.ks.length) else n
def fL (most : Nat) : List (List Gat) → Nat → Nat
  | [], n => n
  | gs :: l, n => fL most l (kF most gs (n + gs.length))
theorem kF_stay {most : Nat} : ∀ (gs : List Gat) {n : Nat}, ¬ n ≤ most → kF most gs n = n
  | [], n, h => rfl
  | g :: gs, n, h => by rw [kF, if_neg h]
theorem kF_append (most : Nat) : ∀ (xs ys : List Gat) (n : Nat), kF most (xs ++ ys) n = kF most ys (kF most xs n)
  | [], ys, n => rfl
  | x :: xs, ys, n => by
    rw [List.cons_append, kF, kF]
    split
    · exact kF_append most xs ys _
    · rename_i h
      rw [kF_stay ys h]
theorem kF_next {most : Nat} {gs : List Gat} {i n m : Nat} {g : Gat} (hg : gs[i]? = some g) (h : kF most (gs.take i) n = m) (hm : m ≤ most) : kF most (gs.take (i + 1)) n = m + g.ks.length := by
  rw [List.take_add_one, hg, kF_append, h]
  simp only [Option.toList_some, kF]
  rw [if_pos hm]
theorem kF_dead {most : Nat} {gs : List Gat} {i n m : Nat} (h : kF most (gs.take i) n = m) (hm : ¬ m ≤ most) : kF most gs n = m := by
  have := kF_append most (gs.take i) (gs.drop i) n
  rw [List.take_append_drop, h, kF_stay _ hm] at this
  exact this
theorem kF_ge (most : Nat) : ∀ (gs : List Gat) (n : Nat), n ≤ kF most gs n
  | [], n => Nat.le_refl _
  | g :: gs, n => by
    rw [kF]
    split
    · exact Nat.le_trans (Nat.le_add_right _ _) (kF_ge most gs _)
    · exact Nat.le_refl _
theorem fL_append (most : Nat) : ∀ (xs ys : List (List Gat)) (n : Nat), fL most (xs ++ ys) n = fL most ys (fL most xs n)
  | [], ys, n => rfl
  | x :: xs, ys, n => by rw [List.cons_append, fL, fL, fL_append most xs ys]
theorem fL_next {most : Nat} {l : List (List Gat)} {i n m : Nat} {gs : List Gat} (hg : l[i]? = some gs) (h : fL most (l.take i) n = m) : fL most (l.take (i + 1)) n = kF most gs (m + gs.length) := by
  rw [List.take_add_one, hg, fL_append, h]
  rfl
theorem fL_one {most : Nat} {gs : List Gat} (h : fL most [gs] 0 ≤ most) : gs.length ≤ most := by
  have := kF_ge most gs (0 + gs.length)
  simp only [fL] at h
  omega
theorem fL_two {most : Nat} {gs hs : List Gat} (h : fL most [gs, hs] 0 ≤ most) : gs.length + hs.length ≤ most := by
  have h1 := kF_ge most gs (0 + gs.length)
  have h2 := kF_ge most hs (kF most gs (0 + gs.length) + hs.length)
  simp only [fL] at h
  omega

/-- A row of circuits. -/
def RdC (w : World) (A : Option Addr) (l : List (List Gat)) : Prop :=
  ∀ i gs, l[i]? = some gs → ∃ b off G c, A = some ⟨b, off, none⟩ ∧ w.cell? ⟨b, off + i * 2 + 1, none⟩ = some (.slice G gs.length c) ∧ RdG w G gs ∧ gs.length ≤ 1152921504606846976
theorem RdC.below {w w' : World} {A : Option Addr} {l : List (List Gat)} (h : RdC w A l) (hb : Below w.heap.size w w') : RdC w' A l := fun i gs hi => by
  obtain ⟨b, off, G, c, ha, h1, h2, h3⟩ := h i gs hi
  exact ⟨b, off, G, c, ha, (hb.cell (World.block_lt_of_cell? w _ h1)).trans h1, h2.below hb, h3⟩

set_option maxRecDepth 100000 in
set_option maxHeartbeats 8000000 in
theorem FewC_ok (most : Nat) (hm : most ≤ 1048576) (l : List (List Gat)) (hl : l.length ≤ 2) (A : Option Addr) (c : Nat) (w : World) (hR : RdC w A l) :
    Calls Tryd.prog 7 #[.int .i64 (most : Int), .slice A l.length c] w fun r w' => r = .returned (.bool (decide (fL most l 0 ≤ most))) ∧ w = w' := by
  have HR := Lib.hid hR
  clear hR
  generalize hN : l.length = N at *
  have HN := Lib.hid hN
  clear hN
  go_enter Tryd.func7, Tryd.ntmps7
  go_wp2_with fail
  go_loopw [5, 6, 7] (fun nv iv _ W => ∃ i n : Nat, i ≤ N ∧ iv = .int .i64 i ∧ nv = .int .i64 n ∧ fL most (l.take i) 0 = n ∧ n ≤ 1048576 + i * 1152921504606846976 ∧ w = W) (fun _ iv _ _ => N - (intOf iv).toNat)
  case atStart => exact ⟨0, 0, by omega, rfl, rfl, rfl, by omega, rfl⟩
  case round =>
    obtain ⟨i, n, hi, rfl, rfl, hf, hn, rfl⟩ := hrel
    have HF := Lib.hid hf
    clear hf
    by_cases hil : i < N
    · have e3 : decide ((i : Int) < (N : Int)) = true := decide_eq_true (by omega)
      have e3' : decide (i < N) = true := decide_eq_true hil
      obtain ⟨gs, hg⟩ : ∃ g, l[i]? = some g := ⟨_, List.getElem?_eq_getElem (by rw [HN.out]; exact hil)⟩
      obtain ⟨b, off, G, gc, rfl, g0, hG, hGl⟩ := HR.out i _ hg
      have HG := Lib.hid hG
      have HNX := Lib.hid (fL_next hg HF.out)
      have HK0 : Hid (kF most (gs.take 0) (n + gs.length) = n + gs.length) := Lib.hid rfl
      clear hg hG
      generalize hkl : gs.length = gl at *
      have HGL := Lib.hid hkl
      clear hkl
      have hi2 : i ≤ 1 := by omega
      go_wp2_with fail
      go_loopw [5, 7] (fun nv jv W => ∃ j m : Nat, j ≤ gl ∧ jv = .int .i64 j ∧ nv = .int .i64 m ∧ kF most (gs.take j) (n + gl) = m ∧ m ≤ 1048576 + (i + 1) * 1152921504606846976 ∧ w = W) (fun _ jv _ => gl - (intOf jv).toNat)
      case atStart => exact ⟨0, n + gl, by omega, rfl, by go_num, HK0.out, by omega, rfl⟩
      case round =>
        obtain ⟨j, m, hj, rfl, rfl, hk, hm2, rfl⟩ := hrel
        have HK := Lib.hid hk
        clear hk
        by_cases hjl : j < gl
        · have e4 : decide ((j : Int) < (gl : Int)) = true := decide_eq_true (by omega)
          have e4' : decide (j < gl) = true := decide_eq_true hjl
          by_cases hmm : m ≤ most
          · have e5 : decide ((m : Int) ≤ (most : Int)) = true := decide_eq_true (by omega)
            have e5' : decide (m ≤ most) = true := decide_eq_true hmm
            obtain ⟨⟨k, gn, ks⟩, hg⟩ : ∃ g, gs[j]? = some g := ⟨_, List.getElem?_eq_getElem (by rw [HGL.out]; exact hjl)⟩
            obtain ⟨b2, off2, u, rfl, q0, q1, q2, K, kc, rfl, hK, hKl⟩ := HG.out j _ hg
            have HK2 := Lib.hid (kF_next hg HK.out hmm)
            clear hg q0 q1 hK
            generalize ks.length = kl at *
            go_wp2_with fail
            go_roundw
            case rel => exact ⟨j + 1, m + kl, by omega, by go_num, by go_num, HK2.out, by omega, trivial⟩
            case measure => simp [intOf]; omega
          · have e5 : decide ((m : Int) ≤ (most : Int)) = false := decide_eq_false (by omega)
            have e5' : decide (m ≤ most) = false := decide_eq_false hmm
            have HKD := Lib.hid (kF_dead HK.out hmm)
            go_wp2_with fail
            go_roundw
            case rel => exact ⟨i + 1, m, by omega, by go_num, rfl, by rw [HNX.out, HKD.out], by omega, trivial⟩
            case measure => simp [intOf]; omega
        · have e4 : decide ((j : Int) < (gl : Int)) = false := decide_eq_false (by omega)
          have e4' : decide (j < gl) = false := decide_eq_false hjl
          have HKD : Hid (kF most gs (n + gl) = m) := Lib.hid (by
            have h := HK.out
            rw [List.take_of_length_le (by rw [HGL.out]; omega)] at h
            exact h)
          go_wp2_with fail
          go_roundw
          case rel => exact ⟨i + 1, m, by omega, by go_num, rfl, by rw [HNX.out, HKD.out], by omega, trivial⟩
          case measure => simp [intOf]; omega
    · have e3 : decide ((i : Int) < (N : Int)) = false := decide_eq_false (by omega)
      have e3' : decide (i < N) = false := decide_eq_false hil
      have HE : Hid (fL most l 0 = n) := Lib.hid (by rw [← HF.out, List.take_of_length_le (by rw [HN.out]; omega)])
      by_cases hmm : n ≤ most
      · have e5 : decide ((n : Int) ≤ (most : Int)) = true := decide_eq_true (by omega)
        have e5' : decide (n ≤ most) = true := decide_eq_true hmm
        have HR5 := Lib.hid e5'
        go_wp2_with fail
        go_ret
        exact ⟨by rw [HE.out, HR5.out]; rfl, rfl⟩
      · have e5 : decide ((n : Int) ≤ (most : Int)) = false := decide_eq_false (by omega)
        have e5' : decide (n ≤ most) = false := decide_eq_false hmm
        have HR5 := Lib.hid e5'
        go_wp2_with fail
        go_ret
        exact ⟨by rw [HE.out, HR5.out]; rfl, rfl⟩
end Go.Proofs.YtcophfhnhlaonaaDoor
