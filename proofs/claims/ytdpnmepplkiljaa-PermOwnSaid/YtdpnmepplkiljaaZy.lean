/-
  Contract of SpoilLists: it writes only to blocks of the caller's own.
-/
import Derived.Test.YtdpnmepplkiljaaZx
namespace Go.Proofs.Ytdpnmepplkiljaa
open Go.RowKit Go.Shelf

theorem owns_keeps {w w' : World} {base n : Nat} {e : TypeId} {v : Value} {xs : List Value} (h : w.ownsRow base e 1 v n xs) (hK : Keeps w w') : ∃ xs', w'.ownsRow base e 1 v n xs' := by
  have hl := h.1
  rcases h.2 with ⟨hv, h0⟩ | ⟨g, cap, cur, hv, hg, hh, hnc, hcm, hs, _⟩
  · exact ⟨xs, h.1, .inl ⟨hv, h0⟩⟩
  · obtain ⟨cur', hh', hs'⟩ := hK g cur e hh
    refine ⟨cur'.toList.take (n * 1), ?_, .inr ⟨g, cap, cur', hv, hg, hh', hnc, hcm, by rw [hs', hs], rfl⟩⟩
    rw [List.length_take, Array.length_toList, hs', hs]
    omega

/-- Rows of two element types lie in two blocks. -/
theorem owns_ne {w : World} {base base' n m : Nat} {e e' : TypeId} {v v' : Value} {xs xs' : List Value} (h : w.ownsRow base e 1 v n xs) (h' : w.ownsRow base' e' 1 v' m xs') (hne : e ≠ e') (g : Nat) (hg : v.ownBlock = some g) : v'.ownBlock ≠ some g := by
  intro hg'
  rcases h.2 with ⟨rfl, _⟩ | ⟨g1, _, c1, rfl, _, h1, _⟩
  · simp [Value.ownBlock] at hg
  · rcases h'.2 with ⟨rfl, _⟩ | ⟨g2, _, c2, rfl, _, h2, _⟩
    · simp [Value.ownBlock] at hg'
    · simp only [Value.ownBlock, Option.some.injEq] at hg hg'
      subst hg hg'
      rw [h1] at h2
      injection h2 with h2
      injection h2 with _ h2
      exact hne h2

theorem owns_only3 {S : Nat → Prop} {w w' : World} {base n size : Nat} {e : TypeId} {v : Value} {xs : List Value} (h : w.ownsRow base e size v n xs) (hB : Only S w w') (ho : ∀ g, v.ownBlock = some g → ¬ S g) : w'.ownsRow base e size v n xs := by
  rcases hv : v.ownBlock with _ | g
  · rcases h.2 with h2 | ⟨g, _, _, rfl, _⟩
    · exact ⟨h.1, .inl h2⟩
    · simp [Value.ownBlock] at hv
  · exact owns_only2 h hB hv (ho g hv)

set_option maxRecDepth 100000 in
set_option maxHeartbeats 1000000 in
theorem spoilL_any (lv : Value) (m base : Nat) (vals : List Value) (w : World) (hown : w.ownsRow base 22 1 lv m vals) (hvals : ∀ (j : Nat) (v : Value), vals[j]? = some v → ∃ n xs, w.ownsRow base 3 1 v n xs ∧ n ≤ 900) (hm : m ≤ 900) (hb : base ≤ w.heap.size) (S : Nat → Prop) (hS : ∀ k, lv.ownBlock = some k → S k) (hSv : ∀ (j : Nat) (v : Value), vals[j]? = some v → ∀ k, v.ownBlock = some k → S k) :
    Calls Try.prog 48 #[lv] w fun e w' => e = .returned (.tuple #[]) ∧ Only S w w' := by
  obtain ⟨a, cp, rfl⟩ := owns_slice hown
  have HO := Lib.hid hown
  have HV := Lib.hid hvals
  have HS := Lib.hid hS
  have HSV := Lib.hid hSv
  clear hown hvals hS hSv
  go_enter Try.func48, Try.ntmps48
  go_wp2
  go_loopw [2] (fun i wr => ∃ (k : Nat) (cur : List Value), k ≤ m ∧ i = .int .i64 k ∧ wr.ownsRow base 22 1 (.slice a m cp) m cur ∧ (∀ (j : Nat), k ≤ j → cur[j]? = vals[j]?) ∧ (∀ (j : Nat) (v : Value), vals[j]? = some v → ∃ n xs, wr.ownsRow base 3 1 v n xs ∧ n ≤ 900) ∧ Only S w wr) (fun i _ => m - (intOf i).toNat)
  case atStart => exact ⟨0, vals, Nat.zero_le _, rfl, HO.out, fun _ _ => rfl, HV.out, Only.refl _ _⟩
  case round =>
    obtain ⟨k, cur, hk, rfl, hown, hcur, hvs, hO⟩ := hrel
    by_cases hkn : k < m
    · obtain ⟨g, cap, hv⟩ := owns_pos hown (by omega)
      cases hv
      have hl : cur.length = m := by have := hown.1; omega
      have c1 := hown.cellAt k (by omega)
      rw [List.getElem?_eq_getElem (by omega : k < cur.length)] at c1
      have hck : vals[k]? = some cur[k] := by rw [← hcur k (Nat.le_refl _)]; exact List.getElem?_eq_getElem _
      generalize hce : cur[k] = v0 at c1 hck
      obtain ⟨n0, xs0, hv0, hn0⟩ := hvs k v0 hck
      have hsz := hO.size
      have hsp := spoilI_any v0 n0 base xs0 wr hv0 hn0 (by omega)
      have HSP := Lib.hid hsp
      have HOWN := Lib.hid hown
      have HCUR := Lib.hid hcur
      have HVS := Lib.hid hvs
      have HON := Lib.hid hO
      have HV0 := Lib.hid hv0
      have hsv := HSV.out k v0 hck
      have HSV0 := Lib.hid hsv
      obtain ⟨a0, cp0, rfl⟩ := owns_slice hv0
      clear hsp hown hcur hvs hO hv0 hck hce hsv
      go_wp2_with fail
      refine HSP.out.mono ?_
      rintro e w1 ⟨rfl, ho1, hk1⟩
      have hown1 := owns_only3 HOWN.out ho1 (fun g' hg' hs => owns_ne HOWN.out HV0.out (by decide) g' hg' hs)
      have c2 := hown1.cellAt k (by omega)
      rw [List.getElem?_eq_getElem (by omega : k < cur.length)] at c2
      have f2 := hown1.frozenAt k
      have HOWN1 := Lib.hid hown1
      have HO1 := Lib.hid ho1
      have HK1 := Lib.hid hk1
      clear hown1 ho1 hk1
      go_wp2_with fail
      go_roundw
      case rel =>
        refine ⟨k + 1, _, by omega, by go_num, (HOWN1.out.stored k _).1, fun j hj => ?_, fun j v hj => ?_, ?_⟩
        · rw [List.getElem?_set_ne (by omega)]
          exact HCUR.out j (by omega)
        · obtain ⟨n, xs, h1, h2⟩ := HVS.out j v hj
          obtain ⟨xs1, h3⟩ := owns_keeps h1 (HK1.out.trans (Keeps.set _ g k _))
          exact ⟨n, xs1, h3, h2⟩
        · exact Only.setCell (HON.out.trans (HO1.out.mono fun b hb' => HSV0.out b hb')) (p := ⟨g, k, none⟩) (HS.out g rfl) _
      case measure => simp [intOf]; omega
    · have HON := Lib.hid hO
      clear hown hcur hvs hO
      go_wp2
      go_end0
      exact ⟨rfl, HON.out⟩
end Go.Proofs.Ytdpnmepplkiljaa
