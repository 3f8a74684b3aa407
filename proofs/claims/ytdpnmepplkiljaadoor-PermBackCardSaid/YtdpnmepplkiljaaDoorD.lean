/-
  Contracts of Valid, checkPair, Mul and Commutator of package perm at every pair of slices.
-/
import Derived.Test.YtdpnmepplkiljaaDoorC
namespace Go.Proofs.YtdpnmepplkiljaaDoor
open Go.RowKit

/-- The value is a slice that reads as the list of integers. -/
def SlI (w : World) (v : Value) (l : List Int) : Prop :=
  ∃ a cap, v = .slice a l.length cap ∧ l.length ≤ 9223372036854775807 ∧ (1 ≤ l.length → ∃ b off, a = some ⟨b, off, none⟩ ∧ b < w.heap.size ∧ RdI w b off l)

theorem SlI.below {w w' : World} {v : Value} {l : List Int} (h : SlI w v l) (hB : Below w.heap.size w w') : SlI w' v l := by
  obtain ⟨a, cap, hv, hm, hr⟩ := h
  refine ⟨a, cap, hv, hm, fun h1 => ?_⟩
  obtain ⟨b, off, ha, hb, hrd⟩ := hr h1
  exact ⟨b, off, ha, Nat.lt_of_lt_of_le hb hB.size, hrd.below hB hb⟩

theorem valI_out {l : List Int} (h : ¬ (1 ≤ l.length ∧ l.length ≤ 7)) : valI l = false := decide_eq_false fun h' => h ⟨h'.1, h'.2.1⟩

theorem valid_any (v : Value) (l : List Int) (w : World) (hv : SlI w v l) :
    Calls Tryd.prog 23 #[v] w fun e w' => e = .returned (.bool (valI l)) ∧ Below w.heap.size w w' := by
  obtain ⟨a, cap, rfl, hm, hr⟩ := hv
  by_cases h : 1 ≤ l.length ∧ l.length ≤ 7
  · obtain ⟨b, off, rfl, hb, hrd⟩ := hr h.1
    exact valid_mid b off cap l.length l w h.1 h.2 rfl hb hrd
  · rw [valI_out h]
    exact (valid_short a l.length cap w (by omega) hm).mono fun _ _ ⟨he, hw⟩ => ⟨he, hw ▸ Below.refl _ _⟩

theorem valid_yes (v : Value) (l : List Int) (w : World) (hv : SlI w v l) (h : valI l = true) :
    Calls Tryd.prog 23 #[v] w fun e w' => e = .returned (.bool true) ∧ Below w.heap.size w w' := by rw [← h]; exact valid_any v l w hv

theorem valid_no (v : Value) (l : List Int) (w : World) (hv : SlI w v l) (h : valI l = false) :
    Calls Tryd.prog 23 #[v] w fun e w' => e = .returned (.bool false) ∧ Below w.heap.size w w' := by rw [← h]; exact valid_any v l w hv

/-! ### Valid permutations as lists of natural numbers -/
def IsPerm (ps : List Nat) : Prop := 1 ≤ ps.length ∧ ps.length ≤ 7 ∧ (∀ x ∈ ps, x < ps.length) ∧ ps.Nodup

instance (ps : List Nat) : Decidable (IsPerm ps) := by unfold IsPerm; exact inferInstance

def ints (ps : List Nat) : List Int := ps.map fun (x : Nat) => (x : Int)

theorem ints_length (ps : List Nat) : (ints ps).length = ps.length := by simp [ints]

theorem ints_get (ps : List Nat) (j : Nat) : (ints ps)[j]?.getD 0 = ((ps[j]?.getD 0 : Nat) : Int) := by
  by_cases h : j < ps.length
  · simp [ints, h]
  · simp [ints, h]

theorem IsPerm.lt {ps : List Nat} (h : IsPerm ps) (k : Nat) (hk : k < ps.length) : ps[k]?.getD 0 < ps.length := by
  have := h.2.2.1 ps[k] (List.getElem_mem hk)
  simpa [hk] using this

theorem valI_perm {ps : List Nat} (h : IsPerm ps) : valI (ints ps) = true := by
  refine decide_eq_true ⟨by rw [ints_length]; exact h.1, by rw [ints_length]; exact h.2.1, ?_, ?_⟩
  · intro x hx
    obtain ⟨y, hy, rfl⟩ := List.mem_map.1 hx
    rw [ints_length]
    have := h.2.2.1 y hy
    omega
  · exact List.Pairwise.map _ (fun a b hab => by omega) h.2.2.2

theorem perm_valI {l : List Int} (h : valI l = true) : ∃ ps, l = ints ps ∧ IsPerm ps := by
  obtain ⟨h1, h7, hr, hd⟩ := of_decide_eq_true h
  have hl : l = ints (l.map Int.toNat) := by
    unfold ints
    rw [List.map_map]
    conv => lhs; rw [← List.map_id l]
    apply List.map_congr_left
    intro x hx
    have := (hr x hx).1
    simp; omega
  refine ⟨l.map Int.toNat, hl, by simpa using h1, by simpa using h7, ?_, ?_⟩
  · intro x hx
    obtain ⟨y, hy, rfl⟩ := List.mem_map.1 hx
    have := hr y hy
    simp only [List.length_map]; omega
  · have hd' := hd
    rw [hl] at hd'
    exact (List.pairwise_map.1 hd').imp (fun {a b} hab e => hab (by rw [e]))

theorem RdI.nat {w : World} {b off : Nat} {ps : List Nat} (h : RdI w b off (ints ps)) : RdN w b off ps := fun j hj => by
  have := h j (by rw [ints_length]; exact hj)
  rw [ints_get] at this
  exact this

theorem RdN.int {w : World} {b off : Nat} {ps : List Nat} (h : RdN w b off ps) : RdI w b off (ints ps) := fun j hj => by
  rw [ints_get]; exact h j (by rw [← ints_length]; exact hj)

/-- A valid permutation in memory, opened. -/
theorem SlI.perm {w : World} {v : Value} {ps : List Nat} (h : SlI w v (ints ps)) (hp : IsPerm ps) : ∃ b off cap, v = .slice (some ⟨b, off, none⟩) ps.length cap ∧ b < w.heap.size ∧ RdN w b off ps := by
  obtain ⟨a, cap, rfl, _, hr⟩ := h
  obtain ⟨b, off, rfl, hb, hrd⟩ := hr (by rw [ints_length]; exact hp.1)
  exact ⟨b, off, cap, by rw [ints_length], hb, hrd.nat⟩

theorem SlI.of_blk {w : World} {g n : Nat} {ps : List Nat} (h : Blk w g ps) (hn : ps.length = n) (hm : n ≤ 9223372036854775807) : SlI w (.slice (some ⟨g, 0, none⟩) n n) (ints ps) :=
  ⟨some ⟨g, 0, none⟩, n, by rw [ints_length, hn], by rw [ints_length, hn]; exact hm, fun _ => ⟨g, 0, rfl, h.lt, h.rd.int⟩⟩

/-! ### checkPair -/
def chk (l l' : List Int) : Int := if valI l && valI l' then (if l.length = l'.length then 0 else 2) else 1

theorem check_no1 (v v' : Value) (l : List Int) (w : World) (h : SlI w v l) (hn : valI l = false) :
    Calls Tryd.prog 33 #[v, v'] w fun e w' => e = .returned (.int .i64 1) ∧ Below w.heap.size w w' := by
  go_enter Tryd.func33, Tryd.ntmps33
  go_wp2_with fail
  refine (valid_no v l _ h hn).mono ?_
  rintro e w1 ⟨rfl, hB1⟩
  go_wp2_with fail
  go_ret
  exact ⟨rfl, hB1⟩

theorem check_no2 (v v' : Value) (l l' : List Int) (w : World) (h : SlI w v l) (h' : SlI w v' l') (hy : valI l = true) (hn : valI l' = false) :
    Calls Tryd.prog 33 #[v, v'] w fun e w' => e = .returned (.int .i64 1) ∧ Below w.heap.size w w' := by
  go_enter Tryd.func33, Tryd.ntmps33
  go_wp2_with fail
  refine (valid_yes v l _ h hy).mono ?_
  rintro e w1 ⟨rfl, hB1⟩
  have h1 := h'.below hB1
  go_wp2_with fail
  refine (valid_no v' l' _ h1 hn).mono ?_
  rintro e w2 ⟨rfl, hB2⟩
  go_wp2_with fail
  go_ret
  exact ⟨rfl, hB1.trans (hB2.mono hB1.size)⟩

theorem check_len (v v' : Value) (l l' : List Int) (w : World) (h : SlI w v l) (h' : SlI w v' l') (hy : valI l = true) (hy' : valI l' = true) (hn : l.length ≠ l'.length) :
    Calls Tryd.prog 33 #[v, v'] w fun e w' => e = .returned (.int .i64 2) ∧ Below w.heap.size w w' := by
  have hne : ((l.length : Int) != (l'.length : Int)) = true := by rw [bne_iff_ne]; exact fun e => hn (Int.ofNat.inj e)
  obtain ⟨a, cap, hv, hm, _⟩ := id h
  obtain ⟨a', cap', hv', hm', _⟩ := id h'
  subst hv hv'
  go_enter Tryd.func33, Tryd.ntmps33
  go_wp2_with fail
  refine (valid_yes _ l _ h hy).mono ?_
  rintro e w1 ⟨rfl, hB1⟩
  have h1 := h'.below hB1
  go_wp2_with fail
  refine (valid_yes _ l' _ h1 hy').mono ?_
  rintro e w2 ⟨rfl, hB2⟩
  go_wp2_with fail
  go_ret
  exact ⟨rfl, hB1.trans (hB2.mono hB1.size)⟩

theorem check_ok (v v' : Value) (l l' : List Int) (w : World) (h : SlI w v l) (h' : SlI w v' l') (hy : valI l = true) (hy' : valI l' = true) (hn : l.length = l'.length) :
    Calls Tryd.prog 33 #[v, v'] w fun e w' => e = .returned (.int .i64 0) ∧ Below w.heap.size w w' := by
  have hne : ((l.length : Int) != (l'.length : Int)) = false := by rw [hn]; exact bne_self_eq_false _
  obtain ⟨a, cap, hv, hm, _⟩ := id h
  obtain ⟨a', cap', hv', hm', _⟩ := id h'
  subst hv hv'
  have HN := Lib.hid hn
  clear hn
  go_enter Tryd.func33, Tryd.ntmps33
  go_wp2_with fail
  refine (valid_yes _ l _ h hy).mono ?_
  rintro e w1 ⟨rfl, hB1⟩
  have h1 := h'.below hB1
  go_wp2_with fail
  refine (valid_yes _ l' _ h1 hy').mono ?_
  rintro e w2 ⟨rfl, hB2⟩
  go_wp2_with fail
  go_ret
  exact ⟨rfl, hB1.trans (hB2.mono hB1.size)⟩

theorem check_any (v v' : Value) (l l' : List Int) (w : World) (h : SlI w v l) (h' : SlI w v' l') :
    Calls Tryd.prog 33 #[v, v'] w fun e w' => e = .returned (.int .i64 (chk l l')) ∧ Below w.heap.size w w' := by
  by_cases hy : valI l = true
  · by_cases hy' : valI l' = true
    · by_cases hn : l.length = l'.length
      · have : chk l l' = 0 := by simp [chk, hy, hy', hn]
        rw [this]; exact check_ok v v' l l' w h h' hy hy' hn
      · have : chk l l' = 2 := by simp [chk, hy, hy', hn]
        rw [this]; exact check_len v v' l l' w h h' hy hy' hn
    · have hy2 : valI l' = false := by simpa using hy'
      have : chk l l' = 1 := by simp [chk, hy2]
      rw [this]; exact check_no2 v v' l l' w h h' hy hy2
  · have hy2 : valI l = false := by simpa using hy
    have : chk l l' = 1 := by simp [chk, hy2]
    rw [this]; exact check_no1 v v' l w h hy2

theorem chk_zero {l l' : List Int} (h : chk l l' = 0) : ∃ ps qs, l = ints ps ∧ l' = ints qs ∧ IsPerm ps ∧ IsPerm qs ∧ qs.length = ps.length := by
  unfold chk at h
  by_cases hy : valI l = true
  · by_cases hy' : valI l' = true
    · by_cases hn : l.length = l'.length
      · obtain ⟨ps, rfl, hp⟩ := perm_valI hy
        obtain ⟨qs, rfl, hq⟩ := perm_valI hy'
        exact ⟨ps, qs, rfl, rfl, hp, hq, by rw [ints_length, ints_length] at hn; exact hn.symm⟩
      · simp [hy, hy', hn] at h
    · simp [hy'] at h
  · simp [hy] at h

theorem chk_perm {ps qs : List Nat} (hp : IsPerm ps) (hq : IsPerm qs) (h : qs.length = ps.length) : chk (ints ps) (ints qs) = 0 := by
  simp [chk, valI_perm hp, valI_perm hq, ints_length, h]

theorem chk_cases (l l' : List Int) : chk l l' = 0 ∨ chk l l' = 1 ∨ chk l l' = 2 := by
  unfold chk; split <;> (try split) <;> simp

/-! ### Mul -/
set_option maxHeartbeats 400000 in
theorem mul_bad (v v' : Value) (l l' : List Int) (w : World) (h : SlI w v l) (h' : SlI w v' l') (c : Int) (hc : chk l l' = c) (hne : (c != 0) = true) :
    Calls Tryd.prog 17 #[v, v'] w fun e w' => e = .returned (.tuple #[.slice none 0 0, .int .i64 c]) ∧ Below w.heap.size w w' := by
  have hk := check_any v v' l l' w h h'
  rw [hc] at hk
  have HK := Lib.hid hk
  clear hk hc
  go_enter Tryd.func17, Tryd.ntmps17
  go_wp2_with fail
  refine HK.out.mono ?_
  rintro e w1 ⟨rfl, hB1⟩
  go_wp2_with fail
  go_ret2
  exact ⟨rfl, hB1⟩

set_option maxHeartbeats 400000 in
theorem mul_ok (v v' : Value) (ps qs : List Nat) (w : World) (h : SlI w v (ints ps)) (h' : SlI w v' (ints qs)) (hp : IsPerm ps) (hq : IsPerm qs) (hn : qs.length = ps.length) :
    Calls Tryd.prog 17 #[v, v'] w fun e w' => ∃ g, e = .returned (.tuple #[.slice (some ⟨g, 0, none⟩) ps.length ps.length, .int .i64 0]) ∧ w.heap.size ≤ g ∧ Blk w' g (mulN ps qs) ∧ Below w.heap.size w w' := by
  have hk := check_any v v' _ _ w h h'
  rw [chk_perm hp hq hn] at hk
  have HK := Lib.hid hk
  obtain ⟨b, off, cap, rfl, hb, hrd⟩ := h.perm hp
  obtain ⟨b2, off2, cap2, rfl, hb2, hrd2⟩ := h'.perm hq
  have HN := Lib.hid hn
  clear hk hn h h'
  go_enter Tryd.func17, Tryd.ntmps17
  go_wp2_with fail
  refine HK.out.mono ?_
  rintro e w1 ⟨rfl, hB1⟩
  have g1 := hrd.below hB1 hb
  have g2 := hrd2.below hB1 hb2
  go_wp2_with fail
  have ht := then_any b off cap b2 off2 cap2 ps.length ps qs w1 hp.1 hp.2.1 rfl HN.out hp.lt (Nat.lt_of_lt_of_le hb hB1.size) (Nat.lt_of_lt_of_le hb2 hB1.size) g1 g2
  rw [← HN.out] at ht ⊢
  refine ht.mono ?_
  rintro e w2 ⟨g, rfl, hg, hblk, hB2⟩
  go_wp2_with fail
  go_ret2
  exact ⟨g, by rw [HN.out]; rfl, Nat.le_trans hB1.size hg, hblk, hB1.trans (hB2.mono hB1.size)⟩
end Go.Proofs.YtdpnmepplkiljaaDoor
