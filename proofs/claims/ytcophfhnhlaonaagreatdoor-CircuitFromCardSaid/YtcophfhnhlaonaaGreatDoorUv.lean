/-
  Joined from Fmy, Fmz, Fna: see there.
-/
import Derived.Test.YtcophfhnhlaonaaGreatDoorUu
namespace Go.Proofs.YtcophfhnhlaonaaGreatDoor
set_option linter.unusedVariables false
open Go.RowKit

mutual
def nodT : Tre → Nat
  | .mk _ _ ts => nodL ts + 1
def nodL : List Tre → Nat
  | [] => 0
  | t :: ts => nodT t + nodL ts
end
theorem nodT_pos : ∀ t : Tre, 1 ≤ nodT t
  | .mk _ _ ts => by unfold nodT; omega
theorem nodL_len : ∀ ts : List Tre, ts.length ≤ nodL ts
  | [] => by simp
  | t :: ts => by
    have := nodL_len ts
    have := nodT_pos t
    unfold nodL
    simp only [List.length_cons]
    omega
theorem nodL_mem : ∀ {ts : List Tre} {t : Tre}, t ∈ ts → nodT t ≤ nodL ts
  | u :: ts, t, h => by
    unfold nodL
    rcases List.mem_cons.1 h with rfl | h
    · omega
    · have := nodL_mem h; omega
theorem nodL_append : ∀ (xs ys : List Tre), nodL (xs ++ ys) = nodL xs + nodL ys
  | [], ys => by simp [nodL]
  | t :: xs, ys => by rw [List.cons_append, nodL, nodL, nodL_append xs ys]; omega
theorem nodL_take (ts : List Tre) (i : Nat) : nodL (ts.take i) ≤ nodL ts := by
  have := nodL_append (ts.take i) (ts.drop i)
  rw [List.take_append_drop] at this
  omega
mutual
theorem wN_nod (L : Nat) : ∀ (t : Tre) (a : Nat), wN L t a ≤ L → wN L t a = a + nodT t
  | .mk _ _ ts, a, h => by
    unfold wN at h ⊢
    rw [wL_nod L ts (a + 1) h, nodT]
    omega
theorem wL_nod (L : Nat) : ∀ (ts : List Tre) (a : Nat), wL L ts a ≤ L → wL L ts a = a + nodL ts
  | [], a, h => by unfold wL nodL; rfl
  | t :: ts, a, h => by
    unfold wL at h ⊢
    split at h
    · rename_i hc
      rw [if_pos hc]
      have h1 := wL_nod L ts _ h
      have h2 : wN L t a ≤ L := by have := wL_ge L ts (wN L t a); omega
      rw [h1, wN_nod L t a h2, nodL]
      omega
    · rename_i hc; exact absurd h hc
end
mutual
def cntN : Tre → Nat → Nat × Nat
  | .mk _ _ ts, m => if 1 < m then ((cntL ts (m - 1) 1 0).1, (cntL ts (m - 1) 1 0).2 + 1) else (1, (if 0 < ts.length then 1 else 0) + 1)
def cntL : List Tre → Nat → Nat → Nat → Nat × Nat
  | [], _, n, d => (n, d)
  | t :: ts, m, n, d => if n ≤ 20000 then cntL ts m (n + (cntN t m).1) (max d (cntN t m).2) else (n, d)
end
theorem cntL_append : ∀ (xs ys : List Tre) (m n d : Nat), cntL (xs ++ ys) m n d = cntL ys m (cntL xs m n d).1 (cntL xs m n d).2
  | [], ys, m, n, d => by simp [cntL]
  | t :: xs, ys, m, n, d => by
    rw [List.cons_append, cntL, cntL]
    split
    · exact cntL_append xs ys m _ _
    · rename_i h
      cases ys with
      | nil => rfl
      | cons y ys => rw [cntL, if_neg h]
mutual
theorem cntN_le : ∀ (t : Tre) (m : Nat), 1 ≤ (cntN t m).1 ∧ (cntN t m).1 ≤ nodT t ∧ 1 ≤ (cntN t m).2 ∧ (cntN t m).2 ≤ nodT t
  | .mk _ _ ts, m => by
    unfold cntN nodT
    split
    · obtain ⟨a, b, c⟩ := cntL_le ts (m - 1) 1 0
      refine ⟨by show 1 ≤ (cntL ts (m - 1) 1 0).1; omega, by show (cntL ts (m - 1) 1 0).1 ≤ _; omega, by show 1 ≤ (cntL ts (m - 1) 1 0).2 + 1; omega, by show (cntL ts (m - 1) 1 0).2 + 1 ≤ _; omega⟩
    · have := nodL_len ts
      refine ⟨Nat.le_refl _, by show 1 ≤ _; omega, by show 1 ≤ (if 0 < ts.length then 1 else 0) + 1; omega, ?_⟩
      show (if 0 < ts.length then 1 else 0) + 1 ≤ _
      split <;> omega
theorem cntL_le : ∀ (ts : List Tre) (m n d : Nat), n ≤ (cntL ts m n d).1 ∧ (cntL ts m n d).1 ≤ n + nodL ts ∧ (cntL ts m n d).2 ≤ max d (nodL ts)
  | [], m, n, d => by unfold cntL nodL; exact ⟨Nat.le_refl _, Nat.le_refl _, by show d ≤ _; omega⟩
  | t :: ts, m, n, d => by
    unfold cntL nodL
    split
    · obtain ⟨a, b, c⟩ := cntL_le ts m (n + (cntN t m).1) (max d (cntN t m).2)
      obtain ⟨e, f, g, h⟩ := cntN_le t m
      refine ⟨by omega, by omega, by omega⟩
    · exact ⟨Nat.le_refl _, by show n ≤ _; omega, by show d ≤ _; omega⟩
end
theorem cntL_next {ts : List Tre} {i m n d n' d' : Nat} {t : Tre} (ht : ts[i]? = some t) (h : cntL (ts.take i) m n d = (n', d')) (hn : n' ≤ 20000) : cntL (ts.take (i + 1)) m n d = (n' + (cntN t m).1, max d' (cntN t m).2) := by
  rw [List.take_add_one, ht, cntL_append, h]
  simp only [Option.toList_some]
  rw [cntL, if_pos hn, cntL]
theorem cntL_dead {ts : List Tre} {i m n d n' d' : Nat} (h : cntL (ts.take i) m n d = (n', d')) (hn : ¬ n' ≤ 20000) : cntL ts m n d = (n', d') := by
  have := cntL_append (ts.take i) (ts.drop i) m n d
  rw [List.take_append_drop, h] at this
  rw [this]
  cases ts.drop i with
  | nil => simp [cntL]
  | cons y ys => rw [cntL, if_neg hn]
-- all nodes of a tree conform to their kinds
mutual
def shN (sh : List Sh) : Tre → Bool
  | .mk k n ts => shL sh ts && permN sh k n ts.length
def shL (sh : List Sh) : List Tre → Bool
  | [] => true
  | t :: ts => shN sh t && shL sh ts
end
theorem shL_append (sh : List Sh) : ∀ xs ys : List Tre, shL sh (xs ++ ys) = (shL sh xs && shL sh ys)
  | [], ys => by simp [shL]
  | t :: xs, ys => by rw [List.cons_append, shL, shL, shL_append sh xs ys, Bool.and_assoc]
theorem shL_next {sh : List Sh} {ts : List Tre} {i : Nat} {t : Tre} (ht : ts[i]? = some t) (h : shL sh (ts.take i) = true) : shL sh (ts.take (i + 1)) = shN sh t := by
  rw [List.take_add_one, ht, shL_append, h]
  simp [shL]
theorem shL_dead {sh : List Sh} {ts : List Tre} {i : Nat} (h : shL sh (ts.take i) = false) : shL sh ts = false := by
  have := shL_append sh (ts.take i) (ts.drop i)
  rw [List.take_append_drop, h] at this
  simpa using this
theorem shL_mem {sh : List Sh} : ∀ {ts : List Tre} {t : Tre}, shL sh ts = true → t ∈ ts → shN sh t = true
  | u :: ts, t, h, hm => by
    rw [shL, Bool.and_eq_true] at h
    rcases List.mem_cons.1 hm with rfl | hm
    · exact h.1
    · exact shL_mem h.2 hm
mutual
def sizT : Tre → Nat
  | .mk _ _ ts => if ts.length = 0 then 1 else sizL ts
def sizL : List Tre → Nat
  | [] => 0
  | t :: ts => sizT t + sizL ts
end
theorem sizL_append : ∀ xs ys : List Tre, sizL (xs ++ ys) = sizL xs + sizL ys
  | [], ys => by simp [sizL]
  | t :: xs, ys => by rw [List.cons_append, sizL, sizL, sizL_append xs ys]; omega
theorem sizL_next {ts : List Tre} {i : Nat} {t : Tre} (ht : ts[i]? = some t) : sizL (ts.take (i + 1)) = sizL (ts.take i) + sizT t := by
  rw [List.take_add_one, ht, sizL_append]
  simp [sizL]
mutual
theorem sizT_le : ∀ t : Tre, sizT t ≤ nodT t
  | .mk _ _ ts => by
    unfold sizT nodT
    split
    · omega
    · have := sizL_le ts; omega
theorem sizL_le : ∀ ts : List Tre, sizL ts ≤ nodL ts
  | [] => by unfold sizL nodL; omega
  | t :: ts => by
    have := sizT_le t
    have := sizL_le ts
    unfold sizL nodL
    omega
end
mutual
def depT (sh : List Sh) : Tre → Nat
  | .mk k _ ts => depL sh ts 0 + depAt sh k
def depL (sh : List Sh) : List Tre → Nat → Nat
  | [], d => d
  | t :: ts, d => depL sh ts (max d (depT sh t))
end
theorem depL_append (sh : List Sh) : ∀ (xs ys : List Tre) (d : Nat), depL sh (xs ++ ys) d = depL sh ys (depL sh xs d)
  | [], ys, d => by simp [depL]
  | t :: xs, ys, d => by rw [List.cons_append, depL, depL, depL_append sh xs ys]
theorem depL_next {sh : List Sh} {ts : List Tre} {i d : Nat} {t : Tre} (ht : ts[i]? = some t) : depL sh (ts.take (i + 1)) d = max (depL sh (ts.take i) d) (depT sh t) := by
  rw [List.take_add_one, ht, depL_append]
  simp [depL]
theorem depAt_le {sh : List Sh} (hd : ∀ s ∈ sh, s.dep ≤ 2) (k : Int) : depAt sh k ≤ 2 := by
  unfold depAt
  cases h : sh[k.toNat]? with
  | none => simp
  | some s => simpa using hd s (List.mem_of_getElem? h)
mutual
theorem depT_le {sh : List Sh} (hd : ∀ s ∈ sh, s.dep ≤ 2) : ∀ t : Tre, depT sh t ≤ 2 * nodT t
  | .mk k _ ts => by
    have := depL_le hd ts 0
    have := depAt_le hd k
    unfold depT nodT
    omega
theorem depL_le {sh : List Sh} (hd : ∀ s ∈ sh, s.dep ≤ 2) : ∀ (ts : List Tre) (d : Nat), depL sh ts d ≤ max d (2 * nodL ts)
  | [], d => by unfold depL nodL; omega
  | t :: ts, d => by
    have := depT_le hd t
    have := depL_le hd ts (max d (depT sh t))
    unfold depL nodL
    omega
end
mutual
def inpT : Tre → Nat
  | .mk k n ts => inpL ts (if k = 0 then (n + 1).toNat else 0)
def inpL : List Tre → Nat → Nat
  | [], d => d
  | t :: ts, d => inpL ts (max d (inpT t))
end
theorem inpL_append : ∀ (xs ys : List Tre) (d : Nat), inpL (xs ++ ys) d = inpL ys (inpL xs d)
  | [], ys, d => by simp [inpL]
  | t :: xs, ys, d => by rw [List.cons_append, inpL, inpL, inpL_append xs ys]
theorem inpL_next {ts : List Tre} {i d : Nat} {t : Tre} (ht : ts[i]? = some t) : inpL (ts.take (i + 1)) d = max (inpL (ts.take i) d) (inpT t) := by
  rw [List.take_add_one, ht, inpL_append]
  simp [inpL]
end Go.Proofs.YtcophfhnhlaonaaGreatDoor
namespace Go.Proofs.YtcophfhnhlaonaaGreatDoor
set_option linter.unusedVariables false
open Go.RowKit

set_option maxHeartbeats 1000000 in
theorem Cost_ref (k : Int) (w : World) :
    Calls Tryz.prog 47 #[.int .i64 k] w fun e w' => e = .returned (.int .i64 (depAt fSh k : Nat)) ∧ Below w.heap.size w w' := by
  have H : Hid ((k = 3 → depAt fSh k = 1) ∧ (k = 4 → depAt fSh k = 1) ∧ (k = 5 → depAt fSh k = 2) ∧ (k ≠ 3 → k ≠ 4 → k ≠ 5 → depAt fSh k = 0)) := Lib.hid (by
    refine ⟨by rintro rfl; rfl, by rintro rfl; rfl, by rintro rfl; rfl, fun h3 h4 h5 => ?_⟩
    unfold depAt
    have hk : k.toNat = 0 ∨ k.toNat = 1 ∨ k.toNat = 2 ∨ 6 ≤ k.toNat := by omega
    rcases hk with h | h | h | h
    · rw [h]; rfl
    · rw [h]; rfl
    · rw [h]; rfl
    · rw [List.getElem?_eq_none (by simpa [fSh] using h)]; rfl)
  by_cases h3 : k = 3
  · have d3 : ((k : Int) == 3) = true := by simp [h3]
    have HE := Lib.hid (H.out.1 h3)
    clear h3
    go_enter Tryz.func47, Tryz.ntmps47
    go_wp2_with fail
    go_ret
    exact ⟨by rw [HE.out]; rfl, Below.refl _ _⟩
  · have d3 : ((k : Int) == 3) = false := by simp [h3]
    by_cases h4 : k = 4
    · have d4 : ((k : Int) == 4) = true := by simp [h4]
      have HE := Lib.hid (H.out.2.1 h4)
      clear h3 h4
      go_enter Tryz.func47, Tryz.ntmps47
      go_wp2_with fail
      go_ret
      exact ⟨by rw [HE.out]; rfl, Below.refl _ _⟩
    · have d4 : ((k : Int) == 4) = false := by simp [h4]
      by_cases h5 : k = 5
      · have d5 : ((k : Int) == 5) = true := by simp [h5]
        have HE := Lib.hid (H.out.2.2.1 h5)
        clear h3 h4 h5
        go_enter Tryz.func47, Tryz.ntmps47
        go_wp2_with fail
        go_ret
        exact ⟨by rw [HE.out]; rfl, Below.refl _ _⟩
      · have d5 : ((k : Int) == 5) = false := by simp [h5]
        have HE := Lib.hid (H.out.2.2.2 h3 h4 h5)
        clear h3 h4 h5
        go_enter Tryz.func47, Tryz.ntmps47
        go_wp2_with fail
        go_ret
        exact ⟨by rw [HE.out]; rfl, Below.refl _ _⟩

set_option maxRecDepth 100000 in
set_option maxHeartbeats 4000000 in
theorem Depth_ref : ∀ (N : Nat) (t : Tre), SizeOf.sizeOf t < N → ∀ (v : Value) (w : World), TreV 0 w t v → nodT t ≤ 1099511627776 →
    Calls Tryz.prog 17 #[v] w fun e w' => e = .returned (.int .i64 (depT fSh t : Nat)) ∧ Below w.heap.size w w' := by
  intro N
  induction N with
  | zero => intro t h; omega
  | succ N ih =>
    intro t htN v w hT hnod
    obtain ⟨k, n, ts⟩ := t
    have hT2 := hT
    unfold TreV at hT2
    obtain ⟨A, c, rfl, hrow⟩ := hT2
    obtain ⟨w0, hw0⟩ : ∃ w0, w0 = w.alloc (.cells #[.int .i64 k, .int .i64 n, .slice A ts.length c] 24) := ⟨_, rfl⟩
    have hb0 : Below w.heap.size w w0 := by rw [hw0]; exact below1 _ _
    have htb : w0.heap[w.heap.size]? = some (.cells #[.int .i64 k, .int .i64 n, .slice A ts.length c] 24 (0, 0)) := by
      rw [hw0]; exact alloc_at _ _ _ rfl
    have hsz0 : w0.heap.size = w.heap.size + 1 := by rw [hw0]; simp
    have HW0 := Lib.hid hw0
    have HB0 := Lib.hid (And.intro hb0 hsz0)
    have HBX := Lib.hid (show ∀ W, Below w0.heap.size w0 W → (W.cell? ⟨w.heap.size, 0, none⟩ = some (.int .i64 k) ∧ W.cell? ⟨w.heap.size, 1, none⟩ = some (.int .i64 n) ∧ W.cell? ⟨w.heap.size, 2, none⟩ = some (.slice A ts.length c)) from fun W ho => (blk3_cells ((ho.block _ (by omega)).trans htb)).1)
    have HBW : Hid (∀ W, Below w0.heap.size w0 W → Below w.heap.size w W) := Lib.hid (fun W ho => hb0.trans (ho.mono hb0.size))
    have HIH := Lib.hid ih
    have HROW := Lib.hid hrow
    have HTN := Lib.hid htN
    have hlen : ts.length ≤ 1099511627776 := by have := nodL_len ts; unfold nodT at hnod; omega
    have HNL := Lib.hid (show nodL ts + 1 ≤ 1099511627776 from by unfold nodT at hnod; exact hnod)
    have HD : Hid (depT fSh (.mk k n ts) = depL fSh ts 0 + depAt fSh k) := Lib.hid rfl
    have HDL := Lib.hid (depL_le (sh := fSh) (by decide) ts 0)
    have HDA := Lib.hid (depAt_le (sh := fSh) (by decide) k)
    have HC := Lib.hid (fun W => Cost_ref k W)
    obtain ⟨c0, c1, c2⟩ := HBX.out w0 (Below.refl _ _)
    clear ih htb hb0 hw0 hsz0 hrow htN hT hnod
    go_enter Tryz.func17, Tryz.ntmps17
    go_wp2_with fail
    rw [← HW0.out]
    go_loopw [3, 4] (fun av iv W => ∃ i q : Nat, i ≤ ts.length ∧ iv = .int .i64 i ∧ av = .int .i64 (q : Int) ∧ depL fSh (ts.take i) 0 = q ∧ Below w0.heap.size w0 W) (fun _ iv _ => ts.length - (intOf iv).toNat)
    case atStart => exact ⟨0, 0, by omega, rfl, rfl, by simp [depL], Below.refl _ _⟩
    case round =>
      obtain ⟨i, q, hi, rfl, rfl, hq, hB⟩ := hrel
      have HB := Lib.hid hB
      have HQ := Lib.hid hq
      obtain ⟨c0, c1, c2⟩ := HBX.out _ hB
      clear hq hB
      by_cases hil : i < ts.length
      · have d1 : decide ((i : Int) < (ts.length : Int)) = true := decide_eq_true (by omega)
        have d1' : decide (i < ts.length) = true := decide_eq_true hil
        obtain ⟨t, ht⟩ : ∃ t, ts[i]? = some t := ⟨_, List.getElem?_eq_getElem hil⟩
        obtain ⟨b, off, x, y, z, rfl, _, e0, e1, e2, hTt⟩ := ((HROW.out.keep (KeepB.of_below 0 (HBW.out _ HB.out)))).at ht
        have hnt := nodL_mem (List.mem_of_getElem? ht)
        have hnl := HNL.out
        have HCALL := Lib.hid (HIH.out t (Nat.lt_of_lt_of_le (kid_size (List.mem_of_getElem? ht)) (Nat.le_of_lt_succ HTN.out)) _ wr hTt (by omega))
        have HNX : Hid (depL fSh (ts.take (i + 1)) 0 = max q (depT fSh t)) := Lib.hid (by rw [depL_next ht, HQ.out])
        rw [Nat.zero_add] at e0 e1 e2
        clear hTt ht hnt hnl
        go_wp2_with fail
        refine HCALL.out.mono ?_
        rintro e w2 ⟨rfl, hB2⟩
        have HB2 := Lib.hid (HB.out.trans (hB2.mono HB.out.size))
        clear hB2
        go_wp2_with fail
        go_roundw
        case rel => exact ⟨i + 1, max q (depT fSh t), by omega, by go_num, by first | rfl | (simp; omega) | (congr 1; omega), HNX.out, HB2.out⟩
        case measure => simp [intOf]; omega
      · have d1 : decide ((i : Int) < (ts.length : Int)) = false := decide_eq_false (by omega)
        have d1' : decide (i < ts.length) = false := decide_eq_false hil
        have HE2 : Hid (depT fSh (.mk k n ts) = q + depAt fSh k) := Lib.hid (by rw [HD.out, ← HQ.out, List.take_of_length_le (by omega)])
        have hq2 : q ≤ 2199023255552 := by have := HDL.out; have h2 := HQ.out; rw [List.take_of_length_le (by omega)] at h2; have := HNL.out; omega
        have hk2 : depAt fSh k ≤ 2 := HDA.out
        go_wp2_with fail
        refine (HC.out _).mono ?_
        rintro e w2 ⟨rfl, hB2⟩
        have HB2 := Lib.hid (HB.out.trans (hB2.mono HB.out.size))
        clear hB2
        go_wp2_with fail
        go_ret
        exact ⟨by rw [HE2.out]; first | rfl | (simp; done), HBW.out _ HB2.out⟩
end Go.Proofs.YtcophfhnhlaonaaGreatDoor
namespace Go.Proofs.YtcophfhnhlaonaaGreatDoor
set_option linter.unusedVariables false
open Go.RowKit

theorem dec_len (len m : Nat) : decide (len = m) = ((len : Int) == (m : Int)) := by
  by_cases h : len = m
  · simp [h]
  · simp [h]; omega
theorem dec_bit (n : Int) : (decide (0 ≤ n) && decide (n < 2)) = ((n == 0) || (n == 1)) := by
  rw [Bool.eq_iff_iff]
  simp only [Bool.and_eq_true, Bool.or_eq_true, decide_eq_true_eq, beq_iff_eq]
  omega
theorem dec_nil (n : Int) : (decide (0 ≤ n) && decide (n < 1)) = (n == 0) := by
  rw [Bool.eq_iff_iff]
  simp only [Bool.and_eq_true, decide_eq_true_eq, beq_iff_eq]
  omega
set_option maxRecDepth 100000 in
set_option maxHeartbeats 4000000 in
theorem Shape_ref (k n : Int) (len : Nat) (w : World) :
    Calls Tryz.prog 46 #[.int .i64 k, .int .i64 n, .int .i64 (len : Int), .int .i64 16] w fun e w' => e = .returned (.bool (permN fSh k n len)) ∧ Below w.heap.size w w' := by
  by_cases h0 : k = 0
  · obtain rfl := h0
    have HE : Hid (permN fSh 0 n len = ((decide (0 ≤ n) && decide (n < 16)) && ((len : Int) == 0))) := Lib.hid (by have := dec_len len 0; simp only [permN, fSh]; rw [← show ((0 : Nat) : Int) = 0 from rfl, ← dec_len]; rfl)
    obtain ⟨b0, hb0⟩ : ∃ b, (decide ((0 : Int) ≤ n)) = b := ⟨_, rfl⟩
    obtain ⟨b1, hb1⟩ : ∃ b, (decide (n < 16)) = b := ⟨_, rfl⟩
    obtain ⟨b2, hb2⟩ : ∃ b, ((len : Int) == 0) = b := ⟨_, rfl⟩
    rw [hb0, hb1, hb2] at HE
    cases b0 <;> cases b1 <;> cases b2 <;> (
      go_enter Tryz.func46, Tryz.ntmps46
      go_wp2_with fail
      go_ret
      exact ⟨by rw [HE.out]; rfl, Below.refl _ _⟩)
  · have d0 : ((k : Int) == 0) = false := by simp [h0]
    by_cases h1 : k = 1
    · obtain rfl := h1
      clear h0
      have HE : Hid (permN fSh 1 n len = (((n == 0) || (n == 1)) && ((len : Int) == 0))) := Lib.hid (by rw [← dec_bit, ← show ((0 : Nat) : Int) = 0 from rfl, ← dec_len]; rfl)
      obtain ⟨b0, hb0⟩ : ∃ b, (n == 0) = b := ⟨_, rfl⟩
      obtain ⟨b1, hb1⟩ : ∃ b, (n == 1) = b := ⟨_, rfl⟩
      obtain ⟨b2, hb2⟩ : ∃ b, ((len : Int) == 0) = b := ⟨_, rfl⟩
      rw [hb0, hb1, hb2] at HE
      cases b0 <;> cases b1 <;> cases b2 <;> (
        go_enter Tryz.func46, Tryz.ntmps46
        go_wp2_with fail
        go_ret
        exact ⟨by rw [HE.out]; rfl, Below.refl _ _⟩)
    · have d1 : ((k : Int) == 1) = false := by simp [h1]
      by_cases h2 : k = 2
      · obtain rfl := h2
        clear h0
        clear h1
        have HE : Hid (permN fSh 2 n len = ((n == 0) && ((len : Int) == 1))) := Lib.hid (by rw [← dec_nil, ← show ((1 : Nat) : Int) = 1 from rfl, ← dec_len]; rfl)
        obtain ⟨b0, hb0⟩ : ∃ b, (n == 0) = b := ⟨_, rfl⟩
        obtain ⟨b1, hb1⟩ : ∃ b, ((len : Int) == 1) = b := ⟨_, rfl⟩
        rw [hb0, hb1] at HE
        cases b0 <;> cases b1 <;> (
          go_enter Tryz.func46, Tryz.ntmps46
          go_wp2_with fail
          go_ret
          exact ⟨by rw [HE.out]; rfl, Below.refl _ _⟩)
      · have d2 : ((k : Int) == 2) = false := by simp [h2]
        by_cases h3 : k = 3
        · obtain rfl := h3
          clear h0
          clear h1
          clear h2
          have HE : Hid (permN fSh 3 n len = ((n == 0) && ((len : Int) == 2))) := Lib.hid (by rw [← dec_nil, ← show ((2 : Nat) : Int) = 2 from rfl, ← dec_len]; rfl)
          obtain ⟨b0, hb0⟩ : ∃ b, (n == 0) = b := ⟨_, rfl⟩
          obtain ⟨b1, hb1⟩ : ∃ b, ((len : Int) == 2) = b := ⟨_, rfl⟩
          rw [hb0, hb1] at HE
          cases b0 <;> cases b1 <;> (
            go_enter Tryz.func46, Tryz.ntmps46
            go_wp2_with fail
            go_ret
            exact ⟨by rw [HE.out]; rfl, Below.refl _ _⟩)
        · have d3 : ((k : Int) == 3) = false := by simp [h3]
          by_cases h4 : k = 4
          · obtain rfl := h4
            clear h0
            clear h1
            clear h2
            clear h3
            have HE : Hid (permN fSh 4 n len = ((n == 0) && ((len : Int) == 2))) := Lib.hid (by rw [← dec_nil, ← show ((2 : Nat) : Int) = 2 from rfl, ← dec_len]; rfl)
            obtain ⟨b0, hb0⟩ : ∃ b, (n == 0) = b := ⟨_, rfl⟩
            obtain ⟨b1, hb1⟩ : ∃ b, ((len : Int) == 2) = b := ⟨_, rfl⟩
            rw [hb0, hb1] at HE
            cases b0 <;> cases b1 <;> (
              go_enter Tryz.func46, Tryz.ntmps46
              go_wp2_with fail
              go_ret
              exact ⟨by rw [HE.out]; rfl, Below.refl _ _⟩)
          · have d4 : ((k : Int) == 4) = false := by simp [h4]
            by_cases h5 : k = 5
            · obtain rfl := h5
              clear h0
              clear h1
              clear h2
              clear h3
              clear h4
              have HE : Hid (permN fSh 5 n len = ((n == 0) && ((len : Int) == 2))) := Lib.hid (by rw [← dec_nil, ← show ((2 : Nat) : Int) = 2 from rfl, ← dec_len]; rfl)
              obtain ⟨b0, hb0⟩ : ∃ b, (n == 0) = b := ⟨_, rfl⟩
              obtain ⟨b1, hb1⟩ : ∃ b, ((len : Int) == 2) = b := ⟨_, rfl⟩
              rw [hb0, hb1] at HE
              cases b0 <;> cases b1 <;> (
                go_enter Tryz.func46, Tryz.ntmps46
                go_wp2_with fail
                go_ret
                exact ⟨by rw [HE.out]; rfl, Below.refl _ _⟩)
            · have d5 : ((k : Int) == 5) = false := by simp [h5]
              have HE : Hid (permN fSh k n len = false) := Lib.hid (by
                unfold permN
                by_cases hk : 0 ≤ k
                · rw [List.getElem?_eq_none (show fSh.length ≤ k.toNat by simp only [fSh, List.length_cons, List.length_nil]; omega)]
                · split
                  · simp [hk]
                  · rfl)
              clear h0 h1 h2 h3 h4 h5
              go_enter Tryz.func46, Tryz.ntmps46
              go_wp2_with fail
              go_ret
              exact ⟨by rw [HE.out]; rfl, Below.refl _ _⟩
end Go.Proofs.YtcophfhnhlaonaaGreatDoor
