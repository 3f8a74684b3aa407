/-
  Contract of Unrank of package perm at every number of points from 1 to 7 and every rank that there is.
-/
import Derived.Test.YtdpnmepplkiljaaDoorF
import Derived.Deep.RegionWith
import Derived.IntWalk
namespace Go.Proofs.YtdpnmepplkiljaaDoor
open Go.RowKit

def facN : Nat → Nat
  | 0 => 1
  | n + 1 => (n + 1) * facN n

theorem facI_nat (n : Nat) : facI n = (facN n : Nat) := by
  induction n with
  | zero => rfl
  | succ n ih => show ((n : Int) + 1) * facI n = (((n + 1) * facN n : Nat) : Int); rw [ih]; simp

def unRun : Nat → List Bool → Nat → List Nat
  | 0, _, _ => []
  | j + 1, u, r => unusedFrom u 0 (r / facN j) :: unRun j (u.set (unusedFrom u 0 (r / facN j)) true) (r % facN j)

def unrankN (n r : Nat) : List Nat := unRun n (List.replicate 7 false) r

theorem unRun_length : ∀ (n : Nat) (u : List Bool) (r : Nat), (unRun n u r).length = n
  | 0, _, _ => rfl
  | n + 1, u, r => by simp [unRun, unRun_length n]

theorem facN_pos (n : Nat) : 1 ≤ facN n := by have := facI_pos n; rw [facI_nat] at this; omega
theorem facN_le (n : Nat) (h : n ≤ 7) : facN n ≤ 5040 := by have := facI_le n h; rw [facI_nat] at this; omega

theorem factorial_nat (m : Int) (n : Nat) (hm : m = n) (w : World) (hn : n ≤ 7) :
    Calls Tryd.prog 29 #[.int .i64 m] w fun e w' => e = .returned (.int .i64 (facN n : Nat)) ∧ w = w' := by
  rw [hm, ← facI_nat]; exact factorial_any n w hn

def boolCells (u : List Bool) : List Value := u.map Value.bool

def fillPart (L : List Nat) (n k : Nat) : List Value := (List.range n).map fun i => if i < k then Value.int .i64 ((L[i]?.getD 0 : Nat) : Int) else .int .i64 0

theorem fillPart_zero (L : List Nat) (n : Nat) : (madeCells (Value.int .i64 0).cells (n * 1)).toList = fillPart L n 0 := by
  rw [zeros_range]; simp [fillPart]

theorem fillPart_succ (L : List Nat) (n k : Nat) :
    (fillPart L n k).set k (.int .i64 ((L[k]?.getD 0 : Nat) : Int)) = fillPart L n (k + 1) := by
  unfold fillPart
  rw [range_set]
  apply List.map_congr_left
  intro i _
  by_cases h : i = k
  · subst h; simp
  · by_cases h2 : i < k
    · simp [h, h2, show i < k + 1 by omega]
    · simp [h, h2, show ¬ i < k + 1 by omega]

theorem fillPart_full (L : List Nat) (n : Nat) (hp : L.length = n) : fillPart L n n = natCells L :=
  natCells_eq n _ hp _ (fun i hi => by simp [hi])

theorem seven (u : List Bool) (h : u.length = 7) : ∃ b0 b1 b2 b3 b4 b5 b6, u = [b0, b1, b2, b3, b4, b5, b6] := by
  match u, h with
  | [b0, b1, b2, b3, b4, b5, b6], _ => exact ⟨b0, b1, b2, b3, b4, b5, b6, rfl⟩

theorem below_grown {w w' : World} (h : Below w.heap.size w w') : w.grownBy w' none := ⟨h.os, h.tape, h.output, h.size, fun k hk _ => h.block k hk⟩
theorem owns_below {w w' : World} {base : Nat} {e : TypeId} {size : Nat} {v : Value} {n : Nat} {xs : List Value} (h : w.ownsRow base e size v n xs) (hB : Below w.heap.size w w') : w'.ownsRow base e size v n xs :=
  h.kept (below_grown hB) (by cases v.ownBlock with | none => exact .inl rfl | some k => exact .inr (by simp))

theorem below_of_drew {B : Nat} {w w' : World} (h : Below B w.drew w') : Below B w w' := ⟨h.os, h.tape, h.output, h.size, h.block⟩

theorem unused_int (b0 b1 b2 b3 b4 b5 b6 : Bool) (m : Int) (skip x : Nat) (hm : m = skip) (hx : unusedFrom [b0, b1, b2, b3, b4, b5, b6] 0 skip = x) (w : World) (hs : skip ≤ 10000) :
    Calls Tryd.prog 37 #[.agg #[.bool b0, .bool b1, .bool b2, .bool b3, .bool b4, .bool b5, .bool b6], .int .i64 m] w fun e w' => e = .returned (.int .i64 (x : Nat)) ∧ Below w.heap.size w w' := by
  rw [hm, ← hx]; exact unused_any b0 b1 b2 b3 b4 b5 b6 skip w hs

theorem wrap_div (a b : Nat) (ha : a ≤ 10000) : wrap64 ((a : Int) / (b : Int)) = ((a / b : Nat) : Int) := by
  have h : a / b ≤ a := Nat.div_le_self _ _
  rw [← Int.natCast_ediv]
  obtain ⟨c, hc⟩ : ∃ c, a / b = c := ⟨_, rfl⟩
  rw [hc] at h ⊢
  exact IntWalk.wrap64_in _ ⟨by omega, by omega⟩

theorem boolCells_set (u : List Bool) (x : Nat) : (boolCells u).set x (.bool true) = boolCells (u.set x true) := by
  unfold boolCells; rw [List.map_set]

theorem unrank_round {w wr w2 : World} {s n k x : Nat} {u : List Bool} {L : List Nat} (hownS : wr.ownsRow s 62 1 (.slice (some ⟨s, 0, none⟩) 7 7) 7 (boolCells u))
    (hown : wr.ownsRow (s + 1) 3 1 (.slice (some ⟨s + 1, 0, none⟩) n n) n (fillPart L n k)) (hB : Below s w wr) (hBx : Below wr.heap.size wr w2) (hx : L[k]?.getD 0 = x) :
    ((w2.setCell ⟨s + 1, k, none⟩ (.int .i64 (x : Int))).setCell ⟨s, x, none⟩ (.bool true)).ownsRow s 62 1 (.slice (some ⟨s, 0, none⟩) 7 7) 7 (boolCells (u.set x true)) ∧
    ((w2.setCell ⟨s + 1, k, none⟩ (.int .i64 (x : Int))).setCell ⟨s, x, none⟩ (.bool true)).ownsRow (s + 1) 3 1 (.slice (some ⟨s + 1, 0, none⟩) n n) n (fillPart L n (k + 1)) ∧
    Below s w ((w2.setCell ⟨s + 1, k, none⟩ (.int .i64 (x : Int))).setCell ⟨s, x, none⟩ (.bool true)) := by
  have hsl : s < wr.heap.size := (hownS.lt _ rfl).2
  obtain ⟨p1, g1⟩ := (owns_below hown hBx).stored k (.int .i64 (x : Int))
  have hf := fillPart_succ L n k
  rw [hx] at hf
  rw [hf] at p1
  have q1 := (owns_below hownS hBx).kept g1 (.inr (by simp [Value.ownBlock]))
  obtain ⟨q2, g2⟩ := q1.stored x (.bool true)
  rw [boolCells_set] at q2
  have p2 := p1.kept g2 (.inr (by simp [Value.ownBlock]))
  exact ⟨q2, p2, ((hB.trans (hBx.mono (by omega))).setCell (p := ⟨s + 1, k, none⟩) (by simp) _).setCell (p := ⟨s, x, none⟩) (Nat.le_refl _) _⟩

set_option maxHeartbeats 1000000 in
theorem unrank_ok (n r : Nat) (w : World) (h1 : 1 ≤ n) (h7 : n ≤ 7) (hr : r < facN n) (hL : ∀ k, k < n → (unrankN n r)[k]?.getD 0 < n) :
    Calls Tryd.prog 19 #[.int .i64 n, .int .i64 r] w fun e w' => ∃ g, e = .returned (.tuple #[.slice (some ⟨g, 0, none⟩) n n, .int .i64 0]) ∧ w.heap.size ≤ g ∧ Blk w' g (unrankN n r) ∧ Below w.heap.size w w' := by
  obtain ⟨i0, hi, hz0, hz1, hz2⟩ := info_parts Tryd.info3
  have hfl := facN_le n h7
  obtain ⟨L, hLL⟩ : ∃ L, unrankN n r = L := ⟨_, rfl⟩
  rw [hLL] at hL ⊢
  have HL := Lib.hid hL
  have HLL := Lib.hid hLL
  clear hL hLL
  have hownS : (w.alloc (.cells #[.bool false, .bool false, .bool false, .bool false, .bool false, .bool false, .bool false] 62)).ownsRow w.heap.size 62 1 (.slice (some ⟨w.heap.size, 0, none⟩) 7 7) 7 (boolCells (List.replicate 7 false)) :=
    World.ownsRow_lit w _ 7 (Nat.le_refl _) (by unfold maxLen; omega) rfl
  go_enter Tryd.func19, Tryd.ntmps19
  go_wp2_with (first | (go_at_call 36; refine (fits_yes _ _ (by omega) (by omega)).mono ?_; rintro e w' ⟨rfl, rfl⟩) | (go_at_call 29; refine (factorial_nat _ n rfl _ h7).mono ?_; rintro e w' ⟨rfl, rfl⟩) | (at_make; refine wpList_make_full _ rfl _ _ 23 rfl (w.heap.size + 1) 3 i0 (.int .i64 0) 1 Tryd.underlying23 hi hz0 hz1 .i64 .i64 _ _ n rfl rfl rfl rfl (by rw [hz2]; omega) (by unfold maxLen; omega) (by simp) ?_; intro w1 hown hgrow))
  clear hi hz0 hz1 hz2
  have hB1 : Below w.heap.size w w1 := (((Below.refl w.heap.size w).alloc (Nat.le_refl _) _).grown hgrow (by simp) (fun k e => by cases e))
  have hownS1 := hownS.kept hgrow (.inr (by simp [Value.ownBlock]))
  clear hgrow hownS
  rw [fillPart_zero L] at hown
  simp only [World.size_alloc] at hown
  go_loopw [1, 27] (fun q i wr => ∃ (k r' : Nat) (u : List Bool), k ≤ n ∧ i = .int .i64 k ∧ q = .int .i64 r' ∧ r' < facN (n - k) ∧ u.length = 7 ∧ unRun (n - k) u r' = L.drop k ∧ wr.ownsRow w.heap.size 62 1 (.slice (some ⟨w.heap.size, 0, none⟩) 7 7) 7 (boolCells u) ∧
      wr.ownsRow (w.heap.size + 1) 3 1 (.slice (some ⟨w.heap.size + 1, 0, none⟩) n n) n (fillPart L n k) ∧ Below w.heap.size w wr) (fun _ i _ => n - (intOf i).toNat)
  case atStart => exact ⟨0, r, List.replicate 7 false, Nat.zero_le _, rfl, rfl, hr, rfl, HLL.out, hownS1, hown, hB1⟩
  case round =>
    clear hownS1 hown hB1
    obtain ⟨k, r', u, hk, rfl, rfl, hr', hul, hun, hownS, hown, hB⟩ := hrel
    by_cases hkn : k < n
    · obtain ⟨j, hj⟩ : ∃ j, n - k = j + 1 := ⟨n - k - 1, by omega⟩
      have hj7 : j ≤ 7 := by omega
      have hx := HL.out k hkn
      rw [hj] at hun hr'
      have hLl : L.length = n := by rw [← HLL.out]; exact unRun_length _ _ _
      have hdk : L.drop k = L[k]?.getD 0 :: L.drop (k + 1) := by
        rw [List.drop_eq_getElem_cons (by omega : k < L.length)]
        simp [show k < L.length by omega]
      rw [hdk] at hun
      simp only [unRun, List.cons.injEq] at hun
      obtain ⟨hu1, hu2⟩ := hun
      rw [hu1] at hu2
      obtain ⟨x, hxe⟩ : ∃ x, L[k]?.getD 0 = x := ⟨_, rfl⟩
      rw [hxe] at hx hu1 hu2
      have hfj := facN_le j hj7
      have hfp := facN_pos j
      have hfs : r' < (j + 1) * facN j := hr'
      have hq : r' / facN j ≤ 10000 := Nat.le_trans (Nat.div_le_self _ _) (by
        have : (j + 1) * facN j ≤ 5040 := facN_le (j + 1) (by omega)
        omega)
      have hrm : r' % facN j < facN (n - (k + 1)) := by
        have : n - (k + 1) = j := by omega
        rw [this]; exact Nat.mod_lt _ hfp
      have hun2 : unRun (n - (k + 1)) (u.set x true) (r' % facN j) = L.drop (k + 1) := by
        have : n - (k + 1) = j := by omega
        rw [this]; exact hu2
      have HJ := Lib.hid hj
      have HUN := Lib.hid hun2
      have HX := Lib.hid hxe
      have HU := Lib.hid hul
      have HRM := Lib.hid hrm
      have hst := hown.stored k (.int .i64 ((L[k]?.getD 0 : Nat) : Int))
      rw [fillPart_succ, hxe] at hst
      have hn1 : n ≤ k + j + 1 := by omega
      have hn2 : k + j + 1 ≤ n := by omega
      have HST := Lib.hid hst
      obtain ⟨b0, b1, b2, b3, b4, b5, b6, rfl⟩ := seven u HU.out
      have s0 : wr.cell? ⟨w.heap.size, 0, none⟩ = some (.bool b0) := hownS.cellAt 0 (by omega)
      have s1 : wr.cell? ⟨w.heap.size, 1, none⟩ = some (.bool b1) := hownS.cellAt 1 (by omega)
      have s2 : wr.cell? ⟨w.heap.size, 2, none⟩ = some (.bool b2) := hownS.cellAt 2 (by omega)
      have s3 : wr.cell? ⟨w.heap.size, 3, none⟩ = some (.bool b3) := hownS.cellAt 3 (by omega)
      have s4 : wr.cell? ⟨w.heap.size, 4, none⟩ = some (.bool b4) := hownS.cellAt 4 (by omega)
      have s5 : wr.cell? ⟨w.heap.size, 5, none⟩ = some (.bool b5) := hownS.cellAt 5 (by omega)
      have s6 : wr.cell? ⟨w.heap.size, 6, none⟩ = some (.bool b6) := hownS.cellAt 6 (by omega)
      have HU1 := Lib.hid hu1
      have HWQ := Lib.hid (wrap_div r' (facN j) (by
        have : (j + 1) * facN j ≤ 5040 := facN_le (j + 1) (by omega)
        omega))
      have c3 : wr.cell? ⟨w.heap.size + 1, k, none⟩ = (fillPart L n k)[k]? := hown.cellAt k (by omega)
      have c4 : (fillPart L n k)[k]? = some (.int .i64 0) := by simp [fillPart, hkn]
      rw [c4] at c3
      have f3 := hown.frozenAt k
      have hx7 : x < 7 * 1 := by omega
      have hlt1 : w.heap.size + 1 < wr.heap.size := (hown.lt _ rfl).2
      obtain ⟨vx, hvx⟩ : ∃ vx, (boolCells [b0, b1, b2, b3, b4, b5, b6])[x]? = some vx := ⟨_, List.getElem?_eq_getElem (by simp [boolCells]; omega)⟩
      have HVX := Lib.hid hvx
      have HOS := Lib.hid hownS
      have HO := Lib.hid hown
      clear c4 hvx
      clear hr' hfs hun2 hu2 hdk hLl hxe hj hrm hst hul hu1
      go_wp2_with (go_at_call 29; refine (factorial_nat _ j (by omega) _ hj7).mono ?_; rintro e w' ⟨rfl, rfl⟩)
      go_region_with (go_at_call 37; refine (unused_int b0 b1 b2 b3 b4 b5 b6 _ _ x HWQ.out HU1.out _ hq).mono ?_; rintro e w2 ⟨rfl, hBw⟩; have hBx : Below wr.heap.size wr w2 := below_of_drew hBw; have c9 := (hBw.cell (p := ⟨w.heap.size + 1, k, none⟩) hlt1).trans c3; have f9 := (hBw.frozen (p := ⟨w.heap.size + 1, k, none⟩) hlt1).trans f3; have cx := ((owns_below HOS.out (w' := w2) hBx).cellAt x hx7).trans HVX.out; have fx := (owns_below HOS.out (w' := w2) hBx).frozenAt x)
      all_goals
        have HR := Lib.hid (unrank_round HOS.out HO.out hB (below_of_drew hBw) HX.out)
        clear hBw hBx
        go_wp2_with fail
        go_roundw
        case rel => exact ⟨k + 1, r' % facN j, _, by omega, by go_num, by go_num, HRM.out, by rw [List.length_set]; rfl, HUN.out, HR.out.1, HR.out.2.1, HR.out.2.2⟩
        case measure => simp [intOf]; omega
    · have hkn2 : k = n := by omega
      subst hkn2
      have hfull := hown
      have hLl : L.length = k := by rw [← HLL.out]; exact unRun_length _ _ _
      rw [fillPart_full L k hLl] at hfull
      clear hLl hun hul hr'
      go_wp2_with fail
      go_ret2
      exact ⟨_, rfl, Nat.le_succ _, Blk.of_owns hfull, hB⟩
end Go.Proofs.YtdpnmepplkiljaaDoor
