/-
  The law PermPowers returns true at every slice of integers and every exponent, in every world, and leaves what lay as it lay.
-/
import Derived.Test.YtdpnmepplkiljaaZg
import Derived.Test.YtdpnmepplkiljaaZd
namespace Go.Proofs.Ytdpnmepplkiljaa
open Go.RowKit Go.Shelf

theorem rds_one (w : World) (x : SlV) : RdS (w.alloc (.cells #[x.val] 23)) w.heap.size 0 [x] := fun j hj => by
  rw [cell_of_row _ w.heap.size (0 + j) #[x.val] 23 (0, 0) (World.alloc_heap_new w _)]
  match j, hj with
  | 0, _ => rfl

theorem short_one (a : Option Addr) (n cap : Nat) (w : World) (r : Bool) (hr : r = decide (n ≤ 100)) :
    Calls Try.prog 13 #[.slice (some ⟨w.heap.size, 0, none⟩) 1 1] (w.alloc (.cells #[.slice a n cap] 23)) fun e w' => e = .returned (.bool r) ∧ w.alloc (.cells #[.slice a n cap] 23) = w' := by
  refine (short_any w.heap.size 0 1 1 [⟨a, n, cap⟩] _ (by omega) rfl (rds_one w ⟨a, n, cap⟩)).mono fun e w' ⟨he, hw⟩ => ⟨he.trans (ret_bool ?_), hw⟩
  rw [hr, Bool.eq_iff_iff, decide_eq_true_eq, decide_eq_true_eq]
  constructor
  · exact fun h => h 0 (by omega)
  · intro h j hj
    match j, hj with
    | 0, _ => exact h

theorem power_bad (v : Value) (l : List Int) (k : Int) (w : World) (h : SlI w v l) (hn : valI l = false) :
    Calls Try.prog 37 #[v, .int .i64 k] w fun e w' => e = .returned (.tuple #[.slice none 0 0, .int .i64 1]) ∧ Below w.heap.size w w' := by
  go_enter Try.func37, Try.ntmps37
  go_wp2_with fail
  refine (valid_no v l _ (h.below (alloc_below w _)) hn).mono ?_
  rintro e w1 ⟨rfl, hB1⟩
  go_wp2_with fail
  go_ret2
  exact ⟨rfl, (alloc_below w _).trans (hB1.mono (by simp))⟩

set_option maxRecDepth 100000 in
set_option maxHeartbeats 1000000 in
theorem powers_long (a : Option Addr) (n cap : Nat) (k : Int) (w : World) (hn : ¬ n ≤ 100) :
    Calls Try.prog 6 #[.slice a n cap, .int .i64 k] w fun e w' => e = .returned (.bool true) ∧ Below w.heap.size w w' := by
  have hs := short_one a n cap w false (by rw [decide_eq_false hn])
  have HS := Lib.hid hs
  clear hs hn
  go_enter Try.func6, Try.ntmps6
  go_wp2_with fail
  refine HS.out.mono ?_
  rintro e w1 ⟨rfl, rfl⟩
  go_wp2_with fail
  refine (alive_any _).mono ?_
  rintro e w2 ⟨rfl, hB⟩
  go_wp2_with fail
  go_ret
  exact ⟨rfl, (alloc_below w _).trans (hB.mono (by simp))⟩

set_option maxRecDepth 100000 in
set_option maxHeartbeats 1000000 in
theorem powers_bad (a : Option Addr) (n cap : Nat) (l : List Int) (k : Int) (w : World) (h : SlI w (.slice a n cap) l) (hn : n ≤ 100) (hv : valI l = false) :
    Calls Try.prog 6 #[.slice a n cap, .int .i64 k] w fun e w' => e = .returned (.bool true) ∧ Below w.heap.size w w' := by
  have hs := short_one a n cap w true (by rw [decide_eq_true hn])
  have HS := Lib.hid hs
  have hB1 := alloc_below w (.cells #[.slice a n cap] 23)
  have hr := rvalid_no _ l _ (h.below hB1) hv
  have HR := Lib.hid hr
  have HV := Lib.hid hv
  have HH := Lib.hid h
  clear hs hn hr hv h
  go_enter Try.func6, Try.ntmps6
  go_wp2_with fail
  refine HS.out.mono ?_
  rintro e w1 ⟨rfl, rfl⟩
  go_wp2_with fail
  refine HR.out.mono ?_
  rintro e w2 ⟨rfl, q, rfl⟩
  have hB2 := below_drewN' hB1 q
  clear HS HR
  go_wp2_with fail
  refine (power_bad _ l k _ (HH.out.below hB2) HV.out).mono ?_
  rintro e w3 ⟨rfl, hB3⟩
  have hBB3 := hB2.trans (hB3.mono hB2.size)
  go_wp2_with fail
  refine (is_bad _ 1 _ rfl rfl).mono ?_
  rintro e w4 ⟨rfl, rfl⟩
  go_wp2_with fail
  refine (alive_any _).mono ?_
  rintro e w5 ⟨rfl, hB5⟩
  go_wp2_with fail
  go_ret
  exact ⟨rfl, hBB3.trans (hB5.mono hBB3.size)⟩

set_option maxRecDepth 100000 in
set_option maxHeartbeats 1000000 in
theorem powers_ok (b off cap n : Nat) (ps : List Nat) (k : Int) (w : World) (hp : IsPerm ps) (hpn : ps.length = n) (hb : b < w.heap.size) (hrd : RdN w b off ps) :
    Calls Try.prog 6 #[.slice (some ⟨b, off, none⟩) n cap, .int .i64 k] w fun e w' => e = .returned (.bool true) ∧ Below w.heap.size w w' := by
  have h7 : n ≤ 7 := by rw [← hpn]; exact hp.2.1
  have hs := short_one (some ⟨b, off, none⟩) n cap w true (by rw [decide_eq_true]; omega)
  have HS := Lib.hid hs
  have hB1 := alloc_below w (.cells #[.slice (some ⟨b, off, none⟩) n cap] 23)
  have hr := rvalid_yes _ _ _ ((SlI.mk_perm (cap := cap) hp hpn hb hrd).below hB1) (valI_perm hp)
  have HR := Lib.hid hr
  have HPN := Lib.hid hpn
  clear hs hr hpn
  go_enter Try.func6, Try.ntmps6
  go_wp2_with fail
  refine HS.out.mono ?_
  rintro e w1 ⟨rfl, rfl⟩
  go_wp2_with fail
  refine HR.out.mono ?_
  rintro e w2 ⟨rfl, q, rfl⟩
  have hB2 := below_drewN' hB1 q
  have s2 := hB2.size
  clear HS HR
  go_wp2_with fail
  refine (rpower_ok b off cap n k ps _ hp HPN.out (Nat.lt_of_lt_of_le hb s2) (hrd.below hB2 hb)).mono ?_
  rintro e w3 ⟨g3, rfl, b3, hg3, hB3⟩
  have hBB3 := hB2.trans (hB3.mono s2)
  have s3 := hBB3.size
  clear hB2 s2 hB3 hB1
  go_wp2_with fail
  refine (power_at b off cap n k ps _ hp HPN.out (Nat.lt_of_lt_of_le hb s3) (hrd.below hBB3 hb)).mono ?_
  rintro e w4 ⟨g4, rfl, hg4, b4, hB4⟩
  have hBB4 := hBB3.trans (hB4.mono s3)
  have s4 := hBB4.size
  have b34 := b3.below hB4 b3.lt
  have hil := (iterN_perm hp (powT ps k)).2.trans HPN.out
  have his := is_okb _ _ _ _ w4 (SlI.of_blk b4 hil (by omega)) (SlI.of_blk b34 hil (by omega)) rfl
  have HIS := Lib.hid his
  clear his hil b34 b4 b3 hB4 hBB3
  go_wp2_with fail
  refine HIS.out.mono ?_
  rintro e w5 ⟨rfl, hB5⟩
  have hBB5 := hBB4.trans (hB5.mono s4)
  go_wp2_with fail
  refine (alive_any _).mono ?_
  rintro e w6 ⟨rfl, hB6⟩
  go_wp2_with fail
  go_ret
  exact ⟨rfl, hBB5.trans (hB6.mono hBB5.size)⟩

theorem powers_any (a : Option Addr) (n cap : Nat) (l : List Int) (k : Int) (w : World) (h : SlI w (.slice a n cap) l) :
    Calls Try.prog 6 #[.slice a n cap, .int .i64 k] w fun e w' => e = .returned (.bool true) ∧ Below w.heap.size w w' := by
  by_cases hn : n ≤ 100
  · by_cases hv : valI l = true
    · obtain ⟨ps, rfl, hp⟩ := perm_valI hv
      obtain ⟨b, off, c, hve, hb, hrd⟩ := h.perm hp
      rw [hve]
      exact powers_ok b off c ps.length ps k w hp rfl hb hrd
    · exact powers_bad a n cap l k w h hn (by simpa using hv)
  · exact powers_long a n cap k w hn
end Go.Proofs.Ytdpnmepplkiljaa
