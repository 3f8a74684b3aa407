/-
  Contracts of strings.Builder's writers, at a builder of the call's own, and of strconv.Itoa at one digit.
-/
import Derived.Test.YtdpnmepplkiljaaDoorShelf
import Derived.Test.YtdpnmepplkiljaaDoorZj
namespace Go.Proofs.YtdpnmepplkiljaaDoor
open Go.RowKit Go.Shelf

theorem Tryd.sizeBuilder : (Tryd.prog.info? 50).map (·.size) = some 2 := by kernel_rfl
theorem Tryd.liesBuilder : liesAt Tryd.prog Tryd.prog.depth 50 (2 / Tryd.prog.cellsOf 50) 0 50 1 = true := by kernel_rfl
theorem Tryd.infoByte : (Tryd.prog.info? 5).map (fun i => (i.zero, i.size, i.bytes)) = some (some (.int .u8 0), 1, 1) := by kernel_rfl

set_option maxHeartbeats 1000000 in
set_option maxRecDepth 100000 in
theorem check_used (b : Nat) (w : World) (h0 : w.cell? ⟨b, 0, none⟩ = some (.pointer (some ⟨b, 0, none⟩))) :
    Calls Tryd.prog 44 #[.pointer (some ⟨b, 0, none⟩)] w fun e w' => e = .returned (.tuple #[]) ∧ w' = w := by
  obtain ⟨j, hj, _⟩ := Option.map_eq_some_iff.1 Tryd.sizeBuilder
  go_enter Tryd.func44, Tryd.ntmps44
  go_wp2
  rw [Lib.run_neq_ptr_same w _ Tryd.underlying48 hj]
  go_wp2
  go_end0
  exact ⟨rfl, rfl⟩

set_option maxHeartbeats 1000000 in
set_option maxRecDepth 100000 in
theorem check_fresh (b : Nat) (w : World) (h0 : w.cell? ⟨b, 0, none⟩ = some (.pointer none)) (hsh : w.shape? b = some (50, 2)) (hfz : w.frozen? ⟨b, 0, none⟩ = false) :
    Calls Tryd.prog 44 #[.pointer (some ⟨b, 0, none⟩)] w fun e w' => e = .returned (.tuple #[]) ∧ w' = w.setCell ⟨b, 0, none⟩ (.pointer (some ⟨b, 0, none⟩)) := by
  obtain ⟨j, hj, hjs⟩ := Option.map_eq_some_iff.1 Tryd.sizeBuilder
  go_enter Tryd.func44, Tryd.ntmps44
  go_wp2
  rw [Lib.run_to_unsafe w ⟨b, 0, none⟩ Tryd.underlying48 Tryd.underlying77 hj (by rw [hjs]; decide) hsh (Nat.zero_lt_succ 1)]
  simp only [Result.andThen]
  rw [Oper.upon_value]
  go_wp2
  rw [run_callFunc_extern Tryd.func46 (by kernel_rfl) (by kernel_rfl) (by kernel_rfl) (e := Extern.AbiNoEscape.same) (by kernel_rfl)]
  rw [Lib.run_noEscape]
  simp only [Result.andThen]
  rw [Oper.upon_value]
  go_wp2
  rw [Lib.run_from_unsafe w ⟨b, 0, none⟩ Tryd.underlying77 Tryd.underlying48 hj hsh Tryd.liesBuilder]
  simp only [Result.andThen]
  rw [Oper.upon_value]
  go_wp2
  go_end0
  exact ⟨rfl, rfl⟩

/-- A builder in block b that the call made itself and only wrote: its bytes lie from block hi on. -/
def Bld (b hi : Nat) (bs : List Value) (w : World) : Prop :=
  b < hi ∧ ∃ p v, (p = .pointer none ∨ p = .pointer (some ⟨b, 0, none⟩)) ∧ w.heap[b]? = some (.cells #[p, v] 50 (0, 0)) ∧ w.ownsRow hi 5 1 v bs.length bs

theorem Bld.is {b hi : Nat} {bs : List Value} {w : World} (h : Bld b hi bs w) : Lib.IsBuilder 50 5 b b bs w := by
  obtain ⟨hb, p, v, hp, hh, ho⟩ := h
  have hne : v.ownBlock ≠ some b := fun e => by have := (ho.lt b e).1; omega
  rcases hp with rfl | rfl
  · exact .inl ⟨Nat.le_refl _, v, hh, owns_weak ho (by omega), hne⟩
  · exact .inr ⟨Nat.le_refl _, v, hh, owns_weak ho (by omega), hne⟩

theorem check2 (b hi : Nat) (bs : List Value) (w : World) (h : Bld b hi bs w) :
    Calls Tryd.prog 44 #[.pointer (some ⟨b, 0, none⟩)] w fun e w' => e = .returned (.tuple #[]) ∧ (b < hi ∧ ∃ v, w'.heap[b]? = some (.cells #[.pointer (some ⟨b, 0, none⟩), v] 50 (0, 0)) ∧ w'.ownsRow hi 5 1 v bs.length bs) ∧ Only (fun k => k = b) w w' := by
  have hI := h.is
  obtain ⟨hb, p, v, hp, hh, ho⟩ := h
  rcases hp with rfl | rfl
  · have hI0 : Lib.BuilderAt 50 5 b b (.pointer none) bs w := ⟨Nat.le_refl _, v, hh, owns_weak ho (by omega), fun e => by have := (ho.lt b e).1; omega⟩
    refine (check_fresh b w hI0.cell0 hI0.shape hI0.frozen0).mono ?_
    rintro e w' ⟨rfl, rfl⟩
    have hO : Only (fun k => k = b) w (w.setCell ⟨b, 0, none⟩ (.pointer (some ⟨b, 0, none⟩))) := (Only.refl (fun k => k = b) w).setCell (p := ⟨b, 0, none⟩) rfl _
    refine ⟨rfl, ⟨hb, v, heap_setCell_same w b 0 _ _ _ hh, ?_⟩, hO⟩
    rcases hv : v.ownBlock with _ | g
    · rcases ho.2 with h2 | ⟨g, _, _, rfl, _⟩
      · exact ⟨ho.1, .inl h2⟩
      · simp [Value.ownBlock] at hv
    · exact owns_only2 ho hO hv (fun e => by have := (ho.lt g hv).1; omega)
  · refine (check_used b w (by rw [Lib.cell_of_heap hh]; rfl)).mono ?_
    rintro e w' ⟨rfl, rfl⟩
    exact ⟨rfl, ⟨hb, v, hh, ho⟩, Only.refl _ _⟩

theorem bld_put {b hi : Nat} {v v' : Value} {bs' : List Value} {w1 w2 : World} {S : Nat → Prop} (hb : b < hi) (hbk : w2.heap[b]? = some (.cells #[.pointer (some ⟨b, 0, none⟩), v] 50 (0, 0)))
    (hown : w2.ownsRow hi 5 1 v' bs'.length bs') (hO : Only S w1 w2) (hS : S b) : Bld b hi bs' (w2.setCell ⟨b, 1, none⟩ v') ∧ Only S w1 (w2.setCell ⟨b, 1, none⟩ v') := by
  refine ⟨⟨hb, _, v', .inr rfl, heap_setCell_same w2 b 1 _ _ _ hbk, ?_⟩, hO.setCell (p := ⟨b, 1, none⟩) hS _⟩
  have hO2 : Only (fun k => k = b) w2 (w2.setCell ⟨b, 1, none⟩ v') := (Only.refl (fun k => k = b) w2).setCell (p := ⟨b, 1, none⟩) rfl _
  rcases hv : v'.ownBlock with _ | g
  · rcases hown.2 with h2 | ⟨g, _, _, rfl, _⟩
    · exact ⟨hown.1, .inl h2⟩
    · simp [Value.ownBlock] at hv
  · exact owns_only2 hown hO2 hv (fun e => by have := (hown.lt g hv).1; omega)

set_option maxHeartbeats 2000000 in
set_option maxRecDepth 100000 in
theorem wbyte_any (b hi : Nat) (bs : List Value) (c : Int) (w : World) (h : Bld b hi bs w) (hlen : bs.length + 1 ≤ 100000) (hBw : hi ≤ w.heap.size) :
    Calls Tryd.prog 40 #[.pointer (some ⟨b, 0, none⟩), .int .u8 c] w fun e w' => e = .returned .nilIface ∧ Bld b hi (bs ++ [.int .u8 c]) w' ∧ Only (fun k => k = b ∨ hi ≤ k) w w' := by
  obtain ⟨i0, hi0, hz0, hz1, hz2⟩ := info_parts Tryd.infoByte
  go_enter Tryd.func40, Tryd.ntmps40
  go_wp2_with fail
  refine (check2 b hi bs _ h).mono ?_
  rintro e w1 ⟨rfl, ⟨hB, v, hbk, hown⟩, hO1⟩
  have hs1 := hO1.size
  have c0 : w1.cell? ⟨b, 0, none⟩ = some (.pointer (some ⟨b, 0, none⟩)) := by rw [Lib.cell_of_heap hbk]; rfl
  have c1 : w1.cell? ⟨b, 1, none⟩ = some v := by rw [Lib.cell_of_heap hbk]; rfl
  obtain ⟨av, pv, rfl⟩ : ∃ a p, v = .slice a bs.length p := by
    rcases hown.2 with ⟨hv, h0⟩ | ⟨g, cp, _, hv, _⟩
    · exact ⟨none, 0, by rw [hv, h0]⟩
    · exact ⟨_, cp, hv⟩
  go_wp2_with (at_builtin; refine wpList_append_own _ rfl _ _ 46 rfl hi 5 i0 (.int .u8 0) 1 1 Tryd.underlying46 hi0 hz0 hz1 hz2 rfl (by decide) _ _ _ rfl (hown.alloc _) ⟨w1.heap.size, 0, none⟩ 1 1 [.int .u8 c] rfl rfl ?c1 ?c2 ?c3 ?c4 ?c5 ?_)
  case c1 =>
    intro j u hj
    match j, hj with
    | 0, hj => simp at hj; subst hj; simp [Addr.add]
  case c2 => intro u hu; simp at hu; subst hu; rfl
  case c3 => unfold maxLen; omega
  case c4 => omega
  case c5 => simp; omega
  intro v' w2 hown' hgrow _
  have hlt : b < w1.heap.size := (Array.getElem?_eq_some_iff.1 hbk).1
  have hb2 : w2.heap[b]? = some (.cells #[.pointer (some ⟨b, 0, none⟩), .slice av bs.length pv] 50 (0, 0)) := by
    rw [hgrow.block b (by simp; omega) (fun e => by have := (hown.lt b e.symm).1; omega), Lib.alloc_old w1 _ b hlt]
    exact hbk
  have hO2 : Only (fun k => k = b ∨ hi ≤ k) w w2 := ((hO1.mono fun k e => .inl e).alloc _).grown hgrow (fun k e _ => .inr (hown.lt k e).1)
  have d0 : w2.cell? ⟨b, 0, none⟩ = some (.pointer (some ⟨b, 0, none⟩)) := by rw [Lib.cell_of_heap hb2]; rfl
  have d1 : w2.cell? ⟨b, 1, none⟩ = some (.slice av bs.length pv) := by rw [Lib.cell_of_heap hb2]; rfl
  have f1 : w2.frozen? ⟨b, 1, none⟩ = false := Lib.frozen_of_heap hb2 1
  obtain ⟨g, cap, rfl⟩ : ∃ g cap, v' = .slice (some ⟨g, 0, none⟩) (bs.length + 1) cap := by
    rcases hown'.2 with ⟨_, h0⟩ | ⟨g, cap, cur, hv, _⟩
    · omega
    · exact ⟨g, cap, hv⟩
  go_wp2
  go_ret
  exact ⟨rfl, bld_put hB hb2 (bs' := bs ++ [.int .u8 c]) (by simpa using hown') hO2 (.inl rfl)⟩

set_option maxHeartbeats 2000000 in
set_option maxRecDepth 100000 in
theorem wstr_any (b hi : Nat) (bs : List Value) (s : ByteArray) (w : World) (h : Bld b hi bs w) (hlen : bs.length + s.size ≤ 100000) (hBw : hi ≤ w.heap.size) :
    Calls Tryd.prog 41 #[.pointer (some ⟨b, 0, none⟩), .string s] w fun e w' => e = .returned (.tuple #[.int .i64 s.size, .nilIface]) ∧ Bld b hi (bs ++ Lib.strCells s) w' ∧ Only (fun k => k = b ∨ hi ≤ k) w w' := by
  obtain ⟨i0, hi0, hz0, hz1, hz2⟩ := info_parts Tryd.infoByte
  go_enter Tryd.func41, Tryd.ntmps41
  go_wp2_with fail
  refine (check2 b hi bs _ h).mono ?_
  rintro e w1 ⟨rfl, ⟨hB, v, hbk, hown⟩, hO1⟩
  have hs1 := hO1.size
  have c0 : w1.cell? ⟨b, 0, none⟩ = some (.pointer (some ⟨b, 0, none⟩)) := by rw [Lib.cell_of_heap hbk]; rfl
  have c1 : w1.cell? ⟨b, 1, none⟩ = some v := by rw [Lib.cell_of_heap hbk]; rfl
  obtain ⟨av, pv, rfl⟩ : ∃ a p, v = .slice a bs.length p := by
    rcases hown.2 with ⟨hv, h0⟩ | ⟨g, cp, _, hv, _⟩
    · exact ⟨none, 0, by rw [hv, h0]⟩
    · exact ⟨_, cp, hv⟩
  go_wp2_with (at_builtin; refine Lib.wpList_append_own_string _ rfl _ _ 46 9 rfl hi 5 i0 Tryd.underlying46 Tryd.underlying9 hi0 hz0 hz1 hz2 _ _ _ rfl hown s rfl ?c3 ?c4 ?c5 ?_)
  case c3 => unfold maxLen; omega
  case c4 => omega
  case c5 => omega
  intro v' w2 hown' hgrow _
  have hlt : b < w1.heap.size := (Array.getElem?_eq_some_iff.1 hbk).1
  have hb2 : w2.heap[b]? = some (.cells #[.pointer (some ⟨b, 0, none⟩), .slice av bs.length pv] 50 (0, 0)) := by
    rw [hgrow.block b hlt (fun e => by have := (hown.lt b e.symm).1; omega)]
    exact hbk
  have hO2 : Only (fun k => k = b ∨ hi ≤ k) w w2 := (hO1.mono fun k e => .inl e).grown hgrow (fun k e _ => .inr (hown.lt k e).1)
  have d0 : w2.cell? ⟨b, 0, none⟩ = some (.pointer (some ⟨b, 0, none⟩)) := by rw [Lib.cell_of_heap hb2]; rfl
  have d1 : w2.cell? ⟨b, 1, none⟩ = some (.slice av bs.length pv) := by rw [Lib.cell_of_heap hb2]; rfl
  have f1 : w2.frozen? ⟨b, 1, none⟩ = false := Lib.frozen_of_heap hb2 1
  obtain ⟨ao, n', cap, rfl⟩ : ∃ ao n' cap, v' = .slice ao n' cap := by
    rcases hown'.2 with ⟨hv, _⟩ | ⟨g, cap, cur, hv, _⟩
    · exact ⟨_, _, _, hv⟩
    · exact ⟨_, _, _, hv⟩
  go_wp2
  go_ret2
  exact ⟨rfl, bld_put hB hb2 (bs' := bs ++ Lib.strCells s) (by simpa [Lib.strCells_length] using hown') hO2 (.inl rfl)⟩

def digit (n : Nat) : UInt8 := UInt8.ofNat (48 + n)

set_option maxHeartbeats 2000000 in
set_option maxRecDepth 100000 in
theorem small_any (n : Nat) (w : World) (h7 : n < 7) :
    Calls Tryd.prog 48 #[.int .i64 n] w fun e w' => e = .returned (.string ⟨#[digit n]⟩) ∧ w = w' := by
  match n, h7 with
  | 0, _ => go_enter Tryd.func48, Tryd.ntmps48; go_wp2; go_ret; exact ⟨by kernel_rfl, rfl⟩
  | 1, _ => go_enter Tryd.func48, Tryd.ntmps48; go_wp2; go_ret; exact ⟨by kernel_rfl, rfl⟩
  | 2, _ => go_enter Tryd.func48, Tryd.ntmps48; go_wp2; go_ret; exact ⟨by kernel_rfl, rfl⟩
  | 3, _ => go_enter Tryd.func48, Tryd.ntmps48; go_wp2; go_ret; exact ⟨by kernel_rfl, rfl⟩
  | 4, _ => go_enter Tryd.func48, Tryd.ntmps48; go_wp2; go_ret; exact ⟨by kernel_rfl, rfl⟩
  | 5, _ => go_enter Tryd.func48, Tryd.ntmps48; go_wp2; go_ret; exact ⟨by kernel_rfl, rfl⟩
  | 6, _ => go_enter Tryd.func48, Tryd.ntmps48; go_wp2; go_ret; exact ⟨by kernel_rfl, rfl⟩

set_option maxHeartbeats 2000000 in
set_option maxRecDepth 100000 in
theorem formatInt_any (n : Nat) (w : World) (h7 : n < 7) :
    Calls Tryd.prog 47 #[.int .i64 n, .int .i64 10] w fun e w' => e = .returned (.string ⟨#[digit n]⟩) ∧ w = w' := by
  have h0 : (0 : Int) ≤ (n : Int) := by omega
  have h1 : (n : Int) < 100 := by omega
  have hs := small_any n w h7
  have HS := Lib.hid hs
  clear hs
  go_enter Tryd.func47, Tryd.ntmps47
  go_wp2_with fail
  refine HS.out.mono ?_
  rintro e w1 ⟨rfl, rfl⟩
  go_wp2_with fail
  go_ret
  exact ⟨rfl, rfl⟩

set_option maxHeartbeats 2000000 in
set_option maxRecDepth 100000 in
theorem itoa1_any (n : Nat) (w : World) (h7 : n < 7) :
    Calls Tryd.prog 45 #[.int .i64 n] w fun e w' => e = .returned (.string ⟨#[digit n]⟩) ∧ w = w' := by
  have HS := Lib.hid (formatInt_any n w h7)
  go_enter Tryd.func45, Tryd.ntmps45
  go_wp2_with fail
  refine HS.out.mono ?_
  rintro e w1 ⟨rfl, rfl⟩
  go_wp2_with fail
  go_ret
  exact ⟨rfl, rfl⟩

theorem itoa_any (n : Nat) (w : World) (h7 : n < 7) :
    Calls Tryd.prog 42 #[.int .i64 n] w fun e w' => e = .returned (.string ⟨#[digit n]⟩) ∧ w = w' := by
  have HS := Lib.hid (itoa1_any n w h7)
  go_enter Tryd.func42, Tryd.ntmps42
  go_wp2_with fail
  refine HS.out.mono ?_
  rintro e w1 ⟨rfl, rfl⟩
  go_wp2_with fail
  go_ret
  exact ⟨rfl, rfl⟩
end Go.Proofs.YtdpnmepplkiljaaDoor
