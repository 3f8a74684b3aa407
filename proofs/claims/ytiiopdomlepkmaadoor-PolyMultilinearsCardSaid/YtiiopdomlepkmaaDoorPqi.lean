/-
  Contract of exponentsOf of package poly.
-/
import Derived.Test.YtiiopdomlepkmaaDoorPqh
namespace Go.Proofs.YtiiopdomlepkmaaDoor
set_option linter.unusedVariables false
open Go.RowKit Go.Maps

/-- A block of integers. -/
def intsO (l : List Int) : Obj := .cells (l.map (Value.int .i64)).toArray 3 (0, 0)
theorem Tryd.info3 : (Tryd.prog.info? 3).map (fun i => (i.zero, i.size, i.bytes)) = some (some (.int .i64 0), 1, 8) := by kernel_rfl
theorem make_ints (n : Nat) (hn : n ≤ 1048576) : ∀ w : World, (Instr.makeSlice 62 (.int .i64 (n : Int)) (.int .i64 (n : Int))).run Tryd.prog w = .ok (.slice (some ⟨w.heap.size, 0, none⟩) n n) (w.alloc (intsO (List.replicate n 0))) := by
  intro w
  obtain ⟨i0, hi, hz0, hz1, hz2⟩ := info_parts Tryd.info3
  have h := run_make (P := Tryd.prog) w 62 3 i0 (.int .i64 0) Tryd.underlying62 hi hz0 .i64 .i64 (n : Int) (n : Int) (by omega) (by omega) (by rw [hz2]; omega) (by omega)
  rw [h, Int.toNat_natCast, hz1]
  have e2 : madeCells (Value.int .i64 0).cells (n * 1) = ((List.replicate n (0 : Int)).map (Value.int .i64)).toArray := by
    apply Array.toList_inj.1
    rw [zeros_of _ rfl]
    simp
  rw [e2]
  rfl
theorem ints_cell {w : World} {g j : Nat} {l : List Int} {x : Int} (h : w.heap[g]? = some (intsO l)) (hx : l[j]? = some x) : w.cell? ⟨g, j, none⟩ = some (.int .i64 x) ∧ w.frozen? ⟨g, j, none⟩ = false := by
  constructor
  · simp [World.cell?, h, intsO, hx]
  · simp [World.frozen?, h, intsO]
theorem ints_set {w : World} {g j : Nat} {l : List Int} (x : Int) (h : w.heap[g]? = some (intsO l)) : (w.setCell ⟨g, j, none⟩ (.int .i64 x)).heap[g]? = some (intsO (l.set j x)) := by
  have := heap_setCell_same w g j (l.map (Value.int .i64)).toArray 3 (.int .i64 x) h
  rw [this]
  simp [intsO, List.map_set]
theorem ints_read {w : World} {g : Nat} {l : List Int} (h : w.heap[g]? = some (intsO l)) : RdI w (some ⟨g, 0, none⟩) l := fun k x hk => by
  refine ⟨_, rfl, ?_⟩
  have ea : Addr.add ⟨g, 0, none⟩ k = ⟨g, k, none⟩ := by
    by_cases h0 : k = 0 <;> simp [Addr.add, h0]
  rw [ea]
  exact (ints_cell h hk).1

def intPart (e : List Nat) (n k : Nat) : List Int := nz (e.take k) ++ List.replicate (n - k) 0
theorem intPart_zero (e : List Nat) (n : Nat) : intPart e n 0 = List.replicate n 0 := by simp [intPart, nz]
theorem intPart_full {e : List Nat} {n : Nat} (h : e.length = n) : intPart e n n = nz e := by
  unfold intPart
  rw [List.take_of_length_le (by omega)]
  simp
theorem intPart_at {e : List Nat} {n k : Nat} (h : e.length = n) (hk : k < n) : (intPart e n k)[k]? = some 0 := by
  unfold intPart
  have h1 : (nz (e.take k)).length = k := by simp [nz_length]; omega
  rw [List.getElem?_append_right (by omega), h1, Nat.sub_self]
  rw [List.getElem?_replicate]
  simp; omega
theorem intPart_succ {e : List Nat} {n k x : Nat} (h : e.length = n) (hk : k < n) (hx : e[k]? = some x) : (intPart e n k).set k (x : Int) = intPart e n (k + 1) := by
  unfold intPart
  have h1 : (nz (e.take k)).length = k := by simp [nz_length]; omega
  rw [List.set_append_right _ _ (by omega), h1, List.take_add_one, hx]
  obtain ⟨m, hm⟩ : ∃ m, n - k = m + 1 := ⟨n - k - 1, by omega⟩
  rw [hm, show n - (k + 1) = m by omega, List.replicate_succ]
  simp [nz]

theorem keyB_at : ∀ (e : List Nat) (k x : Nat), e[k]? = some x → (keyB e)[2 * k]? = some (UInt8.ofNat (x / 256)) ∧ (keyB e)[2 * k + 1]? = some (UInt8.ofNat x)
  | [], k, x, h => by simp at h
  | y :: e, 0, x, h => by
    simp at h
    subst h
    simp [keyB]
  | y :: e, k + 1, x, h => by
    have := keyB_at e k x (by simpa using h)
    rw [show 2 * (k + 1) = (2 * k + 1) + 1 by omega]
    simpa [keyB] using this

theorem or_nat (a b : Nat) (ha : a < 9223372036854775808) (hb : b < 9223372036854775808) : bits .or .i64 (a : Int) (b : Int) = ((a ||| b : Nat) : Int) := by
  show IntKind.i64.wrap ((BitVec.ofInt 64 (a : Int) ||| BitVec.ofInt 64 (b : Int)).toNat : Int) = _
  rw [BitVec.toNat_or, ofInt_u64 a (by omega), ofInt_u64 b (by omega)]
  have e : (9223372036854775808 : Nat) = 2 ^ 63 := by decide
  exact Lib.wrap_i64_small _ (by rw [e] at ha hb ⊢; exact Nat.or_lt_two_pow ha hb)
theorem two_bytes {x : Nat} (h : x ≤ 65535) : bits .or .i64 ((x : Int) / 256 % 256 * 256) ((x : Int) % 256) = (x : Int) := by
  have e1 : ((x : Int) / 256 % 256 * 256) = ((x / 256 * 256 : Nat) : Int) := by omega
  have e2 : ((x : Int) % 256) = ((x % 256 : Nat) : Int) := by omega
  rw [e1, e2, or_nat _ _ (by omega) (by omega)]
  have h2 := Nat.two_pow_add_eq_or_of_lt (i := 8) (b := x % 256) (by omega) (x / 256)
  have e3 : x / 256 * 256 = 2 ^ 8 * (x / 256) := by omega
  rw [e3, ← h2]
  omega

set_option maxHeartbeats 2000000 in
theorem exps_ok (e : List Nat) (n : Nat) (he : Ex n e) (hn : n ≤ 80) (w : World) :
    Calls Tryd.prog 61 #[.string ⟨(keyB e).toArray⟩] w fun r w' => r = .returned (.slice (some ⟨w.heap.size, 0, none⟩) n n) ∧ w'.heap[w.heap.size]? = some (intsO (nz e)) ∧ Below w.heap.size w w' := by
  obtain ⟨s, hs⟩ : ∃ s : ByteArray, s = ⟨(keyB e).toArray⟩ := ⟨_, rfl⟩
  have hsz : s.size = 2 * n := by
    rw [hs]
    show (keyB e).toArray.size = 2 * n
    simp [keyB_length, he.1]
  rw [← hs]
  have HS := Lib.hid hs
  have HE := Lib.hid he
  have hmk := make_ints n (by omega)
  clear hs he
  have HH := Lib.hid (show (w.alloc (intsO (List.replicate n 0))).heap[w.heap.size]? = some (intsO (intPart e n 0)) by rw [intPart_zero]; exact alloc_at _ _ _ rfl)
  go_enter Tryd.func61, Tryd.ntmps61
  go_wp2_with fail
  go_loopw [4, 11] (fun _ i wr => ∃ k : Nat, k ≤ n ∧ i = .int .i64 k ∧ wr.heap[w.heap.size]? = some (intsO (intPart e n k)) ∧ Below w.heap.size w wr) (fun _ i _ => n - (intOf i).toNat)
  case atStart => exact ⟨0, by omega, rfl, HH.out, below1 _ _⟩
  case round =>
    obtain ⟨k, hk, rfl, hb, hB⟩ := hrel
    have HB := Lib.hid hB
    have HK := Lib.hid hb
    by_cases hlt : k < n
    · obtain ⟨x, hx⟩ : ∃ x, e[k]? = some x := ⟨_, List.getElem?_eq_getElem (by rw [HE.out.1]; exact hlt)⟩
      have hx2 := HE.out.2 x (List.mem_of_getElem? hx)
      obtain ⟨c1, f1⟩ := ints_cell hb (intPart_at HE.out.1 hlt)
      have g1 : s[2 * k]'(by omega) = UInt8.ofNat (x / 256) := by
        have := (keyB_at e k x hx).1
        have h2 : s.data[2 * k]? = some (UInt8.ofNat (x / 256)) := by rw [HS.out]; simpa using this
        exact (Array.getElem?_eq_some_iff.1 h2).2
      have g2 : s[2 * k + 1]'(by omega) = UInt8.ofNat x := by
        have := (keyB_at e k x hx).2
        have h2 : s.data[2 * k + 1]? = some (UInt8.ofNat x) := by rw [HS.out]; simpa using this
        exact (Array.getElem?_eq_some_iff.1 h2).2
      have w1 : IntKind.i64.wrap (2 * (k : Int)) = 2 * (k : Int) := IntWalk.i64_in _ (by omega)
      have w2 : IntKind.i64.wrap (2 * (k : Int) + 1) = 2 * (k : Int) + 1 := IntWalk.i64_in _ (by omega)
      have b1 : 0 ≤ 2 * (k : Int) := by omega
      have b2 : 0 ≤ 2 * (k : Int) + 1 := by omega
      have b3 : 2 * (k : Int) < 2 * (n : Int) := by omega
      have b4 : 2 * (k : Int) + 1 < 2 * (n : Int) := by omega
      have t1 : (2 * (k : Int)).toNat = 2 * k := by omega
      have t2 : (2 * (k : Int) + 1).toNat = 2 * k + 1 := by omega
      have HX := Lib.hid hx
      clear hx hb hB
      go_wp2_with fail
      generalize hwq : wr = wq at *
      have HST := Lib.hid (show (wq.setCell ⟨w.heap.size, k, none⟩ (.int .i64 (bits .or .i64 ((x : Int) / 256 % 256 * 256) ((x : Int) % 256)))).heap[w.heap.size]? = some (intsO (intPart e n (k + 1))) by
        rw [two_bytes hx2, ← intPart_succ HE.out.1 hlt HX.out]
        exact ints_set _ HK.out)
      go_region
      go_wp2_with fail
      go_roundw
      case rel => exact ⟨k + 1, by omega, by go_num, HST.out, (HB.out.setCell (p := ⟨w.heap.size, k, none⟩) (Nat.le_refl _) _).drew⟩
      case measure => simp [intOf]; omega
    · have hkn : k = n := by omega
      subst hkn
      rw [intPart_full HE.out.1] at hb
      have HB2 := Lib.hid hb
      clear hb
      go_wp2_with fail
      go_ret
      exact ⟨rfl, HB2.out, HB.out⟩
end Go.Proofs.YtiiopdomlepkmaaDoor
