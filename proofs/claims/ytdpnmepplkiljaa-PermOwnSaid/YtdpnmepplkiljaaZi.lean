/-
  Contract of Parity of package perm at every slice of integers.
-/
import Derived.Test.YtdpnmepplkiljaaN
namespace Go.Proofs.Ytdpnmepplkiljaa
open Go.RowKit Go.Shelf

attribute [local go_sem] Oper.semAt_some

def parL (cs : List (List Nat)) : Nat := cs.foldl (fun o c => o + (c.length - 1)) 0
theorem parL_snoc (cs : List (List Nat)) (c : List Nat) : parL (cs ++ [c]) = parL cs + (c.length - 1) := by simp [parL]

theorem parL_le : ∀ (cs : List (List Nat)) (o : Nat), (∀ c ∈ cs, c.length ≤ 7) → cs.foldl (fun o c => o + (c.length - 1)) o ≤ o + 6 * cs.length
  | [], o, _ => by simp
  | c :: t, o, h => by
    have h1 := parL_le t (o + (c.length - 1)) (fun d hd => h d (List.mem_cons_of_mem _ hd))
    have h2 := h c (List.mem_cons_self ..)
    simp only [List.foldl_cons, List.length_cons]
    omega

def parP (ps : List Nat) : Nat := parL (allCyc ps) % 2

theorem parity_bad (v : Value) (l : List Int) (w : World) (h : SlI w v l) (hn : valI l = false) :
    Calls Try.prog 19 #[v] w fun e w' => e = .returned (.int .i64 (-1)) ∧ Below w.heap.size w w' := by
  go_enter Try.func19, Try.ntmps19
  go_wp2_with fail
  refine (valid_no v l _ h hn).mono ?_
  rintro e w1 ⟨rfl, hB1⟩
  go_wp2_with fail
  go_ret
  exact ⟨rfl, hB1⟩

set_option maxRecDepth 100000 in
set_option maxHeartbeats 400000 in
theorem parity_ok (v : Value) (ps : List Nat) (w : World) (h : SlI w v (ints ps)) (hp : IsPerm ps) :
    Calls Try.prog 19 #[v] w fun e w' => e = .returned (.int .i64 (parP ps : Nat)) ∧ Below w.heap.size w w' := by
  obtain ⟨b, off, cap, hve, hb, hrd⟩ := h.perm hp
  subst hve
  have hv := valid_yes _ _ w h (valI_perm hp)
  have hok : ∀ pre, pre <+: allCyc ps → parL pre ≤ 42 := fun pre hpre => by
    have h1 := parL_le pre 0 (fun c hc => ((cyc_ok hp).2.1 c (hpre.subset hc)).2)
    have h2 := hpre.length_le
    have h3 := (cyc_ok hp).2.2
    unfold parL
    omega
  have hok2 := (cyc_ok hp).2.1
  have HV := Lib.hid hv
  have HOK := Lib.hid hok
  have HOK2 := Lib.hid hok2
  clear hv h hok hok2
  refine (callsIn_wide (n := 3)).1 ?_
  refine callsIn_of_wp_marks Try.func19 rfl trivial ?_ rfl
  simp only [Try.ntmps19, List.size_toArray, List.length_cons, List.length_nil, Nat.reduceAdd, Nat.reduceSub, Array.replicate_succ, Array.replicate_zero, List.push_toArray, List.append_toArray, List.nil_append, List.cons_append]
  gi_wp2_with (first | (refine ⟨trivial, ?_⟩; gi_at_call 17; refine (callsIn_wide.2 HV.out).mono ?_; rintro e w1 ⟨rfl, hB1⟩) | (refine ⟨trivial, ?_⟩; gi_at_call 52; refine (allCycles_in _ _ _ _ _).mono ?_; rintro e w2 ⟨rfl, rfl⟩))
  have hs1 := hB1.size
  have bO := Boxed.new w1 3 (.int .i64 0)
  have hB2 : Below w.heap.size w (w1.alloc (.cells #[.int .i64 0] 3)) := hB1.alloc hs1 _
  have hB3 : Below w.heap.size w ((w1.alloc (.cells #[.int .i64 0] 3)).alloc (.cells #[.slice (some ⟨b, off, none⟩) ps.length cap] 23)) := hB2.alloc (by simp; omega) _
  have hit := iter_at (3 - 1) (by omega) ps hp b off cap (w1.alloc (.cells #[.int .i64 0] 3)) [w1.heap.size] (by simp; omega) (by simp; omega) (by simp) (hrd.below hB2 hb)
  rw [World.size_alloc] at hit
  refine rangeFunc_iter (gf := 61) (lb := #[.pointer (some ⟨w1.heap.size + 1, 0, none⟩)]) rfl (enters_of Try.func61 (by kernel_rfl) rfl) hit Cyc.rd_keep (by simp; omega) (fun _ => rfl)
    (fun pre W => Boxed W w1.heap.size 3 (.int .i64 (parL (pre.map Cyc.cyc) : Nat)) ∧ (pre.map Cyc.cyc <+: allCyc ps) ∧ Below w.heap.size w W)
    (fun _ _ => False)
    (fun pre A B hi hAB => ⟨(hAB.block _ (by simp; omega)).trans hi.1, hi.2.1, hi.2.2.trans (hAB.mono (by simp; omega))⟩)
    (fun _ _ _ hf _ => hf)
    ⟨bO.alloc _, ⟨allCyc ps, rfl⟩, hB3⟩
    (fun x => { tmps := #[.slice (some ⟨b, off, none⟩) ps.length cap, undef, .int .i64 0, .pointer (some ⟨w1.heap.size, 0, none⟩), .slice (some ⟨x.blk, 0, none⟩) x.cyc.length x.cap, .slice (some ⟨b, off, none⟩) ps.length cap, .bool true, .bool false, .slice (some ⟨b, off, none⟩) ps.length cap,
      .func (.func 61) #[] #[.pointer (some ⟨w1.heap.size + 1, 0, none⟩)], .slice (some ⟨x.blk, 0, none⟩) x.cyc.length x.cap, undef, undef, undef, undef, undef, undef, undef], defers := [] }) ?assign ?body ?done ?stop
  case assign =>
    intro l x W K hK
    simp only [Cyc.val]
    gi_wp2
    exact hK
  case body =>
    rintro l D pre x W hD hDW ⟨hbx, hpre, hBW⟩ hnext hrdx
    obtain ⟨o, hoe⟩ : ∃ o, parL (pre.map Cyc.cyc) = o := ⟨_, rfl⟩
    have ho : o ≤ 42 := hoe ▸ HOK.out _ hpre
    have hxm : x.cyc ∈ allCyc ps := by
      obtain ⟨t, ht⟩ := hnext
      rw [← ht]; simp
    obtain ⟨hl1, hl7⟩ := HOK2.out _ hxm
    rw [hoe] at hbx
    have hc := hbx.cell
    have hf := hbx.frozen
    have hon : ((o : Int) + ((x.cyc.length : Int) - 1)) = ((parL ((pre ++ [x]).map Cyc.cyc) : Nat) : Int) := by rw [List.map_append, List.map_singleton, parL_snoc, hoe]; omega
    have hnx : (pre ++ [x]).map Cyc.cyc <+: allCyc ps := by rw [List.map_append, List.map_singleton]; exact hnext
    have HO := Lib.hid hoe
    have HB := Lib.hid hbx
    have HNX := Lib.hid hnx
    have HON := Lib.hid hon
    clear hoe hpre hnext hrdx hxm hbx hon hnx
    gi_wp2
    refine ⟨(OnlyIn.refl _ W).setCell (p := ⟨w1.heap.size, 0, none⟩) (by simp) _, ?_, HNX.out, hBW.setCell (p := ⟨w1.heap.size, 0, none⟩) hs1 _⟩
    rw [← HON.out]
    exact HB.out.set _
  case done =>
    rintro D xs W hD hS ⟨hbx, _, hBW⟩ hK
    have hc := hbx.cell
    have hx : ((parL (xs.map Cyc.cyc) : Nat) : Int).tmod 2 = ((parP ps : Nat) : Int) := by rw [hS]; unfold parP; rw [Int.tmod_eq_emod_of_nonneg (by omega)]; omega
    have HX := Lib.hid hx
    have hwD : w.heap.size ≤ D := by simp at hD; omega
    clear hS hx
    gi_wp2
    refine ⟨by simp, .inl ⟨_, _, rfl, run_takeDeferred hK, ?_⟩⟩
    refine ⟨_, results_tmp rfl _ _ _, ?_⟩
    exact ⟨ret_int HX.out, hBW.trans (belowK_b (w := w) (Nat.le_refl _) W D _ _ hwD hK rfl rfl)⟩
  case stop =>
    rintro D pre W _ h _
    exact h.elim
end Go.Proofs.Ytdpnmepplkiljaa
