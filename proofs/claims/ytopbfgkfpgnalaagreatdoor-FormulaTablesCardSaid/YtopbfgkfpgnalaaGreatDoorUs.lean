/-
  Joined from Fxh, Fxm: see there.
-/
import Derived.Test.YtopbfgkfpgnalaaGreatDoorUq
import Derived.Test.YtopbfgkfpgnalaaGreatDoorUr
import Derived.Test.YtopbfgkfpgnalaaGreatDoorUb
import Derived.Test.YtopbfgkfpgnalaaGreatDoorUh
namespace Go.Proofs.YtopbfgkfpgnalaaGreatDoor.X
set_option linter.unusedVariables false
open Go.RowKit

theorem eSh_all (q : Nat) : 2 ≤ (eSh q).length ∧ (eSh q).length ≤ 6 ∧ (∀ s ∈ eSh q, s.op.length ≤ 10) ∧ (∀ s ∈ eSh q, s.kids ≤ 2) ∧ (∀ s ∈ eSh q, s.dep ≤ 2) := by
  refine ⟨by simp [eSh], by simp [eSh], ?_, ?_, ?_⟩ <;> intro s hs <;> simp [eSh] at hs <;> rcases hs with rfl | rfl | rfl | rfl <;> simp
theorem eSh_num {q : Nat} (hq : q ≤ 65536) : ∀ s ∈ eSh q, s.num ≤ 65536 := by
  intro s hs
  simp [eSh] at hs
  rcases hs with rfl | rfl | rfl | rfl <;> simp
  exact hq

set_option maxRecDepth 100000 in
set_option maxHeartbeats 2000000 in
theorem expressions_ok (P M q : Nat) (hf : Fld P M q) (w : World) (hL : Lays w) :
    Calls Tryz.prog 106 #[.agg #[.int .i64 (P : Int), .int .i64 (M : Int)]] w fun e w' => ∃ g, w.heap.size ≤ g ∧ e = .returned (langV g (eSh q) 144 145) ∧ ShR w' g (eSh q) ∧ Below w.heap.size w w' := by
  have hb2 := below2 w (.cells #[.int .i64 (P : Int), .int .i64 (M : Int)] 49) (.cells #[.slice none 0 0, .nilFunc, .nilFunc] 150)
  have HO := Lib.hid (Order_ok P M q hf _ (hL.below hb2))
  have hr2 : ((w.alloc (.cells #[.int .i64 (P : Int), .int .i64 (M : Int)] 49)).alloc (.cells #[.slice none 0 0, .nilFunc, .nilFunc] 150)).heap[w.heap.size + 1]? = _ := alloc_at _ _ _ (by simp)
  have HB2 := Lib.hid (And.intro hb2 hr2)
  have hsz2 : ((w.alloc (.cells #[.int .i64 (P : Int), .int .i64 (M : Int)] 49)).alloc (.cells #[.slice none 0 0, .nilFunc, .nilFunc] 150)).heap.size = w.heap.size + 2 := by simp
  have HSZ := Lib.hid hsz2
  clear hL hb2 hr2 hsz2
  go_enter Tryz.func106, Tryz.ntmps106
  go_wp2_with fail
  refine HO.out.mono ?_
  generalize (w.alloc (.cells #[.int .i64 (P : Int), .int .i64 (M : Int)] 49)).alloc (.cells #[.slice none 0 0, .nilFunc, .nilFunc] 150) = w2 at *
  rintro e w3 ⟨rfl, hB3⟩
  obtain ⟨hb2, hr2⟩ := HB2.out
  have hsz2 := HSZ.out
  have hr3 := (hB3.block (w.heap.size + 1) (by omega)).trans hr2
  have hsz3 : w.heap.size + 2 ≤ w3.heap.size := by have := hB3.size; omega
  have hb3 := hb2.trans (hB3.mono hb2.size)
  have hb4 := below1 w3 (.cells #[.string ⟨#[120]⟩, .int .i64 16, .int .i64 0, .int .i64 0, .string ⟨#[]⟩, .int .i64 (q : Int), .int .i64 0, .int .i64 0, .string ⟨#[97, 100, 100, 40]⟩, .int .i64 1, .int .i64 2, .int .i64 1, .string ⟨#[109, 117, 108, 40]⟩, .int .i64 1, .int .i64 2, .int .i64 1] 171)
  have hr4 := (hb4.block (w.heap.size + 1) (by omega)).trans hr3
  have hsh : ShR (w3.alloc (.cells #[.string ⟨#[120]⟩, .int .i64 16, .int .i64 0, .int .i64 0, .string ⟨#[]⟩, .int .i64 (q : Int), .int .i64 0, .int .i64 0, .string ⟨#[97, 100, 100, 40]⟩, .int .i64 1, .int .i64 2, .int .i64 1, .string ⟨#[109, 117, 108, 40]⟩, .int .i64 1, .int .i64 2, .int .i64 1] 171)) w3.heap.size (eSh q) := fun k s hs => by
    have hc := fun j => World.cell?_alloc_new w3 #[.string ⟨#[120]⟩, .int .i64 16, .int .i64 0, .int .i64 0, .string ⟨#[]⟩, .int .i64 (q : Int), .int .i64 0, .int .i64 0, .string ⟨#[97, 100, 100, 40]⟩, .int .i64 1, .int .i64 2, .int .i64 1, .string ⟨#[109, 117, 108, 40]⟩, .int .i64 1, .int .i64 2, .int .i64 1] 171 j
    have hk : k < 4 := (List.getElem?_eq_some_iff.1 hs).1
    rw [hc, hc, hc, hc]
    have : k = 0 ∨ k = 1 ∨ k = 2 ∨ k = 3 := by omega
    rcases this with rfl | rfl | rfl | rfl <;> (cases hs; exact ⟨rfl, rfl, rfl, rfl⟩)
  obtain ⟨⟨v0, v1, v2⟩, z0, z1, z2⟩ := blk3_cells hr4
  have hh := set3_heap (o := 0) (.slice (some ⟨w3.heap.size, 0, none⟩) 4 4) (.func (Fn.func 144) #[] #[]) (.func (Fn.func 145) #[] #[]) hr4
  have hbb := ((((hb3.alloc hb3.size (.cells #[.string ⟨#[120]⟩, .int .i64 16, .int .i64 0, .int .i64 0, .string ⟨#[]⟩, .int .i64 (q : Int), .int .i64 0, .int .i64 0, .string ⟨#[97, 100, 100, 40]⟩, .int .i64 1, .int .i64 2, .int .i64 1, .string ⟨#[109, 117, 108, 40]⟩, .int .i64 1, .int .i64 2, .int .i64 1] 171)).setCell (p := ⟨w.heap.size + 1, 0, none⟩) (Nat.le_succ _) (.slice (some ⟨w3.heap.size, 0, none⟩) 4 4)).setCell (p := ⟨w.heap.size + 1, 1, none⟩) (Nat.le_succ _) (.func (Fn.func 144) #[] #[])).setCell (p := ⟨w.heap.size + 1, 2, none⟩) (Nat.le_succ _) (.func (Fn.func 145) #[] #[]))
  have hsh2 := hsh.keep (w' := set3 (w3.alloc (.cells #[.string ⟨#[120]⟩, .int .i64 16, .int .i64 0, .int .i64 0, .string ⟨#[]⟩, .int .i64 (q : Int), .int .i64 0, .int .i64 0, .string ⟨#[97, 100, 100, 40]⟩, .int .i64 1, .int .i64 2, .int .i64 1, .string ⟨#[109, 117, 108, 40]⟩, .int .i64 1, .int .i64 2, .int .i64 1] 171)) (w.heap.size + 1) 0 (.slice (some ⟨w3.heap.size, 0, none⟩) 4 4) (.func (Fn.func 144) #[] #[]) (.func (Fn.func 145) #[] #[])) (B := w3.heap.size) (fun b hb _ => set3_block (by omega)) (Nat.le_refl _)
  have HF := Lib.hid (And.intro hh (And.intro hbb (And.intro hsh2 hsz3)))
  clear hh hbb hsh2 hsh hr4 hb4 hb3 hr3 hB3 hr2 hb2 hsz2 hsz3
  go_wp2_with fail
  show bodyPost _ _ _ _ _ (set3 (w3.alloc (.cells #[.string ⟨#[120]⟩, .int .i64 16, .int .i64 0, .int .i64 0, .string ⟨#[]⟩, .int .i64 (q : Int), .int .i64 0, .int .i64 0, .string ⟨#[97, 100, 100, 40]⟩, .int .i64 1, .int .i64 2, .int .i64 1, .string ⟨#[109, 117, 108, 40]⟩, .int .i64 1, .int .i64 2, .int .i64 1] 171)) (w.heap.size + 1) 0 (.slice (some ⟨w3.heap.size, 0, none⟩) 4 4) (.func (Fn.func 144) #[] #[]) (.func (Fn.func 145) #[] #[]))
  obtain ⟨hh, hbb, hsh2, hsz3⟩ := HF.out
  have hbb' : Below w.heap.size w (set3 (w3.alloc (.cells #[.string ⟨#[120]⟩, .int .i64 16, .int .i64 0, .int .i64 0, .string ⟨#[]⟩, .int .i64 (q : Int), .int .i64 0, .int .i64 0, .string ⟨#[97, 100, 100, 40]⟩, .int .i64 1, .int .i64 2, .int .i64 1, .string ⟨#[109, 117, 108, 40]⟩, .int .i64 1, .int .i64 2, .int .i64 1] 171)) (w.heap.size + 1) 0 (.slice (some ⟨w3.heap.size, 0, none⟩) 4 4) (.func (Fn.func 144) #[] #[]) (.func (Fn.func 145) #[] #[])) := hbb
  clear HF hbb
  generalize set3 (w3.alloc (.cells #[.string ⟨#[120]⟩, .int .i64 16, .int .i64 0, .int .i64 0, .string ⟨#[]⟩, .int .i64 (q : Int), .int .i64 0, .int .i64 0, .string ⟨#[97, 100, 100, 40]⟩, .int .i64 1, .int .i64 2, .int .i64 1, .string ⟨#[109, 117, 108, 40]⟩, .int .i64 1, .int .i64 2, .int .i64 1] 171)) (w.heap.size + 1) 0 (.slice (some ⟨w3.heap.size, 0, none⟩) 4 4) (.func (Fn.func 144) #[] #[]) (.func (Fn.func 145) #[] #[]) = W at *
  have hh' : W.heap[w.heap.size + 1]? = some (.cells #[.slice (some ⟨w3.heap.size, 0, none⟩) 4 4, .func (Fn.func 144) #[] #[], .func (Fn.func 145) #[] #[]] 150 (0, 0)) := hh
  obtain ⟨⟨v0, v1, v2⟩, _⟩ := blk3_cells hh'
  exact bodyPost_ret (v := langV w3.heap.size (eSh q) 144 145) (by simp [results, Tryz.results106, go_sem, v0, v1, v2, langV, eSh]) rfl ⟨w3.heap.size, by omega, rfl, hsh2, hbb'⟩
end Go.Proofs.YtopbfgkfpgnalaaGreatDoor.X
namespace Go.Proofs.YtopbfgkfpgnalaaGreatDoor.X
set_option linter.unusedVariables false
open Go.RowKit

set_option maxRecDepth 100000 in
set_option maxHeartbeats 4000000 in
theorem ParseExpr_ok (P M q : Nat) (hf : Fld P M q) (l : List UInt8) (w : World) (hL : Lays w) (htab : ∀ W, Below w.heap.size w W → Lib.TabIs Tryz.prog W "internal/strconv.uint64pow10" .u64 Lib.pow10Tab) (herr : ∀ W, Below w.heap.size w W → ErrsAt W) :
    Calls Tryz.prog 53 #[.agg #[.int .i64 (P : Int), .int .i64 (M : Int)], .string ⟨l.toArray⟩] w (ParIs (eSh q) l w) := by
  obtain ⟨a1, a2, a3, a4, a5⟩ := eSh_all q
  have hV := Lib.hid (fun W (hW : Below w.heap.size w W) => valid_yes P M W (hL.below hW) hf.ok)
  have HF := Lib.hid (fun W (hW : Below w.heap.size w W) => expressions_ok P M q hf W (hL.below hW))
  have HPA := Lib.hid (fun g W (hW : Below w.heap.size w W) hs hg => parse_ok g (eSh q) a1 a2 a3 (eSh_num hf.q_le) a4 l W (fun W' h => htab W' (hW.trans (h.mono hW.size))) (fun W' h => herr W' (hW.trans (h.mono hW.size))) hs hg)
  have hb0 := below2 w (.cells #[.int .i64 (P : Int), .int .i64 (M : Int)] 49) (.cells #[.int .i64 0, .int .i64 0, .slice none 0 0] 52)
  have ht0 : ((w.alloc (.cells #[.int .i64 (P : Int), .int .i64 (M : Int)] 49)).alloc (.cells #[.int .i64 0, .int .i64 0, .slice none 0 0] 52)).heap[w.heap.size + 1]? = _ := alloc_at _ _ _ (by simp)
  have hc0 : ((w.alloc (.cells #[.int .i64 (P : Int), .int .i64 (M : Int)] 49)).alloc (.cells #[.int .i64 0, .int .i64 0, .slice none 0 0] 52)).heap[w.heap.size]? = _ := alloc_old _ _ _ _ (alloc_at w (.cells #[.int .i64 (P : Int), .int .i64 (M : Int)] 49) _ rfl)
  have hsz0 : ((w.alloc (.cells #[.int .i64 (P : Int), .int .i64 (M : Int)] 49)).alloc (.cells #[.int .i64 0, .int .i64 0, .slice none 0 0] 52)).heap.size = w.heap.size + 2 := by simp
  have H0 := Lib.hid (And.intro hb0 (And.intro ht0 (And.intro hc0 hsz0)))
  have HV := Lib.hid (hV.out _ hb0)
  clear htab herr hL a1 a2 a3 a4 a5 hb0 ht0 hc0 hsz0 hV
  go_enter Tryz.func53, Tryz.ntmps53
  go_wp2_with fail
  refine HV.out.mono ?_
  generalize (w.alloc (.cells #[.int .i64 (P : Int), .int .i64 (M : Int)] 49)).alloc (.cells #[.int .i64 0, .int .i64 0, .slice none 0 0] 52) = w2 at *
  rintro e w3 ⟨rfl, hB3⟩
  obtain ⟨hb0, ht0, hc0, hsz0⟩ := H0.out
  have hb3 := hb0.trans (hB3.mono hb0.size)
  have ht3 := (hB3.block (w.heap.size + 1) (by omega)).trans ht0
  have hc3 := (hB3.block w.heap.size (by omega)).trans hc0
  obtain ⟨f0, f1⟩ := (show w3.cell? ⟨w.heap.size, 0, none⟩ = some (.int .i64 (P : Int)) ∧ w3.cell? ⟨w.heap.size, 1, none⟩ = some (.int .i64 (M : Int)) from ⟨by simp [World.cell?, hc3], by simp [World.cell?, hc3]⟩)
  have hsz3 : w.heap.size + 2 ≤ w3.heap.size := by have := hB3.size; omega
  have H3 := Lib.hid (And.intro hb3 (And.intro ht3 hsz3))
  have HF3 := Lib.hid (HF.out w3 hb3)
  clear hb0 ht0 hc0 hsz0 hb3 ht3 hc3 hsz3 hB3 HF H0
  go_wp2_with fail
  refine HF3.out.mono ?_
  rintro e w4 ⟨g, hg, rfl, hs, hB4⟩
  obtain ⟨hb3, ht3, hsz3⟩ := H3.out
  have hglt : g < w4.heap.size := World.block_lt_of_cell? w4 _ (hs 0 _ rfl).1
  have hb4 := hb3.trans (hB4.mono hb3.size)
  have ht4 := (hB4.block (w.heap.size + 1) (by omega)).trans ht3
  have hsz4 : w.heap.size + 2 ≤ w4.heap.size := by have := hB4.size; omega
  have HP := Lib.hid (HPA.out g w4 hb4 hs hglt)
  have H4 := Lib.hid (And.intro hb4 (And.intro ht4 hsz4))
  unfold langV at HP ⊢
  clear hs hglt hb4 hB4 hg ht4 hsz4 hb3 ht3 hsz3
  go_wp2_with fail
  refine HP.out.mono ?_
  rintro e w5 ⟨hcase, hB5⟩
  obtain ⟨hb4, ht4, hsz4⟩ := H4.out
  have HT5 := Lib.hid ((hB5.block (w.heap.size + 1) (by omega)).trans ht4)
  have HB5 := Lib.hid (hb4.trans (hB5.mono hb4.size))
  obtain ⟨⟨t0, t1, t2⟩, z0, z1, z2⟩ := blk3_cells HT5.out
  cases hpa : pAll (eSh q) l with
  | none =>
    rw [hpa] at hcase
    obtain rfl := hcase
    have hh := set3_heap (o := 0) (.int .i64 0) (.int .i64 0) (.slice none 0 0) HT5.out
    have hb := (((HB5.out.setCell (p := ⟨w.heap.size + 1, 0, none⟩) (Nat.le_succ _) (.int .i64 0)).setCell (p := ⟨w.heap.size + 1, 1, none⟩) (Nat.le_succ _) (.int .i64 0)).setCell (p := ⟨w.heap.size + 1, 2, none⟩) (Nat.le_succ _) (.slice none 0 0))
    have HF := Lib.hid (And.intro hh hb)
    have HPA := Lib.hid hpa
    clear hh hb hB5 hpa hb4 ht4 hsz4
    unfold zeroT
    go_wp2_with fail
    show bodyPost _ _ _ _ _ (set3 w5 (w.heap.size + 1) 0 (.int .i64 0) (.int .i64 0) (.slice none 0 0))
    obtain ⟨hh, hb⟩ := HF.out
    have hb' : Below w.heap.size w (set3 w5 (w.heap.size + 1) 0 (.int .i64 0) (.int .i64 0) (.slice none 0 0)) := hb
    clear HF hb
    generalize set3 w5 (w.heap.size + 1) 0 (.int .i64 0) (.int .i64 0) (.slice none 0 0) = W at *
    have hh' : W.heap[w.heap.size + 1]? = some (.cells #[.int .i64 0, .int .i64 0, .slice none 0 0] 52 (0, 0)) := hh
    obtain ⟨⟨v0, v1, v2⟩, _⟩ := blk3_cells hh'
    exact bodyPost_ret (v := .tuple #[.agg #[.int .i64 0, .int .i64 0, .slice none 0 0], .int .i64 3]) (by simp [results, Tryz.results53, go_sem, v0, v1, v2]) rfl ⟨by rw [HPA.out]; rfl, hb'⟩
  | some t =>
    rw [hpa] at hcase
    obtain ⟨v, rfl, hT⟩ := hcase
    obtain ⟨k, n, us⟩ := t
    have hT2 := hT
    unfold TreV at hT2
    obtain ⟨A, c, rfl, _⟩ := hT2
    have hh := set3_heap (o := 0) (.int .i64 k) (.int .i64 n) (.slice A us.length c) HT5.out
    have hb := (((HB5.out.setCell (p := ⟨w.heap.size + 1, 0, none⟩) (Nat.le_succ _) (.int .i64 k)).setCell (p := ⟨w.heap.size + 1, 1, none⟩) (Nat.le_succ _) (.int .i64 n)).setCell (p := ⟨w.heap.size + 1, 2, none⟩) (Nat.le_succ _) (.slice A us.length c))
    have hT3 := hT.keep (w' := set3 w5 (w.heap.size + 1) 0 (.int .i64 k) (.int .i64 n) (.slice A us.length c)) (fun b hb' _ => set3_block (by omega))
    have HF := Lib.hid (And.intro hh (And.intro hb (hT3.mono (B' := w.heap.size) (by omega))))
    have HPA := Lib.hid hpa
    clear hh hb hB5 hpa hT hT3 hb4 ht4 hsz4
    go_wp2_with fail
    show bodyPost _ _ _ _ _ (set3 w5 (w.heap.size + 1) 0 (.int .i64 k) (.int .i64 n) (.slice A us.length c))
    obtain ⟨hh, hb, hT⟩ := HF.out
    have hb' : Below w.heap.size w (set3 w5 (w.heap.size + 1) 0 (.int .i64 k) (.int .i64 n) (.slice A us.length c)) := hb
    clear HF hb
    generalize set3 w5 (w.heap.size + 1) 0 (.int .i64 k) (.int .i64 n) (.slice A us.length c) = W at *
    have hh' : W.heap[w.heap.size + 1]? = some (.cells #[.int .i64 k, .int .i64 n, .slice A us.length c] 52 (0, 0)) := hh
    obtain ⟨⟨v0, v1, v2⟩, _⟩ := blk3_cells hh'
    exact bodyPost_ret (v := .tuple #[.agg #[.int .i64 k, .int .i64 n, .slice A us.length c], .int .i64 0]) (by simp [results, Tryz.results53, go_sem, v0, v1, v2]) rfl ⟨by rw [HPA.out]; exact ⟨_, rfl, hT⟩, hb'⟩

set_option maxRecDepth 100000 in
set_option maxHeartbeats 2000000 in
theorem ParseExpr_bad (P M : Int) (h : ¬ OkF P M) (l : List UInt8) (w : World) (hL : Lays w) :
    Calls Tryz.prog 53 #[.agg #[.int .i64 P, .int .i64 M], .string ⟨l.toArray⟩] w fun e w' => e = .returned (.tuple #[zeroT, .int .i64 1]) ∧ Below w.heap.size w w' := by
  have hb0 := below2 w (.cells #[.int .i64 P, .int .i64 M] 49) (.cells #[.int .i64 0, .int .i64 0, .slice none 0 0] 52)
  have ht0 : ((w.alloc (.cells #[.int .i64 P, .int .i64 M] 49)).alloc (.cells #[.int .i64 0, .int .i64 0, .slice none 0 0] 52)).heap[w.heap.size + 1]? = _ := alloc_at _ _ _ (by simp)
  have hsz0 : ((w.alloc (.cells #[.int .i64 P, .int .i64 M] 49)).alloc (.cells #[.int .i64 0, .int .i64 0, .slice none 0 0] 52)).heap.size = w.heap.size + 2 := by simp
  have H0 := Lib.hid (And.intro hb0 (And.intro ht0 hsz0))
  have HV := Lib.hid (valid_no P M _ (hL.below hb0) h)
  clear hL hb0 ht0 hsz0 h
  go_enter Tryz.func53, Tryz.ntmps53
  go_wp2_with fail
  refine HV.out.mono ?_
  generalize (w.alloc (.cells #[.int .i64 P, .int .i64 M] 49)).alloc (.cells #[.int .i64 0, .int .i64 0, .slice none 0 0] 52) = w2 at *
  rintro e w3 ⟨rfl, hB3⟩
  obtain ⟨hb0, ht0, hsz0⟩ := H0.out
  have hb3 := hb0.trans (hB3.mono hb0.size)
  have ht3 := (hB3.block (w.heap.size + 1) (by omega)).trans ht0
  obtain ⟨⟨t0, t1, t2⟩, z0, z1, z2⟩ := blk3_cells ht3
  have hh := set3_heap (o := 0) (.int .i64 0) (.int .i64 0) (.slice none 0 0) ht3
  have hb := (((hb3.setCell (p := ⟨w.heap.size + 1, 0, none⟩) (Nat.le_succ _) (.int .i64 0)).setCell (p := ⟨w.heap.size + 1, 1, none⟩) (Nat.le_succ _) (.int .i64 0)).setCell (p := ⟨w.heap.size + 1, 2, none⟩) (Nat.le_succ _) (.slice none 0 0))
  have HF := Lib.hid (And.intro hh hb)
  clear hb0 ht0 hsz0 hb3 ht3 hh hb hB3
  go_wp2_with fail
  show bodyPost _ _ _ _ _ (set3 w3 (w.heap.size + 1) 0 (.int .i64 0) (.int .i64 0) (.slice none 0 0))
  obtain ⟨hh, hb⟩ := HF.out
  have hb' : Below w.heap.size w (set3 w3 (w.heap.size + 1) 0 (.int .i64 0) (.int .i64 0) (.slice none 0 0)) := hb
  clear HF hb
  generalize set3 w3 (w.heap.size + 1) 0 (.int .i64 0) (.int .i64 0) (.slice none 0 0) = W at *
  have hh' : W.heap[w.heap.size + 1]? = some (.cells #[.int .i64 0, .int .i64 0, .slice none 0 0] 52 (0, 0)) := hh
  obtain ⟨⟨v0, v1, v2⟩, _⟩ := blk3_cells hh'
  exact bodyPost_ret (v := .tuple #[.agg #[.int .i64 0, .int .i64 0, .slice none 0 0], .int .i64 1]) (by simp [results, Tryz.results53, go_sem, v0, v1, v2]) rfl ⟨rfl, hb'⟩
end Go.Proofs.YtopbfgkfpgnalaaGreatDoor.X
