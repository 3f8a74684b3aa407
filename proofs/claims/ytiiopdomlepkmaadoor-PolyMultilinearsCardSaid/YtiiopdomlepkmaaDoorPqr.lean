/-
  Contract of the law's helper 'alive' of layer 4: it returns true in every world in which the listed tables read as the program's text lays them.
-/
import Derived.Test.YtiiopdomlepkmaaDoorPqq
namespace Go.Proofs.YtiiopdomlepkmaaDoor
set_option linter.unusedVariables false
open Go.RowKit Go.Maps

theorem al_f2 : Fld 2 1 2 := .inl ⟨rfl, pr_two, by omega, rfl⟩
def alB : List Bool := [false, true, true, true]
def alP : List Tm := [(1, [0, 1]), (1, [1, 0]), (1, [1, 1])]
def alQ : List Tm := [(1, [1])]
theorem al_terms : mlT (mlC 2 1 2 alB) 2 4 = [(0, [0, 0]), (1, [1, 0]), (1, [0, 1]), (1, [1, 1])] := by decide
theorem al_ris : Ris 2 2 alP := ⟨by decide, by decide, by decide⟩
theorem al_ex : ∀ t ∈ alP, Ex 2 t.2 := by
  intro t ht
  simp [alP] at ht
  rcases ht with rfl | rfl | rfl <;> exact ⟨rfl, by decide⟩
theorem al_cfs (e : List Nat) : cfs (addN 2 1) (mlT (mlC 2 1 2 alB) 2 4) e = cfs (addN 2 1) alP e := by
  rw [al_terms]
  by_cases h0 : e = [0, 0]
  · subst h0; decide
  · by_cases h1 : e = [1, 0]
    · subst h1; decide
    · by_cases h2 : e = [0, 1]
      · subst h2; decide
      · by_cases h3 : e = [1, 1]
        · subst h3; decide
        · rw [cfs_none, cfs_none]
          · intro t ht e'
            simp [alP] at ht
            rcases ht with rfl | rfl | rfl
            · exact h2 e'.symm
            · exact h1 e'.symm
            · exact h3 e'.symm
          · intro t ht e'
            simp at ht
            rcases ht with rfl | rfl | rfl | rfl
            · exact h0 e'.symm
            · exact h1 e'.symm
            · exact h2 e'.symm
            · exact h3 e'.symm
theorem al_eq {p : List Tm} (hr : Ris 2 2 p) (hc : ∀ e, cfs (addN 2 1) p e = cfs (addN 2 1) (mlT (mlC 2 1 2 alB) 2 4) e) : p = alP :=
  hr.ext al_f2.fl.toRng al_ris fun e => (hc e).trans (al_cfs e)
theorem itoa_small (i : Nat) (h : i < 10) : Lib.itoa i = [UInt8.ofNat (48 + i)] := by
  rw [Lib.itoa_nonneg, Lib.decDigits, dif_pos h]
theorem al_text : textP alP = [49, 42, 120, 49, 32, 43, 32, 49, 42, 120, 48, 32, 43, 32, 49, 42, 120, 48, 42, 120, 49] := by
  have h0 := itoa_small 0 (by omega)
  have h1 := itoa_small 1 (by omega)
  simp [textP, alP, catT, sepT, termT, expsT, expT]
  simp at h0 h1
  rw [h0, h1]
  decide
theorem al_q {p : List Tm} (hr : Ris 2 1 p) (hc : ∀ e, cfs (addN 2 1) p e = cfs (addN 2 1) (([(1, [3])] : List Tm).map (redT 2)) e) : p = alQ :=
  hr.ext al_f2.fl.toRng (⟨by decide, by decide, by decide⟩ : Ris 2 1 alQ) fun e => (hc e).trans (by rw [show ([(1, [3])] : List Tm).map (redT 2) = alQ by decide])

theorem alB_rd {w : World} {g : Nat} (h : w.heap[g]? = some (.cells #[.bool false, .bool true, .bool true, .bool true] 4 (0, 0))) : RdB w (some ⟨g, 0, none⟩) alB := fun k x hk => by
  refine ⟨_, rfl, ?_⟩
  match k, hk with
  | 0, hk => simp [alB] at hk; subst hk; simp [World.cell?, h, Addr.add]
  | 1, hk => simp [alB] at hk; subst hk; simp [World.cell?, h, Addr.add]
  | 2, hk => simp [alB] at hk; subst hk; simp [World.cell?, h, Addr.add]
  | 3, hk => simp [alB] at hk; subst hk; simp [World.cell?, h, Addr.add]
  | k + 4, hk => simp [alB] at hk
theorem one_rd {w : World} {g h' : Nat} (e : Nat) (h1 : w.cell? ⟨g, 0, none⟩ = some (.int .i64 1)) (h2 : w.cell? ⟨g, 1, none⟩ = some (.slice (some ⟨h', 0, none⟩) 1 1)) (h3 : w.cell? ⟨h', 0, none⟩ = some (.int .i64 (e : Int))) : RdP w (some ⟨g, 0, none⟩) (tms [(1, [e])]) := fun k t hk => by
  match k, hk with
  | 0, hk =>
    simp at hk
    subst hk
    refine ⟨g, 0, _, rfl, h1, h2, some ⟨h', 0, none⟩, 1, by simp [nz], ?_, by simp [nz]⟩
    intro k x hk
    match k, hk with
    | 0, hk =>
      simp [nz] at hk
      subst hk
      exact ⟨_, rfl, h3⟩
    | k + 1, hk => simp [nz] at hk
  | k + 1, hk => simp at hk
theorem alM (w : World) (hL : LayP w) (g : Nat) (h : w.heap[g]? = some (.cells #[.bool false, .bool true, .bool true, .bool true] 4 (0, 0))) :
    Calls Tryd.prog 23 #[.agg #[.int .i64 2, .int .i64 1], .slice (some ⟨g, 0, none⟩) 4 4] w fun e w' => (∃ A c, e = .returned (.tuple #[.slice A 3 c, .int .i64 0]) ∧ RdP w' A (tms alP)) ∧ Below w.heap.size w w' := by
  refine (Multilinear_ok 2 1 2 2 al_f2 (by omega) (some ⟨g, 0, none⟩) 4 alB rfl w hL (alB_rd h)).mono ?_
  rintro e w' ⟨hB, p, h1, h2, h3, h4, h5⟩
  obtain rfl := al_eq h1 h2
  rcases h5 with ⟨_, A, c, rfl, hr⟩ | ⟨h5, _⟩
  · exact ⟨⟨A, c, rfl, hr⟩, hB⟩
  · exact absurd h5 (by decide)
theorem alT (w : World) (hL : LayP w) (A : Option Addr) (c : Nat) (hr : RdP w A (tms alP)) :
    Calls Tryd.prog 12 #[.agg #[.int .i64 2, .int .i64 1], .int .i64 2, .slice A 3 c] w fun e w' => e = .returned (.tuple #[.string ⟨#[49, 42, 120, 49, 32, 43, 32, 49, 42, 120, 48, 32, 43, 32, 49, 42, 120, 48, 42, 120, 49]⟩, .int .i64 0]) ∧ Below w.heap.size w w' := by
  refine (Text_ok 2 1 2 2 al_f2 (by omega) A c alP w hL hr al_ris al_ex (by decide)).mono ?_
  rintro e w' ⟨hB, ⟨_, rfl⟩ | ⟨h, _⟩⟩
  · exact ⟨by rw [al_text], hB⟩
  · rw [al_text] at h; simp at h
theorem alR (w : World) (hL : LayP w) (g h' : Nat) (h1 : w.cell? ⟨g, 0, none⟩ = some (.int .i64 1)) (h2 : w.cell? ⟨g, 1, none⟩ = some (.slice (some ⟨h', 0, none⟩) 1 1)) (h3 : w.cell? ⟨h', 0, none⟩ = some (.int .i64 3)) :
    Calls Tryd.prog 18 #[.agg #[.int .i64 2, .int .i64 1], .int .i64 1, .slice (some ⟨g, 0, none⟩) 1 1] w fun e w' => (∃ A c, e = .returned (.tuple #[.slice A 1 c, .int .i64 0]) ∧ RdP w' A (tms alQ)) ∧ Below w.heap.size w w' := by
  refine (Reduce_ok 2 1 2 1 al_f2 (by omega) (some ⟨g, 0, none⟩) 1 [(1, [3])] w hL.lays (one_rd 3 h1 h2 h3) ⟨by decide, by decide, by decide⟩ (fun t ht => by simp at ht; subst ht; exact ⟨rfl, by decide⟩) (by decide)).mono ?_
  rintro e w' ⟨hB, p, k1, k2, k3, k4, k5⟩
  obtain rfl := al_q k1 k2
  rcases k5 with ⟨_, A, c, rfl, hr⟩ | ⟨k5, _⟩
  · exact ⟨⟨A, c, rfl, hr⟩, hB⟩
  · exact absurd k5 (by decide)
theorem alS (w : World) (A : Option Addr) (c g h' : Nat) (hr : RdP w A (tms alQ)) (h1 : w.cell? ⟨g, 0, none⟩ = some (.int .i64 1)) (h2 : w.cell? ⟨g, 1, none⟩ = some (.slice (some ⟨h', 0, none⟩) 1 1)) (h3 : w.cell? ⟨h', 0, none⟩ = some (.int .i64 1)) :
    Calls Tryd.prog 27 #[.slice A 1 c, .slice (some ⟨g, 0, none⟩) 1 1] w fun e w' => e = .returned (.bool true) ∧ Below w.heap.size w w' := by
  have hx : ∀ t ∈ alQ, Ex 1 t.2 := fun t ht => by simp [alQ] at ht; subst ht; exact ⟨rfl, by decide⟩
  have hc : ∀ t ∈ alQ, t.1 ≤ 65536 := by decide
  exact same_ok 1 (by omega) A (some ⟨g, 0, none⟩) c 1 alQ alQ hx hx w hr (one_rd 1 h1 h2 h3) (by decide) (by decide) hc hc

set_option maxRecDepth 100000 in
set_option maxHeartbeats 4000000 in
theorem alive_ok (w : World) (hL : LayP w) :
    Calls Tryd.prog 10 #[] w fun e w' => e = .returned (.bool true) ∧ Below w.heap.size w w' := by
  have HL := Lib.hid hL
  clear hL
  go_enter Tryd.func10, Tryd.ntmps10
  go_wp2_with fail
  have hb2 := below2 w (.cells #[.int .i64 2, .int .i64 1] 23) (.cells #[.bool false, .bool true, .bool true, .bool true] 4)
  refine (alM _ (HL.out.below hb2) (w.heap.size + 1) (alloc_at _ _ _ (by simp))).mono ?_
  rintro e w1 ⟨⟨A, c, rfl, hr⟩, hB⟩
  have c0 : w1.cell? ⟨w.heap.size, 0, none⟩ = some (.int .i64 2) := (hB.cell (by simp; omega)).trans (fst_cell _ _ _ _ _)
  have c1 : w1.cell? ⟨w.heap.size, 1, none⟩ = some (.int .i64 1) := (hB.cell (by simp; omega)).trans (fst_cell _ _ _ _ _)
  have HB1 := Lib.hid (hb2.trans (hB.mono hb2.size))
  have HR := Lib.hid hr
  clear hb2 hB hr
  go_wp2_with fail
  refine (alT _ (HL.out.below HB1.out) A c HR.out).mono ?_
  rintro e w2 ⟨rfl, hB⟩
  have d0 : w2.cell? ⟨w.heap.size, 0, none⟩ = some (.int .i64 2) := (hB.cell (World.block_lt_of_cell? w1 _ c0)).trans c0
  have d1 : w2.cell? ⟨w.heap.size, 1, none⟩ = some (.int .i64 1) := (hB.cell (World.block_lt_of_cell? w1 _ c1)).trans c1
  have HB2 := Lib.hid (HB1.out.trans (hB.mono HB1.out.size))
  clear hB HB1 HR c0 c1
  go_wp2_with fail
  have hb2 := below2 w2 (.cells #[.int .i64 3] 3) (.cells #[.int .i64 1, .slice (some ⟨w2.heap.size, 0, none⟩) 1 1] 65)
  refine (alR _ (HL.out.below (HB2.out.trans (hb2.mono HB2.out.size))) (w2.heap.size + 1) w2.heap.size (snd_cell _ _ _ _ _) (snd_cell _ _ _ _ _) (fst_cell _ _ _ _ _)).mono ?_
  rintro e w3 ⟨⟨A3, c3, rfl, hr⟩, hB⟩
  have HB3 := Lib.hid (HB2.out.trans ((hb2.trans (hB.mono hb2.size)).mono HB2.out.size))
  have HR := Lib.hid hr
  clear hb2 hB hr HB2 d0 d1
  go_wp2_with fail
  have hb2 := below2 w3 (.cells #[.int .i64 1] 3) (.cells #[.int .i64 1, .slice (some ⟨w3.heap.size, 0, none⟩) 1 1] 65)
  refine (alS _ A3 c3 (w3.heap.size + 1) w3.heap.size (HR.out.below hb2) (snd_cell _ _ _ _ _) (snd_cell _ _ _ _ _) (fst_cell _ _ _ _ _)).mono ?_
  rintro e w4 ⟨rfl, hB⟩
  have HB4 := Lib.hid (HB3.out.trans ((hb2.trans (hB.mono hb2.size)).mono HB3.out.size))
  clear hb2 hB HB3
  go_wp2_with fail
  go_ret
  exact ⟨rfl, HB4.out⟩
end Go.Proofs.YtiiopdomlepkmaaDoor
