/-
  mul of package poly at the product that alive needs.
-/
import Derived.Test.YtopbfgkfpgnalaaGreatDoorFph
import Derived.Test.YtopbfgkfpgnalaaGreatDoorUt
namespace Go.Proofs.YtopbfgkfpgnalaaGreatDoor
set_option linter.unusedVariables false
open Go.RowKit Go.Maps

set_option maxRecDepth 100000 in
set_option maxHeartbeats 4000000 in
theorem productAdd_ok (w0 w : World) (hB0 : Below w0.heap.size w0 w) (gm gb gp gq h0 h1 hu sb mb cnt : Nat) (hgm : w0.heap.size ≤ gm) (D : DataW Unit) (hS : SumAt w0.heap.size sb mb 2 1 2 2 cnt D w) (hcnt : cnt ≤ 100) (hP : PkA gm gb gp gq h0 h1 hu sb w) :
    Calls Tryz.prog 198 #[.pointer (some ⟨gm, 0, none⟩), .slice (some ⟨gb, 0, none⟩) 1 1, .int .i64 0] w fun r w' => r = .returned (.bool true) ∧ (∃ A c, w'.heap[gm]? = some (.cells #[.pointer (some ⟨sb, 0, none⟩), .slice A 2 c] 247 (0, 0)) ∧ RdP w' A (tms po1)) ∧ Below w0.heap.size w w' := by
  have HC := Lib.hid (countPairs_ok gb gp gq w (pk_cells hP.b 0 rfl).1 (pk_cells hP.b 1 rfl).1)
  have HT := Lib.hid (fun W (hW : Below w.heap.size w W) => addTogether_ok w0 W (hB0.trans (hW.mono hB0.size)) gm gb gp gq h0 h1 hu sb mb cnt hgm D (hS.below hW) hcnt (hP.below hW))
  have HSZ := Lib.hid hB0.size
  clear hP hS
  go_enter Tryz.func198, Tryz.ntmps198
  go_wp2_with fail
  refine HC.out.mono ?_
  rintro e w1 ⟨rfl, hB1⟩
  have HT1 := Lib.hid (HT.out w1 hB1)
  have HB1 := Lib.hid (hB1.mono HSZ.out)
  clear hB1
  go_wp2_with fail
  refine HT1.out.mono ?_
  rintro e w2 ⟨rfl, h2, hB2⟩
  have HH := Lib.hid h2
  have HB2 := Lib.hid (HB1.out.trans hB2)
  clear h2 hB2
  go_wp2_with fail
  go_ret
  exact ⟨rfl, HH.out, HB2.out⟩

def po0 : List Tm := [(1, [0, 0]), (1, [1, 0])]
theorem po0_ris : Ris 2 2 po0 := ⟨by decide, by decide, by decide⟩
theorem po_ex {a b : Nat} (ha : a ≤ 1) (hb : b ≤ 1) {c : Nat} : ∀ t ∈ [(c, [a, b])], Ex 2 (t : Tm).2 := by
  intro t ht
  simp at ht
  subst ht
  refine ⟨rfl, ?_⟩
  intro x hx
  simp at hx
  rcases hx with rfl | rfl <;> omega
theorem po0_ex : ∀ t ∈ po0, Ex 2 t.2 := by
  intro t ht
  simp [po0] at ht
  rcases ht with rfl | rfl <;> exact ⟨rfl, by decide⟩
theorem po1_ex : ∀ t ∈ po1, Ex 2 t.2 := by
  intro t ht
  simp [po1] at ht
  rcases ht with rfl | rfl <;> exact ⟨rfl, by decide⟩
theorem one_ris (a b : Nat) : Ris 2 2 [(1, [a, b])] := ⟨by simp, by simp, by simp⟩
theorem po_fit : fitB po0 [(1, [0, 1])] 2 = true := by decide

set_option maxRecDepth 100000 in
set_option maxHeartbeats 4000000 in
theorem rmul_al (A B : Option Addr) (c d : Nat) (w : World) (hr : RdP w A (tms po0)) (hr' : RdP w B (tms [(1, [0, 1])])) :
    Calls Tryz.prog 171 #[rg 2 1 2 2, .slice A 2 c, .slice B 1 d] w fun e w' => (∃ A c, e = .returned (.tuple #[.slice A 2 c, .bool true]) ∧ RdP w' A (tms po1)) ∧ Below w.heap.size w w' := by
  have hb0 := below1 w (rgO 2 1 2 2)
  have hbox : (w.alloc (rgO 2 1 2 2)).heap[w.heap.size]? = some (rgO 2 1 2 2) := alloc_at _ _ _ rfl
  have HB0 := Lib.hid (And.intro hb0 hbox)
  have HPF := Lib.hid (fun W (hW : Below w.heap.size w W) => powersFit_ok 2 1 2 2 (by omega) A B c d po0 [(1, [0, 1])] po0_ex (po_ex (by omega) (by omega)) (by decide) (by decide) W (hr.below hW) (hr'.below hW))
  have HEQ := Lib.hid (fun f W => eqf_no A B 2 1 c d (by omega) f W)
  have HNS := Lib.hid (fun W => newSum_ok 2 1 2 2 W)
  have HP2 := Lib.hid (fun W (hW : Below w.heap.size w W) => pack2_ok 0 0 1 0 (by omega) (by omega) (by omega) (by omega) A c W (hr.below hW))
  have HP1 := Lib.hid (fun W (hW : Below w.heap.size w W) => pack1_ok 0 1 (by omega) (by omega) B d W (hr'.below hW))
  obtain ⟨r0, r1, r2, r3⟩ := rg_cells hbox
  rw [po_fit] at HPF
  clear hr hr' hb0 hbox
  unfold rg at HPF HNS
  unfold rg
  go_enter Tryz.func171, Tryz.ntmps171
  go_wp2_with fail
  refine (HPF.out _ HB0.out.1).mono ?_
  rintro e w1 ⟨rfl, hB1⟩
  have hb1 := HB0.out.1.trans (hB1.mono HB0.out.1.size)
  have hbox1 := (hB1.block _ (Array.getElem?_eq_some_iff.1 HB0.out.2).1).trans HB0.out.2
  obtain ⟨r0, r1, r2, r3⟩ := rg_cells hbox1
  have HB1 := Lib.hid hb1
  have HBX := Lib.hid hbox1
  clear hb1 hB1 hbox1
  go_wp2_with fail
  refine (HEQ.out _ _).mono ?_
  rintro e wE ⟨rfl, rfl⟩
  go_wp2_with fail
  refine (HNS.out _).mono ?_
  rintro e w2 ⟨sb, mb, rfl, hS2, hB2⟩
  have HS2 := Lib.hid hS2
  have HB2 := Lib.hid hB2
  clear hS2 hB2 r0 r1 r2 r3
  go_wp2_with fail
  obtain ⟨w3, hw3⟩ : ∃ w3, w3 = w2.alloc (.cells #[.pointer (some ⟨sb, 0, none⟩), .slice none 0 0] 247) := ⟨_, rfl⟩
  have hb3 : Below w2.heap.size w2 w3 := by rw [hw3]; exact below1 _ _
  have g3 : w3.heap[w2.heap.size]? = some (.cells #[.pointer (some ⟨sb, 0, none⟩), .slice none 0 0] 247 (0, 0)) := by rw [hw3]; exact alloc_at _ _ _ rfl
  have hB13 : Below w1.heap.size w1 w3 := HB2.out.trans (hb3.mono HB2.out.size)
  have hB03 : Below w.heap.size w w3 := HB1.out.trans (hB13.mono HB1.out.size)
  have HQ2 := Lib.hid (HP2.out w3 hB03)
  have HB3 := Lib.hid hb3
  have HG3 := Lib.hid g3
  have HB13 := Lib.hid hB13
  have HB03 := Lib.hid hB03
  have hle2 := Lib.hid (HB2.out.size)
  rw [← hw3]
  clear hw3 hb3 g3 hB13 hB03
  refine HQ2.out.mono ?_
  rintro e w4 ⟨rfl, ⟨h0, h1, hk0, hk1, hk2⟩, hB4⟩
  have HQ1 := Lib.hid (HP1.out w4 (HB03.out.trans (hB4.mono HB03.out.size)))
  have HK0 := Lib.hid hk0
  have HK1 := Lib.hid hk1
  have HK2 := Lib.hid hk2
  have HB4 := Lib.hid hB4
  clear hk0 hk1 hk2 hB4
  go_wp2_with fail
  refine HQ1.out.mono ?_
  rintro e w5 ⟨rfl, ⟨hu, hk3, hk4⟩, hB5⟩
  have HK3 := Lib.hid hk3
  have HK4 := Lib.hid hk4
  have HB5 := Lib.hid hB5
  clear hk3 hk4 hB5
  go_wp2_with fail
  obtain ⟨w6, hw6⟩ : ∃ w6, w6 = w5.alloc (.cells #[.slice (some ⟨w3.heap.size, 0, none⟩) 2 2, .slice (some ⟨w4.heap.size, 0, none⟩) 1 1] 252) := ⟨_, rfl⟩
  have hb6 : Below w5.heap.size w5 w6 := by rw [hw6]; exact below1 _ _
  have g6 : w6.heap[w5.heap.size]? = some (.cells #[.slice (some ⟨w3.heap.size, 0, none⟩) 2 2, .slice (some ⟨w4.heap.size, 0, none⟩) 1 1] 252 (0, 0)) := by rw [hw6]; exact alloc_at _ _ _ rfl
  have s34 := HB4.out.size
  have s45 := HB5.out.size
  have s56 := hb6.size
  have s13 := HB13.out.size
  have k46 : ∀ {g : Nat} {o : Obj}, w4.heap[g]? = some o → w6.heap[g]? = some o := fun {g o} h => by
    have h5 := (HB5.out.block g (Array.getElem?_eq_some_iff.1 h).1).trans h
    exact (hb6.block g (Array.getElem?_eq_some_iff.1 h5).1).trans h5
  have k56 : ∀ {g : Nat} {o : Obj}, w5.heap[g]? = some o → w6.heap[g]? = some o := fun {g o} h => (hb6.block g (Array.getElem?_eq_some_iff.1 h).1).trans h
  have k36 : ∀ {g : Nat} {o : Obj}, w3.heap[g]? = some o → w6.heap[g]? = some o := fun {g o} h => k46 ((HB4.out.block g (Array.getElem?_eq_some_iff.1 h).1).trans h)
  have hB16 : Below w1.heap.size w1 w6 := ((HB13.out.trans (HB4.out.mono s13)).trans (HB5.out.mono (by omega))).trans (hb6.mono (by omega))
  have hB26 : Below w2.heap.size w2 w6 := ((HB3.out.trans (HB4.out.mono HB3.out.size)).trans (HB5.out.mono (by have := HB3.out.size; omega))).trans (hb6.mono (by have := HB3.out.size; omega))
  have hP6 : PkA w2.heap.size w5.heap.size w3.heap.size w4.heap.size h0 h1 hu sb w6 := ⟨k36 HG3.out, g6, k46 HK0.out, k56 HK3.out, k46 HK1.out, k46 HK2.out, k56 HK4.out⟩
  have HA := Lib.hid (productAdd_ok w1 w6 hB16 w2.heap.size w5.heap.size w3.heap.size w4.heap.size h0 h1 hu sb mb 0 hle2.out _ (HS2.out.below hB26) (by omega) hP6)
  have HB6 := Lib.hid (HB1.out.trans (hB16.mono HB1.out.size))
  have HLE := Lib.hid (HB1.out.size)
  rw [← hw6]
  clear hw6 hb6 g6 s34 s45 s56 s13 k46 k56 k36 hB16 hB26 hP6
  refine HA.out.mono ?_
  rintro e w7 ⟨rfl, ⟨A7, c7, hm7, hr7⟩, hB7⟩
  obtain ⟨m71, -⟩ := pk_cells hm7 1 rfl
  have HR7 := Lib.hid hr7
  have HB7 := Lib.hid (HB6.out.trans (hB7.mono HLE.out))
  clear hm7 hr7 hB7
  go_wp2_with fail
  go_ret2
  exact ⟨⟨A7, c7, rfl, HR7.out⟩, HB7.out⟩

set_option maxHeartbeats 4000000 in
theorem po_mul (A B : Option Addr) (c d : Nat) (w : World) (hL : Lays w) (hr : RdP w A (tms po0)) (hr' : RdP w B (tms [(1, [0, 1])])) :
    Calls Tryz.prog 141 #[.agg #[.int .i64 2, .int .i64 1], .int .i64 2, .slice A 2 c, .slice B 1 d] w fun e w' => (∃ A c, e = .returned (.tuple #[.slice A 2 c, .int .i64 0]) ∧ RdP w' A (tms po1)) ∧ Below w.heap.size w w' := by
  have hB2 := below2 w (.cells #[.int .i64 2, .int .i64 1] 49) (.cells #[.slice A 2 c, .slice B 1 d] 67)
  have hv : PolyV w (.slice A 2 c) (tms po0) := ⟨A, c, rfl, hr, by decide⟩
  have hv' : PolyV w (.slice B 1 d) (tms [(1, [0, 1])]) := ⟨B, d, rfl, hr', by decide⟩
  have hO := open_yes1 2 1 2 2 al_f2 (by omega) (some ⟨w.heap.size + 1, 0, none⟩) 2 2 [tms po0, tms [(1, [0, 1])]] rfl (by omega) _ (hL.below hB2) (rdps_two (snd_cell _ _ _ _ 0) (snd_cell _ _ _ _ 1) (hv.below hB2) (hv'.below hB2)) (fun x hx2 => by
    simp only [List.mem_cons, List.not_mem_nil, or_false] at hx2
    rcases hx2 with rfl | rfl
    · exact ⟨by decide, po0, rfl, po0_ris, po0_ex⟩
    · exact ⟨by decide, [(1, [0, 1])], rfl, one_ris 0 1, po_ex (by omega) (by omega)⟩)
  have HO := Lib.hid hO
  have HB2 := Lib.hid hB2
  have HMU := Lib.hid (fun W (hW : Below w.heap.size w W) => rmul_al A B c d W (hr.below hW) (hr'.below hW))
  unfold rg at HMU
  clear hO hB2 hL hr hr' hv hv'
  go_enter Tryz.func141, Tryz.ntmps141
  go_wp2_with fail
  refine HO.out.mono ?_
  rintro e w1 ⟨rfl, hB1⟩
  have HB3 := Lib.hid (HB2.out.trans (hB1.mono HB2.out.size))
  clear HB2 hB1
  have hb1 : Below w.heap.size w (w1.alloc (rgO 2 1 2 2)) := HB3.out.alloc HB3.out.size _
  have HM := Lib.hid (HMU.out _ hb1)
  have HB1 := Lib.hid hb1
  clear hb1
  go_wp2_with fail
  refine HM.out.mono ?_
  rintro e w2 ⟨⟨A', c', rfl, hr⟩, hB2⟩
  have HB := Lib.hid (HB1.out.trans (hB2.mono HB1.out.size))
  have HR := Lib.hid hr
  clear hB2 hr
  go_wp2_with fail
  refine (sized_yes _ _).mono ?_
  rintro e w6 ⟨rfl, rfl⟩
  go_wp2_with fail
  go_ret2
  exact ⟨⟨A', c', rfl, HR.out⟩, HB.out⟩
end Go.Proofs.YtopbfgkfpgnalaaGreatDoor
