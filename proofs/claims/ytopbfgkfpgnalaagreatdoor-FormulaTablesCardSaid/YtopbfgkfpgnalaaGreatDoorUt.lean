/-
  Joined from Fmr, Fms, Fmt: see there.
-/
import Derived.Test.YtopbfgkfpgnalaaGreatDoorUh
namespace Go.Proofs.YtopbfgkfpgnalaaGreatDoor
set_option linter.unusedVariables false
open Go.RowKit Go.Maps

set_option maxHeartbeats 1000000 in
theorem mulElements_one (P M q n : Nat) (b : Int) (w : World) :
    Calls Tryz.prog 156 #[rg P M q n, .int .i64 1, .int .i64 b] w fun e w' => e = .returned (.int .i64 b) ∧ Below w.heap.size w w' := by
  have HB := Lib.hid (below1 w (.cells #[.int .i64 (P : Int), .int .i64 (M : Int), .int .i64 (q : Int), .int .i64 (n : Int)] 163))
  unfold rg
  go_enter Tryz.func156, Tryz.ntmps156
  go_wp2_with fail
  go_ret
  exact ⟨rfl, HB.out⟩

/-- A sum while terms are added. -/
structure SmR (w0 : World) (sb mb P M q n : Nat) (ts : List Tm) (W : World) : Prop where
  bel : Below w0.heap.size w0 W
  sum : ∃ D, SumAt w0.heap.size sb mb P M q n ts.length D W ∧ Tells n (stN P M) (addN P M) ts D
theorem SmR.below {w0 W W' : World} {sb mb P M q n : Nat} {ts : List Tm} (h : SmR w0 sb mb P M q n ts W) (hB : Below W.heap.size W W') : SmR w0 sb mb P M q n ts W' := by
  obtain ⟨D, h1, h2⟩ := h.sum
  exact ⟨h.bel.trans (hB.mono h.bel.size), D, h1.below hB, h2⟩
theorem SmR.added {w0 W W' : World} {sb mb P M q n : Nat} {ts : List Tm} (h : SmR w0 sb mb P M q n ts W) {t : Tm} {D' : DataW Unit} (hs : SumAt w0.heap.size sb mb P M q n (ts.length + 1) D' W') (hT : Tells n (stN P M) (addN P M) (ts ++ [t]) D') (hO : Below w0.heap.size W W') : SmR w0 sb mb P M q n (ts ++ [t]) W' := by
  obtain ⟨D, h1, h2⟩ := h.sum
  exact ⟨h.bel.trans hO, D', by simpa using hs, hT⟩
theorem SmR.ring {w0 W : World} {sb mb P M q n : Nat} {ts : List Tm} (h : SmR w0 sb mb P M q n ts W) : W.cell? ⟨sb, 0, none⟩ = some (.int .i64 (P : Int)) ∧ W.cell? ⟨sb, 1, none⟩ = some (.int .i64 (M : Int)) ∧ W.cell? ⟨sb, 2, none⟩ = some (.int .i64 (q : Int)) ∧ W.cell? ⟨sb, 3, none⟩ = some (.int .i64 (n : Int)) := by
  obtain ⟨D, h1, _⟩ := h.sum
  exact h1.cells.2

set_option maxRecDepth 100000 in
set_option maxHeartbeats 4000000 in
theorem addMul1_ok (w0 : World) (hL : Lays w0) (sb mb P M q n : Nat) (hf : Fld P M q) (hn : n ≤ 80) (hn0 : 0 < n) (VA : Option Addr) (VC : Nat) (p : List Tm) (hr : RdP w0 VA (tms p)) (hp : Ris q n p) (hx : ∀ t ∈ p, Ex n t.2) (hlen : p.length ≤ 20000) (ts : List Tm) (hcl : CoLt q ts) (htl : ts.length ≤ 1000000) (w : World) (hS : SmR w0 sb mb P M q n ts w) :
    Calls Tryz.prog 168 #[.pointer (some ⟨sb, 0, none⟩), .int .i64 1, .slice VA p.length VC] w fun r w' => r = .returned (.tuple #[]) ∧ SmR w0 sb mb P M q n (ts ++ p) w' := by
  have HL := Lib.hid hL
  have HR := Lib.hid hr
  have HP := Lib.hid hp
  have HX := Lib.hid hx
  have HCL := Lib.hid hcl
  have HS := Lib.hid hS
  have HM := Lib.hid (fun b W => mulElements_one P M q n b W)
  unfold rg at HM
  clear hL hr hp hx hcl hS
  go_enter Tryz.func168, Tryz.ntmps168
  go_wp2_with fail
  go_loopw [7, 10] (fun _ iv W => ∃ k : Nat, k ≤ p.length ∧ iv = .int .i64 k ∧ SmR w0 sb mb P M q n (ts ++ p.take k) W) (fun _ iv _ => p.length - (intOf iv).toNat)
  case atStart => exact ⟨0, by omega, rfl, by simpa using HS.out⟩
  case round =>
    clear HS
    obtain ⟨k, hk, rfl, hS⟩ := hrel
    have HSK := Lib.hid hS
    by_cases hlt : k < p.length
    · obtain ⟨t, ht⟩ : ∃ t, p[k]? = some t := ⟨_, List.getElem?_eq_getElem hlt⟩
      have htx := HX.out t (List.mem_of_getElem? ht)
      have htc := HP.out.co t (List.mem_of_getElem? ht)
      obtain ⟨b, off, u, rfl, g1, g2, g3⟩ := HR.out k ((t.1 : Int), nz t.2) (by simp [ht])
      have k1 := (hS.bel.cell (World.block_lt_of_cell? w0 _ g1)).trans g1
      have k2 := (hS.bel.cell (World.block_lt_of_cell? w0 _ g2)).trans g2
      obtain ⟨EA, ec, hu, k4, _⟩ := g3
      rw [nz_length, htx.1] at hu
      subst hu
      have hb1 := below1 wr (.cells #[.int .i64 (t.1 : Int), .slice EA n ec] 144)
      have hS1 := hS.below hb1
      obtain ⟨r0, r1, r2, r3⟩ := hS1.ring
      have HS1 := Lib.hid hS1
      have HTK : Hid (ts ++ p.take (k + 1) = (ts ++ p.take k) ++ [t]) := Lib.hid (by rw [List.take_add_one, ht]; simp)
      have hcl2 : CoLt q (ts ++ p.take k) := fun x hx => by
        rcases List.mem_append.1 hx with h | h
        · exact HCL.out x h
        · exact (HP.out.co x (List.mem_of_mem_take h)).2
      have HCL2 := Lib.hid hcl2
      have HADD := Lib.hid (fun W (hS : SmR w0 sb mb P M q n (ts ++ p.take k) W) => by
        obtain ⟨D, s1, s2⟩ := hS.sum
        have hri : RdI W EA (nz t.2) := fun j x hj => by
          obtain ⟨a, e, hc⟩ := k4 j x hj
          exact ⟨a, e, (hS.bel.cell (World.block_lt_of_cell? w0 _ hc)).trans hc⟩
        have h := addTerm_ok w0 W hS.bel sb mb P M q n _ hf hn D (ts ++ p.take k) t.1 htc.2 EA ec t.2 htx s1 s2 HCL2.out (by simp; omega) (by simp; omega) (fun W' _ hW' j x hj => by
          obtain ⟨a, e, hc⟩ := k4 j x hj
          exact ⟨a, e, ((hS.bel.trans hW').cell (World.block_lt_of_cell? w0 _ hc)).trans hc⟩)
        exact h.mono (fun r W' ⟨h1, D', h2, h3, h4, h5⟩ => (⟨h1, hS.added h2 h3 h5⟩ : r = Ending.returned (.tuple #[]) ∧ SmR w0 sb mb P M q n ((ts ++ p.take k) ++ [(t.1, t.2)]) W')))
      clear g1 g2 k4 ht htx htc hS hb1 hS1 hcl2
      obtain ⟨j0, j1⟩ := (show (wr.alloc (.cells #[.int .i64 (t.1 : Int), .slice EA n ec] 144)).cell? ⟨wr.heap.size, 0, none⟩ = some (.int .i64 (t.1 : Int)) ∧ (wr.alloc (.cells #[.int .i64 (t.1 : Int), .slice EA n ec] 144)).cell? ⟨wr.heap.size, 1, none⟩ = some (.slice EA n ec) from ⟨World.cell?_alloc_new _ _ _ 0, World.cell?_alloc_new _ _ _ 1⟩)
      go_wp2_with fail
      generalize wr.alloc (.cells #[.int .i64 (t.1 : Int), .slice EA n ec] 144) = wq at *
      go_region_law (first
        | (go_simp; (with_reducible refine (HM.out (t.1 : Int) wq.drew).mono ?_); rintro e wa ⟨rfl, hBa⟩; have hba := ((Below.refl wq.heap.size wq).drew).trans (hBa.mono (Nat.le_refl _)); have jj := (hba.cell (World.block_lt_of_cell? wq _ j1)).trans j1)
        | (have hsa := HS1.out.below hba; go_simp; (with_reducible refine (HADD.out wa hsa).mono ?_); rintro e wb ⟨rfl, hSb⟩))
      all_goals
        rw [← HTK.out] at hSb
        have HSB := Lib.hid hSb
        clear hSb
        go_wp2_with fail
        go_roundw
        case rel => exact ⟨k + 1, by omega, by go_num, HSB.out⟩
        case measure => simp [intOf]; omega
    · have hkl : p.take k = p := List.take_of_length_le (by omega)
      have HF := Lib.hid (show SmR w0 sb mb P M q n (ts ++ p) wr by have h := HSK.out; rw [hkl] at h; exact h)
      clear hkl hS
      go_wp2_with fail
      go_end0
      exact ⟨rfl, HF.out⟩
end Go.Proofs.YtopbfgkfpgnalaaGreatDoor
namespace Go.Proofs.YtopbfgkfpgnalaaGreatDoor
set_option linter.unusedVariables false
open Go.RowKit Go.Maps

theorem Ris.lt2 {q n : Nat} {p p' : List Tm} (h : Ris q n p) (h' : Ris q n p') : CoLt q (p ++ p') := fun x hx => by
  rcases List.mem_append.1 hx with h1 | h1
  · exact (h.co x h1).2
  · exact (h'.co x h1).2

set_option maxRecDepth 100000 in
set_option maxHeartbeats 4000000 in
theorem PAdd_ok (P M q n : Nat) (hf : Fld P M q) (hn : n ≤ 80) (hn0 : 0 < n) (VA VB : Option Addr) (VC VD : Nat) (p p' : List Tm) (w : World) (hL : Lays w) (hr : RdP w VA (tms p)) (hr' : RdP w VB (tms p')) (hp : Ris q n p) (hp' : Ris q n p') (hx : ∀ t ∈ p, Ex n t.2) (hx' : ∀ t ∈ p', Ex n t.2) (hlen : p.length ≤ 20000) (hlen' : p'.length ≤ 20000) :
    Calls Tryz.prog 140 #[.agg #[.int .i64 (P : Int), .int .i64 (M : Int)], .int .i64 (n : Int), .slice VA p.length VC, .slice VB p'.length VD] w (PolyRes q n (addN P M) (p ++ p') w) := by
  have hB2 := below2 w (.cells #[.int .i64 (P : Int), .int .i64 (M : Int)] 49) (.cells #[.slice VA p.length VC, .slice VB p'.length VD] 67)
  have hv : PolyV w (.slice VA p.length VC) (tms p) := ⟨VA, VC, by simp, hr, by simp; omega⟩
  have hv' : PolyV w (.slice VB p'.length VD) (tms p') := ⟨VB, VD, by simp, hr', by simp; omega⟩
  have hO := open_yes1 P M q n hf hn (some ⟨w.heap.size + 1, 0, none⟩) 2 2 [tms p, tms p'] rfl (by omega) _ (hL.below hB2) (rdps_two (snd_cell _ _ _ _ 0) (snd_cell _ _ _ _ 1) (hv.below hB2) (hv'.below hB2)) (fun x hx2 => by
    simp at hx2
    rcases hx2 with rfl | rfl
    · exact ⟨by simpa using hlen, p, rfl, hp, hx⟩
    · exact ⟨by simpa using hlen', p', rfl, hp', hx'⟩)
  have HO := Lib.hid hO
  have HB2 := Lib.hid hB2
  have HNS := Lib.hid (fun W => newSum_ok P M q n W)
  have HA1 := Lib.hid (fun sb mb W hS => addMul1_ok w hL sb mb P M q n hf hn hn0 VA VC p hr hp hx hlen [] (fun x hx => by simp at hx) (by simp) W hS)
  have HA2 := Lib.hid (fun sb mb W hS => addMul1_ok w hL sb mb P M q n hf hn hn0 VB VD p' hr' hp' hx' hlen' p (fun x hx => (hp.co x hx).2) (by omega) W hS)
  have HC2 := Lib.hid (hp.lt2 hp')
  have HPL := Lib.hid (And.intro hlen hlen')
  clear hO hB2 hL hp hp' hx hx' hr hr' hv hv'
  go_enter Tryz.func140, Tryz.ntmps140
  go_wp2_with fail
  refine HO.out.mono ?_
  rintro e w1 ⟨rfl, hB1⟩
  have HB3 := Lib.hid (HB2.out.trans (hB1.mono HB2.out.size))
  clear HB2 hB1
  go_wp2_with fail
  refine (HNS.out _).mono ?_
  rintro e w2 ⟨sb, mb, rfl, hS, hB4⟩
  have hb1 : Below w.heap.size w (w1.alloc (rgO P M q n)) := HB3.out.alloc HB3.out.size _
  have hle : w.heap.size ≤ (w1.alloc (rgO P M q n)).heap.size := hb1.size
  have hs2 : SmR w sb mb P M q n [] w2 := ⟨hb1.trans (hB4.mono hle), _, hS.rebase hle, Tells.empty _ (stN_zero P M) _⟩
  have H1 := Lib.hid (HA1.out sb mb w2 hs2)
  clear hb1 hle hs2 hS hB4
  go_wp2_with fail
  refine H1.out.mono ?_
  rintro e w3 ⟨rfl, hs3⟩
  rw [List.nil_append] at hs3
  have H2 := Lib.hid (HA2.out sb mb w3 hs3)
  clear hs3
  go_wp2_with fail
  refine H2.out.mono ?_
  rintro e w4 ⟨rfl, hs4⟩
  obtain ⟨D, hs, hT⟩ := hs4.sum
  have hpo := poly_ok w w4 hs4.bel.size sb mb P M q n _ hf hn D (p ++ p') hs hT HC2.out (by have := HPL.out; simp; omega) (by have := HPL.out; simp; omega)
  have HPO := Lib.hid hpo
  have HLM := Lib.hid (And.intro hs4.bel hs.lm)
  clear hpo hs hT hs4
  go_wp2_with fail
  refine HPO.out.mono ?_
  rintro e w5 ⟨hO3, r, h1, h2, h3, h4, h5⟩
  have HB := Lib.hid (HLM.out.1.trans (hO3.below HLM.out.1.size fun k hk => by
    have hk' : k = mb := hk
    rw [hk']; exact HLM.out.2))
  have H1' := Lib.hid h1
  have H2' := Lib.hid h2
  have H3' := Lib.hid h3
  have H4' := Lib.hid h4
  rcases h5 with ⟨h7, A', c, rfl, h6⟩ | ⟨h7, rfl⟩
  · have H6 := Lib.hid h6
    have H7 := Lib.hid h7
    clear h1 h2 h3 h4 h6 h7 hO3
    go_wp2_with fail
    refine (sized_yes _ _).mono ?_
    rintro e w6 ⟨rfl, rfl⟩
    go_wp2_with fail
    go_ret2
    exact ⟨HB.out, r, H1'.out, H2'.out, H3'.out, H4'.out, .inl ⟨H7.out, A', c, rfl, H6.out⟩⟩
  · have H7 := Lib.hid h7
    clear h1 h2 h3 h4 h7 hO3
    go_wp2_with fail
    refine (sized_no _ _).mono ?_
    rintro e w6 ⟨rfl, rfl⟩
    go_wp2_with fail
    go_ret2
    exact ⟨HB.out, r, H1'.out, H2'.out, H3'.out, H4'.out, .inr ⟨H7.out, rfl⟩⟩
end Go.Proofs.YtopbfgkfpgnalaaGreatDoor
namespace Go.Proofs.YtopbfgkfpgnalaaGreatDoor
set_option linter.unusedVariables false
open Go.RowKit Go.Maps

def hiP (p : List Tm) (v : Nat) : Nat := p.foldl (fun m t => max m (t.2[v]?.getD 0)) 0
theorem foldl_max_ge (v : Nat) : ∀ (p : List Tm) (m : Nat), m ≤ p.foldl (fun m t => max m (t.2[v]?.getD 0)) m ∧ ∀ t ∈ p, t.2[v]?.getD 0 ≤ p.foldl (fun m t => max m (t.2[v]?.getD 0)) m
  | [], m => ⟨Nat.le_refl _, fun t ht => by simp at ht⟩
  | t :: p, m => by
    obtain ⟨h1, h2⟩ := foldl_max_ge v p (max m (t.2[v]?.getD 0))
    rw [List.foldl_cons]
    refine ⟨by omega, fun u hu => ?_⟩
    rcases List.mem_cons.1 hu with rfl | hu
    · omega
    · exact h2 u hu
theorem hiP_ge {p : List Tm} {v : Nat} {t : Tm} (h : t ∈ p) : t.2[v]?.getD 0 ≤ hiP p v := (foldl_max_ge v p 0).2 t h
theorem foldl_max_le (v b : Nat) : ∀ (p : List Tm) (m : Nat), m ≤ b → (∀ t ∈ p, t.2[v]?.getD 0 ≤ b) → p.foldl (fun m t => max m (t.2[v]?.getD 0)) m ≤ b
  | [], m, hm, _ => hm
  | t :: p, m, hm, h => by
    rw [List.foldl_cons]
    exact foldl_max_le v b p _ (by have := h t (by simp); omega) (fun u hu => h u (by simp [hu]))
theorem hiP_le {p : List Tm} {n v : Nat} (hx : ∀ t ∈ p, Ex n t.2) : hiP p v ≤ 65535 :=
  foldl_max_le v 65535 p 0 (by omega) (fun t ht => by
    cases h : t.2[v]? with
    | none => simp
    | some x => exact (hx t ht).2 x (List.mem_of_getElem? h))
theorem hiP_take {p : List Tm} {k v : Nat} {t : Tm} (h : p[k]? = some t) : hiP (p.take (k + 1)) v = max (hiP (p.take k) v) (t.2[v]?.getD 0) := by
  simp [hiP, List.take_add_one, h]

set_option maxRecDepth 100000 in
set_option maxHeartbeats 2000000 in
theorem highest_ok (n v : Nat) (hv : v < n) (hn : n ≤ 80) (VA : Option Addr) (VC : Nat) (p : List Tm) (hx : ∀ t ∈ p, Ex n t.2) (hlen : p.length ≤ 20000) (w : World) (hr : RdP w VA (tms p)) :
    Calls Tryz.prog 223 #[.slice VA p.length VC, .int .i64 (v : Int)] w fun e w' => e = .returned (.int .i64 (hiP p v : Nat)) ∧ Below w.heap.size w w' := by
  have HR := Lib.hid hr
  have HX := Lib.hid hx
  clear hr hx
  go_enter Tryz.func223, Tryz.ntmps223
  go_wp2_with fail
  go_loopw [5, 7, 10] (fun ev _ iv W => ∃ k : Nat, k ≤ p.length ∧ iv = .int .i64 k ∧ ev = .int .i64 (hiP (p.take k) v : Nat) ∧ Below w.heap.size w W) (fun _ _ iv _ => p.length - (intOf iv).toNat)
  case atStart => exact ⟨0, by omega, rfl, rfl, Below.refl _ _⟩
  case round =>
    obtain ⟨k, hk, rfl, rfl, hB⟩ := hrel
    have HB := Lib.hid hB
    by_cases hlt : k < p.length
    · obtain ⟨t, ht⟩ : ∃ t, p[k]? = some t := ⟨_, List.getElem?_eq_getElem hlt⟩
      have htx := HX.out t (List.mem_of_getElem? ht)
      obtain ⟨b, off, u, rfl, g1, g2, g3⟩ := HR.out k ((t.1 : Int), nz t.2) (by simp [ht])
      have k1 := (hB.cell (World.block_lt_of_cell? w _ g1)).trans g1
      have k2 := (hB.cell (World.block_lt_of_cell? w _ g2)).trans g2
      obtain ⟨EA, ec, hu, k4, _⟩ := g3
      rw [nz_length, htx.1] at hu
      subst hu
      obtain ⟨x, hxv⟩ : ∃ x, t.2[v]? = some x := ⟨_, List.getElem?_eq_getElem (by rw [htx.1]; exact hv)⟩
      obtain ⟨a, rfl, hc⟩ := k4 v _ (nz_at hxv)
      have hb1 := below1 wr (.cells #[.int .i64 (t.1 : Int), .slice (some a) n ec] 144)
      have hc1 := ((hB.trans (hb1.mono hB.size)).cell (World.block_lt_of_cell? w _ hc)).trans hc
      have HB1 := Lib.hid (hB.trans (hb1.mono hB.size))
      have HTK := Lib.hid (hiP_take (v := v) ht)
      rw [hxv] at HTK
      simp only [Option.getD_some] at HTK
      have hxx := htx.2 x (List.mem_of_getElem? hxv)
      clear g1 g2 k4 ht htx hB hb1 hc hxv
      go_wp2_with fail
      go_roundw
      case rel => exact ⟨k + 1, by omega, by go_num, by rw [HTK.out]; congr 1; omega, HB1.out⟩
      case measure => simp [intOf]; omega
    · have hkl : p.take k = p := List.take_of_length_le (by omega)
      have HKL := Lib.hid hkl
      clear hkl hB
      go_wp2_with fail
      go_ret
      exact ⟨by rw [HKL.out]; rfl, HB.out⟩

def fitB (p p' : List Tm) (n : Nat) : Bool := (List.range n).all fun v => decide (hiP p v + hiP p' v ≤ 65535)
theorem fitB_yes {p p' : List Tm} {n : Nat} (h : fitB p p' n = true) {v : Nat} (hv : v < n) : hiP p v + hiP p' v ≤ 65535 := by
  unfold fitB at h
  rw [List.all_eq_true] at h
  simpa using h v (List.mem_range.2 hv)
theorem fitB_no {p p' : List Tm} {n v : Nat} (hv : v < n) (h : ¬ hiP p v + hiP p' v ≤ 65535) : fitB p p' n = false := by
  cases hf : fitB p p' n with
  | false => rfl
  | true => exact absurd (fitB_yes hf hv) h

set_option maxRecDepth 100000 in
set_option maxHeartbeats 2000000 in
theorem powersFit_ok (P M q n : Nat) (hn : n ≤ 80) (VA VB : Option Addr) (VC VD : Nat) (p p' : List Tm) (hx : ∀ t ∈ p, Ex n t.2) (hx' : ∀ t ∈ p', Ex n t.2) (hlen : p.length ≤ 20000) (hlen' : p'.length ≤ 20000) (w : World) (hr : RdP w VA (tms p)) (hr' : RdP w VB (tms p')) :
    Calls Tryz.prog 194 #[rg P M q n, .slice VA p.length VC, .slice VB p'.length VD] w fun e w' => e = .returned (.bool (fitB p p' n)) ∧ Below w.heap.size w w' := by
  have hb0 := below1 w (.cells #[.int .i64 (P : Int), .int .i64 (M : Int), .int .i64 (q : Int), .int .i64 (n : Int)] 163)
  have HB0 := Lib.hid hb0
  have H1 := Lib.hid (fun v (hv : v < n) W (hW : Below w.heap.size w W) => highest_ok n v hv hn VA VC p hx hlen W (hr.below hW))
  have H2 := Lib.hid (fun v (hv : v < n) W (hW : Below w.heap.size w W) => highest_ok n v hv hn VB VD p' hx' hlen' W (hr'.below hW))
  have HLE := Lib.hid (show ∀ v, hiP p v ≤ 65535 ∧ hiP p' v ≤ 65535 from fun v => ⟨hiP_le hx, hiP_le hx'⟩)
  clear hr hr' hx hx' hb0
  unfold rg
  go_enter Tryz.func194, Tryz.ntmps194
  go_wp2_with fail
  go_loopw [7, 10] (fun _ iv W => ∃ k : Nat, k ≤ n ∧ iv = .int .i64 k ∧ (∀ v, v < k → hiP p v + hiP p' v ≤ 65535) ∧ Below w.heap.size w W) (fun _ iv _ => n - (intOf iv).toNat)
  case atStart => exact ⟨0, by omega, rfl, fun v hv => absurd hv (Nat.not_lt_zero _), HB0.out⟩
  case round =>
    obtain ⟨k, hk, rfl, hall, hB⟩ := hrel
    have HALL := Lib.hid hall
    have HB := Lib.hid hB
    clear hall hB
    by_cases hlt : k < n
    · have hc1 := H1.out k hlt wr HB.out
      have HC1 := Lib.hid hc1
      have hle := HLE.out k
      clear hc1
      go_wp2_with fail
      refine HC1.out.mono ?_
      rintro e w1 ⟨rfl, hB1⟩
      have hb1 := HB.out.trans (hB1.mono HB.out.size)
      have HB1 := Lib.hid hb1
      have HC2 := Lib.hid (H2.out k hlt w1 hb1)
      clear hb1 hB1
      go_wp2_with fail
      refine HC2.out.mono ?_
      rintro e w2 ⟨rfl, hB2⟩
      have HB2 := Lib.hid (HB1.out.trans (hB2.mono HB1.out.size))
      clear hB2
      by_cases hfit : hiP p k + hiP p' k ≤ 65535
      · have d1 : decide ((65535 : Int) < (hiP p k : Int) + (hiP p' k : Int)) = false := decide_eq_false (by omega)
        have HN : Hid (∀ v, v < k + 1 → hiP p v + hiP p' v ≤ 65535) := Lib.hid (fun v hv => (Nat.lt_or_ge v k).elim (HALL.out v) (fun h => by rw [show v = k by omega]; exact hfit))
        go_wp2_with fail
        go_roundw
        case rel => exact ⟨k + 1, by omega, by go_num, HN.out, HB2.out⟩
        case measure => simp [intOf]; omega
      · have d1 : decide ((65535 : Int) < (hiP p k : Int) + (hiP p' k : Int)) = true := decide_eq_true (by omega)
        have HF := Lib.hid (fitB_no (p := p) (p' := p') hlt hfit)
        go_wp2_with fail
        go_ret
        exact ⟨by rw [HF.out]; rfl, HB2.out⟩
    · have hkn : k = n := by omega
      have HF : Hid (fitB p p' n = true) := Lib.hid (by
        unfold fitB
        rw [List.all_eq_true]
        intro v hv
        simpa using HALL.out v (by rw [hkn]; exact List.mem_range.1 hv))
      clear hkn
      go_wp2_with fail
      go_ret
      exact ⟨by rw [HF.out]; rfl, HB.out⟩
end Go.Proofs.YtopbfgkfpgnalaaGreatDoor
