/-
  Joined from Fmr, Fms, Fmt, Fmu, Fmv, Fmw: see there.
-/
import Derived.Test.YtfmcofphidnpdaaGreatDoorUh
namespace Go.Proofs.YtfmcofphidnpdaaGreatDoor
set_option linter.unusedVariables false
open Go.RowKit Go.Maps

set_option maxHeartbeats 1000000 in
theorem mulElements_one (P M q n : Nat) (b : Int) (w : World) :
    Calls Tryz.prog 156 #[rg P M q n, .int .i64 1, .int .i64 b] w fun e w' => e = .returned (.int .i64 b) ∧ Below w.heap.size w w' := by
  have HB := Lib.hid (below1 w (.cells #[.int .i64 (P : Int), .int .i64 (M : Int), .int .i64 (q : Int), .int .i64 (n : Int)] 163))
  unfold rg
  go_enter Tryz.func156, Tryz.ntmps156
  go_wp2_with fail
  go_ret
  exact ⟨rfl, HB.out⟩

/-- A sum while terms are added. -/
structure SmR (w0 : World) (sb mb kb P M q n : Nat) (ts : List Tm) (W : World) : Prop where
  bel : Below w0.heap.size w0 W
  sum : ∃ D, SumAt w0.heap.size sb mb kb P M q n ts.length D W ∧ Tells n (addN P M) ts D
theorem SmR.below {w0 W W' : World} {sb mb kb P M q n : Nat} {ts : List Tm} (h : SmR w0 sb mb kb P M q n ts W) (hB : Below W.heap.size W W') : SmR w0 sb mb kb P M q n ts W' := by
  obtain ⟨D, h1, h2⟩ := h.sum
  exact ⟨h.bel.trans (hB.mono h.bel.size), D, h1.below hB, h2⟩
theorem SmR.added {w0 W W' : World} {sb mb kb P M q n : Nat} {ts : List Tm} (h : SmR w0 sb mb kb P M q n ts W) {t : Tm} {D' : DataW Unit} (hs : SumAt w0.heap.size sb mb kb P M q n (ts.length + 1) D' W') (hT : Tells n (addN P M) (ts ++ [t]) D') (hO : Only (fun g => g = mb ∨ g = kb) W W') : SmR w0 sb mb kb P M q n (ts ++ [t]) W' := by
  obtain ⟨D, h1, h2⟩ := h.sum
  exact ⟨h.bel.trans (hO.below h.bel.size fun k hk => by rcases hk with rfl | rfl; exact h1.lm; exact h1.lk), D', by simpa using hs, hT⟩
theorem SmR.ring {w0 W : World} {sb mb kb P M q n : Nat} {ts : List Tm} (h : SmR w0 sb mb kb P M q n ts W) : W.cell? ⟨sb, 0, none⟩ = some (.int .i64 (P : Int)) ∧ W.cell? ⟨sb, 1, none⟩ = some (.int .i64 (M : Int)) ∧ W.cell? ⟨sb, 2, none⟩ = some (.int .i64 (q : Int)) ∧ W.cell? ⟨sb, 3, none⟩ = some (.int .i64 (n : Int)) := by
  obtain ⟨D, h1, _⟩ := h.sum
  refine ⟨?_, ?_, ?_, ?_⟩ <;> simp [World.cell?, h1.rcd, sumO]

set_option maxRecDepth 100000 in
set_option maxHeartbeats 4000000 in
theorem addMul1_ok (w0 : World) (hL : Lays w0) (sb mb kb P M q n : Nat) (hf : Fld P M q) (hn : n ≤ 80) (hn0 : 0 < n) (VA : Option Addr) (VC : Nat) (p : List Tm) (hr : RdP w0 VA (tms p)) (hp : Ris q n p) (hx : ∀ t ∈ p, Ex n t.2) (hlen : p.length ≤ 20000) (ts : List Tm) (hcl : CoLt q ts) (htl : ts.length ≤ 1000000) (w : World) (hS : SmR w0 sb mb kb P M q n ts w) :
    Calls Tryz.prog 168 #[.pointer (some ⟨sb, 0, none⟩), .int .i64 1, .slice VA p.length VC] w fun r w' => r = .returned (.tuple #[]) ∧ SmR w0 sb mb kb P M q n (ts ++ p) w' := by
  have HL := Lib.hid hL
  have HR := Lib.hid hr
  have HP := Lib.hid hp
  have HX := Lib.hid hx
  have HCL := Lib.hid hcl
  have HS := Lib.hid hS
  have HM := Lib.hid (fun b W => mulElements_one P M q n b W)
  unfold rg at HM
  clear hL hr hp hx hcl hS
  go_enter Tryz.func168, Tryz.ntmps168
  go_wp2_with fail
  go_loopw [7, 10] (fun _ iv W => ∃ k : Nat, k ≤ p.length ∧ iv = .int .i64 k ∧ SmR w0 sb mb kb P M q n (ts ++ p.take k) W) (fun _ iv _ => p.length - (intOf iv).toNat)
  case atStart => exact ⟨0, by omega, rfl, by simpa using HS.out⟩
  case round =>
    clear HS
    obtain ⟨k, hk, rfl, hS⟩ := hrel
    have HSK := Lib.hid hS
    by_cases hlt : k < p.length
    · obtain ⟨t, ht⟩ : ∃ t, p[k]? = some t := ⟨_, List.getElem?_eq_getElem hlt⟩
      have htx := HX.out t (List.mem_of_getElem? ht)
      have htc := HP.out.co t (List.mem_of_getElem? ht)
      obtain ⟨b, off, u, rfl, g1, g2, g3⟩ := HR.out k ((t.1 : Int), nz t.2) (by simp [ht])
      have k1 := (hS.bel.cell (World.block_lt_of_cell? w0 _ g1)).trans g1
      have k2 := (hS.bel.cell (World.block_lt_of_cell? w0 _ g2)).trans g2
      obtain ⟨EA, ec, hu, k4, _⟩ := g3
      rw [nz_length, htx.1] at hu
      subst hu
      have hne : ∀ a, EA = some a → a.block < w0.heap.size := fun a ha => by
        obtain ⟨x0, hx0⟩ : ∃ x, t.2[0]? = some x := ⟨_, List.getElem?_eq_getElem (by rw [htx.1]; exact hn0)⟩
        obtain ⟨a', e, hc⟩ := k4 0 _ (nz_at hx0)
        rw [ha] at e
        cases e
        have := World.block_lt_of_cell? w0 _ hc
        simpa [Addr.add] using this
      have hb1 := below1 wr (.cells #[.int .i64 (t.1 : Int), .slice EA n ec] 144)
      have hS1 := hS.below hb1
      obtain ⟨r0, r1, r2, r3⟩ := hS1.ring
      have HS1 := Lib.hid hS1
      have HTK : Hid (ts ++ p.take (k + 1) = (ts ++ p.take k) ++ [t]) := Lib.hid (by rw [List.take_add_one, ht]; simp)
      have hcl2 : CoLt q (ts ++ p.take k) := fun x hx => by
        rcases List.mem_append.1 hx with h | h
        · exact HCL.out x h
        · exact (HP.out.co x (List.mem_of_mem_take h)).2
      have HCL2 := Lib.hid hcl2
      have HADD := Lib.hid (fun W (hS : SmR w0 sb mb kb P M q n (ts ++ p.take k) W) => by
        obtain ⟨D, s1, s2⟩ := hS.sum
        have hri : RdI W EA (nz t.2) := fun j x hj => by
          obtain ⟨a, e, hc⟩ := k4 j x hj
          exact ⟨a, e, (hS.bel.cell (World.block_lt_of_cell? w0 _ hc)).trans hc⟩
        have h := add_ok w0 W HL.out hS.bel sb mb kb P M q n _ hf hn D (ts ++ p.take k) t.1 htc.2 EA ec t.2 htx s1 s2 HCL2.out (by simp; omega) hri (fun a ha => by have h1 := hne a ha; have h2 := s1.lk; omega)
        exact h.mono (fun r W' ⟨h1, D', h2, h3, h4⟩ => (⟨h1, hS.added h2 h3 h4⟩ : r = Ending.returned (.tuple #[]) ∧ SmR w0 sb mb kb P M q n ((ts ++ p.take k) ++ [(t.1, t.2)]) W')))
      clear g1 g2 k4 ht htx htc hS hb1 hS1 hne hcl2
      obtain ⟨j0, j1⟩ := (show (wr.alloc (.cells #[.int .i64 (t.1 : Int), .slice EA n ec] 144)).cell? ⟨wr.heap.size, 0, none⟩ = some (.int .i64 (t.1 : Int)) ∧ (wr.alloc (.cells #[.int .i64 (t.1 : Int), .slice EA n ec] 144)).cell? ⟨wr.heap.size, 1, none⟩ = some (.slice EA n ec) from ⟨World.cell?_alloc_new _ _ _ 0, World.cell?_alloc_new _ _ _ 1⟩)
      go_wp2_with fail
      generalize wr.alloc (.cells #[.int .i64 (t.1 : Int), .slice EA n ec] 144) = wq at *
      go_region_law (first
        | (go_simp; (with_reducible refine (HM.out (t.1 : Int) wq.drew).mono ?_); rintro e wa ⟨rfl, hBa⟩; have hba := ((Below.refl wq.heap.size wq).drew).trans (hBa.mono (Nat.le_refl _)); have jj := (hba.cell (World.block_lt_of_cell? wq _ j1)).trans j1)
        | (have hsa := HS1.out.below hba; go_simp; (with_reducible refine (HADD.out wa hsa).mono ?_); rintro e wb ⟨rfl, hSb⟩))
      all_goals
        rw [← HTK.out] at hSb
        have HSB := Lib.hid hSb
        clear hSb
        go_wp2_with fail
        go_roundw
        case rel => exact ⟨k + 1, by omega, by go_num, HSB.out⟩
        case measure => simp [intOf]; omega
    · have hkl : p.take k = p := List.take_of_length_le (by omega)
      have HF := Lib.hid (show SmR w0 sb mb kb P M q n (ts ++ p) wr by have h := HSK.out; rw [hkl] at h; exact h)
      clear hkl hS
      go_wp2_with fail
      go_end0
      exact ⟨rfl, HF.out⟩
end Go.Proofs.YtfmcofphidnpdaaGreatDoor
namespace Go.Proofs.YtfmcofphidnpdaaGreatDoor
set_option linter.unusedVariables false
open Go.RowKit Go.Maps

theorem Ris.lt2 {q n : Nat} {p p' : List Tm} (h : Ris q n p) (h' : Ris q n p') : CoLt q (p ++ p') := fun x hx => by
  rcases List.mem_append.1 hx with h1 | h1
  · exact (h.co x h1).2
  · exact (h'.co x h1).2

set_option maxRecDepth 100000 in
set_option maxHeartbeats 4000000 in
theorem PAdd_ok (P M q n : Nat) (hf : Fld P M q) (hn : n ≤ 80) (hn0 : 0 < n) (VA VB : Option Addr) (VC VD : Nat) (p p' : List Tm) (w : World) (hL : Lays w) (hr : RdP w VA (tms p)) (hr' : RdP w VB (tms p')) (hp : Ris q n p) (hp' : Ris q n p') (hx : ∀ t ∈ p, Ex n t.2) (hx' : ∀ t ∈ p', Ex n t.2) (hlen : p.length ≤ 20000) (hlen' : p'.length ≤ 20000) :
    Calls Tryz.prog 140 #[.agg #[.int .i64 (P : Int), .int .i64 (M : Int)], .int .i64 (n : Int), .slice VA p.length VC, .slice VB p'.length VD] w (PolyRes q n (addN P M) (p ++ p') w) := by
  have hB2 := below2 w (.cells #[.int .i64 (P : Int), .int .i64 (M : Int)] 49) (.cells #[.slice VA p.length VC, .slice VB p'.length VD] 67)
  have hv : PolyV w (.slice VA p.length VC) (tms p) := ⟨VA, VC, by simp, hr, by simp; omega⟩
  have hv' : PolyV w (.slice VB p'.length VD) (tms p') := ⟨VB, VD, by simp, hr', by simp; omega⟩
  have hO := open_yes1 P M q n hf hn (some ⟨w.heap.size + 1, 0, none⟩) 2 2 [tms p, tms p'] rfl (by omega) _ (hL.below hB2) (rdps_two (snd_cell _ _ _ _ 0) (snd_cell _ _ _ _ 1) (hv.below hB2) (hv'.below hB2)) (fun x hx2 => by
    simp at hx2
    rcases hx2 with rfl | rfl
    · exact ⟨by simpa using hlen, p, rfl, hp, hx⟩
    · exact ⟨by simpa using hlen', p', rfl, hp', hx'⟩)
  have HO := Lib.hid hO
  have HB2 := Lib.hid hB2
  have HNS := Lib.hid (fun W => newSum_ok P M q n hn W)
  have HA1 := Lib.hid (fun sb mb kb W hS => addMul1_ok w hL sb mb kb P M q n hf hn hn0 VA VC p hr hp hx hlen [] (fun x hx => by simp at hx) (by simp) W hS)
  have HA2 := Lib.hid (fun sb mb kb W hS => addMul1_ok w hL sb mb kb P M q n hf hn hn0 VB VD p' hr' hp' hx' hlen' p (fun x hx => (hp.co x hx).2) (by omega) W hS)
  have HC2 := Lib.hid (hp.lt2 hp')
  have HPL := Lib.hid (And.intro hlen hlen')
  clear hO hB2 hL hp hp' hx hx' hr hr' hv hv'
  go_enter Tryz.func140, Tryz.ntmps140
  go_wp2_with fail
  refine HO.out.mono ?_
  rintro e w1 ⟨rfl, hB1⟩
  have HB3 := Lib.hid (HB2.out.trans (hB1.mono HB2.out.size))
  clear HB2 hB1
  go_wp2_with fail
  refine (HNS.out _).mono ?_
  rintro e w2 ⟨sb, mb, kb, rfl, hS, hB4⟩
  have hb1 : Below w.heap.size w (w1.alloc (rgO P M q n)) := HB3.out.alloc HB3.out.size _
  have hle : w.heap.size ≤ (w1.alloc (rgO P M q n)).heap.size := hb1.size
  have hs2 : SmR w sb mb kb P M q n [] w2 := ⟨hb1.trans (hB4.mono hle), _, ⟨hS.rcd, hS.key, hS.map, Nat.le_trans hle hS.ls, Nat.le_trans hle hS.lm, Nat.le_trans hle hS.lk⟩, Tells.empty _ _⟩
  have H1 := Lib.hid (HA1.out sb mb kb w2 hs2)
  clear hb1 hle hs2 hS hB4
  go_wp2_with fail
  refine H1.out.mono ?_
  rintro e w3 ⟨rfl, hs3⟩
  rw [List.nil_append] at hs3
  have H2 := Lib.hid (HA2.out sb mb kb w3 hs3)
  clear hs3
  go_wp2_with fail
  refine H2.out.mono ?_
  rintro e w4 ⟨rfl, hs4⟩
  obtain ⟨D, hs, hT⟩ := hs4.sum
  have hpo := poly_ok w w4 sb mb kb P M q n _ hf hn D (p ++ p') hs hT HC2.out (by have := HPL.out; simp; omega)
  have HPO := Lib.hid hpo
  have HLM := Lib.hid (And.intro hs4.bel hs.lm)
  clear hpo hs hT hs4
  go_wp2_with fail
  refine HPO.out.mono ?_
  rintro e w5 ⟨hO3, r, h1, h2, h3, h4, h5⟩
  have HB := Lib.hid (HLM.out.1.trans (hO3.below HLM.out.1.size fun k hk => by
    have hk' : k = mb := hk
    rw [hk']; exact HLM.out.2))
  have H1' := Lib.hid h1
  have H2' := Lib.hid h2
  have H3' := Lib.hid h3
  have H4' := Lib.hid h4
  rcases h5 with ⟨h7, A', c, rfl, h6⟩ | ⟨h7, rfl⟩
  · have H6 := Lib.hid h6
    have H7 := Lib.hid h7
    clear h1 h2 h3 h4 h6 h7 hO3
    go_wp2_with fail
    refine (sized_yes _ _).mono ?_
    rintro e w6 ⟨rfl, rfl⟩
    go_wp2_with fail
    go_ret2
    exact ⟨HB.out, r, H1'.out, H2'.out, H3'.out, H4'.out, .inl ⟨H7.out, A', c, rfl, H6.out⟩⟩
  · have H7 := Lib.hid h7
    clear h1 h2 h3 h4 h7 hO3
    go_wp2_with fail
    refine (sized_no _ _).mono ?_
    rintro e w6 ⟨rfl, rfl⟩
    go_wp2_with fail
    go_ret2
    exact ⟨HB.out, r, H1'.out, H2'.out, H3'.out, H4'.out, .inr ⟨H7.out, rfl⟩⟩
end Go.Proofs.YtfmcofphidnpdaaGreatDoor
namespace Go.Proofs.YtfmcofphidnpdaaGreatDoor
set_option linter.unusedVariables false
open Go.RowKit Go.Maps

def hiP (p : List Tm) (v : Nat) : Nat := p.foldl (fun m t => max m (t.2[v]?.getD 0)) 0
theorem foldl_max_ge (v : Nat) : ∀ (p : List Tm) (m : Nat), m ≤ p.foldl (fun m t => max m (t.2[v]?.getD 0)) m ∧ ∀ t ∈ p, t.2[v]?.getD 0 ≤ p.foldl (fun m t => max m (t.2[v]?.getD 0)) m
  | [], m => ⟨Nat.le_refl _, fun t ht => by simp at ht⟩
  | t :: p, m => by
    obtain ⟨h1, h2⟩ := foldl_max_ge v p (max m (t.2[v]?.getD 0))
    rw [List.foldl_cons]
    refine ⟨by omega, fun u hu => ?_⟩
    rcases List.mem_cons.1 hu with rfl | hu
    · omega
    · exact h2 u hu
theorem hiP_ge {p : List Tm} {v : Nat} {t : Tm} (h : t ∈ p) : t.2[v]?.getD 0 ≤ hiP p v := (foldl_max_ge v p 0).2 t h
theorem foldl_max_le (v b : Nat) : ∀ (p : List Tm) (m : Nat), m ≤ b → (∀ t ∈ p, t.2[v]?.getD 0 ≤ b) → p.foldl (fun m t => max m (t.2[v]?.getD 0)) m ≤ b
  | [], m, hm, _ => hm
  | t :: p, m, hm, h => by
    rw [List.foldl_cons]
    exact foldl_max_le v b p _ (by have := h t (by simp); omega) (fun u hu => h u (by simp [hu]))
theorem hiP_le {p : List Tm} {n v : Nat} (hx : ∀ t ∈ p, Ex n t.2) : hiP p v ≤ 65535 :=
  foldl_max_le v 65535 p 0 (by omega) (fun t ht => by
    cases h : t.2[v]? with
    | none => simp
    | some x => exact (hx t ht).2 x (List.mem_of_getElem? h))
theorem hiP_take {p : List Tm} {k v : Nat} {t : Tm} (h : p[k]? = some t) : hiP (p.take (k + 1)) v = max (hiP (p.take k) v) (t.2[v]?.getD 0) := by
  simp [hiP, List.take_add_one, h]

set_option maxRecDepth 100000 in
set_option maxHeartbeats 2000000 in
theorem highest_ok (n v : Nat) (hv : v < n) (hn : n ≤ 80) (VA : Option Addr) (VC : Nat) (p : List Tm) (hx : ∀ t ∈ p, Ex n t.2) (hlen : p.length ≤ 20000) (w : World) (hr : RdP w VA (tms p)) :
    Calls Tryz.prog 234 #[.slice VA p.length VC, .int .i64 (v : Int)] w fun e w' => e = .returned (.int .i64 (hiP p v : Nat)) ∧ Below w.heap.size w w' := by
  have HR := Lib.hid hr
  have HX := Lib.hid hx
  clear hr hx
  go_enter Tryz.func234, Tryz.ntmps234
  go_wp2_with fail
  go_loopw [5, 7, 10] (fun ev _ iv W => ∃ k : Nat, k ≤ p.length ∧ iv = .int .i64 k ∧ ev = .int .i64 (hiP (p.take k) v : Nat) ∧ Below w.heap.size w W) (fun _ _ iv _ => p.length - (intOf iv).toNat)
  case atStart => exact ⟨0, by omega, rfl, rfl, Below.refl _ _⟩
  case round =>
    obtain ⟨k, hk, rfl, rfl, hB⟩ := hrel
    have HB := Lib.hid hB
    by_cases hlt : k < p.length
    · obtain ⟨t, ht⟩ : ∃ t, p[k]? = some t := ⟨_, List.getElem?_eq_getElem hlt⟩
      have htx := HX.out t (List.mem_of_getElem? ht)
      obtain ⟨b, off, u, rfl, g1, g2, g3⟩ := HR.out k ((t.1 : Int), nz t.2) (by simp [ht])
      have k1 := (hB.cell (World.block_lt_of_cell? w _ g1)).trans g1
      have k2 := (hB.cell (World.block_lt_of_cell? w _ g2)).trans g2
      obtain ⟨EA, ec, hu, k4, _⟩ := g3
      rw [nz_length, htx.1] at hu
      subst hu
      obtain ⟨x, hxv⟩ : ∃ x, t.2[v]? = some x := ⟨_, List.getElem?_eq_getElem (by rw [htx.1]; exact hv)⟩
      obtain ⟨a, rfl, hc⟩ := k4 v _ (nz_at hxv)
      have hb1 := below1 wr (.cells #[.int .i64 (t.1 : Int), .slice (some a) n ec] 144)
      have hc1 := ((hB.trans (hb1.mono hB.size)).cell (World.block_lt_of_cell? w _ hc)).trans hc
      have HB1 := Lib.hid (hB.trans (hb1.mono hB.size))
      have HTK := Lib.hid (hiP_take (v := v) ht)
      rw [hxv] at HTK
      simp only [Option.getD_some] at HTK
      have hxx := htx.2 x (List.mem_of_getElem? hxv)
      clear g1 g2 k4 ht htx hB hb1 hc hxv
      go_wp2_with fail
      go_roundw
      case rel => exact ⟨k + 1, by omega, by go_num, by rw [HTK.out]; congr 1; omega, HB1.out⟩
      case measure => simp [intOf]; omega
    · have hkl : p.take k = p := List.take_of_length_le (by omega)
      have HKL := Lib.hid hkl
      clear hkl hB
      go_wp2_with fail
      go_ret
      exact ⟨by rw [HKL.out]; rfl, HB.out⟩

def fitB (p p' : List Tm) (n : Nat) : Bool := (List.range n).all fun v => decide (hiP p v + hiP p' v ≤ 65535)
theorem fitB_yes {p p' : List Tm} {n : Nat} (h : fitB p p' n = true) {v : Nat} (hv : v < n) : hiP p v + hiP p' v ≤ 65535 := by
  unfold fitB at h
  rw [List.all_eq_true] at h
  simpa using h v (List.mem_range.2 hv)
theorem fitB_no {p p' : List Tm} {n v : Nat} (hv : v < n) (h : ¬ hiP p v + hiP p' v ≤ 65535) : fitB p p' n = false := by
  cases hf : fitB p p' n with
  | false => rfl
  | true => exact absurd (fitB_yes hf hv) h

set_option maxRecDepth 100000 in
set_option maxHeartbeats 2000000 in
theorem powersFit_ok (P M q n : Nat) (hn : n ≤ 80) (VA VB : Option Addr) (VC VD : Nat) (p p' : List Tm) (hx : ∀ t ∈ p, Ex n t.2) (hx' : ∀ t ∈ p', Ex n t.2) (hlen : p.length ≤ 20000) (hlen' : p'.length ≤ 20000) (w : World) (hr : RdP w VA (tms p)) (hr' : RdP w VB (tms p')) :
    Calls Tryz.prog 215 #[rg P M q n, .slice VA p.length VC, .slice VB p'.length VD] w fun e w' => e = .returned (.bool (fitB p p' n)) ∧ Below w.heap.size w w' := by
  have hb0 := below1 w (.cells #[.int .i64 (P : Int), .int .i64 (M : Int), .int .i64 (q : Int), .int .i64 (n : Int)] 163)
  have HB0 := Lib.hid hb0
  have H1 := Lib.hid (fun v (hv : v < n) W (hW : Below w.heap.size w W) => highest_ok n v hv hn VA VC p hx hlen W (hr.below hW))
  have H2 := Lib.hid (fun v (hv : v < n) W (hW : Below w.heap.size w W) => highest_ok n v hv hn VB VD p' hx' hlen' W (hr'.below hW))
  have HLE := Lib.hid (show ∀ v, hiP p v ≤ 65535 ∧ hiP p' v ≤ 65535 from fun v => ⟨hiP_le hx, hiP_le hx'⟩)
  clear hr hr' hx hx' hb0
  unfold rg
  go_enter Tryz.func215, Tryz.ntmps215
  go_wp2_with fail
  go_loopw [7, 10] (fun _ iv W => ∃ k : Nat, k ≤ n ∧ iv = .int .i64 k ∧ (∀ v, v < k → hiP p v + hiP p' v ≤ 65535) ∧ Below w.heap.size w W) (fun _ iv _ => n - (intOf iv).toNat)
  case atStart => exact ⟨0, by omega, rfl, fun v hv => absurd hv (Nat.not_lt_zero _), HB0.out⟩
  case round =>
    obtain ⟨k, hk, rfl, hall, hB⟩ := hrel
    have HALL := Lib.hid hall
    have HB := Lib.hid hB
    clear hall hB
    by_cases hlt : k < n
    · have hc1 := H1.out k hlt wr HB.out
      have HC1 := Lib.hid hc1
      have hle := HLE.out k
      clear hc1
      go_wp2_with fail
      refine HC1.out.mono ?_
      rintro e w1 ⟨rfl, hB1⟩
      have hb1 := HB.out.trans (hB1.mono HB.out.size)
      have HB1 := Lib.hid hb1
      have HC2 := Lib.hid (H2.out k hlt w1 hb1)
      clear hb1 hB1
      go_wp2_with fail
      refine HC2.out.mono ?_
      rintro e w2 ⟨rfl, hB2⟩
      have HB2 := Lib.hid (HB1.out.trans (hB2.mono HB1.out.size))
      clear hB2
      by_cases hfit : hiP p k + hiP p' k ≤ 65535
      · have d1 : decide ((65535 : Int) < (hiP p k : Int) + (hiP p' k : Int)) = false := decide_eq_false (by omega)
        have HN : Hid (∀ v, v < k + 1 → hiP p v + hiP p' v ≤ 65535) := Lib.hid (fun v hv => (Nat.lt_or_ge v k).elim (HALL.out v) (fun h => by rw [show v = k by omega]; exact hfit))
        go_wp2_with fail
        go_roundw
        case rel => exact ⟨k + 1, by omega, by go_num, HN.out, HB2.out⟩
        case measure => simp [intOf]; omega
      · have d1 : decide ((65535 : Int) < (hiP p k : Int) + (hiP p' k : Int)) = true := decide_eq_true (by omega)
        have HF := Lib.hid (fitB_no (p := p) (p' := p') hlt hfit)
        go_wp2_with fail
        go_ret
        exact ⟨by rw [HF.out]; rfl, HB2.out⟩
    · have hkn : k = n := by omega
      have HF : Hid (fitB p p' n = true) := Lib.hid (by
        unfold fitB
        rw [List.all_eq_true]
        intro v hv
        simpa using HALL.out v (by rw [hkn]; exact List.mem_range.1 hv))
      clear hkn
      go_wp2_with fail
      go_ret
      exact ⟨by rw [HF.out]; rfl, HB.out⟩
end Go.Proofs.YtfmcofphidnpdaaGreatDoor
namespace Go.Proofs.YtfmcofphidnpdaaGreatDoor
set_option linter.unusedVariables false
open Go.RowKit Go.Maps

def addE (a b : List Nat) : List Nat := List.zipWith (· + ·) a b
def prT (P M : Nat) (t : Tm) (p' : List Tm) : List Tm := p'.map fun u => (mulN P M t.1 u.1, addE t.2 u.2)
theorem addE_length {n : Nat} {a b : List Nat} (ha : a.length = n) (hb : b.length = n) : (addE a b).length = n := by simp [addE, ha, hb]
theorem addE_at {a b : List Nat} {j x y : Nat} (ha : a[j]? = some x) (hb : b[j]? = some y) : (addE a b)[j]? = some (x + y) := by
  simp [addE, List.getElem?_zipWith, ha, hb]
theorem SmR.lts {w0 W : World} {sb mb kb P M q n : Nat} {ts : List Tm} (h : SmR w0 sb mb kb P M q n ts W) : (sb < W.heap.size ∧ mb < W.heap.size ∧ kb < W.heap.size) ∧ w0.heap.size ≤ mb ∧ w0.heap.size ≤ kb := by
  obtain ⟨D, h1, _⟩ := h.sum
  exact ⟨h1.lts, h1.lm, h1.lk⟩
theorem SmR.put {w0 W : World} {sb mb kb P M q n : Nat} {ts : List Tm} (h : SmR w0 sb mb kb P M q n ts W) {ge j : Nat} (hg : w0.heap.size ≤ ge) (h1 : ge ≠ sb) (h2 : ge ≠ mb) (h3 : ge ≠ kb) (x : Value) : SmR w0 sb mb kb P M q n ts (W.setCell ⟨ge, j, none⟩ x) := by
  obtain ⟨D, s1, s2⟩ := h.sum
  exact ⟨h.bel.setCell (p := ⟨ge, j, none⟩) hg x, D, s1.same (heap_setCell_other _ _ _ _ (by show sb ≠ ge; omega)) (heap_setCell_other _ _ _ _ (by show mb ≠ ge; omega)) (heap_setCell_other _ _ _ _ (by show kb ≠ ge; omega)), s2⟩

/-- The state of addProduct: the sum, the exponents, the term's box. -/
structure PrR (w0 : World) (sb mb kb ge tb P M q n : Nat) (ts : List Tm) (o : Obj) (W : World) : Prop where
  sm : SmR w0 sb mb kb P M q n ts W
  exps : ∃ xs : List Int, xs.length = n ∧ W.heap[ge]? = some (intsO xs)
  box : W.heap[tb]? = some o
theorem PrR.below {w0 W W' : World} {sb mb kb ge tb P M q n : Nat} {ts : List Tm} {o : Obj} (h : PrR w0 sb mb kb ge tb P M q n ts o W) (hB : Below W.heap.size W W') : PrR w0 sb mb kb ge tb P M q n ts o W' := by
  obtain ⟨xs, h1, h2⟩ := h.exps
  exact ⟨h.sm.below hB, ⟨xs, h1, (hB.block _ (Array.getElem?_eq_some_iff.1 h2).1).trans h2⟩, (hB.block _ (Array.getElem?_eq_some_iff.1 h.box).1).trans h.box⟩

set_option maxRecDepth 100000 in
set_option maxHeartbeats 8000000 in
theorem addProduct_ok (w0 : World) (hL : Lays w0) (sb mb kb P M q n : Nat) (hf : Fld P M q) (hn : n ≤ 80) (hn0 : 0 < n) (t : Tm) (EA : Option Addr) (ec : Nat) (htx : Ex n t.2) (hte : RdI w0 EA (nz t.2)) (VA : Option Addr) (VC : Nat) (p : List Tm) (hr : RdP w0 VA (tms p)) (hx : ∀ u ∈ p, Ex n u.2) (hlen : p.length ≤ 20000)
    (hfit : ∀ u ∈ p, Ex n (addE t.2 u.2)) (hmq : ∀ u ∈ p, mulN P M t.1 u.1 < q)
    (hme : ∀ u ∈ p, ∀ W, Below w0.heap.size w0 W → Calls Tryz.prog 156 #[rg P M q n, .int .i64 (t.1 : Int), .int .i64 (u.1 : Int)] W fun e w' => e = .returned (.int .i64 (mulN P M t.1 u.1 : Nat)) ∧ Below W.heap.size W w')
    (ts : List Tm) (hcl : CoLt q ts) (htl : ts.length ≤ 2000000) (w : World) (hS : SmR w0 sb mb kb P M q n ts w) :
    Calls Tryz.prog 216 #[.pointer (some ⟨sb, 0, none⟩), .agg #[.int .i64 (t.1 : Int), .slice EA n ec], .slice VA p.length VC] w fun r w' => r = .returned (.tuple #[]) ∧ SmR w0 sb mb kb P M q n (ts ++ prT P M t p) w' := by
  have hmk := make_ints n (by omega)
  have hb1 := below1 w (.cells #[.int .i64 (t.1 : Int), .slice EA n ec] 144)
  have hb2 := hb1.trans ((below1 (w.alloc (.cells #[.int .i64 (t.1 : Int), .slice EA n ec] 144)) (intsO (List.replicate n 0))).mono hb1.size)
  obtain ⟨r0, r1, r2, r3⟩ := (hS.below hb1).ring
  have hst : PrR w0 sb mb kb (w.heap.size + 1) w.heap.size P M q n ts (.cells #[.int .i64 (t.1 : Int), .slice EA n ec] 144 (0, 0)) ((w.alloc (.cells #[.int .i64 (t.1 : Int), .slice EA n ec] 144)).alloc (intsO (List.replicate n 0))) :=
    ⟨hS.below hb2, ⟨_, by simp, alloc_at _ _ _ (by simp)⟩, alloc_old _ _ _ _ (alloc_at _ _ _ rfl)⟩
  have hlts := hS.lts
  have HST := Lib.hid hst
  have hszw := hS.bel.size
  have HAP := Lib.hid (show (w.heap.size + 1 ≠ sb ∧ w.heap.size + 1 ≠ mb ∧ w.heap.size + 1 ≠ kb) ∧ (w.heap.size ≠ sb ∧ w.heap.size ≠ mb ∧ w.heap.size ≠ kb) ∧ w0.heap.size ≤ w.heap.size ∧ w0.heap.size ≤ mb ∧ w0.heap.size ≤ kb by
    obtain ⟨⟨a1, a2, a3⟩, a4, a5⟩ := hlts
    omega)
  have HL := Lib.hid hL
  have HR := Lib.hid hr
  have HX := Lib.hid hx
  have HFIT := Lib.hid hfit
  have HMQ := Lib.hid hmq
  have HME := Lib.hid hme
  have HCL := Lib.hid hcl
  have HTX := Lib.hid htx
  have HTE := Lib.hid hte
  unfold rg at HME
  clear hL hr hx hfit hmq hme hcl hS hst hlts hb1 hb2 htx hte hszw
  go_enter Tryz.func216, Tryz.ntmps216
  go_wp2_with fail
  go_loopw [8, 9, 10, 19] (fun _ _ _ iv W => ∃ k : Nat, k ≤ p.length ∧ iv = .int .i64 k ∧ PrR w0 sb mb kb (w.heap.size + 1) w.heap.size P M q n (ts ++ prT P M t (p.take k)) (.cells #[.int .i64 (t.1 : Int), .slice EA n ec] 144 (0, 0)) W) (fun _ _ _ iv _ => p.length - (intOf iv).toNat)
  case atStart => exact ⟨0, by omega, rfl, by simpa [prT] using HST.out⟩
  case round =>
    clear HST
    obtain ⟨k, hk, rfl, hS⟩ := hrel
    have HSK := Lib.hid hS
    by_cases hlt : k < p.length
    · obtain ⟨u, hu⟩ : ∃ u, p[k]? = some u := ⟨_, List.getElem?_eq_getElem hlt⟩
      have hum := List.mem_of_getElem? hu
      have hux := HX.out u hum
      obtain ⟨b, off, uu, rfl, g1, g2, g3⟩ := HR.out k ((u.1 : Int), nz u.2) (by simp [hu])
      have k1 := (hS.sm.bel.cell (World.block_lt_of_cell? w0 _ g1)).trans g1
      have k2 := (hS.sm.bel.cell (World.block_lt_of_cell? w0 _ g2)).trans g2
      obtain ⟨EU, eu, huu, k4, _⟩ := g3
      rw [nz_length, hux.1] at huu
      subst huu
      have hb1 := below1 wr (.cells #[.int .i64 (u.1 : Int), .slice EU n eu] 144)
      have hS1 := hS.below hb1
      have hub : (wr.alloc (.cells #[.int .i64 (u.1 : Int), .slice EU n eu] 144)).heap[wr.heap.size]? = some (.cells #[.int .i64 (u.1 : Int), .slice EU n eu] 144 (0, 0)) := alloc_at _ _ _ rfl
      obtain ⟨xs, hxl, hxg⟩ := hS1.exps
      have HXL := Lib.hid hxl
      have HI := Lib.hid (show SmR w0 sb mb kb P M q n (ts ++ prT P M t (p.take k)) (wr.alloc (.cells #[.int .i64 (u.1 : Int), .slice EU n eu] 144)) ∧ (wr.alloc (.cells #[.int .i64 (u.1 : Int), .slice EU n eu] 144)).heap[w.heap.size + 1]? = some (intsO (mixI xs id (addE t.2 u.2) 0)) ∧ (wr.alloc (.cells #[.int .i64 (u.1 : Int), .slice EU n eu] 144)).heap[w.heap.size]? = some (.cells #[.int .i64 (t.1 : Int), .slice EA n ec] 144 (0, 0)) ∧ (wr.alloc (.cells #[.int .i64 (u.1 : Int), .slice EU n eu] 144)).heap[wr.heap.size]? = some (.cells #[.int .i64 (u.1 : Int), .slice EU n eu] 144 (0, 0)) by
        rw [mixI_zero]; exact ⟨hS1.sm, hxg, hS1.box, hub⟩)
      have hwsz : w.heap.size + 1 < wr.heap.size := by
        obtain ⟨xs, _, h⟩ := hS.exps
        exact (Array.getElem?_eq_some_iff.1 h).1
      have HWSZ := Lib.hid hwsz
      have HK4 := Lib.hid k4
      have HU := Lib.hid (And.intro hu (And.intro hum hux))
      have HADDL := Lib.hid (addE_length HTX.out.1 hux.1)
      clear hu hum hux g1 g2 k4 hb1 hS1 hub hxl hxg hwsz hS
      obtain ⟨wo, rfl⟩ : ∃ wo : World, wo = wr := ⟨_, rfl⟩
      go_wp2_with fail
      go_loopw [9, 10, 26] (fun _ _ jv W => ∃ j : Nat, j ≤ n ∧ jv = .int .i64 j ∧ SmR w0 sb mb kb P M q n (ts ++ prT P M t (p.take k)) W ∧ W.heap[w.heap.size + 1]? = some (intsO (mixI xs id (addE t.2 u.2) j)) ∧ W.heap[w.heap.size]? = some (.cells #[.int .i64 (t.1 : Int), .slice EA n ec] 144 (0, 0)) ∧ W.heap[wo.heap.size]? = some (.cells #[.int .i64 (u.1 : Int), .slice EU n eu] 144 (0, 0))) (fun _ _ jv _ => n - (intOf jv).toNat)
      case atStart => exact ⟨0, by omega, rfl, HI.out⟩
      case round =>
        clear HI k1 k2
        obtain ⟨j, hj, rfl, hS, hxg, htb, hub⟩ := hrel
        have HSJ := Lib.hid (And.intro hS (And.intro hxg (And.intro htb hub)))
        by_cases hjn : j < n
        · obtain ⟨x, hxt⟩ : ∃ x, t.2[j]? = some x := ⟨_, List.getElem?_eq_getElem (by rw [HTX.out.1]; exact hjn)⟩
          obtain ⟨y, hyu⟩ : ∃ y, u.2[j]? = some y := ⟨_, List.getElem?_eq_getElem (by rw [HU.out.2.2.1]; exact hjn)⟩
          obtain ⟨a1, rfl, q1⟩ := HTE.out j _ (nz_at hxt)
          obtain ⟨a2, rfl, q2⟩ := HK4.out j _ (nz_at hyu)
          have s1 := (hS.bel.cell (World.block_lt_of_cell? w0 _ q1)).trans q1
          have s2 := (hS.bel.cell (World.block_lt_of_cell? w0 _ q2)).trans q2
          have hxx := HTX.out.2 x (List.mem_of_getElem? hxt)
          have hyy := HU.out.2.2.2 y (List.mem_of_getElem? hyu)
          have hml := mixI_length (f := id) HXL.out HADDL.out (Nat.le_of_lt hjn)
          obtain ⟨z, hz⟩ : ∃ z, (mixI xs id (addE t.2 u.2) j)[j]? = some z := ⟨_, List.getElem?_eq_getElem (by omega)⟩
          obtain ⟨c1, f1⟩ := ints_cell hxg hz
          have tc : wr.cell? ⟨w.heap.size, 1, none⟩ = some (.slice (some a1) n ec) := by simp [World.cell?, htb]
          have hset := ints_set (j := j) ((x : Int) + (y : Int)) hxg
          rw [show (mixI xs id (addE t.2 u.2) j).set j ((x : Int) + (y : Int)) = mixI xs id (addE t.2 u.2) (j + 1) by
            rw [← mixI_succ (f := id) HXL.out HADDL.out hjn (addE_at hxt hyu)]; simp] at hset
          have hsm := hS.put (j := j) (ge := w.heap.size + 1) (by have := HAP.out; omega) HAP.out.1.1 HAP.out.1.2.1 HAP.out.1.2.2 (.int .i64 ((x : Int) + (y : Int)))
          have htb2 : (wr.setCell ⟨w.heap.size + 1, j, none⟩ (.int .i64 ((x : Int) + (y : Int)))).heap[w.heap.size]? = _ := (heap_setCell_other _ _ _ _ (by show w.heap.size ≠ w.heap.size + 1; omega)).trans htb
          have hub2 : (wr.setCell ⟨w.heap.size + 1, j, none⟩ (.int .i64 ((x : Int) + (y : Int)))).heap[wo.heap.size]? = _ := (heap_setCell_other _ _ _ _ (by show wo.heap.size ≠ w.heap.size + 1; have := HWSZ.out; omega)).trans hub
          have HNX := Lib.hid (And.intro hsm (And.intro hset (And.intro htb2 hub2)))
          clear hxt hyu q1 q2 hml hz hset hsm htb2 hub2 hS hxg htb hub
          go_wp2_with fail
          go_roundw
          case rel => exact ⟨j + 1, by omega, by go_num, HNX.out⟩
          case measure => simp [intOf]; omega
        · have hjj : j = n := by omega
          rw [hjj, mixI_full HXL.out HADDL.out] at hxg
          have hid : (addE t.2 u.2).map id = addE t.2 u.2 := by simp
          rw [hid] at hxg
          obtain ⟨r0, r1, r2, r3⟩ := hS.ring
          have tc : wr.cell? ⟨w.heap.size, 0, none⟩ = some (.int .i64 (t.1 : Int)) := by simp [World.cell?, htb]
          have uc : wr.cell? ⟨wo.heap.size, 0, none⟩ = some (.int .i64 (u.1 : Int)) := by simp [World.cell?, hub]
          have HPR := Lib.hid (And.intro hS (And.intro hxg htb))
          have HM1 := Lib.hid (HME.out u HU.out.2.1 wr.drew hS.bel.drew)
          have hcl2 : CoLt q (ts ++ prT P M t (p.take k)) := fun x hx => by
            rcases List.mem_append.1 hx with h | h
            · exact HCL.out x h
            · obtain ⟨y, hy, rfl⟩ := List.mem_map.1 h
              exact HMQ.out y (List.mem_of_mem_take hy)
          have HCL2 := Lib.hid hcl2
          have HNXT : Hid (ts ++ prT P M t (p.take (k + 1)) = (ts ++ prT P M t (p.take k)) ++ [(mulN P M t.1 u.1, addE t.2 u.2)]) := Lib.hid (by rw [List.take_add_one, HU.out.1]; simp [prT])
          have hpl : (prT P M t (p.take k)).length ≤ 20000 := by simp [prT]; omega
          have HPL := Lib.hid hpl
          have HADD := Lib.hid (fun W (hB : Below wr.heap.size wr W) => by
            have hSW := HPR.out.1.below hB
            have hxW := (hB.block _ (Array.getElem?_eq_some_iff.1 HPR.out.2.1).1).trans HPR.out.2.1
            obtain ⟨D, s1, s2⟩ := hSW.sum
            have h := add_ok w0 W HL.out hSW.bel sb mb kb P M q n _ hf hn D (ts ++ prT P M t (p.take k)) (mulN P M t.1 u.1) (HMQ.out u HU.out.2.1) (some ⟨w.heap.size + 1, 0, none⟩) n (addE t.2 u.2) (HFIT.out u HU.out.2.1) s1 s2 HCL2.out (by have := HPL.out; simp only [List.length_append]; omega) (ints_read hxW) (fun a ha => by cases ha; exact HAP.out.1.2.2)
            exact h.mono (fun r W' ⟨h1, D', h2, h3, h4⟩ => (⟨h1, hSW.added h2 h3 h4, (h4.block _ (Array.getElem?_eq_some_iff.1 hxW).1 (by have := HAP.out; omega)).trans hxW, (h4.block _ (by have := (Array.getElem?_eq_some_iff.1 HPR.out.2.2).1; have := hB.size; omega) (by have := HAP.out; omega)).trans ((hB.block _ (Array.getElem?_eq_some_iff.1 HPR.out.2.2).1).trans HPR.out.2.2)⟩ : r = Ending.returned (.tuple #[]) ∧ SmR w0 sb mb kb P M q n ((ts ++ prT P M t (p.take k)) ++ [(mulN P M t.1 u.1, addE t.2 u.2)]) W' ∧ W'.heap[w.heap.size + 1]? = some (intsO (nz (addE t.2 u.2))) ∧ W'.heap[w.heap.size]? = some (Obj.cells #[.int .i64 (t.1 : Int), .slice EA n ec] 144 (0, 0)))))
          clear hjj hid hS hxg htb hub hcl2 hpl
          go_wp2_with fail
          go_region_law (first
            | (go_simp; (with_reducible refine HM1.out.mono ?_); rintro e wa ⟨rfl, hBa⟩; have hba := ((Below.refl wr.heap.size wr).drew).trans (hBa.mono (Nat.le_refl _)))
            | (go_simp; (with_reducible refine (HADD.out wa hba).mono ?_); rintro e wb ⟨rfl, hSb⟩))
          all_goals
            rw [← HNXT.out] at hSb
            have HSB := Lib.hid hSb
            have HEL := HADDL.out
            clear hSb
            go_wp2_with fail
            go_roundw
            case rel => exact ⟨k + 1, by omega, by go_num, HSB.out.1, ⟨_, by rw [nz_length]; exact HEL, HSB.out.2.1⟩, HSB.out.2.2⟩
            case measure => simp [intOf]; omega
    · have hkl : p.take k = p := List.take_of_length_le (by omega)
      have HF := Lib.hid (show SmR w0 sb mb kb P M q n (ts ++ prT P M t p) wr by have h := HSK.out.sm; rw [hkl] at h; exact h)
      clear hkl hS
      go_wp2_with fail
      go_end0
      exact ⟨rfl, HF.out⟩
end Go.Proofs.YtfmcofphidnpdaaGreatDoor
namespace Go.Proofs.YtfmcofphidnpdaaGreatDoor
set_option linter.unusedVariables false
open Go.RowKit Go.Maps

def prodP (P M : Nat) (p p' : List Tm) : List Tm := (p.map fun t => prT P M t p').flatten
theorem prodP_take {P M : Nat} {p p' : List Tm} {k : Nat} {t : Tm} (h : p[k]? = some t) : prodP P M (p.take (k + 1)) p' = prodP P M (p.take k) p' ++ prT P M t p' := by
  simp [prodP, List.take_add_one, h]
theorem prodP_length (P M : Nat) (p p' : List Tm) : (prodP P M p p').length = p.length * p'.length := by
  unfold prodP
  induction p with
  | nil => simp
  | cons t p ih =>
    rw [List.map_cons, List.flatten_cons, List.length_append, ih, List.length_cons, Nat.add_mul]
    simp [prT]
    omega
theorem prodP_lt {P M q : Nat} {p p' : List Tm} (h : ∀ t ∈ p, ∀ u ∈ p', mulN P M t.1 u.1 < q) : CoLt q (prodP P M p p') := fun x hx => by
  obtain ⟨l, hl, hxl⟩ := List.mem_flatten.1 hx
  obtain ⟨t, ht, rfl⟩ := List.mem_map.1 hl
  obtain ⟨u, hu, rfl⟩ := List.mem_map.1 hxl
  exact h t ht u hu
theorem fit_ex {n : Nat} {p p' : List Tm} (hfit : fitB p p' n = true) (hx : ∀ t ∈ p, Ex n t.2) (hx' : ∀ t ∈ p', Ex n t.2) {t u : Tm} (ht : t ∈ p) (hu : u ∈ p') : Ex n (addE t.2 u.2) := by
  have h1 := hx t ht
  have h2 := hx' u hu
  refine ⟨addE_length h1.1 h2.1, fun x hxm => ?_⟩
  obtain ⟨j, hj, rfl⟩ := List.mem_iff_getElem.1 hxm
  have hjn : j < n := by rw [addE_length h1.1 h2.1] at hj; exact hj
  obtain ⟨a, ha⟩ : ∃ a, t.2[j]? = some a := ⟨_, List.getElem?_eq_getElem (by rw [h1.1]; exact hjn)⟩
  obtain ⟨b, hb⟩ : ∃ b, u.2[j]? = some b := ⟨_, List.getElem?_eq_getElem (by rw [h2.1]; exact hjn)⟩
  have he := addE_at ha hb
  rw [List.getElem?_eq_getElem hj] at he
  have e2 : (addE t.2 u.2)[j] = a + b := by simpa using he
  rw [e2]
  have g1 := hiP_ge (p := p) (v := j) ht
  have g2 := hiP_ge (p := p') (v := j) hu
  rw [ha] at g1
  rw [hb] at g2
  simp only [Option.getD_some] at g1 g2
  have := fitB_yes hfit hjn
  omega

/-- What a product within the limits leaves, or the error. -/
def MulRes (P M q n : Nat) (p p' : List Tm) (w : World) (e : Ending) (w' : World) : Prop :=
  ((1000000 < p.length * p'.length ∨ fitB p p' n = false) ∧ e = .returned (.tuple #[.slice none 0 0, .int .i64 5]) ∧ Below w.heap.size w w') ∨ (p.length * p'.length ≤ 1000000 ∧ fitB p p' n = true ∧ PolyRes q n (addN P M) (prodP P M p p') w e w')
def RmRes (P M q n : Nat) (p p' : List Tm) (w : World) (e : Ending) (w' : World) : Prop :=
  Below w.heap.size w w' ∧ (((1000000 < p.length * p'.length ∨ fitB p p' n = false) ∧ e = .returned (.tuple #[.slice none 0 0, .bool false])) ∨ (p.length * p'.length ≤ 1000000 ∧ fitB p p' n = true ∧ ∃ r : List Tm, Ris q n r ∧ (∀ x, cfs (addN P M) r x = cfs (addN P M) (prodP P M p p') x) ∧ (∀ t ∈ r, Ex n t.2) ∧ r.length ≤ (prodP P M p p').length ∧
    ((r.length ≤ 20000 ∧ ∃ A c, e = .returned (.tuple #[.slice A r.length c, .bool true]) ∧ RdP w' A (tms r)) ∨ (20000 < r.length ∧ e = .returned (.tuple #[.slice none 0 0, .bool false])))))

set_option maxRecDepth 100000 in
set_option maxHeartbeats 8000000 in
theorem rmul_ok (P M q n : Nat) (hf : Fld P M q) (hn : n ≤ 80) (hn0 : 0 < n) (VA VB : Option Addr) (VC VD : Nat) (p p' : List Tm) (w : World) (hL : Lays w) (hr : RdP w VA (tms p)) (hr' : RdP w VB (tms p')) (hx : ∀ t ∈ p, Ex n t.2) (hx' : ∀ t ∈ p', Ex n t.2) (hlen : p.length ≤ 20000) (hlen' : p'.length ≤ 20000)
    (hmq : ∀ t ∈ p, ∀ u ∈ p', mulN P M t.1 u.1 < q)
    (hme : ∀ t ∈ p, ∀ u ∈ p', ∀ W, Below w.heap.size w W → Calls Tryz.prog 156 #[rg P M q n, .int .i64 (t.1 : Int), .int .i64 (u.1 : Int)] W fun e w' => e = .returned (.int .i64 (mulN P M t.1 u.1 : Nat)) ∧ Below W.heap.size W w') :
    Calls Tryz.prog 193 #[rg P M q n, .slice VA p.length VC, .slice VB p'.length VD] w (RmRes P M q n p p' w) := by
  have hb0 := below1 w (.cells #[.int .i64 (P : Int), .int .i64 (M : Int), .int .i64 (q : Int), .int .i64 (n : Int)] 163)
  have hbox : (w.alloc (.cells #[.int .i64 (P : Int), .int .i64 (M : Int), .int .i64 (q : Int), .int .i64 (n : Int)] 163)).heap[w.heap.size]? = some (rgO P M q n) := alloc_at _ _ _ rfl
  have hprod : p.length * p'.length ≤ 400000000 := Nat.le_trans (Nat.mul_le_mul hlen hlen') (by decide)
  have eprod : (p.length : Int) * (p'.length : Int) = ((p.length * p'.length : Nat) : Int) := by simp
  have hwr : IntKind.i64.wrap ((p.length : Int) * (p'.length : Int)) = ((p.length * p'.length : Nat) : Int) := by rw [eprod]; exact IntWalk.i64_in _ (by omega)
  have hwr2 : wrap64 ((p.length : Int) * (p'.length : Int)) = ((p.length * p'.length : Nat) : Int) := by rw [eprod]; exact IntWalk.wrap64_in _ (by omega)
  have HB0 := Lib.hid (And.intro hb0 hbox)
  have HPF := Lib.hid (fun W (hW : Below w.heap.size w W) => powersFit_ok P M q n hn VA VB VC VD p p' hx hx' hlen hlen' W (hr.below hW) (hr'.below hW))
  have HNS := Lib.hid (fun W => newSum_ok P M q n hn W)
  have HAP := Lib.hid (fun (hfit : fitB p p' n = true) sb mb kb t (ht : t ∈ p) EA ec hte ts hcl htl W hS => addProduct_ok w hL sb mb kb P M q n hf hn hn0 t EA ec (hx t ht) hte VB VD p' hr' hx' hlen' (fun u hu => fit_ex hfit hx hx' ht hu) (hmq t ht) (hme t ht) ts hcl htl W hS)
  have HPO := Lib.hid (fun sb mb kb W D (hs : SumAt w.heap.size sb mb kb P M q n (prodP P M p p').length D W) hT (hle : p.length * p'.length ≤ 1000000) => poly_ok w W sb mb kb P M q n _ hf hn D (prodP P M p p') hs hT (prodP_lt hmq) (by rw [prodP_length]; omega))
  have HR := Lib.hid hr
  have HX := Lib.hid hx
  have HLT := Lib.hid (fun k => prodP_lt (p := p.take k) (p' := p') (fun t ht u hu => hmq t (List.mem_of_mem_take ht) u hu))
  obtain ⟨r0, r1, r2, r3⟩ := rg_cells hbox
  clear hL hr hr' hx hx' hmq hme hb0 hbox eprod
  unfold rg at HPF HNS
  unfold rg
  by_cases hbig : 1000000 < p.length * p'.length
  · have d1 : decide ((1000000 : Int) < ((p.length * p'.length : Nat) : Int)) = true := decide_eq_true (by omega)
    have HBG := Lib.hid hbig
    generalize ((p.length * p'.length : Nat) : Int) = pp at *
    clear hbig hprod
    go_enter Tryz.func193, Tryz.ntmps193
    go_wp2_with fail
    go_ret2
    exact ⟨HB0.out.1, .inl ⟨.inl HBG.out, rfl⟩⟩
  · have d1 : decide ((1000000 : Int) < ((p.length * p'.length : Nat) : Int)) = false := decide_eq_false (by omega)
    have HBG := Lib.hid hbig
    generalize ((p.length * p'.length : Nat) : Int) = pp at *
    clear hbig hprod
    go_enter Tryz.func193, Tryz.ntmps193
    go_wp2_with fail
    refine (HPF.out _ HB0.out.1).mono ?_
    rintro e w1 ⟨rfl, hB1⟩
    have hb1 := HB0.out.1.trans (hB1.mono HB0.out.1.size)
    have hbox1 := (hB1.block _ (Array.getElem?_eq_some_iff.1 HB0.out.2).1).trans HB0.out.2
    obtain ⟨r0, r1, r2, r3⟩ := rg_cells hbox1
    have HB1 := Lib.hid hb1
    clear hb1 hB1 hbox1
    cases hfit : fitB p p' n with
    | false =>
      have HFT := Lib.hid hfit
      clear hfit
      go_wp2_with fail
      go_ret2
      exact ⟨HB1.out, .inl ⟨.inr HFT.out, rfl⟩⟩
    | true =>
      have HFT := Lib.hid hfit
      clear hfit
      go_wp2_with fail
      refine (HNS.out _).mono ?_
      rintro e w2 ⟨sb, mb, kb, rfl, hS, hB2⟩
      have hle := HB1.out.size
      have hs2 : SmR w sb mb kb P M q n [] w2 := ⟨HB1.out.trans (hB2.mono hle), _, ⟨hS.rcd, hS.key, hS.map, Nat.le_trans hle hS.ls, Nat.le_trans hle hS.lm, Nat.le_trans hle hS.lk⟩, Tells.empty _ _⟩
      have HS2 := Lib.hid hs2
      clear hle hs2 hS hB2 r0 r1 r2 r3
      go_wp2_with fail
      go_loopw [10, 28] (fun _ iv W => ∃ k : Nat, k ≤ p.length ∧ iv = .int .i64 k ∧ SmR w sb mb kb P M q n (prodP P M (p.take k) p') W) (fun _ iv _ => p.length - (intOf iv).toNat)
      case atStart => exact ⟨0, by omega, rfl, by simpa [prodP] using HS2.out⟩
      case round =>
        clear HS2
        obtain ⟨k, hk, rfl, hS⟩ := hrel
        have HSK := Lib.hid hS
        by_cases hlt : k < p.length
        · obtain ⟨t, ht⟩ : ∃ t, p[k]? = some t := ⟨_, List.getElem?_eq_getElem hlt⟩
          have htm := List.mem_of_getElem? ht
          have htx := HX.out t htm
          obtain ⟨b, off, u, rfl, g1, g2, g3⟩ := HR.out k ((t.1 : Int), nz t.2) (by simp [ht])
          have k1 := (hS.bel.cell (World.block_lt_of_cell? w _ g1)).trans g1
          have k2 := (hS.bel.cell (World.block_lt_of_cell? w _ g2)).trans g2
          obtain ⟨EA, ec, hu, k4, _⟩ := g3
          rw [nz_length, htx.1] at hu
          subst hu
          have hS1 := hS.below (below1 wr (.cells #[.int .i64 (t.1 : Int), .slice EA n ec] 144))
          have htl : (prodP P M (p.take k) p').length ≤ 2000000 := by
            rw [prodP_length, List.length_take]
            have h1 := HBG.out
            have h2 : min k p.length * p'.length ≤ p.length * p'.length := Nat.mul_le_mul (by omega) (Nat.le_refl _)
            omega
          have HC := Lib.hid (HAP.out HFT.out sb mb kb t htm EA ec k4 (prodP P M (p.take k) p') (HLT.out k) htl _ hS1)
          have HTK := Lib.hid (prodP_take (P := P) (M := M) (p' := p') ht)
          clear ht htm htx g1 g2 k4 hS hS1 htl
          go_wp2_with fail
          refine HC.out.mono ?_
          rintro e w3 ⟨rfl, hs3⟩
          rw [← HTK.out] at hs3
          have HS3 := Lib.hid hs3
          clear hs3
          go_wp2_with fail
          go_roundw
          case rel => exact ⟨k + 1, by omega, by go_num, HS3.out⟩
          case measure => simp [intOf]; omega
        · have hkl : p.take k = p := List.take_of_length_le (by omega)
          rw [hkl] at hS
          obtain ⟨D, hs, hT⟩ := hS.sum
          have HPO2 := Lib.hid (HPO.out sb mb kb wr D hs hT (by have := HBG.out; omega))
          have HLM := Lib.hid (And.intro hS.bel hs.lm)
          clear hkl hs hT hS
          go_wp2_with fail
          refine HPO2.out.mono ?_
          rintro e w5 ⟨hO3, r, h1, h2, h3, h4, h5⟩
          have HB := Lib.hid (HLM.out.1.trans (hO3.below HLM.out.1.size fun k hk => by
            have hk' : k = mb := hk
            rw [hk']; exact HLM.out.2))
          have HH := Lib.hid (And.intro h1 (And.intro h2 (And.intro h3 h4)))
          rcases h5 with ⟨h7, A', c, rfl, h6⟩ | ⟨h7, rfl⟩
          · have H6 := Lib.hid h6
            have H7 := Lib.hid h7
            clear h1 h2 h3 h4 h6 h7 hO3
            go_wp2_with fail
            go_ret2
            exact ⟨HB.out, .inr ⟨by have := HBG.out; omega, HFT.out, r, HH.out.1, HH.out.2.1, HH.out.2.2.1, HH.out.2.2.2, .inl ⟨H7.out, A', c, rfl, H6.out⟩⟩⟩
          · have H7 := Lib.hid h7
            clear h1 h2 h3 h4 h7 hO3
            go_wp2_with fail
            go_ret2
            exact ⟨HB.out, .inr ⟨by have := HBG.out; omega, HFT.out, r, HH.out.1, HH.out.2.1, HH.out.2.2.1, HH.out.2.2.2, .inr ⟨H7.out, rfl⟩⟩⟩
end Go.Proofs.YtfmcofphidnpdaaGreatDoor
namespace Go.Proofs.YtfmcofphidnpdaaGreatDoor
set_option linter.unusedVariables false
open Go.RowKit Go.Maps

set_option maxRecDepth 100000 in
set_option maxHeartbeats 4000000 in
theorem PMul_ok (P M q n : Nat) (hf : Fld P M q) (hn : n ≤ 80) (hn0 : 0 < n) (VA VB : Option Addr) (VC VD : Nat) (p p' : List Tm) (w : World) (hL : Lays w) (hr : RdP w VA (tms p)) (hr' : RdP w VB (tms p')) (hp : Ris q n p) (hp' : Ris q n p') (hx : ∀ t ∈ p, Ex n t.2) (hx' : ∀ t ∈ p', Ex n t.2) (hlen : p.length ≤ 20000) (hlen' : p'.length ≤ 20000)
    (hmq : ∀ t ∈ p, ∀ u ∈ p', mulN P M t.1 u.1 < q)
    (hme : ∀ t ∈ p, ∀ u ∈ p', ∀ W, Below w.heap.size w W → Calls Tryz.prog 156 #[rg P M q n, .int .i64 (t.1 : Int), .int .i64 (u.1 : Int)] W fun e w' => e = .returned (.int .i64 (mulN P M t.1 u.1 : Nat)) ∧ Below W.heap.size W w') :
    Calls Tryz.prog 171 #[.agg #[.int .i64 (P : Int), .int .i64 (M : Int)], .int .i64 (n : Int), .slice VA p.length VC, .slice VB p'.length VD] w (MulRes P M q n p p' w) := by
  have hB2 := below2 w (.cells #[.int .i64 (P : Int), .int .i64 (M : Int)] 49) (.cells #[.slice VA p.length VC, .slice VB p'.length VD] 67)
  have hv : PolyV w (.slice VA p.length VC) (tms p) := ⟨VA, VC, by simp, hr, by simp; omega⟩
  have hv' : PolyV w (.slice VB p'.length VD) (tms p') := ⟨VB, VD, by simp, hr', by simp; omega⟩
  have hO := open_yes1 P M q n hf hn (some ⟨w.heap.size + 1, 0, none⟩) 2 2 [tms p, tms p'] rfl (by omega) _ (hL.below hB2) (rdps_two (snd_cell _ _ _ _ 0) (snd_cell _ _ _ _ 1) (hv.below hB2) (hv'.below hB2)) (fun x hx2 => by
    simp at hx2
    rcases hx2 with rfl | rfl
    · exact ⟨by simpa using hlen, p, rfl, hp, hx⟩
    · exact ⟨by simpa using hlen', p', rfl, hp', hx'⟩)
  have HO := Lib.hid hO
  have HB2 := Lib.hid hB2
  have HMU := Lib.hid (fun W (hW : Below w.heap.size w W) => rmul_ok P M q n hf hn hn0 VA VB VC VD p p' W (hL.below hW) (hr.below hW) (hr'.below hW) hx hx' hlen hlen' hmq (fun t ht u hu W' hW' => hme t ht u hu W' (hW.trans (hW'.mono hW.size))))
  unfold rg at HMU
  clear hO hB2 hL hp hp' hx hx' hr hr' hv hv' hmq hme
  go_enter Tryz.func171, Tryz.ntmps171
  go_wp2_with fail
  refine HO.out.mono ?_
  rintro e w1 ⟨rfl, hB1⟩
  have HB3 := Lib.hid (HB2.out.trans (hB1.mono HB2.out.size))
  clear HB2 hB1
  have hb1 : Below w.heap.size w (w1.alloc (rgO P M q n)) := HB3.out.alloc HB3.out.size _
  have HM := Lib.hid (HMU.out _ hb1)
  have HB1 := Lib.hid hb1
  clear hb1
  go_wp2_with fail
  refine HM.out.mono ?_
  rintro e w2 ⟨hB2, hcase⟩
  have HB := Lib.hid (HB1.out.trans (hB2.mono HB1.out.size))
  clear hB2
  rcases hcase with ⟨hbad, rfl⟩ | ⟨hle, hfit, r, h1, h2, h3, h4, h5⟩
  · have HBAD := Lib.hid hbad
    clear hbad
    go_wp2_with fail
    refine (sized_no _ _).mono ?_
    rintro e w6 ⟨rfl, rfl⟩
    go_wp2_with fail
    go_ret2
    exact .inl ⟨HBAD.out, rfl, HB.out⟩
  · have HH := Lib.hid (And.intro hle (And.intro hfit (And.intro h1 (And.intro h2 (And.intro h3 h4)))))
    rcases h5 with ⟨h7, A', c, rfl, h6⟩ | ⟨h7, rfl⟩
    · have H6 := Lib.hid h6
      have H7 := Lib.hid h7
      clear h1 h2 h3 h4 h6 h7 hle hfit
      go_wp2_with fail
      refine (sized_yes _ _).mono ?_
      rintro e w6 ⟨rfl, rfl⟩
      go_wp2_with fail
      go_ret2
      exact .inr ⟨HH.out.1, HH.out.2.1, HB.out, r, HH.out.2.2.1, HH.out.2.2.2.1, HH.out.2.2.2.2.1, HH.out.2.2.2.2.2, .inl ⟨H7.out, A', c, rfl, H6.out⟩⟩
    · have H7 := Lib.hid h7
      clear h1 h2 h3 h4 h7 hle hfit
      go_wp2_with fail
      refine (sized_no _ _).mono ?_
      rintro e w6 ⟨rfl, rfl⟩
      go_wp2_with fail
      go_ret2
      exact .inr ⟨HH.out.1, HH.out.2.1, HB.out, r, HH.out.2.2.1, HH.out.2.2.2.1, HH.out.2.2.2.2.1, HH.out.2.2.2.2.2, .inr ⟨H7.out, rfl⟩⟩
end Go.Proofs.YtfmcofphidnpdaaGreatDoor
