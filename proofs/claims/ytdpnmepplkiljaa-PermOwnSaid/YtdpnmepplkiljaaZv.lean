/-
  Contract of Conjugator of the reference; and the law PermConjugates returns true at every two slices of integers, in every world, and leaves what lay as it lay.
-/
import Derived.Test.YtdpnmepplkiljaaZu
namespace Go.Proofs.Ytdpnmepplkiljaa
open Go.RowKit Go.Shelf

attribute [local go_sem] Oper.semAt_some

theorem conj_iff {cs ps qs : List Nat} (hc : IsPerm cs) (hl : qs.length = ps.length) (hcl : cs.length = ps.length) : mulN (mulN (backN cs) ps) cs = qs ↔ ConjP cs ps qs := by
  have hb := backN_perm hc
  have hbl := backN_length cs
  have as1 : mulN (mulN (backN cs) ps) cs = mulN (backN cs) (mulN ps cs) := mul_assocN hb (by rw [hbl, hcl])
  constructor
  · intro h
    refine ⟨hc, hcl, fun x hx => ?_⟩
    have h2 : mulN cs qs = mulN ps cs := by
      rw [← h, as1, ← mul_assocN hc (by rw [hbl]), mul_backN hc, hcl]
      have := one_mulN (mulN ps cs)
      rwa [mulN_length] at this
    have h3 : (mulN cs qs)[x]?.getD 0 = (mulN ps cs)[x]?.getD 0 := by rw [h2]
    rw [mulN_get _ _ _ (by rw [hcl]; exact hx), mulN_get _ _ _ hx] at h3
    exact h3.symm
  · intro h
    have h2 : mulN ps cs = mulN cs qs := by
      refine ext_getD _ _ ps.length (mulN_length _ _) (by rw [mulN_length]; exact hcl) (fun x hx => ?_)
      rw [mulN_get _ _ _ hx, mulN_get _ _ _ (by rw [hcl]; exact hx)]
      exact h.rel x hx
    rw [as1, h2, ← mul_assocN hb hbl.symm, back_mulN hc, hcl, ← hl]
    exact one_mulN qs

theorem runrank_at (n r : Nat) (w : World) (h1 : 1 ≤ n) (h7 : n ≤ 7) (hr : r < facN n) :
    Calls Try.prog 31 #[.int .i64 n, .int .i64 r] w fun e w' => ∃ b off cap, e = .returned (.slice (some ⟨b, off, none⟩) n cap) ∧ b < w'.heap.size ∧ RdN w' b off (unrankN n r) ∧ Below w.heap.size w w' := by
  refine (runrank_good n r w h1 h7 hr).mono ?_
  rintro e w' ⟨v, rfl, hs, hB⟩
  obtain ⟨b, off, cap, hv, hb, hrd⟩ := hs.perm (unrank_facts h1 h7 hr).1
  rw [unrankN_length] at hv
  exact ⟨b, off, cap, by rw [hv], hb, hrd, hB⟩

set_option maxRecDepth 100000 in
set_option maxHeartbeats 2000000 in
theorem rconj_any (b off cap b2 off2 cap2 n : Nat) (ps qs : List Nat) (N : Nat) (w : World) (hp : IsPerm ps) (hq : IsPerm qs) (hpn : ps.length = n) (hqn : qs.length = n)
    (hb : b < w.heap.size) (hb2 : b2 < w.heap.size) (hrd : RdN w b off ps) (hrd2 : RdN w b2 off2 qs) (hN : N ≤ facN n)
    (hno : ∀ i, i < N → mulN (mulN (backN (unrankN n i)) ps) (unrankN n i) ≠ qs) (hyes : N < facN n → mulN (mulN (backN (unrankN n N)) ps) (unrankN n N) = qs) :
    Calls Try.prog 39 #[.slice (some ⟨b, off, none⟩) n cap, .slice (some ⟨b2, off2, none⟩) n cap2] w fun e w' =>
      (N < facN n ∧ ∃ v, e = .returned (.tuple #[v, .bool true]) ∧ SlI w' v (ints (unrankN n N)) ∧ Below w.heap.size w w') ∨ (N = facN n ∧ e = .returned (.tuple #[.slice none 0 0, .bool false]) ∧ Below w.heap.size w w') := by
  have h1 : 1 ≤ n := by rw [← hpn]; exact hp.1
  have h7 : n ≤ 7 := by rw [← hpn]; exact hp.2.1
  have hfl := facN_le n h7
  obtain ⟨f, hf⟩ : ∃ f, facN n = f := ⟨_, rfl⟩
  have hfa : ∀ w : World, Calls Try.prog 29 #[.int .i64 n] w fun e w' => e = .returned (.int .i64 (f : Nat)) ∧ w = w' := fun w => by rw [← hf]; exact rfact_any n w h7
  have HF := Lib.hid hf
  have HFA := Lib.hid hfa
  have HNO := Lib.hid hno
  have HYES := Lib.hid hyes
  have HPN := Lib.hid hpn
  have HQN := Lib.hid hqn
  rw [hf] at hN hfl ⊢
  clear hf hfa hno hyes hpn hqn
  go_enter Try.func39, Try.ntmps39
  go_wp2
  go_loopw [6, 7] (fun iv _ wr => ∃ i : Nat, i ≤ N ∧ iv = .int .i64 i ∧ Below w.heap.size w wr) (fun iv _ _ => N - (intOf iv).toNat)
  case atStart => exact ⟨0, Nat.zero_le _, rfl, Below.refl _ _⟩
  case round =>
    obtain ⟨i, hi, rfl, hB⟩ := hrel
    by_cases hif : i < f
    · go_wp2_with fail
      refine (HFA.out _).mono ?_
      rintro e w0 ⟨rfl, rfl⟩
      go_wp2_with fail
      have hif' : i < facN n := by rw [HF.out]; exact hif
      refine (runrank_at n i _ h1 h7 hif').mono ?_
      rintro e w1 ⟨bc, oc, cc, rfl, hbc, rdc, hB1⟩
      have B1 := hB.trans (hB1.mono hB.size)
      have hcp := (unrank_facts h1 h7 hif').1
      have hcl := unrankN_length n i
      obtain ⟨cs, hcs⟩ : ∃ cs, unrankN n i = cs := ⟨_, rfl⟩
      rw [hcs] at rdc hcp hcl
      have hlc : ∀ k, k < n → cs[k]?.getD 0 < n := fun k hk => by have := hcp.lt k (by rw [hcl]; exact hk); rwa [hcl] at this
      have HCS := Lib.hid hcs
      have HCL := Lib.hid hcl
      have HLC := Lib.hid hlc
      clear hcs hcl hlc hB hB1 hif'
      go_wp2_with fail
      refine (rinv_any bc oc cc n cs _ h1 h7 HCL.out hcp.2.2.2 HLC.out hbc rdc).mono ?_
      rintro e w2 ⟨g2, rfl, hg2, bb2, hB2⟩
      have B2 := B1.trans (hB2.mono B1.size)
      have rdc2 := rdc.below hB2 hbc
      have hbc2 := Nat.lt_of_lt_of_le hbc hB2.size
      have hbkl : (backN cs).length = n := by rw [backN_length]; exact HCL.out
      have HBL := Lib.hid hbkl
      clear B1 hB2 rdc hbc hbkl
      go_wp2_with fail
      refine (rmul_any g2 0 n b off cap n (backN cs) ps _ h1 h7 HBL.out HPN.out (backN_lt cs n HCL.out) bb2.lt (Nat.lt_of_lt_of_le hb B2.size) bb2.rd (hrd.below B2 hb)).mono ?_
      rintro e w3 ⟨g3, rfl, hg3, b3, hB3⟩
      have B3 := B2.trans (hB3.mono B2.size)
      have rdc3 := rdc2.below hB3 hbc2
      have hbc3 := Nat.lt_of_lt_of_le hbc2 hB3.size
      have hm1 : (mulN (backN cs) ps).length = n := by rw [mulN_length]; exact HBL.out
      have hmp : IsPerm (mulN (backN cs) ps) := mulN_perm (backN_perm hcp) hp (by rw [HBL.out, HPN.out])
      have hml : ∀ k, k < n → (mulN (backN cs) ps)[k]?.getD 0 < n := fun k hk => by have := hmp.lt k (by rw [hm1]; exact hk); rwa [hm1] at this
      have HM1 := Lib.hid hm1
      have HML := Lib.hid hml
      clear B2 hB3 rdc2 hbc2 hm1 hml bb2
      go_wp2_with fail
      refine (rmul_any g3 0 n bc oc cc n (mulN (backN cs) ps) cs _ h1 h7 HM1.out HCL.out HML.out b3.lt hbc3 b3.rd rdc3).mono ?_
      rintro e w4 ⟨g4, rfl, hg4, b4, hB4⟩
      have B4 := B3.trans (hB4.mono B3.size)
      have rdc4 := rdc3.below hB4 hbc3
      have hbc4 := Nat.lt_of_lt_of_le hbc3 hB4.size
      have hm2 : (mulN (mulN (backN cs) ps) cs).length = n := by rw [mulN_length]; exact HM1.out
      have s4 := SlI.of_blk b4 hm2 (by omega)
      have sq := SlI.mk_perm (cap := cap2) hq HQN.out (Nat.lt_of_lt_of_le hb2 B4.size) (hrd2.below B4 hb2)
      by_cases hiN : i < N
      · have hne : decide (mulN (mulN (backN cs) ps) cs = qs) = false := decide_eq_false (by rw [← HCS.out]; exact HNO.out i hiN)
        have hsd := same_dec _ _ _ _ w4 s4 sq _ hne
        have HSD := Lib.hid hsd
        clear hne hsd s4 sq hm2 b4 b3 B3 hB4 rdc3 hbc3
        go_wp2_with fail
        refine HSD.out.mono ?_
        rintro e w5 ⟨rfl, q5, rfl⟩
        have B5 := below_drewN' B4 q5
        clear HSD B4
        go_wp2_with fail
        go_roundw
        case rel => exact ⟨i + 1, by omega, by go_num, B5⟩
        case measure => simp [intOf]; omega
      · have hie : i = N := by omega
        have hye : decide (mulN (mulN (backN cs) ps) cs = qs) = true := decide_eq_true (by rw [← HCS.out, hie]; exact HYES.out (by rw [HF.out]; omega))
        have hsd := same_dec _ _ _ _ w4 s4 sq _ hye
        have HSD := Lib.hid hsd
        have HIE := Lib.hid hie
        clear hye hsd s4 sq hm2 b4 b3 B3 hB4 rdc3 hbc3 hie
        go_wp2_with fail
        refine HSD.out.mono ?_
        rintro e w5 ⟨rfl, q5, rfl⟩
        have B5 := below_drewN' B4 q5
        have sc := (SlI.mk_perm (cap := cc) hcp HCL.out hbc4 rdc4).below (below_drewN' (Below.refl _ w4) q5)
        clear HSD B4
        go_wp2_with fail
        go_ret2
        refine .inl ⟨by have := HIE.out; omega, _, rfl, ?_, B5⟩
        rw [← HIE.out, HCS.out]
        exact sc
    · have hNf : N = f := by omega
      go_wp2_with fail
      refine (HFA.out _).mono ?_
      rintro e w0 ⟨rfl, rfl⟩
      go_wp2_with fail
      go_ret2
      exact .inr ⟨hNf, rfl, hB⟩

theorem rconj_some (b off cap b2 off2 cap2 n : Nat) (ps qs L : List Nat) (w : World) (hp : IsPerm ps) (hq : IsPerm qs) (hpn : ps.length = n) (hqn : qs.length = n)
    (hb : b < w.heap.size) (hb2 : b2 < w.heap.size) (hrd : RdN w b off ps) (hrd2 : RdN w b2 off2 qs) (hc : ConjP L ps qs) (hmin : ∀ cs, ConjP cs ps qs → cs = L ∨ lessN L cs = true) :
    Calls Try.prog 39 #[.slice (some ⟨b, off, none⟩) n cap, .slice (some ⟨b2, off2, none⟩) n cap2] w fun e w' => ∃ v, e = .returned (.tuple #[v, .bool true]) ∧ SlI w' v (ints L) ∧ Below w.heap.size w w' := by
  have h1 : 1 ≤ n := by rw [← hpn]; exact hp.1
  have h7 : n ≤ 7 := by rw [← hpn]; exact hp.2.1
  have hLl : L.length = n := hc.len.trans hpn
  have hlt : rankN L < facN n := by rw [← hLl]; exact rankN_lt L
  have hun : unrankN n (rankN L) = L := by rw [← hLl]; exact (cycMore hc.perm).rank
  have iff' := fun i (hi : i < facN n) => conj_iff (qs := qs) (unrank_facts h1 h7 hi).1 (hqn.trans hpn.symm) ((unrankN_length n i).trans hpn.symm)
  refine (rconj_any b off cap b2 off2 cap2 n ps qs (rankN L) w hp hq hpn hqn hb hb2 hrd hrd2 (Nat.le_of_lt hlt) (fun i hi e => ?_) (fun _ => ?_)).mono ?_
  · have hif : i < facN n := by omega
    have hci := (iff' i hif).1 e
    have ho := unrank_order h1 h7 hif hlt
    rw [hun, decide_eq_true hi] at ho
    rcases hmin _ hci with h | h
    · rw [h, lessN_irrefl] at ho; cases ho
    · rw [lessN_asymm _ _ ho] at h; cases h
  · exact (iff' _ hlt).2 (by rw [hun]; exact hc)
  · rintro e w' (⟨_, v, rfl, hs, hB⟩ | ⟨he, _⟩)
    · rw [hun] at hs
      exact ⟨v, rfl, hs, hB⟩
    · omega

theorem rconj_none (b off cap b2 off2 cap2 n : Nat) (ps qs : List Nat) (w : World) (hp : IsPerm ps) (hq : IsPerm qs) (hpn : ps.length = n) (hqn : qs.length = n)
    (hb : b < w.heap.size) (hb2 : b2 < w.heap.size) (hrd : RdN w b off ps) (hrd2 : RdN w b2 off2 qs) (hno : ∀ cs, ¬ ConjP cs ps qs) :
    Calls Try.prog 39 #[.slice (some ⟨b, off, none⟩) n cap, .slice (some ⟨b2, off2, none⟩) n cap2] w fun e w' => e = .returned (.tuple #[.slice none 0 0, .bool false]) ∧ Below w.heap.size w w' := by
  have h1 : 1 ≤ n := by rw [← hpn]; exact hp.1
  have h7 : n ≤ 7 := by rw [← hpn]; exact hp.2.1
  refine (rconj_any b off cap b2 off2 cap2 n ps qs (facN n) w hp hq hpn hqn hb hb2 hrd hrd2 (Nat.le_refl _) (fun i hi e => ?_) (fun h => by omega)).mono ?_
  · exact hno _ ((conj_iff (qs := qs) (unrank_facts h1 h7 hi).1 (hqn.trans hpn.symm) ((unrankN_length n i).trans hpn.symm)).1 e)
  · rintro e w' (⟨h, _⟩ | ⟨_, rfl, hB⟩)
    · omega
    · exact ⟨rfl, hB⟩
/-! ### Conjugator, at every two slices; the law -/
theorem conj_bad (a a' : Option Addr) (n cap n' cap' : Nat) (l l' : List Int) (w : World) (h : SlI w (.slice a n cap) l) (h' : SlI w (.slice a' n' cap') l') (c : Int) (hc : chk l l' = c) (hne : (c != 0) = true) :
    Calls Try.prog 40 #[.slice a n cap, .slice a' n' cap'] w fun e w' => e = .returned (.tuple #[.slice none 0 0, .int .i64 c]) ∧ Below w.heap.size w w' := by
  obtain ⟨wa, hwa⟩ : ∃ wa, ((w.alloc (.cells #[.slice a' n' cap'] 23)).alloc (.cells #[.slice none 0 0] 23)).alloc (.cells #[.int .i64 0] 27) = wa := ⟨_, rfl⟩
  have hBa : Below w.heap.size w wa := by rw [← hwa]; exact (((Below.refl _ w).alloc (Nat.le_refl _) _).alloc (by simp) _).alloc (by simp; omega) _
  have hck := check_any _ _ _ _ wa (h.below hBa) (h'.below hBa)
  rw [hc] at hck
  have hsa : wa.heap.size = w.heap.size + 3 := by rw [← hwa]; simp
  have bQ : Boxed wa w.heap.size 23 (.slice a' n' cap') := by rw [← hwa]; exact ((Boxed.new w 23 _).alloc _).alloc _
  have bS : Boxed wa (w.heap.size + 1) 23 (.slice none 0 0) := by
    have := (Boxed.new (w.alloc (.cells #[.slice a' n' cap'] 23)) 23 (.slice none 0 0)).alloc (.cells #[.int .i64 0] 27)
    rw [hwa, World.size_alloc] at this; exact this
  have bE : Boxed wa (w.heap.size + 2) 27 (.int .i64 0) := by
    have := Boxed.new ((w.alloc (.cells #[.slice a' n' cap'] 23)).alloc (.cells #[.slice none 0 0] 23)) 27 (.int .i64 0)
    rw [hwa] at this; simpa using this
  have cQ := bQ.cell
  have HCK := Lib.hid hck
  clear hck h h' hc
  refine (callsIn_wide (n := 3)).1 ?_
  refine callsIn_of_wp_marks Try.func40 rfl trivial ?_ rfl
  simp only [Try.ntmps40, List.size_toArray, List.length_cons, List.length_nil, Nat.reduceAdd, Nat.reduceSub, Array.replicate_succ, Array.replicate_zero, List.push_toArray, List.append_toArray, List.nil_append, List.cons_append]
  gi_wp2_with fail
  refine ⟨trivial, ?_⟩
  refine (callsIn_wide.2 HCK.out).mono ?_
  rintro e w1 ⟨rfl, hB1⟩
  have bS1 : Boxed w1 (w.heap.size + 1) 23 (.slice none 0 0) := (hB1.block _ (by omega)).trans bS
  have bE1 : Boxed w1 (w.heap.size + 2) 27 (.int .i64 0) := (hB1.block _ (by omega)).trans bE
  have B1 : Below w.heap.size w w1 := hBa.trans (hB1.mono (by omega))
  have cS := bS1.cell
  have fS := bS1.frozen
  have cE := bE1.cell
  have fE := bE1.frozen
  have s1 := hB1.size
  clear hwa bQ bS bE cQ hB1 HCK
  gi_wp2_with fail
  refine ⟨_, results_45 rfl (by rfl) (by rfl) (Boxed.cell ((bS1.set _).other (B' := w.heap.size + 1 + 1) (by omega) _)) (Boxed.cell ((bE1.other (B' := w.heap.size + 1) (by omega) _).set _)), ?_⟩
  exact ⟨rfl, (B1.setCell (p := ⟨w.heap.size + 1, 0, none⟩) (by show w.heap.size ≤ w.heap.size + 1; omega) _).setCell (p := ⟨w.heap.size + 1 + 1, 0, none⟩) (by show w.heap.size ≤ w.heap.size + 1 + 1; omega) _⟩

theorem conj_some (b off cap b2 off2 cap2 n : Nat) (ps qs L : List Nat) (w : World) (hp : IsPerm ps) (hq : IsPerm qs) (hpn : ps.length = n) (hqn : qs.length = n)
    (hb : b < w.heap.size) (hb2 : b2 < w.heap.size) (hrd : RdN w b off ps) (hrd2 : RdN w b2 off2 qs) (hc : conjN ps qs = some L) :
    Calls Try.prog 40 #[.slice (some ⟨b, off, none⟩) n cap, .slice (some ⟨b2, off2, none⟩) n cap2] w fun e w' => ∃ g, e = .returned (.tuple #[.slice (some ⟨g, 0, none⟩) n n, .int .i64 0]) ∧ w.heap.size ≤ g ∧ Blk w' g L ∧ Below w.heap.size w w' := by
  refine (conj_ok b off cap b2 off2 cap2 n ps qs w hp hq hpn hqn hb hb2 hrd hrd2).mono ?_
  rintro e w' (⟨L', g, h1, _, h3, h4, h5, h6⟩ | ⟨h1, _⟩)
  · rw [hc] at h1
    cases h1
    exact ⟨g, h3, h4, h5, h6⟩
  · rw [hc] at h1; cases h1

theorem conj_none (b off cap b2 off2 cap2 n : Nat) (ps qs : List Nat) (w : World) (hp : IsPerm ps) (hq : IsPerm qs) (hpn : ps.length = n) (hqn : qs.length = n)
    (hb : b < w.heap.size) (hb2 : b2 < w.heap.size) (hrd : RdN w b off ps) (hrd2 : RdN w b2 off2 qs) (hc : conjN ps qs = none) :
    Calls Try.prog 40 #[.slice (some ⟨b, off, none⟩) n cap, .slice (some ⟨b2, off2, none⟩) n cap2] w fun e w' => e = .returned (.tuple #[.slice none 0 0, .int .i64 6]) ∧ Below w.heap.size w w' := by
  refine (conj_ok b off cap b2 off2 cap2 n ps qs w hp hq hpn hqn hb hb2 hrd hrd2).mono ?_
  rintro e w' (⟨L', g, h1, _⟩ | ⟨_, h2, h3⟩)
  · rw [hc] at h1; cases h1
  · exact ⟨h2, h3⟩

set_option maxRecDepth 100000 in
set_option maxHeartbeats 1000000 in
theorem conjs_long (a a' : Option Addr) (n cap n' cap' : Nat) (w : World) (hn : ¬ (n ≤ 100 ∧ n' ≤ 100)) :
    Calls Try.prog 7 #[.slice a n cap, .slice a' n' cap'] w fun e w' => e = .returned (.bool true) ∧ Below w.heap.size w w' := by
  have hs := short_two a a' n cap n' cap' w false (by rw [decide_eq_false hn])
  have HS := Lib.hid hs
  clear hs hn
  go_enter Try.func7, Try.ntmps7
  go_wp2_with fail
  refine HS.out.mono ?_
  rintro e w1 ⟨rfl, rfl⟩
  go_wp2_with fail
  refine (alive_any _).mono ?_
  rintro e w2 ⟨rfl, hB⟩
  go_wp2_with fail
  go_ret
  exact ⟨rfl, (alloc_below w _).trans (hB.mono (by simp))⟩

set_option maxRecDepth 100000 in
set_option maxHeartbeats 1000000 in
theorem conjs_bad (a a' : Option Addr) (n cap n' cap' : Nat) (l l' : List Int) (w : World) (h : SlI w (.slice a n cap) l) (h' : SlI w (.slice a' n' cap') l') (hn : n ≤ 100 ∧ n' ≤ 100) (c : Int) (hc : chk l l' = c) (hne : (c != 0) = true) (heq : (c == 0) = false) :
    Calls Try.prog 7 #[.slice a n cap, .slice a' n' cap'] w fun e w' => e = .returned (.bool true) ∧ Below w.heap.size w w' := by
  have hs := short_two a a' n cap n' cap' w true (by rw [decide_eq_true hn])
  have hB1 := alloc_below w (.cells #[.slice a n cap, .slice a' n' cap'] 23)
  have hal := alike_any _ _ l l' _ (h.below hB1) (h'.below hB1)
  rw [hc] at hal
  have HS := Lib.hid hs
  have HAL := Lib.hid hal
  have HC := Lib.hid hc
  have HH := Lib.hid h
  have HH' := Lib.hid h'
  clear hs hn hc h h' hal
  go_enter Try.func7, Try.ntmps7
  go_wp2_with fail
  refine HS.out.mono ?_
  rintro e w1 ⟨rfl, rfl⟩
  go_wp2_with fail
  refine HAL.out.mono ?_
  rintro e w2 ⟨rfl, q, rfl⟩
  have B2 := below_drewN' hB1 q
  clear HS HAL hB1
  go_wp2_with fail
  refine (conj_bad a a' n cap n' cap' l l' _ (HH.out.below B2) (HH'.out.below B2) c HC.out hne).mono ?_
  rintro e w3 ⟨rfl, hB3⟩
  have B3 := B2.trans (hB3.mono B2.size)
  clear B2 hB3
  go_wp2_with fail
  refine (is_bad _ c _ hne heq).mono ?_
  rintro e w5 ⟨rfl, rfl⟩
  go_wp2_with fail
  refine (alive_any _).mono ?_
  rintro e w7 ⟨rfl, hB7⟩
  go_wp2_with fail
  go_ret
  exact ⟨rfl, B3.trans (hB7.mono B3.size)⟩

set_option maxRecDepth 100000 in
set_option maxHeartbeats 2000000 in
theorem conjs_ok (b off cap b2 off2 cap2 n : Nat) (ps qs : List Nat) (w : World) (hp : IsPerm ps) (hq : IsPerm qs) (hpn : ps.length = n) (hqn : qs.length = n)
    (hb : b < w.heap.size) (hb2 : b2 < w.heap.size) (hrd : RdN w b off ps) (hrd2 : RdN w b2 off2 qs) :
    Calls Try.prog 7 #[.slice (some ⟨b, off, none⟩) n cap, .slice (some ⟨b2, off2, none⟩) n cap2] w fun e w' => e = .returned (.bool true) ∧ Below w.heap.size w w' := by
  have h7 : n ≤ 7 := by rw [← hpn]; exact hp.2.1
  have hs := short_two (some ⟨b, off, none⟩) (some ⟨b2, off2, none⟩) n cap n cap2 w true (by rw [decide_eq_true]; exact ⟨by omega, by omega⟩)
  have hB1 := alloc_below w (.cells #[.slice (some ⟨b, off, none⟩) n cap, .slice (some ⟨b2, off2, none⟩) n cap2] 23)
  have hal := alike_any _ _ (ints ps) (ints qs) _ ((SlI.mk_perm (cap := cap) hp hpn hb hrd).below hB1) ((SlI.mk_perm (cap := cap2) hq hqn hb2 hrd2).below hB1)
  rw [chk_perm hp hq (by rw [hpn, hqn])] at hal
  have hspec := conjN_spec hp hq (by rw [hpn, hqn])
  have h00 : ((0 : Int) == 0) = true := rfl
  have HS := Lib.hid hs
  have HAL := Lib.hid hal
  have HPN := Lib.hid hpn
  have HQN := Lib.hid hqn
  clear hs hal hpn hqn
  rcases hspec with ⟨L, hcn, hcj, hmin⟩ | ⟨hcn, _, hno⟩
  · have HCN := Lib.hid hcn
    have HMIN := Lib.hid hmin
    have hLl : L.length = n := hcj.len.trans HPN.out
    have HLL := Lib.hid hLl
    clear hcn hmin hLl
    go_enter Try.func7, Try.ntmps7
    go_wp2_with fail
    refine HS.out.mono ?_
    rintro e w1 ⟨rfl, rfl⟩
    go_wp2_with fail
    refine HAL.out.mono ?_
    rintro e w2 ⟨rfl, q, rfl⟩
    have B2 := below_drewN' hB1 q
    clear HS HAL hB1
    go_wp2_with fail
    refine (rconj_some b off cap b2 off2 cap2 n ps qs L _ hp hq HPN.out HQN.out (Nat.lt_of_lt_of_le hb B2.size) (Nat.lt_of_lt_of_le hb2 B2.size) (hrd.below B2 hb) (hrd2.below B2 hb2) hcj HMIN.out).mono ?_
    rintro e w3 ⟨v3, rfl, s3, hB3⟩
    have B3 := B2.trans (hB3.mono B2.size)
    clear B2 hB3
    go_wp2_with fail
    refine (conj_some b off cap b2 off2 cap2 n ps qs L _ hp hq HPN.out HQN.out (Nat.lt_of_lt_of_le hb B3.size) (Nat.lt_of_lt_of_le hb2 B3.size) (hrd.below B3 hb) (hrd2.below B3 hb2) HCN.out).mono ?_
    rintro e w4 ⟨g4, rfl, hg4, b4, hB4⟩
    have s4 := s3.below hB4
    have B4 := B3.trans (hB4.mono B3.size)
    have his := is_okb _ _ _ _ _ (SlI.of_blk b4 HLL.out (by omega)) s4 rfl
    have HIS := Lib.hid his
    clear B3 hB4 s3 s4 b4 his
    go_wp2_with fail
    refine HIS.out.mono ?_
    rintro e w5 ⟨rfl, hB5⟩
    have B5 := B4.trans (hB5.mono B4.size)
    clear B4 hB5 HIS
    go_wp2_with fail
    refine (alive_any _).mono ?_
    rintro e w7 ⟨rfl, hB7⟩
    go_wp2_with fail
    go_ret
    exact ⟨rfl, B5.trans (hB7.mono B5.size)⟩
  · have HCN := Lib.hid hcn
    have HNO := Lib.hid hno
    clear hcn hno
    go_enter Try.func7, Try.ntmps7
    go_wp2_with fail
    refine HS.out.mono ?_
    rintro e w1 ⟨rfl, rfl⟩
    go_wp2_with fail
    refine HAL.out.mono ?_
    rintro e w2 ⟨rfl, q, rfl⟩
    have B2 := below_drewN' hB1 q
    clear HS HAL hB1
    go_wp2_with fail
    refine (rconj_none b off cap b2 off2 cap2 n ps qs _ hp hq HPN.out HQN.out (Nat.lt_of_lt_of_le hb B2.size) (Nat.lt_of_lt_of_le hb2 B2.size) (hrd.below B2 hb) (hrd2.below B2 hb2) HNO.out).mono ?_
    rintro e w3 ⟨rfl, hB3⟩
    have B3 := B2.trans (hB3.mono B2.size)
    clear B2 hB3
    go_wp2_with fail
    refine (conj_none b off cap b2 off2 cap2 n ps qs _ hp hq HPN.out HQN.out (Nat.lt_of_lt_of_le hb B3.size) (Nat.lt_of_lt_of_le hb2 B3.size) (hrd.below B3 hb) (hrd2.below B3 hb2) HCN.out).mono ?_
    rintro e w4 ⟨rfl, hB4⟩
    have B4 := B3.trans (hB4.mono B3.size)
    clear B3 hB4
    go_wp2_with fail
    refine (is_bad _ 6 _ rfl rfl).mono ?_
    rintro e w5 ⟨rfl, rfl⟩
    go_wp2_with fail
    refine (alive_any _).mono ?_
    rintro e w7 ⟨rfl, hB7⟩
    go_wp2_with fail
    go_ret
    exact ⟨rfl, B4.trans (hB7.mono B4.size)⟩

theorem conjs_any (a a' : Option Addr) (n cap n' cap' : Nat) (l l' : List Int) (w : World) (h : SlI w (.slice a n cap) l) (h' : SlI w (.slice a' n' cap') l') :
    Calls Try.prog 7 #[.slice a n cap, .slice a' n' cap'] w fun e w' => e = .returned (.bool true) ∧ Below w.heap.size w w' := by
  by_cases hn : n ≤ 100 ∧ n' ≤ 100
  · rcases chk_cases l l' with hc | hc | hc
    · obtain ⟨ps, qs, rfl, rfl, hp, hq, hlen⟩ := chk_zero hc
      obtain ⟨b, off, c, hv, hb, hrd⟩ := h.perm hp
      obtain ⟨b2, off2, c2, hv2, hb2, hrd2⟩ := h'.perm hq
      rw [hv, hv2, hlen]
      exact conjs_ok b off c b2 off2 c2 ps.length ps qs w hp hq rfl hlen hb hb2 hrd hrd2
    · exact conjs_bad a a' n cap n' cap' l l' w h h' hn 1 hc rfl rfl
    · exact conjs_bad a a' n cap n' cap' l l' w h h' hn 2 hc rfl rfl
  · exact conjs_long a a' n cap n' cap' w hn
end Go.Proofs.Ytdpnmepplkiljaa
