/-
  Contract of Conjugator of package perm at two valid permutations of as many points: what it returns is a plain function of the two.
-/
import Derived.Test.YtdpnmepplkiljaaZr
namespace Go.Proofs.Ytdpnmepplkiljaa
open Go.RowKit Go.Shelf
attribute [local go_sem] Oper.semAt_some

/-! ### The plain function -/
def pickF (bl : Nat → Bool) : Nat → Nat → Nat
  | 0, t => t
  | f + 1, t => if bl t then pickF bl f (t + 1) else t

theorem pickF_eq (bl : Nat → Bool) : ∀ (f s t : Nat), s ≤ t → t ≤ s + f → (∀ j, s ≤ j → j < t → bl j = true) → (t = s + f ∨ bl t = false) → pickF bl f s = t
  | 0, s, t, h1, h2, _, _ => by show s = t; omega
  | f + 1, s, t, h1, h2, h3, h4 => by
    unfold pickF
    by_cases e : s = t
    · subst e
      rcases h4 with h4 | h4
      · omega
      · rw [if_neg (by rw [h4]; simp)]
    · rw [if_pos (h3 s (Nat.le_refl _) (by omega))]
      exact pickF_eq bl f (s + 1) t (by omega) (by omega) (fun j a b => h3 j (by omega) b) (by rcases h4 with h4 | h4; exact .inl (by omega); exact .inr h4)

def blockedB (u : List Bool) (ls : List Nat) (len : Nat) (j : Nat) : Bool := u[j]?.getD false || Bool.not (Nat.beq (ls[j]?.getD 0) len)

def pick (u : List Bool) (ls : List Nat) (len n : Nat) : Nat := pickF (blockedB u ls len) n 0

theorem pick_eq {u : List Bool} {ls : List Nat} {len n t : Nat} (h1 : t ≤ n) (h2 : ∀ j, j < t → blockedB u ls len j = true) (h3 : t = n ∨ blockedB u ls len t = false) : pick u ls len n = t :=
  pickF_eq _ n 0 t (Nat.zero_le _) (by omega) (fun j _ hj => h2 j hj) (by rw [Nat.zero_add]; exact h3)

structure CSt where
  L : List Nat
  u : List Bool
  to : Nat

def placeOne (qs : List Nat) (s : CSt) (x : Nat) : CSt := ⟨s.L.set x s.to, s.u.set s.to true, qs[s.to]?.getD 0⟩
def place (qs : List Nat) (c : List Nat) (s : CSt) : CSt := c.foldl (placeOne qs) s
theorem place_snoc (qs c : List Nat) (x : Nat) (s : CSt) : place qs (c ++ [x]) s = placeOne qs (place qs c s) x := by simp [place]

def conjGo (qs ls : List Nat) (n : Nat) : List (List Nat) → List Nat × List Bool → Option (List Nat × List Bool)
  | [], s => some s
  | c :: t, s => if pick s.2 ls c.length n = n then none else conjGo qs ls n t ((place qs c ⟨s.1, s.2, pick s.2 ls c.length n⟩).L, (place qs c ⟨s.1, s.2, pick s.2 ls c.length n⟩).u)

theorem conjGo_snoc (qs ls : List Nat) (n : Nat) (c : List Nat) : ∀ (cs : List (List Nat)) (s s' : List Nat × List Bool), conjGo qs ls n cs s = some s' → conjGo qs ls n (cs ++ [c]) s = conjGo qs ls n [c] s'
  | [], s, s', h => by cases h; rfl
  | d :: t, s, s', h => by
    unfold conjGo at h
    rw [List.cons_append]
    show conjGo qs ls n (d :: (t ++ [c])) s = _
    rw [conjGo]
    by_cases e : pick s.2 ls d.length n = n
    · rw [if_pos e] at h; cases h
    · rw [if_neg e] at h ⊢
      exact conjGo_snoc qs ls n c t _ s' h

theorem conjGo_none (qs ls : List Nat) (n : Nat) : ∀ (cs ds : List (List Nat)) (s : List Nat × List Bool), conjGo qs ls n cs s = none → conjGo qs ls n (cs ++ ds) s = none
  | [], _, s, h => by cases h
  | d :: t, ds, s, h => by
    unfold conjGo at h
    rw [List.cons_append, conjGo]
    by_cases e : pick s.2 ls d.length n = n
    · rw [if_pos e]
    · rw [if_neg e] at h ⊢
      exact conjGo_none qs ls n t ds _ h

def conj0 (n : Nat) : List Nat × List Bool := (List.replicate n 0, List.replicate 7 false)
def conjN (ps qs : List Nat) : Option (List Nat) := (conjGo qs (lensL (allCyc qs)) ps.length (allCyc ps) (conj0 ps.length)).map Prod.fst

/-! ### What holds ahead of each round -/
structure ConjB (w : World) (q n : Nat) (qv : Value) (LS : List Nat) (L : List Nat) (u : List Bool) (W : World) : Prop where
  lens : W.ownsRow q 70 1 (.slice (some ⟨q, 0, none⟩) 7 7) 7 (natCells LS)
  used : W.ownsRow (q + 1) 63 1 (.slice (some ⟨q + 1, 0, none⟩) 7 7) 7 (boolCells u)
  row : W.ownsRow (q + 2) 3 1 (.slice (some ⟨q + 2, 0, none⟩) n n) n (natCells L)
  box : Boxed W (q + 3) 23 (.slice (some ⟨q + 2, 0, none⟩) n n)
  bq : Boxed W w.heap.size 23 qv
  bs : Boxed W (w.heap.size + 1) 23 (.slice none 0 0)
  be : Boxed W (w.heap.size + 2) 27 (.int .i64 0)

theorem ConjB.stands {w : World} {q n : Nat} {qv : Value} {LS L : List Nat} {u : List Bool} {A B : World} (h : ConjB w q n qv LS L u A) (hq : w.heap.size + 2 < q) (hB : ∀ k, k < q + 4 → B.heap[k]? = A.heap[k]?) : ConjB w q n qv LS L u B :=
  ⟨owns_block h.lens (hB _ (by omega)), owns_block h.used (hB _ (by omega)), owns_block h.row (hB _ (by omega)), (hB _ (by omega)).trans h.box, (hB _ (by omega)).trans h.bq, (hB _ (by omega)).trans h.bs, (hB _ (by omega)).trans h.be⟩

def ConjI (w : World) (q n : Nat) (qv : Value) (ps qs : List Nat) (pre : List Cyc) (W : World) : Prop :=
  ∃ L u, conjGo qs (lensL (allCyc qs)) n (pre.map Cyc.cyc) (conj0 n) = some (L, u) ∧ L.length = n ∧ u.length = 7 ∧ ConjB w q n qv (lensL (allCyc qs)) L u W ∧ (pre.map Cyc.cyc <+: allCyc ps) ∧ Below w.heap.size w W

def ConjX (w : World) (n : Nat) (ps qs : List Nat) (pre : List Cyc) (W : World) : Prop :=
  conjGo qs (lensL (allCyc qs)) n (pre.map Cyc.cyc) (conj0 n) = none ∧ Boxed W (w.heap.size + 1) 23 (.slice none 0 0) ∧ Boxed W (w.heap.size + 2) 27 (.int .i64 6) ∧ (pre.map Cyc.cyc <+: allCyc ps) ∧ Below w.heap.size w W

theorem results_45 {fn : Func} {tmps : Array Value} {W : World} {g g' : Nat} {v u : Value} (hf : fn.results = #[.cell 4 23, .cell 5 27]) (ht : tmps[4]?.getD undef = .pointer (some ⟨g, 0, none⟩)) (ht' : tmps[5]?.getD undef = .pointer (some ⟨g', 0, none⟩))
    (h : W.cell? ⟨g, 0, none⟩ = some v) (h' : W.cell? ⟨g', 0, none⟩ = some u) : (results fn tmps).run Try.prog W = .ok (.tuple #[v, u]) W := by
  simp only [results, hf]
  go_simp

theorem conj_base (w w2 : World) (q n a0 a1 a2 a3 a4 a5 a6 : Nat) (qv : Value) (LS : List Nat) (hL : LS = [a0, a1, a2, a3, a4, a5, a6]) (h7 : n ≤ 7) (hq : w2.heap.size = q)
    (bq : Boxed w2 w.heap.size 23 qv) (bs : Boxed w2 (w.heap.size + 1) 23 (.slice none 0 0)) (be : Boxed w2 (w.heap.size + 2) 27 (.int .i64 0)) :
    ∃ W3, (((w2.alloc (.cells #[.int .i64 a0, .int .i64 a1, .int .i64 a2, .int .i64 a3, .int .i64 a4, .int .i64 a5, .int .i64 a6] 70)).alloc (.cells #[.bool false, .bool false, .bool false, .bool false, .bool false, .bool false, .bool false] 63)).alloc (.cells (natCells (List.replicate n 0)).toArray 3)).alloc (.cells #[.slice (some ⟨q + 1 + 1, 0, none⟩) n n] 23) = W3 ∧
      ConjB w q n qv LS (List.replicate n 0) (List.replicate 7 false) W3 ∧ W3.heap.size = q + 4 ∧ Below q w2 W3 := by
  obtain ⟨x1, hx1⟩ : ∃ x1, w2.alloc (.cells #[.int .i64 a0, .int .i64 a1, .int .i64 a2, .int .i64 a3, .int .i64 a4, .int .i64 a5, .int .i64 a6] 70) = x1 := ⟨_, rfl⟩
  have z1 : x1.heap.size = q + 1 := by rw [← hx1]; simp [hq]
  have r1 : x1.ownsRow q 70 1 (.slice (some ⟨q, 0, none⟩) 7 7) 7 (natCells LS) := by
    rw [← hx1, ← hq, hL]; exact World.ownsRow_lit w2 _ 7 (Nat.le_refl _) (by unfold maxLen; omega) rfl
  have k1 : Below q w2 x1 := by rw [← hx1, ← hq]; exact alloc_below w2 _
  obtain ⟨x2, hx2⟩ : ∃ x2, x1.alloc (.cells #[.bool false, .bool false, .bool false, .bool false, .bool false, .bool false, .bool false] 63) = x2 := ⟨_, rfl⟩
  have z2 : x2.heap.size = q + 2 := by rw [← hx2]; simp [z1]
  have r2 : x2.ownsRow (q + 1) 63 1 (.slice (some ⟨q + 1, 0, none⟩) 7 7) 7 (boolCells (List.replicate 7 false)) := by
    rw [← hx2, ← z1]; exact World.ownsRow_lit x1 _ 7 (Nat.le_refl _) (by unfold maxLen; omega) rfl
  have k2 : Below (q + 1) x1 x2 := by rw [← hx2, ← z1]; exact alloc_below x1 _
  obtain ⟨x3, hx3⟩ : ∃ x3, x2.alloc (.cells (natCells (List.replicate n 0)).toArray 3) = x3 := ⟨_, rfl⟩
  have z3 : x3.heap.size = q + 3 := by rw [← hx3]; simp [z2]
  have r3 : x3.ownsRow (q + 2) 3 1 (.slice (some ⟨q + 2, 0, none⟩) n n) n (natCells (List.replicate n 0)) := by
    rw [← hx3, ← z2]; exact World.ownsRow_lit x2 _ n (Nat.le_refl _) (by unfold maxLen; omega) (by simp [natCells])
  have k3 : Below (q + 2) x2 x3 := by rw [← hx3, ← z2]; exact alloc_below x2 _
  obtain ⟨x4, hx4⟩ : ∃ x4, x3.alloc (.cells #[.slice (some ⟨q + 1 + 1, 0, none⟩) n n] 23) = x4 := ⟨_, rfl⟩
  have z4 : x4.heap.size = q + 4 := by rw [← hx4]; simp [z3]
  have r4 : Boxed x4 (q + 3) 23 (.slice (some ⟨q + 2, 0, none⟩) n n) := by rw [← hx4, ← z3]; exact Boxed.new x3 23 _
  have k4 : Below (q + 3) x3 x4 := by rw [← hx4, ← z3]; exact alloc_below x3 _
  have kk : Below q w2 x4 := ((k1.trans (k2.mono (by omega))).trans (k3.mono (by omega))).trans (k4.mono (by omega))
  have lw := be.lt
  refine ⟨x4, by rw [hx1, hx2, hx3, hx4], ⟨?_, ?_, ?_, r4, (kk.block _ (by omega)).trans bq, (kk.block _ (by omega)).trans bs, (kk.block _ (by omega)).trans be⟩, z4, kk⟩
  · exact owns_block (owns_block (owns_block r1 (k2.block _ (by omega))) (k3.block _ (by omega))) (k4.block _ (by omega))
  · exact owns_block (owns_block r2 (k3.block _ (by omega))) (k4.block _ (by omega))
  · exact owns_block r3 (k4.block _ (by omega))

set_option maxRecDepth 100000 in
set_option maxHeartbeats 4000000 in
theorem conj_ok (b off cap b2 off2 cap2 n : Nat) (ps qs : List Nat) (w : World) (hp : IsPerm ps) (hq : IsPerm qs) (hpn : ps.length = n) (hqn : qs.length = n)
    (hb : b < w.heap.size) (hb2 : b2 < w.heap.size) (hrd : RdN w b off ps) (hrd2 : RdN w b2 off2 qs) :
    Calls Try.prog 40 #[.slice (some ⟨b, off, none⟩) n cap, .slice (some ⟨b2, off2, none⟩) n cap2] w fun e w' =>
      (∃ L g, conjN ps qs = some L ∧ L.length = n ∧ e = .returned (.tuple #[.slice (some ⟨g, 0, none⟩) n n, .int .i64 0]) ∧ w.heap.size ≤ g ∧ Blk w' g L ∧ Below w.heap.size w w') ∨ (conjN ps qs = none ∧ e = .returned (.tuple #[.slice none 0 0, .int .i64 6]) ∧ Below w.heap.size w w') := by
  have h1 : 1 ≤ n := by rw [← hpn]; exact hp.1
  have h7 : n ≤ 7 := by rw [← hpn]; exact hp.2.1
  obtain ⟨wa, hwa⟩ : ∃ wa, ((w.alloc (.cells #[.slice (some ⟨b2, off2, none⟩) n cap2] 23)).alloc (.cells #[.slice none 0 0] 23)).alloc (.cells #[.int .i64 0] 27) = wa := ⟨_, rfl⟩
  have hBa : Below w.heap.size w wa := by rw [← hwa]; exact (((Below.refl _ w).alloc (Nat.le_refl _) _).alloc (by simp) _).alloc (by simp; omega) _
  have hck := check_ok _ _ _ _ wa ((SlI.mk_perm (cap := cap) hp hpn hb hrd).below hBa) ((SlI.mk_perm (cap := cap2) hq hqn hb2 hrd2).below hBa) (valI_perm hp) (valI_perm hq) (by rw [ints_length, ints_length, hpn, hqn])
  have hsa : wa.heap.size = w.heap.size + 3 := by rw [← hwa]; simp
  have bQ : Boxed wa w.heap.size 23 (.slice (some ⟨b2, off2, none⟩) n cap2) := by rw [← hwa]; exact ((Boxed.new w 23 _).alloc _).alloc _
  have bS : Boxed wa (w.heap.size + 1) 23 (.slice none 0 0) := by
    have := (Boxed.new (w.alloc (.cells #[.slice (some ⟨b2, off2, none⟩) n cap2] 23)) 23 (.slice none 0 0)).alloc (.cells #[.int .i64 0] 27)
    rw [hwa, World.size_alloc] at this; exact this
  have bE : Boxed wa (w.heap.size + 2) 27 (.int .i64 0) := by
    have := Boxed.new ((w.alloc (.cells #[.slice (some ⟨b2, off2, none⟩) n cap2] 23)).alloc (.cells #[.slice none 0 0] 23)) 27 (.int .i64 0)
    rw [hwa] at this; simpa using this
  have cQ := bQ.cell
  have hmk := make_row n h7
  have HCK := Lib.hid hck
  have HPN := Lib.hid hpn
  have HQN := Lib.hid hqn
  clear hck hpn hqn
  refine (callsIn_wide (n := 3)).1 ?_
  refine callsIn_of_wp_marks Try.func40 rfl trivial ?_ rfl
  simp only [Try.ntmps40, List.size_toArray, List.length_cons, List.length_nil, Nat.reduceAdd, Nat.reduceSub, Array.replicate_succ, Array.replicate_zero, List.push_toArray, List.append_toArray, List.nil_append, List.cons_append]
  gi_wp2_with fail
  refine ⟨trivial, ?_⟩
  refine (callsIn_wide.2 HCK.out).mono ?_
  rintro e w1 ⟨rfl, hB1⟩
  have bQ1 := (hB1.block _ (by omega)).trans bQ
  have bS1 := (hB1.block _ (by omega)).trans bS
  have bE1 := (hB1.block _ (by omega)).trans bE
  have B1 : Below w.heap.size w w1 := hBa.trans (hB1.mono (by omega))
  have cQ1 := Boxed.cell bQ1
  have s1 := hB1.size
  clear hwa bQ bS bE cQ hB1 HCK
  gi_wp2_with fail
  refine ⟨trivial, ?_⟩
  refine (callsIn_wide.2 (clens_ok b2 off2 cap2 n qs w1 hq HQN.out (by omega) (hrd2.below B1 hb2))).mono ?_
  rintro e w2 ⟨a0, a1, a2, a3, a4, a5, a6, hLs, rfl, hB2⟩
  have bQ2 := (hB2.block _ (by omega)).trans bQ1
  have bS2 := (hB2.block _ (by omega)).trans bS1
  have bE2 := (hB2.block _ (by omega)).trans bE1
  have B2 : Below w.heap.size w w2 := B1.trans (hB2.mono (by omega))
  have cQ2 := Boxed.cell bQ2
  have s2 := hB2.size
  clear bQ1 bS1 bE1 cQ1 hB2 B1
  obtain ⟨q, hqe⟩ : ∃ q, w2.heap.size = q := ⟨_, rfl⟩
  gi_wp2_with fail
  refine ⟨trivial, ?_⟩
  refine (allCycles_in _ _ _ _ _).mono ?_
  rintro e w3 ⟨rfl, rfl⟩
  gi_wp2_with fail
  obtain ⟨W3, hW3, hCB, z3, hB3⟩ := conj_base w w2 q n a0 a1 a2 a3 a4 a5 a6 _ _ hLs h7 hqe bQ2 bS2 bE2
  rw [hW3]
  have B3 : Below w.heap.size w W3 := B2.trans (hB3.mono (by omega))
  have hit := iter_at (3 - 1) (by omega) ps hp b off cap W3 [w.heap.size + 1, w.heap.size + 2, q + 1, q + 2] (by omega) (by simp; omega) (by simp; omega) (hrd.below B3 hb)
  rw [z3, HPN.out] at hit
  have hq2 : w.heap.size + 2 < q := by omega
  have h0 : ConjI w q n (.slice (some ⟨b2, off2, none⟩) n cap2) ps qs [] (W3.alloc (.cells #[.slice (some ⟨b, off, none⟩) n cap] 23)) :=
    ⟨_, _, rfl, by simp, by simp, hCB.stands hq2 (fun k hk => ((Below.refl _ W3).alloc (Nat.le_refl _) _).block k (by omega)), ⟨allCyc ps, rfl⟩, B3.alloc B3.size _⟩
  have hok := (cyc_ok hp).2.1
  have hcl := fun c (hc : c ∈ allCyc ps) => (cycFacts hp).lt c hc
  have hlq : ∀ k, k < n → qs[k]?.getD 0 < n := fun k hk => by have := hq.lt k (by rw [HQN.out]; exact hk); rwa [HQN.out] at this
  have HOK := Lib.hid hok
  have HCL := Lib.hid hcl
  have HLQ := Lib.hid hlq
  obtain ⟨LS, hLS⟩ : ∃ LS, lensL (allCyc qs) = LS := ⟨_, rfl⟩
  have hLSl : LS.length = 7 := by rw [← hLS]; exact lensL_length _ _
  have hsz : (W3.alloc (.cells #[.slice (some ⟨b, off, none⟩) n cap] 23)).heap.size = q + 5 := by simp [z3]
  clear hW3 hCB hLs bQ2 bS2 bE2 cQ2 hok hcl hlq hmk hqe s2 hB3 B2
  refine rangeFunc_iter (gf := 61) (lb := #[.pointer (some ⟨q + 1 + 1 + 1 + 1, 0, none⟩)]) rfl (enters_of Try.func61 (by kernel_rfl) rfl) hit Cyc.rd_keep (by simp [z3]; omega) (fun _ => rfl)
    (ConjI w q n (.slice (some ⟨b2, off2, none⟩) n cap2) ps qs) (ConjX w n ps qs)
    (fun pre A B ⟨L, u, e1, e2, e3, e4, e5, e6⟩ hAB => ⟨L, u, e1, e2, e3, e4.stands hq2 (fun k hk => hAB.block k (by omega)), e5, e6.trans (hAB.mono (by omega))⟩)
    (fun pre A B ⟨e1, e2, e3, e4, e5⟩ hAB => ⟨e1, (hAB.block _ (by omega)).trans e2, (hAB.block _ (by omega)).trans e3, e4, e5.trans (hAB.mono (by omega))⟩)
    h0
    (fun x => { tmps := #[.slice (some ⟨b, off, none⟩) n cap, .slice (some ⟨b2, off2, none⟩) n cap2, undef, .pointer (some ⟨w.heap.size, 0, none⟩), .pointer (some ⟨w.heap.size + 1, 0, none⟩), .pointer (some ⟨w.heap.size + 1 + 1, 0, none⟩), .int .i64 0, .pointer (some ⟨q, 0, none⟩), .pointer (some ⟨q + 1, 0, none⟩), .pointer (some ⟨q + 1 + 1 + 1, 0, none⟩),
          .slice (some ⟨x.blk, 0, none⟩) x.cyc.length x.cap, undef, undef, undef, .slice (some ⟨b, off, none⟩) n cap, .slice (some ⟨b2, off2, none⟩) n cap2, .int .i64 0, .int .i64 0, .bool false, undef, .slice (some ⟨b2, off2, none⟩) n cap2, .agg #[.int .i64 a0, .int .i64 a1, .int .i64 a2, .int .i64 a3, .int .i64 a4, .int .i64 a5, .int .i64 a6],
          .slice (some ⟨b, off, none⟩) n cap, .int .i64 n, .slice (some ⟨q + 1 + 1, 0, none⟩) n n, .slice (some ⟨b, off, none⟩) n cap, .func (.func 61) #[] #[.pointer (some ⟨q + 1 + 1 + 1 + 1, 0, none⟩)], .slice (some ⟨x.blk, 0, none⟩) x.cyc.length x.cap,
          undef, undef, undef, undef, undef, undef, undef, undef, undef, undef, undef, undef, undef, undef, undef, undef, undef, undef, undef, undef, undef, undef, undef, undef, undef, undef, undef, undef, undef, undef, undef, undef, undef, undef, undef, undef, undef, undef, undef, undef, undef], defers := [] }) ?assign ?body ?done ?stop
  case assign =>
    intro l x W K hK
    simp only [Cyc.val]
    gi_wp2
    exact hK
  case body =>
    rintro l D pre x W hD hDW ⟨L, u, hgo, hL, hu, hCB, hpre, hBW⟩ hnext hrdx
    rw [hLS] at hgo hCB
    rw [hsz] at hD
    have hxm : x.cyc ∈ allCyc ps := by
      obtain ⟨t, ht⟩ := hnext
      rw [← ht]; simp
    obtain ⟨hl1, hl7⟩ := HOK.out _ hxm
    have hxl := HCL.out _ hxm
    obtain ⟨blk, cp, c⟩ := x
    simp only at hl1 hl7 hxl hxm
    obtain ⟨len, hlen⟩ : ∃ len, c.length = len := ⟨_, rfl⟩
    have hrc : W.ownsRow D 3 1 (.slice (some ⟨blk, 0, none⟩) c.length cp) c.length (natCells c) := hrdx
    rw [hlen] at hl1 hl7 hrc
    have hnx : (pre ++ [(⟨blk, cp, c⟩ : Cyc)]).map Cyc.cyc <+: allCyc ps := by rw [List.map_append, List.map_singleton]; exact hnext
    have hgo2 : conjGo qs LS n ((pre ++ [(⟨blk, cp, c⟩ : Cyc)]).map Cyc.cyc) (conj0 n) = conjGo qs LS n [c] (L, u) := by rw [List.map_append, List.map_singleton]; exact conjGo_snoc _ _ _ _ _ _ _ hgo
    have HGO := Lib.hid hgo2
    have HL := Lib.hid hL
    have HU := Lib.hid hu
    have HNX := Lib.hid hnx
    have HLN := Lib.hid hlen
    have HXL := Lib.hid hxl
    have HCB := Lib.hid hCB
    have hblk := (hrc.lt blk rfl).1
    have cq := hCB.bq.cell
    have cs := hCB.bs.cell
    have fs := hCB.bs.frozen
    have ce := hCB.be.cell
    have fe := hCB.be.frozen
    have cc9 := hCB.box.cell
    have HLSL := Lib.hid hLSl
    simp only [hlen]
    clear hgo hgo2 hL hu hnx hpre hnext hrdx hxm hxl hlen hLSl
    gi_wp2_with fail
    gi_loop [11] (fun tv => ∃ t : Nat, t ≤ n ∧ tv = .int .i64 t ∧ ∀ j, j < t → blockedB u LS len j = true) (fun tv => n - (intOf tv).toNat)
    case atStart => exact ⟨0, Nat.zero_le _, rfl, fun j hj => by omega⟩
    case round =>
      obtain ⟨t, ht, rfl, hbl⟩ := hrel
      have HBL := Lib.hid hbl
      clear hbl
      by_cases htn : t < n
      · have cu : W.cell? ⟨q + 1, t, none⟩ = some (.bool (u[t]?.getD false)) := (HCB.out.used.cellAt t (by omega)).trans (by simp [boolCells, show t < u.length by rw [HU.out]; omega])
        have cl : W.cell? ⟨q, t, none⟩ = some (.int .i64 ((LS[t]?.getD 0 : Nat) : Int)) := (HCB.out.lens.cellAt t (by omega)).trans (by simp [natCells, show t < LS.length by rw [HLSL.out]; omega])
        by_cases hut : u[t]?.getD false = true
        · have hb1 : blockedB u LS len t = true := by simp [blockedB, hut]
          rw [hut] at cu
          have HB1 := Lib.hid hb1
          clear hut hb1
          gi_wp2_with fail
          go_round
          case rel =>
            refine ⟨t + 1, by omega, by go_num, fun j hj => ?_⟩
            by_cases hjt : j < t
            · exact HBL.out j hjt
            · have : j = t := by omega
              subst this; exact HB1.out
          case measure => simp [intOf]; omega
        · have hut' : u[t]?.getD false = false := by simpa using hut
          rw [hut'] at cu
          obtain ⟨lt, hlt⟩ : ∃ lt, LS[t]?.getD 0 = lt := ⟨_, rfl⟩
          rw [hlt] at cl
          by_cases hll : lt = len
          · have hb1 : blockedB u LS len t = false := by
              have hbq : Nat.beq lt len = true := beqI.2 hll
              simp only [blockedB, hut', hlt, hbq]; rfl
            have hpk := pick_eq ht HBL.out (.inr hb1)
            have hne : ((lt : Int) != (len : Int)) = false := by rw [hll]; exact bne_self_eq_false _
            have htne : ((t : Int) == (n : Int)) = false := by rw [beq_eq_false_iff_ne]; omega
            have hgo3 : conjGo qs LS n ((pre ++ [(⟨blk, cp, c⟩ : Cyc)]).map Cyc.cyc) (conj0 n) = some ((place qs c ⟨L, u, t⟩).L, (place qs c ⟨L, u, t⟩).u) := by
              rw [HGO.out]
              unfold conjGo
              simp only [HLN.out, hpk]
              rw [if_neg (by omega)]
              rfl
            have HGO3 := Lib.hid hgo3
            have hrow0 := HCB.out.row
            have hus0 := HCB.out.used
            clear hut hut' hlt hb1 hpk hgo3
            gi_wp2_with fail
            gi_loopw [11, 13, 53] (fun tv _ jv wr => ∃ (i : Nat) (s : CSt), i ≤ len ∧ jv = .int .i64 i ∧ place qs (c.take i) ⟨L, u, t⟩ = s ∧ tv = .int .i64 s.to ∧ s.to < n ∧ s.L.length = n ∧ s.u.length = 7 ∧
                wr.ownsRow (q + 1) 63 1 (.slice (some ⟨q + 1, 0, none⟩) 7 7) 7 (boolCells s.u) ∧ wr.ownsRow (q + 2) 3 1 (.slice (some ⟨q + 2, 0, none⟩) n n) n (natCells s.L) ∧ OnlyIn [q + 1, q + 2] W wr) (fun _ _ jv _ => len - (intOf jv).toNat)
            case atStart => exact ⟨0, ⟨L, u, t⟩, Nat.zero_le _, rfl, by rw [List.take_zero]; rfl, rfl, htn, HL.out, HU.out, hus0, hrow0, OnlyIn.refl _ _⟩
            case round =>
              clear hrow0 hus0
              obtain ⟨i, s, hi, rfl, hs, rfl, hto, hsL, hsu, husd, hrow, hO⟩ := hrel
              by_cases hil : i < len
              · have hil' : i < c.length := by rw [HLN.out]; exact hil
                have cc := cell_only hO (p := ⟨blk, i, none⟩) (show blk < W.heap.size from (hrc.lt blk rfl).2) (by simp; omega) ((hrc.cellAt i (by omega)).trans (by simp [natCells, hil'] : _ = some (.int .i64 ((c[i]?.getD 0 : Nat) : Int))))
                have hxn := HXL.out (c[i]?.getD 0) (get_mem c i hil')
                rw [HPN.out] at hxn
                have htk := take_snocN'' c i hil'
                obtain ⟨x, hx⟩ : ∃ x, c[i]?.getD 0 = x := ⟨_, rfl⟩
                rw [hx] at cc hxn htk
                have hpl : place qs (c.take (i + 1)) ⟨L, u, t⟩ = placeOne qs s x := by rw [htk, place_snoc, hs]
                have cbx := cell_only hO (p := ⟨q + 3, 0, none⟩) (HCB.out.box.lt) (by simp) cc9
                have cqx := cell_only hO (p := ⟨w.heap.size, 0, none⟩) (HCB.out.bq.lt) (by simp; omega) cq
                have hBr : Below w.heap.size w wr := hBW.trans (hO.below hBW.size (by simp; omega))
                have cqt := hrd2.below hBr hb2 s.to (by rw [HQN.out]; exact hto)
                have hnt := HLQ.out s.to hto
                have hcell : wr.cell? ⟨q + 2, x, none⟩ = (natCells s.L)[x]? := hrow.cellAt x (by omega)
                obtain ⟨v0, hv0⟩ : ∃ v0, (natCells s.L)[x]? = some v0 := ⟨_, List.getElem?_eq_getElem (by rw [natCells_length]; omega)⟩
                rw [hv0] at hcell
                have hfz := hrow.frozenAt x
                have hst := (hrow.stored x (.int .i64 (s.to : Int))).1
                rw [natCells_set] at hst
                obtain ⟨w4, hw4⟩ : ∃ w4, wr.setCell ⟨q + 2, x, none⟩ (.int .i64 (s.to : Int)) = w4 := ⟨_, rfl⟩
                rw [hw4] at hst
                have hO4 : OnlyIn [q + 1, q + 2] W w4 := by rw [← hw4]; exact hO.setCell (p := ⟨q + 2, x, none⟩) (by simp) _
                have hus4 : w4.ownsRow (q + 1) 63 1 (.slice (some ⟨q + 1, 0, none⟩) 7 7) 7 (boolCells s.u) := owns_block husd (by rw [← hw4]; exact Below.heap_setCell _ _ _ _ (by show q + 1 ≠ q + 2; omega))
                have hcu : w4.cell? ⟨q + 1, s.to, none⟩ = some (.bool (s.u[s.to]?.getD false)) := (hus4.cellAt s.to (by omega)).trans (by simp [boolCells, show s.to < s.u.length by omega])
                have hfu := hus4.frozenAt s.to
                have hst2 := (hus4.stored s.to (.bool true)).1
                rw [boolCells_set] at hst2
                obtain ⟨w5, hw5⟩ : ∃ w5, w4.setCell ⟨q + 1, s.to, none⟩ (.bool true) = w5 := ⟨_, rfl⟩
                rw [hw5] at hst2
                have hO5 : OnlyIn [q + 1, q + 2] W w5 := by rw [← hw5]; exact hO4.setCell (p := ⟨q + 1, s.to, none⟩) (by simp) _
                have hrow5 : w5.ownsRow (q + 2) 3 1 (.slice (some ⟨q + 2, 0, none⟩) n n) n (natCells (s.L.set x s.to)) := owns_block hst (by rw [← hw5]; exact Below.heap_setCell _ _ _ _ (by show q + 2 ≠ q + 1; omega))
                have cqx5 := cell_only hO5 (p := ⟨w.heap.size, 0, none⟩) (HCB.out.bq.lt) (by simp; omega) cq
                have hB5 : Below w.heap.size w w5 := hBW.trans (hO5.below hBW.size (by simp; omega))
                have cqt5 := hrd2.below hB5 hb2 s.to (by rw [HQN.out]; exact hto)
                have HPL := Lib.hid hpl
                have HOR := Lib.hid hrow5
                have HOU := Lib.hid hst2
                have HSL := Lib.hid hsL
                have HSU := Lib.hid hsu
                have HO5 := Lib.hid hO5
                clear hs hx htk hpl hv0 hst hrow5 hst2 hus4 hO4 hO5 hB5 hBr hsL hsu husd hrow hO cqx cqt hil'
                gi_wp2
                go_roundw
                case rel => exact ⟨i + 1, placeOne qs s x, by omega, by go_num, HPL.out, rfl, hnt, by show (s.L.set x s.to).length = n; rw [List.length_set]; exact HSL.out, by show (s.u.set s.to true).length = 7; rw [List.length_set]; exact HSU.out, HOU.out, HOR.out, HO5.out⟩
                case measure => simp [intOf]; omega
              · have hie : i = len := by omega
                have hct : c.take i = c := List.take_of_length_le (by rw [HLN.out]; omega)
                rw [hct] at hs
                have hgo4 := HGO3.out
                rw [hs] at hgo4
                have hcb : ConjB w q n (.slice (some ⟨b2, off2, none⟩) n cap2) LS s.L s.u wr := by
                  have hx := HCB.out
                  have hl := hx.box.lt
                  have kp : ∀ k, k < q + 4 → k ≠ q + 1 → k ≠ q + 2 → wr.heap[k]? = W.heap[k]? := fun k hk h1 h2 => hO.block k (by omega) (by simp; omega)
                  exact ⟨owns_block hx.lens (kp _ (by omega) (by omega) (by omega)), husd, hrow, (kp _ (by omega) (by omega) (by omega)).trans hx.box, (kp _ (by omega) (by omega) (by omega)).trans hx.bq, (kp _ (by omega) (by omega) (by omega)).trans hx.bs, (kp _ (by omega) (by omega) (by omega)).trans hx.be⟩
                have hBr : Below w.heap.size w wr := hBW.trans (hO.below hBW.size (by simp; omega))
                have HG4 := Lib.hid hgo4
                have HCB2 := Lib.hid hcb
                have HSL := Lib.hid hsL
                have HSU := Lib.hid hsu
                have HO := Lib.hid (hO.mono (own' := [w.heap.size + 1, w.heap.size + 2, q + 1, q + 2]) (fun k hk => List.mem_cons_of_mem _ (List.mem_cons_of_mem _ hk)))
                clear hs hct hgo4 hcb hsL hsu husd hrow hO
                gi_wp2_with fail
                exact ⟨HO.out, s.L, s.u, by rw [hLS]; exact HG4.out, HSL.out, HSU.out, by rw [hLS]; exact HCB2.out, HNX.out, hBr⟩
          · have hb1 : blockedB u LS len t = true := by
              have hbq : Nat.beq lt len = false := Bool.eq_false_iff.2 (fun e => hll (beqI.1 e))
              simp only [blockedB, hut', hlt, hbq]; rfl
            have hne : ((lt : Int) != (len : Int)) = true := by rw [bne_iff_ne]; omega
            have HB1 := Lib.hid hb1
            clear hut hut' hlt hb1 hll
            gi_wp2_with fail
            go_round
            case rel =>
              refine ⟨t + 1, by omega, by go_num, fun j hj => ?_⟩
              by_cases hjt : j < t
              · exact HBL.out j hjt
              · have : j = t := by omega
                subst this; exact HB1.out
            case measure => simp [intOf]; omega
      · have hte : t = n := by omega
        have hpk : pick u LS len n = n := pick_eq (Nat.le_refl _) (fun j hj => HBL.out j (by omega)) (.inl rfl)
        have htne : ((t : Int) == (n : Int)) = true := by rw [hte]; exact beq_self_eq_true _
        have hgo3 : conjGo qs LS n ((pre ++ [(⟨blk, cp, c⟩ : Cyc)]).map Cyc.cyc) (conj0 n) = none := by
          rw [HGO.out]
          unfold conjGo
          show (if pick u LS c.length n = n then _ else _) = none
          rw [HLN.out, hpk, if_pos rfl]
        have HGO3 := Lib.hid hgo3
        clear hte hpk hgo3
        gi_wp2_with fail
        all_goals try (rename_i hA hB hC; cases hA; done)
        all_goals refine ⟨((OnlyIn.refl _ W).setCell (p := ⟨w.heap.size + 1, 0, none⟩) (by simp) _).setCell (p := ⟨w.heap.size + 1 + 1, 0, none⟩) (by simp) _, by rw [hLS]; exact HGO3.out, (HCB.out.bs.set _).other (by omega) _, (HCB.out.be.other (by omega) _).set _, HNX.out, (hBW.setCell (p := ⟨w.heap.size + 1, 0, none⟩) (by simp) _).setCell (p := ⟨w.heap.size + 1 + 1, 0, none⟩) (by show w.heap.size ≤ w.heap.size + 1 + 1; omega) _⟩
  case done =>
    rintro D xs W hD hS ⟨L, u, hgo, hL, hu, hCB, hpre, hBW⟩ hK
    have cc9 := hCB.box.cell
    have cs := hCB.bs.cell
    have fs := hCB.bs.frozen
    have ce := hCB.be.cell
    have fe := hCB.be.frozen
    have hcj : conjN ps qs = some L := by unfold conjN; rw [← hS, HPN.out, hgo]; rfl
    rw [hsz] at hD
    have HCJ := Lib.hid hcj
    have HL := Lib.hid hL
    have HCB := Lib.hid hCB
    clear hS hgo hL hu hpre hcj
    gi_wp2
    obtain ⟨W7, hW7⟩ : ∃ W7, (W.setCell ⟨w.heap.size + 1, 0, none⟩ (.slice (some ⟨q + 2, 0, none⟩) n n)).setCell ⟨w.heap.size + 1 + 1, 0, none⟩ (.int .i64 0) = W7 := ⟨_, rfl⟩
    have hO7 : OnlyIn [w.heap.size + 1, w.heap.size + 2] W W7 := by rw [← hW7]; exact ((OnlyIn.refl _ W).setCell (p := ⟨w.heap.size + 1, 0, none⟩) (by simp) _).setCell (p := ⟨w.heap.size + 1 + 1, 0, none⟩) (by simp) _
    have r1 : Boxed W7 (w.heap.size + 1) 23 (.slice (some ⟨q + 2, 0, none⟩) n n) := by rw [← hW7]; exact (HCB.out.bs.set _).other (by omega) _
    have r2 : Boxed W7 (w.heap.size + 1 + 1) 27 (.int .i64 0) := by rw [← hW7]; exact (HCB.out.be.other (by omega) _).set _
    rw [hW7]
    have hK7 : W7.heap[D]? = some (.deferred (some [])) := (hO7.block D (Array.getElem?_eq_some_iff.1 hK).1 (by simp; omega)).trans hK
    refine ⟨by simp, .inl ⟨_, _, rfl, run_takeDeferred hK7, ?_⟩⟩
    refine ⟨_, results_45 rfl (by rfl) (by rfl) (Boxed.cell ((World.putObj_heap_other (by omega)).trans r1)) (Boxed.cell ((World.putObj_heap_other (by omega)).trans r2)), ?_⟩
    have hrow : W7.ownsRow (q + 2) 3 1 (.slice (some ⟨q + 2, 0, none⟩) n n) n (natCells L) := owns_block HCB.out.row (hO7.block _ (by have := HCB.out.box.lt; omega) (by simp; omega))
    exact .inl ⟨L, q + 2, HCJ.out, HL.out, rfl, by omega, (World.putObj_heap_other (by omega)).trans (Blk.of_owns hrow), (hBW.trans (hO7.below hBW.size (by simp))).trans (belowK_b (w := w) (Nat.le_refl _) W7 D _ _ (by omega) hK7 rfl rfl)⟩
  case stop =>
    rintro D pre W hD ⟨hgo, bs, be, hpre, hBW⟩ hK
    rw [hsz] at hD
    have hcj : conjN ps qs = none := by
      obtain ⟨t, ht⟩ := hpre
      unfold conjN
      rw [← ht, HPN.out, conjGo_none _ _ _ _ _ _ hgo]; rfl
    have HCJ := Lib.hid hcj
    clear hgo hpre hcj
    gi_wp2
    refine ⟨by simp, .inl ⟨_, _, rfl, run_takeDeferred hK, ?_⟩⟩
    refine ⟨_, results_45 rfl (by rfl) (by rfl) (Boxed.cell ((World.putObj_heap_other (by omega)).trans bs)) (Boxed.cell ((World.putObj_heap_other (by omega)).trans be)), ?_⟩
    exact .inr ⟨HCJ.out, rfl, hBW.trans (belowK_b (w := w) (Nat.le_refl _) W D _ _ (by omega) hK rfl rfl)⟩
end Go.Proofs.Ytdpnmepplkiljaa
