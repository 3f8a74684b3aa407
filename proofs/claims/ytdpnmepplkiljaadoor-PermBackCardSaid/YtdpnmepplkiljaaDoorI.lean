/-
  The iterator of allCycles of package perm: for every permutation of at most seven points it gives the cycles in their order, to every loop body that turns none but its own variables.
-/
import Derived.Test.YtdpnmepplkiljaaDoorH
import Derived.Test.YtdpnmepplkiljaaDoorG
import Derived.Shelf.Abstract
import Derived.Shelf.RegionOpen
import Derived.OwnWalkIn
import Derived.TacticsInMore
import Derived.LoopNIn
import Derived.LoopIn
import Derived.Maps.AppendAt
namespace Go.Proofs.YtdpnmepplkiljaaDoor
open Go.RowKit Go.Shelf

attribute [local go_sem] Oper.semAt_some

/-! ### The cycles, plainly -/
def cntF : List Bool → Nat
  | [] => 0
  | true :: t => cntF t
  | false :: t => cntF t + 1

theorem cntF_le : ∀ u : List Bool, cntF u ≤ u.length
  | [] => Nat.le_refl _
  | true :: t => Nat.le_succ_of_le (cntF_le t)
  | false :: t => Nat.succ_le_succ (cntF_le t)

theorem cntF_set : ∀ (u : List Bool) (i : Nat), i < u.length → u[i]?.getD false = false → cntF (u.set i true) + 1 = cntF u
  | [], _, h, _ => absurd h (by simp)
  | false :: t, 0, _, _ => rfl
  | true :: t, 0, _, h => by simp at h
  | false :: t, i + 1, h, h' => by
    have := cntF_set t i (by simpa using h) (by simpa using h')
    show cntF (t.set i true) + 1 + 1 = cntF t + 1
    omega
  | true :: t, i + 1, h, h' => by
    have := cntF_set t i (by simpa using h) (by simpa using h')
    exact this

def cycRun (ps : List Nat) : Nat → List Bool → Nat → List Nat
  | 0, _, _ => []
  | f + 1, u, i => if u[i]?.getD false then [] else i :: cycRun ps f (u.set i true) (ps[i]?.getD 0)

def cycSeen (ps : List Nat) : Nat → List Bool → Nat → List Bool
  | 0, u, _ => u
  | f + 1, u, i => if u[i]?.getD false then u else cycSeen ps f (u.set i true) (ps[i]?.getD 0)

theorem cycSeen_length (ps : List Nat) : ∀ (f : Nat) (u : List Bool) (i : Nat), (cycSeen ps f u i).length = u.length
  | 0, _, _ => rfl
  | f + 1, u, i => by
    unfold cycSeen
    split
    · rfl
    · rw [cycSeen_length ps f, List.length_set]

def cycOuter (ps : List Nat) : Nat → Nat → List Bool → List (List Nat)
  | 0, _, _ => []
  | j + 1, k, u => if u[k]?.getD false then cycOuter ps j (k + 1) u else cycRun ps 7 u k :: cycOuter ps j (k + 1) (cycSeen ps 7 u k)

def allCyc (ps : List Nat) : List (List Nat) := cycOuter ps ps.length 0 (List.replicate 7 false)

theorem cycRun_seen (ps : List Nat) (f : Nat) (u : List Bool) (i : Nat) (h : u[i]?.getD false = true) : cycRun ps f u i = [] := by
  cases f with
  | zero => rfl
  | succ f => simp [cycRun, h]

theorem cycSeen_seen (ps : List Nat) (f : Nat) (u : List Bool) (i : Nat) (h : u[i]?.getD false = true) : cycSeen ps f u i = u := by
  cases f with
  | zero => rfl
  | succ f => simp [cycSeen, h]

/-- A cycle as it is handed to a round: where it lies, its capacity, its points. -/
structure Cyc where
  blk : Nat
  cap : Nat
  cyc : List Nat

def Cyc.val (x : Cyc) : Value := .slice (some ⟨x.blk, 0, none⟩) x.cyc.length x.cap
def Cyc.Rd (D : Nat) (x : Cyc) (W : World) : Prop := W.ownsRow D 3 1 x.val x.cyc.length (natCells x.cyc)
def Cyc.Next (ps : List Nat) (pre : List Cyc) (x : Cyc) : Prop := (pre.map Cyc.cyc ++ [x.cyc]) <+: allCyc ps

theorem Cyc.rd_keep (D : Nat) (x : Cyc) (A B : World) (h : Cyc.Rd D x A) (hk : ∀ k, D ≤ k → k < A.heap.size → B.heap[k]? = A.heap[k]?) : Cyc.Rd D x B := by
  obtain ⟨h1, h2⟩ := h
  refine ⟨h1, ?_⟩
  rcases h2 with h2 | ⟨g, cap, cur, hv, hg, hh, r⟩
  · exact .inl h2
  · exact .inr ⟨g, cap, cur, hv, hg, (hk g hg (Array.getElem?_eq_some_iff.1 hh).1).trans hh, r⟩

theorem owns_only {own : List Nat} {w w' : World} {base : Nat} {e : TypeId} {size : Nat} {v : Value} {n : Nat} {xs : List Value} (h : w.ownsRow base e size v n xs) (hB : OnlyIn own w w') (ho : ∀ k, base ≤ k → k ∉ own) : w'.ownsRow base e size v n xs := by
  obtain ⟨h1, h2⟩ := h
  refine ⟨h1, ?_⟩
  rcases h2 with h2 | ⟨g, cap, cur, hv, hg, hh, r⟩
  · exact .inl h2
  · exact .inr ⟨g, cap, cur, hv, hg, (hB.block g (Array.getElem?_eq_some_iff.1 hh).1 (ho g hg)).trans hh, r⟩

theorem cell_only {own : List Nat} {w w' : World} (hB : OnlyIn own w w') {p : Addr} {v : Value} (hp : p.block < w.heap.size) (ho : p.block ∉ own) (h : w.cell? p = some v) : w'.cell? p = some v :=
  (World.cell?_of_block (w := w) (hB.block p.block hp ho)).trans h

def lenOf : Value → Nat
  | .slice _ n _ => n
  | _ => 0

theorem natCells_snoc (c : List Nat) (i : Nat) : natCells (c ++ [i]) = natCells c ++ [.int .i64 (i : Int)] := by simp [natCells]

theorem iter_step {wo wr w1 : World} {D i : Nat} {u : List Bool} {cs : List Nat} {v v' : Value} {tmp : Obj}
    (hS : wr.ownsRow D 62 1 (.slice (some ⟨D, 0, none⟩) 7 7) 7 (boolCells u)) (hc : wr.ownsRow (D + 1) 3 1 v cs.length (natCells cs)) (hB : Below D wo wr) (hD : D ≤ wo.heap.size)
    (hown' : w1.ownsRow (D + 1) 3 1 v' (cs.length + 1) (natCells cs ++ [.int .i64 (i : Int)])) (hgrow : ((wr.setCell ⟨D, i, none⟩ (.bool true)).alloc tmp).grownBy w1 v.ownBlock) :
    Below D wo w1 ∧ w1.ownsRow D 62 1 (.slice (some ⟨D, 0, none⟩) 7 7) 7 (boolCells (u.set i true)) ∧ w1.ownsRow (D + 1) 3 1 v' (cs ++ [i]).length (natCells (cs ++ [i])) := by
  have hrow : ∀ k, v.ownBlock = some k → D + 1 ≤ k := fun k e => (hc.lt k e).1
  have hs := hB.size
  obtain ⟨s1, g1⟩ := hS.stored i (.bool true)
  rw [boolCells_set] at s1
  have hB1 : Below D wo (wr.setCell ⟨D, i, none⟩ (.bool true)) := hB.setCell (p := ⟨D, i, none⟩) (Nat.le_refl _) _
  have hs1 := hB1.size
  refine ⟨(hB1.alloc (by omega) tmp).grown hgrow (by simp; omega) (fun k e => by have := hrow k e; omega), (s1.alloc tmp).kept hgrow (.inr ?_), ?_⟩
  · intro e
    have := hrow D e.symm
    omega
  · rw [List.length_append, natCells_snoc]; exact hown'

theorem new_cell_set (wr : World) (a : Addr) (x v : Value) (e : TypeId) : ∀ (j : Nat) (u : Value), [v][j]? = some u → ((wr.setCell a x).alloc (.cells #[v] e)).cell? ((⟨wr.heap.size, 0, none⟩ : Addr).add j) = some u := by
  have h := cell_one_new (wr.setCell a x) v e
  have hs : (wr.setCell a x).heap.size = wr.heap.size := by simp [World.setCell]
  rw [hs] at h
  exact h

theorem owns_pos {w : World} {base : Nat} {e : TypeId} {size n : Nat} {v : Value} {xs : List Value} (h : w.ownsRow base e size v n xs) (hn : 1 ≤ n) : ∃ g cap, v = .slice (some ⟨g, 0, none⟩) n cap := by
  rcases h.2 with ⟨_, h0⟩ | ⟨g, cap, _, hv, _⟩
  · omega
  · exact ⟨g, cap, hv⟩

theorem Cyc.rd_of {w : World} {D g cap : Nat} {cs : List Nat} (h : w.ownsRow (D + 1) 3 1 (.slice (some ⟨g, 0, none⟩) cs.length cap) cs.length (natCells cs)) : Cyc.Rd D ⟨g, cap, cs⟩ w := by
  obtain ⟨h1, h2⟩ := h
  refine ⟨h1, ?_⟩
  rcases h2 with h2 | ⟨g, cap, cur, hv, hg, r⟩
  · exact .inl h2
  · exact .inr ⟨g, cap, cur, hv, by omega, r⟩

theorem not_in_cons {q l : Nat} {own : List Nat} (h : l < q ∨ q < l) (ho : q ∉ own) : q ∉ l :: own := by
  simp only [List.mem_cons, not_or]
  exact ⟨by omega, ho⟩

theorem cyc_own_set {wr : World} {D i : Nat} {cs : List Nat} {v : Value} (hc : wr.ownsRow (D + 1) 3 1 v cs.length (natCells cs)) (u : Value) : (wr.setCell ⟨D, i, none⟩ u).ownsRow (D + 1) 3 1 v cs.length (natCells cs) :=
  ownsRow_setCell_below hc (a := ⟨D, i, none⟩) (Nat.lt_succ_self _) u

set_option maxRecDepth 100000 in
set_option maxHeartbeats 2000000 in
theorem iter_any (n : Nat) (hn : 1 ≤ n) (ps : List Nat) (m b off cap Bn : Nat) (w : World) (own : List Nat) (hm1 : 1 ≤ m) (hm7 : m ≤ 7) (hpm : ps.length = m) (hlt : ∀ k, k < m → ps[k]?.getD 0 < m)
    (hb : b < w.heap.size) (hBn : Bn < w.heap.size) (hob : b ∉ own) (hoB : Bn ∉ own) (hown : ∀ k, k ∈ own → k < w.heap.size) (hrd : RdN w b off ps) (hbox : w.cell? ⟨Bn, 0, none⟩ = some (.slice (some ⟨b, off, none⟩) m cap)) :
    IterOk n Tryd.prog 43 #[.pointer (some ⟨Bn, 0, none⟩)] (fun x : Cyc => #[x.val]) (Cyc.Next ps) Cyc.Rd (fun xs => xs.map Cyc.cyc = allCyc ps) own w := by
  intro l J Jx W hW hl hlw hJ hJx hY h0
  obtain ⟨i0, hi, hz0, hz1, hz2⟩ := info_parts Tryd.info3
  have hownS : (W.alloc (.cells #[.bool false, .bool false, .bool false, .bool false, .bool false, .bool false, .bool false] 62)).ownsRow W.heap.size 62 1 (.slice (some ⟨W.heap.size, 0, none⟩) 7 7) 7 (boolCells (List.replicate 7 false)) :=
    World.ownsRow_lit W _ 7 (Nat.le_refl _) (by unfold maxLen; omega) rfl
  have hb0 := (Below.refl W.heap.size W).alloc (Nat.le_refl _) (.cells #[.bool false, .bool false, .bool false, .bool false, .bool false, .bool false, .bool false] 62)
  have hJ0 := hJ _ _ _ h0 hb0
  have hbox0 := (hW.cell (p := ⟨Bn, 0, none⟩) hBn).trans hbox
  have hrd0 := hrd.below hW hb
  have hsz := hW.size
  have hbox1 := (hb0.cell (p := ⟨Bn, 0, none⟩) (by simp; omega)).trans hbox0
  have hrd1 := hrd0.below hb0 (by omega)
  clear hrd hbox h0 hbox0 hrd0
  refine callsIn_of_wp Tryd.func43 rfl trivial ?_ rfl
  simp only [Tryd.ntmps43, List.size_toArray, List.length_cons, List.length_nil, Nat.reduceAdd, Nat.reduceSub, Array.replicate_succ, Array.replicate_zero, List.push_toArray, List.append_toArray, List.nil_append, List.cons_append]
  gi_wp2
  have hPM := Lib.hid hpm
  have HLT := Lib.hid hlt
  have HJ := Lib.hid hJ
  have HY := Lib.hid hY
  have HOwn := Lib.hid hown
  clear hpm hlt hJ hY hown
  gi_loopw [9] (fun i wr => ∃ (k : Nat) (u : List Bool) (pre : List Cyc), k ≤ m ∧ i = .int .i64 k ∧ u.length = 7 ∧ pre.map Cyc.cyc ++ cycOuter ps (m - k) k u = allCyc ps ∧ J pre wr ∧
      wr.ownsRow W.heap.size 62 1 (.slice (some ⟨W.heap.size, 0, none⟩) 7 7) 7 (boolCells u) ∧ wr.cell? ⟨Bn, 0, none⟩ = some (.slice (some ⟨b, off, none⟩) m cap) ∧ RdN wr b off ps)
    (fun i _ => m - (intOf i).toNat)
  case atStart =>
    exact ⟨0, List.replicate 7 false, [], Nat.zero_le _, rfl, rfl, by rw [Nat.sub_zero, ← hPM.out]; rfl, hJ0, hownS, hbox1, hrd1⟩
  case round =>
    clear hownS hJ0 hbox1 hrd1 hb0
    obtain ⟨k, u, pre, hk, rfl, hul, hcy, hJw, hownS, hbox, hrd⟩ := hrel
    have HUL := Lib.hid hul
    have HCY := Lib.hid hcy
    clear hul hcy
    by_cases hkn : k < m
    · obtain ⟨j, hj⟩ : ∃ j, m - k = j + 1 := ⟨m - k - 1, by omega⟩
      have hj2 : m - (k + 1) = j := by omega
      have hcs : wr.cell? ⟨W.heap.size, k, none⟩ = some (.bool (u[k]?.getD false)) := (hownS.cellAt k (by omega)).trans (by simp [boolCells, show k < u.length by rw [HUL.out]; omega])
      by_cases hs : u[k]?.getD false = true
      · rw [hs] at hcs
        have he : cycOuter ps (m - k) k u = cycOuter ps (m - (k + 1)) (k + 1) u := by rw [hj, hj2]; simp [cycOuter, hs]
        have hcy2 := HCY.out
        rw [he] at hcy2
        have HC2 := Lib.hid hcy2
        clear hs he hcy2 hj hj2
        gi_wp2
        go_roundw
        case rel => exact ⟨k + 1, u, pre, by omega, by go_num, HUL.out, HC2.out, hJw, hownS, hbox, hrd⟩
        case measure => simp [intOf]; omega
      · have hs' : u[k]?.getD false = false := by simpa using hs
        rw [hs'] at hcs
        have he : cycOuter ps (m - k) k u = cycRun ps 7 u k :: cycOuter ps (m - (k + 1)) (k + 1) (cycSeen ps 7 u k) := by rw [hj, hj2]; simp [cycOuter, hs']
        have hcy2 := HCY.out
        rw [he] at hcy2
        have HC2 := Lib.hid hcy2
        have hne : 1 ≤ (cycRun ps 7 u k).length := by simp [cycRun, hs']
        have HNE := Lib.hid hne
        have hcu : cntF u ≤ 7 := by have := cntF_le u; rw [HUL.out] at this; exact this
        clear hs he hcy2 hj hj2 hs' hne
        obtain ⟨wo, hwo⟩ : ∃ wo : World, wo = wr := ⟨_, rfl⟩
        subst hwo
        gi_wp2
        gi_loopw [5, 6] (fun c x wr => ∃ (f i : Nat) (u' : List Bool) (cs : List Nat), x = .int .i64 i ∧ i < m ∧ u'.length = 7 ∧ cs.length + f = 7 ∧ cntF u' ≤ f ∧ cs ++ cycRun ps f u' i = cycRun ps 7 u k ∧ cycSeen ps f u' i = cycSeen ps 7 u k ∧
            wr.ownsRow W.heap.size 62 1 (.slice (some ⟨W.heap.size, 0, none⟩) 7 7) 7 (boolCells u') ∧ wr.ownsRow (W.heap.size + 1) 3 1 c cs.length (natCells cs) ∧ Below W.heap.size wo wr ∧ lenOf c = cs.length)
          (fun c _ _ => 7 - lenOf c)
        case atStart =>
          exact ⟨7, k, u, [], rfl, hkn, HUL.out, rfl, hcu, rfl, rfl, hownS, World.ownsRow_nil _ _ _ _, Below.refl _ _, rfl⟩
        case round =>
          clear hcs hcu
          obtain ⟨f, i, u', cs, rfl, him, hul', hcf, hcu, hcr, hcn, hownS', hcyc, hBo, hlc⟩ := hrel
          have HUL' := Lib.hid hul'
          have HCF := Lib.hid hcf
          have HCR := Lib.hid hcr
          have HCN := Lib.hid hcn
          have HLC := Lib.hid hlc
          have hcl : cs.length ≤ 7 := by omega
          clear hul' hcf hcr hcn hlc
          have hcs : wr.cell? ⟨W.heap.size, i, none⟩ = some (.bool (u'[i]?.getD false)) := (hownS'.cellAt i (by omega)).trans (by simp [boolCells, show i < u'.length by rw [HUL'.out]; omega])
          have hfs := hownS'.frozenAt i
          by_cases hs : u'[i]?.getD false = true
          · have hc1 : cs = cycRun ps 7 u k := by rw [← HCR.out, cycRun_seen ps f u' i hs, List.append_nil]
            have hc2 : u' = cycSeen ps 7 u k := by rw [← HCN.out, cycSeen_seen ps f u' i hs]
            have hpos : 1 ≤ cs.length := by rw [hc1]; exact HNE.out
            obtain ⟨g, cap', rfl⟩ := owns_pos hcyc hpos
            have hJo := HJ.out _ _ _ hJw hBo
            have hnext : Cyc.Next ps pre ⟨g, cap', cs⟩ := ⟨cycOuter ps (m - (k + 1)) (k + 1) (cycSeen ps 7 u k), by rw [← HC2.out, hc1]; simp⟩
            have hwoD : W.heap.size ≤ wo.heap.size := Nat.le_of_lt (hownS.lt W.heap.size rfl).2
            have hBs := hBo.size
            obtain ⟨fn, tmps, assign, body, hy, hR⟩ := HY.out pre ⟨g, cap', cs⟩ wr hJo hnext (Cyc.rd_of hcyc) (by omega)
            have HR := Lib.hid hR
            simp only [Cyc.val] at hy
            rw [hs] at hcs
            have HC1 := Lib.hid hc1
            have HC2' := Lib.hid hc2
            have hwrD : W.heap.size ≤ wr.heap.size := by omega
            have hbw : b < wr.heap.size := by omega
            have hBnw : Bn < wr.heap.size := by omega
            have hbl : b ∉ l :: own := not_in_cons (by omega) hob
            have hBl : Bn ∉ l :: own := not_in_cons (by omega) hoB
            have hol : ∀ q, W.heap.size ≤ q → q ∉ l :: own := fun q hq => not_in_cons (by omega) (fun e => by have := HOwn.out q e; omega)
            have HOL := Lib.hid hol
            have HBX := Lib.hid ((hBo.cell (p := ⟨Bn, 0, none⟩) (show Bn < W.heap.size by omega)).trans hbox)
            have HRD := Lib.hid (hrd.below hBo (by omega))
            clear hs hc1 hc2 hR hol hbox hrd
            gi_wp2
            refine HR.out.mono ?_
            rintro e W3 (⟨rfl, hJ3, ho3⟩ | ⟨rfl, hJx3⟩)
            · gi_wp2
              go_roundw
              case rel =>
                refine ⟨k + 1, cycSeen ps 7 u k, pre ++ [⟨g, cap', cs⟩], by omega, by go_num, by rw [cycSeen_length]; exact HUL.out, ?_, hJ3, ?_, ?_, ?_⟩
                · rw [← HC2.out, HC1.out]; simp
                · rw [← HC2'.out]; exact owns_only hownS' ho3 HOL.out
                · exact cell_only ho3 (p := ⟨Bn, 0, none⟩) hBnw hBl HBX.out
                · exact fun j hj => cell_only ho3 (p := ⟨b, off + j, none⟩) hbw hbl (HRD.out j hj)
              case measure => simp [intOf]; omega
            · gi_wp2
              refine bodyPost_ret (results_none rfl _ _ _) rfl ?_
              exact ⟨⟨_, rfl⟩, .inr ⟨_, hJx3⟩⟩
          · have hs' : u'[i]?.getD false = false := by simpa using hs
            rw [hs'] at hcs
            have hct := cntF_set u' i (by rw [HUL'.out]; omega) hs'
            obtain ⟨f', hf'⟩ : ∃ f', f = f' + 1 := ⟨f - 1, by omega⟩
            subst hf'
            have hcr2 : (cs ++ [i]) ++ cycRun ps f' (u'.set i true) (ps[i]?.getD 0) = cycRun ps 7 u k := by rw [← HCR.out]; simp [cycRun, hs']
            have hcn2 : cycSeen ps f' (u'.set i true) (ps[i]?.getD 0) = cycSeen ps 7 u k := by rw [← HCN.out]; simp [cycSeen, hs']
            have hcu2 : cntF (u'.set i true) ≤ f' := by omega
            have hx := HLT.out i him
            have HCR2 := Lib.hid hcr2
            have HCN2 := Lib.hid hcn2
            have HS := Lib.hid hownS'
            have HC := Lib.hid hcyc
            have hcyc2 := cyc_own_set (i := i) hcyc (.bool true)
            have hBnW : Bn < W.heap.size := by omega
            have hbW : b < W.heap.size := by omega
            have hrdi := hrd i (by rw [hPM.out]; exact him)
            have HRDI := Lib.hid hrdi
            have HBOX := Lib.hid hbox
            have hwoD : W.heap.size ≤ wo.heap.size := Nat.le_of_lt (hownS.lt W.heap.size rfl).2
            have HNEW := Lib.hid (new_cell_set wr ⟨W.heap.size, i, none⟩ (.bool true) (.int .i64 (i : Int)) 3)
            clear hs hs' hct hcr2 hcn2 hrdi hbox hcyc
            gi_wp2_with (gi_at_builtin; refine wpListIn_append_own _ rfl _ _ 22 rfl (W.heap.size + 1) 3 i0 (.int .i64 0) 1 8 Tryd.underlying22 hi hz0 hz1 hz2 rfl (by decide) _ _ _ rfl (hcyc2.alloc _) ⟨wr.heap.size, 0, none⟩ 1 1 [.int .i64 (i : Int)] rfl rfl HNEW.out (by simp [Value.oneCell']) (by unfold maxLen; omega) (by omega) (by have := hBo.size; simp; omega) ?_; intro v' w1 hown' hgrow _; obtain ⟨g', cap', rfl⟩ := ownsRow_succ hown'; have hst := iter_step HS.out HC.out hBo hwoD hown' hgrow; have HST := Lib.hid hst.2; have hBw1 := hst.1; clear hst hown' hgrow; have cB := (hBw1.cell (p := ⟨Bn, 0, none⟩) hBnW).trans HBOX.out; have cP := (hBw1.cell (p := ⟨b, off + i, none⟩) hbW).trans HRDI.out)
            go_roundw
            case rel => exact ⟨f', ps[i]?.getD 0, u'.set i true, cs ++ [i], rfl, hx, by rw [List.length_set]; exact HUL'.out, by have := HCF.out; simp; omega, hcu2, HCR2.out, HCN2.out, HST.out.1, HST.out.2, hBw1, by simp [lenOf]⟩
            case measure =>
              have h1 := HLC.out
              have h2 := HCF.out
              show 7 - (cs.length + 1) < 7 - lenOf _
              rw [h1]
              omega
    · have hkm : k = m := by omega
      subst hkm
      have hx : pre.map Cyc.cyc = allCyc ps := by rw [← HCY.out, Nat.sub_self]; simp [cycOuter]
      have HX := Lib.hid hx
      clear hx
      gi_wp2
      go_end0
      exact ⟨⟨_, rfl⟩, .inl ⟨pre, HX.out, hJw⟩⟩
end Go.Proofs.YtdpnmepplkiljaaDoor
