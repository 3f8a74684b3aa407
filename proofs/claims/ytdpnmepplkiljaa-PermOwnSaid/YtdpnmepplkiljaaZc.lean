/-
  Contract of Unrank of the reference at every number of points from 1 to 7 and every rank that there is.
-/
import Derived.Test.YtdpnmepplkiljaaZb
import Derived.Maps.RangeWalk
namespace Go.Proofs.Ytdpnmepplkiljaa
open Go.RowKit

def runR : Nat → List Nat → Nat → List Nat
  | 0, _, _ => []
  | j + 1, rest, r => rest[r / facN j]?.getD 0 :: runR j (rest.take (r / facN j) ++ rest.drop (r / facN j + 1)) (r % facN j)

theorem runR_length : ∀ (j : Nat) (rest : List Nat) (r : Nat), (runR j rest r).length = j
  | 0, _, _ => rfl
  | j + 1, rest, r => by simp [runR, runR_length j]

theorem natCells_get (l : List Nat) (j : Nat) (hj : j < l.length) : (natCells l)[j]? = some (.int .i64 ((l[j]?.getD 0 : Nat) : Int)) := by
  simp [natCells, hj]

theorem natCells_app (a b : List Nat) : natCells (a ++ b) = natCells a ++ natCells b := by simp [natCells]

/-- What a row owns reads, from a place on. -/
theorem owns_part {w : World} {base g n cap : Nat} {ps : List Nat} (h : w.ownsRow base 3 1 (.slice (some ⟨g, 0, none⟩) n cap) n (natCells ps)) (k : Nat) :
    ∀ j u, (natCells (ps.drop k))[j]? = some u → w.cell? ((⟨g, k, none⟩ : Addr).add j) = some u := by
  intro j u hu
  have h1 : (natCells ps)[k + j]? = some u := by
    rw [natCells, List.map_drop, List.getElem?_drop] at hu
    exact hu
  have h2 := h.cells rfl (k + j) u h1
  have e : (⟨g, k, none⟩ : Addr).add j = (⟨g, 0, none⟩ : Addr).add (k + j) := by
    by_cases hj : j = 0 <;> by_cases hk : k = 0 <;> simp [Addr.add, hj, hk]
  rw [e]; exact h2

theorem owns_take {w : World} {base g n cap : Nat} {ps : List Nat} (h : w.ownsRow base 3 1 (.slice (some ⟨g, 0, none⟩) n cap) n (natCells ps)) (k : Nat) :
    ∀ j u, (natCells (ps.take k))[j]? = some u → w.cell? ((⟨g, 0, none⟩ : Addr).add j) = some u := by
  intro j u hu
  have h1 : (natCells ps)[j]? = some u := by
    rw [natCells, List.map_take, List.getElem?_take] at hu
    split at hu
    · exact hu
    · cases hu
  exact h.cells rfl j u h1

theorem unr_one {w w2 w3 : World} {g j capr k m : Nat} {rest : List Nat} {vp v3 : Value} {xp : List Value} (hB2 : Below w.heap.size w w2)
    (hor : w2.ownsRow w.heap.size 3 1 (.slice (some ⟨g, 0, none⟩) (j + 1) capr) (j + 1) (natCells rest)) (hop : w2.ownsRow w.heap.size 3 1 vp k xp) (hs : w.heap.size ≤ w2.heap.size)
    (hg3 : (w2.drew.alloc (.cells #[] 3)).grownBy w3 (Value.slice (some ⟨w2.heap.size, 0, none⟩) 0 m).ownBlock)
    (hf3 : v3.ownBlock = (Value.slice (some ⟨w2.heap.size, 0, none⟩) 0 m).ownBlock ∨ ∀ b, v3.ownBlock = some b → (w2.drew.alloc (.cells #[] 3)).heap.size ≤ b) :
    Below w.heap.size w w3 ∧ w3.ownsRow w.heap.size 3 1 (.slice (some ⟨g, 0, none⟩) (j + 1) capr) (j + 1) (natCells rest) ∧ w3.ownsRow w.heap.size 3 1 vp k xp ∧ (∀ b, v3.ownBlock = some b → w2.heap.size ≤ b) := by
  have hgl := (hor.lt g rfl).2
  have hor' : w2.drew.ownsRow w.heap.size 3 1 (.slice (some ⟨g, 0, none⟩) (j + 1) capr) (j + 1) (natCells rest) := hor
  have hop' : w2.drew.ownsRow w.heap.size 3 1 vp k xp := hop
  have hBd : Below w.heap.size w w2.drew := hB2.drew
  refine ⟨(hBd.alloc hs _).grown hg3 (by simp; omega) (fun b e => by cases e; exact hs), (hor'.alloc _).kept hg3 (.inr fun e => ?_), (hop'.alloc _).kept hg3 ?_, fun b e => ?_⟩
  · have e2 := Option.some.inj e
    have e3 : g = w2.heap.size := e2
    omega
  · cases hv : vp.ownBlock with
    | none => exact .inl rfl
    | some b =>
      refine .inr fun e => ?_
      have e3 : b = w2.heap.size := Option.some.inj e
      have := (hop.lt b hv).2
      omega
  · rcases hf3 with h | h
    · rw [h] at e
      have e3 : w2.heap.size = b := Option.some.inj e
      omega
    · have := h b e
      simp at this
      omega

theorem unr_two {w w2 w3 w4 : World} {k : Nat} {vp v3 : Value} {g4 n4 cap4 : Nat} {xp : List Value} (hB3 : Below w.heap.size w w3) (hop3 : w3.ownsRow w.heap.size 3 1 vp k xp) (hbl3 : ∀ b, v3.ownBlock = some b → w2.heap.size ≤ b)
    (hop2 : w2.ownsRow w.heap.size 3 1 vp k xp) (hg4 : w3.grownBy w4 v3.ownBlock) (hf4 : (Value.slice (some ⟨g4, 0, none⟩) n4 cap4).ownBlock = v3.ownBlock ∨ ∀ b, (Value.slice (some ⟨g4, 0, none⟩) n4 cap4).ownBlock = some b → w3.heap.size ≤ b) (hs : w.heap.size ≤ w2.heap.size) :
    Below w.heap.size w w4 ∧ w4.ownsRow w.heap.size 3 1 vp k xp ∧ (∀ b, vp.ownBlock = some b → b ≠ g4) := by
  refine ⟨hB3.grown hg4 hB3.size (fun b e => Nat.le_trans hs (hbl3 b e)), hop3.kept hg4 ?_, fun b e hb => ?_⟩
  · cases hv : vp.ownBlock with
    | none => exact .inl rfl
    | some b =>
      refine .inr fun e => ?_
      have := hbl3 b e.symm
      have := (hop2.lt b hv).2
      omega
  · subst hb
    have h2 := (hop2.lt b e).2
    have h3 := (hop3.lt b e).2
    rcases hf4 with h | h
    · have := hbl3 b (by rw [← h]; rfl)
      omega
    · have := h b rfl
      omega

set_option maxRecDepth 100000 in
set_option maxHeartbeats 2000000 in
theorem runrank_ok (n r : Nat) (w : World) (h1 : 1 ≤ n) (h7 : n ≤ 7) (hr : r < facN n) :
    Calls Try.prog 31 #[.int .i64 n, .int .i64 r] w fun e w' => ∃ g cap, e = .returned (.slice (some ⟨g, 0, none⟩) n cap) ∧ w'.ownsRow w.heap.size 3 1 (.slice (some ⟨g, 0, none⟩) n cap) n (natCells (runR n (List.range n) r)) ∧ Below w.heap.size w w' := by
  obtain ⟨L, hLL⟩ : ∃ L, runR n (List.range n) r = L := ⟨_, rfl⟩
  rw [hLL]
  have hfl := facN_le n h7
  have HLL := Lib.hid hLL
  clear hLL
  go_enter Try.func31, Try.ntmps31
  go_wp2_with fail
  refine (rident_any n w h7).mono ?_
  rintro e w1 ⟨g0, rfl, hg0, hb0, hB1⟩
  have hown0 : w1.ownsRow w.heap.size 3 1 (.slice (some ⟨g0, 0, none⟩) n n) n (natCells (List.range n)) :=
    ⟨by simp [natCells_length], .inr ⟨g0, n, _, rfl, hg0, hb0, Nat.le_refl _, by unfold maxLen; omega, by simp [natCells_length], by rw [Nat.mul_one, List.take_of_length_le (by simp [natCells_length])]⟩⟩
  go_wp2_with fail
  go_loopw [1, 5, 6, 7] (fun q vr vp i wr => ∃ (k r' g capr : Nat) (rest pre : List Nat), k ≤ n ∧ i = .int .i64 k ∧ q = .int .i64 r' ∧ vr = .slice (some ⟨g, 0, none⟩) (n - k) capr ∧ rest.length = n - k ∧ pre.length = k ∧ r' < facN (n - k) ∧ pre ++ runR (n - k) rest r' = L ∧
      wr.ownsRow w.heap.size 3 1 vr (n - k) (natCells rest) ∧ wr.ownsRow w.heap.size 3 1 vp k (natCells pre) ∧ (∀ b, vp.ownBlock = some b → b ≠ g) ∧ Below w.heap.size w wr) (fun _ _ _ i _ => n - (intOf i).toNat)
  case atStart => exact ⟨0, r, g0, n, List.range n, [], Nat.zero_le _, rfl, rfl, rfl, List.length_range, rfl, hr, HLL.out, hown0, World.ownsRow_nil _ _ _ _, (fun b e => by cases e), hB1⟩
  case round =>
    clear hown0 hb0 hg0
    obtain ⟨k, r', g, capr, rest, pre, hk, rfl, rfl, rfl, hrl, hpl, hr', hun, hor, hop, hne, hB⟩ := hrel
    have HUN := Lib.hid hun
    have HNE := Lib.hid hne
    have HRL := Lib.hid hrl
    have HPL := Lib.hid hpl
    clear hun hne hrl hpl
    by_cases hkn : k < n
    · obtain ⟨j, hj⟩ : ∃ j, n - k = j + 1 := ⟨n - k - 1, by omega⟩
      have hj7 : j ≤ 7 := by omega
      have hfp := facN_pos j
      rw [hj] at hr' HUN hor HRL
      have hfs : r' < (j + 1) * facN j := hr'
      have hqj : r' / facN j < j + 1 := (Nat.div_lt_iff_lt_mul hfp).2 hfs
      have hrm : r' % facN j < facN j := Nat.mod_lt _ hfp
      have hr5 : r' ≤ 5040 := by have : (j + 1) * facN j ≤ 5040 := facN_le (j + 1) (by omega); omega
      have hn1 : n ≤ k + j + 1 := by omega
      have hn2 : k + j + 1 ≤ n := by omega
      have hnk1 : n - k ≤ j + 1 := by omega
      have hnk2 : j + 1 ≤ n - k := by omega
      have hqa : 0 ≤ (r' : Int) / (facN j : Int) := by rw [← Int.natCast_ediv]; exact Int.natCast_nonneg _
      have hqb : (r' : Int) / (facN j : Int) < ((j + 1 : Nat) : Int) := by rw [← Int.natCast_ediv]; omega
      have hqc : (r' : Int) / (facN j : Int) ≤ 8 := by omega
      have hqd : (r' : Int) / (facN j : Int) < ((n - k : Nat) : Int) := by omega
      have HJ := Lib.hid hj
      have hcr := (hor.cellAt (r' / facN j) (by omega)).trans (natCells_get rest (r' / facN j) (by rw [HRL.out]; exact hqj))
      obtain ⟨x, hx⟩ : ∃ x, rest[r' / facN j]?.getD 0 = x := ⟨_, rfl⟩
      rw [hx] at hcr
      have HX := Lib.hid hx
      have HOR := Lib.hid hor
      have hopa := hop.alloc (.cells #[.int .i64 (x : Int)] 3)
      have hBs := hB.size
      have hjn : (n : Int) - 1 - k = j := by omega
      have HJN := Lib.hid hjn
      clear hj hjn hr' hfs hx
      go_wp2_with (first | (go_at_call 29; refine (rfact_int _ j HJN.out _ hj7).mono ?_; rintro e w' ⟨rfl, rfl⟩) | (at_builtin; refine app_list rfl _ _ 23 rfl Try.underlying23 w.heap.size _ k (natCells pre) rfl hopa ⟨wr.heap.size, 0, none⟩ 1 1 [.int .i64 (x : Int)] rfl rfl (cell_one_new _ _ _) (by simp [Value.oneCell']) (by omega) (by simp; omega) ?_; intro vp2 w2 hop2 hgrow2 hfresh2 _))
      have hgl : g < wr.heap.size := (HOR.out.lt g rfl).2
      have hor2 : w2.ownsRow w.heap.size 3 1 (.slice (some ⟨g, 0, none⟩) (j + 1) capr) (j + 1) (natCells rest) := (HOR.out.alloc _).kept hgrow2 (.inr fun e => HNE.out g e.symm rfl)
      have hne2 : ∀ b, vp2.ownBlock = some b → b ≠ g := by
        intro b eb
        rcases hfresh2 with hf | hf
        · exact HNE.out b (hf ▸ eb)
        · have := hf b eb
          simp at this
          omega
      have hB2 : Below w.heap.size w w2 := (hB.alloc hBs _).grown hgrow2 (by simp; omega) (fun b eb => (hop.lt b eb.symm.symm).1)
      have hcap : j + 1 ≤ capr := by
        rcases HOR.out.2 with ⟨h, _⟩ | ⟨g', cap', cur, hv, _, _, hnc, _⟩
        · cases h
        · cases hv; exact hnc
      rw [← Int.natCast_ediv]
      have HNE2 := Lib.hid hne2
      have HOR2 := Lib.hid hor2
      have HOP2 := Lib.hid hop2
      clear hop2 hor2 hne2 hgrow2 hfresh2 hopa hcr hor hop hqa hqb hqc hqd
      generalize hq : r' / facN j = q at *
      have HQ := Lib.hid hq
      clear hq
      have hwq : IntKind.i64.wrap ((q : Int) + 1) = ((q + 1 : Nat) : Int) := by rw [IntWalk.i64_in _ (by omega)]; rfl
      have hq1 : q ≤ capr := by omega
      have hq2 : q + 1 ≤ n - k := by omega
      have hq3 : (0 : Int) ≤ (q : Int) + 1 := by omega
      have hq4 : (q : Int) + 1 ≤ ((n - k : Nat) : Int) := by omega
      have hj2 : n - (k + 1) = j := by omega
      have HJ2 := Lib.hid hj2
      have hBs2 := hB2.size
      have HB2 := Lib.hid hB2
      have HE := Lib.hid (World.ownsRow_lit (e := 3) (size := 1) w2.drew #[] 0 (base := w.heap.size) hBs2 (by unfold maxLen; omega) rfl)
      have HOR3 := Lib.hid ((show w2.drew.ownsRow w.heap.size 3 1 (.slice (some ⟨g, 0, none⟩) (j + 1) capr) (j + 1) (natCells rest) from HOR2.out).alloc (.cells #[] 3))
      clear hj2 hB2 hB
      by_cases hlast : capr = q + 1
      · have hd0 : rest.drop (q + 1) = [] := List.drop_of_length_le (by rw [HRL.out]; omega)
        have HD0 := Lib.hid hd0
        subst hlast
        have hq5 : (q : Int) ≤ (q : Int) + 1 := by omega
        clear hd0
        refine wp_region_any (by kernel_rfl) ?_
        change wpAny _ _ _ _ _ _ _ (World.drew _)
        refine wpAny_take (i := 1) (v := ?v1) rfl (by kernel_rfl) (by kernel_rfl) (by kernel_rfl) (fun _ _ _ h => h) (Or.inl ⟨by rfl, ?hy1⟩) ?rest1
        case hy1 => intro w; go_simp; with_reducible rfl
        refine wpAny_take (i := 2) (v := ?v2) rfl (by kernel_rfl) (by kernel_rfl) (by kernel_rfl) (fun _ _ _ h => h) (Or.inl ⟨by rfl, ?hy2⟩) ?rest2
        case hy2 => intro w; go_simp; with_reducible rfl
        refine wpAny_take (i := 3) (v := ?v3) rfl (by kernel_rfl) (by kernel_rfl) (by kernel_rfl) (fun _ _ _ h => h) (Or.inl ⟨by rfl, ?hy3⟩) ?rest3
        case hy3 => intro w; go_simp; with_reducible rfl
        refine wpAny_take (i := 5) (v := ?v5) rfl (by kernel_rfl) (by kernel_rfl) (by kernel_rfl) (fun _ _ _ h => h) (Or.inl ⟨by rfl, ?hy5⟩) ?rest5
        case hy5 => intro w; go_simp; with_reducible rfl
        refine wpAny_take (i := 6) (v := ?v6) rfl (by kernel_rfl) (by kernel_rfl) (by kernel_rfl) (fun _ _ _ h => h) (Or.inl ⟨by rfl, ?hy6⟩) ?rest6
        case hy6 => intro w; go_simp; with_reducible rfl
        refine wpAny_take (i := 7) (v := ?v7) rfl (by kernel_rfl) (by kernel_rfl) (by kernel_rfl) (fun _ _ _ h => h) (Or.inl ⟨by rfl, ?hy7⟩) ?rest7
        case hy7 => intro w; go_simp; with_reducible rfl
        refine wpAny_take (i := 8) (v := ?v8) rfl (by kernel_rfl) (by kernel_rfl) (by kernel_rfl) (fun _ _ _ h => h) (Or.inl ⟨by rfl, ?hy8⟩) ?rest8
        case hy8 => intro w; go_simp; with_reducible rfl
        refine wpAny_ready (rs := [0]) (by kernel_rfl) (by simp) ?_
        refine AllReady.cons rfl (fun K hK => ?_) AllReady.nil
        go_simp
        refine hK _ _ ?_
        clear hK K
        refine wpAny_ready (rs := [4]) (by kernel_rfl) (by simp) ?_
        refine AllReady.cons rfl (fun K hK => ?_) AllReady.nil
        rw [if_pos (by rfl)]
        refine app_wp _ _ 23 rfl Try.underlying23 w.heap.size (.slice (some ⟨w2.heap.size, 0, none⟩) 0 0) 0 [] rfl HE.out ⟨g, 0, none⟩ q _ (natCells (rest.take q)) rfl (by rw [natCells_length, List.length_take, HRL.out]; omega) (owns_take HOR3.out q) (natCells_one _) (by omega) (by simp; omega) ?_
        intro v3 w3 ho3 hg3 hf3 hs3
        refine hK _ _ ?_
        clear hK K
        refine wpAny_ready (rs := [9]) (by kernel_rfl) (by simp) ?_
        refine AllReady.cons rfl (fun K hK => ?_) AllReady.nil
        rw [if_pos (by rfl)]
        obtain ⟨hB3, hor3, hop3, hbl3⟩ := unr_one HB2.out HOR2.out HOP2.out hBs2 hg3 hf3
        refine app_wp _ _ 23 rfl Try.underlying23 w.heap.size v3 (0 + q) ([] ++ natCells (rest.take q)) rfl ho3 ⟨g, 0, none⟩ (n - k - (q + 1)) _ (natCells (rest.drop (q + 1))) rfl (by rw [natCells_length, List.length_drop, HRL.out]; omega) (by rw [HD0.out]; intro j u h; simp [natCells] at h) (natCells_one _) (by omega) (by have := hB3.size; omega) ?_
        intro v4 w4 ho4 hg4 hf4 hs4
        obtain ⟨g4, cap4, rfl⟩ := hs4 (by obtain ⟨g3, c3, rfl⟩ := hs3 (by simp); simp)
        obtain ⟨hB4, hop4, hne4⟩ := unr_two hB3 hop3 hbl3 HOP2.out hg4 hf4 hBs2
        refine hK _ _ ?_
        clear hK K
        refine wpAny_ready (rs := [10]) (by kernel_rfl) (by simp) ?_
        refine AllReady.cons rfl (fun K hK => ?_) AllReady.nil
        go_simp
        refine hK _ _ ?_
        clear hK K
        refine wpAny_done (by kernel_rfl) ?_ _
        have HO4 := Lib.hid ho4
        have HB4 := Lib.hid hB4
        have HP4 := Lib.hid hop4
        have HN4 := Lib.hid hne4
        clear ho4 hB4 hop4 hne4 hg4 hf4 hs4 ho3 hg3 hf3 hs3 hB3 hor3 hop3 hbl3
        try go_frame
        go_wp2_with fail
        go_roundw
        case rel =>
          refine ⟨k + 1, r' % facN j, g4, cap4, rest.take q ++ rest.drop (q + 1), pre ++ [x], by omega, by go_num, by go_num, ?_, ?_, by rw [List.length_append, HPL.out]; rfl, by rw [HJ2.out]; exact hrm, ?_, ?_, ?_, HN4.out, HB4.out⟩
          · rw [show q + (n - k - (q + 1)) = n - (k + 1) by omega]
          · rw [List.length_append, List.length_take, List.length_drop, HRL.out]; omega
          · rw [HJ2.out, ← HUN.out]; simp [runR, HQ.out, HX.out]
          · have := HO4.out; rw [show 0 + q + (n - k - (q + 1)) = n - (k + 1) by omega, List.nil_append, ← natCells_app] at this; rw [show q + (n - k - (q + 1)) = n - (k + 1) by omega]; exact this
          · have := HP4.out; rw [natCells_app]; exact this
        case measure => simp [intOf]; omega
      · refine wp_region_any (by kernel_rfl) ?_
        change wpAny _ _ _ _ _ _ _ (World.drew _)
        refine wpAny_take (i := 1) (v := ?vb1) rfl (by kernel_rfl) (by kernel_rfl) (by kernel_rfl) (fun _ _ _ h => h) (Or.inl ⟨by rfl, ?hyb1⟩) ?restb1
        case hyb1 => intro w; go_simp; with_reducible rfl
        refine wpAny_take (i := 2) (v := ?vb2) rfl (by kernel_rfl) (by kernel_rfl) (by kernel_rfl) (fun _ _ _ h => h) (Or.inl ⟨by rfl, ?hyb2⟩) ?restb2
        case hyb2 => intro w; go_simp; with_reducible rfl
        refine wpAny_take (i := 3) (v := ?vb3) rfl (by kernel_rfl) (by kernel_rfl) (by kernel_rfl) (fun _ _ _ h => h) (Or.inl ⟨by rfl, ?hyb3⟩) ?restb3
        case hyb3 => intro w; go_simp; with_reducible rfl
        refine wpAny_take (i := 5) (v := ?vb5) rfl (by kernel_rfl) (by kernel_rfl) (by kernel_rfl) (fun _ _ _ h => h) (Or.inl ⟨by rfl, ?hyb5⟩) ?restb5
        case hyb5 => intro w; go_simp; with_reducible rfl
        refine wpAny_take (i := 6) (v := ?vb6) rfl (by kernel_rfl) (by kernel_rfl) (by kernel_rfl) (fun _ _ _ h => h) (Or.inl ⟨by rfl, ?hyb6⟩) ?restb6
        case hyb6 => intro w; go_simp; with_reducible rfl
        refine wpAny_take (i := 7) (v := ?vb7) rfl (by kernel_rfl) (by kernel_rfl) (by kernel_rfl) (fun _ _ _ h => h) (Or.inl ⟨by rfl, ?hyb7⟩) ?restb7
        case hyb7 => intro w; go_simp; with_reducible rfl
        refine wpAny_take (i := 8) (v := ?vb8) rfl (by kernel_rfl) (by kernel_rfl) (by kernel_rfl) (fun _ _ _ h => h) (Or.inl ⟨by rfl, ?hyb8⟩) ?restb8
        case hyb8 => intro w; go_simp; with_reducible rfl
        refine wpAny_ready (rs := [0]) (by kernel_rfl) (by simp) ?_
        refine AllReady.cons rfl (fun K hK => ?_) AllReady.nil
        go_simp
        refine hK _ _ ?_
        clear hK K
        refine wpAny_ready (rs := [4]) (by kernel_rfl) (by simp) ?_
        refine AllReady.cons rfl (fun K hK => ?_) AllReady.nil
        rw [if_pos (by rfl)]
        refine app_wp _ _ 23 rfl Try.underlying23 w.heap.size (.slice (some ⟨w2.heap.size, 0, none⟩) 0 0) 0 [] rfl HE.out ⟨g, 0, none⟩ q _ (natCells (rest.take q)) rfl (by rw [natCells_length, List.length_take, HRL.out]; omega) (owns_take HOR3.out q) (natCells_one _) (by omega) (by simp; omega) ?_
        intro v3 w3 ho3 hg3 hf3 hs3
        refine hK _ _ ?_
        clear hK K
        refine wpAny_ready (rs := [9]) (by kernel_rfl) (by simp) ?_
        refine AllReady.cons rfl (fun K hK => ?_) AllReady.nil
        rw [if_pos (by rfl)]
        obtain ⟨hB3, hor3, hop3, hbl3⟩ := unr_one HB2.out HOR2.out HOP2.out hBs2 hg3 hf3
        refine app_wp _ _ 23 rfl Try.underlying23 w.heap.size v3 (0 + q) ([] ++ natCells (rest.take q)) rfl ho3 ⟨g, q + 1, none⟩ (n - k - (q + 1)) _ (natCells (rest.drop (q + 1))) rfl (by rw [natCells_length, List.length_drop, HRL.out]; omega) (owns_part hor3 (q + 1)) (natCells_one _) (by omega) (by have := hB3.size; omega) ?_
        intro v4 w4 ho4 hg4 hf4 hs4
        obtain ⟨g4, cap4, rfl⟩ := hs4 (by obtain ⟨g3, c3, rfl⟩ := hs3 (by simp); simp)
        obtain ⟨hB4, hop4, hne4⟩ := unr_two hB3 hop3 hbl3 HOP2.out hg4 hf4 hBs2
        refine hK _ _ ?_
        clear hK K
        refine wpAny_ready (rs := [10]) (by kernel_rfl) (by simp) ?_
        refine AllReady.cons rfl (fun K hK => ?_) AllReady.nil
        go_simp
        refine hK _ _ ?_
        clear hK K
        refine wpAny_done (by kernel_rfl) ?_ _
        have HO4 := Lib.hid ho4
        have HB4 := Lib.hid hB4
        have HP4 := Lib.hid hop4
        have HN4 := Lib.hid hne4
        clear ho4 hB4 hop4 hne4 hg4 hf4 hs4 ho3 hg3 hf3 hs3 hB3 hor3 hop3 hbl3
        try go_frame
        go_wp2_with fail
        go_roundw
        case rel =>
          refine ⟨k + 1, r' % facN j, g4, cap4, rest.take q ++ rest.drop (q + 1), pre ++ [x], by omega, by go_num, by go_num, ?_, ?_, by rw [List.length_append, HPL.out]; rfl, by rw [HJ2.out]; exact hrm, ?_, ?_, ?_, HN4.out, HB4.out⟩
          · rw [show q + (n - k - (q + 1)) = n - (k + 1) by omega]
          · rw [List.length_append, List.length_take, List.length_drop, HRL.out]; omega
          · rw [HJ2.out, ← HUN.out]; simp [runR, HQ.out, HX.out]
          · have := HO4.out; rw [show 0 + q + (n - k - (q + 1)) = n - (k + 1) by omega, List.nil_append, ← natCells_app] at this; rw [show q + (n - k - (q + 1)) = n - (k + 1) by omega]; exact this
          · have := HP4.out; rw [natCells_app]; exact this
        case measure => simp [intOf]; omega
    · have hkm : k = n := by omega
      subst hkm
      have hx : natCells pre = natCells L := by
        rw [← HUN.out, Nat.sub_self]; simp [runR]
      rw [hx] at hop
      obtain ⟨gp, cp, rfl⟩ := owns_pos hop h1
      have HOPF := Lib.hid hop
      clear hx hop hor
      go_wp2_with fail
      go_ret
      exact ⟨gp, cp, rfl, HOPF.out, hB⟩
end Go.Proofs.Ytdpnmepplkiljaa
