/-
  Contract of Order of package perm at every valid permutation (given that the orders of the prefixes of its cycles stay small, which the next text shows of every permutation).
-/
import Derived.Test.YtdpnmepplkiljaaDoorI
import Derived.RegionIn
import Derived.Maps.RangeWalk
namespace Go.Proofs.YtdpnmepplkiljaaDoor
open Go.RowKit Go.Shelf

attribute [local go_sem] Oper.semAt_some

theorem operIn_round {F : Fence} {n : Nat} {P : Program} {o : Oper} {a : Act} {w : World} {K : Act → World → Prop} {Q : Exit → Act → World → Prop} (l : Nat) (hd : ∀ c, o.op ≠ .defer c)
    (h : o.wpIn F n P a w K Q) : o.wpIn (F.inRound l) n P a w K Q := by
  unfold Oper.wpIn at h ⊢
  rw [Oper.semAt_eq _ _ _ hd] at h ⊢
  exact h

theorem anyIn_round {F : Fence} {n : Nat} {P : Program} {md : Region.Mode} {ops : Array Oper} {Q : Exit → Act → World → Prop} (l : Nat) (hd : ∀ (i : Nat) (o : Oper), ops[i]? = some o → ∀ c, o.op ≠ .defer c) :
    ∀ (fuel : Nat) (listed : Array Bool) (a : Act) (w : World), wpAnyIn F n P md ops Q fuel listed a w → wpAnyIn (F.inRound l) n P md ops Q fuel listed a w
  | 0, _, _, _, h => h
  | fuel + 1, _, _, _, h => ⟨h.1, fun i hi => by
      have h2 := h.2 i hi
      unfold wpOpIn at h2 ⊢
      split
      · rename_i ho
        simp only [ho] at h2
        exact anyIn_round l hd fuel _ _ _ h2
      · rename_i o ho
        simp only [ho] at h2
        split
        · rename_i hw
          rw [if_pos hw] at h2
          exact operIn_round l (hd i o ho) (Oper.wpIn_mono (fun a w hh => anyIn_round l hd fuel _ a w hh) h2)
        · rename_i hw
          rw [if_neg hw] at h2
          exact ⟨h2.1, anyIn_round l hd fuel _ _ _ h2.2⟩⟩

def isDefer : Op → Bool
  | .defer _ => true
  | _ => false

/-- A region in a round's frame, walked as in a plain one. -/
theorem region_round {F : Fence} {n : Nat} {P : Program} {id : Nat} {ops : Array Oper} {Q : Exit → Act → World → Prop} {a : Act} {w : World} (l : Nat) (hm : P.follows .mixedOrders = true)
    (hd : ops.all (fun o => !isDefer o.op) = true) (h : wpAnyIn F n P .any ops Q ops.size (Array.replicate ops.size false) a w.drew) : (Code.region id ops true).wpIn (F.inRound l) n P Q a w :=
  wpIn_region_any hm (anyIn_round l (fun i o ho c e => by
    have hi := (Array.getElem?_eq_some_iff.1 ho)
    have := Array.all_eq_true.1 hd i hi.1
    rw [hi.2, e] at this
    simp [isDefer] at this) _ _ _ _ h)

theorem allCycles_in (n : Nat) (a : Option Addr) (m cap : Nat) (w : World) :
    CallsIn Fence.wide n Tryd.prog 38 #[.slice a m cap] w fun e w' => e = .returned (.func (.func 43) #[] #[.pointer (some ⟨w.heap.size, 0, none⟩)]) ∧ w' = w.alloc (.cells #[.slice a m cap] 23) := by
  refine callsIn_of_wp Tryd.func38 rfl trivial ?_ rfl
  simp only [Tryd.ntmps38, List.size_toArray, List.length_cons, List.length_nil, Nat.reduceAdd, Nat.reduceSub, Array.replicate_succ, Array.replicate_zero, List.push_toArray, List.append_toArray, List.nil_append, List.cons_append]
  gi_wp2
  go_ret
  exact ⟨rfl, rfl⟩

def ordStep (o : Nat) (c : List Nat) : Nat := o / Nat.gcd o c.length * c.length
def ordL (cs : List (List Nat)) : Nat := cs.foldl ordStep 1
theorem ordL_snoc (cs : List (List Nat)) (c : List Nat) : ordL (cs ++ [c]) = ordL cs / Nat.gcd (ordL cs) c.length * c.length := by simp [ordL, ordStep]

theorem OnlyIn.drewN {own : List Nat} {A W : World} (h : OnlyIn own A W) (q : Nat) : OnlyIn own A (W.drewN q) := ⟨h.os, h.tape, h.output, h.size, h.block⟩

theorem iter_at (n : Nat) (hn : 1 ≤ n) (ps : List Nat) (hp : IsPerm ps) (b off cap : Nat) (w : World) (own : List Nat)
    (hb : b < w.heap.size) (hob : b ∉ own) (hown : ∀ k, k ∈ own → k < w.heap.size) (hrd : RdN w b off ps) :
    IterOk n Tryd.prog 43 #[.pointer (some ⟨w.heap.size, 0, none⟩)] (fun x : Cyc => #[x.val]) (Cyc.Next ps) Cyc.Rd (fun xs => xs.map Cyc.cyc = allCyc ps) own (w.alloc (.cells #[.slice (some ⟨b, off, none⟩) ps.length cap] 23)) :=
  iter_any n hn ps ps.length b off cap w.heap.size _ own hp.1 hp.2.1 rfl hp.lt (by simp; omega) (by simp) hob (fun e => by have := hown _ e; omega) (fun k e => by have := hown _ e; simp; omega)
    (hrd.below ((Below.refl w.heap.size w).alloc (Nat.le_refl _) _) hb) (by rw [World.cell?_alloc_at _ _ _ _ rfl]; rfl)

theorem ord_val (o g l : Nat) (ho : o ≤ 5040) (hl : l ≤ 7) : IntKind.i64.wrap (IntKind.i64.wrap ((o : Int) / (g : Int)) * (l : Int)) = ((o / g * l : Nat) : Int) := by
  have h : o / g ≤ o := Nat.div_le_self _ _
  rw [← Int.natCast_ediv]
  obtain ⟨c, hc⟩ : ∃ c, o / g = c := ⟨_, rfl⟩
  rw [hc] at h ⊢
  have h2 : c * l ≤ 5040 * 7 := Nat.mul_le_mul (by omega) hl
  have h3 : ((c * l : Nat) : Int) = (c : Int) * (l : Int) := by simp
  rw [IntWalk.i64_in (c : Int) (by omega), ← h3]
  exact IntWalk.i64_in _ (by omega)

theorem ord_box {W : World} {B o g l q o' : Nat} (hb : Boxed W B 3 (.int .i64 (o : Int))) (hv : IntKind.i64.wrap (IntKind.i64.wrap ((o : Int) / (g : Int)) * (l : Int)) = (o' : Int)) :
    Boxed ((W.drewN q).setCell ⟨B, 0, none⟩ (.int .i64 (IntKind.i64.wrap (IntKind.i64.wrap ((o : Int) / (g : Int)) * (l : Int))))) B 3 (.int .i64 (o' : Int)) := by
  rw [hv]
  have hb' : Boxed (W.drewN q) B 3 (.int .i64 (o : Int)) := hb
  exact hb'.set _

theorem divisor_g (a b g : Nat) (hg : Nat.gcd a b = g) (w : World) (ha : a ≤ 10000) (hb : b ≤ 10000) :
    Calls Tryd.prog 39 #[.int .i64 a, .int .i64 b] w fun e w' => e = .returned (.int .i64 (g : Nat)) ∧ ∃ q, w' = w.drewN q := by
  rw [← hg]; exact divisor_any a b w ha hb

set_option maxRecDepth 100000 in
set_option maxHeartbeats 400000 in
theorem order_ok (v : Value) (ps : List Nat) (w : World) (h : SlI w v (ints ps)) (hp : IsPerm ps) (hok : ∀ pre, pre <+: allCyc ps → ordL pre ≤ 5040) (hok2 : ∀ c ∈ allCyc ps, 1 ≤ c.length ∧ c.length ≤ 7) :
    Calls Tryd.prog 20 #[v] w fun e w' => e = .returned (.int .i64 (ordL (allCyc ps) : Nat)) ∧ Below w.heap.size w w' := by
  obtain ⟨b, off, cap, hve, hb, hrd⟩ := h.perm hp
  subst hve
  have hv := valid_yes _ _ w h (valI_perm hp)
  have HV := Lib.hid hv
  have HOK := Lib.hid hok
  have HOK2 := Lib.hid hok2
  clear hv h hok hok2
  refine (callsIn_wide (n := 3)).1 ?_
  refine callsIn_of_wp_marks Tryd.func20 rfl trivial ?_ rfl
  simp only [Tryd.ntmps20, List.size_toArray, List.length_cons, List.length_nil, Nat.reduceAdd, Nat.reduceSub, Array.replicate_succ, Array.replicate_zero, List.push_toArray, List.append_toArray, List.nil_append, List.cons_append]
  gi_wp2_with (first | (refine ⟨trivial, ?_⟩; gi_at_call 23; refine (callsIn_wide.2 HV.out).mono ?_; rintro e w1 ⟨rfl, hB1⟩) | (refine ⟨trivial, ?_⟩; gi_at_call 38; refine (allCycles_in _ _ _ _ _).mono ?_; rintro e w2 ⟨rfl, rfl⟩))
  have hs1 := hB1.size
  have bO := Boxed.new w1 3 (.int .i64 1)
  have hB2 : Below w.heap.size w (w1.alloc (.cells #[.int .i64 1] 3)) := hB1.alloc hs1 _
  have hB3 : Below w.heap.size w ((w1.alloc (.cells #[.int .i64 1] 3)).alloc (.cells #[.slice (some ⟨b, off, none⟩) ps.length cap] 23)) := hB2.alloc (by simp; omega) _
  have hit := iter_at (3 - 1) (by omega) ps hp b off cap (w1.alloc (.cells #[.int .i64 1] 3)) [w1.heap.size] (by simp; omega) (by simp; omega) (by simp) (hrd.below hB2 hb)
  rw [World.size_alloc] at hit
  refine rangeFunc_iter (gf := 43) (lb := #[.pointer (some ⟨w1.heap.size + 1, 0, none⟩)]) rfl (enters_of Tryd.func43 (by kernel_rfl) rfl) hit Cyc.rd_keep (by simp; omega) (fun _ => rfl)
    (fun pre W => Boxed W w1.heap.size 3 (.int .i64 (ordL (pre.map Cyc.cyc) : Nat)) ∧ (pre.map Cyc.cyc <+: allCyc ps) ∧ Below w.heap.size w W)
    (fun _ _ => False)
    (fun pre A B hi hAB => ⟨(hAB.block _ (by simp; omega)).trans hi.1, hi.2.1, hi.2.2.trans (hAB.mono (by simp; omega))⟩)
    (fun _ _ _ hf _ => hf)
    ⟨bO.alloc _, ⟨allCyc ps, rfl⟩, hB3⟩
    (fun x => { tmps := #[.slice (some ⟨b, off, none⟩) ps.length cap, undef, .int .i64 0, .pointer (some ⟨w1.heap.size, 0, none⟩), .slice (some ⟨x.blk, 0, none⟩) x.cyc.length x.cap, .slice (some ⟨b, off, none⟩) ps.length cap, .bool true, .bool false, .slice (some ⟨b, off, none⟩) ps.length cap,
      .func (.func 43) #[] #[.pointer (some ⟨w1.heap.size + 1, 0, none⟩)], .slice (some ⟨x.blk, 0, none⟩) x.cyc.length x.cap, undef, undef, undef, undef, undef, undef, undef, undef, undef, undef], defers := [] }) ?assign ?body ?done ?stop
  case assign =>
    intro l x W K hK
    simp only [Cyc.val]
    gi_wp2
    exact hK
  case body =>
    rintro l D pre x W hD hDW ⟨hbx, hpre, hBW⟩ hnext hrdx
    obtain ⟨o, hoe⟩ : ∃ o, ordL (pre.map Cyc.cyc) = o := ⟨_, rfl⟩
    have ho : o ≤ 5040 := hoe ▸ HOK.out _ hpre
    have hxm : x.cyc ∈ allCyc ps := by
      obtain ⟨t, ht⟩ := hnext
      rw [← ht]; simp
    obtain ⟨hl1, hl7⟩ := HOK2.out _ hxm
    rw [hoe] at hbx
    have hc := hbx.cell
    have hf := hbx.frozen
    obtain ⟨g, hge⟩ : ∃ g, Nat.gcd o x.cyc.length = g := ⟨_, rfl⟩
    have hg1 : 1 ≤ g := hge ▸ Nat.gcd_pos_of_pos_right _ (by omega)
    have hg0 : ¬ g = 0 := by omega
    have hmx : Tryd.prog.follows .mixedOrders = true := by kernel_rfl
    have HO := Lib.hid hoe
    have HB := Lib.hid hbx
    have hord := ord_val o g x.cyc.length ho hl7
    have hon : o / g * x.cyc.length = ordL ((pre ++ [x]).map Cyc.cyc) := by rw [List.map_append, List.map_singleton, ordL_snoc, hoe, hge]
    rw [hon] at hord
    have hnx : (pre ++ [x]).map Cyc.cyc <+: allCyc ps := by rw [List.map_append, List.map_singleton]; exact hnext
    have HNX := Lib.hid hnx
    have HG := Lib.hid hge
    have HORD := Lib.hid hord
    clear hoe hpre hnext hrdx hxm hbx hord hge hon hnx
    gi_wp2
    refine region_round l hmx (by kernel_rfl) ?_
    refine wpAnyIn_take (i := 2) (v := ?v2) rfl rfl (by kernel_rfl) (by kernel_rfl) (by kernel_rfl) (fun _ _ _ h => h) ⟨Or.inl ⟨by rfl, ?hy2⟩, fun _ => rfl⟩ ?rest2
    case hy2 => intro w; go_simp; with_reducible rfl
    refine wpAnyIn_take (i := 3) (v := ?v3) rfl rfl (by kernel_rfl) (by kernel_rfl) (by kernel_rfl) (fun _ _ _ h => h) ⟨Or.inl ⟨by rfl, ?hy3⟩, fun _ => rfl⟩ ?rest3
    case hy3 => intro w; go_simp; with_reducible rfl
    refine wpAnyIn_take (i := 6) (v := ?v6) rfl rfl (by kernel_rfl) (by kernel_rfl) (by kernel_rfl) (fun _ _ _ h => h) ⟨Or.inl ⟨by rfl, ?hy6⟩, fun _ => rfl⟩ ?rest6
    case hy6 => intro w; go_simp; with_reducible rfl
    refine wpAnyIn_take (i := 7) (v := ?v7) rfl rfl (by kernel_rfl) (by kernel_rfl) (by kernel_rfl) (fun _ _ _ h => h) ⟨Or.inl ⟨by rfl, ?hy7⟩, fun _ => rfl⟩ ?rest7
    case hy7 => intro w; go_simp; with_reducible rfl
    go_frame
    refine wpAnyIn_ready (rs := [0, 1]) (by kernel_rfl) (by simp) ?_
    refine AllReadyIn.cons rfl (fun K hK => ?_) (AllReadyIn.cons rfl (fun K hK => ?_) AllReadyIn.nil)
    · go_simp
      refine hK _ _ ?_
      clear hK K
      refine wpAnyIn_ready (rs := [1]) (by kernel_rfl) (by simp) ?_
      refine AllReadyIn.cons rfl (fun K hK => ?_) AllReadyIn.nil
      go_simp
      refine hK _ _ ?_
      clear hK K
      refine wpAnyIn_ready (rs := [4]) (by kernel_rfl) (by simp) ?_
      refine AllReadyIn.cons rfl (fun K hK => ?_) AllReadyIn.nil
      go_simp
      refine ⟨trivial, ?_⟩
      refine (CallsIn.inRound l (callsIn_wide.2 (divisor_g o x.cyc.length g HG.out _ (by omega) (by omega)))).mono ?_
      rintro e w' ⟨rfl, q, rfl⟩
      refine hK _ _ ?_
      clear hK K
      refine wpAnyIn_ready (rs := [5]) (by kernel_rfl) (by simp) ?_
      refine AllReadyIn.cons rfl (fun K hK => ?_) AllReadyIn.nil
      go_simp
      refine hK _ _ ?_
      clear hK K
      refine wpAnyIn_ready (rs := [8]) (by kernel_rfl) (by simp) ?_
      refine AllReadyIn.cons rfl (fun K hK => ?_) AllReadyIn.nil
      go_simp
      refine hK _ _ ?_
      clear hK K
      refine wpAnyIn_ready (rs := [9]) (by kernel_rfl) (by simp) ?_
      refine AllReadyIn.cons rfl (fun K hK => ?_) AllReadyIn.nil
      go_simp
      refine hK _ _ ?_
      clear hK K
      refine wpAnyIn_done (by kernel_rfl) ?_ _
      exact ⟨((OnlyIn.refl _ W).drewN _).setCell (p := ⟨w1.heap.size, 0, none⟩) (by simp) _, ord_box HB.out HORD.out, HNX.out, (below_drewN' hBW _).setCell (p := ⟨w1.heap.size, 0, none⟩) hs1 _⟩
    · go_simp
      refine hK _ _ ?_
      clear hK K
      refine wpAnyIn_ready (rs := [0, 4]) (by kernel_rfl) (by simp) ?_
      refine AllReadyIn.cons rfl (fun K hK => ?_) (AllReadyIn.cons rfl (fun K hK => ?_) AllReadyIn.nil)
      · go_simp
        refine hK _ _ ?_
        clear hK K
        refine wpAnyIn_ready (rs := [4]) (by kernel_rfl) (by simp) ?_
        refine AllReadyIn.cons rfl (fun K hK => ?_) AllReadyIn.nil
        go_simp
        refine ⟨trivial, ?_⟩
        refine (CallsIn.inRound l (callsIn_wide.2 (divisor_g o x.cyc.length g HG.out _ (by omega) (by omega)))).mono ?_
        rintro e w' ⟨rfl, q, rfl⟩
        refine hK _ _ ?_
        clear hK K
        refine wpAnyIn_ready (rs := [5]) (by kernel_rfl) (by simp) ?_
        refine AllReadyIn.cons rfl (fun K hK => ?_) AllReadyIn.nil
        go_simp
        refine hK _ _ ?_
        clear hK K
        refine wpAnyIn_ready (rs := [8]) (by kernel_rfl) (by simp) ?_
        refine AllReadyIn.cons rfl (fun K hK => ?_) AllReadyIn.nil
        go_simp
        refine hK _ _ ?_
        clear hK K
        refine wpAnyIn_ready (rs := [9]) (by kernel_rfl) (by simp) ?_
        refine AllReadyIn.cons rfl (fun K hK => ?_) AllReadyIn.nil
        go_simp
        refine hK _ _ ?_
        clear hK K
        refine wpAnyIn_done (by kernel_rfl) ?_ _
        exact ⟨((OnlyIn.refl _ W).drewN _).setCell (p := ⟨w1.heap.size, 0, none⟩) (by simp) _, ord_box HB.out HORD.out, HNX.out, (below_drewN' hBW _).setCell (p := ⟨w1.heap.size, 0, none⟩) hs1 _⟩
      · go_simp
        refine ⟨trivial, ?_⟩
        refine (CallsIn.inRound l (callsIn_wide.2 (divisor_g o x.cyc.length g HG.out _ (by omega) (by omega)))).mono ?_
        rintro e w' ⟨rfl, q, rfl⟩
        refine hK _ _ ?_
        clear hK K
        refine wpAnyIn_ready (rs := [0]) (by kernel_rfl) (by simp) ?_
        refine AllReadyIn.cons rfl (fun K hK => ?_) AllReadyIn.nil
        go_simp
        refine hK _ _ ?_
        clear hK K
        refine wpAnyIn_ready (rs := [5]) (by kernel_rfl) (by simp) ?_
        refine AllReadyIn.cons rfl (fun K hK => ?_) AllReadyIn.nil
        go_simp
        refine hK _ _ ?_
        clear hK K
        refine wpAnyIn_ready (rs := [8]) (by kernel_rfl) (by simp) ?_
        refine AllReadyIn.cons rfl (fun K hK => ?_) AllReadyIn.nil
        go_simp
        refine hK _ _ ?_
        clear hK K
        refine wpAnyIn_ready (rs := [9]) (by kernel_rfl) (by simp) ?_
        refine AllReadyIn.cons rfl (fun K hK => ?_) AllReadyIn.nil
        go_simp
        refine hK _ _ ?_
        clear hK K
        refine wpAnyIn_done (by kernel_rfl) ?_ _
        exact ⟨((OnlyIn.refl _ W).drewN _).setCell (p := ⟨w1.heap.size, 0, none⟩) (by simp) _, ord_box HB.out HORD.out, HNX.out, (below_drewN' hBW _).setCell (p := ⟨w1.heap.size, 0, none⟩) hs1 _⟩
  case done =>
    rintro D xs W hD hS ⟨hbx, _, hBW⟩ hK
    have hc := hbx.cell
    have hx : ordL (xs.map Cyc.cyc) = ordL (allCyc ps) := by rw [hS]
    have HX := Lib.hid hx
    have hwD : w.heap.size ≤ D := by simp at hD; omega
    clear hS hx
    gi_wp2
    refine ⟨by simp, .inl ⟨_, _, rfl, run_takeDeferred hK, ?_⟩⟩
    refine ⟨_, results_tmp rfl _ _ _, ?_⟩
    exact ⟨ret_int (congrArg Nat.cast HX.out), hBW.trans (belowK_b (w := w) (Nat.le_refl _) W D _ _ hwD hK rfl rfl)⟩
  case stop =>
    rintro D pre W _ h _
    exact h.elim
end Go.Proofs.YtdpnmepplkiljaaDoor
