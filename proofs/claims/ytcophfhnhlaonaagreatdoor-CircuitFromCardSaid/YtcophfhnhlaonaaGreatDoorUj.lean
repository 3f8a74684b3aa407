/-
  Joined from Pqu, Pqv: see there.
-/
import Derived.Test.YtcophfhnhlaonaaGreatDoorUi
import Derived.Deep.AppendLies
import Derived.Deep.RegionLaw
import Derived.WalkSmall
namespace Go.Proofs.YtcophfhnhlaonaaGreatDoor
set_option linter.unusedVariables false
open Go.RowKit Go.Maps

end Go.Proofs.YtcophfhnhlaonaaGreatDoor
namespace Go.Proofs.YtcophfhnhlaonaaGreatDoor
set_option linter.unusedVariables false
open Go.RowKit Go.Maps

theorem itoa_ok (i : Nat) (hi : i ≤ 1000000) (w : World) (htab : Lib.TabIs Tryz.prog w "internal/strconv.uint64pow10" .u64 Lib.pow10Tab) :
    Calls Tryz.prog 88 #[.int .i64 (i : Int)] w fun e w' => e = .returned (.string ⟨(Lib.itoa i).toArray⟩) ∧ Below w.heap.size w w' := by
  refine (Any.strconv_Itoa Tryz.itoaL (i : Int) (by omega) (by omega) w htab).mono ?_
  rintro e w' ⟨rfl, k, os, rfl⟩
  refine ⟨rfl, rfl, rfl, rfl, by simp [Go.Sort.grow], fun b hb => ?_⟩
  simp [Go.Sort.grow, Array.getElem?_append, hb]

theorem step_append_str {P : Program} {w : World} {ops : Array Oper} {o : Oper} {a : Act} {K : Act → World → Prop} {Q : Exit → Act → World → Prop} {E : Prop} (hgd : o.guard = none) (sl x : Operand) (t u : TypeId)
    (ho : o.op = .call { callee := .builtin .append, args := #[sl, x], argTypes := #[t, u] })
    (base : Nat) (e : TypeId) (i : TypeInfo) (ht : P.underlying t = some (.slice e)) (hu : P.underlying u = some .string) (hi : P.info? e = some i) (hz : i.zero = some (.int .u8 0))
    (hsize : i.size = 1) (hby : i.bytes = 1)
    (v : Value) (n : Nat) (xs : List Value) (hs : a.eval sl = v) (hown : w.ownsRow base e 1 v n xs) (s : ByteArray) (hx : a.eval x = .string s)
    (h63 : n + s.size ≤ maxLen) (hbytes : n + s.size ≤ 140737488355328) (hbase : base ≤ w.heap.size)
    (h : ∀ v' w', w'.ownsRow base e 1 v' (n + s.size) (xs ++ Lib.strCells s) → w.grownBy w' v.ownBlock → K (a.put o.dst v') w') :
    if Region.wanted o (yielded ops a.tmps) = true then Oper.wp P o a w K Q else E := by
  have hw : Region.wanted o (yielded ops a.tmps) = true := by simp [Region.wanted, hgd]
  rw [if_pos hw]
  obtain ⟨v', w', hr, h2, h3, h4⟩ := Lib.run_append_own_string (P := P) w base t u o.type e i ht hu hi hz hsize hby v n xs hown s h63 hbytes hbase
  unfold Oper.wp execOp
  simp only [ho, resolve, invoke, builtin, Sem.run_bind, Sem.run_pure, Result.andThen_ok, List.map_toArray, List.map_cons, List.map_nil, hs, hx, hr]
  exact h v' w' h2 h3

theorem tk_below {B : Nat} {l : List UInt8} {v : Value} {w0 w w' : World} (h : Tx B l v w ∧ KT B w0 w) (hB : Below w.heap.size w w') : Tx B l v w' ∧ KT B w0 w' :=
  ⟨h.1.below hB, h.2.trans (KT.of_below hB h.1.le)⟩
theorem Tx.push1g {B : Nat} {l : List UInt8} {c : UInt8} {v v2 : Value} {w0 w w2 : World} (hK : KT B w0 w) (h : Tx B l v w) (hown : w2.ownsRow B 5 1 v2 (l.length + 1) (Lib.byteCells l ++ [.int .u8 (c.toNat : Int)])) (hg : w.grownBy w2 v.ownBlock) : Tx B (l ++ [c]) v2 w2 ∧ KT B w0 w2 :=
  ⟨⟨by simpa [Lib.byteCells] using hown, Nat.le_trans h.le hg.size⟩, hK.trans (KT.grown h.own h.le hg)⟩

theorem catT_bound {n : Nat} {p : List Tm} (hn : n ≤ 80) (hx : ∀ t ∈ p, Ex n t.2) (hc : ∀ t ∈ p, t.1 ≤ 65536) (k : Nat) : (catT (p.take k)).length ≤ 4000 * k := by
  induction k with
  | zero => simp [catT]
  | succ k ih =>
    cases h : p[k]? with
    | none => rw [List.take_add_one, h]; simp; omega
    | some t =>
      have ht := List.mem_of_getElem? h
      have h1 := termT_length t hn (hc t ht) (hx t ht)
      rw [List.take_add_one, h]
      simp only [Option.toList_some]
      by_cases h0 : p.take k = []
      · rw [h0]; simp [catT]; omega
      · rw [catT_snoc _ _ h0]; simp [sepT]; omega

end Go.Proofs.YtcophfhnhlaonaaGreatDoor
