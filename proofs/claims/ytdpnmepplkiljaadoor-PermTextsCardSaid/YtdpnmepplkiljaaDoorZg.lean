/-
  Contracts of Order and Power of the reference at valid permutations; and Power of package perm, whose images are those of the same power.
-/
import Derived.Test.YtdpnmepplkiljaaDoorN
import Derived.Test.YtdpnmepplkiljaaDoorZf
import Derived.Test.YtdpnmepplkiljaaDoorZa
namespace Go.Proofs.YtdpnmepplkiljaaDoor
open Go.RowKit Go.Shelf

/-! ### ref.Order -/
theorem ints_inj {a b : List Nat} (h : ints a = ints b) : a = b := by
  have hl : a.length = b.length := by rw [← ints_length a, h, ints_length]
  refine ext_getD a b b.length hl rfl (fun k _ => ?_)
  have := congrArg (fun l => l[k]?.getD 0) h
  simp only [ints_get] at this
  exact Int.ofNat.inj this

theorem same_dec (v v' : Value) (a b : List Nat) (w : World) (h : SlI w v (ints a)) (h' : SlI w v' (ints b)) (r : Bool) (hr : decide (a = b) = r) :
    Calls Tryd.prog 16 #[v, v'] w fun e w' => e = .returned (.bool r) ∧ ∃ q, w' = w.drewN q := by
  have := same_any v v' _ _ w h h'
  have he : decide (ints a = ints b) = r := by
    rw [← hr, Bool.eq_iff_iff, decide_eq_true_eq, decide_eq_true_eq]
    exact ⟨ints_inj, fun e => by rw [e]⟩
  rwa [he] at this

theorem ord_lt_ne {ps : List Nat} (hp : IsPerm ps) (k : Nat) (h1 : 1 ≤ k) (hk : k < ordN ps) : iterN ps k ≠ List.range ps.length := fun h => by
  have := Nat.le_of_dvd (by omega) ((iterN_ord_iff hp k).1 h)
  omega

theorem ord_eq {ps : List Nat} (hp : IsPerm ps) : iterN ps (ordN ps) = List.range ps.length := (iterN_ord_iff hp _).2 (Nat.dvd_refl _)

/-! ### ref.Power -/
def powT (ps : List Nat) (k : Int) : Nat := ((k.tmod (ordN ps : Int) + (ordN ps : Int)).tmod (ordN ps : Int)).toNat

theorem powT_eq (o : Nat) (k : Int) (ho : 1 ≤ o) : ((((k.tmod (o : Int) + (o : Int)).tmod (o : Int)).toNat : Nat) : Int) = k % (o : Int) := by
  have hb := tmod_bounds k o ho
  have hd : k.tmod (o : Int) = k - (o : Int) * k.tdiv (o : Int) := Int.tmod_def k o
  have h0 : 0 ≤ k.tmod (o : Int) + o := by omega
  rw [Int.tmod_eq_emod_of_nonneg h0, Int.toNat_of_nonneg (Int.emod_nonneg _ (by omega)), hd]
  have : k - (o : Int) * k.tdiv o + o = k + (o : Int) * (1 - k.tdiv o) := by rw [Int.mul_sub, Int.mul_one]; omega
  rw [this, Int.add_mul_emod_self_left]

theorem shift_eq (l : Nat) (k : Int) (hl : 1 ≤ l) : (((k.tmod (l : Int) + (l : Int)).toNat : Nat) : Int) % (l : Int) = k % (l : Int) := by
  have hb := tmod_bounds k l hl
  have hd : k.tmod (l : Int) = k - (l : Int) * k.tdiv (l : Int) := Int.tmod_def k l
  rw [Int.toNat_of_nonneg (by omega), hd]
  have : k - (l : Int) * k.tdiv l + l = k + (l : Int) * (1 - k.tdiv l) := by rw [Int.mul_sub, Int.mul_one]; omega
  rw [this, Int.add_mul_emod_self_left]

theorem pow_mod (o l i : Nat) (k : Int) (ho : 1 ≤ o) (hl : 1 ≤ l) (hd : l ∣ o) : (i + ((k.tmod (o : Int) + (o : Int)).tmod (o : Int)).toNat) % l = (i + (k.tmod (l : Int) + (l : Int)).toNat) % l := by
  have h1 := powT_eq o k ho
  have h2 := shift_eq l k hl
  generalize ((k.tmod (o : Int) + (o : Int)).tmod (o : Int)).toNat = t at h1 ⊢
  generalize (k.tmod (l : Int) + (l : Int)).toNat = s at h2 ⊢
  have h3 : (t : Int) % (l : Int) = k % (l : Int) := by
    rw [h1]
    exact Int.emod_emod_of_dvd k (Int.natCast_dvd_natCast.2 hd)
  have h4 : ((i + t : Nat) : Int) % (l : Int) = ((i + s : Nat) : Int) % (l : Int) := by
    rw [Int.natCast_add, Int.natCast_add, Int.add_emod, h3, ← h2, ← Int.add_emod]
  exact_mod_cast h4

theorem powF_iter {ps : List Nat} (hp : IsPerm ps) (k : Int) : PowF ps k (fun x => (iterN ps (powT ps k))[x]?.getD 0) := by
  intro c hc i hi
  refine ⟨(cycFacts hp).lt c hc _ (get_mem c i hi), ?_⟩
  show (iterN ps (powT ps k))[c[i]?.getD 0]?.getD 0 = _
  rw [cyc_iter hp hc _ i hi]
  congr 2
  exact pow_mod _ _ i k (ordN_facts hp).1 ((cycFacts hp).len c hc).1 ((ordN_facts hp).2.2.1 c hc)

theorem powF_list {ps : List Nat} (hp : IsPerm ps) (n : Nat) (hn : ps.length = n) (t : Nat) : (List.range n).map (fun x => (iterN ps t)[x]?.getD 0) = iterN ps t := by
  refine ext_getD _ _ n (by simp) ((iterN_perm hp t).2.trans hn) (fun x hx => ?_)
  simp [hx]

end Go.Proofs.YtdpnmepplkiljaaDoor
