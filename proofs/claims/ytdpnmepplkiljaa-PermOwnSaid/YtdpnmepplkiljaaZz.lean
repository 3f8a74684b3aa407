/-
  What Mul, Commutator, Inverse, Power, Conjugator and Cycles hand back, at every argument: the same list each time, in rows of their own.
-/
import Derived.Test.YtdpnmepplkiljaaZy
import Derived.Test.YtdpnmepplkiljaaZv
namespace Go.Proofs.Ytdpnmepplkiljaa
open Go.RowKit Go.Shelf

/-- The call hands back the list L in a row of its own, and the code c. -/
def Gives (f : Nat) (args : Array Value) (w : World) (L : List Nat) (c : Int) : Prop :=
  Calls Try.prog f args w fun e w' => ∃ v, e = .returned (.tuple #[v, .int .i64 c]) ∧ w'.ownsRow w.heap.size 3 1 v L.length (natCells L) ∧ Below w.heap.size w w'

theorem owns_of_blk {w : World} {g n base : Nat} {ps : List Nat} (h : Blk w g ps) (hn : ps.length = n) (h7 : n ≤ 7) (hb : base ≤ g) : w.ownsRow base 3 1 (.slice (some ⟨g, 0, none⟩) n n) ps.length (natCells ps) := by
  subst hn
  exact ⟨by simp [natCells_length], .inr ⟨g, _, _, rfl, hb, h, Nat.le_refl _, by unfold maxLen; omega, by simp [natCells_length], by rw [Nat.mul_one, List.take_of_length_le (by simp [natCells_length])]⟩⟩

theorem gives_no {f : Nat} {args : Array Value} {w : World} {c : Int} (h : Calls Try.prog f args w fun e w' => e = .returned (.tuple #[.slice none 0 0, .int .i64 c]) ∧ Below w.heap.size w w') : Gives f args w [] c :=
  h.mono fun _ _ ⟨he, hB⟩ => ⟨_, he, World.ownsRow_nil _ _ _ _, hB⟩

theorem gives_yes {f n : Nat} {args : Array Value} {w : World} {L : List Nat} (hn : L.length = n) (h7 : n ≤ 7) (h : Calls Try.prog f args w fun e w' => ∃ g, e = .returned (.tuple #[.slice (some ⟨g, 0, none⟩) n n, .int .i64 0]) ∧ w.heap.size ≤ g ∧ Blk w' g L ∧ Below w.heap.size w w') : Gives f args w L 0 :=
  h.mono fun _ _ ⟨_, he, hg, hb, hB⟩ => ⟨_, he, owns_of_blk hb hn h7 hg, hB⟩

def Pair (f : Nat) (l l' : List Int) : Prop := ∃ (L : List Nat) (c : Int), L.length ≤ 7 ∧ ∀ v v' w, SlI w v l → SlI w v' l' → Gives f #[v, v'] w L c

theorem mul_gives (l l' : List Int) : Pair 35 l l' := by
  rcases chk_cases l l' with h | h | h
  · obtain ⟨ps, qs, rfl, rfl, hp, hq, hl⟩ := chk_zero h
    exact ⟨mulN ps qs, 0, by rw [mulN_length]; exact hp.2.1, fun v v' w h1 h2 => gives_yes (mulN_length _ _) hp.2.1 (mul_ok v v' ps qs w h1 h2 hp hq hl)⟩
  · exact ⟨[], 1, Nat.zero_le _, fun v v' w h1 h2 => gives_no (mul_bad v v' l l' w h1 h2 1 h (by decide))⟩
  · exact ⟨[], 2, Nat.zero_le _, fun v v' w h1 h2 => gives_no (mul_bad v v' l l' w h1 h2 2 h (by decide))⟩

theorem comm_gives (l l' : List Int) : Pair 36 l l' := by
  rcases chk_cases l l' with h | h | h
  · obtain ⟨ps, qs, rfl, rfl, hp, hq, hl⟩ := chk_zero h
    exact ⟨commN ps qs, 0, by rw [commN_length]; exact hp.2.1, fun v v' w h1 h2 => gives_yes (commN_length _ _) hp.2.1 (comm_ok v v' ps qs _ w h1 h2 hp hq rfl hl)⟩
  · exact ⟨[], 1, Nat.zero_le _, fun v v' w h1 h2 => gives_no (comm_bad v v' l l' w h1 h2 1 h (by decide))⟩
  · exact ⟨[], 2, Nat.zero_le _, fun v v' w h1 h2 => gives_no (comm_bad v v' l l' w h1 h2 2 h (by decide))⟩

theorem conj_gives (l l' : List Int) : Pair 40 l l' := by
  rcases chk_cases l l' with h | h | h
  · obtain ⟨ps, qs, rfl, rfl, hp, hq, hl⟩ := chk_zero h
    rcases hc : conjN ps qs with _ | L
    · refine ⟨[], 6, Nat.zero_le _, fun v v' w h1 h2 => ?_⟩
      obtain ⟨b, off, cap, rfl, hb, hrd⟩ := h1.perm hp
      obtain ⟨b2, off2, cap2, rfl, hb2, hrd2⟩ := h2.perm hq
      have := conj_none b off cap b2 off2 cap2 ps.length ps qs w hp hq rfl hl hb hb2 hrd hrd2 hc
      rw [hl]
      exact gives_no this
    · have hL : L.length = ps.length := by
        rcases conjN_spec hp hq hl with ⟨L', h1, h2, _⟩ | ⟨h1, _⟩
        · rw [hc] at h1
          cases h1
          exact h2.len
        · rw [hc] at h1
          cases h1
      refine ⟨L, 0, by rw [hL]; exact hp.2.1, fun v v' w h1 h2 => ?_⟩
      obtain ⟨b, off, cap, rfl, hb, hrd⟩ := h1.perm hp
      obtain ⟨b2, off2, cap2, rfl, hb2, hrd2⟩ := h2.perm hq
      have := conj_some b off cap b2 off2 cap2 ps.length ps qs L w hp hq rfl hl hb hb2 hrd hrd2 hc
      rw [hl]
      exact gives_yes hL hp.2.1 this
  · refine ⟨[], 1, Nat.zero_le _, fun v v' w h1 h2 => ?_⟩
    obtain ⟨a, cap, rfl, _⟩ := id h1
    obtain ⟨a', cap', rfl, _⟩ := id h2
    exact gives_no (conj_bad a a' _ cap _ cap' l l' w h1 h2 1 h (by decide))
  · refine ⟨[], 2, Nat.zero_le _, fun v v' w h1 h2 => ?_⟩
    obtain ⟨a, cap, rfl, _⟩ := id h1
    obtain ⟨a', cap', rfl, _⟩ := id h2
    exact gives_no (conj_bad a a' _ cap _ cap' l l' w h1 h2 2 h (by decide))

theorem inv_gives (l : List Int) : ∃ (L : List Nat) (c : Int), L.length ≤ 7 ∧ ∀ v w, SlI w v l → Gives 16 #[v] w L c := by
  rcases hv : valI l with _ | _
  · exact ⟨[], 1, Nat.zero_le _, fun v w h => gives_no (inverse_bad v l w h hv)⟩
  · obtain ⟨ps, rfl, hp⟩ := perm_valI hv
    refine ⟨backN ps, 0, by rw [backN_length]; exact hp.2.1, fun v w h => ?_⟩
    obtain ⟨b, off, cap, rfl, hb, hrd⟩ := h.perm hp
    exact gives_yes (backN_length _) hp.2.1 (inverse_ok b off cap _ ps w hp rfl hb hrd)

theorem pow_gives (l : List Int) (k : Int) : ∃ (L : List Nat) (c : Int), L.length ≤ 7 ∧ ∀ v w, SlI w v l → Gives 37 #[v, .int .i64 k] w L c := by
  rcases hv : valI l with _ | _
  · exact ⟨[], 1, Nat.zero_le _, fun v w h => gives_no (power_bad v l k w h hv)⟩
  · obtain ⟨ps, rfl, hp⟩ := perm_valI hv
    have hi := (iterN_perm hp (powT ps k)).2
    refine ⟨iterN ps (powT ps k), 0, by rw [hi]; exact hp.2.1, fun v w h => ?_⟩
    obtain ⟨b, off, cap, rfl, hb, hrd⟩ := h.perm hp
    exact gives_yes hi hp.2.1 (power_at b off cap _ k ps w hp rfl hb hrd)

/-- What SpoilLists asks of a list of lists of the call's own. -/
def Rows (w : World) (base : Nat) (lv : Value) : Prop := ∃ m vals, w.ownsRow base 22 1 lv m vals ∧ (∀ (j : Nat) (v : Value), vals[j]? = some v → ∃ n xs, w.ownsRow base 3 1 v n xs ∧ n ≤ 900) ∧ m ≤ 900

theorem cyc_gives (l : List Int) (v : Value) (w : World) (h : SlI w v l) : Calls Try.prog 20 #[v] w fun e w' => ∃ lv, e = .returned lv ∧ Rows w' w.heap.size lv ∧ Below w.heap.size w w' := by
  rcases hv : valI l with _ | _
  · exact (cycles_bad v l w h hv).mono fun _ _ ⟨he, hB⟩ => ⟨_, he, ⟨0, [], World.ownsRow_nil _ _ _ _, fun j v hj => by simp at hj, by omega⟩, hB⟩
  · obtain ⟨ps, rfl, hp⟩ := perm_valI hv
    refine (cycles_ok v ps w h hp).mono fun _ _ ⟨lv, xs, he, hx, hr, hrd, hB⟩ => ⟨lv, he, ⟨_, _, hr, fun j v hj => ?_, ?_⟩, hB⟩
    · obtain ⟨x, hx1, rfl⟩ := List.mem_map.1 (List.mem_of_getElem? hj)
      refine ⟨_, _, hrd x hx1, ?_⟩
      have hm : x.cyc ∈ allCyc ps := by rw [← hx]; exact List.mem_map.2 ⟨x, (List.mem_filter.1 hx1).1, rfl⟩
      have := ((cyc_ok hp).2.1 _ hm).2
      omega
    · have h1 : (lg xs).length ≤ xs.length := List.length_filter_le _ _
      have h2 : xs.length = (allCyc ps).length := by rw [← hx, List.length_map]
      have := (cyc_ok hp).2.2
      omega
end Go.Proofs.Ytdpnmepplkiljaa
