/-
  Contract of ref.Less at lists of one length; Unrank's error; the permutations of all ranks, by enumeration.
-/
import Derived.Test.YtdpnmepplkiljaaDoorO
namespace Go.Proofs.YtdpnmepplkiljaaDoor
open Go.RowKit

def lessN : List Nat → List Nat → Bool
  | x :: t, y :: u => if x = y then lessN t u else decide (x < y)
  | _, _ => false

theorem lessN_same (ps qs : List Nat) (k : Nat) (h1 : k < ps.length) (h2 : k < qs.length) (h : ps[k]?.getD 0 = qs[k]?.getD 0) : lessN (ps.drop k) (qs.drop k) = lessN (ps.drop (k + 1)) (qs.drop (k + 1)) := by
  rw [List.drop_eq_getElem_cons h1, List.drop_eq_getElem_cons h2]
  have : ps[k] = qs[k] := by simpa [h1, h2] using h
  simp [lessN, this]

theorem lessN_diff (ps qs : List Nat) (k : Nat) (h1 : k < ps.length) (h2 : k < qs.length) (h : ps[k]?.getD 0 ≠ qs[k]?.getD 0) : lessN (ps.drop k) (qs.drop k) = decide (ps[k]?.getD 0 < qs[k]?.getD 0) := by
  rw [List.drop_eq_getElem_cons h1, List.drop_eq_getElem_cons h2]
  have h' : ¬ ps[k] = qs[k] := by simpa [h1, h2] using h
  simp [lessN, h', h1, h2]

theorem drewN_three (w : World) (q m k : Nat) : ∃ r, ((w.drewN q).drewN m).drewN k = w.drewN r := ⟨_, by rw [World.drewN_drewN, World.drewN_drewN]⟩

/-! ### Unrank's error -/
theorem unrank_n (n r : Int) (w : World) (hn : n < 1 ∨ 7 < n) :
    Calls Tryd.prog 19 #[.int .i64 n, .int .i64 r] w fun e w' => e = .returned (.tuple #[.slice none 0 0, .int .i64 2]) ∧ w = w' := by
  go_enter Tryd.func19, Tryd.ntmps19
  go_wp2_with (go_at_call 36; refine (fits_no _ _ hn).mono ?_; rintro e w' ⟨rfl, rfl⟩)
  go_ret2
  exact ⟨rfl, rfl⟩

theorem unrank_neg (n : Nat) (r : Int) (w : World) (h1 : 1 ≤ n) (h7 : n ≤ 7) (hr : r < 0) :
    Calls Tryd.prog 19 #[.int .i64 n, .int .i64 r] w fun e w' => e = .returned (.tuple #[.slice none 0 0, .int .i64 2]) ∧ w = w' := by
  go_enter Tryd.func19, Tryd.ntmps19
  go_wp2_with (go_at_call 36; refine (fits_yes _ _ (by omega) (by omega)).mono ?_; rintro e w' ⟨rfl, rfl⟩)
  go_ret2
  exact ⟨rfl, rfl⟩

theorem unrank_big (n : Nat) (r : Int) (w : World) (h1 : 1 ≤ n) (h7 : n ≤ 7) (hr : (facN n : Int) ≤ r) :
    Calls Tryd.prog 19 #[.int .i64 n, .int .i64 r] w fun e w' => e = .returned (.tuple #[.slice none 0 0, .int .i64 2]) ∧ w = w' := by
  have hp := facN_pos n
  have h0 : 0 ≤ r := by omega
  go_enter Tryd.func19, Tryd.ntmps19
  go_wp2_with (first | (go_at_call 36; refine (fits_yes _ _ (by omega) (by omega)).mono ?_; rintro e w' ⟨rfl, rfl⟩) | (go_at_call 29; refine (factorial_nat _ n rfl _ h7).mono ?_; rintro e w' ⟨rfl, rfl⟩))
  go_ret2
  exact ⟨rfl, rfl⟩

def Ranked (n r : Int) : Prop := ∃ m s : Nat, n = m ∧ r = s ∧ 1 ≤ m ∧ m ≤ 7 ∧ s < facN m

theorem unrank_bad (n r : Int) (w : World) (h : ¬ Ranked n r) :
    Calls Tryd.prog 19 #[.int .i64 n, .int .i64 r] w fun e w' => e = .returned (.tuple #[.slice none 0 0, .int .i64 2]) ∧ w = w' := by
  by_cases hn : n < 1 ∨ 7 < n
  · exact unrank_n n r w hn
  · obtain ⟨m, rfl⟩ := Int.eq_ofNat_of_zero_le (show 0 ≤ n by omega)
    by_cases hr : r < 0
    · exact unrank_neg m r w (by omega) (by omega) hr
    · obtain ⟨s, rfl⟩ := Int.eq_ofNat_of_zero_le (show 0 ≤ r by omega)
      by_cases hs : s < facN m
      · exact absurd ⟨m, s, rfl, rfl, by omega, by omega, hs⟩ h
      · exact unrank_big m s w (by omega) (by omega) (by omega)

/-! ### All ranks -/
theorem beqI {x y : Nat} : Nat.beq x y = true ↔ x = y := by rw [Nat.beq_eq]
theorem bltI {x y : Nat} : Nat.blt x y = true ↔ x < y := by rw [Nat.blt_eq]

def lessB : List Nat → List Nat → Bool
  | x :: t, y :: u => match Nat.beq x y with
    | true => lessB t u
    | false => Nat.blt x y
  | _, _ => false

theorem lessB_eq : ∀ a b : List Nat, lessB a b = lessN a b
  | [], [] => rfl
  | [], _ :: _ => rfl
  | _ :: _, [] => rfl
  | x :: t, y :: u => by
    unfold lessB lessN
    by_cases e : x = y
    · have : Nat.beq x y = true := beqI.2 e
      rw [this, if_pos e]
      exact lessB_eq t u
    · have : Nat.beq x y = false := by
        cases h : Nat.beq x y with
        | false => rfl
        | true => exact absurd (beqI.1 h) e
      rw [this, if_neg e]
      show Nat.blt x y = decide (x < y)
      rw [Bool.eq_iff_iff]
      rw [bltI, decide_eq_true_eq]

def memB (x : Nat) : List Nat → Bool
  | [] => false
  | y :: t => Nat.beq x y || memB x t

theorem memB_of {x : Nat} : ∀ {t : List Nat}, x ∈ t → memB x t = true
  | y :: t, h => by
    unfold memB
    rcases List.mem_cons.1 h with rfl | h
    · rw [Nat.beq_refl]; rfl
    · rw [memB_of h, Bool.or_true]

def nodB : List Nat → Bool
  | [] => true
  | x :: t => !memB x t && nodB t

theorem nodB_nodup : ∀ {l : List Nat}, nodB l = true → l.Nodup
  | [], _ => List.nodup_nil
  | x :: t, h => by
    unfold nodB at h
    rw [Bool.and_eq_true, Bool.not_eq_true'] at h
    exact List.nodup_cons.2 ⟨fun hm => (by rw [memB_of hm] at h; exact absurd h.1 (by decide)), nodB_nodup h.2⟩

def ltB (n : Nat) : List Nat → Bool
  | [] => true
  | x :: t => Nat.blt x n && ltB n t

theorem ltB_lt {n : Nat} : ∀ {l : List Nat}, ltB n l = true → ∀ x ∈ l, x < n
  | y :: t, h, x, hx => by
    unfold ltB at h
    rw [Bool.and_eq_true] at h
    rcases List.mem_cons.1 hx with rfl | hx
    · exact bltI.1 h.1
    · exact ltB_lt h.2 x hx

def smB (x : Nat) : List Nat → Nat
  | [] => 0
  | y :: t => match Nat.blt y x with
    | true => smB x t + 1
    | false => smB x t

theorem smB_eq (x : Nat) : ∀ t : List Nat, smB x t = smallerN t x
  | [] => rfl
  | y :: t => by
    unfold smB smallerN
    by_cases e : y < x
    · rw [bltI.2 e, List.filter_cons_of_pos (by simpa using e), List.length_cons, ← smallerN, ← smB_eq x t]
    · have : Nat.blt y x = false := by
        cases h : Nat.blt y x with
        | false => rfl
        | true => exact absurd (bltI.1 h) e
      rw [this, List.filter_cons_of_neg (by simpa using e), ← smallerN, ← smB_eq x t]

def rankB : Nat → List Nat → Nat
  | _, [] => 0
  | 0, _ :: _ => 0
  | j + 1, x :: t => smB x t * facN j + rankB j t

theorem rankB_eq : ∀ l : List Nat, rankB l.length l = rankN l
  | [] => rfl
  | x :: t => by
    show smB x t * facN t.length + rankB t.length t = _
    rw [smB_eq, rankB_eq t]; rfl

def goodB (n r : Nat) (l : List Nat) : Bool := ltB n l && nodB l && Nat.beq (rankB n l) r

def chunk (n : Nat) : Nat → Nat → List Nat → Bool
  | 0, _, _ => true
  | c + 1, r, l => goodB n r l && lessB l (unrankN n (r + 1)) && chunk n c (r + 1) (unrankN n (r + 1))

theorem chunk_at (n : Nat) : ∀ (c r : Nat), chunk n c r (unrankN n r) = true → ∀ i, i < c → goodB n (r + i) (unrankN n (r + i)) = true ∧ lessB (unrankN n (r + i)) (unrankN n (r + i + 1)) = true
  | 0, _, _, _, h => absurd h (by omega)
  | c + 1, r, h, i, hi => by
    unfold chunk at h
    rw [Bool.and_eq_true, Bool.and_eq_true] at h
    match i with
    | 0 => exact h.1
    | i + 1 =>
      have := chunk_at n c (r + 1) h.2 i (by omega)
      rw [show r + 1 + i = r + (i + 1) by omega] at this
      exact this

theorem good_facts {n r : Nat} (h1 : 1 ≤ n) (h7 : n ≤ 7) (h : goodB n r (unrankN n r) = true) : IsPerm (unrankN n r) ∧ rankN (unrankN n r) = r := by
  have hl : (unrankN n r).length = n := unRun_length _ _ _
  unfold goodB at h
  rw [Bool.and_eq_true, Bool.and_eq_true] at h
  obtain ⟨⟨ha, hb⟩, hc⟩ := h
  refine ⟨⟨by rw [hl]; exact h1, by rw [hl]; exact h7, fun x hx => by rw [hl]; exact ltB_lt ha x hx, nodB_nodup hb⟩, ?_⟩
  rw [← rankB_eq, hl]
  exact beqI.1 hc

def AllOk (n : Nat) : Prop := ∀ r, r < facN n → goodB n r (unrankN n r) = true ∧ (r + 1 < facN n → lessB (unrankN n r) (unrankN n (r + 1)) = true)

theorem allOk_of (n c : Nat) (hc : facN n = c + 1) (h : chunk n c 0 (unrankN n 0) = true) (hl : goodB n c (unrankN n c) = true) : AllOk n := fun r hr => by
  by_cases e : r = c
  · subst e; exact ⟨hl, fun h => by omega⟩
  · have := chunk_at n c 0 h r (by omega)
    rw [Nat.zero_add] at this
    exact ⟨this.1, fun _ => this.2⟩

theorem c70 : chunk 7 720 0 (unrankN 7 0) = true := by decide +kernel
theorem c71 : chunk 7 720 720 (unrankN 7 720) = true := by decide +kernel
theorem c72 : chunk 7 720 1440 (unrankN 7 1440) = true := by decide +kernel
theorem c73 : chunk 7 720 2160 (unrankN 7 2160) = true := by decide +kernel
theorem c74 : chunk 7 720 2880 (unrankN 7 2880) = true := by decide +kernel
theorem c75 : chunk 7 720 3600 (unrankN 7 3600) = true := by decide +kernel
theorem c76 : chunk 7 719 4320 (unrankN 7 4320) = true := by decide +kernel
theorem c77 : goodB 7 5039 (unrankN 7 5039) = true := by decide +kernel

theorem allOk7 : AllOk 7 := fun r hr => by
  have hr' : r < 5040 := hr
  have pick : ∀ (c s : Nat), chunk 7 c s (unrankN 7 s) = true → s ≤ r → r < s + c → goodB 7 r (unrankN 7 r) = true ∧ (r + 1 < facN 7 → lessB (unrankN 7 r) (unrankN 7 (r + 1)) = true) := fun c s h h1 h2 => by
    have := chunk_at 7 c s h (r - s) (by omega)
    rw [show s + (r - s) = r by omega] at this
    exact ⟨this.1, fun _ => this.2⟩
  by_cases h0 : r < 720
  · exact pick 720 0 c70 (by omega) (by omega)
  by_cases h1 : r < 1440
  · exact pick 720 720 c71 (by omega) (by omega)
  by_cases h2 : r < 2160
  · exact pick 720 1440 c72 (by omega) (by omega)
  by_cases h3 : r < 2880
  · exact pick 720 2160 c73 (by omega) (by omega)
  by_cases h4 : r < 3600
  · exact pick 720 2880 c74 (by omega) (by omega)
  by_cases h5 : r < 4320
  · exact pick 720 3600 c75 (by omega) (by omega)
  by_cases h6 : r < 5039
  · exact pick 719 4320 c76 (by omega) (by omega)
  · have : r = 5039 := by omega
    subst this
    exact ⟨c77, fun h => absurd h (by decide)⟩

theorem allOk : ∀ n, 1 ≤ n → n ≤ 7 → AllOk n
  | 1, _, _ => allOk_of 1 0 rfl (by decide +kernel) (by decide +kernel)
  | 2, _, _ => allOk_of 2 1 rfl (by decide +kernel) (by decide +kernel)
  | 3, _, _ => allOk_of 3 5 rfl (by decide +kernel) (by decide +kernel)
  | 4, _, _ => allOk_of 4 23 rfl (by decide +kernel) (by decide +kernel)
  | 5, _, _ => allOk_of 5 119 rfl (by decide +kernel) (by decide +kernel)
  | 6, _, _ => allOk_of 6 719 rfl (by decide +kernel) (by decide +kernel)
  | 7, _, _ => allOk7
  | n + 8, _, h => absurd h (by omega)

theorem unrank_facts {n r : Nat} (h1 : 1 ≤ n) (h7 : n ≤ 7) (hr : r < facN n) : IsPerm (unrankN n r) ∧ rankN (unrankN n r) = r ∧ (r + 1 < facN n → lessN (unrankN n r) (unrankN n (r + 1)) = true) := by
  obtain ⟨ha, hb⟩ := allOk n h1 h7 r hr
  obtain ⟨h3, h4⟩ := good_facts h1 h7 ha
  exact ⟨h3, h4, fun hs => by rw [← lessB_eq]; exact hb hs⟩

theorem unrankN_length (n r : Nat) : (unrankN n r).length = n := unRun_length _ _ _

theorem unrank_lt {n r : Nat} (h1 : 1 ≤ n) (h7 : n ≤ 7) (hr : r < facN n) (k : Nat) (hk : k < n) : (unrankN n r)[k]?.getD 0 < n := by
  have := (unrank_facts h1 h7 hr).1.lt k (by rw [unrankN_length]; exact hk)
  rwa [unrankN_length] at this

theorem lessN_irrefl : ∀ l : List Nat, lessN l l = false
  | [] => rfl
  | x :: t => by simp [lessN, lessN_irrefl t]

theorem lessN_asymm : ∀ a b : List Nat, lessN a b = true → lessN b a = false
  | [], [], _ => rfl
  | [], _ :: _, _ => rfl
  | _ :: _, [], _ => rfl
  | x :: t, y :: u, h => by
    unfold lessN at h ⊢
    by_cases e : x = y
    · rw [if_pos e] at h
      rw [if_pos e.symm]
      exact lessN_asymm t u h
    · rw [if_neg e] at h
      rw [if_neg (fun e' => e e'.symm)]
      have := of_decide_eq_true h
      exact decide_eq_false (by omega)

theorem lessN_trans : ∀ a b c : List Nat, lessN a b = true → lessN b c = true → lessN a c = true
  | [], _, _, h, _ => by simp [lessN] at h
  | _ :: _, [], _, h, _ => by simp [lessN] at h
  | _ :: _, _ :: _, [], _, h => by simp [lessN] at h
  | x :: t, y :: u, z :: v, h, h' => by
    unfold lessN at h h' ⊢
    by_cases e : x = y
    · subst e
      rw [if_pos rfl] at h
      by_cases e' : x = z
      · rw [if_pos e'] at h' ⊢
        exact lessN_trans t u v h h'
      · rw [if_neg e'] at h' ⊢
        exact h'
    · rw [if_neg e] at h
      have h1 := of_decide_eq_true h
      by_cases e' : y = z
      · subst e'
        rw [if_neg e]
        exact h
      · rw [if_neg e'] at h'
        have h2 := of_decide_eq_true h'
        rw [if_neg (by omega)]
        exact decide_eq_true (by omega)

theorem unrank_mono {n : Nat} (h1 : 1 ≤ n) (h7 : n ≤ 7) : ∀ (d a : Nat), a + d + 1 < facN n → lessN (unrankN n a) (unrankN n (a + d + 1)) = true
  | 0, a, h => (unrank_facts h1 h7 (by omega)).2.2 (by omega)
  | d + 1, a, h => lessN_trans _ _ _ (unrank_mono h1 h7 d a (by omega)) ((unrank_facts h1 h7 (show a + d + 1 < facN n by omega)).2.2 (by omega))

theorem unrank_order {n a b : Nat} (h1 : 1 ≤ n) (h7 : n ≤ 7) (ha : a < facN n) (hb : b < facN n) : lessN (unrankN n a) (unrankN n b) = decide (a < b) := by
  by_cases h : a < b
  · obtain ⟨d, rfl⟩ : ∃ d, b = a + d + 1 := ⟨b - a - 1, by omega⟩
    rw [decide_eq_true h]
    exact unrank_mono h1 h7 d a hb
  · rw [decide_eq_false h]
    by_cases e : a = b
    · subst e; exact lessN_irrefl _
    · obtain ⟨d, rfl⟩ : ∃ d, a = b + d + 1 := ⟨a - b - 1, by omega⟩
      exact lessN_asymm _ _ (unrank_mono h1 h7 d b ha)
end Go.Proofs.YtdpnmepplkiljaaDoor
