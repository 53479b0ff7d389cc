/- Plain facts: whether a list is fair, and the least window in which it is. -/
import Derived.Test.YtjaiahnibeieiaaM2
namespace Go.Proofs.Ytjaiahnibeieiaa

/-- whether a list is fair -/
def fairI (z : Nat → Int) (L : Nat) (n w : Int) : Bool :=
  if n < 1 ∨ w < n then false else if (L : Int) < w then true else decide (∀ g ∈ gapsL z L n.toNat, g ≤ w)
/-- the least window -/
def gapI (z : Nat → Int) (L : Nat) (n : Int) : Int :=
  if n < 1 then 0 else if (L : Int) < n then n else (gapsL z L n.toNat).foldl max n
theorem max_base (l : List Int) : ∀ a : Int, a ≤ l.foldl max a := by
  induction l with
  | nil => intro a; exact Int.le_refl _
  | cons x l ih => intro a; exact Int.le_trans (Int.le_max_left a x) (ih (max a x))
theorem max_mem (l : List Int) : ∀ a : Int, ∀ g ∈ l, g ≤ l.foldl max a := by
  induction l with
  | nil => intro a g hg; cases hg
  | cons x l ih =>
    intro a g hg
    rcases List.mem_cons.1 hg with rfl | h
    · exact Int.le_trans (Int.le_max_right a g) (max_base l (max a g))
    · exact ih (max a x) g h
theorem max_is (l : List Int) : ∀ a : Int, l.foldl max a = a ∨ l.foldl max a ∈ l := by
  induction l with
  | nil => intro a; exact .inl rfl
  | cons x l ih =>
    intro a
    rcases ih (max a x) with h | h
    · show l.foldl max (max a x) = a ∨ l.foldl max (max a x) ∈ x :: l
      rw [h]
      by_cases e : a ≤ x
      · rw [Int.max_eq_right e]; exact .inr (List.mem_cons_self)
      · rw [Int.max_eq_left (by omega)]; exact .inl rfl
    · exact .inr (List.mem_cons_of_mem _ h)
section
variable {z : Nat → Int} {L : Nat} {n w : Int}
theorem fair_less (h : n < 1 ∨ w < n) : fairI z L n w = false := if_pos h
theorem fair_great (h : ¬ (n < 1 ∨ w < n)) (h2 : (L : Int) < w) : fairI z L n w = true := by unfold fairI; rw [if_neg h, if_pos h2]
theorem fair_in (h : ¬ (n < 1 ∨ w < n)) (h2 : ¬ (L : Int) < w) : fairI z L n w = decide (∀ g ∈ gapsL z L n.toNat, g ≤ w) := by unfold fairI; rw [if_neg h, if_neg h2]
theorem fair_more {more : Int} (hm : 0 ≤ more) (h : fairI z L n w = true) : fairI z L n (w + more) = true := by
  by_cases h1 : n < 1 ∨ w < n
  · rw [fair_less h1] at h; cases h
  · by_cases h2 : (L : Int) < w + more
    · exact fair_great (by omega) h2
    · rw [fair_in h1 (by omega)] at h
      rw [fair_in (by omega) h2]
      have h' := of_decide_eq_true h
      exact decide_eq_true fun g hg => Int.le_trans (h' g hg) (by omega)
theorem gap_ge (h : 1 ≤ n) : n ≤ gapI z L n := by
  unfold gapI
  rw [if_neg (by omega)]
  split
  · exact Int.le_refl _
  · exact max_base _ _
theorem gap_le (h : 1 ≤ n) (h2 : n ≤ (L : Int)) : gapI z L n ≤ (L : Int) + 1 := by
  unfold gapI
  rw [if_neg (by omega), if_neg (by omega)]
  rcases max_is (gapsL z L n.toNat) n with e | e
  · rw [e]; omega
  · exact (gapsL_le e).2
theorem fair_gap (h : 1 ≤ n) : fairI z L n (gapI z L n) = true := by
  have h0 := gap_ge (z := z) (L := L) h
  by_cases h2 : (L : Int) < gapI z L n
  · exact fair_great (by omega) h2
  · rw [fair_in (by omega) h2]
    refine decide_eq_true fun g hg => ?_
    unfold gapI
    rw [if_neg (by omega), if_neg (by omega)]
    exact max_mem _ _ g hg
theorem gap_below {v : Int} (h : 1 ≤ n) (h1 : n ≤ v) (h2 : v < gapI z L n) : fairI z L n v = false := by
  by_cases h3 : (L : Int) < n
  · exfalso
    unfold gapI at h2
    rw [if_neg (by omega), if_pos h3] at h2
    omega
  · have h4 := gap_le (z := z) (L := L) h (by omega)
    rw [fair_in (by omega) (by omega)]
    refine decide_eq_false fun hall => ?_
    unfold gapI at h2
    rw [if_neg (by omega), if_neg h3] at h2
    rcases max_is (gapsL z L n.toNat) n with e | e
    · omega
    · have := hall _ e
      omega
theorem fair_wins {N W : Nat} (h : 1 ≤ N) (h1 : N ≤ W) (h2 : W ≤ L) : fairI z L (N : Int) (W : Int) = true ↔ Wins z L N W := by
  rw [fair_in (by omega) (by omega), Int.toNat_natCast, ← wins_iff]
  exact ⟨of_decide_eq_true, decide_eq_true⟩
end
theorem fair_round {N M : Nat} (h : 1 ≤ N) : fairI (fun i => ((i % N : Nat) : Int)) M (N : Int) (N : Int) = true := by
  by_cases h2 : (M : Int) < (N : Int)
  · exact fair_great (by omega) h2
  · rw [fair_wins h (Nat.le_refl _) (by omega)]
    intro x hx a _
    refine ⟨a + (x + N - a % N) % N, by omega, by have := Nat.mod_lt (x + N - a % N) (show 0 < N by omega); omega, ?_⟩
    have ha := Nat.mod_lt a (show 0 < N by omega)
    have e : (a + (x + N - a % N) % N) % N = x := by
      rw [Nat.add_mod, Nat.mod_mod, ← Nat.add_mod]
      have e2 : a + (x + N - a % N) = N * (a / N) + (x + N) := by
        have := Nat.div_add_mod a N
        omega
      rw [e2, Nat.mul_add_mod, Nat.add_mod_right, Nat.mod_eq_of_lt hx]
    show (((a + (x + N - a % N) % N) % N : Nat) : Int) = (x : Int)
    rw [e]
end Go.Proofs.Ytjaiahnibeieiaa
