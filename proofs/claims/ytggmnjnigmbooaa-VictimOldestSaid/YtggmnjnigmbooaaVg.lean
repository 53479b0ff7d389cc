/- The walk of the law that the oldest never gives way. -/
import Derived.Test.YtggmnjnigmbooaaVe
import Derived.Test.YtggmnjnigmbooaaVf
namespace Go.Proofs.Ytggmnjnigmbooaa
open Go Go.RowKit Go.Shelf
set_option maxRecDepth 100000

theorem foldl_stepL_mem {p : Int} {st : List Int} {r : Es.Ed} : ∀ (l out : List Es.Ed), r ∈ l.foldl (stepL p st) out → r ∈ out ∨ ∃ e ∈ l, judge p (atL st e.1) (atL st e.2) ≠ 0 ∧ r = (gTx e (judge p (atL st e.1) (atL st e.2)), judge p (atL st e.1) (atL st e.2))
  | [], out, h => .inl h
  | e :: l, out, h => by
    rw [List.foldl_cons] at h
    rcases foldl_stepL_mem l _ h with h | ⟨e', he', h1, h2⟩
    · unfold stepL at h
      split at h
      · exact .inl h
      · rename_i hn
        rcases List.mem_append.1 h with h | h
        · exact .inl h
        · exact .inr ⟨e, List.mem_cons_self, fun h0 => hn (.inl h0), List.mem_singleton.1 h⟩
    · exact .inr ⟨e', List.mem_cons_of_mem _ he', h1, h2⟩
theorem allL_mem {p : Int} {st : List Int} {l : List Es.Ed} {r : Es.Ed} (h : r ∈ allL p st l) : ∃ e ∈ l, judge p (atL st e.1) (atL st e.2) ≠ 0 ∧ r = (gTx e (judge p (atL st e.1) (atL st e.2)), judge p (atL st e.1) (atL st e.2)) := by
  rcases foldl_stepL_mem l [] h with h | h
  · cases h
  · exact h
/-- who has the least stamp never gives way -/
theorem allL_oldest {p : Int} {st : List Int} {l : List Es.Ed} {x : Int} (hx : ∀ i, 0 ≤ i → i < (st.length : Int) → atL st x ≤ atL st i) (he : ∀ e ∈ l, 0 ≤ e.1 ∧ 0 ≤ e.2 ∧ e.1 < (st.length : Int) ∧ e.2 < (st.length : Int)) :
    ∀ r ∈ allL p st l, r.1 ≠ x := by
  intro r hr hrx
  obtain ⟨e, hel, hj, rfl⟩ := allL_mem hr
  obtain ⟨h1, h2, h3, h4⟩ := he e hel
  have m1 := hx e.1 h1 h3
  have m2 := hx e.2 h2 h4
  revert hj hrx
  unfold judge gTx
  by_cases p1 : p = 1
  · rw [if_pos p1]
    by_cases q : atL st e.2 < atL st e.1
    · intro _ hrx
      have hrx : e.1 = x := by simpa [q] using hrx
      rw [hrx] at q
      omega
    · simp only [if_neg q]
      exact fun h => absurd rfl h
  · rw [if_neg p1]
    by_cases p2 : p = 2
    · rw [if_pos p2]
      by_cases q : atL st e.1 < atL st e.2
      · intro _ hrx
        have hrx : e.2 = x := by simpa [q] using hrx
        rw [hrx] at q
        omega
      · simp only [if_neg q]
        exact fun h => absurd rfl h
    · rw [if_neg p2]
      exact fun h => absurd rfl h
/-- the youngest has the greatest stamp -/
theorem chS_greatest (st : List Int) : ∀ k j : Nat, j < k → atL st j ≤ atL st (chS st [] k)
  | 0, j, h => by omega
  | k + 1, j, h => by
    have hlt := chS_lt st [] k
    have e0 : ∀ i, atL [] i = 0 := fun i => by
      by_cases h : i < 0
      · exact atL_neg h
      · exact atL_off (by simpa using h)
    have hn : chS st [] (k + 1) = if chS st [] k < 0 ∨ atL [] k < atL [] (chS st [] k) ∨ atL [] k = atL [] (chS st [] k) ∧ atL st (chS st [] k) < atL st k then (k : Int) else chS st [] k := rfl
    rw [e0, e0] at hn
    rw [hn]
    clear hn
    by_cases hj : j < k
    · have ih := chS_greatest st k j hj
      split
      · rename_i h
        rcases h with h | h | h
        · omega
        · omega
        · exact Int.le_trans ih (Int.le_of_lt h.2)
      · exact ih
    · obtain rfl : j = k := by omega
      split
      · exact Int.le_refl _
      · rename_i h
        exact Int.not_lt.1 fun q => h (.inr (.inr ⟨rfl, q⟩))
theorem oldest_out (A A2 A3 : Option Addr) (n n2 n3 c c2 c3 : Nat) (p x : Int) (w : World) (hn : n ≤ maxLen) (hn2 : n2 ≤ maxLen) (hn3 : n3 ≤ maxLen) (h : 30 < n ∨ 40 < n2 ∨ x < 0 ∨ (n : Int) ≤ x ∨ 40 < n3) :
    Calls Try.prog 4 #[.slice A n c, .slice A2 n2 c2, .int .i64 p, .int .i64 x, .slice A3 n3 c3] w fun e w' => e = .returned (.bool true) ∧ Below w.heap.size w w' := by
  have HA := Lib.hid (awake_any w)
  unfold maxLen at hn hn2 hn3
  by_cases q0 : (30 : Int) < (n : Int)
  · have d0 : decide ((30 : Int) < (n : Int)) = true := decide_eq_true q0
    clear h
    go_enter Try.func4, Try.ntmps4
    go_wp2_with fail
    refine HA.out.mono ?_
    rintro e w1 ⟨rfl, rfl⟩
    go_wp2_with fail
    go_ret
    exact ⟨rfl, Below.refl _ _⟩
  have d0 : decide ((30 : Int) < (n : Int)) = false := decide_eq_false q0
  by_cases q1 : (40 : Int) < (n2 : Int)
  · have d1 : decide ((40 : Int) < (n2 : Int)) = true := decide_eq_true q1
    clear h
    go_enter Try.func4, Try.ntmps4
    go_wp2_with fail
    refine HA.out.mono ?_
    rintro e w1 ⟨rfl, rfl⟩
    go_wp2_with fail
    go_ret
    exact ⟨rfl, Below.refl _ _⟩
  have d1 : decide ((40 : Int) < (n2 : Int)) = false := decide_eq_false q1
  by_cases q2 : x < 0
  · have d2 : decide (x < 0) = true := decide_eq_true q2
    clear h
    go_enter Try.func4, Try.ntmps4
    go_wp2_with fail
    refine HA.out.mono ?_
    rintro e w1 ⟨rfl, rfl⟩
    go_wp2_with fail
    go_ret
    exact ⟨rfl, Below.refl _ _⟩
  have d2 : decide (x < 0) = false := decide_eq_false q2
  by_cases q3 : (n : Int) ≤ x
  · have d3 : decide ((n : Int) ≤ x) = true := decide_eq_true q3
    clear h
    go_enter Try.func4, Try.ntmps4
    go_wp2_with fail
    refine HA.out.mono ?_
    rintro e w1 ⟨rfl, rfl⟩
    go_wp2_with fail
    go_ret
    exact ⟨rfl, Below.refl _ _⟩
  have d3 : decide ((n : Int) ≤ x) = false := decide_eq_false q3
  have q4 : (40 : Int) < (n3 : Int) := by omega
  have d4 : decide ((40 : Int) < (n3 : Int)) = true := decide_eq_true q4
  clear h
  go_enter Try.func4, Try.ntmps4
  go_wp2_with fail
  refine HA.out.mono ?_
  rintro e w1 ⟨rfl, rfl⟩
  go_wp2_with fail
  go_ret
  exact ⟨rfl, Below.refl _ _⟩
end Go.Proofs.Ytggmnjnigmbooaa
