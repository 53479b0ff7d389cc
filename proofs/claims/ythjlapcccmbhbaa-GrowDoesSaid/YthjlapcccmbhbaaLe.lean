/- Modes that cover: plain facts; few locks. -/
import Derived.Test.YthjlapcccmbhbaaLc
namespace Go.Proofs.Ythjlapcccmbhbaa.Lk
open Go Go.RowKit Go.Shelf Pa
set_option maxRecDepth 100000

theorem sup_l : ∀ i, i ≤ 6 → ∀ j, j ≤ 6 → covB (supN i j) i = true := by decide +kernel
theorem sup_r : ∀ i, i ≤ 6 → ∀ j, j ≤ 6 → covB (supN i j) j = true := by decide +kernel
theorem cov_anti : ∀ i, i ≤ 6 → ∀ j, j ≤ 6 → covB i j = true → covB j i = true → i = j := by decide +kernel
theorem cov_zero : ∀ j, j ≤ 6 → covB 0 j = true → j = 0 := by decide +kernel
theorem kn_par (j : Nat) : kn ((parN j : Nat) : Int) = parN j := by
  apply kn_nat
  unfold parN
  split
  · omega
  · split <;> omega
theorem few_any (A : Option Addr) (n c : Nat) (w : World) : Calls Try.prog 7 #[.slice A n c] w fun e w' => e = .returned (.bool (decide (n ≤ 30))) ∧ w = w' := by
  by_cases h : (n : Int) ≤ 30
  · rw [decide_eq_true (by omega : n ≤ 30)]
    go_enter Try.func7, Try.ntmps7
    go_wp2
    go_ret
    exact ⟨rfl, rfl⟩
  · rw [decide_eq_false (by omega : ¬ n ≤ 30)]
    go_enter Try.func7, Try.ntmps7
    go_wp2
    go_ret
    exact ⟨rfl, rfl⟩
end Go.Proofs.Ythjlapcccmbhbaa.Lk
