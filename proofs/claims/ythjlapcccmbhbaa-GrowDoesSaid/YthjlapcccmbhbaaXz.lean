/- Locks held against each other. -/
import Derived.Test.YthjlapcccmbhbaaLf
namespace Go.Proofs.Ythjlapcccmbhbaa.Lk
open Go Go.RowKit Go.Shelf Pa
set_option maxRecDepth 100000

/-- whether locks are alike -/
def eqH (x y : Hd) : Bool := eqP x.1 y.1 && x.2 == y.2
theorem eqH_iff (x y : Hd) : eqH x y = true ↔ x = y := by
  unfold eqH
  rw [Bool.and_eq_true, eqP_iff, beq_iff_eq]
  exact ⟨fun h => Prod.ext h.1 h.2, fun h => by rw [h]; exact ⟨rfl, rfl⟩⟩
@[go_sem ↓] theorem eq27 (n : Nat) (w : World) (a b c d e m a' b' c' d' e' m' : Int) :
    (Op.equalIn (n + 4) 27 (.agg #[.int .i64 a, .int .i64 b, .int .i64 c, .int .i64 d, .int .i64 e, .int .i64 m]) (.agg #[.int .i64 a', .int .i64 b', .int .i64 c', .int .i64 d', .int .i64 e', .int .i64 m'])).run Try.prog w
      = .ok (eqH (⟨a, b, c, d, e⟩, m) (⟨a', b', c', d', e'⟩, m')) w := by
  rw [run_equalIn_struct w (n + 3) 27 _ _ (by kernel_rfl) (by kernel_rfl)]
  simp [go_sem, eq24]
  unfold eqH
  by_cases h1 : eqP ⟨a, b, c, d, e⟩ ⟨a', b', c', d', e'⟩ = true <;> by_cases h2 : m = m' <;> simp [h1, h2]
theorem eqH_self (x : Hd) : eqH x x = true := (eqH_iff x x).2 rfl
end Go.Proofs.Ythjlapcccmbhbaa.Lk
