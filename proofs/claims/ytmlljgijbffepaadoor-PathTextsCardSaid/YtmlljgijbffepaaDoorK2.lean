/- Two nodes, held against each other as structs. -/
import Derived.Test.YtmlljgijbffepaaDoorA1
namespace Go.Proofs.YtmlljgijbffepaaDoor
open Go Go.RowKit
def eqP (p q : Pt) : Bool := p.a == q.a && p.b == q.b && p.c == q.c && p.d == q.d && p.e == q.e
theorem range4 : List.range' 0 4 = [0, 1, 2, 3] := rfl
set_option maxRecDepth 100000 in
theorem eq22 (n : Nat) (w : World) (a b c d a' b' c' d' : Int) :
    (Op.equalIn (n + 2) 22 (.agg #[.int .i64 a, .int .i64 b, .int .i64 c, .int .i64 d]) (.agg #[.int .i64 a', .int .i64 b', .int .i64 c', .int .i64 d'])).run Tryd.prog w
      = .ok (a == a' && b == b' && c == c' && d == d') w := by
  unfold Op.equalIn
  simp [run_underlying Tryd.underlying22, go_sem]
  rw [range4]
  by_cases h1 : a = a' <;> by_cases h2 : b = b' <;> by_cases h3 : c = c' <;> by_cases h4 : d = d' <;> simp [go_sem, run_equalIn_int (h := Tryd.underlying3), h1, h2, h3, h4]
set_option maxRecDepth 100000 in
@[go_sem ↓] theorem eq24 (n : Nat) (w : World) (a b c d e a' b' c' d' e' : Int) :
    (Op.equalIn (n + 3) 24 (.agg #[.int .i64 a, .int .i64 b, .int .i64 c, .int .i64 d, .int .i64 e]) (.agg #[.int .i64 a', .int .i64 b', .int .i64 c', .int .i64 d', .int .i64 e'])).run Tryd.prog w
      = .ok (eqP ⟨a, b, c, d, e⟩ ⟨a', b', c', d', e'⟩) w := by
  rw [run_equalIn_struct w (n + 2) 24 _ _ (by kernel_rfl) (by kernel_rfl)]
  simp [go_sem, eq22]
  unfold eqP
  by_cases h1 : a = a' <;> by_cases h2 : b = b' <;> by_cases h3 : c = c' <;> by_cases h4 : d = d' <;> by_cases h5 : e = e' <;> simp [h1, h2, h3, h4, h5]
theorem eqP_iff (p q : Pt) : eqP p q = true ↔ p = q := by
  obtain ⟨a, b, c, d, e⟩ := p
  obtain ⟨a', b', c', d', e'⟩ := q
  simp [eqP, Pt.mk.injEq, and_assoc]
theorem eqP_ne {p q : Pt} (h : p ≠ q) : eqP p q = false := by
  cases hh : eqP p q
  · rfl
  · exact absurd ((eqP_iff p q).1 hh) h
theorem eqP_self (p : Pt) : eqP p p = true := (eqP_iff p p).2 rfl
end Go.Proofs.YtmlljgijbffepaaDoor
