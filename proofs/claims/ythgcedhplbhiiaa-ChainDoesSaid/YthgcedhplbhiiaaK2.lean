/- What is told of a place, by where it is: plain facts. -/
import Derived.Test.YthgcedhplbhiiaaK1
namespace Go.Proofs.Ythgcedhplbhiiaa
open Go Go.RowKit

structure Spots (N : Nat) (L : Nat → List Nat) (q : Spot) (ri ka kp nxt : Int) (isb nb : Bool) : Prop where
  row : rowV q = .tuple #[.int .i64 ri, .bool isb]
  at' : atV q = .tuple #[.int .i64 ka, .int .i64 kp]
  next : nextV L q = .tuple #[.int .i64 nxt, .bool nb]
  ge : decide (0 ≤ ka) = isb
  yes : isb = true → ri = ka
  no : isb = false → ri = 0 ∧ nb = false
  non : nb = false → nxt = 0
  spot : isb = true → ∃ r k : Nat, ka = (r : Int) ∧ kp = (k : Int) ∧ r < N ∧ k < (L r).length ∧ decide ((k : Int) + 1 < ((L r).length : Int)) = nb ∧ ∀ h : k + 1 < (L r).length, nxt = (((L r)[k + 1]'h : Nat) : Int)
theorem spots {N : Nat} {L : Nat → List Nat} {i : Int} {q : Spot} (hq : At N L i q) : ∃ ri ka kp nxt isb nb, Spots N L q ri ka kp nxt isb nb := by
  cases q with
  | none => exact ⟨0, -1, -1, 0, false, false, rfl, rfl, rfl, rfl, fun h => (by cases h), fun _ => ⟨rfl, rfl⟩, fun _ => rfl, fun h => (by cases h)⟩
  | some p =>
    obtain ⟨r, k⟩ := p
    obtain ⟨n0, -, -, hr, -, hk⟩ := at_mem hq
    by_cases hl : k + 1 < (L r).length
    · refine ⟨(r : Int), (r : Int), (k : Int), (((L r)[k + 1]'hl : Nat) : Int), true, true, rfl, rfl, ?_, by simp, fun _ => rfl, fun h => (by cases h), fun h => (by cases h), fun _ => ⟨r, k, rfl, rfl, hr, hk, by simp; omega, fun _ => rfl⟩⟩
      show vOf ((L r).drop (k + 1)) = _
      rw [List.drop_eq_getElem_cons hl]
      rfl
    · refine ⟨(r : Int), (r : Int), (k : Int), 0, true, false, rfl, rfl, ?_, by simp, fun _ => rfl, fun h => (by cases h), fun _ => rfl, fun _ => ⟨r, k, rfl, rfl, hr, hk, by simp; omega, fun h => absurd h hl⟩⟩
      show vOf ((L r).drop (k + 1)) = _
      rw [List.drop_eq_nil_of_le (by omega)]
      rfl
theorem firsts (l : List Nat) : ∃ (fx : Int) (fb : Bool), vOf l = .tuple #[.int .i64 fx, .bool fb] ∧ decide (0 < l.length) = fb ∧ (fb = false → fx = 0) ∧ ∀ h : 0 < l.length, fx = ((l[0]'h : Nat) : Int) := by
  cases l with
  | nil => exact ⟨0, false, rfl, rfl, fun _ => rfl, fun h => by simp at h⟩
  | cons x l => exact ⟨(x : Int), true, rfl, by simp, fun h => (by cases h), fun _ => rfl⟩
end Go.Proofs.Ythgcedhplbhiiaa
