/- Plain facts on nodes: the document's answers, by rows, are the program's. -/
import Derived.Test.YtmlljgijbffepaaF5
import Derived.Test.YtmlljgijbffepaaF6
namespace Go.Proofs.Ytmlljgijbffepaa
open Go

theorem cut_right {p : Pt} {j : Int} (h : rightB p = true) (h1 : 1 ≤ j) (h2 : j ≤ p.e) : rightB (cutP p j) = true := by
  obtain ⟨a, b, c, d, e⟩ := p
  simp only at h2
  have hf := (right_iff a b c d e).1 h
  have := hf.e4; have := hf.a0; have := hf.a9; have := hf.b0; have := hf.b9; have := hf.c0; have := hf.c9; have := hf.d0; have := hf.d9
  unfold cutP
  refine (right_iff _ _ _ _ _).2 ⟨?_, ?_, ?_, ?_, ?_, ?_, ?_, ?_, ?_, ?_, ?_, ?_, ?_⟩ <;> (try simp only) <;> (first | omega | (split <;> omega) | (intro k; rw [if_neg (by omega)]))
theorem any_ways (p q : Pt) : ∀ k, anyL q (waysL p k) = true ↔ ∃ j, j < k ∧ cutP p ((j : Nat) + 1) = q
  | 0 => by simp [anyL, waysL]
  | k + 1 => by
    have ih := any_ways p q k
    unfold anyL at ih ⊢
    rw [waysL, List.any_append, Bool.or_eq_true, ih]
    constructor
    · rintro (⟨j, hj, e⟩ | h)
      · exact ⟨j, by omega, e⟩
      · simp only [List.any_cons, List.any_nil, Bool.or_false] at h
        exact ⟨k, by omega, (eqP_iff _ _).1 h⟩
    · rintro ⟨j, hj, e⟩
      by_cases hk : j = k
      · subst hk
        refine .inr ?_
        simp only [List.any_cons, List.any_nil, Bool.or_false]
        exact (eqP_iff _ _).2 e
      · exact .inl ⟨j, by omega, e⟩
theorem wi_any (p q : Pt) : anyL q (waysP p) = wiB p q := by
  cases hp : rightB p
  · rw [show waysP p = [] by simp [waysP, hp], show wiB p q = false by simp [wiB, hp]]; rfl
  · have hd := right_depth hp
    rw [show waysP p = waysL p p.e.toNat by simp [waysP, hp]]
    rw [Bool.eq_iff_iff, any_ways]
    constructor
    · rintro ⟨j, hj, rfl⟩
      have hr : rightB (cutP p ((j : Nat) + 1)) = true := cut_right hp (by omega) (by omega)
      have he : (cutP p ((j : Nat) + 1)).e = (j : Nat) + 1 := rfl
      unfold wiB
      rw [hp, hr, he, eqP_self, decide_eq_true (by omega)]; rfl
    · intro h
      unfold wiB at h
      simp only [Bool.and_eq_true, decide_eq_true_eq] at h
      have hq := right_depth h.1.1.2
      refine ⟨q.e.toNat - 1, by omega, ?_⟩
      rw [show ((q.e.toNat - 1 : Nat) : Int) + 1 = q.e by omega]
      exact (eqP_iff _ _).1 h.2
theorem first_way (p : Pt) : ∀ h : 0 < (waysP p).length, (waysP p)[0].e = 1 := by
  unfold waysP
  split
  · rename_i h
    have hd := right_depth h
    rcases (by omega : p.e.toNat = 1 ∨ p.e.toNat = 2 ∨ p.e.toNat = 3 ∨ p.e.toNat = 4) with e | e | e | e <;> rw [e] <;> intro _ <;> rfl
  · intro h; simp at h
theorem eqP_comm (p q : Pt) : eqP p q = eqP q p := by
  rw [Bool.eq_iff_iff, eqP_iff, eqP_iff]; exact eq_comm
end Go.Proofs.Ytmlljgijbffepaa
