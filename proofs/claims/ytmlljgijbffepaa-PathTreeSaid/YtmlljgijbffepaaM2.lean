/- Plain facts on nodes: within and less, by their lists of numbers. -/
import Derived.Test.YtmlljgijbffepaaM1
namespace Go.Proofs.Ytmlljgijbffepaa
open Go

theorem cmpL_self : ∀ l : List Int, cmpL l l = 0
  | [] => rfl
  | x :: r => by rw [cmpL, if_neg (by omega), if_neg (by omega)]; exact cmpL_self r
theorem cmpL_zero : ∀ l q : List Int, cmpL l q = 0 → l = q
  | [], [], _ => rfl
  | [], _ :: _, h => by simp [cmpL] at h
  | _ :: _, [], h => by simp [cmpL] at h
  | x :: r, y :: q, h => by
    rw [cmpL] at h
    split at h
    · omega
    · split at h
      · omega
      · have := cmpL_zero r q h
        have hxy : x = y := by omega
        rw [this, hxy]
theorem cmpL_neg : ∀ l q : List Int, cmpL q l = - cmpL l q
  | [], [] => rfl
  | [], _ :: _ => rfl
  | _ :: _, [] => rfl
  | x :: r, y :: q => by
    rw [cmpL, cmpL]
    by_cases h1 : x < y
    · rw [if_neg (by omega), if_pos h1, if_pos h1]; rfl
    · by_cases h2 : y < x
      · rw [if_pos h2, if_neg h1, if_pos h2]
      · rw [if_neg h2, if_neg h1, if_neg h1, if_neg h2]; exact cmpL_neg r q
theorem cmpL_trans : ∀ l q r : List Int, cmpL l q < 0 → cmpL q r < 0 → cmpL l r < 0
  | [], [], _, h, _ => by simp [cmpL] at h
  | [], _ :: _, [], _, h => by simp [cmpL] at h
  | [], _ :: _, _ :: _, _, _ => by simp [cmpL]
  | _ :: _, [], _, h, _ => by simp [cmpL] at h
  | _ :: _, _ :: _, [], _, h => by simp [cmpL] at h
  | x :: l, y :: q, z :: r, h1, h2 => by
    rw [cmpL] at h1 h2 ⊢
    by_cases a1 : x < y
    · by_cases a2 : y < z
      · rw [if_pos (by omega)]; omega
      · rw [if_neg a2] at h2
        by_cases a3 : z < y
        · rw [if_pos a3] at h2; omega
        · rw [if_pos (by omega)]; omega
    · rw [if_neg a1] at h1
      by_cases a2 : y < x
      · rw [if_pos a2] at h1; omega
      · rw [if_neg a2] at h1
        by_cases a3 : y < z
        · rw [if_pos (by omega)]; omega
        · rw [if_neg a3] at h2
          by_cases a4 : z < y
          · rw [if_pos a4] at h2; omega
          · rw [if_neg a4] at h2
            rw [if_neg (by omega), if_neg (by omega)]
            exact cmpL_trans l q r h1 h2
theorem cmpL_front : ∀ l q : List Int, l <+: q → l = q ∨ cmpL l q < 0
  | [], [], _ => .inl rfl
  | [], _ :: _, _ => .inr (by simp [cmpL])
  | _ :: _, [], h => by simp at h
  | x :: r, y :: q, h => by
    rw [List.cons_prefix_cons] at h
    obtain ⟨rfl, h⟩ := h
    rcases cmpL_front r q h with rfl | h'
    · exact .inl rfl
    · refine .inr ?_
      rw [cmpL, if_neg (by omega), if_neg (by omega)]; exact h'

/-- the four forms of a node that may be -/
theorem node_shape {p : Pt} (h : rightB p = true) :
    (∃ a : Int, p = ⟨a, 0, 0, 0, 1⟩) ∨ (∃ a b : Int, p = ⟨a, b, 0, 0, 2⟩) ∨ (∃ a b c : Int, p = ⟨a, b, c, 0, 3⟩) ∨ (∃ a b c d : Int, p = ⟨a, b, c, d, 4⟩) := by
  obtain ⟨a, b, c, d, e⟩ := p
  have hf := (right_iff a b c d e).1 h
  have h1 := hf.e1
  have h4 := hf.e4
  rcases (by omega : e = 1 ∨ e = 2 ∨ e = 3 ∨ e = 4) with rfl | rfl | rfl | rfl
  · refine .inl ⟨a, ?_⟩
    rw [hf.zb rfl, hf.zc (by omega), hf.zd (by omega)]
  · refine .inr (.inl ⟨a, b, ?_⟩)
    rw [hf.zc (by omega), hf.zd (by omega)]
  · refine .inr (.inr (.inl ⟨a, b, c, ?_⟩))
    rw [hf.zd (by omega)]
  · exact .inr (.inr (.inr ⟨a, b, c, d, rfl⟩))
theorem nums_inj {p q : Pt} (hp : rightB p = true) (hq : rightB q = true) (h : numsP p = numsP q) : p = q := by
  rcases node_shape hp with ⟨a, rfl⟩ | ⟨a, b, rfl⟩ | ⟨a, b, c, rfl⟩ | ⟨a, b, c, d, rfl⟩ <;>
    rcases node_shape hq with ⟨a', rfl⟩ | ⟨a', b', rfl⟩ | ⟨a', b', c', rfl⟩ | ⟨a', b', c', d', rfl⟩ <;>
    simp [numsP] at h <;> simp [h]
theorem wi_iff {p q : Pt} (hp : rightB p = true) (hq : rightB q = true) : wiB p q = true ↔ numsP q <+: numsP p := by
  unfold wiB
  rw [hp, hq]
  rcases node_shape hp with ⟨a, rfl⟩ | ⟨a, b, rfl⟩ | ⟨a, b, c, rfl⟩ | ⟨a, b, c, d, rfl⟩ <;>
    rcases node_shape hq with ⟨a', rfl⟩ | ⟨a', b', rfl⟩ | ⟨a', b', c', rfl⟩ | ⟨a', b', c', d', rfl⟩ <;>
    (simp [numsP, cutP, eqP, List.cons_prefix_cons]; try (constructor <;> intro h <;> simp_all))
theorem less_iff {p q : Pt} (hp : rightB p = true) (hq : rightB q = true) : lessB p q = true ↔ cmpL (numsP p) (numsP q) < 0 := by
  unfold lessB; rw [hp, hq]; simp
theorem tree_anti {p q : Pt} (hp : rightB p = true) (hq : rightB q = true) (h1 : wiB p q = true) (h2 : wiB q p = true) : p = q :=
  nums_inj hp hq (((wi_iff hq hp).1 h2).eq_of_length_le ((wi_iff hp hq).1 h1).length_le)
theorem tree_total {p q : Pt} (hp : rightB p = true) (hq : rightB q = true) : p = q ∨ lessB p q = !lessB q p := by
  have n := cmpL_neg (numsP p) (numsP q)
  by_cases z : cmpL (numsP p) (numsP q) = 0
  · exact .inl (nums_inj hp hq (cmpL_zero _ _ z))
  · refine .inr ?_
    cases h1 : lessB q p
    · have : ¬ cmpL (numsP q) (numsP p) < 0 := fun k => by rw [(less_iff hq hp).2 k] at h1; cases h1
      exact (less_iff hp hq).2 (by omega)
    · have := (less_iff hq hp).1 h1
      cases h2 : lessB p q
      · rfl
      · have := (less_iff hp hq).1 h2; omega
theorem tree_up {p q : Pt} (hp : rightB p = true) (hq : rightB q = true) (h : wiB p q = true) : p = q ∨ lessB q p = true := by
  rcases cmpL_front _ _ ((wi_iff hp hq).1 h) with e | e
  · exact .inl (nums_inj hp hq e.symm)
  · exact .inr ((less_iff hq hp).2 e)
theorem tree_trans {p q r : Pt} (hp : rightB p = true) (hq : rightB q = true) (hr : rightB r = true) (h1 : wiB p q = true) (h2 : wiB q r = true) : wiB p r = true :=
  (wi_iff hp hr).2 (((wi_iff hq hr).1 h2).trans ((wi_iff hp hq).1 h1))
theorem tree_both {p q r : Pt} (hp : rightB p = true) (hq : rightB q = true) (hr : rightB r = true) (h1 : wiB r p = true) (h2 : wiB r q = true) : wiB p q = true ∨ wiB q p = true := by
  rcases List.prefix_or_prefix_of_prefix ((wi_iff hr hp).1 h1) ((wi_iff hr hq).1 h2) with h | h
  · exact .inr ((wi_iff hq hp).2 h)
  · exact .inl ((wi_iff hp hq).2 h)
theorem tree_less {p q r : Pt} (hp : rightB p = true) (hq : rightB q = true) (hr : rightB r = true) (h1 : lessB p q = true) (h2 : lessB q r = true) : lessB p r = true :=
  (less_iff hp hr).2 (cmpL_trans _ _ _ ((less_iff hp hq).1 h1) ((less_iff hq hr).1 h2))
theorem tree_self {p : Pt} (hp : rightB p = true) : wiB p p = true ∧ lessB p p = false := by
  refine ⟨(wi_iff hp hp).2 (List.prefix_refl _), ?_⟩
  cases h : lessB p p
  · rfl
  · have := (less_iff hp hp).1 h
    rw [cmpL_self] at this
    omega
end Go.Proofs.Ytmlljgijbffepaa
