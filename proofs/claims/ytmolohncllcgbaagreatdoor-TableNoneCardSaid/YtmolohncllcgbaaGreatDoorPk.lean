/- Plain facts on nodes: where their keys lie, and that two nodes that may be have two keys. -/
import Derived.Test.YtmolohncllcgbaaGreatDoorPa
namespace Go.Proofs.YtmolohncllcgbaaGreatDoor.Pa
open Go

/-- a node that may be, in plain numbers -/
structure Fine (a b c d e : Int) : Prop where
  e1 : 1 ≤ e
  e4 : e ≤ 4
  a0 : 0 ≤ a
  a9 : a ≤ 999
  b0 : 0 ≤ b
  b9 : b ≤ 999
  c0 : 0 ≤ c
  c9 : c ≤ 999
  d0 : 0 ≤ d
  d9 : d ≤ 999
  zb : e = 1 → b = 0
  zc : e ≤ 2 → c = 0
  zd : e ≤ 3 → d = 0
theorem right_iff (a b c d e : Int) : rightB ⟨a, b, c, d, e⟩ = true ↔ Fine a b c d e := by
  simp only [rightB, atB, numB, Bool.and_eq_true, Bool.or_eq_true, decide_eq_true_eq, Bool.not_eq_true', bne_eq_false_iff_eq]
  constructor
  · intro h
    exact ⟨by omega, by omega, by omega, by omega, by omega, by omega, by omega, by omega, by omega, by omega, by omega, by omega, by omega⟩
  · intro h
    have h1 := h.1; have h2 := h.2; have h3 := h.3; have h4 := h.4; have h5 := h.5; have h6 := h.6; have h7 := h.7; have h8 := h.8; have h9 := h.9; have h10 := h.10; have h11 := h.11; have h12 := h.12; have h13 := h.13
    omega
/-- the four forms of a node that may be -/
theorem node_shape {p : Pt} (h : rightB p = true) :
    (∃ a : Int, p = ⟨a, 0, 0, 0, 1⟩) ∨ (∃ a b : Int, p = ⟨a, b, 0, 0, 2⟩) ∨ (∃ a b c : Int, p = ⟨a, b, c, 0, 3⟩) ∨ (∃ a b c d : Int, p = ⟨a, b, c, d, 4⟩) := by
  obtain ⟨a, b, c, d, e⟩ := p
  have hf := (right_iff a b c d e).1 h
  have h1 := hf.e1
  have h4 := hf.e4
  rcases (by omega : e = 1 ∨ e = 2 ∨ e = 3 ∨ e = 4) with rfl | rfl | rfl | rfl
  · refine .inl ⟨a, ?_⟩
    rw [hf.zb rfl, hf.zc (by omega), hf.zd (by omega)]
  · refine .inr (.inl ⟨a, b, ?_⟩)
    rw [hf.zc (by omega), hf.zd (by omega)]
  · refine .inr (.inr (.inl ⟨a, b, c, ?_⟩))
    rw [hf.zd (by omega)]
  · exact .inr (.inr (.inr ⟨a, b, c, d, rfl⟩))
theorem key_inj {p q : Pt} (hp : rightB p = true) (hq : rightB q = true) (h : keyP p = keyP q) : p = q := by
  obtain ⟨h1, h2, h3, h4⟩ := right_bd hp
  obtain ⟨g1, g2, g3, g4⟩ := right_bd hq
  unfold keyP at h
  rw [if_pos hp, if_pos hq] at h
  rcases node_shape hp with ⟨a, rfl⟩ | ⟨a, b, rfl⟩ | ⟨a, b, c, rfl⟩ | ⟨a, b, c, d, rfl⟩ <;>
    rcases node_shape hq with ⟨a', rfl⟩ | ⟨a', b', rfl⟩ | ⟨a', b', c', rfl⟩ | ⟨a', b', c', d', rfl⟩ <;>
    simp at h h1 h2 h3 h4 g1 g2 g3 g4 <;> simp <;> omega
theorem key_pos {p : Pt} (hp : rightB p = true) : 1 ≤ keyP p ∧ keyP p < 18446744073709551616 := by
  obtain ⟨h1, h2, h3, h4⟩ := right_bd hp
  unfold keyP
  rw [if_pos hp]
  rcases node_shape hp with ⟨a, rfl⟩ | ⟨a, b, rfl⟩ | ⟨a, b, c, rfl⟩ | ⟨a, b, c, d, rfl⟩ <;> simp at h1 h2 h3 h4 ⊢ <;> omega
theorem key_zero {p : Pt} (hp : rightB p = false) : keyP p = 0 := by
  unfold keyP
  rw [if_neg (by simp [hp])]
theorem key_bd (p : Pt) : 0 ≤ keyP p ∧ keyP p < 18446744073709551616 := by
  cases h : rightB p
  · rw [key_zero h]; omega
  · have := key_pos h; omega
end Go.Proofs.YtmolohncllcgbaaGreatDoor.Pa
