/- Plain facts on nodes: what a kid is like. -/
import Derived.Test.YtmlljgijbffepaaA6
import Derived.Test.YtmlljgijbffepaaA7
import Derived.Test.YtmlljgijbffepaaA8
namespace Go.Proofs.Ytmlljgijbffepaa
open Go

/-- a node that may be, in plain numbers -/
structure Fine (a b c d e : Int) : Prop where
  e1 : 1 ≤ e
  e4 : e ≤ 4
  a0 : 0 ≤ a
  a9 : a ≤ 999
  b0 : 0 ≤ b
  b9 : b ≤ 999
  c0 : 0 ≤ c
  c9 : c ≤ 999
  d0 : 0 ≤ d
  d9 : d ≤ 999
  zb : e = 1 → b = 0
  zc : e ≤ 2 → c = 0
  zd : e ≤ 3 → d = 0
theorem right_iff (a b c d e : Int) : rightB ⟨a, b, c, d, e⟩ = true ↔ Fine a b c d e := by
  simp only [rightB, atB, numB, Bool.and_eq_true, Bool.or_eq_true, decide_eq_true_eq, Bool.not_eq_true', bne_eq_false_iff_eq]
  constructor
  · intro h
    exact ⟨by omega, by omega, by omega, by omega, by omega, by omega, by omega, by omega, by omega, by omega, by omega, by omega, by omega⟩
  · intro h
    have h1 := h.1; have h2 := h.2; have h3 := h.3; have h4 := h.4; have h5 := h.5; have h6 := h.6; have h7 := h.7; have h8 := h.8; have h9 := h.9; have h10 := h.10; have h11 := h.11; have h12 := h.12; have h13 := h.13
    omega
theorem kid_facts {a b c d e n : Int} (h : kidB ⟨a, b, c, d, e⟩ n = true) : Fine a b c d e ∧ (e = 1 ∨ e = 2 ∨ e = 3) ∧ 0 ≤ n ∧ n ≤ 999 := by
  unfold kidB at h
  simp only [Bool.and_eq_true, bne_iff_ne, ne_eq] at h
  have hf := (right_iff a b c d e).1 h.1.1
  have hn := h.2
  unfold numB at hn
  have hn := of_decide_eq_true hn
  have := hf.e1; have := hf.e4; have := h.1.2
  exact ⟨hf, by omega, hn.1, hn.2⟩
/-- the three forms of a node that has kids -/
theorem kid_shape {p : Pt} {n : Int} (h : kidB p n = true) :
    (∃ a : Int, p = ⟨a, 0, 0, 0, 1⟩ ∧ 0 ≤ a ∧ a ≤ 999) ∨ (∃ a b : Int, p = ⟨a, b, 0, 0, 2⟩ ∧ 0 ≤ a ∧ a ≤ 999 ∧ 0 ≤ b ∧ b ≤ 999) ∨ (∃ a b c : Int, p = ⟨a, b, c, 0, 3⟩ ∧ 0 ≤ a ∧ a ≤ 999 ∧ 0 ≤ b ∧ b ≤ 999 ∧ 0 ≤ c ∧ c ≤ 999) := by
  obtain ⟨a, b, c, d, e⟩ := p
  obtain ⟨hf, he, _⟩ := kid_facts h
  rcases he with rfl | rfl | rfl
  · refine .inl ⟨a, ?_, hf.a0, hf.a9⟩
    rw [hf.zb rfl, hf.zc (by omega), hf.zd (by omega)]
  · refine .inr (.inl ⟨a, b, ?_, hf.a0, hf.a9, hf.b0, hf.b9⟩)
    rw [hf.zc (by omega), hf.zd (by omega)]
  · refine .inr (.inr ⟨a, b, c, ?_, hf.a0, hf.a9, hf.b0, hf.b9, hf.c0, hf.c9⟩)
    rw [hf.zd (by omega)]
theorem kid_num {p : Pt} {n : Int} (h : kidB p n = true) : 0 ≤ n ∧ n ≤ 999 := by
  obtain ⟨a, b, c, d, e⟩ := p
  exact (kid_facts h).2.2
theorem kid_right' {p : Pt} {n : Int} (h : kidB p n = true) : rightB p = true := by
  unfold kidB at h; simp only [Bool.and_eq_true] at h; exact h.1.1
theorem kid_right {p : Pt} {n : Int} (h : kidB p n = true) : rightB (kidP p n) = true := by
  obtain ⟨n0, n9⟩ := kid_num h
  rcases kid_shape h with ⟨a, rfl, _, _⟩ | ⟨a, b, rfl, _, _, _, _⟩ | ⟨a, b, c, rfl, _, _, _, _, _, _⟩
  all_goals
    simp only [kidP]
    refine (right_iff _ _ _ _ _).2 ⟨?_, ?_, ?_, ?_, ?_, ?_, ?_, ?_, ?_, ?_, ?_, ?_, ?_⟩ <;> (try simp) <;> omega
theorem kid_depth {p : Pt} {n : Int} (h : kidB p n = true) : 1 ≤ p.e ∧ p.e ≤ 3 := by
  rcases kid_shape h with ⟨a, rfl, _, _⟩ | ⟨a, b, rfl, _, _, _, _⟩ | ⟨a, b, c, rfl, _, _, _, _, _, _⟩ <;> simp
theorem kid_cut {p : Pt} {n : Int} (h : kidB p n = true) : cutP (kidP p n) p.e = p := by
  rcases kid_shape h with ⟨a, rfl, _, _⟩ | ⟨a, b, rfl, _, _, _, _⟩ | ⟨a, b, c, rfl, _, _, _, _, _, _⟩ <;> simp [cutP, kidP]
theorem kid_upV {p : Pt} {n : Int} (h : kidB p n = true) : upV (kidP p n) = .tuple #[p.v, .bool true] := by
  have hd := kid_depth h
  have e1 : (kidP p n).e = p.e + 1 := rfl
  unfold upV
  rw [if_pos ⟨kid_right h, by rw [e1]; omega⟩, e1, show p.e + 1 - 1 = p.e by omega, kid_cut h]
theorem kid_wi {p : Pt} {n : Int} (h : kidB p n = true) : wiB (kidP p n) p = true := by
  have hd := kid_depth h
  have e1 : (kidP p n).e = p.e + 1 := rfl
  unfold wiB
  rw [kid_right h, kid_right' h, kid_cut h, eqP_self, e1, decide_eq_true (by omega : p.e ≤ p.e + 1)]
  rfl
theorem kid_key {p : Pt} {n : Int} (h : kidB p n = true) : keyP (kidP p n) = keyP p * 1001 + n + 1 := by
  have r1 := kid_right h
  have r2 := kid_right' h
  unfold keyP
  rw [if_pos r1, if_pos r2]
  rcases kid_shape h with ⟨a, rfl, _, _⟩ | ⟨a, b, rfl, _, _, _, _⟩ | ⟨a, b, c, rfl, _, _, _, _, _, _⟩ <;> simp [kidP]
theorem key_bd (p : Pt) : 0 ≤ keyP p ∧ keyP p ≤ 1004006004000 := by
  unfold keyP
  split
  · rename_i h
    obtain ⟨h1, h2, h3, h4⟩ := right_bd h
    (repeat' split) <;> omega
  · omega
theorem kid_eq {p : Pt} {n k : Int} (h : kidB p n = true) : kidP p n = kidP p k ↔ n = k := by
  rcases kid_shape h with ⟨a, rfl, _, _⟩ | ⟨a, b, rfl, _, _, _, _⟩ | ⟨a, b, c, rfl, _, _, _, _, _, _⟩ <;> simp [kidP]
theorem kid_less {p : Pt} {n k : Int} (h : kidB p n = true) (h' : kidB p k = true) : lessB (kidP p n) (kidP p k) = decide (n < k) := by
  unfold lessB
  rw [kid_right h, kid_right h']
  rcases kid_shape h with ⟨a, rfl, _, _⟩ | ⟨a, b, rfl, _, _, _, _⟩ | ⟨a, b, c, rfl, _, _, _, _, _, _⟩
  all_goals
    simp [kidP, numsP, cmpL]
    (repeat' split) <;> omega
end Go.Proofs.Ytmlljgijbffepaa
