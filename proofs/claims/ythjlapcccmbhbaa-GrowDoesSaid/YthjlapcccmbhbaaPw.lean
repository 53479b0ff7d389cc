/- Nodes and the nodes above them: plain facts. -/
import Derived.Test.YthjlapcccmbhbaaPb
namespace Go.Proofs.Ythjlapcccmbhbaa.Lk
open Go Pa
set_option maxRecDepth 100000

theorem take_ways (p : Pt) : ∀ d t, t ≤ d → (waysL p d).take t = waysL p t
  | 0, t, h => by
    obtain rfl : t = 0 := by omega
    rfl
  | d + 1, t, h => by
    by_cases e : t = d + 1
    · subst e
      rw [List.take_of_length_le (by rw [waysL_len]; omega)]
    · rw [show waysL p (d + 1) = waysL p d ++ [cutP p ((d : Nat) + 1)] from rfl, List.take_append_of_le_length (by rw [waysL_len]; omega), take_ways p d t (by omega)]
theorem mem_ways {p a : Pt} : ∀ {t : Nat}, a ∈ waysL p t ↔ ∃ j : Nat, j < t ∧ a = cutP p ((j : Int) + 1)
  | 0 => by simp [waysL]
  | t + 1 => by
    unfold waysL
    rw [List.mem_append, mem_ways (t := t)]
    constructor
    · rintro (⟨j, hj, h⟩ | h)
      · exact ⟨j, by omega, h⟩
      · exact ⟨t, by omega, by simpa using h⟩
    · rintro ⟨j, hj, h⟩
      by_cases e : j = t
      · subst e; exact .inr (by simpa using h)
      · exact .inl ⟨j, by omega, h⟩
theorem cut_cut (p : Pt) {k l : Int} (h : k ≤ l) : cutP (cutP p l) k = cutP p k := by
  have f : ∀ (n : Int) (v : Int), (if n < k then (if n < l then v else 0) else 0) = if n < k then v else 0 := by
    intro n v
    by_cases h1 : n < k
    · rw [if_pos h1, if_pos (by omega), if_pos h1]
    · rw [if_neg h1, if_neg h1]
  unfold cutP
  simp only [f]
theorem cut_self {p : Pt} (hp : rightB p = true) : cutP p p.e = p := by
  obtain ⟨a, b, c, d, e⟩ := p
  have hf := (right_iff a b c d e).1 hp
  have h1 := hf.e1
  have h4 := hf.e4
  have hb := hf.zb
  have hc := hf.zc
  have hd := hf.zd
  unfold cutP
  simp only [Pt.mk.injEq, true_and, and_true]
  refine ⟨?_, ?_, ?_⟩
  · split
    · rfl
    · exact (hb (by omega)).symm
  · split
    · rfl
    · exact (hc (by omega)).symm
  · split
    · rfl
    · exact (hd (by omega)).symm
end Go.Proofs.Ythjlapcccmbhbaa.Lk
