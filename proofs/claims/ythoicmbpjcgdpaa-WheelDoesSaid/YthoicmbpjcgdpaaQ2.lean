/- The document's wheel sets an alarm, beside the wheel. -/
import Derived.Test.YthoicmbpjcgdpaaQ1
import Derived.Test.YthoicmbpjcgdpaaP5
namespace Go.Proofs.Ythoicmbpjcgdpaa
open Go Go.RowKit Go.Shelf

theorem rset_any {W : World} {bx c : Nat} {A : Option Addr} {l : List Al} (a : Al) (h : RefAt W bx A c (srt l)) (hi : Ids l) (hl : l.length ≤ 900) :
    Calls Try.prog 10 #[wp bx, alv a] W (RStop W bx A (setB a l) (srt (setL a l))) := by
  have hi2 := hi.perm (srt_perm l).symm
  have ef : findA a.1 (srt l) = findA a.1 l := findA_perm hi2 (srt_perm l) a.1
  cases hf : (findA a.1 l).2
  · have hn := findA_no (l := srt l) (by rw [ef]; exact hf)
    have e1 : idxP (isId a.1) (srt l) = -1 := idx_none (fun y hy => by simpa [isId] using hn y hy)
    by_cases h0 : 0 ≤ a.2
    · have b1 : setB a l = true := by unfold setB; rw [hf]; simpa using h0
      have b2 : setL a l = l ++ [a] := by unfold setL; rw [b1]; rfl
      rw [b1, b2]
      have fin : Calls Try.prog 10 #[wp bx, alv a] W (fun e w' => ∃ j, Stands a (srt l) j ∧ RStop W bx A true (putIn a (srt l) j) e w') := by
        cases A with
        | none => exact rset_nil a h h0
        | some ad =>
          obtain ⟨g, off, rfl, _, _⟩ := h.lst.at' ad rfl
          exact rset_yes a h e1 h0 (by rw [srt_length]; exact hl)
      refine fin.mono ?_
      rintro e w' ⟨j, hs, hr⟩
      rw [put_srt hs] at hr
      exact hr
    · have b1 : setB a l = false := by unfold setB; rw [hf]; simpa using h0
      have b2 : setL a l = l := by unfold setL; rw [b1]; rfl
      rw [b1, b2]
      exact rset_no2 a h e1 (by omega)
  · have b1 : setB a l = false := by unfold setB; rw [hf]; simp
    have b2 : setL a l = l := by unfold setL; rw [b1]; rfl
    rw [b1, b2]
    obtain ⟨m1, m2⟩ := findA_yes (l := srt l) (by rw [ef]; exact hf)
    obtain ⟨i, hil, e⟩ := List.getElem_of_mem m1
    obtain ⟨_, s2⟩ := stop_parts (id := a.1) hi2 hil (by rw [e]; exact m2)
    exact rset_no1 a h s2
theorem duo_rset {w W : World} {b bx Bd : Nat} {K : Nat → Prop} {kd x y : Int} {l0 l : List Al} (a : Al) (h : Duo w W b bx Bd K kd x y l0 (srt l)) (hi : Ids l) (hl : l.length ≤ 900) :
    Calls Try.prog 10 #[wp bx, alv a] W fun e w' => e = .returned (.bool (setB a l)) ∧ Duo w w' b bx Bd K kd x y l0 (srt (setL a l)) := by
  obtain ⟨S, m, A, c, h1, p1, h2, n1, n2, e1⟩ := h.ex
  refine (rset_any a h2 hi hl).mono ?_
  rintro e w' ⟨A', c', rfl, k1, k2, k3⟩
  exact ⟨rfl, (h.stepr h1 p1 h2 n1 n2 e1 k1 k2 k3).1⟩
end Go.Proofs.Ythoicmbpjcgdpaa
