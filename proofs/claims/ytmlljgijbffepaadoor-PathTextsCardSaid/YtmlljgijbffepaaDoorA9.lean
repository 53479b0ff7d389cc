/- The contracts of the document's answers on one node. -/
import Derived.Test.YtmlljgijbffepaaDoorA5
namespace Go.Proofs.YtmlljgijbffepaaDoor
open Go Go.RowKit

theorem num_cases (n : Int) : (numB n = false ∧ n < 0) ∨ (numB n = false ∧ ¬ n < 0 ∧ 999 < n) ∨ (numB n = true ∧ ¬ n < 0 ∧ ¬ 999 < n) := by
  unfold numB
  by_cases h : n < 0
  · exact .inl ⟨decide_eq_false (by omega), h⟩
  · by_cases h' : 999 < n
    · exact .inr (.inl ⟨decide_eq_false (by omega), h, h'⟩)
    · exact .inr (.inr ⟨decide_eq_true (by omega), h, h'⟩)
set_option maxHeartbeats 2000000 in
theorem rright_in (a b c d e : Int) (w : World) (he : e = 1 ∨ e = 2 ∨ e = 3 ∨ e = 4) :
    Calls Tryd.prog 11 #[Pt.v ⟨a, b, c, d, e⟩] w fun e' w' => e' = .returned (.bool (allB (atN a b c d e))) ∧ Below w.heap.size w w' := by
  obtain ⟨f, hf⟩ : ∃ f, atN a b c d e = f := ⟨_, rfl⟩
  have f0 : atB a 0 e = f 0 := by rw [← hf]; rfl
  have f1 : atB b 1 e = f 1 := by rw [← hf]; rfl
  have f2 : atB c 2 e = f 2 := by rw [← hf]; rfl
  have f3 : atB d 3 e = f 3 := by rw [← hf]; rfl
  rw [hf]
  clear hf
  unfold atB at f0 f1 f2 f3
  replace f0 := Lib.hid f0
  replace f1 := Lib.hid f1
  replace f2 := Lib.hid f2
  replace f3 := Lib.hid f3
  rcases he with rfl | rfl | rfl | rfl
  all_goals
    go_enter Tryd.func11, Tryd.ntmps11
    go_wp2
    go_loop [3] (fun i => Idx (Seen f) i) (fun i => (4 - intOf i).toNat)
    case atStart => exact .inl ⟨rfl, seen0 f⟩
    case round =>
      rcases hrel with ⟨rfl, hs⟩ | ⟨rfl, hs⟩ | ⟨rfl, hs⟩ | ⟨rfl, hs⟩ | ⟨rfl, hs⟩
      · rcases num_cases a with ⟨h, h1⟩ | ⟨h, h1, h2⟩ | ⟨h, h1, h2⟩
        · go_wp2
          go_ret
          exact ⟨ret_bool (not_all (k := 0) (by omega) (by rw [← f0.out, h]; rfl)).symm, box_below _ _⟩
        · go_wp2
          go_ret
          exact ⟨ret_bool (not_all (k := 0) (by omega) (by rw [← f0.out, h]; rfl)).symm, box_below _ _⟩
        · cases hz : (a != 0)
          all_goals
            go_wp2
            first
            | (go_ret
               exact ⟨ret_bool (not_all (k := 0) (by omega) (by rw [← f0.out, h, hz]; rfl)).symm, box_below _ _⟩)
            | (go_round
               case rel => (refine .inr (.inl ⟨by go_num, hs.next ?_⟩); rw [← f0.out, h, hz]; rfl)
               case measure => simp [intOf])
      · rcases num_cases b with ⟨h, h1⟩ | ⟨h, h1, h2⟩ | ⟨h, h1, h2⟩
        · go_wp2
          go_ret
          exact ⟨ret_bool (not_all (k := 1) (by omega) (by rw [← f1.out, h]; rfl)).symm, box_below _ _⟩
        · go_wp2
          go_ret
          exact ⟨ret_bool (not_all (k := 1) (by omega) (by rw [← f1.out, h]; rfl)).symm, box_below _ _⟩
        · cases hz : (b != 0)
          all_goals
            go_wp2
            first
            | (go_ret
               exact ⟨ret_bool (not_all (k := 1) (by omega) (by rw [← f1.out, h, hz]; rfl)).symm, box_below _ _⟩)
            | (go_round
               case rel => (refine .inr (.inr (.inl ⟨by go_num, hs.next ?_⟩)); rw [← f1.out, h, hz]; rfl)
               case measure => simp [intOf])
      · rcases num_cases c with ⟨h, h1⟩ | ⟨h, h1, h2⟩ | ⟨h, h1, h2⟩
        · go_wp2
          go_ret
          exact ⟨ret_bool (not_all (k := 2) (by omega) (by rw [← f2.out, h]; rfl)).symm, box_below _ _⟩
        · go_wp2
          go_ret
          exact ⟨ret_bool (not_all (k := 2) (by omega) (by rw [← f2.out, h]; rfl)).symm, box_below _ _⟩
        · cases hz : (c != 0)
          all_goals
            go_wp2
            first
            | (go_ret
               exact ⟨ret_bool (not_all (k := 2) (by omega) (by rw [← f2.out, h, hz]; rfl)).symm, box_below _ _⟩)
            | (go_round
               case rel => (refine .inr (.inr (.inr (.inl ⟨by go_num, hs.next ?_⟩))); rw [← f2.out, h, hz]; rfl)
               case measure => simp [intOf])
      · rcases num_cases d with ⟨h, h1⟩ | ⟨h, h1, h2⟩ | ⟨h, h1, h2⟩
        · go_wp2
          go_ret
          exact ⟨ret_bool (not_all (k := 3) (by omega) (by rw [← f3.out, h]; rfl)).symm, box_below _ _⟩
        · go_wp2
          go_ret
          exact ⟨ret_bool (not_all (k := 3) (by omega) (by rw [← f3.out, h]; rfl)).symm, box_below _ _⟩
        · cases hz : (d != 0)
          all_goals
            go_wp2
            first
            | (go_ret
               exact ⟨ret_bool (not_all (k := 3) (by omega) (by rw [← f3.out, h, hz]; rfl)).symm, box_below _ _⟩)
            | (go_round
               case rel => (refine .inr (.inr (.inr (.inr (⟨by go_num, hs.next ?_⟩)))); rw [← f3.out, h, hz]; rfl)
               case measure => simp [intOf])
      · go_wp2
        go_ret
        exact ⟨ret_bool hs.all.symm, box_below _ _⟩
theorem rright_any (p : Pt) (w : World) :
    Calls Tryd.prog 11 #[p.v] w fun e w' => e = .returned (.bool (rightB p)) ∧ Below w.heap.size w w' := by
  by_cases h : 1 ≤ p.e ∧ p.e ≤ 4
  · rw [rightB_in h.1 h.2]
    obtain ⟨a, b, c, d, e⟩ := p
    exact rright_in a b c d e w (by simp only at h; omega)
  · rw [rightB_out h]
    obtain ⟨a, b, c, d, e⟩ := p
    simp only at h
    by_cases h1 : 1 ≤ e
    · have h4 : 4 < e := by omega
      have h1' : ¬ e < 1 := by omega
      clear h
      go_enter Tryd.func11, Tryd.ntmps11
      go_wp2
      go_ret
      exact ⟨rfl, box_below _ _⟩
    · have h1' : e < 1 := by omega
      clear h
      go_enter Tryd.func11, Tryd.ntmps11
      go_wp2
      go_ret
      exact ⟨rfl, box_below _ _⟩
theorem rright_g {w : World} {p : Pt} {b : Bool} (h : rightB p = b) : Gives w 11 #[p.v] (.bool b) := by
  subst h; exact Gives.of (rright_any p)

end Go.Proofs.YtmlljgijbffepaaDoor
