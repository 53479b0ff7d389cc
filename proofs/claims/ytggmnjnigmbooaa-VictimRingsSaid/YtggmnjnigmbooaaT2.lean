/- What the rows' readings give: lists of edges whose numbers fit. -/
import Derived.Test.YtggmnjnigmbooaaT1
import Derived.Test.YtggmnjnigmbooaaVc
namespace Go.Proofs.Ytggmnjnigmbooaa
open Go Go.ChangeShapes Go.WideShapes Go.ChangeAt Go.RowKit Go.Deep
set_option maxRecDepth 100000

section
variable {H : Type} {enc : TypeId × Value → H} {w : World} {base : Nat} {spare : Nat → Bool} {held : Bool} {fuel : Nat} {cs : List Value} {y : DataW H × List MemPlace}
theorem edgew_cells (h : DataW.trod enc Try.prog w base spare held fuel 34 cs = some y) : ∃ x : Es.Ed, cs = Es.cellsW x ∧ wf64 x.1 ∧ wf64 x.2 := by
  obtain ⟨xs, n, _, _, hlen, hxl, hf⟩ := DataW.trod_struct Try.underlying34 h
  rw [cells47] at hlen
  match cs, hlen with
  | [v0, v1], _ =>
    match xs, hxl with
    | [y0, y1], _ =>
      have h0 := hf 0 _ rfl
      have h1 := hf 1 _ rfl
      change DataW.trod enc Try.prog w base spare held n 3 (([v0, v1].drop 0).take (Try.prog.cellsOf 3)) = some y0 at h0
      change DataW.trod enc Try.prog w base spare held n 3 (([v0, v1].drop 1).take (Try.prog.cellsOf 3)) = some y1 at h1
      rw [cells3] at h0 h1
      obtain ⟨a, e0, w0⟩ := DataW.trod_int Try.underlying3 h0
      obtain ⟨b, e1, w1⟩ := DataW.trod_int Try.underlying3 h1
      simp at e0 e1
      exact ⟨(a, b), by simp [Es.cellsW, e0, e1], w0.2, w1.2⟩
end
/-- a list of edges that came in; their numbers fit -/
theorem edgesw_of_trod {H : Type} {enc : TypeId × Value → H} {W : World} {base : Nat} {v : Value} {d : DataW H} {p : List MemPlace} (hval : Value.okWide Try.prog W .any base 24 v) (h : DataW.Trod enc Try.prog W 0 (fun _ => true) true 24 v d p) :
    ∃ A n c xs, v = .slice A n c ∧ n ≤ maxLen ∧ xs.length = n ∧ Es.Ls W A c xs ∧ ∀ e ∈ xs, wf64 e.1 ∧ wf64 e.2 := by
  obtain ⟨A, n, c, rfl⟩ := okWide_slice Try.underlying24 hval
  obtain ⟨fuel, hf⟩ := h
  rcases open_slice Try.underlying24 hf with ⟨hcs, _⟩ | ⟨a, len, cap, m, k, D, Pl, hcs, _, hl, hm, hmm, _, hx⟩
  · simp [Value.cells] at hcs
    obtain ⟨rfl, rfl, rfl⟩ := hcs
    exact ⟨none, 0, 0, [], rfl, Nat.zero_le _, rfl, Es.Ls.nils _, by simp⟩
  · simp [Value.cells] at hcs
    obtain ⟨rfl, rfl, rfl⟩ := hcs
    simp only [if_true] at hmm
    obtain ⟨f, hf⟩ := choose_lt (α := Es.Ed) (n := n) (p := fun i x => (∀ r (u : Value), (Es.cellsW x)[r]? = some u → W.cell? (a.add (i * 2 + r)) = some u) ∧ wf64 x.1 ∧ wf64 x.2) (fun i hi => by
      obtain ⟨cs', h1, h2⟩ := hx i (by omega)
      rw [cells47] at h1
      obtain ⟨x, rfl, hw⟩ := edgew_cells h2
      obtain ⟨_, _, hat⟩ := World.cells?_some h1
      refine ⟨x, fun r u hr => ?_, hw⟩
      have hr2 : r < 2 := (List.getElem?_eq_some_iff.1 hr).1
      have := hat r hr2
      rw [hr] at this
      by_cases h0 : r = 0
      · subst h0
        rw [add_zero'] at this
        simpa using this
      · rw [Es.add_next _ _ r (by omega), ← add_pos' _ (by omega)]
        simpa using this)
    refine ⟨_, n, c, _, rfl, Nat.le_trans hl hm, by simp, edges_at f (fun i hi => (hf i hi).1) hl hm, fun e he => ?_⟩
    obtain ⟨i, hi, rfl⟩ := List.mem_map.1 he
    exact (hf i (List.mem_range.1 hi)).2
end Go.Proofs.Ytggmnjnigmbooaa
