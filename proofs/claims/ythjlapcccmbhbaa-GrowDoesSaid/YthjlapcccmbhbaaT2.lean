/- What the rows' readings give: locks whose numbers fit, their modes too. -/
import Derived.Test.YthjlapcccmbhbaaT1
namespace Go.Proofs.Ythjlapcccmbhbaa
open Go Go.ChangeShapes Go.WideShapes Go.ChangeAt Go.RowKit Go.Deep
set_option maxRecDepth 100000

section
variable {H : Type} {enc : TypeId × Value → H} {w : World} {base : Nat} {spare : Nat → Bool} {held : Bool} {fuel : Nat} {cs : List Value} {y : DataW H × List MemPlace}
theorem lock_cells2 (h : DataW.trod enc Try.prog w base spare held fuel 27 cs = some y) : ∃ x : Lk.Hd, cs = Lk.cellsW x ∧ FitP x.1 ∧ wf64 x.2 := by
  obtain ⟨xs, n, _, _, hlen, hxl, hf⟩ := DataW.trod_struct Try.underlying27 h
  rw [cells32] at hlen
  match cs, hlen with
  | [v0, v1, v2, v3, v4, v5], _ =>
    match xs, hxl with
    | [y0, y1], _ =>
      have h0 := hf 0 _ rfl
      have h1 := hf 1 _ rfl
      change DataW.trod enc Try.prog w base spare held n 25 (([v0, v1, v2, v3, v4, v5].drop 0).take (Try.prog.cellsOf 25)) = some y0 at h0
      change DataW.trod enc Try.prog w base spare held n 3 (([v0, v1, v2, v3, v4, v5].drop 5).take (Try.prog.cellsOf 3)) = some y1 at h1
      rw [cells25] at h0
      rw [cells3] at h1
      obtain ⟨p, e0, w0⟩ := path_cells h0
      obtain ⟨b, e1, w1⟩ := DataW.trod_int Try.underlying3 h1
      simp at e0 e1
      exact ⟨(p, b), by simp [Lk.cellsW, e0, e1], w0, w1.2⟩
end
/-- a lock that came in -/
theorem lock_of_trod {H : Type} {enc : TypeId × Value → H} {W : World} {base b0 : Nat} {sp : Nat → Bool} {held : Bool} {v : Value} {d : DataW H} {p : List MemPlace} (hval : Value.okWide Try.prog W .any b0 27 v) (h : DataW.Trod enc Try.prog W base sp held 27 v d p) :
    ∃ x : Lk.Hd, v = Lk.wv x := by
  obtain ⟨cs, rfl, hsz⟩ := okWide_struct Try.underlying27 hval
  obtain ⟨fuel, hf⟩ := h
  obtain ⟨x, hx, -⟩ := lock_cells2 hf
  exact ⟨x, by
    obtain ⟨l⟩ := cs
    simp only [Value.cells] at hx
    rw [show l = _ from hx]
    rfl⟩
/-- a list of locks that came in; their numbers fit -/
theorem locks_of_trod2 {H : Type} {enc : TypeId × Value → H} {W : World} {base : Nat} {v : Value} {d : DataW H} {p : List MemPlace} (hval : Value.okWide Try.prog W .any base 22 v) (h : DataW.Trod enc Try.prog W 0 (fun _ => true) true 22 v d p) :
    ∃ A n c xs, v = .slice A n c ∧ n ≤ maxLen ∧ xs.length = n ∧ Lk.Ls W A c xs ∧ ∀ x ∈ xs, FitP x.1 ∧ wf64 x.2 := by
  obtain ⟨A, n, c, rfl⟩ := okWide_slice Try.underlying22 hval
  obtain ⟨fuel, hf⟩ := h
  rcases open_slice Try.underlying22 hf with ⟨hcs, _⟩ | ⟨a, len, cap, m, k, D, Pl, hcs, _, hl, hm, hmm, _, hx⟩
  · simp [Value.cells] at hcs
    obtain ⟨rfl, rfl, rfl⟩ := hcs
    exact ⟨none, 0, 0, [], rfl, Nat.zero_le _, rfl, Lk.Ls.nils _, by simp⟩
  · simp [Value.cells] at hcs
    obtain ⟨rfl, rfl, rfl⟩ := hcs
    simp only [if_true] at hmm
    obtain ⟨f, hf⟩ := choose_lt (α := Lk.Hd) (n := n) (p := fun i x => (∀ r (u : Value), (Lk.cellsW x)[r]? = some u → W.cell? (a.add (i * 6 + r)) = some u) ∧ FitP x.1 ∧ wf64 x.2) (fun i hi => by
      obtain ⟨cs', h1, h2⟩ := hx i (by omega)
      rw [cells32] at h1
      obtain ⟨x, rfl, hw⟩ := lock_cells2 h2
      obtain ⟨_, _, hat⟩ := World.cells?_some h1
      refine ⟨x, fun r u hr => ?_, hw⟩
      have hr2 : r < 6 := (List.getElem?_eq_some_iff.1 hr).1
      have := hat r hr2
      rw [hr] at this
      by_cases h0 : r = 0
      · subst h0
        rw [add_zero'] at this
        simpa using this
      · rw [Lk.add_next _ _ r (by omega), ← add_pos' _ (by omega)]
        simpa using this)
    refine ⟨_, n, c, _, rfl, Nat.le_trans hl hm, by simp, locks_at f (fun i hi => (hf i hi).1) hl hm, fun e he => ?_⟩
    obtain ⟨i, hi, rfl⟩ := List.mem_map.1 he
    exact (hf i (List.mem_range.1 hi)).2
end Go.Proofs.Ythjlapcccmbhbaa
