/- What the rows' readings give: lists of alarms and of numbers that came in. -/
import Derived.Test.YthoicmbpjcgdpaaT1
import Derived.Test.YthoicmbpjcgdpaaN3
namespace Go.Proofs.Ythoicmbpjcgdpaa
open Go Go.ChangeShapes Go.WideShapes Go.ChangeAt Go.RowKit Go.Deep

section
variable {H : Type} {enc : TypeId × Value → H} {w : World} {base : Nat} {spare : Nat → Bool} {held : Bool} {fuel : Nat} {cs : List Value} {y : DataW H × List MemPlace}
theorem al64_of_trod (h : DataW.trod enc Try.prog w base spare held fuel 31 cs = some y) : ∃ i a : Int, cs = [.int .i64 i, .int .i64 a] ∧ W64 i := by
  obtain ⟨xs, n, _, _, hlen, hxl, hf⟩ := DataW.trod_struct Try.underlying31 h
  rw [cells31] at hlen
  match cs, hlen with
  | [v0, v1], _ =>
    match xs, hxl with
    | [y0, y1], _ =>
      have h0 := hf 0 _ rfl
      have h1 := hf 1 _ rfl
      change DataW.trod enc Try.prog w base spare held n 3 (([v0, v1].drop 0).take (Try.prog.cellsOf 3)) = some y0 at h0
      change DataW.trod enc Try.prog w base spare held n 2 (([v0, v1].drop 1).take (Try.prog.cellsOf 2)) = some y1 at h1
      rw [cells3] at h0
      rw [cells2] at h1
      obtain ⟨i, e0, _, hw⟩ := DataW.trod_int Try.underlying3 h0
      obtain ⟨a, e1, _, _⟩ := DataW.trod_int Try.underlying2 h1
      simp at e0 e1
      exact ⟨i, a, by rw [e0, e1], hw⟩
end
/-- a list of alarms that came in -/
theorem als_of_trod {H : Type} {enc : TypeId × Value → H} {W : World} {base : Nat} {v : Value} {d : DataW H} {p : List MemPlace} (hval : Value.okWide Try.prog W .any base 27 v) (h : DataW.Trod enc Try.prog W 0 (fun _ => true) true 27 v d p) :
    ∃ A n c, v = .slice A n c ∧ n ≤ maxLen ∧ InA W A n := by
  obtain ⟨A, n, c, rfl⟩ := okWide_slice Try.underlying27 hval
  obtain ⟨fuel, hf⟩ := h
  rcases open_slice Try.underlying27 hf with ⟨hcs, _⟩ | ⟨a, len, cap, m, k, D, Pl, hcs, _, hl, hm, hmm, _, hx⟩
  · simp [Value.cells] at hcs
    obtain ⟨rfl, rfl, rfl⟩ := hcs
    exact ⟨none, 0, 0, rfl, Nat.zero_le _, fun i hi => by omega⟩
  · simp [Value.cells] at hcs
    obtain ⟨rfl, rfl, rfl⟩ := hcs
    simp only [if_true] at hmm
    refine ⟨_, _, _, rfl, Nat.le_trans hl hm, fun i hi => ?_⟩
    obtain ⟨cs', h1, h2⟩ := hx i (by omega)
    rw [cells31] at h1
    obtain ⟨x, y, rfl, h64⟩ := al64_of_trod h2
    obtain ⟨_, _, hat⟩ := World.cells?_some h1
    have g0 := hat 0 (by omega)
    have g1 := hat 1 (by omega)
    have gb := cell_lt g0
    rw [block_add, block_add] at gb
    exact ⟨a, x, y, rfl, gb, h64, g0, g1⟩
/-- a list of numbers that came in -/
theorem nums_of_trod {H : Type} {enc : TypeId × Value → H} {W : World} {base : Nat} {v : Value} {d : DataW H} {p : List MemPlace} (hval : Value.okWide Try.prog W .any base 44 v) (h : DataW.Trod enc Try.prog W 0 (fun _ => true) true 44 v d p) :
    ∃ A n c, v = .slice A n c ∧ n ≤ maxLen ∧ InN W A n := by
  obtain ⟨A, n, c, rfl⟩ := okWide_slice Try.underlying44 hval
  obtain ⟨fuel, hf⟩ := h
  rcases open_ints Try.underlying44 Try.underlying2 cells2 hf with ⟨hcs, _⟩ | ⟨a, len', cap', zs, hcs, _, hl, hm, hz, _, hcell, _⟩
  · simp [Value.cells] at hcs
    obtain ⟨rfl, rfl, rfl⟩ := hcs
    exact ⟨none, 0, 0, rfl, Nat.zero_le _, fun i hi => by omega⟩
  · simp [Value.cells] at hcs
    obtain ⟨rfl, rfl, rfl⟩ := hcs
    simp only [if_true] at hz
    refine ⟨_, _, _, rfl, Nat.le_trans hl hm, fun i hi => ?_⟩
    have hc := hcell i (by omega)
    have hb := cell_lt hc
    rw [block_add] at hb
    exact ⟨a, _, rfl, hb, hc⟩
end Go.Proofs.Ythoicmbpjcgdpaa
