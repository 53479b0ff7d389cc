/- A list of bools that came in. -/
import Derived.Test.YtdfkjojofhleaaaT1
import Derived.Test.YtdfkjojofhleaaaN3
import Derived.Deep.Grids
namespace Go.Proofs.Ytdfkjojofhleaaa
open Go Go.ChangeShapes Go.WideShapes Go.ChangeAt Go.RowKit Go.Deep

theorem readable35 : Try.prog.readableRec 35 = true := by kernel_rfl
theorem small35 : 35 < Try.prog.types.size := by decide +kernel
theorem cells4 : Try.prog.cellsOf 4 = 1 := by kernel_rfl
theorem bools_of_trod {H : Type} {enc : TypeId × Value → H} {W : World} {base : Nat} {v : Value} {d : DataW H} {p : List MemPlace} (hval : Value.okWide Try.prog W .any base 35 v) (h : DataW.Trod enc Try.prog W 0 (fun _ => true) true 35 v d p) :
    ∃ A n c, v = .slice A n c ∧ n ≤ maxLen ∧ InB W A n := by
  obtain ⟨A, n, c, rfl⟩ := okWide_slice Try.underlying35 hval
  obtain ⟨fuel, hf⟩ := h
  rcases open_bools Try.underlying35 Try.underlying4 cells4 hf with ⟨hcs, _⟩ | ⟨a, len', cap', B, hcs, _, hl, hm, _, hcell⟩
  · simp [Value.cells] at hcs
    obtain ⟨rfl, rfl, rfl⟩ := hcs
    exact ⟨none, 0, 0, rfl, Nat.zero_le _, fun i hi => by omega⟩
  · simp [Value.cells] at hcs
    obtain ⟨rfl, rfl, rfl⟩ := hcs
    refine ⟨_, _, _, rfl, Nat.le_trans hl hm, fun i hi => ?_⟩
    have hc := hcell i (by omega)
    have hb := cell_lt hc
    rw [block_add] at hb
    exact ⟨a, _, rfl, hb, hc⟩
end Go.Proofs.Ytdfkjojofhleaaa
