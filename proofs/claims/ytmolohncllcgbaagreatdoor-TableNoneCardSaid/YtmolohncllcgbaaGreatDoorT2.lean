/- A deed that came in. -/
import Derived.Test.YtmolohncllcgbaaGreatDoorT1
import Derived.Test.YtmolohncllcgbaaGreatDoorLe
namespace Go.Proofs.YtmolohncllcgbaaGreatDoor
open Go Go.ChangeShapes Go.WideShapes Go.ChangeAt Go.RowKit Go.Deep
set_option maxRecDepth 100000

theorem dd4_of_trod {H : Type} {enc : TypeId × Value → H} {W : World} {base b0 : Nat} {sp : Nat → Bool} {held : Bool} {v : Value} {d : DataW H} {p : List MemPlace} (hval : Value.okWide Tryz.prog W .any b0 32 v) (h : DataW.Trod enc Tryz.prog W base sp held 32 v d p) :
    ∃ x : Int × Int × Int × Int, v = d4v x.1 x.2.1 x.2.2.1 x.2.2.2 := by
  obtain ⟨cs, rfl, hsz⟩ := okWide_struct Tryz.underlying32 hval
  obtain ⟨fuel, hf⟩ := h
  obtain ⟨k, t, m, f, e, _⟩ := d12_of_trod hf
  obtain ⟨l⟩ := cs
  simp only [Value.cells] at e
  subst e
  exact ⟨(k, t, m, f), rfl⟩
theorem none_law (p : Pa.Pt) (x : Int × Int × Int × Int) (w : World) (ht : TabG w) : Calls Tryz.prog 4 #[p.v, d4v x.1 x.2.1 x.2.2.1 x.2.2.2] w fun e w' => e = .returned (.bool true) ∧ Below w.heap.size w w' :=
  none_walk p x.1 x.2.1 x.2.2.1 x.2.2.2 w ht
end Go.Proofs.YtmolohncllcgbaaGreatDoor
