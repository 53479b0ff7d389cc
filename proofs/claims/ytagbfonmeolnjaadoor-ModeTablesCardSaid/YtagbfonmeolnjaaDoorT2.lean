/- What the two listed tables give together: the names lie in their cells as the program's text lays them, and so does what goes together. -/
import Derived.Test.YtagbfonmeolnjaaDoorT1
import Derived.Test.YtagbfonmeolnjaaDoorA5
namespace Go.Proofs.YtagbfonmeolnjaaDoor
open Go Go.ChangeShapes Go.WideShapes Go.ChangeAt Go.RowKit

theorem names_is : (Rows.laid_escutcheon_mode_names : DataW Unit) = .agg ((List.range 7).map fun i => .lit (.string (nameN i).data.toList)) := by kernel_rfl
theorem names_cell {enc : TypeId × Value → Unit} {w : World} {base : Nat} {sp : Nat → Bool} {held : Bool} {fuel : Nat} {cs : List Value} {p : List MemPlace}
    (h : DataW.trod enc Tryd.prog w base sp held fuel 38 cs = some (Rows.laid_escutcheon_mode_names, p)) : cs.length = 7 ∧ ∀ i, i ≤ 6 → cs[i]? = some (.string (nameN i)) := by
  obtain ⟨xs, m, rfl, hx, hlen, hn, hel⟩ := DataW.trod_array Tryd.underlying38 h
  rw [c38] at hlen
  refine ⟨hlen, fun i hi => ?_⟩
  rw [names_is] at hx
  simp only [Prod.mk.injEq, DataW.agg.injEq] at hx
  have h1 := hel i (by omega)
  rw [c9] at h1
  obtain ⟨y, hy⟩ : ∃ y, xs[i]? = some y := ⟨_, List.getElem?_eq_getElem (by omega)⟩
  rw [hy] at h1
  have e1 : y.1 = .lit (.string (nameN i).data.toList) := by
    have := congrArg (fun l => l[i]?) hx.1
    simp only [List.getElem?_map, hy, Option.map_some] at this
    rw [List.getElem?_range (by omega)] at this
    simpa using this.symm
  obtain ⟨s, e3, e4, _⟩ := DataW.trod_string Tryd.underlying9 h1
  rw [e4] at e1
  simp only [DataW.lit.injEq, Lit.string.injEq] at e1
  have e5 : s = nameN i := by
    obtain ⟨⟨l⟩⟩ := s
    generalize nameN i = t at e1
    obtain ⟨⟨l'⟩⟩ := t
    simp only at e1
    rw [e1]
  rw [e5] at e3
  have := congrArg (fun l => l[0]?) e3
  simpa [List.getElem?_take, List.getElem?_drop] using this

theorem tab_names {W : World} {cs : Array Value} {enc : TypeId × Value → Unit} {base : Nat} {sp : Nat → Bool} {held : Bool} {fuel : Nat} {p : List MemPlace}
    (hv : W.var? Tryd.prog "escutcheon/mode.names" = some cs) (hd : DataW.trod enc Tryd.prog W base sp held fuel 38 cs.toList = some (Rows.laid_escutcheon_mode_names, p)) : TabN W := by
  obtain ⟨hl, hc⟩ := names_cell hd
  have e : cs = namesA := by
    obtain ⟨l⟩ := cs
    simp only at hl hc
    match l, hl, hc with
    | [y0, y1, y2, y3, y4, y5, y6], _, hc =>
      have z0 := hc 0 (by omega)
      have z1 := hc 1 (by omega)
      have z2 := hc 2 (by omega)
      have z3 := hc 3 (by omega)
      have z4 := hc 4 (by omega)
      have z5 := hc 5 (by omega)
      have z6 := hc 6 (by omega)
      simp only [List.getElem?_cons_zero, List.getElem?_cons_succ, Option.some.injEq] at z0 z1 z2 z3 z4 z5 z6
      subst z0 z1 z2 z3 z4 z5 z6
      rfl
  subst e
  unfold World.var? at hv
  simp only [gNames, Option.bind_some] at hv
  unfold TabN
  split at hv
  · rename_i c t fr hh
    simp only [Option.some.injEq] at hv
    subst hv
    exact ⟨_, _, hh⟩
  · cases hv

theorem tabs_of_two {W : World} (h : laidMetH Tryd.prog [("escutcheon/mode.goes", Rows.laid_escutcheon_mode_goes), ("escutcheon/mode.names", Rows.laid_escutcheon_mode_names)] W) : TabG W ∧ TabN W := by
  rw [MakeChecks.laidMetH_plain _ _ _ (by kernel_rfl)] at h
  obtain ⟨ps, ⟨g0, t0, cs0, f0, p0, q0, hg0, ht0, hv0, hd0, ⟨g1, t1, cs1, f1, p1, q1, hg1, ht1, hv1, hd1, _, _⟩, _⟩, _, _⟩ := h
  obtain rfl := Option.some.inj (gGoes.symm.trans hg0)
  obtain rfl := Option.some.inj (tGoes.symm.trans ht0)
  obtain rfl := Option.some.inj (gNames.symm.trans hg1)
  obtain rfl := Option.some.inj (tNames.symm.trans ht1)
  exact ⟨tab_goes hv0 hd0, tab_names hv1 hd1⟩
end Go.Proofs.YtagbfonmeolnjaaDoor
