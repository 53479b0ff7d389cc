/- What the listed tables give: each cell of the table of what goes together holds what the program's text lays there; and a law's last step. -/
import Derived.Test.YtagbfonmeolnjaaDoorRows
import Derived.Test.YtagbfonmeolnjaaDoorA3
import Derived.ProofKit
import Derived.LaidMore
import Derived.OpenShut
import Derived.Stop.Joined
namespace Go.Proofs.YtagbfonmeolnjaaDoor
open Go Go.ChangeShapes Go.WideShapes Go.ChangeAt Go.RowKit

theorem own : ownKnob Tryd.prog.godebug = none := by kernel_rfl
theorem gNames : Tryd.prog.globalNamed "escutcheon/mode.names" = some 0 := by kernel_rfl
theorem gGoes : Tryd.prog.globalNamed "escutcheon/mode.goes" = some 1 := by kernel_rfl
theorem tGoes : (Tryd.prog.globals[1]?).map (·.type) = some 40 := by kernel_rfl
theorem tNames : (Tryd.prog.globals[0]?).map (·.type) = some 38 := by kernel_rfl
theorem c40 : Tryd.prog.cellsOf 40 = 49 := by kernel_rfl
theorem c39 : Tryd.prog.cellsOf 39 = 7 := by kernel_rfl
theorem c4 : Tryd.prog.cellsOf 4 = 1 := by kernel_rfl
theorem c38 : Tryd.prog.cellsOf 38 = 7 := by kernel_rfl
theorem c9 : Tryd.prog.cellsOf 9 = 1 := by kernel_rfl

/-- the table as the given row lists it, row by row -/
def rowD (i : Nat) : List Bool := (List.range 7).map (goesN i)
theorem goes_is : (Rows.laid_escutcheon_mode_goes : DataW Unit) = .agg ((List.range 7).map fun i => .agg ((rowD i).map fun b => .lit (.bool b))) := by kernel_rfl

/-- a cell of a listed table, once its array of cells is read as that table -/
theorem goes_cell {enc : TypeId × Value → Unit} {w : World} {base : Nat} {sp : Nat → Bool} {held : Bool} {fuel : Nat} {cs : List Value} {p : List MemPlace}
    (h : DataW.trod enc Tryd.prog w base sp held fuel 40 cs = some (Rows.laid_escutcheon_mode_goes, p)) (i j : Nat) (hi : i ≤ 6) (hj : j ≤ 6) : cs[i * 7 + j]? = some (.bool (goesN i j)) := by
  obtain ⟨xs, m, rfl, hx, hlen, hn, hel⟩ := DataW.trod_array Tryd.underlying40 h
  rw [goes_is] at hx
  simp only [Prod.mk.injEq, DataW.agg.injEq] at hx
  have h1 := hel i (by omega)
  rw [c39] at h1
  obtain ⟨y, hy⟩ : ∃ y, xs[i]? = some y := ⟨_, List.getElem?_eq_getElem (by omega)⟩
  rw [hy] at h1
  have e1 : y.1 = .agg ((rowD i).map fun b => .lit (.bool b)) := by
    have := congrArg (fun l => l[i]?) hx.1
    simp only [List.getElem?_map, hy, Option.map_some] at this
    rw [List.getElem?_range (by omega)] at this
    simpa using this.symm
  obtain ⟨ys, m1, rfl, hx1, hlen1, hn1, hel1⟩ := DataW.trod_array Tryd.underlying39 h1
  have h2 := hel1 j (by omega)
  rw [c4] at h2
  obtain ⟨z, hz⟩ : ∃ z, ys[j]? = some z := ⟨_, List.getElem?_eq_getElem (by omega)⟩
  rw [hz] at h2
  have e2 : z.1 = .lit (.bool (goesN i j)) := by
    rw [hx1] at e1
    simp only [DataW.agg.injEq] at e1
    have := congrArg (fun l => l[j]?) e1
    simp only [List.getElem?_map, hz, Option.map_some, rowD] at this
    rw [List.getElem?_range (by omega)] at this
    simpa using this
  obtain ⟨b, e3, e4⟩ := DataW.trod_bool Tryd.underlying4 h2
  rw [e4] at e2
  simp only [DataW.lit.injEq, Lit.bool.injEq] at e2
  subst e2
  have := congrArg (fun l => l[0]?) e3
  simp only [List.getElem?_take, List.getElem?_drop] at this
  have h3 : j < 7 ∧ cs[i * 7 + j]? = some (.bool (goesN i j)) := by simpa using this
  exact h3.2

theorem tab_goes {W : World} {cs : Array Value} {enc : TypeId × Value → Unit} {base : Nat} {sp : Nat → Bool} {held : Bool} {fuel : Nat} {p : List MemPlace}
    (hv : W.var? Tryd.prog "escutcheon/mode.goes" = some cs) (hd : DataW.trod enc Tryd.prog W base sp held fuel 40 cs.toList = some (Rows.laid_escutcheon_mode_goes, p)) : TabG W := by
  have hc : ∀ i j, i ≤ 6 → j ≤ 6 → W.cell? ⟨1, i * 7 + j, none⟩ = some (.bool (goesN i j)) := fun i j hi hj => by
    rw [World.var?_cell gGoes hv, ← Array.getElem?_toList]
    exact goes_cell hd i j hi hj
  refine ⟨?_, hc⟩
  have h0 := hc 0 0 (by omega) (by omega)
  rcases Nat.lt_or_ge 1 W.heap.size with h | h
  · exact h
  · have : W.heap[1]? = none := Array.getElem?_eq_none h
    simp [World.cell?, this] at h0

theorem tab_of_one {W : World} (h : laidMetH Tryd.prog [("escutcheon/mode.goes", Rows.laid_escutcheon_mode_goes)] W) : TabG W := by
  rw [MakeChecks.laidMetH_plain _ _ _ (by kernel_rfl)] at h
  obtain ⟨ps, ⟨g0, t0, cs0, f0, p0, q0, hg0, ht0, hv0, hd0, _⟩, _⟩ := h
  obtain rfl := Option.some.inj (gGoes.symm.trans hg0)
  obtain rfl := Option.some.inj (tGoes.symm.trans ht0)
  exact tab_goes hv0 hd0

/-- a law's last step: it has answered, and nothing that was there has changed -/
theorem law_post {H : Type} {enc : TypeId × Value → H} {P : Program} {f : Func} {s : ChangeSpec} {apart fresh handsOn : Bool} {W W' : World} {args : Array Value} {v : Value} {ds gs : List (DataW H)} {before : List MemPlace}
    (hW : DataW.Whole enc P f.params.toList s.vars apart W args.toList ds gs before)
    (hres : ∀ (b : Nat) (sp : Nat → Bool) (hd : Bool), DataW.TrodAll enc P W' b sp hd f.resultTypes.toList (v.resultList f.resultTypes.size) (s.fn H (ds ++ gs)).results [])
    (hargs : DataW.TrodAll enc P W' 0 (fun b => decide (b < W.heap.size)) true f.params.toList args.toList (s.fn H (ds ++ gs)).args before)
    (hvars : DataW.TrodVars enc P W' (fun b => decide (b < W.heap.size)) s.vars (s.fn H (ds ++ gs)).vars []) (hb : Below W.heap.size W W') :
    s.post enc P f apart fresh handsOn false W args v W' :=
  ⟨ds, gs, before, [], before, [], hW, hres _ _ _, hargs, hvars, World.keptBut_mono (fun _ hp => ⟨hp, Or.inr (Or.inl hp)⟩) (hb.frame (· ∈ before)), fun h => by cases h⟩
end Go.Proofs.YtagbfonmeolnjaaDoor
