/- What the rows' readings give: the listed table, lists of numbers, lists of deeds; and a law's last step. -/
import Derived.Test.YteaibamkfccplaaDoorRows
import Derived.Test.YteaibamkfccplaaDoorB0
import Derived.ProofKit
import Derived.OpenShut
import Derived.LaidMore
import Derived.Stop.Joined
import Derived.Carry
import Derived.ChangeSlices
import Derived.Deep.Slices
namespace Go.Proofs.YteaibamkfccplaaDoor
open Go Go.ChangeShapes Go.WideShapes Go.ChangeAt Go.RowKit Go.Deep
set_option maxRecDepth 100000

theorem own : ownKnob Tryd.prog.godebug = none := by kernel_rfl
theorem laidOut : laidOutB Tryd.prog = true := by kernel_rfl
/-- a law's last step: it has answered, and nothing that was there has changed -/
theorem law_post {H : Type} {enc : TypeId × Value → H} {P : Program} {f : Func} {s : ChangeSpec} {apart fresh handsOn : Bool} {W W' : World} {args : Array Value} {v : Value} {ds gs : List (DataW H)} {before : List MemPlace}
    (hW : DataW.Whole enc P f.params.toList s.vars apart W args.toList ds gs before)
    (hres : ∀ (b : Nat) (sp : Nat → Bool) (hd : Bool), DataW.TrodAll enc P W' b sp hd f.resultTypes.toList (v.resultList f.resultTypes.size) (s.fn H (ds ++ gs)).results [])
    (hargs : DataW.TrodAll enc P W' 0 (fun b => decide (b < W.heap.size)) true f.params.toList args.toList (s.fn H (ds ++ gs)).args before)
    (hvars : DataW.TrodVars enc P W' (fun b => decide (b < W.heap.size)) s.vars (s.fn H (ds ++ gs)).vars []) (hb : Below W.heap.size W W') :
    s.post enc P f apart fresh handsOn false W args v W' :=
  ⟨ds, gs, before, [], before, [], hW, hres _ _ _, hargs, hvars, World.keptBut_mono (fun _ hp => ⟨hp, Or.inr (Or.inl hp)⟩) (hb.frame (· ∈ before)), fun h => by cases h⟩
theorem readable61 : Tryd.prog.readableRec 61 = true := by kernel_rfl
theorem small61 : 61 < Tryd.prog.types.size := by decide +kernel
theorem cells3 : Tryd.prog.cellsOf 3 = 1 := by kernel_rfl
/-- a list of numbers that came in -/
theorem ints_of_trod {H : Type} {enc : TypeId × Value → H} {W : World} {base : Nat} {v : Value} {d : DataW H} {p : List MemPlace} (hval : Value.okWide Tryd.prog W .any base 61 v) (h : DataW.Trod enc Tryd.prog W 0 (fun _ => true) true 61 v d p) :
    ∃ A n c, v = .slice A n c ∧ n ≤ maxLen ∧ InI W A n := by
  obtain ⟨A, n, c, rfl⟩ := okWide_slice Tryd.underlying61 hval
  obtain ⟨fuel, hf⟩ := h
  rcases open_ints Tryd.underlying61 Tryd.underlying3 cells3 hf with ⟨hcs, _⟩ | ⟨a, len', cap', zs, hcs, _, hl, hm, hz, _, hcell, _⟩
  · simp [Value.cells] at hcs
    obtain ⟨rfl, rfl, rfl⟩ := hcs
    exact ⟨none, 0, 0, rfl, Nat.zero_le _, fun i hi => by omega⟩
  · simp [Value.cells] at hcs
    obtain ⟨rfl, rfl, rfl⟩ := hcs
    simp only [if_true] at hz
    refine ⟨_, _, _, rfl, Nat.le_trans hl hm, fun i hi => ?_⟩
    have hc := hcell i (by omega)
    have hb := cell_lt hc
    rw [Hs.block_add'] at hb
    exact ⟨a, _, rfl, hb, hc⟩
theorem readable22 : Tryd.prog.readableRec 22 = true := by kernel_rfl
theorem small22 : 22 < Tryd.prog.types.size := by decide +kernel
theorem cells36 : Tryd.prog.cellsOf 36 = 4 := by kernel_rfl
section
variable {H : Type} {enc : TypeId × Value → H} {w : World} {base : Nat} {spare : Nat → Bool} {held : Bool} {fuel : Nat} {cs : List Value} {y : DataW H × List MemPlace}
theorem deed_of_trod (h : DataW.trod enc Tryd.prog w base spare held fuel 36 cs = some y) : ∃ k t m f : Int, cs = [.int .i64 k, .int .i64 t, .int .i64 m, .int .i64 f] ∧ Hs.wf64 t := by
  obtain ⟨xs, n, _, _, hlen, hxl, hf⟩ := DataW.trod_struct Tryd.underlying36 h
  rw [cells36] at hlen
  match cs, hlen with
  | [v0, v1, v2, v3], _ =>
    match xs, hxl with
    | [y0, y1, y2, y3], _ =>
      have h0 := hf 0 _ rfl
      have h1 := hf 1 _ rfl
      have h2 := hf 2 _ rfl
      have h3 := hf 3 _ rfl
      change DataW.trod enc Tryd.prog w base spare held n 3 (([v0, v1, v2, v3].drop 0).take (Tryd.prog.cellsOf 3)) = some y0 at h0
      change DataW.trod enc Tryd.prog w base spare held n 3 (([v0, v1, v2, v3].drop 1).take (Tryd.prog.cellsOf 3)) = some y1 at h1
      change DataW.trod enc Tryd.prog w base spare held n 3 (([v0, v1, v2, v3].drop 2).take (Tryd.prog.cellsOf 3)) = some y2 at h2
      change DataW.trod enc Tryd.prog w base spare held n 3 (([v0, v1, v2, v3].drop 3).take (Tryd.prog.cellsOf 3)) = some y3 at h3
      rw [cells3] at h0 h1 h2 h3
      obtain ⟨k, e0, _, _⟩ := DataW.trod_int Tryd.underlying3 h0
      obtain ⟨t, e1, _, wt⟩ := DataW.trod_int Tryd.underlying3 h1
      obtain ⟨m, e2, _, _⟩ := DataW.trod_int Tryd.underlying3 h2
      obtain ⟨f, e3, _, _⟩ := DataW.trod_int Tryd.underlying3 h3
      simp at e0 e1 e2 e3
      exact ⟨k, t, m, f, by rw [e0, e1, e2, e3], wt⟩
end
instance : Inhabited Dd := ⟨⟨0, 0, 0, 0⟩⟩
theorem deeds_of_trod {H : Type} {enc : TypeId × Value → H} {W : World} {base : Nat} {v : Value} {d : DataW H} {p : List MemPlace} (hval : Value.okWide Tryd.prog W .any base 22 v) (h : DataW.Trod enc Tryd.prog W 0 (fun _ => true) true 22 v d p) :
    ∃ A n c g, v = .slice A n c ∧ n ≤ maxLen ∧ InD W A n g := by
  obtain ⟨A, n, c, rfl⟩ := okWide_slice Tryd.underlying22 hval
  obtain ⟨fuel, hf⟩ := h
  rcases open_slice Tryd.underlying22 hf with ⟨hcs, _⟩ | ⟨a, len, cap, m, k, D, Pl, hcs, _, hl, hm, hmm, _, hx⟩
  · simp [Value.cells] at hcs
    obtain ⟨rfl, rfl, rfl⟩ := hcs
    exact ⟨none, 0, 0, fun _ => ⟨0, 0, 0, 0⟩, rfl, Nat.zero_le _, fun i hi => by omega⟩
  · simp [Value.cells] at hcs
    obtain ⟨rfl, rfl, rfl⟩ := hcs
    simp only [if_true] at hmm
    obtain ⟨g, hg⟩ := choose_lt (α := Dd) (n := n) (p := fun i x => a.block < W.heap.size ∧ DeedAt W a i x ∧ Hs.wf64 x.t) (fun i hi => by
      obtain ⟨cs', h1, h2⟩ := hx i (by omega)
      rw [cells36] at h1
      obtain ⟨kd, t, md, f, rfl, hw⟩ := deed_of_trod h2
      obtain ⟨_, _, hat⟩ := World.cells?_some h1
      have g0 := hat 0 (by omega)
      have g1 := hat 1 (by omega)
      have g2 := hat 2 (by omega)
      have g3 := hat 3 (by omega)
      have gb := cell_lt g0
      rw [Hs.block_add', Hs.block_add'] at gb
      exact ⟨⟨kd, t, md, f⟩, gb, ⟨g0, g1, g2, g3⟩, hw⟩)
    exact ⟨_, _, _, g, rfl, Nat.le_trans hl hm, fun i hi => ⟨a, rfl, (hg i hi).1, (hg i hi).2.1, (hg i hi).2.2⟩⟩
theorem gGoes : Tryd.prog.globalNamed "escutcheon/mode.goes" = some 0 := by kernel_rfl
theorem tGoes : (Tryd.prog.globals[0]?).map (·.type) = some 101 := by kernel_rfl
theorem c101 : Tryd.prog.cellsOf 101 = 49 := by kernel_rfl
theorem c100 : Tryd.prog.cellsOf 100 = 7 := by kernel_rfl
theorem c4 : Tryd.prog.cellsOf 4 = 1 := by kernel_rfl
/-- the table as the given row lists it, row by row -/
def rowD (i : Nat) : List Bool := (List.range 7).map (goesN i)
theorem goes_is : (Rows.laid_escutcheon_mode_goes : DataW Unit) = .agg ((List.range 7).map fun i => .agg ((rowD i).map fun b => .lit (.bool b))) := by kernel_rfl

/-- a cell of a listed table, once its array of cells is read as that table -/
theorem goes_cell {enc : TypeId × Value → Unit} {w : World} {base : Nat} {sp : Nat → Bool} {held : Bool} {fuel : Nat} {cs : List Value} {p : List MemPlace}
    (h : DataW.trod enc Tryd.prog w base sp held fuel 101 cs = some (Rows.laid_escutcheon_mode_goes, p)) (i j : Nat) (hi : i ≤ 6) (hj : j ≤ 6) : cs[i * 7 + j]? = some (.bool (goesN i j)) := by
  obtain ⟨xs, m, rfl, hx, hlen, hn, hel⟩ := DataW.trod_array Tryd.underlying101 h
  rw [goes_is] at hx
  simp only [Prod.mk.injEq, DataW.agg.injEq] at hx
  have h1 := hel i (by omega)
  rw [c100] at h1
  obtain ⟨y, hy⟩ : ∃ y, xs[i]? = some y := ⟨_, List.getElem?_eq_getElem (by omega)⟩
  rw [hy] at h1
  have e1 : y.1 = .agg ((rowD i).map fun b => .lit (.bool b)) := by
    have := congrArg (fun l => l[i]?) hx.1
    simp only [List.getElem?_map, hy, Option.map_some] at this
    rw [List.getElem?_range (by omega)] at this
    simpa using this.symm
  obtain ⟨ys, m1, rfl, hx1, hlen1, hn1, hel1⟩ := DataW.trod_array Tryd.underlying100 h1
  have h2 := hel1 j (by omega)
  rw [c4] at h2
  obtain ⟨z, hz⟩ : ∃ z, ys[j]? = some z := ⟨_, List.getElem?_eq_getElem (by omega)⟩
  rw [hz] at h2
  have e2 : z.1 = .lit (.bool (goesN i j)) := by
    rw [hx1] at e1
    simp only [DataW.agg.injEq] at e1
    have := congrArg (fun l => l[j]?) e1
    simp only [List.getElem?_map, hz, Option.map_some, rowD] at this
    rw [List.getElem?_range (by omega)] at this
    simpa using this
  obtain ⟨b, e3, e4⟩ := DataW.trod_bool Tryd.underlying4 h2
  rw [e4] at e2
  simp only [DataW.lit.injEq, Lit.bool.injEq] at e2
  subst e2
  have := congrArg (fun l => l[0]?) e3
  simp only [List.getElem?_take, List.getElem?_drop] at this
  have h3 : j < 7 ∧ cs[i * 7 + j]? = some (.bool (goesN i j)) := by simpa using this
  exact h3.2

theorem tab_goes {W : World} {cs : Array Value} {enc : TypeId × Value → Unit} {base : Nat} {sp : Nat → Bool} {held : Bool} {fuel : Nat} {p : List MemPlace}
    (hv : W.var? Tryd.prog "escutcheon/mode.goes" = some cs) (hd : DataW.trod enc Tryd.prog W base sp held fuel 101 cs.toList = some (Rows.laid_escutcheon_mode_goes, p)) : TabG W := by
  have hc : ∀ i j, i ≤ 6 → j ≤ 6 → W.cell? ⟨0, i * 7 + j, none⟩ = some (.bool (goesN i j)) := fun i j hi hj => by
    rw [World.var?_cell gGoes hv, ← Array.getElem?_toList]
    exact goes_cell hd i j hi hj
  refine ⟨?_, hc⟩
  have h0 := hc 0 0 (by omega) (by omega)
  rcases Nat.lt_or_ge 0 W.heap.size with h | h
  · exact h
  · have : W.heap[0]? = none := Array.getElem?_eq_none h
    simp [World.cell?, this] at h0

theorem tab_of_one {W : World} (h : laidMetH Tryd.prog [("escutcheon/mode.goes", Rows.laid_escutcheon_mode_goes)] W) : TabG W := by
  rw [MakeChecks.laidMetH_plain _ _ _ (by kernel_rfl)] at h
  obtain ⟨ps, ⟨g0, t0, cs0, f0, p0, q0, hg0, ht0, hv0, hd0, _⟩, _⟩ := h
  obtain rfl := Option.some.inj (gGoes.symm.trans hg0)
  obtain rfl := Option.some.inj (tGoes.symm.trans ht0)
  exact tab_goes hv0 hd0

abbrev laidG : List (String × DataW Unit) := [("escutcheon/mode.goes", Rows.laid_escutcheon_mode_goes)]
theorem door_met (os : Os) (args : Array Value) : laidMetH Tryd.prog laidG ((World.doorLaid Tryd.prog 21 os).forCall (fun _ _ => 0) ⟨#[], args, []⟩).memory :=
  laidMetH_of_parts3 (fuel := 8) (laidMet_of_run' 8 (by kernel_rfl) (by kernel_rfl)) (by kernel_rfl) (by kernel_rfl)
end Go.Proofs.YteaibamkfccplaaDoor
