/- What the rows' readings give: the listed table, lists of holds; and a law's last step. -/
import Derived.Test.YtfapgecpndlibaaDoorRows
import Derived.Test.YtfapgecpndlibaaDoorB1
import Derived.ProofKit
import Derived.OpenShut
import Derived.LaidMore
import Derived.Stop.Joined
import Derived.Carry
import Derived.ChangeSlices
import Derived.Deep.Slices
namespace Go.Proofs.YtfapgecpndlibaaDoor
open Go Go.ChangeShapes Go.WideShapes Go.ChangeAt Go.RowKit Go.Deep

theorem own : ownKnob Tryd.prog.godebug = none := by kernel_rfl
theorem laidOut : laidOutB Tryd.prog = true := by kernel_rfl
/-- a law's last step: it has answered, and nothing that was there has changed -/
theorem law_post {H : Type} {enc : TypeId × Value → H} {P : Program} {f : Func} {s : ChangeSpec} {apart fresh handsOn : Bool} {W W' : World} {args : Array Value} {v : Value} {ds gs : List (DataW H)} {before : List MemPlace}
    (hW : DataW.Whole enc P f.params.toList s.vars apart W args.toList ds gs before)
    (hres : ∀ (b : Nat) (sp : Nat → Bool) (hd : Bool), DataW.TrodAll enc P W' b sp hd f.resultTypes.toList (v.resultList f.resultTypes.size) (s.fn H (ds ++ gs)).results [])
    (hargs : DataW.TrodAll enc P W' 0 (fun b => decide (b < W.heap.size)) true f.params.toList args.toList (s.fn H (ds ++ gs)).args before)
    (hvars : DataW.TrodVars enc P W' (fun b => decide (b < W.heap.size)) s.vars (s.fn H (ds ++ gs)).vars []) (hb : Below W.heap.size W W') :
    s.post enc P f apart fresh handsOn false W args v W' :=
  ⟨ds, gs, before, [], before, [], hW, hres _ _ _, hargs, hvars, World.keptBut_mono (fun _ hp => ⟨hp, Or.inr (Or.inl hp)⟩) (hb.frame (· ∈ before)), fun h => by cases h⟩
theorem readable22 : Tryd.prog.readableRec 22 = true := by kernel_rfl
theorem small22 : 22 < Tryd.prog.types.size := by decide +kernel
theorem cells3 : Tryd.prog.cellsOf 3 = 1 := by kernel_rfl
theorem cells28 : Tryd.prog.cellsOf 28 = 2 := by kernel_rfl
section
variable {H : Type} {enc : TypeId × Value → H} {w : World} {base : Nat} {spare : Nat → Bool} {held : Bool} {fuel : Nat} {cs : List Value} {y : DataW H × List MemPlace}
theorem hold_cells (h : DataW.trod enc Tryd.prog w base spare held fuel 28 cs = some y) : ∃ x : Hd, cs = cellsW x ∧ wf64 x.1 := by
  obtain ⟨xs, n, _, _, hlen, hxl, hf⟩ := DataW.trod_struct Tryd.underlying28 h
  rw [cells28] at hlen
  match cs, hlen with
  | [v0, v1], _ =>
    match xs, hxl with
    | [y0, y1], _ =>
      have h0 := hf 0 _ rfl
      have h1 := hf 1 _ rfl
      change DataW.trod enc Tryd.prog w base spare held n 3 (([v0, v1].drop 0).take (Tryd.prog.cellsOf 3)) = some y0 at h0
      change DataW.trod enc Tryd.prog w base spare held n 3 (([v0, v1].drop 1).take (Tryd.prog.cellsOf 3)) = some y1 at h1
      rw [cells3] at h0 h1
      obtain ⟨a, e0, _, w0⟩ := DataW.trod_int Tryd.underlying3 h0
      obtain ⟨b, e1, _, _⟩ := DataW.trod_int Tryd.underlying3 h1
      simp at e0 e1
      exact ⟨(a, b), by simp [cellsW, e0, e1], w0⟩
end
theorem add_zero' (a : Addr) : a.add 0 = a := if_pos rfl
theorem add_pos' (a : Addr) {r : Nat} (h : 0 < r) : a.add r = ⟨a.block, a.off + r, none⟩ := if_neg (by omega)
theorem ls_of_at {W : World} {a : Addr} {n c : Nat} (f : Nat → Hd) (h : ∀ i, i < n → ∀ r (u : Value), (cellsW (f i))[r]? = some u → W.cell? (a.add (i * 2 + r)) = some u) (hl : n ≤ c) (hm : c ≤ maxLen) : Ls W (some a) c ((List.range n).map f) := by
  refine ⟨by simpa using hl, hm, by simp, fun a' ha j u hj => ?_⟩
  obtain rfl : a = a' := by simpa using ha
  have hj1 := (List.getElem?_eq_some_iff.1 hj).1
  rw [flat_length, List.length_map, List.length_range] at hj1
  have e : j = j / 2 * 2 + j % 2 := by omega
  have hi : j / 2 < n := by omega
  rw [e] at hj ⊢
  rw [flat_at _ (j / 2) (j % 2) (by simpa using hi) (by omega)] at hj
  simp only [List.getElem_map, List.getElem_range] at hj
  exact h _ hi _ _ hj
/-- a list of holds that came in -/
theorem holds_of_trod {H : Type} {enc : TypeId × Value → H} {W : World} {base : Nat} {v : Value} {d : DataW H} {p : List MemPlace} (hval : Value.okWide Tryd.prog W .any base 22 v) (h : DataW.Trod enc Tryd.prog W 0 (fun _ => true) true 22 v d p) :
    ∃ A n c xs, v = .slice A n c ∧ n ≤ maxLen ∧ xs.length = n ∧ Ls W A c xs ∧ ∀ x ∈ xs, wf64 x.1 := by
  obtain ⟨A, n, c, rfl⟩ := okWide_slice Tryd.underlying22 hval
  obtain ⟨fuel, hf⟩ := h
  rcases open_slice Tryd.underlying22 hf with ⟨hcs, _⟩ | ⟨a, len, cap, m, k, D, Pl, hcs, _, hl, hm, hmm, _, hx⟩
  · simp [Value.cells] at hcs
    obtain ⟨rfl, rfl, rfl⟩ := hcs
    exact ⟨none, 0, 0, [], rfl, Nat.zero_le _, rfl, Ls.nils _, by simp⟩
  · simp [Value.cells] at hcs
    obtain ⟨rfl, rfl, rfl⟩ := hcs
    simp only [if_true] at hmm
    obtain ⟨f, hf⟩ := choose_lt (α := Hd) (n := n) (p := fun i x => (∀ r (u : Value), (cellsW x)[r]? = some u → W.cell? (a.add (i * 2 + r)) = some u) ∧ wf64 x.1) (fun i hi => by
      obtain ⟨cs', h1, h2⟩ := hx i (by omega)
      rw [cells28] at h1
      obtain ⟨x, rfl, hwx⟩ := hold_cells h2
      obtain ⟨_, _, hat⟩ := World.cells?_some h1
      refine ⟨x, fun r u hr => ?_, hwx⟩
      have hr2 : r < 2 := (List.getElem?_eq_some_iff.1 hr).1
      have := hat r hr2
      rw [hr] at this
      by_cases h0 : r = 0
      · subst h0
        rw [add_zero'] at this
        simpa using this
      · rw [add_next _ _ r (by omega), ← add_pos' _ (by omega)]
        simpa using this)
    refine ⟨_, n, c, _, rfl, Nat.le_trans hl hm, by simp, ls_of_at f (fun i hi => (hf i hi).1) hl hm, fun x hx' => ?_⟩
    obtain ⟨i, hi, rfl⟩ := List.mem_map.1 hx'
    exact (hf i (List.mem_range.1 hi)).2
theorem gGoes : Tryd.prog.globalNamed "escutcheon/mode.goes" = some 0 := by kernel_rfl
theorem tGoes : (Tryd.prog.globals[0]?).map (·.type) = some 50 := by kernel_rfl
theorem c50 : Tryd.prog.cellsOf 50 = 49 := by kernel_rfl
theorem c49 : Tryd.prog.cellsOf 49 = 7 := by kernel_rfl
theorem c4 : Tryd.prog.cellsOf 4 = 1 := by kernel_rfl
/-- the table as the given row lists it, row by row -/
def rowD (i : Nat) : List Bool := (List.range 7).map (goesN i)
theorem goes_is : (Rows.laid_escutcheon_mode_goes : DataW Unit) = .agg ((List.range 7).map fun i => .agg ((rowD i).map fun b => .lit (.bool b))) := by kernel_rfl

/-- a cell of a listed table, once its array of cells is read as that table -/
theorem goes_cell {enc : TypeId × Value → Unit} {w : World} {base : Nat} {sp : Nat → Bool} {held : Bool} {fuel : Nat} {cs : List Value} {p : List MemPlace}
    (h : DataW.trod enc Tryd.prog w base sp held fuel 50 cs = some (Rows.laid_escutcheon_mode_goes, p)) (i j : Nat) (hi : i ≤ 6) (hj : j ≤ 6) : cs[i * 7 + j]? = some (.bool (goesN i j)) := by
  obtain ⟨xs, m, rfl, hx, hlen, hn, hel⟩ := DataW.trod_array Tryd.underlying50 h
  rw [goes_is] at hx
  simp only [Prod.mk.injEq, DataW.agg.injEq] at hx
  have h1 := hel i (by omega)
  rw [c49] at h1
  obtain ⟨y, hy⟩ : ∃ y, xs[i]? = some y := ⟨_, List.getElem?_eq_getElem (by omega)⟩
  rw [hy] at h1
  have e1 : y.1 = .agg ((rowD i).map fun b => .lit (.bool b)) := by
    have := congrArg (fun l => l[i]?) hx.1
    simp only [List.getElem?_map, hy, Option.map_some] at this
    rw [List.getElem?_range (by omega)] at this
    simpa using this.symm
  obtain ⟨ys, m1, rfl, hx1, hlen1, hn1, hel1⟩ := DataW.trod_array Tryd.underlying49 h1
  have h2 := hel1 j (by omega)
  rw [c4] at h2
  obtain ⟨z, hz⟩ : ∃ z, ys[j]? = some z := ⟨_, List.getElem?_eq_getElem (by omega)⟩
  rw [hz] at h2
  have e2 : z.1 = .lit (.bool (goesN i j)) := by
    rw [hx1] at e1
    simp only [DataW.agg.injEq] at e1
    have := congrArg (fun l => l[j]?) e1
    simp only [List.getElem?_map, hz, Option.map_some, rowD] at this
    rw [List.getElem?_range (by omega)] at this
    simpa using this
  obtain ⟨b, e3, e4⟩ := DataW.trod_bool Tryd.underlying4 h2
  rw [e4] at e2
  simp only [DataW.lit.injEq, Lit.bool.injEq] at e2
  subst e2
  have := congrArg (fun l => l[0]?) e3
  simp only [List.getElem?_take, List.getElem?_drop] at this
  have h3 : j < 7 ∧ cs[i * 7 + j]? = some (.bool (goesN i j)) := by simpa using this
  exact h3.2

theorem tab_goes {W : World} {cs : Array Value} {enc : TypeId × Value → Unit} {base : Nat} {sp : Nat → Bool} {held : Bool} {fuel : Nat} {p : List MemPlace}
    (hv : W.var? Tryd.prog "escutcheon/mode.goes" = some cs) (hd : DataW.trod enc Tryd.prog W base sp held fuel 50 cs.toList = some (Rows.laid_escutcheon_mode_goes, p)) : TabG W := by
  have hc : ∀ i j, i ≤ 6 → j ≤ 6 → W.cell? ⟨0, i * 7 + j, none⟩ = some (.bool (goesN i j)) := fun i j hi hj => by
    rw [World.var?_cell gGoes hv, ← Array.getElem?_toList]
    exact goes_cell hd i j hi hj
  refine ⟨?_, hc⟩
  have h0 := hc 0 0 (by omega) (by omega)
  rcases Nat.lt_or_ge 0 W.heap.size with h | h
  · exact h
  · have : W.heap[0]? = none := Array.getElem?_eq_none h
    simp [World.cell?, this] at h0

theorem tab_of_one {W : World} (h : laidMetH Tryd.prog [("escutcheon/mode.goes", Rows.laid_escutcheon_mode_goes)] W) : TabG W := by
  rw [MakeChecks.laidMetH_plain _ _ _ (by kernel_rfl)] at h
  obtain ⟨ps, ⟨g0, t0, cs0, f0, p0, q0, hg0, ht0, hv0, hd0, _⟩, _⟩ := h
  obtain rfl := Option.some.inj (gGoes.symm.trans hg0)
  obtain rfl := Option.some.inj (tGoes.symm.trans ht0)
  exact tab_goes hv0 hd0

abbrev laidG : List (String × DataW Unit) := [("escutcheon/mode.goes", Rows.laid_escutcheon_mode_goes)]
theorem door_met (os : Os) (args : Array Value) : laidMetH Tryd.prog laidG ((World.doorLaid Tryd.prog 21 os).forCall (fun _ _ => 0) ⟨#[], args, []⟩).memory :=
  laidMetH_of_parts3 (fuel := 8) (laidMet_of_run' 8 (by kernel_rfl) (by kernel_rfl)) (by kernel_rfl) (by kernel_rfl)
end Go.Proofs.YtfapgecpndlibaaDoor
