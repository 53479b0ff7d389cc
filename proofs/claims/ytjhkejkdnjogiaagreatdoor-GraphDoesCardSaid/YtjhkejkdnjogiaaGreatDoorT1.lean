/- What the rows' readings give: the listed table, nodes, deeds, lists of deeds; and a law's last step. -/
import Derived.Test.YtjhkejkdnjogiaaGreatDoorRows
import Derived.Test.YtjhkejkdnjogiaaGreatDoorTg
import Derived.ProofKit
import Derived.OpenShut
import Derived.LaidMore
import Derived.Stop.Joined
import Derived.Carry
import Derived.ChangeSlices
import Derived.Deep.Slices
namespace Go.Proofs.YtjhkejkdnjogiaaGreatDoor
open Go Go.ChangeShapes Go.WideShapes Go.ChangeAt Go.RowKit Go.Deep
set_option maxRecDepth 100000

theorem own : ownKnob Tryz.prog.godebug = none := by kernel_rfl
theorem laidOut : laidOutB Tryz.prog = true := by kernel_rfl
/-- a law's last step: it has answered, and nothing that was there has changed -/
theorem law_post {H : Type} {enc : TypeId × Value → H} {P : Program} {f : Func} {s : ChangeSpec} {apart fresh handsOn : Bool} {W W' : World} {args : Array Value} {v : Value} {ds gs : List (DataW H)} {before : List MemPlace}
    (hW : DataW.Whole enc P f.params.toList s.vars apart W args.toList ds gs before)
    (hres : ∀ (b : Nat) (sp : Nat → Bool) (hd : Bool), DataW.TrodAll enc P W' b sp hd f.resultTypes.toList (v.resultList f.resultTypes.size) (s.fn H (ds ++ gs)).results [])
    (hargs : DataW.TrodAll enc P W' 0 (fun b => decide (b < W.heap.size)) true f.params.toList args.toList (s.fn H (ds ++ gs)).args before)
    (hvars : DataW.TrodVars enc P W' (fun b => decide (b < W.heap.size)) s.vars (s.fn H (ds ++ gs)).vars []) (hb : Below W.heap.size W W') :
    s.post enc P f apart fresh handsOn false W args v W' :=
  ⟨ds, gs, before, [], before, [], hW, hres _ _ _, hargs, hvars, World.keptBut_mono (fun _ hp => ⟨hp, Or.inr (Or.inl hp)⟩) (hb.frame (· ∈ before)), fun h => by cases h⟩
theorem readable22 : Tryz.prog.readableRec 22 = true := by kernel_rfl
theorem small22 : 22 < Tryz.prog.types.size := by decide +kernel
theorem readable34 : Tryz.prog.readableRec 66 = true := by kernel_rfl
theorem small34 : 66 < Tryz.prog.types.size := by decide +kernel
theorem readable32 : Tryz.prog.readableRec 64 = true := by kernel_rfl
theorem small32 : 64 < Tryz.prog.types.size := by decide +kernel
theorem readable30 : Tryz.prog.readableRec 25 = true := by kernel_rfl
theorem small30 : 25 < Tryz.prog.types.size := by decide +kernel
theorem cells3 : Tryz.prog.cellsOf 3 = 1 := by kernel_rfl
theorem cellsN4 : Tryz.prog.cellsOf 23 = 4 := by kernel_rfl
theorem cellsPT : Tryz.prog.cellsOf 25 = 5 := by kernel_rfl
theorem cellsD12 : Tryz.prog.cellsOf 64 = 4 := by kernel_rfl
section
variable {H : Type} {enc : TypeId × Value → H} {w W : World} {base b0 : Nat} {spare sp : Nat → Bool} {held : Bool} {fuel : Nat} {cs : List Value} {y : DataW H × List MemPlace} {v : Value} {d : DataW H} {p : List MemPlace}
theorem int_of_trod (h : DataW.trod enc Tryz.prog W base sp held fuel 3 [v] = some y) : ∃ n : Int, v = .int .i64 n ∧ Hs.wf64 n := by
  obtain ⟨k, e, _, wt⟩ := DataW.trod_int Tryz.underlying3 h
  simp at e
  exact ⟨k, e, wt⟩
theorem pt_of_trod (h : DataW.trod enc Tryz.prog w base spare held fuel 25 cs = some y) : ∃ q : Pa.Pt, cs = [.int .i64 q.a, .int .i64 q.b, .int .i64 q.c, .int .i64 q.d, .int .i64 q.e] := by
  obtain ⟨xs, n, _, hx, hlen, hxl, hg⟩ := DataW.trod_struct Tryz.underlying25 h
  rw [cellsPT] at hlen
  match cs, hlen with
  | [x0, x1, x2, x3, x4], _ =>
    match xs, hxl with
    | [y0, y1], _ =>
      have h0 := hg 0 _ rfl
      have h1 := hg 1 _ rfl
      change DataW.trod enc Tryz.prog w base spare held n 23 (([x0, x1, x2, x3, x4].drop 0).take (Tryz.prog.cellsOf 23)) = some y0 at h0
      change DataW.trod enc Tryz.prog w base spare held n 3 (([x0, x1, x2, x3, x4].drop 4).take (Tryz.prog.cellsOf 3)) = some y1 at h1
      rw [cellsN4] at h0
      rw [cells3] at h1
      obtain ⟨zs, m, _, _, _, hzl, hz⟩ := DataW.trod_array Tryz.underlying23 h0
      rw [cells3] at hz
      match zs, hzl with
      | [z0, z1, z2, z3], _ =>
        obtain ⟨n0, rfl, -⟩ := int_of_trod (hz 0 (by omega))
        obtain ⟨n1, rfl, -⟩ := int_of_trod (hz 1 (by omega))
        obtain ⟨n2, rfl, -⟩ := int_of_trod (hz 2 (by omega))
        obtain ⟨n3, rfl, -⟩ := int_of_trod (hz 3 (by omega))
        obtain ⟨n4, rfl, -⟩ := int_of_trod h1
        exact ⟨⟨n0, n1, n2, n3, n4⟩, rfl⟩
theorem d12_of_trod (h : DataW.trod enc Tryz.prog w base spare held fuel 64 cs = some y) : ∃ k t m f : Int, cs = [.int .i64 k, .int .i64 t, .int .i64 m, .int .i64 f] ∧ Hs.wf64 t := by
  obtain ⟨xs, n, _, _, hlen, hxl, hf⟩ := DataW.trod_struct Tryz.underlying64 h
  rw [cellsD12] at hlen
  match cs, hlen with
  | [v0, v1, v2, v3], _ =>
    match xs, hxl with
    | [y0, y1, y2, y3], _ =>
      have h0 := hf 0 _ rfl
      have h1 := hf 1 _ rfl
      have h2 := hf 2 _ rfl
      have h3 := hf 3 _ rfl
      change DataW.trod enc Tryz.prog w base spare held n 3 (([v0, v1, v2, v3].drop 0).take (Tryz.prog.cellsOf 3)) = some y0 at h0
      change DataW.trod enc Tryz.prog w base spare held n 3 (([v0, v1, v2, v3].drop 1).take (Tryz.prog.cellsOf 3)) = some y1 at h1
      change DataW.trod enc Tryz.prog w base spare held n 3 (([v0, v1, v2, v3].drop 2).take (Tryz.prog.cellsOf 3)) = some y2 at h2
      change DataW.trod enc Tryz.prog w base spare held n 3 (([v0, v1, v2, v3].drop 3).take (Tryz.prog.cellsOf 3)) = some y3 at h3
      rw [cells3] at h0 h1 h2 h3
      obtain ⟨k, e0, _⟩ := int_of_trod h0
      obtain ⟨t, e1, wt⟩ := int_of_trod h1
      obtain ⟨m, e2, _⟩ := int_of_trod h2
      obtain ⟨f, e3, _⟩ := int_of_trod h3
      exact ⟨k, t, m, f, by rw [e0, e1, e2, e3], wt⟩
/-- a node that came in -/
theorem node_of_trod (hval : Value.okWide Tryz.prog W .any b0 25 v) (h : DataW.Trod enc Tryz.prog W base sp held 25 v d p) : ∃ q : Pa.Pt, v = q.v := by
  obtain ⟨cs, rfl, hsz⟩ := okWide_struct Tryz.underlying25 hval
  obtain ⟨fuel, hf⟩ := h
  obtain ⟨q, e⟩ := pt_of_trod hf
  obtain ⟨l⟩ := cs
  simp only [Value.cells] at e
  subst e
  exact ⟨q, rfl⟩
end
theorem cellsDD : Tryz.prog.cellsOf 66 = 9 := by kernel_rfl
section
variable {H : Type} {enc : TypeId × Value → H} {w W : World} {base b0 : Nat} {spare sp : Nat → Bool} {held : Bool} {fuel : Nat} {cs : List Value} {y : DataW H × List MemPlace} {v : Value} {d : DataW H} {p : List MemPlace}
theorem deed_in_trod (h : DataW.trod enc Tryz.prog w base spare held fuel 66 cs = some y) : ∃ g : Dd, cs = (dcs g).toList ∧ Hs.wf64 g.t := by
  obtain ⟨xs, n, _, _, hlen, hxl, hf⟩ := DataW.trod_struct Tryz.underlying66 h
  rw [cellsDD] at hlen
  match cs, hlen with
  | [x0, x1, x2, x3, x4, v0, v1, v2, v3], _ =>
    match xs, hxl with
    | [y0, y1], _ =>
      have h0 := hf 0 _ rfl
      have h1 := hf 1 _ rfl
      change DataW.trod enc Tryz.prog w base spare held n 25 (([x0, x1, x2, x3, x4, v0, v1, v2, v3].drop 0).take (Tryz.prog.cellsOf 25)) = some y0 at h0
      change DataW.trod enc Tryz.prog w base spare held n 64 (([x0, x1, x2, x3, x4, v0, v1, v2, v3].drop 5).take (Tryz.prog.cellsOf 64)) = some y1 at h1
      rw [cellsPT] at h0
      rw [cellsD12] at h1
      obtain ⟨q, e0⟩ := pt_of_trod h0
      obtain ⟨k, t, m, f, e1, wt⟩ := d12_of_trod h1
      simp at e0 e1
      obtain ⟨rfl, rfl, rfl, rfl, rfl⟩ := e0
      obtain ⟨rfl, rfl, rfl, rfl⟩ := e1
      exact ⟨⟨q, k, t, m, f⟩, rfl, wt⟩
/-- a deed that came in -/
theorem deed_of_trod (hval : Value.okWide Tryz.prog W .any b0 66 v) (h : DataW.Trod enc Tryz.prog W base sp held 66 v d p) : ∃ g : Dd, v = dv g := by
  obtain ⟨cs, rfl, hsz⟩ := okWide_struct Tryz.underlying66 hval
  obtain ⟨fuel, hf⟩ := h
  obtain ⟨q, e, _⟩ := deed_in_trod hf
  obtain ⟨l⟩ := cs
  simp only [Value.cells] at e
  subst e
  exact ⟨q, rfl⟩
end
instance : Inhabited Dd := ⟨⟨⟨0, 0, 0, 0, 0⟩, 0, 0, 0, 0⟩⟩
theorem deeds_of_trod {H : Type} {enc : TypeId × Value → H} {W : World} {base : Nat} {v : Value} {d : DataW H} {p : List MemPlace} (hval : Value.okWide Tryz.prog W .any base 22 v) (h : DataW.Trod enc Tryz.prog W 0 (fun _ => true) true 22 v d p) :
    ∃ A n c g, v = .slice A n c ∧ n ≤ maxLen ∧ InD W A n g := by
  obtain ⟨A, n, c, rfl⟩ := okWide_slice Tryz.underlying22 hval
  obtain ⟨fuel, hf⟩ := h
  rcases open_slice Tryz.underlying22 hf with ⟨hcs, _⟩ | ⟨a, len, cap, m, k, D, Pl, hcs, _, hl, hm, hmm, _, hx⟩
  · simp [Value.cells] at hcs
    obtain ⟨rfl, rfl, rfl⟩ := hcs
    exact ⟨none, 0, 0, fun _ => default, rfl, Nat.zero_le _, fun i hi => by omega⟩
  · simp [Value.cells] at hcs
    obtain ⟨rfl, rfl, rfl⟩ := hcs
    simp only [if_true] at hmm
    obtain ⟨g, hg⟩ := choose_lt (α := Dd) (n := n) (p := fun i x => a.block < W.heap.size ∧ DeedAt W a i x ∧ Hs.wf64 x.t) (fun i hi => by
      obtain ⟨cs', h1, h2⟩ := hx i (by omega)
      rw [cellsDD] at h1
      obtain ⟨x, rfl, hw⟩ := deed_in_trod h2
      obtain ⟨_, _, hat⟩ := World.cells?_some h1
      have g0 := hat 0 (by omega)
      have g1 := hat 1 (by omega)
      have g2 := hat 2 (by omega)
      have g3 := hat 3 (by omega)
      have g4 := hat 4 (by omega)
      have g5 := hat 5 (by omega)
      have g6 := hat 6 (by omega)
      have g7 := hat 7 (by omega)
      have g8 := hat 8 (by omega)
      have gb := cell_lt g0
      rw [Hs.block_add', Hs.block_add'] at gb
      exact ⟨x, gb, ⟨g0, g1, g2, g3, g4, g5, g6, g7, g8⟩, hw⟩)
    exact ⟨_, _, _, g, rfl, Nat.le_trans hl hm, fun i hi => ⟨a, rfl, (hg i hi).1, (hg i hi).2.1, (hg i hi).2.2⟩⟩
theorem gGoes : Tryz.prog.globalNamed "escutcheon/mode.goes" = some 0 := by kernel_rfl
theorem tGoes : (Tryz.prog.globals[0]?).map (·.type) = some 197 := by kernel_rfl
theorem cG : Tryz.prog.cellsOf 197 = 49 := by kernel_rfl
theorem cRow : Tryz.prog.cellsOf 196 = 7 := by kernel_rfl
theorem c4 : Tryz.prog.cellsOf 4 = 1 := by kernel_rfl
/-- the table as the given row lists it, row by row -/
def rowD (i : Nat) : List Bool := (List.range 7).map (goesN i)
theorem goes_is : (Rows.laid_escutcheon_mode_goes : DataW Unit) = .agg ((List.range 7).map fun i => .agg ((rowD i).map fun b => .lit (.bool b))) := by kernel_rfl
/-- a cell of a listed table, once its array of cells is read as that table -/
theorem goes_cell {enc : TypeId × Value → Unit} {w : World} {base : Nat} {sp : Nat → Bool} {held : Bool} {fuel : Nat} {cs : List Value} {p : List MemPlace}
    (h : DataW.trod enc Tryz.prog w base sp held fuel 197 cs = some (Rows.laid_escutcheon_mode_goes, p)) (i j : Nat) (hi : i ≤ 6) (hj : j ≤ 6) : cs[i * 7 + j]? = some (.bool (goesN i j)) := by
  obtain ⟨xs, m, rfl, hx, hlen, hn, hel⟩ := DataW.trod_array Tryz.underlying197 h
  rw [goes_is] at hx
  simp only [Prod.mk.injEq, DataW.agg.injEq] at hx
  have h1 := hel i (by omega)
  rw [cRow] at h1
  obtain ⟨y, hy⟩ : ∃ y, xs[i]? = some y := ⟨_, List.getElem?_eq_getElem (by omega)⟩
  rw [hy] at h1
  have e1 : y.1 = .agg ((rowD i).map fun b => .lit (.bool b)) := by
    have := congrArg (fun l => l[i]?) hx.1
    simp only [List.getElem?_map, hy, Option.map_some] at this
    rw [List.getElem?_range (by omega)] at this
    simpa using this.symm
  obtain ⟨ys, m1, rfl, hx1, hlen1, hn1, hel1⟩ := DataW.trod_array Tryz.underlying196 h1
  have h2 := hel1 j (by omega)
  rw [c4] at h2
  obtain ⟨z, hz⟩ : ∃ z, ys[j]? = some z := ⟨_, List.getElem?_eq_getElem (by omega)⟩
  rw [hz] at h2
  have e2 : z.1 = .lit (.bool (goesN i j)) := by
    rw [hx1] at e1
    simp only [DataW.agg.injEq] at e1
    have := congrArg (fun l => l[j]?) e1
    simp only [List.getElem?_map, hz, Option.map_some, rowD] at this
    rw [List.getElem?_range (by omega)] at this
    simpa using this
  obtain ⟨b, e3, e4⟩ := DataW.trod_bool Tryz.underlying4 h2
  rw [e4] at e2
  simp only [DataW.lit.injEq, Lit.bool.injEq] at e2
  subst e2
  have := congrArg (fun l => l[0]?) e3
  simp only [List.getElem?_take, List.getElem?_drop] at this
  have h3 : j < 7 ∧ cs[i * 7 + j]? = some (.bool (goesN i j)) := by simpa using this
  exact h3.2
theorem tab_goes {W : World} {cs : Array Value} {enc : TypeId × Value → Unit} {base : Nat} {sp : Nat → Bool} {held : Bool} {fuel : Nat} {p : List MemPlace}
    (hv : W.var? Tryz.prog "escutcheon/mode.goes" = some cs) (hd : DataW.trod enc Tryz.prog W base sp held fuel 197 cs.toList = some (Rows.laid_escutcheon_mode_goes, p)) : TabG W := by
  have hc : ∀ i j, i ≤ 6 → j ≤ 6 → W.cell? ⟨0, i * 7 + j, none⟩ = some (.bool (goesN i j)) := fun i j hi hj => by
    rw [World.var?_cell gGoes hv, ← Array.getElem?_toList]
    exact goes_cell hd i j hi hj
  refine ⟨?_, hc⟩
  have h0 := hc 0 0 (by omega) (by omega)
  rcases Nat.lt_or_ge 0 W.heap.size with h | h
  · exact h
  · have : W.heap[0]? = none := Array.getElem?_eq_none h
    simp [World.cell?, this] at h0
theorem tab_of_one {W : World} (h : laidMetH Tryz.prog [("escutcheon/mode.goes", Rows.laid_escutcheon_mode_goes)] W) : TabG W := by
  rw [MakeChecks.laidMetH_plain _ _ _ (by kernel_rfl)] at h
  obtain ⟨ps, ⟨g0, t0, cs0, f0, p0, q0, hg0, ht0, hv0, hd0, _⟩, _⟩ := h
  obtain rfl := Option.some.inj (gGoes.symm.trans hg0)
  obtain rfl := Option.some.inj (tGoes.symm.trans ht0)
  exact tab_goes hv0 hd0
abbrev laidG : List (String × DataW Unit) := [("escutcheon/mode.goes", Rows.laid_escutcheon_mode_goes)]
theorem door_met (os : Os) (args : Array Value) : laidMetH Tryz.prog laidG ((World.doorLaid Tryz.prog 21 os).forCall (fun _ _ => 0) ⟨#[], args, []⟩).memory :=
  laidMetH_of_parts3 (fuel := 8) (laidMet_of_run' 8 (by kernel_rfl) (by kernel_rfl)) (by kernel_rfl) (by kernel_rfl)
end Go.Proofs.YtjhkejkdnjogiaaGreatDoor
