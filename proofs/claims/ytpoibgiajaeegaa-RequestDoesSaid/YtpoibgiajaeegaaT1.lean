/- What the rows' readings give: lists of requests, a request; and a law's last step. -/
import Derived.Test.YtpoibgiajaeegaaRows
import Derived.Test.YtpoibgiajaeegaaB1
import Derived.ProofKit
import Derived.OpenShut
import Derived.Carry
import Derived.ChangeSlices
import Derived.Deep.Slices
namespace Go.Proofs.Ytpoibgiajaeegaa
open Go Go.ChangeShapes Go.WideShapes Go.ChangeAt Go.RowKit Go.Deep

theorem own : ownKnob Try.prog.godebug = none := by kernel_rfl
theorem laidOut : laidOutB Try.prog = true := by kernel_rfl
/-- a law's last step: it has answered, and nothing that was there has changed -/
theorem law_post {H : Type} {enc : TypeId × Value → H} {P : Program} {f : Func} {s : ChangeSpec} {apart fresh handsOn : Bool} {W W' : World} {args : Array Value} {v : Value} {ds gs : List (DataW H)} {before : List MemPlace}
    (hW : DataW.Whole enc P f.params.toList s.vars apart W args.toList ds gs before)
    (hres : ∀ (b : Nat) (sp : Nat → Bool) (hd : Bool), DataW.TrodAll enc P W' b sp hd f.resultTypes.toList (v.resultList f.resultTypes.size) (s.fn H (ds ++ gs)).results [])
    (hargs : DataW.TrodAll enc P W' 0 (fun b => decide (b < W.heap.size)) true f.params.toList args.toList (s.fn H (ds ++ gs)).args before)
    (hvars : DataW.TrodVars enc P W' (fun b => decide (b < W.heap.size)) s.vars (s.fn H (ds ++ gs)).vars []) (hb : Below W.heap.size W W') :
    s.post enc P f apart fresh handsOn false W args v W' :=
  ⟨ds, gs, before, [], before, [], hW, hres _ _ _, hargs, hvars, World.keptBut_mono (fun _ hp => ⟨hp, Or.inr (Or.inl hp)⟩) (hb.frame (· ∈ before)), fun h => by cases h⟩
theorem readable22 : Try.prog.readableRec 22 = true := by kernel_rfl
theorem small22 : 22 < Try.prog.types.size := by decide +kernel
theorem readable24 : Try.prog.readableRec 24 = true := by kernel_rfl
theorem small24 : 24 < Try.prog.types.size := by decide +kernel
theorem cells3 : Try.prog.cellsOf 3 = 1 := by kernel_rfl
theorem cells4 : Try.prog.cellsOf 4 = 1 := by kernel_rfl
theorem cells24 : Try.prog.cellsOf 24 = 4 := by kernel_rfl
section
variable {H : Type} {enc : TypeId × Value → H} {w : World} {base : Nat} {spare : Nat → Bool} {held : Bool} {fuel : Nat} {cs : List Value} {y : DataW H × List MemPlace}
theorem wait_cells (h : DataW.trod enc Try.prog w base spare held fuel 24 cs = some y) : ∃ x : Wt, cs = cellsW x ∧ wf64 x.1 := by
  obtain ⟨xs, n, _, _, hlen, hxl, hf⟩ := DataW.trod_struct Try.underlying24 h
  rw [cells24] at hlen
  match cs, hlen with
  | [v0, v1, v2, v3], _ =>
    match xs, hxl with
    | [y0, y1, y2, y3], _ =>
      have h0 := hf 0 _ rfl
      have h1 := hf 1 _ rfl
      have h2 := hf 2 _ rfl
      have h3 := hf 3 _ rfl
      change DataW.trod enc Try.prog w base spare held n 3 (([v0, v1, v2, v3].drop 0).take (Try.prog.cellsOf 3)) = some y0 at h0
      change DataW.trod enc Try.prog w base spare held n 3 (([v0, v1, v2, v3].drop 1).take (Try.prog.cellsOf 3)) = some y1 at h1
      change DataW.trod enc Try.prog w base spare held n 4 (([v0, v1, v2, v3].drop 2).take (Try.prog.cellsOf 4)) = some y2 at h2
      change DataW.trod enc Try.prog w base spare held n 4 (([v0, v1, v2, v3].drop 3).take (Try.prog.cellsOf 4)) = some y3 at h3
      rw [cells3] at h0 h1
      rw [cells4] at h2 h3
      obtain ⟨a, e0, _, w0⟩ := DataW.trod_int Try.underlying3 h0
      obtain ⟨b, e1, _, _⟩ := DataW.trod_int Try.underlying3 h1
      obtain ⟨c, e2, _⟩ := DataW.trod_bool Try.underlying4 h2
      obtain ⟨d, e3, _⟩ := DataW.trod_bool Try.underlying4 h3
      simp at e0 e1 e2 e3
      exact ⟨(a, b, c, d), by simp [cellsW, e0, e1, e2, e3], w0⟩
end
theorem add_zero' (a : Addr) : a.add 0 = a := if_pos rfl
theorem add_pos' (a : Addr) {r : Nat} (h : 0 < r) : a.add r = ⟨a.block, a.off + r, none⟩ := if_neg (by omega)
theorem ls_of_at {W : World} {a : Addr} {n c : Nat} (f : Nat → Wt) (h : ∀ i, i < n → ∀ r (u : Value), (cellsW (f i))[r]? = some u → W.cell? (a.add (i * 4 + r)) = some u) (hl : n ≤ c) (hm : c ≤ maxLen) : Ls W (some a) c ((List.range n).map f) := by
  refine ⟨by simpa using hl, hm, by simp, fun a' ha j u hj => ?_⟩
  obtain rfl : a = a' := by simpa using ha
  have hj1 := (List.getElem?_eq_some_iff.1 hj).1
  rw [flat_length, List.length_map, List.length_range] at hj1
  have e : j = j / 4 * 4 + j % 4 := by omega
  have hi : j / 4 < n := by omega
  rw [e] at hj ⊢
  rw [flat_at _ (j / 4) (j % 4) (by simpa using hi) (by omega)] at hj
  simp only [List.getElem_map, List.getElem_range] at hj
  exact h _ hi _ _ hj
/-- a list of requests that came in -/
theorem waits_of_trod {H : Type} {enc : TypeId × Value → H} {W : World} {base : Nat} {v : Value} {d : DataW H} {p : List MemPlace} (hval : Value.okWide Try.prog W .any base 22 v) (h : DataW.Trod enc Try.prog W 0 (fun _ => true) true 22 v d p) :
    ∃ A n c xs, v = .slice A n c ∧ n ≤ maxLen ∧ xs.length = n ∧ Ls W A c xs ∧ ∀ x ∈ xs, wf64 x.1 := by
  obtain ⟨A, n, c, rfl⟩ := okWide_slice Try.underlying22 hval
  obtain ⟨fuel, hf⟩ := h
  rcases open_slice Try.underlying22 hf with ⟨hcs, _⟩ | ⟨a, len, cap, m, k, D, Pl, hcs, _, hl, hm, hmm, _, hx⟩
  · simp [Value.cells] at hcs
    obtain ⟨rfl, rfl, rfl⟩ := hcs
    exact ⟨none, 0, 0, [], rfl, Nat.zero_le _, rfl, Ls.nils _, by simp⟩
  · simp [Value.cells] at hcs
    obtain ⟨rfl, rfl, rfl⟩ := hcs
    simp only [if_true] at hmm
    obtain ⟨f, hf⟩ := choose_lt (α := Wt) (n := n) (p := fun i x => (∀ r (u : Value), (cellsW x)[r]? = some u → W.cell? (a.add (i * 4 + r)) = some u) ∧ wf64 x.1) (fun i hi => by
      obtain ⟨cs', h1, h2⟩ := hx i (by omega)
      rw [cells24] at h1
      obtain ⟨x, rfl, hwx⟩ := wait_cells h2
      obtain ⟨_, _, hat⟩ := World.cells?_some h1
      refine ⟨x, fun r u hr => ?_, hwx⟩
      have hr4 : r < 4 := (List.getElem?_eq_some_iff.1 hr).1
      have := hat r hr4
      rw [hr] at this
      by_cases h0 : r = 0
      · subst h0
        rw [add_zero'] at this
        simpa using this
      · rw [add_next _ _ r (by omega), ← add_pos' _ (by omega)]
        simpa using this)
    refine ⟨_, n, c, _, rfl, Nat.le_trans hl hm, by simp, ls_of_at f (fun i hi => (hf i hi).1) hl hm, fun x hx' => ?_⟩
    obtain ⟨i, hi, rfl⟩ := List.mem_map.1 hx'
    exact (hf i (List.mem_range.1 hi)).2
/-- a request that came in -/
theorem wait_of_trod {H : Type} {enc : TypeId × Value → H} {W : World} {base : Nat} {v : Value} {d : DataW H} {p : List MemPlace} (hval : Value.okWide Try.prog W .any base 24 v) (h : DataW.Trod enc Try.prog W 0 (fun _ => true) true 24 v d p) :
    ∃ x : Wt, v = wv x ∧ wf64 x.1 := by
  obtain ⟨cs, rfl, -⟩ := okWide_struct Try.underlying24 hval
  obtain ⟨fuel, hf⟩ := h
  obtain ⟨x, e, hx⟩ := wait_cells hf
  refine ⟨x, ?_, hx⟩
  obtain ⟨l⟩ := cs
  simp [Value.cells, cellsW] at e
  rw [e]
end Go.Proofs.Ytpoibgiajaeegaa
