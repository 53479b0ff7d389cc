/- What the rows' readings give: lists of locks whose numbers fit, nodes; and a law's last step. -/
import Derived.Test.YthjlapcccmbhbaaRows
import Derived.Test.YthjlapcccmbhbaaLa
import Derived.ProofKit
import Derived.OpenShut
import Derived.Carry
import Derived.ChangeSlices
import Derived.Deep.Slices
namespace Go.Proofs.Ythjlapcccmbhbaa
open Go Go.ChangeShapes Go.WideShapes Go.ChangeAt Go.RowKit Go.Deep
set_option maxRecDepth 100000

theorem own : ownKnob Try.prog.godebug = none := by kernel_rfl
theorem laidOut : laidOutB Try.prog = true := by kernel_rfl
/-- a law's last step: it has answered, and nothing that was there has changed -/
theorem law_post {H : Type} {enc : TypeId × Value → H} {P : Program} {f : Func} {s : ChangeSpec} {apart fresh handsOn : Bool} {W W' : World} {args : Array Value} {v : Value} {ds gs : List (DataW H)} {before : List MemPlace}
    (hW : DataW.Whole enc P f.params.toList s.vars apart W args.toList ds gs before)
    (hres : ∀ (b : Nat) (sp : Nat → Bool) (hd : Bool), DataW.TrodAll enc P W' b sp hd f.resultTypes.toList (v.resultList f.resultTypes.size) (s.fn H (ds ++ gs)).results [])
    (hargs : DataW.TrodAll enc P W' 0 (fun b => decide (b < W.heap.size)) true f.params.toList args.toList (s.fn H (ds ++ gs)).args before)
    (hvars : DataW.TrodVars enc P W' (fun b => decide (b < W.heap.size)) s.vars (s.fn H (ds ++ gs)).vars []) (hb : Below W.heap.size W W') :
    s.post enc P f apart fresh handsOn false W args v W' :=
  ⟨ds, gs, before, [], before, [], hW, hres _ _ _, hargs, hvars, World.keptBut_mono (fun _ hp => ⟨hp, Or.inr (Or.inl hp)⟩) (hb.frame (· ∈ before)), fun h => by cases h⟩
theorem cells3 : Try.prog.cellsOf 3 = 1 := by kernel_rfl
theorem cells23 : Try.prog.cellsOf 23 = 4 := by kernel_rfl
theorem cells25 : Try.prog.cellsOf 25 = 5 := by kernel_rfl
theorem cells32 : Try.prog.cellsOf 27 = 6 := by kernel_rfl
theorem readable22 : Try.prog.readableRec 22 = true := by kernel_rfl
theorem small22 : 22 < Try.prog.types.size := by decide +kernel
theorem readable25 : Try.prog.readableRec 25 = true := by kernel_rfl
theorem small25 : 25 < Try.prog.types.size := by decide +kernel
/-- a number that fits -/
abbrev wf64 (x : Int) : Prop := (Lit.int .i64 x).wf = true
/-- a node whose numbers fit -/
structure FitP (p : Pa.Pt) : Prop where
  a : wf64 p.a
  b : wf64 p.b
  c : wf64 p.c
  d : wf64 p.d
  e : wf64 p.e
section
variable {H : Type} {enc : TypeId × Value → H} {w : World} {base : Nat} {spare : Nat → Bool} {held : Bool} {fuel : Nat} {cs : List Value} {y : DataW H × List MemPlace}
theorem path_cells (h : DataW.trod enc Try.prog w base spare held fuel 25 cs = some y) : ∃ p : Pa.Pt, cs = [.int .i64 p.a, .int .i64 p.b, .int .i64 p.c, .int .i64 p.d, .int .i64 p.e] ∧ FitP p := by
  obtain ⟨xs, n, _, _, hlen, hxl, hf⟩ := DataW.trod_struct Try.underlying25 h
  rw [cells25] at hlen
  match cs, hlen with
  | [v0, v1, v2, v3, v4], _ =>
    match xs, hxl with
    | [y0, y1], _ =>
      have h0 := hf 0 _ rfl
      have h1 := hf 1 _ rfl
      change DataW.trod enc Try.prog w base spare held n 23 (([v0, v1, v2, v3, v4].drop 0).take (Try.prog.cellsOf 23)) = some y0 at h0
      change DataW.trod enc Try.prog w base spare held n 3 (([v0, v1, v2, v3, v4].drop 4).take (Try.prog.cellsOf 3)) = some y1 at h1
      rw [cells23] at h0
      rw [cells3] at h1
      obtain ⟨zs, m, _, _, _, hzl, hz⟩ := DataW.trod_array Try.underlying23 h0
      rw [cells3] at hz
      match zs, hzl with
      | [z0, z1, z2, z3], _ =>
        obtain ⟨n0, e0, w0⟩ := DataW.trod_int Try.underlying3 (hz 0 (by omega))
        obtain ⟨n1, e1, w1⟩ := DataW.trod_int Try.underlying3 (hz 1 (by omega))
        obtain ⟨n2, e2, w2⟩ := DataW.trod_int Try.underlying3 (hz 2 (by omega))
        obtain ⟨n3, e3, w3⟩ := DataW.trod_int Try.underlying3 (hz 3 (by omega))
        obtain ⟨n4, e4, w4⟩ := DataW.trod_int Try.underlying3 h1
        simp at e0 e1 e2 e3 e4
        exact ⟨⟨n0, n1, n2, n3, n4⟩, by simp [e0, e1, e2, e3, e4], w0.2, w1.2, w2.2, w3.2, w4.2⟩
theorem lock_cells (h : DataW.trod enc Try.prog w base spare held fuel 27 cs = some y) : ∃ x : Lk.Hd, cs = Lk.cellsW x ∧ FitP x.1 := by
  obtain ⟨xs, n, _, _, hlen, hxl, hf⟩ := DataW.trod_struct Try.underlying27 h
  rw [cells32] at hlen
  match cs, hlen with
  | [v0, v1, v2, v3, v4, v5], _ =>
    match xs, hxl with
    | [y0, y1], _ =>
      have h0 := hf 0 _ rfl
      have h1 := hf 1 _ rfl
      change DataW.trod enc Try.prog w base spare held n 25 (([v0, v1, v2, v3, v4, v5].drop 0).take (Try.prog.cellsOf 25)) = some y0 at h0
      change DataW.trod enc Try.prog w base spare held n 3 (([v0, v1, v2, v3, v4, v5].drop 5).take (Try.prog.cellsOf 3)) = some y1 at h1
      rw [cells25] at h0
      rw [cells3] at h1
      obtain ⟨p, e0, w0⟩ := path_cells h0
      obtain ⟨b, e1, w1⟩ := DataW.trod_int Try.underlying3 h1
      simp at e0 e1
      exact ⟨(p, b), by simp [Lk.cellsW, e0, e1], w0⟩
end
/-- a node that came in -/
theorem node_of_trod {H : Type} {enc : TypeId × Value → H} {W : World} {base b0 : Nat} {sp : Nat → Bool} {held : Bool} {v : Value} {d : DataW H} {p : List MemPlace} (hval : Value.okWide Try.prog W .any b0 25 v) (h : DataW.Trod enc Try.prog W base sp held 25 v d p) :
    ∃ q : Pa.Pt, v = q.v := by
  obtain ⟨cs, rfl, hsz⟩ := okWide_struct Try.underlying25 hval
  obtain ⟨fuel, hf⟩ := h
  obtain ⟨q, hq, -⟩ := path_cells hf
  exact ⟨q, by
    obtain ⟨l⟩ := cs
    simp only [Value.cells] at hq
    rw [show l = _ from hq]⟩
theorem add_zero' (a : Addr) : a.add 0 = a := if_pos rfl
theorem add_pos' (a : Addr) {r : Nat} (h : 0 < r) : a.add r = ⟨a.block, a.off + r, none⟩ := if_neg (by omega)
theorem locks_at {W : World} {a : Addr} {n c : Nat} (f : Nat → Lk.Hd) (h : ∀ i, i < n → ∀ r (u : Value), (Lk.cellsW (f i))[r]? = some u → W.cell? (a.add (i * 6 + r)) = some u) (hl : n ≤ c) (hm : c ≤ maxLen) : Lk.Ls W (some a) c ((List.range n).map f) := by
  refine ⟨by simpa using hl, hm, by simp, fun a' ha j u hj => ?_⟩
  obtain rfl : a = a' := by simpa using ha
  have hj1 := (List.getElem?_eq_some_iff.1 hj).1
  rw [Lk.flat_length, List.length_map, List.length_range] at hj1
  have e : j = j / 6 * 6 + j % 6 := by omega
  have hi : j / 6 < n := by omega
  rw [e] at hj ⊢
  rw [Lk.flat_at _ (j / 6) (j % 6) (by simpa using hi) (by omega)] at hj
  simp only [List.getElem_map, List.getElem_range] at hj
  exact h _ hi _ _ hj
instance : Inhabited Lk.Hd := ⟨(⟨0, 0, 0, 0, 0⟩, 0)⟩
/-- a list of locks that came in; their numbers fit -/
theorem locks_of_trod {H : Type} {enc : TypeId × Value → H} {W : World} {base : Nat} {v : Value} {d : DataW H} {p : List MemPlace} (hval : Value.okWide Try.prog W .any base 22 v) (h : DataW.Trod enc Try.prog W 0 (fun _ => true) true 22 v d p) :
    ∃ A n c xs, v = .slice A n c ∧ n ≤ maxLen ∧ xs.length = n ∧ Lk.Ls W A c xs ∧ ∀ x ∈ xs, FitP x.1 := by
  obtain ⟨A, n, c, rfl⟩ := okWide_slice Try.underlying22 hval
  obtain ⟨fuel, hf⟩ := h
  rcases open_slice Try.underlying22 hf with ⟨hcs, _⟩ | ⟨a, len, cap, m, k, D, Pl, hcs, _, hl, hm, hmm, _, hx⟩
  · simp [Value.cells] at hcs
    obtain ⟨rfl, rfl, rfl⟩ := hcs
    exact ⟨none, 0, 0, [], rfl, Nat.zero_le _, rfl, Lk.Ls.nils _, by simp⟩
  · simp [Value.cells] at hcs
    obtain ⟨rfl, rfl, rfl⟩ := hcs
    simp only [if_true] at hmm
    obtain ⟨f, hf⟩ := choose_lt (α := Lk.Hd) (n := n) (p := fun i x => (∀ r (u : Value), (Lk.cellsW x)[r]? = some u → W.cell? (a.add (i * 6 + r)) = some u) ∧ FitP x.1) (fun i hi => by
      obtain ⟨cs', h1, h2⟩ := hx i (by omega)
      rw [cells32] at h1
      obtain ⟨x, rfl, hw⟩ := lock_cells h2
      obtain ⟨_, _, hat⟩ := World.cells?_some h1
      refine ⟨x, fun r u hr => ?_, hw⟩
      have hr2 : r < 6 := (List.getElem?_eq_some_iff.1 hr).1
      have := hat r hr2
      rw [hr] at this
      by_cases h0 : r = 0
      · subst h0
        rw [add_zero'] at this
        simpa using this
      · rw [Lk.add_next _ _ r (by omega), ← add_pos' _ (by omega)]
        simpa using this)
    refine ⟨_, n, c, _, rfl, Nat.le_trans hl hm, by simp, locks_at f (fun i hi => (hf i hi).1) hl hm, fun e he => ?_⟩
    obtain ⟨i, hi, rfl⟩ := List.mem_map.1 he
    exact (hf i (List.mem_range.1 hi)).2
end Go.Proofs.Ythjlapcccmbhbaa
