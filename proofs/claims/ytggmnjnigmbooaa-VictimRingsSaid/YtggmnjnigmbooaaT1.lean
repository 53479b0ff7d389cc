/- What the rows' readings give: lists of edges, of numbers and of stamps; and a law's last step. -/
import Derived.Test.YtggmnjnigmbooaaRows
import Derived.Test.YtggmnjnigmbooaaGi
import Derived.ProofKit
import Derived.OpenShut
import Derived.Carry
import Derived.ChangeSlices
import Derived.Deep.Slices
namespace Go.Proofs.Ytggmnjnigmbooaa
open Go Go.ChangeShapes Go.WideShapes Go.ChangeAt Go.RowKit Go.Deep
set_option maxRecDepth 100000

theorem own : ownKnob Try.prog.godebug = none := by kernel_rfl
theorem laidOut : laidOutB Try.prog = true := by kernel_rfl
/-- a law's last step: it has answered, and nothing that was there has changed -/
theorem law_post {H : Type} {enc : TypeId × Value → H} {P : Program} {f : Func} {s : ChangeSpec} {apart fresh handsOn : Bool} {W W' : World} {args : Array Value} {v : Value} {ds gs : List (DataW H)} {before : List MemPlace}
    (hW : DataW.Whole enc P f.params.toList s.vars apart W args.toList ds gs before)
    (hres : ∀ (b : Nat) (sp : Nat → Bool) (hd : Bool), DataW.TrodAll enc P W' b sp hd f.resultTypes.toList (v.resultList f.resultTypes.size) (s.fn H (ds ++ gs)).results [])
    (hargs : DataW.TrodAll enc P W' 0 (fun b => decide (b < W.heap.size)) true f.params.toList args.toList (s.fn H (ds ++ gs)).args before)
    (hvars : DataW.TrodVars enc P W' (fun b => decide (b < W.heap.size)) s.vars (s.fn H (ds ++ gs)).vars []) (hb : Below W.heap.size W W') :
    s.post enc P f apart fresh handsOn false W args v W' :=
  ⟨ds, gs, before, [], before, [], hW, hres _ _ _, hargs, hvars, World.keptBut_mono (fun _ hp => ⟨hp, Or.inr (Or.inl hp)⟩) (hb.frame (· ∈ before)), fun h => by cases h⟩
theorem cells3 : Try.prog.cellsOf 3 = 1 := by kernel_rfl
theorem readable24 : Try.prog.readableRec 24 = true := by kernel_rfl
theorem small24 : 24 < Try.prog.types.size := by decide +kernel
theorem readable22 : Try.prog.readableRec 22 = true := by kernel_rfl
theorem small22 : 22 < Try.prog.types.size := by decide +kernel
theorem readable23 : Try.prog.readableRec 23 = true := by kernel_rfl
theorem small23 : 23 < Try.prog.types.size := by decide +kernel
theorem cells2 : Try.prog.cellsOf 2 = 1 := by kernel_rfl
theorem cells47 : Try.prog.cellsOf 34 = 2 := by kernel_rfl
section
variable {H : Type} {enc : TypeId × Value → H} {w : World} {base : Nat} {spare : Nat → Bool} {held : Bool} {fuel : Nat} {cs : List Value} {y : DataW H × List MemPlace}
theorem edge_cells (h : DataW.trod enc Try.prog w base spare held fuel 34 cs = some y) : ∃ x : Es.Ed, cs = Es.cellsW x := by
  obtain ⟨xs, n, _, _, hlen, hxl, hf⟩ := DataW.trod_struct Try.underlying34 h
  rw [cells47] at hlen
  match cs, hlen with
  | [v0, v1], _ =>
    match xs, hxl with
    | [y0, y1], _ =>
      have h0 := hf 0 _ rfl
      have h1 := hf 1 _ rfl
      change DataW.trod enc Try.prog w base spare held n 3 (([v0, v1].drop 0).take (Try.prog.cellsOf 3)) = some y0 at h0
      change DataW.trod enc Try.prog w base spare held n 3 (([v0, v1].drop 1).take (Try.prog.cellsOf 3)) = some y1 at h1
      rw [cells3] at h0 h1
      obtain ⟨a, e0, _⟩ := DataW.trod_int Try.underlying3 h0
      obtain ⟨b, e1, _⟩ := DataW.trod_int Try.underlying3 h1
      simp at e0 e1
      exact ⟨(a, b), by simp [Es.cellsW, e0, e1]⟩
end
theorem add_zero' (a : Addr) : a.add 0 = a := if_pos rfl
theorem add_pos' (a : Addr) {r : Nat} (h : 0 < r) : a.add r = ⟨a.block, a.off + r, none⟩ := if_neg (by omega)
theorem edges_at {W : World} {a : Addr} {n c : Nat} (f : Nat → Es.Ed) (h : ∀ i, i < n → ∀ r (u : Value), (Es.cellsW (f i))[r]? = some u → W.cell? (a.add (i * 2 + r)) = some u) (hl : n ≤ c) (hm : c ≤ maxLen) : Es.Ls W (some a) c ((List.range n).map f) := by
  refine ⟨by simpa using hl, hm, by simp, fun a' ha j u hj => ?_⟩
  obtain rfl : a = a' := by simpa using ha
  have hj1 := (List.getElem?_eq_some_iff.1 hj).1
  rw [Es.flat_length, List.length_map, List.length_range] at hj1
  have e : j = j / 2 * 2 + j % 2 := by omega
  have hi : j / 2 < n := by omega
  rw [e] at hj ⊢
  rw [Es.flat_at _ (j / 2) (j % 2) (by simpa using hi) (by omega)] at hj
  simp only [List.getElem_map, List.getElem_range] at hj
  exact h _ hi _ _ hj
/-- a list of edges that came in -/
theorem edges_of_trod {H : Type} {enc : TypeId × Value → H} {W : World} {base : Nat} {v : Value} {d : DataW H} {p : List MemPlace} (hval : Value.okWide Try.prog W .any base 24 v) (h : DataW.Trod enc Try.prog W 0 (fun _ => true) true 24 v d p) :
    ∃ A n c xs, v = .slice A n c ∧ n ≤ maxLen ∧ xs.length = n ∧ Es.Ls W A c xs := by
  obtain ⟨A, n, c, rfl⟩ := okWide_slice Try.underlying24 hval
  obtain ⟨fuel, hf⟩ := h
  rcases open_slice Try.underlying24 hf with ⟨hcs, _⟩ | ⟨a, len, cap, m, k, D, Pl, hcs, _, hl, hm, hmm, _, hx⟩
  · simp [Value.cells] at hcs
    obtain ⟨rfl, rfl, rfl⟩ := hcs
    exact ⟨none, 0, 0, [], rfl, Nat.zero_le _, rfl, Es.Ls.nils _⟩
  · simp [Value.cells] at hcs
    obtain ⟨rfl, rfl, rfl⟩ := hcs
    simp only [if_true] at hmm
    obtain ⟨f, hf⟩ := choose_lt (α := Es.Ed) (n := n) (p := fun i x => ∀ r (u : Value), (Es.cellsW x)[r]? = some u → W.cell? (a.add (i * 2 + r)) = some u) (fun i hi => by
      obtain ⟨cs', h1, h2⟩ := hx i (by omega)
      rw [cells47] at h1
      obtain ⟨x, rfl⟩ := edge_cells h2
      obtain ⟨_, _, hat⟩ := World.cells?_some h1
      refine ⟨x, fun r u hr => ?_⟩
      have hr2 : r < 2 := (List.getElem?_eq_some_iff.1 hr).1
      have := hat r hr2
      rw [hr] at this
      by_cases h0 : r = 0
      · subst h0
        rw [add_zero'] at this
        simpa using this
      · rw [Es.add_next _ _ r (by omega), ← add_pos' _ (by omega)]
        simpa using this)
    exact ⟨_, n, c, _, rfl, Nat.le_trans hl hm, by simp, edges_at f hf hl hm⟩
/-- a list of numbers that came in -/
theorem ints_at {W : World} {a : Addr} {n c : Nat} (f : Nat → Int) (h : ∀ i, i < n → W.cell? (a.add i) = some (.int .i64 (f i))) (hl : n ≤ c) (hm : c ≤ maxLen) : Is.Ls W (some a) c ((List.range n).map f) := by
  refine ⟨by simpa using hl, hm, by simp, fun a' ha j u hj => ?_⟩
  obtain rfl : a = a' := by simpa using ha
  have hj1 := (List.getElem?_eq_some_iff.1 hj).1
  rw [Is.flat_length, List.length_map, List.length_range] at hj1
  have hi : j < n := by omega
  rw [Is.flat_at _ j (by simpa using hi)] at hj
  simp only [List.getElem_map, List.getElem_range, Option.some.injEq] at hj
  subst hj
  exact h _ hi
/-- a list of stamps that came in -/
theorem stamps_of_trod {H : Type} {enc : TypeId × Value → H} {W : World} {base : Nat} {v : Value} {d : DataW H} {p : List MemPlace} (hval : Value.okWide Try.prog W .any base 22 v) (h : DataW.Trod enc Try.prog W 0 (fun _ => true) true 22 v d p) :
    ∃ A n c xs, v = .slice A n c ∧ n ≤ maxLen ∧ xs.length = n ∧ Is.Ls W A c xs := by
  obtain ⟨A, n, c, rfl⟩ := okWide_slice Try.underlying22 hval
  obtain ⟨fuel, hf⟩ := h
  rcases open_slice Try.underlying22 hf with ⟨hcs, _⟩ | ⟨a, len, cap, m, k, D, Pl, hcs, _, hl, hm, hmm, _, hx⟩
  · simp [Value.cells] at hcs
    obtain ⟨rfl, rfl, rfl⟩ := hcs
    exact ⟨none, 0, 0, [], rfl, Nat.zero_le _, rfl, Nat.le_refl _, Nat.zero_le _, fun _ => rfl, by simp⟩
  · simp [Value.cells] at hcs
    obtain ⟨rfl, rfl, rfl⟩ := hcs
    simp only [if_true] at hmm
    obtain ⟨f, hf⟩ := choose_lt (α := Int) (n := n) (p := fun i x => W.cell? (a.add i) = some (.int .i64 x)) (fun i hi => by
      obtain ⟨cs', h1, h2⟩ := hx i (by omega)
      rw [cells2] at h1
      obtain ⟨x, e, _⟩ := DataW.trod_int Try.underlying2 h2
      obtain ⟨_, _, hat⟩ := World.cells?_some h1
      have := hat 0 (by omega)
      refine ⟨x, ?_⟩
      rw [add_zero', e] at this
      simpa using this)
    exact ⟨_, n, c, _, rfl, Nat.le_trans hl hm, by simp, ints_at f hf hl hm⟩
/-- a list of numbers that came in -/
theorem nums_of_trod {H : Type} {enc : TypeId × Value → H} {W : World} {base : Nat} {v : Value} {d : DataW H} {p : List MemPlace} (hval : Value.okWide Try.prog W .any base 23 v) (h : DataW.Trod enc Try.prog W 0 (fun _ => true) true 23 v d p) :
    ∃ A n c xs, v = .slice A n c ∧ n ≤ maxLen ∧ xs.length = n ∧ Is.Ls W A c xs := by
  obtain ⟨A, n, c, rfl⟩ := okWide_slice Try.underlying23 hval
  obtain ⟨fuel, hf⟩ := h
  rcases open_slice Try.underlying23 hf with ⟨hcs, _⟩ | ⟨a, len, cap, m, k, D, Pl, hcs, _, hl, hm, hmm, _, hx⟩
  · simp [Value.cells] at hcs
    obtain ⟨rfl, rfl, rfl⟩ := hcs
    exact ⟨none, 0, 0, [], rfl, Nat.zero_le _, rfl, Nat.le_refl _, Nat.zero_le _, fun _ => rfl, by simp⟩
  · simp [Value.cells] at hcs
    obtain ⟨rfl, rfl, rfl⟩ := hcs
    simp only [if_true] at hmm
    obtain ⟨f, hf⟩ := choose_lt (α := Int) (n := n) (p := fun i x => W.cell? (a.add i) = some (.int .i64 x)) (fun i hi => by
      obtain ⟨cs', h1, h2⟩ := hx i (by omega)
      rw [cells3] at h1
      obtain ⟨x, e, _⟩ := DataW.trod_int Try.underlying3 h2
      obtain ⟨_, _, hat⟩ := World.cells?_some h1
      have := hat 0 (by omega)
      refine ⟨x, ?_⟩
      rw [add_zero', e] at this
      simpa using this)
    exact ⟨_, n, c, _, rfl, Nat.le_trans hl hm, by simp, ints_at f hf hl hm⟩
end Go.Proofs.Ytggmnjnigmbooaa
