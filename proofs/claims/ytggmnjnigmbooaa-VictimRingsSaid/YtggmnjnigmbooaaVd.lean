/- Who gives way, of any edges: the program's answer. -/
import Derived.Test.YtggmnjnigmbooaaVc
namespace Go.Proofs.Ytggmnjnigmbooaa
open Go Go.RowKit Go.Shelf
set_option maxRecDepth 100000

/-- edges of one's own, handed back -/
def Es.Rows (W : World) (xs : List Es.Ed) (e : Ending) (w' : World) : Prop := ∃ v, e = .returned v ∧ Es.Row w' W.heap.size v xs ∧ Below W.heap.size W w'
/-- one edge more -/
def stepL (p : Int) (st : List Int) (out : List Es.Ed) (e : Es.Ed) : List Es.Ed :=
  if judge p (atL st e.1) (atL st e.2) = 0 ∨ gTx e (judge p (atL st e.1) (atL st e.2)) ∈ out.map (·.1) then out else out ++ [(gTx e (judge p (atL st e.1) (atL st e.2)), judge p (atL st e.1) (atL st e.2))]
/-- who gives way, each once, at the first edge -/
def allL (p : Int) (st : List Int) (l : List Es.Ed) : List Es.Ed := l.foldl (stepL p st) []
theorem judge_some (p a b : Int) : judge p a b = 0 ∨ judge p a b = 1 ∨ judge p a b = 2 := by
  unfold judge
  split
  · split
    · exact .inr (.inl rfl)
    · exact .inl rfl
  · split
    · split
      · exact .inr (.inr rfl)
      · exact .inl rfl
    · exact .inl rfl
section
variable {p : Int} {st : List Int} {l : List Es.Ed} {k : Nat}
theorem allL_succ (hk : k < l.length) : allL p st (l.take (k + 1)) = stepL p st (allL p st (l.take k)) l[k] := by
  unfold allL
  rw [List.take_succ_eq_append_getElem hk, List.foldl_append]
  rfl
theorem stepL_len (out : List Es.Ed) (e : Es.Ed) : (stepL p st out e).length ≤ out.length + 1 := by
  unfold stepL
  split
  · omega
  · simp
theorem allL_len : ∀ k, k ≤ l.length → (allL p st (l.take k)).length ≤ k
  | 0, _ => by simp [allL]
  | k + 1, h => by
    rw [allL_succ (by omega)]
    exact Nat.le_trans (stepL_len _ _) (by have := allL_len k (by omega); omega)
/-- at each round's head: the map has those that gave way, the row is of one's own, what there was is as it was -/
structure Al (W : World) (p : Int) (st : List Int) (l : List Es.Ed) (k : Nat) (v : Value) (w : World) : Prop where
  map : ∃ n ids, n ≤ k ∧ MapAt w W.heap.size n ids ∧ ∀ i, i ∈ ids ↔ i ∈ (allL p st (l.take k)).map (·.1)
  row : Es.Row w (W.heap.size + 1) v (allL p st (l.take k))
  bel : Below W.heap.size W w
variable {W w w' : World} {v : Value}
theorem Al.start : Al W p st l 0 (.slice none 0 0) (W.alloc (.map #[] 0)) :=
  ⟨⟨0, [], Nat.le_refl _, MapAt.made W, by simp [allL]⟩, World.ownsRow_nil _ _ _ _, box_below _ _⟩
theorem Al.below (h : Al W p st l k v w) (hb : Below w.heap.size w w') : Al W p st l k v w' := by
  obtain ⟨n, ids, h1, h2, h3⟩ := h.map
  exact ⟨⟨n, ids, h1, h2.keep (hb.block _ h2.lt), h3⟩, row_below h.row hb, h.bel.trans (hb.mono h.bel.size)⟩
theorem Al.skip (h : Al W p st l k v w) (he : allL p st (l.take (k + 1)) = allL p st (l.take k)) : Al W p st l (k + 1) v w := by
  obtain ⟨n, ids, h1, h2, h3⟩ := h.map
  exact ⟨⟨n, ids, by omega, h2, by rw [he]; exact h3⟩, by rw [he]; exact h.row, h.bel⟩
/-- whether one has given way already -/
theorem Al.look (h : Al W p st l k v w) {i : Int} (hi : wf64 i) :
    (Instr.lookup 40 (.map (some W.heap.size)) (.int .i64 i) true).run Try.prog w = .ok (.tuple #[.agg #[], .bool (decide (i ∈ (allL p st (l.take k)).map (·.1)))]) w := by
  obtain ⟨n, ids, h1, h2, h3⟩ := h.map
  rw [h2.look hi, decide_eq_decide.2 (h3 i)]
/-- one more gives way -/
theorem Al.put {tx who : Int} {m : Nat} (h : Al W p st l k v w) (hi : wf64 tx) (hl : k ≤ 5000) (hk : k ≤ l.length) (hm : (allL p st (l.take k)).length = m) (he : allL p st (l.take (k + 1)) = allL p st (l.take k) ++ [(tx, who)]) :
    ∃ w1 A' c' w2, (Instr.mapUpdate 40 (.map (some W.heap.size)) (.int .i64 tx) (.agg #[])).run Try.prog w = .ok () w1 ∧
      (Builtin.append_ #[24, 24] 24 #[v, .slice (some ⟨w1.heap.size, 0, none⟩) 1 1]).run Try.prog (w1.alloc (.cells #[.int .i64 tx, .int .i64 who] 34)) = .ok (.slice A' (m + 1) c') w2 ∧
      Al W p st l (k + 1) (.slice A' (m + 1) c') w2 := by
  obtain ⟨n, ids, h1, h2, h3⟩ := h.map
  obtain ⟨w1, hput, hm1, hg⟩ := h2.put hi (by omega)
  have hrow1 : Es.Row w1 (W.heap.size + 1) v (allL p st (l.take k)) := h.row.keep fun g hg' => hg.block g (h.row.lt g hg').2 fun e => by
    have h5 := (h.row.lt g hg').1
    have h6 : W.heap.size = g := by simpa using e.symm
    omega
  have hb1 : Below W.heap.size W w1 := h.bel.trans (OnlyS.below (S := fun j => j = W.heap.size) ((OnlyS.refl _ _).grown hg (fun j hj => .inl (by simpa using hj.symm))) (fun j hj => by omega) h.bel.size)
  have hx := box_below w1 (.cells #[.int .i64 tx, .int .i64 who] 34)
  have hmlt := hm1.lt
  have hr1x : Es.Row (w1.alloc (.cells #[.int .i64 tx, .int .i64 who] 34)) (W.heap.size + 1) v (allL p st (l.take k)) := row_below hrow1 hx
  obtain ⟨v', w2, hrun, hrow2, hg2, -⟩ := hr1x.app (Es.box_ls w1 (tx, who)) (by have := allL_len (p := p) (st := st) k hk; simp; omega) (by have := hx.size; omega) 24
  have hab : Below (W.heap.size + 1) (w1.alloc (.cells #[.int .i64 tx, .int .i64 who] 34)) w2 := Es.Row.app_below hr1x hg2 (by have := hx.size; omega)
  obtain ⟨A', c', rfl, -⟩ := hrow2.ls
  have hlen : (allL p st (l.take k) ++ [(tx, who)]).length = m + 1 := by simp [hm]
  unfold Es.Row at hrow2
  rw [hlen] at hrun hrow2
  refine ⟨w1, A', c', w2, hput, hrun, ⟨⟨n + 1, _, by omega, hm1.keep ?_, fun i => ?_⟩, by rw [he]; unfold Es.Row; rw [hlen]; exact hrow2, ?_⟩⟩
  · rw [hab.block _ (by omega), hx.block _ hmlt]
  · rw [he, List.map_append, List.mem_append, List.mem_cons, h3 i]
    simp only [List.map_cons, List.map_nil, List.mem_singleton]
    exact Or.comm
  · exact (hb1.trans (hx.mono hb1.size)).trans (hab.mono (Nat.le_succ _))
end
end Go.Proofs.Ytggmnjnigmbooaa
