/- Stores into a row's own block; what is cleared; a copy of a list. -/
import Derived.Test.YteaibamkfccplaaDoorWA4
import Derived.Lib.SliceRun
namespace Go.Proofs.YteaibamkfccplaaDoor.Ws
open Go Go.RowKit Go.Shelf

theorem set_blk {W : World} {g o : Nat} {cur : Array Value} {t : TypeId} {fr : Nat × Nat} (v : Value) (h : W.heap[g]? = some (.cells cur t fr)) : (W.setCell ⟨g, o, none⟩ v).heap[g]? = some (.cells (cur.setIfInBounds o v) t fr) := by
  obtain ⟨hlt, hk⟩ := Array.getElem?_eq_some_iff.1 h
  show (W.heap.modify g _)[g]? = _
  rw [Array.getElem?_eq_getElem (by rw [Array.size_modify]; exact hlt), Array.getElem_modify_self, hk]
  rfl
theorem sets_blk {t : TypeId} {fr : Nat × Nat} {g : Nat} : ∀ (vs : List Value) (W : World) (o : Nat) (cur : Array Value), W.heap[g]? = some (.cells cur t fr) →
    ∃ cur', (W.setCells g o vs).heap[g]? = some (.cells cur' t fr) ∧ cur'.size = cur.size ∧ (∀ k, k < o → cur'[k]? = cur[k]?) ∧ OnlyS (· = g) W (W.setCells g o vs)
  | [], W, o, cur, h => ⟨cur, h, rfl, fun _ _ => rfl, OnlyS.refl _ _⟩
  | v :: vs, W, o, cur, h => by
    obtain ⟨cur', h1, h2, h3, h4⟩ := sets_blk vs (W.setCell ⟨g, o, none⟩ v) (o + 1) _ (set_blk (o := o) v h)
    refine ⟨cur', h1, by simpa using h2, fun k hk => ?_, (OnlyS.set g o W v).trans h4⟩
    rw [h3 k (by omega), Array.getElem?_setIfInBounds_ne (by omega)]
/-- one is stored, cell by cell -/
abbrev put4 (W : World) (g o : Nat) (x : Wt) : World :=
  (((W.setCell ⟨g, o, none⟩ (.int .i64 x.1)).setCell ⟨g, o + 1, none⟩ (.int .i64 x.2.1)).setCell ⟨g, o + 2, none⟩ (.bool x.2.2.1)).setCell ⟨g, o + 3, none⟩ (.bool x.2.2.2)
theorem flat_set (zs : List Wt) (i : Nat) (x : Wt) (h : i < zs.length) : flat (zs.set i x) = ((((flat zs).set (i * 4) (.int .i64 x.1)).set (i * 4 + 1) (.int .i64 x.2.1)).set (i * 4 + 2) (.bool x.2.2.1)).set (i * 4 + 3) (.bool x.2.2.2) := by
  induction zs generalizing i with
  | nil => simp at h
  | cons z zs ih =>
    have e : ∀ (y : Wt) (ys : List Wt), flat (y :: ys) = .int .i64 y.1 :: .int .i64 y.2.1 :: .bool y.2.2.1 :: .bool y.2.2.2 :: flat ys := fun y ys => by simp [flat, cellsW]
    cases i with
    | zero => simp [e]
    | succ i =>
      have h' : i < zs.length := by simpa using h
      rw [List.set_cons_succ, e, e, ih i h', show (i + 1) * 4 = i * 4 + 1 + 1 + 1 + 1 by omega]
      simp
section
variable {W W' : World} {g n cap K : Nat} {zs : List Wt}
theorem Row.keep {v : Value} (h : Row W K v zs) (hk : ∀ g, v.ownBlock = some g → W'.heap[g]? = W.heap[g]?) : Row W' K v zs := row_keep h hk
theorem Row.put (h : Row W K (.slice (some ⟨g, 0, none⟩) n cap) zs) (x : Wt) {i : Nat} (hi : i < zs.length) : Row (put4 W g (i * 4) x) K (.slice (some ⟨g, 0, none⟩) n cap) (zs.set i x) := by
  rcases h.2 with ⟨h0, _⟩ | ⟨g', cap', cur, e, hb, hg, h1, h2, h3, h4⟩
  · cases h0
  · cases e
    refine ⟨flat_length _, .inr ⟨g, cap, _, by simp, hb, set_blk _ (set_blk _ (set_blk _ (set_blk _ hg))), by simpa using h1, h2, by simpa using h3, ?_⟩⟩
    rw [flat_set _ _ _ hi, ← h4]
    simp [List.take_set]
/-- a shorter slice of the same row, whatever stands behind -/
theorem Row.cut {i : Nat} (h : Row W K (.slice (some ⟨g, 0, none⟩) n cap) zs) (hi : i ≤ zs.length)
    (hg' : ∀ cur, W.heap[g]? = some (.cells cur 60 (0, 0)) → ∃ cur', W'.heap[g]? = some (.cells cur' 60 (0, 0)) ∧ cur'.size = cur.size ∧ ∀ k, k < i * 4 → cur'[k]? = cur[k]?) :
    Row W' K (.slice (some ⟨g, 0, none⟩) i cap) (zs.take i) := by
  rcases h.2 with ⟨h0, _⟩ | ⟨g', cap', cur, e, hb, hg, h1, h2, h3, h4⟩
  · cases h0
  · cases e
    obtain ⟨cur', k1, k2, k3⟩ := hg' cur hg
    have hl : (zs.take i).length = i := by rw [List.length_take]; omega
    refine ⟨flat_length _, .inr ⟨g, cap, cur', by rw [hl], hb, k1, by omega, h2, by omega, ?_⟩⟩
    rw [hl]
    have e1 : flat (zs.take i) = (flat zs).take (i * 4) := by
      have e2 : flat zs = flat (zs.take i) ++ flat (zs.drop i) := by rw [← flat_append, List.take_append_drop]
      rw [e2, List.take_left' (by rw [flat_length, hl])]
    rw [e1, ← h4, List.take_take]
    apply List.ext_getElem?
    intro k
    rw [List.getElem?_take, List.getElem?_take]
    by_cases hk : k < i * 4
    · rw [if_pos hk, if_pos (by omega), Array.getElem?_toList, Array.getElem?_toList, k3 k hk]
    · rw [if_neg hk, if_neg (by omega)]
theorem Row.blk (h : Row W K (.slice (some ⟨g, 0, none⟩) n cap) zs) : ∃ cur, W.heap[g]? = some (.cells cur 60 (0, 0)) ∧ zs.length ≤ cap ∧ cap ≤ maxLen := by
  rcases h.2 with ⟨h0, _⟩ | ⟨g', cap', cur, e, _, hb, h1, h2, _⟩
  · cases h0
  · cases e; exact ⟨cur, hb, h1, h2⟩
theorem Row.free {k : Nat} (h : Row W K (.slice (some ⟨g, 0, none⟩) n cap) zs) : W.frozen? ⟨g, k, none⟩ = false := by
  obtain ⟨cur, hb, -⟩ := h.blk
  exact frozen_of_row _ _ _ _ _ hb
theorem Row.there {k : Nat} (h : Row W K (.slice (some ⟨g, 0, none⟩) n cap) zs) (hk : k < zs.length * 4) : (W.cell? ⟨g, k, none⟩).isSome = true := by
  have h1 := h.cells (g := g) rfl k _ (List.getElem?_eq_getElem (by rw [flat_length]; exact hk))
  rw [add_at] at h1
  rw [h1]; rfl
end
/-- as many zeros -/
def zz (n : Nat) : List Value := (Builtin.zeroCells (Value.agg #[.int .i64 0, .int .i64 0, .bool false, .bool false]).cells n).toList
theorem zz_length (n : Nat) : (zz n).length = n * 4 := by simp [zz, size_zeroCells, Value.cells]
theorem zz_one (n : Nat) : ∀ u ∈ zz n, u.oneCell' = true := by
  intro u hu
  obtain ⟨k, hk, rfl⟩ := List.getElem_of_mem hu
  simp only [zz, Builtin.zeroCells, Value.cells, Array.getElem_toList]
  have h4 : k % 4 = 0 ∨ k % 4 = 1 ∨ k % 4 = 2 ∨ k % 4 = 3 := by omega
  rcases h4 with e | e | e | e <;> simp [e] <;> rfl
theorem run_clear_w (w : World) (ty : TypeId) (b o n c : Nat) (hn : 0 < n) (hc : ∀ j, j < n * 4 → (w.cell? ⟨b, o + j, none⟩).isSome = true) (hf : ∀ j, j < n * 4 → w.frozen? ⟨b, o + j, none⟩ = false) :
    (Builtin.clear_ #[26] ty #[.slice (some ⟨b, o, none⟩) n c]).run Tryd.prog w = .ok (.tuple #[]) (w.setCells b o (zz n)) := by
  have hst := run_storeCells_cells (P := Tryd.prog) b o (zz n) 0 w (by rw [zz_length]; simpa using hc) (by rw [zz_length]; simpa using hf) (zz_one n)
  simp only [Nat.add_zero] at hst
  obtain ⟨m, rfl⟩ : ∃ m, n = m + 1 := ⟨n - 1, by omega⟩
  unfold zz at hst
  simp [Builtin.clear_, run_underlying Tryd.underlying26, Tryd.zeroValue60, hst, zz]
end Go.Proofs.YteaibamkfccplaaDoor.Ws
