/- A map of numbers that were told. -/
import Derived.Test.YthoicmbpjcgdpaaH1
import Derived.Maps.OwnSet
import Derived.Maps.Views
import Derived.Maps.Keyed
namespace Go.Proofs.Ythoicmbpjcgdpaa
open Go Go.RowKit Go.Shelf

/-- numbers that a 64-bit word holds -/
abbrev W64 (i : Int) : Prop := (Lit.int .i64 i).wf = true
/-- a map that holds true of these numbers, and of no others -/
def MapAt (W : World) (b : Nat) (ids : List Int) : Prop :=
  ∃ n, ∃ D : DataW Unit, W.ownsMap Try.prog 3 (plainElem Try.prog 4) b n D ∧ n ≤ ids.length ∧ Maps.size D = ids.length ∧
    (∀ i, Maps.has D (.int .i64 i) = decide (i ∈ ids)) ∧ ∀ i, D.atKey (.int .i64 i) (.lit (.bool false)) = .lit (.bool (decide (i ∈ ids)))
theorem MapAt.made (W : World) : MapAt (W.alloc (.map #[] 0)) W.heap.size [] :=
  ⟨0, .map [], World.ownsMap_made W Try.prog 3 _, Nat.le_refl _, rfl, fun _ => rfl, fun _ => rfl⟩
theorem MapAt.keep {W W' : World} {b : Nat} {ids : List Int} (h : MapAt W b ids) (hb : W'.heap[b]? = W.heap[b]?) : MapAt W' b ids := by
  obtain ⟨n, D, ⟨es, clock, h1, h2⟩, h3⟩ := h
  exact ⟨n, D, ⟨es, clock, hb.trans h1, h2⟩, h3⟩
theorem MapAt.lt {W : World} {b : Nat} {ids : List Int} (h : MapAt W b ids) : b < W.heap.size := by
  obtain ⟨n, D, h1, _⟩ := h
  exact h1.lt
theorem plainElem_bool_inv {v : Value} {x : Bool} {ps : List MemPlace} (h : plainElem (H := Unit) Try.prog 4 v = some (.lit (.bool x), ps)) : v = .bool x := by
  unfold plainElem at h
  rw [Try.underlying4] at h
  cases v <;> simp at h
  rw [h.1]
theorem MapAt.look {W : World} {b : Nat} {ids : List Int} (h : MapAt W b ids) {i : Int} (hi : W64 i) :
    (Instr.lookup 45 (.map (some b)) (.int .i64 i) false).run Try.prog W = .ok (.bool (decide (i ∈ ids))) W := by
  obtain ⟨n, D, h1, _, _, _, h5⟩ := h
  obtain ⟨v, ps, hrun, hv⟩ := h1.lookup (Maps.int_keyed Try.underlying3) Try.underlying45 (Try.zeroValue4 W) (plainElem_bool Try.underlying4 false) (Maps.keyOf_int_mk Try.underlying3 hi)
  rw [h5 i] at hv
  rw [hrun, plainElem_bool_inv hv]
theorem MapAt.put {W : World} {b : Nat} {ids : List Int} (h : MapAt W b ids) {i : Int} (hi : W64 i) (hn : i ∉ ids) (hl : ids.length ≤ 1000) :
    ∃ w', (Instr.mapUpdate 45 (.map (some b)) (.int .i64 i) (.bool true)).run Try.prog W = .ok () w' ∧ MapAt w' b (i :: ids) ∧ W.grownBy w' (some b) := by
  obtain ⟨n, D, h1, h2, h3, h4, h5⟩ := h
  obtain ⟨w', hrun, ho, hg⟩ := h1.update (Maps.int_keyed Try.underlying3) Try.underlying45 (by unfold maxLen; omega) (Maps.keyOf_int_mk Try.underlying3 hi) (plainElem_bool Try.underlying4 true)
  have hm := h1.isMap
  have ht := h1.tidy (Maps.int_keyed Try.underlying3)
  refine ⟨w', hrun, ⟨n + 1, _, ho, by simp; omega, ?_, fun j => ?_, fun j => ?_⟩, hg⟩
  · rw [Maps.size_put ht, h4 i]
    simp [hn, h3]
  · by_cases e : j = i
    · subst e
      rw [Maps.has_put_same hm (by trivial)]; simp
    · rw [Maps.has_put_other (by simpa using e), h4 j]; simp [e]
  · by_cases e : j = i
    · subst e
      rw [Maps.atKey_put_same hm (by trivial)]; simp
    · rw [Maps.atKey_put_other (by simpa using e), h5 j]; simp [e]
theorem MapAt.len {W : World} {b : Nat} {ids : List Int} (h : MapAt W b ids) (ty : TypeId) : (Builtin.len_ #[45] ty #[.map (some b)]).run Try.prog W = .ok (.int .i64 ids.length) W := by
  obtain ⟨n, D, h1, _, h3, _⟩ := h
  rw [h1.len Try.underlying45 ty, h3]
end Go.Proofs.Ythoicmbpjcgdpaa
