/- A map of numbers of places. -/
import Derived.Test.YthgcedhplbhiiaaB2
import Derived.Maps.OwnSet
import Derived.Maps.Views
import Derived.Maps.Keyed
namespace Go.Proofs.Ythgcedhplbhiiaa
open Go Go.RowKit

/-- a map that holds true of these numbers, and of no others -/
def MapAt (W : World) (b n : Nat) (ids : List Nat) : Prop :=
  ∃ D : DataW Unit, W.ownsMap Try.prog 3 (plainElem Try.prog 4) b n D ∧ Maps.size D = ids.length ∧
    (∀ i : Nat, Maps.has D (.int .i64 (i : Int)) = decide (i ∈ ids)) ∧ ∀ i : Nat, D.atKey (.int .i64 (i : Int)) (.lit (.bool false)) = .lit (.bool (decide (i ∈ ids)))
theorem MapAt.made (W : World) : MapAt (W.alloc (.map #[] 0)) W.heap.size 0 [] :=
  ⟨.map [], World.ownsMap_made W Try.prog 3 _, rfl, fun _ => rfl, fun _ => rfl⟩
theorem MapAt.keep {W W' : World} {b n : Nat} {ids : List Nat} (h : MapAt W b n ids) (hb : W'.heap[b]? = W.heap[b]?) : MapAt W' b n ids := by
  obtain ⟨D, ⟨es, clock, h1, h2⟩, h3⟩ := h
  exact ⟨D, ⟨es, clock, hb.trans h1, h2⟩, h3⟩
theorem MapAt.lt {W : World} {b n : Nat} {ids : List Nat} (h : MapAt W b n ids) : b < W.heap.size := by
  obtain ⟨D, h1, _⟩ := h
  exact h1.lt
theorem MapAt.perm {W : World} {b n : Nat} {ids ids' : List Nat} (h : MapAt W b n ids) (hp : ids.Perm ids') : MapAt W b n ids' := by
  obtain ⟨D, h1, h2, h3, h4⟩ := h
  refine ⟨D, h1, by rw [← hp.length_eq]; exact h2, fun i => ?_, fun i => ?_⟩
  · rw [h3 i, decide_eq_decide]; exact hp.mem_iff
  · rw [h4 i]; congr 2; rw [decide_eq_decide]; exact hp.mem_iff
theorem plainElem_bool_inv {v : Value} {x : Bool} {ps : List MemPlace} (h : plainElem (H := Unit) Try.prog 4 v = some (.lit (.bool x), ps)) : v = .bool x := by
  unfold plainElem at h
  rw [Try.underlying4] at h
  cases v <;> simp at h
  rw [h.1]
theorem w64_nat {i : Nat} (h : i ≤ 4096) : (Lit.int .i64 (i : Int)).wf = true := by
  have h1 : IntKind.i64.min = -9223372036854775808 := by decide
  have h2 : IntKind.i64.max = 9223372036854775807 := by decide
  show (decide (IntKind.i64.min ≤ (i : Int)) && decide ((i : Int) ≤ IntKind.i64.max)) = true
  rw [h1, h2, decide_eq_true (by omega), decide_eq_true (by omega)]
  rfl
theorem MapAt.look {W : World} {b n : Nat} {ids : List Nat} (h : MapAt W b n ids) {i : Nat} (hi : i ≤ 4096) :
    (Instr.lookup 45 (.map (some b)) (.int .i64 (i : Int)) false).run Try.prog W = .ok (.bool (decide (i ∈ ids))) W := by
  obtain ⟨D, h1, _, _, h5⟩ := h
  obtain ⟨v, ps, hrun, hv⟩ := h1.lookup (Maps.int_keyed Try.underlying3) Try.underlying45 (Try.zeroValue4 W) (plainElem_bool Try.underlying4 false) (Maps.keyOf_int_mk Try.underlying3 (w64_nat hi))
  rw [h5 i] at hv
  rw [hrun, plainElem_bool_inv hv]
theorem MapAt.put {W : World} {b n : Nat} {ids : List Nat} (h : MapAt W b n ids) {i : Nat} (hi : i ≤ 4096) (hn : i ∉ ids) (hl : n ≤ 1000) :
    ∃ w', (Instr.mapUpdate 45 (.map (some b)) (.int .i64 (i : Int)) (.bool true)).run Try.prog W = .ok () w' ∧ MapAt w' b (n + 1) (i :: ids) ∧ W.grownBy w' (some b) := by
  obtain ⟨D, h1, h3, h4, h5⟩ := h
  obtain ⟨w', hrun, ho, hg⟩ := h1.update (Maps.int_keyed Try.underlying3) Try.underlying45 (by unfold maxLen; omega) (Maps.keyOf_int_mk Try.underlying3 (w64_nat hi)) (plainElem_bool Try.underlying4 true)
  have hm := h1.isMap
  have ht := h1.tidy (Maps.int_keyed Try.underlying3)
  refine ⟨w', hrun, ⟨_, ho, ?_, fun j => ?_, fun j => ?_⟩, hg⟩
  · rw [Maps.size_put ht, h4 i]
    simp [hn, h3]
  · by_cases e : j = i
    · subst e
      rw [Maps.has_put_same hm (by trivial)]; simp
    · rw [Maps.has_put_other (fun q => e (by injection q with _ q; exact Int.ofNat.inj q)), h4 j]; simp [e]
  · by_cases e : j = i
    · subst e
      rw [Maps.atKey_put_same hm (by trivial)]; simp
    · rw [Maps.atKey_put_other (fun q => e (by injection q with _ q; exact Int.ofNat.inj q)), h5 j]; simp [e]
end Go.Proofs.Ythgcedhplbhiiaa
