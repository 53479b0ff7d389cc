/- What stands at a place of a list; who gives way by an edge; a map of numbers. -/
import Derived.Test.YtggmnjnigmbooaaVa
import Derived.Test.YtggmnjnigmbooaaGi
import Derived.Maps.OwnSet
import Derived.Maps.Views
import Derived.Maps.Keyed
namespace Go.Proofs.Ytggmnjnigmbooaa
open Go Go.RowKit Go.Shelf
set_option maxRecDepth 100000

/-- what stands at a place; 0 if there is no such place -/
def atL (xs : List Int) (i : Int) : Int := if i < 0 then 0 else xs.getD i.toNat 0
theorem atL_neg {xs : List Int} {i : Int} (h : i < 0) : atL xs i = 0 := if_pos h
theorem atL_off {xs : List Int} {i : Int} (h : (xs.length : Int) ≤ i) : atL xs i = 0 := by
  rw [atL, if_neg (by omega), List.getD_eq_getElem?_getD, List.getElem?_eq_none (by omega)]
  rfl
theorem atL_at {xs : List Int} {k : Nat} (h : k < xs.length) : atL xs (k : Int) = xs[k] := by
  rw [atL, if_neg (by omega), Int.toNat_natCast, List.getD_eq_getElem?_getD, List.getElem?_eq_getElem h]
  rfl
section
variable {W : World} {A : Option Addr} {c : Nat} {xs : List Int}
/-- .. of a list of numbers -/
theorem atI_any (h : Is.Ls W A c xs) (i : Int) : Calls Try.prog 17 #[.slice A xs.length c, .int .i64 i] W fun e w' => e = .returned (.int .i64 (atL xs i)) ∧ w' = W := by
  have hroom := h.room
  have hcap := h.cap
  unfold maxLen at hroom
  by_cases h0 : i < 0
  · rw [atL_neg h0]
    generalize xs.length = n at *
    clear h
    go_enter Try.func17, Try.ntmps17
    go_wp2
    go_ret
    exact ⟨rfl, rfl⟩
  by_cases h1 : (xs.length : Int) ≤ i
  · rw [atL_off h1]
    generalize xs.length = n at *
    clear h
    go_enter Try.func17, Try.ntmps17
    go_wp2
    go_ret
    exact ⟨rfl, rfl⟩
  · obtain ⟨k, rfl⟩ : ∃ k : Nat, i = (k : Int) := ⟨i.toNat, by omega⟩
    have hk : k < xs.length := by omega
    obtain ⟨a, ha, z0⟩ := h.here hk
    subst ha
    rw [atL_at hk]
    generalize xs[k] = x at z0 ⊢
    generalize xs.length = n at *
    clear h
    go_enter Try.func17, Try.ntmps17
    go_wp2
    go_ret
    exact ⟨rfl, rfl⟩
/-- .. of a list of stamps -/
theorem atS_any (h : Is.Ls W A c xs) (i : Int) : Calls Try.prog 18 #[.slice A xs.length c, .int .i64 i] W fun e w' => e = .returned (.int .i64 (atL xs i)) ∧ w' = W := by
  have hroom := h.room
  have hcap := h.cap
  unfold maxLen at hroom
  by_cases h0 : i < 0
  · rw [atL_neg h0]
    generalize xs.length = n at *
    clear h
    go_enter Try.func18, Try.ntmps18
    go_wp2
    go_ret
    exact ⟨rfl, rfl⟩
  by_cases h1 : (xs.length : Int) ≤ i
  · rw [atL_off h1]
    generalize xs.length = n at *
    clear h
    go_enter Try.func18, Try.ntmps18
    go_wp2
    go_ret
    exact ⟨rfl, rfl⟩
  · obtain ⟨k, rfl⟩ : ∃ k : Nat, i = (k : Int) := ⟨i.toNat, by omega⟩
    have hk : k < xs.length := by omega
    obtain ⟨a, ha, z0⟩ := h.here hk
    subst ha
    rw [atL_at hk]
    generalize xs[k] = x at z0 ⊢
    generalize xs.length = n at *
    clear h
    go_enter Try.func18, Try.ntmps18
    go_wp2
    go_ret
    exact ⟨rfl, rfl⟩
end
/-- who gives way by an edge, if anybody does -/
def gTx (e : Es.Ed) (who : Int) : Int := if who = 1 then e.1 else if who = 2 then e.2 else 0
def gB (who : Int) : Bool := decide (who = 1 ∨ who = 2)
theorem giver_any (x : Es.Ed) (who : Int) (w : World) : Calls Try.prog 19 #[Es.wv x, .int .i64 who] w fun e w' => e = .returned (.tuple #[.int .i64 (gTx x who), .bool (gB who)]) ∧ Below w.heap.size w w' := by
  have hb := Lib.hid (box_below w (.cells #[.int .i64 x.1, .int .i64 x.2] 34))
  obtain ⟨y, z⟩ := x
  unfold gTx gB
  simp only at hb ⊢
  by_cases h1 : who = 1
  · subst h1
    rw [if_pos rfl, show decide ((1 : Int) = 1 ∨ (1 : Int) = 2) = true by decide]
    go_enter Try.func19, Try.ntmps19
    go_wp2
    go_ret2
    exact ⟨rfl, hb.out⟩
  by_cases h2 : who = 2
  · subst h2
    rw [if_neg (by decide), if_pos rfl, show decide ((2 : Int) = 1 ∨ (2 : Int) = 2) = true by decide]
    go_enter Try.func19, Try.ntmps19
    go_wp2
    go_ret2
    exact ⟨rfl, hb.out⟩
  rw [if_neg h1, if_neg h2, show decide (who = 1 ∨ who = 2) = false by simp [h1, h2]]
  go_enter Try.func19, Try.ntmps19
  go_wp2
  go_ret2
  exact ⟨rfl, hb.out⟩
/-- a number that fits -/
abbrev wf64 (x : Int) : Prop := (Lit.int .i64 x).wf = true
/-- a map that has these numbers, and no others -/
def MapAt (W : World) (b n : Nat) (ids : List Int) : Prop :=
  ∃ D : DataW Unit, W.ownsMap Try.prog 3 unitElem b n D ∧ ∀ i : Int, Maps.has D (.int .i64 i) = decide (i ∈ ids)
theorem MapAt.made (W : World) : MapAt (W.alloc (.map #[] 0)) W.heap.size 0 [] := ⟨.map [], World.ownsMap_made W Try.prog 3 _, fun _ => rfl⟩
theorem MapAt.keep {W W' : World} {b n : Nat} {ids : List Int} (h : MapAt W b n ids) (hb : W'.heap[b]? = W.heap[b]?) : MapAt W' b n ids := by
  obtain ⟨D, ⟨es, clock, h1, h2⟩, h3⟩ := h
  exact ⟨D, ⟨es, clock, hb.trans h1, h2⟩, h3⟩
theorem MapAt.lt {W : World} {b n : Nat} {ids : List Int} (h : MapAt W b n ids) : b < W.heap.size := by
  obtain ⟨D, h1, _⟩ := h
  exact h1.lt
theorem MapAt.look {W : World} {b n : Nat} {ids : List Int} (h : MapAt W b n ids) {i : Int} (hi : wf64 i) :
    (Instr.lookup 40 (.map (some b)) (.int .i64 i) true).run Try.prog W = .ok (.tuple #[.agg #[], .bool (decide (i ∈ ids))]) W := by
  obtain ⟨D, h1, h4⟩ := h
  obtain ⟨v, ps, hrun, hv⟩ := h1.look_ok (Maps.int_keyed Try.underlying3) Try.underlying40 (Try.zeroValue44 W) unitElem_mk (Maps.keyOf_int_mk Try.underlying3 hi)
  obtain ⟨rfl, -⟩ := unitElem_inv hv
  rw [hrun, h4]
theorem MapAt.put {W : World} {b n : Nat} {ids : List Int} (h : MapAt W b n ids) {i : Int} (hi : wf64 i) (hl : n ≤ 10000) :
    ∃ w', (Instr.mapUpdate 40 (.map (some b)) (.int .i64 i) (.agg #[])).run Try.prog W = .ok () w' ∧ MapAt w' b (n + 1) (i :: ids) ∧ W.grownBy w' (some b) := by
  obtain ⟨D, h1, h4⟩ := h
  obtain ⟨w', hrun, ho, hg⟩ := h1.update (val := .agg #[]) (d := .agg []) (ps := []) (Maps.int_keyed Try.underlying3) Try.underlying40 (by unfold maxLen; omega) (Maps.keyOf_int_mk Try.underlying3 hi) unitElem_mk
  have hm := h1.isMap
  refine ⟨w', hrun, ⟨_, ho, fun j => ?_⟩, hg⟩
  by_cases e : j = i
  · subst e
    rw [Maps.has_put_same hm (by trivial)]
    simp
  · rw [Maps.has_put_other (fun q => e (by injection q)), h4 j]
    simp [e]
end Go.Proofs.Ytggmnjnigmbooaa
