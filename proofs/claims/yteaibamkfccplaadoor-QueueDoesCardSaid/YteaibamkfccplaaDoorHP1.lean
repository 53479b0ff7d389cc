/- Whether no transaction is there twice, and each may be. -/
import Derived.Test.YteaibamkfccplaaDoorHE3
import Derived.Maps.OwnSet
import Derived.Maps.Views
import Derived.Maps.Keyed
namespace Go.Proofs.YteaibamkfccplaaDoor.Hs
open Go Go.RowKit Go.Shelf

/-- a number that fits -/
abbrev wf64 (x : Int) : Prop := (Lit.int .i64 x).wf = true
def RE (_ : Value) : Option (DataW Unit × List MemPlace) := some (.agg [], [])
/-- a map that has these numbers, and no others -/
def MapAt (W : World) (b n : Nat) (ids : List Int) : Prop :=
  ∃ D : DataW Unit, W.ownsMap Tryd.prog 3 RE b n D ∧ Maps.size D = ids.length ∧ ∀ i : Int, Maps.has D (.int .i64 i) = decide (i ∈ ids)
@[go_sem] theorem mk51 (W : World) (n : Int) : (Instr.makeMap 98 (some (.int .i64 n))).run Tryd.prog W = .ok (.map (some W.heap.size)) (W.alloc (.map #[] 0)) := by
  simp [Instr.makeMap, run_underlying Tryd.underlying98, asInt, asIntOf, newObj]
  rfl
theorem MapAt.made (W : World) : MapAt (W.alloc (.map #[] 0)) W.heap.size 0 [] := ⟨.map [], World.ownsMap_made W Tryd.prog 3 _, rfl, fun _ => rfl⟩
theorem MapAt.keep {W W' : World} {b n : Nat} {ids : List Int} (h : MapAt W b n ids) (hb : W'.heap[b]? = W.heap[b]?) : MapAt W' b n ids := by
  obtain ⟨D, ⟨es, clock, h1, h2⟩, h3⟩ := h
  exact ⟨D, ⟨es, clock, hb.trans h1, h2⟩, h3⟩
theorem MapAt.lt {W : World} {b n : Nat} {ids : List Int} (h : MapAt W b n ids) : b < W.heap.size := by
  obtain ⟨D, h1, _⟩ := h
  exact h1.lt
theorem MapAt.put {W : World} {b n : Nat} {ids : List Int} (h : MapAt W b n ids) {i : Int} (hi : wf64 i) (hl : n ≤ 10000) :
    ∃ w', (Instr.mapUpdate 98 (.map (some b)) (.int .i64 i) (.agg #[])).run Tryd.prog W = .ok () w' ∧ MapAt w' b (n + 1) (if i ∈ ids then ids else i :: ids) ∧ W.grownBy w' (some b) := by
  obtain ⟨D, h1, h3, h4⟩ := h
  obtain ⟨w', hrun, ho, hg⟩ := h1.update (val := .agg #[]) (d := .agg []) (ps := []) (Maps.int_keyed Tryd.underlying3) Tryd.underlying98 (by unfold maxLen; omega) (Maps.keyOf_int_mk Tryd.underlying3 hi) rfl
  have hm := h1.isMap
  have ht := h1.tidy (Maps.int_keyed Tryd.underlying3)
  refine ⟨w', hrun, ⟨_, ho, ?_, fun j => ?_⟩, hg⟩
  · rw [Maps.size_put ht, h4 i]
    by_cases hn : i ∈ ids <;> simp [hn, h3]
  · by_cases e : j = i
    · subst e
      rw [Maps.has_put_same hm (by trivial)]
      by_cases hn : j ∈ ids <;> simp [hn]
    · rw [Maps.has_put_other (fun q => e (by injection q)), h4 j]
      by_cases hn : i ∈ ids <;> simp [hn, e]
theorem MapAt.len {W : World} {b n : Nat} {ids : List Int} (h : MapAt W b n ids) (ty : TypeId) : (Builtin.len_ #[98] ty #[.map (some b)]).run Tryd.prog W = .ok (.int .i64 ids.length) W := by
  obtain ⟨D, h1, h3, _⟩ := h
  rw [h1.len Tryd.underlying98 ty, h3]
/-- which numbers have been seen -/
structure Seen (xs : List Hd) (k : Nat) (ids : List Int) : Prop where
  mem : ∀ i, i ∈ ids ↔ i ∈ (xs.take k).map (·.1)
  le : ids.length ≤ k
  all : ids.length = k ↔ ((xs.take k).map (·.1)).Nodup
theorem Seen.start (xs : List Hd) : Seen xs 0 [] := ⟨by simp, Nat.le_refl _, by simp⟩
theorem Seen.next {xs : List Hd} {k : Nat} {ids : List Int} (h : Seen xs k ids) (hk : k < xs.length) : Seen xs (k + 1) (if xs[k].1 ∈ ids then ids else xs[k].1 :: ids) := by
  have e : (xs.take (k + 1)).map (·.1) = (xs.take k).map (·.1) ++ [xs[k].1] := by rw [List.take_succ_eq_append_getElem hk, List.map_append]; rfl
  have hle := h.le
  have hm := h.mem xs[k].1
  by_cases hn : xs[k].1 ∈ ids
  · rw [if_pos hn]
    refine ⟨fun i => ?_, by omega, ?_⟩
    · rw [e, List.mem_append, ← h.mem i]
      constructor
      · exact .inl
      · rintro (hi | hi)
        · exact hi
        · rw [List.mem_singleton.1 hi]; exact hn
    · rw [e]
      constructor
      · intro hl; omega
      · intro hd
        have := (List.nodup_append.1 hd).2.2 _ (hm.1 hn) _ (List.mem_singleton.2 rfl)
        exact absurd rfl this
  · rw [if_neg hn]
    refine ⟨fun i => ?_, by simp; omega, ?_⟩
    · rw [e, List.mem_append, List.mem_cons, ← h.mem i, List.mem_singleton]
      exact Or.comm
    · rw [e, List.length_cons, List.nodup_append]
      constructor
      · intro hl
        refine ⟨h.all.1 (by omega), by simp, ?_⟩
        intro a ha b hb hab
        rw [List.mem_singleton.1 hb] at hab
        subst hab
        exact hn (hm.2 ha)
      · rintro ⟨hd, -, -⟩
        have := h.all.2 hd
        omega
/-- whether no number is there twice -/
def onceB (xs : List Hd) : Bool := decide ((xs.map (·.1)).Nodup)
/-- whether each may be and is there once -/
def apartB (xs : List Hd) : Bool := xs.all (fun x => decide (1 ≤ x.1)) && onceB xs
theorem apartB_not {xs : List Hd} {k : Nat} (hk : k < xs.length) (h : xs[k].1 < 1) : apartB xs = false := by
  unfold apartB
  have : xs.all (fun x => decide (1 ≤ x.1)) = false := by
    rw [List.all_eq_false]
    exact ⟨_, List.getElem_mem hk, by simp; omega⟩
  rw [this]
  rfl
theorem apartB_yes {xs : List Hd} (h : ∀ i (h : i < xs.length), 1 ≤ xs[i].1) : apartB xs = onceB xs := by
  unfold apartB
  have : xs.all (fun x => decide (1 ≤ x.1)) = true := by
    rw [List.all_eq_true]
    intro x hx
    obtain ⟨i, hi, rfl⟩ := List.getElem_of_mem hx
    simpa using h i hi
  rw [this]
  rfl
section
variable {W W' : World} {A : Option Addr} {c : Nat} {xs : List Hd}
set_option maxHeartbeats 1000000 in
theorem apart_any (h : Ls W A c xs) (hw : ∀ x ∈ xs, wf64 x.1) (hl : xs.length ≤ 5000) : Calls Tryd.prog 51 #[.slice A xs.length c] W fun e w' => e = .returned (.bool (apartB xs)) ∧ Below W.heap.size W w' := by
  have H := Lib.hid h
  have HW := Lib.hid hw
  clear h hw
  obtain ⟨n, hn⟩ : ∃ n, xs.length = n := ⟨_, rfl⟩
  rw [hn] at hl ⊢
  have HN := Lib.hid hn
  clear hn
  have hm0 := Lib.hid (MapAt.made W)
  have hb0 := Lib.hid (box_below W (.map #[] 0))
  go_enter Tryd.func51, Tryd.ntmps51
  go_wp2
  go_loopw [11] (fun t wr => ∃ k : Nat, k ≤ n ∧ t = .int .i64 k ∧ (∀ i (_ : i < k) (h : i < xs.length), 1 ≤ xs[i].1) ∧ ∃ ids, Seen xs k ids ∧ MapAt wr W.heap.size k ids ∧ Below W.heap.size W wr) (fun t _ => n - (intOf t).toNat)
  case atStart => exact ⟨0, by omega, rfl, fun i hi => by omega, [], Seen.start _, hm0.out, hb0.out⟩
  case round =>
    obtain ⟨k, hk, rfl, hall, ids, hs, hm, hb⟩ := hrel
    have HA := Lib.hid hall
    clear hall
    by_cases hlt : k < n
    · have hlt' : k < xs.length := by rw [HN.out]; exact hlt
      obtain ⟨a, rfl, hh⟩ := (H.out.below hb).here hlt'
      have HS := Lib.hid (hs.next hlt')
      have hwx := HW.out _ (List.getElem_mem hlt')
      have HX := Lib.hid (show ∃ x, xs[k] = x from ⟨_, rfl⟩)
      obtain ⟨x, hx0⟩ := HX.out
      have HX0 := Lib.hid hx0
      rw [hx0] at hh HS hwx
      clear hx0 HX
      obtain ⟨t, m⟩ := x
      obtain ⟨c0, c1⟩ := hh
      simp only at c0 c1 HS hwx
      have hx := box_below wr (.cells #[.int .i64 t, .int .i64 m] 76)
      by_cases ht : t < 1
      · have HE := Lib.hid (apartB_not hlt' (by rw [HX0.out]; exact ht))
        have HB := Lib.hid (hb.trans (hx.mono hb.size))
        clear hm hb hx hwx hs
        go_wp2
        go_ret
        exact ⟨by rw [HE.out]; rfl, HB.out⟩
      · have hmx := hm.keep (hx.block _ hm.lt)
        obtain ⟨w', hput, hm', hg⟩ := hmx.put hwx (by omega)
        have HM := Lib.hid hm'
        have HB := Lib.hid ((hb.trans (hx.mono hb.size)).trans (OnlyS.below (S := fun j => j = W.heap.size) ((OnlyS.refl _ _).grown hg (fun j hj => .inl (by simpa using hj.symm))) (fun j hj => by omega) (Nat.le_trans hb.size hx.size)))
        have HH := Lib.hid (show ∀ i (_ : i < k + 1) (h : i < xs.length), 1 ≤ xs[i].1 from fun i hi h => by
          rcases Nat.lt_or_ge i k with h' | h'
          · exact HA.out i h' h
          · obtain rfl : i = k := by omega
            rw [HX0.out]
            omega)
        generalize W.heap.size = Bm at *
        clear hm hm' hmx hb hx hg hwx hs
        go_wp2
        go_roundw
        case rel => exact ⟨k + 1, by omega, by go_num, HH.out, _, HS.out, HM.out, HB.out⟩
        case measure => simp [intOf]; omega
    · obtain rfl : k = n := by omega
      have hlen := fun ty => hm.len ty
      have hil := hs.le
      have HE := Lib.hid (show apartB xs = decide (ids.length = k) by
        rw [apartB_yes (fun i hi => HA.out i (by have := HN.out; omega) hi)]
        unfold onceB
        have := hs.all
        rw [List.take_of_length_le (Nat.le_of_eq HN.out)] at this
        rw [decide_eq_decide]
        exact this.symm)
      have HB := Lib.hid hb
      generalize ids.length = q at *
      clear hm hb hs
      go_wp2
      go_ret
      refine ⟨?_, HB.out⟩
      rw [HE.out]
      change Ending.returned (.bool ((q : Int) == (k : Int))) = _
      by_cases e : q = k
      · simp [e]
      · have e' : ¬ (q : Int) = (k : Int) := by omega
        simp [e, e']
end
end Go.Proofs.YteaibamkfccplaaDoor.Hs
