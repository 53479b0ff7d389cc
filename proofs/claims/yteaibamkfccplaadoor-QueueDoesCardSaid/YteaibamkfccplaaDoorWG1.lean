/- Two lists that are alike; whether no number is there twice (by a map). -/
import Derived.Test.YteaibamkfccplaaDoorWI3
import Derived.Maps.OwnSet
import Derived.Maps.Views
import Derived.Maps.Keyed
namespace Go.Proofs.YteaibamkfccplaaDoor.Ws
open Go Go.RowKit Go.Shelf

set_option maxRecDepth 100000 in
@[go_sem ↓] theorem eq24 (n : Nat) (w : World) (x y : Int) (a b : Bool) :
    (Op.equalIn (n + 3) 60 (.agg #[.int .i64 x, .int .i64 y, .bool a, .bool b]) (.agg #[.int .i64 x, .int .i64 y, .bool a, .bool b])).run Tryd.prog w = .ok true w := by
  rw [run_equalIn_struct w (n + 2) 60 _ _ (by kernel_rfl) (by kernel_rfl)]
  simp [go_sem, run_equalIn_int (h := Tryd.underlying3)]
section
variable {W W' : World} {A1 A2 : Option Addr} {c1 c2 : Nat} {xs : List Wt}
set_option maxHeartbeats 1000000 in
theorem same_any (h1 : Ls W A1 c1 xs) (h2 : Ls W A2 c2 xs) (hl : xs.length ≤ 5000) : Calls Tryd.prog 14 #[.slice A1 xs.length c1, .slice A2 xs.length c2] W fun e w' => e = .returned (.bool true) ∧ Below W.heap.size W w' := by
  have H1 := Lib.hid h1
  have H2 := Lib.hid h2
  clear h1 h2
  obtain ⟨n, hn⟩ : ∃ n, xs.length = n := ⟨_, rfl⟩
  rw [hn] at hl ⊢
  have HN := Lib.hid hn
  clear hn
  go_enter Tryd.func14, Tryd.ntmps14
  go_wp2
  go_loopw [13] (fun t wr => ∃ k : Nat, k ≤ n ∧ t = .int .i64 k ∧ ∃ j, wr = W.drewN j) (fun t _ => n - (intOf t).toNat)
  case atStart => exact ⟨0, by omega, rfl, 0, rfl⟩
  case round =>
    obtain ⟨k, hk, rfl, j, rfl⟩ := hrel
    by_cases hlt : k < n
    · have hlt' : k < xs.length := by rw [HN.out]; exact hlt
      obtain ⟨g1, rfl, e1⟩ := (H1.out.drewN j).here hlt'
      obtain ⟨g2, rfl, e2⟩ := (H2.out.drewN j).here hlt'
      generalize xs[k] = x at e1 e2
      obtain ⟨t, m, cv, ii⟩ := x
      obtain ⟨a0, a1, a2, a3⟩ := e1
      obtain ⟨b0, b1, b2, b3⟩ := e2
      simp only at a0 a1 a2 a3 b0 b1 b2 b3
      generalize hX : W.drewN j = X at a0 a1 a2 a3 b0 b1 b2 b3 ⊢
      have HX := Lib.hid hX
      clear hX hlt'
      go_wp2
      go_quiet (fail)
      have HE := Lib.hid (show X.drewN nq = W.drewN (j + nq) by rw [← HX.out]; simp [World.drewN]; omega)
      generalize X.drewN nq = Y at HE ⊢
      clear a0 a1 a2 a3 b0 b1 b2 b3
      go_wp2
      go_roundw
      case rel => exact ⟨k + 1, by omega, by go_num, j + nq, HE.out⟩
      case measure => simp [intOf]; omega
    · obtain rfl : k = n := by omega
      go_wp2
      go_ret
      exact ⟨rfl, drew_below W j⟩
end
/-- a number that fits -/
abbrev wf64 (x : Int) : Prop := (Lit.int .i64 x).wf = true
def RE (_ : Value) : Option (DataW Unit × List MemPlace) := some (.agg [], [])
/-- a map that has these numbers, and no others -/
def MapAt (W : World) (b n : Nat) (ids : List Int) : Prop :=
  ∃ D : DataW Unit, W.ownsMap Tryd.prog 3 RE b n D ∧ Maps.size D = ids.length ∧ ∀ i : Int, Maps.has D (.int .i64 i) = decide (i ∈ ids)
@[go_sem] theorem mk58 (W : World) (n : Int) : (Instr.makeMap 98 (some (.int .i64 n))).run Tryd.prog W = .ok (.map (some W.heap.size)) (W.alloc (.map #[] 0)) := by
  simp [Instr.makeMap, run_underlying Tryd.underlying98, asInt, asIntOf, newObj]
  rfl
theorem MapAt.made (W : World) : MapAt (W.alloc (.map #[] 0)) W.heap.size 0 [] := ⟨.map [], World.ownsMap_made W Tryd.prog 3 _, rfl, fun _ => rfl⟩
theorem MapAt.keep {W W' : World} {b n : Nat} {ids : List Int} (h : MapAt W b n ids) (hb : W'.heap[b]? = W.heap[b]?) : MapAt W' b n ids := by
  obtain ⟨D, ⟨es, clock, h1, h2⟩, h3⟩ := h
  exact ⟨D, ⟨es, clock, hb.trans h1, h2⟩, h3⟩
theorem MapAt.lt {W : World} {b n : Nat} {ids : List Int} (h : MapAt W b n ids) : b < W.heap.size := by
  obtain ⟨D, h1, _⟩ := h
  exact h1.lt
theorem MapAt.put {W : World} {b n : Nat} {ids : List Int} (h : MapAt W b n ids) {i : Int} (hi : wf64 i) (hl : n ≤ 10000) :
    ∃ w', (Instr.mapUpdate 98 (.map (some b)) (.int .i64 i) (.agg #[])).run Tryd.prog W = .ok () w' ∧ MapAt w' b (n + 1) (if i ∈ ids then ids else i :: ids) ∧ W.grownBy w' (some b) := by
  obtain ⟨D, h1, h3, h4⟩ := h
  obtain ⟨w', hrun, ho, hg⟩ := h1.update (val := .agg #[]) (d := .agg []) (ps := []) (Maps.int_keyed Tryd.underlying3) Tryd.underlying98 (by unfold maxLen; omega) (Maps.keyOf_int_mk Tryd.underlying3 hi) rfl
  have hm := h1.isMap
  have ht := h1.tidy (Maps.int_keyed Tryd.underlying3)
  refine ⟨w', hrun, ⟨_, ho, ?_, fun j => ?_⟩, hg⟩
  · rw [Maps.size_put ht, h4 i]
    by_cases hn : i ∈ ids <;> simp [hn, h3]
  · by_cases e : j = i
    · subst e
      rw [Maps.has_put_same hm (by trivial)]
      by_cases hn : j ∈ ids <;> simp [hn]
    · rw [Maps.has_put_other (fun q => e (by injection q)), h4 j]
      by_cases hn : i ∈ ids <;> simp [hn, e]
theorem MapAt.len {W : World} {b n : Nat} {ids : List Int} (h : MapAt W b n ids) (ty : TypeId) : (Builtin.len_ #[98] ty #[.map (some b)]).run Tryd.prog W = .ok (.int .i64 ids.length) W := by
  obtain ⟨D, h1, h3, _⟩ := h
  rw [h1.len Tryd.underlying98 ty, h3]
/-- which numbers have been seen -/
structure Seen (xs : List Wt) (k : Nat) (ids : List Int) : Prop where
  mem : ∀ i, i ∈ ids ↔ i ∈ (xs.take k).map (·.1)
  le : ids.length ≤ k
  all : ids.length = k ↔ ((xs.take k).map (·.1)).Nodup
theorem Seen.start (xs : List Wt) : Seen xs 0 [] := ⟨by simp, Nat.le_refl _, by simp⟩
theorem Seen.next {xs : List Wt} {k : Nat} {ids : List Int} (h : Seen xs k ids) (hk : k < xs.length) : Seen xs (k + 1) (if xs[k].1 ∈ ids then ids else xs[k].1 :: ids) := by
  have e : (xs.take (k + 1)).map (·.1) = (xs.take k).map (·.1) ++ [xs[k].1] := by rw [List.take_succ_eq_append_getElem hk, List.map_append]; rfl
  have hle := h.le
  have hm := h.mem xs[k].1
  by_cases hn : xs[k].1 ∈ ids
  · rw [if_pos hn]
    refine ⟨fun i => ?_, by omega, ?_⟩
    · rw [e, List.mem_append, ← h.mem i]
      constructor
      · exact .inl
      · rintro (hi | hi)
        · exact hi
        · rw [List.mem_singleton.1 hi]; exact hn
    · rw [e]
      constructor
      · intro hl; omega
      · intro hd
        have := (List.nodup_append.1 hd).2.2 _ (hm.1 hn) _ (List.mem_singleton.2 rfl)
        exact absurd rfl this
  · rw [if_neg hn]
    refine ⟨fun i => ?_, by simp; omega, ?_⟩
    · rw [e, List.mem_append, List.mem_cons, ← h.mem i, List.mem_singleton]
      exact Or.comm
    · rw [e, List.length_cons, List.nodup_append]
      constructor
      · intro hl
        refine ⟨h.all.1 (by omega), by simp, ?_⟩
        intro a ha b hb hab
        rw [List.mem_singleton.1 hb] at hab
        subst hab
        exact hn (hm.2 ha)
      · rintro ⟨hd, -, -⟩
        have := h.all.2 hd
        omega
/-- whether no number is there twice -/
def onceB (xs : List Wt) : Bool := decide ((xs.map (·.1)).Nodup)
section
variable {W W' : World} {A : Option Addr} {c : Nat} {xs : List Wt}
set_option maxHeartbeats 1000000 in
theorem once_any (h : Ls W A c xs) (hw : ∀ x ∈ xs, wf64 x.1) (hl : xs.length ≤ 5000) : Calls Tryd.prog 55 #[.slice A xs.length c] W fun e w' => e = .returned (.bool (onceB xs)) ∧ Below W.heap.size W w' := by
  have H := Lib.hid h
  have HW := Lib.hid hw
  clear h hw
  obtain ⟨n, hn⟩ : ∃ n, xs.length = n := ⟨_, rfl⟩
  rw [hn] at hl ⊢
  have HN := Lib.hid hn
  clear hn
  have hm0 := Lib.hid (MapAt.made W)
  have hb0 := Lib.hid (box_below W (.map #[] 0))
  go_enter Tryd.func55, Tryd.ntmps55
  go_wp2
  go_loopw [11] (fun t wr => ∃ k : Nat, k ≤ n ∧ t = .int .i64 k ∧ ∃ ids, Seen xs k ids ∧ MapAt wr W.heap.size k ids ∧ Below W.heap.size W wr) (fun t _ => n - (intOf t).toNat)
  case atStart => exact ⟨0, by omega, rfl, [], Seen.start _, hm0.out, hb0.out⟩
  case round =>
    obtain ⟨k, hk, rfl, ids, hs, hm, hb⟩ := hrel
    by_cases hlt : k < n
    · have hlt' : k < xs.length := by rw [HN.out]; exact hlt
      obtain ⟨a, rfl, hh⟩ := (H.out.below hb).here hlt'
      have HS := Lib.hid (hs.next hlt')
      have hwx := HW.out _ (List.getElem_mem hlt')
      generalize xs[k] = x at hh HS hwx
      obtain ⟨t, m, cv, ii⟩ := x
      obtain ⟨c0, c1, c2, c3⟩ := hh
      simp only at c0 c1 c2 c3 HS hwx
      have hx := box_below wr (.cells #[.int .i64 t, .int .i64 m, .bool cv, .bool ii] 60)
      have hmx := hm.keep (hx.block _ hm.lt)
      obtain ⟨w', hput, hm', hg⟩ := hmx.put hwx (by omega)
      have HM := Lib.hid hm'
      have HB := Lib.hid ((hb.trans (hx.mono hb.size)).trans (OnlyS.below (S := fun j => j = W.heap.size) ((OnlyS.refl _ _).grown hg (fun j hj => .inl (by simpa using hj.symm))) (fun j hj => by omega) (Nat.le_trans hb.size hx.size)))
      generalize W.heap.size = Bm at *
      clear hm hm' hmx hb hx hg hwx hs hlt'
      go_wp2
      go_roundw
      case rel => exact ⟨k + 1, by omega, by go_num, _, HS.out, HM.out, HB.out⟩
      case measure => simp [intOf]; omega
    · obtain rfl : k = n := by omega
      have hlen := fun ty => hm.len ty
      have hil := hs.le
      have HE := Lib.hid (show onceB xs = decide (ids.length = k) by
        unfold onceB
        have := hs.all
        rw [List.take_of_length_le (Nat.le_of_eq HN.out)] at this
        rw [decide_eq_decide]
        exact this.symm)
      have HB := Lib.hid hb
      generalize ids.length = q at *
      clear hm hb hs
      go_wp2
      go_ret
      refine ⟨?_, HB.out⟩
      rw [HE.out]
      change Ending.returned (.bool ((q : Int) == (k : Int))) = _
      by_cases e : q = k
      · simp [e]
      · have e' : ¬ (q : Int) = (k : Int) := by omega
        simp [e, e']
end
end Go.Proofs.YteaibamkfccplaaDoor.Ws
