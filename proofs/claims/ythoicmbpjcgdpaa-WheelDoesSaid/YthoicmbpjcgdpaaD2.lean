/- Stores into a row's own block. -/
import Derived.Test.YthoicmbpjcgdpaaD1
namespace Go.Proofs.Ythoicmbpjcgdpaa
open Go Go.RowKit Go.Shelf

/-- of what there was only these blocks may have changed -/
structure OnlyS (S : Nat → Prop) (w w' : World) : Prop where
  os : w'.os = w.os
  tape : w'.tape = w.tape
  output : w'.output = w.output
  size : w.heap.size ≤ w'.heap.size
  block : ∀ k, k < w.heap.size → ¬ S k → w'.heap[k]? = w.heap[k]?
theorem OnlyS.refl (S : Nat → Prop) (w : World) : OnlyS S w w := ⟨rfl, rfl, rfl, Nat.le_refl _, fun _ _ _ => rfl⟩
theorem OnlyS.trans {S : Nat → Prop} {a b c : World} (h : OnlyS S a b) (k : OnlyS S b c) : OnlyS S a c :=
  ⟨k.os.trans h.os, k.tape.trans h.tape, k.output.trans h.output, Nat.le_trans h.size k.size, fun i hi hn => (k.block i (Nat.lt_of_lt_of_le hi h.size) hn).trans (h.block i hi hn)⟩
theorem OnlyS.of_below {S : Nat → Prop} {a b : World} (h : Below a.heap.size a b) : OnlyS S a b := ⟨h.os, h.tape, h.output, h.size, fun k hk _ => h.block k hk⟩
theorem OnlyS.mono {S T : Nat → Prop} {a b : World} (h : OnlyS S a b) (hst : ∀ k, k < a.heap.size → S k → T k) : OnlyS T a b :=
  ⟨h.os, h.tape, h.output, h.size, fun k hk hn => h.block k hk (fun hs => hn (hst k hk hs))⟩
theorem OnlyS.below {S : Nat → Prop} {B : Nat} {a b : World} (h : OnlyS S a b) (hS : ∀ k, S k → B ≤ k) (hB : B ≤ a.heap.size) : Below B a b :=
  ⟨h.os, h.tape, h.output, h.size, fun k hk => h.block k (by omega) (fun hs => by have := hS k hs; omega)⟩
theorem OnlyS.set (b o : Nat) (w : World) (u : Value) : OnlyS (· = b) w (w.setCell ⟨b, o, none⟩ u) :=
  ⟨rfl, rfl, rfl, by simp [World.setCell], fun i _ hne => Below.heap_setCell w ⟨b, o, none⟩ u i hne⟩

theorem set_blk {W : World} {g o : Nat} {cur : Array Value} {t : TypeId} {fr : Nat × Nat} (v : Value) (h : W.heap[g]? = some (.cells cur t fr)) : (W.setCell ⟨g, o, none⟩ v).heap[g]? = some (.cells (cur.setIfInBounds o v) t fr) := by
  obtain ⟨hlt, hk⟩ := Array.getElem?_eq_some_iff.1 h
  show (W.heap.modify g _)[g]? = _
  rw [Array.getElem?_eq_getElem (by rw [Array.size_modify]; exact hlt), Array.getElem_modify_self, hk]
  rfl
theorem sets_blk {t : TypeId} {fr : Nat × Nat} {g : Nat} : ∀ (vs : List Value) (W : World) (o : Nat) (cur : Array Value), W.heap[g]? = some (.cells cur t fr) →
    ∃ cur', (W.setCells g o vs).heap[g]? = some (.cells cur' t fr) ∧ cur'.size = cur.size ∧ (∀ k, k < o → cur'[k]? = cur[k]?) ∧ OnlyS (· = g) W (W.setCells g o vs)
  | [], W, o, cur, h => ⟨cur, h, rfl, fun _ _ => rfl, OnlyS.refl _ _⟩
  | v :: vs, W, o, cur, h => by
    obtain ⟨cur', h1, h2, h3, h4⟩ := sets_blk vs (W.setCell ⟨g, o, none⟩ v) (o + 1) _ (set_blk (o := o) v h)
    refine ⟨cur', h1, by simpa using h2, fun k hk => ?_, (OnlyS.set g o W v).trans h4⟩
    rw [h3 k (by omega), Array.getElem?_setIfInBounds_ne (by omega)]
theorem flat_set (zs : List Al) (i : Nat) (x : Al) (h : i < zs.length) : flat (zs.set i x) = ((flat zs).set (i * 2) (.int .i64 x.1)).set (i * 2 + 1) (.int .i64 x.2) := by
  induction zs generalizing i with
  | nil => simp at h
  | cons z zs ih =>
    have e : ∀ (y : Al) (ys : List Al), flat (y :: ys) = .int .i64 y.1 :: .int .i64 y.2 :: flat ys := fun y ys => by simp [flat]
    cases i with
    | zero => simp [e]
    | succ i =>
      have h' : i < zs.length := by simpa using h
      rw [List.set_cons_succ, e, e, ih i h', show (i + 1) * 2 = i * 2 + 1 + 1 by omega]
      simp
theorem row_set {W : World} {base g n cap : Nat} {zs : List Al} (h : Row W base (.slice (some ⟨g, 0, none⟩) n cap) zs) (x : Al) {i : Nat} (hi : i < zs.length) :
    Row ((W.setCell ⟨g, i * 2, none⟩ (.int .i64 x.1)).setCell ⟨g, i * 2 + 1, none⟩ (.int .i64 x.2)) base (.slice (some ⟨g, 0, none⟩) n cap) (zs.set i x) := by
  rcases h.2 with ⟨h0, _⟩ | ⟨g', cap', cur, e, hb, hg, h1, h2, h3, h4⟩
  · cases h0
  · cases e
    refine ⟨flat_length _, .inr ⟨g, cap, _, by simp, hb, set_blk _ (set_blk _ hg), by simpa using h1, h2, by simpa using h3, ?_⟩⟩
    rw [flat_set _ _ _ hi, ← h4]
    simp [List.take_set]
/-- a shorter slice of the same row, whatever stands behind -/
theorem row_cut {W W' : World} {base g n cap i : Nat} {zs : List Al} (h : Row W base (.slice (some ⟨g, 0, none⟩) n cap) zs) (hi : i ≤ zs.length)
    (hg' : ∀ cur, W.heap[g]? = some (.cells cur 31 (0, 0)) → ∃ cur', W'.heap[g]? = some (.cells cur' 31 (0, 0)) ∧ cur'.size = cur.size ∧ ∀ k, k < i * 2 → cur'[k]? = cur[k]?) :
    Row W' base (.slice (some ⟨g, 0, none⟩) i cap) (zs.take i) := by
  rcases h.2 with ⟨h0, _⟩ | ⟨g', cap', cur, e, hb, hg, h1, h2, h3, h4⟩
  · cases h0
  · cases e
    obtain ⟨cur', k1, k2, k3⟩ := hg' cur hg
    have hl : (zs.take i).length = i := by rw [List.length_take]; omega
    refine ⟨flat_length _, .inr ⟨g, cap, cur', by rw [hl], hb, k1, by omega, h2, by omega, ?_⟩⟩
    rw [hl]
    have e1 : flat (zs.take i) = (flat zs).take (i * 2) := by
      have e2 : flat zs = flat (zs.take i) ++ flat (zs.drop i) := by rw [← flat_append, List.take_append_drop]
      rw [e2, List.take_left' (by rw [flat_length, hl])]
    rw [e1, ← h4, List.take_take]
    apply List.ext_getElem?
    intro k
    rw [List.getElem?_take, List.getElem?_take]
    by_cases hk : k < i * 2
    · rw [if_pos hk, if_pos (by omega), Array.getElem?_toList, Array.getElem?_toList, k3 k hk]
    · rw [if_neg hk, if_neg (by omega)]
/-- 'clear(s)' of a slice of alarms -/
theorem run_clear_al (w : World) (ty : TypeId) (b o n c : Nat) (hn : 0 < n) (hc : ∀ j, j < n * 2 → (w.cell? ⟨b, o + j, none⟩).isSome = true) (hf : ∀ j, j < n * 2 → w.frozen? ⟨b, o + j, none⟩ = false) :
    (Builtin.clear_ #[27] ty #[.slice (some ⟨b, o, none⟩) n c]).run Try.prog w = .ok (.tuple #[]) (w.setCells b o (List.replicate (n * 2) (.int .i64 0))) := by
  have hzc : (Builtin.zeroCells (Value.agg #[.int .i64 0, .int .i64 0]).cells n).toList = List.replicate (n * 2) (.int .i64 0) := by
    simp [Builtin.zeroCells, Value.cells]
    apply List.ext_getElem
    · simp
    · intro i h1 h2
      simp at h1
      rcases Nat.mod_two_eq_zero_or_one i with hm | hm <;> simp [hm]
  have hst := run_storeCells_cells (P := Try.prog) b o (List.replicate (n * 2) (.int .i64 0)) 0 w (by simpa using hc) (by simpa using hf) (by intro v hv'; rw [List.eq_of_mem_replicate hv']; rfl)
  simp only [Nat.add_zero] at hst
  obtain ⟨m, rfl⟩ : ∃ m, n = m + 1 := ⟨n - 1, by omega⟩
  simp [Builtin.clear_, run_underlying Try.underlying27, Try.zeroValue31, hzc, hst]
end Go.Proofs.Ythoicmbpjcgdpaa
