/- A wheel in memory: its slots, each with a row of alarms of its own; whether it was made, a time's slot, and its making. -/
import Derived.Test.YthoicmbpjcgdpaaS0
import Derived.Test.YthoicmbpjcgdpaaR1
import Derived.Laws.AppendOwn
namespace Go.Proofs.Ythoicmbpjcgdpaa
open Go Go.RowKit

/-- the cells of a row of alarms -/
def flat (xs : List Al) : List Value := xs.flatMap fun x => [.int .i64 x.1, .int .i64 x.2]
theorem flat_length (xs : List Al) : (flat xs).length = xs.length * 2 := by
  induction xs with
  | nil => rfl
  | cons x xs ih => unfold flat at *; simp [ih]; omega
theorem flat_snoc (xs : List Al) (x : Al) : flat (xs ++ [x]) = flat xs ++ [.int .i64 x.1, .int .i64 x.2] := by simp [flat]
theorem flat_append (xs ys : List Al) : flat (xs ++ ys) = flat xs ++ flat ys := by simp [flat]
theorem flat_at (xs : List Al) (i : Nat) (h : i < xs.length) : (flat xs)[i * 2]? = some (.int .i64 xs[i].1) ∧ (flat xs)[i * 2 + 1]? = some (.int .i64 xs[i].2) := by
  induction xs generalizing i with
  | nil => simp at h
  | cons x xs ih =>
    have e : flat (x :: xs) = .int .i64 x.1 :: .int .i64 x.2 :: flat xs := by simp [flat]
    cases i with
    | zero => simp [e]
    | succ i =>
      have h' : i < xs.length := by simpa using h
      obtain ⟨h1, h2⟩ := ih i h'
      rw [e, show (i + 1) * 2 = i * 2 + 1 + 1 by omega]
      simp [h1, h2]
theorem flat_one (xs : List Al) : ∀ v ∈ flat xs, v.oneCell' = true := by
  intro v hv
  simp only [flat, List.mem_flatMap] at hv
  obtain ⟨x, _, hx⟩ := hv
  simp at hx
  rcases hx with rfl | rfl <;> rfl

/-- a slice of its own memory that has these alarms -/
abbrev Row (W : World) (base : Nat) (v : Value) (xs : List Al) : Prop := W.ownsRow base 31 2 v xs.length (flat xs)

theorem Row.keep {W W' : World} {base : Nat} {v : Value} {xs : List Al} (h : Row W base v xs) (hk : ∀ g, v.ownBlock = some g → W'.heap[g]? = W.heap[g]?) : Row W' base v xs := by
  refine ⟨h.1, ?_⟩
  rcases h.2 with h0 | ⟨g, cap, cur, rfl, hb, hg, h1, h2, h3, h4⟩
  · exact .inl h0
  · exact .inr ⟨g, cap, cur, rfl, hb, (hk g rfl).trans hg, h1, h2, h3, h4⟩
theorem Row.base {W : World} {base base' : Nat} {v : Value} {xs : List Al} (h : Row W base v xs) (hb : base' ≤ base) : Row W base' v xs := by
  refine ⟨h.1, ?_⟩
  rcases h.2 with h0 | ⟨g, cap, cur, rfl, hb', hg, h1, h2, h3, h4⟩
  · exact .inl h0
  · exact .inr ⟨g, cap, cur, rfl, by omega, hg, h1, h2, h3, h4⟩

/-- a wheel lies in a block: how many slots are used, and each of these with its row -/
structure WheelAt (W : World) (b u : Nat) (ss : Nat → List Al) (vs : Nat → Value) : Prop where
  u1 : 1 ≤ u
  u64 : u ≤ 64
  used : W.cell? ⟨b, 64, none⟩ = some (.int .i64 u)
  lt : b < W.heap.size
  cell : ∀ i, i < u → W.cell? ⟨b, i, none⟩ = some (vs i)
  free : ∀ i, i < u → W.frozen? ⟨b, i, none⟩ = false
  row : ∀ i, i < u → Row W (b + 1) (vs i) (ss i)
  apart : ∀ i j g, i < u → j < u → (vs i).ownBlock = some g → (vs j).ownBlock = some g → i = j

abbrev wp (b : Nat) : Value := .pointer (some ⟨b, 0, none⟩)

theorem made_yes {W : World} {b u : Nat} (hu : W.cell? ⟨b, 64, none⟩ = some (.int .i64 u)) (h1 : 1 ≤ u) :
    Calls Try.prog 20 #[wp b] W fun e w' => e = .returned (.bool true) ∧ W = w' := by
  have h : 0 < u := h1
  go_enter Try.func20, Try.ntmps20
  go_wp2
  go_ret
  exact ⟨by simp, rfl⟩
theorem made_no (W : World) : Calls Try.prog 20 #[.pointer none] W fun e w' => e = .returned (.bool false) ∧ W = w' := by
  go_enter Try.func20, Try.ntmps20
  go_wp2
  go_ret
  exact ⟨rfl, rfl⟩
theorem slot_any {W : World} {b u : Nat} (at' : Int) (hu : W.cell? ⟨b, 64, none⟩ = some (.int .i64 u)) (h1 : 1 ≤ u) (h2 : u ≤ 64) (h0 : 0 ≤ at') :
    Calls Try.prog 22 #[wp b, .int .i64 at'] W fun e w' => e = .returned (.pointer (some ⟨b, (at' % u).toNat, none⟩)) ∧ ∃ k, w' = W.drewN k := by
  obtain ⟨m, hm⟩ : ∃ m : Nat, at' % (u : Int) = m := ⟨(at' % u).toNat, by have := Int.emod_nonneg at' (show (u : Int) ≠ 0 by omega); omega⟩
  have hm2 : (m : Int) < u := by rw [← hm]; exact Int.emod_lt_of_pos _ (by omega)
  have HM := Lib.hid hm
  have e1 : at'.tmod (u : Int) = m := by rw [Int.tmod_eq_emod_of_nonneg h0]; exact hm
  have e2 : IntKind.i64.wrap (m : Int) = m := IntWalk.i64_in _ (by omega)
  have e3 : ((u : Int) == 0) = false := by simp; omega
  have e4 : ¬ (u = 0) := by omega
  have e5 : (m : Int) < 64 := by omega
  have e6 : m < 64 := by omega
  clear hm hm2
  go_enter Try.func22, Try.ntmps22
  go_wp2
  go_quiet (fail)
  go_wp2
  go_ret
  exact ⟨by rw [HM.out]; rfl, _, rfl⟩
def cnt (n : Int) : Nat := if n < 1 then 1 else if 64 < n then 64 else n.toNat
/-- a wheel's cells: no rows, and how many slots are used -/
def wc (v : Value) : Array Value := (Array.replicate 64 (.slice none 0 0)).push v
theorem zero51 (w : World) : Sem.run Try.prog (zeroValue 51) w = .ok (.agg (wc (.int .i64 0))) w := by kernel_rfl
theorem wc_size (v : Value) : (wc v).size = 65 := by simp [wc]
theorem wc_set (v v' : Value) : (wc v).setIfInBounds 64 v' = wc v' := by
  unfold wc
  apply Array.ext
  · simp
  · intro i h1 h2
    simp at h1
    rw [Array.getElem_setIfInBounds (by simpa using h1)]
    by_cases h : i = 64
    · subst h; simp [Array.getElem_push]
    · rw [if_neg (by omega), Array.getElem_push_lt (by simp; omega), Array.getElem_push_lt (by simp; omega)]
theorem blk_cell {W : World} {b i : Nat} {c : Array Value} {t : TypeId} (h : W.heap[b]? = some (.cells c t (0, 0))) : W.cell? ⟨b, i, none⟩ = c[i]? ∧ W.frozen? ⟨b, i, none⟩ = false := by
  constructor
  · simp [World.cell?, h]
  · simp [World.frozen?, h]
theorem wc_new (W : World) (v : Value) (u : Nat) (hv : v = .int .i64 u) (h1 : 1 ≤ u) (h2 : u ≤ 64) : WheelAt (W.alloc (.cells (wc v) 51)) W.heap.size u (fun _ => []) (fun _ => .slice none 0 0) := by
  subst hv
  have hg := World.alloc_heap_new W (.cells (wc (.int .i64 u)) 51)
  have hlt : W.heap.size < (W.alloc (.cells (wc (.int .i64 u)) 51)).heap.size := by simp
  generalize W.alloc (.cells (wc (.int .i64 u)) 51) = W' at hg hlt ⊢
  refine ⟨h1, h2, ?_, hlt, fun i hi => ?_, fun i hi => ?_, fun i hi => World.ownsRow_nil _ _ _ _, fun i j g _ _ h => by simp [Value.ownBlock] at h⟩
  · rw [(blk_cell hg).1, wc, Array.getElem?_push, if_pos (by rw [Array.size_replicate])]
  · rw [(blk_cell hg).1, wc, Array.getElem?_push, if_neg (by rw [Array.size_replicate]; omega), Array.getElem?_replicate, if_pos (by omega)]
  · exact (blk_cell hg).2
theorem box_below (w : World) (o : Obj) : Below w.heap.size w (w.alloc o) := (Below.refl _ _).alloc (Nat.le_refl _) _
set_option maxRecDepth 100000 in
set_option maxHeartbeats 1000000 in
theorem new_any (n : Int) (W : World) : Calls Try.prog 8 #[.int .i64 n] W fun e w' => e = .returned (wp W.heap.size) ∧ WheelAt w' W.heap.size (cnt n) (fun _ => []) (fun _ => .slice none 0 0) ∧ Below W.heap.size W w' := by
  have z := zero51
  have z2 := wc_size
  have z3 := wc_set
  by_cases h0 : n < 1
  · have H := Lib.hid (show cnt n = 1 by unfold cnt; rw [if_pos h0])
    go_enter Try.func8, Try.ntmps8
    go_wp2
    go_ret
    exact ⟨rfl, by rw [H.out]; exact wc_new _ _ 1 rfl (by omega) (by omega), box_below _ _⟩
  · by_cases h1 : 64 < n
    · have H := Lib.hid (show cnt n = 64 by unfold cnt; rw [if_neg h0, if_pos h1])
      go_enter Try.func8, Try.ntmps8
      go_wp2
      go_ret
      exact ⟨rfl, by rw [H.out]; exact wc_new _ _ 64 rfl (by omega) (by omega), box_below _ _⟩
    · have H := Lib.hid (show cnt n = n.toNat by unfold cnt; rw [if_neg h0, if_neg h1])
      go_enter Try.func8, Try.ntmps8
      go_wp2
      go_ret
      exact ⟨rfl, by rw [H.out]; exact wc_new _ _ n.toNat (by rw [Int.toNat_of_nonneg (by omega)]) (by omega) (by omega), box_below _ _⟩
end Go.Proofs.Ythoicmbpjcgdpaa
