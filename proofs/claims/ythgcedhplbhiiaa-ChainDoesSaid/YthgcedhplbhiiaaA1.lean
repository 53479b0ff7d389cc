/- Links in memory: nodes in one block; how many there are, whether there is a place, and whether it is in a row; where a row's head stands, and what is behind a node. -/
import Derived.Test.YthgcedhplbhiiaaR1
import Derived.Test.YthgcedhplbhiiaaM2
namespace Go.Proofs.Ythgcedhplbhiiaa
open Go Go.RowKit

/-- the nodes lie in a block -/
structure Lnk (W : World) (b g N c : Nat) (rw : Nat → Int) (pv nx : Nat → Nat) : Prop where
  c0 : W.cell? ⟨b, 0, none⟩ = some (.slice (some ⟨g, 0, none⟩) (2 * N) c)
  r0 : ∀ k, k < 2 * N → W.cell? ⟨g, k * 3, none⟩ = some (.int .i64 (rw k))
  r1 : ∀ k, k < 2 * N → W.cell? ⟨g, k * 3 + 1, none⟩ = some (.int .i64 (pv k : Int))
  r2 : ∀ k, k < 2 * N → W.cell? ⟨g, k * 3 + 2, none⟩ = some (.int .i64 (nx k : Int))
  fz : ∀ o, W.frozen? ⟨g, o, none⟩ = false
  gl : g < W.heap.size
  ne : b ≠ g
  nb : N ≤ 4096
abbrev wp (b : Nat) : Value := .pointer (some ⟨b, 0, none⟩)
section
variable {W W' : World} {b g N c : Nat} {rw : Nat → Int} {pv nx : Nat → Nat}
theorem set_other {W : World} {k o i : Nat} {u : Value} (h : i ≠ k) : (W.setCell ⟨k, o, none⟩ u).heap[i]? = W.heap[i]? := Below.heap_setCell W ⟨k, o, none⟩ u i h
theorem cell_far {W : World} {k o o' : Nat} {u : Value} (h : o' ≠ o) : (W.setCell ⟨k, o, none⟩ u).cell? ⟨k, o', none⟩ = W.cell? ⟨k, o', none⟩ :=
  World.cell?_setCell_other _ _ _ _ (fun e => h (by injection e with e1 e2; exact e2.symm))
theorem cell_near {W : World} {k o : Nat} {u x : Value} (h : W.cell? ⟨k, o, none⟩ = some x) : (W.setCell ⟨k, o, none⟩ u).cell? ⟨k, o, none⟩ = some u :=
  World.cell?_setCell_same' _ _ _ (by rw [h]; rfl)
theorem Lnk.lt (h : Lnk W b g N c rw pv nx) : b < W.heap.size := cell_lt h.c0
theorem Lnk.keep (h : Lnk W b g N c rw pv nx) (hs : W.heap.size ≤ W'.heap.size) (hb : W'.heap[b]? = W.heap[b]?) (hg : W'.heap[g]? = W.heap[g]?) : Lnk W' b g N c rw pv nx :=
  ⟨(World.cell?_of_block (w := W) (a := ⟨b, 0, none⟩) hb).trans h.c0, fun k hk => (World.cell?_of_block (w := W) (a := ⟨g, k * 3, none⟩) hg).trans (h.r0 k hk), fun k hk => (World.cell?_of_block (w := W) (a := ⟨g, k * 3 + 1, none⟩) hg).trans (h.r1 k hk),
   fun k hk => (World.cell?_of_block (w := W) (a := ⟨g, k * 3 + 2, none⟩) hg).trans (h.r2 k hk), fun o => (World.frozen?_of_block (w := W) (a := ⟨g, o, none⟩) hg).trans (h.fz o), Nat.lt_of_lt_of_le h.gl hs, h.ne, h.nb⟩
theorem Lnk.only {T : Nat → Prop} (h : Lnk W b g N c rw pv nx) (ho : OnlyS T W W') (h1 : ¬ T b) (h2 : ¬ T g) : Lnk W' b g N c rw pv nx :=
  h.keep ho.size (ho.block b h.lt h1) (ho.block g h.gl h2)
theorem Lnk.below (h : Lnk W b g N c rw pv nx) (hb : Below W.heap.size W W') : Lnk W' b g N c rw pv nx :=
  h.keep hb.size (hb.block b h.lt) (hb.block g h.gl)
/-- one cell of a node is set -/
theorem Lnk.set0 (h : Lnk W b g N c rw pv nx) (i : Nat) (v : Int) : Lnk (W.setCell ⟨g, i * 3, none⟩ (.int .i64 v)) b g N c (upd rw i v) pv nx := by
  refine ⟨?_, fun k hk => ?_, fun k hk => ?_, fun k hk => ?_, fun o => ?_, by simpa [World.setCell] using h.gl, h.ne, h.nb⟩
  · rw [World.cell?_of_block (w := W) (a := ⟨b, 0, none⟩) (set_other h.ne)]; exact h.c0
  · by_cases e : k = i
    · subst e; rw [upd_same]; exact cell_near (h.r0 k hk)
    · rw [upd_other e, cell_far (by omega)]; exact h.r0 k hk
  · rw [cell_far (by omega)]; exact h.r1 k hk
  · rw [cell_far (by omega)]; exact h.r2 k hk
  · rw [World.frozen?_setCell]; exact h.fz o
theorem Lnk.set1 (h : Lnk W b g N c rw pv nx) (i v : Nat) : Lnk (W.setCell ⟨g, i * 3 + 1, none⟩ (.int .i64 (v : Int))) b g N c rw (upd pv i v) nx := by
  refine ⟨?_, fun k hk => ?_, fun k hk => ?_, fun k hk => ?_, fun o => ?_, by simpa [World.setCell] using h.gl, h.ne, h.nb⟩
  · rw [World.cell?_of_block (w := W) (a := ⟨b, 0, none⟩) (set_other h.ne)]; exact h.c0
  · rw [cell_far (by omega)]; exact h.r0 k hk
  · by_cases e : k = i
    · subst e; rw [upd_same]; exact cell_near (h.r1 k hk)
    · rw [upd_other e, cell_far (by omega)]; exact h.r1 k hk
  · rw [cell_far (by omega)]; exact h.r2 k hk
  · rw [World.frozen?_setCell]; exact h.fz o
theorem Lnk.set2 (h : Lnk W b g N c rw pv nx) (i v : Nat) : Lnk (W.setCell ⟨g, i * 3 + 2, none⟩ (.int .i64 (v : Int))) b g N c rw pv (upd nx i v) := by
  refine ⟨?_, fun k hk => ?_, fun k hk => ?_, fun k hk => ?_, fun o => ?_, by simpa [World.setCell] using h.gl, h.ne, h.nb⟩
  · rw [World.cell?_of_block (w := W) (a := ⟨b, 0, none⟩) (set_other h.ne)]; exact h.c0
  · rw [cell_far (by omega)]; exact h.r0 k hk
  · rw [cell_far (by omega)]; exact h.r1 k hk
  · by_cases e : k = i
    · subst e; rw [upd_same]; exact cell_near (h.r2 k hk)
    · rw [upd_other e, cell_far (by omega)]; exact h.r2 k hk
  · rw [World.frozen?_setCell]; exact h.fz o

theorem size_none (W : World) : Calls Try.prog 34 #[.pointer none] W fun e w' => e = .returned (.int .i64 0) ∧ W = w' := by
  go_enter Try.func34, Try.ntmps34
  go_wp2
  go_ret
  exact ⟨rfl, rfl⟩
theorem Lnk.size (h : Lnk W b g N c rw pv nx) : Calls Try.prog 34 #[wp b] W fun e w' => e = .returned (.int .i64 (N : Int)) ∧ W = w' := by
  have q0 := h.c0
  have hnb := h.nb
  obtain ⟨M, hM⟩ : ∃ M, 2 * N = M := ⟨_, rfl⟩
  rw [hM] at q0
  have hM1 : M ≤ 8192 := by omega
  have HM := Lib.hid hM
  clear h hM
  go_enter Try.func34, Try.ntmps34
  go_wp2
  go_ret
  refine ⟨congrArg Ending.returned (congrArg (Value.int .i64) ?_), rfl⟩
  have := HM.out
  omega
theorem hasn_any (W : World) (i : Int) : Calls Try.prog 23 #[.pointer none, .int .i64 i] W fun e w' => e = .returned (.bool false) ∧ W = w' := by
  by_cases h0 : i < 0
  · have d0 : decide (0 ≤ i) = false := by simp; omega
    go_enter Try.func23, Try.ntmps23
    go_wp2
    go_ret
    exact ⟨rfl, rfl⟩
  · have d0 : decide (0 ≤ i) = true := by simp; omega
    have d1 : decide (i < 0) = false := by simp; omega
    go_enter Try.func23, Try.ntmps23
    go_wp2_with (go_at_call 34; ((with_reducible refine (size_none W).mono ?_); rintro e w' ⟨rfl, rfl⟩))
    go_ret
    exact ⟨rfl, rfl⟩
theorem Lnk.has (h : Lnk W b g N c rw pv nx) (i : Int) : Calls Try.prog 23 #[wp b, .int .i64 i] W fun e w' => e = .returned (.bool (hasB N i)) ∧ W = w' := by
  have H := Lib.hid h.size
  have hnb := h.nb
  clear h
  by_cases h0 : i < 0
  · rw [has_neg h0]
    have d0 : decide (0 ≤ i) = false := by simp; omega
    go_enter Try.func23, Try.ntmps23
    go_wp2
    go_ret
    exact ⟨rfl, rfl⟩
  · have HB := Lib.hid (show hasB N i = decide (i < (N : Int)) by unfold hasB; rw [decide_eq_true (by omega)]; rfl)
    have d0 : decide (0 ≤ i) = true := by simp; omega
    go_enter Try.func23, Try.ntmps23
    go_wp2_with (go_at_call 34; ((with_reducible refine H.out.mono ?_); rintro e w' ⟨rfl, rfl⟩))
    go_ret
    exact ⟨by rw [HB.out]; rfl, rfl⟩
theorem Lnk.head (h : Lnk W b g N c rw pv nx) {r : Nat} (hr : r < N) : Calls Try.prog 26 #[wp b, .int .i64 (r : Int)] W fun e w' => e = .returned (.int .i64 ((N + r : Nat) : Int)) ∧ W = w' := by
  have H := Lib.hid h.size
  have hnb := h.nb
  clear h
  go_enter Try.func26, Try.ntmps26
  go_wp2_with (go_at_call 34; ((with_reducible refine H.out.mono ?_); rintro e w' ⟨rfl, rfl⟩))
  go_ret
  exact ⟨rfl, rfl⟩
/-- whether a number is a place in no row -/
def freeB (N : Nat) (rw : Nat → Int) (i : Int) : Bool := hasB N i && (rw i.toNat == -1)
/-- whether a number is a place in a row -/
def inB (N : Nat) (rw : Nat → Int) (i : Int) : Bool := hasB N i && !(rw i.toNat == -1)
theorem freen_any (W : World) (i : Int) : Calls Try.prog 24 #[.pointer none, .int .i64 i] W fun e w' => e = .returned (.bool false) ∧ W = w' := by
  have H := Lib.hid (hasn_any W i)
  go_enter Try.func24, Try.ntmps24
  go_wp2_with (go_at_call 23; ((with_reducible refine H.out.mono ?_); rintro e w' ⟨rfl, rfl⟩))
  go_ret
  exact ⟨rfl, rfl⟩
theorem inn_any (W : World) (i : Int) : Calls Try.prog 28 #[.pointer none, .int .i64 i] W fun e w' => e = .returned (.bool false) ∧ W = w' := by
  have H := Lib.hid (hasn_any W i)
  go_enter Try.func28, Try.ntmps28
  go_wp2_with (go_at_call 23; ((with_reducible refine H.out.mono ?_); rintro e w' ⟨rfl, rfl⟩))
  go_ret
  exact ⟨rfl, rfl⟩
theorem Lnk.free (h : Lnk W b g N c rw pv nx) (i : Int) : Calls Try.prog 24 #[wp b, .int .i64 i] W fun e w' => e = .returned (.bool (freeB N rw i)) ∧ W = w' := by
  have H := Lib.hid (h.has i)
  cases hi : hasB N i
  · rw [hi] at H
    rw [show freeB N rw i = false by unfold freeB; rw [hi]; rfl]
    clear h hi
    go_enter Try.func24, Try.ntmps24
    go_wp2_with (go_at_call 23; ((with_reducible refine H.out.mono ?_); rintro e w' ⟨rfl, rfl⟩))
    go_ret
    exact ⟨rfl, rfl⟩
  · rw [hi] at H
    obtain ⟨k, rfl, hk⟩ := has_yes hi
    have HF := Lib.hid (show freeB N rw (k : Int) = (rw k == -1) by unfold freeB; rw [hi]; rfl)
    have q0 := h.c0
    have q1 := h.r0 k (by omega)
    have hnb := h.nb
    have hk2 : k < 2 * N := by omega
    clear h hi
    generalize 2 * N = M at *
    generalize rw k = x at q1 HF
    go_enter Try.func24, Try.ntmps24
    go_wp2_with (go_at_call 23; ((with_reducible refine H.out.mono ?_); rintro e w' ⟨rfl, rfl⟩))
    go_ret
    exact ⟨by rw [HF.out]; rfl, rfl⟩
theorem Lnk.in (h : Lnk W b g N c rw pv nx) (i : Int) : Calls Try.prog 28 #[wp b, .int .i64 i] W fun e w' => e = .returned (.bool (inB N rw i)) ∧ W = w' := by
  have H := Lib.hid (h.has i)
  cases hi : hasB N i
  · rw [hi] at H
    rw [show inB N rw i = false by unfold inB; rw [hi]; rfl]
    clear h hi
    go_enter Try.func28, Try.ntmps28
    go_wp2_with (go_at_call 23; ((with_reducible refine H.out.mono ?_); rintro e w' ⟨rfl, rfl⟩))
    go_ret
    exact ⟨rfl, rfl⟩
  · rw [hi] at H
    obtain ⟨k, rfl, hk⟩ := has_yes hi
    have HF := Lib.hid (show inB N rw (k : Int) = !(rw k == -1) by unfold inB; rw [hi]; rfl)
    have q0 := h.c0
    have q1 := h.r0 k (by omega)
    have hnb := h.nb
    have hk2 : k < 2 * N := by omega
    clear h hi
    generalize 2 * N = M at *
    generalize rw k = x at q1 HF
    go_enter Try.func28, Try.ntmps28
    go_wp2_with (go_at_call 23; ((with_reducible refine H.out.mono ?_); rintro e w' ⟨rfl, rfl⟩))
    go_ret
    exact ⟨by rw [HF.out]; rfl, rfl⟩
/-- a place, or none -/
def orNone (N x : Nat) : Value := if x < N then .tuple #[.int .i64 (x : Int), .bool true] else .tuple #[.int .i64 0, .bool false]
theorem Lnk.behind (h : Lnk W b g N c rw pv nx) {k : Nat} (hk : k < 2 * N) : Calls Try.prog 29 #[wp b, .int .i64 (k : Int)] W fun e w' => e = .returned (orNone N (nx k)) ∧ W = w' := by
  have q0 := h.c0
  have q1 := h.r2 k hk
  have hnb := h.nb
  have H := Lib.hid (h.has (nx k : Int))
  rw [has_is] at H
  have HO := Lib.hid (show orNone N (nx k) = if nx k < N then .tuple #[.int .i64 (nx k : Int), .bool true] else .tuple #[.int .i64 0, .bool false] from rfl)
  clear h
  generalize 2 * N = M at *
  generalize nx k = x at *
  by_cases hx : x < N
  · rw [decide_eq_true hx] at H
    rw [if_pos hx] at HO
    go_enter Try.func29, Try.ntmps29
    go_wp2_with (go_at_call 23; ((with_reducible refine H.out.mono ?_); rintro e w' ⟨rfl, rfl⟩))
    go_ret2
    exact ⟨by rw [HO.out]; rfl, rfl⟩
  · rw [decide_eq_false hx] at H
    rw [if_neg hx] at HO
    go_enter Try.func29, Try.ntmps29
    go_wp2_with (go_at_call 23; ((with_reducible refine H.out.mono ?_); rintro e w' ⟨rfl, rfl⟩))
    go_ret2
    exact ⟨by rw [HO.out]; rfl, rfl⟩
end
end Go.Proofs.Ythgcedhplbhiiaa
