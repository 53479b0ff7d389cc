/- Latches in memory: structs in one block; whether one's number is a latch's; how many there are, and whether there is a latch. -/
import Derived.Test.YtmaiogaeibmpnaaR1
namespace Go.Proofs.Ytmaiogaeibmpnaa
open Go Go.RowKit

abbrev wp (b : Nat) : Value := .pointer (some ⟨b, 0, none⟩)
theorem set_other {W : World} {k o i : Nat} {u : Value} (h : i ≠ k) : (W.setCell ⟨k, o, none⟩ u).heap[i]? = W.heap[i]? := Below.heap_setCell W ⟨k, o, none⟩ u i h
theorem cell_far {W : World} {k o o' : Nat} {u : Value} (h : o' ≠ o) : (W.setCell ⟨k, o, none⟩ u).cell? ⟨k, o', none⟩ = W.cell? ⟨k, o', none⟩ :=
  World.cell?_setCell_other _ _ _ _ (fun e => h (by injection e with e1 e2; exact e2.symm))
theorem cell_near {W : World} {k o : Nat} {u x : Value} (h : W.cell? ⟨k, o, none⟩ = some x) : (W.setCell ⟨k, o, none⟩ u).cell? ⟨k, o, none⟩ = some u :=
  World.cell?_setCell_same' _ _ _ (by rw [h]; rfl)
theorem block_add' (a : Addr) (n : Nat) : (a.add n).block = a.block := by unfold Addr.add; split <;> rfl
/-- one value is changed -/
def upd (f : Nat → Int) (k : Nat) (x : Int) : Nat → Int := fun i => if i = k then x else f i
theorem upd_same (f : Nat → Int) (k : Nat) (x : Int) : upd f k x k = x := if_pos rfl
theorem upd_other {f : Nat → Int} {k i : Nat} {x : Int} (h : i ≠ k) : upd f k x i = f i := if_neg h
/-- whose a latch is, as it stands in memory: whether it is somebody's, and the number -/
def fl (x : Int) : Bool := decide (0 ≤ x)
def nm (x : Int) : Int := if 0 ≤ x then x else 0
/-- whether a latch stands so -/
def fit (a : Bool) (y x : Int) : Bool := a == fl x && y == nm x
theorem fit_yes {y x : Int} : fit true y x = true ↔ 0 ≤ x ∧ x = y := by
  unfold fit fl nm
  by_cases h : 0 ≤ x
  · simp [h]; omega
  · simp [h]
theorem fit_none {x : Int} (h : -1 ≤ x) : fit false 0 x = true ↔ x = -1 := by
  unfold fit fl nm
  by_cases h' : 0 ≤ x
  · simp [h']; omega
  · simp [h']; omega
/-- the latches lie in a block -/
structure Lat (W : World) (b g N : Nat) (wh : Nat → Int) : Prop where
  c0 : W.cell? ⟨b, 0, none⟩ = some (.slice (some ⟨g, 0, none⟩) N N)
  r0 : ∀ k, k < N → W.cell? ⟨g, k * 2, none⟩ = some (.bool (fl (wh k)))
  r1 : ∀ k, k < N → W.cell? ⟨g, k * 2 + 1, none⟩ = some (.int .i64 (nm (wh k)))
  fz : ∀ o, W.frozen? ⟨g, o, none⟩ = false
  gl : g < W.heap.size
  ne : b ≠ g
  n1 : 1 ≤ N
  nb : N ≤ 64
  mn : ∀ k, -1 ≤ wh k
section
variable {W W' : World} {b g N : Nat} {wh : Nat → Int}
theorem Lat.lt (h : Lat W b g N wh) : b < W.heap.size := cell_lt h.c0
theorem Lat.keep (h : Lat W b g N wh) (hs : W.heap.size ≤ W'.heap.size) (hb : W'.heap[b]? = W.heap[b]?) (hg : W'.heap[g]? = W.heap[g]?) : Lat W' b g N wh :=
  ⟨(World.cell?_of_block (w := W) (a := ⟨b, 0, none⟩) hb).trans h.c0, fun k hk => (World.cell?_of_block (w := W) (a := ⟨g, k * 2, none⟩) hg).trans (h.r0 k hk), fun k hk => (World.cell?_of_block (w := W) (a := ⟨g, k * 2 + 1, none⟩) hg).trans (h.r1 k hk),
   fun o => (World.frozen?_of_block (w := W) (a := ⟨g, o, none⟩) hg).trans (h.fz o), Nat.lt_of_lt_of_le h.gl hs, h.ne, h.n1, h.nb, h.mn⟩
theorem Lat.only {T : Nat → Prop} (h : Lat W b g N wh) (ho : OnlyS T W W') (h1 : ¬ T b) (h2 : ¬ T g) : Lat W' b g N wh :=
  h.keep ho.size (ho.block b h.lt h1) (ho.block g h.gl h2)
theorem Lat.below (h : Lat W b g N wh) (hb : Below W.heap.size W W') : Lat W' b g N wh :=
  h.keep hb.size (hb.block b h.lt) (hb.block g h.gl)
/-- a latch is another one's -/
theorem Lat.set (h : Lat W b g N wh) (i : Nat) {x : Int} (hx : -1 ≤ x) {v0 v1 : Value} (e0 : v0 = .bool (fl x)) (e1 : v1 = .int .i64 (nm x)) : Lat ((W.setCell ⟨g, i * 2, none⟩ v0).setCell ⟨g, i * 2 + 1, none⟩ v1) b g N (upd wh i x) := by
  subst e0
  subst e1
  refine ⟨?_, fun k hk => ?_, fun k hk => ?_, fun o => ?_, by simpa [World.setCell] using h.gl, h.ne, h.n1, h.nb, fun k => ?_⟩
  · rw [World.cell?_of_block (w := W) (a := ⟨b, 0, none⟩) ((set_other h.ne).trans (set_other h.ne))]; exact h.c0
  · by_cases e : k = i
    · subst e; rw [upd_same, cell_far (by omega)]; exact cell_near (h.r0 k hk)
    · rw [upd_other e, cell_far (by omega), cell_far (by omega)]; exact h.r0 k hk
  · by_cases e : k = i
    · subst e; rw [upd_same]; exact cell_near (by rw [cell_far (by omega)]; exact h.r1 k hk)
    · rw [upd_other e, cell_far (by omega), cell_far (by omega)]; exact h.r1 k hk
  · rw [World.frozen?_setCell, World.frozen?_setCell]; exact h.fz o
  · unfold upd; split
    · exact hx
    · exact h.mn k

set_option maxRecDepth 100000 in
@[go_sem ↓] theorem eq49 (n : Nat) (w : World) (a b : Bool) (x y : Int) :
    (Op.equalIn (n + 3) 49 (.agg #[.bool a, .int .i64 x]) (.agg #[.bool b, .int .i64 y])).run Try.prog w = .ok (a == b && x == y) w := by
  rw [run_equalIn_struct w (n + 2) 49 _ _ (by kernel_rfl) (by kernel_rfl)]
  by_cases h1 : a = b <;> by_cases h2 : x = y <;> simp [go_sem, run_equalIn_int (h := Try.underlying3), h1, h2]
theorem has_any (W : World) (a b : Bool) (x y : Int) : Calls Try.prog 20 #[.agg #[.bool a, .int .i64 x], .agg #[.bool b, .int .i64 y]] W fun e w' => e = .returned (.bool (a == b && x == y)) ∧ Below W.heap.size W w' := by
  have HB := Lib.hid ((box_below W (.cells #[.bool a, .int .i64 x] 49)).alloc (by simp) (.cells #[.bool b, .int .i64 y] 49))
  go_enter Try.func20, Try.ntmps20
  go_wp2
  go_ret
  exact ⟨rfl, HB.out⟩

theorem size_none (W : World) : Calls Try.prog 18 #[.pointer none] W fun e w' => e = .returned (.int .i64 0) ∧ W = w' := by
  go_enter Try.func18, Try.ntmps18
  go_wp2
  go_ret
  exact ⟨rfl, rfl⟩
theorem Lat.len (h : Lat W b g N wh) : Calls Try.prog 18 #[wp b] W fun e w' => e = .returned (.int .i64 (N : Int)) ∧ W = w' := by
  have q0 := h.c0
  have hnb := h.nb
  clear h
  go_enter Try.func18, Try.ntmps18
  go_wp2
  go_ret
  exact ⟨rfl, rfl⟩
/-- whether there is such a latch -/
def isB (N : Nat) (i : Int) : Bool := decide (0 ≤ i) && decide (i < (N : Int))
theorem is_yes {N : Nat} {i : Int} (h : isB N i = true) : ∃ k : Nat, i = k ∧ k < N := by
  unfold isB at h
  simp at h
  exact ⟨i.toNat, by omega, by omega⟩
theorem is_is {N k : Nat} (h : k < N) : isB N (k : Int) = true := by unfold isB; simp; omega
theorem isn_any (W : World) (i : Int) : Calls Try.prog 21 #[.pointer none, .int .i64 i] W fun e w' => e = .returned (.bool false) ∧ W = w' := by
  by_cases h0 : i < 0
  · have d0 : decide (0 ≤ i) = false := by simp; omega
    go_enter Try.func21, Try.ntmps21
    go_wp2
    go_ret
    exact ⟨rfl, rfl⟩
  · have d0 : decide (0 ≤ i) = true := by simp; omega
    have d1 : decide (i < 0) = false := by simp; omega
    go_enter Try.func21, Try.ntmps21
    go_wp2_with (go_at_call 18; ((with_reducible refine (size_none W).mono ?_); rintro e w' ⟨rfl, rfl⟩))
    go_ret
    exact ⟨rfl, rfl⟩
theorem Lat.is (h : Lat W b g N wh) (i : Int) : Calls Try.prog 21 #[wp b, .int .i64 i] W fun e w' => e = .returned (.bool (isB N i)) ∧ W = w' := by
  have H := Lib.hid h.len
  have hnb := h.nb
  clear h
  by_cases h0 : i < 0
  · rw [show isB N i = false by unfold isB; rw [decide_eq_false (by omega)]; rfl]
    have d0 : decide (0 ≤ i) = false := by simp; omega
    go_enter Try.func21, Try.ntmps21
    go_wp2
    go_ret
    exact ⟨rfl, rfl⟩
  · have HB := Lib.hid (show isB N i = decide (i < (N : Int)) by unfold isB; rw [decide_eq_true (by omega)]; rfl)
    have d0 : decide (0 ≤ i) = true := by simp; omega
    go_enter Try.func21, Try.ntmps21
    go_wp2_with (go_at_call 18; ((with_reducible refine H.out.mono ?_); rintro e w' ⟨rfl, rfl⟩))
    go_ret
    exact ⟨by rw [HB.out]; rfl, rfl⟩
/-- whether these numbers may be -/
def mayB (N : Nat) (who i : Int) : Bool := decide (0 ≤ who) && isB N i
theorem mayn_any (W : World) (who i : Int) : Calls Try.prog 19 #[.pointer none, .int .i64 who, .int .i64 i] W fun e w' => e = .returned (.bool false) ∧ W = w' := by
  cases d0 : decide (0 ≤ who)
  · go_enter Try.func19, Try.ntmps19
    go_wp2
    go_ret
    exact ⟨rfl, rfl⟩
  · go_enter Try.func19, Try.ntmps19
    go_wp2_with (go_at_call 21; ((with_reducible refine (isn_any W i).mono ?_); rintro e w' ⟨rfl, rfl⟩))
    go_ret
    exact ⟨rfl, rfl⟩
theorem Lat.may (h : Lat W b g N wh) (who i : Int) : Calls Try.prog 19 #[wp b, .int .i64 who, .int .i64 i] W fun e w' => e = .returned (.bool (mayB N who i)) ∧ W = w' := by
  have H := Lib.hid (h.is i)
  clear h
  cases d0 : decide (0 ≤ who)
  · rw [show mayB N who i = false by unfold mayB; rw [d0]; rfl]
    go_enter Try.func19, Try.ntmps19
    go_wp2
    go_ret
    exact ⟨rfl, rfl⟩
  · have HB := Lib.hid (show mayB N who i = isB N i by unfold mayB; rw [d0]; rfl)
    generalize isB N i = t at *
    go_enter Try.func19, Try.ntmps19
    go_wp2_with (go_at_call 21; ((with_reducible refine H.out.mono ?_); rintro e w' ⟨rfl, rfl⟩))
    go_ret
    exact ⟨by rw [HB.out]; rfl, rfl⟩
end
end Go.Proofs.Ytmaiogaeibmpnaa
