/- The document's rows are made. -/
import Derived.Test.YthgcedhplbhiiaaP4
namespace Go.Proofs.Ythgcedhplbhiiaa
open Go Go.RowKit

theorem info37 : (Try.prog.info? 37).map (fun i => (i.zero, i.size, i.bytes)) = some (some (.slice none 0 0), 1, 24) := by kernel_rfl
theorem mk_rows (W : World) (N : Nat) (hN : N ≤ 4096) : (Instr.makeSlice 41 (.int .i64 (N : Int)) (.int .i64 (N : Int))).run Try.prog W = .ok (.slice (some ⟨W.heap.size, 0, none⟩) N N) (W.alloc (.cells (madeCells #[.slice none 0 0] N) 37)) := by
  obtain ⟨i0, hi, hz0, hz1, hz2⟩ := info_parts info37
  have := run_make (P := Try.prog) W 41 37 i0 _ Try.underlying41 hi hz0 .i64 .i64 (N : Int) (N : Int) (by omega) (Int.le_refl _) (by rw [hz2]; omega) (by omega)
  rw [hz1, Int.toNat_natCast, Nat.mul_one] at this
  exact this
theorem none_cell {N j : Nat} (hj : j < N) : (madeCells #[.slice none 0 0] N)[j]? = some (.slice none 0 0) := by
  simp [madeCells, hj, Nat.mod_one]
/-- new rows of the document's -/
def RNew (W : World) (N : Nat) (e : Ending) (w' : World) : Prop := ∃ bx gx, e = .returned (wp bx) ∧ Rf w' bx gx w'.heap.size N (fun _ => []) ∧ Below W.heap.size W w' ∧ W.heap.size ≤ bx ∧ W.heap.size ≤ gx
theorem rf_made (W : World) (N : Nat) (hN : N ≤ 4096) : Rf ((W.alloc (.cells (madeCells #[.slice none 0 0] N) 37)).alloc (.cells #[.int .i64 (N : Int), .slice (some ⟨W.heap.size, 0, none⟩) N N] 43)) (W.heap.size + 1) W.heap.size (W.heap.size + 2) N (fun _ => []) := by
  have hb : ((W.alloc (.cells (madeCells #[.slice none 0 0] N) 37)).alloc (.cells #[.int .i64 (N : Int), .slice (some ⟨W.heap.size, 0, none⟩) N N] 43)).heap[W.heap.size]? = some (.cells (madeCells #[.slice none 0 0] N) 37) := heap_alloc2_old W _ _
  refine ⟨by simp [go_sem], by simp [go_sem], fun r hr => ⟨none, 0, ?_, Rd.nilq _ _⟩, fun o => frozen_of_row _ _ _ _ _ hb, by simp; omega, by omega, by omega, ⟨fun _ _ k hk => by simp at hk, fun _ _ => List.nodup_nil, fun _ _ _ _ k hk => by simp at hk⟩, hN, by simp⟩
  rw [cell_of_row _ _ _ _ _ _ hb]
  exact none_cell hr
theorem rnew_done (W : World) (N : Nat) (hN : N ≤ 4096) : RNew W N (.returned (wp (W.heap.size + 1))) ((W.alloc (.cells (madeCells #[.slice none 0 0] N) 37)).alloc (.cells #[.int .i64 (N : Int), .slice (some ⟨W.heap.size, 0, none⟩) N N] 43)) := by
  have h := rf_made W N hN
  have hs : ((W.alloc (.cells (madeCells #[.slice none 0 0] N) 37)).alloc (.cells #[.int .i64 (N : Int), .slice (some ⟨W.heap.size, 0, none⟩) N N] 43)).heap.size = W.heap.size + 2 := by simp
  refine ⟨_, _, rfl, by rw [hs]; exact h, (box_below W _).trans ((box_below _ _).mono (by simp)), by omega, by omega⟩
set_option maxHeartbeats 1000000 in
theorem rnew_any {n : Int} (W : World) (hn : n ≤ 4096) : Calls Try.prog 8 #[.int .i64 n] W (RNew W (cl n)) := by
  by_cases h0 : n < 0
  · rw [show cl n = 0 by unfold cl; rw [if_pos h0]]
    have hmk := mk_rows W 0 (by omega)
    have HD := Lib.hid (rnew_done W 0 (by omega))
    have d0 : decide (n < 0) = true := by simpa using h0
    go_enter Try.func8, Try.ntmps8
    simp only [Int.natCast_zero] at hmk HD
    go_wp2
    go_ret
    exact HD.out
  · obtain ⟨N, rfl⟩ : ∃ k : Nat, n = k := ⟨n.toNat, by omega⟩
    rw [cl_nat (by omega)]
    have hmk := mk_rows W N (by omega)
    have HD := Lib.hid (rnew_done W N (by omega))
    have d1 : decide (4096 < N) = false := by simp; omega
    have d2 : decide ((4096 : Int) < (N : Int)) = false := by simp; omega
    go_enter Try.func8, Try.ntmps8
    go_wp2
    go_ret
    exact HD.out
end Go.Proofs.Ythgcedhplbhiiaa
