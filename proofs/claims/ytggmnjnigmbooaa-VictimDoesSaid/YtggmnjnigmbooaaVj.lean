/- The document's All. -/
import Derived.Test.YtggmnjnigmbooaaVd
import Derived.Laws.CopyRow
import Derived.Laws.IdiomCopy
import Derived.Laws.CopyOwn
namespace Go.Proofs.Ytggmnjnigmbooaa
open Go Go.RowKit Go.Shelf
set_option maxRecDepth 100000

theorem info2 : (Try.prog.info? 2).map (fun i => (i.zero, i.size, i.bytes)) = some (some (.int .i64 0), 1, 8) := by kernel_rfl
theorem size2 : (Try.prog.info? 2).map (·.size) = some 1 := by kernel_rfl
theorem mk_stamps (W : World) (N : Nat) (hN : N ≤ 65536) : (Instr.makeSlice 22 (.int .i64 (N : Int)) (.int .i64 (N : Int))).run Try.prog W = .ok (.slice (some ⟨W.heap.size, 0, none⟩) N N) (W.alloc (.cells (madeCells #[.int .i64 0] N) 2)) := by
  obtain ⟨i0, hi, hz0, hz1, hz2⟩ := info_parts info2
  have := run_make (P := Try.prog) W 22 2 i0 _ Try.underlying22 hi hz0 .i64 .i64 (N : Int) (N : Int) (by omega) (Int.le_refl _) (by rw [hz2]; omega) (by omega)
  rw [hz1, Int.toNat_natCast, Nat.mul_one] at this
  exact this
theorem made_stamps (W : World) (N : Nat) : (W.alloc (.cells (madeCells #[.int .i64 0] N) 2)).heap[W.heap.size]? = some (.cells (List.replicate N (.int .i64 0)).toArray 2 (0, 0)) := by
  rw [heap_alloc_new W _]
  congr 2
  apply Array.ext'
  apply List.ext_getElem?
  intro i
  by_cases hi : i < N <;> simp [madeCells, hi, Nat.mod_one]
/-- the document's own copy of the stamps, with one more place -/
theorem copied {W : World} {A : Option Addr} {c : Nat} {st : List Int} (hs : Is.Ls W A c st) (hl : st.length ≤ 1000) :
    ∃ w1, (Builtin.copy_ #[22, 22] 3 #[.slice (some ⟨W.heap.size, 0, none⟩) (st.length + 1) (st.length + 1), .slice A st.length c]).run Try.prog (W.alloc (.cells (madeCells #[.int .i64 0] (st.length + 1)) 2)) = .ok (.int .i64 (st.length : Int)) w1 ∧
      Is.Ls w1 (some ⟨W.heap.size, 0, none⟩) (st.length + 1) st ∧ Below W.heap.size W w1 := by
  have hx := box_below W (.cells (madeCells #[.int .i64 0] (st.length + 1)) 2)
  cases A with
  | none =>
    have := hs.empty; subst this
    refine ⟨_, run_copy_none (P := Try.prog) _ 22 22 3 2 _ _ _ _ _ _ Try.underlying22 size2 rfl, ?_, hx⟩
    exact ⟨Nat.zero_le _, by decide, by simp, fun a _ j u hj => by simp [Is.flat] at hj⟩
  | some a =>
    have hlen : (Is.flat st).length = st.length := by rw [Is.flat_length, Nat.mul_one]
    have hrun := run_copy_row (P := Try.prog) (W.alloc (.cells (madeCells #[.int .i64 0] (st.length + 1)) 2)) 22 22 3 2 W.heap.size 0 (st.length + 1) (st.length + 1) a st.length c _ 2 (Is.flat st) Try.underlying22 size2 (made_stamps W _)
      (by rw [hlen]; exact (Nat.min_eq_left (Nat.le_succ _)).symm) (fun j v hj => (hs.below hx).at' a rfl j v hj) (by rw [hlen]; simp) (Is.flat_one st)
    rw [hlen] at hrun
    refine ⟨_, hrun, ⟨by omega, by unfold maxLen; omega, by simp, fun b hb j u hj => ?_⟩, below_setRow hx (Nat.le_refl _) _⟩
    obtain rfl : (⟨W.heap.size, 0, none⟩ : Addr) = b := by simpa using hb
    have hj1 := (List.getElem?_eq_some_iff.1 hj).1
    rw [add_at, cell_of_row _ _ _ _ _ _ (setRow_heap _ _ _ _ _ _ (made_stamps W _))]
    simp [hj, List.getElem?_append_left hj1]
end Go.Proofs.Ytggmnjnigmbooaa
