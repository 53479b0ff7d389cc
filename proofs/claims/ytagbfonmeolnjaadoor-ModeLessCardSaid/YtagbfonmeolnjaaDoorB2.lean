/- The walk of the law that more is less: whatever the three numbers are, it returns true and changes nothing that was there. -/
import Derived.Test.YtagbfonmeolnjaaDoorA4
namespace Go.Proofs.YtagbfonmeolnjaaDoor
open Go Go.RowKit

theorem less_held : ∀ i, i ≤ 6 → ∀ j, j ≤ 6 → ∀ k, k ≤ 6 → covB i j = true → goesN i k = true → goesN j k = true := by decide +kernel
theorem less_asked : ∀ i, i ≤ 6 → ∀ j, j ≤ 6 → ∀ k, k ≤ 6 → covB i j = true → goesN k i = true → goesN k j = true := by decide +kernel
theorem less_par : ∀ i, i ≤ 6 → ∀ j, j ≤ 6 → covB i j = true → covB (parN i) (parN j) = true := by decide +kernel
theorem less_reads : ∀ i, i ≤ 6 → ∀ j, j ≤ 6 → covB i j = true → readsB j = true → readsB i = true := by decide +kernel
theorem less_writes : ∀ i, i ≤ 6 → ∀ j, j ≤ 6 → covB i j = true → writesB j = true → writesB i = true := by decide +kernel

theorem less_walk (m n k : Int) (w : World) (ht : TabG w) :
    Calls Tryd.prog 5 #[.int .i64 m, .int .i64 n, .int .i64 k] w fun e w' => e = .returned (.bool true) ∧ Below w.heap.size w w' := by
  have km := kn_le m
  have kk := kn_le k
  have kn' := kn_le n
  have hb0 : Below w.heap.size w w := Below.refl _ _
  have qa := awake_g ht
  cases hc : covB (kn m) (kn n)
  · have r0 : Gives w 24 #[.int .i64 m, .int .i64 n] (.bool false) := cov_g w hc
    clear hc
    go_enter Tryd.func5, Tryd.ntmps5
    go_wp2_with ((first | go_at_call 24 | go_at_call 8); refine Gives.use (w0 := w) (by with_reducible assumption) (by assumption) ?_; intro w1 hb1)
    go_ret
    exact ⟨rfl, by assumption⟩
  · have r0 : Gives w 24 #[.int .i64 m, .int .i64 n] (.bool true) := cov_g w hc
    obtain ⟨A, hA⟩ : ∃ A : Nat, parN (kn m) = A := ⟨_, rfl⟩
    obtain ⟨B, hB⟩ : ∃ B : Nat, parN (kn n) = B := ⟨_, rfl⟩
    have kA : A ≤ 6 := by have := parN_le (kn m); omega
    have kB : B ≤ 6 := by have := parN_le (kn n); omega
    have r1 : Gives w 17 #[.int .i64 m] (.int .i64 (A : Nat)) := par_g w hA
    have r2 : Gives w 17 #[.int .i64 n] (.int .i64 (B : Nat)) := par_g w hB
    have r3 : Gives w 24 #[.int .i64 (A : Nat), .int .i64 (B : Nat)] (.bool true) := cov_g w (by rw [kn_nat kA, kn_nat kB, ← hA, ← hB]; exact less_par _ km _ kn' hc)
    have s1 : goesN (kn m) (kn k) = true → Gives w 13 #[.int .i64 n, .int .i64 k] (.bool true) := fun h => com_g ht (less_held _ km _ kn' _ kk hc h)
    have s2 : goesN (kn k) (kn m) = true → Gives w 13 #[.int .i64 k, .int .i64 n] (.bool true) := fun h => com_g ht (less_asked _ km _ kn' _ kk hc h)
    have s3 : readsB (kn n) = true → Gives w 19 #[.int .i64 m] (.bool true) := fun h => reads_g w (less_reads _ km _ kn' hc h)
    have s4 : writesB (kn n) = true → Gives w 21 #[.int .i64 m] (.bool true) := fun h => writes_g w (less_writes _ km _ kn' hc h)
    have t1 : ∀ b, goesN (kn m) (kn k) = b → Gives w 13 #[.int .i64 m, .int .i64 k] (.bool b) := fun b h => com_g ht h
    have t2 : ∀ b, goesN (kn k) (kn m) = b → Gives w 13 #[.int .i64 k, .int .i64 m] (.bool b) := fun b h => com_g ht h
    have t3 : ∀ b, readsB (kn n) = b → Gives w 19 #[.int .i64 n] (.bool b) := fun b h => reads_g w h
    have t4 : ∀ b, writesB (kn n) = b → Gives w 21 #[.int .i64 n] (.bool b) := fun b h => writes_g w h
    clear hA hB hc
    rcases hb1 : goesN (kn m) (kn k) with _ | _ <;> rcases hb2 : goesN (kn k) (kn m) with _ | _ <;> rcases hb3 : readsB (kn n) with _ | _ <;> rcases hb4 : writesB (kn n) with _ | _
    all_goals
      replace t1 := t1 _ hb1
      replace t2 := t2 _ hb2
      replace t3 := t3 _ hb3
      replace t4 := t4 _ hb4
      (try replace s1 := s1 hb1)
      (try replace s2 := s2 hb2)
      (try replace s3 := s3 hb3)
      (try replace s4 := s4 hb4)
      clear hb1 hb2 hb3 hb4
      go_enter Tryd.func5, Tryd.ntmps5
      go_wp2_with ((first | go_at_call 24 | go_at_call 8 | go_at_call 13 | go_at_call 17 | go_at_call 19 | go_at_call 21); refine Gives.use (w0 := w) (by with_reducible assumption) (by assumption) ?_; intro w1 hb1)
      go_ret
      exact ⟨rfl, by assumption⟩
end Go.Proofs.YtagbfonmeolnjaaDoor
