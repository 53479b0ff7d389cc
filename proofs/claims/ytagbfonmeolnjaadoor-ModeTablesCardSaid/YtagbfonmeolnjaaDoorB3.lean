/- The walk of the law on names and on what is needed above: whatever the two numbers are, it returns true and changes nothing that was there. -/
import Derived.Test.YtagbfonmeolnjaaDoorA5
namespace Go.Proofs.YtagbfonmeolnjaaDoor
open Go Go.RowKit

theorem eqN_at : ∀ k, k ≤ 6 → ∀ j, j ≤ 6 → eqN j (nameN k) = decide (j = k) := by decide +kernel
theorem par_sup : ∀ i, i ≤ 6 → ∀ j, j ≤ 6 → supN (parN i) (parN j) = parN (supN i j) := by decide +kernel
theorem symB_comm (i j : Nat) : symB j i = symB i j := by unfold symB; exact Bool.or_comm _ _
theorem parse_g {k : Nat} {w : World} (ht : TabN w) (hk : k ≤ 6) : Gives w 9 #[.string (nameN k)] (.tuple #[.int .i64 (k : Nat), .bool true]) := fun w' hb =>
  acc_same hb (parse_hit (nameN k) k w' (ht.later hb) hk (fun j hj => by rw [eqN_at k hk j (by omega)]; simpa using Nat.ne_of_lt hj) (by rw [eqN_at k hk k hk]; simp))

theorem parents_walk (m n : Int) (w : World) (ht : TabG w) (hn : TabN w) :
    Calls Tryd.prog 7 #[.int .i64 m, .int .i64 n] w fun e w' => e = .returned (.bool true) ∧ Below w.heap.size w w' := by
  have km := kn_le m
  have kk := kn_le n
  have hb0 : Below w.heap.size w w := Below.refl _ _
  have qa := awake_g ht
  obtain ⟨V, hV⟩ : ∃ V : Nat, kn m = V := ⟨_, rfl⟩
  obtain ⟨s, hs⟩ : ∃ s, nameN V = s := ⟨_, rfl⟩
  obtain ⟨S, hS⟩ : ∃ S : Nat, supN (kn m) (kn n) = S := ⟨_, rfl⟩
  obtain ⟨A, hA⟩ : ∃ A : Nat, parN (kn m) = A := ⟨_, rfl⟩
  obtain ⟨B, hB⟩ : ∃ B : Nat, parN (kn n) = B := ⟨_, rfl⟩
  obtain ⟨C, hC⟩ : ∃ C : Nat, parN S = C := ⟨_, rfl⟩
  obtain ⟨b, hb⟩ : ∃ b : Bool, symB (kn m) (kn n) = b := ⟨_, rfl⟩
  have kV : V ≤ 6 := hV ▸ km
  have kS : S ≤ 6 := hS ▸ supN_le _ _
  have kA : A ≤ 6 := by have := parN_le (kn m); omega
  have kB : B ≤ 6 := by have := parN_le (kn n); omega
  have r1 : Gives w 22 #[.int .i64 m] (.string s) := name_g hn (by rw [hV, hs])
  have r2 : Gives w 9 #[.string s] (.tuple #[.int .i64 (V : Nat), .bool true]) := by rw [← hs]; exact parse_g hn kV
  have r3 : Gives w 23 #[.int .i64 m, .int .i64 n] (.int .i64 (S : Nat)) := sup_g w hS
  have r4 : Gives w 17 #[.int .i64 m] (.int .i64 (A : Nat)) := par_g w hA
  have r5 : Gives w 17 #[.int .i64 n] (.int .i64 (B : Nat)) := par_g w hB
  have r6 : Gives w 17 #[.int .i64 (S : Nat)] (.int .i64 (C : Nat)) := par_g w (by rw [kn_nat kS, hC])
  have r7 : Gives w 23 #[.int .i64 (A : Nat), .int .i64 (B : Nat)] (.int .i64 (C : Nat)) := sup_g w (by rw [kn_nat kA, kn_nat kB, ← hA, ← hB, par_sup _ km _ kk, hS, hC])
  have r8 : Gives w 15 #[.int .i64 m, .int .i64 n] (.bool b) := sym_g ht hb
  have r9 : Gives w 15 #[.int .i64 n, .int .i64 m] (.bool b) := sym_g ht (by rw [symB_comm, hb])
  have HV := Lib.hid hV
  clear hs hS hA hB hC hb hV
  by_cases hm : 0 ≤ m ∧ m ≤ 6
  · have e : (V : Int) = m := by rw [← HV.out]; exact kn_in hm.1 hm.2
    rw [e] at r2
    clear e HV hm
    go_enter Tryd.func7, Tryd.ntmps7
    go_wp2_with ((first | go_at_call 22 | go_at_call 9 | go_at_call 23 | go_at_call 17 | go_at_call 15 | go_at_call 8); refine Gives.use (w0 := w) (by with_reducible assumption) (by assumption) ?_; intro w1 hb1)
    go_ret
    exact ⟨rfl, by assumption⟩
  · obtain rfl : V = 0 := by rw [← HV.out]; exact kn_out hm
    have e : ((0 : Int) == m) = false := by
      have : (0 : Int) ≠ m := by omega
      simpa using this
    have r0 : Gives w 11 #[.int .i64 m] (.bool false) := fun w' hb => acc_same hb (may_no m w' hm)
    clear HV hm
    go_enter Tryd.func7, Tryd.ntmps7
    go_wp2_with ((first | go_at_call 22 | go_at_call 9 | go_at_call 23 | go_at_call 17 | go_at_call 15 | go_at_call 8 | go_at_call 11); refine Gives.use (w0 := w) (by with_reducible assumption) (by assumption) ?_; intro w1 hb1)
    go_ret
    exact ⟨rfl, by assumption⟩
end Go.Proofs.YtagbfonmeolnjaaDoor
