/- The contracts of the document's own answers on modes: they give what the tables of the first part say. -/
import Derived.Test.YtagbfonmeolnjaaDoorA5
namespace Go.Proofs.YtagbfonmeolnjaaDoor
open Go Go.RowKit

theorem rmay_yes (m : Int) (w : World) (h0 : 0 ≤ m) (h6 : m ≤ 6) :
    Calls Tryd.prog 12 #[.int .i64 m] w fun e w' => e = .returned (.bool true) ∧ w = w' := by
  go_enter Tryd.func12, Tryd.ntmps12
  go_wp2
  go_ret
  exact ⟨rfl, rfl⟩
theorem rmay_no (m : Int) (w : World) (h : ¬ (0 ≤ m ∧ m ≤ 6)) :
    Calls Tryd.prog 12 #[.int .i64 m] w fun e w' => e = .returned (.bool false) ∧ w = w' := by
  by_cases h0 : 0 ≤ m
  · have h6 : ¬ m ≤ 6 := fun q => h ⟨h0, q⟩
    clear h
    go_enter Tryd.func12, Tryd.ntmps12
    go_wp2
    go_ret
    exact ⟨rfl, rfl⟩
  · clear h
    go_enter Tryd.func12, Tryd.ntmps12
    go_wp2
    go_ret
    exact ⟨rfl, rfl⟩
theorem out_ne {m : Int} (h : ¬ (0 ≤ m ∧ m ≤ 6)) (k : Int) (h0 : 0 ≤ k) (h6 : k ≤ 6) : (m == k) = false := by
  have : m ≠ k := by omega
  simpa using this
theorem in_cases {m : Int} (h : 0 ≤ m ∧ m ≤ 6) : m = 0 ∨ m = 1 ∨ m = 2 ∨ m = 3 ∨ m = 4 ∨ m = 5 ∨ m = 6 := by omega

theorem rparent_any (m : Int) (w : World) :
    Calls Tryd.prog 18 #[.int .i64 m] w fun e w' => e = .returned (.int .i64 (parN (kn m) : Nat)) ∧ w = w' := by
  by_cases h : 0 ≤ m ∧ m ≤ 6
  · rcases in_cases h with rfl | rfl | rfl | rfl | rfl | rfl | rfl
    all_goals
      clear h
      go_enter Tryd.func18, Tryd.ntmps18
      go_wp2
      go_ret
      exact ⟨rfl, rfl⟩
  · rw [kn_out h]
    have n1 := out_ne h 1 (by omega) (by omega)
    have n2 := out_ne h 2 (by omega) (by omega)
    have n3 := out_ne h 3 (by omega) (by omega)
    have n4 := out_ne h 4 (by omega) (by omega)
    have n5 := out_ne h 5 (by omega) (by omega)
    have n6 := out_ne h 6 (by omega) (by omega)
    clear h
    go_enter Tryd.func18, Tryd.ntmps18
    go_wp2
    go_ret
    exact ⟨rfl, rfl⟩
theorem rname_any (m : Int) (w : World) :
    Calls Tryd.prog 10 #[.int .i64 m] w fun e w' => e = .returned (.string (nameN (kn m))) ∧ w = w' := by
  by_cases h : 0 ≤ m ∧ m ≤ 6
  · rcases in_cases h with rfl | rfl | rfl | rfl | rfl | rfl | rfl
    all_goals
      clear h
      go_enter Tryd.func10, Tryd.ntmps10
      go_wp2
      go_ret
      exact ⟨rfl, rfl⟩
  · rw [kn_out h]
    have n1 := out_ne h 1 (by omega) (by omega)
    have n2 := out_ne h 2 (by omega) (by omega)
    have n3 := out_ne h 3 (by omega) (by omega)
    have n4 := out_ne h 4 (by omega) (by omega)
    have n5 := out_ne h 5 (by omega) (by omega)
    have n6 := out_ne h 6 (by omega) (by omega)
    clear h
    go_enter Tryd.func10, Tryd.ntmps10
    go_wp2
    go_ret
    exact ⟨rfl, rfl⟩

theorem rre_any (m : Int) (w : World) :
    Calls Tryd.prog 20 #[.int .i64 m] w fun e w' => e = .returned (.int .i64 (reN (kn m) : Nat)) ∧ Below w.heap.size w w' := by
  by_cases h : 0 ≤ m ∧ m ≤ 6
  · rcases in_cases h with rfl | rfl | rfl | rfl | rfl | rfl | rfl
    all_goals
      clear h
      go_enter Tryd.func20, Tryd.ntmps20
      go_wp2_with (go_at_call 12; refine (rmay_yes _ _ (by omega) (by omega)).mono ?_; rintro e w' ⟨rfl, rfl⟩)
      go_ret
      exact ⟨rfl, (Below.refl _ _).alloc (Nat.le_refl _) _⟩
  · rw [kn_out h]
    go_enter Tryd.func20, Tryd.ntmps20
    go_wp2_with (go_at_call 12; refine (rmay_no _ _ h).mono ?_; rintro e w' ⟨rfl, rfl⟩)
    go_ret
    exact ⟨rfl, (Below.refl _ _).alloc (Nat.le_refl _) _⟩
theorem rim_any (m : Int) (w : World) :
    Calls Tryd.prog 33 #[.int .i64 m] w fun e w' => e = .returned (.int .i64 (imN (kn m) : Nat)) ∧ Below w.heap.size w w' := by
  by_cases h : 0 ≤ m ∧ m ≤ 6
  · rcases in_cases h with rfl | rfl | rfl | rfl | rfl | rfl | rfl
    all_goals
      clear h
      go_enter Tryd.func33, Tryd.ntmps33
      go_wp2_with (go_at_call 12; refine (rmay_yes _ _ (by omega) (by omega)).mono ?_; rintro e w' ⟨rfl, rfl⟩)
      go_ret
      exact ⟨rfl, (Below.refl _ _).alloc (Nat.le_refl _) _⟩
  · rw [kn_out h]
    go_enter Tryd.func33, Tryd.ntmps33
    go_wp2_with (go_at_call 12; refine (rmay_no _ _ h).mono ?_; rintro e w' ⟨rfl, rfl⟩)
    go_ret
    exact ⟨rfl, (Below.refl _ _).alloc (Nat.le_refl _) _⟩
end Go.Proofs.YtagbfonmeolnjaaDoor
