/- The contracts of the program's functions on modes: plain tables on numbers up to six, and what each call gives by them. -/
import Derived.Test.YteaibamkfccplaaDoorProg
import Derived.WalkKit
import Derived.WalkLawsBesides
import Derived.Deep.QuietTactic
import Derived.BigQuiet
import Derived.WalkSmall
import Derived.KernelRfl
namespace Go.Proofs.YteaibamkfccplaaDoor
open Go Go.RowKit

/-- what is no mode counts as the first one -/
def kn (m : Int) : Nat := if 0 ≤ m ∧ m ≤ 6 then m.toNat else 0
theorem kn_le (m : Int) : kn m ≤ 6 := by unfold kn; split <;> omega
theorem kn_in {m : Int} (h0 : 0 ≤ m) (h6 : m ≤ 6) : ((kn m : Nat) : Int) = m := by unfold kn; rw [if_pos ⟨h0, h6⟩]; omega
theorem kn_out {m : Int} (h : ¬ (0 ≤ m ∧ m ≤ 6)) : kn m = 0 := by unfold kn; rw [if_neg h]
theorem ret_int {k : IntKind} {a b : Int} (h : a = b) : Ending.returned (.int k a) = .returned (.int k b) := by rw [h]

/-- the parts of the points, as the bits of a number -/
def fb : Nat → Nat
  | 0 => 0
  | 1 => 4607182418800017408
  | 2 => 4611686018427387904
  | _ => 4613937818241073152
def reN : Nat → Nat
  | 3 => 1
  | 4 => 1
  | 5 => 2
  | 6 => 3
  | _ => 0
def imN : Nat → Nat
  | 1 => 1
  | 2 => 2
  | 3 => 1
  | 4 => 2
  | 5 => 1
  | 6 => 2
  | _ => 0

theorem may_yes (m : Int) (w : World) (h0 : 0 ≤ m) (h6 : m ≤ 6) :
    Calls Tryd.prog 74 #[.int .i64 m] w fun e w' => e = .returned (.bool true) ∧ w = w' := by
  go_enter Tryd.func74, Tryd.ntmps74
  go_wp2
  go_ret
  exact ⟨rfl, rfl⟩
theorem may_no (m : Int) (w : World) (h : ¬ (0 ≤ m ∧ m ≤ 6)) :
    Calls Tryd.prog 74 #[.int .i64 m] w fun e w' => e = .returned (.bool false) ∧ w = w' := by
  by_cases h0 : 0 ≤ m
  · have h6 : ¬ m ≤ 6 := fun q => h ⟨h0, q⟩
    clear h
    go_enter Tryd.func74, Tryd.ntmps74
    go_wp2
    go_ret
    exact ⟨rfl, rfl⟩
  · clear h
    go_enter Tryd.func74, Tryd.ntmps74
    go_wp2
    go_ret
    exact ⟨rfl, rfl⟩

theorem known_any (m : Int) (w : World) :
    Calls Tryd.prog 82 #[.int .i64 m] w fun e w' => e = .returned (.int .i64 (kn m : Nat)) ∧ w = w' := by
  by_cases h : 0 ≤ m ∧ m ≤ 6
  · have e := kn_in h.1 h.2
    rw [e]
    clear e
    obtain ⟨h0, h6⟩ := h
    go_enter Tryd.func82, Tryd.ntmps82
    go_wp2_with (go_at_call 74; refine (may_yes _ _ h0 h6).mono ?_; rintro e w' ⟨rfl, rfl⟩)
    go_ret
    exact ⟨rfl, rfl⟩
  · rw [kn_out h]
    go_enter Tryd.func82, Tryd.ntmps82
    go_wp2_with (go_at_call 74; refine (may_no _ _ h).mono ?_; rintro e w' ⟨rfl, rfl⟩)
    go_ret
    exact ⟨rfl, rfl⟩

theorem kn_cases (m : Int) : kn m = 0 ∨ kn m = 1 ∨ kn m = 2 ∨ kn m = 3 ∨ kn m = 4 ∨ kn m = 5 ∨ kn m = 6 := by have := kn_le m; omega

abbrev pt (j : Nat) : Value := .complex .f64 (fb (reN j)) (fb (imN j))

@[go_sem] theorem run_store_complex (P : Program) (w : World) (a : Addr) (m : Mode) (k : FloatKind) (x y : Nat) : (store a (.complex k x y) m).run P w = stored P w a (.complex k x y) m := run_store P w a _ m rfl

/-- the look of one point: which of the seven it is has been settled -/
theorem at_is (m : Int) (w : World) (j : Nat) (hj : j ≤ 6) (h : kn m = j) :
    Calls Tryd.prog 94 #[.int .i64 m] w fun e w' => e = .returned (pt j) ∧ Below w.heap.size w w' := by
  have hk : ∀ w : World, Calls Tryd.prog 82 #[.int .i64 m] w fun e w' => e = .returned (.int .i64 (j : Nat)) ∧ w = w' := by rw [← h]; exact known_any m
  clear h
  have hc : j = 0 ∨ j = 1 ∨ j = 2 ∨ j = 3 ∨ j = 4 ∨ j = 5 ∨ j = 6 := by omega
  clear hj
  rcases hc with rfl | rfl | rfl | rfl | rfl | rfl | rfl
  all_goals
    go_enter Tryd.func94, Tryd.ntmps94
    go_wp2_with (go_at_call 82; refine (hk _).mono ?_; rintro e w' ⟨rfl, rfl⟩)
    go_ret
    exact ⟨rfl, (Below.refl _ _).alloc (Nat.le_refl _) _⟩
end Go.Proofs.YteaibamkfccplaaDoor
