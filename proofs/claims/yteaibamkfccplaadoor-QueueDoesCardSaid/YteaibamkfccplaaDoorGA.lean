/- Which mode goes with which: the program's answers, out of its table, and the document's. -/
import Derived.Test.YteaibamkfccplaaDoorMC
namespace Go.Proofs.YteaibamkfccplaaDoor
open Go Go.RowKit

theorem below_drewN {B : Nat} {a w : World} (h : Below B a w) (n : Nat) : Below B a (w.drewN n) := h.trans ⟨rfl, rfl, rfl, Nat.le_refl _, fun _ _ => rfl⟩
def goesN (i j : Nat) : Bool :=
  match i with
  | 0 => true
  | 1 => decide (j < 6)
  | 2 => decide (j < 3)
  | 3 => decide (j = 0 ∨ j = 1 ∨ j = 3 ∨ j = 5)
  | 4 => decide (j < 2)
  | 5 => decide (j < 2)
  | _ => decide (j = 0)
structure TabG (w : World) : Prop where
  size : 0 < w.heap.size
  cell : ∀ i j, i ≤ 6 → j ≤ 6 → w.cell? ⟨0, i * 7 + j, none⟩ = some (.bool (goesN i j))
theorem TabG.later {w0 w : World} (h : TabG w0) (hb : Below w0.heap.size w0 w) : TabG w :=
  ⟨Nat.lt_of_lt_of_le h.size hb.size, fun i j hi hj => by rw [hb.cell (p := ⟨0, i * 7 + j, none⟩) h.size]; exact h.cell i j hi hj⟩

theorem compat_any (m n : Int) (w0 w : World) (ht : TabG w0) (hb : Below w0.heap.size w0 w) :
    Calls Tryd.prog 59 #[.int .i64 m, .int .i64 n] w fun e w' => e = .returned (.bool (goesN (kn m) (kn n))) ∧ Below w0.heap.size w0 w' := by
  have hc := (ht.later hb).cell (kn m) (kn n) (kn_le m) (kn_le n)
  have i1 : ((kn m : Nat) : Int) < 7 := by have := kn_le m; omega
  have i2 : ((kn n : Nat) : Int) < 7 := by have := kn_le n; omega
  have j1 : kn m < 7 := by omega
  have j2 : kn n < 7 := by omega
  go_enter Tryd.func59, Tryd.ntmps59
  go_wp2
  go_quiet ((go_at_call 82; exact Calls.quiet_of_same ((known_any _ _).mono fun _ _ ⟨a, b⟩ => ⟨a, b.symm⟩)))
  go_wp2
  go_ret
  exact ⟨rfl, below_drewN hb _⟩
theorem compat_is (m n : Int) (b : Bool) (w0 w : World) (ht : TabG w0) (hb : Below w0.heap.size w0 w) (h : goesN (kn m) (kn n) = b) :
    Calls Tryd.prog 59 #[.int .i64 m, .int .i64 n] w fun e w' => e = .returned (.bool b) ∧ Below w0.heap.size w0 w' := by
  subst h; exact compat_any m n w0 w ht hb
theorem com_g {m n : Int} {b : Bool} {w : World} (ht : TabG w) (h : goesN (kn m) (kn n) = b) : Gives w 59 #[.int .i64 m, .int .i64 n] (.bool b) := fun w' hb => compat_is m n _ w w' ht hb h
def symB (i j : Nat) : Bool := goesN i j || goesN j i
theorem sym_any (m n : Int) (w0 w : World) (ht : TabG w0) (hb : Below w0.heap.size w0 w) :
    Calls Tryd.prog 77 #[.int .i64 m, .int .i64 n] w fun e w' => e = .returned (.bool (symB (kn m) (kn n))) ∧ Below w0.heap.size w0 w' := by
  unfold symB
  cases h1 : goesN (kn m) (kn n)
  · have q1 : Gives w0 59 #[.int .i64 m, .int .i64 n] (.bool false) := com_g ht h1
    obtain ⟨b, h2⟩ : ∃ b, goesN (kn n) (kn m) = b := ⟨_, rfl⟩
    have q2 : Gives w0 59 #[.int .i64 n, .int .i64 m] (.bool b) := com_g ht h2
    rw [h2, Bool.false_or]
    clear h1 h2
    go_enter Tryd.func77, Tryd.ntmps77
    go_wp2_with (go_at_call 59; refine Gives.use (w0 := w0) (by with_reducible assumption) (by assumption) ?_; intro w1 hb1)
    go_ret
    exact ⟨rfl, by assumption⟩
  · have q1 : Gives w0 59 #[.int .i64 m, .int .i64 n] (.bool true) := com_g ht h1
    rw [Bool.true_or]
    clear h1
    go_enter Tryd.func77, Tryd.ntmps77
    go_wp2_with (go_at_call 59; refine Gives.use (w0 := w0) (by with_reducible assumption) (by assumption) ?_; intro w1 hb1)
    go_ret
    exact ⟨rfl, by assumption⟩
theorem sym_g {m n : Int} {b : Bool} {w : World} (ht : TabG w) (h : symB (kn m) (kn n) = b) : Gives w 77 #[.int .i64 m, .int .i64 n] (.bool b) := fun w' hb => by rw [← h]; exact sym_any m n w w' ht hb
theorem goes_none (j : Nat) : goesN 0 j = true := rfl
theorem goes_to_none : ∀ i, i ≤ 6 → goesN i 0 = true := by decide +kernel
theorem rcompat_any (m n : Int) (w : World) :
    Calls Tryd.prog 71 #[.int .i64 m, .int .i64 n] w fun e w' => e = .returned (.bool (goesN (kn m) (kn n))) ∧ w = w' := by
  by_cases h : 0 ≤ m ∧ m ≤ 6
  · by_cases g : 0 ≤ n ∧ n ≤ 6
    · have y1 := fun w => rmay_yes m w h.1 h.2
      have y2 := fun w => rmay_yes n w g.1 g.2
      rcases in_cases h with rfl | rfl | rfl | rfl | rfl | rfl | rfl <;> rcases in_cases g with rfl | rfl | rfl | rfl | rfl | rfl | rfl
      all_goals
        clear h g
        go_enter Tryd.func71, Tryd.ntmps71
        go_wp2_with (go_at_call 91; first | ((with_reducible refine (y1 _).mono ?_); rintro e w' ⟨rfl, rfl⟩) | ((with_reducible refine (y2 _).mono ?_); rintro e w' ⟨rfl, rfl⟩))
        go_ret
        exact ⟨rfl, rfl⟩
    · have y1 := fun w => rmay_yes m w h.1 h.2
      have y2 := fun w => rmay_no n w g
      rw [kn_out g, goes_to_none _ (kn_le m)]
      clear h g
      go_enter Tryd.func71, Tryd.ntmps71
      go_wp2_with (go_at_call 91; first | ((with_reducible refine (y1 _).mono ?_); rintro e w' ⟨rfl, rfl⟩) | ((with_reducible refine (y2 _).mono ?_); rintro e w' ⟨rfl, rfl⟩))
      go_ret
      exact ⟨rfl, rfl⟩
  · have y1 := fun w => rmay_no m w h
    rw [kn_out h, goes_none]
    clear h
    go_enter Tryd.func71, Tryd.ntmps71
    go_wp2_with (go_at_call 91; (with_reducible refine (y1 _).mono ?_); rintro e w' ⟨rfl, rfl⟩)
    go_ret
    exact ⟨rfl, rfl⟩
theorem rcom_g {m n : Int} {b : Bool} (w : World) (h : goesN (kn m) (kn n) = b) : Gives w 71 #[.int .i64 m, .int .i64 n] (.bool b) := fun w' hb => by rw [← h]; exact acc_same hb (rcompat_any m n w')
end Go.Proofs.YteaibamkfccplaaDoor
