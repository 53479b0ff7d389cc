/- The contracts of the program's functions on modes, the fourth part: what is needed above, what a mode lets one do, and the names. -/
import Derived.Test.YtagbfonmeolnjaaDoorB1
namespace Go.Proofs.YtagbfonmeolnjaaDoor
open Go Go.RowKit

def parN : Nat → Nat
  | 0 => 0
  | 1 => 1
  | 3 => 1
  | _ => 2
theorem parN_le (j : Nat) : parN j ≤ 2 := by unfold parN; split <;> omega
theorem parent_any (m : Int) (j : Nat) (w : World) (hj : j ≤ 6) (h : kn m = j) :
    Calls Tryd.prog 17 #[.int .i64 m] w fun e w' => e = .returned (.int .i64 (parN j : Nat)) ∧ w = w' := by
  have hk : ∀ w : World, Calls Tryd.prog 29 #[.int .i64 m] w fun e w' => e = .returned (.int .i64 (j : Nat)) ∧ w = w' := by rw [← h]; exact known_any m
  clear h
  have hc : j = 0 ∨ j = 1 ∨ j = 2 ∨ j = 3 ∨ j = 4 ∨ j = 5 ∨ j = 6 := by omega
  clear hj
  rcases hc with rfl | rfl | rfl | rfl | rfl | rfl | rfl
  all_goals
    go_enter Tryd.func17, Tryd.ntmps17
    go_wp2_with (go_at_call 29; refine (hk _).mono ?_; rintro e w' ⟨rfl, rfl⟩)
    go_ret
    exact ⟨rfl, rfl⟩
theorem par_g {m : Int} {v : Nat} (w : World) (h : parN (kn m) = v) : Gives w 17 #[.int .i64 m] (.int .i64 (v : Nat)) := fun _ hb => by
  rw [← h]; exact acc_same hb (parent_any m _ _ (kn_le m) rfl)

def readsB (j : Nat) : Bool := decide (1 ≤ reN j)
def writesB (j : Nat) : Bool := decide (3 ≤ reN j)
theorem reads_any (m : Int) (w0 w : World) (hb : Below w0.heap.size w0 w) :
    Calls Tryd.prog 19 #[.int .i64 m] w fun e w' => e = .returned (.bool (readsB (kn m))) ∧ Below w0.heap.size w0 w' := by
  have g : (FloatKind.f64.format.order (fb (reN (kn m))) 4607182418800017408 == some .gt || FloatKind.f64.format.order (fb (reN (kn m))) 4607182418800017408 == some .eq) = readsB (kn m) := geB_eq (reN (kn m)) (reN_le _) 1 (by omega)
  go_enter Tryd.func19, Tryd.ntmps19
  go_wp2_with (go_at_call 26; refine (acc (w0 := w0) (by assumption) (at_is _ _ _ (kn_le _) rfl)).mono ?_; rintro e w1 ⟨rfl, hb1⟩)
  go_ret
  exact ⟨rfl, by assumption⟩
theorem writes_any (m : Int) (w0 w : World) (hb : Below w0.heap.size w0 w) :
    Calls Tryd.prog 21 #[.int .i64 m] w fun e w' => e = .returned (.bool (writesB (kn m))) ∧ Below w0.heap.size w0 w' := by
  have g : (FloatKind.f64.format.order (fb (reN (kn m))) 4613937818241073152 == some .gt || FloatKind.f64.format.order (fb (reN (kn m))) 4613937818241073152 == some .eq) = writesB (kn m) := geB_eq (reN (kn m)) (reN_le _) 3 (by omega)
  go_enter Tryd.func21, Tryd.ntmps21
  go_wp2_with (go_at_call 26; refine (acc (w0 := w0) (by assumption) (at_is _ _ _ (kn_le _) rfl)).mono ?_; rintro e w1 ⟨rfl, hb1⟩)
  go_ret
  exact ⟨rfl, by assumption⟩
theorem reads_g {m : Int} {b : Bool} (w : World) (h : readsB (kn m) = b) : Gives w 19 #[.int .i64 m] (.bool b) := fun w' hb => by rw [← h]; exact reads_any m w w' hb
theorem writes_g {m : Int} {b : Bool} (w : World) (h : writesB (kn m) = b) : Gives w 21 #[.int .i64 m] (.bool b) := fun w' hb => by rw [← h]; exact writes_any m w w' hb

def symB (i j : Nat) : Bool := goesN i j || goesN j i
theorem sym_any (m n : Int) (w0 w : World) (ht : TabG w0) (hb : Below w0.heap.size w0 w) :
    Calls Tryd.prog 15 #[.int .i64 m, .int .i64 n] w fun e w' => e = .returned (.bool (symB (kn m) (kn n))) ∧ Below w0.heap.size w0 w' := by
  unfold symB
  cases h1 : goesN (kn m) (kn n)
  · have q1 : Gives w0 13 #[.int .i64 m, .int .i64 n] (.bool false) := com_g ht h1
    obtain ⟨b, h2⟩ : ∃ b, goesN (kn n) (kn m) = b := ⟨_, rfl⟩
    have q2 : Gives w0 13 #[.int .i64 n, .int .i64 m] (.bool b) := com_g ht h2
    rw [h2, Bool.false_or]
    clear h1 h2
    go_enter Tryd.func15, Tryd.ntmps15
    go_wp2_with (go_at_call 13; refine Gives.use (w0 := w0) (by with_reducible assumption) (by assumption) ?_; intro w1 hb1)
    go_ret
    exact ⟨rfl, by assumption⟩
  · have q1 : Gives w0 13 #[.int .i64 m, .int .i64 n] (.bool true) := com_g ht h1
    rw [Bool.true_or]
    clear h1
    go_enter Tryd.func15, Tryd.ntmps15
    go_wp2_with (go_at_call 13; refine Gives.use (w0 := w0) (by with_reducible assumption) (by assumption) ?_; intro w1 hb1)
    go_ret
    exact ⟨rfl, by assumption⟩
theorem sym_g {m n : Int} {b : Bool} {w : World} (ht : TabG w) (h : symB (kn m) (kn n) = b) : Gives w 15 #[.int .i64 m, .int .i64 n] (.bool b) := fun w' hb => by rw [← h]; exact sym_any m n w w' ht hb
end Go.Proofs.YtagbfonmeolnjaaDoor
