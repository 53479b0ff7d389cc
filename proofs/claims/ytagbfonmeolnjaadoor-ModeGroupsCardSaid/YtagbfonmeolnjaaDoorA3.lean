/- The contracts of the program's functions on modes, the third part: those that look into the two tables. -/
import Derived.Test.YtagbfonmeolnjaaDoorA2
namespace Go.Proofs.YtagbfonmeolnjaaDoor
open Go Go.RowKit

def goesN (i j : Nat) : Bool :=
  match i with
  | 0 => true
  | 1 => decide (j < 6)
  | 2 => decide (j < 3)
  | 3 => decide (j = 0 ∨ j = 1 ∨ j = 3 ∨ j = 5)
  | 4 => decide (j < 2)
  | 5 => decide (j < 2)
  | _ => decide (j = 0)
structure TabG (w : World) : Prop where
  size : 1 < w.heap.size
  cell : ∀ i j, i ≤ 6 → j ≤ 6 → w.cell? ⟨1, i * 7 + j, none⟩ = some (.bool (goesN i j))
theorem TabG.later {w0 w : World} (h : TabG w0) (hb : Below w0.heap.size w0 w) : TabG w :=
  ⟨Nat.lt_of_lt_of_le h.size hb.size, fun i j hi hj => by rw [hb.cell (p := ⟨1, i * 7 + j, none⟩) h.size]; exact h.cell i j hi hj⟩

theorem compat_any (m n : Int) (w0 w : World) (ht : TabG w0) (hb : Below w0.heap.size w0 w) :
    Calls Tryd.prog 13 #[.int .i64 m, .int .i64 n] w fun e w' => e = .returned (.bool (goesN (kn m) (kn n))) ∧ Below w0.heap.size w0 w' := by
  have hc := (ht.later hb).cell (kn m) (kn n) (kn_le m) (kn_le n)
  have i1 : ((kn m : Nat) : Int) < 7 := by have := kn_le m; omega
  have i2 : ((kn n : Nat) : Int) < 7 := by have := kn_le n; omega
  have j1 : kn m < 7 := by omega
  have j2 : kn n < 7 := by omega
  go_enter Tryd.func13, Tryd.ntmps13
  go_wp2
  go_quiet ((go_at_call 29; exact Calls.quiet_of_same ((known_any _ _).mono fun _ _ ⟨a, b⟩ => ⟨a, b.symm⟩)))
  go_wp2
  go_ret
  exact ⟨rfl, below_drewN hb _⟩
theorem compat_is (m n : Int) (b : Bool) (w0 w : World) (ht : TabG w0) (hb : Below w0.heap.size w0 w) (h : goesN (kn m) (kn n) = b) :
    Calls Tryd.prog 13 #[.int .i64 m, .int .i64 n] w fun e w' => e = .returned (.bool b) ∧ Below w0.heap.size w0 w' := by
  subst h; exact compat_any m n w0 w ht hb
theorem covers_is (m n : Int) (b : Bool) (w0 w : World) (hb : Below w0.heap.size w0 w) (h : covB (kn m) (kn n) = b) :
    Calls Tryd.prog 24 #[.int .i64 m, .int .i64 n] w fun e w' => e = .returned (.bool b) ∧ Below w0.heap.size w0 w' := by
  subst h; exact covers_any m n w0 w hb
theorem sup_is (m n : Int) (v : Int) (w0 w : World) (hb : Below w0.heap.size w0 w) (h : (supN (kn m) (kn n) : Int) = v) :
    Calls Tryd.prog 23 #[.int .i64 m, .int .i64 n] w fun e w' => e = .returned (.int .i64 v) ∧ Below w0.heap.size w0 w' := by
  subst h; exact sup_any m n w0 w hb

theorem awake_any (w0 w : World) (ht : TabG w0) (hb : Below w0.heap.size w0 w) :
    Calls Tryd.prog 8 #[] w fun e w' => e = .returned (.bool true) ∧ Below w0.heap.size w0 w' := by
  have o1 : FloatKind.f64.format.order (fb (reN 4)) 4607182418800017408 = some .eq := by decide +kernel
  have o2 : FloatKind.f64.format.order (fb (imN 4)) 4611686018427387904 = some .eq := by decide +kernel
  go_enter Tryd.func8, Tryd.ntmps8
  go_wp2_with (first | (go_at_call 23; (with_reducible refine (sup_is 3 2 4 w0 _ (by assumption) (by decide)).mono ?_); rintro e w1 ⟨rfl, hb1⟩) | (go_at_call 23; (with_reducible refine (sup_is 5 2 6 w0 _ (by assumption) (by decide)).mono ?_); rintro e w1 ⟨rfl, hb1⟩) | (go_at_call 13; (with_reducible refine (compat_is 3 5 true w0 _ ht (by assumption) (by decide)).mono ?_); rintro e w1 ⟨rfl, hb1⟩) | (go_at_call 13; (with_reducible refine (compat_is 5 3 false w0 _ ht (by assumption) (by decide)).mono ?_); rintro e w1 ⟨rfl, hb1⟩) | (go_at_call 26; (with_reducible refine (acc (w0 := w0) (by assumption) (at_is _ _ 4 (by omega) (by decide))).mono ?_); rintro e w1 ⟨rfl, hb1⟩))
  go_ret
  exact ⟨rfl, by assumption⟩
end Go.Proofs.YtagbfonmeolnjaaDoor
