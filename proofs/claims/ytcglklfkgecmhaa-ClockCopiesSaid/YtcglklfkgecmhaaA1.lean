/- A clock in memory: its three cells; whether it was made, its room, its time, and how many stamps are left. -/
import Derived.Test.YtcglklfkgecmhaaProg
import Derived.WalkKit
import Derived.WalkLawsBesides
import Derived.Deep.QuietTactic
import Derived.BigQuiet
import Derived.WalkSmall
import Derived.KernelRfl
import Derived.Lib.Hide
namespace Go.Proofs.Ytcglklfkgecmhaa
open Go Go.RowKit

abbrev clk (b : Nat) : Value := .pointer (some ⟨b, 0, none⟩)
/-- the method value that bounds: room, bound to the most -/
abbrev roomF (m : Int) : Value := .func (.func 16) #[.int .i64 m] #[]

/-- a clock lies in a block: its time, its stamp, its bound -/
structure ClkAt (w : World) (b : Nat) (n s m : Int) : Prop where
  c0 : w.cell? ⟨b, 0, none⟩ = some (.int .i64 n)
  c1 : w.cell? ⟨b, 1, none⟩ = some (.int .i64 s)
  c2 : w.cell? ⟨b, 2, none⟩ = some (roomF m)
  f0 : w.frozen? ⟨b, 0, none⟩ = false
  f1 : w.frozen? ⟨b, 1, none⟩ = false
  lt : b < w.heap.size

theorem run_equalIn_func (d : Nat) (w : World) (f : Fn) (a c : Array Value) : (Op.equalIn (d + 1) 42 (.func f a c) .nilFunc).run Try.prog w = .ok false w := by
  simp [Op.equalIn, run_underlying Try.underlying42]
theorem run_equal_func (w : World) (f : Fn) (a c : Array Value) : (Op.equal 42 (.func f a c) .nilFunc).run Try.prog w = .ok false w := run_equalIn_func 9999 w f a c
@[go_sem] theorem run_neq_func (w : World) (f : Fn) (a c : Array Value) : (binOp .neq 42 (.func f a c) .nilFunc).run Try.prog w = .ok (.bool true) w := by
  simp only [binOp]
  simp [run_equal_func w f a c]

theorem made_yes {w : World} {b : Nat} {n s m : Int} (h : ClkAt w b n s m) :
    Calls Try.prog 17 #[clk b] w fun e w' => e = .returned (.bool true) ∧ w = w' := by
  obtain ⟨c0, c1, c2, f0, f1, hlt⟩ := h
  go_enter Try.func17, Try.ntmps17
  go_wp2
  go_ret
  exact ⟨rfl, rfl⟩
theorem made_no (w : World) :
    Calls Try.prog 17 #[.pointer none] w fun e w' => e = .returned (.bool false) ∧ w = w' := by
  go_enter Try.func17, Try.ntmps17
  go_wp2
  go_ret
  exact ⟨rfl, rfl⟩
theorem room_any (m s : Int) (w : World) (h0 : 0 ≤ s) (h1 : s ≤ m) (h2 : m ≤ 1099511627776) :
    Calls Try.prog 16 #[.int .i64 m, .int .i64 s] w fun e w' => e = .returned (.int .i64 (m - s)) ∧ w = w' := by
  go_enter Try.func16, Try.ntmps16
  go_wp2
  go_ret
  exact ⟨rfl, rfl⟩
theorem now_yes {w : World} {b : Nat} {n s m : Int} (h : ClkAt w b n s m) :
    Calls Try.prog 14 #[clk b] w fun e w' => e = .returned (.int .i64 n) ∧ w = w' := by
  have H := Lib.hid h
  obtain ⟨c0, c1, c2, f0, f1, hlt⟩ := h
  go_enter Try.func14, Try.ntmps14
  go_wp2_with (go_at_call 17; ((with_reducible refine (made_yes H.out).mono ?_); rintro e w' ⟨rfl, rfl⟩))
  go_ret
  exact ⟨rfl, rfl⟩
theorem now_no (w : World) :
    Calls Try.prog 14 #[.pointer none] w fun e w' => e = .returned (.int .i64 0) ∧ w = w' := by
  go_enter Try.func14, Try.ntmps14
  go_wp2_with (go_at_call 17; ((with_reducible refine (made_no _).mono ?_); rintro e w' ⟨rfl, rfl⟩))
  go_ret
  exact ⟨rfl, rfl⟩
theorem left_no (w : World) :
    Calls Try.prog 15 #[.pointer none] w fun e w' => e = .returned (.int .i64 0) ∧ w = w' := by
  go_enter Try.func15, Try.ntmps15
  go_wp2_with (go_at_call 17; ((with_reducible refine (made_no _).mono ?_); rintro e w' ⟨rfl, rfl⟩))
  go_ret
  exact ⟨rfl, rfl⟩
theorem left_yes {w : World} {b : Nat} {n s m : Int} (h : ClkAt w b n s m) (h0 : 0 ≤ s) (h1 : s ≤ m) (h2 : m ≤ 1099511627776) :
    Calls Try.prog 15 #[clk b] w fun e w' => e = .returned (.int .i64 (m - s)) ∧ ∃ k, w' = w.drewN k := by
  have H := Lib.hid h
  obtain ⟨c0, c1, c2, f0, f1, hlt⟩ := h
  go_enter Try.func15, Try.ntmps15
  go_wp2_with (go_at_call 17; ((with_reducible refine (made_yes H.out).mono ?_); rintro e w' ⟨rfl, rfl⟩))
  go_quiet ((go_at_call 16; exact Calls.quiet_of_same ((room_any _ _ _ h0 h1 h2).mono fun _ _ ⟨he, hw⟩ => ⟨he, hw.symm⟩)))
  go_wp2
  go_ret
  exact ⟨rfl, _, rfl⟩
end Go.Proofs.Ytcglklfkgecmhaa
