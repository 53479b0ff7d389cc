/- The walk of the law that no two seeds have one draw. -/
import Derived.Test.YtjaiahnibeieiaaA3
namespace Go.Proofs.Ytjaiahnibeieiaa
open Go Go.RowKit

theorem seeds_zero (a b : Nat) (w : World) (ha : a < 18446744073709551616) (hb : b < 18446744073709551616) (h : a = 0 ∨ b = 0) :
    Calls Try.prog 6 #[.int .u64 (a : Int), .int .u64 (b : Int)] w fun e w' => e = .returned (.bool true) ∧ Below w.heap.size w w' := by
  by_cases h0 : a = 0
  · subst h0
    go_enter Try.func6, Try.ntmps6
    go_wp2_with fail
    refine (awake_any _).mono ?_
    rintro e w1 ⟨rfl, hb1⟩
    have HX := Lib.hid (next_any 0 w1 (by omega))
    have HY := Lib.hid (next_any 1 w1 (by omega))
    rw [nx_zero] at HX
    generalize nx 1 = y at HX HY
    go_wp2_with fail
    refine HX.out.mono ?_
    rintro e w2 ⟨rfl, rfl⟩
    go_wp2_with fail
    refine HY.out.mono ?_
    rintro e w2 ⟨rfl, rfl⟩
    go_wp2_with fail
    go_ret
    exact ⟨rfl, hb1⟩
  · obtain rfl : b = 0 := by omega
    have hn : decide ((a : Int) = 0) = false := by simp; omega
    go_enter Try.func6, Try.ntmps6
    go_wp2_with fail
    refine (awake_any _).mono ?_
    rintro e w1 ⟨rfl, hb1⟩
    have HX := Lib.hid (next_any 0 w1 (by omega))
    have HY := Lib.hid (next_any 1 w1 (by omega))
    rw [nx_zero] at HX
    generalize nx 1 = y at HX HY
    go_wp2_with fail
    refine HX.out.mono ?_
    rintro e w2 ⟨rfl, rfl⟩
    go_wp2_with fail
    refine HY.out.mono ?_
    rintro e w2 ⟨rfl, rfl⟩
    go_wp2_with fail
    go_ret
    exact ⟨rfl, hb1⟩
theorem seeds_same (a x : Nat) (w : World) (h0 : 0 < a) (hx : x ≠ 0) (HA : ∀ w, Hid (Calls Try.prog 13 #[.int .u64 (a : Int)] w fun e w' => e = .returned (.int .u64 (x : Int)) ∧ w = w')) :
    Calls Try.prog 6 #[.int .u64 (a : Int), .int .u64 (a : Int)] w fun e w' => e = .returned (.bool true) ∧ Below w.heap.size w w' := by
  have hn : decide ((a : Int) = 0) = false := by simp; omega
  have hz : ((x : Int) != 0) = true := by simp; omega
  go_enter Try.func6, Try.ntmps6
  go_wp2_with fail
  refine (awake_any _).mono ?_
  rintro e w1 ⟨rfl, hb1⟩
  go_wp2_with fail
  refine (HA w1).out.mono ?_
  rintro e w2 ⟨rfl, rfl⟩
  go_wp2_with fail
  refine (HA w1).out.mono ?_
  rintro e w2 ⟨rfl, rfl⟩
  go_wp2_with fail
  refine (HA w1).out.mono ?_
  rintro e w2 ⟨rfl, rfl⟩
  go_wp2_with fail
  go_ret
  exact ⟨rfl, hb1⟩
theorem seeds_unlike (a b x y : Nat) (w : World) (h0 : 0 < a) (h1 : 0 < b) (hx : x ≠ 0) (hab : a ≠ b) (hxy : x ≠ y) (HA : ∀ w, Hid (Calls Try.prog 13 #[.int .u64 (a : Int)] w fun e w' => e = .returned (.int .u64 (x : Int)) ∧ w = w'))
    (HB : ∀ w, Hid (Calls Try.prog 13 #[.int .u64 (b : Int)] w fun e w' => e = .returned (.int .u64 (y : Int)) ∧ w = w')) :
    Calls Try.prog 6 #[.int .u64 (a : Int), .int .u64 (b : Int)] w fun e w' => e = .returned (.bool true) ∧ Below w.heap.size w w' := by
  have hn : decide ((a : Int) = 0) = false := by simp; omega
  have hm : decide ((b : Int) = 0) = false := by simp; omega
  have hn' : ((a : Int) == 0) = false := by simp; omega
  have hm' : ((b : Int) == 0) = false := by simp; omega
  have hz : ((x : Int) != 0) = true := by simp; omega
  have d1 : decide ((x : Int) = (y : Int)) = false := by simp; omega
  have d2 : decide ((a : Int) = (b : Int)) = false := by simp; omega
  have d3 : ((x : Int) == (y : Int)) = false := by simp; omega
  have d4 : ((a : Int) == (b : Int)) = false := by simp; omega
  go_enter Try.func6, Try.ntmps6
  go_wp2_with fail
  refine (awake_any _).mono ?_
  rintro e w1 ⟨rfl, hb1⟩
  go_wp2_with fail
  refine (HA w1).out.mono ?_
  rintro e w2 ⟨rfl, rfl⟩
  go_wp2_with fail
  refine (HB w1).out.mono ?_
  rintro e w2 ⟨rfl, rfl⟩
  go_wp2_with fail
  refine (HA w1).out.mono ?_
  rintro e w2 ⟨rfl, rfl⟩
  go_wp2_with fail
  go_ret
  exact ⟨rfl, hb1⟩
theorem seeds_pos (a b : Nat) (w : World) (ha : a < 18446744073709551616) (hb : b < 18446744073709551616) (h0 : 0 < a) (h1 : 0 < b) :
    Calls Try.prog 6 #[.int .u64 (a : Int), .int .u64 (b : Int)] w fun e w' => e = .returned (.bool true) ∧ Below w.heap.size w w' := by
  by_cases e : a = b
  · subst e
    exact seeds_same a (nx a) w h0 (nx_pos ha h0) (fun w => Lib.hid (next_any a w ha))
  · exact seeds_unlike a b (nx a) (nx b) w h0 h1 (nx_pos ha h0) e (fun h => e (nx_inj ha hb h0 h1 h)) (fun w => Lib.hid (next_any a w ha)) (fun w => Lib.hid (next_any b w hb))
theorem seeds_walk (a b : Nat) (w : World) (ha : a < 18446744073709551616) (hb : b < 18446744073709551616) :
    Calls Try.prog 6 #[.int .u64 (a : Int), .int .u64 (b : Int)] w fun e w' => e = .returned (.bool true) ∧ Below w.heap.size w w' := by
  by_cases h : a = 0 ∨ b = 0
  · exact seeds_zero a b w ha hb h
  · exact seeds_pos a b w ha hb (by omega) (by omega)
end Go.Proofs.Ytjaiahnibeieiaa
