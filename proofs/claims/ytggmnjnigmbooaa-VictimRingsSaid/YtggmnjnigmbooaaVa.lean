/- Who gives way as one waits for another one, and why: the program's answers; the chapter's examples. -/
import Derived.Test.YtggmnjnigmbooaaK1
namespace Go.Proofs.Ytggmnjnigmbooaa
open Go Go.RowKit
set_option maxRecDepth 100000

/-- who gives way: 1 who waits, 2 the other one, 0 nobody -/
def judge (p a b : Int) : Int := if p = 1 then (if b < a then 1 else 0) else if p = 2 then (if a < b then 2 else 0) else 0
theorem judge_any (p a b : Int) (w : World) : Calls Try.prog 11 #[.int .i64 p, .int .i64 a, .int .i64 b] w fun e w' => e = .returned (.int .i64 (judge p a b)) ∧ w' = w := by
  unfold judge
  by_cases h1 : p = 1
  · subst h1
    by_cases h2 : b < a
    · rw [if_pos rfl, if_pos h2]
      go_enter Try.func11, Try.ntmps11
      go_wp2
      go_ret
      exact ⟨rfl, rfl⟩
    · rw [if_pos rfl, if_neg h2]
      go_enter Try.func11, Try.ntmps11
      go_wp2
      go_ret
      exact ⟨rfl, rfl⟩
  · rw [if_neg h1]
    by_cases h2 : p = 2
    · subst h2
      by_cases h3 : a < b
      · rw [if_pos rfl, if_pos h3]
        go_enter Try.func11, Try.ntmps11
        go_wp2
        go_ret
        exact ⟨rfl, rfl⟩
      · rw [if_pos rfl, if_neg h3]
        go_enter Try.func11, Try.ntmps11
        go_wp2
        go_ret
        exact ⟨rfl, rfl⟩
    · rw [if_neg h2]
      go_enter Try.func11, Try.ntmps11
      go_wp2
      go_ret
      exact ⟨rfl, rfl⟩
/-- why -/
def kill (p who : Int) : Int := if p = 0 then 43 else if p = 3 then 44 else if p = 1 ∧ who = 1 then 41 else if p = 2 ∧ who = 2 then 42 else 0
theorem kill_any (p who : Int) (w : World) : Calls Try.prog 8 #[.int .i64 p, .int .i64 who] w fun e w' => e = .returned (.int .i64 (kill p who)) ∧ w' = w := by
  unfold kill
  by_cases h0 : p = 0
  · subst h0
    rw [if_pos rfl]
    go_enter Try.func8, Try.ntmps8
    go_wp2
    go_ret
    exact ⟨rfl, rfl⟩
  by_cases h3 : p = 3
  · subst h3
    rw [if_neg (by decide), if_pos rfl]
    go_enter Try.func8, Try.ntmps8
    go_wp2
    go_ret
    exact ⟨rfl, rfl⟩
  by_cases h1 : p = 1
  · subst h1
    by_cases h : who = 1
    · rw [if_neg (by decide), if_neg (by decide), if_pos ⟨rfl, h⟩]
      go_enter Try.func8, Try.ntmps8
      go_wp2
      go_ret
      exact ⟨rfl, rfl⟩
    · rw [if_neg (by decide), if_neg (by decide), if_neg (by omega), if_neg (by omega)]
      go_enter Try.func8, Try.ntmps8
      go_wp2
      go_ret
      exact ⟨rfl, rfl⟩
  by_cases h2 : p = 2
  · subst h2
    by_cases h : who = 2
    · rw [if_neg (by decide), if_neg (by decide), if_neg (by omega), if_pos ⟨rfl, h⟩]
      go_enter Try.func8, Try.ntmps8
      go_wp2
      go_ret
      exact ⟨rfl, rfl⟩
    · rw [if_neg (by decide), if_neg (by decide), if_neg (by omega), if_neg (by omega)]
      go_enter Try.func8, Try.ntmps8
      go_wp2
      go_ret
      exact ⟨rfl, rfl⟩
  rw [if_neg h0, if_neg h3, if_neg (by omega), if_neg (by omega)]
  go_enter Try.func8, Try.ntmps8
  go_wp2
  go_ret
  exact ⟨rfl, rfl⟩
theorem awake_any (w : World) : Calls Try.prog 7 #[] w fun e w' => e = .returned (.bool true) ∧ w' = w := by
  have h1 := Lib.hid (judge_any 1 5 3 w)
  have h2 := Lib.hid (judge_any 2 3 5 w)
  have h3 := Lib.hid (kill_any 0 0 w)
  go_enter Try.func7, Try.ntmps7
  go_wp2_with fail
  refine h1.out.mono ?_
  rintro e w1 ⟨rfl, rfl⟩
  go_wp2_with fail
  refine h2.out.mono ?_
  rintro e w1 ⟨rfl, rfl⟩
  go_wp2_with fail
  refine h3.out.mono ?_
  rintro e w1 ⟨rfl, rfl⟩
  go_wp2_with fail
  go_ret
  exact ⟨rfl, rfl⟩
end Go.Proofs.Ytggmnjnigmbooaa
