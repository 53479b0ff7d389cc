/- Next, the program's and the document's; few, may. -/
import Derived.Test.YtjaiahnibeieiaaR1
import Derived.Test.YtjaiahnibeieiaaM1
namespace Go.Proofs.Ytjaiahnibeieiaa
open Go Go.RowKit

theorem next_any (x : Nat) (W : World) (h : x < 18446744073709551616) : Calls Try.prog 13 #[.int .u64 (x : Int)] W fun e w' => e = .returned (.int .u64 (nx x : Int)) ∧ W = w' := by
  obtain ⟨a, ha⟩ : ∃ a, oz x = a := ⟨_, rfl⟩
  have h1 : a < 18446744073709551616 := by rw [← ha]; exact oz_lt h
  have e1 := eA h1
  obtain ⟨b, hb⟩ : ∃ b, sA a = b := ⟨_, rfl⟩
  have h2 : b < 18446744073709551616 := by rw [← hb]; exact sA_lt h1
  have e2 := eB h2
  obtain ⟨c, hc⟩ : ∃ c, sB b = c := ⟨_, rfl⟩
  have h3 : c < 18446744073709551616 := by rw [← hc]; exact sB_lt h2
  have e3 := eC h3
  rw [hb] at e1
  rw [hc] at e2
  have hn : nx x = sC c := by unfold nx; rw [ha, hb, hc]
  rw [hn]
  generalize sC c = d at e3 ⊢
  clear hn hc hb
  unfold oz at ha
  go_enter Try.func13, Try.ntmps13
  by_cases h0 : x < 1
  · obtain rfl : x = 0 := by omega
    obtain rfl : 1 = a := by simpa using ha
    have e1' : bits .xor .u64 1 8192 = (b : Int) := by rw [← e1]; rfl
    clear e1
    go_wp2
    go_ret
    exact ⟨rfl, rfl⟩
  · rw [if_neg h0] at ha
    subst ha
    have h5 : ¬ (x : Int) < 1 := by omega
    go_wp2
    go_ret
    exact ⟨rfl, rfl⟩
theorem rnext_any (x : Nat) (W : World) (h : x < 18446744073709551616) : Calls Try.prog 10 #[.int .u64 (x : Int)] W fun e w' => e = .returned (.int .u64 (nx x : Int)) ∧ W = w' := by
  obtain ⟨a, ha⟩ : ∃ a, oz x = a := ⟨_, rfl⟩
  have h1 : a < 18446744073709551616 := by rw [← ha]; exact oz_lt h
  have e1 := eA h1
  obtain ⟨b, hb⟩ : ∃ b, sA a = b := ⟨_, rfl⟩
  have h2 : b < 18446744073709551616 := by rw [← hb]; exact sA_lt h1
  have e2 := eB h2
  obtain ⟨c, hc⟩ : ∃ c, sB b = c := ⟨_, rfl⟩
  have h3 : c < 18446744073709551616 := by rw [← hc]; exact sB_lt h2
  have e3 := eC h3
  rw [hb] at e1
  rw [hc] at e2
  have hn : nx x = sC c := by unfold nx; rw [ha, hb, hc]
  rw [hn]
  generalize sC c = d at e3 ⊢
  clear hn hc hb
  unfold oz at ha
  go_enter Try.func10, Try.ntmps10
  by_cases h0 : x < 1
  · obtain rfl : x = 0 := by omega
    obtain rfl : 1 = a := by simpa using ha
    have e1' : bits .xor .u64 1 8192 = (b : Int) := by rw [← e1]; rfl
    clear e1
    go_wp2
    go_ret
    exact ⟨rfl, rfl⟩
  · rw [if_neg h0] at ha
    subst ha
    have h5 : ¬ (x : Int) = 0 := by omega
    go_wp2
    go_ret
    exact ⟨rfl, rfl⟩
theorem few_any (n : Int) (W : World) : Calls Try.prog 24 #[.int .i64 n] W fun e w' => e = .returned (.bool (decide (1 ≤ n) && decide (n ≤ 64))) ∧ W = w' := by
  go_enter Try.func24, Try.ntmps24
  by_cases h : 1 ≤ n
  · go_wp2
    go_ret
    exact ⟨by simp [h], rfl⟩
  · have h' : n < 1 := by omega
    go_wp2
    go_ret
    exact ⟨by simp; omega, rfl⟩
/-- whether so many picks may be made -/
def mayB (n m : Int) : Bool := (decide (1 ≤ n) && decide (n ≤ 64)) && decide (0 ≤ m) && decide (m ≤ 65536)
theorem may_any (n m : Int) (W : World) : Calls Try.prog 20 #[.int .i64 n, .int .i64 m] W fun e w' => e = .returned (.bool (mayB n m)) ∧ W = w' := by
  have HF := few_any n W
  unfold mayB
  generalize (decide (1 ≤ n) && decide (n ≤ 64)) = b at HF
  go_enter Try.func20, Try.ntmps20
  cases b
  · go_wp2_with (go_at_call 24; ((with_reducible refine HF.mono ?_); rintro e w' ⟨rfl, rfl⟩))
    go_ret
    exact ⟨by simp, rfl⟩
  · by_cases h : 0 ≤ m
    · go_wp2_with (go_at_call 24; ((with_reducible refine HF.mono ?_); rintro e w' ⟨rfl, rfl⟩))
      go_ret
      exact ⟨by simp [h], rfl⟩
    · have h' : m < 0 := by omega
      go_wp2_with (go_at_call 24; ((with_reducible refine HF.mono ?_); rintro e w' ⟨rfl, rfl⟩))
      go_ret
      exact ⟨by simp; omega, rfl⟩
end Go.Proofs.Ytjaiahnibeieiaa
