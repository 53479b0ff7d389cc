/- The walk of the law that of two of unlike stamps just one gives way. -/
import Derived.Test.YtggmnjnigmbooaaVa
namespace Go.Proofs.Ytggmnjnigmbooaa
open Go Go.RowKit
set_option maxRecDepth 100000

theorem judge_both (p a b x y : Int) (w : World) (hx : judge p a b = x) (hy : judge p b a = y) (h : ((p = 1 ∨ p = 2) ∧ a ≠ b ∧ (x = 0 ∧ y = p ∨ x = p ∧ y = 0)) ∨ ((p ≠ 1 ∧ p ≠ 2 ∨ a = b) ∧ x = 0 ∧ y = 0)) :
    Calls Try.prog 6 #[.int .i64 p, .int .i64 a, .int .i64 b] w fun e w' => e = .returned (.bool true) ∧ w' = w := by
  have h0 := Lib.hid (awake_any w)
  have h1 := Lib.hid (judge_any p a b w)
  have h2 := Lib.hid (judge_any p b a w)
  rw [hx] at h1
  rw [hy] at h2
  clear hx hy
  rcases h with ⟨hp, hab, hxy⟩ | ⟨hp, rfl, rfl⟩
  · rcases hp with rfl | rfl <;> rcases hxy with ⟨rfl, rfl⟩ | ⟨rfl, rfl⟩
    · go_enter Try.func6, Try.ntmps6
      go_wp2_with fail
      refine h0.out.mono ?_
      rintro e w1 ⟨rfl, rfl⟩
      go_wp2_with fail
      refine h1.out.mono ?_
      rintro e w1 ⟨rfl, rfl⟩
      go_wp2_with fail
      refine h2.out.mono ?_
      rintro e w1 ⟨rfl, rfl⟩
      go_wp2_with fail
      go_ret
      exact ⟨rfl, rfl⟩
    · go_enter Try.func6, Try.ntmps6
      go_wp2_with fail
      refine h0.out.mono ?_
      rintro e w1 ⟨rfl, rfl⟩
      go_wp2_with fail
      refine h1.out.mono ?_
      rintro e w1 ⟨rfl, rfl⟩
      go_wp2_with fail
      refine h2.out.mono ?_
      rintro e w1 ⟨rfl, rfl⟩
      go_wp2_with fail
      go_ret
      exact ⟨rfl, rfl⟩
    · go_enter Try.func6, Try.ntmps6
      go_wp2_with fail
      refine h0.out.mono ?_
      rintro e w1 ⟨rfl, rfl⟩
      go_wp2_with fail
      refine h1.out.mono ?_
      rintro e w1 ⟨rfl, rfl⟩
      go_wp2_with fail
      refine h2.out.mono ?_
      rintro e w1 ⟨rfl, rfl⟩
      go_wp2_with fail
      go_ret
      exact ⟨rfl, rfl⟩
    · go_enter Try.func6, Try.ntmps6
      go_wp2_with fail
      refine h0.out.mono ?_
      rintro e w1 ⟨rfl, rfl⟩
      go_wp2_with fail
      refine h1.out.mono ?_
      rintro e w1 ⟨rfl, rfl⟩
      go_wp2_with fail
      refine h2.out.mono ?_
      rintro e w1 ⟨rfl, rfl⟩
      go_wp2_with fail
      go_ret
      exact ⟨rfl, rfl⟩
  · by_cases hab : a = b
    · subst hab
      clear hp
      by_cases h3 : p = 1
      · subst h3
        go_enter Try.func6, Try.ntmps6
        go_wp2_with fail
        refine h0.out.mono ?_
        rintro e w1 ⟨rfl, rfl⟩
        go_wp2_with fail
        refine h1.out.mono ?_
        rintro e w1 ⟨rfl, rfl⟩
        go_wp2_with fail
        refine h2.out.mono ?_
        rintro e w1 ⟨rfl, rfl⟩
        go_wp2_with fail
        go_ret
        exact ⟨rfl, rfl⟩
      by_cases h4 : p = 2
      · subst h4
        go_enter Try.func6, Try.ntmps6
        go_wp2_with fail
        refine h0.out.mono ?_
        rintro e w1 ⟨rfl, rfl⟩
        go_wp2_with fail
        refine h1.out.mono ?_
        rintro e w1 ⟨rfl, rfl⟩
        go_wp2_with fail
        refine h2.out.mono ?_
        rintro e w1 ⟨rfl, rfl⟩
        go_wp2_with fail
        go_ret
        exact ⟨rfl, rfl⟩
      go_enter Try.func6, Try.ntmps6
      go_wp2_with fail
      refine h0.out.mono ?_
      rintro e w1 ⟨rfl, rfl⟩
      go_wp2_with fail
      refine h1.out.mono ?_
      rintro e w1 ⟨rfl, rfl⟩
      go_wp2_with fail
      refine h2.out.mono ?_
      rintro e w1 ⟨rfl, rfl⟩
      go_wp2_with fail
      go_ret
      exact ⟨rfl, rfl⟩
    · have h3 : p ≠ 1 := by omega
      have h4 : p ≠ 2 := by omega
      clear hp
      go_enter Try.func6, Try.ntmps6
      go_wp2_with fail
      refine h0.out.mono ?_
      rintro e w1 ⟨rfl, rfl⟩
      go_wp2_with fail
      refine h1.out.mono ?_
      rintro e w1 ⟨rfl, rfl⟩
      go_wp2_with fail
      refine h2.out.mono ?_
      rintro e w1 ⟨rfl, rfl⟩
      go_wp2_with fail
      go_ret
      exact ⟨rfl, rfl⟩
theorem judgeLaw_walk (p a b : Int) (w : World) : Calls Try.prog 6 #[.int .i64 p, .int .i64 a, .int .i64 b] w fun e w' => e = .returned (.bool true) ∧ Below w.heap.size w w' := by
  refine (judge_both p a b _ _ w rfl rfl ?_).mono fun e w' ⟨he, hw⟩ => ⟨he, hw ▸ Below.refl _ _⟩
  have hA : ∀ {c d : Prop} [Decidable c] [Decidable d] {k : Int}, (¬ c → ¬ d → a = b) → (c → ¬ d) → k ≠ 0 → (c → a ≠ b) → (d → a ≠ b) →
      (a ≠ b ∧ ((if c then k else 0) = 0 ∧ (if d then k else 0) = k ∨ (if c then k else 0) = k ∧ (if d then k else 0) = 0)) ∨ (a = b ∧ (if c then k else 0) = 0 ∧ (if d then k else 0) = 0) := by
    intro c d _ _ k h1 h2 h3 h4 h5
    by_cases hc : c
    · exact .inl ⟨h4 hc, .inr ⟨if_pos hc, if_neg (h2 hc)⟩⟩
    · by_cases hd : d
      · exact .inl ⟨h5 hd, .inl ⟨if_neg hc, if_pos hd⟩⟩
      · exact .inr ⟨h1 hc hd, if_neg hc, if_neg hd⟩
  unfold judge
  by_cases h1 : p = 1
  · subst h1
    rw [if_pos rfl, if_pos rfl]
    rcases hA (c := b < a) (d := a < b) (k := 1) (by omega) (by omega) (by omega) (by omega) (by omega) with ⟨h, k⟩ | ⟨h, k⟩
    · exact .inl ⟨.inl rfl, h, k⟩
    · exact .inr ⟨.inr h, k⟩
  · rw [if_neg h1, if_neg h1]
    by_cases h2 : p = 2
    · subst h2
      rw [if_pos rfl, if_pos rfl]
      rcases hA (c := a < b) (d := b < a) (k := 2) (by omega) (by omega) (by omega) (by omega) (by omega) with ⟨h, k⟩ | ⟨h, k⟩
      · exact .inl ⟨.inr rfl, h, k⟩
      · exact .inr ⟨.inr h, k⟩
    · rw [if_neg h2, if_neg h2]
      exact .inr ⟨.inl ⟨h1, h2⟩, rfl, rfl⟩
end Go.Proofs.Ytggmnjnigmbooaa
