/- The contract of the function that says whether a node is within another. -/
import Derived.Test.YtmlljgijbffepaaK1
import Derived.Test.YtmlljgijbffepaaK2
namespace Go.Proofs.Ytmlljgijbffepaa
open Go Go.RowKit

def wiB (p q : Pt) : Bool := rightB p && rightB q && decide (q.e ≤ p.e) && eqP (cutP p q.e) q

theorem top_g {w : World} {p : Pt} {k : Int} (h1 : 1 ≤ k) (h4 : k ≤ 4) : Gives w 24 #[p.v, .int .i64 k] (cutP p k).v := Gives.of fun w => top_any p k w h1 h4

set_option maxHeartbeats 2000000 in
theorem within_any (p q : Pt) (w : World) :
    Calls Try.prog 16 #[p.v, q.v] w fun e w' => e = .returned (.bool (wiB p q)) ∧ Below w.heap.size w w' := by
  obtain ⟨a, b, c, d, e⟩ := p
  obtain ⟨a', b', c', d', e'⟩ := q
  cases hr : rightB ⟨a, b, c, d, e⟩
  · have gp := may_g (w := (boxed (boxed w a b c d e) a' b' c' d' e')) hr
    have HV := Lib.hid (show wiB ⟨a, b, c, d, e⟩ ⟨a', b', c', d', e'⟩ = false by simp [wiB, hr])
    clear hr
    go_enter Try.func16, Try.ntmps16
    go_wp2
    refine wp_region_later (boxed (boxed w a b c d e) a' b' c' d' e') (by kernel_rfl) (by kernel_rfl) (Below.refl _ _) ?_
    repeat (go_big_quiet_step (((first | go_at_call 22 | go_at_call 24); exact Gives.later (by with_reducible assumption))))
    refine wpQuiet_nil ?_
    rintro _ ⟨⟨w1, hb1⟩, rfl⟩
    go_wp2
    go_ret
    exact ⟨ret_bool HV.out.symm, below_past hb1⟩
  · have gp := may_g (w := (boxed (boxed w a b c d e) a' b' c' d' e')) hr
    have hd := right_depth hr
    simp only at hd
    obtain ⟨hd1, hd4⟩ := hd
    cases hq : rightB ⟨a', b', c', d', e'⟩
    · have gq := may_g (w := (boxed (boxed w a b c d e) a' b' c' d' e')) hq
      have HV := Lib.hid (show wiB ⟨a, b, c, d, e⟩ ⟨a', b', c', d', e'⟩ = false by simp [wiB, hq])
      clear hr hq
      go_enter Try.func16, Try.ntmps16
      go_wp2
      refine wp_region_later (boxed (boxed w a b c d e) a' b' c' d' e') (by kernel_rfl) (by kernel_rfl) (Below.refl _ _) ?_
      repeat (go_big_quiet_step (((first | go_at_call 22 | go_at_call 24); exact Gives.later (by with_reducible assumption))))
      refine wpQuiet_nil ?_
      rintro _ ⟨⟨w1, hb1⟩, rfl⟩
      go_wp2
      go_ret
      exact ⟨ret_bool HV.out.symm, below_past hb1⟩
    · have gq := may_g (w := (boxed (boxed w a b c d e) a' b' c' d' e')) hq
      have hd' := right_depth hq
      simp only at hd'
      obtain ⟨hd1', hd4'⟩ := hd'
      by_cases hle : e' ≤ e
      · have gt := top_g (w := (boxed (boxed w a b c d e) a' b' c' d' e')) (p := ⟨a, b, c, d, e⟩) hd1' hd4'
        have HV := Lib.hid (show wiB ⟨a, b, c, d, e⟩ ⟨a', b', c', d', e'⟩ = eqP (cutP ⟨a, b, c, d, e⟩ e') ⟨a', b', c', d', e'⟩ by simp [wiB, hr, hq, hle])
        have hdec : decide (e' ≤ e) = true := by simp [hle]
        clear hr hq
        generalize cutP ⟨a, b, c, d, e⟩ e' = t at *
        obtain ⟨x, y, z, u, v⟩ := t
        go_enter Try.func16, Try.ntmps16
        go_wp2
        refine wp_region_later (boxed (boxed w a b c d e) a' b' c' d' e') (by kernel_rfl) (by kernel_rfl) (Below.refl _ _) ?_
        repeat (go_big_quiet_step (((first | go_at_call 22 | go_at_call 24); exact Gives.later (by with_reducible assumption))))
        refine wpQuiet_nil ?_
        rintro _ ⟨⟨w1, hb1⟩, rfl⟩
        go_wp2
        go_ret
        exact ⟨ret_bool HV.out.symm, below_past hb1⟩
      · have HV := Lib.hid (show wiB ⟨a, b, c, d, e⟩ ⟨a', b', c', d', e'⟩ = false by simp [wiB, hle])
        have hdec : decide (e' ≤ e) = false := by simp [hle]
        clear hr hq
        go_enter Try.func16, Try.ntmps16
        go_wp2
        refine wp_region_later (boxed (boxed w a b c d e) a' b' c' d' e') (by kernel_rfl) (by kernel_rfl) (Below.refl _ _) ?_
        repeat (go_big_quiet_step (((first | go_at_call 22 | go_at_call 24); exact Gives.later (by with_reducible assumption))))
        refine wpQuiet_nil ?_
        rintro _ ⟨⟨w1, hb1⟩, rfl⟩
        go_wp2
        go_ret
        exact ⟨ret_bool HV.out.symm, below_past hb1⟩
end Go.Proofs.Ytmlljgijbffepaa
