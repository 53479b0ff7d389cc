/- What stands below a node, what has one number more; what a mode lets one do; a mode that lets one do so much: the program's answers. -/
import Derived.Test.YthjlapcccmbhbaaWa
import Derived.Test.YthjlapcccmbhbaaPw
import Derived.Test.YthjlapcccmbhbaaPn
namespace Go.Proofs.Ythjlapcccmbhbaa.Lk
open Go Go.RowKit Go.Shelf Pa
set_option maxRecDepth 100000

theorem gdoes_any (m : Int) (w : World) :
    Calls Try.prog 28 #[.int .i64 m] w fun e w' => e = .returned (.int .i64 (reN (kn m) : Nat)) ∧ Below w.heap.size w w' := by
  have H := Lib.hid (at_is m w (kn m) (kn_le m) rfl)
  have hc := fun w => conv_is w (reN (kn m)) (reN_le _)
  go_enter Try.func28, Try.ntmps28
  go_wp2_with fail
  refine H.out.mono ?_
  rintro e w' ⟨rfl, hb⟩
  go_wp2_with fail
  go_ret
  exact ⟨rfl, hb⟩
theorem fconv_is (w : World) : ∀ x, x ≤ 3 → (convert 3 62 (.int .i64 (x : Nat))).run Try.prog w = .ok (.float .f64 (fb x)) w := by
  intro x hx
  have e : floatOfInt .f64 (x : Nat) = fb x := by
    have h1 : x = 0 ∨ x = 1 ∨ x = 2 ∨ x = 3 := by omega
    rcases h1 with rfl | rfl | rfl | rfl <;> decide +kernel
  rw [← e]
  simp [convert, run_underlying Try.underlying3, run_underlying Try.underlying62, Conv.intToFloat, floatOfInt]
/-- the mode that lets one do so much to all -/
def doN (x : Nat) : Nat := ofN x 0
theorem doing_any (x : Nat) (hx : x ≤ 3) (w : World) :
    Calls Try.prog 30 #[.int .i64 (x : Nat)] w fun e w' => e = .returned (.int .i64 (doN x : Nat)) ∧ Below w.heap.size w w' := by
  have H := Lib.hid (fun w => Go.Proofs.Ythjlapcccmbhbaa.of_any x 0 w hx (by omega))
  have hc := fun w => fconv_is w x hx
  go_enter Try.func30, Try.ntmps30
  go_wp2_with fail
  refine (H.out _).mono ?_
  rintro e w' ⟨rfl, hb⟩
  go_wp2_with fail
  go_ret
  exact ⟨rfl, hb⟩
set_option maxHeartbeats 2000000 in
theorem within_any (p q : Pt) (w : World) :
    Calls Try.prog 64 #[p.v, q.v] w fun e w' => e = .returned (.bool (wiB p q)) ∧ Below w.heap.size w w' := by
  obtain ⟨a, b, c, d, e⟩ := p
  obtain ⟨a', b', c', d', e'⟩ := q
  cases hr : rightB ⟨a, b, c, d, e⟩
  · have gp := may_g (w := (boxed (boxed w a b c d e) a' b' c' d' e')) hr
    have HV := Lib.hid (show wiB ⟨a, b, c, d, e⟩ ⟨a', b', c', d', e'⟩ = false by simp [wiB, hr])
    clear hr
    go_enter Try.func64, Try.ntmps64
    go_wp2
    refine wp_region_later (boxed (boxed w a b c d e) a' b' c' d' e') (by kernel_rfl) (by kernel_rfl) (Below.refl _ _) ?_
    repeat (go_big_quiet_step (((first | go_at_call 47 | go_at_call 63); exact Gives.later (by with_reducible assumption))))
    refine wpQuiet_nil ?_
    rintro _ ⟨⟨w1, hb1⟩, rfl⟩
    go_wp2
    go_ret
    exact ⟨Pa.ret_bool HV.out.symm, below_past hb1⟩
  · have gp := may_g (w := (boxed (boxed w a b c d e) a' b' c' d' e')) hr
    have hd := right_depth hr
    simp only at hd
    obtain ⟨hd1, hd4⟩ := hd
    cases hq : rightB ⟨a', b', c', d', e'⟩
    · have gq := may_g (w := (boxed (boxed w a b c d e) a' b' c' d' e')) hq
      have HV := Lib.hid (show wiB ⟨a, b, c, d, e⟩ ⟨a', b', c', d', e'⟩ = false by simp [wiB, hq])
      clear hr hq
      go_enter Try.func64, Try.ntmps64
      go_wp2
      refine wp_region_later (boxed (boxed w a b c d e) a' b' c' d' e') (by kernel_rfl) (by kernel_rfl) (Below.refl _ _) ?_
      repeat (go_big_quiet_step (((first | go_at_call 47 | go_at_call 63); exact Gives.later (by with_reducible assumption))))
      refine wpQuiet_nil ?_
      rintro _ ⟨⟨w1, hb1⟩, rfl⟩
      go_wp2
      go_ret
      exact ⟨Pa.ret_bool HV.out.symm, below_past hb1⟩
    · have gq := may_g (w := (boxed (boxed w a b c d e) a' b' c' d' e')) hq
      have hd' := right_depth hq
      simp only at hd'
      obtain ⟨hd1', hd4'⟩ := hd'
      by_cases hle : e' ≤ e
      · have gt := top_g (w := (boxed (boxed w a b c d e) a' b' c' d' e')) (p := ⟨a, b, c, d, e⟩) hd1' hd4'
        have HV := Lib.hid (show wiB ⟨a, b, c, d, e⟩ ⟨a', b', c', d', e'⟩ = eqP (cutP ⟨a, b, c, d, e⟩ e') ⟨a', b', c', d', e'⟩ by simp [wiB, hr, hq, hle])
        have hdec : decide (e' ≤ e) = true := by simp [hle]
        clear hr hq
        generalize cutP ⟨a, b, c, d, e⟩ e' = t at *
        obtain ⟨x, y, z, u, v⟩ := t
        go_enter Try.func64, Try.ntmps64
        go_wp2
        refine wp_region_later (boxed (boxed w a b c d e) a' b' c' d' e') (by kernel_rfl) (by kernel_rfl) (Below.refl _ _) ?_
        repeat (go_big_quiet_step (((first | go_at_call 47 | go_at_call 63); exact Gives.later (by with_reducible assumption))))
        refine wpQuiet_nil ?_
        rintro _ ⟨⟨w1, hb1⟩, rfl⟩
        go_wp2
        go_ret
        exact ⟨Pa.ret_bool HV.out.symm, below_past hb1⟩
      · have HV := Lib.hid (show wiB ⟨a, b, c, d, e⟩ ⟨a', b', c', d', e'⟩ = false by simp [wiB, hle])
        have hdec : decide (e' ≤ e) = false := by simp [hle]
        clear hr hq
        go_enter Try.func64, Try.ntmps64
        go_wp2
        refine wp_region_later (boxed (boxed w a b c d e) a' b' c' d' e') (by kernel_rfl) (by kernel_rfl) (Below.refl _ _) ?_
        repeat (go_big_quiet_step (((first | go_at_call 47 | go_at_call 63); exact Gives.later (by with_reducible assumption))))
        refine wpQuiet_nil ?_
        rintro _ ⟨⟨w1, hb1⟩, rfl⟩
        go_wp2
        go_ret
        exact ⟨Pa.ret_bool HV.out.symm, below_past hb1⟩
/-- one number more -/
def kidB (q p : Pt) : Bool := rightB q && !(q.e == 1) && eqP (cutP q (q.e - 1)) p
/-- below, and not the same -/
def belB (q p : Pt) : Bool := !(eqP q p) && wiB q p
end Go.Proofs.Ythjlapcccmbhbaa.Lk
