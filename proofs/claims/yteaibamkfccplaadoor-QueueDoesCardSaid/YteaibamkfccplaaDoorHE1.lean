/- Whether all modes that are there fit; what goes with others: the program's answer and the document's. -/
import Derived.Test.YteaibamkfccplaaDoorHK1
namespace Go.Proofs.YteaibamkfccplaaDoor.Hs
open Go Go.RowKit Go.Shelf

/-- a function value that tells of a mode whether a condition holds, in whatever later world -/
def Tst (W : World) (gf : Nat) (cs : Array Value) (q : Nat → Bool) : Prop :=
  (∀ args w, (callFunc gf args).run Tryd.prog w = .ok (.enter gf args) w) ∧
  ∀ (W' : World) (k : Nat), k ≤ 6 → Below W.heap.size W W' → Calls Tryd.prog gf (#[.int .i64 (k : Nat)] ++ cs) W' fun e w' => e = .returned (.bool (q k)) ∧ Below W.heap.size W w'
/-- whether all that are there fit -/
def eachB (f : Nat → Int) (q : Nat → Bool) : Bool := (List.range 7).all (fun k => !decide (0 < f k) || q k)
theorem eachB_iff {f : Nat → Int} {q : Nat → Bool} : eachB f q = true ↔ ∀ k, k ≤ 6 → 0 < f k → q k = true := by
  unfold eachB
  rw [List.all_eq_true]
  constructor
  · intro h k hk h0
    have := h k (List.mem_range.2 (by omega))
    simpa [h0] using this
  · intro h k hk
    have hk' := List.mem_range.1 hk
    by_cases h0 : 0 < f k
    · rw [h k (by omega) h0]; simp
    · simp [h0]
theorem eachB_not {f : Nat → Int} {q : Nat → Bool} {k : Nat} (hk : k ≤ 6) (h0 : 0 < f k) (hq : q k = false) : eachB f q = false := by
  cases h : eachB f q
  · rfl
  · rw [eachB_iff.1 h k hk h0] at hq; cases hq
theorem idx26 (f : Nat → Int) (k : Nat) (h : k < 7) (w : World) : (Instr.index 80 (arr f) (.int .i64 (k : Nat))).run Tryd.prog w = .ok (.int .i64 (f k)) w := by
  have hc : k = 0 ∨ k = 1 ∨ k = 2 ∨ k = 3 ∨ k = 4 ∨ k = 5 ∨ k = 6 := by omega
  rcases hc with rfl | rfl | rfl | rfl | rfl | rfl | rfl <;> simp [Instr.index, asIntOf, run_underlying Tryd.underlying80, go_sem]
section
variable {W W' : World} {gf : Nat} {cs : Array Value} {q : Nat → Bool} {f : Nat → Int}
set_option maxRecDepth 100000 in
theorem each_any (hq : Tst W gf cs q) : Calls Tryd.prog 57 #[arr f, .func (.func gf) #[] cs] W fun e w' => e = .returned (.bool (eachB f q)) ∧ Below W.heap.size W w' := by
  obtain ⟨eg, hp⟩ := hq
  have HP := Lib.hid hp
  have HB0 := Lib.hid (box_below W (.cells #[.int .i64 (f 0), .int .i64 (f 1), .int .i64 (f 2), .int .i64 (f 3), .int .i64 (f 4), .int .i64 (f 5), .int .i64 (f 6)] 80))
  clear hp
  go_enter Tryd.func57, Tryd.ntmps57
  go_wp2
  go_loopw [8] (fun t wr => ∃ k : Nat, k ≤ 7 ∧ t = .int .i64 k ∧ (∀ i, i < k → 0 < f i → q i = true) ∧ Below W.heap.size W wr) (fun t _ => 7 - (intOf t).toNat)
  case atStart => exact ⟨0, by omega, rfl, fun i hi => by omega, HB0.out⟩
  case round =>
    obtain ⟨k, hk, rfl, hall, hb⟩ := hrel
    have HA := Lib.hid hall
    have HB := Lib.hid hb
    clear hall hb HB0
    by_cases h7 : k < 7
    · have hi := fun w => idx26 f k h7 w
      have HC := Lib.hid (HP.out wr k (by omega) HB.out)
      by_cases h0 : 0 < f k
      · cases hq : q k
        · rw [hq] at HC
          have HE := Lib.hid (eachB_not (by omega) h0 hq)
          clear hq
          go_wp2_with fail
          refine HC.out.mono ?_
          rintro e w1 ⟨rfl, hb1⟩
          have HB1 := Lib.hid hb1
          clear hb1
          go_wp2_with fail
          go_ret
          exact ⟨by rw [HE.out]; rfl, HB1.out⟩
        · rw [hq] at HC
          have HQ := Lib.hid hq
          clear hq
          go_wp2_with fail
          refine HC.out.mono ?_
          rintro e w1 ⟨rfl, hb1⟩
          have HB1 := Lib.hid hb1
          clear hb1
          go_wp2_with fail
          go_roundw
          case rel =>
            refine ⟨k + 1, by omega, by go_num, fun i hi h => ?_, HB1.out⟩
            rcases Nat.lt_or_ge i k with h' | h'
            · exact HA.out i h' h
            · obtain rfl : i = k := by omega
              exact HQ.out
          case measure => simp [intOf]; omega
      · have H0 := Lib.hid h0
        go_wp2_with fail
        go_roundw
        case rel =>
          refine ⟨k + 1, by omega, by go_num, fun i hi h => ?_, HB.out⟩
          rcases Nat.lt_or_ge i k with h' | h'
          · exact HA.out i h' h
          · obtain rfl : i = k := by omega
            exact absurd h H0.out
        case measure => simp [intOf]; omega
    · obtain rfl : k = 7 := by omega
      have HE := Lib.hid (eachB_iff.2 (fun i hi h => HA.out i (by omega) h))
      go_wp2
      go_ret
      exact ⟨by rw [HE.out]; rfl, HB.out⟩
end
end Go.Proofs.YteaibamkfccplaaDoor.Hs
