/- The walk of the law on what requests come to: it returns true and changes nothing that was there. -/
import Derived.Test.YtpoibgiajaeegaaB1
namespace Go.Proofs.Ytpoibgiajaeegaa
open Go Go.RowKit Go.Shelf

theorem cov_g {m n : Int} {b : Bool} (w : World) (h : covB (kn m) (kn n) = b) : Gives w 25 #[.int .i64 m, .int .i64 n] (.bool b) := fun w' hb => by rw [← h]; exact covers_any m n w w' hb
theorem awake_g (w : World) : Gives w 6 #[] (.bool true) := fun w' hb => awake_any w w' hb
theorem rg_at {xs : List Wt} (h : Rg xs) {k : Nat} (hk : k < xs.length) : xs[k].2.2.1 = decide (k < plc true xs) := by
  by_cases hp : k < plc true xs
  · rw [decide_eq_true hp]
    have ho := (ordered_iff xs).2 h.2.2
    unfold orderedB at ho
    rw [Bool.not_eq_true', List.any_eq_false] at ho
    have := ho _ (List.mem_take_iff_getElem.2 ⟨k, by omega, rfl⟩)
    simpa using this
  · rw [decide_eq_false hp]
    exact plc_true_false xs (by omega) hk
set_option maxRecDepth 100000 in
set_option maxHeartbeats 4000000 in
theorem targets_walk (had m : Int) (A : Option Addr) (n c : Nat) (xs : List Wt) (cv : Bool) (W : World) (hn : xs.length = n) (hr : Ls W A c xs) (hw : ∀ x ∈ xs, wf64 x.1) (hm : n ≤ maxLen) :
    Calls Try.prog 5 #[.int .i64 had, .int .i64 m, .slice A n c, .bool cv] W fun e w' => e = .returned (.bool true) ∧ Below W.heap.size W w' := by
  have hmx : n ≤ 9223372036854775807 := by unfold maxLen at hm; omega
  have HN := Lib.hid hn
  have HR := Lib.hid hr
  have HW := Lib.hid hw
  have qa : Gives W 6 #[] (.bool true) := awake_g W
  clear hn hr hw hm
  have hb0 : Below W.heap.size W W := Below.refl _ _
  by_cases h30 : n ≤ 30
  · have HRt := Lib.hid (fun (w1 : World) (hb : Below W.heap.size W w1) => (show Calls Try.prog 22 #[.slice A n c] w1 fun e w' => e = .returned (.bool (rightB xs)) ∧ Below w1.heap.size w1 w' by
      have := right_any (HR.out.below hb) HW.out (by have := HN.out; omega)
      rw [HN.out] at this
      exact this))
    have d30 : decide (n ≤ 30) = true := by simpa using h30
    cases hrb : rightB xs
    · rw [hrb] at HRt
      clear hrb
      go_enter Try.func5, Try.ntmps5
      go_wp2_with fail
      refine Gives.use (w0 := W) qa hb0 ?_
      intro w1 hb1
      have HRt1 := Lib.hid (HRt.out _ hb1)
      have HF1 := Lib.hid (few_any A n c w1)
      rw [d30] at HF1
      go_wp2_with (first | (go_at_call 7; ((with_reducible refine HF1.out.mono ?_); rintro e w2 ⟨rfl, rfl⟩)) | (go_at_call 22; ((with_reducible refine HRt1.out.mono ?_); rintro e w3 ⟨rfl, hb3⟩)))
      have HB3 := Lib.hid (hb1.trans (hb3.mono hb1.size))
      clear hb1 hb3 HRt1 HF1
      go_ret
      exact ⟨rfl, HB3.out⟩
    · rw [hrb] at HRt
      have HRG := Lib.hid ((right_iff xs).1 hrb)
      clear hrb
      have HPl := Lib.hid (fun (w1 : World) (hb : Below W.heap.size W w1) => (show Calls Try.prog 13 #[.slice A n c, .bool cv] w1 fun e w' => e = .returned (.int .i64 (plc cv xs : Nat)) ∧ Below w1.heap.size w1 w' by
        have := place_any (HR.out.below hb) (by have := HN.out; omega) cv
        rw [HN.out] at this
        exact this))
      have hple : plc cv xs ≤ n := by rw [← HN.out]; exact plc_le cv xs
      have HTg := Lib.hid (fun (w1 : World) (hb : Below W.heap.size W w1) => target_any had m W w1 hb)
      have k1 := kn_le had
      have k2 := kn_le m
      obtain ⟨S, hS⟩ : ∃ S, supN (kn had) (kn m) = S := ⟨_, rfl⟩
      have kS : S ≤ 6 := hS ▸ supN_le _ _
      obtain ⟨q, hq⟩ : ∃ q, covB (kn had) (kn m) = q := ⟨_, rfl⟩
      have g1 : Gives W 25 #[.int .i64 (S : Nat), .int .i64 had] (.bool true) := cov_g W (by rw [kn_nat kS, ← hS]; exact lat_left _ k1 _ k2)
      have g2 : Gives W 25 #[.int .i64 (S : Nat), .int .i64 m] (.bool true) := cov_g W (by rw [kn_nat kS, ← hS]; exact lat_right _ k1 _ k2)
      have g3 : Gives W 25 #[.int .i64 had, .int .i64 m] (.bool q) := cov_g W hq
      unfold tgtV at HTg
      rw [hS, hq] at HTg
      have HC1 := Lib.hid (fun (hc : cv = true) (k : Nat) (hk : k < xs.length) => (show xs[k].2.2.1 = decide (k < plc cv xs) by rw [hc]; exact rg_at HRG.out hk))
      have HC2 := Lib.hid (fun (hc : cv = false) => (show plc cv xs = n by rw [hc, plc_false]; exact HN.out))
      generalize plc cv xs = p at *
      clear hS hq k1 k2 kS HRG
      go_enter Try.func5, Try.ntmps5
      go_wp2_with fail
      refine Gives.use (w0 := W) qa hb0 ?_
      intro w1 hb1
      have HRt1 := Lib.hid (HRt.out _ hb1)
      have HF1 := Lib.hid (few_any A n c w1)
      rw [d30] at HF1
      go_wp2_with (first | (go_at_call 7; ((with_reducible refine HF1.out.mono ?_); rintro e w2 ⟨rfl, rfl⟩)) | (go_at_call 22; ((with_reducible refine HRt1.out.mono ?_); rintro e w3 ⟨rfl, hb3⟩)))
      have hb3' := hb1.trans (hb3.mono hb1.size)
      clear hb1 hb3 HRt1 HF1
      have HT1 := Lib.hid (HTg.out _ hb3')
      go_wp2_with fail
      refine HT1.out.mono ?_
      rintro e w4 ⟨rfl, hb4⟩
      have HP1 := Lib.hid (HPl.out _ hb4)
      clear hb3' HT1
      go_wp2_with fail
      refine HP1.out.mono ?_
      rintro e w5 ⟨rfl, hb5⟩
      have HB5 := Lib.hid (hb4.trans (hb5.mono hb4.size))
      clear hb4 hb5 HP1
      go_wp2_with fail
      go_loopw [35] (fun t wr => ∃ k : Nat, k ≤ n ∧ t = .int .i64 k ∧ Below W.heap.size W wr) (fun t _ => n - (intOf t).toNat)
      case atStart => exact ⟨0, by omega, rfl, HB5.out⟩
      case round =>
        obtain ⟨k, hk, rfl, hb⟩ := hrel
        by_cases hlt : k < n
        · have hlt' : k < xs.length := by rw [HN.out]; exact hlt
          obtain ⟨a, rfl, hh⟩ := (HR.out.below hb).here hlt'
          have HQ := Lib.hid (fun hc => HC1.out hc k hlt')
          obtain ⟨x, hx⟩ : ∃ x, xs[k] = x := ⟨_, rfl⟩
          rw [hx] at hh HQ
          clear hx
          obtain ⟨t, md, cx, ii⟩ := x
          obtain ⟨c0, c1, c2, c3⟩ := hh
          simp only at c0 c1 c2 c3 HQ
          have HBx := Lib.hid (hb.trans ((box_below wr (.cells #[.int .i64 t, .int .i64 md, .bool cx, .bool ii] 24)).mono hb.size))
          cases cv
          · go_wp2_with fail
            go_roundw
            case rel => exact ⟨k + 1, by omega, by go_num, HBx.out⟩
            case measure => simp [intOf]; omega
          · by_cases hkp : k < p
            · have hcx : cx = true := by rw [HQ.out rfl, decide_eq_true hkp]
              subst hcx
              go_wp2_with fail
              go_roundw
              case rel => exact ⟨k + 1, by omega, by go_num, HBx.out⟩
              case measure => simp [intOf]; omega
            · have hcx : cx = false := by rw [HQ.out rfl, decide_eq_false hkp]
              subst hcx
              go_wp2_with fail
              go_roundw
              case rel => exact ⟨k + 1, by omega, by go_num, HBx.out⟩
              case measure => simp [intOf]; omega
        · obtain rfl : k = n := by omega
          cases cv
          · obtain rfl : p = k := HC2.out rfl
            go_wp2_with (go_at_call 25; refine Gives.use (w0 := W) (by with_reducible assumption) (by assumption) ?_; intro w6 hb6)
            go_ret
            exact ⟨rfl, by assumption⟩
          · go_wp2_with (go_at_call 25; refine Gives.use (w0 := W) (by with_reducible assumption) (by assumption) ?_; intro w6 hb6)
            go_ret
            exact ⟨rfl, by assumption⟩
  · have d30 : decide (n ≤ 30) = false := by simpa using h30
    go_enter Try.func5, Try.ntmps5
    go_wp2_with fail
    refine Gives.use (w0 := W) qa hb0 ?_
    intro w1 hb1
    have HF1 := Lib.hid (few_any A n c w1)
    rw [d30] at HF1
    go_wp2_with (go_at_call 7; ((with_reducible refine HF1.out.mono ?_); rintro e w2 ⟨rfl, rfl⟩))
    go_ret
    exact ⟨rfl, hb1⟩
end Go.Proofs.Ytpoibgiajaeegaa
