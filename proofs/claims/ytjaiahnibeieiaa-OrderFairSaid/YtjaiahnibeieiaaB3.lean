/- The walk of the law on whether lists are fair. -/
import Derived.Test.YtjaiahnibeieiaaE1
import Derived.Test.YtjaiahnibeieiaaD3
namespace Go.Proofs.Ytjaiahnibeieiaa
open Go Go.RowKit

theorem fairlaw_long (A : Option Addr) (L c : Nat) (n win : Int) (w : World) (h : 40 < L) (hm : L ≤ maxLen) :
    Calls Try.prog 4 #[.slice A L c, .int .i64 n, .int .i64 win] w fun e w' => e = .returned (.bool true) ∧ Below w.heap.size w w' := by
  unfold maxLen at hm
  have h4 : (40 : Int) < (L : Int) := by omega
  go_enter Try.func4, Try.ntmps4
  go_wp2_with fail
  refine (awake_any _).mono ?_
  rintro e w1 ⟨rfl, hb1⟩
  go_wp2_with fail
  go_ret
  exact ⟨rfl, hb1⟩
set_option maxHeartbeats 2000000 in
theorem fairlaw_none (A : Option Addr) (L c : Nat) (n win : Int) (w : World) (z : Nat → Int) (hz : Rf w A L z) (hc : L ≤ c) (h : ¬ 40 < L) (hn : n < 1 ∨ 64 < n) :
    Calls Try.prog 4 #[.slice A L c, .int .i64 n, .int .i64 win] w fun e w' => e = .returned (.bool true) ∧ Below w.heap.size w w' := by
  have HZ := Lib.hid hz
  have HF := fun W (hz : Rf W A L z) => Lib.hid (fair_any (c := c) n win W hz (by omega))
  have HR := fun W (hz : Rf W A L z) => Lib.hid (rfair_any (c := c) n win W hz hc (by omega))
  have HG := fun W (hz : Rf W A L z) => Lib.hid (gap_any (c := c) n W hz (by omega))
  have HH := fun W (hz : Rf W A L z) => Lib.hid (rgap_any (c := c) n W hz hc (by omega))
  have HC := fun W => Lib.hid (counts_no (A := A) (L := L) (c := c) W hn)
  have HL := fun W => Lib.hid (last_no (A := A) (L := L) (c := c) W hn)
  generalize fairI z L n win = fb at HF HR
  generalize gapI z L n = gi at HG HH
  clear hz
  have h4 : ¬ (40 : Int) < (L : Int) := by omega
  go_enter Try.func4, Try.ntmps4
  go_wp2_with fail
  refine (awake_any _).mono ?_
  rintro e w1 ⟨rfl, hb1⟩
  go_wp2_with fail
  refine (HF w1 (HZ.out.below hb1)).out.mono ?_
  rintro e w2 ⟨rfl, hb2⟩
  have hb2' := hb1.trans (hb2.mono hb1.size)
  clear hb1 hb2
  go_wp2_with fail
  refine (HR w2 (HZ.out.below hb2')).out.mono ?_
  rintro e w3 ⟨rfl, rfl⟩
  go_wp2_with fail
  refine (HG w2 (HZ.out.below hb2')).out.mono ?_
  rintro e w3 ⟨rfl, hb3⟩
  have hb3' := hb2'.trans (hb3.mono hb2'.size)
  clear hb2' hb3
  go_wp2_with fail
  refine (HH w3 (HZ.out.below hb3')).out.mono ?_
  rintro e w4 ⟨rfl, rfl⟩
  go_wp2_with fail
  refine (HC w3).out.mono ?_
  rintro e w4 ⟨rfl, rfl⟩
  go_wp2_with fail
  refine (HL w3).out.mono ?_
  rintro e w4 ⟨rfl, rfl⟩
  by_cases h1 : n < 1
  · go_wp2_with fail
    go_ret
    exact ⟨rfl, hb3'⟩
  · have h2 : 64 < n := by omega
    go_wp2_with fail
    go_ret
    exact ⟨rfl, hb3'⟩
set_option maxHeartbeats 4000000 in
theorem fairlaw_main (A : Option Addr) (L c N : Nat) (win : Int) (w : World) (z : Nat → Int) (hz : Rf w A L z) (hc : L ≤ c) (h : ¬ 40 < L) (h1 : 1 ≤ N) (h2 : N ≤ 64) :
    Calls Try.prog 4 #[.slice A L c, .int .i64 (N : Int), .int .i64 win] w fun e w' => e = .returned (.bool true) ∧ Below w.heap.size w w' := by
  have HZ := Lib.hid hz
  have HF := fun W (hz : Rf W A L z) => Lib.hid (fair_any (c := c) (N : Int) win W hz (by omega))
  have HR := fun W (hz : Rf W A L z) => Lib.hid (rfair_any (c := c) (N : Int) win W hz hc (by omega))
  have HG := fun W (hz : Rf W A L z) => Lib.hid (gap_any (c := c) (N : Int) W hz (by omega))
  have HH := fun W (hz : Rf W A L z) => Lib.hid (rgap_any (c := c) (N : Int) W hz hc (by omega))
  have HC := fun W (hz : Rf W A L z) => Lib.hid (counts_yes (c := c) W hz h1 h2 (by omega))
  have HL := fun W (hz : Rf W A L z) => Lib.hid (last_yes (c := c) W hz h1 h2 (by omega))
  generalize fairI z L (N : Int) win = fb at HF HR
  generalize gapI z L (N : Int) = gi at HG HH
  clear hz
  have h4 : ¬ (40 : Int) < (L : Int) := by omega
  have h5 : ¬ (N : Int) < 1 := by omega
  have h6 : ¬ (64 : Int) < (N : Int) := by omega
  go_enter Try.func4, Try.ntmps4
  go_wp2_with fail
  refine (awake_any _).mono ?_
  rintro e w1 ⟨rfl, hb1⟩
  go_wp2_with fail
  refine (HF w1 (HZ.out.below hb1)).out.mono ?_
  rintro e w2 ⟨rfl, hb2⟩
  have hb2' := hb1.trans (hb2.mono hb1.size)
  clear hb1 hb2
  go_wp2_with fail
  refine (HR w2 (HZ.out.below hb2')).out.mono ?_
  rintro e w3 ⟨rfl, rfl⟩
  go_wp2_with fail
  refine (HG w2 (HZ.out.below hb2')).out.mono ?_
  rintro e w3 ⟨rfl, hb3⟩
  have hb3' := hb2'.trans (hb3.mono hb2'.size)
  clear hb2' hb3
  go_wp2_with fail
  refine (HH w3 (HZ.out.below hb3')).out.mono ?_
  rintro e w4 ⟨rfl, rfl⟩
  go_wp2_with fail
  refine (HC w3 (HZ.out.below hb3')).out.mono ?_
  rintro e w4 ⟨g1, rfl, ha1, hb4⟩
  have hb4' := hb3'.trans (hb4.mono hb3'.size)
  clear hb3' hb4
  go_wp2_with fail
  refine (HL w4 (HZ.out.below hb4')).out.mono ?_
  rintro e w5 ⟨g2, rfl, ha2, hb5⟩
  have HB := Lib.hid (hb4'.trans (hb5.mono hb4'.size))
  have HA1 := Lib.hid ((ha1.below hb5).congr (f' := fun x => cntN z L (x : Int)) (fun x hx => cntP_plN L hx))
  have HA2 := Lib.hid (ha2.congr (f' := fun x => lastN z L (x : Int)) (fun x hx => lastP_plN L hx))
  have HZ5 := Lib.hid (HZ.out.below HB.out)
  clear hb4' hb5 ha1 ha2 HF HR HG HH HC HL HZ
  go_wp2_with fail
  go_loopw [66] (fun t wr => wr = w5 ∧ ∃ x : Nat, x ≤ N ∧ t = .int .i64 x) (fun t _ => N - (intOf t).toNat)
  case atStart => exact ⟨rfl, 0, by omega, rfl⟩
  case round =>
    obtain ⟨rfl, x, hx, rfl⟩ := hrel
    by_cases hxN : x < N
    · have q1 := HA1.out.at' x hxN
      have q2 := HA2.out.at' x hxN
      have Q1 := Lib.hid q1
      have Q2 := Lib.hid q2
      clear q1 q2
      go_wp2
      go_loopw [71, 10, 11] (fun t k a wr2 => wr2 = wr ∧ ∃ i : Nat, i ≤ L ∧ t = .int .i64 i ∧ k = .int .i64 (cntN z i (x : Int)) ∧ a = .int .i64 (lastN z i (x : Int))) (fun t _ _ _ => L - (intOf t).toNat)
      case atStart => exact ⟨rfl, 0, by omega, rfl, rfl, rfl⟩
      case round =>
        obtain ⟨rfl, i, hi, rfl, rfl, rfl⟩ := hrel
        by_cases hiL : i < L
        · obtain ⟨ad, rfl, -, q⟩ := HZ5.out i hiL
          have hcb := cntN_le (z := z) i (x : Int)
          have E1 : cntN z (i + 1) (x : Int) = if z i = (x : Int) then cntN z i (x : Int) + 1 else cntN z i (x : Int) := rfl
          have E2 : lastN z (i + 1) (x : Int) = if z i = (x : Int) then (i : Int) else lastN z i (x : Int) := rfl
          generalize cntN z i (x : Int) = k at *
          generalize lastN z i (x : Int) = a at *
          by_cases hy : z i = (x : Int)
          · rw [if_pos hy] at E1 E2
            have HE1 := Lib.hid E1
            have HE2 := Lib.hid E2
            clear E1 E2
            rw [hy] at q
            have hwk : IntKind.i64.wrap (k + 1) = k + 1 := wrap_small (by omega) (by omega)
            clear hy
            go_wp2
            go_roundw
            case rel => exact ⟨by simp, i + 1, by omega, by go_num, by rw [HE1.out], by rw [HE2.out]⟩
            case measure => simp [intOf]; omega
          · rw [if_neg hy] at E1 E2
            have HE1 := Lib.hid E1
            have HE2 := Lib.hid E2
            clear E1 E2
            have e3 : (z i == (x : Int)) = false := by simp [hy]
            generalize z i = y at q e3 hy
            go_wp2
            go_roundw
            case rel => exact ⟨by simp, i + 1, by omega, by go_num, by rw [HE1.out], by rw [HE2.out]⟩
            case measure => simp [intOf]; omega
        · obtain rfl : i = L := by omega
          have q1 := Q1.out
          have q2 := Q2.out
          generalize cntN z i (x : Int) = k at q1 ⊢
          generalize lastN z i (x : Int) = a at q2 ⊢
          go_wp2
          go_roundw
          case rel => exact ⟨by simp, x + 1, by omega, by go_num⟩
          case measure => simp [intOf]; omega
    · obtain rfl : x = N := by omega
      go_wp2
      go_ret
      exact ⟨rfl, HB.out⟩
theorem fairlaw_walk (A : Option Addr) (L c : Nat) (n win : Int) (w : World) (z : Nat → Int) (hm : L ≤ maxLen) (hc : L ≤ c) (hz : Rf w A L z) :
    Calls Try.prog 4 #[.slice A L c, .int .i64 n, .int .i64 win] w fun e w' => e = .returned (.bool true) ∧ Below w.heap.size w w' := by
  by_cases h : 40 < L
  · exact fairlaw_long A L c n win w h hm
  · by_cases hn : n < 1 ∨ 64 < n
    · exact fairlaw_none A L c n win w z hz hc h hn
    · obtain ⟨N, rfl⟩ : ∃ N : Nat, n = N := ⟨n.toNat, by omega⟩
      exact fairlaw_main A L c N win w z hz hc h (by omega) (by omega)
end Go.Proofs.Ytjaiahnibeieiaa
