/- The walk of the law that rounds are fair. -/
import Derived.Test.YtjaiahnibeieiaaD6
namespace Go.Proofs.Ytjaiahnibeieiaa
open Go Go.RowKit

set_option maxHeartbeats 1000000 in
theorem round_long (A : Option Addr) (L c : Nat) (n many win more : Int) (w : World) (h : ((60 : Int) < (L : Int)) ∨ ((300 : Int) < many) ∨ ((64 : Int) < n) ∨ (win < 0) ∨ ((1000 : Int) < win) ∨ (more < 0) ∨ ((1000 : Int) < more)) :
    Calls Try.prog 5 #[.slice A L c, .int .i64 n, .int .i64 many, .int .i64 win, .int .i64 more] w fun e w' => e = .returned (.bool true) ∧ Below w.heap.size w w' := by
  by_cases h0 : (60 : Int) < (L : Int)
  · clear h
    go_enter Try.func5, Try.ntmps5
    go_wp2_with fail
    refine (awake_any _).mono ?_
    rintro e w1 ⟨rfl, hb1⟩
    go_wp2_with fail
    go_ret
    exact ⟨rfl, hb1⟩
  by_cases h1 : (300 : Int) < many
  · clear h
    go_enter Try.func5, Try.ntmps5
    go_wp2_with fail
    refine (awake_any _).mono ?_
    rintro e w1 ⟨rfl, hb1⟩
    go_wp2_with fail
    go_ret
    exact ⟨rfl, hb1⟩
  by_cases h2 : (64 : Int) < n
  · clear h
    go_enter Try.func5, Try.ntmps5
    go_wp2_with fail
    refine (awake_any _).mono ?_
    rintro e w1 ⟨rfl, hb1⟩
    go_wp2_with fail
    go_ret
    exact ⟨rfl, hb1⟩
  by_cases h3 : win < 0
  · clear h
    go_enter Try.func5, Try.ntmps5
    go_wp2_with fail
    refine (awake_any _).mono ?_
    rintro e w1 ⟨rfl, hb1⟩
    go_wp2_with fail
    go_ret
    exact ⟨rfl, hb1⟩
  by_cases h4 : (1000 : Int) < win
  · clear h
    go_enter Try.func5, Try.ntmps5
    go_wp2_with fail
    refine (awake_any _).mono ?_
    rintro e w1 ⟨rfl, hb1⟩
    go_wp2_with fail
    go_ret
    exact ⟨rfl, hb1⟩
  by_cases h5 : more < 0
  · clear h
    go_enter Try.func5, Try.ntmps5
    go_wp2_with fail
    refine (awake_any _).mono ?_
    rintro e w1 ⟨rfl, hb1⟩
    go_wp2_with fail
    go_ret
    exact ⟨rfl, hb1⟩
  have h6 : (1000 : Int) < more := by omega
  clear h
  go_enter Try.func5, Try.ntmps5
  go_wp2_with fail
  refine (awake_any _).mono ?_
  rintro e w1 ⟨rfl, hb1⟩
  go_wp2_with fail
  go_ret
  exact ⟨rfl, hb1⟩
set_option maxHeartbeats 1000000 in
theorem round_none (A : Option Addr) (L c : Nat) (n many win more : Int) (w : World) (z : Nat → Int) (hz : Rf w A L z) (h0 : ¬ (60 : Int) < (L : Int)) (h1 : ¬ (300 : Int) < many) (h2 : ¬ (64 : Int) < n) (h3 : ¬ win < 0) (h4 : ¬ (1000 : Int) < win) (h5 : ¬ more < 0) (h6 : ¬ (1000 : Int) < more) (h : n < 1) :
    Calls Try.prog 5 #[.slice A L c, .int .i64 n, .int .i64 many, .int .i64 win, .int .i64 more] w fun e w' => e = .returned (.bool true) ∧ Below w.heap.size w w' := by
  have HG := fun W (hz : Rf W A L z) => Lib.hid (gap_any (c := c) n W hz (by omega))
  have HF := fun W (hz : Rf W A L z) => Lib.hid (fair_any (c := c) n win W hz (by omega))
  rw [show fairI z L n win = false from fair_less (.inl h)] at HF
  rw [show gapI z L n = 0 from if_pos h] at HG
  have HZ := Lib.hid hz
  clear hz
  go_enter Try.func5, Try.ntmps5
  go_wp2_with fail
  refine (awake_any _).mono ?_
  rintro e w1 ⟨rfl, hb1⟩
  go_wp2_with fail
  refine (HG w1 (HZ.out.below hb1)).out.mono ?_
  rintro e w2 ⟨rfl, hb2⟩
  have hb2' := hb1.trans (hb2.mono hb1.size)
  go_wp2_with fail
  refine (HF w2 (HZ.out.below hb2')).out.mono ?_
  rintro e w3 ⟨rfl, hb3⟩
  have hb3' := hb2'.trans (hb3.mono hb2'.size)
  go_wp2_with fail
  go_ret
  exact ⟨rfl, hb3'⟩
set_option maxHeartbeats 8000000 in
theorem round_main (A : Option Addr) (L c N : Nat) (many win more : Int) (w : World) (z : Nat → Int) (hz : Rf w A L z) (h0 : ¬ (60 : Int) < (L : Int)) (h1 : ¬ (300 : Int) < many) (h2 : ¬ (64 : Int) < (N : Int)) (h3 : ¬ win < 0) (h4 : ¬ (1000 : Int) < win) (h5 : ¬ more < 0) (h6 : ¬ (1000 : Int) < more) (hN1 : 1 ≤ N) :
    Calls Try.prog 5 #[.slice A L c, .int .i64 (N : Int), .int .i64 many, .int .i64 win, .int .i64 more] w fun e w' => e = .returned (.bool true) ∧ Below w.heap.size w w' := by
  have HG := fun W (hz : Rf W A L z) => Lib.hid (gap_any (c := c) (N : Int) W hz (by omega))
  have HF := fun v W (hz : Rf W A L z) => Lib.hid (fair_any (c := c) (N : Int) v W hz (by omega))
  have k1 := fair_gap (z := z) (L := L) (n := (N : Int)) (by omega)
  have k2 := gap_ge (z := z) (L := L) (n := (N : Int)) (by omega)
  have k3 : gapI z L (N : Int) ≤ 1000 := by
    by_cases e : (N : Int) ≤ (L : Int)
    · have := gap_le (z := z) (L := L) (n := (N : Int)) (by omega) e; omega
    · unfold gapI
      rw [if_neg (by omega), if_pos (by omega)]
      omega
  have K4 := Lib.hid (fun (hgt : (N : Int) < gapI z L (N : Int)) => gap_below (z := z) (L := L) (n := (N : Int)) (v := gapI z L (N : Int) - 1) (by omega) (by omega) (by omega))
  have K5 := Lib.hid (fun (h : fairI z L (N : Int) win = true) => fair_more (more := more) (by omega) h)
  have HZ := Lib.hid hz
  have d1 : ¬ (N : Int) < 1 := by omega
  have hw1 : IntKind.i64.wrap (win + more) = win + more := wrap_small (by omega) (by omega)
  generalize hgg : gapI z L (N : Int) = g at *
  have hw2 : IntKind.i64.wrap (g - 1) = g - 1 := wrap_small (by omega) (by omega)
  clear hz hgg
  go_enter Try.func5, Try.ntmps5
  go_wp2_with fail
  refine (awake_any _).mono ?_
  rintro e w1 ⟨rfl, hb1⟩
  go_wp2_with fail
  refine (HG w1 (HZ.out.below hb1)).out.mono ?_
  rintro e w2 ⟨rfl, hb2⟩
  have hb2' := hb1.trans (hb2.mono hb1.size)
  clear hb1 hb2
  go_wp2_with fail
  refine (HF win w2 (HZ.out.below hb2')).out.mono ?_
  rintro e w3 ⟨rfl, hb3⟩
  have hb3' := hb2'.trans (hb3.mono hb2'.size)
  clear hb2' hb3
  cases hfw : fairI z L (N : Int) win with
  | true =>
    have k5 := K5.out hfw
    go_wp2_with fail
    refine (HF (win + more) w3 (HZ.out.below hb3')).out.mono ?_
    rintro e w4 ⟨rfl, hb4⟩
    rw [k5]
    have hb4' := hb3'.trans (hb4.mono hb3'.size)
    clear hb3' hb4
    go_wp2_with fail
    refine (HF g _ (HZ.out.below hb4')).out.mono ?_
    rintro e w5 ⟨rfl, hb5⟩
    rw [k1]
    have hb5' := hb4'.trans (hb5.mono hb4'.size)
    clear hb4' hb5
    by_cases hgt : (N : Int) < g
    · have k4 := K4.out hgt
      go_wp2_with fail
      refine (HF (g - 1) _ (HZ.out.below hb5')).out.mono ?_
      rintro e w6 ⟨rfl, hb6⟩
      rw [k4]
      have HB := Lib.hid (hb5'.trans (hb6.mono hb5'.size))
      clear hb5' hb6
      by_cases hm : many < 0
      · go_wp2_with fail
        go_ret
        exact ⟨rfl, HB.out⟩
      · obtain ⟨M, rfl⟩ : ∃ M : Nat, many = M := ⟨many.toNat, by omega⟩
        go_wp2_with fail
        refine (round_yes (M := M) _ hN1 (by omega) (by omega)).mono ?_
        rintro e w7 ⟨g7, rfl, ha7, hb7⟩
        have hb7' := HB.out.trans (hb7.mono HB.out.size)
        have HR := Lib.hid (fair_any (c := M) (N : Int) (N : Int) w7 ha7.rf (by omega))
        rw [fair_round hN1] at HR
        clear ha7
        go_wp2_with fail
        refine HR.out.mono ?_
        rintro e w8 ⟨rfl, hb8⟩
        have hb8' := hb7'.trans (hb8.mono hb7'.size)
        go_wp2_with fail
        go_ret
        exact ⟨rfl, hb8'⟩
    · have HB := Lib.hid hb5'
      clear hb5'
      by_cases hm : many < 0
      · go_wp2_with fail
        go_ret
        exact ⟨rfl, HB.out⟩
      · obtain ⟨M, rfl⟩ : ∃ M : Nat, many = M := ⟨many.toNat, by omega⟩
        go_wp2_with fail
        refine (round_yes (M := M) _ hN1 (by omega) (by omega)).mono ?_
        rintro e w7 ⟨g7, rfl, ha7, hb7⟩
        have hb7' := HB.out.trans (hb7.mono HB.out.size)
        have HR := Lib.hid (fair_any (c := M) (N : Int) (N : Int) w7 ha7.rf (by omega))
        rw [fair_round hN1] at HR
        clear ha7
        go_wp2_with fail
        refine HR.out.mono ?_
        rintro e w8 ⟨rfl, hb8⟩
        have hb8' := hb7'.trans (hb8.mono hb7'.size)
        go_wp2_with fail
        go_ret
        exact ⟨rfl, hb8'⟩
  | false =>
    have hb4' := hb3'
    clear hb3'
    go_wp2_with fail
    refine (HF g _ (HZ.out.below hb4')).out.mono ?_
    rintro e w5 ⟨rfl, hb5⟩
    rw [k1]
    have hb5' := hb4'.trans (hb5.mono hb4'.size)
    clear hb4' hb5
    by_cases hgt : (N : Int) < g
    · have k4 := K4.out hgt
      go_wp2_with fail
      refine (HF (g - 1) _ (HZ.out.below hb5')).out.mono ?_
      rintro e w6 ⟨rfl, hb6⟩
      rw [k4]
      have HB := Lib.hid (hb5'.trans (hb6.mono hb5'.size))
      clear hb5' hb6
      by_cases hm : many < 0
      · go_wp2_with fail
        go_ret
        exact ⟨rfl, HB.out⟩
      · obtain ⟨M, rfl⟩ : ∃ M : Nat, many = M := ⟨many.toNat, by omega⟩
        go_wp2_with fail
        refine (round_yes (M := M) _ hN1 (by omega) (by omega)).mono ?_
        rintro e w7 ⟨g7, rfl, ha7, hb7⟩
        have hb7' := HB.out.trans (hb7.mono HB.out.size)
        have HR := Lib.hid (fair_any (c := M) (N : Int) (N : Int) w7 ha7.rf (by omega))
        rw [fair_round hN1] at HR
        clear ha7
        go_wp2_with fail
        refine HR.out.mono ?_
        rintro e w8 ⟨rfl, hb8⟩
        have hb8' := hb7'.trans (hb8.mono hb7'.size)
        go_wp2_with fail
        go_ret
        exact ⟨rfl, hb8'⟩
    · have HB := Lib.hid hb5'
      clear hb5'
      by_cases hm : many < 0
      · go_wp2_with fail
        go_ret
        exact ⟨rfl, HB.out⟩
      · obtain ⟨M, rfl⟩ : ∃ M : Nat, many = M := ⟨many.toNat, by omega⟩
        go_wp2_with fail
        refine (round_yes (M := M) _ hN1 (by omega) (by omega)).mono ?_
        rintro e w7 ⟨g7, rfl, ha7, hb7⟩
        have hb7' := HB.out.trans (hb7.mono HB.out.size)
        have HR := Lib.hid (fair_any (c := M) (N : Int) (N : Int) w7 ha7.rf (by omega))
        rw [fair_round hN1] at HR
        clear ha7
        go_wp2_with fail
        refine HR.out.mono ?_
        rintro e w8 ⟨rfl, hb8⟩
        have hb8' := hb7'.trans (hb8.mono hb7'.size)
        go_wp2_with fail
        go_ret
        exact ⟨rfl, hb8'⟩
theorem round_walk (A : Option Addr) (L c : Nat) (n many win more : Int) (w : World) (z : Nat → Int) (hz : Rf w A L z) :
    Calls Try.prog 5 #[.slice A L c, .int .i64 n, .int .i64 many, .int .i64 win, .int .i64 more] w fun e w' => e = .returned (.bool true) ∧ Below w.heap.size w w' := by
  by_cases h : ((60 : Int) < (L : Int)) ∨ ((300 : Int) < many) ∨ ((64 : Int) < n) ∨ (win < 0) ∨ ((1000 : Int) < win) ∨ (more < 0) ∨ ((1000 : Int) < more)
  · exact round_long A L c n many win more w h
  · by_cases h1 : n < 1
    · exact round_none A L c n many win more w z hz (by omega) (by omega) (by omega) (by omega) (by omega) (by omega) (by omega) h1
    · obtain ⟨N, rfl⟩ : ∃ N : Nat, n = N := ⟨n.toNat, by omega⟩
      exact round_main A L c N many win more w z hz (by omega) (by omega) (by omega) (by omega) (by omega) (by omega) (by omega) (by omega)
end Go.Proofs.Ytjaiahnibeieiaa
