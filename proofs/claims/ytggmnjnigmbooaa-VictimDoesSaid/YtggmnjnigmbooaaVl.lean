/- The walk of the law of who gives way, of any, by any policy, and why. -/
import Derived.Test.YtggmnjnigmbooaaVe
import Derived.Test.YtggmnjnigmbooaaVk
import Derived.Deep.CutBlock
namespace Go.Proofs.Ytggmnjnigmbooaa
open Go Go.RowKit Go.Shelf
set_option maxRecDepth 100000

theorem does_out (A A2 A3 : Option Addr) (n n2 n3 c c2 c3 : Nat) (how p a b : Int) (w : World) (hn : n ≤ maxLen) (hn2 : n2 ≤ maxLen) (hn3 : n3 ≤ maxLen) (h : 30 < n ∨ 40 < n2 ∨ 40 < n3) :
    Calls Try.prog 3 #[.slice A n c, .slice A2 n2 c2, .int .i64 how, .int .i64 p, .int .i64 a, .int .i64 b, .slice A3 n3 c3] w fun e w' => e = .returned (.bool true) ∧ Below w.heap.size w w' := by
  have HA := Lib.hid (awake_any w)
  unfold maxLen at hn hn2 hn3
  by_cases q0 : (30 : Int) < (n : Int)
  · have d0 : decide ((30 : Int) < (n : Int)) = true := decide_eq_true q0
    clear h
    go_enter Try.func3, Try.ntmps3
    go_wp2_with fail
    refine HA.out.mono ?_
    rintro e w1 ⟨rfl, rfl⟩
    go_wp2_with fail
    go_ret
    exact ⟨rfl, Below.refl _ _⟩
  have d0 : decide ((30 : Int) < (n : Int)) = false := decide_eq_false q0
  by_cases q1 : (40 : Int) < (n2 : Int)
  · have d1 : decide ((40 : Int) < (n2 : Int)) = true := decide_eq_true q1
    clear h
    go_enter Try.func3, Try.ntmps3
    go_wp2_with fail
    refine HA.out.mono ?_
    rintro e w1 ⟨rfl, rfl⟩
    go_wp2_with fail
    go_ret
    exact ⟨rfl, Below.refl _ _⟩
  have d1 : decide ((40 : Int) < (n2 : Int)) = false := decide_eq_false q1
  have q2 : (40 : Int) < (n3 : Int) := by omega
  have d2 : decide ((40 : Int) < (n3 : Int)) = true := decide_eq_true q2
  clear h
  go_enter Try.func3, Try.ntmps3
  go_wp2_with fail
  refine HA.out.mono ?_
  rintro e w1 ⟨rfl, rfl⟩
  go_wp2_with fail
  go_ret
  exact ⟨rfl, Below.refl _ _⟩
set_option maxHeartbeats 8000000 in
theorem does_walk (A : Option Addr) (n c : Nat) (st : List Int) (A2 : Option Addr) (n2 c2 : Nat) (lk : List Int) (how p a b : Int) (A3 : Option Addr) (n3 c3 : Nat) (l : List Es.Ed) (w : World)
    (hm : n ≤ maxLen) (hn : st.length = n) (hs : Is.Ls w A c st) (hm2 : n2 ≤ maxLen) (hn2 : lk.length = n2) (hk : Is.Ls w A2 c2 lk) (hm3 : n3 ≤ maxLen) (hn3 : l.length = n3) (hl : Es.Ls w A3 c3 l) (hw : ∀ e ∈ l, wf64 e.1 ∧ wf64 e.2) :
    Calls Try.prog 3 #[.slice A n c, .slice A2 n2 c2, .int .i64 how, .int .i64 p, .int .i64 a, .int .i64 b, .slice A3 n3 c3] w fun e w' => e = .returned (.bool true) ∧ Below w.heap.size w w' := by
  by_cases hout : 30 < n ∨ 40 < n2 ∨ 40 < n3
  · exact does_out A A2 A3 n n2 n3 c c2 c3 how p a b w hm hm2 hm3 hout
  have q0 : ¬ (30 : Int) < (n : Int) := by omega
  have q1 : ¬ (40 : Int) < (n2 : Int) := by omega
  have q2 : ¬ (40 : Int) < (n3 : Int) := by omega
  have q0' : decide ((30 : Int) < (n : Int)) = false := decide_eq_false q0
  have q1' : decide ((40 : Int) < (n2 : Int)) = false := decide_eq_false q1
  have q2' : decide ((40 : Int) < (n3 : Int)) = false := decide_eq_false q2
  have HA := Lib.hid (awake_any w)
  have HK := Lib.hid (kill_any p how w)
  have HC := Lib.hid (choose_any hs hk how)
  have HR := Lib.hid (rchoose_any hs hk how)
  have HJ := Lib.hid (fun X : World => judge_any p a b X)
  have HRJ := Lib.hid (fun X : World => rjudge_any p a b X)
  have HAll := Lib.hid (fun (X : World) (hX : Below w.heap.size w X) => all_any (hl.below hX) hw (hs.below hX) (by omega) p)
  have HRAll := Lib.hid (fun (X : World) (hX : Below w.heap.size w X) => rall_any (hl.below hX) (hs.below hX) (by omega) (by omega) p)
  have HLen := Lib.hid (show (allL p st l).length ≤ 40 by have := allL_len (p := p) (st := st) (l := l) l.length (Nat.le_refl _); rw [List.take_length] at this; omega)
  simp only [hn, hn2, hn3] at HC HR HAll HRAll
  clear hs hl hk hn hn2 hn3 hm hm2 hm3 hw hout
  generalize chooseL st lk how = x at *
  generalize judge p a b = y at *
  obtain ⟨z, hz⟩ : ∃ z, kill p how = z := ⟨_, rfl⟩
  rw [hz] at HK
  have HZ := Lib.hid hz
  clear hz
  go_enter Try.func3, Try.ntmps3
  go_wp2_with fail
  refine HA.out.mono ?_
  rintro e w1 ⟨rfl, rfl⟩
  go_wp2_with fail
  refine HK.out.mono ?_
  rintro e w1 ⟨rfl, hw1⟩
  subst hw1
  clear HA HK
  go_upto_block 0 with (fail)
  go_cut [16] (fun sv wx => sv = .int .i64 z ∧ wx = w1)
  case first =>
    have h9 := HZ.out
    clear HZ
    unfold kill at h9
    by_cases h0 : p = 0
    · rw [if_pos h0] at h9
      subst h9
      go_wp2_with fail
      go_meet
      exact ⟨rfl, rfl⟩
    rw [if_neg h0] at h9
    by_cases h3 : p = 3
    · rw [if_pos h3] at h9
      subst h9
      go_wp2_with fail
      go_meet
      exact ⟨rfl, rfl⟩
    rw [if_neg h3] at h9
    by_cases h1 : p = 1
    · subst h1
      by_cases h : how = 1
      · rw [if_pos ⟨rfl, h⟩] at h9
        subst h9
        go_wp2_with fail
        go_meet
        exact ⟨rfl, rfl⟩
      · rw [if_neg (fun q => h q.2), if_neg (by omega)] at h9
        subst h9
        go_wp2_with fail
        go_meet
        exact ⟨rfl, rfl⟩
    rw [if_neg (fun q => h1 q.1)] at h9
    by_cases h2 : p = 2
    · subst h2
      by_cases h : how = 2
      · rw [if_pos ⟨rfl, h⟩] at h9
        subst h9
        go_wp2_with fail
        go_meet
        exact ⟨rfl, rfl⟩
      · rw [if_neg (fun q => h q.2)] at h9
        subst h9
        go_wp2_with fail
        go_meet
        exact ⟨rfl, rfl⟩
    rw [if_neg (fun q => h2 q.1)] at h9
    subst h9
    go_wp2_with fail
    go_meet
    exact ⟨rfl, rfl⟩
  obtain ⟨rfl, hwc⟩ := hcut
  obtain rfl : w1 = wc := hwc.symm
  clear hwc HZ
  go_wp2_with fail
  refine HC.out.mono ?_
  rintro e w2 ⟨rfl, hw2⟩
  obtain rfl : w1 = w2 := hw2.symm
  clear hw2 HC
  go_wp2_with fail
  refine HR.out.mono ?_
  rintro e w2 ⟨rfl, j, hw2⟩
  have hb2 : Below w1.heap.size w1 w2 := by rw [hw2]; exact drew_below _ _
  have HB2 := Lib.hid hb2
  clear hw2 hb2 HR
  go_wp2_with fail
  refine (HJ.out _).mono ?_
  rintro e w3 ⟨rfl, hw3⟩
  obtain rfl : w2 = w3 := hw3.symm
  clear hw3 HJ
  go_wp2_with fail
  refine (HRJ.out _).mono ?_
  rintro e w3 ⟨rfl, hw3⟩
  obtain rfl : w2 = w3 := hw3.symm
  clear hw3 HRJ
  have HCall := Lib.hid (HAll.out w2 HB2.out)
  clear HAll
  go_wp2_with fail
  refine HCall.out.mono ?_
  rintro e w4 ⟨v4, rfl, hr4, hb4⟩
  obtain ⟨A4, c4, rfl, hls4⟩ := hr4.ls
  have HB4 := Lib.hid (HB2.out.trans (hb4.mono HB2.out.size))
  have HRc := Lib.hid (HRAll.out w4 HB4.out)
  have HL4 := Lib.hid hls4
  obtain ⟨q, hq⟩ : ∃ q, (allL p st l).length = q := ⟨_, rfl⟩
  have HQ := Lib.hid hq
  rw [hq]
  clear hr4 hb4 hls4 hq HCall HRAll
  go_wp2_with fail
  refine HRc.out.mono ?_
  rintro e w5 ⟨v5, rfl, hr5, hb5⟩
  obtain ⟨A5, c5, rfl, hls5⟩ := hr5.ls
  have HB5 := Lib.hid (HB4.out.trans (hb5.mono HB4.out.size))
  have HSm := Lib.hid (Es.same_any (HL4.out.below hb5) hls5 (by have := HLen.out; omega))
  rw [HQ.out] at HSm ⊢
  clear hr5 hb5 hls5 HRc HL4
  go_wp2_with fail
  refine HSm.out.mono ?_
  rintro e w6 ⟨rfl, hb6⟩
  have HB6 := Lib.hid (HB5.out.trans (hb6.mono HB5.out.size))
  clear hb6
  go_wp2_with fail
  go_ret
  exact ⟨rfl, HB6.out⟩
end Go.Proofs.Ytggmnjnigmbooaa
