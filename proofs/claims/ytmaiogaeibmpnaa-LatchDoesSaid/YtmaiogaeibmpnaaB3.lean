/- The walk of the law that whatever is taken and given is what the document says. -/
import Derived.Test.YtmaiogaeibmpnaaK1
namespace Go.Proofs.Ytmaiogaeibmpnaa
open Go Go.RowKit

theorem own_not {x : Int} (h : ¬ 0 ≤ x) : ownV x = .tuple #[.int .i64 0, .bool false] := by unfold ownV nm fl; rw [if_neg h, decide_eq_false h]
set_option maxHeartbeats 16000000 in
set_option maxRecDepth 1000000 in
theorem does_short (n : Int) (A : Option Addr) (M c0 : Nat) (w : World) (h : ¬ 40 < M) (hin : InD w A M) :
    Calls Try.prog 3 #[.int .i64 n, .slice A M c0] w fun e w' => e = .returned (.bool true) ∧ Below w.heap.size w w' := by
  have I := Lib.hid hin
  clear hin
  have hL : ¬ (40 : Int) < (M : Int) := by omega
  have hLd : decide ((40 : Int) < (M : Int)) = false := by simp; omega
  go_enter Try.func3, Try.ntmps3
  go_wp2_with fail
  refine (awake_any _).mono ?_
  rintro e w1 ⟨rfl, hb1⟩
  go_wp2_with fail
  refine (one_new n w w1 hb1).mono ?_
  rintro e w2 ⟨b, g, rfl, ho, -⟩
  have HO := Lib.hid ho
  clear ho hb1
  go_wp2_with fail
  refine (rnew_any n w2).mono ?_
  rintro e w3 ⟨bx, gx, c, rfl, hrf, hb3, k1, k2⟩
  have hh : Dh w w3 b g bx gx (cl n) c (fun _ => -1) (fun _ => -1) := by
    have q1 := HO.out.lat.lt
    have q2 := HO.out.lat.gl
    have q3 := HO.out.bel.size
    exact ⟨HO.out.below hb3, hrf, ⟨by omega, by omega, by omega⟩, by omega⟩
  generalize cl n = N at hh
  have H0 := Lib.hid hh
  have hnb := hh.rf.nb
  clear hh hrf hb3 k1 k2 HO
  go_wp2_with fail
  go_loopw [26] (fun t wr => ∃ (k : Nat) (wh : Nat → Int), k ≤ M ∧ t = .int .i64 k ∧ Dh w wr b g bx gx N c wh wh) (fun t _ => M - (intOf t).toNat)
  case atStart => exact ⟨0, _, by omega, rfl, H0.out⟩
  case round =>
    obtain ⟨k, wh, hk, rfl, ho⟩ := hrel
    have H := Lib.hid ho
    clear ho H0
    by_cases hlt : k < M
    · obtain ⟨ad, kd, r, y, rfl, ⟨q0, q1, q2⟩⟩ := I.out.at H.out.one.bel hlt
      have HP := Lib.hid (H.out.du kd r y)
      clear H
      by_cases hk0 : kd = 0
      · subst hk0
        go_wp2_with fail
        have hp0 := HP.out.below (drew1_below _)
        have hp1 := HP.out
        clear q0 q1 q2
        generalize wr.alloc (.cells #[.int .i64 0, .int .i64 r, .int .i64 y] 29) = W0 at hp0 hp1 HP ⊢
        generalize wr.heap.size = Bd at hp0 hp1 HP ⊢
        obtain ⟨d1, d2⟩ := hp1.deed
        go_region_held3 (fun w' => w'.cell? ⟨Bd, 1, none⟩ = some (.int .i64 r) ∧ w'.cell? ⟨Bd, 2, none⟩ = some (.int .i64 y)) (first | exact Du.deed (by assumption)) (first | (go_at_call 9; ((with_reducible refine (du_take (by assumption)).mono ?_); rintro e w1 ⟨rfl, hq1⟩)) | (go_at_call 10; ((with_reducible refine (du_rtake (by assumption)).mono ?_); rintro e w2 ⟨rfl, hq2⟩)))
        have HQ := Lib.hid hq2
        clear hp0 hp1 HP d1 d2 hq1 hq2
        generalize takeW N wh r y = wh9 at HQ
        generalize takeE N wh r y = E at *
        have q5 := HQ.out.dh.rf.c0
        go_wp2_with fail
        clear q5
        go_loopw [64, 10] (fun t v wr => ∃ j : Nat, j ≤ N ∧ t = .int .i64 j ∧ v = .bool (frB wh9 j) ∧ Du w wr b g bx gx N c Bd r y wh9 wh9) (fun t _ _ => N - (intOf t).toNat)
        case atStart => exact ⟨0, by omega, rfl, rfl, HQ.out⟩
        case round =>
          obtain ⟨w4, rfl⟩ : ∃ w4, w4 = wr := ⟨_, rfl⟩
          obtain ⟨j, hj, rfl, rfl, hd⟩ := hrel
          have HD := Lib.hid hd
          clear hd HQ
          by_cases hjN : j < N
          · have q6 := HD.out.dh.rf.r j hjN
            have HO := Lib.hid (HD.out.dh.one.lat.owner hjN)
            have HF := Lib.hid (show frB wh9 (j + 1) = (frB wh9 j && decide (wh9 j < 0)) from rfl)
            have hmn := HD.out.dh.one.lat.mn j
            generalize frB wh9 j = fb at *
            generalize wh9 j = x at *
            by_cases h0 : 0 ≤ x
            · rw [own_is h0] at HO
              have e0 : decide (0 ≤ x) = true := by simpa using h0
              have e1 : decide (x < 0) = false := by simpa using h0
              rw [e1] at HF
              clear h0
              go_wp2_with fail
              refine HO.out.mono ?_
              rintro e w5 ⟨rfl, i, rfl⟩
              have HD5 := Lib.hid (HD.out.below (drew_below w4 i))
              generalize w4.drewN i = w5 at HD5 ⊢
              clear HO HD q6
              cases fb
              · go_wp2_with fail
                go_roundw
                case rel => exact ⟨j + 1, by omega, by go_num, by rw [HF.out]; rfl, HD5.out⟩
                case measure => simp [intOf]; omega
              · go_wp2_with fail
                go_roundw
                case rel => exact ⟨j + 1, by omega, by go_num, by rw [HF.out]; rfl, HD5.out⟩
                case measure => simp [intOf]; omega
            · rw [own_not h0] at HO
              have e0 : decide (0 ≤ x) = false := by simpa using h0
              have e1 : decide (x < 0) = true := by simpa using h0
              rw [e1] at HF
              clear h0
              go_wp2_with fail
              refine HO.out.mono ?_
              rintro e w5 ⟨rfl, i, rfl⟩
              have HD5 := Lib.hid (HD.out.below (drew_below w4 i))
              generalize w4.drewN i = w5 at HD5 ⊢
              clear HO HD q6
              cases fb
              · go_wp2_with fail
                go_roundw
                case rel => exact ⟨j + 1, by omega, by go_num, by rw [HF.out]; rfl, HD5.out⟩
                case measure => simp [intOf]; omega
              · go_wp2_with fail
                go_roundw
                case rel => exact ⟨j + 1, by omega, by go_num, by rw [HF.out]; rfl, HD5.out⟩
                case measure => simp [intOf]; omega
          · obtain rfl : j = N := by omega
            obtain ⟨fb, hfb⟩ : ∃ fb, frB wh9 j = fb := ⟨_, rfl⟩
            have HFb := Lib.hid hfb
            obtain ⟨l, hl⟩ : ∃ l, heldL j wh9 r = l := ⟨_, rfl⟩
            have HLl := Lib.hid hl
            have hll : l.length ≤ 5000 := by
              have : (heldL j wh9 r).length ≤ j := fitL_len _ _
              rw [hl] at this
              omega
            rw [hfb]
            clear hfb hl
            go_wp2_with fail
            have hp0 := HD.out.below (drew1_below _)
            have hp1 := HD.out
            obtain ⟨d1, d2⟩ := hp1.head
            go_region_held3 (fun w' => w'.cell? ⟨Bd, 1, none⟩ = some (.int .i64 r) ∧ w'.cell? ⟨bx, 0, none⟩ = some (.slice (some ⟨gx, 0, none⟩) j c)) (first | exact Du.head (by assumption)) (first | (go_at_call 15; ((with_reducible refine (du_held (by assumption) HLl.out).mono ?_); rintro e w5 ⟨A5, c5, rfl, hr5, hb5, hq5⟩)) | (go_at_call 16; ((with_reducible refine (du_rheld hq5 HLl.out).mono ?_); rintro e w6 ⟨A6, c6, rfl, hr6, hb6, hq6⟩)) | (go_at_call 14; ((with_reducible refine (same_list (hr5.below hb6) hr6 hll).mono ?_); rintro e w7 ⟨rfl, hb7⟩; have hq7 := hq6.below hb7)) | (go_at_call 17; ((with_reducible refine (du_free hq7 HFb.out).mono ?_); rintro e w8 ⟨rfl, hq8⟩)) | (go_at_call 18; ((with_reducible refine (du_len hq8).mono ?_); rintro e w9 ⟨rfl, hq9⟩)))
            have HQ9 := Lib.hid hq9.dh
            clear hp0 hp1 d1 d2 hr5 hb5 hq5 hr6 hb6 hq6 hb7 hq7 hq8 hq9 HD HFb HLl
            go_wp2_with fail
            go_roundw
            case rel => exact ⟨k + 1, wh9, by omega, by go_num, HQ9.out⟩
            case measure => simp [intOf]; omega
      · have hkd : (kd == 0) = false := by simpa using hk0
        clear hk0
        go_wp2_with fail
        have hp0 := HP.out.below (drew1_below _)
        have hp1 := HP.out
        clear q0 q1 q2
        generalize wr.alloc (.cells #[.int .i64 kd, .int .i64 r, .int .i64 y] 29) = W0 at hp0 hp1 HP ⊢
        generalize wr.heap.size = Bd at hp0 hp1 HP ⊢
        obtain ⟨d1, d2⟩ := hp1.deed
        go_region_held3 (fun w' => w'.cell? ⟨Bd, 1, none⟩ = some (.int .i64 r) ∧ w'.cell? ⟨Bd, 2, none⟩ = some (.int .i64 y)) (first | exact Du.deed (by assumption)) (first | (go_at_call 11; ((with_reducible refine (du_give (by assumption)).mono ?_); rintro e w1 ⟨rfl, hq1⟩)) | (go_at_call 12; ((with_reducible refine (du_rgive (by assumption)).mono ?_); rintro e w2 ⟨rfl, hq2⟩)))
        have HQ := Lib.hid hq2
        clear hp0 hp1 HP d1 d2 hq1 hq2
        generalize giveW N wh r y = wh9 at HQ
        generalize giveE N wh r y = E at *
        have q5 := HQ.out.dh.rf.c0
        go_wp2_with fail
        clear q5
        go_loopw [64, 10] (fun t v wr => ∃ j : Nat, j ≤ N ∧ t = .int .i64 j ∧ v = .bool (frB wh9 j) ∧ Du w wr b g bx gx N c Bd r y wh9 wh9) (fun t _ _ => N - (intOf t).toNat)
        case atStart => exact ⟨0, by omega, rfl, rfl, HQ.out⟩
        case round =>
          obtain ⟨w4, rfl⟩ : ∃ w4, w4 = wr := ⟨_, rfl⟩
          obtain ⟨j, hj, rfl, rfl, hd⟩ := hrel
          have HD := Lib.hid hd
          clear hd HQ
          by_cases hjN : j < N
          · have q6 := HD.out.dh.rf.r j hjN
            have HO := Lib.hid (HD.out.dh.one.lat.owner hjN)
            have HF := Lib.hid (show frB wh9 (j + 1) = (frB wh9 j && decide (wh9 j < 0)) from rfl)
            have hmn := HD.out.dh.one.lat.mn j
            generalize frB wh9 j = fb at *
            generalize wh9 j = x at *
            by_cases h0 : 0 ≤ x
            · rw [own_is h0] at HO
              have e0 : decide (0 ≤ x) = true := by simpa using h0
              have e1 : decide (x < 0) = false := by simpa using h0
              rw [e1] at HF
              clear h0
              go_wp2_with fail
              refine HO.out.mono ?_
              rintro e w5 ⟨rfl, i, rfl⟩
              have HD5 := Lib.hid (HD.out.below (drew_below w4 i))
              generalize w4.drewN i = w5 at HD5 ⊢
              clear HO HD q6
              cases fb
              · go_wp2_with fail
                go_roundw
                case rel => exact ⟨j + 1, by omega, by go_num, by rw [HF.out]; rfl, HD5.out⟩
                case measure => simp [intOf]; omega
              · go_wp2_with fail
                go_roundw
                case rel => exact ⟨j + 1, by omega, by go_num, by rw [HF.out]; rfl, HD5.out⟩
                case measure => simp [intOf]; omega
            · rw [own_not h0] at HO
              have e0 : decide (0 ≤ x) = false := by simpa using h0
              have e1 : decide (x < 0) = true := by simpa using h0
              rw [e1] at HF
              clear h0
              go_wp2_with fail
              refine HO.out.mono ?_
              rintro e w5 ⟨rfl, i, rfl⟩
              have HD5 := Lib.hid (HD.out.below (drew_below w4 i))
              generalize w4.drewN i = w5 at HD5 ⊢
              clear HO HD q6
              cases fb
              · go_wp2_with fail
                go_roundw
                case rel => exact ⟨j + 1, by omega, by go_num, by rw [HF.out]; rfl, HD5.out⟩
                case measure => simp [intOf]; omega
              · go_wp2_with fail
                go_roundw
                case rel => exact ⟨j + 1, by omega, by go_num, by rw [HF.out]; rfl, HD5.out⟩
                case measure => simp [intOf]; omega
          · obtain rfl : j = N := by omega
            obtain ⟨fb, hfb⟩ : ∃ fb, frB wh9 j = fb := ⟨_, rfl⟩
            have HFb := Lib.hid hfb
            obtain ⟨l, hl⟩ : ∃ l, heldL j wh9 r = l := ⟨_, rfl⟩
            have HLl := Lib.hid hl
            have hll : l.length ≤ 5000 := by
              have : (heldL j wh9 r).length ≤ j := fitL_len _ _
              rw [hl] at this
              omega
            rw [hfb]
            clear hfb hl
            go_wp2_with fail
            have hp0 := HD.out.below (drew1_below _)
            have hp1 := HD.out
            obtain ⟨d1, d2⟩ := hp1.head
            go_region_held3 (fun w' => w'.cell? ⟨Bd, 1, none⟩ = some (.int .i64 r) ∧ w'.cell? ⟨bx, 0, none⟩ = some (.slice (some ⟨gx, 0, none⟩) j c)) (first | exact Du.head (by assumption)) (first | (go_at_call 15; ((with_reducible refine (du_held (by assumption) HLl.out).mono ?_); rintro e w5 ⟨A5, c5, rfl, hr5, hb5, hq5⟩)) | (go_at_call 16; ((with_reducible refine (du_rheld hq5 HLl.out).mono ?_); rintro e w6 ⟨A6, c6, rfl, hr6, hb6, hq6⟩)) | (go_at_call 14; ((with_reducible refine (same_list (hr5.below hb6) hr6 hll).mono ?_); rintro e w7 ⟨rfl, hb7⟩; have hq7 := hq6.below hb7)) | (go_at_call 17; ((with_reducible refine (du_free hq7 HFb.out).mono ?_); rintro e w8 ⟨rfl, hq8⟩)) | (go_at_call 18; ((with_reducible refine (du_len hq8).mono ?_); rintro e w9 ⟨rfl, hq9⟩)))
            have HQ9 := Lib.hid hq9.dh
            clear hp0 hp1 d1 d2 hr5 hb5 hq5 hr6 hb6 hq6 hb7 hq7 hq8 hq9 HD HFb HLl
            go_wp2_with fail
            go_roundw
            case rel => exact ⟨k + 1, wh9, by omega, by go_num, HQ9.out⟩
            case measure => simp [intOf]; omega
    · obtain rfl : k = M := by omega
      go_wp2_with fail
      go_ret
      exact ⟨rfl, H.out.one.bel⟩
theorem does_walk (n : Int) (A : Option Addr) (M c : Nat) (w : World) (hm : M ≤ maxLen) (hin : InD w A M) :
    Calls Try.prog 3 #[.int .i64 n, .slice A M c] w fun e w' => e = .returned (.bool true) ∧ Below w.heap.size w w' := by
  by_cases h : 40 < M
  · exact does_long n A M c w h hm
  · exact does_short n A M c w h hin
end Go.Proofs.Ytmaiogaeibmpnaa
