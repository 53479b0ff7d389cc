/- The walk of the law that those who wait for latches that are busy have lesser ones only. -/
import Derived.Test.YtmaiogaeibmpnaaB2
namespace Go.Proofs.Ytmaiogaeibmpnaa
open Go Go.RowKit

/-- what ErrBusy says -/
theorem take_busy {N : Nat} {wh : Nat → Int} {who i : Int} (h : takeE N wh who i = 31) : ∃ k : Nat, i = k ∧ k < N ∧ 0 ≤ wh k ∧ wh k ≠ who ∧ ∀ y ∈ heldL N wh who, y < k := by
  unfold takeE at h
  split at h
  · omega
  · rename_i h1
    obtain ⟨hw, k, rfl, hk⟩ := may_yes (by simpa using h1)
    rw [Int.toNat_natCast] at h
    split at h
    · omega
    · rename_i h2
      split at h
      · omega
      · rename_i h3
        split at h
        · rename_i h4
          refine ⟨k, rfl, hk, h4, h2, fun y hy => ?_⟩
          have h5 : ¬ k < y := fun hlt => h3 (by unfold rankB; rw [List.any_eq_true]; exact ⟨y, hy, by simpa using hlt⟩)
          have h6 := held_mem.1 hy
          have h7 : y ≠ k := fun e => h2 (by rw [← e]; exact h6.2.2)
          omega
        · omega
theorem rank_long (n : Int) (A : Option Addr) (M c : Nat) (A2 : Option Addr) (L c2 : Nat) (w : World) (h : 40 < M ∨ 8 < L) (hm : M ≤ maxLen) (hl : L ≤ maxLen) :
    Calls Try.prog 4 #[.int .i64 n, .slice A M c, .slice A2 L c2] w fun e w' => e = .returned (.bool true) ∧ Below w.heap.size w w' := by
  unfold maxLen at hm hl
  by_cases h1 : 40 < M
  · have h2 : (40 : Int) < (M : Int) := by omega
    have h3 : decide ((40 : Int) < (M : Int)) = true := by simp; omega
    clear h h1
    go_enter Try.func4, Try.ntmps4
    go_wp2_with fail
    refine (awake_any _).mono ?_
    rintro e w1 ⟨rfl, hb1⟩
    go_wp2_with fail
    go_ret
    exact ⟨rfl, hb1⟩
  · have h2 : ¬ (40 : Int) < (M : Int) := by omega
    have h3 : decide ((40 : Int) < (M : Int)) = false := by simp; omega
    have h4 : (8 : Int) < (L : Int) := by omega
    have h5 : decide ((8 : Int) < (L : Int)) = true := by simp; omega
    clear h h1
    go_enter Try.func4, Try.ntmps4
    go_wp2_with fail
    refine (awake_any _).mono ?_
    rintro e w1 ⟨rfl, hb1⟩
    go_wp2_with fail
    go_ret
    exact ⟨rfl, hb1⟩
set_option maxHeartbeats 8000000 in
set_option maxRecDepth 100000 in
theorem rank_short (n : Int) (A : Option Addr) (M c : Nat) (A2 : Option Addr) (L c2 : Nat) (w : World) (h : ¬ 40 < M) (h' : ¬ 8 < L) (hin : InD w A M) (hin2 : InI w A2 L) :
    Calls Try.prog 4 #[.int .i64 n, .slice A M c, .slice A2 L c2] w fun e w' => e = .returned (.bool true) ∧ Below w.heap.size w w' := by
  have I := Lib.hid hin
  have I2 := Lib.hid hin2
  clear hin hin2
  have hL : ¬ (40 : Int) < (M : Int) := by omega
  have hLd : decide ((40 : Int) < (M : Int)) = false := by simp; omega
  have hK : ¬ (8 : Int) < (L : Int) := by omega
  have hKd : decide ((8 : Int) < (L : Int)) = false := by simp; omega
  go_enter Try.func4, Try.ntmps4
  go_wp2_with fail
  refine (awake_any _).mono ?_
  rintro e w1 ⟨rfl, hb1⟩
  go_wp2_with fail
  refine (one_new n w w1 hb1).mono ?_
  rintro e w2 ⟨b, g, rfl, ho, -⟩
  generalize cl n = N at ho
  have H0 := Lib.hid (show Some w w2 b g N from ⟨_, ho⟩)
  clear ho hb1
  go_wp2_with fail
  go_loopw [33] (fun t wr => ∃ k : Nat, k ≤ M ∧ t = .int .i64 k ∧ Some w wr b g N) (fun t _ => M - (intOf t).toNat)
  case atStart => exact ⟨0, by omega, rfl, H0.out⟩
  case round =>
    obtain ⟨k, hk, rfl, wh, ho⟩ := hrel
    have H := Lib.hid ho
    clear ho H0
    by_cases hlt : k < M
    · obtain ⟨ad, kd, r, t, rfl, ⟨c0, c1, c2⟩⟩ := I.out.at H.out.bel hlt
      have H1 := Lib.hid (H.out.below (box_below wr (.cells #[.int .i64 kd, .int .i64 r, .int .i64 t] 29)))
      clear H
      by_cases hk0 : kd = 0
      · subst hk0
        have HC := Lib.hid (H1.out.lat.take r t)
        go_wp2_with fail
        refine HC.out.mono ?_
        intro e w3 hd
        obtain ⟨rfl, ho, -⟩ := H1.out.did hd
        have H2 := Lib.hid ho
        clear ho hd HC H1 c0 c1 c2
        go_wp2_with fail
        go_roundw
        case rel => exact ⟨k + 1, by omega, by go_num, _, H2.out⟩
        case measure => simp [intOf]; omega
      · have hkd : (kd == 0) = false := by simpa using hk0
        have HC := Lib.hid (H1.out.lat.give r t)
        clear hk0
        go_wp2_with fail
        refine HC.out.mono ?_
        intro e w3 hd
        obtain ⟨rfl, ho, -⟩ := H1.out.did hd
        have H2 := Lib.hid ho
        clear ho hd HC H1 c0 c1 c2
        go_wp2_with fail
        go_roundw
        case rel => exact ⟨k + 1, by omega, by go_num, _, H2.out⟩
        case measure => simp [intOf]; omega
    · obtain rfl : k = M := by omega
      have H0 := Lib.hid (show Some w wr b g N from ⟨_, H.out⟩)
      obtain ⟨w3, rfl⟩ : ∃ w3, w3 = wr := ⟨_, rfl⟩
      clear I H
      go_wp2_with fail
      go_loopw [55] (fun t wr => ∃ k : Nat, k ≤ L ∧ t = .int .i64 k ∧ Some w wr b g N) (fun t _ => L - (intOf t).toNat)
      case atStart => exact ⟨0, by omega, rfl, H0.out⟩
      case round =>
        obtain ⟨who, hk, rfl, wh, ho⟩ := hrel
        have H := Lib.hid ho
        clear ho H0
        by_cases hlt : who < L
        · obtain ⟨ad, x, rfl, q0⟩ := I2.out.at H.out.bel hlt
          have HC := Lib.hid (H.out.lat.take (who : Int) x)
          go_wp2_with fail
          refine HC.out.mono ?_
          intro e w4 hd
          obtain ⟨rfl, ho, -⟩ := H.out.did hd
          by_cases hE : takeE N wh (who : Int) x = 31
          · obtain ⟨k, rfl, hkN, h0, hne, hall⟩ := take_busy hE
            rw [take_not (by rw [hE]; omega)] at ho
            rw [hE]
            have H4 := Lib.hid ho
            have HA := Lib.hid hall
            have HO := Lib.hid (H4.out.lat.owner hkN)
            rw [own_is h0] at HO
            have hneb : (wh k == (who : Int)) = false := by simpa using hne
            generalize wh k = z at *
            clear hE ho hd HC H hall hne q0
            go_wp2_with fail
            refine HO.out.mono ?_
            rintro e w5 ⟨rfl, j, rfl⟩
            have H5 := Lib.hid (H4.out.below (drew_below w4 j))
            generalize w4.drewN j = w5 at H5 ⊢
            clear HO H4
            have HH := Lib.hid (H5.out.lat.held (who : Int))
            have hlen : (heldL N wh (who : Int)).length ≤ N := fitL_len _ _
            have hnb := H5.out.lat.nb
            obtain ⟨m, hm⟩ : ∃ m, (heldL N wh (who : Int)).length = m := ⟨_, rfl⟩
            have HM := Lib.hid hm
            rw [hm] at hlen
            clear hm
            go_wp2_with fail
            refine HH.out.mono ?_
            rintro e w6 ⟨A6, c6, rfl, hd6, hb6⟩
            rw [HM.out]
            have H6 := Lib.hid (H5.out.below hb6)
            have HR6 := Lib.hid hd6
            clear HH H5 hd6 hb6
            go_wp2_with fail
            go_loopw [82] (fun t wr => ∃ y : Nat, y ≤ m ∧ t = .int .i64 y ∧ w6 = wr) (fun t _ => m - (intOf t).toNat)
            case atStart => exact ⟨0, by omega, rfl, rfl⟩
            case round =>
              obtain ⟨y, hy, rfl, rfl⟩ := hrel
              by_cases hym : y < m
              · have hyl : y < (heldL N wh (who : Int)).length := by rw [HM.out]; exact hym
                obtain ⟨g2, rfl, q6⟩ := HR6.out.cell hyl
                have hlt2 := HA.out _ (List.getElem_mem hyl)
                generalize (heldL N wh (who : Int))[y] = v at q6 hlt2
                have hvd : ¬ (k : Int) ≤ (v : Int) := by omega
                have hvd2 : decide ((k : Int) ≤ (v : Int)) = false := by simpa using hlt2
                clear hyl
                go_wp2_with fail
                go_roundw
                case rel => exact ⟨y + 1, by omega, by go_num, trivial⟩
                case measure => simp [intOf]; omega
              · obtain rfl : y = m := by omega
                go_wp2_with fail
                go_roundw
                case rel => exact ⟨who + 1, by omega, by go_num, _, H6.out⟩
                case measure => simp [intOf]; omega
          · have hEb : (takeE N wh (who : Int) x != 31) = true := by simpa using hE
            have H4 := Lib.hid ho
            generalize takeE N wh (who : Int) x = E at *
            clear hE ho hd HC H q0
            go_wp2_with fail
            go_roundw
            case rel => exact ⟨who + 1, by omega, by go_num, _, H4.out⟩
            case measure => simp [intOf]; omega
        · obtain rfl : who = L := by omega
          clear I2
          go_wp2_with fail
          refine (ownern_any _ _).mono ?_
          rintro e w' ⟨rfl, rfl⟩
          rw [show ownV (-1) = .tuple #[.int .i64 0, .bool false] from rfl]
          go_wp2_with (first
            | (go_at_call 9; ((with_reducible refine (taken_any _ _ _).mono ?_); rintro e w' ⟨rfl, rfl⟩))
            | (go_at_call 11; ((with_reducible refine (given_any _ _ _).mono ?_); rintro e w' ⟨rfl, rfl⟩)))
          refine (heldn_any _ _).mono ?_
          rintro e w4 ⟨rfl, hb4⟩
          have H4 := Lib.hid (H.out.below hb4)
          clear H hb4
          go_wp2_with fail
          refine (freen_any _).mono ?_
          rintro e w5 ⟨rfl, hb5⟩
          have H5 := Lib.hid (H4.out.below hb5)
          clear H4 hb5
          go_wp2_with (go_at_call 18; ((with_reducible refine (size_none _).mono ?_); rintro e w' ⟨rfl, rfl⟩))
          go_ret
          exact ⟨rfl, H5.out.bel⟩
theorem rank_walk (n : Int) (A : Option Addr) (M c : Nat) (A2 : Option Addr) (L c2 : Nat) (w : World) (hm : M ≤ maxLen) (hl : L ≤ maxLen) (hin : InD w A M) (hin2 : InI w A2 L) :
    Calls Try.prog 4 #[.int .i64 n, .slice A M c, .slice A2 L c2] w fun e w' => e = .returned (.bool true) ∧ Below w.heap.size w w' := by
  by_cases h : 40 < M ∨ 8 < L
  · exact rank_long n A M c A2 L c2 w h hm hl
  · exact rank_short n A M c A2 L c2 w (by omega) (by omega) hin hin2
end Go.Proofs.Ytmaiogaeibmpnaa
