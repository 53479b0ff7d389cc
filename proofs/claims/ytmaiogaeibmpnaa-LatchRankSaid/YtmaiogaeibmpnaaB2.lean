/- The walk of the law that a latch that is taken and given is as it was. -/
import Derived.Test.YtmaiogaeibmpnaaB1
namespace Go.Proofs.Ytmaiogaeibmpnaa
open Go Go.RowKit

/-- latches, whose ever they are -/
def Some (w W : World) (b g N : Nat) : Prop := ∃ wh, One w W b g N wh
theorem gives_long (n : Int) (A : Option Addr) (M c : Nat) (who i : Int) (w : World) (h : 40 < M) (hm : M ≤ maxLen) :
    Calls Try.prog 5 #[.int .i64 n, .slice A M c, .int .i64 who, .int .i64 i] w fun e w' => e = .returned (.bool true) ∧ Below w.heap.size w w' := by
  unfold maxLen at hm
  have h2 : (40 : Int) < (M : Int) := by omega
  have h3 : decide ((40 : Int) < (M : Int)) = true := by simp; omega
  clear h
  go_enter Try.func5, Try.ntmps5
  go_wp2_with fail
  refine (awake_any _).mono ?_
  rintro e w1 ⟨rfl, hb1⟩
  go_wp2_with fail
  go_ret
  exact ⟨rfl, hb1⟩
set_option maxHeartbeats 4000000 in
set_option maxRecDepth 100000 in
theorem gives_short (n : Int) (A : Option Addr) (M c : Nat) (who i : Int) (w : World) (h : ¬ 40 < M) (hin : InD w A M) :
    Calls Try.prog 5 #[.int .i64 n, .slice A M c, .int .i64 who, .int .i64 i] w fun e w' => e = .returned (.bool true) ∧ Below w.heap.size w w' := by
  have I := Lib.hid hin
  clear hin
  have hL : ¬ (40 : Int) < (M : Int) := by omega
  have hLd : decide ((40 : Int) < (M : Int)) = false := by simp; omega
  go_enter Try.func5, Try.ntmps5
  go_wp2_with fail
  refine (awake_any _).mono ?_
  rintro e w1 ⟨rfl, hb1⟩
  go_wp2_with fail
  refine (one_new n w w1 hb1).mono ?_
  rintro e w2 ⟨b, g, rfl, ho, -⟩
  generalize cl n = N at ho
  have H0 := Lib.hid (show Some w w2 b g N from ⟨_, ho⟩)
  clear ho hb1
  go_wp2_with fail
  go_loopw [24] (fun t wr => ∃ k : Nat, k ≤ M ∧ t = .int .i64 k ∧ Some w wr b g N) (fun t _ => M - (intOf t).toNat)
  case atStart => exact ⟨0, by omega, rfl, H0.out⟩
  case round =>
    obtain ⟨k, hk, rfl, wh, ho⟩ := hrel
    have H := Lib.hid ho
    clear ho H0
    by_cases hlt : k < M
    · obtain ⟨ad, kd, r, t, rfl, ⟨c0, c1, c2⟩⟩ := I.out.at H.out.bel hlt
      have H1 := Lib.hid (H.out.below (box_below wr (.cells #[.int .i64 kd, .int .i64 r, .int .i64 t] 29)))
      clear H
      by_cases hk0 : kd = 0
      · subst hk0
        have HC := Lib.hid (H1.out.lat.take r t)
        go_wp2_with fail
        refine HC.out.mono ?_
        intro e w3 hd
        obtain ⟨rfl, ho, -⟩ := H1.out.did hd
        have H2 := Lib.hid ho
        clear ho hd HC H1 c0 c1 c2
        go_wp2_with fail
        go_roundw
        case rel => exact ⟨k + 1, by omega, by go_num, _, H2.out⟩
        case measure => simp [intOf]; omega
      · have hkd : (kd == 0) = false := by simpa using hk0
        have HC := Lib.hid (H1.out.lat.give r t)
        clear hk0
        go_wp2_with fail
        refine HC.out.mono ?_
        intro e w3 hd
        obtain ⟨rfl, ho, -⟩ := H1.out.did hd
        have H2 := Lib.hid ho
        clear ho hd HC H1 c0 c1 c2
        go_wp2_with fail
        go_roundw
        case rel => exact ⟨k + 1, by omega, by go_num, _, H2.out⟩
        case measure => simp [intOf]; omega
    · obtain rfl : k = M := by omega
      clear I
      have hnb := H.out.lat.nb
      have HH := Lib.hid (H.out.lat.held who)
      have hlen : (heldL N wh who).length ≤ N := fitL_len _ _
      obtain ⟨m, hm⟩ : ∃ m, (heldL N wh who).length = m := ⟨_, rfl⟩
      have HM := Lib.hid hm
      rw [hm] at hlen
      clear hm
      go_wp2_with fail
      refine HH.out.mono ?_
      rintro e w3 ⟨A3, c3, rfl, hd3, hb3⟩
      rw [HM.out]
      have H3 := Lib.hid (H.out.below hb3)
      have hgl := H.out.lat.gl
      have HR3 := Lib.hid hd3
      have HC := Lib.hid (H3.out.lat.take who i)
      have hmn := H.out.lat.mn
      generalize wr.heap.size = K at *
      clear HH H hd3 hb3
      go_wp2_with fail
      refine HC.out.mono ?_
      intro e w4 hd
      obtain ⟨rfl, ho, hon⟩ := H3.out.did hd
      have HR4 := Lib.hid (HR3.out.only hon (fun k e => by rw [e]; exact hgl))
      by_cases hE : takeE N wh who i = 0
      · obtain ⟨hw, k, rfl, hk, hwh⟩ := take_ok hmn hE
        rw [take_yes hE] at ho
        rw [hE]
        have H4 := Lib.hid ho
        clear hE ho hon hd HC H3 HR3 hmn
        have HO := Lib.hid (H4.out.lat.owner hk)
        rw [upd_same, own_is hw] at HO
        go_wp2_with fail
        refine HO.out.mono ?_
        rintro e w5 ⟨rfl, j, rfl⟩
        have H5 := Lib.hid (H4.out.below (drew_below w4 j))
        have HR5 := Lib.hid (HR4.out.below (drew_below w4 j))
        generalize w4.drewN j = w5 at H5 HR5 ⊢
        clear HO H4 HR4
        have HH := Lib.hid (H5.out.lat.held who)
        have HM2 := Lib.hid ((held_more hk hwh hw).trans (by rw [HM.out]))
        go_wp2_with fail
        refine HH.out.mono ?_
        rintro e w6 ⟨A6, c6, rfl, -, hb6⟩
        rw [HM2.out]
        have H6 := Lib.hid (H5.out.below hb6)
        have HR6 := Lib.hid (HR5.out.below hb6)
        have HG := Lib.hid (H6.out.lat.give who (k : Int))
        rw [(give_yes hk hw (upd_same wh k who)).1, (give_yes hk hw (upd_same wh k who)).2, upd_back hwh] at HG
        clear HH HM2 H5 HR5 hb6
        go_wp2_with fail
        refine HG.out.mono ?_
        intro e w7 hd
        obtain ⟨rfl, ho, hon⟩ := H6.out.did hd
        have H7 := Lib.hid ho
        have HR7 := Lib.hid (HR6.out.only hon (fun k e => by rw [e]; exact hgl))
        have HH := Lib.hid (H7.out.lat.held who)
        clear HG H6 HR6 hd ho hon
        go_wp2_with fail
        refine HH.out.mono ?_
        rintro e w8 ⟨A8, c8, rfl, hd8, hb8⟩
        have H8 := Lib.hid (H7.out.below hb8)
        have HS := Lib.hid (same_list hd8 (HR7.out.below hb8) (by rw [HM.out]; omega))
        rw [HM.out] at HS ⊢
        clear HH H7 HR7 hd8 hb8
        go_wp2_with fail
        refine HS.out.mono ?_
        rintro e w9 ⟨rfl, hb9⟩
        have H9 := Lib.hid (H8.out.below hb9)
        have HG := Lib.hid (H9.out.lat.give who (k : Int))
        have hne : wh k ≠ who := by omega
        rw [(give_no hk hw hne).1, (give_no hk hw hne).2] at HG
        clear HS H8 hb9 hne hwh
        go_wp2_with fail
        refine HG.out.mono ?_
        intro e w10 hd
        obtain ⟨rfl, ho, -⟩ := H9.out.did hd
        have HB := Lib.hid ho.bel
        clear HG H9 hd ho
        go_wp2_with fail
        go_ret
        exact ⟨rfl, HB.out⟩
      · rw [take_not hE] at ho
        have H4 := Lib.hid ho
        have hEb : (takeE N wh who i != 0) = true := by simpa using hE
        clear hE ho hon hd HC H3 HR3 hmn
        generalize takeE N wh who i = E at *
        have HH := Lib.hid (H4.out.lat.held who)
        go_wp2_with fail
        refine HH.out.mono ?_
        rintro e w8 ⟨A8, c8, rfl, hd8, hb8⟩
        have H8 := Lib.hid (H4.out.below hb8)
        have HS := Lib.hid (same_list hd8 (HR4.out.below hb8) (by rw [HM.out]; omega))
        rw [HM.out] at HS ⊢
        clear HH H4 HR4 hd8 hb8
        go_wp2_with fail
        refine HS.out.mono ?_
        rintro e w9 ⟨rfl, hb9⟩
        have H9 := Lib.hid (H8.out.below hb9)
        clear HS H8 hb9
        go_wp2_with fail
        go_ret
        exact ⟨rfl, H9.out.bel⟩
theorem gives_walk (n : Int) (A : Option Addr) (M c : Nat) (who i : Int) (w : World) (hm : M ≤ maxLen) (hin : InD w A M) :
    Calls Try.prog 5 #[.int .i64 n, .slice A M c, .int .i64 who, .int .i64 i] w fun e w' => e = .returned (.bool true) ∧ Below w.heap.size w w' := by
  by_cases h : 40 < M
  · exact gives_long n A M c who i w h hm
  · exact gives_short n A M c who i w h hin
end Go.Proofs.Ytmaiogaeibmpnaa
