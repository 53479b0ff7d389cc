/- The walk of the law GroupDoes: whatever holds and numbers came in, it returns true and changes nothing that was there. -/
import Derived.Test.YtfapgecpndlibaaDoorK2
import Derived.Test.YtfapgecpndlibaaDoorB3
import Derived.Test.YtfapgecpndlibaaDoorB2
namespace Go.Proofs.YtfapgecpndlibaaDoor
open Go Go.RowKit Go.Shelf

set_option maxRecDepth 100000 in
set_option maxHeartbeats 8000000 in
theorem does_walk (A : Option Addr) (n c : Nat) (xs : List Hd) (tx m : Int) (W : World) (ht : TabG W) (hn : xs.length = n) (hr : Ls W A c xs) (hw : ∀ x ∈ xs, wf64 x.1) (hm : n ≤ maxLen) :
    Calls Tryd.prog 3 #[.slice A n c, .int .i64 tx, .int .i64 m] W fun e w' => e = .returned (.bool true) ∧ Below W.heap.size W w' := by
  have hmx : n ≤ 9223372036854775807 := by unfold maxLen at hm; omega
  have qa := Lib.hid (awake_g ht)
  have HN := Lib.hid hn
  have HR := Lib.hid hr
  have HT := Lib.hid ht
  have HW := Lib.hid hw
  have HB0 := Lib.hid (Below.refl W.heap.size W)
  by_cases h30 : n ≤ 30
  · have d30 : decide (n ≤ 30) = true := by simpa using h30
    clear hn hr hm ht hw
    go_enter Tryd.func3, Tryd.ntmps3
    go_wp2_with fail
    refine Gives.use qa.out HB0.out ?_
    intro w1 hb1
    have HF1 := Lib.hid (few_any A n c w1)
    rw [d30] at HF1
    have HB1 := Lib.hid hb1
    have HU0 := Lib.hid (Bu.start w1)
    clear hb1
    go_wp2_with (go_at_call 7; ((with_reducible refine HF1.out.mono ?_); rintro e w2 ⟨rfl, rfl⟩))
    clear HF1
    go_loopw [19, 7] (fun t v wr => ∃ j : Nat, j ≤ n ∧ t = .int .i64 j ∧ Bu w1 (xs.take j) v wr) (fun t _ _ => n - (intOf t).toNat)
    case atStart => exact ⟨0, by omega, rfl, HU0.out⟩
    case round =>
      obtain ⟨j, hj, rfl, hu⟩ := hrel
      have hjl : (xs.take j).length = j := by rw [List.length_take]; have := HN.out; omega
      have hml : (mods (xs.take j)).length = j := by rw [mods_len, hjl]
      obtain ⟨A1, c1, ev, hnu⟩ := hu.row.nu
      rw [hml] at ev
      subst ev
      have HU := Lib.hid hu
      have HNU := Lib.hid hnu
      have HJL := Lib.hid hjl
      have HML := Lib.hid hml
      clear hu hnu hjl hml HU0
      by_cases hlt : j < n
      · have hlt' : j < xs.length := by rw [HN.out]; exact hlt
        obtain ⟨a, rfl, c0, c1'⟩ := (HR.out.below (HB1.out.trans (HU.out.bel.mono HB1.out.size))).here hlt'
        have HTk := Lib.hid (List.take_succ_eq_append_getElem hlt')
        generalize xs[j]'hlt' = x at c0 c1' HTk
        obtain ⟨A2, c2, w2, hrun, hk1, hks, hcn, hnx⟩ := HU.out.next x HJL.out (by omega) 25
        rw [← HTk.out] at hnx
        have HNX := Lib.hid hnx
        obtain ⟨t, md⟩ := x
        simp only at c0 c1' hrun hk1
        have hbd := cntF_bounds (xs.take j) (kn md)
        have hbl : (cntF (xs.take j) (kn md)) ≤ 5000 := by have := hbd.2; rw [HJL.out] at this; omega
        have hb0 := hbd.1
        have q0 := hcn.at' (kn md) (by have := kn_le md; omega)
        have f0 := hcn.fz (kn md)
        simp only at HNX
        generalize cntF (xs.take j) (kn md) = v at *
        have hsz := HU.out.cnt.lt
        clear hbd hcn hnx hlt' HU
        by_cases hm : 0 ≤ md ∧ md ≤ 6
        · have h0 := hm.1
          have h6 := hm.2
          obtain ⟨k, rfl⟩ : ∃ k : Nat, md = k := ⟨md.toNat, by omega⟩
          rw [kn_nat (by omega)] at HNX q0 f0
          have k7 : k < 7 := by omega
          have HM := fun w => Lib.hid (rmay_yes (k : Int) w h0 h6)
          clear hm
          go_wp2_with (first | (at_builtin; refine Lib.wpList_append_run _ rfl _ _ _ _ rfl _ _ rfl rfl _ _ hrun ?_) | (go_at_call 8; ((with_reducible refine (HM _).out.mono ?_); rintro e w' ⟨rfl, rfl⟩)))
          go_roundw
          case rel => exact ⟨j + 1, by omega, by go_num, HNX.out⟩
          case measure => simp [intOf]; omega
        · rw [kn_out hm] at HNX q0 f0
          have HM := fun w => Lib.hid (rmay_no md w hm)
          clear hm
          go_wp2_with (first | (at_builtin; refine Lib.wpList_append_run _ rfl _ _ _ _ rfl _ _ rfl rfl _ _ hrun ?_) | (go_at_call 8; ((with_reducible refine (HM _).out.mono ?_); rintro e w' ⟨rfl, rfl⟩)))
          go_roundw
          case rel => exact ⟨j + 1, by omega, by go_num, HNX.out⟩
          case measure => simp [intOf]; omega
      · obtain rfl : j = n := by omega
        have HTk := Lib.hid (List.take_of_length_le (Nat.le_of_eq HN.out))
        rw [HTk.out] at HU HNU HML
        have hbr := HB1.out.trans (HU.out.bel.mono HB1.out.size)
        have hs0 : S7 w1.heap.size (cntF xs 0) (cntF xs 1) (cntF xs 2) (cntF xs 3) (cntF xs 4) (cntF xs 5) (cntF xs 6) wr wr := s7_arr HU.out.cnt
        have htr := HT.out.later hbr
        have hx := HR.out.below hbr
        have hlen : xs.length ≤ 30 := by rw [HN.out]; exact h30
        have hN := HN.out
        have hM := HML.out
        have gM := Lib.hid (show Gives wr 9 #[.slice A j c] (.int .i64 (grpN (mods xs) : Nat)) from fun w' hb => by have := acc hb (mode_any (hx.below hb) (by omega)); rw [hN] at this; exact this)
        have gN := Lib.hid (show Gives wr 10 #[.slice A1 j c1] (.int .i64 (grpN (mods xs) : Nat)) from fun w' hb => by have := acc hb (rgroup_any (c := c1) (HNU.out.below hb) (by omega)); rw [hM] at this; exact this)
        have gF := Lib.hid (show Gives wr 11 #[.slice A j c, .int .i64 tx] (.int .i64 (fst tx xs)) from fun w' hb => by have := acc hb (modeOf_any (hx.below hb) (by omega) tx); rw [hN] at this; exact this)
        have gG := Lib.hid (show Gives wr 12 #[.slice A j c, .int .i64 tx] (.int .i64 (fst tx xs)) from fun w' hb => by have := acc hb (rmode_any (hx.below hb) (by omega) tx); rw [hN] at this; exact this)
        have gO := Lib.hid (show Gives wr 13 #[.slice A j c, .int .i64 tx, .int .i64 m] (.bool (goesB tx m xs)) from fun w' hb => by have := acc hb (goes_any (htr.later hb) (hx.below hb) (by omega) tx m); rw [hN] at this; exact this)
        have gP := Lib.hid (show Gives wr 14 #[.slice A j c, .int .i64 tx, .int .i64 m] (.bool (goesB tx m xs)) from fun w' hb => by have := acc hb (rgoes_any (hx.below hb) (by omega) tx m); rw [hN] at this; exact this)
        have gS := Lib.hid (fun (w' : World) (hb : Below wr.heap.size wr w') => (show Calls Tryd.prog 16 #[.slice A j c, .int .i64 tx, .int .i64 m] w' (Lists w' (setL tx m xs)) by have := set_any (hx.below hb) (by omega) tx m; rw [hN] at this; exact this))
        have gT := Lib.hid (fun (w' : World) (hb : Below wr.heap.size wr w') => (show Calls Tryd.prog 17 #[.slice A j c, .int .i64 tx, .int .i64 m] w' (Lists w' (setL tx m xs)) by have := rset_any (hx.below hb) (by omega) tx m; rw [hN] at this; exact this))
        have gD := Lib.hid (fun (w' : World) (hb : Below wr.heap.size wr w') => (show Calls Tryd.prog 18 #[.slice A j c, .int .i64 tx] w' (Lists w' (wout tx xs)) by have := without_any (hx.below hb) (by omega) tx; rw [hN] at this; exact this))
        have gE := Lib.hid (fun (w' : World) (hb : Below wr.heap.size wr w') => (show Calls Tryd.prog 19 #[.slice A j c, .int .i64 tx] w' (Lists w' (wout tx xs)) by have := rwithout_any (hx.below hb) (by omega) tx; rw [hN] at this; exact this))
        have gC := Lib.hid (show Gives wr 20 #[.slice A j c] (.agg #[.int .i64 (cntF xs 0), .int .i64 (cntF xs 1), .int .i64 (cntF xs 2), .int .i64 (cntF xs 3), .int .i64 (cntF xs 4), .int .i64 (cntF xs 5), .int .i64 (cntF xs 6)]) from fun w' hb => by have := acc hb (counts_any (hx.below hb) (by omega)); rw [hN] at this; exact this)
        have gR := Lib.hid (show Gives wr 21 #[.slice A j c] (.bool (rightB xs)) from fun w' hb => by have := acc hb (right_any (htr.later hb) (hx.below hb) HW.out (by omega)); rw [hN] at this; exact this)
        have gQ := Lib.hid (show Gives wr 22 #[.slice A j c] (.bool (rightB xs)) from fun w' hb => by have := acc hb (rright_any (hx.below hb) (by omega)); rw [hN] at this; exact this)
        have hl1 : (setL tx m xs).length ≤ 5000 := by have := setL_le tx m xs; omega
        have hl2 : (wout tx xs).length ≤ 5000 := by have := wout_len tx xs; omega
        have HBr := Lib.hid hbr
        have HS0 := Lib.hid hs0
        have hs0d := s7_drew hs0
        clear hbr htr hx hlen hN hM HU HNU HML HJL HTk hs0 HR HT HW
        generalize grpN (mods xs) = G at *
        generalize fst tx xs = F at *
        generalize goesB tx m xs = gb at *
        generalize rightB xs = rb at *
        generalize setL tx m xs = zs at *
        generalize wout tx xs = ys at *
        generalize cntF xs 0 = x0 at *
        generalize cntF xs 1 = x1 at *
        generalize cntF xs 2 = x2 at *
        generalize cntF xs 3 = x3 at *
        generalize cntF xs 4 = x4 at *
        generalize cntF xs 5 = x5 at *
        generalize cntF xs 6 = x6 at *
        obtain ⟨Bc, hBc⟩ : ∃ Bc, w1.heap.size = Bc := ⟨_, rfl⟩
        rw [hBc] at HS0 hs0d ⊢
        clear hBc hlt HB0
        go_wp2_with fail
        go_region_held3 (S7 Bc x0 x1 x2 x3 x4 x5 x6 wr) (first | exact hs0d | assumption | fail) (first
      | (go_at_call 9; refine Gives.use (w0 := wr) gM.out (s7_bel (B := Bc) (x0 := x0) (x1 := x1) (x2 := x2) (x3 := x3) (x4 := x4) (x5 := x5) (x6 := x6) (by assumption)) ?_; intro w4x hb4; have hs4 : S7 Bc x0 x1 x2 x3 x4 x5 x6 wr w4x := s7_of HS0.out hb4)
      | (go_at_call 10; refine Gives.use (w0 := wr) gN.out (s7_bel (B := Bc) (x0 := x0) (x1 := x1) (x2 := x2) (x3 := x3) (x4 := x4) (x5 := x5) (x6 := x6) (by assumption)) ?_; intro w5x hb5; have hs5 : S7 Bc x0 x1 x2 x3 x4 x5 x6 wr w5x := s7_of HS0.out hb5)
      | (go_at_call 11; refine Gives.use (w0 := wr) gF.out (s7_bel (B := Bc) (x0 := x0) (x1 := x1) (x2 := x2) (x3 := x3) (x4 := x4) (x5 := x5) (x6 := x6) (by assumption)) ?_; intro w6x hb6; have hs6 : S7 Bc x0 x1 x2 x3 x4 x5 x6 wr w6x := s7_of HS0.out hb6)
      | (go_at_call 12; refine Gives.use (w0 := wr) gG.out (s7_bel (B := Bc) (x0 := x0) (x1 := x1) (x2 := x2) (x3 := x3) (x4 := x4) (x5 := x5) (x6 := x6) (by assumption)) ?_; intro w7x hb7; have hs7 : S7 Bc x0 x1 x2 x3 x4 x5 x6 wr w7x := s7_of HS0.out hb7)
      | (go_at_call 13; refine Gives.use (w0 := wr) gO.out (s7_bel (B := Bc) (x0 := x0) (x1 := x1) (x2 := x2) (x3 := x3) (x4 := x4) (x5 := x5) (x6 := x6) (by assumption)) ?_; intro w8x hb8; have hs8 : S7 Bc x0 x1 x2 x3 x4 x5 x6 wr w8x := s7_of HS0.out hb8)
      | (go_at_call 14; refine Gives.use (w0 := wr) gP.out (s7_bel (B := Bc) (x0 := x0) (x1 := x1) (x2 := x2) (x3 := x3) (x4 := x4) (x5 := x5) (x6 := x6) (by assumption)) ?_; intro w9x hb9; have hs9 : S7 Bc x0 x1 x2 x3 x4 x5 x6 wr w9x := s7_of HS0.out hb9)
      | (go_at_call 16; refine (gS.out _ (s7_bel (B := Bc) (x0 := x0) (x1 := x1) (x2 := x2) (x3 := x3) (x4 := x4) (x5 := x5) (x6 := x6) (by assumption))).mono ?_; rintro e w10x ⟨A11, c11, rfl, hls11, hc10⟩; have hb10 := hb9.trans (hc10.mono hb9.size); have hs10 : S7 Bc x0 x1 x2 x3 x4 x5 x6 wr w10x := s7_of HS0.out hb10)
      | (go_at_call 17; refine (gT.out _ (s7_bel (B := Bc) (x0 := x0) (x1 := x1) (x2 := x2) (x3 := x3) (x4 := x4) (x5 := x5) (x6 := x6) (by assumption))).mono ?_; rintro e w11x ⟨A12, c12, rfl, hls12, hc11⟩; have hb11 := hb10.trans (hc11.mono hb10.size); have hs11 : S7 Bc x0 x1 x2 x3 x4 x5 x6 wr w11x := s7_of HS0.out hb11)
      | (go_at_call 15; with_reducible refine (same_any (hls13.below hc14) hls14 hl2).mono ?_; rintro e w15x ⟨rfl, hc15⟩; have hb15 := hb14.trans (hc15.mono hb14.size); have hs15 : S7 Bc x0 x1 x2 x3 x4 x5 x6 wr w15x := s7_of HS0.out hb15)
      | (go_at_call 15; with_reducible refine (same_any (hls11.below hc11) hls12 hl1).mono ?_; rintro e w12x ⟨rfl, hc12⟩; have hb12 := hb11.trans (hc12.mono hb11.size); have hs12 : S7 Bc x0 x1 x2 x3 x4 x5 x6 wr w12x := s7_of HS0.out hb12)
      | (go_at_call 18; refine (gD.out _ (s7_bel (B := Bc) (x0 := x0) (x1 := x1) (x2 := x2) (x3 := x3) (x4 := x4) (x5 := x5) (x6 := x6) (by assumption))).mono ?_; rintro e w13x ⟨A13, c13, rfl, hls13, hc13⟩; have hb13 := hb12.trans (hc13.mono hb12.size); have hs13 : S7 Bc x0 x1 x2 x3 x4 x5 x6 wr w13x := s7_of HS0.out hb13)
      | (go_at_call 19; refine (gE.out _ (s7_bel (B := Bc) (x0 := x0) (x1 := x1) (x2 := x2) (x3 := x3) (x4 := x4) (x5 := x5) (x6 := x6) (by assumption))).mono ?_; rintro e w14x ⟨A14, c14, rfl, hls14, hc14⟩; have hb14 := hb13.trans (hc14.mono hb13.size); have hs14 : S7 Bc x0 x1 x2 x3 x4 x5 x6 wr w14x := s7_of HS0.out hb14)
      | (go_at_call 20; refine Gives.use (w0 := wr) gC.out (s7_bel (B := Bc) (x0 := x0) (x1 := x1) (x2 := x2) (x3 := x3) (x4 := x4) (x5 := x5) (x6 := x6) (by assumption)) ?_; intro w16x hb16; have hs16 : S7 Bc x0 x1 x2 x3 x4 x5 x6 wr w16x := s7_of HS0.out hb16)
      | (go_at_call 21; refine Gives.use (w0 := wr) gR.out (s7_bel (B := Bc) (x0 := x0) (x1 := x1) (x2 := x2) (x3 := x3) (x4 := x4) (x5 := x5) (x6 := x6) (by assumption)) ?_; intro w17x hb17; have hs17 : S7 Bc x0 x1 x2 x3 x4 x5 x6 wr w17x := s7_of HS0.out hb17)
      | (go_at_call 22; refine Gives.use (w0 := wr) gQ.out (s7_bel (B := Bc) (x0 := x0) (x1 := x1) (x2 := x2) (x3 := x3) (x4 := x4) (x5 := x5) (x6 := x6) (by assumption)) ?_; intro w18x hb18; have hs18 : S7 Bc x0 x1 x2 x3 x4 x5 x6 wr w18x := s7_of HS0.out hb18) | fail)
        have HB18 := Lib.hid (HBr.out.trans (hb18.mono HBr.out.size))
        clear hb18
        go_wp2_with fail
        go_ret
        exact ⟨rfl, HB18.out⟩
  · have d30 : decide (n ≤ 30) = false := by simpa using h30
    clear hn hr hm ht hw
    go_enter Tryd.func3, Tryd.ntmps3
    go_wp2_with fail
    refine Gives.use qa.out HB0.out ?_
    intro w1 hb1
    have HF1 := Lib.hid (few_any A n c w1)
    rw [d30] at HF1
    go_wp2_with (go_at_call 7; ((with_reducible refine HF1.out.mono ?_); rintro e w2 ⟨rfl, rfl⟩))
    go_ret
    exact ⟨rfl, hb1⟩
end Go.Proofs.YtfapgecpndlibaaDoor
