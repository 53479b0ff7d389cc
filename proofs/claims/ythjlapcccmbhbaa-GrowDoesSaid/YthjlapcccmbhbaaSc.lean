/- Which of two locks goes first, the deepest ahead. -/
import Derived.Test.YthjlapcccmbhbaaLf
import Derived.RegionTactic
import Derived.ChangeAlike
import Derived.BigRegion
namespace Go.Proofs.Ythjlapcccmbhbaa.Lk
open Go Go.RowKit Go.Shelf Pa
set_option maxRecDepth 100000

/-- what the comparison answers of nodes that may be -/
def cmpU (x y : Hd) : Int := if x.1.e = y.1.e then (if lessB x.1 y.1 then -1 else if lessB y.1 x.1 then 1 else 0) else if y.1.e < x.1.e then -1 else 1
set_option maxHeartbeats 4000000 in
theorem upward_any (x y : Hd) (hx : rightB x.1 = true) (hy : rightB y.1 = true) (W : World) :
    Calls Try.prog 60 #[wv x, wv y] W fun e w' => e = .returned (.int .i64 (cmpU x y)) ∧ Below W.heap.size W w' := by
  have HX := Lib.hid (Pa.below_2 W (.cells #[.int .i64 x.1.a, .int .i64 x.1.b, .int .i64 x.1.c, .int .i64 x.1.d, .int .i64 x.1.e, .int .i64 x.2] 27) (.cells #[.int .i64 y.1.a, .int .i64 y.1.b, .int .i64 y.1.c, .int .i64 y.1.d, .int .i64 y.1.e, .int .i64 y.2] 27))
  have HM1 := Lib.hid (fun w => may_any x.1 w)
  have HM2 := Lib.hid (fun w => may_any y.1 w)
  have HL1 := Lib.hid (fun w => less_any x.1 y.1 w)
  have HL2 := Lib.hid (fun w => less_any y.1 x.1 w)
  rw [hx] at HM1
  rw [hy] at HM2
  have h1 := (LkAt.new W x).later (Go.Proofs.Ythjlapcccmbhbaa.box_below _ (.cells #[.int .i64 y.1.a, .int .i64 y.1.b, .int .i64 y.1.c, .int .i64 y.1.d, .int .i64 y.1.e, .int .i64 y.2] 27))
  have h2 := LkAt.new (W.alloc (.cells #[.int .i64 x.1.a, .int .i64 x.1.b, .int .i64 x.1.c, .int .i64 x.1.d, .int .i64 x.1.e, .int .i64 x.2] 27)) y
  simp only [show (W.alloc (.cells #[.int .i64 x.1.a, .int .i64 x.1.b, .int .i64 x.1.c, .int .i64 x.1.d, .int .i64 x.1.e, .int .i64 x.2] 27)).heap.size = W.heap.size + 1 by simp] at h2
  obtain ⟨c0, c1, c2, c3, c4, -, hl1⟩ := h1
  obtain ⟨d0, d1, d2, d3, d4, -, hl2⟩ := h2
  obtain ⟨r, hr⟩ : ∃ r, cmpU x y = r := ⟨_, rfl⟩
  rw [hr]
  have HR := Lib.hid hr
  unfold cmpU at HR
  clear hr
  obtain ⟨⟨xa, xb, xc, xd, xe⟩, xm⟩ := x
  obtain ⟨⟨ya, yb, yc, yd, ye⟩, ym⟩ := y
  simp only at *
  clear hx hy
  go_enter Try.func60, Try.ntmps60
  go_wp2_with fail
  generalize (W.alloc (.cells #[.int .i64 xa, .int .i64 xb, .int .i64 xc, .int .i64 xd, .int .i64 xe, .int .i64 xm] 27)).alloc (.cells #[.int .i64 ya, .int .i64 yb, .int .i64 yc, .int .i64 yd, .int .i64 ye, .int .i64 ym] 27) = W1 at *
  go_region
  · have hp : PtAt ((W1.alloc (.cells #[.int .i64 xa, .int .i64 xb, .int .i64 xc, .int .i64 xd, .int .i64 xe] 25)).alloc (.cells #[.int .i64 ya, .int .i64 yb, .int .i64 yc, .int .i64 yd, .int .i64 ye] 25)).drew W1.heap.size ⟨xa, xb, xc, xd, xe⟩ := PtAt.later ((PtAt.new W1 xa xb xc xd xe).alloc _) (Below.refl _ _).drew
    have hq : PtAt ((W1.alloc (.cells #[.int .i64 xa, .int .i64 xb, .int .i64 xc, .int .i64 xd, .int .i64 xe] 25)).alloc (.cells #[.int .i64 ya, .int .i64 yb, .int .i64 yc, .int .i64 yd, .int .i64 ye] 25)).drew (W1.heap.size + 1) ⟨ya, yb, yc, yd, ye⟩ := PtAt.later (by simpa using PtAt.new (boxed W1 xa xb xc xd xe) ya yb yc yd ye) (Below.refl _ _).drew
    have HB := Lib.hid (HX.out.trans ((Pa.below_2 W1 (.cells #[.int .i64 xa, .int .i64 xb, .int .i64 xc, .int .i64 xd, .int .i64 xe] 25) (.cells #[.int .i64 ya, .int .i64 yb, .int .i64 yc, .int .i64 yd, .int .i64 ye] 25)).drew.mono HX.out.size))
    generalize ((W1.alloc (.cells #[.int .i64 xa, .int .i64 xb, .int .i64 xc, .int .i64 xd, .int .i64 xe] 25)).alloc (.cells #[.int .i64 ya, .int .i64 yb, .int .i64 yc, .int .i64 yd, .int .i64 ye] 25)).drew = W2 at *
    have HPt := Lib.hid hp
    have HQt := Lib.hid hq
    obtain ⟨p0, p1, p2, p3, p4, hlp⟩ := hp
    obtain ⟨q0, q1, q2, q3, q4, hlq⟩ := hq
    simp only at p0 p1 p2 p3 p4 q0 q1 q2 q3 q4
    clear c0 c1 c2 c3 c4 d0 d1 d2 d3 d4 hl1 hl2
    by_cases hd : xe = ye
    · have hd' : (xe != ye) = false := by simp [hd]
      cases hl : lessB ⟨xa, xb, xc, xd, xe⟩ ⟨ya, yb, yc, yd, ye⟩
      · rw [hl] at HL1
        have HD := Lib.hid hd
        clear hd
        go_wp2_with fail
        refine (HL1.out _).mono ?_
        rintro e3 w3 ⟨rfl, hb3⟩
        have HB3 := Lib.hid (thenCall HB.out hb3)
        have HP3 := Lib.hid (HPt.out.later hb3)
        have HQ3 := Lib.hid (HQt.out.later hb3)
        clear hb3 p0 p1 p2 p3 p4 q0 q1 q2 q3 q4 hlp hlq
        obtain ⟨p0, p1, p2, p3, p4, hlp⟩ := HP3.out
        obtain ⟨q0, q1, q2, q3, q4, hlq⟩ := HQ3.out
        simp only at p0 p1 p2 p3 p4 q0 q1 q2 q3 q4
        go_wp2_with fail
        refine (HM1.out _).mono ?_
        rintro e4 w4 ⟨rfl, hb4⟩
        have HB4 := Lib.hid (thenCall HB3.out hb4)
        have HP4 := Lib.hid (HP3.out.later hb4)
        have HQ4 := Lib.hid (HQ3.out.later hb4)
        clear hb4 p0 p1 p2 p3 p4 q0 q1 q2 q3 q4 hlp hlq
        obtain ⟨p0, p1, p2, p3, p4, hlp⟩ := HP4.out
        obtain ⟨q0, q1, q2, q3, q4, hlq⟩ := HQ4.out
        simp only at p0 p1 p2 p3 p4 q0 q1 q2 q3 q4
        go_wp2_with fail
        refine (HM2.out _).mono ?_
        rintro e5 w5 ⟨rfl, hb5⟩
        have HB5 := Lib.hid (thenCall HB4.out hb5)
        have HP5 := Lib.hid (HP4.out.later hb5)
        have HQ5 := Lib.hid (HQ4.out.later hb5)
        clear hb5 p0 p1 p2 p3 p4 q0 q1 q2 q3 q4 hlp hlq
        obtain ⟨p0, p1, p2, p3, p4, hlp⟩ := HP5.out
        obtain ⟨q0, q1, q2, q3, q4, hlq⟩ := HQ5.out
        simp only at p0 p1 p2 p3 p4 q0 q1 q2 q3 q4
        cases hl2 : lessB ⟨ya, yb, yc, yd, ye⟩ ⟨xa, xb, xc, xd, xe⟩
        · rw [hl2] at HL2
          have HV : Hid (r = 0) := by unfold Hid; rw [← HR.out, if_pos HD.out, hl, hl2]; rfl
          go_wp2_with fail
          refine (HL2.out _).mono ?_
          rintro e6 w6 ⟨rfl, hb6⟩
          have HB6 := Lib.hid (thenCall HB5.out hb6)
          have HP6 := Lib.hid (HP5.out.later hb6)
          have HQ6 := Lib.hid (HQ5.out.later hb6)
          clear hb6 p0 p1 p2 p3 p4 q0 q1 q2 q3 q4 hlp hlq
          obtain ⟨p0, p1, p2, p3, p4, hlp⟩ := HP6.out
          obtain ⟨q0, q1, q2, q3, q4, hlq⟩ := HQ6.out
          simp only at p0 p1 p2 p3 p4 q0 q1 q2 q3 q4
          go_wp2_with fail
          refine (HM2.out _).mono ?_
          rintro e7 w7 ⟨rfl, hb7⟩
          have HB7 := Lib.hid (thenCall HB6.out hb7)
          have HP7 := Lib.hid (HP6.out.later hb7)
          clear hb7 p0 p1 p2 p3 p4 q0 q1 q2 q3 q4 hlp hlq
          obtain ⟨p0, p1, p2, p3, p4, hlp⟩ := HP7.out
          simp only at p0 p1 p2 p3 p4
          go_wp2_with fail
          refine (HM1.out _).mono ?_
          rintro e8 w8 ⟨rfl, hb8⟩
          have HB8 := Lib.hid (thenCall HB7.out hb8)
          clear hb8 p0 p1 p2 p3 p4 hlp
          go_wp2_with fail
          go_ret
          exact ⟨by rw [HV.out]; rfl, HB8.out⟩
        · rw [hl2] at HL2
          have HV : Hid (r = 1) := by unfold Hid; rw [← HR.out, if_pos HD.out, hl, hl2]; rfl
          go_wp2_with fail
          refine (HL2.out _).mono ?_
          rintro e6 w6 ⟨rfl, hb6⟩
          have HB6 := Lib.hid (thenCall HB5.out hb6)
          clear hb6 p0 p1 p2 p3 p4 q0 q1 q2 q3 q4 hlp hlq
          go_wp2_with fail
          go_ret
          exact ⟨by rw [HV.out]; rfl, HB6.out⟩
      · rw [hl] at HL1
        have HV : Hid (r = -1) := by unfold Hid; rw [← HR.out, if_pos hd, hl]; rfl
        clear hd
        go_wp2_with fail
        refine (HL1.out _).mono ?_
        rintro e3 w3 ⟨rfl, hb3⟩
        have HB3 := Lib.hid (thenCall HB.out hb3)
        clear hb3 p0 p1 p2 p3 p4 q0 q1 q2 q3 q4 hlp hlq
        go_wp2_with fail
        go_ret
        exact ⟨by rw [HV.out]; rfl, HB3.out⟩
    · have hd' : (xe != ye) = true := by simp [hd]
      by_cases hlt : ye < xe
      · have HV : Hid (r = -1) := by unfold Hid; rw [← HR.out, if_neg hd, if_pos hlt]
        have HC := Lib.hid (fun w => cmp_lt ye xe w hlt)
        clear hd hlt
        go_wp2_with fail
        refine (HC.out _).mono ?_
        rintro e3 w3 ⟨rfl, rfl⟩
        go_wp2_with fail
        go_ret
        exact ⟨by rw [HV.out]; rfl, HB.out⟩
      · have HV : Hid (r = 1) := by unfold Hid; rw [← HR.out, if_neg hd, if_neg hlt]
        have HC := Lib.hid (fun w => cmp_gt ye xe w (by omega))
        clear hd hlt
        go_wp2_with fail
        refine (HC.out _).mono ?_
        rintro e3 w3 ⟨rfl, rfl⟩
        go_wp2_with fail
        go_ret
        exact ⟨by rw [HV.out]; rfl, HB.out⟩
  · have hp : PtAt ((W1.alloc (.cells #[.int .i64 ya, .int .i64 yb, .int .i64 yc, .int .i64 yd, .int .i64 ye] 25)).alloc (.cells #[.int .i64 xa, .int .i64 xb, .int .i64 xc, .int .i64 xd, .int .i64 xe] 25)).drew (W1.heap.size + 1) ⟨xa, xb, xc, xd, xe⟩ := PtAt.later (by simpa using PtAt.new (boxed W1 ya yb yc yd ye) xa xb xc xd xe) (Below.refl _ _).drew
    have hq : PtAt ((W1.alloc (.cells #[.int .i64 ya, .int .i64 yb, .int .i64 yc, .int .i64 yd, .int .i64 ye] 25)).alloc (.cells #[.int .i64 xa, .int .i64 xb, .int .i64 xc, .int .i64 xd, .int .i64 xe] 25)).drew W1.heap.size ⟨ya, yb, yc, yd, ye⟩ := PtAt.later ((PtAt.new W1 ya yb yc yd ye).alloc _) (Below.refl _ _).drew
    have HB := Lib.hid (HX.out.trans ((Pa.below_2 W1 (.cells #[.int .i64 ya, .int .i64 yb, .int .i64 yc, .int .i64 yd, .int .i64 ye] 25) (.cells #[.int .i64 xa, .int .i64 xb, .int .i64 xc, .int .i64 xd, .int .i64 xe] 25)).drew.mono HX.out.size))
    generalize ((W1.alloc (.cells #[.int .i64 ya, .int .i64 yb, .int .i64 yc, .int .i64 yd, .int .i64 ye] 25)).alloc (.cells #[.int .i64 xa, .int .i64 xb, .int .i64 xc, .int .i64 xd, .int .i64 xe] 25)).drew = W2 at *
    have HPt := Lib.hid hp
    have HQt := Lib.hid hq
    obtain ⟨p0, p1, p2, p3, p4, hlp⟩ := hp
    obtain ⟨q0, q1, q2, q3, q4, hlq⟩ := hq
    simp only at p0 p1 p2 p3 p4 q0 q1 q2 q3 q4
    clear c0 c1 c2 c3 c4 d0 d1 d2 d3 d4 hl1 hl2
    by_cases hd : xe = ye
    · have hd' : (xe != ye) = false := by simp [hd]
      cases hl : lessB ⟨xa, xb, xc, xd, xe⟩ ⟨ya, yb, yc, yd, ye⟩
      · rw [hl] at HL1
        have HD := Lib.hid hd
        clear hd
        go_wp2_with fail
        refine (HL1.out _).mono ?_
        rintro e3 w3 ⟨rfl, hb3⟩
        have HB3 := Lib.hid (thenCall HB.out hb3)
        have HP3 := Lib.hid (HPt.out.later hb3)
        have HQ3 := Lib.hid (HQt.out.later hb3)
        clear hb3 p0 p1 p2 p3 p4 q0 q1 q2 q3 q4 hlp hlq
        obtain ⟨p0, p1, p2, p3, p4, hlp⟩ := HP3.out
        obtain ⟨q0, q1, q2, q3, q4, hlq⟩ := HQ3.out
        simp only at p0 p1 p2 p3 p4 q0 q1 q2 q3 q4
        go_wp2_with fail
        refine (HM1.out _).mono ?_
        rintro e4 w4 ⟨rfl, hb4⟩
        have HB4 := Lib.hid (thenCall HB3.out hb4)
        have HP4 := Lib.hid (HP3.out.later hb4)
        have HQ4 := Lib.hid (HQ3.out.later hb4)
        clear hb4 p0 p1 p2 p3 p4 q0 q1 q2 q3 q4 hlp hlq
        obtain ⟨p0, p1, p2, p3, p4, hlp⟩ := HP4.out
        obtain ⟨q0, q1, q2, q3, q4, hlq⟩ := HQ4.out
        simp only at p0 p1 p2 p3 p4 q0 q1 q2 q3 q4
        go_wp2_with fail
        refine (HM2.out _).mono ?_
        rintro e5 w5 ⟨rfl, hb5⟩
        have HB5 := Lib.hid (thenCall HB4.out hb5)
        have HP5 := Lib.hid (HP4.out.later hb5)
        have HQ5 := Lib.hid (HQ4.out.later hb5)
        clear hb5 p0 p1 p2 p3 p4 q0 q1 q2 q3 q4 hlp hlq
        obtain ⟨p0, p1, p2, p3, p4, hlp⟩ := HP5.out
        obtain ⟨q0, q1, q2, q3, q4, hlq⟩ := HQ5.out
        simp only at p0 p1 p2 p3 p4 q0 q1 q2 q3 q4
        cases hl2 : lessB ⟨ya, yb, yc, yd, ye⟩ ⟨xa, xb, xc, xd, xe⟩
        · rw [hl2] at HL2
          have HV : Hid (r = 0) := by unfold Hid; rw [← HR.out, if_pos HD.out, hl, hl2]; rfl
          go_wp2_with fail
          refine (HL2.out _).mono ?_
          rintro e6 w6 ⟨rfl, hb6⟩
          have HB6 := Lib.hid (thenCall HB5.out hb6)
          have HP6 := Lib.hid (HP5.out.later hb6)
          have HQ6 := Lib.hid (HQ5.out.later hb6)
          clear hb6 p0 p1 p2 p3 p4 q0 q1 q2 q3 q4 hlp hlq
          obtain ⟨p0, p1, p2, p3, p4, hlp⟩ := HP6.out
          obtain ⟨q0, q1, q2, q3, q4, hlq⟩ := HQ6.out
          simp only at p0 p1 p2 p3 p4 q0 q1 q2 q3 q4
          go_wp2_with fail
          refine (HM2.out _).mono ?_
          rintro e7 w7 ⟨rfl, hb7⟩
          have HB7 := Lib.hid (thenCall HB6.out hb7)
          have HP7 := Lib.hid (HP6.out.later hb7)
          clear hb7 p0 p1 p2 p3 p4 q0 q1 q2 q3 q4 hlp hlq
          obtain ⟨p0, p1, p2, p3, p4, hlp⟩ := HP7.out
          simp only at p0 p1 p2 p3 p4
          go_wp2_with fail
          refine (HM1.out _).mono ?_
          rintro e8 w8 ⟨rfl, hb8⟩
          have HB8 := Lib.hid (thenCall HB7.out hb8)
          clear hb8 p0 p1 p2 p3 p4 hlp
          go_wp2_with fail
          go_ret
          exact ⟨by rw [HV.out]; rfl, HB8.out⟩
        · rw [hl2] at HL2
          have HV : Hid (r = 1) := by unfold Hid; rw [← HR.out, if_pos HD.out, hl, hl2]; rfl
          go_wp2_with fail
          refine (HL2.out _).mono ?_
          rintro e6 w6 ⟨rfl, hb6⟩
          have HB6 := Lib.hid (thenCall HB5.out hb6)
          clear hb6 p0 p1 p2 p3 p4 q0 q1 q2 q3 q4 hlp hlq
          go_wp2_with fail
          go_ret
          exact ⟨by rw [HV.out]; rfl, HB6.out⟩
      · rw [hl] at HL1
        have HV : Hid (r = -1) := by unfold Hid; rw [← HR.out, if_pos hd, hl]; rfl
        clear hd
        go_wp2_with fail
        refine (HL1.out _).mono ?_
        rintro e3 w3 ⟨rfl, hb3⟩
        have HB3 := Lib.hid (thenCall HB.out hb3)
        clear hb3 p0 p1 p2 p3 p4 q0 q1 q2 q3 q4 hlp hlq
        go_wp2_with fail
        go_ret
        exact ⟨by rw [HV.out]; rfl, HB3.out⟩
    · have hd' : (xe != ye) = true := by simp [hd]
      by_cases hlt : ye < xe
      · have HV : Hid (r = -1) := by unfold Hid; rw [← HR.out, if_neg hd, if_pos hlt]
        have HC := Lib.hid (fun w => cmp_lt ye xe w hlt)
        clear hd hlt
        go_wp2_with fail
        refine (HC.out _).mono ?_
        rintro e3 w3 ⟨rfl, rfl⟩
        go_wp2_with fail
        go_ret
        exact ⟨by rw [HV.out]; rfl, HB.out⟩
      · have HV : Hid (r = 1) := by unfold Hid; rw [← HR.out, if_neg hd, if_neg hlt]
        have HC := Lib.hid (fun w => cmp_gt ye xe w (by omega))
        clear hd hlt
        go_wp2_with fail
        refine (HC.out _).mono ?_
        rintro e3 w3 ⟨rfl, rfl⟩
        go_wp2_with fail
        go_ret
        exact ⟨by rw [HV.out]; rfl, HB.out⟩
end Go.Proofs.Ythjlapcccmbhbaa.Lk
