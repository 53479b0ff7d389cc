/- The walk of GrowKeeps. -/
import Derived.Test.YthjlapcccmbhbaaXf
import Derived.Test.YthjlapcccmbhbaaXh
namespace Go.Proofs.Ythjlapcccmbhbaa.Lk
open Go Go.RowKit Go.Shelf Pa
set_option maxRecDepth 100000

section
variable {W W' : World} {A : Option Addr} {c : Nat} {xs : List Hd}
set_option maxHeartbeats 8000000 in
theorem keeps_walk (hr : Ls W A c xs) (hf : ∀ x ∈ xs, FitP x.1 ∧ wf64 x.2) (n : Int) (q : Pt) :
    Calls Try.prog 4 #[.slice A xs.length c, .int .i64 n, q.v] W fun e w' => e = .returned (.bool true) ∧ Below W.heap.size W w' := by
  have hx0 := Go.Proofs.Ythjlapcccmbhbaa.box_below W (.cells #[.int .i64 q.a, .int .i64 q.b, .int .i64 q.c, .int .i64 q.d, .int .i64 q.e] 25)
  have HX0 := Lib.hid hx0
  clear hx0
  by_cases h30 : xs.length ≤ 30
  · have HF := Lib.hid (fun w => few_any A xs.length c w)
    rw [decide_eq_true h30] at HF
    have HRi := Lib.hid (fun (w : World) (hb : Below W.heap.size W w) => right_any (hr.below hb) (by omega) (fun x hx => (hf x hx).1))
    have HPi := Lib.hid (fun (w : World) (hb : Below W.heap.size W w) => pick_any (hr.below hb) h30 hf n)
    have HAf := Lib.hid (fun (w : World) (hb : Below W.heap.size W w) x => after_any (hr.below hb) (by omega) x)
    have HLx := Lib.hid (fun (w : World) (hb : Below W.heap.size W w) => level_any (hr.below hb) (by omega) q)
    have HQ := Lib.hid (PtAt.new W q.a q.b q.c q.d q.e)
    clear hr hf
    obtain ⟨m, hm⟩ : ∃ m, xs.length = m := ⟨_, rfl⟩
    rw [hm] at HF HRi HPi HAf HLx h30 ⊢
    have HMm := Lib.hid hm
    clear hm
    obtain ⟨lx, hlx⟩ : ∃ l, levL xs q = l := ⟨_, rfl⟩
    simp only [hlx] at HLx
    have HLl := Lib.hid hlx
    clear hlx
    obtain ⟨qa, qb, qc, qd, qe⟩ := q
    simp only at HX0 HQ
    go_enter Try.func4, Try.ntmps4
    go_wp2_with fail
    refine (awake_any _).mono ?_
    rintro e1 w1 ⟨rfl, hb1⟩
    have HB1 := Lib.hid (thenCall HX0.out hb1)
    have HB1' := Lib.hid hb1
    clear hb1
    go_wp2_with fail
    refine (HF.out _).mono ?_
    rintro e2 w2 ⟨rfl, rfl⟩
    go_wp2_with fail
    refine (HRi.out _ HB1.out).mono ?_
    rintro e3 w3 ⟨bR, rfl, hiff, hb3⟩
    have HB3 := Lib.hid (thenCall HB1.out hb3)
    have HQ3 := Lib.hid ((HQ.out.later HB1'.out).later hb3)
    clear hb3 HB1 HB1' HQ
    cases bR
    · clear hiff
      go_wp2_with fail
      go_ret
      exact ⟨rfl, HB3.out⟩
    · have HRt := Lib.hid (hiff.1 rfl)
      clear hiff
      go_wp2_with fail
      refine (HPi.out _ HB3.out).mono ?_
      rintro e4 w4 ⟨x, b, rfl, hpi, hb4⟩
      have hx4 := Go.Proofs.Ythjlapcccmbhbaa.box_below w4 (.cells #[.int .i64 x.1.a, .int .i64 x.1.b, .int .i64 x.1.c, .int .i64 x.1.d, .int .i64 x.1.e, .int .i64 x.2] 27)
      have HB4 := Lib.hid (thenCall (thenCall HB3.out hb4) hx4)
      have HQ4 := Lib.hid ((HQ3.out.later hb4).later hx4)
      rcases hpi with ⟨rfl, rfl, -⟩ | ⟨rfl, h1, hk, hc, hx, -⟩
      · have hself : eqH ((⟨0, 0, 0, 0, 0⟩, 0) : Hd) (⟨0, 0, 0, 0, 0⟩, 0) = true := eqH_self _
        clear hb4 hx4
        go_wp2_with fail
        go_ret
        exact ⟨by first | rfl | (rw [hself]; rfl), HB4.out⟩
      · have hpd := pd_of h1 hc hx
        have HRy := Lib.hid (aft_right HRt.out hpd hk hx)
        have HLv := Lib.hid (aft_level hpd ⟨qa, qb, qc, qd, qe⟩)
        have HNo := Lib.hid (aft_none (xs := xs) (x := x))
        have hless := aft_less (xs := xs) (x := x) hk
        have HOw := Lib.hid (aft_own (xs := xs) (x := x))
        have HL4 := Lib.hid (LkAt.new w4 x)
        have HAf4 := Lib.hid (HAf.out _ HB4.out x)
        have hal := aft_len xs x
        rw [HMm.out] at hless hal
        obtain ⟨ys, hys⟩ : ∃ ys, aftL xs x = ys := ⟨_, rfl⟩
        rw [hys] at HRy HLv HNo HOw HAf4 hless hal
        obtain ⟨⟨xa, xb, xc, xd, xe⟩, xm⟩ := x
        clear hb4 hx4 h1 hc hx hk hpd hys HAf
        simp only at HL4 HB4 HAf4 HNo HOw HQ4
        rw [HLl.out] at HLv
        go_wp2_with fail
        refine HAf4.out.mono ?_
        rintro e5 w5 ⟨A5, c5, rfl, hls5, hb5⟩
        have hl5 := HL4.out.later hb5
        have hq5 := HQ4.out.later hb5
        have HB5 := Lib.hid (thenCall HB4.out hb5)
        have gR : Pa.Gives w5 19 #[.slice A5 ys.length c5] (.bool true) := wgives fun w hb => (right_any (hls5.below hb) (by omega) (fun x hx => fit_right (HRy.out.1.2 x hx).1)).mono fun e w' ⟨bT, he, hiff, hb'⟩ => ⟨by rw [he, hiff.2 HRy.out], hb'⟩
        obtain ⟨ly, hly⟩ : ∃ l, levL ys ⟨qa, qb, qc, qd, qe⟩ = l := ⟨_, rfl⟩
        have gY : Pa.Gives w5 20 #[.slice A5 ys.length c5, .agg #[.int .i64 qa, .int .i64 qb, .int .i64 qc, .int .i64 qd, .int .i64 qe]] (.int .i64 (ly : Nat)) := wgives fun w hb => by have := level_any (hls5.below hb) (by omega) ⟨qa, qb, qc, qd, qe⟩; rwa [hly] at this
        have gX : Pa.Gives w5 20 #[.slice A m c, .agg #[.int .i64 qa, .int .i64 qb, .int .i64 qc, .int .i64 qd, .int .i64 qe]] (.int .i64 (lx : Nat)) := wgives fun w hb => HLx.out w (thenCall HB5.out hb)
        have gB : Pa.Gives w5 13 #[.slice A5 ys.length c5, .agg #[.int .i64 xa, .int .i64 xb, .int .i64 xc, .int .i64 xd, .int .i64 xe]] (.slice none 0 0) := wgives fun w hb => gbelow_none (hls5.below hb) (by omega) ⟨xa, xb, xc, xd, xe⟩ HNo.out
        have gO : Pa.Gives w5 21 #[.slice A5 ys.length c5, .agg #[.int .i64 xa, .int .i64 xb, .int .i64 xc, .int .i64 xd, .int .i64 xe]] (.int .i64 xm) := wgives fun w hb => by have := of_any (hls5.below hb) (by omega) ⟨xa, xb, xc, xd, xe⟩; rwa [HOw.out] at this
        obtain ⟨ky, hky⟩ : ∃ k, ys.length = k := ⟨_, rfl⟩
        rw [hky] at gR gY gB gO hless ⊢
        rw [hly] at HLv
        have hge : decide ((lx : Int) ≤ (ly : Int)) = true := by have := HLv.out; simp; omega
        have hge2 : lx ≤ ly := HLv.out
        have hge3 : decide (lx ≤ ly) = true := decide_eq_true hge2
        have hlt6 : decide (ky < m + 1) = true := decide_eq_true hless
        have hlt5 : decide ((ky : Int) < (m : Int) + 1) = true := by simp; omega
        obtain ⟨p0, p1, p2, p3, p4, plt⟩ := hq5
        obtain ⟨d0, d1, d2, d3, d4, d5, dlt⟩ := hl5
        simp only at p0 p1 p2 p3 p4 d0 d1 d2 d3 d4 d5
        clear hls5 hb5 hky hly hal
        go_wp2_with fail
        refine wp_region_later w5 (by kernel_rfl) (by kernel_rfl) (Below.refl _ _) ?_
        repeat (go_big_quiet_step (((first | go_at_call 19 | go_at_call 20 | go_at_call 13 | go_at_call 21); exact Gives.later (by with_reducible assumption))))
        refine wpQuiet_nil ?_
        rintro w7 ⟨⟨_, hb7⟩, rfl⟩
        have HB7 := Lib.hid (thenCall HB5.out hb7)
        clear gR gY gX gB gO p0 p1 p2 p3 p4 plt d0 d1 d2 d3 d4 d5 dlt hb7
        go_wp2_with fail
        go_ret
        exact ⟨rfl, HB7.out⟩
  · have HF := Lib.hid (fun w => few_any A xs.length c w)
    rw [decide_eq_false h30] at HF
    clear hr hf
    obtain ⟨qa, qb, qc, qd, qe⟩ := q
    simp only at HX0
    go_enter Try.func4, Try.ntmps4
    go_wp2_with fail
    refine (awake_any _).mono ?_
    rintro e1 w1 ⟨rfl, hb1⟩
    have HB1 := Lib.hid (thenCall HX0.out hb1)
    clear hb1
    go_wp2_with fail
    refine (HF.out _).mono ?_
    rintro e2 w2 ⟨rfl, rfl⟩
    go_wp2_with fail
    go_ret
    exact ⟨rfl, HB1.out⟩
theorem keeps_law (A : Option Addr) (m c : Nat) (xs : List Hd) (n : Int) (q : Pt) (W : World) (h1 : xs.length = m) (h2 : Ls W A c xs) (h3 : ∀ x ∈ xs, FitP x.1 ∧ wf64 x.2) :
    Calls Try.prog 4 #[.slice A m c, .int .i64 n, q.v] W fun e w' => e = .returned (.bool true) ∧ Below W.heap.size W w' := by
  subst h1
  exact keeps_walk h2 h3 n q
end
end Go.Proofs.Ythjlapcccmbhbaa.Lk
