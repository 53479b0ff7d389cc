/- The walk of NeedBack. -/
import Derived.Test.YtahafjhcebnokaaSi
import Derived.Test.YtahafjhcebnokaaNe
namespace Go.Proofs.Ytahafjhcebnokaa.Lk
open Go Go.RowKit Go.Shelf Pa
set_option maxRecDepth 100000

/-- the head of the loop -/
structure Nl (W : World) (xs ys : List Hd) (j : Nat) (v : Value) (wr : World) : Prop where
  row : ∃ A c, v = .slice A (leftL xs (ys.take j)).length c ∧ Ls wr A c (leftL xs (ys.take j))
  bel : Below W.heap.size W wr
set_option maxHeartbeats 8000000 in
theorem back_walk (A : Option Addr) (n c : Nat) (xs : List Hd) (W : World) (hl : xs.length = n) (hr : Ls W A c xs) (hf : ∀ x ∈ xs, FitP x.1) :
    Calls Try.prog 4 #[.slice A n c] W fun e w' => e = .returned (.bool true) ∧ Below W.heap.size W w' := by
  have HFe := Lib.hid (fun w => few_any A n c w)
  by_cases h30 : n ≤ 30
  · rw [decide_eq_true h30] at HFe
    have HRi := Lib.hid (fun (w1 : World) (hb : Below W.heap.size W w1) => right_any (hr.below hb) (by omega) hf)
    rw [hl] at HRi
    have HBk := Lib.hid (fun (w1 : World) (hb : Below W.heap.size W w1) (hR : Rt xs) => back_any (hr.below hb) (by omega) (fun x hx => (hR.1.2 x hx).1))
    rw [hl] at HBk
    have HLs := Lib.hid hr
    have HN := Lib.hid hl
    clear hr hl hf
    go_enter Try.func4, Try.ntmps4
    go_wp2_with fail
    refine (awake_any _).mono ?_
    rintro e1 w1 ⟨rfl, hb1⟩
    have HB1 := Lib.hid hb1
    clear hb1
    go_wp2_with fail
    refine (HFe.out _).mono ?_
    rintro e2 w2 ⟨rfl, rfl⟩
    go_wp2_with fail
    refine (HRi.out _ HB1.out).mono ?_
    rintro e3 w3 ⟨bR, rfl, hRt, hb3⟩
    have HRt := Lib.hid hRt
    have HB3 := Lib.hid (thenCall HB1.out hb3)
    clear hRt hb3
    cases bR
    · go_wp2_with fail
      go_ret
      exact ⟨rfl, HB3.out⟩
    have HRx := Lib.hid (HRt.out.1 rfl)
    go_wp2_with fail
    refine (HBk.out _ HB3.out HRx.out).mono ?_
    rintro e4 w4 ⟨ys, hD, A4, c4, rfl, hls4, hb4⟩
    have HLs4 := Lib.hid hls4
    have HB4 := Lib.hid (thenCall HB3.out hb4)
    have HD := Lib.hid hD
    obtain ⟨k, hk⟩ : ∃ k, ys.length = k := ⟨_, rfl⟩
    have HK := Lib.hid hk
    rw [hk]
    have hkn : k = n := by rw [← hk, hD.perm.length_eq]; exact HN.out
    have hk30 : k ≤ 30 := by omega
    clear hls4 hb4 hD hk hkn
    go_wp2_with fail
    go_loopw [3, 20] (fun v t wr => ∃ j : Nat, j ≤ k ∧ t = .int .i64 j ∧ Nl w4 xs ys j v wr) (fun _ t _ => k - (intOf t).toNat)
    case atStart => exact ⟨0, by omega, rfl, ⟨A, c, by simp [leftL, HN.out], by simpa [leftL] using HLs.out.below HB4.out⟩, Below.refl _ _⟩
    case round =>
      obtain ⟨j, hj, rfl, hNl⟩ := hrel
      obtain ⟨An, cn, rfl, hnl⟩ := hNl.row
      have HNl := Lib.hid hnl
      have HNb := Lib.hid hNl.bel
      have hsz := left_len xs (ys.take j)
      have hN := HN.out
      clear hNl hnl
      by_cases hjk : j < k
      · have hjl : j < ys.length := by rw [HK.out]; exact hjk
        have i1 : (0 : Int) ≤ (j : Int) := by omega
        have i2 : (j : Int) < (k : Int) := by omega
        obtain ⟨a, rfl, hh⟩ := (HLs4.out.below HNb.out).here hjl
        obtain ⟨x, hx⟩ : ∃ x, ys[j] = x := ⟨_, rfl⟩
        rw [hx] at hh
        have HOf : Hid (ofL (leftL xs (ys.take j)) x.1 = x.2) := by
          have := HD.out.of HRx.out hjl
          rw [hx] at this
          exact this
        have HSn : Hid (leftL xs (ys.take (j + 1)) = outL (leftL xs (ys.take j)) x.1) := by
          unfold Hid
          rw [List.take_succ_eq_append_getElem hjl, left_snoc, hx]
        have HRn := Lib.hid (HD.out.rt HRx.out (j + 1))
        rw [HSn.out] at HRn
        have hsz2 := left_len xs (ys.take (j + 1))
        rw [HSn.out] at hsz2
        clear hx
        obtain ⟨c0, c1, c2, c3, c4', c5⟩ := hh
        obtain ⟨zs, hzs⟩ : ∃ zs, leftL xs (ys.take j) = zs := ⟨_, rfl⟩
        rw [hzs] at HNl HOf HSn HRn hsz hsz2 ⊢
        have HOw := Lib.hid (fun (w : World) (h : Ls w An cn zs) => of_any h (by omega) x.1)
        rw [HOf.out] at HOw
        have HWo := Lib.hid (fun (w : World) (h : Ls w An cn zs) => without_any h (by omega) x.1)
        have HBx := Lib.hid (Go.Proofs.Ytahafjhcebnokaa.box_below wr (.cells #[.int .i64 x.1.a, .int .i64 x.1.b, .int .i64 x.1.c, .int .i64 x.1.d, .int .i64 x.1.e, .int .i64 x.2] 32))
        have HXx := Lib.hid (LkAt.new wr x)
        obtain ⟨nn, hnn⟩ : ∃ nn, zs.length = nn := ⟨_, rfl⟩
        rw [hnn] at HOw HWo hsz ⊢
        obtain ⟨⟨xa, xb, xc, xd, xe⟩, xm⟩ := x
        simp only at c0 c1 c2 c3 c4' c5 HBx HXx HOw HWo HSn HRn hsz2
        clear hnn hzs HOf
        go_wp2_with fail
        have hXx := HXx.out
        obtain ⟨d0, d1, d2, d3, d4, d5, hltx⟩ := hXx
        simp only at d0 d1 d2 d3 d4 d5 hltx
        generalize wr.alloc (.cells #[.int .i64 xa, .int .i64 xb, .int .i64 xc, .int .i64 xd, .int .i64 xe, .int .i64 xm] 32) = W1 at *
        have HN1 := Lib.hid (HNl.out.below HBx.out)
        have gO : Pa.Gives W1 14 #[.slice An nn cn, .agg #[.int .i64 xa, .int .i64 xb, .int .i64 xc, .int .i64 xd, .int .i64 xe]] (.int .i64 xm) := wgives fun w hb => HOw.out w (HN1.out.below hb)
        clear c0 c1 c2 c3 c4' c5
        refine wp_region_later W1 (by kernel_rfl) (by kernel_rfl) (Below.refl _ _) ?_
        repeat (go_big_quiet_step ((go_at_call 14; exact Gives.later (by with_reducible assumption))))
        refine wpQuiet_nil ?_
        rintro w5 ⟨⟨_, hb5⟩, rfl⟩
        have HBx5 := Lib.hid (thenCall HBx.out hb5)
        have HX5 := Lib.hid (HXx.out.later hb5)
        have HN5 := Lib.hid (HN1.out.below hb5)
        clear d0 d1 d2 d3 d4 d5 hltx gO hb5
        obtain ⟨d0, d1, d2, d3, d4, d5, hltx⟩ := HX5.out
        simp only at d0 d1 d2 d3 d4 d5 hltx
        go_wp2_with fail
        refine (HWo.out _ HN5.out).mono ?_
        rintro e6 w6 ⟨A6, c6, rfl, hls6, hb6⟩
        have HL6 := Lib.hid hls6
        have HBx6 := Lib.hid (thenCall HBx5.out hb6)
        clear hb6 hls6 d0 d1 d2 d3 d4 d5 hltx
        go_wp2_with fail
        refine (right_any HL6.out (by omega) (rt_fit HRn.out)).mono ?_
        intro e7 w7 ht
        obtain ⟨rfl, hb7⟩ := tells_yes ht HRn.out
        have HBx7 := Lib.hid (thenCall HBx6.out hb7)
        have HL7 := Lib.hid (HL6.out.below hb7)
        clear hb7 ht
        go_wp2_with fail
        go_roundw
        case rel =>
          refine ⟨j + 1, by omega, by go_num, ⟨A6, c6, ?_, ?_⟩, thenCall HNb.out HBx7.out⟩
          · rw [HSn.out]
          · rw [HSn.out]; exact HL7.out
        case measure => simp [intOf]; omega
      · obtain rfl : j = k := by omega
        have HTk : Hid (ys.take j = ys) := List.take_of_length_le (Nat.le_of_eq HK.out)
        rw [HTk.out, HD.out.nil] at HNl ⊢
        go_wp2_with fail
        go_ret
        exact ⟨rfl, thenCall HB4.out HNb.out⟩
  · rw [decide_eq_false h30] at HFe
    clear hr hl hf
    go_enter Try.func4, Try.ntmps4
    go_wp2_with fail
    refine (awake_any _).mono ?_
    rintro e1 w1 ⟨rfl, hb1⟩
    have HB1 := Lib.hid hb1
    clear hb1
    go_wp2_with fail
    refine (HFe.out _).mono ?_
    rintro e2 w2 ⟨rfl, rfl⟩
    go_wp2_with fail
    go_ret
    exact ⟨rfl, HB1.out⟩
end Go.Proofs.Ytahafjhcebnokaa.Lk
