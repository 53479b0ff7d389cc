/- The walk of the law on requests and where they wait: it returns true and changes nothing that was there. -/
import Derived.Test.YtpoibgiajaeegaaB3
namespace Go.Proofs.Ytpoibgiajaeegaa
open Go Go.RowKit Go.Shelf

theorem sb_drew3 {B : Nat} {tx m : Int} {cv ii : Bool} {w1 w : World} (h : SB B tx m cv ii w1 w) : SB B tx m cv ii w1 w.drew :=
  ⟨h.1, h.2.1, h.2.2.1, h.2.2.2.1, (sb_bel h).trans ((drew_below w 1).mono (sb_bel h).size)⟩
set_option maxRecDepth 100000 in
set_option maxHeartbeats 8000000 in
theorem does_walk (A : Option Addr) (n c : Nat) (xs : List Wt) (x : Wt) (tx m fl : Int) (W : World) (hn : xs.length = n) (hr : Ls W A c xs) (hw : ∀ x ∈ xs, wf64 x.1) (hm : n ≤ maxLen) (_ : wf64 x.1) :
    Calls Try.prog 3 #[.slice A n c, wv x, .int .i64 tx, .int .i64 m, .int .i64 fl] W fun e w' => e = .returned (.bool true) ∧ Below W.heap.size W w' := by
  have hmx : n ≤ 9223372036854775807 := by unfold maxLen at hm; omega
  obtain ⟨xt, md, cv, ii⟩ := x
  have hbx := box_below W (.cells #[.int .i64 xt, .int .i64 md, .bool cv, .bool ii] 24)
  have hs4 : S4 W.heap.size xt md cv ii (W.alloc (.cells #[.int .i64 xt, .int .i64 md, .bool cv, .bool ii] 24)) := by
    obtain ⟨ad, had, e0, e1, e2, e3⟩ := (box_ls W (xt, md, cv, ii)).here (i := 0) (by simp)
    cases had
    simp only [List.getElem_cons_zero, Nat.zero_mul, add_at, Nat.zero_add] at e0 e1 e2 e3
    exact ⟨e0, e1, e2, e3⟩
  have HN := Lib.hid hn
  have HR := Lib.hid (hr.below hbx)
  have HW := Lib.hid hw
  have HBX := Lib.hid hbx
  have HS4 := Lib.hid hs4
  have qa := Lib.hid (awake_g (W.alloc (.cells #[.int .i64 xt, .int .i64 md, .bool cv, .bool ii] 24)))
  have HB0 := Lib.hid (show Below (W.alloc (.cells #[.int .i64 xt, .int .i64 md, .bool cv, .bool ii] 24)).heap.size (W.alloc (.cells #[.int .i64 xt, .int .i64 md, .bool cv, .bool ii] 24)) (W.alloc (.cells #[.int .i64 xt, .int .i64 md, .bool cv, .bool ii] 24)) from Below.refl _ _)
  clear hn hr hw hm hbx hs4
  by_cases h30 : n ≤ 30
  · have d30 : decide (n ≤ 30) = true := by simpa using h30
    go_enter Try.func3, Try.ntmps3
    go_wp2_with fail
    refine Gives.use qa.out HB0.out ?_
    intro w1 hb1
    generalize W.heap.size = Bx at HS4 ⊢
    generalize W.alloc (.cells #[.int .i64 xt, .int .i64 md, .bool cv, .bool ii] 24) = w0 at *
    have k1 := kn_le m
    have k2 := kn_le md
    obtain ⟨S, hS⟩ : ∃ S, supN (kn m) (kn md) = S := ⟨_, rfl⟩
    have kS : S ≤ 6 := hS ▸ supN_le _ _
    obtain ⟨q, hq⟩ : ∃ q, covB (kn m) (kn md) = q := ⟨_, rfl⟩
    have gT := Lib.hid (show Gives w0 8 #[.int .i64 m, .int .i64 md] (.tuple #[.int .i64 (S : Nat), .bool (!q)]) from fun w' hb => by
      have := target_any m md w0 w' hb
      unfold tgtV at this
      rw [hS, hq] at this
      exact this)
    have gS := Lib.hid (show Gives w0 9 #[.int .i64 m, .int .i64 md] (.int .i64 (S : Nat)) from fun w' hb => by rw [← hS]; exact rsup_any m md w0 w' hb)
    have gV := Lib.hid (show Gives w0 12 #[.int .i64 m, .int .i64 (S : Nat)] (.bool q) from rcov_g w0 (by rw [kn_nat kS, ← hS, lat_other _ k1 _ k2, hq]))
    obtain ⟨E, hE⟩ : ∃ E, errV (okB3 tx m fl) = E := ⟨_, rfl⟩
    have gC := Lib.hid (show Gives w0 10 #[.int .i64 tx, .int .i64 m, .int .i64 fl] (.int .i64 E) from fun w' hb => by rw [← hE]; exact acc_same hb (check_any tx m fl w'))
    have gK := Lib.hid (show Gives w0 11 #[.int .i64 tx, .int .i64 m, .int .i64 fl] (.int .i64 E) from fun w' hb => by rw [← hE]; exact acc_same hb (rcheck_any tx m fl w'))
    have HE := Lib.hid (show 0 ≤ E ∧ E ≤ 1 by rw [← hE]; unfold errV; split <;> omega)
    have hple : plc cv xs ≤ n := by rw [← HN.out]; exact plc_le cv xs
    have hlen : xs.length ≤ 30 := by rw [HN.out]; exact h30
    have gP := Lib.hid (show Gives w0 13 #[.slice A n c, .bool cv] (.int .i64 (plc cv xs : Nat)) from fun w' hb => by have := acc hb (place_any (HR.out.below hb) (by omega) cv); rw [HN.out] at this; exact this)
    have gQ := Lib.hid (show Gives w0 14 #[.slice A n c, .bool cv] (.int .i64 (plc cv xs : Nat)) from fun w' hb => by have := acc_same hb (rplace_any (HR.out.below hb) (by omega) cv); rw [HN.out] at this; exact this)
    have hI := ins_len (xt, md, cv, ii) xs
    rw [HN.out] at hI
    have gI := Lib.hid (fun (w' : World) (hb : Below w0.heap.size w0 w') => (show Calls Try.prog 16 #[.slice A n c, .agg #[.int .i64 xt, .int .i64 md, .bool cv, .bool ii]] w' (Lists w' (ins (xt, md, cv, ii) xs)) by
      have := insert_any (HR.out.below hb) (by omega) (xt, md, cv, ii)
      rw [HN.out] at this
      exact this))
    have gJ := Lib.hid (fun (w' : World) (hb : Below w0.heap.size w0 w') => (show Calls Try.prog 17 #[.slice A n c, .agg #[.int .i64 xt, .int .i64 md, .bool cv, .bool ii]] w' (Lists w' (ins (xt, md, cv, ii) xs)) by
      have := rinsert_any (HR.out.below hb) (by omega) (xt, md, cv, ii)
      rw [HN.out] at this
      exact this))
    have gF := Lib.hid (show Gives w0 18 #[.slice A n c, .int .i64 tx] (.int .i64 (fndI tx xs)) from fun w' hb => by have := acc hb (find_any (HR.out.below hb) (by omega) tx); rw [HN.out] at this; exact this)
    have gG := Lib.hid (show Gives w0 19 #[.slice A n c, .int .i64 tx] (.int .i64 (fndI tx xs)) from fun w' hb => by have := acc hb (rfind_any (HR.out.below hb) (by omega) tx); rw [HN.out] at this; exact this)
    have hO := wout_len tx xs
    rw [HN.out] at hO
    have gW := Lib.hid (fun (w' : World) (hb : Below w0.heap.size w0 w') => (show Calls Try.prog 20 #[.slice A n c, .int .i64 tx] w' (Lists w' (wout tx xs)) by
      have := without_any (HR.out.below hb) (by omega) tx
      rw [HN.out] at this
      exact this))
    have gX := Lib.hid (fun (w' : World) (hb : Below w0.heap.size w0 w') => (show Calls Try.prog 21 #[.slice A n c, .int .i64 tx] w' (Lists w' (wout tx xs)) by
      have := rwithout_any (HR.out.below hb) (by omega) tx
      rw [HN.out] at this
      exact this))
    have gR := Lib.hid (show Gives w0 22 #[.slice A n c] (.bool (rightB xs)) from fun w' hb => by have := acc hb (right_any (HR.out.below hb) HW.out (by omega)); rw [HN.out] at this; exact this)
    have gY := Lib.hid (show Gives w0 23 #[.slice A n c] (.bool (rightB xs)) from fun w' hb => by have := acc hb (rright_any (HR.out.below hb) (by omega)); rw [HN.out] at this; exact this)
    generalize plc cv xs = p at *
    generalize fndI tx xs = f at *
    generalize rightB xs = rb at *
    generalize ins (xt, md, cv, ii) xs = zs at *
    generalize wout tx xs = ys at *
    clear hS hq hE hlen k1 k2
    have HB1 := Lib.hid hb1
    have HF1 := Lib.hid (few_any A n c w1)
    rw [d30] at HF1
    obtain ⟨s0, s1, s2, s3⟩ := s4_below HS4.out hb1
    clear hb1
    go_wp2_with (go_at_call 7; ((with_reducible refine HF1.out.mono ?_); rintro e w2 ⟨rfl, rfl⟩))
    refine Gives.use gT.out HB1.out ?_
    intro w2 hb2
    have HB2 := Lib.hid hb2
    clear s0 s1 s2 s3
    obtain ⟨s0, s1, s2, s3⟩ := s4_below HS4.out hb2
    clear hb2
    go_wp2_with fail
    refine Gives.use gS.out HB2.out ?_
    intro w3 hb3
    have HB3 := Lib.hid hb3
    clear s0 s1 s2 s3
    obtain ⟨s0, s1, s2, s3⟩ := s4_below HS4.out hb3
    clear hb3
    go_wp2_with fail
    have hll1 : zs.length ≤ 5000 := by omega
    have hll3 : ys.length ≤ 5000 := by omega
    clear hI hO
    have hs3 : SB Bx xt md cv ii w0 w3 := sb_of HS4.out HB3.out
    have hs3d : SB Bx xt md cv ii w0 w3.drew := sb_drew3 hs3
    clear s0 s1 s2 s3
    simp only [List.append]
    go_region_held3 (SB Bx xt md cv ii w0) (first | exact hs3d | assumption | fail) (first
      | (go_at_call 10; refine Gives.use (w0 := w0) gC.out (sb_bel (B := Bx) (tx := xt) (m := md) (cv := cv) (ii := ii) (by assumption)) ?_; intro w4 hb4; have hs4 : SB Bx xt md cv ii w0 w4 := sb_of HS4.out hb4)
      | (go_at_call 11; refine Gives.use (w0 := w0) gK.out (sb_bel (B := Bx) (tx := xt) (m := md) (cv := cv) (ii := ii) (by assumption)) ?_; intro w5 hb5; have hs5 : SB Bx xt md cv ii w0 w5 := sb_of HS4.out hb5)
      | (go_at_call 12; refine Gives.use (w0 := w0) gV.out (sb_bel (B := Bx) (tx := xt) (m := md) (cv := cv) (ii := ii) (by assumption)) ?_; intro w6 hb6; have hs6 : SB Bx xt md cv ii w0 w6 := sb_of HS4.out hb6)
      | (go_at_call 13; refine Gives.use (w0 := w0) gP.out (sb_bel (B := Bx) (tx := xt) (m := md) (cv := cv) (ii := ii) (by assumption)) ?_; intro w7 hb7; have hs7 : SB Bx xt md cv ii w0 w7 := sb_of HS4.out hb7)
      | (go_at_call 14; refine Gives.use (w0 := w0) gQ.out (sb_bel (B := Bx) (tx := xt) (m := md) (cv := cv) (ii := ii) (by assumption)) ?_; intro w8 hb8; have hs8 : SB Bx xt md cv ii w0 w8 := sb_of HS4.out hb8)
      | (go_at_call 16; refine (gI.out _ (sb_bel (B := Bx) (tx := xt) (m := md) (cv := cv) (ii := ii) (by assumption))).mono ?_; rintro e w9 ⟨A1, c1, rfl, hl1, hc9⟩; have hb9 := hb8.trans (hc9.mono hb8.size); have hs9 : SB Bx xt md cv ii w0 w9 := sb_of HS4.out hb9)
      | (go_at_call 17; refine (gJ.out _ (sb_bel (B := Bx) (tx := xt) (m := md) (cv := cv) (ii := ii) (by assumption))).mono ?_; rintro e w10 ⟨A2, c2, rfl, hl2, hc10⟩; have hb10 := hb9.trans (hc10.mono hb9.size); have hs10 : SB Bx xt md cv ii w0 w10 := sb_of HS4.out hb10)
      | (go_at_call 15; with_reducible refine (same_any (hl3.below hc15) hl4 hll3).mono ?_; rintro e w16 ⟨rfl, hc16⟩; have hb16 := hb15.trans (hc16.mono hb15.size); have hs16 : SB Bx xt md cv ii w0 w16 := sb_of HS4.out hb16)
      | (go_at_call 15; with_reducible refine (same_any (hl1.below hc10) hl2 hll1).mono ?_; rintro e w11 ⟨rfl, hc11⟩; have hb11 := hb10.trans (hc11.mono hb10.size); have hs11 : SB Bx xt md cv ii w0 w11 := sb_of HS4.out hb11)
      | (go_at_call 18; refine Gives.use (w0 := w0) gF.out (sb_bel (B := Bx) (tx := xt) (m := md) (cv := cv) (ii := ii) (by assumption)) ?_; intro w12 hb12; have hs12 : SB Bx xt md cv ii w0 w12 := sb_of HS4.out hb12)
      | (go_at_call 19; refine Gives.use (w0 := w0) gG.out (sb_bel (B := Bx) (tx := xt) (m := md) (cv := cv) (ii := ii) (by assumption)) ?_; intro w13 hb13; have hs13 : SB Bx xt md cv ii w0 w13 := sb_of HS4.out hb13)
      | (go_at_call 20; refine (gW.out _ (sb_bel (B := Bx) (tx := xt) (m := md) (cv := cv) (ii := ii) (by assumption))).mono ?_; rintro e w14 ⟨A3, c3, rfl, hl3, hc14⟩; have hb14 := hb13.trans (hc14.mono hb13.size); have hs14 : SB Bx xt md cv ii w0 w14 := sb_of HS4.out hb14)
      | (go_at_call 21; refine (gX.out _ (sb_bel (B := Bx) (tx := xt) (m := md) (cv := cv) (ii := ii) (by assumption))).mono ?_; rintro e w15 ⟨A4, c4, rfl, hl4, hc15⟩; have hb15 := hb14.trans (hc15.mono hb14.size); have hs15 : SB Bx xt md cv ii w0 w15 := sb_of HS4.out hb15)
      | (go_at_call 22; refine Gives.use (w0 := w0) gR.out (sb_bel (B := Bx) (tx := xt) (m := md) (cv := cv) (ii := ii) (by assumption)) ?_; intro w17 hb17; have hs17 : SB Bx xt md cv ii w0 w17 := sb_of HS4.out hb17)
      | (go_at_call 23; refine Gives.use (w0 := w0) gY.out (sb_bel (B := Bx) (tx := xt) (m := md) (cv := cv) (ii := ii) (by assumption)) ?_; intro w18 hb18; have hs18 : SB Bx xt md cv ii w0 w18 := sb_of HS4.out hb18) | fail)
    have HB18 := Lib.hid hb18
    clear hb18
    go_wp2_with fail
    go_ret
    exact ⟨rfl, HBX.out.trans (HB18.out.mono HBX.out.size)⟩
  · have d30 : decide (n ≤ 30) = false := by simpa using h30
    go_enter Try.func3, Try.ntmps3
    go_wp2_with fail
    refine Gives.use qa.out HB0.out ?_
    intro w1 hb1
    have HF1 := Lib.hid (few_any A n c w1)
    rw [d30] at HF1
    go_wp2_with (go_at_call 7; ((with_reducible refine HF1.out.mono ?_); rintro e w2 ⟨rfl, rfl⟩))
    go_ret
    exact ⟨rfl, HBX.out.trans (hb1.mono HBX.out.size)⟩
end Go.Proofs.Ytpoibgiajaeegaa
