/- The walk of NeedEnough. -/
import Derived.Test.YtahafjhcebnokaaPo
namespace Go.Proofs.Ytahafjhcebnokaa.Lk
open Go Go.RowKit Go.Shelf Pa
set_option maxRecDepth 100000

/-- the head of the loop -/
structure Nw (W : World) (xs ls : List Hd) (j : Nat) (v : Value) (wr : World) : Prop where
  row : ∃ A c, v = .slice A (nowL xs (ls.take j)).length c ∧ Ls wr A c (nowL xs (ls.take j))
  rt : Rt (nowL xs (ls.take j))
  bel : Below W.heap.size W wr
theorem rt_fit {ys : List Hd} (h : Rt ys) : ∀ y ∈ ys, FitP y.1 := fun y hy => fit_right (h.1.2 y hy).1
theorem tells_yes {W w' : World} {P : Prop} {e : Ending} (h : Tells W P e w') (hP : P) : e = .returned (.bool true) ∧ Below W.heap.size W w' := by
  obtain ⟨b, rfl, hb, h3⟩ := h
  rw [hb.2 hP]
  exact ⟨rfl, h3⟩
set_option maxHeartbeats 8000000 in
theorem enough_walk (A : Option Addr) (n c : Nat) (xs : List Hd) (p : Pt) (m : Int) (q : Pt) (W : World) (hl : xs.length = n) (hr : Ls W A c xs) (hf : ∀ x ∈ xs, FitP x.1) :
    Calls Try.prog 3 #[.slice A n c, p.v, .int .i64 m, q.v] W fun e w' => e = .returned (.bool true) ∧ Below W.heap.size W w' := by
  have HX := Lib.hid (Pa.below_2 W (.cells #[.int .i64 p.a, .int .i64 p.b, .int .i64 p.c, .int .i64 p.d, .int .i64 p.e] 25) (.cells #[.int .i64 q.a, .int .i64 q.b, .int .i64 q.c, .int .i64 q.d, .int .i64 q.e] 25))
  have HP0 := Lib.hid ((PtAt.new W p.a p.b p.c p.d p.e).alloc (.cells #[.int .i64 q.a, .int .i64 q.b, .int .i64 q.c, .int .i64 q.d, .int .i64 q.e] 25))
  have HQ0 : Hid (PtAt (boxed (boxed W p.a p.b p.c p.d p.e) q.a q.b q.c q.d q.e) (W.heap.size + 1) ⟨q.a, q.b, q.c, q.d, q.e⟩) := Lib.hid (by simpa using PtAt.new (boxed W p.a p.b p.c p.d p.e) q.a q.b q.c q.d q.e)
  have HFe := Lib.hid (fun w => few_any A n c w)
  by_cases h30 : n ≤ 30
  · rw [decide_eq_true h30] at HFe
    have HRi := Lib.hid (fun (w1 : World) (hb : Below W.heap.size W w1) => right_any (hr.below hb) (by omega) hf)
    rw [hl] at HRi
    have HPl := Lib.hid (fun (w1 : World) (hb : Below W.heap.size W w1) => plan_any (hr.below hb) (by omega) p m)
    rw [hl] at HPl
    obtain ⟨ls, hls⟩ : ∃ ls, planL xs p m = ls := ⟨_, rfl⟩
    have HErr := Lib.hid (plan_err xs p m)
    have HLen := Lib.hid (plan_len xs p m)
    have HStep : Hid (Rt xs → ∀ (j : Nat) (hj : j < ls.length), Rt (nowL xs (ls.take j)) → Rt (nowL xs (ls.take (j + 1))) ∧ ∀ p, levL (nowL xs (ls.take j)) p ≤ levL (nowL xs (ls.take (j + 1))) p) := by
      intro hR j hj hn
      subst hls
      have h := enough_step hR hj hn
      rw [List.take_succ_eq_append_getElem hj, now_snoc]
      exact ⟨h.1, fun p => levN_mono h.2 _⟩
    have HSnoc : Hid (∀ (j : Nat) (hj : j < ls.length), nowL xs (ls.take (j + 1)) = withL (nowL xs (ls.take j)) ls[j]) := by
      intro j hj
      rw [List.take_succ_eq_append_getElem hj, now_snoc]
    have HEnd : Hid (planE p m = 0 → planL (nowL xs ls) p m = [] ∧ reN (kn m) ≤ levL (nowL xs ls) p) := by
      intro h0
      subst hls
      have : rightB p = true ∧ plB m = true := by
        unfold planE at h0
        split at h0
        · rename_i hh
          simpa using hh
        · cases h0
      exact enough_end this.1 this.2
    have HSz : Hid (∀ j, j ≤ ls.length → (nowL xs (ls.take j)).length ≤ 40) := by
      intro j hj
      have h1 := now_len xs (ls.take j)
      have h2 := HLen.out
      rw [hls] at h2
      rw [List.length_take] at h1
      omega
    have HLs := Lib.hid (hr)
    have HN := Lib.hid hl
    unfold ListsE at HPl
    rw [hls] at HPl HErr HLen
    clear hls hr hl hf
    obtain ⟨er, her⟩ : ∃ er, planE p m = er := ⟨_, rfl⟩
    have HEr := Lib.hid her
    rw [her] at HPl HErr
    clear her
    obtain ⟨pa, pb, pc, pd, pe⟩ := p
    obtain ⟨qa, qb, qc, qd, qe⟩ := q
    simp only at HX HP0 HQ0
    go_enter Try.func3, Try.ntmps3
    go_wp2_with fail
    refine (awake_any _).mono ?_
    rintro e1 w1 ⟨rfl, hb1⟩
    have HB1 := Lib.hid (thenCall HX.out hb1)
    have HP1 := Lib.hid (HP0.out.later hb1)
    have HQ1 := Lib.hid (HQ0.out.later hb1)
    clear hb1
    go_wp2_with fail
    refine (HFe.out _).mono ?_
    rintro e2 w2 ⟨rfl, rfl⟩
    go_wp2_with fail
    refine (HRi.out _ HB1.out).mono ?_
    rintro e3 w3 ⟨bR, rfl, hRt, hb3⟩
    have HRt := Lib.hid hRt
    have HB3 := Lib.hid (thenCall HB1.out hb3)
    have HP3 := Lib.hid (HP1.out.later hb3)
    have HQ3 := Lib.hid (HQ1.out.later hb3)
    clear hRt hb3
    cases bR
    · go_wp2_with fail
      go_ret
      exact ⟨rfl, HB3.out⟩
    have HRx := Lib.hid (HRt.out.1 rfl)
    obtain ⟨p0, p1, p2, p3, p4, hltp⟩ := HP3.out
    go_wp2_with fail
    refine (HPl.out _ HB3.out).mono ?_
    rintro e4 w4 ⟨A4, c4, rfl, hls4, hb4⟩
    have HLs4 := Lib.hid hls4
    have HB4 := Lib.hid (thenCall HB3.out hb4)
    have HP4 := Lib.hid (HP3.out.later hb4)
    have HQ4 := Lib.hid (HQ3.out.later hb4)
    obtain ⟨k, hk⟩ : ∃ k, ls.length = k := ⟨_, rfl⟩
    have HK := Lib.hid hk
    rw [hk]
    have hk4 : k ≤ 4 := by rw [← hk]; exact HLen.out
    clear hls4 hb4 p0 p1 p2 p3 p4 hltp hk
    rcases HErr.out with he | ⟨he, hn⟩
    case inr =>
      subst he
      have hk0 : k = 0 := by rw [← HK.out, hn]; rfl
      subst hk0
      go_wp2_with fail
      go_ret
      exact ⟨rfl, HB4.out⟩
    subst he
    go_wp2_with fail
    go_loopw [11, 42] (fun v t wr => ∃ j : Nat, j ≤ k ∧ t = .int .i64 j ∧ Nw w4 xs ls j v wr) (fun _ t _ => k - (intOf t).toNat)
    case atStart => exact ⟨0, by omega, rfl, ⟨A, c, by simp [nowL, HN.out], by simpa [nowL] using HLs.out.below HB4.out⟩, by simpa [nowL] using HRx.out, Below.refl _ _⟩
    case round =>
      obtain ⟨j, hj, rfl, hNw⟩ := hrel
      obtain ⟨An, cn, rfl, hnl⟩ := hNw.row
      have HNl := Lib.hid hnl
      have HNr := Lib.hid hNw.rt
      have HNb := Lib.hid hNw.bel
      have hsz := HSz.out j (by rw [HK.out]; exact hj)
      clear hNw hnl
      by_cases hjk : j < k
      · have hjl : j < ls.length := by rw [HK.out]; exact hjk
        have i1 : (0 : Int) ≤ (j : Int) := by omega
        have i2 : (j : Int) < (k : Int) := by omega
        obtain ⟨a, rfl, hh⟩ := (HLs4.out.below HNb.out).here hjl
        obtain ⟨x, hx⟩ : ∃ x, ls[j] = x := ⟨_, rfl⟩
        rw [hx] at hh
        have HSn := Lib.hid (HSnoc.out j hjl)
        rw [hx] at HSn
        obtain ⟨hst1, hst2⟩ := HStep.out HRx.out j hjl HNr.out
        have HSt1 := Lib.hid hst1
        have hlev := hst2 ⟨qa, qb, qc, qd, qe⟩
        rw [HSn.out] at HSt1 hlev
        have hsz2 := HSz.out (j + 1) (by rw [HK.out]; exact hjk)
        rw [HSn.out] at hsz2
        clear hx hst1 hst2
        obtain ⟨c0, c1, c2, c3, c4', c5⟩ := hh
        obtain ⟨ys, hys⟩ : ∃ ys, nowL xs (ls.take j) = ys := ⟨_, rfl⟩
        rw [hys] at HNl HNr HSn HSt1 hlev hsz hsz2 ⊢
        have HWi := Lib.hid (fun (w : World) (h : Ls w An cn ys) => with_any h (by omega) x)
        have HLv := Lib.hid (fun (w : World) (h : Ls w An cn ys) => level_any h (by omega) ⟨qa, qb, qc, qd, qe⟩)
        have HBx := Lib.hid (Go.Proofs.Ytahafjhcebnokaa.box_below wr (.cells #[.int .i64 x.1.a, .int .i64 x.1.b, .int .i64 x.1.c, .int .i64 x.1.d, .int .i64 x.1.e, .int .i64 x.2] 32))
        have HXx := Lib.hid (LkAt.new wr x)
        obtain ⟨nn, hnn⟩ : ∃ nn, ys.length = nn := ⟨_, rfl⟩
        rw [hnn] at HWi HLv ⊢
        obtain ⟨⟨xa, xb, xc, xd, xe⟩, xm⟩ := x
        simp only at c0 c1 c2 c3 c4' c5 HBx HXx
        have HQr := Lib.hid (HQ4.out.later (thenCall HNb.out HBx.out))
        obtain ⟨q0, q1, q2, q3, q4, hltq⟩ := HQr.out
        simp only at q0 q1 q2 q3 q4 hltq
        clear hnn hys
        go_wp2_with fail
        refine (HLv.out _ (HNl.out.below HBx.out)).mono ?_
        rintro e5 w5 ⟨rfl, hb5⟩
        have HBx5 := Lib.hid (thenCall HBx.out hb5)
        obtain ⟨d0, d1, d2, d3, d4, d5, hltx⟩ := HXx.out.later hb5
        simp only at d0 d1 d2 d3 d4 d5 hltx
        have HQ5 := Lib.hid (HQr.out.later hb5)
        clear hb5 q0 q1 q2 q3 q4 hltq c0 c1 c2 c3 c4' c5
        go_wp2_with fail
        refine (HWi.out _ (HNl.out.below HBx5.out)).mono ?_
        rintro e6 w6 ⟨A6, c6, rfl, hls6, hb6⟩
        have HL6 := Lib.hid hls6
        have HBx6 := Lib.hid (thenCall HBx5.out hb6)
        have HQ6 := Lib.hid (HQ5.out.later hb6)
        clear hb6 hls6 d0 d1 d2 d3 d4 d5
        go_wp2_with fail
        refine (right_any HL6.out (by omega) (rt_fit HSt1.out)).mono ?_
        intro e7 w7 ht
        obtain ⟨rfl, hb7⟩ := tells_yes ht HSt1.out
        have HBx7 := Lib.hid (thenCall HBx6.out hb7)
        have HL7 := Lib.hid (HL6.out.below hb7)
        obtain ⟨q0, q1, q2, q3, q4, hltq⟩ := HQ6.out.later hb7
        simp only at q0 q1 q2 q3 q4 hltq
        clear hb7 ht
        go_wp2_with fail
        refine (level_any HL7.out (by omega) ⟨qa, qb, qc, qd, qe⟩).mono ?_
        rintro e8 w8 ⟨rfl, hb8⟩
        have HBx8 := Lib.hid (thenCall HBx7.out hb8)
        have HL8 := Lib.hid (HL7.out.below hb8)
        have hlev' : ¬ ((levL (withL ys (⟨xa, xb, xc, xd, xe⟩, xm)) ⟨qa, qb, qc, qd, qe⟩ : Nat) : Int) < ((levL ys ⟨qa, qb, qc, qd, qe⟩ : Nat) : Int) := by omega
        clear hb8 q0 q1 q2 q3 q4 hltq
        go_wp2_with fail
        go_roundw
        case rel =>
          refine ⟨j + 1, by omega, by go_num, ⟨A6, c6, ?_, ?_⟩, ?_, thenCall HNb.out HBx8.out⟩
          · rw [HSn.out]
          · rw [HSn.out]; exact HL8.out
          · rw [HSn.out]; exact HSt1.out
        case measure => simp [intOf]; omega
      · obtain rfl : j = k := by omega
        have HTk : Hid (ls.take j = ls) := List.take_of_length_le (Nat.le_of_eq HK.out)
        rw [HTk.out] at HNl HNr hsz ⊢
        obtain ⟨hE1, hE2⟩ := HEnd.out HEr.out
        have HE1 := Lib.hid hE1
        have HE2 := Lib.hid hE2
        obtain ⟨ys, hys⟩ : ∃ ys, nowL xs ls = ys := ⟨_, rfl⟩
        rw [hys] at HNl HNr hsz HE1 HE2 ⊢
        have HPp := Lib.hid (fun (w : World) (h : Ls w An cn ys) => plan_any h (by omega) ⟨pa, pb, pc, pd, pe⟩ m)
        unfold ListsE at HPp
        rw [HE1.out, HEr.out] at HPp
        have HLv := Lib.hid (fun (w : World) (h : Ls w An cn ys) => level_any h (by omega) ⟨pa, pb, pc, pd, pe⟩)
        obtain ⟨nn, hnn⟩ : ∃ nn, ys.length = nn := ⟨_, rfl⟩
        rw [hnn] at HPp HLv ⊢
        have HPr := Lib.hid (HP4.out.later HNb.out)
        obtain ⟨p0, p1, p2, p3, p4, hltp⟩ := HPr.out
        simp only at p0 p1 p2 p3 p4 hltp
        clear hnn hys hE1 hE2
        go_wp2_with fail
        refine (HPp.out _ HNl.out).mono ?_
        rintro e5 w5 ⟨A5, c5, rfl, -, hb5⟩
        have HB5 := Lib.hid (thenCall HNb.out hb5)
        have HL5 := Lib.hid (HNl.out.below hb5)
        obtain ⟨p0, p1, p2, p3, p4, hltp⟩ := HPr.out.later hb5
        simp only at p0 p1 p2 p3 p4 hltp
        clear hb5
        go_wp2_with fail
        refine (HLv.out _ HL5.out).mono ?_
        rintro e6 w6 ⟨rfl, hb6⟩
        have HB6 := Lib.hid (thenCall HB5.out hb6)
        have hge : ((reN (kn m) : Nat) : Int) ≤ ((levL ys ⟨pa, pb, pc, pd, pe⟩ : Nat) : Int) := by have := HE2.out; omega
        clear hb6 p0 p1 p2 p3 p4 hltp
        go_wp2_with fail
        refine (rre_any m _).mono ?_
        rintro e7 w7 ⟨rfl, hb7⟩
        have HB7 := Lib.hid (thenCall HB6.out hb7)
        clear hb7
        go_wp2_with fail
        go_ret
        exact ⟨rfl, thenCall HB4.out HB7.out⟩
  · rw [decide_eq_false h30] at HFe
    clear hr hl hf
    obtain ⟨pa, pb, pc, pd, pe⟩ := p
    obtain ⟨qa, qb, qc, qd, qe⟩ := q
    simp only at HX
    go_enter Try.func3, Try.ntmps3
    go_wp2_with fail
    refine (awake_any _).mono ?_
    rintro e1 w1 ⟨rfl, hb1⟩
    have HB1 := Lib.hid (thenCall HX.out hb1)
    clear hb1
    go_wp2_with fail
    refine (HFe.out _).mono ?_
    rintro e2 w2 ⟨rfl, rfl⟩
    go_wp2_with fail
    go_ret
    exact ⟨rfl, HB1.out⟩
end Go.Proofs.Ytahafjhcebnokaa.Lk
