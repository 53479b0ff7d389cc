/- The walk of the law that what is done at one node changes nothing at others. -/
import Derived.Test.YtmolohncllcgbaaDoorLa
namespace Go.Proofs.YtmolohncllcgbaaDoor
open Go Go.RowKit Go.Shelf
set_option maxRecDepth 100000

theorem alloc_size (w : World) (o : Obj) : (w.alloc o).heap.size = w.heap.size + 1 := by simp
theorem apart_true (A : Option Addr) (n c : Nat) (d : Dd) (p : Pa.Pt) (w : World) (ht : TabG w) (hm : n ≤ maxLen) (h : 50 < n ∨ d.p = p) :
    Calls Tryd.prog 4 #[.slice A n c, dv d, p.v] w fun e w' => e = .returned (.bool true) ∧ Below w.heap.size w w' := by
  unfold maxLen at hm
  have hx := box_below w (.cells (dcs d) 33)
  have hy := box_below (w.alloc (.cells (dcs d) 33)) (.cells (pcs p) 29)
  have hb2 := hx.trans (hy.mono hx.size)
  have HA := Lib.hid (awake_any _ (ht.later hb2))
  have HX := Lib.hid hb2
  have HD := Lib.hid ((Dbx.new w d 33).below hy)
  have HP := Lib.hid (show Pbx ((w.alloc (.cells (dcs d) 33)).alloc (.cells (pcs p) 29)) (w.heap.size + 1) p from by rw [← alloc_size w (.cells (dcs d) 33)]; exact Pbx.new _ p 29)
  clear ht hx hy hb2
  obtain ⟨⟨da, db, dc, dd, de⟩, dk, dt, dm, df⟩ := d
  obtain ⟨pa, pb, pc, pd, pe⟩ := p
  by_cases h1 : 50 < n
  · have q1 : (50 : Int) < (n : Int) := by omega
    have q1' : decide ((50 : Int) < (n : Int)) = true := by simp; omega
    clear h h1
    go_enter Tryd.func4, Tryd.ntmps4
    go_wp2_with fail
    refine HA.out.mono ?_
    rintro e w1 ⟨rfl, hb1⟩
    have HX1 := Lib.hid (HX.out.trans (hb1.mono HX.out.size))
    clear hb1
    go_wp2_with fail
    go_ret
    exact ⟨rfl, HX1.out⟩
  · have q1 : ¬ (50 : Int) < (n : Int) := by omega
    have q1' : decide ((50 : Int) < (n : Int)) = false := by simp; omega
    have hE := Pa.eqP_self ⟨pa, pb, pc, pd, pe⟩
    have hdp : (⟨da, db, dc, dd, de⟩ : Pa.Pt) = ⟨pa, pb, pc, pd, pe⟩ := h.resolve_left h1
    cases hdp
    clear h h1
    go_enter Tryd.func4, Tryd.ntmps4
    go_wp2_with fail
    refine HA.out.mono ?_
    rintro e w1 ⟨rfl, hb1⟩
    have HX1 := Lib.hid (HX.out.trans (hb1.mono HX.out.size))
    have hd1 := HD.out.below hb1
    have hp1 := HP.out.below hb1
    have d0 := hd1.c0
    have d1 := hd1.c1
    have d2 := hd1.c2
    have d3 := hd1.c3
    have d4 := hd1.c4
    have b0 := hp1.c0
    have b1 := hp1.c1
    have b2 := hp1.c2
    have b3 := hp1.c3
    have b4 := hp1.c4
    simp only at d0 d1 d2 d3 d4 b0 b1 b2 b3 b4
    clear hb1 hd1 hp1
    go_wp2_with fail
    go_ret
    exact ⟨rfl, HX1.out⟩
set_option maxHeartbeats 4000000 in
theorem apart_walk (A : Option Addr) (n c : Nat) (g : Nat → Dd) (d : Dd) (p : Pa.Pt) (w : World) (ht : TabG w) (hm : n ≤ maxLen) (hi : InD w A n g) :
    Calls Tryd.prog 4 #[.slice A n c, dv d, p.v] w fun e w' => e = .returned (.bool true) ∧ Below w.heap.size w w' := by
  by_cases hh : 50 < n ∨ d.p = p
  · exact apart_true A n c d p w ht hm hh
  have hx := box_below w (.cells (dcs d) 33)
  have hy := box_below (w.alloc (.cells (dcs d) 33)) (.cells (pcs p) 29)
  have hb2 := hx.trans (hy.mono hx.size)
  have HA := Lib.hid (awake_any _ (ht.later hb2))
  have HT := Lib.hid (ht.later hb2)
  have HX := Lib.hid hb2
  have HD := Lib.hid ((Dbx.new w d 33).below hy)
  have HP := Lib.hid (show Pbx ((w.alloc (.cells (dcs d) 33)).alloc (.cells (pcs p) 29)) (w.heap.size + 1) p from by rw [← alloc_size w (.cells (dcs d) 33)]; exact Pbx.new _ p 29)
  have D := Lib.hid (fun (w' : World) (hb : Below w.heap.size w w') (i : Nat) (hi' : i < n) => hi.at hb hi')
  have h50 : ¬ 50 < n := fun q => hh (.inl q)
  have hdp : d.p ≠ p := fun q => hh (.inr q)
  have q1 : ¬ (50 : Int) < (n : Int) := by omega
  have q1' : decide ((50 : Int) < (n : Int)) = false := by simp; omega
  have hE := Pa.eqP_ne hdp
  have HNe := Lib.hid hdp
  clear ht hx hy hb2 hi hh hm
  obtain ⟨⟨da, db, dc, dd, de⟩, dk, dt, dm, df⟩ := d
  obtain ⟨pa, pb, pc, pd, pe⟩ := p
  simp only at hdp hE
  have hsz : w.heap.size + 1 < ((w.alloc (.cells (dcs ⟨⟨da, db, dc, dd, de⟩, dk, dt, dm, df⟩) 33)).alloc (.cells (pcs ⟨pa, pb, pc, pd, pe⟩) 29)).heap.size := by simp
  go_enter Tryd.func4, Tryd.ntmps4
  go_wp2_with fail
  generalize (w.alloc (.cells #[.int .i64 da, .int .i64 db, .int .i64 dc, .int .i64 dd, .int .i64 de, .int .i64 dk, .int .i64 dt, .int .i64 dm, .int .i64 df] 33)).alloc (.cells #[.int .i64 pa, .int .i64 pb, .int .i64 pc, .int .i64 pd, .int .i64 pe] 29) = W at *
  refine HA.out.mono ?_
  rintro e w1 ⟨rfl, hb1⟩
  have hd1 := HD.out.below hb1
  have hp1 := HP.out.below hb1
  have d0 := hd1.c0
  have d1 := hd1.c1
  have d2 := hd1.c2
  have d3 := hd1.c3
  have d4 := hd1.c4
  have b0 := hp1.c0
  have b1 := hp1.c1
  have b2 := hp1.c2
  have b3 := hp1.c3
  have b4 := hp1.c4
  simp only at d0 d1 d2 d3 d4 b0 b1 b2 b3 b4
  have HN := Lib.hid (ot_new 250 1000 hb1 HT.out.size)
  have hs1 := hb1.size
  clear hb1 hd1 hp1 HA
  go_wp2_with fail
  refine HN.out.mono ?_
  rintro e w2 ⟨b, rfl, h2⟩
  have H2 := Lib.hid (show ∃ C u t, Ot W w2 b 250 1000 0 C u t Nil from ⟨_, _, _, h2⟩)
  clear h2 HN d0 d1 d2 d3 d4 b0 b1 b2 b3 b4 hs1
  go_wp2_with fail
  go_loopw [26] (fun t wr => ∃ k : Nat, k ≤ n ∧ t = .int .i64 k ∧ ∃ C u t, Ot W wr b 250 1000 k C u t Nil) (fun t _ => n - (intOf t).toNat)
  case atStart => exact ⟨0, by omega, rfl, H2.out⟩
  case round =>
    obtain ⟨w3, rfl⟩ : ∃ w3, w3 = wr := ⟨_, rfl⟩
    obtain ⟨k, hk, rfl, C, u, t, ho⟩ := hrel
    have H := Lib.hid ho
    have HB := Lib.hid (HX.out.trans (ho.bel.mono HX.out.size))
    clear ho H2
    by_cases hlt : k < n
    · obtain ⟨ad, rfl, ⟨c0, c1, c2, c3, c4, c5, c6, c7, c8⟩⟩ := D.out w3 HB.out k hlt
      generalize g k = gk at c0 c1 c2 c3 c4 c5 c6 c7 c8
      obtain ⟨⟨ga, gb, gc, gd, ge⟩, gk, gt, gm, gf⟩ := gk
      have HC := Lib.hid ((H.out.below nil_stays (box_below w3 (.cells (dcs ⟨⟨ga, gb, gc, gd, ge⟩, gk, gt, gm, gf⟩) 33))).ask nil_stays HT.out (by omega) gt gm gf ⟨ga, gb, gc, gd, ge⟩ rfl)
      simp only at c0 c1 c2 c3 c4 c5 c6 c7 c8
      clear H
      go_wp2_with fail
      refine HC.out.mono ?_
      rintro e w4 ⟨rfl, u', t', h4, -⟩
      have H4 := Lib.hid h4
      clear h4 HC c0 c1 c2 c3 c4 c5 c6 c7 c8
      go_wp2_with fail
      go_roundw
      case rel => exact ⟨k + 1, by omega, by go_num, _, _, _, H4.out⟩
      case measure => simp [intOf]; omega
    · obtain rfl : k = n := by omega
      have hp3 := HP.out.below H.out.bel
      have b0 := hp3.c0
      have b1 := hp3.c1
      have b2 := hp3.c2
      have b3 := hp3.c3
      have b4 := hp3.c4
      simp only at b0 b1 b2 b3 b4
      have hl3 := Nat.lt_of_lt_of_le hsz H.out.bel.size
      have HQ := Lib.hid (H.out.queue nil_stays (by omega) ⟨pa, pb, pc, pd, pe⟩)
      have HLe := Lib.hid (show (C ⟨pa, pb, pc, pd, pe⟩).1.length ≤ 400 ∧ (C ⟨pa, pb, pc, pd, pe⟩).2.length ≤ 400 from by
        obtain ⟨T, B0, k1, -⟩ := H.out.is
        have := k1.size ⟨pa, pb, pc, pd, pe⟩
        have := k1.bounds
        omega)
      clear hp3 H HB
      go_wp2_with fail
      refine HQ.out.mono ?_
      rintro e w4 ⟨ho, hor⟩
      clear b0 b1 b2 b3 b4 HQ
      rcases hor with ⟨hz, rfl⟩ | ⟨hz, Q, rfl, hQ, ho2⟩
      · have HZ := Lib.hid hz
        clear hz
        have hd4 := HD.out.below ho.bel
        have d0 := hd4.c0
        have d1 := hd4.c1
        have d2 := hd4.c2
        have d3 := hd4.c3
        have d4 := hd4.c4
        have d6 := hd4.c6
        have d7 := hd4.c7
        have d8 := hd4.c8
        simp only at d0 d1 d2 d3 d4 d6 d7 d8
        have HC := Lib.hid (ho.ask nil_stays HT.out (by omega) dt dm df ⟨da, db, dc, dd, de⟩ rfl)
        have hl4 := Nat.lt_of_lt_of_le hsz ho.bel.size
        clear ho hd4
        go_wp2_with fail
        refine HC.out.mono ?_
        rintro e w5 ⟨rfl, u5, t5, h5, -⟩
        have hd5 := HD.out.below h5.bel
        have d0 := hd5.c0
        have d1 := hd5.c1
        have d2 := hd5.c2
        have d3 := hd5.c3
        have d4 := hd5.c4
        have d6 := hd5.c6
        simp only at d0 d1 d2 d3 d4 d6
        have hl5 := Nat.lt_of_lt_of_le hsz h5.bel.size
        have HR := Lib.hid (h5.release nil_stays HT.out (by omega) dt ⟨da, db, dc, dd, de⟩ rfl)
        clear h5 hd5 HC d7 d8
        go_wp2_with fail
        refine HR.out.mono ?_
        rintro e w6 ⟨A6, k6, rfl, u6, t6, h6⟩
        have hCp : upC (upC C ⟨da, db, dc, dd, de⟩ (askT 250 1000 u t C dt ⟨da, db, dc, dd, de⟩ dm df).2.2) ⟨da, db, dc, dd, de⟩ ((relT rel (upC C ⟨da, db, dc, dd, de⟩ (askT 250 1000 u t C dt ⟨da, db, dc, dd, de⟩ dm df).2.2) dt ⟨da, db, dc, dd, de⟩).hs, (relT rel (upC C ⟨da, db, dc, dd, de⟩ (askT 250 1000 u t C dt ⟨da, db, dc, dd, de⟩ dm df).2.2) dt ⟨da, db, dc, dd, de⟩).ws) ⟨pa, pb, pc, pd, pe⟩ = C ⟨pa, pb, pc, pd, pe⟩ := by
          rw [upC_ne _ _ (fun e => HNe.out e.symm), upC_ne _ _ (fun e => HNe.out e.symm)]
        have HQu := Lib.hid (h6.queue nil_stays (by omega) ⟨pa, pb, pc, pd, pe⟩)
        rw [hCp] at HQu
        have hp6 := HP.out.below h6.bel
        have b0 := hp6.c0
        have b1 := hp6.c1
        have b2 := hp6.c2
        have b3 := hp6.c3
        have b4 := hp6.c4
        simp only at b0 b1 b2 b3 b4
        have hl6 := Nat.lt_of_lt_of_le hsz h6.bel.size
        clear h6 hp6 HR hCp d0 d1 d2 d3 d4 d6
        go_wp2_with fail
        refine HQu.out.mono ?_
        rintro e w7 ⟨ho7, hor7⟩
        rcases hor7 with ⟨-, rfl⟩ | ⟨hz7, -⟩
        · have HX7 := Lib.hid (HX.out.trans (ho7.bel.mono HX.out.size))
          clear ho7 HQu b0 b1 b2 b3 b4
          go_wp2_with fail
          go_ret
          exact ⟨rfl, HX7.out⟩
        · exact absurd hz7 (by rw [HZ.out]; exact Nat.lt_irrefl 0)
      · have HZ := Lib.hid hz
        clear hz ho hQ
        have ho := ho2
        clear ho2
        have hd4 := HD.out.below ho.bel
        have d0 := hd4.c0
        have d1 := hd4.c1
        have d2 := hd4.c2
        have d3 := hd4.c3
        have d4 := hd4.c4
        have d6 := hd4.c6
        have d7 := hd4.c7
        have d8 := hd4.c8
        simp only at d0 d1 d2 d3 d4 d6 d7 d8
        have HC := Lib.hid (ho.ask (bes_stays Q _ _) HT.out (by omega) dt dm df ⟨da, db, dc, dd, de⟩ rfl)
        have hl4 := Nat.lt_of_lt_of_le hsz ho.bel.size
        clear ho hd4
        go_wp2_with fail
        refine HC.out.mono ?_
        rintro e w5 ⟨rfl, u5, t5, h5, -⟩
        have hd5 := HD.out.below h5.bel
        have d0 := hd5.c0
        have d1 := hd5.c1
        have d2 := hd5.c2
        have d3 := hd5.c3
        have d4 := hd5.c4
        have d6 := hd5.c6
        simp only at d0 d1 d2 d3 d4 d6
        have hl5 := Nat.lt_of_lt_of_le hsz h5.bel.size
        have HR := Lib.hid (h5.release (bes_stays Q _ _) HT.out (by omega) dt ⟨da, db, dc, dd, de⟩ rfl)
        clear h5 hd5 HC d7 d8
        go_wp2_with fail
        refine HR.out.mono ?_
        rintro e w6 ⟨A6, k6, rfl, u6, t6, h6⟩
        have hCp : upC (upC C ⟨da, db, dc, dd, de⟩ (askT 250 1000 u t C dt ⟨da, db, dc, dd, de⟩ dm df).2.2) ⟨da, db, dc, dd, de⟩ ((relT rel (upC C ⟨da, db, dc, dd, de⟩ (askT 250 1000 u t C dt ⟨da, db, dc, dd, de⟩ dm df).2.2) dt ⟨da, db, dc, dd, de⟩).hs, (relT rel (upC C ⟨da, db, dc, dd, de⟩ (askT 250 1000 u t C dt ⟨da, db, dc, dd, de⟩ dm df).2.2) dt ⟨da, db, dc, dd, de⟩).ws) ⟨pa, pb, pc, pd, pe⟩ = C ⟨pa, pb, pc, pd, pe⟩ := by
          rw [upC_ne _ _ (fun e => HNe.out e.symm), upC_ne _ _ (fun e => HNe.out e.symm)]
        have HQu := Lib.hid (h6.queue (bes_stays Q _ _) (by omega) ⟨pa, pb, pc, pd, pe⟩)
        rw [hCp] at HQu
        have hp6 := HP.out.below h6.bel
        have b0 := hp6.c0
        have b1 := hp6.c1
        have b2 := hp6.c2
        have b3 := hp6.c3
        have b4 := hp6.c4
        simp only at b0 b1 b2 b3 b4
        have hl6 := Nat.lt_of_lt_of_le hsz h6.bel.size
        clear h6 hp6 HR hCp d0 d1 d2 d3 d4 d6
        go_wp2_with fail
        refine HQu.out.mono ?_
        rintro e w7 ⟨ho7, hor7⟩
        rcases hor7 with ⟨hz7, -⟩ | ⟨-, Q7, rfl, -, h8⟩
        · exact absurd HZ.out (by rw [hz7]; exact Nat.lt_irrefl 0)
        · have HX7 := Lib.hid (HX.out.trans (ho7.bel.mono HX.out.size))
          have hq7 : ∃ A1 c1 A2 c2, QAt w7 Q A1 c1 A2 c2 (C ⟨pa, pb, pc, pd, pe⟩).1 (C ⟨pa, pb, pc, pd, pe⟩).2 := by
            obtain ⟨T, B0, -, -, A1, c1, A2, c2, hq, -⟩ := ho7.is
            exact ⟨A1, c1, A2, c2, hq⟩
          have hq8 : ∃ A1 c1 A2 c2, QAt w7 Q7 A1 c1 A2 c2 (C ⟨pa, pb, pc, pd, pe⟩).1 (C ⟨pa, pb, pc, pd, pe⟩).2 := by
            obtain ⟨T, B0, -, -, A1, c1, A2, c2, hq, -⟩ := h8.is
            exact ⟨A1, c1, A2, c2, hq⟩
          have hle : (C ⟨pa, pb, pc, pd, pe⟩).1.length ≤ 400 ∧ (C ⟨pa, pb, pc, pd, pe⟩).2.length ≤ 400 := HLe.out
          obtain ⟨A1, c1, A2, c2, hq7⟩ := hq7
          obtain ⟨A3, c3, A4, c4, hq8⟩ := hq8
          generalize (C ⟨pa, pb, pc, pd, pe⟩).1 = HH at hq7 hq8 hle
          generalize (C ⟨pa, pb, pc, pd, pe⟩).2 = LL at hq7 hq8 hle
          have HQ7 := Lib.hid hq7
          have HQ8 := Lib.hid hq8
          have HL := Lib.hid hle
          have HA7 := Lib.hid (holds_any hq7.its (by omega))
          clear ho7 h8 hq7 hq8 hle HQu b0 b1 b2 b3 b4
          obtain ⟨nh, hnh⟩ : ∃ k, HH.length = k := ⟨_, rfl⟩
          obtain ⟨nl, hnl⟩ : ∃ k, LL.length = k := ⟨_, rfl⟩
          have HNh := Lib.hid hnh
          have HNl := Lib.hid hnl
          clear hnh hnl
          go_wp2_with fail
          refine HA7.out.mono ?_
          rintro e w8 ⟨E1, f1, rfl, hls8, hb8⟩
          rw [HNh.out]
          have HX8 := Lib.hid (HX7.out.trans (hb8.mono HX7.out.size))
          have HL8 := Lib.hid hls8
          have HA8 := Lib.hid (holds_any (HQ8.out.below hb8).its (by have := HL.out.1; omega))
          have HQ7' := Lib.hid (HQ7.out.below hb8)
          have HQ8' := Lib.hid (HQ8.out.below hb8)
          clear hb8 hls8 HA7 HQ7 HQ8
          go_wp2_with fail
          refine HA8.out.mono ?_
          rintro e w9 ⟨E2, f2, rfl, hls9, hb9⟩
          rw [HNh.out]
          have HX9 := Lib.hid (HX8.out.trans (hb9.mono HX8.out.size))
          have HS9 := Lib.hid (Hs.same_any (HL8.out.below hb9) hls9 (by have := HL.out.1; omega))
          rw [HNh.out] at HS9
          have HQ7 := Lib.hid (HQ7'.out.below hb9)
          have HQ8 := Lib.hid (HQ8'.out.below hb9)
          clear hb9 hls9 HA8 HQ7' HQ8' HL8
          go_wp2_with fail
          refine HS9.out.mono ?_
          rintro e w10 ⟨rfl, hb10⟩
          have HX10 := Lib.hid (HX9.out.trans (hb10.mono HX9.out.size))
          have HA10 := Lib.hid (waits_any (HQ7.out.below hb10).its (by have := HL.out.2; omega))
          have HQ8' := Lib.hid (HQ8.out.below hb10)
          clear hb10 HS9 HQ7 HQ8
          go_wp2_with fail
          refine HA10.out.mono ?_
          rintro e w11 ⟨E3, f3, rfl, hls11, hb11⟩
          rw [HNl.out]
          have HX11 := Lib.hid (HX10.out.trans (hb11.mono HX10.out.size))
          have HL11 := Lib.hid hls11
          have HA11 := Lib.hid (waits_any (HQ8'.out.below hb11).its (by have := HL.out.2; omega))
          clear hb11 hls11 HA10 HQ8'
          go_wp2_with fail
          refine HA11.out.mono ?_
          rintro e w12 ⟨E4, f4, rfl, hls12, hb12⟩
          rw [HNl.out]
          have HX12 := Lib.hid (HX11.out.trans (hb12.mono HX11.out.size))
          have HS12 := Lib.hid (Ws.same_any (HL11.out.below hb12) hls12 (by have := HL.out.2; omega))
          rw [HNl.out] at HS12
          clear hb12 hls12 HA11 HL11
          go_wp2_with fail
          refine HS12.out.mono ?_
          rintro e w13 ⟨rfl, hb13⟩
          have HX13 := Lib.hid (HX12.out.trans (hb13.mono HX12.out.size))
          clear hb13 HS12
          go_wp2_with fail
          go_ret
          exact ⟨rfl, HX13.out⟩
end Go.Proofs.YtmolohncllcgbaaDoor
