/- The law HierFree's walk. -/
import Derived.Test.YtlhhopanegnliaaGreatDoorIl
namespace Go.Proofs.YtlhhopanegnliaaGreatDoor
open Go Go.RowKit Go.Shelf
set_option maxRecDepth 100000

theorem free_long (A : Option Addr) (n c : Nat) (tx : Int) (w : World) (ht : TabG w) (h : 40 < n) :
    Calls Tryz.prog 5 #[.slice A n c, .int .i64 tx] w fun e w' => e = .returned (.bool true) ∧ Below w.heap.size w w' := by
  have HA := Lib.hid (awake_any w ht)
  have q1 : (40 : Int) < (n : Int) := by omega
  clear ht
  go_enter Tryz.func5, Tryz.ntmps5
  go_wp2_with fail
  refine HA.out.mono ?_
  rintro e w1 ⟨rfl, hb1⟩
  have HB1 := Lib.hid hb1
  clear hb1
  go_wp2_with fail
  go_ret
  exact ⟨rfl, HB1.out⟩
set_option maxHeartbeats 4000000 in
theorem free_walk (A : Option Addr) (n c : Nat) (g : Nat → D19) (tx : Int) (w : World) (ht : TabG w) (hi : In19 w A n g) :
    Calls Tryz.prog 5 #[.slice A n c, .int .i64 tx] w fun e w' => e = .returned (.bool true) ∧ Below w.heap.size w w' := by
  by_cases h40 : 40 < n
  · exact free_long A n c tx w ht h40
  have HA := Lib.hid (awake_any w ht)
  have HT := Lib.hid ht
  have D := Lib.hid (fun (w' : World) (hb : Below w.heap.size w w') (i : Nat) (hi' : i < n) => In19.at hi hb hi')
  have q1 : ¬ (40 : Int) < (n : Int) := by omega
  clear ht hi
  go_enter Tryz.func5, Tryz.ntmps5
  go_wp2_with fail
  refine HA.out.mono ?_
  rintro e w1 ⟨rfl, hb1⟩
  have HN := Lib.hid (mad_new hb1 HT.out.size 200 1000)
  rw [show clamp 200 256 = 200 from rfl, show ((clamp 1000 1024 : Nat) : Int) = 1000 from rfl] at HN
  clear hb1 HA
  go_wp2_with fail
  refine HN.out.mono ?_
  rintro e w2 ⟨b, rfl, h2⟩
  have H2 : Hid (∃ C, Mad w w2 b 200 1000 (4 * 0) C ∧ Noin C) := ⟨_, h2, fun q z hz => by cases hz⟩
  clear h2 HN
  go_wp2_with fail
  go_loopw [27] (fun t wr => ∃ k : Nat, k ≤ n ∧ t = .int .i64 k ∧ ∃ C, Mad w wr b 200 1000 (4 * k) C ∧ Noin C) (fun t _ => n - (intOf t).toNat)
  case atStart => exact ⟨0, by omega, rfl, H2.out⟩
  case round =>
    obtain ⟨w3, rfl⟩ : ∃ w3, w3 = wr := ⟨_, rfl⟩
    obtain ⟨k, hk, rfl, C, ho, hno⟩ := hrel
    have H := Lib.hid ho
    have HNo := Lib.hid hno
    clear ho H2 hno
    by_cases hlt : k < n
    · obtain ⟨ad, rfl, ⟨c0, c1, c2, c3, c4, c5, c6, c7, c8, c9⟩⟩ := D.out w3 H.out.bel k hlt
      generalize g k = gk at c0 c1 c2 c3 c4 c5 c6 c7 c8 c9
      obtain ⟨gk, gt, ⟨ga, gb, gc, gd, ge⟩, gm, gf, gn⟩ := gk
      have HC := Lib.hid ((H.out.below (box_below w3 (.cells (d19 ⟨gk, gt, ⟨ga, gb, gc, gd, ge⟩, gm, gf, gn⟩) 32))).take HT.out (by decide) (by omega) gt ⟨ga, gb, gc, gd, ge⟩ gm 0 rfl)
      simp only at c0 c1 c2 c3 c4 c5 c6 c7 c8 c9
      have HN2 := Lib.hid (tk_noin (m := 200) (mr := 1000) (tx := gt) (p := ⟨ga, gb, gc, gd, ge⟩) (md := gm) (fl := 0) rfl 3 HNo.out)
      generalize tkT 200 1000 gt ⟨ga, gb, gc, gd, ge⟩ gm 0 3 C = S at *
      clear H
      go_wp2_with fail
      refine HC.out.mono ?_
      rintro e w4 ⟨rfl, h4⟩
      have H4 : Hid (Mad w w4 b 200 1000 (4 * (k + 1)) S.2.2) := h4
      clear h4 HC c0 c1 c2 c3 c4 c5 c6 c7 c8 c9
      go_wp2_with fail
      go_roundw
      case rel => exact ⟨k + 1, by omega, by go_num, _, H4.out, HN2.out⟩
      case measure => simp [intOf]; omega
    · obtain rfl : k = n := by omega
      clear D
      have HF := Lib.hid (H.out.free HT.out (by decide) (by omega) tx (n := 4 * k) (Nat.le_refl _))
      go_wp2_with fail
      refine HF.out.mono ?_
      rintro e w4 ⟨ys, v, rfl, hbk, h4, hrow, hlen⟩
      obtain ⟨f1, f2, f3⟩ := H.out.facts
      obtain ⟨t1, t2, t3⟩ := tells_fr f1 HNo.out f2 hbk
      have HTe := Lib.hid (show Tells3 tx (frT tx (4 * k) ys C).1 (frT tx (4 * k) ys C).2 from t1)
      have HW0 := Lib.hid (show waitL (frT tx (4 * k) ys C).2 tx = none from t2)
      have HH0 := Lib.hid (show heldL (frT tx (4 * k) ys C).2 tx = [] from t3)
      obtain ⟨A4, k4, rfl, hls⟩ := hrow.ls
      generalize frT tx (4 * k) ys C = D at *
      obtain ⟨Ts, C1⟩ := D
      simp only at h4 hls hlen HTe HW0 HH0 ⊢
      have H4 := Lib.hid h4
      have HL4 := Lib.hid hls
      have HWt := Lib.hid (h4.wait (by decide) (by omega) tx)
      rw [HW0.out, show waitV none = .tuple #[zeroP.v, Ws.wv zeroW, .bool false] from rfl] at HWt
      obtain ⟨⟨za, zb, zc, zd, ze⟩, hzp⟩ : ∃ z, zeroP = z := ⟨_, rfl⟩
      obtain ⟨⟨z1, z2, z3, z4⟩, hzw⟩ : ∃ z, zeroW = z := ⟨_, rfl⟩
      rw [hzp, hzw] at HWt
      clear hzw t1 t2 t3 f1 f2 f3 hbk h4 hrow hls HF H HNo HW0
      go_wp2_with fail
      refine HWt.out.mono ?_
      rintro e w5 ⟨rfl, hb5⟩
      have HB5 := Lib.hid hb5
      clear hb5 HWt
      go_upto_region 13 with (fail)
      have hb6 := (box_below w5 (.cells #[.int .i64 za, .int .i64 zb, .int .i64 zc, .int .i64 zd, .int .i64 ze] 30)).trans ((box_below (w5.alloc (.cells #[.int .i64 za, .int .i64 zb, .int .i64 zc, .int .i64 zd, .int .i64 ze] 30)) (.cells #[.int .i64 z1, .int .i64 z2, .bool z3, .bool z4] 61)).mono (box_below w5 _).size)
      have HB6 := Lib.hid (HB5.out.trans (hb6.mono HB5.out.size))
      clear hb6
      generalize (w5.alloc (.cells #[.int .i64 za, .int .i64 zb, .int .i64 zc, .int .i64 zd, .int .i64 ze] 30)).alloc (.cells #[.int .i64 z1, .int .i64 z2, .bool z3, .bool z4] 61) = w6 at *
      have HFi := Lib.hid ((H4.out.below HB6.out).first (by decide) (by omega) tx)
      go_wp2_with fail
      refine HFi.out.mono ?_
      rintro e w7 ⟨ys', hbk, rfl, hb7⟩
      rw [HH0.out] at hbk
      obtain rfl : ys' = [] := List.length_eq_zero_iff.1 hbk.stb.perm.length_eq
      rw [show bkV [] = .tuple #[zeroP.v, .bool false] from rfl, hzp]
      have HB7 := Lib.hid (HB6.out.trans (hb7.mono HB6.out.size))
      clear hb7 hbk HFi HB6 HB5 hzp
      go_upto_region 14 with (fail)
      have hb8 := box_below w7 (.cells #[.int .i64 za, .int .i64 zb, .int .i64 zc, .int .i64 zd, .int .i64 ze] 30)
      have HB8 := Lib.hid (HB7.out.trans (hb8.mono HB7.out.size))
      clear hb8 HB7
      generalize w7.alloc (.cells #[.int .i64 za, .int .i64 zb, .int .i64 zc, .int .i64 zd, .int .i64 ze] 30) = w8 at *
      obtain ⟨nt, hnt⟩ : ∃ nt, Ts.length = nt := ⟨_, rfl⟩
      rw [hnt] at hlen ⊢
      have HNt := Lib.hid hnt
      clear hnt
      go_wp2_with fail
      go_loopw [58] (fun t wr => ∃ j : Nat, j ≤ nt ∧ t = .int .i64 j ∧ Below w4.heap.size w4 wr) (fun t _ => nt - (intOf t).toNat)
      case atStart => exact ⟨0, by omega, rfl, HB8.out⟩
      case round =>
        obtain ⟨j, hj, rfl, hbr⟩ := hrel
        have HBr := Lib.hid hbr
        clear hbr HB8
        by_cases hjn : j < nt
        · have hjl : j < Ts.length := by rw [HNt.out]; exact hjn
          obtain ⟨a, rfl, c0, c1, c2, c3⟩ := (HL4.out.below HBr.out).here hjl
          obtain ⟨n1, n2, q, n3⟩ := HTe.out.t _ (List.getElem_mem hjl)
          generalize Ts[j] = x at *
          obtain ⟨x1, x2, x3, x4⟩ := x
          simp only at c0 c1 c2 c3 n1 n2
          have hbx := box_below wr (.cells #[.int .i64 x1, .int .i64 x2, .bool x3, .bool x4] 61)
          have HBx := Lib.hid (HBr.out.trans (hbx.mono HBr.out.size))
          have HWx := Lib.hid (show (wr.alloc (.cells #[.int .i64 x1, .int .i64 x2, .bool x3, .bool x4] 61)).heap[wr.heap.size]? = some (.cells #[.int .i64 x1, .int .i64 x2, .bool x3, .bool x4] 61) from heap_alloc_new _ _)
          have HMem := Lib.hid (show ∃ y ∈ heldL C1 x1, y.2 = x2 from by
            have h0 : Hs.fst x1 (C1 q).1 ≠ 0 := by rw [show Hs.fst x1 (C1 q).1 = x2 from n3.1]; omega
            exact ⟨_, held_mem HTe.out.f h0, n3.1⟩)
          have HHd := Lib.hid ((H4.out.below HBx.out).held (by decide) (by omega) x1)
          have hl1 := H4.out.facts.2.2 x1
          have j1 : (j : Int) < (nt : Int) := by omega
          have j0 : (0 : Int) ≤ (j : Int) := by omega
          have hx1 : (x1 == tx) = false := by simpa using n1
          clear hbx n3
          generalize heldL C1 x1 = hs at *
          go_upto_region 17 with (fail)
          generalize wr.alloc (.cells #[.int .i64 x1, .int .i64 x2, .bool x3, .bool x4] 61) = wx at *
          generalize wr.heap.size = Kx at *
          obtain ⟨q0, q1, -, -⟩ := wait_blk HWx.out
          go_wp2_with fail
          refine HHd.out.mono ?_
          rintro e w9 ⟨A9, k9, rfl, hls9, hb9, -⟩
          have HL9 := Lib.hid hls9
          have HB9 := Lib.hid (HBx.out.trans (hb9.mono HBx.out.size))
          have HW9 := Lib.hid ((hb9.block Kx (Array.getElem?_eq_some_iff.1 HWx.out).1).trans HWx.out)
          clear hls9 hb9 HHd HWx HBx q0 q1 HBr c0 c1 c2 c3
          obtain ⟨mh, hmh⟩ : ∃ mh, hs.length = mh := ⟨_, rfl⟩
          have HMh := Lib.hid hmh
          rw [hmh] at hl1 ⊢
          clear hmh
          obtain ⟨wr0, rfl⟩ : ∃ w0, w0 = wr := ⟨_, rfl⟩
          go_wp2_with fail
          go_loopw [16, 67] (fun s t wr => ∃ i : Nat, i ≤ mh ∧ t = .int .i64 i ∧ s = .bool ((hs.take i).any fun y => y.2 == x2) ∧ Below w9.heap.size w9 wr) (fun _ t _ => mh - (intOf t).toNat)
          case atStart => exact ⟨0, by omega, rfl, rfl, Below.refl _ _⟩
          case round =>
            obtain ⟨i, hi, rfl, rfl, hbi⟩ := hrel
            have HBi := Lib.hid hbi
            clear hbi
            by_cases him : i < mh
            · have hil : i < hs.length := by rw [HMh.out]; exact him
              obtain ⟨a9, rfl, d0, d1, d2, d3, d4, d5⟩ := (HL9.out.below HBi.out).here hil
              have hany : (hs.take (i + 1)).any (fun y => y.2 == x2) = ((hs.take i).any (fun y => y.2 == x2) || hs[i].2 == x2) := by
                rw [List.take_succ_eq_append_getElem hil, List.any_append]
                simp
              have HAny := Lib.hid hany
              clear hany
              generalize hs[i] = y at *
              obtain ⟨⟨ya, yb, yc, yd, ye⟩, ym⟩ := y
              simp only at d0 d1 d2 d3 d4 d5 HAny
              generalize (hs.take i).any (fun y => y.2 == x2) = sm at *
              have i1 : (i : Int) < (mh : Int) := by omega
              have i0 : (0 : Int) ≤ (i : Int) := by omega
              have HBy := Lib.hid (HBi.out.trans ((box_below wr (.cells #[.int .i64 ya, .int .i64 yb, .int .i64 yc, .int .i64 yd, .int .i64 ye, .int .i64 ym] 39)).mono HBi.out.size))
              have HLy := Lib.hid (show Lk.Bx (wr.alloc (.cells #[.int .i64 ya, .int .i64 yb, .int .i64 yc, .int .i64 yd, .int .i64 ye, .int .i64 ym] 39)) wr.heap.size (⟨ya, yb, yc, yd, ye⟩, ym) from heap_alloc_new _ _)
              have HWy := Lib.hid ((HBy.out.block Kx (Array.getElem?_eq_some_iff.1 HW9.out).1).trans HW9.out)
              go_upto_region 21 with (fail)
              generalize wr.alloc (.cells #[.int .i64 ya, .int .i64 yb, .int .i64 yc, .int .i64 yd, .int .i64 ye, .int .i64 ym] 39) = wy at *
              generalize wr.heap.size = Ky at *
              obtain ⟨-, r1, -, -⟩ := wait_blk HWy.out
              obtain ⟨-, -, -, -, -, p5, -⟩ := HLy.out.at
              simp only [Nat.zero_add] at p5
              clear HLy HWy d0 d1 d2 d3 d4 d5
              cases sm
              · go_wp2_with fail
                go_roundw
                case rel => exact ⟨i + 1, by omega, by go_num, by rw [HAny.out]; rfl, HBy.out⟩
                case measure => simp [intOf]; omega
              · go_wp2_with fail
                go_roundw
                case rel => exact ⟨i + 1, by omega, by go_num, by rw [HAny.out]; rfl, HBy.out⟩
                case measure => simp [intOf]; omega
            · obtain rfl : i = mh := by omega
              have hall : (hs.take i).any (fun y => y.2 == x2) = true := by
                obtain ⟨y, hy, he⟩ := HMem.out
                rw [List.take_of_length_le (by rw [HMh.out]; exact Nat.le_refl _), List.any_eq_true]
                exact ⟨y, hy, by simpa using he⟩
              rw [hall]
              have HWi := Lib.hid ((HBi.out.block Kx (Array.getElem?_eq_some_iff.1 HW9.out).1).trans HW9.out)
              have HBz := Lib.hid (HB9.out.trans (HBi.out.mono HB9.out.size))
              obtain ⟨r0, -, -, -⟩ := wait_blk HWi.out
              clear hall HWi
              go_wp2_with fail
              go_roundw
              case rel => exact ⟨j + 1, by omega, by go_num, HBz.out⟩
              case measure => simp [intOf]; omega
        · obtain rfl : j = nt := by omega
          have HHd := Lib.hid ((H4.out.below HBr.out).held (by decide) (by omega) tx)
          rw [HH0.out] at HHd
          go_wp2_with fail
          refine HHd.out.mono ?_
          rintro e w9 ⟨A9, k9, rfl, -, hb9, -⟩
          have HB9 : Hid (Below w.heap.size w w9) := (H4.out.below HBr.out).bel.trans (hb9.mono (H4.out.below HBr.out).bel.size)
          clear hb9 HHd
          simp only [List.length_nil]
          go_wp2_with fail
          go_ret
          exact ⟨rfl, HB9.out⟩
end Go.Proofs.YtlhhopanegnliaaGreatDoor
