/- The walk of the law of no table. -/
import Derived.Test.YtmolohncllcgbaaGreatDoorLd
namespace Go.Proofs.YtmolohncllcgbaaGreatDoor
open Go Go.RowKit Go.Shelf
attribute [local go_sem] Oper.semAt_some
set_option maxRecDepth 100000

abbrev d4 (k t m f : Int) : Array Value := #[.int .i64 k, .int .i64 t, .int .i64 m, .int .i64 f]
abbrev d4v (k t m f : Int) : Value := .agg (d4 k t m f)
/-- a node and a deed, boxed -/
structure PD (w : World) (K1 K2 : Nat) (p : Pa.Pt) (k t m f : Int) : Prop where
  p : Pbx w K1 p
  d0 : w.cell? ⟨K2, 0, none⟩ = some (.int .i64 k)
  d1 : w.cell? ⟨K2, 1, none⟩ = some (.int .i64 t)
  d2 : w.cell? ⟨K2, 2, none⟩ = some (.int .i64 m)
  d3 : w.cell? ⟨K2, 3, none⟩ = some (.int .i64 f)
theorem PD.below {w w' : World} {K1 K2 : Nat} {p : Pa.Pt} {k t m f : Int} (h : PD w K1 K2 p k t m f) (hb : Below w.heap.size w w') : PD w' K1 K2 p k t m f := by
  have kk : ∀ o, w'.cell? ⟨K2, o, none⟩ = w.cell? ⟨K2, o, none⟩ := fun o => hb.cell (p := ⟨K2, o, none⟩) (show K2 < w.heap.size from cell_lt h.d0)
  exact ⟨h.p.below hb, (kk 0).trans h.d0, (kk 1).trans h.d1, (kk 2).trans h.d2, (kk 3).trans h.d3⟩
theorem PD.lt {w : World} {K1 K2 : Nat} {p : Pa.Pt} {k t m f : Int} (h : PD w K1 K2 p k t m f) : K1 < w.heap.size ∧ K2 < w.heap.size := ⟨cell_lt h.p.c0, cell_lt h.d0⟩
set_option maxHeartbeats 8000000 in
theorem none_walk (p : Pa.Pt) (k t m f : Int) (w : World) (ht : TabG w) : Calls Tryz.prog 4 #[p.v, d4v k t m f] w fun e w' => e = .returned (.bool true) ∧ Below w.heap.size w w' := by
  refine (callsIn_wide (n := 9)).1 ?_
  refine callsIn_of_wp_marks Tryz.func4 rfl trivial ?_ rfl
  simp only [Tryz.ntmps4, List.size_toArray, List.length_cons, List.length_nil, Nat.reduceAdd, Nat.reduceSub, Array.replicate_succ, Array.replicate_zero, List.push_toArray, List.append_toArray, List.nil_append, List.cons_append]
  refine wpIn_wide.2 ?_
  have hx := box_below w (.cells (pcs p) 30)
  have hy := box_below (w.alloc (.cells (pcs p) 30)) (.cells (d4 k t m f) 32)
  have hb2 := hx.trans (hy.mono hx.size)
  have HA := Lib.hid (awake_any _ (ht.later hb2))
  have HT := Lib.hid (ht.later hb2)
  have HX := Lib.hid hb2
  have HP := Lib.hid (show PD ((w.alloc (.cells (pcs p) 30)).alloc (.cells (d4 k t m f) 32)) w.heap.size (w.heap.size + 1) p k t m f from by
    refine ⟨(Pbx.new w p _).below hy, ?_, ?_, ?_, ?_⟩ <;> simp [go_sem])
  clear ht hx hy hb2
  obtain ⟨pa, pb, pc, pd, pe⟩ := p
  go_wp2_with fail
  generalize (w.alloc (.cells #[.int .i64 pa, .int .i64 pb, .int .i64 pc, .int .i64 pd, .int .i64 pe] 30)).alloc (.cells #[.int .i64 k, .int .i64 t, .int .i64 m, .int .i64 f] 32) = W at *
  refine HA.out.mono ?_
  rintro e w1 ⟨rfl, hb1⟩
  have HB1 := Lib.hid hb1
  have h1 := HP.out.below hb1
  have b0 := h1.p.c0
  have b1 := h1.p.c1
  have b2 := h1.p.c2
  have b3 := h1.p.c3
  have b4 := h1.p.c4
  have d1 := h1.d1
  have d2 := h1.d2
  have d3 := h1.d3
  simp only at b0 b1 b2 b3 b4
  have hl1 := h1.lt.1
  have hl2 := h1.lt.2
  clear hb1 h1 HA
  go_wp2_with fail
  refine (task_none t m f ⟨pa, pb, pc, pd, pe⟩ w1).mono ?_
  rintro e w2 ⟨rfl, hb⟩
  have HB2 := Lib.hid (HB1.out.trans (hb.mono HB1.out.size))
  have h1 := HP.out.below HB2.out
  have b0 := h1.p.c0
  have b1 := h1.p.c1
  have b2 := h1.p.c2
  have b3 := h1.p.c3
  have b4 := h1.p.c4
  have d1 := h1.d1
  simp only at b0 b1 b2 b3 b4
  have hl1 := h1.lt.1
  have hl2 := h1.lt.2
  clear hb h1 HB1 d2 d3
  go_wp2_with fail
  refine (trelease_none t ⟨pa, pb, pc, pd, pe⟩ w2).mono ?_
  rintro e w3 ⟨rfl, hb⟩
  have HB3 := Lib.hid (HB2.out.trans (hb.mono HB2.out.size))
  have h1 := HP.out.below HB3.out
  have b0 := h1.p.c0
  have b1 := h1.p.c1
  have b2 := h1.p.c2
  have b3 := h1.p.c3
  have b4 := h1.p.c4
  have d1 := h1.d1
  simp only at b0 b1 b2 b3 b4
  have hl1 := h1.lt.1
  have hl2 := h1.lt.2
  clear hb h1 HB2
  go_wp2_with fail
  refine (tcancel_none t ⟨pa, pb, pc, pd, pe⟩ w3).mono ?_
  rintro e w4 ⟨rfl, hb⟩
  have HB4 := Lib.hid (HB3.out.trans (hb.mono HB3.out.size))
  have h1 := HP.out.below HB4.out
  have d1 := h1.d1
  have hl2 := h1.lt.2
  clear hb h1 HB3 b0 b1 b2 b3 b4 hl1
  go_wp2_with fail
  refine (twaiting_none t w4).mono ?_
  rintro e w5 ⟨rfl, hb⟩
  have HB5 := Lib.hid (HB4.out.trans (hb.mono HB4.out.size))
  have hV : waitV none = .tuple #[Pa.Pt.v ⟨0, 0, 0, 0, 0⟩, Ws.wv (0, 0, false, false), .bool false] := rfl
  rw [hV]
  clear hb HB4 d1 hV hl2
  have hn6 : (((w5.alloc (.cells #[.int .i64 0, .int .i64 0, .int .i64 0, .int .i64 0, .int .i64 0] 30)).alloc (.cells #[.int .i64 0, .int .i64 0, .bool false, .bool false] 47)).alloc (.cells #[.int .i64 0] 3)).cell? ⟨w5.heap.size + 1 + 1, 0, none⟩ = some (.int .i64 0) := by simp [go_sem]
  have hb6 : Below w5.heap.size w5 (((w5.alloc (.cells #[.int .i64 0, .int .i64 0, .int .i64 0, .int .i64 0, .int .i64 0] 30)).alloc (.cells #[.int .i64 0, .int .i64 0, .bool false, .bool false] 47)).alloc (.cells #[.int .i64 0] 3)) :=
    (((Below.refl _ _).alloc (Nat.le_refl _) _).alloc (by simp) _).alloc (by simp; omega) _
  have HB6 := Lib.hid (HB5.out.trans (hb6.mono HB5.out.size))
  clear hb6 HB5
  go_wp2_with fail
  generalize ((w5.alloc (.cells #[.int .i64 0, .int .i64 0, .int .i64 0, .int .i64 0, .int .i64 0] 30)).alloc (.cells #[.int .i64 0, .int .i64 0, .bool false, .bool false] 47)).alloc (.cells #[.int .i64 0] 3) = w6 at *
  generalize w5.heap.size + 1 + 1 = N at *
  have hN6 := cell_lt hn6
  simp only at hN6
  refine (tpaths_none w6).mono ?_
  rintro e w7 ⟨B, pv, rfl, hbx, hrow, hb7, hB⟩
  have HTl := Lib.hid (vals_tells hbx hrow (by simp))
  have HLt := Lib.hid (show ∀ k, OfRow B pv k → k < w7.heap.size from fun k hk => by
    rcases hk with rfl | hk
    · exact hbx.lt
    · exact (hrow.lt k hk).2)
  have HB7 := Lib.hid (HB6.out.trans (hb7.mono HB6.out.size))
  have HN7 := Lib.hid (show w7.cell? ⟨N, 0, none⟩ = some (.int .i64 0) ∧ N < w7.heap.size from ⟨(hb7.cell (p := ⟨N, 0, none⟩) hN6).trans hn6, Nat.lt_of_lt_of_le hN6 hb7.size⟩)
  have hW7 : w.heap.size ≤ w7.heap.size := Nat.le_trans HX.out.size HB7.out.size
  clear hbx hrow hb7 hB hn6 hN6 HB6
  go_wp2_with fail
  refine (wpIn_wide (n := 9)).1 ?_
  refine wp_range (α := Pa.Pt) (encs := encP) (xs := []) (S := OfRow B pv) rfl (enters_of Tryz.func96 (by kernel_rfl) rfl) HTl.out HLt.out (fun _ => rfl)
    (fun _ X => Below w7.heap.size w7 X) (fun _ _ _ => False) (fun _ _ _ _ => True) ?hI ?hIx ?hA (Below.refl _ _) ?assign ?body ?done ?stop
  case hI => exact fun _ => Abides.below (Nat.le_refl _) (Nat.le_refl _)
  case hIx => exact fun _ _ _ _ h _ => h
  case hA => exact fun _ _ _ _ _ h _ => h
  case assign =>
    rintro l pre q X hi
    clear hi
    obtain ⟨qa, qb, qc, qd, qe⟩ := q
    gi_wp2
    first | exact ⟨KeepsFrom.refl _ _, Keeps.refl _ _⟩ | exact ⟨KeepsFrom.refl _ _, Keeps.refl _ _, trivial⟩
  case body =>
    rintro l pre q post a' X hx _
    simp at hx
  case stop =>
    rintro D c pre post X _ _ h _
    exact h.elim
  case done =>
    rintro D X hDD hf hd
    have HD := Lib.hid (And.intro hd (show D < X.heap.size from (Array.getElem?_eq_some_iff.1 hd).1))
    have HBX := Lib.hid (HB7.out.trans (hf.mono HB7.out.size))
    have HNX := Lib.hid (show X.cell? ⟨N, 0, none⟩ = some (.int .i64 0) ∧ N < X.heap.size from ⟨(hf.cell (p := ⟨N, 0, none⟩) HN7.out.2).trans HN7.out.1, Nat.lt_of_lt_of_le HN7.out.2 hf.size⟩)
    have hDw : w.heap.size ≤ D := Nat.le_trans hW7 hDD
    clear hf hd HTl HLt HN7 HB7 hDD
    dsimp only [Exit.inBlock, Exit.then]
    rename_i hK0
    refine hK0 _ _ ?_
    clear hK0
    go_wp2_with fail
    refine (tfull_none X).mono ?_
    rintro e w8 ⟨rfl, hb8⟩
    have HB8 := Lib.hid hb8
    have hn8 := (hb8.cell (p := ⟨N, 0, none⟩) HNX.out.2).trans HNX.out.1
    have hN8 := Nat.lt_of_lt_of_le HNX.out.2 hb8.size
    have HW8 := Lib.hid (HBX.out.trans (hb8.mono HBX.out.size))
    have h1 := HP.out.below HW8.out
    have b0 := h1.p.c0
    have b1 := h1.p.c1
    have b2 := h1.p.c2
    have b3 := h1.p.c3
    have b4 := h1.p.c4
    have d1 := h1.d1
    simp only at b0 b1 b2 b3 b4
    have hl1 := h1.lt.1
    have hl2 := h1.lt.2
    have gH : Gives w8 23 #[.pointer none] (.int .i64 0) := gives_of theads_none
    have gR : Gives w8 24 #[.pointer none] (.int .i64 0) := gives_of treqs_none
    have gM : Gives w8 25 #[.pointer none, .int .i64 t, Pa.Pt.v ⟨pa, pb, pc, pd, pe⟩] (.int .i64 0) := gives_of (tmode_none t _)
    have gL : Gives w8 19 #[.pointer none, .int .i64 t] (.slice none 0 0) := gives_of (fun w => held_nil (fun W' _ => tpaths_none W'))
    have gQ : Gives w8 26 #[.pointer none, Pa.Pt.v ⟨pa, pb, pc, pd, pe⟩] (.pointer none) := gives_of (tqueue_none _)
    clear h1 hb8 HNX
    go_wp2_with fail
    refine wp_region_later w8 (by kernel_rfl) (by kernel_rfl) (Below.refl _ _) ?_
    repeat (go_big_quiet_step (((first | go_at_call 23 | go_at_call 24 | go_at_call 25 | go_at_call 19 | go_at_call 26); exact Gives.later (by with_reducible assumption))))
    refine wpQuiet_nil ?_
    intro w9 hw9
    have hb9 := in_later hw9
    have HB9 := Lib.hid (HB8.out.trans (hb9.mono HB8.out.size))
    have HW9 := Lib.hid (HW8.out.trans (hb9.mono HW8.out.size))
    clear hw9 hb9 gH gR gM gL gQ HB8 HW8 hn8 hN8 b0 b1 b2 b3 b4 d1 hl1 hl2
    go_wp2_with fail
    have HT9 := Lib.hid (HT.out.later HW9.out)
    refine (ot_new 9 9 (Below.refl w9.heap.size w9) HT9.out.size).mono ?_
    rintro e w10 ⟨b, rfl, h⟩
    have e1 : clamp 9 256 = 9 := by decide
    have e2 : ((clamp 9 1024 : Nat) : Int) = 9 := by decide
    rw [e1, e2] at h
    clear e1 e2
    have h1 := HP.out.below (HW9.out.trans (h.bel.mono HW9.out.size))
    have b0 := h1.p.c0
    have b1 := h1.p.c1
    have b2 := h1.p.c2
    have b3 := h1.p.c3
    have b4 := h1.p.c4
    have d1 := h1.d1
    have d2 := h1.d2
    simp only at b0 b1 b2 b3 b4
    have hl1 := h1.lt.1
    have hl2 := h1.lt.2
    obtain ⟨Y, hY⟩ : ∃ Y, askT 9 9 0 0 (fun _ => ([], [])) t ⟨pa, pb, pc, pd, pe⟩ m 0 = Y := ⟨_, rfl⟩
    have HYc := Lib.hid (none_ask t m ⟨pa, pb, pc, pd, pe⟩)
    have HA1 := Lib.hid (h.ask nil_stays HT9.out (by omega) t m 0 ⟨pa, pb, pc, pd, pe⟩ hY)
    rw [hY] at HYc
    clear h h1 hY
    go_wp2_with fail
    refine HA1.out.mono ?_
    rintro e w11 ⟨rfl, u', t', h, -⟩
    have h1 := HP.out.below (HW9.out.trans (h.bel.mono HW9.out.size))
    have b0 := h1.p.c0
    have b1 := h1.p.c1
    have b2 := h1.p.c2
    have b3 := h1.p.c3
    have b4 := h1.p.c4
    have d1 := h1.d1
    have d2 := h1.d2
    simp only at b0 b1 b2 b3 b4
    have hl1 := h1.lt.1
    have hl2 := h1.lt.2
    have HO := Lib.hid h
    obtain ⟨T, B0, k1, k2, -⟩ := h.is
    have HQ := Lib.hid (k1.queue (by omega) ⟨pa, pb, pc, pd, pe⟩)
    rw [upC_same] at HQ
    clear h h1 k1 k2 HA1 d2
    go_wp2_with fail
    refine HQ.out.mono ?_
    rintro e w12 ⟨hb12, hor⟩
    have HB12 := Lib.hid hb12
    have H12 := Lib.hid (HO.out.below nil_stays hb12)
    clear hb12 HQ b0 b1 b2 b3 b4 d1 hl1 hl2
    rcases hor with ⟨hz, rfl⟩ | ⟨hz, Q, A1, q1, A2, q2, rfl, hq, hQ, -, -⟩
    · have hu : u' = 0 := by
        obtain ⟨T, B0, k1, -⟩ := H12.out.is
        have hC : upC (fun _ => (([], []) : Cx)) ⟨pa, pb, pc, pd, pe⟩ Y.2.2 = fun _ => ([], []) := by rw [szC_zero hz]; exact upC_id rfl
        rw [hC] at k1
        exact (k1.count (ps := []) List.nodup_nil (fun q => by simp [szC])).1
      subst hu
      have HHe := Lib.hid (H12.out.heads nil_stays)
      clear hz
      go_wp2_with fail
      refine HHe.out.mono ?_
      rintro e w13 ⟨rfl, h13⟩
      have hb13 := HB9.out.trans (h13.bel.mono HB9.out.size)
      have hd' := (hb13.block D HD.out.2).trans HD.out.1
      have HW13 := Lib.hid (HX.out.trans ((HW9.out.trans (h13.bel.mono HW9.out.size)).mono HX.out.size))
      clear h13 HHe hb13
      go_wp2_with fail
      refine ⟨by simp, .inl ⟨_, _, rfl, run_takeDeferred hd', ?_⟩⟩
      have ht := Turn.put (B := w.heap.size) (.deferred none) hDw hd' rfl
      exact ⟨_, results_tmp rfl _ _ _, rfl, ht.below HW13.out (Nat.le_refl _) (Nat.le_refl _)⟩
    · rcases HYc.out with hy | ⟨kk, hkk, hy⟩
      · rw [hy] at hz
        exact absurd hz (by simp [szC])
      · rw [hy] at hq H12 HO
        simp only at hq
        have h1 := HP.out.below (HW9.out.trans (H12.out.bel.mono HW9.out.size))
        have b0 := h1.p.c0
        have b1 := h1.p.c1
        have b2 := h1.p.c2
        have b3 := h1.p.c3
        have b4 := h1.p.c4
        have d1 := h1.d1
        have d2 := h1.d2
        simp only at b0 b1 b2 b3 b4
        have hl1 := h1.lt.1
        have hl2 := h1.lt.2
        have HQq := Lib.hid hq
        have HRl := Lib.hid (release_any (HT9.out.later H12.out.bel) hq (by simp) List.Pairwise.nil t)
        clear h1 hz hq d2
        go_wp2_with fail
        refine HRl.out.mono ?_
        rintro e w13 ⟨E, f2, rfl, -, -, -, ho13⟩
        have hb13 : Below w11.heap.size w11 w13 := HB12.out.trans (ho13.below (fun k hk => by rw [hk]; exact hQ) HB12.out.size)
        have h13 := HO.out.below nil_stays hb13
        have H13 := Lib.hid h13
        have h1 := HP.out.below (HW9.out.trans (h13.bel.mono HW9.out.size))
        have b0 := h1.p.c0
        have b1 := h1.p.c1
        have b2 := h1.p.c2
        have b3 := h1.p.c3
        have b4 := h1.p.c4
        have d1 := h1.d1
        have d2 := h1.d2
        simp only at b0 b1 b2 b3 b4
        have hl1 := h1.lt.1
        have hl2 := h1.lt.2
        have HMo := Lib.hid (show Calls Tryz.prog 25 #[tp b, .int .i64 t, Pa.Pt.v ⟨pa, pb, pc, pd, pe⟩] w13 fun e w' => e = .returned (.int .i64 (kk : Int)) ∧ Below w13.heap.size w13 w' from by
          obtain ⟨T, B0, k1, -⟩ := h13.is
          have := k1.mode (by omega) t ⟨pa, pb, pc, pd, pe⟩
          rw [upC_same] at this
          rw [show Hs.fst t (([(t, (kk : Int))], []) : Cx).1 = (kk : Int) by simp [Hs.fst]] at this
          exact this)
        clear h1 h13 hb13 ho13 HRl d2
        go_wp2_with fail
        refine HMo.out.mono ?_
        rintro e w14 ⟨rfl, hb14⟩
        have h14 := H13.out.below nil_stays hb14
        have H14 := Lib.hid h14
        have hkk' : ((kk : Int) == 0) = false := by simp; omega
        have h1 := HP.out.below (HW9.out.trans (h14.bel.mono HW9.out.size))
        have b0 := h1.p.c0
        have b1 := h1.p.c1
        have b2 := h1.p.c2
        have b3 := h1.p.c3
        have b4 := h1.p.c4
        have d1 := h1.d1
        have d2 := h1.d2
        simp only at b0 b1 b2 b3 b4
        have hl1 := h1.lt.1
        have hl2 := h1.lt.2
        have HQ2 := Lib.hid (show Calls Tryz.prog 26 #[tp b, Pa.Pt.v ⟨pa, pb, pc, pd, pe⟩] w14 (Cpy w14 ([(t, (kk : Int))], [])) from by
          obtain ⟨T, B0, k1, -⟩ := h14.is
          have := k1.queue (by omega) ⟨pa, pb, pc, pd, pe⟩
          rw [upC_same] at this
          exact this)
        clear h1 h14 hb14 HMo d2
        go_wp2_with fail
        refine HQ2.out.mono ?_
        rintro e w15 ⟨hb15, ⟨hz, -⟩ | ⟨-, Q2, E1, f3, E2, f4, rfl, hq2, -⟩⟩
        · exact absurd hz (by simp [szC])
        · have HSz := Lib.hid (size_any hq2.its (by simp) (by simp))
          have H15 := Lib.hid (H14.out.below nil_stays hb15)
          clear hb15 hq2 HQ2 b0 b1 b2 b3 b4 d1 hl1 hl2
          go_wp2_with fail
          refine HSz.out.mono ?_
          rintro e w16 ⟨rfl, hb16⟩
          have h16 := H15.out.below nil_stays hb16
          have hb17 := HB9.out.trans (h16.bel.mono HB9.out.size)
          have hd' := (hb17.block D HD.out.2).trans HD.out.1
          have HW16 := Lib.hid (HX.out.trans ((HW9.out.trans (h16.bel.mono HW9.out.size)).mono HX.out.size))
          clear h16 HSz hb17 hb16
          go_wp2_with fail
          refine ⟨by simp, .inl ⟨_, _, rfl, run_takeDeferred hd', ?_⟩⟩
          have ht := Turn.put (B := w.heap.size) (.deferred none) hDw hd' rfl
          exact ⟨_, results_tmp rfl _ _ _, by simp; omega, ht.below HW16.out (Nat.le_refl _) (Nat.le_refl _)⟩
end Go.Proofs.YtmolohncllcgbaaGreatDoor
