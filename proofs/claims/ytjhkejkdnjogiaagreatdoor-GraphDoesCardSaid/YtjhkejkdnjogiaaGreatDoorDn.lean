/- A table and the document's, to which the same things were done. -/
import Derived.Test.YtjhkejkdnjogiaaGreatDoorBo
namespace Go.Proofs.YtjhkejkdnjogiaaGreatDoor
open Go Go.RowKit Go.Shelf
set_option maxRecDepth 100000

section
variable {w W W' w1 w2 W1 : World} {b t m c : Nat} {mr : Int} {C C' : Pa.Pt → Cx} {es es' : List Nd} {K : (Nat → Prop) → World → Prop} {T : Nat → Prop}
theorem Du.size (h : Du w W b t m mr c C es K) (p : Pa.Pt) : (C p).1.length + (C p).2.length ≤ c := by
  obtain ⟨T, B0, u, r, K0, A, D, cc, h1, -⟩ := h.is
  have := h1.size p
  have := h1.bounds.2.2.1
  omega
theorem du_new (h1 : Below w.heap.size w w1) (hta : Ta w2 b T m mr 0 (fun _ => ([], [])) w1.heap.size 0 0) (h2 : Below w1.heap.size w1 w2) (h3 : Below w2.heap.size w2 W1) :
    Du w (W1.alloc (.cells #[.slice none 0 0, .int .i64 (m : Int), .int .i64 mr] 40)) b W1.heap.size m mr 0 (fun _ => ([], [])) [] Nil := by
  have hx := box_below W1 (.cells #[.slice none 0 0, .int .i64 (m : Int), .int .i64 mr] 40)
  have hd := Rt.di_new W1 m mr
  have z1 := h1.size
  have z2 := h2.size
  have z3 := h3.size
  have zx : (W1.alloc (.cells #[.slice none 0 0, .int .i64 (m : Int), .int .i64 mr] 40)).heap.size = W1.heap.size + 1 := by simp
  refine ⟨⟨T, w1.heap.size, 0, 0, W1.heap.size, none, fun k => T k ∨ k = W1.heap.size, 0, (hta.below h3).below hx, z1, ⟨hd.blk, hd.rd, (by simp), hd.one, .inr rfl, (fun _ h => by cases h), (by simp), (fun k hk => ?_), (fun _ h => by cases h), (by simp), Nat.le_refl _, (by simp)⟩, (by omega), (fun k hk => .inl hk), (fun k hk hT => ?_), trivial⟩, ((h1.trans (h2.mono z1)).trans (h3.mono (by omega))).trans (hx.mono (by omega))⟩
  · rcases hk with q | q
    · have := (hta.lt q).2; omega
    · omega
  · have := (hta.lt hT).2
    rcases hk with q | ⟨a, q, -⟩ | ⟨e, q, -⟩
    · omega
    · cases q
    · cases q
end
set_option maxHeartbeats 16000000 in
set_option maxRecDepth 1000000 in
theorem done_any (hd rq : Int) (A : Option Addr) (n c : Nat) (g : Nat → Dd) (w W : World) (ht : TabG w) (hn : n ≤ 60) (hi : InD w A n g) (hb0 : Below w.heap.size w W) :
    Calls Tryz.prog 7 #[.int .i64 hd, .int .i64 rq, .slice A n c] W fun e w' => ∃ b t C es, e = .returned (.tuple #[tp b, qp t]) ∧ Du w w' b t (clamp hd 256) ((clamp rq 1024 : Nat) : Int) n C es Nil ∧ Rt.Rel C es := by
  have HT := Lib.hid ht
  have D := Lib.hid hi
  have HB1 := Lib.hid hb0
  have HN := Lib.hid (tnew_any hd rq W (Nat.lt_of_lt_of_le ht.size hb0.size))
  clear ht hi hb0
  go_enter Tryz.func7, Tryz.ntmps7
  go_wp2_with fail
  refine HN.out.mono ?_
  rintro e w2 ⟨b, T, rfl, hta, hb2⟩
  have HTa := Lib.hid hta
  have HB2 := Lib.hid hb2
  have HM := Lib.hid (Rt.new_any hd rq w2)
  clear HN hta hb2
  go_wp2_with fail
  refine HM.out.mono ?_
  rintro e w3 ⟨W1, hb3, rfl, rfl⟩
  have H0 := Lib.hid (du_new HB1.out HTa.out HB2.out hb3)
  have hm256 : clamp hd 256 ≤ 256 := clamp_le _ _
  clear HM HTa HB1 HB2 hb3
  generalize W1.alloc (.cells #[.slice none 0 0, .int .i64 ((clamp hd 256 : Nat) : Int), .int .i64 ((clamp rq 1024 : Nat) : Int)] 40) = w4 at *
  generalize W1.heap.size = t at *
  generalize hmm : clamp hd 256 = m at *
  generalize hmr : ((clamp rq 1024 : Nat) : Int) = mr at *
  have HMm := Lib.hid hmm
  have HMr := Lib.hid hmr
  clear hmm hmr
  go_wp2_with fail
  go_loopw [20] (fun v wr => ∃ k : Nat, k ≤ n ∧ v = .int .i64 k ∧ ∃ C es, Du w wr b t m mr k C es Nil ∧ Rt.Rel C es) (fun v _ => n - (intOf v).toNat)
  case atStart => exact ⟨0, by omega, rfl, _, _, H0.out, Rt.Rel.nil⟩
  case round =>
    obtain ⟨wM, rfl⟩ : ∃ wM, wM = wr := ⟨_, rfl⟩
    obtain ⟨k, hk, rfl, C, es, ho, hR⟩ := hrel
    have HD0 := Lib.hid ho
    have R := Lib.hid hR
    clear ho hR H0
    by_cases hlt : k < n
    · obtain ⟨ad, rfl, ⟨c0, c1, c2, c3, c4, c5, c6, c7, c8⟩⟩ := D.out.at HD0.out.bel hlt
      have HS0 := Lib.hid (HD0.out.box nil_stays (g k) 66)
      have HF := Lib.hid (HD0.out.facts R.out)
      clear HD0
      generalize g k = gk at c0 c1 c2 c3 c4 c5 c6 c7 c8 HS0
      obtain ⟨⟨ga, gb, gc, gd, ge⟩, gk, gt, gm, gf⟩ := gk
      simp only at c0 c1 c2 c3 c4 c5 c6 c7 c8
      have HSt := Lib.hid (and_stays nil_stays (box_stays wM.heap.size ⟨⟨ga, gb, gc, gd, ge⟩, gk, gt, gm, gf⟩))
      by_cases hk3 : gk = 3
      · subst hk3
        obtain ⟨X, hX⟩ : ∃ X, relT rel C gt ⟨ga, gb, gc, gd, ge⟩ = X := ⟨_, rfl⟩
        have HC1 := Lib.hid (HS0.out.trelease HSt.out HT.out (by omega) gt ⟨ga, gb, gc, gd, ge⟩)
        have HC2 := Lib.hid (fun (W' : World) (h : Du w W' b t m mr (k + 1) (upC C ⟨ga, gb, gc, gd, ge⟩ (X.hs, X.ws)) es (fun U W' => Nil U W' ∧ Box wM.heap.size ⟨⟨ga, gb, gc, gd, ge⟩, 3, gt, gm, gf⟩ U W')) => h.drelease HSt.out R.out (by obtain ⟨f1, f2, f3, f4, f5, f6⟩ := HF.out; exact ⟨f1, by omega, f3, f4, f5, f6⟩) gt ⟨ga, gb, gc, gd, ge⟩)
        rw [hX] at HC1 HC2
        unfold TRel at HC1
        unfold DRel at HC2
        clear hX
        obtain ⟨er, to, ih, iw⟩ := X
        simp only at HC1 HC2
        obtain ⟨n7, hn7⟩ : ∃ n, to.length = n := ⟨_, rfl⟩
        rw [hn7] at HC1 HC2
        clear hn7
        go_wp2_with fail
        refine HC1.out.mono ?_
        rintro e w6 ⟨A6, k6, rfl, -, h6⟩
        have hx := h6.boxed
        have b0 := hx.c0
        have b1 := hx.c1
        have b2 := hx.c2
        have b3 := hx.c3
        have b4 := hx.c4
        have b6 := hx.c6
        simp only at b0 b1 b2 b3 b4 b6
        have hl := hx.lt
        clear hx
        have HC2' := Lib.hid (HC2.out _ h6)
        clear HC1 HC2 HS0 h6 c0 c1 c2 c3 c4 c5 c6 c7 c8
        generalize wM.heap.size = M at *
        go_wp2_with fail
        refine HC2'.out.mono ?_
        rintro e w7 ⟨A7, k7, rfl, -, ⟨es7, h7, hR7⟩, -⟩
        have H7 := Lib.hid (h7.mono fun _ _ h => h.1)
        have RZ := Lib.hid hR7
        clear HC2' h7 hR7 R HF b0 b1 b2 b3 b4 b6 hl
        go_wp2_with fail
        go_roundw
        case rel => exact ⟨k + 1, by omega, by go_num, _, _, H7.out, RZ.out⟩
        case measure => simp [intOf]; omega
      · have hk3b : (gk == 3) = false := by simpa using hk3
        by_cases hk4 : gk = 4
        · subst hk4
          clear hk3
          obtain ⟨X, hX⟩ : ∃ X, relT can C gt ⟨ga, gb, gc, gd, ge⟩ = X := ⟨_, rfl⟩
          have HC1 := Lib.hid (HS0.out.tcancel HSt.out HT.out (by omega) gt ⟨ga, gb, gc, gd, ge⟩)
          have HC2 := Lib.hid (fun (W' : World) (h : Du w W' b t m mr (k + 1) (upC C ⟨ga, gb, gc, gd, ge⟩ (X.hs, X.ws)) es (fun U W' => Nil U W' ∧ Box wM.heap.size ⟨⟨ga, gb, gc, gd, ge⟩, 4, gt, gm, gf⟩ U W')) => h.dcancel HSt.out R.out (by obtain ⟨f1, f2, f3, f4, f5, f6⟩ := HF.out; exact ⟨f1, by omega, f3, f4, f5, f6⟩) gt ⟨ga, gb, gc, gd, ge⟩)
          rw [hX] at HC1 HC2
          unfold TRel at HC1
          unfold DRel at HC2
          clear hX
          obtain ⟨er, to, ih, iw⟩ := X
          simp only at HC1 HC2
          obtain ⟨n7, hn7⟩ : ∃ n, to.length = n := ⟨_, rfl⟩
          rw [hn7] at HC1 HC2
          clear hn7
          go_wp2_with fail
          refine HC1.out.mono ?_
          rintro e w6 ⟨A6, k6, rfl, -, h6⟩
          have hx := h6.boxed
          have b0 := hx.c0
          have b1 := hx.c1
          have b2 := hx.c2
          have b3 := hx.c3
          have b4 := hx.c4
          have b6 := hx.c6
          simp only at b0 b1 b2 b3 b4 b6
          have hl := hx.lt
          clear hx
          have HC2' := Lib.hid (HC2.out _ h6)
          clear HC1 HC2 HS0 h6 c0 c1 c2 c3 c4 c5 c6 c7 c8
          generalize wM.heap.size = M at *
          go_wp2_with fail
          refine HC2'.out.mono ?_
          rintro e w7 ⟨A7, k7, rfl, -, ⟨es7, h7, hR7⟩, -⟩
          have H7 := Lib.hid (h7.mono fun _ _ h => h.1)
          have RZ := Lib.hid hR7
          clear HC2' h7 hR7 R HF b0 b1 b2 b3 b4 b6 hl
          go_wp2_with fail
          go_roundw
          case rel => exact ⟨k + 1, by omega, by go_num, _, _, H7.out, RZ.out⟩
          case measure => simp [intOf]; omega
        · have hk4b : (gk == 4) = false := by simpa using hk4
          obtain ⟨Y, hY⟩ : ∃ Y, askT m mr es.length (Rt.totE es) C gt ⟨ga, gb, gc, gd, ge⟩ gm gf = Y := ⟨_, rfl⟩
          have HC1 := Lib.hid (HS0.out.task HSt.out R.out HT.out (by omega) gt gm gf ⟨ga, gb, gc, gd, ge⟩ hY)
          have HC2 := Lib.hid (fun (W' : World) (h : Du w W' b t m mr (k + 1) (upC C ⟨ga, gb, gc, gd, ge⟩ Y.2.2) es (fun U W' => Nil U W' ∧ Box wM.heap.size ⟨⟨ga, gb, gc, gd, ge⟩, gk, gt, gm, gf⟩ U W')) => h.dask HSt.out R.out (by obtain ⟨f1, f2, f3, f4, f5, f6⟩ := HF.out; exact ⟨f1, by omega, f3, f4, f5, f6⟩) gt gm gf ⟨ga, gb, gc, gd, ge⟩ hY)
          clear hY
          obtain ⟨y1, y2, yc⟩ := Y
          simp only at HC1 HC2
          go_wp2_with fail
          refine HC1.out.mono ?_
          rintro e w6 ⟨rfl, h6⟩
          have hx := h6.boxed
          have b0 := hx.c0
          have b1 := hx.c1
          have b2 := hx.c2
          have b3 := hx.c3
          have b4 := hx.c4
          have b6 := hx.c6
          have b7 := hx.c7
          have b8 := hx.c8
          simp only at b0 b1 b2 b3 b4 b6 b7 b8
          have hl := hx.lt
          clear hx
          have HC2' := Lib.hid (HC2.out _ h6)
          clear HC1 HC2 HS0 h6 c0 c1 c2 c3 c4 c5 c6 c7 c8
          generalize wM.heap.size = M at *
          go_wp2_with fail
          refine HC2'.out.mono ?_
          rintro e w7 ⟨rfl, es7, h7, hR7⟩
          have H7 := Lib.hid (h7.mono fun _ _ h => h.1)
          have RZ := Lib.hid hR7
          clear HC2' h7 hR7 R HF b0 b1 b2 b3 b4 b6 b7 b8 hl
          go_wp2_with fail
          go_roundw
          case rel => exact ⟨k + 1, by omega, by go_num, _, _, H7.out, RZ.out⟩
          case measure => simp [intOf]; omega
    · obtain rfl : k = n := by omega
      go_wp2_with fail
      go_ret2
      exact ⟨b, t, C, es, rfl, by rw [HMm.out, HMr.out]; exact HD0.out, R.out⟩
end Go.Proofs.YtjhkejkdnjogiaaGreatDoor
