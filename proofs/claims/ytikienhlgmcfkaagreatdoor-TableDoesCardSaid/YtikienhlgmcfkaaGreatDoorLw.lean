/- The walk of the law that whatever is asked, let go and cancelled anywhere is what the document says. -/
import Derived.Test.YtikienhlgmcfkaaGreatDoorLr
namespace Go.Proofs.YtikienhlgmcfkaaGreatDoor
open Go Go.RowKit Go.Shelf
set_option maxRecDepth 100000

section
variable {w W W' w1 w2 W1 : World} {b t m c : Nat} {mr : Int} {C C' : Pa.Pt → Cx} {es es' : List Nd} {K : (Nat → Prop) → World → Prop} {T : Nat → Prop}
theorem lksE_len (tx : Int) (es : List Nd) : (Rt.lksE tx es).length ≤ es.length := by
  have := Rt.lksE_le (tx := tx) (es := es) es.length
  rwa [List.take_length] at this
theorem Du.twait (h : Du w W b t m mr c C es K) (hm : m ≤ 1000) (hc : c ≤ 400) (R : Rt.Rel C es) (hn : es.length ≤ 300) (tx : Int) : Calls Tryz.prog 15 #[tp b, .int .i64 tx] W fun e w' => e = .returned (waitV (Rt.hitE tx es)) ∧ Below W.heap.size W w' := by
  obtain ⟨T, B0, u, r, K0, A, D, cc, h1, -⟩ := h.is
  exact h1.wait hm hc R (by omega) tx
theorem Du.dwait (h : Du w W b t m mr c C es K) (hn : es.length ≤ 300) (hs : Rt.totE es ≤ 300) (tx : Int) : Calls Tryz.prog 16 #[qp t, .int .i64 tx] W fun e w' => e = .returned (waitV (Rt.hitE tx es)) ∧ Below W.heap.size W w' := by
  obtain ⟨T, B0, u, r, K0, A, D, cc, h1, h2, h3, -⟩ := h.is
  exact h3.waiting hn hs tx
theorem Du.alike (h : Du w W b t m mr c C es K) (hm : m ≤ 1000) (hc : c ≤ 400) (R : Rt.Rel C es) (hn : es.length ≤ 300) (hs : Rt.totE es ≤ 300) (hb : Below W.heap.size W W') : Calls Tryz.prog 17 #[tp b, qp t] W' fun e w' => e = .returned (.bool true) ∧ Below W.heap.size W w' := by
  obtain ⟨T, B0, u, r, K0, A, D, cc, h1, h2, h3, -⟩ := h.is
  obtain ⟨e1, e2⟩ := h1.of R
  exact (alike_any (h1.below hb) hm hc (h3.below hb) R e1 e2 hn hs).mono fun _ _ ⟨he, hb'⟩ => ⟨he, hb.trans (hb'.mono hb.size)⟩
theorem Du.theld (h : Du w W b t m mr c C es K) (hm : m ≤ 1000) (hc : c ≤ 400) (R : Rt.Rel C es) (hn : es.length ≤ 300) (tx : Int) (hb : Below W.heap.size W W') : Calls Tryz.prog 19 #[tp b, .int .i64 tx] W' (HeldOf W' (Rt.lksE tx es)) := by
  obtain ⟨T, B0, u, r, K0, A, D, cc, h1, -⟩ := h.is
  rw [← R.lks tx]
  refine (h1.below hb).held hm hc tx ?_ (fun p => by rw [R.mem, List.mem_map]) (by rw [List.length_map]; omega)
  rw [List.pairwise_map]
  exact R.srt
theorem Du.dheld (h : Du w W b t m mr c C es K) (hn : es.length ≤ 300) (hs : Rt.totE es ≤ 300) (tx : Int) (hb : Below W.heap.size W W') : Calls Tryz.prog 20 #[qp t, .int .i64 tx] W' (HeldOf W' (Rt.lksE tx es)) := by
  obtain ⟨T, B0, u, r, K0, A, D, cc, h1, h2, h3, -⟩ := h.is
  exact (h3.below hb).held hn hs tx
theorem Du.size (h : Du w W b t m mr c C es K) (p : Pa.Pt) : (C p).1.length + (C p).2.length ≤ c := by
  obtain ⟨T, B0, u, r, K0, A, D, cc, h1, -⟩ := h.is
  have := h1.size p
  have := h1.bounds.2.2.1
  omega
theorem wait_is (o : Option (Pa.Pt × Ws.Wt)) : ∃ (p : Pa.Pt) (x : Ws.Wt) (bb : Bool), waitV o = .tuple #[p.v, Ws.wv x, .bool bb] := by
  cases o with
  | none => exact ⟨_, _, _, rfl⟩
  | some y => exact ⟨_, _, _, rfl⟩
theorem rel_told_len (tx : Int) (H : List Hs.Hd) (L : List Ws.Wt) : (rel tx H L).told.length ≤ L.length := by
  unfold rel
  split
  · simp
  · have h1 := congrArg List.length (swp_split (Ws.wout tx L) (Hs.wout tx H))
    have h3 : (Ws.wout tx L).length ≤ L.length := List.length_filter_le _ _
    rw [List.length_append] at h1
    show (swp _ _).2.2.length ≤ _
    omega
theorem can_told_len (tx : Int) (H : List Hs.Hd) (L : List Ws.Wt) : (can tx H L).told.length ≤ L.length := by
  unfold can
  split
  · have h1 := congrArg List.length (swp_split (Ws.wout tx L) H)
    have h3 : (Ws.wout tx L).length ≤ L.length := List.length_filter_le _ _
    rw [List.length_append] at h1
    show (swp _ _).2.2.length ≤ _
    omega
  · simp
theorem relT_rel_len (C : Pa.Pt → Cx) (tx : Int) (p : Pa.Pt) : (relT rel C tx p).told.length ≤ (C p).2.length := by
  unfold relT
  split
  · simp
  · exact rel_told_len _ _ _
theorem relT_can_len (C : Pa.Pt → Cx) (tx : Int) (p : Pa.Pt) : (relT can C tx p).told.length ≤ (C p).2.length := by
  unfold relT
  split
  · simp
  · exact can_told_len _ _ _
abbrev wcs (x : Ws.Wt) : Array Value := #[.int .i64 x.1, .int .i64 x.2.1, .bool x.2.2.1, .bool x.2.2.2]
theorem Wcx.new (w : World) (x : Ws.Wt) (t : TypeId) : Wcx (w.alloc (.cells (wcs x) t)) w.heap.size x := by
  refine ⟨?_, ?_, ?_, ?_⟩ <;> simp [go_sem]
theorem two_boxes (W : World) (p : Pa.Pt) (x : Ws.Wt) : Below W.heap.size W ((W.alloc (.cells (pcs p) 30)).alloc (.cells (wcs x) 47)) ∧ Pbx ((W.alloc (.cells (pcs p) 30)).alloc (.cells (wcs x) 47)) W.heap.size p ∧ Wcx ((W.alloc (.cells (pcs p) 30)).alloc (.cells (wcs x) 47)) (W.heap.size + 1) x := by
  have h1 := box_below W (.cells (pcs p) 30)
  have h2 := box_below (W.alloc (.cells (pcs p) 30)) (.cells (wcs x) 47)
  have h3 := Wcx.new (W.alloc (.cells (pcs p) 30)) x 47
  rw [show (W.alloc (.cells (pcs p) 30)).heap.size = W.heap.size + 1 by simp] at h3
  exact ⟨h1.trans (h2.mono h1.size), (Pbx.new W p 30).below h2, h3⟩
theorem du_new (h1 : Below w.heap.size w w1) (hta : Ta w2 b T m mr 0 (fun _ => ([], [])) w1.heap.size 0 0) (h2 : Below w1.heap.size w1 w2) (h3 : Below w2.heap.size w2 W1) :
    Du w (W1.alloc (.cells #[.slice none 0 0, .int .i64 (m : Int), .int .i64 mr] 76)) b W1.heap.size m mr 0 (fun _ => ([], [])) [] Nil := by
  have hx := box_below W1 (.cells #[.slice none 0 0, .int .i64 (m : Int), .int .i64 mr] 76)
  have hd := Rt.di_new W1 m mr
  have z1 := h1.size
  have z2 := h2.size
  have z3 := h3.size
  have zx : (W1.alloc (.cells #[.slice none 0 0, .int .i64 (m : Int), .int .i64 mr] 76)).heap.size = W1.heap.size + 1 := by simp
  refine ⟨⟨T, w1.heap.size, 0, 0, W1.heap.size, none, fun k => T k ∨ k = W1.heap.size, 0, (hta.below h3).below hx, z1, ⟨hd.blk, hd.rd, (by simp), hd.one, .inr rfl, (fun _ h => by cases h), (by simp), (fun k hk => ?_), (fun _ h => by cases h), (by simp), Nat.le_refl _, (by simp)⟩, (by omega), (fun k hk => .inl hk), (fun k hk hT => ?_), trivial⟩, ((h1.trans (h2.mono z1)).trans (h3.mono (by omega))).trans (hx.mono (by omega))⟩
  · rcases hk with q | q
    · have := (hta.lt q).2; omega
    · omega
  · have := (hta.lt hT).2
    rcases hk with q | ⟨a, q, -⟩ | ⟨e, q, -⟩
    · omega
    · cases q
    · cases q
end
theorem does_long (hd rq : Int) (A : Option Addr) (n c : Nat) (w : World) (ht : TabG w) (hm : n ≤ maxLen) (h : 60 < n) :
    Calls Tryz.prog 3 #[.int .i64 hd, .int .i64 rq, .slice A n c] w fun e w' => e = .returned (.bool true) ∧ Below w.heap.size w w' := by
  unfold maxLen at hm
  have HA := Lib.hid (awake_any w ht)
  have q1 : (60 : Int) < (n : Int) := by omega
  have q1' : decide ((60 : Int) < (n : Int)) = true := by simp; omega
  clear ht h
  go_enter Tryz.func3, Tryz.ntmps3
  go_wp2_with fail
  refine HA.out.mono ?_
  rintro e w1 ⟨rfl, hb1⟩
  go_wp2_with fail
  go_ret
  exact ⟨rfl, hb1⟩
set_option maxHeartbeats 16000000 in
set_option maxRecDepth 1000000 in
theorem does_walk (hd rq : Int) (A : Option Addr) (n c : Nat) (g : Nat → Dd) (w : World) (ht : TabG w) (hm : n ≤ maxLen) (hi : InD w A n g) :
    Calls Tryz.prog 3 #[.int .i64 hd, .int .i64 rq, .slice A n c] w fun e w' => e = .returned (.bool true) ∧ Below w.heap.size w w' := by
  by_cases h60 : 60 < n
  · exact does_long hd rq A n c w ht hm h60
  have HA := Lib.hid (awake_any w ht)
  have HT := Lib.hid ht
  have D := Lib.hid hi
  have q1 : ¬ (60 : Int) < (n : Int) := by omega
  have q1' : decide ((60 : Int) < (n : Int)) = false := by simp; omega
  clear ht hi hm
  go_enter Tryz.func3, Tryz.ntmps3
  go_wp2_with fail
  refine HA.out.mono ?_
  rintro e w1 ⟨rfl, hb1⟩
  have HN := Lib.hid (tnew_any hd rq w1 (Nat.lt_of_lt_of_le HT.out.size hb1.size))
  have HB1 := Lib.hid hb1
  clear hb1 HA
  go_wp2_with fail
  refine HN.out.mono ?_
  rintro e w2 ⟨b, T, rfl, hta, hb2⟩
  have HTa := Lib.hid hta
  have HB2 := Lib.hid hb2
  have HM := Lib.hid (Rt.new_any hd rq w2)
  clear HN hta hb2
  go_wp2_with fail
  refine HM.out.mono ?_
  rintro e w3 ⟨W1, hb3, rfl, rfl⟩
  have H0 := Lib.hid (du_new HB1.out HTa.out HB2.out hb3)
  have hm256 : clamp hd 256 ≤ 256 := clamp_le _ _
  clear HM HTa HB1 HB2 hb3
  generalize W1.alloc (.cells #[.slice none 0 0, .int .i64 ((clamp hd 256 : Nat) : Int), .int .i64 ((clamp rq 1024 : Nat) : Int)] 76) = w4 at *
  generalize W1.heap.size = t at *
  generalize clamp hd 256 = m at *
  generalize ((clamp rq 1024 : Nat) : Int) = mr at *
  go_wp2_with fail
  go_loopw [43] (fun v wr => ∃ k : Nat, k ≤ n ∧ v = .int .i64 k ∧ ∃ C es, Du w wr b t m mr k C es Nil ∧ Rt.Rel C es) (fun v _ => n - (intOf v).toNat)
  case atStart => exact ⟨0, by omega, rfl, _, _, H0.out, Rt.Rel.nil⟩
  case round =>
    obtain ⟨wM, rfl⟩ : ∃ wM, wM = wr := ⟨_, rfl⟩
    obtain ⟨k, hk, rfl, C, es, ho, hR⟩ := hrel
    have HD0 := Lib.hid ho
    have R := Lib.hid hR
    clear ho hR H0
    by_cases hlt : k < n
    · obtain ⟨ad, rfl, ⟨c0, c1, c2, c3, c4, c5, c6, c7, c8⟩⟩ := D.out.at HD0.out.bel hlt
      have HS0 := Lib.hid (HD0.out.box nil_stays (g k) 34)
      have HF := Lib.hid (HD0.out.facts R.out)
      have hsz := HD0.out.size (g k).p
      clear HD0
      generalize g k = gk at c0 c1 c2 c3 c4 c5 c6 c7 c8 HS0 hsz
      obtain ⟨⟨ga, gb, gc, gd, ge⟩, gk, gt, gm, gf⟩ := gk
      simp only at c0 c1 c2 c3 c4 c5 c6 c7 c8 hsz
      have HSt := Lib.hid (and_stays nil_stays (box_stays wM.heap.size ⟨⟨ga, gb, gc, gd, ge⟩, gk, gt, gm, gf⟩))
      by_cases hk3 : gk = 3
      · subst hk3
        obtain ⟨X, hX⟩ : ∃ X, relT rel C gt ⟨ga, gb, gc, gd, ge⟩ = X := ⟨_, rfl⟩
        have hXl : X.told.length ≤ 5000 := by
          rw [← hX]
          have := relT_rel_len C gt ⟨ga, gb, gc, gd, ge⟩
          omega
        have HC1 := Lib.hid (HS0.out.trelease HSt.out HT.out (by omega) gt ⟨ga, gb, gc, gd, ge⟩)
        have HC2 := Lib.hid (fun (W' : World) (h : Du w W' b t m mr (k + 1) (upC C ⟨ga, gb, gc, gd, ge⟩ (X.hs, X.ws)) es (fun U W' => Nil U W' ∧ Box wM.heap.size ⟨⟨ga, gb, gc, gd, ge⟩, 3, gt, gm, gf⟩ U W')) => h.drelease HSt.out R.out (by obtain ⟨f1, f2, f3, f4, f5, f6⟩ := HF.out; exact ⟨f1, by omega, f3, f4, f5, f6⟩) gt ⟨ga, gb, gc, gd, ge⟩)
        rw [hX] at HC1 HC2
        unfold TRel at HC1
        unfold DRel at HC2
        have hXu : ∀ A k c, Ws.Ls A k c X.told → Ws.Ls A k c X.told := fun _ _ _ h => h
        clear hX
        obtain ⟨er, to, ih, iw⟩ := X
        simp only at hXl HC1 HC2
        obtain ⟨n7, hn7⟩ : ∃ n, to.length = n := ⟨_, rfl⟩
        have HN7 := Lib.hid hn7
        have HXl := Lib.hid hXl
        rw [hn7] at HC1 HC2
        clear hn7 hXl hXu
        go_wp2_with fail
        refine HC1.out.mono ?_
        rintro e w6 ⟨A6, k6, rfl, hls6, h6⟩
        have hx := h6.boxed
        have b0 := hx.c0
        have b1 := hx.c1
        have b2 := hx.c2
        have b3 := hx.c3
        have b4 := hx.c4
        have b6 := hx.c6
        simp only at b0 b1 b2 b3 b4 b6
        have hl := hx.lt
        clear hx
        have HC2' := Lib.hid (HC2.out _ h6)
        have HL6 := Lib.hid hls6
        clear HC1 HC2 HS0 h6 hls6 c0 c1 c2 c3 c4 c5 c6 c7 c8
        generalize wM.heap.size = M at *
        go_wp2_with fail
        refine HC2'.out.mono ?_
        rintro e w7 ⟨A7, k7, rfl, hls7, ⟨es7, h7, hR7⟩, hn⟩
        have HSW := Lib.hid (Ws.same_any (HL6.out.nb hn) hls7 HXl.out)
        rw [HN7.out] at HSW
        have H7 := Lib.hid h7
        have RZ := Lib.hid hR7
        clear HC2' HL6 h7 hls7 hR7 hn R HF b0 b1 b2 b3 b4 b6 hl
        go_wp2_with fail
        refine HSW.out.mono ?_
        rintro e w8 ⟨rfl, hb8⟩
        have HD := Lib.hid (H7.out.below HSt.out hb8)
        clear HSW H7 hb8 HN7 HXl
        obtain ⟨z1, z2, z3, z4, z5, z6⟩ := HD.out.facts RZ.out
        have HTW := Lib.hid (HD.out.twait (by omega) (by omega) RZ.out (by omega) gt)
        have HDW := Lib.hid (fun (W' : World) (h : Du w W' b t m mr (k + 1) (upC C ⟨ga, gb, gc, gd, ge⟩ (ih, iw)) es7 (fun U W' => Nil U W' ∧ Box M ⟨⟨ga, gb, gc, gd, ge⟩, 3, gt, gm, gf⟩ U W')) => h.dwait (by omega) (by omega) gt)
        have HAl := Lib.hid (fun (W' : World) (h : Du w W' b t m mr (k + 1) (upC C ⟨ga, gb, gc, gd, ge⟩ (ih, iw)) es7 (fun U W' => Nil U W' ∧ Box M ⟨⟨ga, gb, gc, gd, ge⟩, 3, gt, gm, gf⟩ U W')) => (show ∀ w', Below W'.heap.size W' w' → Calls Tryz.prog 17 #[tp b, qp t] w' fun e w'' => e = .returned (.bool true) ∧ Below W'.heap.size W' w'' from fun w' hb => h.alike (by omega) (by omega) RZ.out (by omega) (by omega) hb))
        have HHt := Lib.hid (fun (W' : World) (h : Du w W' b t m mr (k + 1) (upC C ⟨ga, gb, gc, gd, ge⟩ (ih, iw)) es7 (fun U W' => Nil U W' ∧ Box M ⟨⟨ga, gb, gc, gd, ge⟩, 3, gt, gm, gf⟩ U W')) => (show ∀ w', Below W'.heap.size W' w' → Calls Tryz.prog 19 #[tp b, .int .i64 gt] w' (HeldOf w' (Rt.lksE gt es7)) from fun w' hb => h.theld (by omega) (by omega) RZ.out (by omega) gt hb))
        have HHd := Lib.hid (fun (W' : World) (h : Du w W' b t m mr (k + 1) (upC C ⟨ga, gb, gc, gd, ge⟩ (ih, iw)) es7 (fun U W' => Nil U W' ∧ Box M ⟨⟨ga, gb, gc, gd, ge⟩, 3, gt, gm, gf⟩ U W')) => (show ∀ w', Below W'.heap.size W' w' → Calls Tryz.prog 20 #[qp t, .int .i64 gt] w' (HeldOf w' (Rt.lksE gt es7)) from fun w' hb => h.dheld (by omega) (by omega) gt hb))
        have hlk : (Rt.lksE gt es7).length ≤ 5000 := by have := lksE_len gt es7; omega
        clear z1 z2 z3 z4 z5 z6
        generalize Rt.lksE gt es7 = lk at *
        obtain ⟨pw, xw, bw, hwv⟩ := wait_is (Rt.hitE gt es7)
        rw [hwv] at HTW HDW
        clear hwv
        have hx := HD.out.boxed
        have b6 := hx.c6
        simp only at b6
        have hl := hx.lt
        clear hx
        go_wp2_with fail
        refine HTW.out.mono ?_
        rintro e wB ⟨rfl, hbB⟩
        have HB := Lib.hid (HD.out.below HSt.out hbB)
        clear HTW HD hbB b6 hl
        have HB2 := Lib.hid (two_boxes wB pw xw)
        have HB3 := Lib.hid (HB.out.below HSt.out HB2.out.1)
        have HDW2 := Lib.hid (HDW.out _ HB3.out)
        have hx := HB3.out.boxed
        have b6 := hx.c6
        simp only at b6
        have hl := hx.lt
        clear hx
        clear HB HDW
        obtain ⟨pw0, pw1, pw2, pw3, pw4⟩ := pw
        obtain ⟨xw0, xw1, xw2, xw3⟩ := xw
        go_wp2_with fail
        refine HDW2.out.mono ?_
        rintro e wC ⟨rfl, hbC⟩
        have HB4 := Lib.hid (HB3.out.below HSt.out hbC)
        have hP1 := HB2.out.2.1.below hbC
        have hX1 := HB2.out.2.2.below hbC
        have HB5 := Lib.hid (two_boxes wC ⟨pw0, pw1, pw2, pw3, pw4⟩ (xw0, xw1, xw2, xw3))
        have HB6 := Lib.hid (HB4.out.below HSt.out HB5.out.1)
        have HSL := Lib.hid (show SL M wB.heap.size (wB.heap.size + 1) wC.heap.size (wC.heap.size + 1) gt ⟨pw0, pw1, pw2, pw3, pw4⟩ (xw0, xw1, xw2, xw3) _ from ⟨HB6.out.boxed.c6, hP1.below HB5.out.1, HB5.out.2.1, hX1.below HB5.out.1, HB5.out.2.2⟩)
        clear HDW2 HB2 HB3 HB4 HB5 hbC hP1 hX1 b6 hl
        go_upto_region 24 with fail
        refine reg24 HSL.out hlk (HAl.out _ HB6.out) (HHt.out _ HB6.out) (HHd.out _ HB6.out) ?_
        intro t168 t169 t170 t171 t172 t173 t174 t175 t176 t177 t178 t179 t180 t181 t182 t183 t184 t185 t186 t187 t188 t189 t190 t191 t192 t193 t194 t195 t196 t197 t198 t199 t200 t201 t202 t203 wE hbE
        have HE := Lib.hid ((HB6.out.below HSt.out hbE).mono fun _ _ h => h.1)
        clear HSL HAl HHt HHd HB6 hbE hlk
        go_wp2_with fail
        go_roundw
        case rel => exact ⟨k + 1, by omega, by go_num, _, _, HE.out, RZ.out⟩
        case measure => simp [intOf]; omega
      · have hk3b : (gk == 3) = false := by simpa using hk3
        by_cases hk4 : gk = 4
        · subst hk4
          clear hk3
          obtain ⟨X, hX⟩ : ∃ X, relT can C gt ⟨ga, gb, gc, gd, ge⟩ = X := ⟨_, rfl⟩
          have hXl : X.told.length ≤ 5000 := by
            rw [← hX]
            have := relT_can_len C gt ⟨ga, gb, gc, gd, ge⟩
            omega
          have HC1 := Lib.hid (HS0.out.tcancel HSt.out HT.out (by omega) gt ⟨ga, gb, gc, gd, ge⟩)
          have HC2 := Lib.hid (fun (W' : World) (h : Du w W' b t m mr (k + 1) (upC C ⟨ga, gb, gc, gd, ge⟩ (X.hs, X.ws)) es (fun U W' => Nil U W' ∧ Box wM.heap.size ⟨⟨ga, gb, gc, gd, ge⟩, 4, gt, gm, gf⟩ U W')) => h.dcancel HSt.out R.out (by obtain ⟨f1, f2, f3, f4, f5, f6⟩ := HF.out; exact ⟨f1, by omega, f3, f4, f5, f6⟩) gt ⟨ga, gb, gc, gd, ge⟩)
          rw [hX] at HC1 HC2
          unfold TRel at HC1
          unfold DRel at HC2
          have hXu : ∀ A k c, Ws.Ls A k c X.told → Ws.Ls A k c X.told := fun _ _ _ h => h
          clear hX
          obtain ⟨er, to, ih, iw⟩ := X
          simp only at hXl HC1 HC2
          obtain ⟨n7, hn7⟩ : ∃ n, to.length = n := ⟨_, rfl⟩
          have HN7 := Lib.hid hn7
          have HXl := Lib.hid hXl
          rw [hn7] at HC1 HC2
          clear hn7 hXl hXu
          go_wp2_with fail
          refine HC1.out.mono ?_
          rintro e w6 ⟨A6, k6, rfl, hls6, h6⟩
          have hx := h6.boxed
          have b0 := hx.c0
          have b1 := hx.c1
          have b2 := hx.c2
          have b3 := hx.c3
          have b4 := hx.c4
          have b6 := hx.c6
          simp only at b0 b1 b2 b3 b4 b6
          have hl := hx.lt
          clear hx
          have HC2' := Lib.hid (HC2.out _ h6)
          have HL6 := Lib.hid hls6
          clear HC1 HC2 HS0 h6 hls6 c0 c1 c2 c3 c4 c5 c6 c7 c8
          generalize wM.heap.size = M at *
          go_wp2_with fail
          refine HC2'.out.mono ?_
          rintro e w7 ⟨A7, k7, rfl, hls7, ⟨es7, h7, hR7⟩, hn⟩
          have HSW := Lib.hid (Ws.same_any (HL6.out.nb hn) hls7 HXl.out)
          rw [HN7.out] at HSW
          have H7 := Lib.hid h7
          have RZ := Lib.hid hR7
          clear HC2' HL6 h7 hls7 hR7 hn R HF b0 b1 b2 b3 b4 b6 hl
          go_wp2_with fail
          refine HSW.out.mono ?_
          rintro e w8 ⟨rfl, hb8⟩
          have HD := Lib.hid (H7.out.below HSt.out hb8)
          clear HSW H7 hb8 HN7 HXl
          obtain ⟨z1, z2, z3, z4, z5, z6⟩ := HD.out.facts RZ.out
          have HTW := Lib.hid (HD.out.twait (by omega) (by omega) RZ.out (by omega) gt)
          have HDW := Lib.hid (fun (W' : World) (h : Du w W' b t m mr (k + 1) (upC C ⟨ga, gb, gc, gd, ge⟩ (ih, iw)) es7 (fun U W' => Nil U W' ∧ Box M ⟨⟨ga, gb, gc, gd, ge⟩, 4, gt, gm, gf⟩ U W')) => h.dwait (by omega) (by omega) gt)
          have HAl := Lib.hid (fun (W' : World) (h : Du w W' b t m mr (k + 1) (upC C ⟨ga, gb, gc, gd, ge⟩ (ih, iw)) es7 (fun U W' => Nil U W' ∧ Box M ⟨⟨ga, gb, gc, gd, ge⟩, 4, gt, gm, gf⟩ U W')) => (show ∀ w', Below W'.heap.size W' w' → Calls Tryz.prog 17 #[tp b, qp t] w' fun e w'' => e = .returned (.bool true) ∧ Below W'.heap.size W' w'' from fun w' hb => h.alike (by omega) (by omega) RZ.out (by omega) (by omega) hb))
          have HHt := Lib.hid (fun (W' : World) (h : Du w W' b t m mr (k + 1) (upC C ⟨ga, gb, gc, gd, ge⟩ (ih, iw)) es7 (fun U W' => Nil U W' ∧ Box M ⟨⟨ga, gb, gc, gd, ge⟩, 4, gt, gm, gf⟩ U W')) => (show ∀ w', Below W'.heap.size W' w' → Calls Tryz.prog 19 #[tp b, .int .i64 gt] w' (HeldOf w' (Rt.lksE gt es7)) from fun w' hb => h.theld (by omega) (by omega) RZ.out (by omega) gt hb))
          have HHd := Lib.hid (fun (W' : World) (h : Du w W' b t m mr (k + 1) (upC C ⟨ga, gb, gc, gd, ge⟩ (ih, iw)) es7 (fun U W' => Nil U W' ∧ Box M ⟨⟨ga, gb, gc, gd, ge⟩, 4, gt, gm, gf⟩ U W')) => (show ∀ w', Below W'.heap.size W' w' → Calls Tryz.prog 20 #[qp t, .int .i64 gt] w' (HeldOf w' (Rt.lksE gt es7)) from fun w' hb => h.dheld (by omega) (by omega) gt hb))
          have hlk : (Rt.lksE gt es7).length ≤ 5000 := by have := lksE_len gt es7; omega
          clear z1 z2 z3 z4 z5 z6
          generalize Rt.lksE gt es7 = lk at *
          obtain ⟨pw, xw, bw, hwv⟩ := wait_is (Rt.hitE gt es7)
          rw [hwv] at HTW HDW
          clear hwv
          have hx := HD.out.boxed
          have b6 := hx.c6
          simp only at b6
          have hl := hx.lt
          clear hx
          go_wp2_with fail
          refine HTW.out.mono ?_
          rintro e wB ⟨rfl, hbB⟩
          have HB := Lib.hid (HD.out.below HSt.out hbB)
          clear HTW HD hbB b6 hl
          have HB2 := Lib.hid (two_boxes wB pw xw)
          have HB3 := Lib.hid (HB.out.below HSt.out HB2.out.1)
          have HDW2 := Lib.hid (HDW.out _ HB3.out)
          have hx := HB3.out.boxed
          have b6 := hx.c6
          simp only at b6
          have hl := hx.lt
          clear hx
          clear HB HDW
          obtain ⟨pw0, pw1, pw2, pw3, pw4⟩ := pw
          obtain ⟨xw0, xw1, xw2, xw3⟩ := xw
          go_wp2_with fail
          refine HDW2.out.mono ?_
          rintro e wC ⟨rfl, hbC⟩
          have HB4 := Lib.hid (HB3.out.below HSt.out hbC)
          have hP1 := HB2.out.2.1.below hbC
          have hX1 := HB2.out.2.2.below hbC
          have HB5 := Lib.hid (two_boxes wC ⟨pw0, pw1, pw2, pw3, pw4⟩ (xw0, xw1, xw2, xw3))
          have HB6 := Lib.hid (HB4.out.below HSt.out HB5.out.1)
          have HSL := Lib.hid (show SL M wB.heap.size (wB.heap.size + 1) wC.heap.size (wC.heap.size + 1) gt ⟨pw0, pw1, pw2, pw3, pw4⟩ (xw0, xw1, xw2, xw3) _ from ⟨HB6.out.boxed.c6, hP1.below HB5.out.1, HB5.out.2.1, hX1.below HB5.out.1, HB5.out.2.2⟩)
          clear HDW2 HB2 HB3 HB4 HB5 hbC hP1 hX1 b6 hl
          go_upto_region 24 with fail
          refine reg24 HSL.out hlk (HAl.out _ HB6.out) (HHt.out _ HB6.out) (HHd.out _ HB6.out) ?_
          intro t168 t169 t170 t171 t172 t173 t174 t175 t176 t177 t178 t179 t180 t181 t182 t183 t184 t185 t186 t187 t188 t189 t190 t191 t192 t193 t194 t195 t196 t197 t198 t199 t200 t201 t202 t203 wE hbE
          have HE := Lib.hid ((HB6.out.below HSt.out hbE).mono fun _ _ h => h.1)
          clear HSL HAl HHt HHd HB6 hbE hlk
          go_wp2_with fail
          go_roundw
          case rel => exact ⟨k + 1, by omega, by go_num, _, _, HE.out, RZ.out⟩
          case measure => simp [intOf]; omega
        · have hk4b : (gk == 4) = false := by simpa using hk4
          obtain ⟨Y, hY⟩ : ∃ Y, askT m mr es.length (Rt.totE es) C gt ⟨ga, gb, gc, gd, ge⟩ gm gf = Y := ⟨_, rfl⟩
          have HC1 := Lib.hid (HS0.out.task HSt.out R.out HT.out (by omega) gt gm gf ⟨ga, gb, gc, gd, ge⟩ hY)
          have HC2 := Lib.hid (fun (W' : World) (h : Du w W' b t m mr (k + 1) (upC C ⟨ga, gb, gc, gd, ge⟩ Y.2.2) es (fun U W' => Nil U W' ∧ Box wM.heap.size ⟨⟨ga, gb, gc, gd, ge⟩, gk, gt, gm, gf⟩ U W')) => h.dask HSt.out R.out (by obtain ⟨f1, f2, f3, f4, f5, f6⟩ := HF.out; exact ⟨f1, by omega, f3, f4, f5, f6⟩) gt gm gf ⟨ga, gb, gc, gd, ge⟩ hY)
          clear hY
          obtain ⟨y1, y2, yc⟩ := Y
          simp only at HC1 HC2
          go_wp2_with fail
          refine HC1.out.mono ?_
          rintro e w6 ⟨rfl, h6⟩
          have hx := h6.boxed
          have b0 := hx.c0
          have b1 := hx.c1
          have b2 := hx.c2
          have b3 := hx.c3
          have b4 := hx.c4
          have b6 := hx.c6
          have b7 := hx.c7
          have b8 := hx.c8
          simp only at b0 b1 b2 b3 b4 b6 b7 b8
          have hl := hx.lt
          clear hx
          have HC2' := Lib.hid (HC2.out _ h6)
          clear HC1 HC2 HS0 h6 c0 c1 c2 c3 c4 c5 c6 c7 c8
          generalize wM.heap.size = M at *
          go_wp2_with fail
          refine HC2'.out.mono ?_
          rintro e w7 ⟨rfl, es7, h7, hR7⟩
          have HD := Lib.hid h7
          have RZ := Lib.hid hR7
          clear HC2' h7 hR7 R HF b0 b1 b2 b3 b4 b6 b7 b8 hl
          obtain ⟨z1, z2, z3, z4, z5, z6⟩ := HD.out.facts RZ.out
          have HTW := Lib.hid (HD.out.twait (by omega) (by omega) RZ.out (by omega) gt)
          have HDW := Lib.hid (fun (W' : World) (h : Du w W' b t m mr (k + 1) (upC C ⟨ga, gb, gc, gd, ge⟩ yc) es7 (fun U W' => Nil U W' ∧ Box M ⟨⟨ga, gb, gc, gd, ge⟩, gk, gt, gm, gf⟩ U W')) => h.dwait (by omega) (by omega) gt)
          have HAl := Lib.hid (fun (W' : World) (h : Du w W' b t m mr (k + 1) (upC C ⟨ga, gb, gc, gd, ge⟩ yc) es7 (fun U W' => Nil U W' ∧ Box M ⟨⟨ga, gb, gc, gd, ge⟩, gk, gt, gm, gf⟩ U W')) => (show ∀ w', Below W'.heap.size W' w' → Calls Tryz.prog 17 #[tp b, qp t] w' fun e w'' => e = .returned (.bool true) ∧ Below W'.heap.size W' w'' from fun w' hb => h.alike (by omega) (by omega) RZ.out (by omega) (by omega) hb))
          have HHt := Lib.hid (fun (W' : World) (h : Du w W' b t m mr (k + 1) (upC C ⟨ga, gb, gc, gd, ge⟩ yc) es7 (fun U W' => Nil U W' ∧ Box M ⟨⟨ga, gb, gc, gd, ge⟩, gk, gt, gm, gf⟩ U W')) => (show ∀ w', Below W'.heap.size W' w' → Calls Tryz.prog 19 #[tp b, .int .i64 gt] w' (HeldOf w' (Rt.lksE gt es7)) from fun w' hb => h.theld (by omega) (by omega) RZ.out (by omega) gt hb))
          have HHd := Lib.hid (fun (W' : World) (h : Du w W' b t m mr (k + 1) (upC C ⟨ga, gb, gc, gd, ge⟩ yc) es7 (fun U W' => Nil U W' ∧ Box M ⟨⟨ga, gb, gc, gd, ge⟩, gk, gt, gm, gf⟩ U W')) => (show ∀ w', Below W'.heap.size W' w' → Calls Tryz.prog 20 #[qp t, .int .i64 gt] w' (HeldOf w' (Rt.lksE gt es7)) from fun w' hb => h.dheld (by omega) (by omega) gt hb))
          have hlk : (Rt.lksE gt es7).length ≤ 5000 := by have := lksE_len gt es7; omega
          clear z1 z2 z3 z4 z5 z6
          generalize Rt.lksE gt es7 = lk at *
          obtain ⟨pw, xw, bw, hwv⟩ := wait_is (Rt.hitE gt es7)
          rw [hwv] at HTW HDW
          clear hwv
          have hx := HD.out.boxed
          have b6 := hx.c6
          simp only at b6
          have hl := hx.lt
          clear hx
          go_wp2_with fail
          refine HTW.out.mono ?_
          rintro e wB ⟨rfl, hbB⟩
          have HB := Lib.hid (HD.out.below HSt.out hbB)
          clear HTW HD hbB b6 hl
          have HB2 := Lib.hid (two_boxes wB pw xw)
          have HB3 := Lib.hid (HB.out.below HSt.out HB2.out.1)
          have HDW2 := Lib.hid (HDW.out _ HB3.out)
          have hx := HB3.out.boxed
          have b6 := hx.c6
          simp only at b6
          have hl := hx.lt
          clear hx
          clear HB HDW
          obtain ⟨pw0, pw1, pw2, pw3, pw4⟩ := pw
          obtain ⟨xw0, xw1, xw2, xw3⟩ := xw
          go_wp2_with fail
          refine HDW2.out.mono ?_
          rintro e wC ⟨rfl, hbC⟩
          have HB4 := Lib.hid (HB3.out.below HSt.out hbC)
          have hP1 := HB2.out.2.1.below hbC
          have hX1 := HB2.out.2.2.below hbC
          have HB5 := Lib.hid (two_boxes wC ⟨pw0, pw1, pw2, pw3, pw4⟩ (xw0, xw1, xw2, xw3))
          have HB6 := Lib.hid (HB4.out.below HSt.out HB5.out.1)
          have HSL := Lib.hid (show SL M wB.heap.size (wB.heap.size + 1) wC.heap.size (wC.heap.size + 1) gt ⟨pw0, pw1, pw2, pw3, pw4⟩ (xw0, xw1, xw2, xw3) _ from ⟨HB6.out.boxed.c6, hP1.below HB5.out.1, HB5.out.2.1, hX1.below HB5.out.1, HB5.out.2.2⟩)
          clear HDW2 HB2 HB3 HB4 HB5 hbC hP1 hX1 b6 hl
          go_upto_region 24 with fail
          refine reg24 HSL.out hlk (HAl.out _ HB6.out) (HHt.out _ HB6.out) (HHd.out _ HB6.out) ?_
          intro t168 t169 t170 t171 t172 t173 t174 t175 t176 t177 t178 t179 t180 t181 t182 t183 t184 t185 t186 t187 t188 t189 t190 t191 t192 t193 t194 t195 t196 t197 t198 t199 t200 t201 t202 t203 wE hbE
          have HE := Lib.hid ((HB6.out.below HSt.out hbE).mono fun _ _ h => h.1)
          clear HSL HAl HHt HHd HB6 hbE hlk
          go_wp2_with fail
          go_roundw
          case rel => exact ⟨k + 1, by omega, by go_num, _, _, HE.out, RZ.out⟩
          case measure => simp [intOf]; omega
    · obtain rfl : k = n := by omega
      have HB := Lib.hid HD0.out.bel
      clear HD0 R
      go_wp2_with fail
      go_ret
      exact ⟨rfl, HB.out⟩
end Go.Proofs.YtikienhlgmcfkaaGreatDoor

