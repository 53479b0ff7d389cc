/- The walk of the law that there are never more nodes, holds and waits than may be, and that nothing is left when all is let go. -/
import Derived.Test.YtmolohncllcgbaaDoorLa
import Derived.Maps.OwnSet
import Derived.Maps.Views
import Derived.Maps.Keyed
namespace Go.Proofs.YtmolohncllcgbaaDoor
open Go Go.RowKit Go.Shelf
set_option maxRecDepth 100000

/-- a map that nobody reads -/
def Mb (W : World) (b n : Nat) : Prop := ∃ D : DataW Unit, W.ownsMap Tryd.prog 3 (plainElem Tryd.prog 4) b n D
@[go_sem] theorem mkb (W : World) : (Instr.makeMap 26 none).run Tryd.prog W = .ok (.map (some W.heap.size)) (W.alloc (.map #[] 0)) := by
  simp [Instr.makeMap, newObj]
  rfl
theorem Mb.made (W : World) : Mb (W.alloc (.map #[] 0)) W.heap.size 0 := ⟨.map [], World.ownsMap_made W Tryd.prog 3 _⟩
theorem Mb.keep {W W' : World} {b n : Nat} (h : Mb W b n) (hb : W'.heap[b]? = W.heap[b]?) : Mb W' b n := by
  obtain ⟨D, es, clock, h1, h2⟩ := h
  exact ⟨D, es, clock, hb.trans h1, h2⟩
theorem Mb.lt {W : World} {b n : Nat} (h : Mb W b n) : b < W.heap.size := by
  obtain ⟨D, h1⟩ := h
  exact h1.lt
theorem Mb.nocell {W : World} {b n : Nat} (h : Mb W b n) (k : Nat) : W.cell? ⟨b, k, none⟩ = none := by
  obtain ⟨D, es, clock, h1, h2⟩ := h
  unfold World.cell?
  simp [h1]
theorem Mb.put {W : World} {b n : Nat} (h : Mb W b n) {i : Int} (hi : Hs.wf64 i) (hl : n ≤ 10000) :
    ∃ w', (Instr.mapUpdate 26 (.map (some b)) (.int .i64 i) (.bool true)).run Tryd.prog W = .ok () w' ∧ Mb w' b (n + 1) ∧ W.grownBy w' (some b) := by
  obtain ⟨D, h1⟩ := h
  obtain ⟨w', hrun, ho, hg⟩ := h1.update (Maps.int_keyed Tryd.underlying3) Tryd.underlying26 (by unfold maxLen; omega) (Maps.keyOf_int_mk Tryd.underlying3 hi) (plainElem_bool Tryd.underlying4 true)
  exact ⟨w', hrun, ⟨_, ho⟩, hg⟩
/-- .. beside a table -/
def Mbs (M n : Nat) (T : Nat → Prop) (W : World) : Prop := Mb W M n ∧ ¬ T M
theorem mbs_stays (M n : Nat) : Stays (Mbs M n) := by
  rintro T T' W W' ⟨h1, h2⟩ hT ho hT'
  refine ⟨h1.keep (ho.block M h1.lt h2), fun hk => ?_⟩
  rcases hT' M hk with q | q
  · exact h2 q
  · have := h1.lt; omega
section
variable {w W W' w' : World} {T : Nat → Prop} {b ha mb m c u B0 nb M N K1 : Nat} {S O : Nat → Prop} {t : Nat} {mr r tt : Int} {ns : Ns} {fs : List Nat} {F : Int → Option Int} {C : Pa.Pt → Cx} {d : Dd}
/-- a block beside that holds no numbers was changed -/
theorem Tw.beside (h : Tw W b ha mb S O m mr r nb tt ns fs F B0) (hno : ∀ k x, W.cell? ⟨M, k, none⟩ ≠ some (.int .i64 x)) (hQ : ¬ Foot b S O ns M) (ho : OnlyS (· = M) W W') : Tw W' b ha mb S O m mr r nb tt ns fs F B0 := by
  have hnk : ¬ Kb b S O M := fun e => hQ (.inl e)
  obtain ⟨f0, f1, f2, f3, f4⟩ := h.cells ho (fun e => hnk (.inl e.symm))
  obtain ⟨Lo, hm⟩ := h.mq
  refine ⟨f0, f1, f2, f3, f4, h.ar.keep ho (fun k hk e => hnk (.inr (.inl (by rw [← e]; exact hk)))), ⟨Lo, hm.only ho fun k hk e => hnk (.inr (.inr (by rw [← e]; exact hk)))⟩, ?_, h.qn, h.dq, h.so, h.sb, h.ob, h.lo, h.z⟩
  intro j a hj
  obtain ⟨A3, c3, A4, c4, q, o3, o4⟩ := h.qs j a hj
  exact ⟨A3, c3, A4, c4, ⟨(ho.block a.q q.lt (fun e => hQ (.inr ⟨j, a, hj, e⟩))).trans q.blk, q.h.off (b := M) (fun k x _ => hno k x.1) ho, q.l.off (b := M) (fun k x _ => hno k x.1) ho⟩, o3, o4⟩
theorem Ta.beside (h : Ta W b T m mr c C B0 u t) (hno : ∀ k x, W.cell? ⟨M, k, none⟩ ≠ some (.int .i64 x)) (hQ : ¬ T M) (ho : OnlyS (· = M) W W') : Ta W' b T m mr c C B0 u t := by
  obtain ⟨ns, g1, g2⟩ := h.is
  obtain ⟨ha, mb, S, O, nb, t, fs, F, h1, h2, h3, h4, h5, h6⟩ := g1.is
  exact ⟨ns, ⟨ha, mb, S, O, nb, t, fs, F, h1.beside hno (fun e => hQ ((h6 M).2 e)) ho, h2, h3, h4, h5, h6⟩, g2⟩
theorem Ot.put (h : Ot w W b m mr c C u t (fun T W => Mbs M N T W ∧ Box K1 d T W)) {i : Int} (hi : Hs.wf64 i) (hN : N ≤ 10000) (hM : w.heap.size ≤ M) :
    ∃ W', (Instr.mapUpdate 26 (.map (some M)) (.int .i64 i) (.bool true)).run Tryd.prog W = .ok () W' ∧ Ot w W' b m mr c C u t (fun T W => Mbs M (N + 1) T W ∧ Box K1 d T W) := by
  obtain ⟨T, B0, h1, h2, ⟨h3, h4⟩, h5, h6⟩ := h.is
  obtain ⟨W', hrun, hm', hg⟩ := h3.put hi hN
  have ho : OnlyS (· = M) W W' := (OnlyS.refl (· = M) W).grown hg (fun j hj => .inl (by simpa using hj.symm))
  have hne : K1 ≠ M := fun e => by
    have := h5.c0
    rw [e, h3.nocell] at this
    cases this
  exact ⟨W', hrun, ⟨T, B0, h1.beside (fun k x => by rw [h3.nocell]; simp) h4 ho, h2, ⟨hm', h4⟩, h5.only ho hne, h6⟩, h.bel.trans (ho.below (fun k hk => by rw [hk]; exact hM) h.bel.size)⟩
end
section
variable {P : Int → Prop} {m u t : Nat} {mr tx md fl : Int} {C : Pa.Pt → Cx} {p : Pa.Pt}
theorem askT_all (h : AllP P (C p).1 (C p).2) (hp : P tx) : AllP P (askT m mr u t C tx p md fl).2.2.1 (askT m mr u t C tx p md fl).2.2.2 := by
  unfold askT
  simp only
  split
  · exact h
  · split
    · exact h
    · split
      · exact h
      · exact h.ask hp
theorem relT_all (h : AllP P (C p).1 (C p).2) (hi : Inv (C p).1 (C p).2) (hw : errP p ≠ 0 → C p = ([], [])) : AllP (fun t => P t ∧ t ≠ tx) (relT rel C tx p).hs (relT rel C tx p).ws := by
  unfold relT
  split
  · rename_i he
    rw [hw he]
    exact AllP.nil _
  · exact h.rel hi tx
end
/-- whoever is at a node -/
def Who (Z : Pa.Pt → Int → Prop) (C : Pa.Pt → Cx) : Prop := ∀ p, AllP (Z p) (C p).1 (C p).2
section
variable {w W W' : World} {b m c u t n i k : Nat} {mr : Int} {C : Pa.Pt → Cx} {Z : Pa.Pt → Int → Prop} {K : (Nat → Prop) → World → Prop} {g : Nat → Dd}
def upto (g : Nat → Dd) (i : Nat) (p : Pa.Pt) (tx : Int) : Prop := ∃ j, j < i ∧ (g j).p = p ∧ (g j).t = tx
def from' (g : Nat → Dd) (n i : Nat) (p : Pa.Pt) (tx : Int) : Prop := ∃ j, i ≤ j ∧ j < n ∧ (g j).p = p ∧ (g j).t = tx
theorem who_ask (h : Who (upto g i) C) : Who (upto g (i + 1)) (upC C (g i).p (askT m mr u t C (g i).t (g i).p (g i).m (g i).f).2.2) := fun p => by
  have hm : ∀ p tx, upto g i p tx → upto g (i + 1) p tx := fun p tx ⟨j, h1, h2⟩ => ⟨j, by omega, h2⟩
  by_cases e : p = (g i).p
  · subst e
    rw [upC_same]
    exact askT_all ((h _).mono (hm _)) ⟨i, by omega, rfl, rfl⟩
  · rw [upC_ne _ _ e]
    exact (h p).mono (hm p)
theorem who_rel (h : Who (from' g n i) C) (hi : ∀ p, Inv (C p).1 (C p).2) (hw : ∀ p, errP p ≠ 0 → C p = ([], [])) : Who (from' g n (i + 1)) (upC C (g i).p ((relT rel C (g i).t (g i).p).hs, (relT rel C (g i).t (g i).p).ws)) := fun p => by
  by_cases e : p = (g i).p
  · subst e
    rw [upC_same]
    refine (relT_all (h _) (hi _) (hw _)).mono ?_
    rintro t ⟨⟨j, h1, h2, h3, h4⟩, hne⟩
    refine ⟨j, ?_, h2, h3, h4⟩
    rcases Nat.lt_or_ge i j with q | q
    · exact q
    · obtain rfl : i = j := by omega
      exact absurd h4.symm hne
  · rw [upC_ne _ _ e]
    refine (h p).mono ?_
    rintro t ⟨j, h1, h2, h3, h4⟩
    refine ⟨j, ?_, h2, h3, h4⟩
    rcases Nat.lt_or_ge i j with q | q
    · exact q
    · obtain rfl : i = j := by omega
      exact absurd h3.symm e
/-- a second time, nothing new -/
theorem who_rel2 {tx : Int} {q : Pa.Pt} (h : Who Z C) (hi : ∀ p, Inv (C p).1 (C p).2) (hw : ∀ p, errP p ≠ 0 → C p = ([], [])) : Who Z (upC C q ((relT rel C tx q).hs, (relT rel C tx q).ws)) := fun p => by
  by_cases e : p = q
  · subst e
    rw [upC_same]
    exact (relT_all (h _) (hi _) (hw _)).mono fun t ht => ht.1
  · rw [upC_ne _ _ e]
    exact h p
theorem Ot.inv (h : Ot w W b m mr c C u t K) : (∀ p, Inv (C p).1 (C p).2) ∧ ∀ p, errP p ≠ 0 → C p = ([], []) := by
  obtain ⟨T, B0, h1, h2⟩ := h.is
  exact ⟨h1.inv, fun p hp => h1.wrong hp⟩
theorem Ot.zero (h : Ot w W b m mr c C u t K) (hz : Who (from' g n n) C) : u = 0 ∧ t = 0 := by
  obtain ⟨T, B0, h1, h2⟩ := h.is
  have := h1.count (ps := []) List.nodup_nil (fun p => by
    obtain ⟨e1, e2⟩ := (hz p).none (fun t ⟨j, q1, q2, _⟩ => by omega)
    simp [szC, e1, e2])
  simpa using this
theorem Ot.bounds (h : Ot w W b m mr c C u t K) : u ≤ m ∧ (t : Int) ≤ mr ∧ t ≤ c ∧ mr ≤ 1024 ∧ m ≤ 4096 := by
  obtain ⟨T, B0, h1, h2⟩ := h.is
  exact h1.bounds
end
theorem bounds_long (hd rq : Int) (A : Option Addr) (n c : Nat) (w : World) (ht : TabG w) (hm : n ≤ maxLen) (h : 60 < n) :
    Calls Tryd.prog 3 #[.int .i64 hd, .int .i64 rq, .slice A n c] w fun e w' => e = .returned (.bool true) ∧ Below w.heap.size w w' := by
  unfold maxLen at hm
  have HA := Lib.hid (awake_any w ht)
  have q1 : (60 : Int) < (n : Int) := by omega
  have q1' : decide ((60 : Int) < (n : Int)) = true := by simp; omega
  clear ht h
  go_enter Tryd.func3, Tryd.ntmps3
  go_wp2_with fail
  refine HA.out.mono ?_
  rintro e w1 ⟨rfl, hb1⟩
  go_wp2_with fail
  go_ret
  exact ⟨rfl, hb1⟩
set_option maxHeartbeats 8000000 in
theorem bounds_walk (hd rq : Int) (A : Option Addr) (n c : Nat) (g : Nat → Dd) (w : World) (ht : TabG w) (hm : n ≤ maxLen) (hi : InD w A n g) :
    Calls Tryd.prog 3 #[.int .i64 hd, .int .i64 rq, .slice A n c] w fun e w' => e = .returned (.bool true) ∧ Below w.heap.size w w' := by
  by_cases h60 : 60 < n
  · exact bounds_long hd rq A n c w ht hm h60
  have HA := Lib.hid (awake_any w ht)
  have HT := Lib.hid ht
  have D := Lib.hid hi
  have q1 : ¬ (60 : Int) < (n : Int) := by omega
  have q1' : decide ((60 : Int) < (n : Int)) = false := by simp; omega
  clear ht hi hm
  go_enter Tryd.func3, Tryd.ntmps3
  go_wp2_with fail
  refine HA.out.mono ?_
  rintro e w1 ⟨rfl, hb1⟩
  have HN := Lib.hid (ot_new hd rq hb1 HT.out.size)
  clear hb1 HA
  go_wp2_with fail
  refine HN.out.mono ?_
  rintro e w2 ⟨b, rfl, h2⟩
  obtain ⟨m, hm⟩ : ∃ m, clamp hd 256 = m := ⟨_, rfl⟩
  obtain ⟨mr, hmr⟩ : ∃ mr : Int, ((clamp rq 1024 : Nat) : Int) = mr := ⟨_, rfl⟩
  rw [hm, hmr] at h2
  have HM := Lib.hid h2.bel.size
  have H2 := Lib.hid (show ∃ C u t, Ot w (w2.alloc (.map #[] 0)) b m mr 0 C u t (Mbs w2.heap.size 0) ∧ Who (upto g 0) C from by
    obtain ⟨T, B0, k1, k2, -⟩ := h2.is
    exact ⟨_, _, _, ⟨⟨T, B0, k1.below (box_below w2 _), k2, Mb.made w2, fun hk => by have := (k1.lt hk).2; omega⟩, h2.bel.trans ((box_below w2 _).mono h2.bel.size)⟩, fun p => AllP.nil _⟩)
  clear h2 HN hm hmr
  go_wp2_with fail
  generalize w2.alloc (.map #[] 0) = w3 at *
  generalize w2.heap.size = M at *
  go_loopw [31] (fun t wr => ∃ k : Nat, k ≤ n ∧ t = .int .i64 k ∧ ∃ C u t, Ot w wr b m mr k C u t (Mbs M k) ∧ Who (upto g k) C) (fun t _ => n - (intOf t).toNat)
  case atStart => exact ⟨0, by omega, rfl, H2.out⟩
  case round =>
    obtain ⟨w4, rfl⟩ : ∃ w4, w4 = wr := ⟨_, rfl⟩
    obtain ⟨k, hk, rfl, C, u, t, ho, hw⟩ := hrel
    have H := Lib.hid ho
    have HW := Lib.hid hw
    clear ho hw H2
    by_cases hlt : k < n
    · obtain ⟨ad, rfl, ⟨c0, c1, c2, c3, c4, c5, c6, c7, c8⟩⟩ := D.out.at H.out.bel hlt
      have HWf := Lib.hid (show Hs.wf64 (g k).t by obtain ⟨_, _, _, _, q⟩ := D.out k hlt; exact q)
      obtain ⟨Y, hY⟩ : ∃ Y, askT m mr u t C (g k).t (g k).p (g k).m (g k).f = Y := ⟨_, rfl⟩
      have HW' := Lib.hid (who_ask (m := m) (mr := mr) (u := u) (t := t) HW.out)
      rw [hY] at HW'
      have HBo := Lib.hid (H.out.box (mbs_stays M k) (g k) 33)
      have HGp := Lib.hid (show (g k).p = (g k).p from rfl)
      generalize g k = gk at c0 c1 c2 c3 c4 c5 c6 c7 c8 HWf HW' hY HBo HGp
      obtain ⟨⟨ga, gb, gc, gd, ge⟩, gk, gt, gm, gf⟩ := gk
      simp only at c0 c1 c2 c3 c4 c5 c6 c7 c8 hY HW' HWf
      have HY := Lib.hid hY
      have hst := and_stays (mbs_stays M k) (box_stays w4.heap.size ⟨⟨ga, gb, gc, gd, ge⟩, gk, gt, gm, gf⟩)
      have HSt := Lib.hid hst
      have HHe := Lib.hid (HBo.out.heads hst)
      clear H HW hY hst
      go_wp2_with fail
      refine HHe.out.mono ?_
      rintro e w5 ⟨rfl, h5⟩
      have HRe := Lib.hid (h5.reqs HSt.out)
      clear HHe HBo h5 c0 c1 c2 c3 c4 c5 c6 c7 c8
      go_wp2_with fail
      refine HRe.out.mono ?_
      rintro e w6 ⟨rfl, h6⟩
      have hx6 := h6.boxed
      have b0 := hx6.c0
      have b1 := hx6.c1
      have b2 := hx6.c2
      have b3 := hx6.c3
      have b4 := hx6.c4
      have b6 := hx6.c6
      have b7 := hx6.c7
      have b8 := hx6.c8
      simp only at b0 b1 b2 b3 b4 b6 b7 b8
      have hl6 := hx6.lt
      have HAs := Lib.hid (h6.ask HSt.out HT.out (by omega) gt gm gf ⟨ga, gb, gc, gd, ge⟩ HY.out)
      clear HRe h6 hx6
      go_wp2_with fail
      refine HAs.out.mono ?_
      rintro e w7 ⟨rfl, u', t', h7, hsame⟩
      have hx7 := h7.boxed
      have b6 := hx7.c6
      simp only at b6
      have hl7 := hx7.lt
      have HS := Lib.hid hsame
      have H7 := Lib.hid h7
      clear HAs h7 hx7 hsame b0 b1 b2 b3 b4 b7 b8 hl6
      obtain ⟨bu, bt, -, bm, bm2⟩ := H7.out.bounds
      have H9 := Lib.hid (show ∃ u9 t9, Ot w w7 b m mr (k + 1) (upC C ⟨ga, gb, gc, gd, ge⟩ Y.2.2) u9 t9 (fun T W => Mbs M k T W ∧ Box w4.heap.size ⟨⟨ga, gb, gc, gd, ge⟩, gk, gt, gm, gf⟩ T W) from ⟨_, _, H7.out⟩)
      by_cases hy : Y.2.1 = 0
      rotate_left
      · obtain ⟨e1, e2⟩ := HS.out hy
        have hy' : (Y.2.1 == 0) = false := by simpa using hy
        have h7 := H7.out
        rw [e1, e2] at h7
        have HHe := Lib.hid (h7.heads HSt.out)
        clear h7 H9 b6 hl7
        go_wp2_with fail
        refine HHe.out.mono ?_
        rintro e w8 ⟨rfl, h8⟩
        have HRe := Lib.hid (h8.reqs HSt.out)
        clear h8 HHe
        go_wp2_with fail
        refine HRe.out.mono ?_
        rintro e w9 ⟨rfl, h9⟩
        have H9 := Lib.hid (show ∃ u9 t9, Ot w w9 b m mr (k + 1) (upC C ⟨ga, gb, gc, gd, ge⟩ Y.2.2) u9 t9 (fun T W => Mbs M k T W ∧ Box w4.heap.size ⟨⟨ga, gb, gc, gd, ge⟩, gk, gt, gm, gf⟩ T W) from ⟨_, _, h9⟩)
        clear h9 HRe
        obtain ⟨u9, t9, h9⟩ := H9.out
        have hx9 := h9.boxed
        have b6 := hx9.c6
        simp only at b6
        have hl9 := hx9.lt
        obtain ⟨w10, hput, h10⟩ := h9.put HWf.out (by omega) HM.out
        have hst := and_stays (mbs_stays M (k + 1)) (box_stays w4.heap.size ⟨⟨ga, gb, gc, gd, ge⟩, gk, gt, gm, gf⟩)
        have HSt2 := Lib.hid hst
        have HFu := Lib.hid (h10.full hst)
        clear H7 HS H9 h9 h10 hx9 hst HSt bu bt bm bm2
        go_wp2_with fail
        refine HFu.out.mono ?_
        rintro e w11 ⟨rfl, h11⟩
        have HHe := Lib.hid (h11.heads HSt2.out)
        obtain ⟨bu, bt, -, -, -⟩ := h11.bounds
        have k1 : ¬ ((m : Int) < (u9 : Int)) := by omega
        have k2 : ¬ (mr < (t9 : Int)) := by omega
        have k1' : decide ((m : Int) < (u9 : Int)) = false := by simp; omega
        have k2' : decide (mr < (t9 : Int)) = false := by simp; omega
        clear h11 HFu bu bt b6 hl9 hput
        go_wp2_with fail
        refine HHe.out.mono ?_
        rintro e w12 ⟨rfl, h12⟩
        have HRe := Lib.hid (h12.reqs HSt2.out)
        clear h12 HHe
        go_wp2_with fail
        refine HRe.out.mono ?_
        rintro e w13 ⟨rfl, h13⟩
        have hx13 := h13.boxed
        have b0 := hx13.c0
        have b1 := hx13.c1
        have b2 := hx13.c2
        have b3 := hx13.c3
        have b4 := hx13.c4
        simp only at b0 b1 b2 b3 b4
        have hl13 := hx13.lt
        have HQu := Lib.hid (h13.queue HSt2.out (by omega) ⟨ga, gb, gc, gd, ge⟩)
        clear h13 hx13 HRe
        go_wp2_with fail
        refine HQu.out.mono ?_
        rintro e w14 ⟨h14, hor⟩
        have H14 := Lib.hid h14
        clear b0 b1 b2 b3 b4 hl13 h14 HQu k1 k2 k1' k2'
        rcases hor with ⟨-, rfl⟩ | ⟨hz, Q, rfl, -, hbes⟩
        · go_wp2_with fail
          go_roundw
          case rel => exact ⟨k + 1, by omega, by go_num, _, _, _, H14.out.mono fun _ _ h => h.1, HW'.out⟩
          case measure => simp [intOf]; omega
        · have HSi := Lib.hid (show Calls Tryd.prog 12 #[qp Q] w14 fun e w' => ∃ z : Nat, e = .returned (.int .i64 (z : Int)) ∧ 0 < z ∧ Below w14.heap.size w14 w' from by
            obtain ⟨T, B0, hta, -, A1, c1, A2, c2, hq, -⟩ := hbes.is
            have hsz := hta.size ⟨ga, gb, gc, gd, ge⟩
            have htc := hta.bounds.2.2.1
            exact (size_any hq.its (by omega) (by omega)).mono fun e w' ⟨he, hb⟩ => ⟨_, he, hz, hb⟩)
          clear hz hbes
          go_wp2_with fail
          refine HSi.out.mono ?_
          rintro e w15 ⟨z, rfl, hz, hb15⟩
          have hz' : ((z : Int) == 0) = false := by simp; omega
          have H15 := Lib.hid (H14.out.below HSt2.out hb15)
          clear hb15 HSi H14
          go_wp2_with fail
          go_roundw
          case rel => exact ⟨k + 1, by omega, by go_num, _, _, _, H15.out.mono fun _ _ h => h.1, HW'.out⟩
          case measure => simp [intOf]; omega
      · have hy' : (Y.2.1 == 0) = true := by simpa using hy
        clear b6 hl7
        obtain ⟨u9, t9, h9⟩ := H9.out
        have hx9 := h9.boxed
        have b6 := hx9.c6
        simp only at b6
        have hl9 := hx9.lt
        obtain ⟨w10, hput, h10⟩ := h9.put HWf.out (by omega) HM.out
        have hst := and_stays (mbs_stays M (k + 1)) (box_stays w4.heap.size ⟨⟨ga, gb, gc, gd, ge⟩, gk, gt, gm, gf⟩)
        have HSt2 := Lib.hid hst
        have HFu := Lib.hid (h10.full hst)
        clear H7 HS H9 h9 h10 hx9 hst HSt bu bt bm bm2
        go_wp2_with fail
        refine HFu.out.mono ?_
        rintro e w11 ⟨rfl, h11⟩
        have HHe := Lib.hid (h11.heads HSt2.out)
        obtain ⟨bu, bt, -, -, -⟩ := h11.bounds
        have k1 : ¬ ((m : Int) < (u9 : Int)) := by omega
        have k2 : ¬ (mr < (t9 : Int)) := by omega
        have k1' : decide ((m : Int) < (u9 : Int)) = false := by simp; omega
        have k2' : decide (mr < (t9 : Int)) = false := by simp; omega
        clear h11 HFu bu bt b6 hl9 hput
        go_wp2_with fail
        refine HHe.out.mono ?_
        rintro e w12 ⟨rfl, h12⟩
        have HRe := Lib.hid (h12.reqs HSt2.out)
        clear h12 HHe
        go_wp2_with fail
        refine HRe.out.mono ?_
        rintro e w13 ⟨rfl, h13⟩
        have hx13 := h13.boxed
        have b0 := hx13.c0
        have b1 := hx13.c1
        have b2 := hx13.c2
        have b3 := hx13.c3
        have b4 := hx13.c4
        simp only at b0 b1 b2 b3 b4
        have hl13 := hx13.lt
        have HQu := Lib.hid (h13.queue HSt2.out (by omega) ⟨ga, gb, gc, gd, ge⟩)
        clear h13 hx13 HRe
        go_wp2_with fail
        refine HQu.out.mono ?_
        rintro e w14 ⟨h14, hor⟩
        have H14 := Lib.hid h14
        clear b0 b1 b2 b3 b4 hl13 h14 HQu k1 k2 k1' k2'
        rcases hor with ⟨-, rfl⟩ | ⟨hz, Q, rfl, -, hbes⟩
        · go_wp2_with fail
          go_roundw
          case rel => exact ⟨k + 1, by omega, by go_num, _, _, _, H14.out.mono fun _ _ h => h.1, HW'.out⟩
          case measure => simp [intOf]; omega
        · have HSi := Lib.hid (show Calls Tryd.prog 12 #[qp Q] w14 fun e w' => ∃ z : Nat, e = .returned (.int .i64 (z : Int)) ∧ 0 < z ∧ Below w14.heap.size w14 w' from by
            obtain ⟨T, B0, hta, -, A1, c1, A2, c2, hq, -⟩ := hbes.is
            have hsz := hta.size ⟨ga, gb, gc, gd, ge⟩
            have htc := hta.bounds.2.2.1
            exact (size_any hq.its (by omega) (by omega)).mono fun e w' ⟨he, hb⟩ => ⟨_, he, hz, hb⟩)
          clear hz hbes
          go_wp2_with fail
          refine HSi.out.mono ?_
          rintro e w15 ⟨z, rfl, hz, hb15⟩
          have hz' : ((z : Int) == 0) = false := by simp; omega
          have H15 := Lib.hid (H14.out.below HSt2.out hb15)
          clear hb15 HSi H14
          go_wp2_with fail
          go_roundw
          case rel => exact ⟨k + 1, by omega, by go_num, _, _, _, H15.out.mono fun _ _ h => h.1, HW'.out⟩
          case measure => simp [intOf]; omega
    · obtain rfl : k = n := by omega
      have H2nd := Lib.hid (show ∃ C u t, Ot w w4 b m mr 60 C u t Nil ∧ Who (from' g k 0) C from ⟨C, u, t, (H.out.mono fun _ _ _ => trivial).more (by omega), fun p => (HW.out p).mono fun t ⟨j, h1, h2⟩ => ⟨j, Nat.zero_le _, h1, h2⟩⟩)
      clear H HW
      go_wp2_with fail
      go_loopw [102] (fun t wr => ∃ i : Nat, i ≤ k ∧ t = .int .i64 i ∧ ∃ C u t, Ot w wr b m mr (60 + 2 * i) C u t Nil ∧ Who (from' g k i) C) (fun t _ => k - (intOf t).toNat)
      case atStart => exact ⟨0, by omega, rfl, H2nd.out⟩
      case round =>
        obtain ⟨w5, rfl⟩ : ∃ w5, w5 = wr := ⟨_, rfl⟩
        obtain ⟨i, hi, rfl, C2, u2, t2, ho, hw⟩ := hrel
        have H := Lib.hid ho
        have HW := Lib.hid hw
        clear ho hw H2nd
        by_cases hlt2 : i < k
        · obtain ⟨ad, rfl, ⟨c0, c1, c2, c3, c4, c5, c6, c7, c8⟩⟩ := D.out.at H.out.bel hlt2
          have HW1 := Lib.hid (who_rel HW.out H.out.inv.1 H.out.inv.2)
          have HBo := Lib.hid (H.out.box nil_stays (g i) 33)
          generalize g i = gk at c0 c1 c2 c3 c4 c5 c6 c7 c8 HW1 HBo
          obtain ⟨⟨ga, gb, gc, gd, ge⟩, gk, gt, gm, gf⟩ := gk
          simp only at c0 c1 c2 c3 c4 c5 c6 c7 c8 HW1
          have hst := and_stays nil_stays (box_stays w5.heap.size ⟨⟨ga, gb, gc, gd, ge⟩, gk, gt, gm, gf⟩)
          have HSt := Lib.hid hst
          have HR1 := Lib.hid (HBo.out.release hst HT.out (by omega) gt ⟨ga, gb, gc, gd, ge⟩ rfl)
          clear H HW hst
          go_wp2_with fail
          refine HR1.out.mono ?_
          rintro e w6 ⟨A6, k6, rfl, u6', t6', h6⟩
          have HW2 := Lib.hid (who_rel2 (tx := gt) (q := ⟨ga, gb, gc, gd, ge⟩) HW1.out h6.inv.1 h6.inv.2)
          have hx6 := h6.boxed
          have b0 := hx6.c0
          have b1 := hx6.c1
          have b2 := hx6.c2
          have b3 := hx6.c3
          have b4 := hx6.c4
          have b6 := hx6.c6
          simp only at b0 b1 b2 b3 b4 b6
          have hl6 := hx6.lt
          have HR2 := Lib.hid (h6.release HSt.out HT.out (by omega) gt ⟨ga, gb, gc, gd, ge⟩ rfl)
          clear h6 hx6 HR1 HBo HW1 c0 c1 c2 c3 c4 c5 c6 c7 c8
          go_wp2_with fail
          refine HR2.out.mono ?_
          rintro e w7 ⟨A7, k7, rfl, u7', t7', h7⟩
          have H7 := Lib.hid h7
          clear h7 HR2 b0 b1 b2 b3 b4 b6 hl6
          go_wp2_with fail
          go_roundw
          case rel => exact ⟨i + 1, by omega, by go_num, _, _, _, (H7.out.mono fun _ _ _ => trivial).more (by omega), HW2.out⟩
          case measure => simp [intOf]; omega
        · obtain rfl : i = k := by omega
          obtain ⟨e1, e2⟩ := H.out.zero HW.out
          subst e1
          subst e2
          have HHe := Lib.hid (H.out.heads nil_stays)
          clear H HW
          go_wp2_with fail
          refine HHe.out.mono ?_
          rintro e w6 ⟨rfl, h6⟩
          have HRe := Lib.hid (h6.reqs nil_stays)
          clear h6 HHe
          go_wp2_with fail
          refine HRe.out.mono ?_
          rintro e w7 ⟨rfl, h7⟩
          have HB7 := Lib.hid h7.bel
          clear h7 HRe
          go_wp2_with fail
          go_ret
          exact ⟨rfl, HB7.out⟩
end Go.Proofs.YtmolohncllcgbaaDoor
