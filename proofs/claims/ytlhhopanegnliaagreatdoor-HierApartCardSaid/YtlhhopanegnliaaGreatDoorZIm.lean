import Derived.Test.YtlhhopanegnliaaGreatDoorZIh
import Derived.Test.YtlhhopanegnliaaGreatDoorZNWe
namespace Go.Proofs.YtlhhopanegnliaaGreatDoor
open Go Go.RowKit Go.Shelf
set_option maxRecDepth 100000

abbrev zl : Lk := (⟨0, 0, 0, 0, 0⟩, 0)
def GrownX (xs : List Lk) (m : Nat) (mr tx n : Int) (C : CC) (r : Lk × Bool) (C' : CC) : Prop :=
  ∃ x b, Lk.PickIs xs n x b ∧
    (((b = false ∨ waitL C tx ≠ none) ∧ r = (zl, false) ∧ C' = C) ∨
     (b = true ∧ waitL C tx = none ∧ (askT m mr (usC C) (ttC C) C tx x.1 x.2 1).1 ≠ 1 ∧ r = (zl, false) ∧ C' = upC C x.1 (askT m mr (usC C) (ttC C) C tx x.1 x.2 1).2.2) ∨
     (b = true ∧ waitL C tx = none ∧ (askT m mr (usC C) (ttC C) C tx x.1 x.2 1).1 = 1 ∧ r = (x, true) ∧
       ∃ ys, Lk.Bk (Lk.fitL (fun q => Lk.belB q x.1) xs) ys ∧ C' = (rlT tx ys (upC C x.1 (askT m mr (usC C) (ttC C) C tx x.1 x.2 1).2.2)).2))
def Grown (m : Nat) (mr tx n : Int) (C : CC) (r : Lk × Bool) (C' : CC) : Prop := GrownX (heldL C tx) m mr tx n C r C'
def GrownH (W : World) (T : Nat → Prop) (b m : Nat) (mr : Int) (B0 : Lo0) (c : Nat) (tx n : Int) (C : CC) (e : Ending) (w' : World) : Prop :=
  ∃ r C', e = .returned (.tuple #[Lk.wv r.1, .bool r.2]) ∧ Grown m mr tx n C r C' ∧ Ch W T b m mr B0 (c + 1) C' w'
theorem GrownH.mk {W w' : World} {T : Nat → Prop} {b m c : Nat} {mr tx n : Int} {B0 : Lo0} {C C' : CC} (x : Lk) (d : Bool) (h1 : Grown m mr tx n C (x, d) C') (h2 : Ch W T b m mr B0 (c + 1) C' w') :
    GrownH W T b m mr B0 c tx n C (.returned (.tuple #[Lk.wv x, .bool d])) w' := ⟨(x, d), C', rfl, h1, h2⟩
theorem Ch.put {W w : World} {T : Nat → Prop} {b m c : Nat} {mr : Int} {B0 : Lo0} {C : CC} {X' : Nat → Prop} {K : Nat} (y : Lk) (h : Ch W T b m mr ⟨B0.n, X'⟩ c C w) (hX : ∀ k, B0.X k → X' k) (hK : X' K) (hW : W.heap.size ≤ K) :
    Ch W T b m mr B0 c C ((((((w.setCell ⟨K, 0, none⟩ (.int .i64 y.1.a)).setCell ⟨K, 1, none⟩ (.int .i64 y.1.b)).setCell ⟨K, 2, none⟩ (.int .i64 y.1.c)).setCell ⟨K, 3, none⟩ (.int .i64 y.1.d)).setCell ⟨K, 4, none⟩ (.int .i64 y.1.e)).setCell ⟨K, 5, none⟩ (.int .i64 y.2)) := by
  obtain ⟨T', u', t', h1, h2, h3⟩ := h
  exact ⟨T', u', t', (h1.putX (six_only w K y) (fun k hk => by rw [hk]; exact hK)).lessX hX, h2.thn (six_only w K y) (fun k hk => .inr (by rw [hk]; exact hW)), h3⟩
section
variable {W W' w w' : World} {T U : Nat → Prop} {b m c u t : Nat} {B0 : Lo0} {mr tx : Int} {C C1 : CC}
set_option maxHeartbeats 4000000 in
theorem Ta.growH (ht : TabG W) (h : Ta W b T m mr c C B0 u t) (hm : m ≤ 1000) (hc : c ≤ 238) (tx n : Int) :
    Calls Tryz.prog 19 #[tp b, .int .i64 tx, .int .i64 n] W (GrownH W T b m mr B0 c tx n C) := by
  have hx := box_below W (.cells (lca ⟨0, 0, 0, 0, 0⟩ 0) 39)
  have HX := Lib.hid hx
  have HR := Lib.hid (show Lk.Bx (W.alloc (.cells (lca ⟨0, 0, 0, 0, 0⟩ 0) 39)) W.heap.size zl from heap_alloc_new _ _)
  have HT := Lib.hid ht
  have HT0 := Lib.hid h.t0
  have HTa := Lib.hid h
  have HH := Lib.hid ((h.below hx).heldH hm (by omega) tx)
  have HWt := Lib.hid (fun (w1 : World) (hb : Below W.heap.size W w1) => (h.below hb).waitH hm (by omega) tx)
  have hl := (h.heldN tx).1
  have HRt := Lib.hid (h.ord.1.rt1 tx)
  have HO := Lib.hid h.ord
  clear h ht hx
  obtain ⟨xs, hxs⟩ : ∃ xs, heldL C tx = xs := ⟨_, rfl⟩
  have HG := Lib.hid (fun r C' (h : GrownX xs m mr tx n C r C') => show Grown m mr tx n C r C' from by unfold Grown; rw [hxs]; exact h)
  rw [hxs] at HH hl HRt
  clear hxs
  go_enter Tryz.func19, Tryz.ntmps19
  go_wp2_with fail
  refine HH.out.mono ?_
  rintro e w2 ⟨A1, k1, rfl, hls, hb2, hf1⟩
  have HB2 := Lib.hid (HX.out.trans (hb2.mono HX.out.size))
  have HR2 := Lib.hid (HR.out.below hb2)
  have HL2 := Lib.hid hls
  have HF1 := Lib.hid (fun a ha => Nat.le_trans HX.out.size (hf1 a ha))
  have HPi := Lib.hid (Lk.pick_any hls (by omega) (fun x hx => ⟨Lk.fit_right (HRt.out.2 x hx).1, Lk.wf_small (by have := (HRt.out.2 x hx).2.1; omega) (by have := (HRt.out.2 x hx).2.2; omega)⟩) n)
  clear hls hb2 hf1 HH HX HR
  go_wp2_with fail
  refine HPi.out.mono ?_
  rintro e w3 ⟨x, bb, rfl, hpk, hb3⟩
  have HPk := Lib.hid hpk
  obtain ⟨⟨xa, xb, xc, xd, xe⟩, xm⟩ := x
  have hb4 := hb3.trans ((box_below w3 (.cells #[.int .i64 xa, .int .i64 xb, .int .i64 xc, .int .i64 xd, .int .i64 xe, .int .i64 xm] 39)).mono hb3.size)
  have HB4 := Lib.hid (HB2.out.trans (hb4.mono HB2.out.size))
  have HR4 := Lib.hid (HR2.out.below hb4)
  have HL4 := Lib.hid (HL2.out.below hb4)
  have HX9 := Lib.hid (show Lk.Bx (w3.alloc (.cells #[.int .i64 xa, .int .i64 xb, .int .i64 xc, .int .i64 xd, .int .i64 xe, .int .i64 xm] 39)) w3.heap.size (⟨xa, xb, xc, xd, xe⟩, xm) from heap_alloc_new _ _)
  have HK9 := Lib.hid (show W.heap.size < w3.heap.size from Nat.lt_of_lt_of_le HR2.out.lt hb3.size)
  clear hpk hb3 hb4 HPi HB2 HR2 HL2
  go_upto_region 3 with (fail)
  generalize w3.alloc (.cells #[.int .i64 xa, .int .i64 xb, .int .i64 xc, .int .i64 xd, .int .i64 xe, .int .i64 xm] 39) = w4 at *
  generalize w3.heap.size = K9 at *
  have HW4 := Lib.hid (HWt.out w4 HB4.out)
  obtain ⟨q, y, iw, hwv, hwn⟩ : ∃ (q : Pa.Pt) (y : Ws.Wt) (iw : Bool), waitV (waitL C tx) = .tuple #[q.v, Ws.wv y, .bool iw] ∧ (iw = true ↔ waitL C tx ≠ none) := by
    cases waitL C tx with
    | none => exact ⟨zeroP, zeroW, false, rfl, by simp⟩
    | some z => exact ⟨z.1, z.2, true, rfl, by simp⟩
  rw [hwv] at HW4
  have HWn := Lib.hid hwn
  obtain ⟨qa, qb, qc, qd, qe⟩ := q
  obtain ⟨y1, y2, y3, y4⟩ := y
  clear hwv hwn HWt
  go_wp2_with fail
  refine HW4.out.mono ?_
  rintro e w5 ⟨rfl, hb5⟩
  have hb6 := hb5.trans ((two_waits w5 ⟨qa, qb, qc, qd, qe⟩ (y1, y2, y3, y4)).1.mono hb5.size)
  have HB6 := Lib.hid (HB4.out.trans (hb6.mono HB4.out.size))
  have HR6 := Lib.hid (HR4.out.below hb6)
  have HL6 := Lib.hid (HL4.out.below hb6)
  have HX6 := Lib.hid (HX9.out.below hb6)
  clear hb5 hb6 HW4 HB4 HR4 HL4 HX9
  simp only at HB6 HR6 HL6 HX6
  go_upto_region 4 with (fail)
  generalize (w5.alloc (.cells #[.int .i64 qa, .int .i64 qb, .int .i64 qc, .int .i64 qd, .int .i64 qe] 30)).alloc (.cells #[.int .i64 y1, .int .i64 y2, .bool y3, .bool y4] 61) = w6 at *
  have hta6 := HTa.out.ownX HB6.out (X' := fun k => B0.X k ∨ k = W.heap.size ∨ k = K9 ∨ ∃ a, A1 = some a ∧ a.block = k ∧ k < w6.heap.size) (fun k hk => by
    have := HX6.out.lt
    have := HR6.out.lt
    have := HK9.out
    rcases hk with hk | rfl | rfl | ⟨a, ha, rfl, hlt⟩
    · exact .inl hk
    · exact .inr ⟨Nat.le_refl _, by omega⟩
    · exact .inr ⟨by omega, by omega⟩
    · exact .inr ⟨HF1.out a ha, hlt⟩)
  have HC6 := Lib.hid (Ch.down HB6.out (Ch.start hta6))
  have HTa6 := Lib.hid hta6
  clear hta6
  obtain ⟨p0, p1, p2, p3, p4, p5, f0, f1, f2, f3, f4, f5, hlt⟩ := HR6.out.at
  obtain ⟨c0, c1, c2, c3, c4, c5, -⟩ := HX6.out.at
  simp only [Nat.zero_add] at p0 p1 p2 p3 p4 p5 f0 f1 f2 f3 f4 f5 c0 c1 c2 c3 c4 c5
  cases bb
  · go_wp2_with fail
    refine bodyPost_ret (v := .tuple #[Lk.wv zl, .bool false]) (by simp [results, Tryz.results19, go_sem, p0, p1, p2, p3, p4, p5, Lk.wv]) rfl (GrownH.mk zl false (HG.out _ C ⟨_, _, HPk.out, .inl ⟨.inl rfl, rfl, rfl⟩⟩) ?_)
    exact (HC6.out.put zl (fun k hk => .inl hk) (.inr (.inl rfl)) (Nat.le_refl _)).more (Nat.le_succ c)
  cases iw
  rotate_left
  · have HWn1 := Lib.hid (show waitL C tx ≠ none from HWn.out.1 rfl)
    clear HWn
    go_wp2_with fail
    refine bodyPost_ret (v := .tuple #[Lk.wv zl, .bool false]) (by simp [results, Tryz.results19, go_sem, p0, p1, p2, p3, p4, p5, Lk.wv]) rfl (GrownH.mk zl false (HG.out _ C ⟨_, _, HPk.out, .inl ⟨.inr HWn1.out, rfl, rfl⟩⟩) ?_)
    exact (HC6.out.put zl (fun k hk => .inl hk) (.inr (.inl rfl)) (Nat.le_refl _)).more (Nat.le_succ c)
  have HWn0 := Lib.hid (show waitL C tx = none from by
    have := HWn.out
    simpa using this)
  obtain ⟨hf, hu, htt⟩ := HO.out
  subst hu htt
  have HAs := Lib.hid (HTa6.out.ask (HT.out.later HB6.out) (by omega) tx xm 1 ⟨xa, xb, xc, xd, xe⟩)
  generalize hY : askT m mr (usC C) (ttC C) C tx ⟨xa, xb, xc, xd, xe⟩ xm 1 = Y at *
  have HYe := Lib.hid hY
  obtain ⟨y1', y2', Cx'⟩ := Y
  clear hY HWn
  go_wp2_with fail
  refine HAs.out.mono ?_
  rintro e w7 ⟨rfl, T7, u7, t7, k1, k2, k3, -, -⟩
  have hxl := fun k hk => HTa6.out.xl (k := k) hk
  have HR7 : Hid (Lk.Bx w7 W.heap.size zl) := (k2.block _ (hxl _ (.inr (.inl rfl))).1 (hxl _ (.inr (.inl rfl))).2).trans HR6.out
  have HX7 : Hid (Lk.Bx w7 K9 (⟨xa, xb, xc, xd, xe⟩, xm)) := (k2.block _ (hxl _ (.inr (.inr (.inl rfl)))).1 (hxl _ (.inr (.inr (.inl rfl)))).2).trans HX6.out
  have HTa7 := Lib.hid k1
  have HC7 := Lib.hid (Ch.down HB6.out ⟨T7, u7, t7, k1, k2, k3⟩)
  have HO7 := Lib.hid k2
  have HT7 := Lib.hid k3
  clear k1 k2 k3 HAs p0 p1 p2 p3 p4 p5 f0 f1 f2 f3 f4 f5 c0 c1 c2 c3 c4 c5 hlt
  obtain ⟨p0, p1, p2, p3, p4, p5, f0, f1, f2, f3, f4, f5, hlt⟩ := HR7.out.at
  obtain ⟨c0, c1, c2, c3, c4, c5, -⟩ := HX7.out.at
  simp only [Nat.zero_add] at p0 p1 p2 p3 p4 p5 f0 f1 f2 f3 f4 f5 c0 c1 c2 c3 c4 c5
  by_cases hy1 : y1' = 1
  · subst hy1
    obtain ⟨a1, rfl, hlt1⟩ : ∃ a, A1 = some a ∧ a.block < w6.heap.size := by
      have hp := HPk.out
      rcases hp with ⟨h, -⟩ | ⟨-, -, h, -⟩
      · cases h
      · cases xs with
        | nil => simp [Lk.cntL, Lk.fitL] at h
        | cons z l =>
          obtain ⟨a, rfl, q0, -⟩ := HL6.out.first
          exact ⟨a, rfl, cell_lt q0⟩
    have hA : ∀ a, some a1 = some a → a.block = a1.block ∧ a.block < w6.heap.size := fun a ha => by cases ha; exact ⟨rfl, hlt1⟩
    have hls7 := HL6.out.stay HO7.out fun a ha => hxl _ (.inr (.inr (.inr ⟨a, ha, rfl, (hA a ha).2⟩)))
    have HBe := Lib.hid (Lk.gbelow_any hls7 (by omega) ⟨xa, xb, xc, xd, xe⟩)
    clear hls7 hxl
    go_wp2_with fail
    refine HBe.out.mono ?_
    rintro e w8 ⟨ys, hbk, A3, k3, rfl, hls3, hb3, hf3⟩
    have hta8 := HTa7.out.ownX hb3 (X' := fun k => (B0.X k ∨ k = W.heap.size ∨ k = K9 ∨ ∃ a, some a1 = some a ∧ a.block = k ∧ k < w6.heap.size) ∨ ∃ a, A3 = some a ∧ a.block = k ∧ k < w8.heap.size) (fun k hk => by
      rcases hk with hk | ⟨a, ha, rfl, hlt⟩
      · exact .inl hk
      · exact .inr ⟨hf3 a ha, hlt⟩)
    have HBk := Lib.hid hbk
    have hnil : ys = [] ∨ ∀ a, A3 = some a → a.block < w8.heap.size := by
      cases ys with
      | nil => exact .inl rfl
      | cons y l =>
        obtain ⟨a, rfl, q0, -⟩ := hls3.first
        exact .inr fun a' ha' => by cases ha'; exact cell_lt q0
    have ho8 : OnlyS T W w8 := ((OnlyS.of_below HB6.out).trans HO7.out).trans (OnlyS.of_below hb3)
    have HT8 := Lib.hid (show ∀ k, T7 k → T k ∨ W.heap.size ≤ k from fun k hk => (HT7.out k hk).imp id (Nat.le_trans HB6.out.size))
    have HRl := Lib.hid (hta8.relAll (HT.out.onlyT ho8 HT0.out) (by omega) tx hls3 (hnil.imp id fun hlt a ha => .inr ⟨a, ha, rfl, hlt a ha⟩) rfl)
    have HTa8 := Lib.hid hta8
    have HO8 := Lib.hid ho8
    have HR8 := Lib.hid (HR7.out.below hb3)
    have HX8 := Lib.hid (HX7.out.below hb3)
    clear hta8 hnil hls3 hb3 hf3 hbk HBe ho8 p0 p1 p2 p3 p4 p5 f0 f1 f2 f3 f4 f5 c0 c1 c2 c3 c4 c5 hlt
    generalize hE : rlT tx ys (upC C ⟨xa, xb, xc, xd, xe⟩ Cx') = E at *
    go_wp2_with fail
    refine HRl.out.mono ?_
    rintro e w9 ⟨v2, rfl, htl2, -⟩
    obtain ⟨T9, u9, t9, k1, k2, k3'⟩ := htl2.ch
    have hx8 := fun k hk => HTa8.out.xl (k := k) hk
    have HR9 : Hid (Lk.Bx w9 W.heap.size zl) := (k2.block _ (hx8 _ (.inl (.inr (.inl rfl)))).1 (hx8 _ (.inl (.inr (.inl rfl)))).2).trans HR8.out
    have HX9 : Hid (Lk.Bx w9 K9 (⟨xa, xb, xc, xd, xe⟩, xm)) := (k2.block _ (hx8 _ (.inl (.inr (.inr (.inl rfl))))).1 (hx8 _ (.inl (.inr (.inr (.inl rfl))))).2).trans HX8.out
    have HC9 := Lib.hid (Ch.thn HO8.out HT8.out (htl2.ch.lessX (X' := fun k => B0.X k ∨ k = W.heap.size ∨ k = K9 ∨ ∃ a, some a1 = some a ∧ a.block = k ∧ k < w6.heap.size) fun k hk => .inl (.inl hk)))
    clear htl2 k1 k2 k3' hx8 HRl
    obtain ⟨p0, p1, p2, p3, p4, p5, f0, f1, f2, f3, f4, f5, hlt⟩ := HR9.out.at
    obtain ⟨c0, c1, c2, c3, c4, c5, -⟩ := HX9.out.at
    simp only [Nat.zero_add] at p0 p1 p2 p3 p4 p5 f0 f1 f2 f3 f4 f5 c0 c1 c2 c3 c4 c5
    go_wp2_with fail
    refine bodyPost_ret (v := .tuple #[Lk.wv (⟨xa, xb, xc, xd, xe⟩, xm), .bool true]) (by simp [results, Tryz.results19, go_sem, p0, p1, p2, p3, p4, p5, Lk.wv]) rfl (GrownH.mk (⟨xa, xb, xc, xd, xe⟩, xm) true (HG.out _ E.2 ⟨_, _, HPk.out, .inr (.inr ⟨rfl, HWn0.out, (by rw [HYe.out]), rfl, ys, HBk.out, (by rw [HYe.out, hE])⟩)⟩) ?_)
    · exact HC9.out.put (B0 := B0) (⟨xa, xb, xc, xd, xe⟩, xm) (fun k hk => .inl hk) (.inr (.inl rfl)) (Nat.le_refl _)
  · have hb : (y1' != 1) = true := by simpa using hy1
    go_wp2_with fail
    refine bodyPost_ret (v := .tuple #[Lk.wv zl, .bool false]) (by simp [results, Tryz.results19, go_sem, p0, p1, p2, p3, p4, p5, Lk.wv]) rfl (GrownH.mk zl false (HG.out _ _ ⟨_, _, HPk.out, .inr (.inl ⟨rfl, HWn0.out, (by rw [HYe.out]; exact hy1), rfl, rfl⟩)⟩) ?_)
    · rw [HYe.out]
      exact HC7.out.put zl (fun k hk => .inl hk) (.inr (.inl rfl)) (Nat.le_refl _)
end
end Go.Proofs.YtlhhopanegnliaaGreatDoor
