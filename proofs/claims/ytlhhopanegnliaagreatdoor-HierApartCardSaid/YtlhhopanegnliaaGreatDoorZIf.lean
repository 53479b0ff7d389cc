import Derived.Test.YtlhhopanegnliaaGreatDoorZIa
namespace Go.Proofs.YtlhhopanegnliaaGreatDoor
open Go Go.RowKit Go.Shelf
set_option maxRecDepth 100000

section
variable {W W' w w' : World} {T U : Nat → Prop} {b m c u t : Nat} {B0 : Lo0} {mr : Int} {C : CC}
def X2 (B0 : Lo0) (K7 K12 : Nat) : Lo0 := ⟨B0.n, fun k => B0.X k ∨ k = K7 ∨ k = K12⟩
structure TkI (W : World) (T : Nat → Prop) (b m : Nat) (mr : Int) (B0 : Lo0) (c : Nat) (tx : Int) (p : Pa.Pt) (md fl : Int) (S : Int × Int × CC) (K7 K12 r : Nat) (C1 : CC) (w : World) : Prop where
  ta : ∃ T1 u1 t1, Ta w b T1 m mr (c + (3 - r)) C1 (X2 B0 K7 K12) u1 t1 ∧ OnlyS T W w ∧ ∀ k, T1 k → T k ∨ W.heap.size ≤ k
  p7 : Pbx w K7 p
  l12 : Lk.Bx w K12 (nxL (heldL C1 tx) p md).1
  pl : (Lk.planL (heldL C1 tx) p md).length ≤ r + 1
  is : tkT m mr tx p md fl r C1 = S
  r3 : r ≤ 3
  k12 : W.heap.size < K12
def TkJ (W : World) (T : Nat → Prop) (b m : Nat) (mr : Int) (B0 : Lo0) (c : Nat) (tx : Int) (p : Pa.Pt) (md fl : Int) (S : Int × Int × CC) (K7 r : Nat) (a' : Act) (w' : World) : Prop :=
  ∃ (K12 : Nat) (C1 : CC) (u13 u14 u15 u16 u17 u18 u19 u20 u21 u22 u23 u24 u25 u26 u27 u28 u29 u30 u31 u32 u33 u34 u35 u36 u37 u38 u39 u40 u41 u42 u43 u44 u45 u46 u47 u48 u49 u50 u51 u52 u53 u54 u55 u56 u57 u58 u59 : Value), a' = { tmps := #[tp b, .int .i64 tx, p.v, .int .i64 md, .int .i64 fl, undef, undef, .pointer (some ⟨K7, 0, none⟩), undef, undef, .int .i64 0, .int .i64 0, .pointer (some ⟨K12, 0, none⟩), u13, u14, u15, u16, u17, u18, u19, u20, u21, u22, u23, u24, u25, u26, u27, u28, u29, u30, u31, u32, u33, u34, u35, u36, u37, u38, u39, u40, u41, u42, u43, u44, u45, u46, u47, u48, u49, u50, u51, u52, u53, u54, u55, u56, u57, u58, u59], defers := [] } ∧ TkI W T b m mr B0 c tx p md fl S K7 K12 r C1 w'
theorem TkJ.mk' {tx md fl : Int} {p : Pa.Pt} {S : Int × Int × CC} {K7 K12 r : Nat} {C1 : CC} {u13 u14 u15 u16 u17 u18 u19 u20 u21 u22 u23 u24 u25 u26 u27 u28 u29 u30 u31 u32 u33 u34 u35 u36 u37 u38 u39 u40 u41 u42 u43 u44 u45 u46 u47 u48 u49 u50 u51 u52 u53 u54 u55 u56 u57 u58 u59 : Value} (h : TkI W T b m mr B0 c tx p md fl S K7 K12 r C1 w) :
    TkJ W T b m mr B0 c tx p md fl S K7 r { tmps := #[tp b, .int .i64 tx, p.v, .int .i64 md, .int .i64 fl, undef, undef, .pointer (some ⟨K7, 0, none⟩), undef, undef, .int .i64 0, .int .i64 0, .pointer (some ⟨K12, 0, none⟩), u13, u14, u15, u16, u17, u18, u19, u20, u21, u22, u23, u24, u25, u26, u27, u28, u29, u30, u31, u32, u33, u34, u35, u36, u37, u38, u39, u40, u41, u42, u43, u44, u45, u46, u47, u48, u49, u50, u51, u52, u53, u54, u55, u56, u57, u58, u59], defers := [] } w := ⟨K12, C1, u13, u14, u15, u16, u17, u18, u19, u20, u21, u22, u23, u24, u25, u26, u27, u28, u29, u30, u31, u32, u33, u34, u35, u36, u37, u38, u39, u40, u41, u42, u43, u44, u45, u46, u47, u48, u49, u50, u51, u52, u53, u54, u55, u56, u57, u58, u59, rfl, h⟩
theorem goOn_of {tx : Int} {p : Pa.Pt} {md : Int} {C C2 : CC} {a e : Int} {n n2 : Lk × Bool × Int} (h1 : nxL (heldL C tx) p md = n) (h2 : nxL (heldL C2 tx) p md = n2) : goOn tx p md C (a, e, C2) = (a == 1 && n2.2.1 && !Lk.eqH n2.1 n.1) := by
  unfold goOn
  rw [h1, h2]
set_option maxHeartbeats 4000000 in
theorem Ta.take (ht : TabG W) (h : Ta W b T m mr c C B0 u t) (hm : m ≤ 1000) (hc : c ≤ 236) (tx : Int) (p : Pa.Pt) (md fl : Int) {S : Int × Int × CC} (hS : tkT m mr tx p md fl 3 C = S) :
    Calls Tryz.prog 20 #[tp b, .int .i64 tx, p.v, .int .i64 md, .int .i64 fl] W fun e w' => e = .returned (.tuple #[.int .i64 S.1, .int .i64 S.2.1]) ∧ Ch W T b m mr B0 (c + 4) S.2.2 w' := by
  have HT := Lib.hid ht
  have HTa := Lib.hid h
  have HX := Lib.hid (box_below W (.cells (pcs p) 30))
  have HB := Lib.hid (Pbx.new W p 30)
  have HN := Lib.hid (fun (w1 : World) (hb : Below W.heap.size W w1) => (h.below hb).next hm (by omega) tx p md)
  have HI0 := Lib.hid (fun (w1 : World) (hb : Below W.heap.size W w1) (h7 : Pbx w1 W.heap.size p) (K12 : Nat) (hK : W.heap.size < K12 ∧ K12 < w1.heap.size) (hl : Lk.Bx w1 K12 (nxL (heldL C tx) p md).1) =>
    (show TkI W T b m mr B0 c tx p md fl S W.heap.size K12 3 C w1 from
      ⟨⟨T, u, t, h.ownX hb (X' := fun k => B0.X k ∨ k = W.heap.size ∨ k = K12) (fun k hk => by
          rcases hk with hk | hk | hk
          · exact .inl hk
          · exact .inr (by omega)
          · exact .inr (by omega)), OnlyS.of_below hb, fun _ hk => .inl hk⟩, h7, hl, Lk.plan_len _ _ _, hS, Nat.le_refl _, hK.1⟩))
  have HT0 := Lib.hid h.t0
  clear h ht
  obtain ⟨b0, b1, b2, b3, b4⟩ := HB.out
  generalize hn : nxL (heldL C tx) p md = n at *
  clear hn
  obtain ⟨⟨⟨la, lb, lc, ld, le⟩, lm⟩, is, er⟩ := n
  obtain ⟨pa, pb, pc, pd, pee⟩ := p
  simp only at b0 b1 b2 b3 b4 HX HB HN HI0
  go_enter Tryz.func20, Tryz.ntmps20
  go_wp2_with fail
  refine scope_ranked 0 (TkJ W T b m mr B0 c tx ⟨pa, pb, pc, pd, pee⟩ md fl S W.heap.size) rfl ?_ ?_
  · intro hpass
    have HQ := Lib.hid hpass
    clear hpass
    go_wp2_with fail
    refine (HN.out _ HX.out).mono ?_
    rintro e w1 ⟨rfl, hb1⟩
    have hb2 := (HX.out.trans (hb1.mono HX.out.size)).trans ((box_below w1 (.cells #[.int .i64 la, .int .i64 lb, .int .i64 lc, .int .i64 ld, .int .i64 le, .int .i64 lm] 39)).mono (HX.out.trans (hb1.mono HX.out.size)).size)
    have HI := Lib.hid (HI0.out (w1.alloc (.cells #[.int .i64 la, .int .i64 lb, .int .i64 lc, .int .i64 ld, .int .i64 le, .int .i64 lm] 39)) hb2
      ((HB.out.only (OnlyS.of_below (S := fun _ => False) hb1) id).only (OnlyS.of_below (S := fun _ => False) (box_below w1 _)) id) w1.heap.size ⟨by have := hb1.size; have := box_lt W (.cells (pcs ⟨pa, pb, pc, pd, pee⟩) 30); omega, box_lt w1 _⟩ (heap_alloc_new _ _))
    clear hb1 hb2 HI0 HN HB HX b0 b1 b2 b3 b4
    go_wp2_with fail
    rename_i hK
    refine wp_label ?_
    refine hK _ _ ?_
    exact HQ.out _ _ _ (TkJ.mk' HI.out)
  · rintro r a' wr ⟨K12, C1, u13, u14, u15, u16, u17, u18, u19, u20, u21, u22, u23, u24, u25, u26, u27, u28, u29, u30, u31, u32, u33, u34, u35, u36, u37, u38, u39, u40, u41, u42, u43, u44, u45, u46, u47, u48, u49, u50, u51, u52, u53, u54, u55, u56, u57, u58, u59, rfl, hg⟩
    clear HI0 HN HB HX b0 b1 b2 b3 b4
    obtain ⟨⟨T1, u1, t1, hta, ho1, hT1⟩, h7, h12, hpl, his, hr3, hk12⟩ := hg
    have ht1 : TabG wr := HT.out.onlyT ho1 HT0.out
    obtain ⟨hf1, -, -⟩ := hta.ord
    have HStep := Lib.hid (hta.stepH ht1 hm (by omega) tx ⟨pa, pb, pc, pd, pee⟩ md fl rfl)
    have HX7 := Lib.hid (hta.xl (k := W.heap.size) (.inr (.inl rfl)))
    have HX12 := Lib.hid (hta.xl (k := K12) (.inr (.inr rfl)))
    have HSh := Lib.hid (fun hf' hg' => plan_shorter (m := m) (mr := mr) (tx := tx) (md := md) (fl := fl) (p := ⟨pa, pb, pc, pd, pee⟩) hf1 hf' hg')
    have HO1 := Lib.hid ho1
    have HT1 := Lib.hid hT1
    have H7 := Lib.hid h7
    have H12 := Lib.hid h12
    have HIs := Lib.hid his
    have HPl := Lib.hid hpl
    clear hta ho1 hT1 ht1 h12 his hpl hf1
    obtain ⟨b0, b1, b2, b3, b4⟩ := h7
    generalize hst : stT m mr tx ⟨pa, pb, pc, pd, pee⟩ md fl C1 = s at *
    obtain ⟨a, er1, C2⟩ := s
    generalize hn1 : nxL (heldL C1 tx) ⟨pa, pb, pc, pd, pee⟩ md = n1 at *
    obtain ⟨⟨⟨xa, xb, xc, xd, xe⟩, xm⟩, is1, e1⟩ := n1
    simp only at b0 b1 b2 b3 b4 HSh
    have HN1 := Lib.hid hn1
    have HSt := Lib.hid hst
    clear hn1 hst
    go_wp2_with fail
    refine HStep.out.mono ?_
    rintro e w3 ⟨rfl, T2, u2, t2, hta2, ho2, hT2⟩
    have H7' := H7.out.only ho2 HX7.out.2
    have H12' : Lk.Bx w3 K12 (⟨xa, xb, xc, xd, xe⟩, xm) := (ho2.block K12 HX12.out.1 HX12.out.2).trans H12.out
    have HX7' := Lib.hid (hta2.xl (k := W.heap.size) (.inr (.inl rfl))).1
    have HX12' := Lib.hid (hta2.xl (k := K12) (.inr (.inr rfl))).1
    have HO2 := Lib.hid (HO1.out.thn ho2 HT1.out)
    have HT2 := Lib.hid (show ∀ k, T2 k → T k ∨ W.heap.size ≤ k from fun k hk => (hT2 k hk).elim (HT1.out k) fun z => .inr (Nat.le_trans HO1.out.size z))
    have HN2 := Lib.hid (fun (w4 : World) (hb : Below w3.heap.size w3 w4) => (hta2.below hb).next hm (by omega) tx ⟨pa, pb, pc, pd, pee⟩ md)
    have HTa2 := Lib.hid hta2
    have hf2 := Lib.hid hta2.ord.1
    clear hta2 ho2 hT2 HStep H7 H12 HO1 HT1 HX7 HX12 b0 b1 b2 b3 b4
    obtain ⟨c0, c1, c2, c3, c4, c5, -⟩ := H12'.at
    simp only [Nat.zero_add] at c0 c1 c2 c3 c4 c5
    have HB3 := Lib.hid (box_below w3 (.cells #[.int .i64 xa, .int .i64 xb, .int .i64 xc, .int .i64 xd, .int .i64 xe, .int .i64 xm] 39))
    have H17 := Lib.hid (show Lk.Bx (w3.alloc (.cells #[.int .i64 xa, .int .i64 xb, .int .i64 xc, .int .i64 xd, .int .i64 xe, .int .i64 xm] 39)) w3.heap.size (⟨xa, xb, xc, xd, xe⟩, xm) from heap_alloc_new _ _)
    have H12b := Lib.hid (H12'.below HB3.out)
    have H7b := Lib.hid (H7'.only (OnlyS.of_below (S := fun _ => False) HB3.out) id)
    obtain ⟨b0, b1, b2, b3, b4⟩ := H7b.out
    simp only at b0 b1 b2 b3 b4
    go_wp2_with fail
    refine (HN2.out _ HB3.out).mono ?_
    rintro e w5 ⟨rfl, hb5⟩
    have HB5 := Lib.hid (HB3.out.trans (hb5.mono HB3.out.size))
    have H17c := H17.out.below hb5
    have H12c := H12b.out.below hb5
    have H7c := Lib.hid (H7b.out.only (OnlyS.of_below (S := fun _ => False) hb5) id)
    generalize hn2 : nxL (heldL C2 tx) ⟨pa, pb, pc, pd, pee⟩ md = n2 at *
    obtain ⟨⟨⟨ya, yb, yc, yd, ye⟩, ym⟩, is2, e2⟩ := n2
    have HGo := Lib.hid (goOn_of (a := a) (e := er1) HN1.out hn2)
    simp only at HGo HSh
    have hne : w3.heap.size ≠ K12 := by have := HX12'.out; omega
    have HN2' := Lib.hid hn2
    have H12d : Lk.Bx ((((((w5.setCell ⟨K12, 0, none⟩ (.int .i64 ya)).setCell ⟨K12, 1, none⟩ (.int .i64 yb)).setCell ⟨K12, 2, none⟩ (.int .i64 yc)).setCell ⟨K12, 3, none⟩ (.int .i64 yd)).setCell ⟨K12, 4, none⟩ (.int .i64 ye)).setCell ⟨K12, 5, none⟩ (.int .i64 ym)) K12 (⟨ya, yb, yc, yd, ye⟩, ym) := H12c.put (⟨ya, yb, yc, yd, ye⟩, ym)
    have H17d : Lk.Bx ((((((w5.setCell ⟨K12, 0, none⟩ (.int .i64 ya)).setCell ⟨K12, 1, none⟩ (.int .i64 yb)).setCell ⟨K12, 2, none⟩ (.int .i64 yc)).setCell ⟨K12, 3, none⟩ (.int .i64 yd)).setCell ⟨K12, 4, none⟩ (.int .i64 ye)).setCell ⟨K12, 5, none⟩ (.int .i64 ym)) w3.heap.size (⟨xa, xb, xc, xd, xe⟩, xm) := H17c.beside hne (⟨ya, yb, yc, yd, ye⟩, ym)
    have HO6 : Hid (OnlyS (· = K12) w5 ((((((w5.setCell ⟨K12, 0, none⟩ (.int .i64 ya)).setCell ⟨K12, 1, none⟩ (.int .i64 yb)).setCell ⟨K12, 2, none⟩ (.int .i64 yc)).setCell ⟨K12, 3, none⟩ (.int .i64 yd)).setCell ⟨K12, 4, none⟩ (.int .i64 ye)).setCell ⟨K12, 5, none⟩ (.int .i64 ym))) := six_only w5 K12 (⟨ya, yb, yc, yd, ye⟩, ym)
    obtain ⟨-, -, -, -, -, -, f0, f1, f2, f3, f4, f5, hlt⟩ := H12c.at
    obtain ⟨d0, d1, d2, d3, d4, d5, -⟩ := H12c.at
    simp only [Nat.zero_add] at d0 d1 d2 d3 d4 d5 f0 f1 f2 f3 f4 f5
    clear hn2 hb5 H17c H12c H12b H17 H7b HB3 H12' H7' HN2 c0 c1 c2 c3 c4 c5 b0 b1 b2 b3 b4
    go_upto_region 5 with (fail)
    generalize ((((((w5.setCell ⟨K12, 0, none⟩ (.int .i64 ya)).setCell ⟨K12, 1, none⟩ (.int .i64 yb)).setCell ⟨K12, 2, none⟩ (.int .i64 yc)).setCell ⟨K12, 3, none⟩ (.int .i64 yd)).setCell ⟨K12, 4, none⟩ (.int .i64 ye)).setCell ⟨K12, 5, none⟩ (.int .i64 ym)) = w6 at H12d H17d HO6 ⊢
    clear f0 f1 f2 f3 f4 f5 d0 d1 d2 d3 d4 d5 hlt
    have hta6 := (HTa2.out.below HB5.out).putX HO6.out (fun k hk => .inr (.inr hk))
    have ho6 : OnlyS T W w6 := (HO2.out.trans (OnlyS.of_below HB5.out)).thn HO6.out (fun k hk => .inr (by rw [hk]; exact Nat.le_of_lt hk12))
    have HDone : Hid (goOn tx ⟨pa, pb, pc, pd, pee⟩ md C1 (a, er1, C2) = false → (a, er1, C2) = S ∧ Ch W T b m mr B0 (c + 4) C2 w6) := by
      intro hg
      refine ⟨?_, ?_⟩
      · have his := HIs.out
        cases r with
        | zero => rw [tkT, HSt.out] at his; exact his
        | succ r => rw [tkT, HSt.out, hg] at his; exact his
      · exact (Ch.lessX (B0 := X2 B0 W.heap.size K12) (X' := B0.X) ⟨T2, u2, t2, hta6, ho6, HT2.out⟩ fun k hk => .inl hk).more (by omega)
    have HCont : Hid (goOn tx ⟨pa, pb, pc, pd, pee⟩ md C1 (a, er1, C2) = true → is2 = true → ∃ r', r' < r ∧ TkI W T b m mr B0 c tx ⟨pa, pb, pc, pd, pee⟩ md fl S W.heap.size K12 r' C2 w6) := by
      intro hg hi
      have hs := HSh.out hf2.out hg
      have hne : Lk.planL (heldL C2 tx) ⟨pa, pb, pc, pd, pee⟩ md ≠ [] := fun e => by
        have := nx_none e
        rw [HN2'.out] at this
        injection this with _ q
        injection q with q _
        rw [hi] at q; cases q
      have hpos := List.length_pos_iff.2 hne
      have hpl := HPl.out
      have his := HIs.out
      cases r with
      | zero => omega
      | succ r =>
        rw [tkT, HSt.out, hg] at his
        refine ⟨r, Nat.lt_succ_self r, ⟨T2, u2, t2, ?_, ho6, HT2.out⟩, H7c.out.only HO6.out (by omega), by rw [HN2'.out]; exact H12d, by omega, his, by omega, hk12⟩
        have e : c + (3 - (r + 1)) + 1 = c + (3 - r) := by omega
        rw [← e]
        exact hta6
    obtain ⟨c0, c1, c2, c3, c4, c5, -⟩ := H12d.at
    obtain ⟨d0, d1, d2, d3, d4, d5, -⟩ := H17d.at
    simp only [Nat.zero_add] at c0 c1 c2 c3 c4 c5 d0 d1 d2 d3 d4 d5
    clear hta6 ho6 HSh HIs HPl HSt HN1 HN2' HTa2 HO2 HT2 hf2 HO6 H12d H17d H7c HB5 HX7' HX12'
    cases g1 : (a == 1)
    · rw [g1] at HGo
      have HD := Lib.hid (HDone.out (by rw [HGo.out]; rfl))
      clear HDone HCont HGo
      obtain rfl := HD.out.1
      go_wp2_with fail
      simp only [Exit.jump]
      go_ret2
      exact ⟨rfl, HD.out.2⟩
    · rw [g1] at HGo
      cases is2
      · have HD := Lib.hid (HDone.out (by rw [HGo.out]; rfl))
        clear HDone HCont HGo
        obtain rfl := HD.out.1
        go_wp2_with fail
        simp only [Exit.jump]
        go_ret2
        exact ⟨rfl, HD.out.2⟩
      · cases g2 : Lk.eqH (⟨ya, yb, yc, yd, ye⟩, ym) (⟨xa, xb, xc, xd, xe⟩, xm)
        · rw [g2] at HGo
          have HC := Lib.hid (HCont.out (by rw [HGo.out]; rfl) rfl)
          clear HDone HCont HGo
          go_wp2_with fail
          go_step3
          change _ ∧ ∃ m', m' < r ∧ TkJ W T b m mr B0 c tx ⟨pa, pb, pc, pd, pee⟩ md fl S W.heap.size m' _ _
          obtain ⟨r', h1, h2⟩ := HC.out
          exact ⟨rfl, r', h1, TkJ.mk' h2⟩
        · rw [g2] at HGo
          have HD := Lib.hid (HDone.out (by rw [HGo.out]; rfl))
          clear HDone HCont HGo
          obtain rfl := HD.out.1
          go_wp2_with fail
          simp only [Exit.jump]
          go_ret2
          exact ⟨rfl, HD.out.2⟩
end
end Go.Proofs.YtlhhopanegnliaaGreatDoor
