/- A table: the walk of Ask. -/
import Derived.Test.YtmolohncllcgbaaGreatDoorTd
import Derived.BigQuiet
namespace Go.Proofs.YtmolohncllcgbaaGreatDoor
open Go Go.RowKit Go.Shelf
set_option maxRecDepth 100000

section
variable {W W' w' w0 : World} {T : Nat → Prop} {b ha mb B0 m nb i B c Q u t : Nat} {mr : Int} {ns ns' : Ns} {n : Nd} {p : Pa.Pt} {C : Pa.Pt → Cx}
theorem errP_yes (h : errP p = 0) : Pa.rightB p = true := by
  unfold errP at h
  split at h
  · assumption
  · cases h
theorem errP_no (h : errP p ≠ 0) : errP p = 1 := by
  unfold errP at h ⊢
  split
  · rename_i q; rw [if_pos q] at h; exact absurd rfl h
  · rfl
/-- the table's block in a later world -/
structure Ct (w : World) (b ha : Nat) (mr r : Int) : Prop where
  e0 : w.cell? ⟨b, 0, none⟩ = some (.pointer (some ⟨ha, 0, none⟩))
  e2 : w.cell? ⟨b, 2, none⟩ = some (.int .i64 mr)
  e3 : w.cell? ⟨b, 3, none⟩ = some (.int .i64 r)
  fz : w.frozen? ⟨b, 3, none⟩ = false
  lt : b < w.heap.size
set_option maxHeartbeats 4000000 in
theorem Ta.ask (ht : TabG W) (h : Ta W b T m mr c C B0 u t) (hc : c ≤ 239) (tx md fl : Int) (p : Pa.Pt) :
    Calls Tryz.prog 13 #[tp b, .int .i64 tx, p.v, .int .i64 md, .int .i64 fl] W (Askt W b T m mr c C B0 u t p (askT m mr u t C tx p md fl)) := by
  have hx := box_below W (.cells (pcs p) 30)
  have HX := Lib.hid hx
  have HTa := Lib.hid h
  have HT := Lib.hid ht
  obtain ⟨ns, g1, g2, g3, g4, g5, g6, g7⟩ := h.is
  have HG1 := Lib.hid g1
  have HG2 := Lib.hid g2
  have HR := Lib.hid ((g1.below hx).refuses p)
  have HB := Lib.hid (Pbx.new W p 30)
  have HFi := Lib.hid (fun (w1 : World) (hb : Below W.heap.size W w1) => (g1.below hb).find p)
  have hinv := g1.inv p
  have hsz := g1.size p
  have hm0 := g1.usm
  by_cases he : errP p = 0
  case neg =>
    have HY := Lib.hid (show askT m mr u t C tx p md fl = (0, 1, C p) by unfold askT; simp only; rw [if_pos he, errP_no he])
    rw [HY.out]
    rw [errP_no he] at HR
    clear h ht hx g1 g2 g3 g4 g5 g6 g7 hinv hsz hm0 he
    obtain ⟨pa, pb, pc, pd, pe⟩ := p
    go_enter Tryz.func13, Tryz.ntmps13
    have hB1 := HB.out
    have b0 := hB1.c0
    have b1 := hB1.c1
    have b2 := hB1.c2
    have b3 := hB1.c3
    have b4 := hB1.c4
    simp only at b0 b1 b2 b3 b4
    clear hB1
    go_wp2_with fail
    refine HR.out.mono ?_
    rintro e w1 ⟨rfl, hb1⟩
    have HX1 := Lib.hid (HX.out.trans (hb1.mono HX.out.size))
    clear hb1 b0 b1 b2 b3 b4
    go_wp2_with fail
    go_ret2
    exact Askt.same HTa.out HX1.out rfl
  case pos =>
    have HPr := Lib.hid (errP_yes he)
    obtain ⟨X, hX⟩ : ∃ X, Go.Proofs.YtmolohncllcgbaaGreatDoor.ask tx md fl (C p).1 (C p).2 = X := ⟨_, rfl⟩
    obtain ⟨d, hd⟩ : ∃ d, costV X (C p).1 (C p).2 = d := ⟨_, rfl⟩
    have HY1 := Lib.hid (fun (q : X.2.1 ≠ 0) => (show askT m mr u t C tx p md fl = (0, X.2.1, C p) by unfold askT; simp only; rw [hX, if_neg (by rw [he]; simp), if_pos q]))
    have HY2 := Lib.hid (fun (q : X.2.1 = 0) (q2 : (szC (C p) = 0 ∧ 0 < d ∧ u = m) ∨ mr - (t : Int) < d) => (show askT m mr u t C tx p md fl = (0, 10, C p) by unfold askT; simp only; rw [hX, hd, if_neg (by rw [he]; simp), if_neg (by rw [q]; simp), if_pos q2]))
    have HY3 := Lib.hid (fun (q : X.2.1 = 0) (q2 : ¬ ((szC (C p) = 0 ∧ 0 < d ∧ u = m) ∨ mr - (t : Int) < d)) => (show askT m mr u t C tx p md fl = (X.1, X.2.1, X.2.2) by unfold askT; simp only; rw [hX, hd, if_neg (by rw [he]; simp), if_neg (by rw [q]; simp), if_neg q2]))
    have HCo := Lib.hid (fun (w : World) (hT : TabG w) (Q : Nat) (hq : ∃ A1 c1 A2 c2, QAt w Q A1 c1 A2 c2 (C p).1 (C p).2) => (show Calls Tryz.prog 41 #[qp Q, .int .i64 tx, .int .i64 md, .int .i64 fl] w fun e w' => e = .returned (.tuple #[.int .i64 d, .int .i64 X.2.1]) ∧ Below w.heap.size w w' from by
      obtain ⟨A1, c1, A2, c2, hq⟩ := hq
      have := cost_any hT hq (by omega) (by omega) tx md fl
      rw [hX, hd] at this
      exact this))
    have HXX := Lib.hid hX
    have HD := Lib.hid hd
    have hdd : X.2.1 = 0 → 0 ≤ d ∧ d ≤ 1 := fun q => by
      have q1 := ask_len tx md fl (C p).1 (C p).2
      have q2 := ask_ge tx md fl (C p).1 (C p).2
      rw [hX] at q1 q2
      rw [← hd]
      unfold costV
      rw [if_pos q]
      omega
    have HDd := Lib.hid hdd
    rw [he] at HR
    generalize hYY : askT m mr u t C tx p md fl = Y at *
    clear h ht hx g1 g2 hinv he hX hd hdd
    have HBx := Lib.hid (show ∃ K, W.heap.size ≤ K ∧ K = W.heap.size from ⟨_, Nat.le_refl _, rfl⟩)
    obtain ⟨pa, pb, pc, pd, pe⟩ := p
    go_enter Tryz.func13, Tryz.ntmps13
    have hB1 := HB.out
    have b0 := hB1.c0
    have b1 := hB1.c1
    have b2 := hB1.c2
    have b3 := hB1.c3
    have b4 := hB1.c4
    simp only at b0 b1 b2 b3 b4
    clear hB1
    go_wp2_with fail
    refine HR.out.mono ?_
    rintro e w1 ⟨rfl, hb1⟩
    have HX1 := Lib.hid (HX.out.trans (hb1.mono HX.out.size))
    have HB1 := Lib.hid (HB.out.below hb1)
    have b0 := HB1.out.c0
    have b1 := HB1.out.c1
    have b2 := HB1.out.c2
    have b3 := HB1.out.c3
    have b4 := HB1.out.c4
    simp only at b0 b1 b2 b3 b4
    have HF1 := Lib.hid (HFi.out w1 HX1.out)
    clear hb1 HR HB HX HFi HBx
    go_wp2_with fail
    refine HF1.out.mono ?_
    rintro e w2 ⟨Q, is, rfl, hb2, hq2, hor⟩
    have HX2 := Lib.hid (HX1.out.trans (hb2.mono HX1.out.size))
    have HB2 := Lib.hid (HB1.out.below hb2)
    have HC2 := Lib.hid (HCo.out w2 (HT.out.later HX2.out) Q hq2)
    have HQ2 := Lib.hid hor
    have HL1 := Lib.hid (Nat.le_trans HX1.out.size (Nat.le_refl _))
    clear hb2 hq2 hor HF1 HB1 b0 b1 b2 b3 b4
    go_wp2_with fail
    refine HC2.out.mono ?_
    rintro e w3 ⟨rfl, hb3⟩
    have HX3 := Lib.hid (HX2.out.trans (hb3.mono HX2.out.size))
    have HB3 := Lib.hid (HB2.out.below hb3)
    have HQ3 := Lib.hid (show (is = true ∧ ∃ i n, Isn ns i n ∧ n.p = ⟨pa, pb, pc, pd, pe⟩ ∧ n.q = Q) ∨ (is = false ∧ (∀ i n, Isn ns i n → n.p ≠ ⟨pa, pb, pc, pd, pe⟩) ∧ W.heap.size ≤ Q ∧ QAt w3 Q none 0 none 0 [] [] ∧ C ⟨pa, pb, pc, pd, pe⟩ = ([], [])) from
      HQ2.out.imp id fun ⟨a1, a2, a3, a4, a5⟩ => ⟨a1, a2, Nat.le_trans HX1.out.size a3, a4.below hb3, a5⟩)
    clear hb3 HC2 HCo HQ2 HB2 HX2 HX1 HL1
    by_cases h0 : X.2.1 = 0
    case neg =>
      obtain rfl := HY1.out h0
      have h0' : (X.2.1 == 0) = false := by simpa using h0
      go_wp2_with fail
      go_ret2
      exact Askt.same HTa.out HX3.out rfl
    case pos =>
      obtain ⟨d0, d1⟩ := HDd.out h0
      have HE0 := Lib.hid h0
      rw [h0]
      clear h0
      have hTx3 := HG1.out.below HX3.out
      obtain ⟨e2, e3, fz⟩ := hTx3.cells
      obtain ⟨ha, e0, hL⟩ := hTx3.left
      have HL := Lib.hid hL
      have hlt := (hTx3.lt hTx3.tb).2
      rw [g4] at e3
      rw [g3] at HL
      have HTx3 := Lib.hid hTx3
      have s1 : (0 : Int) ≤ (t : Int) := by omega
      have s2 : (t : Int) ≤ 239 := by omega
      have s3 : u ≤ m := by rw [← g3]; exact hm0.1
      have s4 : m ≤ 4096 := hm0.2
      clear hTx3 hL
      rcases HQ3.out with ⟨rfl, i, n, hi, hnp, rfl⟩ | ⟨rfl, hn, hQl, hq, hC⟩
      · have HI := Lib.hid hi
        have HNp := Lib.hid hnp
        have HSz := Lib.hid (show 0 < szC (C ⟨pa, pb, pc, pd, pe⟩) by rw [← hnp, HG1.out.cy hi]; exact HG2.out i n hi)
        by_cases hcmp : mr - (t : Int) < d
        · obtain rfl := HY2.out HE0.out (.inr hcmp)
          clear hi hnp
          go_wp2_with fail
          go_quiet (fail)
          go_wp2_with fail
          go_ret2
          exact Askt.same HTa.out (HX3.out.trans ((drew_below w3 _).mono HX3.out.size)) rfl
        · obtain rfl := HY3.out HE0.out (fun q => q.elim (fun q => by have := HSz.out; omega) hcmp)
          clear hi hnp
          go_wp2_with fail
          go_quiet (fail)
          go_wp2_with fail
          have hxx := ((HTx3.out.below (drew_below w3 nq)).more (Nat.le_succ c)).count ((t : Int) + d)
          have HXn := HX3.out.trans ((drew_below w3 nq).mono HX3.out.size)
          refine (ask_in HT.out HTa.out hxx.1 HI.out HNp.out g4 (fun j a hj => .inr (HG2.out j a hj)) ((OnlyS.of_below HXn).trans hxx.2) (fun k hk => .inl hk) (by omega) HXX.out.symm HE0.out HD.out.symm (by omega) (.inl HSz.out)).mono ?_
          rintro e w4 ⟨rfl, hr⟩
          have HRr := Lib.hid hr
          clear hr hxx HXn
          go_wp2_with fail
          go_ret2
          exact ⟨rfl, HRr.out⟩
      · have hT0 : ∀ k, T k → k < W.heap.size := fun k hk => (HG1.out.lt hk).2
        have HQT := Lib.hid (show ¬ T Q from fun hk => by have := hT0 Q hk; omega)
        have HQ0 := Lib.hid (show B0 ≤ Q by have := HG1.out.lt HG1.out.tb; omega)
        have HQl := Lib.hid hQl
        have HN := Lib.hid hn
        have HQq := Lib.hid hq
        have HC := Lib.hid hC
        have HZ := Lib.hid (show szC (C ⟨pa, pb, pc, pd, pe⟩) = 0 by rw [hC]; rfl)
        clear hn hQl hq hC hT0
        by_cases hd0 : 0 < d
        · by_cases hum : u = m
          · obtain rfl := HY2.out HE0.out (.inl ⟨HZ.out, hd0, hum⟩)
            have hz1 : ((m : Int) - (u : Int) == 0) = true := by simp; omega
            go_wp2_with fail
            go_quiet ((go_at_call 42; exact Calls.quiet_of (HL.out _)))
            go_wp2_with fail
            go_ret2
            exact Askt.same HTa.out (HX3.out.trans ((drew_below w3 _).mono HX3.out.size)) rfl
          · have hz1 : ((m : Int) - (u : Int) == 0) = false := by simp; omega
            by_cases hcmp : mr - (t : Int) < d
            · obtain rfl := HY2.out HE0.out (.inr hcmp)
              go_wp2_with fail
              go_quiet ((go_at_call 42; exact Calls.quiet_of (HL.out _)))
              go_wp2_with fail
              go_ret2
              exact Askt.same HTa.out (HX3.out.trans ((drew_below w3 _).mono HX3.out.size)) rfl
            · obtain rfl := HY3.out HE0.out (fun q => q.elim (fun q => hum q.2.2) hcmp)
              have HLa := Lib.hid (fun k => lay_any (HTx3.out.below (drew_below w3 k)) (by omega) HQT.out HQ0.out HPr.out HN.out (by omega) (HQq.out.below (drew_below w3 k)))
              have hB3 := HB3.out
              have b0 := hB3.c0
              have b1 := hB3.c1
              have b2 := hB3.c2
              have b3 := hB3.c3
              have b4 := hB3.c4
              simp only at b0 b1 b2 b3 b4
              clear hB3
              go_wp2_with fail
              go_quiet ((go_at_call 42; exact Calls.quiet_of (HL.out _)))
              go_wp2_with fail
              refine (HLa.out nq).mono ?_
              rintro e w4 ⟨rfl, T', ns', i, hTx', hi', htt, hus, hiff, ho', hT'⟩
              have hXn := HX3.out.trans ((drew_below w3 nq).mono HX3.out.size)
              have HO' := Lib.hid ((OnlyS.of_below (S := T) hXn).trans ho')
              have HT' := Lib.hid (show ∀ k, T' k → T k ∨ W.heap.size ≤ k from fun k hk => by
                rcases hT' k hk with q | q | q
                · exact .inl q
                · subst q; exact .inr HQl.out
                · exact .inr (Nat.le_trans hXn.size q))
              have HIf := Lib.hid hiff
              have HI' := Lib.hid hi'
              have HTt := Lib.hid (htt.trans g4)
              have hcc := hTx'.count ((t : Int) + d)
              have HTx' := Lib.hid hTx'
              have HCc := Lib.hid hcc
              obtain ⟨k2, k3, kz⟩ := hTx'.cells
              have kl := (hTx'.lt hTx'.tb).2
              rw [g4] at k3
              clear hTx' hi' htt hus hiff ho' hT' hXn hcc HLa HL b0 b1 b2 b3 b4 e0 e2 e3 fz hlt
              go_wp2_with fail
              refine (ask_in HT.out HTa.out HCc.out.1 HI'.out rfl HTt.out (fun j a hj => ?_) (HO'.out.trans ((OnlyS.set b 3 w4 _).mono fun k _ hk => by rw [hk]; exact HG1.out.tb)) HT'.out (by omega) HXX.out.symm HE0.out HD.out.symm (by omega) (.inr hd0)).mono ?_
              · rcases (HIf.out j a).1 hj with q | ⟨q, -⟩
                · exact .inr (HG2.out j a q)
                · exact .inl q
              rintro e w5 ⟨rfl, hr⟩
              have HRr := Lib.hid hr
              clear hr
              go_wp2_with fail
              go_ret2
              exact ⟨rfl, HRr.out⟩
        · obtain rfl : d = 0 := by omega
          by_cases hcmp : mr - (t : Int) < 0
          · omega
          · obtain rfl := HY3.out HE0.out (fun q => q.elim (fun q => hd0 q.2.1) hcmp)
            have hbQ : Q ≠ b := by have := HG1.out.lt HG1.out.tb; have := HQl.out; omega
            go_wp2_with fail
            go_quiet (fail)
            go_wp2_with fail
            have hxx := (HTx3.out.below (drew_below w3 nq)).count (t : Int)
            have HXn := HX3.out.trans ((drew_below w3 nq).mono HX3.out.size)
            have hqq := (HQq.out.below (drew_below w3 nq)).stay (OnlyS.set b 3 (w3.drewN nq) (.int .i64 (t : Int))) hbQ (.inl rfl) (.inl rfl)
            refine (ask_out HT.out HTa.out hxx.1 HG2.out g3 g4 hqq HQT.out HQl.out ((OnlyS.of_below HXn).trans hxx.2) HXX.out.symm HE0.out HC.out HD.out).mono ?_
            rintro e w4 ⟨rfl, hr⟩
            have HRr := Lib.hid hr
            clear hr hxx HXn hqq
            go_wp2_with fail
            go_ret2
            exact ⟨rfl, HRr.out⟩
end
end Go.Proofs.YtmolohncllcgbaaGreatDoor
