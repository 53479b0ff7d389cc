/- The document's table: the walk of Ask. -/
import Derived.Test.YtjhkejkdnjogiaaGreatDoorEc
import Derived.Deep.RegionLaw
import Derived.Deep.RegionLawGrows
namespace Go.Proofs.YtjhkejkdnjogiaaGreatDoor.Rt
open Go Go.RowKit Go.Shelf
set_option maxRecDepth 100000

section
variable {W W' w : World} {t K m c c' : Nat} {mr : Int} {es es' : List Nd} {D D' T : Nat → Prop} {A A' : Option Addr} {e : Nd} {p : Pa.Pt} {C : Pa.Pt → Cx}
set_option maxHeartbeats 8000000 in
theorem Di.ask (h : Di W t K m mr es D A c) (R : Rel C es) (hn : es.length ≤ 300) (ht : totE es ≤ 300) (hm : es.length ≤ m) (h0 : 0 ≤ mr) (hmr : mr ≤ 1024) (tx md fl : Int) (p : Pa.Pt) :
    Calls Tryz.prog 31 #[qp t, .int .i64 tx, p.v, .int .i64 md, .int .i64 fl] W (Aske W t K m mr es A D C p (askT m mr es.length (totE es) C tx p md fl)) := by
  have HX := Lib.hid (box_below W (.cells (pcs p) 25))
  have HD := Lib.hid h
  have HRel := Lib.hid R
  have HB := Lib.hid (Pbx.new W p 25)
  have HRi := Lib.hid (fun w => Pa.rright_any p w)
  by_cases he : errP p = 0
  case neg =>
    have HY := Lib.hid (show askT m mr es.length (totE es) C tx p md fl = (0, 1, C p) by unfold askT; simp only; rw [if_pos he, errP_no he])
    rw [HY.out]
    have hr : Pa.rightB p = false := by
      cases q : Pa.rightB p
      · rfl
      · exact absurd (by unfold errP; rw [if_pos q]) he
    rw [hr] at HRi
    clear h R hn ht hm h0 hmr he hr
    obtain ⟨pa, pb, pc, pd, pe⟩ := p
    go_enter Tryz.func31, Tryz.ntmps31
    have hB9 := HB.out
    have b0 := hB9.c0
    have b1 := hB9.c1
    have b2 := hB9.c2
    have b3 := hB9.c3
    have b4 := hB9.c4
    simp only at b0 b1 b2 b3 b4
    clear hB9
    go_wp2_with fail
    refine (HRi.out _).mono ?_
    rintro e w1 ⟨rfl, hb1⟩
    have HX1 := Lib.hid (HX.out.trans (hb1.mono HX.out.size))
    clear hb1 b0 b1 b2 b3 b4
    go_wp2_with fail
    go_ret2
    exact Aske.same HD.out HRel.out HX1.out rfl
  case pos =>
    have hpr := errP_yes he
    rw [hpr] at HRi
    have HPr := Lib.hid hpr
    obtain ⟨r, hr⟩ := Fd.is es p
    have HFi := Lib.hid (fun (w1 : World) (hb : Below W.heap.size W w1) => (h.below hb).find (by omega) hr)
    have HU := Lib.hid (fun (w1 : World) (hb : Below W.heap.size W w1) => (h.below hb).used (by omega) (by omega))
    have HSz := Lib.hid (fun (w : World) (Q : Nat) (H : List Hs.Hd) (L : List Ws.Wt) (z : Nat) (hz : H.length + L.length = z) (hz' : z ≤ 1000) (hq : ∃ A1 c1 A2 c2, RAt w Q p A1 c1 A2 c2 H L) => (show Calls Tryz.prog 62 #[qp Q] w fun e w' => e = .returned (.int .i64 (z : Int)) ∧ Below w.heap.size w w' from by
      obtain ⟨A1, c1, A2, c2, hq⟩ := hq
      have := rsize_any hq (by omega) (by omega)
      rw [hz] at this
      exact this))
    obtain ⟨n, hN⟩ : ∃ n, es.length = n := ⟨_, rfl⟩
    have HN := Lib.hid hN
    obtain ⟨tot, hT⟩ : ∃ n, totE es = n := ⟨_, rfl⟩
    rcases hr with ⟨i, hi, rfl, hp, hno⟩ | ⟨rfl, hno⟩
    · obtain ⟨g, hA, -⟩ := h.at hi
      subst hA
      obtain ⟨x, hx⟩ : ∃ x, es[i]'hi = x := ⟨_, rfl⟩
      have hm1 : x ∈ es := hx ▸ List.getElem_mem hi
      rw [hx] at hp
      obtain ⟨P, q, H, L⟩ := x
      obtain rfl : P = p := hp
      have HXx := Lib.hid hx
      have HI := Lib.hid hi
      have HP := Lib.hid (show (es[i]'hi).p = P by rw [hx])
      have hC : C P = (H, L) := R.cy _ hm1
      obtain ⟨z0, hz0⟩ : ∃ z, H.length + L.length = z := ⟨_, rfl⟩
      have hzt : z0 ≤ 300 ∧ 0 < z0 := by
        have h1 := totE_ge hm1
        have h2 := (R.ok _ hm1).2
        simp only at h1 h2
        omega
      have HCo := Lib.hid (fun (w : World) (hb : Below W.heap.size W w) => (show Calls Tryz.prog 61 #[qp q] w (RMk w P H L) from by
        obtain ⟨A1, c1, A2, c2, hR, -⟩ := (h.below hb).ent _ hm1
        exact rcopy_any hR (by omega) (by omega)))
      have hC1 : (C P).1 = H := by rw [hC]
      have hC2 : (C P).2 = L := by rw [hC]
      obtain ⟨X, hX⟩ : ∃ X, Go.Proofs.YtjhkejkdnjogiaaGreatDoor.ask tx md fl H L = X := ⟨_, rfl⟩
      obtain ⟨z1, hz1⟩ : ∃ z, X.2.2.1.length + X.2.2.2.length = z := ⟨_, rfl⟩
      have hge : z0 ≤ z1 ∧ z1 ≤ z0 + 1 := by
        have h1 := ask_len tx md fl H L
        have h2 := ask_ge tx md fl H L
        rw [hX] at h1 h2
        omega
      have hd : X.2.1 = 0 → costV X (C P).1 (C P).2 = (z1 : Int) - (z0 : Int) := fun q => by
        unfold costV
        rw [if_pos q, hC1, hC2, hz1, hz0]
      have hX' : Go.Proofs.YtjhkejkdnjogiaaGreatDoor.ask tx md fl (C P).1 (C P).2 = X := by rw [hC1, hC2]; exact hX
      have hsz : szC (C P) = z0 := by rw [hC]; exact hz0
      have HY1 := Lib.hid (fun (q : X.2.1 ≠ 0) => (show askT m mr es.length (totE es) C tx P md fl = (0, X.2.1, C P) by unfold askT; simp only; rw [hX', if_neg (by rw [he]; simp), if_pos q]))
      have HY2 := Lib.hid (fun (q : X.2.1 = 0) (q2 : mr - (tot : Int) < (z1 : Int) - (z0 : Int)) => (show askT m mr es.length (totE es) C tx P md fl = (0, 10, C P) by
        unfold askT
        simp only
        rw [hX', hd q, if_neg (by rw [he]; simp), if_neg (by rw [q]; simp), hsz, hN, hT, if_pos (.inr q2)]))
      have HY3 := Lib.hid (fun (q : X.2.1 = 0) (q2 : ¬ (mr - (tot : Int) < (z1 : Int) - (z0 : Int))) => (show askT m mr es.length (totE es) C tx P md fl = (X.1, 0, X.2.2) by
        unfold askT
        simp only
        rw [hX', hd q, if_neg (by rw [he]; simp), if_neg (by rw [q]; simp), hsz, hN, hT, if_neg (fun y => y.elim (fun y => by have := y.1; omega) q2), q]))
      have HAs := Lib.hid (fun (w : World) (Q : Nat) (A1 : Option Addr) (c1 : Nat) (A2 : Option Addr) (c2 : Nat) (hq : RAt w Q P A1 c1 A2 c2 H L) => (show Calls Tryz.prog 63 #[qp Q, .int .i64 tx, .int .i64 md, .int .i64 fl] w (RDoes Q P w (A1, H) (A2, L) X) from by
        rw [← hX]
        exact rask_any hq (by omega) (by omega) tx md fl))
      have HZ := Lib.hid (And.intro hz0 hz1)
      have HCc := Lib.hid hC
      have hnn : n ≤ 300 := by omega
      have htt : tot ≤ 300 := by omega
      have hnm : n ≤ m := by omega
      have hb0 : z0 ≤ 300 := by omega
      have hb1 : z1 ≤ 301 := by omega
      have hb2 : z0 ≤ z1 := hge.1
      rw [hT] at HU
      generalize hYY : askT m mr es.length (totE es) C tx P md fl = Y at *
      have hzp : 0 < z0 := hzt.2
      clear h R hn ht hm he hpr hC hC1 hC2 hX hX' hd hsz hz0 hz1 hge hzt hYY hT hN hno hm1 hx
      obtain ⟨pa, pb, pc, pd, pe⟩ := P
      go_enter Tryz.func31, Tryz.ntmps31
      have hB9 := HB.out
      have b0 := hB9.c0
      have b1 := hB9.c1
      have b2 := hB9.c2
      have b3 := hB9.c3
      have b4 := hB9.c4
      simp only at b0 b1 b2 b3 b4
      clear hB9
      go_wp2_with fail
      refine (HRi.out _).mono ?_
      rintro e w1 ⟨rfl, hb1'⟩
      have HX1 := Lib.hid (HX.out.trans (hb1'.mono HX.out.size))
      have HB1 := Lib.hid (HB.out.below hb1')
      clear hb1' HRi b0 b1 b2 b3 b4
      have hB9 := HB1.out
      have b0 := hB9.c0
      have b1 := hB9.c1
      have b2 := hB9.c2
      have b3 := hB9.c3
      have b4 := hB9.c4
      simp only at b0 b1 b2 b3 b4
      clear hB9
      go_wp2_with fail
      refine (HFi.out w1 HX1.out).mono ?_
      rintro e w2 ⟨rfl, hb2'⟩
      have HX2 := Lib.hid (HX1.out.trans (hb2'.mono HX1.out.size))
      have HB2 := Lib.hid (HB1.out.below hb2')
      clear hb2' HFi HX1 HB1 HX HB b0 b1 b2 b3 b4
      have hB9 := HB2.out
      have b0 := hB9.c0
      have b1 := hB9.c1
      have b2 := hB9.c2
      have b3 := hB9.c3
      have b4 := hB9.c4
      simp only at b0 b1 b2 b3 b4
      clear hB9
      have hbx := box_below w2 (.cells #[.int .i64 pa, .int .i64 pb, .int .i64 pc, .int .i64 pd, .int .i64 pe, .slice none 0 0, .slice none 0 0] 79)
      have hd2 := HD.out.below HX2.out
      have e0 := hd2.e0 HN.out
      obtain ⟨g', hg', c0, -⟩ := hd2.at HI.out
      cases hg'
      rw [show (es[i]'HI.out).q = q by rw [HXx.out]] at c0
      have l0 := hd2.lt
      have l1 := cell_lt c0
      simp only at l1
      have hi0 : ¬ (i : Int) < 0 := by omega
      have hin : i < n := by rw [← HN.out]; exact HI.out
      have HX2b := Lib.hid (HX2.out.trans (hbx.mono HX2.out.size))
      have HB2b := Lib.hid (HB2.out.below hbx)
      clear hd2 hbx HB2
      go_wp2_with fail
      refine (HCo.out _ HX2b.out).mono ?_
      rintro e w3 ⟨Q, A1, c1, A2, c2, rfl, hR, hb3, hQ, f1, f2⟩
      have HX3 := Lib.hid (HX2b.out.trans (hb3.mono HX2b.out.size))
      have HB3 := Lib.hid (HB2b.out.below hb3)
      have hQW := Nat.le_trans HX2b.out.size hQ
      have HO1 := Lib.hid (show Off (Fresh W Q) A1 H from .inr fun a ha hk => by
        have h1 := f1 a ha
        rcases hk with k | k
        · have := HX2b.out.size; omega
        · exact h1.2 k)
      have HO2 := Lib.hid (show Off (Fresh W Q) A2 L from .inr fun a ha hk => by
        have h1 := f2 a ha
        rcases hk with k | k
        · have := HX2b.out.size; omega
        · exact h1.2 k)
      have HR3 := Lib.hid hR
      have HQW := Lib.hid hQW
      have HBQ := Lib.hid (show W.heap.size < Q from Nat.lt_of_lt_of_le (cell_lt HB2b.out.c0) hQ)
      clear hR hb3 hQ f1 f2 hQW HCo HX2b HB2b HX2 e0 c0 l0 l1 b0 b1 b2 b3 b4
      go_wp2_with fail
      refine (HSz.out w3 Q H L z0 HZ.out.1 (by omega) ⟨_, _, _, _, HR3.out⟩).mono ?_
      rintro e w4 ⟨rfl, hb4⟩
      have HX4 := Lib.hid (HX3.out.trans (hb4.mono HX3.out.size))
      have HB4 := Lib.hid (HB3.out.below hb4)
      have HR4 := Lib.hid (HR3.out.below hb4)
      clear hb4 HX3 HB3 HR3
      go_wp2_with fail
      refine (HAs.out w4 Q A1 c1 A2 c2 HR4.out).mono ?_
      rintro e w5 ⟨rfl, ⟨B1, d1, B2, d2, hR5, g1, g2⟩, ho5, hn5⟩
      have hfr : ∀ k, Fresh W Q k → k < w4.heap.size := fun k hk => by
        rcases hk with q | rfl
        · have := HX4.out.size; omega
        · exact HR4.out.lt
      have HO3 := Lib.hid (HO1.out.frb g1 hfr)
      have HO4 := Lib.hid (HO2.out.frb g2 hfr)
      have hbb5 : Below W.heap.size w4 w5 := ho5.below (fun k hk => by rw [hk]; exact HQW.out) HX4.out.size
      have HX5 := Lib.hid (HX4.out.trans hbb5)
      have HB5 := Lib.hid (HB4.out.only ho5 (fun e => by have h1 := HBQ.out; have h2 : W.heap.size = Q := e; omega))
      have HR5 := Lib.hid hR5
      clear hR5 g1 g2 ho5 hn5 hfr hbb5 HO1 HO2 HX4 HB4 HR4 HAs
      by_cases hx0 : X.2.1 = 0
      case neg =>
        obtain rfl := HY1.out hx0
        have hx0' : (X.2.1 == 0) = false := by simpa using hx0
        go_wp2_with fail
        go_ret2
        exact Aske.same HD.out HRel.out HX5.out rfl
      case pos =>
        have HE0 := Lib.hid hx0
        rw [hx0]
        clear hx0
        go_wp2_with fail
        refine (HSz.out w5 Q X.2.2.1 X.2.2.2 z1 HZ.out.2 (by omega) ⟨_, _, _, _, HR5.out⟩).mono ?_
        rintro e w6 ⟨rfl, hb6⟩
        have HX6 := Lib.hid (HX5.out.trans (hb6.mono HX5.out.size))
        have HB6 := Lib.hid (HB5.out.below hb6)
        have HR6 := Lib.hid (HR5.out.below hb6)
        clear hb6 HX5 HB5 HR5
        have hd6 := HD.out.below HX6.out
        have e0 := hd6.e0 HN.out
        have e1 := hd6.e1
        have e2 := hd6.e2
        have l0 := hd6.lt
        have gU : Gives w6 64 #[qp t] (.int .i64 (tot : Int)) := fun w' hb => acc hb (HU.out w' (HX6.out.trans (hb.mono HX6.out.size)))
        clear hd6
        by_cases hcmp : mr - (tot : Int) < (z1 : Int) - (z0 : Int)
        · obtain rfl := HY2.out HE0.out (by omega)
          go_wp2_with fail
          refine wp_region_later w6 (by kernel_rfl) (by kernel_rfl) (Below.refl _ _) ?_
          repeat (go_big_quiet_step ((go_at_call 64; exact Gives.later (by with_reducible assumption))))
          refine wpQuiet_nil ?_
          intro w7 hw7
          have hb7 := in_later hw7
          have HX7 := Lib.hid (HX6.out.trans (hb7.mono HX6.out.size))
          have HR7 := Lib.hid (HR6.out.below hb7)
          have HB7 := Lib.hid (HB6.out.below hb7)
          clear hw7 hb7 gU e0 e1 e2 l0
          go_wp2_with fail
          go_ret2
          exact Aske.same HD.out HRel.out HX7.out rfl
        · obtain rfl := HY3.out HE0.out (by omega)
          have hcb : decide (mr - (tot : Int) < (z1 : Int) - (z0 : Int)) = false := decide_eq_false hcmp
          have hib : decide ((i : Int) < 0) = false := decide_eq_false (by omega)
          go_wp2_with fail
          refine wp_region_later w6 (by kernel_rfl) (by kernel_rfl) (Below.refl _ _) ?_
          repeat (go_big_quiet_step ((go_at_call 64; exact Gives.later (by with_reducible assumption))))
          refine wpQuiet_nil ?_
          intro w7 hw7
          have hb7 := in_later hw7
          have HX7 := Lib.hid (HX6.out.trans (hb7.mono HX6.out.size))
          have HR7 := Lib.hid (HR6.out.below hb7)
          have HB7 := Lib.hid (HB6.out.below hb7)
          clear hw7 hb7 gU e0 e1 e2 l0
          have hd7 := HD.out.below HX7.out
          have e0 := hd7.e0 HN.out
          obtain ⟨g', hg', c0, f0⟩ := hd7.at HI.out
          cases hg'
          have HS := Lib.hid (set_done HD.out HRel.out HX7.out HR7.out HQW.out HO3.out HO4.out HI.out HP.out (show 0 < szC (X.2.2.1, X.2.2.2) by unfold szC; simp only; have := HZ.out.2; omega) (Y := (X.1, 0, X.2.2)) rfl)
          simp only at HS
          clear hd7
          go_wp2_with fail
          go_ret2
          exact HS.out
    · have HNo := Lib.hid hno
      obtain ⟨H, hH⟩ : ∃ H, ([] : List Hs.Hd) = H := ⟨_, rfl⟩
      obtain ⟨L, hL⟩ : ∃ L, ([] : List Ws.Wt) = L := ⟨_, rfl⟩
      have hC : C p = (H, L) := by rw [R.cn p hno, hH, hL]
      obtain ⟨z0, hz0⟩ : ∃ z, H.length + L.length = z := ⟨_, rfl⟩
      have hzt : z0 = 0 := by rw [← hz0, ← hH, ← hL]; rfl
      have hC1 : (C p).1 = H := by rw [hC]
      have hC2 : (C p).2 = L := by rw [hC]
      obtain ⟨X, hX⟩ : ∃ X, Go.Proofs.YtjhkejkdnjogiaaGreatDoor.ask tx md fl H L = X := ⟨_, rfl⟩
      obtain ⟨z1, hz1⟩ : ∃ z, X.2.2.1.length + X.2.2.2.length = z := ⟨_, rfl⟩
      have hge : z0 ≤ z1 ∧ z1 ≤ z0 + 1 := by
        have h1 := ask_len tx md fl H L
        have h2 := ask_ge tx md fl H L
        rw [hX] at h1 h2
        omega
      have hd : X.2.1 = 0 → costV X (C p).1 (C p).2 = (z1 : Int) - (z0 : Int) := fun q => by
        unfold costV
        rw [if_pos q, hC1, hC2, hz1, hz0]
      have hX' : Go.Proofs.YtjhkejkdnjogiaaGreatDoor.ask tx md fl (C p).1 (C p).2 = X := by rw [hC1, hC2]; exact hX
      have hsz : szC (C p) = z0 := by rw [hC]; exact hz0
      have HY1 := Lib.hid (fun (q : X.2.1 ≠ 0) => (show askT m mr es.length (totE es) C tx p md fl = (0, X.2.1, C p) by unfold askT; simp only; rw [hX', if_neg (by rw [he]; simp), if_pos q]))
      have HY2 := Lib.hid (fun (q : X.2.1 = 0) (q2 : (0 < (z1 : Int) - (z0 : Int) ∧ n = m) ∨ mr - (tot : Int) < (z1 : Int) - (z0 : Int)) => (show askT m mr es.length (totE es) C tx p md fl = (0, 10, C p) by
        unfold askT
        simp only
        rw [hX', hd q, if_neg (by rw [he]; simp), if_neg (by rw [q]; simp), hsz, hN, hT, if_pos (q2.imp (fun y => ⟨hzt, y⟩) id)]))
      have HY3 := Lib.hid (fun (q : X.2.1 = 0) (q2 : ¬ ((0 < (z1 : Int) - (z0 : Int) ∧ n = m) ∨ mr - (tot : Int) < (z1 : Int) - (z0 : Int))) => (show askT m mr es.length (totE es) C tx p md fl = (X.1, 0, X.2.2) by
        unfold askT
        simp only
        rw [hX', hd q, if_neg (by rw [he]; simp), if_neg (by rw [q]; simp), hsz, hN, hT, if_neg (fun y => q2 (y.imp (fun y => y.2) id)), q]))
      have HAs := Lib.hid (fun (w : World) (Q : Nat) (A1 : Option Addr) (c1 : Nat) (A2 : Option Addr) (c2 : Nat) (hq : RAt w Q p A1 c1 A2 c2 H L) => (show Calls Tryz.prog 63 #[qp Q, .int .i64 tx, .int .i64 md, .int .i64 fl] w (RDoes Q p w (A1, H) (A2, L) X) from by
        rw [← hX]
        exact rask_any hq (by omega) (by omega) tx md fl))
      have HZ := Lib.hid (And.intro hz0 hz1)
      have HCc := Lib.hid hC
      have hnn : n ≤ 300 := by omega
      have htt : tot ≤ 300 := by omega
      have hnm : n ≤ m := by omega
      have hb0 : z0 ≤ 300 := by omega
      have hb1 : z1 ≤ 301 := by omega
      have hb2 : z0 ≤ z1 := hge.1
      rw [hT] at HU
      generalize hYY : askT m mr es.length (totE es) C tx p md fl = Y at *
      have HZ0 := Lib.hid hzt
      have HHL := Lib.hid (And.intro hH hL)
      clear h R hn ht hm he hpr hC hC1 hC2 hX hX' hd hsz hz0 hz1 hge hzt hYY hT hN hno hH hL
      obtain ⟨pa, pb, pc, pd, pe⟩ := p
      go_enter Tryz.func31, Tryz.ntmps31
      have hB9 := HB.out
      have b0 := hB9.c0
      have b1 := hB9.c1
      have b2 := hB9.c2
      have b3 := hB9.c3
      have b4 := hB9.c4
      simp only at b0 b1 b2 b3 b4
      clear hB9
      go_wp2_with fail
      refine (HRi.out _).mono ?_
      rintro e w1 ⟨rfl, hb1'⟩
      have HX1 := Lib.hid (HX.out.trans (hb1'.mono HX.out.size))
      have HB1 := Lib.hid (HB.out.below hb1')
      clear hb1' HRi b0 b1 b2 b3 b4
      have hB9 := HB1.out
      have b0 := hB9.c0
      have b1 := hB9.c1
      have b2 := hB9.c2
      have b3 := hB9.c3
      have b4 := hB9.c4
      simp only at b0 b1 b2 b3 b4
      clear hB9
      go_wp2_with fail
      refine (HFi.out w1 HX1.out).mono ?_
      rintro e w2 ⟨rfl, hb2'⟩
      have HX2 := Lib.hid (HX1.out.trans (hb2'.mono HX1.out.size))
      have HB2 := Lib.hid (HB1.out.below hb2')
      clear hb2' HFi HX1 HB1 HX HB b0 b1 b2 b3 b4
      have hB9 := HB2.out
      have b0 := hB9.c0
      have b1 := hB9.c1
      have b2 := hB9.c2
      have b3 := hB9.c3
      have b4 := hB9.c4
      simp only at b0 b1 b2 b3 b4
      clear hB9
      have hbx := box_below w2 (.cells #[.int .i64 pa, .int .i64 pb, .int .i64 pc, .int .i64 pd, .int .i64 pe, .slice none 0 0, .slice none 0 0] 79)
      have HR3 := Lib.hid (show RAt (w2.alloc (.cells #[.int .i64 pa, .int .i64 pb, .int .i64 pc, .int .i64 pd, .int .i64 pe, .slice none 0 0, .slice none 0 0] 79)) w2.heap.size ⟨pa, pb, pc, pd, pe⟩ none 0 none 0 H L from by
        obtain ⟨rfl, rfl⟩ := HHL.out
        exact RAt.new w2 ⟨pa, pb, pc, pd, pe⟩ (Hs.Ls.nils _) (Ws.Ls.nils _))
      have HX3 := Lib.hid (HX2.out.trans (hbx.mono HX2.out.size))
      have HB3 := Lib.hid (HB2.out.below hbx)
      have HQW := Lib.hid HX2.out.size
      have HBQ := Lib.hid (show W.heap.size < w2.heap.size from cell_lt HB2.out.c0)
      obtain ⟨A1, hA1⟩ : ∃ A1 : Option Addr, none = A1 := ⟨_, rfl⟩
      obtain ⟨A2, hA2⟩ : ∃ A2 : Option Addr, none = A2 := ⟨_, rfl⟩
      obtain ⟨c1, hc1⟩ : ∃ c1 : Nat, 0 = c1 := ⟨_, rfl⟩
      obtain ⟨c2, hc2⟩ : ∃ c2 : Nat, 0 = c2 := ⟨_, rfl⟩
      have HO1 := Lib.hid (show Off (Fresh W w2.heap.size) A1 H from .inl HHL.out.1.symm)
      have HO2 := Lib.hid (show Off (Fresh W w2.heap.size) A2 L from .inl HHL.out.2.symm)
      replace HR3 := Lib.hid (show RAt _ w2.heap.size ⟨pa, pb, pc, pd, pe⟩ A1 c1 A2 c2 H L from by rw [← hA1, ← hA2, ← hc1, ← hc2]; exact HR3.out)
      clear hA1 hA2 hc1 hc2 hbx HB2
      go_wp2_with fail
      generalize w2.alloc (.cells #[.int .i64 pa, .int .i64 pb, .int .i64 pc, .int .i64 pd, .int .i64 pe, .slice none 0 0, .slice none 0 0] 79) = w3 at *
      generalize w2.heap.size = Q at *
      clear HX2 b0 b1 b2 b3 b4
      refine (HSz.out w3 Q H L z0 HZ.out.1 (by omega) ⟨_, _, _, _, HR3.out⟩).mono ?_
      rintro e w4 ⟨rfl, hb4⟩
      have HX4 := Lib.hid (HX3.out.trans (hb4.mono HX3.out.size))
      have HB4 := Lib.hid (HB3.out.below hb4)
      have HR4 := Lib.hid (HR3.out.below hb4)
      clear hb4 HX3 HB3 HR3
      go_wp2_with fail
      refine (HAs.out w4 Q A1 c1 A2 c2 HR4.out).mono ?_
      rintro e w5 ⟨rfl, ⟨B1, d1, B2, d2, hR5, g1, g2⟩, ho5, hn5⟩
      have hfr : ∀ k, Fresh W Q k → k < w4.heap.size := fun k hk => by
        rcases hk with q | rfl
        · have := HX4.out.size; omega
        · exact HR4.out.lt
      have HO3 := Lib.hid (HO1.out.frb g1 hfr)
      have HO4 := Lib.hid (HO2.out.frb g2 hfr)
      have hbb5 : Below W.heap.size w4 w5 := ho5.below (fun k hk => by rw [hk]; exact HQW.out) HX4.out.size
      have HX5 := Lib.hid (HX4.out.trans hbb5)
      have HB5 := Lib.hid (HB4.out.only ho5 (fun e => by have h1 := HBQ.out; have h2 : W.heap.size = Q := e; omega))
      have HR5 := Lib.hid hR5
      clear hR5 g1 g2 ho5 hn5 hfr hbb5 HO1 HO2 HX4 HB4 HR4 HAs
      by_cases hx0 : X.2.1 = 0
      case neg =>
        obtain rfl := HY1.out hx0
        have hx0' : (X.2.1 == 0) = false := by simpa using hx0
        go_wp2_with fail
        go_ret2
        exact Aske.same HD.out HRel.out HX5.out rfl
      case pos =>
        have HE0 := Lib.hid hx0
        rw [hx0]
        clear hx0
        go_wp2_with fail
        refine (HSz.out w5 Q X.2.2.1 X.2.2.2 z1 HZ.out.2 (by omega) ⟨_, _, _, _, HR5.out⟩).mono ?_
        rintro e w6 ⟨rfl, hb6⟩
        have HX6 := Lib.hid (HX5.out.trans (hb6.mono HX5.out.size))
        have HB6 := Lib.hid (HB5.out.below hb6)
        have HR6 := Lib.hid (HR5.out.below hb6)
        clear hb6 HX5 HB5 HR5
        have hd6 := HD.out.below HX6.out
        have e0 := hd6.e0 HN.out
        have e1 := hd6.e1
        have e2 := hd6.e2
        have l0 := hd6.lt
        have gU : Gives w6 64 #[qp t] (.int .i64 (tot : Int)) := fun w' hb => acc hb (HU.out w' (HX6.out.trans (hb.mono HX6.out.size)))
        clear hd6
        by_cases hcmp : mr - (tot : Int) < (z1 : Int) - (z0 : Int)
        · obtain rfl := HY2.out HE0.out (by omega)
          go_wp2_with fail
          refine wp_region_later w6 (by kernel_rfl) (by kernel_rfl) (Below.refl _ _) ?_
          repeat (go_big_quiet_step ((go_at_call 64; exact Gives.later (by with_reducible assumption))))
          refine wpQuiet_nil ?_
          intro w7 hw7
          have hb7 := in_later hw7
          have HX7 := Lib.hid (HX6.out.trans (hb7.mono HX6.out.size))
          have HR7 := Lib.hid (HR6.out.below hb7)
          have HB7 := Lib.hid (HB6.out.below hb7)
          clear hw7 hb7 gU e0 e1 e2 l0
          go_wp2_with fail
          go_ret2
          exact Aske.same HD.out HRel.out HX7.out rfl
        · have hcb : decide (mr - (tot : Int) < (z1 : Int) - (z0 : Int)) = false := decide_eq_false hcmp
          by_cases hd0 : 0 < (z1 : Int) - (z0 : Int)
          · by_cases hum : n = m
            · obtain rfl := HY2.out HE0.out (by omega)
              have hge : (m : Int) ≤ (n : Int) := by omega
              have hgb : decide ((m : Int) ≤ (n : Int)) = true := decide_eq_true hge
              have hdb : decide (0 < (z1 : Int) - (z0 : Int)) = true := decide_eq_true hd0
              have hdc : decide ((z0 : Int) < (z1 : Int)) = true := decide_eq_true (by omega)
              have hdn : decide (z0 < z1) = true := decide_eq_true (by omega)
              have hub : decide ((-1 : Int) < 0) = true := rfl
              go_wp2_with fail
              refine wp_region_later w6 (by kernel_rfl) (by kernel_rfl) (Below.refl _ _) ?_
              repeat (go_big_quiet_step ((go_at_call 64; exact Gives.later (by with_reducible assumption))))
              refine wpQuiet_nil ?_
              intro w7 hw7
              have hb7 := in_later hw7
              have HX7 := Lib.hid (HX6.out.trans (hb7.mono HX6.out.size))
              have HR7 := Lib.hid (HR6.out.below hb7)
              have HB7 := Lib.hid (HB6.out.below hb7)
              clear hw7 hb7 gU e0 e1 e2 l0
              go_wp2_with fail
              go_ret2
              exact Aske.same HD.out HRel.out HX7.out rfl
            · obtain rfl := HY3.out HE0.out (by omega)
              have hge : ¬ (m : Int) ≤ (n : Int) := by omega
              have hgb : decide ((m : Int) ≤ (n : Int)) = false := decide_eq_false hge
              have hgn : decide (m ≤ n) = false := decide_eq_false (by omega)
              have hdb : decide (0 < (z1 : Int) - (z0 : Int)) = true := decide_eq_true hd0
              have hdc : decide ((z0 : Int) < (z1 : Int)) = true := decide_eq_true (by omega)
              have hdn : decide (z0 < z1) = true := decide_eq_true (by omega)
              have hub : decide ((-1 : Int) < 0) = true := rfl
              go_wp2_with fail
              refine wp_region_later w6 (by kernel_rfl) (by kernel_rfl) (Below.refl _ _) ?_
              repeat (go_big_quiet_step ((go_at_call 64; exact Gives.later (by with_reducible assumption))))
              refine wpQuiet_nil ?_
              intro w7 hw7
              have hb7 := in_later hw7
              have HX7 := Lib.hid (HX6.out.trans (hb7.mono HX6.out.size))
              have HR7 := Lib.hid (HR6.out.below hb7)
              have HB7 := Lib.hid (HB6.out.below hb7)
              clear hw7 hb7 gU e0 e1 e2 l0
              have HSz2 := Lib.hid (show 0 < szC (X.2.2.1, X.2.2.2) by unfold szC; simp only; have := HZ.out.2; omega)
              go_wp2_with fail
              clear hge hum hgb hub hgn
              go_loopw [18] (fun v wr => ∃ j : Nat, j ≤ n ∧ v = .int .i64 j ∧ (∀ (i : Nat) (_ : i < j) (hi : i < es.length), Pa.lessB es[i].p ⟨pa, pb, pc, pd, pe⟩ = true) ∧ Below w7.heap.size w7 wr) (fun v _ => n - (intOf v).toNat)
              case atStart => exact ⟨0, by omega, rfl, fun i hi => by omega, Below.refl _ _⟩
              case round =>
                obtain ⟨j, hj, rfl, hall, hb⟩ := hrel
                have HA := Lib.hid hall
                have HXr := Lib.hid (HX7.out.trans (hb.mono HX7.out.size))
                have HRr := Lib.hid (HR7.out.below hb)
                have HBr := Lib.hid (HB7.out.below hb)
                have HBe := Lib.hid hb
                have hdr := HD.out.below HXr.out
                have e0 := hdr.e0 HN.out
                have l0 := hdr.lt
                clear hall hb
                have hB9 := HBr.out
                have b0 := hB9.c0
                have b1 := hB9.c1
                have b2 := hB9.c2
                have b3 := hB9.c3
                have b4 := hB9.c4
                simp only at b0 b1 b2 b3 b4
                clear hB9
                by_cases hjn : j < n
                · have hjl : j < es.length := by rw [HN.out]; exact hjn
                  obtain ⟨g, hg, c0, -⟩ := hdr.at hjl
                  obtain ⟨C1, k1, C2, k2, hRj, -⟩ := hdr.ent _ (List.getElem_mem hjl)
                  obtain ⟨bb, hbb⟩ : ∃ b, Pa.lessB es[j].p ⟨pa, pb, pc, pd, pe⟩ = b := ⟨_, rfl⟩
                  have HLs := Lib.hid (show ∀ hi : j < es.length, Pa.lessB (es[j]'hi).p ⟨pa, pb, pc, pd, pe⟩ = bb from fun _ => hbb)
                  obtain ⟨x, hx⟩ : ∃ x, es[j] = x := ⟨_, rfl⟩
                  rw [hx] at c0 hRj hbb
                  obtain ⟨⟨qa, qb, qc, qd, qe⟩, Q', H', L'⟩ := x
                  have r0 := hRj.e0
                  have r1 := hRj.e1
                  have r2 := hRj.e2
                  have r3 := hRj.e3
                  have r4 := hRj.e4
                  have l1 := hRj.lt
                  have l2 := cell_lt c0
                  have l3 := cell_lt HBr.out.c0
                  simp only at c0 r0 r1 r2 r3 r4 hbb l1 l2
                  have gL : Gives wr 65 #[Pa.Pt.v ⟨qa, qb, qc, qd, qe⟩, Pa.Pt.v ⟨pa, pb, pc, pd, pe⟩] (.bool bb) := fun w' hb => by
                    have := acc hb (Pa.rless_any ⟨qa, qb, qc, qd, qe⟩ ⟨pa, pb, pc, pd, pe⟩ w')
                    rw [hbb] at this
                    exact this
                  clear hRj hx hbb hdr
                  subst hg
                  go_wp2_with fail
                  refine wp_region_later wr (by kernel_rfl) (by kernel_rfl) (Below.refl _ _) ?_
                  repeat (go_big_quiet_step ((go_at_call 65; exact Gives.later (by with_reducible assumption))))
                  refine wpQuiet_nil ?_
                  intro w8 hw8
                  have hb8 := in_later hw8
                  have HX8 := Lib.hid (HXr.out.trans (hb8.mono HXr.out.size))
                  have HR8 := Lib.hid (HRr.out.below hb8)
                  have HB8 := Lib.hid (HBe.out.trans (hb8.mono HBe.out.size))
                  clear hw8 hb8 gL e0 l0 l1 l2 l3 c0 r0 r1 r2 r3 r4 b0 b1 b2 b3 b4
                  cases bb
                  · have HLt := Lib.hid (show ∀ hi : j < es.length, Pa.lessB es[j].p ⟨pa, pb, pc, pd, pe⟩ = false from HLs.out)
                    have hd8 := HD.out.below HX8.out
                    have e0 := hd8.e0 HN.out
                    have l0 := hd8.lt
                    have hcap := hd8.rd.cap
                    have hroom := hd8.rd.room
                    rw [List.length_map, HN.out] at hcap
                    by_cases hcj : c = j
                    · omega
                    · skip
                      obtain ⟨A5, c5, w8b, A6, c6, w9, hr5, hr6, hrd6, hb8b, hb9⟩ := ins_some (k := j) (Q := Q) hd8.rd (by rw [List.length_map, HN.out]; omega) (by rw [List.length_map, HN.out]; omega) (sa := ⟨g, j, none⟩) (by rw [if_neg hcj]) (n := n) (by rw [List.length_map, HN.out])
                      have HS := Lib.hid (ins_done (k := j) (n' := j + (1 + (n - j))) (p := ⟨pa, pb, pc, pd, pe⟩) (Y := (X.1, 0, X.2.2)) HD.out HRel.out HX8.out HR8.out HQW.out HO3.out HO4.out HNo.out HPr.out (by rw [HN.out]; omega) HA.out HLt.out hrd6 hb9 HSz2.out (by rw [HN.out]; omega) rfl)
                      have q7 : (j : Int) ≤ (n : Int) := by omega
                      have q8 : (j : Int) ≤ (c : Int) := by omega
                      simp only at HS
                      have hd9 := hd8.below hb9
                      have r0 := hd9.e0 HN.out
                      have rf := hd9.fz 0
                      have s0 := (hd8.below hb8b).e0 HN.out
                      have l8 := (hd8.below hb8b).lt
                      have HR5 := Lib.hid hr5
                      have HR6 := Lib.hid hr6
                      have l9 := hd9.lt
                      have q6 : j ≤ c := by omega
                      unfold maxLen at hroom
                      clear hd8 hd9 hr5 hr6 hrd6 hb9 hb8b
                      go_wp2_with fail
                      go_region_law (first
                        | (refine step_append_run ?h1 (.tmp 127) (.tmp 133) 38 ?h2 (.slice (some ⟨w8.heap.size, 0, none⟩) 1 1) (.slice (some ⟨g, j, none⟩) (n - j) (c - j)) ?h3 ?h4 _ _ HR5.out ?_; rotate_right; (case h1 => rfl); (case h2 => rfl); (case h3 => kernel_rfl); (case h4 => kernel_rfl))
                        | (refine step_append_run ?h1 (.tmp 125) (.tmp 134) 38 ?h2 (.slice (some ⟨g, 0, none⟩) j j) (.slice A5 (1 + (n - j)) c5) ?h3 ?h4 _ _ HR6.out ?_; rotate_right; (case h1 => rfl); (case h2 => rfl); (case h3 => kernel_rfl); (case h4 => kernel_rfl)))
                      all_goals
                        go_wp2_with fail
                        go_ret2
                        exact HS.out
                  · go_wp2_with fail
                    go_roundw
                    case rel =>
                      refine ⟨j + 1, by omega, by go_num, fun i hi h => ?_, HB8.out⟩
                      rcases Nat.lt_or_ge i j with h' | h'
                      · exact HA.out i h' h
                      · obtain rfl : i = j := by omega
                        exact HLs.out h
                    case measure => simp [intOf]; omega
                · obtain rfl : j = n := by omega
                  have HLt := Lib.hid (show ∀ hi : j < es.length, Pa.lessB es[j].p ⟨pa, pb, pc, pd, pe⟩ = false from fun hi => by have := HN.out; omega)
                  clear hdr
                  go_wp2_with fail
                  refine wp_region_later wr (by kernel_rfl) (by kernel_rfl) (Below.refl _ _) ?_
                  repeat (go_big_quiet_step (fail))
                  refine wpQuiet_nil ?_
                  intro w8 hw8
                  have hb8 := in_later hw8
                  have HX8 := Lib.hid (HXr.out.trans (hb8.mono HXr.out.size))
                  have HR8 := Lib.hid (HRr.out.below hb8)
                  clear hw8 hb8 e0 l0 b0 b1 b2 b3 b4
                  have hd8 := HD.out.below HX8.out
                  have e0 := hd8.e0 HN.out
                  have l0 := hd8.lt
                  have hcap := hd8.rd.cap
                  have hroom := hd8.rd.room
                  rw [List.length_map, HN.out] at hcap
                  cases A with
                  | none =>
                    obtain ⟨hz, rfl⟩ := hd8.rd.nil rfl
                    obtain rfl : j = 0 := by omega
                    clear hz
                    obtain ⟨A6, c6, w9, hr5, hr6, hrd6, hb9⟩ := ins_none (Q := Q) w8
                    have HS := Lib.hid (ins_done (k := 0) (n' := 1) (p := ⟨pa, pb, pc, pd, pe⟩) (Y := (X.1, 0, X.2.2)) HD.out HRel.out HX8.out HR8.out HQW.out HO3.out HO4.out HNo.out HPr.out (Nat.zero_le _) (fun i hi => by omega) HLt.out (by
                      have e : es = [] := List.length_eq_zero_iff.1 HN.out
                      rw [e]
                      exact hrd6) hb9 HSz2.out (by rw [HN.out]) rfl)
                    simp only at HS
                    have hd9 := hd8.below hb9
                    have r0 := hd9.e0 HN.out
                    have rf := hd9.fz 0
                    have HR5 := Lib.hid hr5
                    have HR6 := Lib.hid hr6
                    have l9 := hd9.lt
                    clear hd8 hd9 hr5 hr6 hrd6 hb9 hcap hroom
                    go_wp2_with fail
                    go_region_law (first
                      | (refine step_append_run ?h1 (.tmp 127) (.tmp 133) 38 ?h2 (.slice (some ⟨w8.heap.size, 0, none⟩) 1 1) (.slice none 0 0) ?h3 ?h4 _ _ HR5.out ?_; rotate_right; (case h1 => rfl); (case h2 => rfl); (case h3 => kernel_rfl); (case h4 => kernel_rfl))
                      | (refine step_append_run ?h1 (.tmp 125) (.tmp 134) 38 ?h2 (.slice none 0 0) (.slice (some ⟨w8.heap.size, 0, none⟩) 1 1) ?h3 ?h4 _ _ HR6.out ?_; rotate_right; (case h1 => rfl); (case h2 => rfl); (case h3 => kernel_rfl); (case h4 => kernel_rfl)))
                    all_goals
                      go_wp2_with fail
                      go_ret2
                      exact HS.out
                  | some a =>
                    obtain ⟨g, rfl, -⟩ := hd8.rd.at' a rfl
                    by_cases hcj : c = j
                    · skip
                      subst hcj
                      obtain ⟨A5, c5, w8b, A6, c6, w9, hr5, hr6, hrd6, hb8b, hb9⟩ := ins_some (k := c) (Q := Q) hd8.rd (by rw [List.length_map, HN.out]; omega) (by rw [List.length_map, HN.out]; omega) (sa := ⟨g, 0, none⟩) (by rw [if_pos rfl]) (n := c) (by rw [List.length_map, HN.out])
                      rw [Nat.sub_self, Nat.add_zero] at hr5 hr6
                      have HS := Lib.hid (ins_done (k := c) (n' := c + 1) (p := ⟨pa, pb, pc, pd, pe⟩) (Y := (X.1, 0, X.2.2)) HD.out HRel.out HX8.out HR8.out HQW.out HO3.out HO4.out HNo.out HPr.out (by rw [HN.out]; omega) HA.out HLt.out hrd6 hb9 HSz2.out (by rw [HN.out]) rfl)
                      have q8 : (c : Int) ≤ (c : Int) := by omega
                      simp only at HS
                      have hd9 := hd8.below hb9
                      have r0 := hd9.e0 HN.out
                      have rf := hd9.fz 0
                      have s0 := (hd8.below hb8b).e0 HN.out
                      have l8 := (hd8.below hb8b).lt
                      have HR5 := Lib.hid hr5
                      have HR6 := Lib.hid hr6
                      have l9 := hd9.lt
                      have q6 : c ≤ c := by omega
                      unfold maxLen at hroom
                      clear hd8 hd9 hr5 hr6 hrd6 hb9 hb8b
                      go_wp2_with fail
                      go_region_law (first
                        | (refine step_append_run ?h1 (.tmp 127) (.tmp 133) 38 ?h2 (.slice (some ⟨w8.heap.size, 0, none⟩) 1 1) (.slice (some ⟨g, 0, none⟩) 0 0) ?h3 ?h4 _ _ HR5.out ?_; rotate_right; (case h1 => rfl); (case h2 => rfl); (case h3 => kernel_rfl); (case h4 => kernel_rfl))
                        | (refine step_append_run ?h1 (.tmp 125) (.tmp 134) 38 ?h2 (.slice (some ⟨g, 0, none⟩) c c) (.slice A5 1 c5) ?h3 ?h4 _ _ HR6.out ?_; rotate_right; (case h1 => rfl); (case h2 => rfl); (case h3 => kernel_rfl); (case h4 => kernel_rfl)))
                      all_goals
                        go_wp2_with fail
                        go_ret2
                        exact HS.out
                    · skip
                      obtain ⟨A5, c5, w8b, A6, c6, w9, hr5, hr6, hrd6, hb8b, hb9⟩ := ins_some (k := j) (Q := Q) hd8.rd (by rw [List.length_map, HN.out]; omega) (by rw [List.length_map, HN.out]; omega) (sa := ⟨g, j, none⟩) (by rw [if_neg hcj]) (n := j) (by rw [List.length_map, HN.out])
                      rw [Nat.sub_self, Nat.add_zero] at hr5 hr6
                      have HS := Lib.hid (ins_done (k := j) (n' := j + 1) (p := ⟨pa, pb, pc, pd, pe⟩) (Y := (X.1, 0, X.2.2)) HD.out HRel.out HX8.out HR8.out HQW.out HO3.out HO4.out HNo.out HPr.out (by rw [HN.out]; omega) HA.out HLt.out hrd6 hb9 HSz2.out (by rw [HN.out]) rfl)
                      have q8 : (j : Int) ≤ (c : Int) := by omega
                      simp only at HS
                      have hd9 := hd8.below hb9
                      have r0 := hd9.e0 HN.out
                      have rf := hd9.fz 0
                      have s0 := (hd8.below hb8b).e0 HN.out
                      have l8 := (hd8.below hb8b).lt
                      have HR5 := Lib.hid hr5
                      have HR6 := Lib.hid hr6
                      have l9 := hd9.lt
                      have q6 : j ≤ c := by omega
                      unfold maxLen at hroom
                      clear hd8 hd9 hr5 hr6 hrd6 hb9 hb8b
                      go_wp2_with fail
                      go_region_law (first
                        | (refine step_append_run ?h1 (.tmp 127) (.tmp 133) 38 ?h2 (.slice (some ⟨w8.heap.size, 0, none⟩) 1 1) (.slice (some ⟨g, j, none⟩) 0 (c - j)) ?h3 ?h4 _ _ HR5.out ?_; rotate_right; (case h1 => rfl); (case h2 => rfl); (case h3 => kernel_rfl); (case h4 => kernel_rfl))
                        | (refine step_append_run ?h1 (.tmp 125) (.tmp 134) 38 ?h2 (.slice (some ⟨g, 0, none⟩) j j) (.slice A5 1 c5) ?h3 ?h4 _ _ HR6.out ?_; rotate_right; (case h1 => rfl); (case h2 => rfl); (case h3 => kernel_rfl); (case h4 => kernel_rfl)))
                      all_goals
                        go_wp2_with fail
                        go_ret2
                        exact HS.out
          · have HY := HY3.out HE0.out (by omega)
            subst HY
            have hxe : X.2.2 = ([], []) := szC_zero (by have := HZ.out.2; have := HZ0.out; unfold szC; omega)
            have HS := Lib.hid (show X.2.2 = C ⟨pa, pb, pc, pd, pe⟩ from by rw [hxe, HCc.out]; obtain ⟨rfl, rfl⟩ := HHL.out; rfl)
            clear hxe
            have hdb : decide (0 < (z1 : Int) - (z0 : Int)) = false := decide_eq_false hd0
            have hdc : decide ((z0 : Int) < (z1 : Int)) = false := decide_eq_false (by omega)
            have hdn : decide (z0 < z1) = false := decide_eq_false (by omega)
            have hub : decide ((-1 : Int) < 0) = true := rfl
            go_wp2_with fail
            refine wp_region_later w6 (by kernel_rfl) (by kernel_rfl) (Below.refl _ _) ?_
            repeat (go_big_quiet_step ((go_at_call 64; exact Gives.later (by with_reducible assumption))))
            refine wpQuiet_nil ?_
            intro w7 hw7
            have hb7 := in_later hw7
            have HX7 := Lib.hid (HX6.out.trans (hb7.mono HX6.out.size))
            have HR7 := Lib.hid (HR6.out.below hb7)
            have HB7 := Lib.hid (HB6.out.below hb7)
            clear hw7 hb7 gU e0 e1 e2 l0
            go_wp2_with fail
            go_ret2
            exact Aske.same HD.out HRel.out HX7.out HS.out (Y := (X.1, 0, X.2.2))
end
end Go.Proofs.YtjhkejkdnjogiaaGreatDoor.Rt
