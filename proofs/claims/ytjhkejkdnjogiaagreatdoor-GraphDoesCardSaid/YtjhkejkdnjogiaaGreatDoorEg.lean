/- The document's table: Release and Cancel. -/
import Derived.Test.YtjhkejkdnjogiaaGreatDoorEf
namespace Go.Proofs.YtjhkejkdnjogiaaGreatDoor.Rt
open Go Go.RowKit Go.Shelf
set_option maxRecDepth 100000

/-- what a Release or a Cancel of the document's table comes to -/
def Rele (W : World) (t K m : Nat) (mr : Int) (es : List Nd) (A : Option Addr) (D : Nat → Prop) (C : Pa.Pt → Cx) (p : Pa.Pt) (X : Out) (e : Ending) (w' : World) : Prop :=
  ∃ B k, e = .returned (.tuple #[.slice B X.told.length k, .int .i64 X.err]) ∧ Ws.Ls w' B k X.told ∧ ∃ es', Dout W t K m mr es A D es' w' ∧ Rel (upC C p (X.hs, X.ws)) es'
section
variable {W W' w w1 w2 w3 : World} {t K m c c' : Nat} {mr : Int} {es es' : List Nd} {D D' T : Nat → Prop} {A A' : Option Addr} {e : Nd} {p : Pa.Pt} {C : Pa.Pt → Cx}
theorem Rele.same {X : Out} (h : Di W t K m mr es D A c) (R : Rel C es) (hb : Below W.heap.size W w) (hX : (X.hs, X.ws) = C p) (ht : X.told = []) {x : Int} (hx : X.err = x) :
    Rele W t K m mr es A D C p X (.returned (.tuple #[.slice none 0 0, .int .i64 x])) w := by
  subst hx
  exact ⟨none, 0, by rw [ht]; rfl, by rw [ht]; exact Ws.Ls.nils _, es, Dout.same h hb, R.same hX⟩
/-- behind settle -/
theorem rele_done {X : Out} {x : Nd} {i k : Nat} {B : Option Addr} (R : Rel C es) (hi : i < es.length) (hx : es[i] = x) (hb : Below W.heap.size W w2) (ho : OnlyS (Own t A es) w2 w3) (hn : Nb w2 w3) (hO : ∀ k, Own t A (es.set i ⟨x.p, x.q, X.hs, X.ws⟩) k → Own t A es k)
    (hl : Ws.Ls w3 B k X.told) (hd : Dout w3 t K m mr (es.set i ⟨x.p, x.q, X.hs, X.ws⟩) A D (if X.hs.length + X.ws.length = 0 then (es.set i ⟨x.p, x.q, X.hs, X.ws⟩).take i ++ (es.set i ⟨x.p, x.q, X.hs, X.ws⟩).drop (i + 1) else es.set i ⟨x.p, x.q, X.hs, X.ws⟩) w) {n : Nat} (hnn : X.told.length = n) :
    Rele W t K m mr es A D C x.p X (.returned (.tuple #[.slice B n k, .int .i64 X.err])) w := by
  subst hnn
  have hnb : Nb w3 w := by
    obtain ⟨_, _, _, _, _, h3, _⟩ := hd
    exact h3
  refine ⟨B, k, rfl, hl.nb hnb, _, Dout.then ((OnlyS.of_below hb).trans ho) ((Nb.below hb).trans hn) (fun _ hk => hk) (fun k hk => .inl (hO k hk)) hd, ?_⟩
  by_cases hz : X.hs.length + X.ws.length = 0
  · rw [if_pos hz, List.take_set_of_le (Nat.le_refl _), List.drop_set_of_lt (Nat.lt_succ_self _), szC_zero (x := (X.hs, X.ws)) hz, ← hx]
    exact R.del hi
  · rw [if_neg hz, ← hx]
    exact R.set hi es[i].q (x := (X.hs, X.ws)) (by unfold szC; simp only; omega)
set_option maxHeartbeats 4000000 in
theorem Di.release (h : Di W t K m mr es D A c) (R : Rel C es) (hn : es.length ≤ 300) (ht : totE es ≤ 300) (tx : Int) (p : Pa.Pt) :
    Calls Tryz.prog 28 #[qp t, .int .i64 tx, p.v] W (Rele W t K m mr es A D C p (relT Go.Proofs.YtjhkejkdnjogiaaGreatDoor.rel C tx p)) := by
  have HX := Lib.hid (box_below W (.cells (pcs p) 25))
  have HD := Lib.hid h
  have HRel := Lib.hid R
  have HB := Lib.hid (Pbx.new W p 25)
  have HRi := Lib.hid (fun w => Pa.rright_any p w)
  by_cases he : errP p = 0
  case neg =>
    have HY := Lib.hid (show relT Go.Proofs.YtjhkejkdnjogiaaGreatDoor.rel C tx p = ⟨1, [], (C p).1, (C p).2⟩ by unfold relT; rw [if_pos he, errP_no he])
    rw [HY.out]
    have hr : Pa.rightB p = false := by
      cases q : Pa.rightB p
      · rfl
      · exact absurd (by unfold errP; rw [if_pos q]) he
    rw [hr] at HRi
    clear h R hn ht he hr
    obtain ⟨pa, pb, pc, pd, pe⟩ := p
    go_enter Tryz.func28, Tryz.ntmps28
    have hB9 := HB.out
    have b0 := hB9.c0
    have b1 := hB9.c1
    have b2 := hB9.c2
    have b3 := hB9.c3
    have b4 := hB9.c4
    simp only at b0 b1 b2 b3 b4
    clear hB9
    go_wp2_with fail
    refine (HRi.out _).mono ?_
    rintro e w1 ⟨rfl, hb1⟩
    have HX1 := Lib.hid (HX.out.trans (hb1.mono HX.out.size))
    clear hb1 b0 b1 b2 b3 b4
    go_wp2_with fail
    go_ret2
    exact Rele.same HD.out HRel.out HX1.out rfl rfl rfl
  case pos =>
    have hpr := errP_yes he
    rw [hpr] at HRi
    have HY := Lib.hid (show relT Go.Proofs.YtjhkejkdnjogiaaGreatDoor.rel C tx p = Go.Proofs.YtjhkejkdnjogiaaGreatDoor.rel tx (C p).1 (C p).2 by unfold relT; rw [if_neg (by rw [he]; simp)])
    rw [HY.out]
    clear HY
    obtain ⟨r, hr⟩ := Fd.is es p
    have HFi := Lib.hid (fun (w1 : World) (hb : Below W.heap.size W w1) => (h.below hb).find (by omega) hr)
    obtain ⟨n, hN⟩ : ∃ n, es.length = n := ⟨_, rfl⟩
    have HN := Lib.hid hN
    rcases hr with ⟨i, hi, rfl, hp, hno⟩ | ⟨rfl, hno⟩
    · obtain ⟨g, hA, -⟩ := h.at hi
      subst hA
      obtain ⟨x, hx⟩ : ∃ x, es[i]'hi = x := ⟨_, rfl⟩
      have hm1 : x ∈ es := hx ▸ List.getElem_mem hi
      rw [hx] at hp
      obtain rfl : x.p = p := hp
      have HXx := Lib.hid hx
      have HI := Lib.hid hi
      have hC : C x.p = (x.H, x.L) := R.cy _ hm1
      have hC1 : (C x.p).1 = x.H := by rw [hC]
      have hC2 : (C x.p).2 = x.L := by rw [hC]
      rw [hC1, hC2]
      have hzt : x.H.length + x.L.length ≤ 300 := Nat.le_trans (totE_ge hm1) ht
      obtain ⟨X, hX⟩ : ∃ X, Go.Proofs.YtjhkejkdnjogiaaGreatDoor.rel tx x.H x.L = X := ⟨_, rfl⟩
      have hle := rel_len tx x.H x.L
      rw [hX] at hle ⊢
      have HRe := Lib.hid (fun (w : World) (A1 : Option Addr) (c1 : Nat) (A2 : Option Addr) (c2 : Nat) (hq : RAt w x.q x.p A1 c1 A2 c2 x.H x.L) => (show Calls Tryz.prog 57 #[qp x.q, .int .i64 tx] w (RGone x.q x.p w (A1, x.H) (A2, x.L) X) from by
        rw [← hX]
        exact rrelease_any hq (by omega) tx))
      have HSe := Lib.hid (fun (w : World) (D : Nat → Prop) (h : Di w t K m mr (es.set i ⟨x.p, x.q, X.hs, X.ws⟩) D (some ⟨g, 0, none⟩) c) => h.settle (i := i) (x := ⟨x.p, x.q, X.hs, X.ws⟩) (by rw [List.length_set]; exact hn) (by rw [List.length_set]; exact hi) (List.getElem_set_self ..) (by simp only; omega))
      clear h R hn ht he hpr hC hC1 hC2 hX hle hzt hm1 hN hno hx
      obtain ⟨q, hq⟩ : ∃ q, x.q = q := ⟨_, rfl⟩
      have HQq := Lib.hid hq
      obtain ⟨P, hP⟩ : ∃ P, x.p = P := ⟨_, rfl⟩
      have HPp := Lib.hid hP
      rw [hP] at HX HB HRi HFi ⊢
      rw [hq] at HRe
      clear hq hP
      obtain ⟨pa, pb, pc, pd, pe⟩ := P
      go_enter Tryz.func28, Tryz.ntmps28
      have hB9 := HB.out
      have b0 := hB9.c0
      have b1 := hB9.c1
      have b2 := hB9.c2
      have b3 := hB9.c3
      have b4 := hB9.c4
      simp only at b0 b1 b2 b3 b4
      clear hB9
      go_wp2_with fail
      refine (HRi.out _).mono ?_
      rintro e w1 ⟨rfl, hb1'⟩
      have HX1 := Lib.hid (HX.out.trans (hb1'.mono HX.out.size))
      have HB1 := Lib.hid (HB.out.below hb1')
      clear hb1' HRi b0 b1 b2 b3 b4
      have hB9 := HB1.out
      have b0 := hB9.c0
      have b1 := hB9.c1
      have b2 := hB9.c2
      have b3 := hB9.c3
      have b4 := hB9.c4
      simp only at b0 b1 b2 b3 b4
      clear hB9
      go_wp2_with fail
      refine (HFi.out w1 HX1.out).mono ?_
      rintro e w2 ⟨rfl, hb2'⟩
      have HX2 := Lib.hid (HX1.out.trans (hb2'.mono HX1.out.size))
      clear hb2' HFi HX1 HB1 HX HB b0 b1 b2 b3 b4
      have hd2 := HD.out.below HX2.out
      have e0 := hd2.e0 HN.out
      obtain ⟨g', hg', c0, -⟩ := hd2.at HI.out
      cases hg'
      rw [show (es[i]'HI.out).q = q by rw [HXx.out, HQq.out]] at c0
      have l0 := hd2.lt
      have l1 := cell_lt c0
      simp only at l1
      have hin : i < n := by rw [← HN.out]; exact HI.out
      obtain ⟨A1, c1, A2, c2, hR, hk⟩ := hd2.queue HI.out HXx.out
      rw [HQq.out] at hR
      have HRr := Lib.hid hR
      have HK := Lib.hid hk
      clear hd2 hR hk
      go_wp2_with fail
      refine (HRe.out w2 A1 c1 A2 c2 (by rw [← HQq.out]; rw [← HQq.out] at HRr; exact HRr.out)).mono ?_
      rintro e w3 ⟨B, k, rfl, hls, hrl⟩
      rw [← HQq.out] at hrl
      obtain ⟨h3, ho3, hn3, hO3⟩ := HK.out w3 X.hs X.ws hrl
      have HLs := Lib.hid hls.1
      have H3 := Lib.hid (And.intro h3 (And.intro ho3 (And.intro hn3 hO3)))
      have HSe3 := Lib.hid (HSe.out w3 _ h3)
      obtain ⟨tn, htn⟩ : ∃ n, X.told.length = n := ⟨_, rfl⟩
      have HTn := Lib.hid htn
      rw [htn]
      clear h3 ho3 hn3 hO3 hls hrl HSe HK HRe htn e0 c0 l0 l1
      go_wp2_with fail
      refine HSe3.out.mono ?_
      rintro e w4 ⟨rfl, hd4⟩
      have HS := Lib.hid (rele_done HRel.out HI.out HXx.out HX2.out H3.out.2.1 H3.out.2.2.1 H3.out.2.2.2 HLs.out hd4 HTn.out)
      rw [HPp.out] at HS
      clear hd4 HSe3
      go_wp2_with fail
      go_ret2
      exact HS.out
    · have hC : C p = ([], []) := R.cn p hno
      have HCc := Lib.hid hC
      have hC1 : (C p).1 = [] := by rw [hC]
      have hC2 : (C p).2 = [] := by rw [hC]
      rw [hC1, hC2, rel_nil]
      clear h R hn ht he hpr hC hC1 hC2 hN hno
      obtain ⟨pa, pb, pc, pd, pe⟩ := p
      go_enter Tryz.func28, Tryz.ntmps28
      have hB9 := HB.out
      have b0 := hB9.c0
      have b1 := hB9.c1
      have b2 := hB9.c2
      have b3 := hB9.c3
      have b4 := hB9.c4
      simp only at b0 b1 b2 b3 b4
      clear hB9
      go_wp2_with fail
      refine (HRi.out _).mono ?_
      rintro e w1 ⟨rfl, hb1'⟩
      have HX1 := Lib.hid (HX.out.trans (hb1'.mono HX.out.size))
      have HB1 := Lib.hid (HB.out.below hb1')
      clear hb1' HRi b0 b1 b2 b3 b4
      have hB9 := HB1.out
      have b0 := hB9.c0
      have b1 := hB9.c1
      have b2 := hB9.c2
      have b3 := hB9.c3
      have b4 := hB9.c4
      simp only at b0 b1 b2 b3 b4
      clear hB9
      go_wp2_with fail
      refine (HFi.out w1 HX1.out).mono ?_
      rintro e w2 ⟨rfl, hb2'⟩
      have HX2 := Lib.hid (HX1.out.trans (hb2'.mono HX1.out.size))
      clear hb2' HFi HX1 HB1 HX HB b0 b1 b2 b3 b4
      go_wp2_with fail
      go_ret2
      exact Rele.same HD.out HRel.out HX2.out HCc.out.symm rfl rfl
set_option maxHeartbeats 4000000 in
theorem Di.cancel (h : Di W t K m mr es D A c) (R : Rel C es) (hn : es.length ≤ 300) (ht : totE es ≤ 300) (tx : Int) (p : Pa.Pt) :
    Calls Tryz.prog 30 #[qp t, .int .i64 tx, p.v] W (Rele W t K m mr es A D C p (relT Go.Proofs.YtjhkejkdnjogiaaGreatDoor.can C tx p)) := by
  have HX := Lib.hid (box_below W (.cells (pcs p) 25))
  have HD := Lib.hid h
  have HRel := Lib.hid R
  have HB := Lib.hid (Pbx.new W p 25)
  have HRi := Lib.hid (fun w => Pa.rright_any p w)
  by_cases he : errP p = 0
  case neg =>
    have HY := Lib.hid (show relT Go.Proofs.YtjhkejkdnjogiaaGreatDoor.can C tx p = ⟨1, [], (C p).1, (C p).2⟩ by unfold relT; rw [if_pos he, errP_no he])
    rw [HY.out]
    have hr : Pa.rightB p = false := by
      cases q : Pa.rightB p
      · rfl
      · exact absurd (by unfold errP; rw [if_pos q]) he
    rw [hr] at HRi
    clear h R hn ht he hr
    obtain ⟨pa, pb, pc, pd, pe⟩ := p
    go_enter Tryz.func30, Tryz.ntmps30
    have hB9 := HB.out
    have b0 := hB9.c0
    have b1 := hB9.c1
    have b2 := hB9.c2
    have b3 := hB9.c3
    have b4 := hB9.c4
    simp only at b0 b1 b2 b3 b4
    clear hB9
    go_wp2_with fail
    refine (HRi.out _).mono ?_
    rintro e w1 ⟨rfl, hb1⟩
    have HX1 := Lib.hid (HX.out.trans (hb1.mono HX.out.size))
    clear hb1 b0 b1 b2 b3 b4
    go_wp2_with fail
    go_ret2
    exact Rele.same HD.out HRel.out HX1.out rfl rfl rfl
  case pos =>
    have hpr := errP_yes he
    rw [hpr] at HRi
    have HY := Lib.hid (show relT Go.Proofs.YtjhkejkdnjogiaaGreatDoor.can C tx p = Go.Proofs.YtjhkejkdnjogiaaGreatDoor.can tx (C p).1 (C p).2 by unfold relT; rw [if_neg (by rw [he]; simp)])
    rw [HY.out]
    clear HY
    obtain ⟨r, hr⟩ := Fd.is es p
    have HFi := Lib.hid (fun (w1 : World) (hb : Below W.heap.size W w1) => (h.below hb).find (by omega) hr)
    obtain ⟨n, hN⟩ : ∃ n, es.length = n := ⟨_, rfl⟩
    have HN := Lib.hid hN
    rcases hr with ⟨i, hi, rfl, hp, hno⟩ | ⟨rfl, hno⟩
    · obtain ⟨g, hA, -⟩ := h.at hi
      subst hA
      obtain ⟨x, hx⟩ : ∃ x, es[i]'hi = x := ⟨_, rfl⟩
      have hm1 : x ∈ es := hx ▸ List.getElem_mem hi
      rw [hx] at hp
      obtain rfl : x.p = p := hp
      have HXx := Lib.hid hx
      have HI := Lib.hid hi
      have hC : C x.p = (x.H, x.L) := R.cy _ hm1
      have hC1 : (C x.p).1 = x.H := by rw [hC]
      have hC2 : (C x.p).2 = x.L := by rw [hC]
      rw [hC1, hC2]
      have hzt : x.H.length + x.L.length ≤ 300 := Nat.le_trans (totE_ge hm1) ht
      obtain ⟨X, hX⟩ : ∃ X, Go.Proofs.YtjhkejkdnjogiaaGreatDoor.can tx x.H x.L = X := ⟨_, rfl⟩
      have hle := can_len tx x.H x.L
      rw [hX] at hle ⊢
      have HRe := Lib.hid (fun (w : World) (A1 : Option Addr) (c1 : Nat) (A2 : Option Addr) (c2 : Nat) (hq : RAt w x.q x.p A1 c1 A2 c2 x.H x.L) => (show Calls Tryz.prog 60 #[qp x.q, .int .i64 tx] w (RGone x.q x.p w (A1, x.H) (A2, x.L) X) from by
        rw [← hX]
        exact rcancel_any hq (by omega) tx))
      have HSe := Lib.hid (fun (w : World) (D : Nat → Prop) (h : Di w t K m mr (es.set i ⟨x.p, x.q, X.hs, X.ws⟩) D (some ⟨g, 0, none⟩) c) => h.settle (i := i) (x := ⟨x.p, x.q, X.hs, X.ws⟩) (by rw [List.length_set]; exact hn) (by rw [List.length_set]; exact hi) (List.getElem_set_self ..) (by simp only; omega))
      clear h R hn ht he hpr hC hC1 hC2 hX hle hzt hm1 hN hno hx
      obtain ⟨q, hq⟩ : ∃ q, x.q = q := ⟨_, rfl⟩
      have HQq := Lib.hid hq
      obtain ⟨P, hP⟩ : ∃ P, x.p = P := ⟨_, rfl⟩
      have HPp := Lib.hid hP
      rw [hP] at HX HB HRi HFi ⊢
      rw [hq] at HRe
      clear hq hP
      obtain ⟨pa, pb, pc, pd, pe⟩ := P
      go_enter Tryz.func30, Tryz.ntmps30
      have hB9 := HB.out
      have b0 := hB9.c0
      have b1 := hB9.c1
      have b2 := hB9.c2
      have b3 := hB9.c3
      have b4 := hB9.c4
      simp only at b0 b1 b2 b3 b4
      clear hB9
      go_wp2_with fail
      refine (HRi.out _).mono ?_
      rintro e w1 ⟨rfl, hb1'⟩
      have HX1 := Lib.hid (HX.out.trans (hb1'.mono HX.out.size))
      have HB1 := Lib.hid (HB.out.below hb1')
      clear hb1' HRi b0 b1 b2 b3 b4
      have hB9 := HB1.out
      have b0 := hB9.c0
      have b1 := hB9.c1
      have b2 := hB9.c2
      have b3 := hB9.c3
      have b4 := hB9.c4
      simp only at b0 b1 b2 b3 b4
      clear hB9
      go_wp2_with fail
      refine (HFi.out w1 HX1.out).mono ?_
      rintro e w2 ⟨rfl, hb2'⟩
      have HX2 := Lib.hid (HX1.out.trans (hb2'.mono HX1.out.size))
      clear hb2' HFi HX1 HB1 HX HB b0 b1 b2 b3 b4
      have hd2 := HD.out.below HX2.out
      have e0 := hd2.e0 HN.out
      obtain ⟨g', hg', c0, -⟩ := hd2.at HI.out
      cases hg'
      rw [show (es[i]'HI.out).q = q by rw [HXx.out, HQq.out]] at c0
      have l0 := hd2.lt
      have l1 := cell_lt c0
      simp only at l1
      have hin : i < n := by rw [← HN.out]; exact HI.out
      obtain ⟨A1, c1, A2, c2, hR, hk⟩ := hd2.queue HI.out HXx.out
      rw [HQq.out] at hR
      have HRr := Lib.hid hR
      have HK := Lib.hid hk
      clear hd2 hR hk
      go_wp2_with fail
      refine (HRe.out w2 A1 c1 A2 c2 (by rw [← HQq.out]; rw [← HQq.out] at HRr; exact HRr.out)).mono ?_
      rintro e w3 ⟨B, k, rfl, hls, hrl⟩
      rw [← HQq.out] at hrl
      obtain ⟨h3, ho3, hn3, hO3⟩ := HK.out w3 X.hs X.ws hrl
      have HLs := Lib.hid hls.1
      have H3 := Lib.hid (And.intro h3 (And.intro ho3 (And.intro hn3 hO3)))
      have HSe3 := Lib.hid (HSe.out w3 _ h3)
      obtain ⟨tn, htn⟩ : ∃ n, X.told.length = n := ⟨_, rfl⟩
      have HTn := Lib.hid htn
      rw [htn]
      clear h3 ho3 hn3 hO3 hls hrl HSe HK HRe htn e0 c0 l0 l1
      go_wp2_with fail
      refine HSe3.out.mono ?_
      rintro e w4 ⟨rfl, hd4⟩
      have HS := Lib.hid (rele_done HRel.out HI.out HXx.out HX2.out H3.out.2.1 H3.out.2.2.1 H3.out.2.2.2 HLs.out hd4 HTn.out)
      rw [HPp.out] at HS
      clear hd4 HSe3
      go_wp2_with fail
      go_ret2
      exact HS.out
    · have hC : C p = ([], []) := R.cn p hno
      have HCc := Lib.hid hC
      have hC1 : (C p).1 = [] := by rw [hC]
      have hC2 : (C p).2 = [] := by rw [hC]
      rw [hC1, hC2, can_nil]
      clear h R hn ht he hpr hC hC1 hC2 hN hno
      obtain ⟨pa, pb, pc, pd, pe⟩ := p
      go_enter Tryz.func30, Tryz.ntmps30
      have hB9 := HB.out
      have b0 := hB9.c0
      have b1 := hB9.c1
      have b2 := hB9.c2
      have b3 := hB9.c3
      have b4 := hB9.c4
      simp only at b0 b1 b2 b3 b4
      clear hB9
      go_wp2_with fail
      refine (HRi.out _).mono ?_
      rintro e w1 ⟨rfl, hb1'⟩
      have HX1 := Lib.hid (HX.out.trans (hb1'.mono HX.out.size))
      have HB1 := Lib.hid (HB.out.below hb1')
      clear hb1' HRi b0 b1 b2 b3 b4
      have hB9 := HB1.out
      have b0 := hB9.c0
      have b1 := hB9.c1
      have b2 := hB9.c2
      have b3 := hB9.c3
      have b4 := hB9.c4
      simp only at b0 b1 b2 b3 b4
      clear hB9
      go_wp2_with fail
      refine (HFi.out w1 HX1.out).mono ?_
      rintro e w2 ⟨rfl, hb2'⟩
      have HX2 := Lib.hid (HX1.out.trans (hb2'.mono HX1.out.size))
      clear hb2' HFi HX1 HB1 HX HB b0 b1 b2 b3 b4
      go_wp2_with fail
      go_ret2
      exact Rele.same HD.out HRel.out HX2.out HCc.out.symm rfl rfl
end
end Go.Proofs.YtjhkejkdnjogiaaGreatDoor.Rt
