/- A queue: what an Ask comes to: the walk. -/
import Derived.Test.YteaibamkfccplaaDoorQD
namespace Go.Proofs.YteaibamkfccplaaDoor
open Go Go.RowKit Go.Shelf
set_option maxRecDepth 100000

/-- the result's cells, the queue to be, and the queue itself -/
structure Sc (W : World) (b : Nat) (A1 : Option Addr) (c1 : Nat) (A2 : Option Addr) (c2 : Nat) (H : List Hs.Hd) (L : List Ws.Wt) (R N : Nat) (w : World) : Prop where
  r : QAt w R none 0 none 0 [] []
  n : QAt w N A1 c1 A2 c2 H L
  q : QAt w b A1 c1 A2 c2 H L
  bel : Below W.heap.size W w
  hr : W.heap.size ≤ R
  hn : W.heap.size ≤ N
  rn : R ≠ N
/-- a request in a block -/
structure Bx (w : World) (K : Nat) (x : Ws.Wt) : Prop where
  blk : w.heap[K]? = some (.cells #[.int .i64 x.1, .int .i64 x.2.1, .bool x.2.2.1, .bool x.2.2.2] 60 (0, 0))
section
variable {w w' : World} {K b : Nat} {x : Ws.Wt}
theorem Bx.b0 (h : Bx w K x) : w.cell? ⟨K, 0, none⟩ = some (.int .i64 x.1) := by rw [cell_blk h.blk]; rfl
theorem Bx.b1 (h : Bx w K x) : w.cell? ⟨K, 1, none⟩ = some (.int .i64 x.2.1) := by rw [cell_blk h.blk]; rfl
theorem Bx.b2 (h : Bx w K x) : w.cell? ⟨K, 2, none⟩ = some (.bool x.2.2.1) := by rw [cell_blk h.blk]; rfl
theorem Bx.b3 (h : Bx w K x) : w.cell? ⟨K, 3, none⟩ = some (.bool x.2.2.2) := by rw [cell_blk h.blk]; rfl
theorem Bx.lt (h : Bx w K x) : K < w.heap.size := lt_blk h.blk
theorem Bx.below (h : Bx w K x) (hb : Below w.heap.size w w') : Bx w' K x := ⟨(hb.block K h.lt).trans h.blk⟩
theorem Bx.only (h : Bx w K x) (ho : OnlyS (· = b) w w') (hne : K ≠ b) : Bx w' K x := ⟨(ho.block K h.lt hne).trans h.blk⟩
theorem Bx.new (w : World) (tx m : Int) (cv ii : Bool) : Bx (w.alloc (.cells #[.int .i64 tx, .int .i64 m, .bool cv, .bool ii] 60)) w.heap.size (tx, m, cv, ii) := ⟨heap_alloc_new w _⟩
end
section
variable {W W' w w' : World} {b R N n1 n2 : Nat} {A1 A2 B1 B2 : Option Addr} {c1 c2 d1 d2 : Nat} {H H' : List Hs.Hd} {L L' : List Ws.Wt}
theorem Sc.below (h : Sc W b A1 c1 A2 c2 H L R N w) (hb : Below w.heap.size w w') : Sc W b A1 c1 A2 c2 H L R N w' :=
  ⟨h.r.below hb, h.n.below hb, h.q.below hb, h.bel.trans (hb.mono h.bel.size), h.hr, h.hn, h.rn⟩
theorem Sc.new (hr : QAt w R none 0 none 0 [] []) (hq : QAt w b A1 c1 A2 c2 H L) (hb : Below W.heap.size W w) (hR : W.heap.size ≤ R) :
    Sc W b A1 c1 A2 c2 H L R w.heap.size (w.alloc (.cells #[.slice A1 H.length c1, .slice A2 L.length c2] 28)) :=
  ⟨hr.below (box_below _ _), QAt.new w hq.h hq.l, hq.below (box_below _ _), hb.trans ((box_below _ _).mono hb.size), hR, hb.size, by have := hr.lt; omega⟩
theorem Sc.lay (h : Sc W b A1 c1 A2 c2 H L R N w) (hh : Hs.Ls w B1 d1 H') (hl : Ws.Ls w B2 d2 L') :
    QAt ((w.setCell ⟨R, 0, none⟩ (.slice B1 H'.length d1)).setCell ⟨R, 1, none⟩ (.slice B2 L'.length d2)) R B1 d1 B2 d2 H' L' :=
  (h.r.set0 hh).set1 (hl.off (b := R) (fun k x _ => h.r.noint k x.1) (OnlyS.set _ _ _ _))
theorem lay_of (hr : QAt w R none 0 none 0 [] []) (hn : QAt w N A1 c1 A2 c2 H L) : QAt ((w.setCell ⟨R, 0, none⟩ (.slice A1 H.length c1)).setCell ⟨R, 1, none⟩ (.slice A2 L.length c2)) R A1 c1 A2 c2 H L :=
  (hr.set0 hn.h).set1 (hn.l.off (b := R) (fun k x _ => hr.noint k x.1) (OnlyS.set _ _ _ _))
theorem QAt.e0n (h : QAt w b A1 c1 A2 c2 H L) {n : Nat} (hn : H.length = n) : w.cell? ⟨b, 0, none⟩ = some (.slice A1 n c1) := by rw [← hn]; exact h.e0
theorem QAt.e1n (h : QAt w b A1 c1 A2 c2 H L) {k : Nat} (hk : L.length = k) : w.cell? ⟨b, 1, none⟩ = some (.slice A2 k c2) := by rw [← hk]; exact h.e1
theorem Sc.laid (h : Sc W b A1 c1 A2 c2 H L R N w) (u v : Value) : Below W.heap.size W ((w.setCell ⟨R, 0, none⟩ u).setCell ⟨R, 1, none⟩ v) :=
  (h.bel.setCell (p := ⟨R, 0, none⟩) h.hr _).setCell (p := ⟨R, 1, none⟩) h.hr _
theorem askd_of {x : Int} {X : Ans} (hX : X = (x, 0, H', L')) {n k : Nat} (hn : H'.length = n) (hk : L'.length = k) (hq : QAt w R B1 d1 B2 d2 H' L') (hb : Below W.heap.size W w) :
    Askd W X (.returned (.tuple #[qv B1 n d1 B2 k d2, .int .i64 x, .int .i64 0])) w := by
  subst hX
  subst hn
  subst hk
  exact ⟨B1, d1, B2, d2, rfl, hq.h, hq.l, hb⟩
theorem askd_no {x y : Int} {X : Ans} (hX : X = (x, y, H', L')) (h0 : y ≠ 0) (hb : Below W.heap.size W w) :
    Askd W X (.returned (.tuple #[qv none 0 0 none 0 0, .int .i64 x, .int .i64 y])) w := by
  subst hX
  have e1 : okH (x, y, H', L') = [] := if_neg h0
  have e2 : okL (x, y, H', L') = [] := if_neg h0
  refine ⟨none, 0, none, 0, ?_, ?_, ?_, hb⟩
  · rw [e1, e2]; rfl
  · rw [e1]; exact Hs.Ls.nils _
  · rw [e2]; exact Ws.Ls.nils _
set_option maxHeartbeats 2000000 in
theorem asked_ok (ht : TabG W) (h : QAt W b A1 c1 A2 c2 H L) (h1 : H.length ≤ 400) (h2 : L.length ≤ 400) (tx m fl : Int) (he : errR tx m fl L = 0) :
    Calls Tryd.prog 31 #[qp b, .int .i64 tx, .int .i64 m, .int .i64 fl] W (Askd W (ask tx m fl H L)) := by
  have hr := QAt.nils W
  have HB := Lib.hid (box_below W (.cells #[.slice none 0 0, .slice none 0 0] 28))
  have HF := Lib.hid (refuses_any (h.below HB.out).its h2 tx m fl)
  have HQ := Lib.hid (h.below HB.out)
  have HR := Lib.hid hr
  have HT := Lib.hid ht
  have HE := Lib.hid he
  rw [he] at HF
  have hbl : b < W.heap.size := h.lt
  clear hr h he ht
  go_enter Tryd.func31, Tryd.ntmps31
  go_wp2_with fail
  refine HF.out.mono ?_
  rintro e w1 ⟨rfl, hb1⟩
  have hr1 := HR.out.below hb1
  have hq1 := HQ.out.below hb1
  have HS := Lib.hid (Sc.new hr1 hq1 (HB.out.trans (hb1.mono HB.out.size)) (Nat.le_refl _))
  have q0 := hq1.e0
  have q1 := hq1.e1
  have hw1 := (HB.out.trans (hb1.mono HB.out.size)).size
  have HM := Lib.hid (qmode_any HS.out.q.its (by omega) tx)
  have HHs := Lib.hid (fun (w2 : World) (hb : Below (w1.alloc (.cells #[.slice A1 H.length c1, .slice A2 L.length c2] 28)).heap.size (w1.alloc (.cells #[.slice A1 H.length c1, .slice A2 L.length c2] 28)) w2) => has_any (HS.out.below hb).q.its (by omega) tx)
  obtain ⟨z, hz⟩ : ∃ z, Hs.fst tx H = z := ⟨_, rfl⟩
  obtain ⟨s, hs⟩ : ∃ s, supN (kn z) (kn m) = s := ⟨_, rfl⟩
  obtain ⟨q, hq⟩ : ∃ q, covB (kn z) (kn m) = q := ⟨_, rfl⟩
  have HTg := Lib.hid (fun (w2 w3 : World) (hb : Below w2.heap.size w2 w3) => target_any z m w2 w3 hb)
  unfold tgtV at HTg
  rw [hs, hq] at HTg
  rw [hz] at HM HHs
  have HZ := Lib.hid hz
  have HSs := Lib.hid hs
  have HQq := Lib.hid hq
  obtain ⟨n, hn⟩ : ∃ n, H.length = n := ⟨_, rfl⟩
  obtain ⟨k, hk⟩ : ∃ k, L.length = k := ⟨_, rfl⟩
  have HN := Lib.hid hn
  have HK := Lib.hid hk
  rw [hn, hk] at HS HM HHs
  rw [hn] at q0 h1
  rw [hk] at q1 h2
  clear hb1 hr1 hq1 HB HR HQ HF hz hs hq hn hk
  go_wp2_with fail
  generalize w1.alloc (.cells #[.slice A1 n c1, .slice A2 k c2] 28) = w2 at *
  generalize w1.heap.size = N at *
  clear q0 q1
  refine HM.out.mono ?_
  rintro e w3 ⟨rfl, hb3⟩
  have HT3 := Lib.hid (HTg.out w3 w3 (Below.refl _ _))
  have HB3 := Lib.hid hb3
  clear hb3 HM HTg
  go_wp2_with fail
  refine HT3.out.mono ?_
  rintro e w4 ⟨rfl, hb4⟩
  have HB4 := Lib.hid (HB3.out.trans (hb4.mono HB3.out.size))
  have HH4 := Lib.hid (HHs.out _ HB4.out)
  clear hb4 HHs HT3 HB3
  go_wp2_with fail
  refine HH4.out.mono ?_
  rintro e w5 ⟨rfl, hb5⟩
  have HB5 := Lib.hid (HB4.out.trans (hb5.mono HB4.out.size))
  have HS5 := Lib.hid (HS.out.below HB5.out)
  obtain ⟨cv, hcv⟩ : ∃ cv, (z != 0) = cv := ⟨_, rfl⟩
  obtain ⟨iv, hiv⟩ : ∃ iv, (fl == 2) = iv := ⟨_, rfl⟩
  have HCV := Lib.hid hcv
  have HIV := Lib.hid hiv
  rw [hcv]
  have HX := Lib.hid (HS5.out.below (box_below w5 (.cells #[.int .i64 tx, .int .i64 (s : Nat), .bool cv, .bool iv] 60)))
  have HBx := Lib.hid (Bx.new w5 tx (s : Nat) cv iv)
  have n0 := HX.out.n.e0
  have n1 := HX.out.n.e1
  have r0 := HX.out.r.e0
  have r1 := HX.out.r.e1
  have f0 := HX.out.r.fz 0
  have f1 := HX.out.r.fz 1
  simp only [List.length_nil] at r0 r1
  rw [HN.out] at n0
  rw [HK.out] at n1
  have hrn := HX.out.rn
  have HA : Hid (has tx m H = (cv && q)) := Lib.hid (by unfold has; rw [HZ.out, HCV.out, HQq.out])
  have HRq : Hid (reqW tx m fl H = (tx, ((s : Nat) : Int), cv, iv)) := Lib.hid (by unfold reqW tgt; rw [HZ.out, HCV.out, HIV.out, HSs.out])
  have HAt : Hid (atOnce tx m H L = (turnB cv L && Hs.goesB tx ((s : Nat) : Int) H)) := Lib.hid (by unfold atOnce tgt; rw [HZ.out, HCV.out, HSs.out])
  clear hb5 HH4 HB4 HS hcv
  by_cases hcq : (cv && q) = true
  · obtain ⟨rfl, rfl⟩ : cv = true ∧ q = true := by simpa using hcq
    have HAsk := Lib.hid (ask_has (fl := fl) HE.out HA.out)
    clear hcq
    have HLay := Lib.hid (HX.out.lay HX.out.n.h HX.out.n.l)
    rw [HN.out, HK.out] at HLay
    have HLd := Lib.hid (HX.out.laid (.slice A1 n c1) (.slice A2 k c2))
    go_wp2_with fail
    exact bodyPost_ret (results_asked rfl rfl rfl rfl (HLay.out.e0n HN.out) (HLay.out.e1n HK.out)) rfl (askd_of HAsk.out HN.out HK.out HLay.out HLd.out)
  · have hcq' : (cv && q) = false := by simpa using hcq
    have HH0 := Lib.hid (show has tx m H = false by rw [HA.out, hcq'])
    have HTn := Lib.hid (turn_any HX.out.q (by have := HK.out; omega) tx (s : Nat) cv iv)
    have hc2 : cv = false ∨ (cv = true ∧ q = false) := by
      cases cv
      · exact .inl rfl
      · exact .inr ⟨rfl, by simpa using hcq'⟩
    obtain ⟨t, ht⟩ : ∃ t, turnB cv L = t := ⟨_, rfl⟩
    obtain ⟨g, hg⟩ : ∃ g, Hs.goesB tx ((s : Nat) : Int) H = g := ⟨_, rfl⟩
    rw [ht] at HTn
    rw [ht, hg] at HAt
    have HG := Lib.hid hg
    have b0 := HBx.out.b0
    have b1 := HBx.out.b1
    have b2 := HBx.out.b2
    have b3 := HBx.out.b3
    simp only at b0 b1 b2 b3
    clear hcq hcq' HA ht hg n0 n1 r0 r1 f0 f1
    rcases hc2 with rfl | ⟨rfl, rfl⟩
    · go_wp2_with fail
      clear b0 b1 b2 b3
      generalize w5.alloc _ = w6 at *
      generalize w5.heap.size = K2 at *
      clear HS5 HB5 hbl hw1
      refine HTn.out.mono ?_
      rintro e w7 ⟨rfl, hb7⟩
      have HX7 := Lib.hid (HX.out.below hb7)
      have HB7 := Lib.hid (HBx.out.below hb7)
      clear hb7 HX HBx HTn
      cases t
      · obtain ⟨wa, hwa⟩ : ∃ wa, wa = w7 := ⟨_, rfl⟩
        subst hwa
        have HXa := HX7
        have HBa := HB7
        have HAo := Lib.hid (show atOnce tx m H L = false by rw [HAt.out]; rfl)
        clear HX7 HB7 HAt
        by_cases h3 : fl = 1
        · have hfl : (fl == 1) = true := by simpa using h3
          have HAsk := Lib.hid (ask_not HE.out HH0.out HAo.out h3)
          have r0 := HXa.out.r.e0
          have r1 := HXa.out.r.e1
          have f0 := HXa.out.r.fz 0
          have f1 := HXa.out.r.fz 1
          simp only [List.length_nil] at r0 r1
          have HLay := Lib.hid (HXa.out.lay (Hs.Ls.nils _) (Ws.Ls.nils _))
          have HLd := Lib.hid (HXa.out.laid (.slice none 0 0) (.slice none 0 0))
          clear h3
          go_wp2_with fail
          exact bodyPost_ret (results_asked rfl rfl rfl rfl HLay.out.e0 HLay.out.e1) rfl (askd_no HAsk.out (by decide) HLd.out)
        · have hfl : (fl == 1) = false := by simpa using h3
          have HAsk := Lib.hid (ask_wait HE.out HH0.out HAo.out h3)
          rw [HRq.out] at HAsk
          have HI := Lib.hid (fun (wi : World) (hb : Below wa.heap.size wa wi) => Ws.insert_any (HXa.out.q.l.below hb) (by have := HK.out; omega) (tx, ((s : Nat) : Int), false, iv))
          rw [HK.out] at HI
          have r0 := HXa.out.r.e0
          have r1 := HXa.out.r.e1
          have f0 := HXa.out.r.fz 0
          have f1 := HXa.out.r.fz 1
          have q1 := HXa.out.q.e1n HK.out
          have n0 := HXa.out.n.e0n HN.out
          have n1 := HXa.out.n.e1n HK.out
          have g1 := HXa.out.n.fz 1
          have b0 := HBa.out.b0
          have b1 := HBa.out.b1
          have b2 := HBa.out.b2
          have b3 := HBa.out.b3
          simp only at b0 b1 b2 b3
          simp only [List.length_nil] at r0 r1
          clear h3
          go_wp2_with fail
          go_region_law (first | (go_simp; go_at_call 70; refine (HI.out _ (Below.refl _ _).drew).mono ?_; rintro e wb ⟨B2, d2, rfl, hls1, hb1⟩; have hb2 := undrew hb1; have HXb := Lib.hid (HXa.out.below hb2); have j1 := HXb.out.n.e1n HK.out; have j2 := HXb.out.n.fz 1))
          all_goals
            have hN := HXb.out.n.set1 hls1
            have hR := HXb.out.r.far HXb.out.n HXb.out.rn (OnlyS.set N 1 wb (.slice B2 (Ws.ins (tx, ((s : Nat) : Int), false, iv) L).length d2))
            have hBl := HXb.out.bel.setCell (p := ⟨N, 1, none⟩) HXb.out.hn (.slice B2 (Ws.ins (tx, ((s : Nat) : Int), false, iv) L).length d2)
            have hRh := HXb.out.hr
            clear r0 r1 f0 f1 q1 n0 n1 g1 b0 b1 b2 b3 j1 j2 hls1 hb1 hb2 HI HXb HXa HBa
            obtain ⟨j, hj⟩ : ∃ j, (Ws.ins (tx, ((s : Nat) : Int), false, iv) L).length = j := ⟨_, rfl⟩
            rw [hj] at hN hR hBl ⊢
            generalize wb.setCell ⟨N, 1, none⟩ (.slice B2 j d2) = wc at hN hR hBl ⊢
            have r0 := hR.e0
            have r1 := hR.e1
            have f0 := hR.fz 0
            have f1 := hR.fz 1
            have n0 := hN.e0n HN.out
            have n1 := hN.e1n hj
            have HJ := Lib.hid hj
            have HLay := Lib.hid (lay_of hR hN)
            rw [HN.out, hj] at HLay
            have HLd := Lib.hid ((hBl.setCell (p := ⟨W.heap.size, 0, none⟩) hRh (.slice A1 n c1)).setCell (p := ⟨W.heap.size, 1, none⟩) hRh (.slice B2 j d2))
            simp only [List.length_nil] at r0 r1
            clear hN hR hBl hj
            go_wp2_with fail
            exact bodyPost_ret (results_asked rfl rfl rfl rfl (HLay.out.e0n HN.out) (HLay.out.e1n HJ.out)) rfl (askd_of HAsk.out HN.out HJ.out HLay.out HLd.out)
      · have HGo := Lib.hid (qgoes_any (HT.out.later HX7.out.bel) HX7.out.q (by have := HN.out; omega) tx (s : Nat) false iv)
        rw [HG.out] at HGo
        have b0 := HB7.out.b0
        have b1 := HB7.out.b1
        have b2 := HB7.out.b2
        have b3 := HB7.out.b3
        simp only at b0 b1 b2 b3
        go_wp2_with fail
        refine HGo.out.mono ?_
        rintro e w8 ⟨rfl, hb8⟩
        have HX8 := Lib.hid (HX7.out.below hb8)
        have HB8 := Lib.hid (HB7.out.below hb8)
        clear hb8 HX7 HB7 HGo b0 b1 b2 b3
        cases g
        · obtain ⟨wa, hwa⟩ : ∃ wa, wa = w8 := ⟨_, rfl⟩
          subst hwa
          have HXa := HX8
          have HBa := HB8
          have HAo := Lib.hid (show atOnce tx m H L = false by rw [HAt.out]; rfl)
          clear HX8 HB8 HAt
          by_cases h3 : fl = 1
          · have hfl : (fl == 1) = true := by simpa using h3
            have HAsk := Lib.hid (ask_not HE.out HH0.out HAo.out h3)
            have r0 := HXa.out.r.e0
            have r1 := HXa.out.r.e1
            have f0 := HXa.out.r.fz 0
            have f1 := HXa.out.r.fz 1
            simp only [List.length_nil] at r0 r1
            have HLay := Lib.hid (HXa.out.lay (Hs.Ls.nils _) (Ws.Ls.nils _))
            have HLd := Lib.hid (HXa.out.laid (.slice none 0 0) (.slice none 0 0))
            clear h3
            go_wp2_with fail
            exact bodyPost_ret (results_asked rfl rfl rfl rfl HLay.out.e0 HLay.out.e1) rfl (askd_no HAsk.out (by decide) HLd.out)
          · have hfl : (fl == 1) = false := by simpa using h3
            have HAsk := Lib.hid (ask_wait HE.out HH0.out HAo.out h3)
            rw [HRq.out] at HAsk
            have HI := Lib.hid (fun (wi : World) (hb : Below wa.heap.size wa wi) => Ws.insert_any (HXa.out.q.l.below hb) (by have := HK.out; omega) (tx, ((s : Nat) : Int), false, iv))
            rw [HK.out] at HI
            have r0 := HXa.out.r.e0
            have r1 := HXa.out.r.e1
            have f0 := HXa.out.r.fz 0
            have f1 := HXa.out.r.fz 1
            have q1 := HXa.out.q.e1n HK.out
            have n0 := HXa.out.n.e0n HN.out
            have n1 := HXa.out.n.e1n HK.out
            have g1 := HXa.out.n.fz 1
            have b0 := HBa.out.b0
            have b1 := HBa.out.b1
            have b2 := HBa.out.b2
            have b3 := HBa.out.b3
            simp only at b0 b1 b2 b3
            simp only [List.length_nil] at r0 r1
            clear h3
            go_wp2_with fail
            go_region_law (first | (go_simp; go_at_call 70; refine (HI.out _ (Below.refl _ _).drew).mono ?_; rintro e wb ⟨B2, d2, rfl, hls1, hb1⟩; have hb2 := undrew hb1; have HXb := Lib.hid (HXa.out.below hb2); have j1 := HXb.out.n.e1n HK.out; have j2 := HXb.out.n.fz 1))
            all_goals
              have hN := HXb.out.n.set1 hls1
              have hR := HXb.out.r.far HXb.out.n HXb.out.rn (OnlyS.set N 1 wb (.slice B2 (Ws.ins (tx, ((s : Nat) : Int), false, iv) L).length d2))
              have hBl := HXb.out.bel.setCell (p := ⟨N, 1, none⟩) HXb.out.hn (.slice B2 (Ws.ins (tx, ((s : Nat) : Int), false, iv) L).length d2)
              have hRh := HXb.out.hr
              clear r0 r1 f0 f1 q1 n0 n1 g1 b0 b1 b2 b3 j1 j2 hls1 hb1 hb2 HI HXb HXa HBa
              obtain ⟨j, hj⟩ : ∃ j, (Ws.ins (tx, ((s : Nat) : Int), false, iv) L).length = j := ⟨_, rfl⟩
              rw [hj] at hN hR hBl ⊢
              generalize wb.setCell ⟨N, 1, none⟩ (.slice B2 j d2) = wc at hN hR hBl ⊢
              have r0 := hR.e0
              have r1 := hR.e1
              have f0 := hR.fz 0
              have f1 := hR.fz 1
              have n0 := hN.e0n HN.out
              have n1 := hN.e1n hj
              have HJ := Lib.hid hj
              have HLay := Lib.hid (lay_of hR hN)
              rw [HN.out, hj] at HLay
              have HLd := Lib.hid ((hBl.setCell (p := ⟨W.heap.size, 0, none⟩) hRh (.slice A1 n c1)).setCell (p := ⟨W.heap.size, 1, none⟩) hRh (.slice B2 j d2))
              simp only [List.length_nil] at r0 r1
              clear hN hR hBl hj
              go_wp2_with fail
              exact bodyPost_ret (results_asked rfl rfl rfl rfl (HLay.out.e0n HN.out) (HLay.out.e1n HJ.out)) rfl (askd_of HAsk.out HN.out HJ.out HLay.out HLd.out)
        · have HAsk := Lib.hid (ask_now HE.out HH0.out (show atOnce tx m H L = true by rw [HAt.out]; rfl))
          rw [HRq.out] at HAsk
          have HGr := Lib.hid (grant_any HX8.out.n (by have := HN.out; omega) tx (s : Nat) false iv)
          have b0 := HB8.out.b0
          have b1 := HB8.out.b1
          have b2 := HB8.out.b2
          have b3 := HB8.out.b3
          simp only at b0 b1 b2 b3
          go_wp2_with fail
          refine HGr.out.mono ?_
          rintro e w9 ⟨rfl, ⟨B1, d1, B2, d2, hN⟩, ho⟩
          have hR := HX8.out.r.far HX8.out.n HX8.out.rn ho
          have hBl := HX8.out.bel.trans (ho.below (fun k hk => by rw [hk]; exact HX8.out.hn) HX8.out.bel.size)
          have hRh := HX8.out.hr
          clear HX8 HB8 HGr b0 b1 b2 b3 ho
          obtain ⟨j, hj⟩ : ∃ j, (grantH (tx, ((s : Nat) : Int), false, iv) H).length = j := ⟨_, rfl⟩
          have r0 := hR.e0
          have r1 := hR.e1
          have f0 := hR.fz 0
          have f1 := hR.fz 1
          have n0 := hN.e0n hj
          have n1 := hN.e1n HK.out
          have HJ := Lib.hid hj
          have HLay := Lib.hid (lay_of hR hN)
          rw [HK.out, hj] at HLay
          have HLd := Lib.hid ((hBl.setCell (p := ⟨W.heap.size, 0, none⟩) hRh (.slice B1 j d1)).setCell (p := ⟨W.heap.size, 1, none⟩) hRh (.slice B2 k d2))
          simp only [List.length_nil] at r0 r1
          clear hN hR hBl hj
          go_wp2_with fail
          exact bodyPost_ret (results_asked rfl rfl rfl rfl (HLay.out.e0n HJ.out) (HLay.out.e1n HK.out)) rfl (askd_of HAsk.out HJ.out HK.out HLay.out HLd.out)
    · go_wp2_with fail
      clear b0 b1 b2 b3
      generalize w5.alloc _ = w6 at *
      generalize w5.heap.size = K2 at *
      clear HS5 HB5 hbl hw1
      refine HTn.out.mono ?_
      rintro e w7 ⟨rfl, hb7⟩
      have HX7 := Lib.hid (HX.out.below hb7)
      have HB7 := Lib.hid (HBx.out.below hb7)
      clear hb7 HX HBx HTn
      cases t
      · obtain ⟨wa, hwa⟩ : ∃ wa, wa = w7 := ⟨_, rfl⟩
        subst hwa
        have HXa := HX7
        have HBa := HB7
        have HAo := Lib.hid (show atOnce tx m H L = false by rw [HAt.out]; rfl)
        clear HX7 HB7 HAt
        by_cases h3 : fl = 1
        · have hfl : (fl == 1) = true := by simpa using h3
          have HAsk := Lib.hid (ask_not HE.out HH0.out HAo.out h3)
          have r0 := HXa.out.r.e0
          have r1 := HXa.out.r.e1
          have f0 := HXa.out.r.fz 0
          have f1 := HXa.out.r.fz 1
          simp only [List.length_nil] at r0 r1
          have HLay := Lib.hid (HXa.out.lay (Hs.Ls.nils _) (Ws.Ls.nils _))
          have HLd := Lib.hid (HXa.out.laid (.slice none 0 0) (.slice none 0 0))
          clear h3
          go_wp2_with fail
          exact bodyPost_ret (results_asked rfl rfl rfl rfl HLay.out.e0 HLay.out.e1) rfl (askd_no HAsk.out (by decide) HLd.out)
        · have hfl : (fl == 1) = false := by simpa using h3
          have HAsk := Lib.hid (ask_wait HE.out HH0.out HAo.out h3)
          rw [HRq.out] at HAsk
          have HI := Lib.hid (fun (wi : World) (hb : Below wa.heap.size wa wi) => Ws.insert_any (HXa.out.q.l.below hb) (by have := HK.out; omega) (tx, ((s : Nat) : Int), true, iv))
          rw [HK.out] at HI
          have r0 := HXa.out.r.e0
          have r1 := HXa.out.r.e1
          have f0 := HXa.out.r.fz 0
          have f1 := HXa.out.r.fz 1
          have q1 := HXa.out.q.e1n HK.out
          have n0 := HXa.out.n.e0n HN.out
          have n1 := HXa.out.n.e1n HK.out
          have g1 := HXa.out.n.fz 1
          have b0 := HBa.out.b0
          have b1 := HBa.out.b1
          have b2 := HBa.out.b2
          have b3 := HBa.out.b3
          simp only at b0 b1 b2 b3
          simp only [List.length_nil] at r0 r1
          clear h3
          go_wp2_with fail
          go_region_law (first | (go_simp; go_at_call 70; refine (HI.out _ (Below.refl _ _).drew).mono ?_; rintro e wb ⟨B2, d2, rfl, hls1, hb1⟩; have hb2 := undrew hb1; have HXb := Lib.hid (HXa.out.below hb2); have j1 := HXb.out.n.e1n HK.out; have j2 := HXb.out.n.fz 1))
          all_goals
            have hN := HXb.out.n.set1 hls1
            have hR := HXb.out.r.far HXb.out.n HXb.out.rn (OnlyS.set N 1 wb (.slice B2 (Ws.ins (tx, ((s : Nat) : Int), true, iv) L).length d2))
            have hBl := HXb.out.bel.setCell (p := ⟨N, 1, none⟩) HXb.out.hn (.slice B2 (Ws.ins (tx, ((s : Nat) : Int), true, iv) L).length d2)
            have hRh := HXb.out.hr
            clear r0 r1 f0 f1 q1 n0 n1 g1 b0 b1 b2 b3 j1 j2 hls1 hb1 hb2 HI HXb HXa HBa
            obtain ⟨j, hj⟩ : ∃ j, (Ws.ins (tx, ((s : Nat) : Int), true, iv) L).length = j := ⟨_, rfl⟩
            rw [hj] at hN hR hBl ⊢
            generalize wb.setCell ⟨N, 1, none⟩ (.slice B2 j d2) = wc at hN hR hBl ⊢
            have r0 := hR.e0
            have r1 := hR.e1
            have f0 := hR.fz 0
            have f1 := hR.fz 1
            have n0 := hN.e0n HN.out
            have n1 := hN.e1n hj
            have HJ := Lib.hid hj
            have HLay := Lib.hid (lay_of hR hN)
            rw [HN.out, hj] at HLay
            have HLd := Lib.hid ((hBl.setCell (p := ⟨W.heap.size, 0, none⟩) hRh (.slice A1 n c1)).setCell (p := ⟨W.heap.size, 1, none⟩) hRh (.slice B2 j d2))
            simp only [List.length_nil] at r0 r1
            clear hN hR hBl hj
            go_wp2_with fail
            exact bodyPost_ret (results_asked rfl rfl rfl rfl (HLay.out.e0n HN.out) (HLay.out.e1n HJ.out)) rfl (askd_of HAsk.out HN.out HJ.out HLay.out HLd.out)
      · have HGo := Lib.hid (qgoes_any (HT.out.later HX7.out.bel) HX7.out.q (by have := HN.out; omega) tx (s : Nat) true iv)
        rw [HG.out] at HGo
        have b0 := HB7.out.b0
        have b1 := HB7.out.b1
        have b2 := HB7.out.b2
        have b3 := HB7.out.b3
        simp only at b0 b1 b2 b3
        go_wp2_with fail
        refine HGo.out.mono ?_
        rintro e w8 ⟨rfl, hb8⟩
        have HX8 := Lib.hid (HX7.out.below hb8)
        have HB8 := Lib.hid (HB7.out.below hb8)
        clear hb8 HX7 HB7 HGo b0 b1 b2 b3
        cases g
        · obtain ⟨wa, hwa⟩ : ∃ wa, wa = w8 := ⟨_, rfl⟩
          subst hwa
          have HXa := HX8
          have HBa := HB8
          have HAo := Lib.hid (show atOnce tx m H L = false by rw [HAt.out]; rfl)
          clear HX8 HB8 HAt
          by_cases h3 : fl = 1
          · have hfl : (fl == 1) = true := by simpa using h3
            have HAsk := Lib.hid (ask_not HE.out HH0.out HAo.out h3)
            have r0 := HXa.out.r.e0
            have r1 := HXa.out.r.e1
            have f0 := HXa.out.r.fz 0
            have f1 := HXa.out.r.fz 1
            simp only [List.length_nil] at r0 r1
            have HLay := Lib.hid (HXa.out.lay (Hs.Ls.nils _) (Ws.Ls.nils _))
            have HLd := Lib.hid (HXa.out.laid (.slice none 0 0) (.slice none 0 0))
            clear h3
            go_wp2_with fail
            exact bodyPost_ret (results_asked rfl rfl rfl rfl HLay.out.e0 HLay.out.e1) rfl (askd_no HAsk.out (by decide) HLd.out)
          · have hfl : (fl == 1) = false := by simpa using h3
            have HAsk := Lib.hid (ask_wait HE.out HH0.out HAo.out h3)
            rw [HRq.out] at HAsk
            have HI := Lib.hid (fun (wi : World) (hb : Below wa.heap.size wa wi) => Ws.insert_any (HXa.out.q.l.below hb) (by have := HK.out; omega) (tx, ((s : Nat) : Int), true, iv))
            rw [HK.out] at HI
            have r0 := HXa.out.r.e0
            have r1 := HXa.out.r.e1
            have f0 := HXa.out.r.fz 0
            have f1 := HXa.out.r.fz 1
            have q1 := HXa.out.q.e1n HK.out
            have n0 := HXa.out.n.e0n HN.out
            have n1 := HXa.out.n.e1n HK.out
            have g1 := HXa.out.n.fz 1
            have b0 := HBa.out.b0
            have b1 := HBa.out.b1
            have b2 := HBa.out.b2
            have b3 := HBa.out.b3
            simp only at b0 b1 b2 b3
            simp only [List.length_nil] at r0 r1
            clear h3
            go_wp2_with fail
            go_region_law (first | (go_simp; go_at_call 70; refine (HI.out _ (Below.refl _ _).drew).mono ?_; rintro e wb ⟨B2, d2, rfl, hls1, hb1⟩; have hb2 := undrew hb1; have HXb := Lib.hid (HXa.out.below hb2); have j1 := HXb.out.n.e1n HK.out; have j2 := HXb.out.n.fz 1))
            all_goals
              have hN := HXb.out.n.set1 hls1
              have hR := HXb.out.r.far HXb.out.n HXb.out.rn (OnlyS.set N 1 wb (.slice B2 (Ws.ins (tx, ((s : Nat) : Int), true, iv) L).length d2))
              have hBl := HXb.out.bel.setCell (p := ⟨N, 1, none⟩) HXb.out.hn (.slice B2 (Ws.ins (tx, ((s : Nat) : Int), true, iv) L).length d2)
              have hRh := HXb.out.hr
              clear r0 r1 f0 f1 q1 n0 n1 g1 b0 b1 b2 b3 j1 j2 hls1 hb1 hb2 HI HXb HXa HBa
              obtain ⟨j, hj⟩ : ∃ j, (Ws.ins (tx, ((s : Nat) : Int), true, iv) L).length = j := ⟨_, rfl⟩
              rw [hj] at hN hR hBl ⊢
              generalize wb.setCell ⟨N, 1, none⟩ (.slice B2 j d2) = wc at hN hR hBl ⊢
              have r0 := hR.e0
              have r1 := hR.e1
              have f0 := hR.fz 0
              have f1 := hR.fz 1
              have n0 := hN.e0n HN.out
              have n1 := hN.e1n hj
              have HJ := Lib.hid hj
              have HLay := Lib.hid (lay_of hR hN)
              rw [HN.out, hj] at HLay
              have HLd := Lib.hid ((hBl.setCell (p := ⟨W.heap.size, 0, none⟩) hRh (.slice A1 n c1)).setCell (p := ⟨W.heap.size, 1, none⟩) hRh (.slice B2 j d2))
              simp only [List.length_nil] at r0 r1
              clear hN hR hBl hj
              go_wp2_with fail
              exact bodyPost_ret (results_asked rfl rfl rfl rfl (HLay.out.e0n HN.out) (HLay.out.e1n HJ.out)) rfl (askd_of HAsk.out HN.out HJ.out HLay.out HLd.out)
        · have HAsk := Lib.hid (ask_now HE.out HH0.out (show atOnce tx m H L = true by rw [HAt.out]; rfl))
          rw [HRq.out] at HAsk
          have HGr := Lib.hid (grant_any HX8.out.n (by have := HN.out; omega) tx (s : Nat) true iv)
          have b0 := HB8.out.b0
          have b1 := HB8.out.b1
          have b2 := HB8.out.b2
          have b3 := HB8.out.b3
          simp only at b0 b1 b2 b3
          go_wp2_with fail
          refine HGr.out.mono ?_
          rintro e w9 ⟨rfl, ⟨B1, d1, B2, d2, hN⟩, ho⟩
          have hR := HX8.out.r.far HX8.out.n HX8.out.rn ho
          have hBl := HX8.out.bel.trans (ho.below (fun k hk => by rw [hk]; exact HX8.out.hn) HX8.out.bel.size)
          have hRh := HX8.out.hr
          clear HX8 HB8 HGr b0 b1 b2 b3 ho
          obtain ⟨j, hj⟩ : ∃ j, (grantH (tx, ((s : Nat) : Int), true, iv) H).length = j := ⟨_, rfl⟩
          have r0 := hR.e0
          have r1 := hR.e1
          have f0 := hR.fz 0
          have f1 := hR.fz 1
          have n0 := hN.e0n hj
          have n1 := hN.e1n HK.out
          have HJ := Lib.hid hj
          have HLay := Lib.hid (lay_of hR hN)
          rw [HK.out, hj] at HLay
          have HLd := Lib.hid ((hBl.setCell (p := ⟨W.heap.size, 0, none⟩) hRh (.slice B1 j d1)).setCell (p := ⟨W.heap.size, 1, none⟩) hRh (.slice B2 k d2))
          simp only [List.length_nil] at r0 r1
          clear hN hR hBl hj
          go_wp2_with fail
          exact bodyPost_ret (results_asked rfl rfl rfl rfl (HLay.out.e0n HJ.out) (HLay.out.e1n HK.out)) rfl (askd_of HAsk.out HJ.out HK.out HLay.out HLd.out)
end
end Go.Proofs.YteaibamkfccplaaDoor
