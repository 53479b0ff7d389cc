/- A queue: what an Ask comes to: the walk. -/
import Derived.Test.YtlhhopanegnliaaGreatDoorQa
import Derived.Test.YtlhhopanegnliaaGreatDoorWs
namespace Go.Proofs.YtlhhopanegnliaaGreatDoor
open Go Go.RowKit Go.Shelf
set_option maxRecDepth 100000

/-- the result's cells, the queue to be, and the queue itself -/
structure Sc (W : World) (b : Nat) (A1 : Option Addr) (c1 : Nat) (A2 : Option Addr) (c2 : Nat) (H : List Hs.Hd) (L : List Ws.Wt) (R N : Nat) (w : World) : Prop where
  r : QAt w R none 0 none 0 [] []
  n : QAt w N A1 c1 A2 c2 H L
  q : QAt w b A1 c1 A2 c2 H L
  bel : Below W.heap.size W w
  hr : W.heap.size ≤ R
  hn : W.heap.size ≤ N
  rn : R ≠ N
/-- a request in a block -/
structure Bx (w : World) (K : Nat) (x : Ws.Wt) : Prop where
  blk : w.heap[K]? = some (.cells #[.int .i64 x.1, .int .i64 x.2.1, .bool x.2.2.1, .bool x.2.2.2] 61 (0, 0))
section
variable {w w' : World} {K b : Nat} {x : Ws.Wt}
theorem Bx.b0 (h : Bx w K x) : w.cell? ⟨K, 0, none⟩ = some (.int .i64 x.1) := by rw [cell_blk h.blk]; rfl
theorem Bx.b1 (h : Bx w K x) : w.cell? ⟨K, 1, none⟩ = some (.int .i64 x.2.1) := by rw [cell_blk h.blk]; rfl
theorem Bx.b2 (h : Bx w K x) : w.cell? ⟨K, 2, none⟩ = some (.bool x.2.2.1) := by rw [cell_blk h.blk]; rfl
theorem Bx.b3 (h : Bx w K x) : w.cell? ⟨K, 3, none⟩ = some (.bool x.2.2.2) := by rw [cell_blk h.blk]; rfl
theorem Bx.lt (h : Bx w K x) : K < w.heap.size := lt_blk h.blk
theorem Bx.below (h : Bx w K x) (hb : Below w.heap.size w w') : Bx w' K x := ⟨(hb.block K h.lt).trans h.blk⟩
theorem Bx.only (h : Bx w K x) (ho : OnlyS (· = b) w w') (hne : K ≠ b) : Bx w' K x := ⟨(ho.block K h.lt hne).trans h.blk⟩
theorem Bx.new (w : World) (tx m : Int) (cv ii : Bool) : Bx (w.alloc (.cells #[.int .i64 tx, .int .i64 m, .bool cv, .bool ii] 61)) w.heap.size (tx, m, cv, ii) := ⟨heap_alloc_new w _⟩
end
section
variable {W W' w w' : World} {b R N n1 n2 : Nat} {A1 A2 B1 B2 : Option Addr} {c1 c2 d1 d2 : Nat} {H H' : List Hs.Hd} {L L' : List Ws.Wt}
theorem Sc.below (h : Sc W b A1 c1 A2 c2 H L R N w) (hb : Below w.heap.size w w') : Sc W b A1 c1 A2 c2 H L R N w' :=
  ⟨h.r.below hb, h.n.below hb, h.q.below hb, h.bel.trans (hb.mono h.bel.size), h.hr, h.hn, h.rn⟩
theorem Sc.new (hr : QAt w R none 0 none 0 [] []) (hq : QAt w b A1 c1 A2 c2 H L) (hb : Below W.heap.size W w) (hR : W.heap.size ≤ R) :
    Sc W b A1 c1 A2 c2 H L R w.heap.size (w.alloc (.cells #[.slice A1 H.length c1, .slice A2 L.length c2] 139)) :=
  ⟨hr.below (box_below _ _), QAt.new w hq.h hq.l, hq.below (box_below _ _), hb.trans ((box_below _ _).mono hb.size), hR, hb.size, by have := hr.lt; omega⟩
theorem Sc.lay (h : Sc W b A1 c1 A2 c2 H L R N w) (hh : Hs.Ls w B1 d1 H') (hl : Ws.Ls w B2 d2 L') :
    QAt ((w.setCell ⟨R, 0, none⟩ (.slice B1 H'.length d1)).setCell ⟨R, 1, none⟩ (.slice B2 L'.length d2)) R B1 d1 B2 d2 H' L' :=
  (h.r.set0 hh).set1 (hl.off (b := R) (fun k x _ => h.r.noint k x.1) (OnlyS.set _ _ _ _))
theorem lay_of (hr : QAt w R none 0 none 0 [] []) (hn : QAt w N A1 c1 A2 c2 H L) : QAt ((w.setCell ⟨R, 0, none⟩ (.slice A1 H.length c1)).setCell ⟨R, 1, none⟩ (.slice A2 L.length c2)) R A1 c1 A2 c2 H L :=
  (hr.set0 hn.h).set1 (hn.l.off (b := R) (fun k x _ => hr.noint k x.1) (OnlyS.set _ _ _ _))
theorem QAt.e0n (h : QAt w b A1 c1 A2 c2 H L) {n : Nat} (hn : H.length = n) : w.cell? ⟨b, 0, none⟩ = some (.slice A1 n c1) := by rw [← hn]; exact h.e0
theorem QAt.e1n (h : QAt w b A1 c1 A2 c2 H L) {k : Nat} (hk : L.length = k) : w.cell? ⟨b, 1, none⟩ = some (.slice A2 k c2) := by rw [← hk]; exact h.e1
theorem Sc.laid (h : Sc W b A1 c1 A2 c2 H L R N w) (u v : Value) : Below W.heap.size W ((w.setCell ⟨R, 0, none⟩ u).setCell ⟨R, 1, none⟩ v) :=
  (h.bel.setCell (p := ⟨R, 0, none⟩) h.hr _).setCell (p := ⟨R, 1, none⟩) h.hr _
theorem askd_of {x : Int} {X : Ans} (hX : X = (x, 0, H', L')) {n k : Nat} (hn : H'.length = n) (hk : L'.length = k) (hq : QAt w R B1 d1 B2 d2 H' L') (hb : Below W.heap.size W w) {P1 : Option Addr × List Hs.Hd} {P2 : Option Addr × List Ws.Wt} (f1 : Fr W.heap.size P1 B1 H') (f2 : Fr W.heap.size P2 B2 L') :
    Askd W P1 P2 X (.returned (.tuple #[qv B1 n d1 B2 k d2, .int .i64 x, .int .i64 0])) w := by
  subst hX
  subst hn
  subst hk
  exact ⟨B1, d1, B2, d2, rfl, hq.h, hq.l, hb, f1, f2⟩
theorem askd_no {P1 : Option Addr × List Hs.Hd} {P2 : Option Addr × List Ws.Wt} {x y : Int} {X : Ans} (hX : X = (x, y, H', L')) (h0 : y ≠ 0) (hb : Below W.heap.size W w) :
    Askd W P1 P2 X (.returned (.tuple #[qv none 0 0 none 0 0, .int .i64 x, .int .i64 y])) w := by
  subst hX
  have e1 : okH (x, y, H', L') = [] := if_neg h0
  have e2 : okL (x, y, H', L') = [] := if_neg h0
  refine ⟨none, 0, none, 0, ?_, ?_, ?_, hb, Fr.new (fun _ h => by cases h), Fr.new (fun _ h => by cases h)⟩
  · rw [e1, e2]; rfl
  · rw [e1]; exact Hs.Ls.nils _
  · rw [e2]; exact Ws.Ls.nils _
set_option maxHeartbeats 2000000 in
theorem asked_ok (ht : TabG W) (h : QAt W b A1 c1 A2 c2 H L) (h1 : H.length ≤ 400) (h2 : L.length ≤ 400) (tx m fl : Int) (he : errR tx m fl L = 0) :
    Calls Tryz.prog 145 #[qp b, .int .i64 tx, .int .i64 m, .int .i64 fl] W (Askd W (A1, H) (A2, L) (ask tx m fl H L)) := by
  have hr := QAt.nils W
  have HB := Lib.hid (box_below W (.cells #[.slice none 0 0, .slice none 0 0] 139))
  have HF := Lib.hid (refuses_any (h.below HB.out).its h2 tx m fl)
  have HQ := Lib.hid (h.below HB.out)
  have HR := Lib.hid hr
  have HT := Lib.hid ht
  have HE := Lib.hid he
  rw [he] at HF
  have hbl : b < W.heap.size := h.lt
  clear hr h he ht
  go_enter Tryz.func145, Tryz.ntmps145
  go_wp2_with fail
  refine HF.out.mono ?_
  rintro e w1 ⟨rfl, hb1⟩
  have hr1 := HR.out.below hb1
  have hq1 := HQ.out.below hb1
  have HS := Lib.hid (Sc.new hr1 hq1 (HB.out.trans (hb1.mono HB.out.size)) (Nat.le_refl _))
  have q0 := hq1.e0
  have q1 := hq1.e1
  have hw1 := (HB.out.trans (hb1.mono HB.out.size)).size
  have HM := Lib.hid (qmode_any HS.out.q.its (by omega) tx)
  have HHs := Lib.hid (fun (w2 : World) (hb : Below (w1.alloc (.cells #[.slice A1 H.length c1, .slice A2 L.length c2] 139)).heap.size (w1.alloc (.cells #[.slice A1 H.length c1, .slice A2 L.length c2] 139)) w2) => has_any (HS.out.below hb).q.its (by omega) tx)
  obtain ⟨z, hz⟩ : ∃ z, Hs.fst tx H = z := ⟨_, rfl⟩
  obtain ⟨s, hs⟩ : ∃ s, supN (kn z) (kn m) = s := ⟨_, rfl⟩
  obtain ⟨q, hq⟩ : ∃ q, covB (kn z) (kn m) = q := ⟨_, rfl⟩
  have HTg := Lib.hid (fun (w2 w3 : World) (hb : Below w2.heap.size w2 w3) => target_any z m w2 w3 hb)
  unfold tgtV at HTg
  rw [hs, hq] at HTg
  rw [hz] at HM HHs
  have HZ := Lib.hid hz
  have HSs := Lib.hid hs
  have HQq := Lib.hid hq
  obtain ⟨n, hn⟩ : ∃ n, H.length = n := ⟨_, rfl⟩
  obtain ⟨k, hk⟩ : ∃ k, L.length = k := ⟨_, rfl⟩
  have HN := Lib.hid hn
  have HK := Lib.hid hk
  rw [hn, hk] at HS HM HHs
  rw [hn] at q0 h1
  rw [hk] at q1 h2
  clear hb1 hr1 hq1 HB HR HQ HF hz hs hq hn hk
  go_wp2_with fail
  generalize w1.alloc (.cells #[.slice A1 n c1, .slice A2 k c2] 139) = w2 at *
  generalize w1.heap.size = N at *
  clear q0 q1
  refine HM.out.mono ?_
  rintro e w3 ⟨rfl, hb3⟩
  have HT3 := Lib.hid (HTg.out w3 w3 (Below.refl _ _))
  have HB3 := Lib.hid hb3
  clear hb3 HM HTg
  go_wp2_with fail
  refine HT3.out.mono ?_
  rintro e w4 ⟨rfl, hb4⟩
  have HB4 := Lib.hid (HB3.out.trans (hb4.mono HB3.out.size))
  have HH4 := Lib.hid (HHs.out _ HB4.out)
  clear hb4 HHs HT3 HB3
  go_wp2_with fail
  refine HH4.out.mono ?_
  rintro e w5 ⟨rfl, hb5⟩
  have HB5 := Lib.hid (HB4.out.trans (hb5.mono HB4.out.size))
  have HS5 := Lib.hid (HS.out.below HB5.out)
  obtain ⟨cv, hcv⟩ : ∃ cv, (z != 0) = cv := ⟨_, rfl⟩
  obtain ⟨iv, hiv⟩ : ∃ iv, (fl == 2) = iv := ⟨_, rfl⟩
  have HCV := Lib.hid hcv
  have HIV := Lib.hid hiv
  rw [hcv]
  have HX := Lib.hid (HS5.out.below (box_below w5 (.cells #[.int .i64 tx, .int .i64 (s : Nat), .bool cv, .bool iv] 61)))
  have HBx := Lib.hid (Bx.new w5 tx (s : Nat) cv iv)
  have n0 := HX.out.n.e0
  have n1 := HX.out.n.e1
  have r0 := HX.out.r.e0
  have r1 := HX.out.r.e1
  have f0 := HX.out.r.fz 0
  have f1 := HX.out.r.fz 1
  simp only [List.length_nil] at r0 r1
  rw [HN.out] at n0
  rw [HK.out] at n1
  have hrn := HX.out.rn
  have HA : Hid (has tx m H = (cv && q)) := Lib.hid (by unfold has; rw [HZ.out, HCV.out, HQq.out])
  have HRq : Hid (reqW tx m fl H = (tx, ((s : Nat) : Int), cv, iv)) := Lib.hid (by unfold reqW tgt; rw [HZ.out, HCV.out, HIV.out, HSs.out])
  have HAt : Hid (atOnce tx m H L = (turnB cv L && Hs.goesB tx ((s : Nat) : Int) H)) := Lib.hid (by unfold atOnce tgt; rw [HZ.out, HCV.out, HSs.out])
  clear hb5 HH4 HB4 HS hcv
  by_cases hcq : (cv && q) = true
  · obtain ⟨rfl, rfl⟩ : cv = true ∧ q = true := by simpa using hcq
    have HAsk := Lib.hid (ask_has (fl := fl) HE.out HA.out)
    clear hcq
    have HLay := Lib.hid (HX.out.lay HX.out.n.h HX.out.n.l)
    rw [HN.out, HK.out] at HLay
    have HLd := Lib.hid (HX.out.laid (.slice A1 n c1) (.slice A2 k c2))
    go_wp2_with fail
    exact bodyPost_ret (results_asked rfl rfl rfl rfl (HLay.out.e0n HN.out) (HLay.out.e1n HK.out)) rfl (askd_of HAsk.out HN.out HK.out HLay.out HLd.out (Fr.refl _ _) (Fr.refl _ _))
  · have hcq' : (cv && q) = false := by simpa using hcq
    have HH0 := Lib.hid (show has tx m H = false by rw [HA.out, hcq'])
    have HTn := Lib.hid (turn_any HX.out.q (by have := HK.out; omega) tx (s : Nat) cv iv)
    have hc2 : cv = false ∨ (cv = true ∧ q = false) := by
      cases cv
      · exact .inl rfl
      · exact .inr ⟨rfl, by simpa using hcq'⟩
    obtain ⟨t, ht⟩ : ∃ t, turnB cv L = t := ⟨_, rfl⟩
    obtain ⟨g, hg⟩ : ∃ g, Hs.goesB tx ((s : Nat) : Int) H = g := ⟨_, rfl⟩
    rw [ht] at HTn
    rw [ht, hg] at HAt
    have HG := Lib.hid hg
    have b0 := HBx.out.b0
    have b1 := HBx.out.b1
    have b2 := HBx.out.b2
    have b3 := HBx.out.b3
    simp only at b0 b1 b2 b3
    clear hcq hcq' HA ht hg n0 n1 r0 r1 f0 f1
    rcases hc2 with rfl | ⟨rfl, rfl⟩
    · go_wp2_with fail
      clear b0 b1 b2 b3
      generalize w5.alloc _ = w6 at *
      generalize w5.heap.size = K2 at *
      clear HS5 HB5 hbl hw1
      refine HTn.out.mono ?_
      rintro e w7 ⟨rfl, hb7⟩
      have HX7 := Lib.hid (HX.out.below hb7)
      have HB7 := Lib.hid (HBx.out.below hb7)
      clear hb7 HX HBx HTn
      cases t
      · obtain ⟨wa, hwa⟩ : ∃ wa, wa = w7 := ⟨_, rfl⟩
        subst hwa
        have HXa := HX7
        have HBa := HB7
        have HAo := Lib.hid (show atOnce tx m H L = false by rw [HAt.out]; rfl)
        clear HX7 HB7 HAt
        by_cases h3 : fl = 1
        · have hfl : (fl == 1) = true := by simpa using h3
          have HAsk := Lib.hid (ask_not HE.out HH0.out HAo.out h3)
          have r0 := HXa.out.r.e0
          have r1 := HXa.out.r.e1
          have f0 := HXa.out.r.fz 0
          have f1 := HXa.out.r.fz 1
          simp only [List.length_nil] at r0 r1
          have HLay := Lib.hid (HXa.out.lay (Hs.Ls.nils _) (Ws.Ls.nils _))
          have HLd := Lib.hid (HXa.out.laid (.slice none 0 0) (.slice none 0 0))
          clear h3
          go_wp2_with fail
          exact bodyPost_ret (results_asked rfl rfl rfl rfl HLay.out.e0 HLay.out.e1) rfl (askd_no HAsk.out (by decide) HLd.out)
        · have hfl : (fl == 1) = false := by simpa using h3
          have HAsk := Lib.hid (ask_wait HE.out HH0.out HAo.out h3)
          rw [HRq.out] at HAsk
          have HI := Lib.hid (fun (wi : World) (hb : Below wa.heap.size wa wi) => Ws.insert_far (HXa.out.q.l.below hb) (by have := HK.out; omega) (tx, ((s : Nat) : Int), false, iv))
          rw [HK.out] at HI
          have r0 := HXa.out.r.e0
          have r1 := HXa.out.r.e1
          have f0 := HXa.out.r.fz 0
          have f1 := HXa.out.r.fz 1
          have q1 := HXa.out.q.e1n HK.out
          have n0 := HXa.out.n.e0n HN.out
          have n1 := HXa.out.n.e1n HK.out
          have g1 := HXa.out.n.fz 1
          have b0 := HBa.out.b0
          have b1 := HBa.out.b1
          have b2 := HBa.out.b2
          have b3 := HBa.out.b3
          simp only at b0 b1 b2 b3
          simp only [List.length_nil] at r0 r1
          clear h3
          go_wp2_with fail
          go_region_law (first | (go_simp; go_at_call 191; refine (HI.out _ (Below.refl _ _).drew).mono ?_; rintro e wb ⟨B2, d2, rfl, hlf1, hb1⟩; have hls1 := hlf1.1; have HFR := Lib.hid (show ∀ a, B2 = some a → W.heap.size ≤ a.block from fun a ha => Nat.le_trans HXa.out.bel.size (hlf1.2 a ha)); clear hlf1; have hb2 := undrew hb1; have HXb := Lib.hid (HXa.out.below hb2); have j1 := HXb.out.n.e1n HK.out; have j2 := HXb.out.n.fz 1))
          all_goals
            have hN := HXb.out.n.set1 hls1
            have hR := HXb.out.r.far HXb.out.n HXb.out.rn (OnlyS.set N 1 wb (.slice B2 (Ws.ins (tx, ((s : Nat) : Int), false, iv) L).length d2))
            have hBl := HXb.out.bel.setCell (p := ⟨N, 1, none⟩) HXb.out.hn (.slice B2 (Ws.ins (tx, ((s : Nat) : Int), false, iv) L).length d2)
            have hRh := HXb.out.hr
            clear r0 r1 f0 f1 q1 n0 n1 g1 b0 b1 b2 b3 j1 j2 hls1 hb1 hb2 HI HXb HXa HBa
            obtain ⟨j, hj⟩ : ∃ j, (Ws.ins (tx, ((s : Nat) : Int), false, iv) L).length = j := ⟨_, rfl⟩
            rw [hj] at hN hR hBl ⊢
            generalize wb.setCell ⟨N, 1, none⟩ (.slice B2 j d2) = wc at hN hR hBl ⊢
            have r0 := hR.e0
            have r1 := hR.e1
            have f0 := hR.fz 0
            have f1 := hR.fz 1
            have n0 := hN.e0n HN.out
            have n1 := hN.e1n hj
            have HJ := Lib.hid hj
            have HLay := Lib.hid (lay_of hR hN)
            rw [HN.out, hj] at HLay
            have HLd := Lib.hid ((hBl.setCell (p := ⟨W.heap.size, 0, none⟩) hRh (.slice A1 n c1)).setCell (p := ⟨W.heap.size, 1, none⟩) hRh (.slice B2 j d2))
            simp only [List.length_nil] at r0 r1
            clear hN hR hBl hj
            go_wp2_with fail
            exact bodyPost_ret (results_asked rfl rfl rfl rfl (HLay.out.e0n HN.out) (HLay.out.e1n HJ.out)) rfl (askd_of HAsk.out HN.out HJ.out HLay.out HLd.out (Fr.refl _ _) (Fr.new HFR.out))
      · have HGo := Lib.hid (qgoes_any (HT.out.later HX7.out.bel) HX7.out.q (by have := HN.out; omega) tx (s : Nat) false iv)
        rw [HG.out] at HGo
        have b0 := HB7.out.b0
        have b1 := HB7.out.b1
        have b2 := HB7.out.b2
        have b3 := HB7.out.b3
        simp only at b0 b1 b2 b3
        go_wp2_with fail
        refine HGo.out.mono ?_
        rintro e w8 ⟨rfl, hb8⟩
        have HX8 := Lib.hid (HX7.out.below hb8)
        have HB8 := Lib.hid (HB7.out.below hb8)
        clear hb8 HX7 HB7 HGo b0 b1 b2 b3
        cases g
        · obtain ⟨wa, hwa⟩ : ∃ wa, wa = w8 := ⟨_, rfl⟩
          subst hwa
          have HXa := HX8
          have HBa := HB8
          have HAo := Lib.hid (show atOnce tx m H L = false by rw [HAt.out]; rfl)
          clear HX8 HB8 HAt
          by_cases h3 : fl = 1
          · have hfl : (fl == 1) = true := by simpa using h3
            have HAsk := Lib.hid (ask_not HE.out HH0.out HAo.out h3)
            have r0 := HXa.out.r.e0
            have r1 := HXa.out.r.e1
            have f0 := HXa.out.r.fz 0
            have f1 := HXa.out.r.fz 1
            simp only [List.length_nil] at r0 r1
            have HLay := Lib.hid (HXa.out.lay (Hs.Ls.nils _) (Ws.Ls.nils _))
            have HLd := Lib.hid (HXa.out.laid (.slice none 0 0) (.slice none 0 0))
            clear h3
            go_wp2_with fail
            exact bodyPost_ret (results_asked rfl rfl rfl rfl HLay.out.e0 HLay.out.e1) rfl (askd_no HAsk.out (by decide) HLd.out)
          · have hfl : (fl == 1) = false := by simpa using h3
            have HAsk := Lib.hid (ask_wait HE.out HH0.out HAo.out h3)
            rw [HRq.out] at HAsk
            have HI := Lib.hid (fun (wi : World) (hb : Below wa.heap.size wa wi) => Ws.insert_far (HXa.out.q.l.below hb) (by have := HK.out; omega) (tx, ((s : Nat) : Int), false, iv))
            rw [HK.out] at HI
            have r0 := HXa.out.r.e0
            have r1 := HXa.out.r.e1
            have f0 := HXa.out.r.fz 0
            have f1 := HXa.out.r.fz 1
            have q1 := HXa.out.q.e1n HK.out
            have n0 := HXa.out.n.e0n HN.out
            have n1 := HXa.out.n.e1n HK.out
            have g1 := HXa.out.n.fz 1
            have b0 := HBa.out.b0
            have b1 := HBa.out.b1
            have b2 := HBa.out.b2
            have b3 := HBa.out.b3
            simp only at b0 b1 b2 b3
            simp only [List.length_nil] at r0 r1
            clear h3
            go_wp2_with fail
            go_region_law (first | (go_simp; go_at_call 191; refine (HI.out _ (Below.refl _ _).drew).mono ?_; rintro e wb ⟨B2, d2, rfl, hlf1, hb1⟩; have hls1 := hlf1.1; have HFR := Lib.hid (show ∀ a, B2 = some a → W.heap.size ≤ a.block from fun a ha => Nat.le_trans HXa.out.bel.size (hlf1.2 a ha)); clear hlf1; have hb2 := undrew hb1; have HXb := Lib.hid (HXa.out.below hb2); have j1 := HXb.out.n.e1n HK.out; have j2 := HXb.out.n.fz 1))
            all_goals
              have hN := HXb.out.n.set1 hls1
              have hR := HXb.out.r.far HXb.out.n HXb.out.rn (OnlyS.set N 1 wb (.slice B2 (Ws.ins (tx, ((s : Nat) : Int), false, iv) L).length d2))
              have hBl := HXb.out.bel.setCell (p := ⟨N, 1, none⟩) HXb.out.hn (.slice B2 (Ws.ins (tx, ((s : Nat) : Int), false, iv) L).length d2)
              have hRh := HXb.out.hr
              clear r0 r1 f0 f1 q1 n0 n1 g1 b0 b1 b2 b3 j1 j2 hls1 hb1 hb2 HI HXb HXa HBa
              obtain ⟨j, hj⟩ : ∃ j, (Ws.ins (tx, ((s : Nat) : Int), false, iv) L).length = j := ⟨_, rfl⟩
              rw [hj] at hN hR hBl ⊢
              generalize wb.setCell ⟨N, 1, none⟩ (.slice B2 j d2) = wc at hN hR hBl ⊢
              have r0 := hR.e0
              have r1 := hR.e1
              have f0 := hR.fz 0
              have f1 := hR.fz 1
              have n0 := hN.e0n HN.out
              have n1 := hN.e1n hj
              have HJ := Lib.hid hj
              have HLay := Lib.hid (lay_of hR hN)
              rw [HN.out, hj] at HLay
              have HLd := Lib.hid ((hBl.setCell (p := ⟨W.heap.size, 0, none⟩) hRh (.slice A1 n c1)).setCell (p := ⟨W.heap.size, 1, none⟩) hRh (.slice B2 j d2))
              simp only [List.length_nil] at r0 r1
              clear hN hR hBl hj
              go_wp2_with fail
              exact bodyPost_ret (results_asked rfl rfl rfl rfl (HLay.out.e0n HN.out) (HLay.out.e1n HJ.out)) rfl (askd_of HAsk.out HN.out HJ.out HLay.out HLd.out (Fr.refl _ _) (Fr.new HFR.out))
        · have HAsk := Lib.hid (ask_now HE.out HH0.out (show atOnce tx m H L = true by rw [HAt.out]; rfl))
          rw [HRq.out] at HAsk
          have HGr := Lib.hid (grant_row HX8.out.n (by have := HN.out; omega) tx (s : Nat) false iv)
          have b0 := HB8.out.b0
          have b1 := HB8.out.b1
          have b2 := HB8.out.b2
          have b3 := HB8.out.b3
          simp only at b0 b1 b2 b3
          go_wp2_with fail
          refine HGr.out.mono ?_
          rintro e w9 ⟨rfl, B1, d1, hN, ho, hfr⟩
          have hR := HX8.out.r.far HX8.out.n HX8.out.rn ho
          have hBl := HX8.out.bel.trans (ho.below (fun k hk => by rw [hk]; exact HX8.out.hn) HX8.out.bel.size)
          have hRh := HX8.out.hr
          have HFR := Lib.hid (show Fr W.heap.size (A1, H) B1 _ from hfr.imp And.symm (fun q a ha => Nat.le_trans HX8.out.bel.size (q a ha)))
          clear hfr
          clear HX8 HB8 HGr b0 b1 b2 b3 ho
          obtain ⟨j, hj⟩ : ∃ j, (grantH (tx, ((s : Nat) : Int), false, iv) H).length = j := ⟨_, rfl⟩
          have r0 := hR.e0
          have r1 := hR.e1
          have f0 := hR.fz 0
          have f1 := hR.fz 1
          have n0 := hN.e0n hj
          have n1 := hN.e1n HK.out
          have HJ := Lib.hid hj
          have HLay := Lib.hid (lay_of hR hN)
          rw [HK.out, hj] at HLay
          have HLd := Lib.hid ((hBl.setCell (p := ⟨W.heap.size, 0, none⟩) hRh (.slice B1 j d1)).setCell (p := ⟨W.heap.size, 1, none⟩) hRh (.slice A2 k c2))
          simp only [List.length_nil] at r0 r1
          clear hN hR hBl hj
          go_wp2_with fail
          exact bodyPost_ret (results_asked rfl rfl rfl rfl (HLay.out.e0n HJ.out) (HLay.out.e1n HK.out)) rfl (askd_of HAsk.out HJ.out HK.out HLay.out HLd.out HFR.out (Fr.refl _ _))
    · go_wp2_with fail
      clear b0 b1 b2 b3
      generalize w5.alloc _ = w6 at *
      generalize w5.heap.size = K2 at *
      clear HS5 HB5 hbl hw1
      refine HTn.out.mono ?_
      rintro e w7 ⟨rfl, hb7⟩
      have HX7 := Lib.hid (HX.out.below hb7)
      have HB7 := Lib.hid (HBx.out.below hb7)
      clear hb7 HX HBx HTn
      cases t
      · obtain ⟨wa, hwa⟩ : ∃ wa, wa = w7 := ⟨_, rfl⟩
        subst hwa
        have HXa := HX7
        have HBa := HB7
        have HAo := Lib.hid (show atOnce tx m H L = false by rw [HAt.out]; rfl)
        clear HX7 HB7 HAt
        by_cases h3 : fl = 1
        · have hfl : (fl == 1) = true := by simpa using h3
          have HAsk := Lib.hid (ask_not HE.out HH0.out HAo.out h3)
          have r0 := HXa.out.r.e0
          have r1 := HXa.out.r.e1
          have f0 := HXa.out.r.fz 0
          have f1 := HXa.out.r.fz 1
          simp only [List.length_nil] at r0 r1
          have HLay := Lib.hid (HXa.out.lay (Hs.Ls.nils _) (Ws.Ls.nils _))
          have HLd := Lib.hid (HXa.out.laid (.slice none 0 0) (.slice none 0 0))
          clear h3
          go_wp2_with fail
          exact bodyPost_ret (results_asked rfl rfl rfl rfl HLay.out.e0 HLay.out.e1) rfl (askd_no HAsk.out (by decide) HLd.out)
        · have hfl : (fl == 1) = false := by simpa using h3
          have HAsk := Lib.hid (ask_wait HE.out HH0.out HAo.out h3)
          rw [HRq.out] at HAsk
          have HI := Lib.hid (fun (wi : World) (hb : Below wa.heap.size wa wi) => Ws.insert_far (HXa.out.q.l.below hb) (by have := HK.out; omega) (tx, ((s : Nat) : Int), true, iv))
          rw [HK.out] at HI
          have r0 := HXa.out.r.e0
          have r1 := HXa.out.r.e1
          have f0 := HXa.out.r.fz 0
          have f1 := HXa.out.r.fz 1
          have q1 := HXa.out.q.e1n HK.out
          have n0 := HXa.out.n.e0n HN.out
          have n1 := HXa.out.n.e1n HK.out
          have g1 := HXa.out.n.fz 1
          have b0 := HBa.out.b0
          have b1 := HBa.out.b1
          have b2 := HBa.out.b2
          have b3 := HBa.out.b3
          simp only at b0 b1 b2 b3
          simp only [List.length_nil] at r0 r1
          clear h3
          go_wp2_with fail
          go_region_law (first | (go_simp; go_at_call 191; refine (HI.out _ (Below.refl _ _).drew).mono ?_; rintro e wb ⟨B2, d2, rfl, hlf1, hb1⟩; have hls1 := hlf1.1; have HFR := Lib.hid (show ∀ a, B2 = some a → W.heap.size ≤ a.block from fun a ha => Nat.le_trans HXa.out.bel.size (hlf1.2 a ha)); clear hlf1; have hb2 := undrew hb1; have HXb := Lib.hid (HXa.out.below hb2); have j1 := HXb.out.n.e1n HK.out; have j2 := HXb.out.n.fz 1))
          all_goals
            have hN := HXb.out.n.set1 hls1
            have hR := HXb.out.r.far HXb.out.n HXb.out.rn (OnlyS.set N 1 wb (.slice B2 (Ws.ins (tx, ((s : Nat) : Int), true, iv) L).length d2))
            have hBl := HXb.out.bel.setCell (p := ⟨N, 1, none⟩) HXb.out.hn (.slice B2 (Ws.ins (tx, ((s : Nat) : Int), true, iv) L).length d2)
            have hRh := HXb.out.hr
            clear r0 r1 f0 f1 q1 n0 n1 g1 b0 b1 b2 b3 j1 j2 hls1 hb1 hb2 HI HXb HXa HBa
            obtain ⟨j, hj⟩ : ∃ j, (Ws.ins (tx, ((s : Nat) : Int), true, iv) L).length = j := ⟨_, rfl⟩
            rw [hj] at hN hR hBl ⊢
            generalize wb.setCell ⟨N, 1, none⟩ (.slice B2 j d2) = wc at hN hR hBl ⊢
            have r0 := hR.e0
            have r1 := hR.e1
            have f0 := hR.fz 0
            have f1 := hR.fz 1
            have n0 := hN.e0n HN.out
            have n1 := hN.e1n hj
            have HJ := Lib.hid hj
            have HLay := Lib.hid (lay_of hR hN)
            rw [HN.out, hj] at HLay
            have HLd := Lib.hid ((hBl.setCell (p := ⟨W.heap.size, 0, none⟩) hRh (.slice A1 n c1)).setCell (p := ⟨W.heap.size, 1, none⟩) hRh (.slice B2 j d2))
            simp only [List.length_nil] at r0 r1
            clear hN hR hBl hj
            go_wp2_with fail
            exact bodyPost_ret (results_asked rfl rfl rfl rfl (HLay.out.e0n HN.out) (HLay.out.e1n HJ.out)) rfl (askd_of HAsk.out HN.out HJ.out HLay.out HLd.out (Fr.refl _ _) (Fr.new HFR.out))
      · have HGo := Lib.hid (qgoes_any (HT.out.later HX7.out.bel) HX7.out.q (by have := HN.out; omega) tx (s : Nat) true iv)
        rw [HG.out] at HGo
        have b0 := HB7.out.b0
        have b1 := HB7.out.b1
        have b2 := HB7.out.b2
        have b3 := HB7.out.b3
        simp only at b0 b1 b2 b3
        go_wp2_with fail
        refine HGo.out.mono ?_
        rintro e w8 ⟨rfl, hb8⟩
        have HX8 := Lib.hid (HX7.out.below hb8)
        have HB8 := Lib.hid (HB7.out.below hb8)
        clear hb8 HX7 HB7 HGo b0 b1 b2 b3
        cases g
        · obtain ⟨wa, hwa⟩ : ∃ wa, wa = w8 := ⟨_, rfl⟩
          subst hwa
          have HXa := HX8
          have HBa := HB8
          have HAo := Lib.hid (show atOnce tx m H L = false by rw [HAt.out]; rfl)
          clear HX8 HB8 HAt
          by_cases h3 : fl = 1
          · have hfl : (fl == 1) = true := by simpa using h3
            have HAsk := Lib.hid (ask_not HE.out HH0.out HAo.out h3)
            have r0 := HXa.out.r.e0
            have r1 := HXa.out.r.e1
            have f0 := HXa.out.r.fz 0
            have f1 := HXa.out.r.fz 1
            simp only [List.length_nil] at r0 r1
            have HLay := Lib.hid (HXa.out.lay (Hs.Ls.nils _) (Ws.Ls.nils _))
            have HLd := Lib.hid (HXa.out.laid (.slice none 0 0) (.slice none 0 0))
            clear h3
            go_wp2_with fail
            exact bodyPost_ret (results_asked rfl rfl rfl rfl HLay.out.e0 HLay.out.e1) rfl (askd_no HAsk.out (by decide) HLd.out)
          · have hfl : (fl == 1) = false := by simpa using h3
            have HAsk := Lib.hid (ask_wait HE.out HH0.out HAo.out h3)
            rw [HRq.out] at HAsk
            have HI := Lib.hid (fun (wi : World) (hb : Below wa.heap.size wa wi) => Ws.insert_far (HXa.out.q.l.below hb) (by have := HK.out; omega) (tx, ((s : Nat) : Int), true, iv))
            rw [HK.out] at HI
            have r0 := HXa.out.r.e0
            have r1 := HXa.out.r.e1
            have f0 := HXa.out.r.fz 0
            have f1 := HXa.out.r.fz 1
            have q1 := HXa.out.q.e1n HK.out
            have n0 := HXa.out.n.e0n HN.out
            have n1 := HXa.out.n.e1n HK.out
            have g1 := HXa.out.n.fz 1
            have b0 := HBa.out.b0
            have b1 := HBa.out.b1
            have b2 := HBa.out.b2
            have b3 := HBa.out.b3
            simp only at b0 b1 b2 b3
            simp only [List.length_nil] at r0 r1
            clear h3
            go_wp2_with fail
            go_region_law (first | (go_simp; go_at_call 191; refine (HI.out _ (Below.refl _ _).drew).mono ?_; rintro e wb ⟨B2, d2, rfl, hlf1, hb1⟩; have hls1 := hlf1.1; have HFR := Lib.hid (show ∀ a, B2 = some a → W.heap.size ≤ a.block from fun a ha => Nat.le_trans HXa.out.bel.size (hlf1.2 a ha)); clear hlf1; have hb2 := undrew hb1; have HXb := Lib.hid (HXa.out.below hb2); have j1 := HXb.out.n.e1n HK.out; have j2 := HXb.out.n.fz 1))
            all_goals
              have hN := HXb.out.n.set1 hls1
              have hR := HXb.out.r.far HXb.out.n HXb.out.rn (OnlyS.set N 1 wb (.slice B2 (Ws.ins (tx, ((s : Nat) : Int), true, iv) L).length d2))
              have hBl := HXb.out.bel.setCell (p := ⟨N, 1, none⟩) HXb.out.hn (.slice B2 (Ws.ins (tx, ((s : Nat) : Int), true, iv) L).length d2)
              have hRh := HXb.out.hr
              clear r0 r1 f0 f1 q1 n0 n1 g1 b0 b1 b2 b3 j1 j2 hls1 hb1 hb2 HI HXb HXa HBa
              obtain ⟨j, hj⟩ : ∃ j, (Ws.ins (tx, ((s : Nat) : Int), true, iv) L).length = j := ⟨_, rfl⟩
              rw [hj] at hN hR hBl ⊢
              generalize wb.setCell ⟨N, 1, none⟩ (.slice B2 j d2) = wc at hN hR hBl ⊢
              have r0 := hR.e0
              have r1 := hR.e1
              have f0 := hR.fz 0
              have f1 := hR.fz 1
              have n0 := hN.e0n HN.out
              have n1 := hN.e1n hj
              have HJ := Lib.hid hj
              have HLay := Lib.hid (lay_of hR hN)
              rw [HN.out, hj] at HLay
              have HLd := Lib.hid ((hBl.setCell (p := ⟨W.heap.size, 0, none⟩) hRh (.slice A1 n c1)).setCell (p := ⟨W.heap.size, 1, none⟩) hRh (.slice B2 j d2))
              simp only [List.length_nil] at r0 r1
              clear hN hR hBl hj
              go_wp2_with fail
              exact bodyPost_ret (results_asked rfl rfl rfl rfl (HLay.out.e0n HN.out) (HLay.out.e1n HJ.out)) rfl (askd_of HAsk.out HN.out HJ.out HLay.out HLd.out (Fr.refl _ _) (Fr.new HFR.out))
        · have HAsk := Lib.hid (ask_now HE.out HH0.out (show atOnce tx m H L = true by rw [HAt.out]; rfl))
          rw [HRq.out] at HAsk
          have HGr := Lib.hid (grant_row HX8.out.n (by have := HN.out; omega) tx (s : Nat) true iv)
          have b0 := HB8.out.b0
          have b1 := HB8.out.b1
          have b2 := HB8.out.b2
          have b3 := HB8.out.b3
          simp only at b0 b1 b2 b3
          go_wp2_with fail
          refine HGr.out.mono ?_
          rintro e w9 ⟨rfl, B1, d1, hN, ho, hfr⟩
          have hR := HX8.out.r.far HX8.out.n HX8.out.rn ho
          have hBl := HX8.out.bel.trans (ho.below (fun k hk => by rw [hk]; exact HX8.out.hn) HX8.out.bel.size)
          have hRh := HX8.out.hr
          have HFR := Lib.hid (show Fr W.heap.size (A1, H) B1 _ from hfr.imp And.symm (fun q a ha => Nat.le_trans HX8.out.bel.size (q a ha)))
          clear hfr
          clear HX8 HB8 HGr b0 b1 b2 b3 ho
          obtain ⟨j, hj⟩ : ∃ j, (grantH (tx, ((s : Nat) : Int), true, iv) H).length = j := ⟨_, rfl⟩
          have r0 := hR.e0
          have r1 := hR.e1
          have f0 := hR.fz 0
          have f1 := hR.fz 1
          have n0 := hN.e0n hj
          have n1 := hN.e1n HK.out
          have HJ := Lib.hid hj
          have HLay := Lib.hid (lay_of hR hN)
          rw [HK.out, hj] at HLay
          have HLd := Lib.hid ((hBl.setCell (p := ⟨W.heap.size, 0, none⟩) hRh (.slice B1 j d1)).setCell (p := ⟨W.heap.size, 1, none⟩) hRh (.slice A2 k c2))
          simp only [List.length_nil] at r0 r1
          clear hN hR hBl hj
          go_wp2_with fail
          exact bodyPost_ret (results_asked rfl rfl rfl rfl (HLay.out.e0n HJ.out) (HLay.out.e1n HK.out)) rfl (askd_of HAsk.out HJ.out HK.out HLay.out HLd.out HFR.out (Fr.refl _ _))
end
end Go.Proofs.YtlhhopanegnliaaGreatDoor
/- A queue: Ask and Cost. -/
namespace Go.Proofs.YtlhhopanegnliaaGreatDoor
open Go Go.RowKit Go.Shelf
set_option maxRecDepth 100000

theorem ask_keep {tx m fl x y : Int} {H H' : List Hs.Hd} {L L' : List Ws.Wt} (h : ask tx m fl H L = (x, y, H', L')) (hy : y ≠ 0) : H' = H ∧ L' = L ∧ x = 0 := by
  rcases ask_cases tx m fl H L with ⟨_, _, _, e⟩ | ⟨_, _, e⟩ | ⟨_, _, _, e⟩ | ⟨_, _, _, _, e⟩ | ⟨_, _, _, _, e⟩ <;> rw [e] at h <;> simp only [Prod.mk.injEq] at h <;> obtain ⟨e1, e2, e3, e4⟩ := h
  · exact ⟨e3.symm, e4.symm, e1.symm⟩
  · exact absurd e2.symm hy
  · exact absurd e2.symm hy
  · exact ⟨e3.symm, e4.symm, e1.symm⟩
  · exact absurd e2.symm hy
theorem ins_len (x : Ws.Wt) (ys : List Ws.Wt) : (Ws.ins x ys).length = ys.length + 1 := by
  have := Ws.plN_le (fun y => y.2.2.1 || !x.2.2.1) ys
  change Ws.plc x.2.2.1 ys ≤ _ at this
  unfold Ws.ins
  rw [List.length_append, List.length_append, List.length_take, List.length_drop]
  simp
  omega
theorem grant_len (x : Ws.Wt) (H : List Hs.Hd) : (grantH x H).length ≤ H.length + 1 := by
  unfold grantH
  split
  · omega
  · rw [Hs.setL_len]; split <;> omega
theorem ask_len (tx m fl : Int) (H : List Hs.Hd) (L : List Ws.Wt) : (ask tx m fl H L).2.2.1.length + (ask tx m fl H L).2.2.2.length ≤ H.length + L.length + 1 := by
  rcases ask_cases tx m fl H L with ⟨_, _, _, e⟩ | ⟨_, _, e⟩ | ⟨_, _, _, e⟩ | ⟨_, _, _, _, e⟩ | ⟨_, _, _, _, e⟩ <;> rw [e] <;> simp only
  · omega
  · omega
  · have := grant_len (reqW tx m fl H) H; omega
  · omega
  · rw [ins_len]; omega
section
variable {W W' w w' : World} {b R N n1 n2 : Nat} {A1 A2 B1 B2 : Option Addr} {c1 c2 d1 d2 : Nat} {H H' : List Hs.Hd} {L L' : List Ws.Wt}
theorem asked_any (ht : TabG W) (h : QAt W b A1 c1 A2 c2 H L) (h1 : H.length ≤ 400) (h2 : L.length ≤ 400) (tx m fl : Int) :
    Calls Tryz.prog 145 #[qp b, .int .i64 tx, .int .i64 m, .int .i64 fl] W (Askd W (A1, H) (A2, L) (ask tx m fl H L)) := by
  by_cases he : errR tx m fl L = 0
  · exact asked_ok ht h h1 h2 tx m fl he
  · refine (asked_err h h2 tx m fl rfl he).mono ?_
    rintro e w' ⟨rfl, hb⟩
    exact askd_no (ask_err rfl he) he hb
theorem ret_two {k l : IntKind} {a b c d : Int} (h : a = b) (h' : c = d) : Ending.returned (.tuple #[.int k a, .int l c]) = .returned (.tuple #[.int k b, .int l d]) := by rw [h, h']
/-- what a call hands back that may change this queue alone -/
def Does (b : Nat) (W : World) (A1 : Option Addr × List Hs.Hd) (A2 : Option Addr × List Ws.Wt) (v : Value) (H : List Hs.Hd) (L : List Ws.Wt) (e : Ending) (w' : World) : Prop := e = .returned v ∧ Left b W A1 A2 H L w'
set_option maxHeartbeats 1000000 in
theorem ask_any (ht : TabG W) (h : QAt W b A1 c1 A2 c2 H L) (h1 : H.length ≤ 400) (h2 : L.length ≤ 400) (tx m fl : Int) :
    Calls Tryz.prog 105 #[qp b, .int .i64 tx, .int .i64 m, .int .i64 fl] W (Does b W (A1, H) (A2, L) (.tuple #[.int .i64 (ask tx m fl H L).1, .int .i64 (ask tx m fl H L).2.1]) (ask tx m fl H L).2.2.1 (ask tx m fl H L).2.2.2) := by
  have HF := Lib.hid (asked_any ht h h1 h2 tx m fl)
  have HK := Lib.hid (fun x y H' L' => @ask_keep tx m fl x y H H' L L')
  have HQ := Lib.hid h
  obtain ⟨⟨x, y, H', L'⟩, hX⟩ : ∃ X, ask tx m fl H L = X := ⟨_, rfl⟩
  rw [hX] at HF HK ⊢
  simp only
  clear h ht hX
  go_enter Tryz.func105, Tryz.ntmps105
  go_wp2_with fail
  refine HF.out.mono ?_
  rintro e w1 ⟨B1, d1, B2, d2, rfl, hh, hl, hb1, hf1, hf2⟩
  have HF1 := Lib.hid hf1
  have HF2 := Lib.hid hf2
  clear hf1 hf2
  by_cases hy : y = 0
  · subst hy
    have hq1 := (HQ.out.below hb1).below (box_below w1 (.cells #[.slice B1 (okH (x, 0, H', L')).length d1, .slice B2 (okL (x, 0, H', L')).length d2] 139))
    have q0 := hq1.e0
    have q1 := hq1.e1
    have f0 := hq1.fz 0
    have f1 := hq1.fz 1
    have HN := Lib.hid ((hq1.set0 (hh.below (box_below _ _))).set1 ((hl.below (box_below w1 (.cells #[.slice B1 (okH (x, 0, H', L')).length d1, .slice B2 (okL (x, 0, H', L')).length d2] 139))).off (b := b) (fun k x _ => hq1.noint k x.1) (OnlyS.set _ _ _ _)))
    have HO := Lib.hid (((OnlyS.of_below (S := (· = b)) (hb1.trans ((box_below w1 (.cells #[.slice B1 (okH (x, 0, H', L')).length d1, .slice B2 (okL (x, 0, H', L')).length d2] 139)).mono hb1.size))).setIn b 0 (.slice B1 (okH (x, 0, H', L')).length d1) (.inl rfl)).setIn b 1 (.slice B2 (okL (x, 0, H', L')).length d2) (.inl rfl))
    rw [show okH (x, 0, H', L') = H' from rfl, show okL (x, 0, H', L') = L' from rfl] at *
    have hne : b ≠ w1.heap.size := by have := HQ.out.lt; have := hb1.size; omega
    clear hh hl hb1 hq1 HK HF
    generalize H'.length = n at *
    generalize L'.length = k at *
    go_wp2_with fail
    go_ret2
    exact ⟨rfl, ⟨_, _, _, _, HN.out, HF1.out, HF2.out⟩, HO.out⟩
  · obtain ⟨rfl, rfl, rfl⟩ := HK.out _ _ _ _ rfl hy
    have hyb : (y == 0) = false := by simpa using hy
    have HQ1 := Lib.hid ((HQ.out.below hb1).below (box_below w1 (.cells #[.slice B1 (okH (0, y, H', L')).length d1, .slice B2 (okL (0, y, H', L')).length d2] 139)))
    have HB := Lib.hid (hb1.trans ((box_below w1 (.cells #[.slice B1 (okH (0, y, H', L')).length d1, .slice B2 (okL (0, y, H', L')).length d2] 139)).mono hb1.size))
    clear hh hl hb1 HK hy HF HQ
    generalize (okH (0, y, H', L')).length = n at *
    generalize (okL (0, y, H', L')).length = k at *
    go_wp2_with fail
    go_ret2
    exact ⟨rfl, ⟨_, _, _, _, HQ1.out, Fr.refl _ _, Fr.refl _ _⟩, OnlyS.of_below HB.out⟩
theorem ask_none (tx m fl : Int) (W : World) : Calls Tryz.prog 105 #[.pointer none, .int .i64 tx, .int .i64 m, .int .i64 fl] W fun e w' => e = .returned (.tuple #[.int .i64 0, .int .i64 70]) ∧ Below W.heap.size W w' := by
  go_enter Tryz.func105, Tryz.ntmps105
  go_wp2_with fail
  refine (asked_none tx m fl W).mono ?_
  rintro e w1 ⟨rfl, hb1⟩
  have HB := Lib.hid (hb1.trans ((box_below w1 (.cells #[.slice none 0 0, .slice none 0 0] 139)).mono hb1.size))
  clear hb1
  go_wp2_with fail
  go_ret2
  exact ⟨rfl, HB.out⟩
/-- how much greater a queue is behind an Ask -/
def costV (X : Ans) (H : List Hs.Hd) (L : List Ws.Wt) : Int := if X.2.1 = 0 then ((X.2.2.1.length + X.2.2.2.length : Nat) : Int) - ((H.length + L.length : Nat) : Int) else 0
set_option maxHeartbeats 1000000 in
theorem cost_any (ht : TabG W) (h : QAt W b A1 c1 A2 c2 H L) (h1 : H.length ≤ 400) (h2 : L.length ≤ 400) (tx m fl : Int) :
    Calls Tryz.prog 103 #[qp b, .int .i64 tx, .int .i64 m, .int .i64 fl] W fun e w' => e = .returned (.tuple #[.int .i64 (costV (ask tx m fl H L) H L), .int .i64 (ask tx m fl H L).2.1]) ∧ Below W.heap.size W w' := by
  have HF := Lib.hid (asked_any ht h h1 h2 tx m fl)
  have hlen := ask_len tx m fl H L
  have HQ := Lib.hid h
  obtain ⟨⟨x, y, H', L'⟩, hX⟩ : ∃ X, ask tx m fl H L = X := ⟨_, rfl⟩
  rw [hX] at HF hlen ⊢
  simp only at hlen ⊢
  clear h ht hX
  go_enter Tryz.func103, Tryz.ntmps103
  go_wp2_with fail
  refine HF.out.mono ?_
  rintro e w1 ⟨B1, d1, B2, d2, rfl, hh, hl, hb1, hf1, hf2⟩
  have HF1 := Lib.hid hf1
  have HF2 := Lib.hid hf2
  clear hf1 hf2
  by_cases hy : y = 0
  · subst hy
    have HS1 := Lib.hid (size_any (QAt.new w1 hh hl).its (by show H'.length ≤ 5000; omega) (by show L'.length ≤ 5000; omega))
    have HS2 := Lib.hid (fun (w2 : World) (hb : Below w1.heap.size w1 w2) => size_any ((HQ.out.below hb1).below hb).its (by omega) (by omega))
    have HV := Lib.hid (show costV (x, 0, H', L') H L = ((H'.length + L'.length : Nat) : Int) - ((H.length + L.length : Nat) : Int) from rfl)
    have HB := Lib.hid (hb1.trans ((box_below w1 (.cells #[.slice B1 (okH (x, 0, H', L')).length d1, .slice B2 (okL (x, 0, H', L')).length d2] 139)).mono hb1.size))
    have HB1 := Lib.hid (box_below w1 (.cells #[.slice B1 (okH (x, 0, H', L')).length d1, .slice B2 (okL (x, 0, H', L')).length d2] 139))
    rw [show okH (x, 0, H', L') = H' from rfl, show okL (x, 0, H', L') = L' from rfl] at *
    clear hh hl hb1 HF HQ
    generalize H'.length = n' at *
    generalize L'.length = k' at *
    generalize H.length = n at *
    generalize L.length = k at *
    go_wp2_with fail
    refine HS1.out.mono ?_
    rintro e w2 ⟨rfl, hb2⟩
    have HS3 := Lib.hid (HS2.out _ (HB1.out.trans (hb2.mono HB1.out.size)))
    have HB2 := Lib.hid (HB.out.trans (hb2.mono HB.out.size))
    clear hb2 HS2 HS1 HB HB1
    go_wp2_with fail
    refine HS3.out.mono ?_
    rintro e w3 ⟨rfl, hb3⟩
    have HB3 := Lib.hid (HB2.out.trans (hb3.mono HB2.out.size))
    clear hb3 HS3 HB2
    go_wp2_with fail
    go_ret2
    exact ⟨ret_two (by have := HV.out; omega) rfl, HB3.out⟩
  · have hyb : (y != 0) = true := by simpa using hy
    have HB := Lib.hid (hb1.trans ((box_below w1 (.cells #[.slice B1 (okH (x, y, H', L')).length d1, .slice B2 (okL (x, y, H', L')).length d2] 139)).mono hb1.size))
    have HV := Lib.hid (show costV (x, y, H', L') H L = 0 from if_neg hy)
    clear hh hl hb1 hy HF HQ
    generalize (okH (x, y, H', L')).length = n at *
    generalize (okL (x, y, H', L')).length = k at *
    go_wp2_with fail
    go_ret2
    exact ⟨ret_two HV.out.symm rfl, HB.out⟩
end
end Go.Proofs.YtlhhopanegnliaaGreatDoor
