/- The document's queue: Release and Cancel. -/
import Derived.Test.YtjhkejkdnjogiaaGreatDoorRc
namespace Go.Proofs.YtjhkejkdnjogiaaGreatDoor
open Go Go.RowKit Go.Shelf
set_option maxRecDepth 100000

section
variable {W W' w w' : World} {b n1 n2 : Nat} {p : Pa.Pt} {Z1 : Option Addr × List Hs.Hd} {Z2 : Option Addr × List Ws.Wt} {A1 A2 B1 B2 : Option Addr} {c1 c2 d1 d2 : Nat} {H H' : List Hs.Hd} {L L' : List Ws.Wt} {X : Out}
/-- what a Release or a Cancel of the document's queue leaves -/
def RGone (b : Nat) (p : Pa.Pt) (W : World) (Z1 : Option Addr × List Hs.Hd) (Z2 : Option Addr × List Ws.Wt) (X : Out) (e : Ending) (w' : World) : Prop :=
  ∃ A c, e = .returned (.tuple #[.slice A X.told.length c, .int .i64 X.err]) ∧ (Ws.Ls w' A c X.told ∧ ∀ a, A = some a → W.heap.size ≤ a.block) ∧ RLeft b p W Z1 Z2 X.hs X.ws w'
theorem rgone_no (hX : X = ⟨2, [], H, L⟩) (h : RAt w b p A1 c1 A2 c2 H L) (hb : Below W.heap.size W w) : RGone b p W (A1, H) (A2, L) X (.returned (.tuple #[.slice none 0 0, .int .i64 2])) w := by
  subst hX
  exact ⟨none, 0, rfl, ⟨Ws.Ls.nils _, fun _ h => by cases h⟩, ⟨_, _, _, _, h, Frb.refl _ _ _, Frb.refl _ _ _⟩, OnlyS.of_below hb, Nb.below hb⟩
theorem rtold_gone {Y : List Hs.Hd × List Ws.Wt × List Ws.Wt} {A : Option Addr} {c k : Nat} (hX : X = swept Y) (ho : OnlyS (· = b) W w) (hn : Nb W w) (f1 : Frb W.heap.size Z1 B1 H') (f2 : Frb W.heap.size Z2 B2 L') (hk : Y.2.2.length = k) (hl : Ws.Ls w' A c Y.2.2 ∧ ∀ a, A = some a → w.heap.size ≤ a.block) (hg : RLeft b p w (B1, H') (B2, L') Y.1 Y.2.1 w') :
    RGone b p W Z1 Z2 X (.returned (.tuple #[.slice A k c, .int .i64 0])) w' := by
  subst hX
  subst hk
  obtain ⟨⟨C1, d1, C2, d2, h1, g1, g2⟩, h2, h3⟩ := hg
  exact ⟨A, c, rfl, ⟨hl.1, fun a ha => Nat.le_trans ho.size (hl.2 a ha)⟩, ⟨C1, d1, C2, d2, h1, f1.trans g1 ho.size, f2.trans g2 ho.size⟩, ho.trans h2, hn.trans h3⟩
set_option maxHeartbeats 2000000 in
theorem rcancel_any (h : RAt W b p A1 c1 A2 c2 H L) (hl : H.length + L.length ≤ 400) (tx : Int) : Calls Tryz.prog 60 #[qp b, .int .i64 tx] W (RGone b p W (A1, H) (A2, L) (can tx H L)) := by
  have HQ := Lib.hid h
  have HF := Lib.hid (Ws.rfind_any h.l (by omega) tx)
  have e6 := h.e6
  have hle2 : (Ws.wout tx L).length ≤ L.length := List.length_filter_le _ _
  have HX := Lib.hid (show can tx H L = if decide (0 ≤ Ws.fndI tx L) then swept (swp (Ws.wout tx L) H) else ⟨2, [], H, L⟩ from rfl)
  clear h
  generalize can tx H L = X at *
  go_enter Tryz.func60, Tryz.ntmps60
  go_wp2_with fail
  refine HF.out.mono ?_
  rintro e w2 ⟨rfl, hb2⟩
  have HB2 := Lib.hid hb2
  clear HF hb2
  by_cases hf : 0 ≤ Ws.fndI tx L
  · rw [if_pos (by simpa using hf)] at HX
    have hfn : ¬ Ws.fndI tx L < 0 := by omega
    have hfd : decide (Ws.fndI tx L < 0) = false := by simpa using hf
    have hq := HQ.out.below HB2.out
    have HQ2 := Lib.hid hq
    have y6 := hq.e6
    have f6 := hq.fz 6
    have HW := Lib.hid (Ws.rwithout_far hq.l (by omega) tx)
    clear hq HQ e6
    go_wp2_with fail
    refine HW.out.mono ?_
    rintro e w5 ⟨B2, d2, rfl, hls5, hb5⟩
    have hq5 := HQ2.out.below hb5
    have HO6 := Lib.hid ((OnlyS.of_below (HB2.out.trans (hb5.mono HB2.out.size))).trans (OnlyS.set b 6 w5 (.slice B2 (Ws.wout tx L).length d2)))
    have hq6 := hq5.set6 hls5.1
    have HN6 := Lib.hid ((Nb.below (HB2.out.trans (hb5.mono HB2.out.size))).trans (hq5.nb6 (.slice B2 (Ws.wout tx L).length d2)))
    have HF6 := Lib.hid (show ∀ a, B2 = some a → W.heap.size ≤ a.block from fun a ha => Nat.le_trans HB2.out.size (hls5.2 a ha))
    have j6 := hq5.e6
    have f5 := hq5.fz 6
    have HG := Lib.hid (sweep_any hq6 (by omega))
    clear HW HQ2 y6 f6 hls5 hb5 hq5 hq6 HB2
    go_wp2_with fail
    refine HG.out.mono ?_
    rintro e w7 ⟨A7, c7, rfl, hls7, hg7⟩
    obtain ⟨k, hk⟩ : ∃ k, (swp (Ws.wout tx L) H).2.2.length = k := ⟨_, rfl⟩
    have HE := Lib.hid (rtold_gone (Z1 := (A1, H)) (Z2 := (A2, L)) HX.out HO6.out HN6.out (Frb.refl _ _ _) (Frb.new HF6.out) hk hls7 hg7)
    rw [hk]
    clear HG hls7 hg7 hk j6 f5
    go_wp2_with fail
    go_ret2
    exact HE.out
  · rw [if_neg (by simpa using hf)] at HX
    have hfn : Ws.fndI tx L < 0 := by omega
    have HN := Lib.hid (rgone_no HX.out (HQ.out.below HB2.out) HB2.out)
    go_wp2_with fail
    go_ret2
    exact HN.out
theorem RAt.both (h : RAt w b p A1 c1 A2 c2 H L) (hh : Hs.Ls w B1 d1 H') (hl : Ws.Ls w B2 d2 L') :
    RAt ((w.setCell ⟨b, 5, none⟩ (.slice B1 H'.length d1)).setCell ⟨b, 6, none⟩ (.slice B2 L'.length d2)) b p B1 d1 B2 d2 H' L' :=
  (h.set5 hh).set6 (hl.nb (h.nb5 _))
theorem RAt.nb_both (h : RAt w b p A1 c1 A2 c2 H L) (hh : Hs.Ls w B1 d1 H') (v : Value) : Nb w ((w.setCell ⟨b, 5, none⟩ (.slice B1 H'.length d1)).setCell ⟨b, 6, none⟩ v) :=
  (h.nb5 _).trans ((h.set5 hh).nb6 v)
theorem only_both (ho : OnlyS (· = b) W w) (u v : Value) : OnlyS (· = b) W ((w.setCell ⟨b, 5, none⟩ u).setCell ⟨b, 6, none⟩ v) := (ho.trans (OnlyS.set b 5 w u)).trans (OnlyS.set b 6 _ v)
set_option maxHeartbeats 4000000 in
theorem rrelease_any (h : RAt W b p A1 c1 A2 c2 H L) (hl : H.length + L.length ≤ 400) (tx : Int) : Calls Tryz.prog 57 #[qp b, .int .i64 tx] W (RGone b p W (A1, H) (A2, L) (rel tx H L)) := by
  have HQ := Lib.hid h
  have HM := Lib.hid (Hs.rmode_any h.h (by omega) tx)
  have HF := Lib.hid (fun (wi : World) (hb : Below W.heap.size W wi) => Ws.rfind_any (h.l.below hb) (by omega) tx)
  have e5 := h.e5
  have hle : (Hs.wout tx H).length ≤ H.length := List.length_filter_le _ _
  have hle2 : (Ws.wout tx L).length ≤ L.length := List.length_filter_le _ _
  have HX := Lib.hid (show rel tx H L = if isnt tx H L then ⟨2, [], H, L⟩ else swept (swp (Ws.wout tx L) (Hs.wout tx H)) from rfl)
  have HI := Lib.hid (show isnt tx H L = (!(Hs.fst tx H != 0) && !decide (0 ≤ Ws.fndI tx L)) from rfl)
  clear h
  generalize rel tx H L = X at *
  generalize isnt tx H L = is at *
  obtain ⟨z, hz⟩ : ∃ z, Hs.fst tx H = z := ⟨_, rfl⟩
  rw [hz] at HM HI
  clear hz
  go_enter Tryz.func57, Tryz.ntmps57
  go_wp2_with fail
  refine HM.out.mono ?_
  rintro e w2 ⟨rfl, hb2⟩
  have HB2 := Lib.hid hb2
  have y6 := (HQ.out.below hb2).e6
  have HF2 := Lib.hid (HF.out _ hb2)
  clear HM hb2 HF e5
  by_cases hz0 : z = 0
  · subst hz0
    go_wp2_with fail
    refine HF2.out.mono ?_
    rintro e w3 ⟨rfl, hb3⟩
    have HB3 := Lib.hid (HB2.out.trans (hb3.mono HB2.out.size))
    clear hb3 HF2 HB2 y6
    by_cases hf : 0 ≤ Ws.fndI tx L
    · have hfn : ¬ Ws.fndI tx L < 0 := by omega
      rw [show is = false by rw [HI.out]; simpa using hf, if_neg (by simp)] at HX
      have hq := HQ.out.below HB3.out
      have HQz := Lib.hid hq
      have HD := Lib.hid (fun (wi : World) (hb : Below w3.heap.size w3 wi) => Hs.rwithout_far (hq.h.below hb) (by omega) tx)
      have HW := Lib.hid (fun (wi : World) (hb : Below w3.heap.size w3 wi) => Ws.rwithout_far (hq.l.below hb) (by omega) tx)
      have g5 := hq.e5
      have g6 := hq.e6
      have k5 := hq.fz 5
      have k6 := hq.fz 6
      have HOz := Lib.hid (OnlyS.of_below (S := (· = b)) HB3.out)
      have HNz := Lib.hid (Nb.below HB3.out)
      clear hq HQ
      go_wp2_with fail
      go_region_law (first
        | (go_simp; go_at_call 99; (first | refine (HD.out _ (Below.refl _ _).drew).mono ?_ | refine (HD.out _ hbw).mono ?_); rintro e wa ⟨B1, d1, rfl, hlsa, hba⟩; have hbh : Below w3.heap.size w3 wa := (by first | exact undrew hba | exact hbw.trans (hba.mono hbw.size)); have HQa := Lib.hid (HQz.out.below hbh); have ja5 := HQa.out.e5; have ja6 := HQa.out.e6; have ka5 := HQa.out.fz 5; have ka6 := HQa.out.fz 6)
        | (go_simp; go_at_call 100; (first | refine (HW.out _ (Below.refl _ _).drew).mono ?_ | refine (HW.out _ hbh).mono ?_); rintro e wb ⟨B2, d2, rfl, hlsb, hbb⟩; have hbw : Below w3.heap.size w3 wb := (by first | exact undrew hbb | exact hbh.trans (hbb.mono hbh.size)); have HQb := Lib.hid (HQz.out.below hbw); have jb5 := HQb.out.e5; have jb6 := HQb.out.e6; have kb5 := HQb.out.fz 5; have kb6 := HQb.out.fz 6))
      all_goals
        first
        | (have HRf := Lib.hid (RAt.both HQb.out (hlsa.1.below hbb) hlsb.1)
           have HOf := Lib.hid (only_both (HOz.out.trans (OnlyS.of_below hbw)) (.slice B1 (Hs.wout tx H).length d1) (.slice B2 (Ws.wout tx L).length d2))
           have HNf := Lib.hid ((HNz.out.then hbw).trans (RAt.nb_both HQb.out (hlsa.1.below hbb) (.slice B2 (Ws.wout tx L).length d2)))
           have HFf := Lib.hid (And.intro (show ∀ a, B1 = some a → W.heap.size ≤ a.block from fun a ha => Nat.le_trans HOz.out.size (hlsa.2 a ha)) (show ∀ a, B2 = some a → W.heap.size ≤ a.block from fun a ha => Nat.le_trans HOz.out.size (by first | exact hlsb.2 a ha | exact Nat.le_trans hbh.size (hlsb.2 a ha))))
           clear hlsa hba hbh hlsb hbb hbw ja5 ja6 ka5 ka6 jb5 jb6 kb5 kb6 HQa HQb g5 g6 k5 k6
           generalize (wb.setCell ⟨b, 5, none⟩ (.slice B1 (Hs.wout tx H).length d1)).setCell ⟨b, 6, none⟩ (.slice B2 (Ws.wout tx L).length d2) = wf at *)
        | (have HRf := Lib.hid (RAt.both HQa.out hlsa.1 (hlsb.1.below hba))
           have HOf := Lib.hid (only_both (HOz.out.trans (OnlyS.of_below hbh)) (.slice B1 (Hs.wout tx H).length d1) (.slice B2 (Ws.wout tx L).length d2))
           have HNf := Lib.hid ((HNz.out.then hbh).trans (RAt.nb_both HQa.out hlsa.1 (.slice B2 (Ws.wout tx L).length d2)))
           have HFf := Lib.hid (And.intro (show ∀ a, B1 = some a → W.heap.size ≤ a.block from fun a ha => Nat.le_trans HOz.out.size ((by first | exact hlsa.2 a ha | exact Nat.le_trans hbw.size (hlsa.2 a ha)))) (show ∀ a, B2 = some a → W.heap.size ≤ a.block from fun a ha => Nat.le_trans HOz.out.size (by first | exact hlsb.2 a ha | exact Nat.le_trans hbh.size (hlsb.2 a ha))))
           clear hlsa hba hbh hlsb hbb hbw ja5 ja6 ka5 ka6 jb5 jb6 kb5 kb6 HQa HQb g5 g6 k5 k6
           generalize (wa.setCell ⟨b, 5, none⟩ (.slice B1 (Hs.wout tx H).length d1)).setCell ⟨b, 6, none⟩ (.slice B2 (Ws.wout tx L).length d2) = wf at *)
      all_goals
        have HG := Lib.hid (sweep_any HRf.out (by omega))
        go_wp2_with fail
        refine HG.out.mono ?_
        rintro e w7 ⟨A7, c7, rfl, hls7, hg7⟩
        obtain ⟨k, hk⟩ : ∃ k, (swp (Ws.wout tx L) (Hs.wout tx H)).2.2.length = k := ⟨_, rfl⟩
        have HE := Lib.hid (rtold_gone (Z1 := (A1, H)) (Z2 := (A2, L)) HX.out HOf.out HNf.out (Frb.new HFf.out.1) (Frb.new HFf.out.2) hk hls7 hg7)
        rw [hk]
        clear HG hls7 hg7 hk
        go_wp2_with fail
        go_ret2
        exact HE.out
    · have hfn : Ws.fndI tx L < 0 := by omega
      rw [show is = true by rw [HI.out]; simpa using hf] at HX
      have HN := Lib.hid (rgone_no HX.out (HQ.out.below HB3.out) HB3.out)
      go_wp2_with fail
      go_ret2
      exact HN.out
  · have hz0b : ((z : Int) == 0) = false := by simpa using hz0
    rw [show is = false by rw [HI.out]; simp [hz0], if_neg (by simp)] at HX
    clear HF2
    have hq := HQ.out.below HB2.out
    have HQz := Lib.hid hq
    have HD := Lib.hid (fun (wi : World) (hb : Below w2.heap.size w2 wi) => Hs.rwithout_far (hq.h.below hb) (by omega) tx)
    have HW := Lib.hid (fun (wi : World) (hb : Below w2.heap.size w2 wi) => Ws.rwithout_far (hq.l.below hb) (by omega) tx)
    have g5 := hq.e5
    have g6 := hq.e6
    have k5 := hq.fz 5
    have k6 := hq.fz 6
    have HOz := Lib.hid (OnlyS.of_below (S := (· = b)) HB2.out)
    have HNz := Lib.hid (Nb.below HB2.out)
    clear hq HQ
    go_wp2_with fail
    go_region_law (first
      | (go_simp; go_at_call 99; (first | refine (HD.out _ (Below.refl _ _).drew).mono ?_ | refine (HD.out _ hbw).mono ?_); rintro e wa ⟨B1, d1, rfl, hlsa, hba⟩; have hbh : Below w2.heap.size w2 wa := (by first | exact undrew hba | exact hbw.trans (hba.mono hbw.size)); have HQa := Lib.hid (HQz.out.below hbh); have ja5 := HQa.out.e5; have ja6 := HQa.out.e6; have ka5 := HQa.out.fz 5; have ka6 := HQa.out.fz 6)
      | (go_simp; go_at_call 100; (first | refine (HW.out _ (Below.refl _ _).drew).mono ?_ | refine (HW.out _ hbh).mono ?_); rintro e wb ⟨B2, d2, rfl, hlsb, hbb⟩; have hbw : Below w2.heap.size w2 wb := (by first | exact undrew hbb | exact hbh.trans (hbb.mono hbh.size)); have HQb := Lib.hid (HQz.out.below hbw); have jb5 := HQb.out.e5; have jb6 := HQb.out.e6; have kb5 := HQb.out.fz 5; have kb6 := HQb.out.fz 6))
    all_goals
      first
      | (have HRf := Lib.hid (RAt.both HQb.out (hlsa.1.below hbb) hlsb.1)
         have HOf := Lib.hid (only_both (HOz.out.trans (OnlyS.of_below hbw)) (.slice B1 (Hs.wout tx H).length d1) (.slice B2 (Ws.wout tx L).length d2))
         have HNf := Lib.hid ((HNz.out.then hbw).trans (RAt.nb_both HQb.out (hlsa.1.below hbb) (.slice B2 (Ws.wout tx L).length d2)))
         have HFf := Lib.hid (And.intro (show ∀ a, B1 = some a → W.heap.size ≤ a.block from fun a ha => Nat.le_trans HOz.out.size (hlsa.2 a ha)) (show ∀ a, B2 = some a → W.heap.size ≤ a.block from fun a ha => Nat.le_trans HOz.out.size (by first | exact hlsb.2 a ha | exact Nat.le_trans hbh.size (hlsb.2 a ha))))
         clear hlsa hba hbh hlsb hbb hbw ja5 ja6 ka5 ka6 jb5 jb6 kb5 kb6 HQa HQb g5 g6 k5 k6
         generalize (wb.setCell ⟨b, 5, none⟩ (.slice B1 (Hs.wout tx H).length d1)).setCell ⟨b, 6, none⟩ (.slice B2 (Ws.wout tx L).length d2) = wf at *)
      | (have HRf := Lib.hid (RAt.both HQa.out hlsa.1 (hlsb.1.below hba))
         have HOf := Lib.hid (only_both (HOz.out.trans (OnlyS.of_below hbh)) (.slice B1 (Hs.wout tx H).length d1) (.slice B2 (Ws.wout tx L).length d2))
         have HNf := Lib.hid ((HNz.out.then hbh).trans (RAt.nb_both HQa.out hlsa.1 (.slice B2 (Ws.wout tx L).length d2)))
         have HFf := Lib.hid (And.intro (show ∀ a, B1 = some a → W.heap.size ≤ a.block from fun a ha => Nat.le_trans HOz.out.size ((by first | exact hlsa.2 a ha | exact Nat.le_trans hbw.size (hlsa.2 a ha)))) (show ∀ a, B2 = some a → W.heap.size ≤ a.block from fun a ha => Nat.le_trans HOz.out.size (by first | exact hlsb.2 a ha | exact Nat.le_trans hbh.size (hlsb.2 a ha))))
         clear hlsa hba hbh hlsb hbb hbw ja5 ja6 ka5 ka6 jb5 jb6 kb5 kb6 HQa HQb g5 g6 k5 k6
         generalize (wa.setCell ⟨b, 5, none⟩ (.slice B1 (Hs.wout tx H).length d1)).setCell ⟨b, 6, none⟩ (.slice B2 (Ws.wout tx L).length d2) = wf at *)
    all_goals
      have HG := Lib.hid (sweep_any HRf.out (by omega))
      go_wp2_with fail
      refine HG.out.mono ?_
      rintro e w7 ⟨A7, c7, rfl, hls7, hg7⟩
      obtain ⟨k, hk⟩ : ∃ k, (swp (Ws.wout tx L) (Hs.wout tx H)).2.2.length = k := ⟨_, rfl⟩
      have HE := Lib.hid (rtold_gone (Z1 := (A1, H)) (Z2 := (A2, L)) HX.out HOf.out HNf.out (Frb.new HFf.out.1) (Frb.new HFf.out.2) hk hls7 hg7)
      rw [hk]
      clear HG hls7 hg7 hk
      go_wp2_with fail
      go_ret2
      exact HE.out
end
end Go.Proofs.YtjhkejkdnjogiaaGreatDoor
