/- The document's queue: Ask. -/
import Derived.Test.YtjhkejkdnjogiaaGreatDoorRn
namespace Go.Proofs.YtjhkejkdnjogiaaGreatDoor
open Go Go.RowKit Go.Shelf
set_option maxRecDepth 100000

theorem sup_cov : ∀ i, i ≤ 6 → ∀ j, j ≤ 6 → supN i j = i → covB i j = true := by decide +kernel
theorem cov_sup' : ∀ i, i ≤ 6 → ∀ j, j ≤ 6 → covB i j = true → supN i j = i := by decide +kernel
theorem cov_none : ∀ j, j ≤ 6 → 1 ≤ j → covB 0 j = false := by decide +kernel
theorem kn_pos {m : Int} (h1 : 1 ≤ m) (h6 : m ≤ 6) : 1 ≤ kn m := by
  obtain ⟨j, rfl⟩ : ∃ j : Nat, m = j := ⟨m.toNat, by omega⟩
  rw [kn_nat (by omega)]
  omega
/-- whether one has it already, as the document asks it -/
theorem has_ref {tx m : Int} {H : List Hs.Hd} (h1 : 1 ≤ m) (h6 : m ≤ 6) (hz : Hs.fst tx H ≠ 0) : has tx m H = (((supN (kn (Hs.fst tx H)) (kn m) : Nat) : Int) == Hs.fst tx H) := by
  unfold has
  have e0 : (Hs.fst tx H != 0) = true := by simpa using hz
  rw [e0, Bool.true_and]
  generalize Hs.fst tx H = z at *
  have hm := kn_pos h1 h6
  by_cases hb : 0 ≤ z ∧ z ≤ 6
  · obtain ⟨k, rfl⟩ : ∃ k : Nat, z = k := ⟨z.toNat, by omega⟩
    rw [kn_nat (by omega)]
    cases hc : covB k (kn m)
    · rw [eq_comm, beq_eq_false_iff_ne]
      intro e
      rw [sup_cov k (by omega) _ (kn_le m) (by omega)] at hc
      cases hc
    · rw [cov_sup' k (by omega) _ (kn_le m) hc]
      simp
  · rw [kn_out hb, cov_none _ (kn_le m) hm, eq_comm, beq_eq_false_iff_ne]
    have := supN_le 0 (kn m)
    have := sup_pos 0 (by omega) _ (kn_le m) hm
    omega
theorem has_no {tx m : Int} {H : List Hs.Hd} (hz : Hs.fst tx H = 0) : has tx m H = false := by
  unfold has
  rw [hz]
  rfl
section
variable {W W' w w' : World} {b n1 n2 : Nat} {p : Pa.Pt} {A1 A2 B1 B2 : Option Addr} {c1 c2 d1 d2 : Nat} {H H' : List Hs.Hd} {L L' : List Ws.Wt} {X : Ans}
/-- what an Ask of the document's queue leaves -/
def RDoes (b : Nat) (p : Pa.Pt) (W : World) (Z1 : Option Addr × List Hs.Hd) (Z2 : Option Addr × List Ws.Wt) (X : Ans) (e : Ending) (w' : World) : Prop := e = .returned (.tuple #[.int .i64 X.1, .int .i64 X.2.1]) ∧ RLeft b p W Z1 Z2 X.2.2.1 X.2.2.2 w'
theorem rdoes_same {x y : Int} (hX : X = (x, y, H, L)) (h : RAt w b p A1 c1 A2 c2 H L) (hb : Below W.heap.size W w) : RDoes b p W (A1, H) (A2, L) X (.returned (.tuple #[.int .i64 x, .int .i64 y])) w := by
  subst hX
  exact ⟨rfl, ⟨_, _, _, _, h, Frb.refl _ _ _, Frb.refl _ _ _⟩, OnlyS.of_below hb, Nb.below hb⟩
theorem rdoes_set {x y : Int} {Z1 : Option Addr × List Hs.Hd} {Z2 : Option Addr × List Ws.Wt} (hX : X = (x, y, H', L')) (h : RAt w b p A1 c1 A2 c2 H' L') (ho : OnlyS (· = b) W w) (f1 : Frb W.heap.size Z1 A1 H') (f2 : Frb W.heap.size Z2 A2 L') (hn : Nb W w) : RDoes b p W Z1 Z2 X (.returned (.tuple #[.int .i64 x, .int .i64 y])) w := by
  subst hX
  exact ⟨rfl, ⟨_, _, _, _, h, f1, f2⟩, ho, hn⟩
set_option maxHeartbeats 4000000 in
theorem rask_any (h : RAt W b p A1 c1 A2 c2 H L) (h1 : H.length ≤ 400) (h2 : L.length ≤ 400) (tx m fl : Int) : Calls Tryz.prog 63 #[qp b, .int .i64 tx, .int .i64 m, .int .i64 fl] W (RDoes b p W (A1, H) (A2, L) (ask tx m fl H L)) := by
  have HC := Lib.hid (Ws.rcheck_any tx m fl W)
  have HR := Lib.hid h
  obtain ⟨n1, hn1⟩ : ∃ n, H.length = n := ⟨_, rfl⟩
  obtain ⟨n2, hn2⟩ : ∃ n, L.length = n := ⟨_, rfl⟩
  have N1 := Lib.hid hn1
  have N2 := Lib.hid hn2
  have HFi := Lib.hid (Ws.rfind_any h.l (by omega) tx)
  have HMo := Lib.hid (fun (wi : World) (hb : Below W.heap.size W wi) => Hs.rmode_any (h.h.below hb) (by omega) tx)
  have e6 := h.e6n hn2
  rw [hn2] at h2 HFi
  rw [hn1] at h1 HMo
  clear h hn1 hn2
  rcases errR_cases tx m fl L with ⟨k1, k2⟩ | ⟨k1, k3, k2⟩ | ⟨k1, k3, k2⟩
  · have HAsk := Lib.hid (ask_err (H := H) k2 (by decide))
    rw [k1, show Ws.errV false = 1 from rfl] at HC
    clear k1 k2 HFi HMo
    go_enter Tryz.func63, Tryz.ntmps63
    go_wp2_with fail
    refine HC.out.mono ?_
    rintro e w1 ⟨rfl, rfl⟩
    go_wp2_with fail
    go_ret2
    exact rdoes_same HAsk.out HR.out (Below.refl _ _)
  · have HAsk := Lib.hid (ask_err (H := H) k2 (by decide))
    rw [k1, show Ws.errV true = 0 from rfl] at HC
    clear k1 k2 HMo
    go_enter Tryz.func63, Tryz.ntmps63
    go_wp2_with fail
    refine HC.out.mono ?_
    rintro e w1 ⟨rfl, rfl⟩
    go_wp2_with fail
    refine HFi.out.mono ?_
    rintro e w2 ⟨rfl, hb2⟩
    have HB2 := Lib.hid hb2
    clear hb2
    go_wp2_with fail
    go_ret2
    exact rdoes_same HAsk.out (HR.out.below HB2.out) HB2.out
  · obtain ⟨o1, o2, o3, o4, o5⟩ := ok3.1 k1
    have HE := Lib.hid k2
    rw [k1, show Ws.errV true = 0 from rfl] at HC
    obtain ⟨z, hz⟩ : ∃ z, Hs.fst tx H = z := ⟨_, rfl⟩
    obtain ⟨s, hs⟩ : ∃ s, supN (kn z) (kn m) = s := ⟨_, rfl⟩
    rw [hz] at HMo
    have HSu := Lib.hid (fun (wi : World) => rsup_any z m wi wi (Below.refl _ _))
    rw [hs] at HSu
    have HTg := Lib.hid (show tgt tx m H = (s : Nat) by unfold tgt; rw [hz, hs])
    have HZ := Lib.hid hz
    have HHr := Lib.hid (fun hz0 => has_ref (tx := tx) (m := m) (H := H) o2 o3 hz0)
    rw [hz, hs] at HHr
    have HHn := Lib.hid (fun hz0 => has_no (tx := tx) (m := m) (H := H) hz0)
    rw [hz] at HHn
    clear k1 k2 o1 o2 o3 o4 o5 hz hs
    go_enter Tryz.func63, Tryz.ntmps63
    go_wp2_with fail
    refine HC.out.mono ?_
    rintro e w1 ⟨rfl, rfl⟩
    clear HC
    go_wp2_with fail
    refine HFi.out.mono ?_
    rintro e w2 ⟨rfl, hb2⟩
    have HM2 := Lib.hid (HMo.out _ hb2)
    have HB2 := Lib.hid hb2
    have g5 := (HR.out.below hb2).e5n N1.out
    have k4 : (decide (0 ≤ Ws.fndI tx L)) = false := by simpa using k3
    clear hb2 HFi HMo e6
    go_wp2_with fail
    refine HM2.out.mono ?_
    rintro e w3 ⟨rfl, hb3⟩
    have HB3 := Lib.hid (HB2.out.trans (hb3.mono HB2.out.size))
    clear hb3 HM2 HB2 g5
    go_wp2_with fail
    refine (HSu.out _).mono ?_
    rintro e w4 ⟨rfl, hb4⟩
    have HB4 := Lib.hid (HB3.out.trans (hb4.mono HB3.out.size))
    have HR4 := Lib.hid (HR.out.below HB4.out)
    clear hb4 HB3 HSu HR
    have e5 := HR4.out.e5n N1.out
    have e6 := HR4.out.e6n N2.out
    have hbl := HR4.out.lt
    by_cases hz0 : z = 0
    · subst hz0
      have HCV := Lib.hid (show (Hs.fst tx H != 0) = false by rw [HZ.out]; rfl)
      have HH0 := Lib.hid (HHn.out rfl)
      by_cases hk0 : n2 = 0
      · subst hk0
        have HTn := Lib.hid (show turnB false L = true by unfold turnB; simpa using N2.out)
        have HRv := HR4
        have HBv := HB4
        clear HR4 HB4 HHr HHn
        have HGo := Lib.hid (Hs.rgoes_any HRv.out.h (by have := N1.out; omega) tx (s : Nat))
        obtain ⟨g, hg⟩ : ∃ g, Hs.goesB tx ((s : Nat) : Int) H = g := ⟨_, rfl⟩
        have HG := Lib.hid hg
        rw [N1.out, hg] at HGo
        clear hg
        go_wp2_with fail
        refine HGo.out.mono ?_
        rintro e wz ⟨rfl, hbz⟩
        have HBz := Lib.hid (HBv.out.trans (hbz.mono HBv.out.size))
        have HRz := Lib.hid (HRv.out.below hbz)
        clear hbz HGo HRv HBv
        cases g
        · have HAt := Lib.hid (show atOnce tx m H L = false by unfold atOnce; rw [HTg.out, HG.out, Bool.and_false])
          by_cases hf1 : fl = 1
          · subst hf1
            have HAsk := Lib.hid (ask_not HE.out HH0.out HAt.out rfl)
            go_wp2_with fail
            go_ret2
            exact rdoes_same HAsk.out HRz.out HBz.out
          · have hf1b : (fl == 1) = false := by simpa using hf1
            have HAsk := Lib.hid (ask_wait HE.out HH0.out HAt.out hf1)
            obtain ⟨iv, hiv⟩ : ∃ iv, (fl == 2) = iv := ⟨_, rfl⟩
            rw [show reqW tx m fl H = (tx, ((s : Nat) : Int), false, iv) by unfold reqW; rw [HTg.out, HCV.out, hiv]] at HAsk
            have HIn := Lib.hid (Ws.rinsert_far HRz.out.l (by have := N2.out; omega) (tx, ((s : Nat) : Int), false, iv))
            rw [N2.out] at HIn
            have y6 := HRz.out.e6n N2.out
            have fz := HRz.out.fz 6
            clear hf1
            go_wp2_with fail
            refine HIn.out.mono ?_
            rintro e wy ⟨B2, d2, rfl, hls, hby⟩
            have HRy := HRz.out.below hby
            have HRx := Lib.hid (HRy.set6 hls.1)
            have HOx := Lib.hid ((OnlyS.of_below (HBz.out.trans (hby.mono HBz.out.size))).trans (OnlyS.set b 6 wy (.slice B2 (Ws.ins (tx, ((s : Nat) : Int), false, iv) L).length d2)))
            have HFx := Lib.hid (show ∀ a, B2 = some a → W.heap.size ≤ a.block from fun a ha => Nat.le_trans HBz.out.size (hls.2 a ha))
            have HNx := Lib.hid ((Nb.below (HBz.out.trans (hby.mono HBz.out.size))).trans (HRy.nb6 (.slice B2 (Ws.ins (tx, ((s : Nat) : Int), false, iv) L).length d2)))
            have y6' := HRy.e6
            have fy := HRy.fz 6
            obtain ⟨q, hq⟩ : ∃ q, (Ws.ins (tx, ((s : Nat) : Int), false, iv) L).length = q := ⟨_, rfl⟩
            rw [hq] at HRx HOx HNx ⊢
            clear hls hby HRy HIn y6 fz hq
            go_wp2_with fail
            go_ret2
            exact rdoes_set HAsk.out HRx.out HOx.out (Frb.refl _ _ _) (Frb.new HFx.out) HNx.out
        · skip
          have HAsk := Lib.hid (ask_now HE.out HH0.out (show atOnce tx m H L = true by unfold atOnce; rw [HTg.out, HG.out, HCV.out, HTn.out]; rfl))
          by_cases hf2 : fl = 2
          · subst hf2
            have HG2 := Lib.hid (show grantH (reqW tx m 2 H) H = H from rfl)
            rw [HG2.out] at HAsk
            go_wp2_with fail
            go_ret2
            exact rdoes_same HAsk.out HRz.out HBz.out
          · have hf2b : (fl != 2) = true := by simpa using hf2
            have HG2 := Lib.hid (show grantH (reqW tx m fl H) H = Hs.setL tx (s : Nat) H by
              unfold grantH reqW
              rw [if_neg (by simpa using hf2), HTg.out])
            rw [HG2.out] at HAsk
            have HSe := Lib.hid (Hs.rset_row HRz.out.h (by have := N1.out; omega) tx (s : Nat))
            rw [N1.out] at HSe
            have y5 := HRz.out.e5n N1.out
            have fz := HRz.out.fz 5
            clear hf2
            go_wp2_with fail
            refine HSe.out.mono ?_
            rintro e wy ⟨B1, d1, rfl, hls, hby⟩
            have HRy := HRz.out.below hby
            have HRx := Lib.hid (HRy.set5 hls.lsv)
            have HOx := Lib.hid ((OnlyS.of_below (HBz.out.trans (hby.mono HBz.out.size))).trans (OnlyS.set b 5 wy (.slice B1 (Hs.setL tx (s : Nat) H).length d1)))
            have HFx := Lib.hid (show ∀ a, B1 = some a → W.heap.size ≤ a.block from fun a ha => Nat.le_trans HBz.out.size (hls.far a ha))
            have HNx := Lib.hid ((Nb.below (HBz.out.trans (hby.mono HBz.out.size))).trans (HRy.nb5 (.slice B1 (Hs.setL tx (s : Nat) H).length d1)))
            have y5' := HRy.e5
            have fy := HRy.fz 5
            obtain ⟨q, hq⟩ : ∃ q, (Hs.setL tx (s : Nat) H).length = q := ⟨_, rfl⟩
            rw [hq] at HRx HOx HNx ⊢
            clear hls hby HRy HSe y5 fz hq
            go_wp2_with fail
            go_ret2
            exact rdoes_set HAsk.out HRx.out HOx.out (Frb.new HFx.out) (Frb.refl _ _ _) HNx.out
      · have hk0b : ((n2 : Int) == 0) = false := by simpa using hk0
        have HAt := Lib.hid (show atOnce tx m H L = false by
          unfold atOnce turnB
          rw [HCV.out]
          simp only [Bool.false_eq_true, if_false, Bool.and_eq_false_iff]
          left
          rw [N2.out]
          simpa using hk0)
        have HRz := HR4
        have HBz := HB4
        clear HR4 HB4 HHr HHn hk0
        by_cases hf1 : fl = 1
        · subst hf1
          have HAsk := Lib.hid (ask_not HE.out HH0.out HAt.out rfl)
          go_wp2_with fail
          go_ret2
          exact rdoes_same HAsk.out HRz.out HBz.out
        · have hf1b : (fl == 1) = false := by simpa using hf1
          have HAsk := Lib.hid (ask_wait HE.out HH0.out HAt.out hf1)
          obtain ⟨iv, hiv⟩ : ∃ iv, (fl == 2) = iv := ⟨_, rfl⟩
          rw [show reqW tx m fl H = (tx, ((s : Nat) : Int), false, iv) by unfold reqW; rw [HTg.out, HCV.out, hiv]] at HAsk
          have HIn := Lib.hid (Ws.rinsert_far HRz.out.l (by have := N2.out; omega) (tx, ((s : Nat) : Int), false, iv))
          rw [N2.out] at HIn
          have y6 := HRz.out.e6n N2.out
          have fz := HRz.out.fz 6
          clear hf1
          go_wp2_with fail
          refine HIn.out.mono ?_
          rintro e wy ⟨B2, d2, rfl, hls, hby⟩
          have HRy := HRz.out.below hby
          have HRx := Lib.hid (HRy.set6 hls.1)
          have HOx := Lib.hid ((OnlyS.of_below (HBz.out.trans (hby.mono HBz.out.size))).trans (OnlyS.set b 6 wy (.slice B2 (Ws.ins (tx, ((s : Nat) : Int), false, iv) L).length d2)))
          have HFx := Lib.hid (show ∀ a, B2 = some a → W.heap.size ≤ a.block from fun a ha => Nat.le_trans HBz.out.size (hls.2 a ha))
          have HNx := Lib.hid ((Nb.below (HBz.out.trans (hby.mono HBz.out.size))).trans (HRy.nb6 (.slice B2 (Ws.ins (tx, ((s : Nat) : Int), false, iv) L).length d2)))
          have y6' := HRy.e6
          have fy := HRy.fz 6
          obtain ⟨q, hq⟩ : ∃ q, (Ws.ins (tx, ((s : Nat) : Int), false, iv) L).length = q := ⟨_, rfl⟩
          rw [hq] at HRx HOx HNx ⊢
          clear hls hby HRy HIn y6 fz hq
          go_wp2_with fail
          go_ret2
          exact rdoes_set HAsk.out HRx.out HOx.out (Frb.refl _ _ _) (Frb.new HFx.out) HNx.out
    · have hz0b : (z != 0) = true := by simpa using hz0
      have HCV := Lib.hid (show (Hs.fst tx H != 0) = true by rw [HZ.out]; exact hz0b)
      have HHr1 := Lib.hid (HHr.out hz0)
      by_cases hsz : ((s : Nat) : Int) = z
      · have HH1 := Lib.hid (show has tx m H = true by rw [HHr1.out]; simpa using hsz)
        have HAsk := Lib.hid (ask_has (fl := fl) HE.out HH1.out)
        have hszb : ((s : Int) == z) = true := by simpa using hsz
        clear hsz hz0
        go_wp2_with fail
        go_ret2
        exact rdoes_same HAsk.out HR4.out HB4.out
      · have HH0 := Lib.hid (show has tx m H = false by rw [HHr1.out]; simpa using hsz)
        have hszb : ((s : Int) == z) = false := by simpa using hsz
        have HPl := Lib.hid (Ws.rplace_any HR4.out.l (by have := N2.out; omega) true)
        rw [N2.out] at HPl
        obtain ⟨pk, hp⟩ : ∃ p, Ws.plc true L = p := ⟨_, rfl⟩
        have HPp := Lib.hid hp
        rw [hp] at HPl
        have hzI : ¬ z = 0 := hz0
        clear hsz hz0 HHr HHn HHr1 hp
        go_wp2_with fail
        refine HPl.out.mono ?_
        rintro e w5 ⟨rfl, rfl⟩
        clear HPl
        by_cases hp0 : pk = 0
        · subst hp0
          have HTn := Lib.hid (show turnB true L = true by unfold turnB; simpa using HPp.out)
          have HRv := HR4
          have HBv := HB4
          clear HR4 HB4
          have HGo := Lib.hid (Hs.rgoes_any HRv.out.h (by have := N1.out; omega) tx (s : Nat))
          obtain ⟨g, hg⟩ : ∃ g, Hs.goesB tx ((s : Nat) : Int) H = g := ⟨_, rfl⟩
          have HG := Lib.hid hg
          rw [N1.out, hg] at HGo
          clear hg
          go_wp2_with fail
          refine HGo.out.mono ?_
          rintro e wz ⟨rfl, hbz⟩
          have HBz := Lib.hid (HBv.out.trans (hbz.mono HBv.out.size))
          have HRz := Lib.hid (HRv.out.below hbz)
          clear hbz HGo HRv HBv
          cases g
          · have HAt := Lib.hid (show atOnce tx m H L = false by unfold atOnce; rw [HTg.out, HG.out, Bool.and_false])
            by_cases hf1 : fl = 1
            · subst hf1
              have HAsk := Lib.hid (ask_not HE.out HH0.out HAt.out rfl)
              go_wp2_with fail
              go_ret2
              exact rdoes_same HAsk.out HRz.out HBz.out
            · have hf1b : (fl == 1) = false := by simpa using hf1
              have HAsk := Lib.hid (ask_wait HE.out HH0.out HAt.out hf1)
              obtain ⟨iv, hiv⟩ : ∃ iv, (fl == 2) = iv := ⟨_, rfl⟩
              rw [show reqW tx m fl H = (tx, ((s : Nat) : Int), true, iv) by unfold reqW; rw [HTg.out, HCV.out, hiv]] at HAsk
              have HIn := Lib.hid (Ws.rinsert_far HRz.out.l (by have := N2.out; omega) (tx, ((s : Nat) : Int), true, iv))
              rw [N2.out] at HIn
              have y6 := HRz.out.e6n N2.out
              have fz := HRz.out.fz 6
              clear hf1
              go_wp2_with fail
              refine HIn.out.mono ?_
              rintro e wy ⟨B2, d2, rfl, hls, hby⟩
              have HRy := HRz.out.below hby
              have HRx := Lib.hid (HRy.set6 hls.1)
              have HOx := Lib.hid ((OnlyS.of_below (HBz.out.trans (hby.mono HBz.out.size))).trans (OnlyS.set b 6 wy (.slice B2 (Ws.ins (tx, ((s : Nat) : Int), true, iv) L).length d2)))
              have HFx := Lib.hid (show ∀ a, B2 = some a → W.heap.size ≤ a.block from fun a ha => Nat.le_trans HBz.out.size (hls.2 a ha))
              have HNx := Lib.hid ((Nb.below (HBz.out.trans (hby.mono HBz.out.size))).trans (HRy.nb6 (.slice B2 (Ws.ins (tx, ((s : Nat) : Int), true, iv) L).length d2)))
              have y6' := HRy.e6
              have fy := HRy.fz 6
              obtain ⟨q, hq⟩ : ∃ q, (Ws.ins (tx, ((s : Nat) : Int), true, iv) L).length = q := ⟨_, rfl⟩
              rw [hq] at HRx HOx HNx ⊢
              clear hls hby HRy HIn y6 fz hq
              go_wp2_with fail
              go_ret2
              exact rdoes_set HAsk.out HRx.out HOx.out (Frb.refl _ _ _) (Frb.new HFx.out) HNx.out
          · skip
            have HAsk := Lib.hid (ask_now HE.out HH0.out (show atOnce tx m H L = true by unfold atOnce; rw [HTg.out, HG.out, HCV.out, HTn.out]; rfl))
            by_cases hf2 : fl = 2
            · subst hf2
              have HG2 := Lib.hid (show grantH (reqW tx m 2 H) H = H from rfl)
              rw [HG2.out] at HAsk
              go_wp2_with fail
              go_ret2
              exact rdoes_same HAsk.out HRz.out HBz.out
            · have hf2b : (fl != 2) = true := by simpa using hf2
              have HG2 := Lib.hid (show grantH (reqW tx m fl H) H = Hs.setL tx (s : Nat) H by
                unfold grantH reqW
                rw [if_neg (by simpa using hf2), HTg.out])
              rw [HG2.out] at HAsk
              have HSe := Lib.hid (Hs.rset_row HRz.out.h (by have := N1.out; omega) tx (s : Nat))
              rw [N1.out] at HSe
              have y5 := HRz.out.e5n N1.out
              have fz := HRz.out.fz 5
              clear hf2
              go_wp2_with fail
              refine HSe.out.mono ?_
              rintro e wy ⟨B1, d1, rfl, hls, hby⟩
              have HRy := HRz.out.below hby
              have HRx := Lib.hid (HRy.set5 hls.lsv)
              have HOx := Lib.hid ((OnlyS.of_below (HBz.out.trans (hby.mono HBz.out.size))).trans (OnlyS.set b 5 wy (.slice B1 (Hs.setL tx (s : Nat) H).length d1)))
              have HFx := Lib.hid (show ∀ a, B1 = some a → W.heap.size ≤ a.block from fun a ha => Nat.le_trans HBz.out.size (hls.far a ha))
              have HNx := Lib.hid ((Nb.below (HBz.out.trans (hby.mono HBz.out.size))).trans (HRy.nb5 (.slice B1 (Hs.setL tx (s : Nat) H).length d1)))
              have y5' := HRy.e5
              have fy := HRy.fz 5
              obtain ⟨q, hq⟩ : ∃ q, (Hs.setL tx (s : Nat) H).length = q := ⟨_, rfl⟩
              rw [hq] at HRx HOx HNx ⊢
              clear hls hby HRy HSe y5 fz hq
              go_wp2_with fail
              go_ret2
              exact rdoes_set HAsk.out HRx.out HOx.out (Frb.new HFx.out) (Frb.refl _ _ _) HNx.out
        · have hp0b : ((pk : Int) == 0) = false := by simpa using hp0
          have HAt := Lib.hid (show atOnce tx m H L = false by
            unfold atOnce turnB
            rw [HCV.out]
            simp only [if_true, Bool.and_eq_false_iff]
            left
            rw [HPp.out]
            simpa using hp0)
          have HRz := HR4
          have HBz := HB4
          clear HR4 HB4 hp0
          by_cases hf1 : fl = 1
          · subst hf1
            have HAsk := Lib.hid (ask_not HE.out HH0.out HAt.out rfl)
            go_wp2_with fail
            go_ret2
            exact rdoes_same HAsk.out HRz.out HBz.out
          · have hf1b : (fl == 1) = false := by simpa using hf1
            have HAsk := Lib.hid (ask_wait HE.out HH0.out HAt.out hf1)
            obtain ⟨iv, hiv⟩ : ∃ iv, (fl == 2) = iv := ⟨_, rfl⟩
            rw [show reqW tx m fl H = (tx, ((s : Nat) : Int), true, iv) by unfold reqW; rw [HTg.out, HCV.out, hiv]] at HAsk
            have HIn := Lib.hid (Ws.rinsert_far HRz.out.l (by have := N2.out; omega) (tx, ((s : Nat) : Int), true, iv))
            rw [N2.out] at HIn
            have y6 := HRz.out.e6n N2.out
            have fz := HRz.out.fz 6
            clear hf1
            go_wp2_with fail
            refine HIn.out.mono ?_
            rintro e wy ⟨B2, d2, rfl, hls, hby⟩
            have HRy := HRz.out.below hby
            have HRx := Lib.hid (HRy.set6 hls.1)
            have HOx := Lib.hid ((OnlyS.of_below (HBz.out.trans (hby.mono HBz.out.size))).trans (OnlyS.set b 6 wy (.slice B2 (Ws.ins (tx, ((s : Nat) : Int), true, iv) L).length d2)))
            have HFx := Lib.hid (show ∀ a, B2 = some a → W.heap.size ≤ a.block from fun a ha => Nat.le_trans HBz.out.size (hls.2 a ha))
            have HNx := Lib.hid ((Nb.below (HBz.out.trans (hby.mono HBz.out.size))).trans (HRy.nb6 (.slice B2 (Ws.ins (tx, ((s : Nat) : Int), true, iv) L).length d2)))
            have y6' := HRy.e6
            have fy := HRy.fz 6
            obtain ⟨q, hq⟩ : ∃ q, (Ws.ins (tx, ((s : Nat) : Int), true, iv) L).length = q := ⟨_, rfl⟩
            rw [hq] at HRx HOx HNx ⊢
            clear hls hby HRy HIn y6 fz hq
            go_wp2_with fail
            go_ret2
            exact rdoes_set HAsk.out HRx.out HOx.out (Frb.refl _ _ _) (Frb.new HFx.out) HNx.out
end
end Go.Proofs.YtjhkejkdnjogiaaGreatDoor
