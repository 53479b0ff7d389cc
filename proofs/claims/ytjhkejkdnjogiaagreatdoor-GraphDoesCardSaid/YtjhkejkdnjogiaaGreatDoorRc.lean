/- The document's queue: sweep, Release and Cancel. -/
import Derived.Test.YtjhkejkdnjogiaaGreatDoorRb
import Derived.Deep.Cut
namespace Go.Proofs.YtjhkejkdnjogiaaGreatDoor
open Go Go.RowKit Go.Shelf
set_option maxRecDepth 100000

section
variable {W W' w w' : World} {b n1 n2 : Nat} {p : Pa.Pt} {Z1 : Option Addr × List Hs.Hd} {Z2 : Option Addr × List Ws.Wt} {A1 A2 B1 B2 : Option Addr} {c1 c2 d1 d2 : Nat} {H H' : List Hs.Hd} {L L' T : List Ws.Wt} {v : Value} {X : List Hs.Hd × List Ws.Wt × List Ws.Wt}
theorem Far.lists {row : Option Nat} (hh : Hs.Ls w A1 c1 H) (hl : Ws.Ls w A2 c2 L) (hr : ∀ g, row = some g → w.heap.size ≤ g) : Far row A1 A2 H L :=
  ⟨hh.in.imp id fun q a ha e => by have := q a ha; have := hr _ e; omega, hl.in.imp id fun q a ha e => by have := q a ha; have := hr _ e; omega⟩
theorem rgrown_at {row : Option Nat} (h : RAt w b p A1 c1 A2 c2 H L) (hg : w.grownBy w' row) (hf : Far row A1 A2 H L) (hb : row ≠ some b) : RAt w' b p A1 c1 A2 c2 H L := by
  refine ⟨(hg.block b h.lt (fun e => hb e.symm)).trans h.blk, ?_, ?_⟩
  · rcases hf.h with rfl | q
    · exact ⟨h.h.cap, h.h.room, h.h.nil, fun _ _ j u hj => by simp [Hs.flat] at hj⟩
    · rcases h.h.in with rfl | q2
      · exact ⟨h.h.cap, h.h.room, h.h.nil, fun _ _ j u hj => by simp [Hs.flat] at hj⟩
      · exact h.h.keep fun a ha => hg.block _ (q2 a ha) fun e => q a ha e.symm
  · rcases hf.l with rfl | q
    · exact ⟨h.l.cap, h.l.room, h.l.nil, fun _ _ j u hj => by simp [Ws.flat] at hj⟩
    · rcases h.l.in with rfl | q2
      · exact ⟨h.l.cap, h.l.room, h.l.nil, fun _ _ j u hj => by simp [Ws.flat] at hj⟩
      · exact h.l.keep fun a ha => hg.block _ (q2 a ha) fun e => q a ha e.symm
/-- where sweep stands -/
structure Sw (W : World) (b : Nat) (p : Pa.Pt) (Z1 : Option Addr × List Hs.Hd) (Z2 : Option Addr × List Ws.Wt) (X : List Hs.Hd × List Ws.Wt × List Ws.Wt) (j : Nat) (H : List Hs.Hd) (L T : List Ws.Wt) (v : Value) (w : World) : Prop where
  q : ∃ A1 c1 A2 c2, RAt w b p A1 c1 A2 c2 H L ∧ Far v.ownBlock A1 A2 H L ∧ Frb W.heap.size Z1 A1 H ∧ Frb W.heap.size Z2 A2 L
  row : Ws.Row w W.heap.size v T
  nb : Nb W w
  only : OnlyS (· = b) W w
  l1 : H.length + L.length ≤ 400
  l2 : T.length + L.length ≤ 400
  l3 : j + L.length ≤ 400
  is : X = ((swp L H).1, (swp L H).2.1, T ++ (swp L H).2.2)
def RTold (b : Nat) (p : Pa.Pt) (W : World) (Z1 : Option Addr × List Hs.Hd) (Z2 : Option Addr × List Ws.Wt) (X : List Hs.Hd × List Ws.Wt × List Ws.Wt) (e : Ending) (w' : World) : Prop :=
  ∃ A c, e = .returned (.slice A X.2.2.length c) ∧ (Ws.Ls w' A c X.2.2 ∧ ∀ a, A = some a → W.heap.size ≤ a.block) ∧ RLeft b p W Z1 Z2 X.1 X.2.1 w'
theorem Sw.told {j : Nat} (h : Sw W b p Z1 Z2 X j H L T v w) (he : (swp L H) = (H, L, [])) : RTold b p W Z1 Z2 X (.returned v) w := by
  have e := h.is
  rw [he, List.append_nil] at e
  subst e
  obtain ⟨A1, c1, A2, c2, hq, -, f1, f2⟩ := h.q
  obtain ⟨A, c, rfl, hls⟩ := h.row.ls
  exact ⟨A, c, rfl, ⟨hls, h.row.far⟩, ⟨_, _, _, _, hq, f1, f2⟩, h.only, h.nb⟩
theorem Sw.below {j : Nat} (h : Sw W b p Z1 Z2 X j H L T v w) (hb : Below w.heap.size w w') : Sw W b p Z1 Z2 X j H L T v w' := by
  obtain ⟨A1, c1, A2, c2, hq, hf⟩ := h.q
  exact ⟨⟨A1, c1, A2, c2, hq.below hb, hf⟩, row_below h.row hb, h.nb.then hb, h.only.trans (OnlyS.of_below hb), h.l1, h.l2, h.l3, h.is⟩
set_option maxHeartbeats 4000000 in
theorem sweep_any (h : RAt W b p A1 c1 A2 c2 H L) (hl : H.length + L.length ≤ 400) : Calls Tryz.prog 101 #[qp b] W (RTold b p W (A1, H) (A2, L) (swp L H)) := by
  have hbl := h.lt
  have H0 := Lib.hid (show Sw W b p (A1, H) (A2, L) (swp L H) 0 H L [] (.slice none 0 0) W from ⟨⟨A1, c1, A2, c2, h, ⟨.inr fun _ _ e => (by cases e), .inr fun _ _ e => (by cases e)⟩, Frb.refl _ _ _, Frb.refl _ _ _⟩, World.ownsRow_nil _ _ _ _, Nb.refl _, OnlyS.refl _ _, hl, by simp; omega, by omega, rfl⟩)
  generalize swp L H = X at *
  obtain ⟨Z1, hZ1⟩ : ∃ Z, (A1, H) = Z := ⟨_, rfl⟩
  obtain ⟨Z2, hZ2⟩ : ∃ Z, (A2, L) = Z := ⟨_, rfl⟩
  rw [hZ1, hZ2] at H0 ⊢
  clear h hl hZ1 hZ2
  go_enter Tryz.func101, Tryz.ntmps101
  go_wp2_with fail
  go_loopw [3, 4] (fun v t wr => ∃ (j : Nat) (H : List Hs.Hd) (L T : List Ws.Wt) (u : Value), t = .int .i64 j ∧ u = v ∧ Sw W b p Z1 Z2 X j H L T u wr) (fun _ t _ => 401 - (intOf t).toNat)
  case atStart => exact ⟨0, _, _, _, _, rfl, rfl, H0.out⟩
  case round =>
    clear H0
    obtain ⟨j, H, L, T, v, rfl, rfl, hs⟩ := hrel
    have HS := Lib.hid hs
    obtain ⟨A1, c1, A2, c2, hq, hf, hz⟩ := hs.q
    have HZ := Lib.hid hz
    have HF := Lib.hid hf
    have HQ := Lib.hid hq
    have q6 := hq.e6
    have hl1 := hs.l1
    have hl3 := hs.l3
    clear hs hq hf hz
    cases L with
    | nil =>
      simp only [List.length_nil] at q6
      go_wp2_with fail
      go_ret
      exact HS.out.told rfl
    | cons x L =>
      obtain ⟨tx, m, cv, ii⟩ := x
      obtain ⟨ad, rfl, e0, e1, e2, e3⟩ := first_at HQ.out.l
      simp only [List.length_cons] at q6 hl1 hl3
      obtain ⟨k, hk⟩ : ∃ k, L.length = k := ⟨_, rfl⟩
      rw [hk] at q6 hl1 hl3
      have HK := Lib.hid hk
      obtain ⟨g, hg⟩ : ∃ g, Hs.goesB tx m H = g := ⟨_, rfl⟩
      have HG := Lib.hid hg
      go_wp2_with fail
      have HX := Lib.hid (Bx.new wr tx m cv ii)
      have hbx := box_below wr (.cells #[.int .i64 tx, .int .i64 m, .bool cv, .bool ii] 54)
      have HS2 := Lib.hid (HS.out.below hbx)
      have HQ2 := Lib.hid (HQ.out.below hbx)
      have hKb : wr.heap.size ≠ b := by have := HQ.out.lt; omega
      clear HS HQ q6 e0 e1 e2 e3 hbx
      generalize wr.alloc (.cells #[.int .i64 tx, .int .i64 m, .bool cv, .bool ii] 54) = w2 at *
      generalize wr.heap.size = K2 at *
      have y5 := HQ2.out.e5
      have b0 := HX.out.b0
      have b1 := HX.out.b1
      simp only at b0 b1
      have hlb := HQ2.out.lt
      have hlk := HX.out.lt
      have gG : Gives w2 105 #[.slice A1 H.length c1, .int .i64 tx, .int .i64 m] (.bool g) := fun w' hb => by
        have := acc hb (Hs.rgoes_any (HQ2.out.h.below hb) (by omega) tx m)
        rw [hg] at this
        exact this
      refine wp_region_later w2 (by kernel_rfl) (by kernel_rfl) (Below.refl _ _) ?_
      repeat (go_big_quiet_step ((go_at_call 105; exact Gives.later (by with_reducible assumption))))
      refine wpQuiet_nil ?_
      intro w3 hw3
      have hb3 := in_later hw3
      have HS3 := Lib.hid (HS2.out.below hb3)
      have HQ3 := Lib.hid (HQ2.out.below hb3)
      have HX3 := Lib.hid (HX.out.below hb3)
      clear hw3 hb3 HS2 HQ2 HX y5 b0 b1 gG hlb hlk hg hk
      cases g
      · go_wp2_with fail
        go_ret
        exact HS3.out.told (swp_no HG.out)
      · have HP := Lib.hid (show (H.length + k ≤ 399 ∧ T.length + k ≤ 399 ∧ j + k ≤ 399 ∧ X = ((swp L (grantH (tx, m, cv, ii) H)).1, (swp L (grantH (tx, m, cv, ii) H)).2.1, T ++ (tx, m, cv, ii) :: (swp L (grantH (tx, m, cv, ii) H)).2.2)) from by
          have g2 := HS3.out.l1
          have g3 := HS3.out.l2
          have g5 := HS3.out.l3
          have g4 := HS3.out.is
          simp only [List.length_cons] at g2 g3 g5
          rw [HK.out] at g2 g3 g5
          rw [swp_yes HG.out] at g4
          exact ⟨by omega, by omega, by omega, g4⟩)
        have HGl := Lib.hid (grantH_len (tx, m, cv, ii) H)
        have hcap := HQ3.out.l.cap
        have hrm := HQ3.out.l.room
        simp only [List.length_cons] at hcap
        rw [HK.out] at hcap
        have hls4 := HQ3.out.l.tl (k := 1) (by simp)
        simp only [List.drop_succ_cons, List.drop_zero] at hls4
        have f6 := HQ3.out.fz 6
        have q6 := HQ3.out.e6
        simp only [List.length_cons] at q6
        rw [HK.out] at q6
        have z4 : (1 : Int) ≤ (k : Int) + 1 := by omega
        have hSA0 : Ws.tlA (some ad) c2 1 = if c2 = 1 then some ad else some ⟨ad.block, ad.off + 4, none⟩ := by unfold Ws.tlA; split <;> rfl
        by_cases hc : c2 = 1
        · rw [hSA0, if_pos hc] at hls4
          subst hc
          obtain rfl : k = 0 := by omega
          have hSAb : ∀ a, (some ad : Option Addr) = some a → ∃ a', some ad = some a' ∧ a.block = a'.block := fun a ha => ⟨ad, rfl, by cases ha; rfl⟩
          have HQ4 := Lib.hid (HQ3.out.set6 hls4)
          have HOs := OnlyS.set b 6 w3 (.slice (some ad) L.length 0)
          have HN4 := Lib.hid (HS3.out.nb.trans (HQ3.out.nb6 (.slice (some ad) L.length 0)))
          have HZ4 := Lib.hid (And.intro HZ.out.1 (Frb.trans HZ.out.2 (.inr fun a ha => by
            obtain ⟨a', e', ha'⟩ := hSAb a ha
            cases e'
            exact .inr ⟨by simp, ad, rfl, ha'.symm⟩ : Frb W.heap.size (some ad, (tx, m, cv, ii) :: L) (some ad) L) (Nat.le_refl _)))
          have HO4 := Lib.hid (HS3.out.only.trans HOs)
          have HX4 := Lib.hid (HX3.out.only HOs hKb)
          have HR4 := Lib.hid (show Ws.Row (w3.setCell ⟨b, 6, none⟩ (.slice (some ad) L.length 0)) W.heap.size v T from row_keep HS3.out.row fun g hg => HOs.block g (HS3.out.row.lt g hg).2 (by have := (HS3.out.row.lt g hg).1; omega))
          have HF4 := Lib.hid (show Far v.ownBlock A1 (some ad) H L from ⟨HF.out.h, by
            rcases HF.out.l with q | q
            · cases q
            · exact .inr fun a ha => by
                obtain ⟨a', e', ha'⟩ := hSAb a ha
                rw [ha']; exact q a' e'⟩)
          rw [HK.out] at HQ4 HO4 HX4 HR4 HN4
          have q4 := HQ3.out.e6
          have f4 := HQ3.out.fz 6
          simp only [List.length_cons] at q4
          rw [HK.out] at q4
          clear HS3 HQ3 HX3 HOs hls4 HF HZ
          go_upto_region 9 with fail
          generalize w3.setCell ⟨b, 6, none⟩ (.slice (some ad) 0 0) = w4 at *
          clear q4 f4
          cases ii
          · have HSe := Lib.hid (fun (wi : World) (hb : Below w4.heap.size w4 wi) => Hs.rset_row (HQ4.out.h.below hb) (by omega) tx m)
            have b0 := HX4.out.b0
            have b1 := HX4.out.b1
            have b3 := HX4.out.b3
            simp only at b0 b1 b3
            have y5 := HQ4.out.e5
            have f5 := HQ4.out.fz 5
            go_wp2_with fail
            go_region_law (first | (go_simp; go_at_call 106; refine (HSe.out _ (Below.refl _ _).drew).mono ?_; rintro e wa ⟨B1, d1, rfl, hrw1, hba⟩; have hbb := undrew hba; have HQa := Lib.hid (HQ4.out.below hbb); have ja := HQa.out.e5; have jb := HQa.out.fz 5))
            all_goals
              have HQ5 := Lib.hid (HQa.out.set5 hrw1.lsv)
              have HOs := OnlyS.set b 5 wa (.slice B1 (Hs.setL tx m H).length d1)
              have HN5 := Lib.hid ((HN4.out.then hbb).trans (HQa.out.nb5 (.slice B1 (Hs.setL tx m H).length d1)))
              have HZ5 := Lib.hid (And.intro (show Frb W.heap.size Z1 B1 (grantH (tx, m, cv, false) H) from Frb.new fun a ha => Nat.le_trans HO4.out.size (hrw1.far a ha)) HZ4.out.2)
              have HO5 := Lib.hid ((HO4.out.trans (OnlyS.of_below hbb)).trans HOs)
              have HX5 := Lib.hid ((HX4.out.below hbb).only HOs hKb)
              have HR5 := Lib.hid (show Ws.Row (wa.setCell ⟨b, 5, none⟩ (.slice B1 (Hs.setL tx m H).length d1)) W.heap.size v T from row_keep (row_below HR4.out hbb) fun g hg => HOs.block g ((row_below HR4.out hbb).lt g hg).2 (by have := (HR4.out.lt g hg).1; omega))
              have HF5 := Lib.hid (show Far v.ownBlock B1 (some ad) (grantH (tx, m, cv, false) H) L from HF4.out.hold (w := w4) (fun g hg => (HR4.out.lt g hg).2) (.inr fun a ha => hrw1.far a ha))
              replace HQ5 := Lib.hid (show RAt _ b p B1 d1 (some ad) 0 (grantH (tx, m, cv, false) H) L from HQ5.out)
              clear hba hbb hrw1 HQa ja jb HOs b0 b1 b3 y5 f5 HSe
              generalize wa.setCell ⟨b, 5, none⟩ (.slice B1 (Hs.setL tx m H).length d1) = w5 at *
              have hx := box_below w5 (.cells #[.int .i64 tx, .int .i64 m, .bool cv, .bool false] 54)
              obtain ⟨v', w6, hrun, hrow, hgr, how⟩ := Ws.Row.app (Ws.Row.keep HR5.out (fun g hg => hx.block g (HR5.out.lt g hg).2)) (Ws.box_ls w5 (tx, m, cv, false)) (by simp; have := HP.out.2.1; omega) (Nat.le_trans HO5.out.size hx.size) 67
              have HG6 := Lib.hid (show Sw W b p Z1 Z2 X (j + 1) (grantH (tx, m, cv, false) H) L (T ++ [(tx, m, cv, false)]) v' w6 from
                ⟨⟨B1, d1, some ad, 0, rgrown_at (HQ5.out.below hx) hgr HF5.out (fun e => by have := (HR5.out.lt b e).1; omega), by
                    rcases how with e | e
                    · rw [e]; exact HF5.out
                    · exact Far.lists (HQ5.out.below hx).h (HQ5.out.below hx).l (fun g hg => by rw [e] at hg; cases hg; exact Nat.le_refl _), HZ5.out.1, HZ5.out.2⟩, hrow, (HN5.out.then hx).grown hgr (fun g hg => (HR5.out.lt g hg).1),
                 (HO5.out.trans (OnlyS.of_below hx)).grown hgr (fun g hg => .inr (HR5.out.lt g hg).1), by rw [HK.out]; have := HGl.out; have := HP.out.1; omega, by rw [HK.out, List.length_append]; have := HP.out.2.1; simp; omega, by rw [HK.out]; have := HP.out.2.2.1; omega, by rw [HP.out.2.2.2, List.append_assoc]; rfl⟩)
              have b0 := HX5.out.b0
              have b1 := HX5.out.b1
              have b2 := HX5.out.b2
              have b3 := HX5.out.b3
              simp only at b0 b1 b2 b3 hrun
              clear hrow hgr how hx HR5 HO5 HQ5 HX5 HF5 HN5 HZ5
              go_wp2_with (at_builtin; refine Lib.wpList_append_run _ rfl _ _ _ _ rfl _ _ rfl rfl _ _ hrun ?_)
              go_roundw
              case rel => exact ⟨j + 1, _, _, _, _, by go_num, rfl, HG6.out⟩
              case measure => simp [intOf]; omega
          · have HQ5 := Lib.hid (show RAt w4 b p A1 c1 (some ad) 0 (grantH (tx, m, cv, true) H) L from HQ4.out)
            have HF5 := Lib.hid (show Far v.ownBlock A1 (some ad) (grantH (tx, m, cv, true) H) L from HF4.out)
            have HX5 := HX4
            have HR5 := HR4
            have HO5 := HO4
            have HN5 := HN4
            have HZ5 := HZ4
            obtain ⟨w5, rfl⟩ : ∃ w5, w5 = w4 := ⟨_, rfl⟩
            obtain ⟨B1, rfl⟩ : ∃ B1, B1 = A1 := ⟨_, rfl⟩
            obtain ⟨d1, rfl⟩ : ∃ d1, d1 = c1 := ⟨_, rfl⟩
            clear HQ4 HF4 HX4 HR4 HO4 HN4 HZ4
            have b3 := HX5.out.b3
            simp only at b3
            have hx := box_below w5 (.cells #[.int .i64 tx, .int .i64 m, .bool cv, .bool true] 54)
            obtain ⟨v', w6, hrun, hrow, hgr, how⟩ := Ws.Row.app (Ws.Row.keep HR5.out (fun g hg => hx.block g (HR5.out.lt g hg).2)) (Ws.box_ls w5 (tx, m, cv, true)) (by simp; have := HP.out.2.1; omega) (Nat.le_trans HO5.out.size hx.size) 67
            have HG6 := Lib.hid (show Sw W b p Z1 Z2 X (j + 1) (grantH (tx, m, cv, true) H) L (T ++ [(tx, m, cv, true)]) v' w6 from
              ⟨⟨B1, d1, some ad, 0, rgrown_at (HQ5.out.below hx) hgr HF5.out (fun e => by have := (HR5.out.lt b e).1; omega), by
                  rcases how with e | e
                  · rw [e]; exact HF5.out
                  · exact Far.lists (HQ5.out.below hx).h (HQ5.out.below hx).l (fun g hg => by rw [e] at hg; cases hg; exact Nat.le_refl _), HZ5.out.1, HZ5.out.2⟩, hrow, (HN5.out.then hx).grown hgr (fun g hg => (HR5.out.lt g hg).1),
               (HO5.out.trans (OnlyS.of_below hx)).grown hgr (fun g hg => .inr (HR5.out.lt g hg).1), by rw [HK.out]; have := HGl.out; have := HP.out.1; omega, by rw [HK.out, List.length_append]; have := HP.out.2.1; simp; omega, by rw [HK.out]; have := HP.out.2.2.1; omega, by rw [HP.out.2.2.2, List.append_assoc]; rfl⟩)
            have b0 := HX5.out.b0
            have b1 := HX5.out.b1
            have b2 := HX5.out.b2
            have b3 := HX5.out.b3
            simp only at b0 b1 b2 b3 hrun
            clear hrow hgr how hx HR5 HO5 HQ5 HX5 HF5 HN5 HZ5
            go_wp2_with (at_builtin; refine Lib.wpList_append_run _ rfl _ _ _ _ rfl _ _ rfl rfl _ _ hrun ?_)
            go_roundw
            case rel => exact ⟨j + 1, _, _, _, _, by go_num, rfl, HG6.out⟩
            case measure => simp [intOf]; omega
        · rw [hSA0, if_neg hc] at hls4
          have hSAb : ∀ a, (some ⟨ad.block, ad.off + 4, none⟩ : Option Addr) = some a → ∃ a', some ad = some a' ∧ a.block = a'.block := fun a ha => ⟨ad, rfl, by cases ha; rfl⟩
          have HQ4 := Lib.hid (HQ3.out.set6 hls4)
          have HOs := OnlyS.set b 6 w3 (.slice (some ⟨ad.block, ad.off + 4, none⟩) L.length (c2 - 1))
          have HN4 := Lib.hid (HS3.out.nb.trans (HQ3.out.nb6 (.slice (some ⟨ad.block, ad.off + 4, none⟩) L.length (c2 - 1))))
          have HZ4 := Lib.hid (And.intro HZ.out.1 (Frb.trans HZ.out.2 (.inr fun a ha => by
            obtain ⟨a', e', ha'⟩ := hSAb a ha
            cases e'
            exact .inr ⟨by simp, ad, rfl, ha'.symm⟩ : Frb W.heap.size (some ad, (tx, m, cv, ii) :: L) (some ⟨ad.block, ad.off + 4, none⟩) L) (Nat.le_refl _)))
          have HO4 := Lib.hid (HS3.out.only.trans HOs)
          have HX4 := Lib.hid (HX3.out.only HOs hKb)
          have HR4 := Lib.hid (show Ws.Row (w3.setCell ⟨b, 6, none⟩ (.slice (some ⟨ad.block, ad.off + 4, none⟩) L.length (c2 - 1))) W.heap.size v T from row_keep HS3.out.row fun g hg => HOs.block g (HS3.out.row.lt g hg).2 (by have := (HS3.out.row.lt g hg).1; omega))
          have HF4 := Lib.hid (show Far v.ownBlock A1 (some ⟨ad.block, ad.off + 4, none⟩) H L from ⟨HF.out.h, by
            rcases HF.out.l with q | q
            · cases q
            · exact .inr fun a ha => by
                obtain ⟨a', e', ha'⟩ := hSAb a ha
                rw [ha']; exact q a' e'⟩)
          rw [HK.out] at HQ4 HO4 HX4 HR4 HN4
          have q4 := HQ3.out.e6
          have f4 := HQ3.out.fz 6
          simp only [List.length_cons] at q4
          rw [HK.out] at q4
          clear HS3 HQ3 HX3 HOs hls4 HF HZ
          go_upto_region 9 with fail
          generalize w3.setCell ⟨b, 6, none⟩ (.slice (some ⟨ad.block, ad.off + 4, none⟩) k (c2 - 1)) = w4 at *
          clear q4 f4
          cases ii
          · have HSe := Lib.hid (fun (wi : World) (hb : Below w4.heap.size w4 wi) => Hs.rset_row (HQ4.out.h.below hb) (by omega) tx m)
            have b0 := HX4.out.b0
            have b1 := HX4.out.b1
            have b3 := HX4.out.b3
            simp only at b0 b1 b3
            have y5 := HQ4.out.e5
            have f5 := HQ4.out.fz 5
            go_wp2_with fail
            go_region_law (first | (go_simp; go_at_call 106; refine (HSe.out _ (Below.refl _ _).drew).mono ?_; rintro e wa ⟨B1, d1, rfl, hrw1, hba⟩; have hbb := undrew hba; have HQa := Lib.hid (HQ4.out.below hbb); have ja := HQa.out.e5; have jb := HQa.out.fz 5))
            all_goals
              have HQ5 := Lib.hid (HQa.out.set5 hrw1.lsv)
              have HOs := OnlyS.set b 5 wa (.slice B1 (Hs.setL tx m H).length d1)
              have HN5 := Lib.hid ((HN4.out.then hbb).trans (HQa.out.nb5 (.slice B1 (Hs.setL tx m H).length d1)))
              have HZ5 := Lib.hid (And.intro (show Frb W.heap.size Z1 B1 (grantH (tx, m, cv, false) H) from Frb.new fun a ha => Nat.le_trans HO4.out.size (hrw1.far a ha)) HZ4.out.2)
              have HO5 := Lib.hid ((HO4.out.trans (OnlyS.of_below hbb)).trans HOs)
              have HX5 := Lib.hid ((HX4.out.below hbb).only HOs hKb)
              have HR5 := Lib.hid (show Ws.Row (wa.setCell ⟨b, 5, none⟩ (.slice B1 (Hs.setL tx m H).length d1)) W.heap.size v T from row_keep (row_below HR4.out hbb) fun g hg => HOs.block g ((row_below HR4.out hbb).lt g hg).2 (by have := (HR4.out.lt g hg).1; omega))
              have HF5 := Lib.hid (show Far v.ownBlock B1 (some ⟨ad.block, ad.off + 4, none⟩) (grantH (tx, m, cv, false) H) L from HF4.out.hold (w := w4) (fun g hg => (HR4.out.lt g hg).2) (.inr fun a ha => hrw1.far a ha))
              replace HQ5 := Lib.hid (show RAt _ b p B1 d1 (some ⟨ad.block, ad.off + 4, none⟩) (c2 - 1) (grantH (tx, m, cv, false) H) L from HQ5.out)
              clear hba hbb hrw1 HQa ja jb HOs b0 b1 b3 y5 f5 HSe
              generalize wa.setCell ⟨b, 5, none⟩ (.slice B1 (Hs.setL tx m H).length d1) = w5 at *
              have hx := box_below w5 (.cells #[.int .i64 tx, .int .i64 m, .bool cv, .bool false] 54)
              obtain ⟨v', w6, hrun, hrow, hgr, how⟩ := Ws.Row.app (Ws.Row.keep HR5.out (fun g hg => hx.block g (HR5.out.lt g hg).2)) (Ws.box_ls w5 (tx, m, cv, false)) (by simp; have := HP.out.2.1; omega) (Nat.le_trans HO5.out.size hx.size) 67
              have HG6 := Lib.hid (show Sw W b p Z1 Z2 X (j + 1) (grantH (tx, m, cv, false) H) L (T ++ [(tx, m, cv, false)]) v' w6 from
                ⟨⟨B1, d1, some ⟨ad.block, ad.off + 4, none⟩, c2 - 1, rgrown_at (HQ5.out.below hx) hgr HF5.out (fun e => by have := (HR5.out.lt b e).1; omega), by
                    rcases how with e | e
                    · rw [e]; exact HF5.out
                    · exact Far.lists (HQ5.out.below hx).h (HQ5.out.below hx).l (fun g hg => by rw [e] at hg; cases hg; exact Nat.le_refl _), HZ5.out.1, HZ5.out.2⟩, hrow, (HN5.out.then hx).grown hgr (fun g hg => (HR5.out.lt g hg).1),
                 (HO5.out.trans (OnlyS.of_below hx)).grown hgr (fun g hg => .inr (HR5.out.lt g hg).1), by rw [HK.out]; have := HGl.out; have := HP.out.1; omega, by rw [HK.out, List.length_append]; have := HP.out.2.1; simp; omega, by rw [HK.out]; have := HP.out.2.2.1; omega, by rw [HP.out.2.2.2, List.append_assoc]; rfl⟩)
              have b0 := HX5.out.b0
              have b1 := HX5.out.b1
              have b2 := HX5.out.b2
              have b3 := HX5.out.b3
              simp only at b0 b1 b2 b3 hrun
              clear hrow hgr how hx HR5 HO5 HQ5 HX5 HF5 HN5 HZ5
              go_wp2_with (at_builtin; refine Lib.wpList_append_run _ rfl _ _ _ _ rfl _ _ rfl rfl _ _ hrun ?_)
              go_roundw
              case rel => exact ⟨j + 1, _, _, _, _, by go_num, rfl, HG6.out⟩
              case measure => simp [intOf]; omega
          · have HQ5 := Lib.hid (show RAt w4 b p A1 c1 (some ⟨ad.block, ad.off + 4, none⟩) (c2 - 1) (grantH (tx, m, cv, true) H) L from HQ4.out)
            have HF5 := Lib.hid (show Far v.ownBlock A1 (some ⟨ad.block, ad.off + 4, none⟩) (grantH (tx, m, cv, true) H) L from HF4.out)
            have HX5 := HX4
            have HR5 := HR4
            have HO5 := HO4
            have HN5 := HN4
            have HZ5 := HZ4
            obtain ⟨w5, rfl⟩ : ∃ w5, w5 = w4 := ⟨_, rfl⟩
            obtain ⟨B1, rfl⟩ : ∃ B1, B1 = A1 := ⟨_, rfl⟩
            obtain ⟨d1, rfl⟩ : ∃ d1, d1 = c1 := ⟨_, rfl⟩
            clear HQ4 HF4 HX4 HR4 HO4 HN4 HZ4
            have b3 := HX5.out.b3
            simp only at b3
            have hx := box_below w5 (.cells #[.int .i64 tx, .int .i64 m, .bool cv, .bool true] 54)
            obtain ⟨v', w6, hrun, hrow, hgr, how⟩ := Ws.Row.app (Ws.Row.keep HR5.out (fun g hg => hx.block g (HR5.out.lt g hg).2)) (Ws.box_ls w5 (tx, m, cv, true)) (by simp; have := HP.out.2.1; omega) (Nat.le_trans HO5.out.size hx.size) 67
            have HG6 := Lib.hid (show Sw W b p Z1 Z2 X (j + 1) (grantH (tx, m, cv, true) H) L (T ++ [(tx, m, cv, true)]) v' w6 from
              ⟨⟨B1, d1, some ⟨ad.block, ad.off + 4, none⟩, c2 - 1, rgrown_at (HQ5.out.below hx) hgr HF5.out (fun e => by have := (HR5.out.lt b e).1; omega), by
                  rcases how with e | e
                  · rw [e]; exact HF5.out
                  · exact Far.lists (HQ5.out.below hx).h (HQ5.out.below hx).l (fun g hg => by rw [e] at hg; cases hg; exact Nat.le_refl _), HZ5.out.1, HZ5.out.2⟩, hrow, (HN5.out.then hx).grown hgr (fun g hg => (HR5.out.lt g hg).1),
               (HO5.out.trans (OnlyS.of_below hx)).grown hgr (fun g hg => .inr (HR5.out.lt g hg).1), by rw [HK.out]; have := HGl.out; have := HP.out.1; omega, by rw [HK.out, List.length_append]; have := HP.out.2.1; simp; omega, by rw [HK.out]; have := HP.out.2.2.1; omega, by rw [HP.out.2.2.2, List.append_assoc]; rfl⟩)
            have b0 := HX5.out.b0
            have b1 := HX5.out.b1
            have b2 := HX5.out.b2
            have b3 := HX5.out.b3
            simp only at b0 b1 b2 b3 hrun
            clear hrow hgr how hx HR5 HO5 HQ5 HX5 HF5 HN5 HZ5
            go_wp2_with (at_builtin; refine Lib.wpList_append_run _ rfl _ _ _ _ rfl _ _ rfl rfl _ _ hrun ?_)
            go_roundw
            case rel => exact ⟨j + 1, _, _, _, _, by go_num, rfl, HG6.out⟩
            case measure => simp [intOf]; omega
end
end Go.Proofs.YtjhkejkdnjogiaaGreatDoor
