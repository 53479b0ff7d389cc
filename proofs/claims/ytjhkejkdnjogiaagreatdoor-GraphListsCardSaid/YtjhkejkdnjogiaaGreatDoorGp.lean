/- The walk of the law that any edges come out in order, with their numbers, and those of one. -/
import Derived.Test.YtjhkejkdnjogiaaGreatDoorAw
import Derived.Test.YtjhkejkdnjogiaaGreatDoorGl
import Derived.Test.YtjhkejkdnjogiaaGreatDoorGn
namespace Go.Proofs.YtjhkejkdnjogiaaGreatDoor
open Go Go.RowKit Go.Shelf
set_option maxRecDepth 100000

theorem lists_long (A : Option Addr) (n c : Nat) (tx : Int) (w : World) (ht : TabG w) (hm : n ≤ maxLen) (h : 60 < n) :
    Calls Tryz.prog 4 #[.slice A n c, .int .i64 tx] w fun e w' => e = .returned (.bool true) ∧ Below w.heap.size w w' := by
  unfold maxLen at hm
  have HA := Lib.hid (awake_any w ht)
  have q1 : (60 : Int) < (n : Int) := by omega
  have q1' : decide ((60 : Int) < (n : Int)) = true := by simp; omega
  clear ht h
  go_enter Tryz.func4, Tryz.ntmps4
  go_wp2_with fail
  refine HA.out.mono ?_
  rintro e w1 ⟨rfl, hb1⟩
  go_wp2_with fail
  go_ret
  exact ⟨rfl, hb1⟩
theorem can_pair {l : List Es.Ed} {s : List Es.Ed} (hs : Od.can Es.lessE l = s) {i : Nat} (h0 : 0 < i) (hi : i < s.length) : Es.lessE s[i - 1] s[i] = true ∧ Es.lessE s[i] s[i - 1] = false := by
  subst hs
  have h := List.pairwise_iff_getElem.1 (Od.can_asc Es.ordE l) (i - 1) i (by omega) hi (by omega)
  refine ⟨h, ?_⟩
  cases e : Es.lessE (Od.can Es.lessE l)[i] (Od.can Es.lessE l)[i - 1]
  · rfl
  · have := Es.ordE.tr _ _ _ h e
    rw [Es.ordE.irr] at this
    cases this
set_option maxHeartbeats 8000000 in
theorem lists_walk (A : Option Addr) (n c : Nat) (l : List Es.Ed) (tx : Int) (w : World) (ht : TabG w) (hm : n ≤ maxLen) (hn : l.length = n) (hl : Es.Ls w A c l) :
    Calls Tryz.prog 4 #[.slice A n c, .int .i64 tx] w fun e w' => e = .returned (.bool true) ∧ Below w.heap.size w w' := by
  by_cases h60 : 60 < n
  · exact lists_long A n c tx w ht hm h60
  have HA := Lib.hid (awake_any w ht)
  have HL := Lib.hid hl
  have HN := Lib.hid hn
  have q1 : ¬ (60 : Int) < (n : Int) := by omega
  have q1' : decide ((60 : Int) < (n : Int)) = false := by simp; omega
  clear ht hl hn hm
  go_enter Tryz.func4, Tryz.ntmps4
  go_wp2_with fail
  refine HA.out.mono ?_
  rintro e w1 ⟨rfl, hb1⟩
  have HL1 := Lib.hid (HL.out.below hb1)
  have HB1 := Lib.hid hb1
  have HS := Lib.hid (Es.sort_any HL1.out (by rw [HN.out]; omega))
  rw [HN.out] at HS
  clear hb1 HA HL
  go_wp2_with fail
  refine HS.out.mono ?_
  rintro e w2 ⟨v, rfl, hrow, hb2⟩
  obtain ⟨A5, c5, rfl, hls5⟩ := hrow.ls
  have hA5 : A5 = none ∨ ∃ g, A5 = some ⟨g, 0, none⟩ := by
    rcases hrow.2 with ⟨h0, _⟩ | ⟨g, cap, cur, e, _⟩
    · injection h0 with h1; exact .inl h1
    · injection e with h1; exact .inr ⟨g, h1⟩
  have HA5 := Lib.hid hA5
  obtain ⟨s, hs⟩ : ∃ s, Od.can Es.lessE l = s := ⟨_, rfl⟩
  have hsl : s.length ≤ 60 := by
    rw [← hs]
    refine Nat.le_trans (Od.can_len _) ?_
    rw [HN.out]
    omega
  rw [hs] at hls5 ⊢
  have HSe := Lib.hid hs
  obtain ⟨m, hmm⟩ : ∃ m, s.length = m := ⟨_, rfl⟩
  have HM := Lib.hid hmm
  have HL2 := Lib.hid (HL1.out.below hb2)
  have HL5 := Lib.hid hls5
  have HB2 := Lib.hid (HB1.out.trans (hb2.mono HB1.out.size))
  rw [hmm] at hsl ⊢
  clear hrow hb2 hls5 hs hmm HS HL1 HB1 hA5
  go_wp2_with fail
  go_loopw [16] (fun t wr => ∃ i : Nat, i ≤ m ∧ t = .int .i64 i ∧ Below w2.heap.size w2 wr) (fun t _ => m - (intOf t).toNat)
  case atStart => exact ⟨0, Nat.zero_le _, rfl, Below.refl _ _⟩
  case round =>
    obtain ⟨i, hi, rfl, hb⟩ := hrel
    have HB := Lib.hid hb
    clear hb
    by_cases him : i < m
    · by_cases h0 : i = 0
      · subst h0
        go_wp2_with fail
        refine Pa.wp_region_later wr (by kernel_rfl) (by kernel_rfl) (Below.refl _ _) ?_
        repeat (go_big_quiet_step (fail))
        refine wpQuiet_nil ?_
        intro w8 hw8
        have HB8 := Lib.hid (show Below w2.heap.size w2 w8 by
          obtain ⟨⟨x, hx⟩, rfl⟩ := hw8
          exact HB.out.trans (hx.mono HB.out.size))
        clear hw8
        go_wp2_with fail
        go_roundw
        case rel => exact ⟨1, by omega, by go_num, HB8.out⟩
        case measure => simp [intOf]; omega
      · have his : i < s.length := by rw [HM.out]; exact him
        obtain ⟨p1, p2⟩ := can_pair HSe.out (i := i) (by omega) his
        obtain ⟨a1, ha1, e0, e1⟩ := (HL5.out.below HB.out).here his
        obtain ⟨a2, ha2, d0, d1⟩ := (HL5.out.below HB.out).here (i := i - 1) (by omega)
        rw [ha1] at ha2
        cases ha2
        rcases HA5.out with q | ⟨g, rfl⟩
        · rw [q] at ha1
          cases ha1
        cases ha1
        simp only [add_at] at e0 e1 d0 d1
        obtain ⟨x, hx⟩ : ∃ x, s[i] = x := ⟨_, rfl⟩
        obtain ⟨y, hy⟩ : ∃ y, s[i - 1]'(by omega) = y := ⟨_, rfl⟩
        rw [hx] at e0 e1 p1 p2
        rw [hy] at d0 d1 p1 p2
        have g1 : Pa.Gives wr 16 #[Es.wv y, Es.wv x] (.bool true) := fun w' hb => acc hb (by rw [← p1]; exact (Es.less_any y x w').mono fun _ _ ⟨he, hb⟩ => ⟨he, hb.bel⟩)
        have g2 : Pa.Gives wr 16 #[Es.wv x, Es.wv y] (.bool false) := fun w' hb => acc hb (by rw [← p2]; exact (Es.less_any x y w').mono fun _ _ ⟨he, hb⟩ => ⟨he, hb.bel⟩)
        have hal : g < wr.heap.size := cell_lt e0
        obtain ⟨x1, x2⟩ := x
        obtain ⟨y1, y2⟩ := y
        simp only at e0 e1 d0 d1
        clear hx hy p1 p2 his
        have hi0 : (0 : Int) < (i : Int) := by omega
        have hi1 : 0 < i := by omega
        have hi2 : decide ((0 : Int) < (i : Int)) = true := by simp; omega
        have hi3 : 1 ≤ i := by omega
        go_wp2_with fail
        refine Pa.wp_region_later wr (by kernel_rfl) (by kernel_rfl) (Below.refl _ _) ?_
        repeat (go_big_quiet_step (((first | go_at_call 16); exact Pa.Gives.later (by with_reducible assumption))))
        refine wpQuiet_nil ?_
        intro w8 hw8
        have HB8 := Lib.hid (show Below w2.heap.size w2 w8 by
          obtain ⟨⟨x, hx⟩, rfl⟩ := hw8
          exact HB.out.trans (hx.mono HB.out.size))
        clear hw8 e0 e1 d0 d1 g1 g2
        go_wp2_with fail
        go_roundw
        case rel => exact ⟨i + 1, by omega, by go_num, HB8.out⟩
        case measure => simp [intOf]; omega
    · obtain rfl : i = m := by omega
      have hb := HB.out
      have HL3 := Lib.hid (HL2.out.below hb)
      have HL6 := Lib.hid (HL5.out.below hb)
      have HB3 := Lib.hid (HB2.out.trans (hb.mono HB2.out.size))
      have HE := Lib.hid (show Od.can Es.lessE s = s by rw [← HSe.out]; exact Od.can_self Es.ordE (Od.can_asc Es.ordE l))
      have hfl : (fromL tx l).length ≤ 60 := by have := fromL_len tx l; have := HN.out; omega
      have hnl : (nodesL l).length ≤ 120 := by have := nodesL_len l; have := HN.out; omega
      have R17 := Lib.hid (Es.rsort_any HL3.out (by rw [HN.out]; omega))
      have R15 := Lib.hid (fun (x : World) (hx : Below wr.heap.size wr x) => Es.sort_any (HL6.out.below hx) (by rw [HM.out]; omega))
      have R19 := Lib.hid (fun (x : World) (hx : Below wr.heap.size wr x) => from_any (HL3.out.below hx) (by rw [HN.out]; omega) tx)
      have R20 := Lib.hid (fun (x : World) (hx : Below wr.heap.size wr x) => rfrom_any (HL3.out.below hx) (by rw [HN.out]; omega) tx)
      have R21 := Lib.hid (fun (x : World) (hx : Below wr.heap.size wr x) => nodes_any (HL3.out.below hx) (by rw [HN.out]; omega))
      have R22 := Lib.hid (fun (x : World) (hx : Below wr.heap.size wr x) => rnodes_any (HL3.out.below hx) (by rw [HN.out]; omega))
      rw [HN.out] at R17 R19 R20 R21 R22
      rw [HM.out, HE.out] at R15
      rw [HSe.out] at R17
      have hfc := Od.can_len (lt := Is.ltI) (fromL tx l)
      have hnc := Od.can_len (lt := Is.ltI) (nodesL l)
      generalize Od.can Is.ltI (fromL tx l) = f at *
      generalize Od.can Is.ltI (nodesL l) = g at *
      obtain ⟨fn, hfn⟩ : ∃ k, f.length = k := ⟨_, rfl⟩
      obtain ⟨gn, hgn⟩ : ∃ k, g.length = k := ⟨_, rfl⟩
      have FN := Lib.hid hfn
      have GN := Lib.hid hgn
      rw [hfn] at hfc
      rw [hgn] at hnc
      clear hb HB HL5 HL2 HE hfn hgn
      go_wp2_with fail
      refine R17.out.mono ?_
      rintro e w4 ⟨v4, rfl, hr4, hb4⟩
      obtain ⟨A4, c4, rfl, hls4⟩ := hr4.ls
      have HSm := Lib.hid (Es.same_any (HL6.out.below hb4) hls4 (by rw [HM.out]; omega))
      rw [HM.out] at HSm ⊢
      have HB4 := Lib.hid hb4
      clear hr4 hb4 hls4 R17
      go_wp2_with fail
      refine HSm.out.mono ?_
      rintro e w5 ⟨rfl, hb5⟩
      have HB5 := Lib.hid (HB4.out.trans (hb5.mono HB4.out.size))
      have R15' := Lib.hid (R15.out _ HB5.out)
      clear hb5 HSm HB4 R15
      go_wp2_with fail
      refine R15'.out.mono ?_
      rintro e w6 ⟨v6, rfl, hr6, hb6⟩
      obtain ⟨A6, c6, rfl, hls6⟩ := hr6.ls
      have HB6 := Lib.hid (HB5.out.trans (hb6.mono HB5.out.size))
      have HSm := Lib.hid (Es.same_any hls6 (HL6.out.below HB6.out) (by rw [HM.out]; omega))
      rw [HM.out] at HSm ⊢
      clear hr6 hb6 hls6 R15' HB5
      go_wp2_with fail
      refine HSm.out.mono ?_
      rintro e w7 ⟨rfl, hb7⟩
      have HB7 := Lib.hid (HB6.out.trans (hb7.mono HB6.out.size))
      have R19' := Lib.hid (R19.out _ HB7.out)
      clear hb7 HSm HB6 R19
      go_wp2_with fail
      refine R19'.out.mono ?_
      rintro e w8 ⟨v8, rfl, hr8, hb8⟩
      obtain ⟨A8, c8, rfl, hls8⟩ := hr8.ls
      have HB8 := Lib.hid (HB7.out.trans (hb8.mono HB7.out.size))
      have HLs8 := Lib.hid hls8
      have R20' := Lib.hid (R20.out _ HB8.out)
      rw [FN.out]
      clear hr8 hb8 hls8 R19' HB7 R20
      go_wp2_with fail
      refine R20'.out.mono ?_
      rintro e w9 ⟨v9, rfl, hr9, hb9⟩
      obtain ⟨A9, c9, rfl, hls9⟩ := hr9.ls
      have HB9 := Lib.hid (HB8.out.trans (hb9.mono HB8.out.size))
      have HSm := Lib.hid (Is.same_any (HLs8.out.below hb9) hls9 (by rw [FN.out]; omega))
      rw [FN.out] at HSm ⊢
      clear hr9 hb9 hls9 R20' HB8 HLs8
      go_wp2_with fail
      refine HSm.out.mono ?_
      rintro e wa ⟨rfl, hba⟩
      have HBa := Lib.hid (HB9.out.trans (hba.mono HB9.out.size))
      have R21' := Lib.hid (R21.out _ HBa.out)
      clear hba HSm HB9 R21
      go_wp2_with fail
      refine R21'.out.mono ?_
      rintro e wb ⟨vb, rfl, hrb, hbb⟩
      obtain ⟨Ab, cb, rfl, hlsb⟩ := hrb.ls
      have HBb := Lib.hid (HBa.out.trans (hbb.mono HBa.out.size))
      have HLsb := Lib.hid hlsb
      have R22' := Lib.hid (R22.out _ HBb.out)
      rw [GN.out]
      clear hrb hbb hlsb R21' HBa R22
      go_wp2_with fail
      refine R22'.out.mono ?_
      rintro e wc ⟨vc, rfl, hrc, hbc⟩
      obtain ⟨Ac, cc, rfl, hlsc⟩ := hrc.ls
      have HBc := Lib.hid (HBb.out.trans (hbc.mono HBb.out.size))
      have HSm := Lib.hid (Is.same_any (HLsb.out.below hbc) hlsc (by rw [GN.out]; omega))
      rw [GN.out] at HSm ⊢
      clear hrc hbc hlsc R22' HBb HLsb
      go_wp2_with fail
      refine HSm.out.mono ?_
      rintro e wd ⟨rfl, hbd⟩
      have HBd := Lib.hid (HB3.out.trans ((HBc.out.trans (hbd.mono HBc.out.size)).mono HB3.out.size))
      clear hbd HSm HBc
      go_wp2_with fail
      go_ret
      exact ⟨rfl, HBd.out⟩
end Go.Proofs.YtjhkejkdnjogiaaGreatDoor
