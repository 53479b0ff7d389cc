/- The walk of GrowDoes. -/
import Derived.Test.YthjlapcccmbhbaaYk
import Derived.Test.YthjlapcccmbhbaaXa
namespace Go.Proofs.Ythjlapcccmbhbaa.Lk
open Go Go.RowKit Go.Shelf Pa
set_option maxRecDepth 100000

theorem aft_snoc (p : Pt) (zs : List Hd) (y : Hd) : (zs ++ [y]).filter (fun k => !(belB k.1 p)) = zs.filter (fun k => !(belB k.1 p)) ++ if belB y.1 p then [] else [y] := by
  rw [List.filter_append]
  cases h : belB y.1 p <;> simp [h]
section
variable {W W' : World} {A : Option Addr} {c : Nat} {xs : List Hd}
set_option maxHeartbeats 4000000 in
theorem rafter_any (hr : Ls W A c xs) (hl : xs.length ≤ 300) (x : Hd) : Calls Try.prog 18 #[.slice A xs.length c, wv x] W (Lists W (aftL xs x)) := by
  have hx := Go.Proofs.Ythjlapcccmbhbaa.box_below W (.cells #[.int .i64 x.1.a, .int .i64 x.1.b, .int .i64 x.1.c, .int .i64 x.1.d, .int .i64 x.1.e, .int .i64 x.2] 27)
  have HWi := Lib.hid (rwith_any (hr.below hx) (by omega) x)
  have HLk := Lib.hid (LkAt.new W x)
  have HX := Lib.hid hx
  have hw1 := with_len x xs
  have HAf : Hid ((withL xs x).filter (fun k => !(belB k.1 x.1)) = aftL xs x) := rfl
  obtain ⟨zs, hzs⟩ : ∃ zs, withL xs x = zs := ⟨_, rfl⟩
  obtain ⟨us, hus⟩ : ∃ us, aftL xs x = us := ⟨_, rfl⟩
  rw [hzs] at HWi hw1 HAf
  rw [hus] at HAf ⊢
  obtain ⟨n, hn⟩ : ∃ n, xs.length = n := ⟨_, rfl⟩
  rw [hn] at HWi hl hw1 ⊢
  clear hr hx hn hzs hus
  obtain ⟨⟨xa, xb, xc, xd, xe⟩, xm⟩ := x
  simp only at HWi HLk HX HAf
  go_enter Try.func18, Try.ntmps18
  go_wp2_with fail
  refine HWi.out.mono ?_
  rintro e1 w1 ⟨A1, c1, rfl, hls1, hb1⟩
  have HR := Lib.hid hls1
  have HB1 := Lib.hid (thenCall HX.out hb1)
  have HLk1 := Lib.hid (LkAt.later HLk.out hb1)
  clear hls1 hb1
  obtain ⟨m, hm⟩ : ∃ m, zs.length = m := ⟨_, rfl⟩
  have HM := Lib.hid hm
  rw [hm] at hw1 ⊢
  clear hm
  go_wp2_with fail
  go_loopw [5, 12] (fun l i wr => ∃ k : Nat, k ≤ m ∧ i = .int .i64 (k : Nat) ∧ Row wr w1.heap.size l ((zs.take k).filter (fun k => !(belB k.1 ⟨xa, xb, xc, xd, xe⟩))) ∧ Below w1.heap.size w1 wr) (fun _ i _ => m - (intOf i).toNat)
  case atStart => exact ⟨0, by omega, rfl, World.ownsRow_nil _ _ _ _, Below.refl _ _⟩
  case round =>
    obtain ⟨k, hk, rfl, hrow, hb⟩ := hrel
    have HRow := Lib.hid hrow
    have HB := Lib.hid hb
    clear hrow hb
    by_cases hlt : k < m
    · have i1 : (0 : Int) ≤ (k : Int) := by omega
      have i2 : (k : Int) < (m : Int) := by omega
      have hkl : k < zs.length := by rw [HM.out]; exact hlt
      obtain ⟨a, rfl, hh⟩ := (HR.out.below HB.out).here hkl
      obtain ⟨y, hy⟩ : ∃ y, zs[k] = y := ⟨_, rfl⟩
      rw [hy] at hh
      have HT : Hid ((zs.take (k + 1)).filter (fun k => !(belB k.1 ⟨xa, xb, xc, xd, xe⟩)) = (zs.take k).filter (fun k => !(belB k.1 ⟨xa, xb, xc, xd, xe⟩)) ++ if belB y.1 ⟨xa, xb, xc, xd, xe⟩ then [] else [y]) := by
        unfold Hid
        rw [List.take_succ_eq_append_getElem hkl, hy, aft_snoc]
      have hlen := List.length_filter_le (fun k : Hd => !(belB k.1 ⟨xa, xb, xc, xd, xe⟩)) (zs.take k)
      rw [List.length_take] at hlen
      clear hy
      obtain ⟨c0, c1', c2, c3, c4, c5⟩ := hh
      have HBx := Lib.hid (Go.Proofs.Ythjlapcccmbhbaa.box_below wr (.cells #[.int .i64 y.1.a, .int .i64 y.1.b, .int .i64 y.1.c, .int .i64 y.1.d, .int .i64 y.1.e, .int .i64 y.2] 27))
      have HYx := Lib.hid (LkAt.new wr y)
      have HC := Lib.hid (fun w => rwithin_list y.1 ⟨xa, xb, xc, xd, xe⟩ w)
      simp only [wi_any] at HC
      have HBel : Hid (belB y.1 ⟨xa, xb, xc, xd, xe⟩ = (!(eqP y.1 ⟨xa, xb, xc, xd, xe⟩) && wiB y.1 ⟨xa, xb, xc, xd, xe⟩)) := rfl
      rw [HBel.out] at HT
      obtain ⟨wi, hwi⟩ : ∃ wi, wiB y.1 ⟨xa, xb, xc, xd, xe⟩ = wi := ⟨_, rfl⟩
      rw [hwi] at HT
      simp only [hwi] at HC
      obtain ⟨d0, d1, d2, d3, d4, d5, dlt⟩ := (HLk1.out.later HB.out).later HBx.out
      simp only at d0 d1 d2 d3 d4 d5 dlt
      have hlt2 := (HLk1.out.later HB.out).lt
      have hne : ¬ W.heap.size = wr.heap.size := Nat.ne_of_lt hlt2
      obtain ⟨⟨ya, yb, yc, yd, ye⟩, ym⟩ := y
      simp only at c0 c1' c2 c3 c4 c5 HBx HYx HC HT
      clear hwi HBel
      cases he : eqP ⟨ya, yb, yc, yd, ye⟩ ⟨xa, xb, xc, xd, xe⟩
      · have HE := Lib.hid he
        have HT2 := Lib.hid HT.out
        rw [he, Bool.not_false, Bool.true_and] at HT2
        clear HT
        go_wp2_with fail
        refine (HC.out _).mono ?_
        rintro e2 w2 ⟨rfl, hb2⟩
        obtain ⟨f0, f1, f2, f3, f4, f5, flt⟩ := HYx.out.later hb2
        have HB2 := Lib.hid (thenCall (thenCall HB.out HBx.out) hb2)
        have HRow2 := Lib.hid (row_below (row_below HRow.out HBx.out) hb2)
        simp only at f0 f1 f2 f3 f4 f5 flt
        clear hb2 c0 c1' c2 c3 c4 c5 d0 d1 d2 d3 d4 d5 HYx HC HBx
        cases wi
        · have hb3 := Go.Proofs.Ythjlapcccmbhbaa.box_below w2 (.cells #[.int .i64 ya, .int .i64 yb, .int .i64 yc, .int .i64 yd, .int .i64 ye, .int .i64 ym] 27)
          have hrow3 := row_below HRow2.out hb3
          have hle3 : w1.heap.size ≤ (w2.alloc (.cells #[.int .i64 ya, .int .i64 yb, .int .i64 yc, .int .i64 yd, .int .i64 ye, .int .i64 ym] 27)).heap.size := Nat.le_trans HB2.out.size hb3.size
          obtain ⟨v', w9, hrun, hrow9, hg9, -⟩ := Row.app hrow3 (box_ls w2 (⟨ya, yb, yc, yd, ye⟩, ym)) (by simp; omega) hle3 22
          have HB9 := Lib.hid ((thenCall HB2.out hb3).trans (Row.app_below hrow3 hg9 hle3))
          have HRow9 := Lib.hid hrow9
          clear hrow3 hrow9 hg9 hle3 hb3
          go_wp2_with (at_builtin; refine Lib.wpList_append_run _ rfl _ _ _ _ rfl _ _ rfl rfl _ _ hrun ?_)
          go_roundw
          case rel => exact ⟨k + 1, by omega, by go_num, by rw [HT2.out]; exact HRow9.out, HB9.out⟩
          case measure => simp [intOf]; omega
        · go_wp2_with fail
          go_roundw
          case rel => exact ⟨k + 1, by omega, by go_num, by rw [HT2.out]; simpa using HRow2.out, HB2.out⟩
          case measure => simp [intOf]; omega
      · have HE := Lib.hid he
        have HT2 := Lib.hid HT.out
        rw [he, Bool.not_true, Bool.false_and] at HT2
        clear HT HC
        obtain ⟨w2, hw2⟩ : ∃ w2, wr.alloc (.cells #[.int .i64 ya, .int .i64 yb, .int .i64 yc, .int .i64 yd, .int .i64 ye, .int .i64 ym] 27) = w2 := ⟨_, rfl⟩
        have hB2 := thenCall HB.out HBx.out
        have hR2 := row_below HRow.out HBx.out
        rw [hw2] at hB2 hR2
        have hb3 := Go.Proofs.Ythjlapcccmbhbaa.box_below w2 (.cells #[.int .i64 ya, .int .i64 yb, .int .i64 yc, .int .i64 yd, .int .i64 ye, .int .i64 ym] 27)
        have hrow3 := row_below hR2 hb3
        have hle3 : w1.heap.size ≤ (w2.alloc (.cells #[.int .i64 ya, .int .i64 yb, .int .i64 yc, .int .i64 yd, .int .i64 ye, .int .i64 ym] 27)).heap.size := Nat.le_trans hB2.size hb3.size
        obtain ⟨v', w9, hrun, hrow9, hg9, -⟩ := Row.app hrow3 (box_ls w2 (⟨ya, yb, yc, yd, ye⟩, ym)) (by simp; omega) hle3 22
        have HB9 := Lib.hid ((thenCall hB2 hb3).trans (Row.app_below hrow3 hg9 hle3))
        have HRow9 := Lib.hid hrow9
        rw [show w2.heap.size = wr.heap.size + 1 by rw [← hw2]; simp, ← hw2] at hrun
        clear hrow3 hrow9 hg9 hle3 hb3 hB2 hR2 hw2
        go_wp2_with (at_builtin; refine Lib.wpList_append_run _ rfl _ _ _ _ rfl _ _ rfl rfl _ _ hrun ?_)
        go_roundw
        case rel => exact ⟨k + 1, by omega, by go_num, by rw [HT2.out]; exact HRow9.out, HB9.out⟩
        case measure => simp [intOf]; omega
    · obtain rfl : k = m := by omega
      have HTk : Hid (zs.take k = zs) := List.take_of_length_le (Nat.le_of_eq HM.out)
      rw [HTk.out, HAf.out] at HRow
      obtain ⟨A', c', rfl, hls⟩ := HRow.out.ls
      have HLs := Lib.hid hls
      clear hls HRow
      go_wp2_with fail
      go_ret
      exact ⟨A', c', rfl, HLs.out, HB1.out.trans (HB.out.mono HB1.out.size)⟩
end
end Go.Proofs.Ythjlapcccmbhbaa.Lk
namespace Go.Proofs.Ythjlapcccmbhbaa.Lk
open Go Go.RowKit Go.Shelf Pa
set_option maxRecDepth 100000

/-- a lock in a box, cell by cell -/
abbrev C6 (B : Nat) (xa xb xc xd xe xm : Int) (w : World) : Prop :=
  w.cell? ⟨B, 0, none⟩ = some (.int .i64 xa) ∧ w.cell? ⟨B, 1, none⟩ = some (.int .i64 xb) ∧ w.cell? ⟨B, 2, none⟩ = some (.int .i64 xc) ∧ w.cell? ⟨B, 3, none⟩ = some (.int .i64 xd) ∧ w.cell? ⟨B, 4, none⟩ = some (.int .i64 xe) ∧ w.cell? ⟨B, 5, none⟩ = some (.int .i64 xm)
abbrev SG (B C D E : Nat) (ua ub uc ud ue xa xb xc xd xe xm la lb lc ld le lm : Int) (w1 w' : World) : Prop :=
  w'.cell? ⟨B, 0, none⟩ = some (.int .i64 ua) ∧ w'.cell? ⟨B, 1, none⟩ = some (.int .i64 ub) ∧ w'.cell? ⟨B, 2, none⟩ = some (.int .i64 uc) ∧ w'.cell? ⟨B, 3, none⟩ = some (.int .i64 ud) ∧ w'.cell? ⟨B, 4, none⟩ = some (.int .i64 ue) ∧
  w'.cell? ⟨C, 0, none⟩ = some (.int .i64 xa) ∧ w'.cell? ⟨C, 1, none⟩ = some (.int .i64 xb) ∧ w'.cell? ⟨C, 2, none⟩ = some (.int .i64 xc) ∧ w'.cell? ⟨C, 3, none⟩ = some (.int .i64 xd) ∧ w'.cell? ⟨C, 4, none⟩ = some (.int .i64 xe) ∧ w'.cell? ⟨C, 5, none⟩ = some (.int .i64 xm) ∧
  w'.cell? ⟨D, 0, none⟩ = some (.int .i64 la) ∧ w'.cell? ⟨D, 1, none⟩ = some (.int .i64 lb) ∧ w'.cell? ⟨D, 2, none⟩ = some (.int .i64 lc) ∧ w'.cell? ⟨D, 3, none⟩ = some (.int .i64 ld) ∧ w'.cell? ⟨D, 4, none⟩ = some (.int .i64 le) ∧ w'.cell? ⟨D, 5, none⟩ = some (.int .i64 lm) ∧
  w'.cell? ⟨E, 0, none⟩ = some (.int .i64 la) ∧ w'.cell? ⟨E, 1, none⟩ = some (.int .i64 lb) ∧ w'.cell? ⟨E, 2, none⟩ = some (.int .i64 lc) ∧ w'.cell? ⟨E, 3, none⟩ = some (.int .i64 ld) ∧ w'.cell? ⟨E, 4, none⟩ = some (.int .i64 le) ∧ w'.cell? ⟨E, 5, none⟩ = some (.int .i64 lm) ∧
  Below w1.heap.size w1 w'
/-- what stands in the boxes ahead of the last test -/
structure G4 (B C D E : Nat) (u : Pt) (x l : Hd) (w : World) : Prop where
  gu : PtAt w B u
  gx : LkAt w C x
  gl : LkAt w D l
  gk : LkAt w E l
section
variable {B C D E : Nat} {ua ub uc ud ue xa xb xc xd xe xm la lb lc ld le lm : Int} {w1 w w' : World}
theorem sg_of (h : G4 B C D E ⟨ua, ub, uc, ud, ue⟩ (⟨xa, xb, xc, xd, xe⟩, xm) (⟨la, lb, lc, ld, le⟩, lm) w1) (hb : Below w1.heap.size w1 w') : SG B C D E ua ub uc ud ue xa xb xc xd xe xm la lb lc ld le lm w1 w' := by
  obtain ⟨a0, a1, a2, a3, a4, -⟩ := h.gu.later hb
  obtain ⟨b0, b1, b2, b3, b4, b5, -⟩ := h.gx.later hb
  obtain ⟨c0, c1, c2, c3, c4, c5, -⟩ := h.gl.later hb
  obtain ⟨d0, d1, d2, d3, d4, d5, -⟩ := h.gk.later hb
  exact ⟨a0, a1, a2, a3, a4, b0, b1, b2, b3, b4, b5, c0, c1, c2, c3, c4, c5, d0, d1, d2, d3, d4, d5, hb⟩
theorem sg_bel (h : SG B C D E ua ub uc ud ue xa xb xc xd xe xm la lb lc ld le lm w1 w') : Below w1.heap.size w1 w' := h.2.2.2.2.2.2.2.2.2.2.2.2.2.2.2.2.2.2.2.2.2.2.2
end
section
variable {W W' : World} {A : Option Addr} {c : Nat} {xs : List Hd}
set_option maxHeartbeats 16000000 in
theorem does_walk (hr : Ls W A c xs) (hf : ∀ x ∈ xs, FitP x.1 ∧ wf64 x.2) (p : Pt) (n : Int) (x : Hd) :
    Calls Try.prog 3 #[.slice A xs.length c, p.v, .int .i64 n, wv x] W fun e w' => e = .returned (.bool true) ∧ Below W.heap.size W w' := by
  have h1 := Go.Proofs.Ythjlapcccmbhbaa.box_below W (.cells #[.int .i64 p.a, .int .i64 p.b, .int .i64 p.c, .int .i64 p.d, .int .i64 p.e] 25)
  have h2 := Go.Proofs.Ythjlapcccmbhbaa.box_below (W.alloc (.cells #[.int .i64 p.a, .int .i64 p.b, .int .i64 p.c, .int .i64 p.d, .int .i64 p.e] 25)) (.cells #[.int .i64 x.1.a, .int .i64 x.1.b, .int .i64 x.1.c, .int .i64 x.1.d, .int .i64 x.1.e, .int .i64 x.2] 27)
  have HX0 := Lib.hid (h1.trans (h2.mono h1.size))
  have HP0 := Lib.hid ((PtAt.new W p.a p.b p.c p.d p.e).later h2)
  have HK0 := Lib.hid (LkAt.new (W.alloc (.cells #[.int .i64 p.a, .int .i64 p.b, .int .i64 p.c, .int .i64 p.d, .int .i64 p.e] 25)) x)
  rw [World.size_alloc] at HK0
  clear h1 h2
  by_cases h30 : xs.length ≤ 30
  · have HF := Lib.hid (fun w => few_any A xs.length c w)
    rw [decide_eq_true h30] at HF
    have HR := Lib.hid hr
    have HPi := Lib.hid (fun (w : World) (hb : Below W.heap.size W w) => pick_any (hr.below hb) h30 hf n)
    have HRp := Lib.hid (fun (w : World) (hb : Below W.heap.size W w) => rpick_any (hr.below hb) (by omega) n)
    have H30 := Lib.hid h30
    obtain ⟨m, hm⟩ : ∃ m, xs.length = m := ⟨_, rfl⟩
    rw [hm] at HF HPi HRp h30 ⊢
    have HM := Lib.hid hm
    clear hr hf hm
    obtain ⟨pa, pb, pc, pd, pe⟩ := p
    obtain ⟨⟨xa, xb, xc, xd, xe⟩, xm⟩ := x
    simp only at HX0 HP0 HK0
    go_enter Try.func3, Try.ntmps3
    go_wp2_with fail
    refine (awake_any _).mono ?_
    rintro e1 w1 ⟨rfl, hb1⟩
    have HB1 := Lib.hid (thenCall HX0.out hb1)
    have HP1 := Lib.hid (HP0.out.later hb1)
    have HK1 := Lib.hid (HK0.out.later hb1)
    clear hb1 HP0 HK0 HX0
    go_wp2_with fail
    refine (HF.out _).mono ?_
    rintro e2 w2 ⟨rfl, rfl⟩
    go_wp2_with fail
    refine (HPi.out _ HB1.out).mono ?_
    rintro e3 w3 ⟨l, b, rfl, hpi, hb3⟩
    have hx3 := Go.Proofs.Ythjlapcccmbhbaa.box_below w3 (.cells #[.int .i64 l.1.a, .int .i64 l.1.b, .int .i64 l.1.c, .int .i64 l.1.d, .int .i64 l.1.e, .int .i64 l.2] 27)
    have HB3 := Lib.hid (thenCall (thenCall HB1.out hb3) hx3)
    have HP3 := Lib.hid ((HP1.out.later hb3).later hx3)
    have HK3 := Lib.hid ((HK1.out.later hb3).later hx3)
    have HL3 := Lib.hid (LkAt.new w3 l)
    have HPI := Lib.hid hpi
    clear hb3 hx3 hpi HB1 HP1 HK1 HPi
    go_wp2_with fail
    refine (HRp.out _ HB3.out).mono ?_
    rintro e4 w4 ⟨l', b', rfl, hpi', hb4⟩
    obtain ⟨rfl, rfl⟩ := HPI.out.one hpi'
    have hx4 := Go.Proofs.Ythjlapcccmbhbaa.box_below w4 (.cells #[.int .i64 l.1.a, .int .i64 l.1.b, .int .i64 l.1.c, .int .i64 l.1.d, .int .i64 l.1.e, .int .i64 l.2] 27)
    have HB4 := Lib.hid (thenCall (thenCall HB3.out hb4) hx4)
    have HG : Hid (G4 _ _ _ _ _ _ l _) := ⟨(HP3.out.later hb4).later hx4, (HK3.out.later hb4).later hx4, (HL3.out.later hb4).later hx4, LkAt.new w4 l⟩
    obtain ⟨⟨la, lb, lc, ld, le⟩, lm⟩ := l
    simp only at HB4 HG
    have hself : eqH ((⟨la, lb, lc, ld, le⟩, lm) : Hd) (⟨la, lb, lc, ld, le⟩, lm) = true := eqH_self _
    clear hb4 hx4 hpi' HPI HB3 HP3 HK3 HL3 HRp HF
    go_wp2_with fail
    obtain ⟨w7, hw7⟩ : ∃ w7, w4.alloc (.cells #[.int .i64 la, .int .i64 lb, .int .i64 lc, .int .i64 ld, .int .i64 le, .int .i64 lm] 27) = w7 := ⟨_, rfl⟩
    rw [hw7] at HB4 HG ⊢
    clear hw7
    have mk : ∀ {f : Pt → Bool} {g : Nat} {args : Array Value}, (∀ w, Below W.heap.size W w → Calls Try.prog g args w (Picks w f xs)) → ∀ w, SG W.heap.size (W.heap.size + 1) w3.heap.size w4.heap.size pa pb pc pd pe xa xb xc xd xe xm la lb lc ld le lm w7 w → Calls Try.prog g args w fun e w' => ∃ ys A' c', e = .returned (.slice A' ys.length c') ∧ Bk (fitL f xs) ys ∧ ys.length ≤ 1000 ∧ Ls w' A' c' ys ∧ SG W.heap.size (W.heap.size + 1) w3.heap.size w4.heap.size pa pb pc pd pe xa xb xc xd xe xm la lb lc ld le lm w7 w' ∧ Below w.heap.size w w' := fun {f g args} h w hs => by
      refine (h w (thenCall HB4.out (sg_bel hs))).mono ?_
      rintro e w' ⟨ys, hbk, A', c', he, hls, hb⟩
      exact ⟨ys, A', c', he, hbk, by rw [hbk.len]; exact Nat.le_trans (fit_len _ _) (Nat.le_trans H30.out (by omega)), hls, sg_of HG.out (thenCall (sg_bel hs) hb), hb⟩
    have mk2 : ∀ {g : Nat} {args : Array Value} {zs : List Hd}, (∀ w, Below W.heap.size W w → Calls Try.prog g args w (Lists w zs)) → ∀ w, SG W.heap.size (W.heap.size + 1) w3.heap.size w4.heap.size pa pb pc pd pe xa xb xc xd xe xm la lb lc ld le lm w7 w → Calls Try.prog g args w fun e w' => ∃ A' c', e = .returned (.slice A' zs.length c') ∧ Ls w' A' c' zs ∧ SG W.heap.size (W.heap.size + 1) w3.heap.size w4.heap.size pa pb pc pd pe xa xb xc xd xe xm la lb lc ld le lm w7 w' ∧ Below w.heap.size w w' := fun {g args zs} h w hs => by
      refine (h w (thenCall HB4.out (sg_bel hs))).mono ?_
      rintro e w' ⟨A', c', he, hls, hb⟩
      exact ⟨A', c', he, hls, sg_of HG.out (thenCall (sg_bel hs) hb), hb⟩
    have mk3 : ∀ {g : Nat} {args : Array Value} {v : Value}, (∀ w, Below W.heap.size W w → Calls Try.prog g args w fun e w' => e = .returned v ∧ Below w.heap.size w w') → ∀ w, SG W.heap.size (W.heap.size + 1) w3.heap.size w4.heap.size pa pb pc pd pe xa xb xc xd xe xm la lb lc ld le lm w7 w → Calls Try.prog g args w fun e w' => e = .returned v ∧ SG W.heap.size (W.heap.size + 1) w3.heap.size w4.heap.size pa pb pc pd pe xa xb xc xd xe xm la lb lc ld le lm w7 w' := fun {g args v} h w hs =>
      (h w (thenCall HB4.out (sg_bel hs))).mono fun e w' ⟨he, hb⟩ => ⟨he, sg_of HG.out (thenCall (sg_bel hs) hb)⟩
    have H11 := Lib.hid (mk (g := 11) (args := #[.slice A m c, .agg #[.int .i64 pa, .int .i64 pb, .int .i64 pc, .int .i64 pd, .int .i64 pe]]) (f := fun x => kidB x ⟨pa, pb, pc, pd, pe⟩) fun w hb => by have := kids_any (HR.out.below hb) H30.out ⟨pa, pb, pc, pd, pe⟩; rwa [HM.out] at this)
    have H12 := Lib.hid (mk (g := 12) (args := #[.slice A m c, .agg #[.int .i64 pa, .int .i64 pb, .int .i64 pc, .int .i64 pd, .int .i64 pe]]) (f := fun x => kidB x ⟨pa, pb, pc, pd, pe⟩) fun w hb => by have := rkids_any (HR.out.below hb) (Nat.le_trans H30.out (by omega)) ⟨pa, pb, pc, pd, pe⟩; rwa [HM.out] at this)
    have H13 := Lib.hid (mk (g := 13) (args := #[.slice A m c, .agg #[.int .i64 pa, .int .i64 pb, .int .i64 pc, .int .i64 pd, .int .i64 pe]]) (f := fun x => belB x ⟨pa, pb, pc, pd, pe⟩) fun w hb => by have := gbelow_any (HR.out.below hb) H30.out ⟨pa, pb, pc, pd, pe⟩; rwa [HM.out] at this)
    have H14 := Lib.hid (mk (g := 14) (args := #[.slice A m c, .agg #[.int .i64 pa, .int .i64 pb, .int .i64 pc, .int .i64 pd, .int .i64 pe]]) (f := fun x => belB x ⟨pa, pb, pc, pd, pe⟩) fun w hb => by have := rbelow_any (HR.out.below hb) (Nat.le_trans H30.out (by omega)) ⟨pa, pb, pc, pd, pe⟩; rwa [HM.out] at this)
    obtain ⟨dt, hdt⟩ : ∃ d, doN (topL xs) = d := ⟨_, rfl⟩
    have H15 := Lib.hid (mk3 (g := 15) (args := #[.slice A m c]) (v := .int .i64 (dt : Nat)) fun w hb => by have := mode_any (HR.out.below hb) (Nat.le_trans H30.out (by omega)); rwa [HM.out, hdt] at this)
    have H16 := Lib.hid (mk3 (g := 16) (args := #[.slice A m c]) (v := .int .i64 (dt : Nat)) fun w hb => by have := rone_any (HR.out.below hb) (Nat.le_trans H30.out (by omega)); rwa [HM.out, hdt] at this)
    obtain ⟨us, hus⟩ : ∃ u, aftL xs (⟨xa, xb, xc, xd, xe⟩, xm) = u := ⟨_, rfl⟩
    have hul : us.length ≤ 1000 := by rw [← hus]; exact Nat.le_trans (aft_len _ _) (by have := H30.out; omega)
    have H17 := Lib.hid (mk2 (g := 17) (args := #[.slice A m c, .agg #[.int .i64 xa, .int .i64 xb, .int .i64 xc, .int .i64 xd, .int .i64 xe, .int .i64 xm]]) (zs := us) fun w hb => by have := after_any (HR.out.below hb) (Nat.le_trans H30.out (by omega)) (⟨xa, xb, xc, xd, xe⟩, xm); rwa [HM.out, hus] at this)
    have H18 := Lib.hid (mk2 (g := 18) (args := #[.slice A m c, .agg #[.int .i64 xa, .int .i64 xb, .int .i64 xc, .int .i64 xd, .int .i64 xe, .int .i64 xm]]) (zs := us) fun w hb => by have := rafter_any (HR.out.below hb) (Nat.le_trans H30.out (by omega)) (⟨xa, xb, xc, xd, xe⟩, xm); rwa [HM.out, hus] at this)
    have H10 : Hid (∀ w ys A1 c1 A2 c2, Ls w A1 c1 ys → Ls w A2 c2 ys → ys.length ≤ 1000 → SG W.heap.size (W.heap.size + 1) w3.heap.size w4.heap.size pa pb pc pd pe xa xb xc xd xe xm la lb lc ld le lm w7 w → Calls Try.prog 10 #[.slice A1 ys.length c1, .slice A2 ys.length c2] w fun e w' => e = .returned (.bool true) ∧ SG W.heap.size (W.heap.size + 1) w3.heap.size w4.heap.size pa pb pc pd pe xa xb xc xd xe xm la lb lc ld le lm w7 w') := fun w ys A1 c1 A2 c2 h1 h2 h3 hs => (same_true h1 h2 h3).mono fun e w' ⟨he, hb⟩ => ⟨he, sg_of HG.out (thenCall (sg_bel hs) hb)⟩
    have HUl := Lib.hid hul
    have HSg := Lib.hid (sg_of HG.out (drew_below w7 1))
    clear mk mk2 mk3 hdt hus hul
    go_region_held3 (SG W.heap.size (W.heap.size + 1) w3.heap.size w4.heap.size pa pb pc pd pe xa xb xc xd xe xm la lb lc ld le lm w7) (first | exact HSg.out | assumption) (first
      | (go_at_call 11; (refine (H11.out _ (by assumption)).mono ?_); rintro e wz ⟨ys1, A1, c1, rfl, hk1, hy1, hl1, hs, -⟩)
      | (go_at_call 12; (refine (H12.out _ (by assumption)).mono ?_); rintro e wz ⟨zs1, A2, c2, rfl, hk2, -, hl2, hs, hb2⟩; replace hl1 := hl1.below hb2; have hq1 := hk1.one hk2 (fun y hy => kid_right (List.mem_filter.1 hy).2); subst hq1; clear hk1 hk2 hb2)
      | (go_at_call 13; (refine (H13.out _ (by assumption)).mono ?_); rintro e wz ⟨ys3, A3, c3, rfl, hk3, hy3, hl3, hs, -⟩)
      | (go_at_call 14; (refine (H14.out _ (by assumption)).mono ?_); rintro e wz ⟨zs3, A4, c4, rfl, hk4, -, hl4, hs, hb4⟩; replace hl3 := hl3.below hb4; have hq3 := hk3.one hk4 (fun y hy => bel_right (List.mem_filter.1 hy).2); subst hq3; clear hk3 hk4 hb4)
      | (go_at_call 10; (first | refine (H10.out _ _ _ _ _ _ hl5 hl6 HUl.out (by assumption)).mono ?_ | refine (H10.out _ _ _ _ _ _ hl3 hl4 hy3 (by assumption)).mono ?_ | refine (H10.out _ _ _ _ _ _ hl1 hl2 hy1 (by assumption)).mono ?_); rintro e wz ⟨rfl, hs⟩)
      | (go_at_call 15; (refine (H15.out _ (by assumption)).mono ?_); rintro e wz ⟨rfl, hs⟩)
      | (go_at_call 16; (refine (H16.out _ (by assumption)).mono ?_); rintro e wz ⟨rfl, hs⟩)
      | (go_at_call 17; (refine (H17.out _ (by assumption)).mono ?_); rintro e wz ⟨A5, c5, rfl, hl5, hs, -⟩)
      | (go_at_call 18; (refine (H18.out _ (by assumption)).mono ?_); rintro e wz ⟨A6, c6, rfl, hl6, hs, hb6⟩; replace hl5 := hl5.below hb6; clear hb6))
    all_goals
      have HB9 := Lib.hid (thenCall HB4.out (sg_bel hs))
      clear hs
      go_wp2_with fail
      go_ret
      exact ⟨rfl, HB9.out⟩
  · have HF := Lib.hid (fun w => few_any A xs.length c w)
    rw [decide_eq_false h30] at HF
    clear hr hf
    obtain ⟨pa, pb, pc, pd, pe⟩ := p
    obtain ⟨⟨xa, xb, xc, xd, xe⟩, xm⟩ := x
    simp only at HX0
    clear HP0 HK0
    go_enter Try.func3, Try.ntmps3
    go_wp2_with fail
    refine (awake_any _).mono ?_
    rintro e1 w1 ⟨rfl, hb1⟩
    have HB1 := Lib.hid (thenCall HX0.out hb1)
    clear hb1
    go_wp2_with fail
    refine (HF.out _).mono ?_
    rintro e2 w2 ⟨rfl, rfl⟩
    go_wp2_with fail
    go_ret
    exact ⟨rfl, HB1.out⟩
end
theorem does_law (A : Option Addr) (m c : Nat) (xs : List Hd) (p : Pt) (n : Int) (x : Hd) (W : World) (h1 : xs.length = m) (h2 : Ls W A c xs) (h3 : ∀ x ∈ xs, FitP x.1 ∧ wf64 x.2) :
    Calls Try.prog 3 #[.slice A m c, p.v, .int .i64 n, wv x] W fun e w' => e = .returned (.bool true) ∧ Below W.heap.size W w' := by
  subst h1
  exact does_walk h2 h3 p n x
end Go.Proofs.Ythjlapcccmbhbaa.Lk
