/- A range sorted by insertion. -/
import Derived.Test.YthjlapcccmbhbaaSt
namespace Go.Proofs.Ythjlapcccmbhbaa.Lk
open Go Go.RowKit Go.Shelf Pa
set_option maxRecDepth 100000

/-- sorted but for the one at j, which goes ahead of all behind it -/
structure Ins (q : Nat → Hd) (a j i : Nat) : Prop where
  rest : ∀ x y, a ≤ x → x < y → y ≤ i → x ≠ j → y ≠ j → ltU (q y) (q x) = false
  tail : ∀ y, j < y → y ≤ i → ltU (q y) (q j) = false
theorem Ins.start {q : Nat → Hd} {a i : Nat} (h : Sf q a i) : Ins q a i i := ⟨fun x y h1 h2 h3 _ h5 => h x y h1 h2 (by omega), fun y h1 h2 => by omega⟩
theorem Ins.step {q : Nat → Hd} {a j i n : Nat} (h : Ins q a (j + 1) i) (hr : Rf n q) (hi : i < n) (hj : j + 1 ≤ i) (ha : a ≤ j) (hl : ltU (q (j + 1)) (q j) = true) : Ins (swF q (j + 1) j) a j i := by
  have e1 : swF q (j + 1) j j = q (j + 1) := by unfold swF; rw [if_pos rfl]
  have e2 : swF q (j + 1) j (j + 1) = q j := by unfold swF; rw [if_neg (by omega), if_pos rfl]
  have e3 : ∀ k, k ≠ j → k ≠ j + 1 → swF q (j + 1) j k = q k := fun k h1 h2 => by unfold swF; rw [if_neg h1, if_neg h2]
  refine ⟨fun x y h1 h2 h3 h4 h5 => ?_, fun y h1 h2 => ?_⟩
  · by_cases hy : y = j + 1
    · subst hy
      rw [e2, e3 x h4 (by omega)]
      exact h.rest x j h1 (by omega) (by omega) (by omega) (by omega)
    · by_cases hx : x = j + 1
      · subst hx
        rw [e2, e3 y h5 hy]
        exact h.rest j y ha (by omega) h3 (by omega) hy
      · rw [e3 x h4 hx, e3 y h5 hy]
        exact h.rest x y h1 h2 h3 hx hy
  · rw [e1]
    by_cases hy : y = j + 1
    · subst hy
      rw [e2]
      exact ltU_asym (hr _ (by omega)) (hr _ (by omega)) hl
    · rw [e3 y (by omega) hy]
      exact h.tail y (by omega) h2
theorem Ins.stop {q : Nat → Hd} {a j i n : Nat} (h : Ins q a j i) (hr : Rf n q) (hi : i < n) (hji : j ≤ i) (hl : j ≤ a ∨ ltU (q j) (q (j - 1)) = false) : Sf q a (i + 1) := by
  intro x y h1 h2 h3
  by_cases hy : y = j
  · subst hy
    rcases hl with hl | hl
    · omega
    · by_cases hx : x = y - 1
      · subst hx; exact hl
      · exact leU_tr (hr x (by omega)) (hr (y - 1) (by omega)) (hr y (by omega)) (h.rest x (y - 1) h1 (by omega) (by omega) (by omega) (by omega)) hl
  · by_cases hx : x = j
    · subst hx
      exact h.tail y h2 (by omega)
    · exact h.rest x y h1 h2 (by omega) hx hy
theorem enters30 : ∀ args w, (callFunc 60 args).run Try.prog w = .ok (.enter 60 args) w := enters_of Try.func60 (by kernel_rfl) rfl
/-- the function value that compares -/
abbrev up : Value := .func (.func 60) #[] #[]
theorem up_gives {W : World} {x y : Hd} (hx : rightB x.1 = true) (hy : rightB y.1 = true) : Pa.Gives W 60 #[wv x, wv y] (.int .i64 (cmpU x y)) := wgives fun w _ => upward_any x y hx hy w
section
variable {W W' : World} {K g n cap : Nat} {f : Nat → Hd}
set_option maxHeartbeats 8000000 in
theorem insertion_any (h : Rw W K g n cap f) (hK : K ≤ W.heap.size) (hr : Rf n f) {a b : Nat} (hab : a ≤ b) (hb : b ≤ n) (hn : n ≤ 1000) :
    Calls Try.prog 76 #[.slice (some ⟨g, 0, none⟩) n cap, .int .i64 (a : Nat), .int .i64 (b : Nat), up] W fun e w' =>
      e = .returned (.tuple #[]) ∧ ∃ f', Rw w' K g n cap f' ∧ Stb (lst n f') (lst n f) ∧ Mv a b f f' ∧ Sf f' a b ∧ Below K W w' := by
  have HR := Lib.hid h
  have HRf := Lib.hid hr
  clear h hr
  have wa : IntKind.i64.wrap ((a : Int) + 1) = (a : Int) + 1 := by rw [IntKind.wrap_i64]; omega
  go_enter Try.func76, Try.ntmps76
  go_wp2
  clear wa
  go_loopw [8] (fun u wr => ∃ i : Nat, ∃ q : Nat → Hd, u = .int .i64 ((i : Nat) + 1) ∧ a ≤ i ∧ (i + 1 ≤ b ∨ i = a) ∧ Rw wr K g n cap q ∧ Stb (lst n q) (lst n f) ∧ Mv a b f q ∧ Sf q a (i + 1) ∧ Below K W wr) (fun u _ => b + 1 - (intOf u).toNat)
  case atStart => exact ⟨a, f, rfl, Nat.le_refl _, .inr rfl, HR.out, Stb.refl _, Mv.refl _ _ _, fun x y h1 h2 h3 => by omega, Below.refl _ _⟩
  case round =>
    obtain ⟨i, q, rfl, hai, hib, hrow, hperm, hmv, hsf, hbl⟩ := hrel
    have HRow := Lib.hid hrow
    have HP := Lib.hid hperm
    have HM := Lib.hid hmv
    have HS := Lib.hid hsf
    have HB := Lib.hid hbl
    clear hrow hperm hmv hsf hbl
    by_cases hlt : i + 1 < b
    · have hlt' : (i : Int) + 1 < (b : Int) := by omega
      go_wp2_with fail
      go_loopw [9] (fun v w2 => ∃ j : Nat, ∃ p : Nat → Hd, v = .int .i64 (j : Nat) ∧ a ≤ j ∧ j ≤ i + 1 ∧ Rw w2 K g n cap p ∧ Stb (lst n p) (lst n f) ∧ Mv a b f p ∧ Ins p a j (i + 1) ∧ Below K W w2) (fun v _ => (intOf v).toNat)
      case atStart => exact ⟨i + 1, q, by go_num, by omega, Nat.le_refl _, HRow.out, HP.out, HM.out, Ins.start HS.out, HB.out⟩
      case round =>
        obtain ⟨j, p, rfl, haj, hji, hrow2, hperm2, hmv2, hins, hbl2⟩ := hrel
        have HP2 := Lib.hid hperm2
        have HM2 := Lib.hid hmv2
        have HI2 := Lib.hid hins
        have HB2 := Lib.hid hbl2
        have HRf2 := Lib.hid (HRf.out.stb hperm2)
        have HRow2 := Lib.hid hrow2
        clear hperm2 hmv2 hins hbl2 HRow HP HM HS HB
        by_cases hja : a < j
        · obtain ⟨k, hk⟩ : ∃ k, j = k + 1 := ⟨j - 1, by omega⟩
          have z1 : (a : Int) < (j : Int) := by omega
          have z2 : (j : Int) - 1 = (k : Int) := by omega
          have z3 : (j : Int) < (n : Int) := by omega
          have z4 : (k : Int) < (n : Int) := by omega
          have z5 : IntKind.i64.wrap (k : Int) = (k : Int) := by rw [IntKind.wrap_i64]; omega
          have hjn : j < n := by omega
          have hkn : k < n := by omega
          have hne : j ≠ k := by omega
          have HJK := Lib.hid hk
          clear hk
          obtain ⟨x, hx⟩ : ∃ x, p j = x := ⟨_, rfl⟩
          obtain ⟨y, hy⟩ : ∃ y, p k = y := ⟨_, rfl⟩
          have HXY : Hid (p j = x ∧ p k = y) := ⟨hx, hy⟩
          have gU : Pa.Gives wr 60 #[wv x, wv y] (.int .i64 (cmpU x y)) := up_gives (by rw [← hx]; exact HRf2.out _ hjn) (by rw [← hy]; exact HRf2.out _ hkn)
          obtain ⟨x0, x1, x2, x3, x4, x5, -, -, -, -, -, -, hlg⟩ := hrow2.at hjn
          obtain ⟨y0, y1, y2, y3, y4, y5, -, -, -, -, -, -, -⟩ := hrow2.at hkn
          rw [hx] at x0 x1 x2 x3 x4 x5
          rw [hy] at y0 y1 y2 y3 y4 y5
          obtain ⟨cv, hcv⟩ : ∃ cv, cmpU x y = cv := ⟨_, rfl⟩
          have HLt : Hid (ltU (p j) (p k) = decide (cv < 0)) := by unfold Hid ltU; rw [hx, hy, hcv]
          rw [hcv] at gU
          clear hx hy hrow2 hcv
          obtain ⟨⟨xa, xb, xc, xd, xe⟩, xm⟩ := x
          obtain ⟨⟨ya, yb, yc, yd, ye⟩, ym⟩ := y
          simp only at x0 x1 x2 x3 x4 x5 y0 y1 y2 y3 y4 y5 gU
          have eg := enters30
          by_cases hc : cv < 0
          · go_wp2_with fail
            refine wp_region_later wr (by kernel_rfl) (by kernel_rfl) (Below.refl _ _) ?_
            repeat (go_big_quiet_step ((exact Gives.later (by with_reducible assumption))))
            refine wpQuiet_nil ?_
            rintro w4 ⟨⟨_, hb4⟩, rfl⟩
            have HB4 := Lib.hid (HB2.out.trans (hb4.mono (Nat.le_trans hK HB2.out.size)))
            have hrow4 := HRow2.out.below hb4
            have HRow4 := Lib.hid hrow4
            clear x0 x1 x2 x3 x4 x5 y0 y1 y2 y3 y4 y5 hlg gU hb4
            obtain ⟨x0, x1, x2, x3, x4, x5, p0, p1, p2, p3, p4, p5, hlg⟩ := hrow4.at hjn
            obtain ⟨y0, y1, y2, y3, y4, y5, q0, q1, q2, q3, q4, q5, -⟩ := hrow4.at hkn
            obtain ⟨n0, m0, a1, a2, a3, a4, a5, b1, b2, b3, b4, b5, c1, c2, c3, c4, c5, d1, d2, d3, d4, d5⟩ := far6 hne
            rw [HXY.out.1] at x0 x1 x2 x3 x4 x5
            rw [HXY.out.2] at y0 y1 y2 y3 y4 y5
            simp only at x0 x1 x2 x3 x4 x5 y0 y1 y2 y3 y4 y5
            clear hrow4
            go_wp2_with fail
            go_region
            obtain ⟨w5, hw5⟩ : ∃ w5, (World.setCell (World.setCell (World.setCell (World.setCell (World.setCell (World.setCell (World.setCell (World.setCell (World.setCell (World.setCell (World.setCell (World.setCell w4 ⟨g, j * 6, none⟩ (.int .i64 ya)) ⟨g, j * 6 + 1, none⟩ (.int .i64 yb)) ⟨g, j * 6 + 2, none⟩ (.int .i64 yc)) ⟨g, j * 6 + 3, none⟩ (.int .i64 yd)) ⟨g, j * 6 + 4, none⟩ (.int .i64 ye)) ⟨g, j * 6 + 5, none⟩ (.int .i64 ym)) ⟨g, k * 6, none⟩ (.int .i64 xa)) ⟨g, k * 6 + 1, none⟩ (.int .i64 xb)) ⟨g, k * 6 + 2, none⟩ (.int .i64 xc)) ⟨g, k * 6 + 3, none⟩ (.int .i64 xd)) ⟨g, k * 6 + 4, none⟩ (.int .i64 xe)) ⟨g, k * 6 + 5, none⟩ (.int .i64 xm)) = w5 := ⟨_, rfl⟩
            rw [hw5]
            have hsw := HRow4.out.swap hjn hkn
            rw [HXY.out.1, HXY.out.2] at hsw
            have HB' := swap_below w4 (j * 6) (k * 6) (⟨ya, yb, yc, yd, ye⟩, ym) (⟨xa, xb, xc, xd, xe⟩, xm) HRow4.out.lt.1 (Nat.le_trans hK HB4.out.size)
            have HSw : Hid (Rw w5 K g n cap (swF p j k)) := by rw [← hw5]; exact hsw
            have HPe := Lib.hid ((stb_swap hjn hkn (.inl HJK.out) (ltU_ne (by rw [HLt.out]; simpa using hc))).trans HP2.out)
            have HBe : Hid (Below K W w5) := by rw [← hw5]; exact HB4.out.trans HB'
            have HIn : Hid (Ins (swF p j k) a k (i + 1)) := by
              have hj := HJK.out
              subst hj
              exact HI2.out.step HRf2.out (by omega) hji (by omega) (by rw [HLt.out]; simpa using hc)
            have HMe : Hid (Mv a b f (swF p j k)) := HM2.out.trans (Mv.swap p (by omega) (by omega) (by have := HJK.out; omega) (by have := HJK.out; omega))
            clear x0 x1 x2 x3 x4 x5 y0 y1 y2 y3 y4 y5 p0 p1 p2 p3 p4 p5 q0 q1 q2 q3 q4 q5 n0 m0 a1 a2 a3 a4 a5 b1 b2 b3 b4 b5 c1 c2 c3 c4 c5 d1 d2 d3 d4 d5 hsw HB' hw5
            go_wp2_with fail
            go_roundw
            case rel => exact ⟨k, _, rfl, by have := HJK.out; omega, by have := HJK.out; omega, HSw.out.keep rfl, HPe.out, HMe.out, HIn.out, below_drewK HBe.out 1⟩
            case measure => have := HJK.out; simp [intOf]; omega
          · have HSo : Hid (Sf p a (i + 1 + 1)) := HI2.out.stop HRf2.out (by omega) hji (.inr (by rw [show j - 1 = k by have := HJK.out; omega, HLt.out]; simpa using hc))
            go_wp2_with fail
            refine wp_region_later wr (by kernel_rfl) (by kernel_rfl) (Below.refl _ _) ?_
            repeat (go_big_quiet_step ((exact Gives.later (by with_reducible assumption))))
            refine wpQuiet_nil ?_
            rintro w4 ⟨⟨_, hb4⟩, rfl⟩
            have HB4 := Lib.hid (HB2.out.trans (hb4.mono (Nat.le_trans hK HB2.out.size)))
            have HRow4 := Lib.hid (HRow2.out.below hb4)
            clear x0 x1 x2 x3 x4 x5 y0 y1 y2 y3 y4 y5 hlg gU hb4
            go_wp2_with fail
            go_roundw
            case rel => exact ⟨i + 1, p, by go_num, by omega, .inl (by omega), HRow4.out, HP2.out, HM2.out, HSo.out, HB4.out⟩
            case measure => simp [intOf]; omega
        · have HSo : Hid (Sf p a (i + 1 + 1)) := HI2.out.stop HRf2.out (by omega) hji (.inl (by omega))
          have z1 : ¬ (a : Int) < (j : Int) := by omega
          clear hrow2
          go_wp2_with fail
          refine wp_region_later wr (by kernel_rfl) (by kernel_rfl) (Below.refl _ _) ?_
          repeat (go_big_quiet_step (fail))
          refine wpQuiet_nil ?_
          rintro w4 ⟨⟨_, hb4⟩, rfl⟩
          have HB4 := Lib.hid (HB2.out.trans (hb4.mono (Nat.le_trans hK HB2.out.size)))
          have HRow4 := Lib.hid (HRow2.out.below hb4)
          clear hb4
          go_wp2_with fail
          go_roundw
          case rel => exact ⟨i + 1, p, by go_num, by omega, .inl (by omega), HRow4.out, HP2.out, HM2.out, HSo.out, HB4.out⟩
          case measure => simp [intOf]; omega
    · have hlt' : ¬ (i : Int) + 1 < (b : Int) := by omega
      go_wp2_with fail
      go_end0
      exact ⟨rfl, q, HRow.out, HP.out, HM.out, HS.out.sub (Nat.le_refl _) (by omega), HB.out⟩
end
end Go.Proofs.Ythjlapcccmbhbaa.Lk
