import Derived.Test.YtlhhopanegnliaaGreatDoorZNSa
namespace Go.Proofs.YtlhhopanegnliaaGreatDoor.Lk
open Go Go.RowKit Go.Shelf Pa
set_option maxRecDepth 100000
structure Ins (q : Nat → Hd) (a j i : Nat) : Prop where
  rest : ∀ x y, a ≤ x → x < y → y ≤ i → x ≠ j → y ≠ j → ltU (q y) (q x) = false
  tail : ∀ y, j < y → y ≤ i → ltU (q y) (q j) = false
theorem Ins.start {q : Nat → Hd} {a i : Nat} (h : Sf q a i) : Ins q a i i := ⟨fun x y h1 h2 h3 _ h5 => h x y h1 h2 (by omega), fun y h1 h2 => by omega⟩
theorem Ins.step {q : Nat → Hd} {a j i n : Nat} (h : Ins q a (j + 1) i) (hr : Rf n q) (hi : i < n) (hj : j + 1 ≤ i) (ha : a ≤ j) (hl : ltU (q (j + 1)) (q j) = true) : Ins (swF q (j + 1) j) a j i := by
  have e1 : swF q (j + 1) j j = q (j + 1) := by unfold swF; rw [if_pos rfl]
  have e2 : swF q (j + 1) j (j + 1) = q j := by unfold swF; rw [if_neg (by omega), if_pos rfl]
  have e3 : ∀ k, k ≠ j → k ≠ j + 1 → swF q (j + 1) j k = q k := fun k h1 h2 => by unfold swF; rw [if_neg h1, if_neg h2]
  refine ⟨fun x y h1 h2 h3 h4 h5 => ?_, fun y h1 h2 => ?_⟩
  · by_cases hy : y = j + 1
    · subst hy
      rw [e2, e3 x h4 (by omega)]
      exact h.rest x j h1 (by omega) (by omega) (by omega) (by omega)
    · by_cases hx : x = j + 1
      · subst hx
        rw [e2, e3 y h5 hy]
        exact h.rest j y ha (by omega) h3 (by omega) hy
      · rw [e3 x h4 hx, e3 y h5 hy]
        exact h.rest x y h1 h2 h3 hx hy
  · rw [e1]
    by_cases hy : y = j + 1
    · subst hy
      rw [e2]
      exact ltU_asym (hr _ (by omega)) (hr _ (by omega)) hl
    · rw [e3 y (by omega) hy]
      exact h.tail y (by omega) h2
theorem Ins.stop {q : Nat → Hd} {a j i n : Nat} (h : Ins q a j i) (hr : Rf n q) (hi : i < n) (hji : j ≤ i) (hl : j ≤ a ∨ ltU (q j) (q (j - 1)) = false) : Sf q a (i + 1) := by
  intro x y h1 h2 h3
  by_cases hy : y = j
  · subst hy
    rcases hl with hl | hl
    · omega
    · by_cases hx : x = y - 1
      · subst hx; exact hl
      · exact leU_tr (hr x (by omega)) (hr (y - 1) (by omega)) (hr y (by omega)) (h.rest x (y - 1) h1 (by omega) (by omega) (by omega) (by omega)) hl
  · by_cases hx : x = j
    · subst hx
      exact h.tail y h2 (by omega)
    · exact h.rest x y h1 h2 (by omega) hx hy
theorem enters30 : ∀ args w, (callFunc 120 args).run Tryz.prog w = .ok (.enter 120 args) w := enters_of Tryz.func120 (by kernel_rfl) rfl
abbrev up : Value := .func (.func 120) #[] #[]
theorem up_gives {W : World} {x y : Hd} (hx : rightB x.1 = true) (hy : rightB y.1 = true) : Pa.Gives W 120 #[wv x, wv y] (.int .i64 (cmpU x y)) := wgives fun w _ => upward_any x y hx hy w
section
variable {W W' : World} {K g n cap : Nat} {f : Nat → Hd}
set_option maxHeartbeats 8000000 in
theorem insertion_any (h : Rw W K g n cap f) (hK : K ≤ W.heap.size) (hr : Rf n f) {a b : Nat} (hab : a ≤ b) (hb : b ≤ n) (hn : n ≤ 1000) :
    Calls Tryz.prog 196 #[.slice (some ⟨g, 0, none⟩) n cap, .int .i64 (a : Nat), .int .i64 (b : Nat), up] W fun e w' =>
      e = .returned (.tuple #[]) ∧ ∃ f', Rw w' K g n cap f' ∧ Stb (lst n f') (lst n f) ∧ Mv a b f f' ∧ Sf f' a b ∧ Below K W w' := by
  have HR := Lib.hid h
  have HRf := Lib.hid hr
  clear h hr
  have wa : IntKind.i64.wrap ((a : Int) + 1) = (a : Int) + 1 := by rw [IntKind.wrap_i64]; omega
  go_enter Tryz.func196, Tryz.ntmps196
  go_wp2
  clear wa
  go_loopw [8] (fun u wr => ∃ i : Nat, ∃ q : Nat → Hd, u = .int .i64 ((i : Nat) + 1) ∧ a ≤ i ∧ (i + 1 ≤ b ∨ i = a) ∧ Rw wr K g n cap q ∧ Stb (lst n q) (lst n f) ∧ Mv a b f q ∧ Sf q a (i + 1) ∧ Below K W wr) (fun u _ => b + 1 - (intOf u).toNat)
  case atStart => exact ⟨a, f, rfl, Nat.le_refl _, .inr rfl, HR.out, Stb.refl _, Mv.refl _ _ _, fun x y h1 h2 h3 => by omega, Below.refl _ _⟩
  case round =>
    obtain ⟨i, q, rfl, hai, hib, hrow, hperm, hmv, hsf, hbl⟩ := hrel
    have HRow := Lib.hid hrow
    have HP := Lib.hid hperm
    have HM := Lib.hid hmv
    have HS := Lib.hid hsf
    have HB := Lib.hid hbl
    clear hrow hperm hmv hsf hbl
    by_cases hlt : i + 1 < b
    · have hlt' : (i : Int) + 1 < (b : Int) := by omega
      go_wp2_with fail
      go_loopw [9] (fun v w2 => ∃ j : Nat, ∃ p : Nat → Hd, v = .int .i64 (j : Nat) ∧ a ≤ j ∧ j ≤ i + 1 ∧ Rw w2 K g n cap p ∧ Stb (lst n p) (lst n f) ∧ Mv a b f p ∧ Ins p a j (i + 1) ∧ Below K W w2) (fun v _ => (intOf v).toNat)
      case atStart => exact ⟨i + 1, q, by go_num, by omega, Nat.le_refl _, HRow.out, HP.out, HM.out, Ins.start HS.out, HB.out⟩
      case round =>
        obtain ⟨j, p, rfl, haj, hji, hrow2, hperm2, hmv2, hins, hbl2⟩ := hrel
        have HP2 := Lib.hid hperm2
        have HM2 := Lib.hid hmv2
        have HI2 := Lib.hid hins
        have HB2 := Lib.hid hbl2
        have HRf2 := Lib.hid (HRf.out.stb hperm2)
        have HRow2 := Lib.hid hrow2
        clear hperm2 hmv2 hins hbl2 HRow HP HM HS HB
        by_cases hja : a < j
        · obtain ⟨k, hk⟩ : ∃ k, j = k + 1 := ⟨j - 1, by omega⟩
          have z1 : (a : Int) < (j : Int) := by omega
          have z2 : (j : Int) - 1 = (k : Int) := by omega
          have z3 : (j : Int) < (n : Int) := by omega
          have z4 : (k : Int) < (n : Int) := by omega
          have z5 : IntKind.i64.wrap (k : Int) = (k : Int) := by rw [IntKind.wrap_i64]; omega
          have hjn : j < n := by omega
          have hkn : k < n := by omega
          have hne : j ≠ k := by omega
          have HJK := Lib.hid hk
          clear hk
          obtain ⟨x, hx⟩ : ∃ x, p j = x := ⟨_, rfl⟩
          obtain ⟨y, hy⟩ : ∃ y, p k = y := ⟨_, rfl⟩
          have HXY : Hid (p j = x ∧ p k = y) := ⟨hx, hy⟩
          have gU : Pa.Gives wr 120 #[wv x, wv y] (.int .i64 (cmpU x y)) := up_gives (by rw [← hx]; exact HRf2.out _ hjn) (by rw [← hy]; exact HRf2.out _ hkn)
          obtain ⟨x0, x1, x2, x3, x4, x5, -, -, -, -, -, -, hlg⟩ := hrow2.at hjn
          obtain ⟨y0, y1, y2, y3, y4, y5, -, -, -, -, -, -, -⟩ := hrow2.at hkn
          rw [hx] at x0 x1 x2 x3 x4 x5
          rw [hy] at y0 y1 y2 y3 y4 y5
          obtain ⟨cv, hcv⟩ : ∃ cv, cmpU x y = cv := ⟨_, rfl⟩
          have HLt : Hid (ltU (p j) (p k) = decide (cv < 0)) := by unfold Hid ltU; rw [hx, hy, hcv]
          rw [hcv] at gU
          clear hx hy hrow2 hcv
          obtain ⟨⟨xa, xb, xc, xd, xe⟩, xm⟩ := x
          obtain ⟨⟨ya, yb, yc, yd, ye⟩, ym⟩ := y
          simp only at x0 x1 x2 x3 x4 x5 y0 y1 y2 y3 y4 y5 gU
          have eg := enters30
          by_cases hc : cv < 0
          · go_wp2_with fail
            refine Pa.wp_region_later wr (by kernel_rfl) (by kernel_rfl) (Below.refl _ _) ?_
            repeat (go_big_quiet_step ((exact Pa.Gives.later (by with_reducible assumption))))
            refine wpQuiet_nil ?_
            rintro w4 ⟨⟨_, hb4⟩, rfl⟩
            have HB4 := Lib.hid (HB2.out.trans (hb4.mono (Nat.le_trans hK HB2.out.size)))
            have hrow4 := HRow2.out.below hb4
            have HRow4 := Lib.hid hrow4
            clear x0 x1 x2 x3 x4 x5 y0 y1 y2 y3 y4 y5 hlg gU hb4
            obtain ⟨x0, x1, x2, x3, x4, x5, p0, p1, p2, p3, p4, p5, hlg⟩ := hrow4.at hjn
            obtain ⟨y0, y1, y2, y3, y4, y5, q0, q1, q2, q3, q4, q5, -⟩ := hrow4.at hkn
            obtain ⟨n0, m0, a1, a2, a3, a4, a5, b1, b2, b3, b4, b5, c1, c2, c3, c4, c5, d1, d2, d3, d4, d5⟩ := far6 hne
            rw [HXY.out.1] at x0 x1 x2 x3 x4 x5
            rw [HXY.out.2] at y0 y1 y2 y3 y4 y5
            simp only at x0 x1 x2 x3 x4 x5 y0 y1 y2 y3 y4 y5
            clear hrow4
            go_wp2_with fail
            go_region
            obtain ⟨w5, hw5⟩ : ∃ w5, (World.setCell (World.setCell (World.setCell (World.setCell (World.setCell (World.setCell (World.setCell (World.setCell (World.setCell (World.setCell (World.setCell (World.setCell w4 ⟨g, j * 6, none⟩ (.int .i64 ya)) ⟨g, j * 6 + 1, none⟩ (.int .i64 yb)) ⟨g, j * 6 + 2, none⟩ (.int .i64 yc)) ⟨g, j * 6 + 3, none⟩ (.int .i64 yd)) ⟨g, j * 6 + 4, none⟩ (.int .i64 ye)) ⟨g, j * 6 + 5, none⟩ (.int .i64 ym)) ⟨g, k * 6, none⟩ (.int .i64 xa)) ⟨g, k * 6 + 1, none⟩ (.int .i64 xb)) ⟨g, k * 6 + 2, none⟩ (.int .i64 xc)) ⟨g, k * 6 + 3, none⟩ (.int .i64 xd)) ⟨g, k * 6 + 4, none⟩ (.int .i64 xe)) ⟨g, k * 6 + 5, none⟩ (.int .i64 xm)) = w5 := ⟨_, rfl⟩
            rw [hw5]
            have hsw := HRow4.out.swap hjn hkn
            rw [HXY.out.1, HXY.out.2] at hsw
            have HB' := swap_below w4 (j * 6) (k * 6) (⟨ya, yb, yc, yd, ye⟩, ym) (⟨xa, xb, xc, xd, xe⟩, xm) HRow4.out.lt.1 (Nat.le_trans hK HB4.out.size)
            have HSw : Hid (Rw w5 K g n cap (swF p j k)) := by rw [← hw5]; exact hsw
            have HPe := Lib.hid ((stb_swap hjn hkn (.inl HJK.out) (ltU_ne (by rw [HLt.out]; simpa using hc))).trans HP2.out)
            have HBe : Hid (Below K W w5) := by rw [← hw5]; exact HB4.out.trans HB'
            have HIn : Hid (Ins (swF p j k) a k (i + 1)) := by
              have hj := HJK.out
              subst hj
              exact HI2.out.step HRf2.out (by omega) hji (by omega) (by rw [HLt.out]; simpa using hc)
            have HMe : Hid (Mv a b f (swF p j k)) := HM2.out.trans (Mv.swap p (by omega) (by omega) (by have := HJK.out; omega) (by have := HJK.out; omega))
            clear x0 x1 x2 x3 x4 x5 y0 y1 y2 y3 y4 y5 p0 p1 p2 p3 p4 p5 q0 q1 q2 q3 q4 q5 n0 m0 a1 a2 a3 a4 a5 b1 b2 b3 b4 b5 c1 c2 c3 c4 c5 d1 d2 d3 d4 d5 hsw HB' hw5
            go_wp2_with fail
            go_roundw
            case rel => exact ⟨k, _, rfl, by have := HJK.out; omega, by have := HJK.out; omega, HSw.out.keep rfl, HPe.out, HMe.out, HIn.out, below_drewK HBe.out 1⟩
            case measure => have := HJK.out; simp [intOf]; omega
          · have HSo : Hid (Sf p a (i + 1 + 1)) := HI2.out.stop HRf2.out (by omega) hji (.inr (by rw [show j - 1 = k by have := HJK.out; omega, HLt.out]; simpa using hc))
            go_wp2_with fail
            refine Pa.wp_region_later wr (by kernel_rfl) (by kernel_rfl) (Below.refl _ _) ?_
            repeat (go_big_quiet_step ((exact Pa.Gives.later (by with_reducible assumption))))
            refine wpQuiet_nil ?_
            rintro w4 ⟨⟨_, hb4⟩, rfl⟩
            have HB4 := Lib.hid (HB2.out.trans (hb4.mono (Nat.le_trans hK HB2.out.size)))
            have HRow4 := Lib.hid (HRow2.out.below hb4)
            clear x0 x1 x2 x3 x4 x5 y0 y1 y2 y3 y4 y5 hlg gU hb4
            go_wp2_with fail
            go_roundw
            case rel => exact ⟨i + 1, p, by go_num, by omega, .inl (by omega), HRow4.out, HP2.out, HM2.out, HSo.out, HB4.out⟩
            case measure => simp [intOf]; omega
        · have HSo : Hid (Sf p a (i + 1 + 1)) := HI2.out.stop HRf2.out (by omega) hji (.inl (by omega))
          have z1 : ¬ (a : Int) < (j : Int) := by omega
          clear hrow2
          go_wp2_with fail
          refine Pa.wp_region_later wr (by kernel_rfl) (by kernel_rfl) (Below.refl _ _) ?_
          repeat (go_big_quiet_step (fail))
          refine wpQuiet_nil ?_
          rintro w4 ⟨⟨_, hb4⟩, rfl⟩
          have HB4 := Lib.hid (HB2.out.trans (hb4.mono (Nat.le_trans hK HB2.out.size)))
          have HRow4 := Lib.hid (HRow2.out.below hb4)
          clear hb4
          go_wp2_with fail
          go_roundw
          case rel => exact ⟨i + 1, p, by go_num, by omega, .inl (by omega), HRow4.out, HP2.out, HM2.out, HSo.out, HB4.out⟩
          case measure => simp [intOf]; omega
    · have hlt' : ¬ (i : Int) + 1 < (b : Int) := by omega
      go_wp2_with fail
      go_end0
      exact ⟨rfl, q, HRow.out, HP.out, HM.out, HS.out.sub (Nat.le_refl _) (by omega), HB.out⟩
end
end Go.Proofs.YtlhhopanegnliaaGreatDoor.Lk
namespace Go.Proofs.YtlhhopanegnliaaGreatDoor.Lk
open Go Go.RowKit Go.Shelf Pa
set_option maxRecDepth 100000
def shF (f : Nat → Hd) (a k : Nat) : Nat → Hd := fun x => if a ≤ x ∧ x < k then f (x + 1) else if x = k then f a else f x
theorem shF_start (f : Nat → Hd) (a : Nat) : shF f a a = f := by
  funext x
  unfold shF
  rw [if_neg (by omega)]
  split
  · rename_i h; rw [h]
  · rfl
theorem shF_next (f : Nat → Hd) {a k l : Nat} (h : a ≤ k) (hl : k + 1 = l) : swF (shF f a k) k l = shF f a l := by
  subst hl
  funext x
  unfold swF shF
  by_cases e1 : x = k + 1
  · subst e1
    rw [if_pos rfl, if_neg (by omega), if_pos rfl, if_neg (by omega), if_pos rfl]
  · rw [if_neg e1]
    by_cases e2 : x = k
    · subst e2
      rw [if_pos rfl, if_neg (by omega), if_neg (by omega), if_pos (by omega)]
    · rw [if_neg e2]
      by_cases h1 : a ≤ x ∧ x < k
      · have h1' : a ≤ x ∧ x < k + 1 := by omega
        rw [if_pos h1, if_pos h1']
      · have h1' : ¬ (a ≤ x ∧ x < k + 1) := by omega
        rw [if_neg h1, if_neg h1', if_neg e2, if_neg e1]
def shB (f : Nat → Hd) (m k : Nat) : Nat → Hd := fun x => if k < x ∧ x ≤ m then f (x - 1) else if x = k then f m else f x
theorem shB_start (f : Nat → Hd) (m : Nat) : shB f m m = f := by
  funext x
  unfold shB
  rw [if_neg (by omega)]
  split
  · rename_i h; rw [h]
  · rfl
theorem shB_next (f : Nat → Hd) {m k l : Nat} (h : k ≤ m) (hl : k = l + 1) : swF (shB f m k) k l = shB f m l := by
  subst hl
  funext x
  unfold swF shB
  by_cases e1 : x = l
  · subst e1
    rw [if_pos rfl, if_neg (by omega), if_pos rfl, if_neg (by omega), if_pos rfl]
  · rw [if_neg e1]
    by_cases e2 : x = l + 1
    · subst e2
      rw [if_pos rfl, if_neg (by omega), if_neg (by omega), if_pos (by omega)]
      congr 1
    · rw [if_neg e2]
      by_cases h1 : l + 1 < x ∧ x ≤ m
      · have h1' : l < x ∧ x ≤ m := by omega
        rw [if_pos h1, if_pos h1']
      · have h1' : ¬ (l < x ∧ x ≤ m) := by omega
        rw [if_neg h1, if_neg h1', if_neg e2, if_neg e1]
theorem sorted_F {f : Nat → Hd} {n a m b i : Nat} (hr : Rf n f) (hb : b ≤ n) (hm : m = a + 1) (h2 : Sf f m b) (hi : m ≤ i) (hib : i ≤ b) (h3 : ∀ k, m ≤ k → k < i → ltU (f k) (f a) = true) (h4 : ∀ k, i ≤ k → k < b → ltU (f k) (f a) = false) : Sf (shF f a (i - 1)) a b := by
  intro x y h1 hxy hyb
  unfold shF
  by_cases cx : x < i - 1
  · rw [if_pos (show a ≤ x ∧ x < i - 1 by omega)]
    by_cases cy : y < i - 1
    · rw [if_pos (show a ≤ y ∧ y < i - 1 by omega)]
      exact h2 _ _ (by omega) (by omega) (by omega)
    · rw [if_neg (show ¬ (a ≤ y ∧ y < i - 1) by omega)]
      by_cases ey : y = i - 1
      · rw [if_pos ey]
        exact ltU_asym (hr _ (by omega)) (hr _ (by omega)) (h3 _ (by omega) (by omega))
      · rw [if_neg ey]
        exact h2 _ _ (by omega) (by omega) (by omega)
  · rw [if_neg (show ¬ (a ≤ x ∧ x < i - 1) by omega), if_neg (show ¬ (a ≤ y ∧ y < i - 1) by omega)]
    rw [if_neg (show ¬ y = i - 1 by omega)]
    by_cases ex : x = i - 1
    · rw [if_pos ex]
      exact h4 _ (by omega) hyb
    · rw [if_neg ex]
      exact h2 _ _ (by omega) (by omega) (by omega)
theorem sorted_B {f : Nat → Hd} {n a m b i : Nat} (hr : Rf n f) (hb : b ≤ n) (hm : b = m + 1) (h1 : Sf f a m) (hi : a ≤ i) (him : i ≤ m) (h3 : ∀ k, a ≤ k → k < i → ltU (f m) (f k) = false) (h4 : ∀ k, i ≤ k → k < m → ltU (f m) (f k) = true) : Sf (shB f m i) a b := by
  intro x y hx hxy hyb
  unfold shB
  by_cases cx : x < i
  · rw [if_neg (show ¬ (i < x ∧ x ≤ m) by omega), if_neg (show ¬ x = i by omega)]
    by_cases cy : y < i
    · rw [if_neg (show ¬ (i < y ∧ y ≤ m) by omega), if_neg (show ¬ y = i by omega)]
      exact h1 _ _ (by omega) (by omega) (by omega)
    · by_cases ey : y = i
      · rw [if_neg (show ¬ (i < y ∧ y ≤ m) by omega), if_pos ey]
        exact h3 _ hx cx
      · rw [if_pos (show i < y ∧ y ≤ m by omega)]
        exact h1 _ _ (by omega) (by omega) (by omega)
  · rw [if_pos (show i < y ∧ y ≤ m by omega)]
    by_cases ex : x = i
    · rw [if_neg (show ¬ (i < x ∧ x ≤ m) by omega), if_pos ex]
      exact ltU_asym (hr _ (by omega)) (hr _ (by omega)) (h4 _ (by omega) (by omega))
    · rw [if_pos (show i < x ∧ x ≤ m by omega)]
      exact h1 _ _ (by omega) (by omega) (by omega)
theorem Mv.shF (f : Nat → Hd) {a k b : Nat} (h1 : a ≤ k) (h2 : k < b) : Mv a b f (shF f a k) := by
  refine ⟨fun x hx => ?_, fun x h3 h4 => ?_⟩
  · unfold Lk.shF
    rw [if_neg (by omega), if_neg (by omega)]
  · unfold Lk.shF
    split
    · exact ⟨x + 1, by omega, by omega, rfl⟩
    · split
      · exact ⟨a, by omega, by omega, rfl⟩
      · exact ⟨x, h3, h4, rfl⟩
theorem Mv.shB (f : Nat → Hd) {a m b k : Nat} (h1 : a ≤ k) (h2 : k ≤ m) (hb : m < b) : Mv a b f (shB f m k) := by
  refine ⟨fun x hx => ?_, fun x h3 h4 => ?_⟩
  · unfold Lk.shB
    rw [if_neg (by omega), if_neg (by omega)]
  · unfold Lk.shB
    split
    · exact ⟨x - 1, by omega, by omega, rfl⟩
    · split
      · exact ⟨m, by omega, by omega, rfl⟩
      · exact ⟨x, h3, h4, rfl⟩
def Merges (W : World) (K g n cap : Nat) (f : Nat → Hd) (a b : Nat) (e : Ending) (w' : World) : Prop :=
  e = .returned (.tuple #[]) ∧ ∃ f', Rw w' K g n cap f' ∧ Stb (lst n f') (lst n f) ∧ Mv a b f f' ∧ Sf f' a b ∧ Below K W w'
section
variable {W W' : World} {K g n cap : Nat} {f : Nat → Hd}
set_option maxHeartbeats 8000000 in
theorem sym_a (h : Rw W K g n cap f) (hK : K ≤ W.heap.size) (hr : Rf n f) {a m b : Nat} (hm : m = a + 1) (hmb : m < b) (hb : b ≤ n) (hn : n ≤ 1000) (h2 : Sf f m b) :
    Calls Tryz.prog 197 #[.slice (some ⟨g, 0, none⟩) n cap, .int .i64 (a : Nat), .int .i64 (m : Nat), .int .i64 (b : Nat), up] W (Merges W K g n cap f a b) := by
  have HR := Lib.hid h
  have HRf := Lib.hid hr
  have HS2 := Lib.hid h2
  clear h hr h2
  have e1 : (m : Int) - (a : Int) = 1 := by omega
  have HMa := Lib.hid hm
  have han : a < n := by omega
  have za : (a : Int) < (n : Int) := by omega
  clear hm
  go_enter Tryz.func197, Tryz.ntmps197
  go_wp2
  go_loopw [10, 11] (fun u v wr => ∃ i j : Nat, u = .int .i64 (i : Nat) ∧ v = .int .i64 (j : Nat) ∧ m ≤ i ∧ i ≤ j ∧ j ≤ b ∧ Rw wr K g n cap f ∧ (∀ k, m ≤ k → k < i → ltU (f k) (f a) = true) ∧ (∀ k, j ≤ k → k < b → ltU (f k) (f a) = false) ∧ Below K W wr) (fun u v _ => (intOf v).toNat - (intOf u).toNat)
  case atStart => exact ⟨m, b, rfl, rfl, Nat.le_refl _, by omega, Nat.le_refl _, HR.out, fun k h1 h2 => by omega, fun k h1 h2 => by omega, Below.refl _ _⟩
  case round =>
    obtain ⟨i, j, rfl, rfl, hmi, hij, hjb, hrow, hy, hno, hbl⟩ := hrel
    have HRow := Lib.hid hrow
    have HY := Lib.hid hy
    have HNo := Lib.hid hno
    have HB := Lib.hid hbl
    clear hy hno hbl hrow
    by_cases hlt : i < j
    · obtain ⟨h, hh⟩ : ∃ h : Nat, ((i : Int) + (j : Int)) / 2 = (h : Int) := ⟨(i + j) / 2, by omega⟩
      have hih : i ≤ h := by omega
      have hhj : h < j := by omega
      have hhn : h < n := by omega
      have zh : (h : Int) < (n : Int) := by omega
      obtain ⟨x, hx⟩ : ∃ x, f h = x := ⟨_, rfl⟩
      obtain ⟨y, hy⟩ : ∃ y, f a = y := ⟨_, rfl⟩
      have gU : Pa.Gives wr 120 #[wv x, wv y] (.int .i64 (cmpU x y)) := up_gives (by rw [← hx]; exact HRf.out _ hhn) (by rw [← hy]; exact HRf.out _ han)
      obtain ⟨x0, x1, x2, x3, x4, x5, -, -, -, -, -, -, hlg⟩ := HRow.out.at hhn
      obtain ⟨y0, y1, y2, y3, y4, y5, -, -, -, -, -, -, -⟩ := HRow.out.at han
      rw [hx] at x0 x1 x2 x3 x4 x5
      rw [hy] at y0 y1 y2 y3 y4 y5
      obtain ⟨cv, hcv⟩ : ∃ cv, cmpU x y = cv := ⟨_, rfl⟩
      have HLt : Hid (ltU (f h) (f a) = decide (cv < 0)) := by unfold Hid ltU; rw [hx, hy, hcv]
      rw [hcv] at gU
      clear hx hy hcv
      obtain ⟨⟨xa, xb, xc, xd, xe⟩, xm⟩ := x
      obtain ⟨⟨ya, yb, yc, yd, ye⟩, ym⟩ := y
      simp only at x0 x1 x2 x3 x4 x5 y0 y1 y2 y3 y4 y5 gU
      have eg := enters30
      by_cases hc : cv < 0
      · have HY' : Hid (∀ k, m ≤ k → k < h + 1 → ltU (f k) (f a) = true) := fun k k1 k2 => by
          cases hh2 : ltU (f k) (f a)
          · have g1 := HS2.out.le HRf.out hb k1 (show k ≤ h by omega) (by omega)
            have := leU_tr (HRf.out _ han) (HRf.out k (by omega)) (HRf.out _ hhn) hh2 g1
            rw [HLt.out] at this
            simp at this
            omega
          · rfl
        go_wp2_with fail
        refine Pa.wp_region_later wr (by kernel_rfl) (by kernel_rfl) (Below.refl _ _) ?_
        repeat (go_big_quiet_step ((exact Pa.Gives.later (by with_reducible assumption))))
        refine wpQuiet_nil ?_
        rintro w4 ⟨⟨_, hb4⟩, rfl⟩
        have HB4 := Lib.hid (HB.out.trans (hb4.mono (Nat.le_trans hK HB.out.size)))
        have HRow4 := Lib.hid (HRow.out.below hb4)
        clear x0 x1 x2 x3 x4 x5 y0 y1 y2 y3 y4 y5 hlg gU hb4
        go_wp2_with fail
        go_roundw
        case rel => exact ⟨h + 1, j, by go_num, rfl, by omega, by omega, hjb, HRow4.out, HY'.out, HNo.out, HB4.out⟩
        case measure => simp [intOf]; omega
      · have HNo' : Hid (∀ k, h ≤ k → k < b → ltU (f k) (f a) = false) := fun k k1 k2 => by
          have g0 : ltU (f h) (f a) = false := by rw [HLt.out]; simpa using hc
          have g1 := HS2.out.le HRf.out hb (show m ≤ h by omega) k1 k2
          exact leU_tr (HRf.out _ han) (HRf.out _ hhn) (HRf.out k (by omega)) g0 g1
        go_wp2_with fail
        refine Pa.wp_region_later wr (by kernel_rfl) (by kernel_rfl) (Below.refl _ _) ?_
        repeat (go_big_quiet_step ((exact Pa.Gives.later (by with_reducible assumption))))
        refine wpQuiet_nil ?_
        rintro w4 ⟨⟨_, hb4⟩, rfl⟩
        have HB4 := Lib.hid (HB.out.trans (hb4.mono (Nat.le_trans hK HB.out.size)))
        have HRow4 := Lib.hid (HRow.out.below hb4)
        clear x0 x1 x2 x3 x4 x5 y0 y1 y2 y3 y4 y5 hlg gU hb4
        go_wp2_with fail
        go_roundw
        case rel => exact ⟨i, h, rfl, rfl, hmi, by omega, by omega, HRow4.out, HY.out, HNo'.out, HB4.out⟩
        case measure => simp [intOf]; omega
    · obtain rfl : i = j := by omega
      obtain ⟨t, ht⟩ : ∃ t, i = t + 1 := ⟨i - 1, by omega⟩
      have e2 : (i : Int) - 1 = (t : Int) := by omega
      have w2 : IntKind.i64.wrap (t : Int) = (t : Int) := by rw [IntKind.wrap_i64]; omega
      have HSo : Hid (Sf (shF f a t) a b) := by
        have := sorted_F HRf.out hb HMa.out HS2.out hmi hjb HY.out HNo.out
        rw [show i - 1 = t by omega] at this
        exact this
      have hat : a ≤ t := by have := HMa.out; omega
      have htb : t < b := by omega
      clear ht
      go_wp2_with fail
      go_loopw [13] (fun u wr => ∃ k : Nat, u = .int .i64 (k : Nat) ∧ a ≤ k ∧ k ≤ t ∧ Rw wr K g n cap (shF f a k) ∧ Stb (lst n (shF f a k)) (lst n f) ∧ Below K W wr) (fun u _ => t - (intOf u).toNat)
      case atStart => exact ⟨a, rfl, Nat.le_refl _, hat, by rw [shF_start]; exact HRow.out, by rw [shF_start]; exact Stb.refl _, HB.out⟩
      case round =>
        clear HRow HB
        obtain ⟨k, rfl, hak, hkt, hrow, hperm, hbl⟩ := hrel
        have HRow := Lib.hid hrow
        have HP := Lib.hid hperm
        have HB := Lib.hid hbl
        clear hperm hbl hrow
        by_cases hk : k < t
        · obtain ⟨l, hl⟩ : ∃ l, k + 1 = l := ⟨_, rfl⟩
          have e3 : (k : Int) + 1 = (l : Int) := by omega
          have w3 : IntKind.i64.wrap (l : Int) = (l : Int) := by rw [IntKind.wrap_i64]; omega
          have hkn : k < n := by omega
          have hln : l < n := by omega
          have zk : (k : Int) < (n : Int) := by omega
          have zl : (l : Int) < (n : Int) := by omega
          have hne : k ≠ l := by omega
          have HL := Lib.hid hl
          clear hl
          obtain ⟨x, hx⟩ : ∃ x, shF f a k k = x := ⟨_, rfl⟩
          obtain ⟨y, hy⟩ : ∃ y, shF f a k l = y := ⟨_, rfl⟩
          obtain ⟨x0, x1, x2, x3, x4, x5, p0, p1, p2, p3, p4, p5, hlg⟩ := HRow.out.at hkn
          obtain ⟨y0, y1, y2, y3, y4, y5, q0, q1, q2, q3, q4, q5, -⟩ := HRow.out.at hln
          obtain ⟨n0, m0, a1, a2, a3, a4, a5, b1, b2, b3, b4, b5, c1, c2, c3, c4, c5, d1, d2, d3, d4, d5⟩ := far6 hne
          rw [hx] at x0 x1 x2 x3 x4 x5
          rw [hy] at y0 y1 y2 y3 y4 y5
          have HXY : Hid (shF f a k k = x ∧ shF f a k l = y) := ⟨hx, hy⟩
          clear hx hy
          obtain ⟨⟨xa, xb, xc, xd, xe⟩, xm⟩ := x
          obtain ⟨⟨ya, yb, yc, yd, ye⟩, ym⟩ := y
          simp only at x0 x1 x2 x3 x4 x5 y0 y1 y2 y3 y4 y5
          go_wp2_with fail
          go_region
          obtain ⟨w5, hw5⟩ : ∃ w5, (World.setCell (World.setCell (World.setCell (World.setCell (World.setCell (World.setCell (World.setCell (World.setCell (World.setCell (World.setCell (World.setCell (World.setCell wr ⟨g, k * 6, none⟩ (.int .i64 ya)) ⟨g, k * 6 + 1, none⟩ (.int .i64 yb)) ⟨g, k * 6 + 2, none⟩ (.int .i64 yc)) ⟨g, k * 6 + 3, none⟩ (.int .i64 yd)) ⟨g, k * 6 + 4, none⟩ (.int .i64 ye)) ⟨g, k * 6 + 5, none⟩ (.int .i64 ym)) ⟨g, l * 6, none⟩ (.int .i64 xa)) ⟨g, l * 6 + 1, none⟩ (.int .i64 xb)) ⟨g, l * 6 + 2, none⟩ (.int .i64 xc)) ⟨g, l * 6 + 3, none⟩ (.int .i64 xd)) ⟨g, l * 6 + 4, none⟩ (.int .i64 xe)) ⟨g, l * 6 + 5, none⟩ (.int .i64 xm)) = w5 := ⟨_, rfl⟩
          rw [hw5]
          have hsw := HRow.out.swap hkn hln
          rw [HXY.out.1, HXY.out.2, shF_next f hak HL.out] at hsw
          have HB' := swap_below wr (k * 6) (l * 6) (⟨ya, yb, yc, yd, ye⟩, ym) (⟨xa, xb, xc, xd, xe⟩, xm) HRow.out.lt.1 (Nat.le_trans hK HB.out.size)
          have hpe := stb_swap (f := shF f a k) hkn hln (.inr HL.out.symm) (by
            have e1 : shF f a k k = f a := by unfold shF; rw [if_neg (by omega), if_pos rfl]
            have e2 : shF f a k l = f l := by unfold shF; rw [if_neg (by have := HL.out; omega), if_neg (by have := HL.out; omega)]
            rw [e1, e2]
            exact fun e => ltU_ne (HY.out l (by have := HL.out; have := HMa.out; omega) (by have := HL.out; omega)) e.symm)
          rw [shF_next f hak HL.out] at hpe
          have HSw : Hid (Rw w5 K g n cap (shF f a l)) := by rw [← hw5]; exact hsw
          have HPe := Lib.hid (hpe.trans HP.out)
          have HBe : Hid (Below K W w5) := by rw [← hw5]; exact HB.out.trans HB'
          clear x0 x1 x2 x3 x4 x5 y0 y1 y2 y3 y4 y5 p0 p1 p2 p3 p4 p5 q0 q1 q2 q3 q4 q5 n0 m0 a1 a2 a3 a4 a5 b1 b2 b3 b4 b5 c1 c2 c3 c4 c5 d1 d2 d3 d4 d5 hsw HB' hw5 hpe hlg
          go_wp2_with fail
          go_roundw
          case rel => exact ⟨l, by go_num, by have := HL.out; omega, by have := HL.out; omega, HSw.out.keep rfl, HPe.out, below_drewK HBe.out 1⟩
          case measure => have := HL.out; simp [intOf]; omega
        · obtain rfl : k = t := by omega
          go_wp2_with fail
          go_end0
          exact ⟨rfl, _, HRow.out, HP.out, Mv.shF f hat htb, HSo.out, HB.out⟩
set_option maxHeartbeats 8000000 in
theorem sym_b (h : Rw W K g n cap f) (hK : K ≤ W.heap.size) (hr : Rf n f) {a m b : Nat} (ham : a + 2 ≤ m) (hm : b = m + 1) (hb : b ≤ n) (hn : n ≤ 1000) (h1 : Sf f a m) :
    Calls Tryz.prog 197 #[.slice (some ⟨g, 0, none⟩) n cap, .int .i64 (a : Nat), .int .i64 (m : Nat), .int .i64 (b : Nat), up] W (Merges W K g n cap f a b) := by
  have HR := Lib.hid h
  have HRf := Lib.hid hr
  have HS1 := Lib.hid h1
  clear h hr h1
  obtain ⟨ma, hma⟩ : ∃ ma : Nat, (m : Int) - (a : Int) = (ma : Int) := ⟨m - a, by omega⟩
  have w0 : IntKind.i64.wrap (ma : Int) = (ma : Int) := by rw [IntKind.wrap_i64]; omega
  have e0 : ((ma : Int) == 1) = false := by simp; omega
  have e1 : (b : Int) - (m : Int) = 1 := by omega
  have HMa := Lib.hid hm
  have hmn : m < n := by omega
  have zm : (m : Int) < (n : Int) := by omega
  clear hm
  go_enter Tryz.func197, Tryz.ntmps197
  go_wp2
  go_loopw [14, 15] (fun u v wr => ∃ i j : Nat, u = .int .i64 (i : Nat) ∧ v = .int .i64 (j : Nat) ∧ a ≤ i ∧ i ≤ j ∧ j ≤ m ∧ Rw wr K g n cap f ∧ (∀ k, a ≤ k → k < i → ltU (f m) (f k) = false) ∧ (∀ k, j ≤ k → k < m → ltU (f m) (f k) = true) ∧ Below K W wr) (fun u v _ => (intOf v).toNat - (intOf u).toNat)
  case atStart => exact ⟨a, m, rfl, rfl, Nat.le_refl _, by omega, Nat.le_refl _, HR.out, fun k h1 h2 => by omega, fun k h1 h2 => by omega, Below.refl _ _⟩
  case round =>
    obtain ⟨i, j, rfl, rfl, hai, hij, hjm, hrow, hno, hy, hbl⟩ := hrel
    have HRow := Lib.hid hrow
    have HY := Lib.hid hy
    have HNo := Lib.hid hno
    have HB := Lib.hid hbl
    clear hy hno hbl hrow
    by_cases hlt : i < j
    · obtain ⟨h, hh⟩ : ∃ h : Nat, ((i : Int) + (j : Int)) / 2 = (h : Int) := ⟨(i + j) / 2, by omega⟩
      have hih : i ≤ h := by omega
      have hhj : h < j := by omega
      have hhn : h < n := by omega
      have zh : (h : Int) < (n : Int) := by omega
      obtain ⟨x, hx⟩ : ∃ x, f m = x := ⟨_, rfl⟩
      obtain ⟨y, hy⟩ : ∃ y, f h = y := ⟨_, rfl⟩
      have gU : Pa.Gives wr 120 #[wv x, wv y] (.int .i64 (cmpU x y)) := up_gives (by rw [← hx]; exact HRf.out _ hmn) (by rw [← hy]; exact HRf.out _ hhn)
      obtain ⟨x0, x1, x2, x3, x4, x5, -, -, -, -, -, -, hlg⟩ := HRow.out.at hmn
      obtain ⟨y0, y1, y2, y3, y4, y5, -, -, -, -, -, -, -⟩ := HRow.out.at hhn
      rw [hx] at x0 x1 x2 x3 x4 x5
      rw [hy] at y0 y1 y2 y3 y4 y5
      obtain ⟨cv, hcv⟩ : ∃ cv, cmpU x y = cv := ⟨_, rfl⟩
      have HLt : Hid (ltU (f m) (f h) = decide (cv < 0)) := by unfold Hid ltU; rw [hx, hy, hcv]
      rw [hcv] at gU
      clear hx hy hcv
      obtain ⟨⟨xa, xb, xc, xd, xe⟩, xm⟩ := x
      obtain ⟨⟨ya, yb, yc, yd, ye⟩, ym⟩ := y
      simp only at x0 x1 x2 x3 x4 x5 y0 y1 y2 y3 y4 y5 gU
      have eg := enters30
      by_cases hc : cv < 0
      · have hc2 : ¬ 0 ≤ cv := by omega
        have HY' : Hid (∀ k, h ≤ k → k < m → ltU (f m) (f k) = true) := fun k k1 k2 => by
          cases hh2 : ltU (f m) (f k)
          · have g1 := HS1.out.le HRf.out (by omega) (show a ≤ h by omega) k1 k2
            have := leU_tr (HRf.out _ hhn) (HRf.out k (by omega)) (HRf.out _ hmn) g1 hh2
            rw [HLt.out] at this
            simp at this
            omega
          · rfl
        go_wp2_with fail
        refine Pa.wp_region_later wr (by kernel_rfl) (by kernel_rfl) (Below.refl _ _) ?_
        repeat (go_big_quiet_step ((exact Pa.Gives.later (by with_reducible assumption))))
        refine wpQuiet_nil ?_
        rintro w4 ⟨⟨_, hb4⟩, rfl⟩
        have HB4 := Lib.hid (HB.out.trans (hb4.mono (Nat.le_trans hK HB.out.size)))
        have HRow4 := Lib.hid (HRow.out.below hb4)
        clear x0 x1 x2 x3 x4 x5 y0 y1 y2 y3 y4 y5 hlg gU hb4
        go_wp2_with fail
        all_goals try (exfalso; rename_i hq; simp at hq; omega)
        go_roundw
        case rel => exact ⟨i, h, rfl, rfl, hai, by omega, by omega, HRow4.out, HNo.out, HY'.out, HB4.out⟩
        case measure => simp [intOf]; omega
      · have hc2 : 0 ≤ cv := by omega
        have HNo' : Hid (∀ k, a ≤ k → k < h + 1 → ltU (f m) (f k) = false) := fun k k1 k2 => by
          have g0 : ltU (f m) (f h) = false := by rw [HLt.out]; simpa using hc
          have g1 := HS1.out.le HRf.out (by omega) k1 (show k ≤ h by omega) (by omega)
          exact leU_tr (HRf.out k (by omega)) (HRf.out _ hhn) (HRf.out _ hmn) g1 g0
        go_wp2_with fail
        refine Pa.wp_region_later wr (by kernel_rfl) (by kernel_rfl) (Below.refl _ _) ?_
        repeat (go_big_quiet_step ((exact Pa.Gives.later (by with_reducible assumption))))
        refine wpQuiet_nil ?_
        rintro w4 ⟨⟨_, hb4⟩, rfl⟩
        have HB4 := Lib.hid (HB.out.trans (hb4.mono (Nat.le_trans hK HB.out.size)))
        have HRow4 := Lib.hid (HRow.out.below hb4)
        clear x0 x1 x2 x3 x4 x5 y0 y1 y2 y3 y4 y5 hlg gU hb4
        go_wp2_with fail
        all_goals try (exfalso; rename_i hq; simp at hq; omega)
        go_roundw
        case rel => exact ⟨h + 1, j, by go_num, rfl, by omega, by omega, hjm, HRow4.out, HNo'.out, HY.out, HB4.out⟩
        case measure => simp [intOf]; omega
    · obtain rfl : i = j := by omega
      have HSo : Hid (Sf (shB f m i) a b) := sorted_B HRf.out hb HMa.out HS1.out hai hjm HNo.out HY.out
      go_wp2_with fail
      go_loopw [17] (fun u wr => ∃ k : Nat, u = .int .i64 (k : Nat) ∧ i ≤ k ∧ k ≤ m ∧ Rw wr K g n cap (shB f m k) ∧ Stb (lst n (shB f m k)) (lst n f) ∧ Below K W wr) (fun u _ => (intOf u).toNat)
      case atStart => exact ⟨m, rfl, hjm, Nat.le_refl _, by rw [shB_start]; exact HRow.out, by rw [shB_start]; exact Stb.refl _, HB.out⟩
      case round =>
        clear HRow HB
        obtain ⟨k, rfl, hik, hkm, hrow, hperm, hbl⟩ := hrel
        have HRow := Lib.hid hrow
        have HP := Lib.hid hperm
        have HB := Lib.hid hbl
        clear hperm hbl hrow
        by_cases hk : i < k
        · obtain ⟨l, hl⟩ : ∃ l, k = l + 1 := ⟨k - 1, by omega⟩
          have e3 : (k : Int) - 1 = (l : Int) := by omega
          have w3 : IntKind.i64.wrap (l : Int) = (l : Int) := by rw [IntKind.wrap_i64]; omega
          have hkn : k < n := by omega
          have hln : l < n := by omega
          have zk : (k : Int) < (n : Int) := by omega
          have zl : (l : Int) < (n : Int) := by omega
          have hne : k ≠ l := by omega
          have HL := Lib.hid hl
          clear hl
          obtain ⟨x, hx⟩ : ∃ x, shB f m k k = x := ⟨_, rfl⟩
          obtain ⟨y, hy⟩ : ∃ y, shB f m k l = y := ⟨_, rfl⟩
          obtain ⟨x0, x1, x2, x3, x4, x5, p0, p1, p2, p3, p4, p5, hlg⟩ := HRow.out.at hkn
          obtain ⟨y0, y1, y2, y3, y4, y5, q0, q1, q2, q3, q4, q5, -⟩ := HRow.out.at hln
          obtain ⟨n0, m0, a1, a2, a3, a4, a5, b1, b2, b3, b4, b5, c1, c2, c3, c4, c5, d1, d2, d3, d4, d5⟩ := far6 hne
          rw [hx] at x0 x1 x2 x3 x4 x5
          rw [hy] at y0 y1 y2 y3 y4 y5
          have HXY : Hid (shB f m k k = x ∧ shB f m k l = y) := ⟨hx, hy⟩
          clear hx hy
          obtain ⟨⟨xa, xb, xc, xd, xe⟩, xm⟩ := x
          obtain ⟨⟨ya, yb, yc, yd, ye⟩, ym⟩ := y
          simp only at x0 x1 x2 x3 x4 x5 y0 y1 y2 y3 y4 y5
          go_wp2_with fail
          go_region
          obtain ⟨w5, hw5⟩ : ∃ w5, (World.setCell (World.setCell (World.setCell (World.setCell (World.setCell (World.setCell (World.setCell (World.setCell (World.setCell (World.setCell (World.setCell (World.setCell wr ⟨g, k * 6, none⟩ (.int .i64 ya)) ⟨g, k * 6 + 1, none⟩ (.int .i64 yb)) ⟨g, k * 6 + 2, none⟩ (.int .i64 yc)) ⟨g, k * 6 + 3, none⟩ (.int .i64 yd)) ⟨g, k * 6 + 4, none⟩ (.int .i64 ye)) ⟨g, k * 6 + 5, none⟩ (.int .i64 ym)) ⟨g, l * 6, none⟩ (.int .i64 xa)) ⟨g, l * 6 + 1, none⟩ (.int .i64 xb)) ⟨g, l * 6 + 2, none⟩ (.int .i64 xc)) ⟨g, l * 6 + 3, none⟩ (.int .i64 xd)) ⟨g, l * 6 + 4, none⟩ (.int .i64 xe)) ⟨g, l * 6 + 5, none⟩ (.int .i64 xm)) = w5 := ⟨_, rfl⟩
          rw [hw5]
          have hsw := HRow.out.swap hkn hln
          rw [HXY.out.1, HXY.out.2, shB_next f hkm HL.out] at hsw
          have HB' := swap_below wr (k * 6) (l * 6) (⟨ya, yb, yc, yd, ye⟩, ym) (⟨xa, xb, xc, xd, xe⟩, xm) HRow.out.lt.1 (Nat.le_trans hK HB.out.size)
          have hpe := stb_swap (f := shB f m k) hkn hln (.inl HL.out) (by
            have e1 : shB f m k k = f m := by unfold shB; rw [if_neg (by omega), if_pos rfl]
            have e2 : shB f m k l = f l := by unfold shB; rw [if_neg (by have := HL.out; omega), if_neg (by have := HL.out; omega)]
            rw [e1, e2]
            exact ltU_ne (HY.out l (by have := HL.out; omega) (by have := HL.out; omega)))
          rw [shB_next f hkm HL.out] at hpe
          have HSw : Hid (Rw w5 K g n cap (shB f m l)) := by rw [← hw5]; exact hsw
          have HPe := Lib.hid (hpe.trans HP.out)
          have HBe : Hid (Below K W w5) := by rw [← hw5]; exact HB.out.trans HB'
          clear x0 x1 x2 x3 x4 x5 y0 y1 y2 y3 y4 y5 p0 p1 p2 p3 p4 p5 q0 q1 q2 q3 q4 q5 n0 m0 a1 a2 a3 a4 a5 b1 b2 b3 b4 b5 c1 c2 c3 c4 c5 d1 d2 d3 d4 d5 hsw HB' hw5 hpe hlg
          go_wp2_with fail
          go_roundw
          case rel => exact ⟨l, by go_num, by have := HL.out; omega, by have := HL.out; omega, HSw.out.keep rfl, HPe.out, below_drewK HBe.out 1⟩
          case measure => have := HL.out; simp [intOf]; omega
        · obtain rfl : k = i := by omega
          go_wp2_with fail
          go_end0
          exact ⟨rfl, _, HRow.out, HP.out, Mv.shB f hai hjm (by have := HMa.out; omega), HSo.out, HB.out⟩
end
end Go.Proofs.YtlhhopanegnliaaGreatDoor.Lk
