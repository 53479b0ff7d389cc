/- The order in which locks go: the document's answer. -/
import Derived.Test.YthjlapcccmbhbaaYe
import Derived.Test.YthjlapcccmbhbaaYa
namespace Go.Proofs.Ythjlapcccmbhbaa.Lk
open Go Go.RowKit Go.Shelf Pa
set_option maxRecDepth 100000

theorem rless_g {w : World} {p q : Pt} {b : Bool} (h : lessB p q = b) : Gives w 34 #[p.v, q.v] (.bool b) := by
  subst h; exact Gives.of (rless_any p q)
theorem ltU_parts {x y : Hd} {b : Bool} (h : ltU x y = b) : (y.1.e < x.1.e ∧ b = true) ∨ (x.1.e < y.1.e ∧ b = false) ∨ (x.1.e = y.1.e ∧ lessB x.1 y.1 = b) := by
  have hi := ltU_iff x y
  rw [h] at hi
  rcases Int.lt_trichotomy y.1.e x.1.e with h1 | h1 | h1
  · exact .inl ⟨h1, hi.2 (.inl h1)⟩
  · refine .inr (.inr ⟨h1.symm, ?_⟩)
    cases b
    · cases hl : lessB x.1 y.1
      · rfl
      · have := hi.2 (.inr ⟨h1.symm, hl⟩); cases this
    · rcases hi.1 rfl with h2 | h2
      · omega
      · exact h2.2
  · refine .inr (.inl ⟨h1, ?_⟩)
    cases b
    · rfl
    · rcases hi.1 rfl with h2 | h2
      · omega
      · omega
section
variable {W W' : World} {A : Option Addr} {c : Nat} {xs : List Hd}
set_option maxHeartbeats 8000000 in
theorem rback_any (hr : Ls W A c xs) (hl : xs.length ≤ 300) (hg : ∀ x ∈ xs, rightB x.1 = true) : Calls Try.prog 42 #[.slice A xs.length c] W fun e w' => ∃ ys, Bk xs ys ∧ Lists W ys e w' := by
  have HR := Lib.hid hr
  have HG := Lib.hid hg
  obtain ⟨n, hn⟩ : ∃ n, xs.length = n := ⟨_, rfl⟩
  have HN := Lib.hid hn
  rw [hn] at hl ⊢
  clear hr hn hg
  go_enter Try.func42, Try.ntmps42
  go_wp2_with fail
  go_loopw [3, 9] (fun l i wr => ∃ (k : Nat) (ys : List Hd), k ≤ n ∧ i = .int .i64 (k : Nat) ∧ Row wr W.heap.size l ys ∧ Bk (xs.take k) ys ∧ Below W.heap.size W wr) (fun _ i _ => n - (intOf i).toNat)
  case atStart => exact ⟨0, [], by omega, rfl, World.ownsRow_nil _ _ _ _, Bk.nil, Below.refl _ _⟩
  case round =>
    obtain ⟨k, ys, hk, rfl, hrow, hbk, hb⟩ := hrel
    have HRow := Lib.hid hrow
    have HBk := Lib.hid hbk
    have HB := Lib.hid hb
    obtain ⟨A1, c1, rfl, hls⟩ := hrow.ls
    have HLs := Lib.hid hls
    have hlen := hbk.len
    rw [List.length_take] at hlen
    obtain ⟨m, hm⟩ : ∃ m, ys.length = m := ⟨_, rfl⟩
    have HM := Lib.hid hm
    rw [hm] at hlen ⊢
    clear hrow hbk hb hls hm
    by_cases hlt : k < n
    · have i1 : (0 : Int) ≤ (k : Int) := by omega
      have i2 : (k : Int) < (n : Int) := by omega
      have hkl : k < xs.length := by rw [HN.out]; exact hlt
      obtain ⟨a, rfl, hh⟩ := (HR.out.below HB.out).here hkl
      obtain ⟨x, hx⟩ : ∃ x, xs[k] = x := ⟨_, rfl⟩
      rw [hx] at hh
      have HXr : Hid (rightB x.1 = true) := HG.out x (by rw [← hx]; exact List.getElem_mem _)
      have HT : Hid (xs.take (k + 1) = xs.take k ++ [x]) := by
        unfold Hid
        rw [List.take_succ_eq_append_getElem hkl, hx]
      have HYr := Lib.hid (HBk.out.right fun y hy => HG.out y (List.take_subset _ _ hy))
      have hmn : m ≤ 300 := by omega
      clear hx hlen
      obtain ⟨c0, c1', c2, c3, c4, c5⟩ := hh
      have HBx := Lib.hid (Go.Proofs.Ythjlapcccmbhbaa.box_below wr (.cells #[.int .i64 x.1.a, .int .i64 x.1.b, .int .i64 x.1.c, .int .i64 x.1.d, .int .i64 x.1.e, .int .i64 x.2] 27))
      have HXx := Lib.hid (LkAt.new wr x)
      have HIns := Lib.hid (fun (w : World) (h : Ls w A1 c1 ys) (j : Nat) (hj : j ≤ m) => ins_run h HM.out hj (by omega) x)
      have HL2 := Lib.hid (HLs.out.below HBx.out)
      have HRw2 := Lib.hid (row_below HRow.out HBx.out)
      have HB2 := Lib.hid (thenCall HB.out HBx.out)
      obtain ⟨⟨xa, xb, xc, xd, xe⟩, xm⟩ := x
      simp only at c0 c1' c2 c3 c4 c5 HBx HXx HIns HL2 HB2 HRw2
      clear HRow HLs HB
      go_wp2_with fail
      obtain ⟨w2, hw2⟩ : ∃ w2, wr.alloc (.cells #[.int .i64 xa, .int .i64 xb, .int .i64 xc, .int .i64 xd, .int .i64 xe, .int .i64 xm] 27) = w2 := ⟨_, rfl⟩
      rw [hw2] at HXx HL2 HB2 HRw2 ⊢
      generalize wr.heap.size = Bx at HXx ⊢
      clear hw2 HBx c0 c1' c2 c3 c4 c5
      go_loopw [6] (fun i wr => ∃ j : Nat, j ≤ m ∧ i = .int .i64 (j : Nat) ∧ (∀ t (ht : t < ys.length), j ≤ t → ltU (⟨xa, xb, xc, xd, xe⟩, xm) ys[t] = true) ∧ Below w2.heap.size w2 wr) (fun i _ => (intOf i).toNat)
      case atStart => exact ⟨m, Nat.le_refl _, rfl, fun t ht h => by have := HM.out; omega, Below.refl _ _⟩
      case round =>
        obtain ⟨j, hj, rfl, hall, hbi⟩ := hrel
        have HAll := Lib.hid hall
        have HBi := Lib.hid hbi
        obtain ⟨d0, d1, d2, d3, d4, d5, dlt⟩ := HXx.out.later hbi
        simp only at d0 d1 d2 d3 d4 d5 dlt
        by_cases hj0 : j = 0
        · have g0 : decide ((0 : Int) < (j : Int)) = false := decide_eq_false (by omega)
          have g1 : ¬ (0 : Int) < (j : Int) := by omega
          have g3 : decide (0 < j) = false := decide_eq_false (by omega)
          have HAl := Lib.hid HAll.out
          have HLow : Hid (∀ hj : j - 1 < ys.length, 0 < j → ltU (⟨xa, xb, xc, xd, xe⟩, xm) ys[j - 1] = false) := fun _ h => by omega
          have HJ0 := Lib.hid hj0
          clear hj0
          go_wp2_with fail
          refine wp_region_later wr (by kernel_rfl) (by kernel_rfl) (Below.refl _ _) ?_
          repeat (go_big_quiet_step ((go_at_call 34; exact Pa.Gives.later (by with_reducible assumption))))
          refine wpQuiet_nil ?_
          rintro w7 ⟨⟨_, hb7⟩, rfl⟩
          have HB3 := Lib.hid (thenCall HBi.out hb7)
          clear hb7
          obtain ⟨A5, c5, w5, A6, c6, w6, hr5, hr6, hrow6, hb6⟩ := HIns.out w7 (HL2.out.below HB3.out) j (by omega)
          have hsz := Nat.le_trans HB2.out.size HB3.out.size
          have HRow6 := Lib.hid (row_base hrow6 hsz)
          have HB6 := Lib.hid (thenCall (thenCall HB2.out HB3.out) hb6)
          have HBkI := Lib.hid (HBk.out.ins HYr.out HXr.out (by rw [HM.out]; omega) HAl.out HLow.out)
          have hcap := (HL2.out.below HB3.out).cap
          have hroom := (HL2.out.below HB3.out).room
          rw [HM.out] at hcap
          unfold maxLen at hroom
          obtain ⟨e0, e1, e2, e3, e4, e5, elt⟩ := HXx.out.later HB3.out
          simp only at e0 e1 e2 e3 e4 e5 elt
          have HNil := Lib.hid (HL2.out.nil)
          clear hrow6 hb6 hsz HL2
          cases A1 with
          | none =>
            obtain rfl : c1 = 0 := HNil.out rfl
            obtain rfl : m = 0 := by omega
            obtain rfl : j = 0 := by omega
            rw [show tlA none 0 0 = none from rfl] at hr5
            simp only [Nat.sub_self, Nat.add_zero, Nat.zero_add] at hr5 hr6 HRow6
            have HR5 := Lib.hid hr5
            have HR6 := Lib.hid hr6
            clear hr5 hr6 
            go_wp2_with fail
            go_region_law (first
              | (refine step_append_run ?h1 (.tmp 61) (.tmp 64) 22 ?h2 (.slice (some ⟨w7.heap.size, 0, none⟩) 1 1) (.slice none 0 0) ?h3 ?h4 _ _ HR5.out ?_; rotate_right; (case h1 => rfl); (case h2 => rfl); (case h3 => kernel_rfl); (case h4 => kernel_rfl))
              | (refine step_append_run ?h1 (.tmp 59) (.tmp 65) 22 ?h2 (.slice none 0 0) (.slice A5 1 c5) ?h3 ?h4 _ _ HR6.out ?_; rotate_right; (case h1 => rfl); (case h2 => rfl); (case h3 => kernel_rfl); (case h4 => kernel_rfl)))
            all_goals
              go_wp2_with fail
              go_roundw
              case rel => exact ⟨k + 1, _, by omega, by go_num, HRow6.out, by rw [HT.out]; exact HBkI.out, HB6.out⟩
              case measure => simp [intOf]; omega
          | some a1 =>
            by_cases hck : c1 = j
            · have hmj : j = m := by omega
              subst hmj
              have hcj := hck.symm
              subst hcj
              rw [show tlA (some a1) (j) (j) = some a1 by unfold tlA; rw [if_pos rfl]] at hr5
              simp only [Nat.sub_self, Nat.add_zero] at hr5 hr6 HRow6
              have HR5 := Lib.hid hr5
              have HR6 := Lib.hid hr6
              clear hr5 hr6 
              go_wp2_with fail
              go_region_law (first
                | (refine step_append_run ?h1 (.tmp 61) (.tmp 64) 22 ?h2 (.slice (some ⟨w7.heap.size, 0, none⟩) 1 1) (.slice (some a1) 0 0) ?h3 ?h4 _ _ HR5.out ?_; rotate_right; (case h1 => rfl); (case h2 => rfl); (case h3 => kernel_rfl); (case h4 => kernel_rfl))
                | (refine step_append_run ?h1 (.tmp 59) (.tmp 65) 22 ?h2 (.slice (some a1) (j) (j)) (.slice A5 1 c5) ?h3 ?h4 _ _ HR6.out ?_; rotate_right; (case h1 => rfl); (case h2 => rfl); (case h3 => kernel_rfl); (case h4 => kernel_rfl)))
              all_goals
                go_wp2_with fail
                go_roundw
                case rel => exact ⟨k + 1, _, by omega, by go_num, HRow6.out, by rw [HT.out]; exact HBkI.out, HB6.out⟩
                case measure => simp [intOf]; omega
            · rw [show tlA (some a1) c1 (j) = some (a1.add ((j) * 6)) by unfold tlA; rw [if_neg hck]; rfl] at hr5
              have q7 : ((j : Nat) : Int) ≤ (m : Int) := by omega
              have q8 : ((j : Nat) : Int) ≤ (c1 : Int) := by omega
              have q9 : j ≤ c1 := by omega
              have HR5 := Lib.hid hr5
              have HR6 := Lib.hid hr6
              clear hr5 hr6 
              go_wp2_with fail
              go_region_law (first
                | (refine step_append_run ?h1 (.tmp 61) (.tmp 64) 22 ?h2 (.slice (some ⟨w7.heap.size, 0, none⟩) 1 1) (.slice (some (a1.add ((j) * 6))) (m - (j)) (c1 - (j))) ?h3 ?h4 _ _ HR5.out ?_; rotate_right; (case h1 => rfl); (case h2 => rfl); (case h3 => kernel_rfl); (case h4 => kernel_rfl))
                | (refine step_append_run ?h1 (.tmp 59) (.tmp 65) 22 ?h2 (.slice (some a1) (j) (j)) (.slice A5 (1 + (m - (j))) c5) ?h3 ?h4 _ _ HR6.out ?_; rotate_right; (case h1 => rfl); (case h2 => rfl); (case h3 => kernel_rfl); (case h4 => kernel_rfl)))
              all_goals
                go_wp2_with fail
                go_roundw
                case rel => exact ⟨k + 1, _, by omega, by go_num, HRow6.out, by rw [HT.out]; exact HBkI.out, HB6.out⟩
                case measure => simp [intOf]; omega
        · obtain ⟨t, ht⟩ : ∃ t, j = t + 1 := ⟨j - 1, by omega⟩
          have g0 : decide ((0 : Int) < (j : Int)) = true := decide_eq_true (by omega)
          have g1 : (0 : Int) < (j : Int) := by omega
          have g2 : 0 < j := by omega
          have g3 : decide (0 < j) = true := decide_eq_true g2
          have g4 : (j : Int) - 1 = (t : Int) := by omega
          have htl : t < ys.length := by rw [HM.out]; omega
          have g5 : (0 : Int) ≤ (t : Int) := by omega
          have g6 : (t : Int) < (m : Int) := by omega
          have HTJ := Lib.hid ht
          clear hj0
          obtain ⟨a1, rfl, hh1⟩ := ((HL2.out.below hbi).here htl)
          obtain ⟨B1, O1, hadd⟩ : ∃ B1 O1, a1.add (t * 6) = ⟨B1, O1, none⟩ := by
            rcases row_slice HRw2.out with ⟨A', c', e, h0⟩
            cases e
            rcases h0 with h0 | ⟨g, h0⟩
            · omega
            · cases h0
              exact ⟨g, t * 6, add_at _ _⟩
          obtain ⟨y, hy⟩ : ∃ y, ys[t] = y := ⟨_, rfl⟩
          have hyr : rightB y.1 = true := by rw [← hy]; exact HYr.out _ (List.getElem_mem _)
          obtain ⟨b, hb⟩ : ∃ b, ltU (⟨xa, xb, xc, xd, xe⟩, xm) y = b := ⟨_, rfl⟩
          have HLt : Hid (∀ h : t < ys.length, ltU (⟨xa, xb, xc, xd, xe⟩, xm) ys[t] = b) := fun _ => by rw [hy]; exact hb
          have hpr := ltU_parts hb
          rw [hy] at hh1
          clear hy hyr hb hall hbi htl ht
          obtain ⟨y0, y1, y2, y3, y4, y5⟩ := hh1
          rw [hadd] at y0 y1 y2 y3 y4 y5
          have ylt := cell_lt y0
          obtain ⟨⟨ya, yb, yc, yd, ye⟩, ym⟩ := y
          simp only at y0 y1 y2 y3 y4 y5 hpr ylt
          rcases hpr with ⟨h1, rfl⟩ | ⟨h1, rfl⟩ | ⟨h1, h2⟩
          · have k0 : decide (ye < xe) = true := decide_eq_true h1
            have HAl : Hid (∀ i (hi : i < ys.length), t ≤ i → ltU (⟨xa, xb, xc, xd, xe⟩, xm) ys[i] = true) := fun i hi h => by
              by_cases e : i = t
              · subst e; exact HLt.out hi
              · exact HAll.out i hi (by have := HTJ.out; omega)
            go_wp2_with fail
            refine wp_region_later wr (by kernel_rfl) (by kernel_rfl) (Below.refl _ _) ?_
            repeat (go_big_quiet_step ((go_at_call 34; exact Pa.Gives.later (by with_reducible assumption))))
            refine wpQuiet_nil ?_
            rintro w7 ⟨⟨_, hb7⟩, rfl⟩
            have HB3 := Lib.hid (thenCall HBi.out hb7)
            clear hb7
            go_wp2_with fail
            go_roundw
            case rel => exact ⟨t, by have := HTJ.out; omega, by go_num, HAl.out, HB3.out⟩
            case measure => (have := HTJ.out; simp [intOf]; omega)
          · have k0 : decide (ye < xe) = false := decide_eq_false (by omega)
            have k1 : ¬ ye < xe := by omega
            have k2 : ¬ ye = xe := by omega
            have k3 : (ye == xe) = false := by simpa using k2
            have k4 : decide (ye = xe) = false := decide_eq_false k2
            have HAl := Lib.hid HAll.out
            have HLow : Hid (∀ hj : j - 1 < ys.length, 0 < j → ltU (⟨xa, xb, xc, xd, xe⟩, xm) ys[j - 1] = false) := fun hj _ => by
              have e : j - 1 = t := by have := HTJ.out; omega
              have := HLt.out (by omega)
              simp only [e]
              exact this
            go_wp2_with fail
            refine wp_region_later wr (by kernel_rfl) (by kernel_rfl) (Below.refl _ _) ?_
            repeat (go_big_quiet_step ((go_at_call 34; exact Pa.Gives.later (by with_reducible assumption))))
            refine wpQuiet_nil ?_
            rintro w7 ⟨⟨_, hb7⟩, rfl⟩
            have HB3 := Lib.hid (thenCall HBi.out hb7)
            clear hb7
            obtain ⟨A5, c5, w5, A6, c6, w6, hr5, hr6, hrow6, hb6⟩ := HIns.out w7 (HL2.out.below HB3.out) j (by omega)
            have hsz := Nat.le_trans HB2.out.size HB3.out.size
            have HRow6 := Lib.hid (row_base hrow6 hsz)
            have HB6 := Lib.hid (thenCall (thenCall HB2.out HB3.out) hb6)
            have HBkI := Lib.hid (HBk.out.ins HYr.out HXr.out (by rw [HM.out]; omega) HAl.out HLow.out)
            have hcap := (HL2.out.below HB3.out).cap
            have hroom := (HL2.out.below HB3.out).room
            rw [HM.out] at hcap
            unfold maxLen at hroom
            obtain ⟨e0, e1, e2, e3, e4, e5, elt⟩ := HXx.out.later HB3.out
            simp only at e0 e1 e2 e3 e4 e5 elt
            have HNil := Lib.hid (HL2.out.nil)
            clear hrow6 hb6 hsz HL2
            by_cases hck : c1 = j
            · have hmj : j = m := by omega
              subst hmj
              have hcj := hck.symm
              subst hcj
              rw [show tlA (some a1) (j) (j) = some a1 by unfold tlA; rw [if_pos rfl]] at hr5
              simp only [Nat.sub_self, Nat.add_zero] at hr5 hr6 HRow6
              have HR5 := Lib.hid hr5
              have HR6 := Lib.hid hr6
              clear hr5 hr6 
              go_wp2_with fail
              go_region_law (first
                | (refine step_append_run ?h1 (.tmp 61) (.tmp 64) 22 ?h2 (.slice (some ⟨w7.heap.size, 0, none⟩) 1 1) (.slice (some a1) 0 0) ?h3 ?h4 _ _ HR5.out ?_; rotate_right; (case h1 => rfl); (case h2 => rfl); (case h3 => kernel_rfl); (case h4 => kernel_rfl))
                | (refine step_append_run ?h1 (.tmp 59) (.tmp 65) 22 ?h2 (.slice (some a1) (j) (j)) (.slice A5 1 c5) ?h3 ?h4 _ _ HR6.out ?_; rotate_right; (case h1 => rfl); (case h2 => rfl); (case h3 => kernel_rfl); (case h4 => kernel_rfl)))
              all_goals
                go_wp2_with fail
                go_roundw
                case rel => exact ⟨k + 1, _, by omega, by go_num, HRow6.out, by rw [HT.out]; exact HBkI.out, HB6.out⟩
                case measure => simp [intOf]; omega
            · rw [show tlA (some a1) c1 (j) = some (a1.add ((j) * 6)) by unfold tlA; rw [if_neg hck]; rfl] at hr5
              have q7 : ((j : Nat) : Int) ≤ (m : Int) := by omega
              have q8 : ((j : Nat) : Int) ≤ (c1 : Int) := by omega
              have q9 : j ≤ c1 := by omega
              have HR5 := Lib.hid hr5
              have HR6 := Lib.hid hr6
              clear hr5 hr6 
              go_wp2_with fail
              go_region_law (first
                | (refine step_append_run ?h1 (.tmp 61) (.tmp 64) 22 ?h2 (.slice (some ⟨w7.heap.size, 0, none⟩) 1 1) (.slice (some (a1.add ((j) * 6))) (m - (j)) (c1 - (j))) ?h3 ?h4 _ _ HR5.out ?_; rotate_right; (case h1 => rfl); (case h2 => rfl); (case h3 => kernel_rfl); (case h4 => kernel_rfl))
                | (refine step_append_run ?h1 (.tmp 59) (.tmp 65) 22 ?h2 (.slice (some a1) (j) (j)) (.slice A5 (1 + (m - (j))) c5) ?h3 ?h4 _ _ HR6.out ?_; rotate_right; (case h1 => rfl); (case h2 => rfl); (case h3 => kernel_rfl); (case h4 => kernel_rfl)))
              all_goals
                go_wp2_with fail
                go_roundw
                case rel => exact ⟨k + 1, _, by omega, by go_num, HRow6.out, by rw [HT.out]; exact HBkI.out, HB6.out⟩
                case measure => simp [intOf]; omega
          · have gL : Pa.Gives wr 34 #[.agg #[.int .i64 xa, .int .i64 xb, .int .i64 xc, .int .i64 xd, .int .i64 xe], .agg #[.int .i64 ya, .int .i64 yb, .int .i64 yc, .int .i64 yd, .int .i64 ye]] (.bool b) := rless_g (w := wr) (p := ⟨xa, xb, xc, xd, xe⟩) (q := ⟨ya, yb, yc, yd, ye⟩) (b := b) h2
            subst h1
            clear h2
            cases b
            · have HAl := Lib.hid HAll.out
              have HLow : Hid (∀ hj : j - 1 < ys.length, 0 < j → ltU (⟨xa, xb, xc, xd, xe⟩, xm) ys[j - 1] = false) := fun hj _ => by
                have e : j - 1 = t := by have := HTJ.out; omega
                have := HLt.out (by omega)
                simp only [e]
                exact this
              go_wp2_with fail
              refine wp_region_later wr (by kernel_rfl) (by kernel_rfl) (Below.refl _ _) ?_
              repeat (go_big_quiet_step ((go_at_call 34; exact Pa.Gives.later (by with_reducible assumption))))
              refine wpQuiet_nil ?_
              rintro w7 ⟨⟨_, hb7⟩, rfl⟩
              have HB3 := Lib.hid (thenCall HBi.out hb7)
              clear hb7
              obtain ⟨A5, c5, w5, A6, c6, w6, hr5, hr6, hrow6, hb6⟩ := HIns.out w7 (HL2.out.below HB3.out) j (by omega)
              have hsz := Nat.le_trans HB2.out.size HB3.out.size
              have HRow6 := Lib.hid (row_base hrow6 hsz)
              have HB6 := Lib.hid (thenCall (thenCall HB2.out HB3.out) hb6)
              have HBkI := Lib.hid (HBk.out.ins HYr.out HXr.out (by rw [HM.out]; omega) HAl.out HLow.out)
              have hcap := (HL2.out.below HB3.out).cap
              have hroom := (HL2.out.below HB3.out).room
              rw [HM.out] at hcap
              unfold maxLen at hroom
              obtain ⟨e0, e1, e2, e3, e4, e5, elt⟩ := HXx.out.later HB3.out
              simp only at e0 e1 e2 e3 e4 e5 elt
              have HNil := Lib.hid (HL2.out.nil)
              clear hrow6 hb6 hsz HL2
              by_cases hck : c1 = j
              · have hmj : j = m := by omega
                subst hmj
                have hcj := hck.symm
                subst hcj
                rw [show tlA (some a1) (j) (j) = some a1 by unfold tlA; rw [if_pos rfl]] at hr5
                simp only [Nat.sub_self, Nat.add_zero] at hr5 hr6 HRow6
                have HR5 := Lib.hid hr5
                have HR6 := Lib.hid hr6
                clear hr5 hr6 
                go_wp2_with fail
                go_region_law (first
                  | (refine step_append_run ?h1 (.tmp 61) (.tmp 64) 22 ?h2 (.slice (some ⟨w7.heap.size, 0, none⟩) 1 1) (.slice (some a1) 0 0) ?h3 ?h4 _ _ HR5.out ?_; rotate_right; (case h1 => rfl); (case h2 => rfl); (case h3 => kernel_rfl); (case h4 => kernel_rfl))
                  | (refine step_append_run ?h1 (.tmp 59) (.tmp 65) 22 ?h2 (.slice (some a1) (j) (j)) (.slice A5 1 c5) ?h3 ?h4 _ _ HR6.out ?_; rotate_right; (case h1 => rfl); (case h2 => rfl); (case h3 => kernel_rfl); (case h4 => kernel_rfl)))
                all_goals
                  go_wp2_with fail
                  go_roundw
                  case rel => exact ⟨k + 1, _, by omega, by go_num, HRow6.out, by rw [HT.out]; exact HBkI.out, HB6.out⟩
                  case measure => simp [intOf]; omega
              · rw [show tlA (some a1) c1 (j) = some (a1.add ((j) * 6)) by unfold tlA; rw [if_neg hck]; rfl] at hr5
                have q7 : ((j : Nat) : Int) ≤ (m : Int) := by omega
                have q8 : ((j : Nat) : Int) ≤ (c1 : Int) := by omega
                have q9 : j ≤ c1 := by omega
                have HR5 := Lib.hid hr5
                have HR6 := Lib.hid hr6
                clear hr5 hr6 
                go_wp2_with fail
                go_region_law (first
                  | (refine step_append_run ?h1 (.tmp 61) (.tmp 64) 22 ?h2 (.slice (some ⟨w7.heap.size, 0, none⟩) 1 1) (.slice (some (a1.add ((j) * 6))) (m - (j)) (c1 - (j))) ?h3 ?h4 _ _ HR5.out ?_; rotate_right; (case h1 => rfl); (case h2 => rfl); (case h3 => kernel_rfl); (case h4 => kernel_rfl))
                  | (refine step_append_run ?h1 (.tmp 59) (.tmp 65) 22 ?h2 (.slice (some a1) (j) (j)) (.slice A5 (1 + (m - (j))) c5) ?h3 ?h4 _ _ HR6.out ?_; rotate_right; (case h1 => rfl); (case h2 => rfl); (case h3 => kernel_rfl); (case h4 => kernel_rfl)))
                all_goals
                  go_wp2_with fail
                  go_roundw
                  case rel => exact ⟨k + 1, _, by omega, by go_num, HRow6.out, by rw [HT.out]; exact HBkI.out, HB6.out⟩
                  case measure => simp [intOf]; omega
            · have HAl : Hid (∀ i (hi : i < ys.length), t ≤ i → ltU (⟨xa, xb, xc, xd, xe⟩, xm) ys[i] = true) := fun i hi h => by
                by_cases e : i = t
                · subst e; exact HLt.out hi
                · exact HAll.out i hi (by have := HTJ.out; omega)
              go_wp2_with fail
              refine wp_region_later wr (by kernel_rfl) (by kernel_rfl) (Below.refl _ _) ?_
              repeat (go_big_quiet_step ((go_at_call 34; exact Pa.Gives.later (by with_reducible assumption))))
              refine wpQuiet_nil ?_
              rintro w7 ⟨⟨_, hb7⟩, rfl⟩
              have HB3 := Lib.hid (thenCall HBi.out hb7)
              clear hb7
              go_wp2_with fail
              go_roundw
              case rel => exact ⟨t, by have := HTJ.out; omega, by go_num, HAl.out, HB3.out⟩
              case measure => (have := HTJ.out; simp [intOf]; omega)
    · obtain rfl : k = n := by omega
      have HTk : Hid (xs.take k = xs) := List.take_of_length_le (Nat.le_of_eq HN.out)
      rw [HTk.out] at HBk
      go_wp2_with fail
      go_ret
      exact ⟨ys, HBk.out, A1, c1, by rw [HM.out]; rfl, HLs.out, HB.out⟩
end
end Go.Proofs.Ythjlapcccmbhbaa.Lk
