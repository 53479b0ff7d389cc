/- What is held right below a node: the document's answer. -/
import Derived.Test.YthjlapcccmbhbaaYg
namespace Go.Proofs.Ythjlapcccmbhbaa.Lk
open Go Go.RowKit Go.Shelf Pa
set_option maxRecDepth 100000

theorem kid_less {x y : Hd} {q : Pt} {b : Bool} (hx : kidB x.1 q = true) (hy : kidB y.1 q = true) (h : ltU x y = b) : lessB x.1 y.1 = b := by
  have e : ∀ {z : Pt}, kidB z q = true → q.e = z.e - 1 := fun {z} hz => by
    unfold kidB at hz
    rw [Bool.and_eq_true] at hz
    rw [← (eqP_iff _ _).1 hz.2]
    rfl
  have e1 := e hx
  have e2 := e hy
  rcases ltU_parts h with ⟨h1, -⟩ | ⟨h1, -⟩ | ⟨-, h2⟩
  · omega
  · omega
  · exact h2
theorem up_kid (x p : Pt) : ∃ (y : Pt) (r : Bool), upV x = .tuple #[y.v, .bool r] ∧ kidB x p = (r && eqP y p) := by
  by_cases h : rightB x = true ∧ x.e ≠ 1
  · refine ⟨cutP x (x.e - 1), true, by unfold upV; rw [if_pos h], ?_⟩
    have h2 : (x.e == 1) = false := by simpa using h.2
    unfold kidB
    rw [h.1, h2]
    rfl
  · refine ⟨⟨0, 0, 0, 0, 0⟩, false, by unfold upV; rw [if_neg h], ?_⟩
    unfold kidB
    cases h1 : rightB x
    · rfl
    · cases h2 : (x.e == 1)
      · exact absurd ⟨h1, by simpa using h2⟩ h
      · rfl
section
variable {W W' : World} {A : Option Addr} {c : Nat} {xs : List Hd}
set_option maxHeartbeats 8000000 in
theorem rkids_any (hr : Ls W A c xs) (hl : xs.length ≤ 300) (q : Pt) : Calls Try.prog 12 #[.slice A xs.length c, q.v] W (Picks W (fun x => kidB x q) xs) := by
  have hx := Go.Proofs.Ythjlapcccmbhbaa.box_below W (.cells #[.int .i64 q.a, .int .i64 q.b, .int .i64 q.c, .int .i64 q.d, .int .i64 q.e] 25)
  have HR := Lib.hid (hr.below hx)
  have HX := Lib.hid hx
  have HQ := Lib.hid (PtAt.new W q.a q.b q.c q.d q.e)
  obtain ⟨n, hn⟩ : ∃ n, xs.length = n := ⟨_, rfl⟩
  have HN := Lib.hid hn
  rw [hn] at hl ⊢
  clear hr hn hx
  obtain ⟨qa, qb, qc, qd, qe⟩ := q
  simp only at HX HQ HR
  go_enter Try.func12, Try.ntmps12
  go_wp2_with fail
  unfold boxed at HQ
  generalize W.alloc (.cells #[.int .i64 qa, .int .i64 qb, .int .i64 qc, .int .i64 qd, .int .i64 qe] 25) = W1 at *
  go_loopw [5, 13] (fun l i wr => ∃ (k : Nat) (ys : List Hd), k ≤ n ∧ i = .int .i64 (k : Nat) ∧ Row wr W1.heap.size l ys ∧ Bk (fitL (fun x => kidB x ⟨qa, qb, qc, qd, qe⟩) (xs.take k)) ys ∧ Below W1.heap.size W1 wr) (fun _ i _ => n - (intOf i).toNat)
  case atStart => exact ⟨0, [], by omega, rfl, World.ownsRow_nil _ _ _ _, Bk.nil, Below.refl _ _⟩
  case round =>
    obtain ⟨k, ys, hk, rfl, hrow, hbk, hb⟩ := hrel
    have HRow := Lib.hid hrow
    have HBk := Lib.hid hbk
    have HB := Lib.hid hb
    obtain ⟨A1, c1, rfl, hls⟩ := hrow.ls
    have HLs := Lib.hid hls
    have hlen := hbk.len
    have hfl := fit_len (fun x => kidB x ⟨qa, qb, qc, qd, qe⟩) (xs.take k)
    rw [List.length_take] at hfl
    obtain ⟨m, hm⟩ : ∃ m, ys.length = m := ⟨_, rfl⟩
    have HM := Lib.hid hm
    rw [hm] at hlen ⊢
    have hmn0 : m ≤ k := by omega
    clear hrow hbk hb hls hm hlen hfl
    by_cases hlt : k < n
    · have i1 : (0 : Int) ≤ (k : Int) := by omega
      have i2 : (k : Int) < (n : Int) := by omega
      have hkl : k < xs.length := by rw [HN.out]; exact hlt
      obtain ⟨a, rfl, hh⟩ := (HR.out.below HB.out).here hkl
      obtain ⟨x, hx⟩ : ∃ x, xs[k] = x := ⟨_, rfl⟩
      rw [hx] at hh
      have HT : Hid (fitL (fun x => kidB x ⟨qa, qb, qc, qd, qe⟩) (xs.take (k + 1)) = fitL (fun x => kidB x ⟨qa, qb, qc, qd, qe⟩) (xs.take k) ++ if kidB x.1 ⟨qa, qb, qc, qd, qe⟩ then [x] else []) := by
        unfold Hid
        rw [List.take_succ_eq_append_getElem hkl, hx, fit_snoc]
      have HYk : Hid (∀ y ∈ ys, kidB y.1 ⟨qa, qb, qc, qd, qe⟩ = true) := fun y hy => (List.mem_filter.1 (HBk.out.stb.perm.mem_iff.1 hy)).2
      have HYr : Hid (∀ y ∈ ys, rightB y.1 = true) := fun y hy => kid_right (HYk.out y hy)
      have hmn : m ≤ 300 := by omega
      clear hx
      obtain ⟨c0, c1', c2, c3, c4, c5⟩ := hh
      have HBx := Lib.hid (Go.Proofs.Ythjlapcccmbhbaa.box_below wr (.cells #[.int .i64 x.1.a, .int .i64 x.1.b, .int .i64 x.1.c, .int .i64 x.1.d, .int .i64 x.1.e, .int .i64 x.2] 27))
      have HXx := Lib.hid (LkAt.new wr x)
      have HIns := Lib.hid (fun (w : World) (h : Ls w A1 c1 ys) (j : Nat) (hj : j ≤ m) => ins_run h HM.out hj (by omega) x)
      have HL2 := Lib.hid (HLs.out.below HBx.out)
      have HRw2 := Lib.hid (row_below HRow.out HBx.out)
      have HB2 := Lib.hid (thenCall HB.out HBx.out)
      have HUp := Lib.hid (fun w => rup_any x.1 w)
      have HQ2 := Lib.hid (HQ.out.later HB2.out)
      obtain ⟨⟨xa, xb, xc, xd, xe⟩, xm⟩ := x
      simp only at c0 c1' c2 c3 c4 c5 HBx HXx HIns HL2 HB2 HRw2 HUp HT
      clear HRow HLs HB
      obtain ⟨u, r, hu, hk2⟩ := up_kid ⟨xa, xb, xc, xd, xe⟩ ⟨qa, qb, qc, qd, qe⟩
      simp only [hu] at HUp
      have HK2 := Lib.hid hk2
      clear hu hk2
      obtain ⟨ua, ub, uc, ud, ue⟩ := u
      go_wp2_with fail
      refine (HUp.out _).mono ?_
      rintro e3 w3 ⟨rfl, hb3⟩
      have hbu := Go.Proofs.Ythjlapcccmbhbaa.box_below w3 (.cells #[.int .i64 ua, .int .i64 ub, .int .i64 uc, .int .i64 ud, .int .i64 ue] 25)
      replace HXx := Lib.hid ((HXx.out.later hb3).later hbu)
      replace HL2 := Lib.hid ((HL2.out.below hb3).below hbu)
      replace HRw2 := Lib.hid (row_below (row_below HRw2.out hb3) hbu)
      replace HB2 := Lib.hid (thenCall (thenCall HB2.out hb3) hbu)
      have hq3 := (HQ2.out.later hb3)
      obtain ⟨q0, q1, q2, q3, q4, qlt⟩ := hq3
      simp only at q0 q1 q2 q3 q4 qlt
      have hne3 : ¬ W.heap.size = w3.heap.size := Nat.ne_of_lt qlt
      have hxl : wr.heap.size < w3.heap.size := by have := hb3.size; rw [World.size_alloc] at this; omega
      have hne4 : ¬ wr.heap.size = w3.heap.size := Nat.ne_of_lt hxl
      clear hb3 hbu HUp HQ2 HBx c0 c1' c2 c3 c4 c5
      cases r
      · have HTn : Hid (fitL (fun x => kidB x ⟨qa, qb, qc, qd, qe⟩) (xs.take (k + 1)) = fitL (fun x => kidB x ⟨qa, qb, qc, qd, qe⟩) (xs.take k) ++ []) := by
          have := HT.out
          rw [HK2.out] at this
          exact this
        clear HT HK2
        go_wp2_with fail
        go_roundw
        case rel => exact ⟨k + 1, ys, by omega, by go_num, by have h := HRw2.out; rw [HM.out] at h; unfold Row; rw [HM.out]; exact h, by rw [HTn.out, List.append_nil]; exact HBk.out, HB2.out⟩
        case measure => simp [intOf]; omega
      · cases he : eqP ⟨ua, ub, uc, ud, ue⟩ ⟨qa, qb, qc, qd, qe⟩
        · have HTn : Hid (fitL (fun x => kidB x ⟨qa, qb, qc, qd, qe⟩) (xs.take (k + 1)) = fitL (fun x => kidB x ⟨qa, qb, qc, qd, qe⟩) (xs.take k) ++ []) := by
            have := HT.out
            rw [HK2.out, he] at this
            exact this
          clear HT HK2
          go_wp2_with fail
          go_roundw
          case rel => exact ⟨k + 1, ys, by omega, by go_num, by have h := HRw2.out; rw [HM.out] at h; unfold Row; rw [HM.out]; exact h, by rw [HTn.out, List.append_nil]; exact HBk.out, HB2.out⟩
          case measure => simp [intOf]; omega
        · have HKx : Hid (kidB ⟨xa, xb, xc, xd, xe⟩ ⟨qa, qb, qc, qd, qe⟩ = true) := by unfold Hid; rw [HK2.out, he]; rfl
          have HXr : Hid (rightB (⟨xa, xb, xc, xd, xe⟩ : Pt) = true) := kid_right HKx.out
          have HTy : Hid (fitL (fun x => kidB x ⟨qa, qb, qc, qd, qe⟩) (xs.take (k + 1)) = fitL (fun x => kidB x ⟨qa, qb, qc, qd, qe⟩) (xs.take k) ++ [(⟨xa, xb, xc, xd, xe⟩, xm)]) := by
            have := HT.out
            rw [HKx.out] at this
            exact this
          clear HT HK2
          go_wp2_with fail
          obtain ⟨w2, hw2⟩ : ∃ w2, w3.alloc (.cells #[.int .i64 ua, .int .i64 ub, .int .i64 uc, .int .i64 ud, .int .i64 ue] 25) = w2 := ⟨_, rfl⟩
          rw [hw2] at HXx HL2 HB2 HRw2 ⊢
          clear q0 q1 q2 q3 q4 qlt hne3 hne4 hxl he
          generalize wr.heap.size = Bx at HXx ⊢
          clear hw2
          go_loopw [10] (fun i wr => ∃ j : Nat, j ≤ m ∧ i = .int .i64 (j : Nat) ∧ (∀ t (ht : t < ys.length), j ≤ t → ltU (⟨xa, xb, xc, xd, xe⟩, xm) ys[t] = true) ∧ Below w2.heap.size w2 wr) (fun i _ => (intOf i).toNat)
          case atStart => exact ⟨m, Nat.le_refl _, rfl, fun t ht h => by have := HM.out; omega, Below.refl _ _⟩
          case round =>
            obtain ⟨j, hj, rfl, hall, hbi⟩ := hrel
            have HAll := Lib.hid hall
            have HBi := Lib.hid hbi
            obtain ⟨d0, d1, d2, d3, d4, d5, dlt⟩ := HXx.out.later hbi
            simp only at d0 d1 d2 d3 d4 d5 dlt
            by_cases hj0 : j = 0
            · have g0 : decide ((0 : Int) < (j : Int)) = false := decide_eq_false (by omega)
              have g1 : ¬ (0 : Int) < (j : Int) := by omega
              have g3 : decide (0 < j) = false := decide_eq_false (by omega)
              have HAl := Lib.hid HAll.out
              have HLow : Hid (∀ hj : j - 1 < ys.length, 0 < j → ltU (⟨xa, xb, xc, xd, xe⟩, xm) ys[j - 1] = false) := fun _ h => by omega
              have HJ0 := Lib.hid hj0
              clear hj0
              go_wp2_with fail
              refine wp_region_later wr (by kernel_rfl) (by kernel_rfl) (Below.refl _ _) ?_
              repeat (go_big_quiet_step ((go_at_call 34; exact Pa.Gives.later (by with_reducible assumption))))
              refine wpQuiet_nil ?_
              rintro w7 ⟨⟨_, hb7⟩, rfl⟩
              have HB3 := Lib.hid (thenCall HBi.out hb7)
              clear hb7
              obtain ⟨A5, c5, w5, A6, c6, w6, hr5, hr6, hrow6, hb6⟩ := HIns.out w7 (HL2.out.below HB3.out) j (by omega)
              have hsz := Nat.le_trans HB2.out.size HB3.out.size
              have HRow6 := Lib.hid (row_base hrow6 hsz)
              have HB6 := Lib.hid (thenCall (thenCall HB2.out HB3.out) hb6)
              have HBkI := Lib.hid (HBk.out.ins HYr.out HXr.out (by rw [HM.out]; omega) HAl.out HLow.out)
              have hcap := (HL2.out.below HB3.out).cap
              have hroom := (HL2.out.below HB3.out).room
              rw [HM.out] at hcap
              unfold maxLen at hroom
              obtain ⟨e0, e1, e2, e3, e4, e5, elt⟩ := HXx.out.later HB3.out
              simp only at e0 e1 e2 e3 e4 e5 elt
              have HNil := Lib.hid (HL2.out.nil)
              clear hrow6 hb6 hsz HL2
              cases A1 with
              | none =>
                obtain rfl : c1 = 0 := HNil.out rfl
                obtain rfl : m = 0 := by omega
                obtain rfl : j = 0 := by omega
                rw [show tlA none 0 0 = none from rfl] at hr5
                simp only [Nat.sub_self, Nat.add_zero, Nat.zero_add] at hr5 hr6 HRow6
                have HR5 := Lib.hid hr5
                have HR6 := Lib.hid hr6
                clear hr5 hr6 
                go_wp2_with fail
                go_region_law (first
                  | (refine step_append_run ?h1 (.tmp 52) (.tmp 55) 22 ?h2 (.slice (some ⟨w7.heap.size, 0, none⟩) 1 1) (.slice none 0 0) ?h3 ?h4 _ _ HR5.out ?_; rotate_right; (case h1 => rfl); (case h2 => rfl); (case h3 => kernel_rfl); (case h4 => kernel_rfl))
                  | (refine step_append_run ?h1 (.tmp 50) (.tmp 56) 22 ?h2 (.slice none 0 0) (.slice A5 1 c5) ?h3 ?h4 _ _ HR6.out ?_; rotate_right; (case h1 => rfl); (case h2 => rfl); (case h3 => kernel_rfl); (case h4 => kernel_rfl)))
                all_goals
                  go_wp2_with fail
                  go_roundw
                  case rel => exact ⟨k + 1, _, by omega, by go_num, HRow6.out, by rw [HTy.out]; exact HBkI.out, HB6.out⟩
                  case measure => simp [intOf]; omega
              | some a1 =>
                by_cases hck : c1 = j
                · have hmj : j = m := by omega
                  subst hmj
                  have hcj := hck.symm
                  subst hcj
                  rw [show tlA (some a1) (j) (j) = some a1 by unfold tlA; rw [if_pos rfl]] at hr5
                  simp only [Nat.sub_self, Nat.add_zero] at hr5 hr6 HRow6
                  have HR5 := Lib.hid hr5
                  have HR6 := Lib.hid hr6
                  clear hr5 hr6 
                  go_wp2_with fail
                  go_region_law (first
                    | (refine step_append_run ?h1 (.tmp 52) (.tmp 55) 22 ?h2 (.slice (some ⟨w7.heap.size, 0, none⟩) 1 1) (.slice (some a1) 0 0) ?h3 ?h4 _ _ HR5.out ?_; rotate_right; (case h1 => rfl); (case h2 => rfl); (case h3 => kernel_rfl); (case h4 => kernel_rfl))
                    | (refine step_append_run ?h1 (.tmp 50) (.tmp 56) 22 ?h2 (.slice (some a1) (j) (j)) (.slice A5 1 c5) ?h3 ?h4 _ _ HR6.out ?_; rotate_right; (case h1 => rfl); (case h2 => rfl); (case h3 => kernel_rfl); (case h4 => kernel_rfl)))
                  all_goals
                    go_wp2_with fail
                    go_roundw
                    case rel => exact ⟨k + 1, _, by omega, by go_num, HRow6.out, by rw [HTy.out]; exact HBkI.out, HB6.out⟩
                    case measure => simp [intOf]; omega
                · rw [show tlA (some a1) c1 (j) = some (a1.add ((j) * 6)) by unfold tlA; rw [if_neg hck]; rfl] at hr5
                  have q7 : ((j : Nat) : Int) ≤ (m : Int) := by omega
                  have q8 : ((j : Nat) : Int) ≤ (c1 : Int) := by omega
                  have q9 : j ≤ c1 := by omega
                  have HR5 := Lib.hid hr5
                  have HR6 := Lib.hid hr6
                  clear hr5 hr6 
                  go_wp2_with fail
                  go_region_law (first
                    | (refine step_append_run ?h1 (.tmp 52) (.tmp 55) 22 ?h2 (.slice (some ⟨w7.heap.size, 0, none⟩) 1 1) (.slice (some (a1.add ((j) * 6))) (m - (j)) (c1 - (j))) ?h3 ?h4 _ _ HR5.out ?_; rotate_right; (case h1 => rfl); (case h2 => rfl); (case h3 => kernel_rfl); (case h4 => kernel_rfl))
                    | (refine step_append_run ?h1 (.tmp 50) (.tmp 56) 22 ?h2 (.slice (some a1) (j) (j)) (.slice A5 (1 + (m - (j))) c5) ?h3 ?h4 _ _ HR6.out ?_; rotate_right; (case h1 => rfl); (case h2 => rfl); (case h3 => kernel_rfl); (case h4 => kernel_rfl)))
                  all_goals
                    go_wp2_with fail
                    go_roundw
                    case rel => exact ⟨k + 1, _, by omega, by go_num, HRow6.out, by rw [HTy.out]; exact HBkI.out, HB6.out⟩
                    case measure => simp [intOf]; omega
            · obtain ⟨t, ht⟩ : ∃ t, j = t + 1 := ⟨j - 1, by omega⟩
              have g0 : decide ((0 : Int) < (j : Int)) = true := decide_eq_true (by omega)
              have g1 : (0 : Int) < (j : Int) := by omega
              have g2 : 0 < j := by omega
              have g3 : decide (0 < j) = true := decide_eq_true g2
              have g4 : (j : Int) - 1 = (t : Int) := by omega
              have htl : t < ys.length := by rw [HM.out]; omega
              have g5 : (0 : Int) ≤ (t : Int) := by omega
              have g6 : (t : Int) < (m : Int) := by omega
              have HTJ := Lib.hid ht
              clear hj0
              obtain ⟨a1, rfl, hh1⟩ := ((HL2.out.below hbi).here htl)
              obtain ⟨B1, O1, hadd⟩ : ∃ B1 O1, a1.add (t * 6) = ⟨B1, O1, none⟩ := by
                rcases row_slice HRw2.out with ⟨A', c', e, h0⟩
                cases e
                rcases h0 with h0 | ⟨g, h0⟩
                · omega
                · cases h0
                  exact ⟨g, t * 6, add_at _ _⟩
              obtain ⟨y, hy⟩ : ∃ y, ys[t] = y := ⟨_, rfl⟩
              have hyk : kidB y.1 ⟨qa, qb, qc, qd, qe⟩ = true := by rw [← hy]; exact HYk.out _ (List.getElem_mem _)
              obtain ⟨b, hb⟩ : ∃ b, ltU (⟨xa, xb, xc, xd, xe⟩, xm) y = b := ⟨_, rfl⟩
              have HLt : Hid (∀ h : t < ys.length, ltU (⟨xa, xb, xc, xd, xe⟩, xm) ys[t] = b) := fun _ => by rw [hy]; exact hb
              have h2 := kid_less HKx.out hyk hb
              rw [hy] at hh1
              clear hy hyk hb hall hbi htl ht
              obtain ⟨y0, y1, y2, y3, y4, y5⟩ := hh1
              rw [hadd] at y0 y1 y2 y3 y4 y5
              have ylt := cell_lt y0
              obtain ⟨⟨ya, yb, yc, yd, ye⟩, ym⟩ := y
              simp only at y0 y1 y2 y3 y4 y5 h2 ylt
              have gL : Pa.Gives wr 34 #[.agg #[.int .i64 xa, .int .i64 xb, .int .i64 xc, .int .i64 xd, .int .i64 xe], .agg #[.int .i64 ya, .int .i64 yb, .int .i64 yc, .int .i64 yd, .int .i64 ye]] (.bool b) := rless_g (w := wr) (p := ⟨xa, xb, xc, xd, xe⟩) (q := ⟨ya, yb, yc, yd, ye⟩) (b := b) h2
              clear h2
              cases b
              · have HAl := Lib.hid HAll.out
                have HLow : Hid (∀ hj : j - 1 < ys.length, 0 < j → ltU (⟨xa, xb, xc, xd, xe⟩, xm) ys[j - 1] = false) := fun hj _ => by
                  have e : j - 1 = t := by have := HTJ.out; omega
                  have := HLt.out (by omega)
                  simp only [e]
                  exact this
                go_wp2_with fail
                refine wp_region_later wr (by kernel_rfl) (by kernel_rfl) (Below.refl _ _) ?_
                repeat (go_big_quiet_step ((go_at_call 34; exact Pa.Gives.later (by with_reducible assumption))))
                refine wpQuiet_nil ?_
                rintro w7 ⟨⟨_, hb7⟩, rfl⟩
                have HB3 := Lib.hid (thenCall HBi.out hb7)
                clear hb7
                obtain ⟨A5, c5, w5, A6, c6, w6, hr5, hr6, hrow6, hb6⟩ := HIns.out w7 (HL2.out.below HB3.out) j (by omega)
                have hsz := Nat.le_trans HB2.out.size HB3.out.size
                have HRow6 := Lib.hid (row_base hrow6 hsz)
                have HB6 := Lib.hid (thenCall (thenCall HB2.out HB3.out) hb6)
                have HBkI := Lib.hid (HBk.out.ins HYr.out HXr.out (by rw [HM.out]; omega) HAl.out HLow.out)
                have hcap := (HL2.out.below HB3.out).cap
                have hroom := (HL2.out.below HB3.out).room
                rw [HM.out] at hcap
                unfold maxLen at hroom
                obtain ⟨e0, e1, e2, e3, e4, e5, elt⟩ := HXx.out.later HB3.out
                simp only at e0 e1 e2 e3 e4 e5 elt
                have HNil := Lib.hid (HL2.out.nil)
                clear hrow6 hb6 hsz HL2
                by_cases hck : c1 = j
                · have hmj : j = m := by omega
                  subst hmj
                  have hcj := hck.symm
                  subst hcj
                  rw [show tlA (some a1) (j) (j) = some a1 by unfold tlA; rw [if_pos rfl]] at hr5
                  simp only [Nat.sub_self, Nat.add_zero] at hr5 hr6 HRow6
                  have HR5 := Lib.hid hr5
                  have HR6 := Lib.hid hr6
                  clear hr5 hr6 
                  go_wp2_with fail
                  go_region_law (first
                    | (refine step_append_run ?h1 (.tmp 52) (.tmp 55) 22 ?h2 (.slice (some ⟨w7.heap.size, 0, none⟩) 1 1) (.slice (some a1) 0 0) ?h3 ?h4 _ _ HR5.out ?_; rotate_right; (case h1 => rfl); (case h2 => rfl); (case h3 => kernel_rfl); (case h4 => kernel_rfl))
                    | (refine step_append_run ?h1 (.tmp 50) (.tmp 56) 22 ?h2 (.slice (some a1) (j) (j)) (.slice A5 1 c5) ?h3 ?h4 _ _ HR6.out ?_; rotate_right; (case h1 => rfl); (case h2 => rfl); (case h3 => kernel_rfl); (case h4 => kernel_rfl)))
                  all_goals
                    go_wp2_with fail
                    go_roundw
                    case rel => exact ⟨k + 1, _, by omega, by go_num, HRow6.out, by rw [HTy.out]; exact HBkI.out, HB6.out⟩
                    case measure => simp [intOf]; omega
                · rw [show tlA (some a1) c1 (j) = some (a1.add ((j) * 6)) by unfold tlA; rw [if_neg hck]; rfl] at hr5
                  have q7 : ((j : Nat) : Int) ≤ (m : Int) := by omega
                  have q8 : ((j : Nat) : Int) ≤ (c1 : Int) := by omega
                  have q9 : j ≤ c1 := by omega
                  have HR5 := Lib.hid hr5
                  have HR6 := Lib.hid hr6
                  clear hr5 hr6 
                  go_wp2_with fail
                  go_region_law (first
                    | (refine step_append_run ?h1 (.tmp 52) (.tmp 55) 22 ?h2 (.slice (some ⟨w7.heap.size, 0, none⟩) 1 1) (.slice (some (a1.add ((j) * 6))) (m - (j)) (c1 - (j))) ?h3 ?h4 _ _ HR5.out ?_; rotate_right; (case h1 => rfl); (case h2 => rfl); (case h3 => kernel_rfl); (case h4 => kernel_rfl))
                    | (refine step_append_run ?h1 (.tmp 50) (.tmp 56) 22 ?h2 (.slice (some a1) (j) (j)) (.slice A5 (1 + (m - (j))) c5) ?h3 ?h4 _ _ HR6.out ?_; rotate_right; (case h1 => rfl); (case h2 => rfl); (case h3 => kernel_rfl); (case h4 => kernel_rfl)))
                  all_goals
                    go_wp2_with fail
                    go_roundw
                    case rel => exact ⟨k + 1, _, by omega, by go_num, HRow6.out, by rw [HTy.out]; exact HBkI.out, HB6.out⟩
                    case measure => simp [intOf]; omega
              · have HAl : Hid (∀ i (hi : i < ys.length), t ≤ i → ltU (⟨xa, xb, xc, xd, xe⟩, xm) ys[i] = true) := fun i hi h => by
                  by_cases e : i = t
                  · subst e; exact HLt.out hi
                  · exact HAll.out i hi (by have := HTJ.out; omega)
                go_wp2_with fail
                refine wp_region_later wr (by kernel_rfl) (by kernel_rfl) (Below.refl _ _) ?_
                repeat (go_big_quiet_step ((go_at_call 34; exact Pa.Gives.later (by with_reducible assumption))))
                refine wpQuiet_nil ?_
                rintro w7 ⟨⟨_, hb7⟩, rfl⟩
                have HB3 := Lib.hid (thenCall HBi.out hb7)
                clear hb7
                go_wp2_with fail
                go_roundw
                case rel => exact ⟨t, by have := HTJ.out; omega, by go_num, HAl.out, HB3.out⟩
                case measure => (have := HTJ.out; simp [intOf]; omega)
    · obtain rfl : k = n := by omega
      have HTk : Hid (xs.take k = xs) := List.take_of_length_le (Nat.le_of_eq HN.out)
      rw [HTk.out] at HBk
      go_wp2_with fail
      go_ret
      exact ⟨ys, HBk.out, A1, c1, by rw [HM.out]; rfl, HLs.out, HX.out.trans (HB.out.mono HX.out.size)⟩
end
end Go.Proofs.Ythjlapcccmbhbaa.Lk
