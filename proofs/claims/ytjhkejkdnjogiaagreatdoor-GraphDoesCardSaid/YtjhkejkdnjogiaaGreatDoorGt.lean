/- Who waits for whom at a node: the document's answer. -/
import Derived.Test.YtjhkejkdnjogiaaGreatDoorGl
import Derived.Test.YtjhkejkdnjogiaaGreatDoorRd
namespace Go.Proofs.YtjhkejkdnjogiaaGreatDoor.Rt
open Go Go.RowKit Go.Shelf
set_option maxRecDepth 100000

/-- a row of edges of one's own, made since, and a request's box beside it -/
structure Kq (W : World) (B : Nat) (x1 x2 : Int) (x3 x4 : Bool) (l : List Es.Ed) (v : Value) (w1 : World) : Prop where
  kp : Es.Kp W l v w1
  box : Ws.S4 B x1 x2 x3 x4 w1
  own : v.ownBlock ≠ some B
section
variable {W W' : World} {B : Nat} {x1 x2 : Int} {x3 x4 : Bool} {l : List Es.Ed} {v : Value}
theorem Kq.lt (h : Kq W B x1 x2 x3 x4 l v W') : B < W'.heap.size := cell_lt h.box.1
theorem Kq.below (h : Kq W B x1 x2 x3 x4 l v W') {w2 : World} (hb : Below W'.heap.size W' w2) : Kq W B x1 x2 x3 x4 l v w2 := ⟨h.kp.below hb, Ws.s4_below h.box hb, h.own⟩
theorem Kq.drewN (h : Kq W B x1 x2 x3 x4 l v W') (k : Nat) : Kq W B x1 x2 x3 x4 l v (W'.drewN k) := h.below (drew_below W' k)
theorem Kq.app {n : Nat} {x : Es.Ed} (h : Kq W B x1 x2 x3 x4 l v W') (hn : l.length = n) (hl : n ≤ 900000) (ty : TypeId) :
    ∃ A' c' w2, (Builtin.append_ #[35, 35] ty #[v, .slice (some ⟨W'.heap.size, 0, none⟩) 1 1]).run Tryz.prog (W'.alloc (.cells #[.int .i64 x.1, .int .i64 x.2] 47)) = .ok (.slice A' (n + 1) c') w2 ∧ Kq W B x1 x2 x3 x4 (l ++ [x]) (.slice A' (n + 1) c') w2 := by
  have hb := box_below W' (.cells #[.int .i64 x.1, .int .i64 x.2] 47)
  have h1 := h.below hb
  obtain ⟨v', w2, hrun, hrow, hg, hown⟩ := h1.kp.row.app (Es.box_ls W' x) (by simp; omega) h1.kp.bel.size ty
  have ho : OnlyS (fun k => v.ownBlock = some k) (W'.alloc (.cells #[.int .i64 x.1, .int .i64 x.2] 47)) w2 := (OnlyS.refl _ _).grown hg fun _ hk => .inl hk
  obtain ⟨b0, b1, b2, b3⟩ := h1.box
  have hbel := h1.kp.bel.trans (h1.kp.row.app_below hg h1.kp.bel.size)
  have hne : v'.ownBlock ≠ some B := by
    rcases hown with q | q
    · rw [q]; exact h.own
    · rw [q]
      intro e
      have h2 := h.lt
      have e2 : (W'.alloc (.cells #[.int .i64 x.1, .int .i64 x.2] 47)).heap.size = W'.heap.size + 1 := by simp
      have e3 := Option.some.inj e
      omega
  obtain ⟨A', c', rfl, -⟩ := hrow.ls
  rw [List.length_append, hn] at hrun hrow hne
  exact ⟨A', c', w2, hrun, ⟨hrow, hbel⟩, ⟨ho.cell b0 h.own, ho.cell b1 h.own, ho.cell b2 h.own, ho.cell b3 h.own⟩, hne⟩
end
set_option maxHeartbeats 8000000 in
theorem redges_any {W : World} {b : Nat} {p : Pa.Pt} {A1 A2 : Option Addr} {c1 c2 : Nat} {H : List Hs.Hd} {L : List Ws.Wt} (h : RAt W b p A1 c1 A2 c2 H L) (hl1 : H.length ≤ 300) (hl2 : L.length ≤ 300) (ho : Once L) :
    Calls Tryz.prog 12 #[qp b] W (Es.Rows W (Es.ofL H L)) := by
  have HR := Lib.hid h
  have HOn := Lib.hid ho
  obtain ⟨n1, hn1⟩ : ∃ n, H.length = n := ⟨_, rfl⟩
  obtain ⟨n2, hn2⟩ : ∃ n, L.length = n := ⟨_, rfl⟩
  have N1 := Lib.hid hn1
  have N2 := Lib.hid hn2
  have q6 := h.e6n hn2
  have hlt := lt_blk h.blk
  rw [hn1] at hl1
  rw [hn2] at hl2
  clear h ho hn1 hn2
  go_enter Tryz.func12, Tryz.ntmps12
  go_wp2_with fail
  clear q6
  go_loopw [14, 3] (fun t v wr => ∃ i : Nat, i ≤ n2 ∧ t = .int .i64 i ∧ Es.Kp W (Es.rawOf H L i) v wr) (fun t _ _ => n2 - (intOf t).toNat)
  case atStart => exact ⟨0, by omega, rfl, Es.Kp.nil W⟩
  case round =>
    obtain ⟨i, hi, rfl, hk⟩ := hrel
    obtain ⟨q, hq⟩ : ∃ q, (Es.rawOf H L i).length = q := ⟨_, rfl⟩
    have hq1 : q ≤ 180000 := by
      rw [← hq]
      refine Nat.le_trans (Es.rawOf_len (by rw [N2.out]; exact hi)) ?_
      rw [N1.out, N2.out]
      exact Nat.mul_le_mul (show i ≤ 300 by omega) (show n1 + n2 ≤ 600 by omega)
    have HQ := Lib.hid hq
    clear hq
    by_cases hin : i < n2
    · have hil : i < L.length := by rw [N2.out]; exact hin
      obtain ⟨aw, hA2, d0, d1, d2, d3⟩ := (HR.out.l.below hk.bel).here hil
      subst hA2
      obtain ⟨x, hx⟩ : ∃ x, L[i] = x := ⟨_, rfl⟩
      have HX := Lib.hid (show ∃ h : i < L.length, L[i] = x from ⟨hil, hx⟩)
      rw [hx] at d0 d1 d2 d3
      have hKq : Kq W wr.heap.size x.1 x.2.1 x.2.2.1 x.2.2.2 (Es.rawOf H L i) _ (wr.alloc (.cells #[.int .i64 x.1, .int .i64 x.2.1, .bool x.2.2.1, .bool x.2.2.2] 54)) := ⟨hk.below (box_below _ _), by
        obtain ⟨ad, had, e0, e1, e2, e3⟩ := (Ws.box_ls wr x).here (i := 0) (by simp)
        cases had
        simp only [List.getElem_cons_zero, Nat.zero_mul, add_at, Nat.zero_add] at e0 e1 e2 e3
        exact ⟨e0, e1, e2, e3⟩, fun e => by have := (hk.row.lt _ e).2; omega⟩
      have K0 := Lib.hid hKq
      have HE := Lib.hid (show Es.rawOf H L (i + 1) = Es.rawOf H L i ++ (Es.barsL x H ++ Es.aheadL x.1 (L.take i)) by rw [Es.rawOf_succ hil, hx]; rfl)
      obtain ⟨x1, x2, x3, x4⟩ := x
      simp only at d0 d1 d2 d3 K0 HE HX
      have hb1 := hk.bel.trans ((box_below wr (.cells #[.int .i64 x1, .int .i64 x2, .bool x3, .bool x4] 54)).mono hk.bel.size)
      have r5 := (HR.out.below hb1).e5n N1.out
      have hblt : b < wr.heap.size := Nat.lt_of_lt_of_le hlt hk.bel.size
      clear hx hil hk hKq hb1
      go_wp2_with fail
      generalize wr.alloc (.cells #[.int .i64 x1, .int .i64 x2, .bool x3, .bool x4] 54) = W1 at *
      generalize wr.heap.size = B at *
      clear r5 d0 d1 d2 d3
      go_loopw [24, 3] (fun t v wq => ∃ j : Nat, j ≤ n1 ∧ t = .int .i64 j ∧ Kq W B x1 x2 x3 x4 (Es.rawOf H L i ++ Es.barsL (x1, x2, x3, x4) (H.take j)) v wq) (fun t _ _ => n1 - (intOf t).toNat)
      case atStart => exact ⟨0, by omega, rfl, by simpa [Es.barsL] using K0.out⟩
      case round =>
        obtain ⟨j, hj, rfl, hk⟩ := hrel
        have K2 := Lib.hid hk
        obtain ⟨A0, c0', ev, -⟩ := hk.kp.row.ls
        subst ev
        obtain ⟨s, hs⟩ : ∃ s, (Es.rawOf H L i ++ Es.barsL (x1, x2, x3, x4) (H.take j)).length = s := ⟨_, rfl⟩
        have hs1 : s ≤ 190000 := by
          rw [← hs, List.length_append, HQ.out]
          have := Es.barsL_len (x1, x2, x3, x4) (H.take j)
          rw [List.length_take, N1.out] at this
          omega
        have HS := Lib.hid hs
        clear hk
        rw [hs] at K2 ⊢
        clear hs K0
        by_cases hjn : j < n1
        · have hjl : j < H.length := by rw [N1.out]; exact hjn
          obtain ⟨a, rfl, c0, c1⟩ := (HR.out.h.below K2.out.kp.bel).here hjl
          obtain ⟨y, hy⟩ : ∃ y, H[j] = y := ⟨_, rfl⟩
          have HY := Lib.hid (show ∃ h : j < H.length, H[j] = y from ⟨hjl, hy⟩)
          rw [hy] at c0 c1
          have hb1 := box_below wr (.cells #[.int .i64 y.1, .int .i64 y.2] 84)
          have K3 := Lib.hid (K2.out.below hb1)
          obtain ⟨ad, had, f0, f1⟩ := (Hs.box_ls wr y).here (i := 0) (by simp)
          cases had
          simp only [List.getElem_cons_zero, Nat.zero_mul, add_at, Nat.zero_add] at f0 f1
          obtain ⟨g0, g1, g2, g3⟩ := K3.out.box
          have hBlt : B < wr.heap.size := K2.out.lt
          have HN := Lib.hid (show Es.barB y (x1, x2, x3, x4) = false → Es.rawOf H L i ++ Es.barsL (x1, x2, x3, x4) (H.take (j + 1)) = Es.rawOf H L i ++ Es.barsL (x1, x2, x3, x4) (H.take j) from fun hb => by rw [Es.barsL_no hjl (by rw [hy]; exact hb)])
          have HYs := Lib.hid (show Es.barB y (x1, x2, x3, x4) = true → Es.rawOf H L i ++ Es.barsL (x1, x2, x3, x4) (H.take (j + 1)) = (Es.rawOf H L i ++ Es.barsL (x1, x2, x3, x4) (H.take j)) ++ [(x1, y.1)] from fun hb => by rw [Es.barsL_yes hjl (by rw [hy]; exact hb), hy, List.append_assoc])
          obtain ⟨y1, y2⟩ := y
          simp only at c0 c1 f0 f1 K3 HN HYs
          clear hy hjl hb1 HY
          by_cases he : y1 = x1
          · subst he
            have HE2 := Lib.hid (HN.out (by unfold Es.barB; simp))
            go_wp2_with fail
            go_roundw
            case rel => exact ⟨j + 1, by omega, by go_num, by rw [HE2.out]; exact K3.out⟩
            case measure => simp [intOf]; omega
          · have he' : (y1 != x1) = true := by simpa using he
            cases hgo : goesN (kn y2) (kn x2)
            · have HE2 := Lib.hid (HYs.out (by unfold Es.barB; simp [he, hgo]))
              obtain ⟨A', c', w6, hrun, hk6⟩ := K3.out.app (x := (x1, y1)) HS.out (by omega) 35
              have K6 := Lib.hid hk6
              simp only at hrun
              rw [show (wr.alloc (.cells #[.int .i64 y1, .int .i64 y2] 84)).heap.size = wr.heap.size + 1 by simp] at hrun
              have HC := Lib.hid (rcompat_any y2 x2 (wr.alloc (.cells #[.int .i64 y1, .int .i64 y2] 84)))
              rw [hgo] at HC
              clear hk6 he hgo
              go_wp2_with (first
                | (go_at_call 37; refine HC.out.mono ?_; rintro e w' ⟨rfl, rfl⟩)
                | (at_builtin; refine Lib.wpList_append_run _ rfl _ _ _ _ rfl _ _ rfl rfl _ _ hrun ?_))
              go_roundw
              case rel => exact ⟨j + 1, by omega, by go_num, by rw [HE2.out]; exact K6.out⟩
              case measure => simp [intOf]; omega
            · have HE2 := Lib.hid (HN.out (by unfold Es.barB; simp [hgo]))
              have HC := Lib.hid (rcompat_any y2 x2 (wr.alloc (.cells #[.int .i64 y1, .int .i64 y2] 84)))
              rw [hgo] at HC
              clear he hgo
              go_wp2_with (go_at_call 37; refine HC.out.mono ?_; rintro e w' ⟨rfl, rfl⟩)
              go_roundw
              case rel => exact ⟨j + 1, by omega, by go_num, by rw [HE2.out]; exact K3.out⟩
              case measure => simp [intOf]; omega
        · obtain rfl : j = n1 := by omega
          have HE2 := Lib.hid (show Es.rawOf H L i ++ Es.barsL (x1, x2, x3, x4) (H.take j) = Es.rawOf H L i ++ Es.barsL (x1, x2, x3, x4) H by rw [List.take_of_length_le (Nat.le_of_eq N1.out)])
          have hk2 := K2.out
          rw [HE2.out] at hk2 HS
          have K9 := Lib.hid hk2
          clear hk2 K2 HE2 hj hjn
          go_wp2_with fail
          go_loopw [8, 3] (fun t v wq => ∃ k : Nat, k ≤ i ∧ t = .int .i64 k ∧ Kq W B x1 x2 x3 x4 ((Es.rawOf H L i ++ Es.barsL (x1, x2, x3, x4) H) ++ Es.aheadL x1 (L.take k)) v wq) (fun t _ _ => i - (intOf t).toNat)
          case atStart => exact ⟨0, Nat.zero_le _, rfl, by simpa [Es.aheadL] using K9.out⟩
          case round =>
            obtain ⟨k, hk, rfl, hkq⟩ := hrel
            have K2 := Lib.hid hkq
            obtain ⟨A3, c3, ev, -⟩ := hkq.kp.row.ls
            subst ev
            obtain ⟨p3, hp3⟩ : ∃ n, ((Es.rawOf H L i ++ Es.barsL (x1, x2, x3, x4) H) ++ Es.aheadL x1 (L.take k)).length = n := ⟨_, rfl⟩
            have hp4 : p3 ≤ 200000 := by
              rw [← hp3, List.length_append, Es.aheadL_len, List.length_take, HS.out, N2.out]
              omega
            have HP := Lib.hid hp3
            clear hkq K9
            rw [hp3] at K2 ⊢
            clear hp3
            by_cases hki : k < i
            · have hkl : k < L.length := by rw [N2.out]; omega
              obtain ⟨a, haw, e0, e1, e2, e3⟩ := (HR.out.l.below K2.out.kp.bel).here hkl
              cases haw
              have hne : L[k].1 ≠ x1 := by
                obtain ⟨h, e⟩ := HX.out
                have := List.pairwise_iff_getElem.1 HOn.out k i hkl h hki
                rw [e] at this
                exact this
              obtain ⟨z, hz⟩ : ∃ z, L[k] = z := ⟨_, rfl⟩
              have HE2 := Lib.hid (show (Es.rawOf H L i ++ Es.barsL (x1, x2, x3, x4) H) ++ Es.aheadL x1 (L.take (k + 1)) = ((Es.rawOf H L i ++ Es.barsL (x1, x2, x3, x4) H) ++ Es.aheadL x1 (L.take k)) ++ [(x1, z.1)] by rw [Es.aheadL_succ hkl, hz]; simp only [List.append_assoc])
              rw [hz] at e0 hne
              obtain ⟨z1, z2, z3, z4⟩ := z
              simp only at e0 hne HE2
              have hne' : (z1 != x1) = true := by simpa using hne
              have r6 := (HR.out.below K2.out.kp.bel).e6n N2.out
              obtain ⟨g0, -, -, -⟩ := K2.out.box
              have hkn : k < n2 := by omega
              clear e1 e2 e3 hz hkl hne
              go_wp2_with fail
              go_quiet (fail)
              have K4 := Lib.hid (K2.out.drewN nq)
              have e0' : (wr.drewN nq).cell? (aw.add (k * 4)) = some (.int .i64 z1) := e0
              have r6' : (wr.drewN nq).cell? ⟨b, 6, none⟩ = some (.slice (some aw) n2 c2) := r6
              have g0' : (wr.drewN nq).cell? ⟨B, 0, none⟩ = some (.int .i64 x1) := g0
              generalize wr.drewN nq = Y at K4 e0' r6' g0' ⊢
              obtain ⟨A', c', w6, hrun, hk6⟩ := (K4.out.drewN 1).app (x := (x1, z1)) HP.out (by omega) 35
              have K6 := Lib.hid hk6
              have HRun := Lib.hid hrun
              clear hk6 hrun e0 r6 g0
              go_wp2_with fail
              go_region_law (refine Es.step_append ?h1 (.tmp 66) (.tmp 78) 35 ?h2 (.slice A3 p3 c3) (.slice (some ⟨Y.heap.size, 0, none⟩) 1 1) ?h3 ?h4 _ _ HRun.out ?_; rotate_right; (case h1 => rfl); (case h2 => rfl); (case h3 => kernel_rfl); (case h4 => kernel_rfl))
              all_goals
                go_wp2_with fail
                go_roundw
                case rel => exact ⟨k + 1, by omega, by go_num, by rw [HE2.out]; exact K6.out⟩
                case measure => simp [intOf]; omega
            · obtain rfl : k = i := by omega
              have HE2 := Lib.hid (show (Es.rawOf H L k ++ Es.barsL (x1, x2, x3, x4) H) ++ Es.aheadL x1 (L.take k) = Es.rawOf H L (k + 1) by rw [HE.out, List.append_assoc])
              have hkp := K2.out.kp
              rw [HE2.out] at hkp
              have K5 := Lib.hid hkp
              clear hkp K2
              go_wp2_with fail
              go_roundw
              case rel => exact ⟨k + 1, by omega, by go_num, K5.out⟩
              case measure => simp [intOf]; omega
    · obtain rfl : i = n2 := by omega
      obtain ⟨A9, c9, hv, hls9⟩ := hk.row.ls
      subst hv
      have HS := Lib.hid (Es.rsort_any hls9 (by rw [HQ.out]; omega))
      rw [HQ.out] at HS ⊢
      have HE := Lib.hid (show Od.can Es.lessE (Es.rawOf H L i) = Es.ofL H L by rw [← N2.out]; rfl)
      have HB := Lib.hid hk.bel
      clear hls9 hk
      go_wp2_with fail
      refine HS.out.mono ?_
      rintro e w7 ⟨v7, rfl, hrow7, hb7⟩
      rw [HE.out] at hrow7
      have HF := Lib.hid (show Es.Rows W (Es.ofL H L) (.returned v7) w7 from ⟨v7, rfl, row_base hrow7 HB.out.size, HB.out.trans (hb7.mono HB.out.size)⟩)
      clear hrow7 hb7
      go_wp2_with fail
      go_ret
      exact HF.out
end Go.Proofs.YtjhkejkdnjogiaaGreatDoor.Rt
