/- To whom edges of one go, and all numbers that stand in edges: the document's answers; two lists of numbers held against each other. -/
import Derived.Test.YtgefponjlliaaaaGm
namespace Go.Proofs.Ytgefponjlliaaaa
open Go Go.RowKit Go.Shelf
set_option maxRecDepth 100000

section
variable {W : World} {A : Option Addr} {c : Nat} {l : List Es.Ed}
theorem Is.Kp.numbers {W' : World} {v : Value} {xs : List Int} {n : Nat} (h : Is.Kp W xs v W') (hn : xs.length = n) (hl : n ≤ 700000) : Calls Try.prog 33 #[v] W' fun e w' => Is.Rows W (Od.can Is.ltI xs) e w' := by
  obtain ⟨A, c, rfl, hls⟩ := h.row.ls
  exact (Is.numbers_any hls (by omega)).mono fun _ _ ⟨v', he, hr, hb⟩ => ⟨v', he, row_base hr h.bel.size, h.bel.trans (hb.mono h.bel.size)⟩
set_option maxHeartbeats 4000000 in
theorem rfrom_any (hr : Es.Ls W A c l) (hl : l.length ≤ 300000) (tx : Int) : Calls Try.prog 25 #[.slice A l.length c, .int .i64 tx] W (Is.Rows W (Od.can Is.ltI (fromL tx l))) := by
  have HR := Lib.hid hr
  obtain ⟨n, hn⟩ : ∃ n, l.length = n := ⟨_, rfl⟩
  rw [hn] at hl ⊢
  have HN := Lib.hid hn
  clear hr hn
  go_enter Try.func25, Try.ntmps25
  go_wp2_with fail
  go_loopw [10, 5] (fun t v wr => ∃ j : Nat, j ≤ n ∧ t = .int .i64 j ∧ Is.Kp W (fromL tx (l.take j)) v wr) (fun t _ _ => n - (intOf t).toNat)
  case atStart => exact ⟨0, by omega, rfl, Is.Kp.nil W⟩
  case round =>
    obtain ⟨j, hj, rfl, hk⟩ := hrel
    have K0 := Lib.hid hk
    obtain ⟨A0, c0', ev, -⟩ := hk.row.ls
    subst ev
    obtain ⟨q, hq⟩ : ∃ q, (fromL tx (l.take j)).length = q := ⟨_, rfl⟩
    have hq1 : q ≤ j := by rw [← hq]; refine Nat.le_trans (fromL_len _ _) ?_; rw [List.length_take]; omega
    have HQ := Lib.hid hq
    clear hk
    rw [hq] at K0 ⊢
    clear hq
    by_cases hjn : j < n
    · have hjl : j < l.length := by rw [HN.out]; exact hjn
      obtain ⟨a, rfl, hh⟩ := (HR.out.below K0.out.bel).here hjl
      obtain ⟨c0, c1⟩ := hh
      obtain ⟨x, hx⟩ : ∃ x, l[j] = x := ⟨_, rfl⟩
      have HX := Lib.hid (show ∃ h : j < l.length, l[j] = x from ⟨hjl, hx⟩)
      rw [hx] at c0 c1
      have hb1 := box_below wr (.cells #[.int .i64 x.1, .int .i64 x.2] 34)
      have K1 := Lib.hid (K0.out.below hb1)
      clear hx hjl
      by_cases ht : x.1 = tx
      · have HE := Lib.hid (show fromL tx (l.take (j + 1)) = fromL tx (l.take j) ++ [x.2] by
          obtain ⟨h, e⟩ := HX.out
          rw [fromL_yes h (by rw [e]; simpa using ht), e])
        obtain ⟨A', c', w6, hrun, hk6⟩ := (K1.out.below (box_below _ (.cells #[.int .i64 x.2] 3))).join (Is.box_ls _ x.2) HQ.out rfl rfl (by simp; omega) 24
        have K6 := Lib.hid hk6
        obtain ⟨t, m⟩ := x
        simp only at c0 c1 ht
        simp only [List.length_cons, List.length_nil, Nat.zero_add] at hrun K6
        rw [show (wr.alloc (.cells #[.int .i64 t, .int .i64 m] 34)).heap.size = wr.heap.size + 1 by simp] at hrun
        subst ht
        clear hk6 hb1 K1
        go_wp2_with (at_builtin; refine Lib.wpList_append_run _ rfl _ _ _ _ rfl _ _ rfl rfl _ _ hrun ?_)
        go_roundw
        case rel => exact ⟨j + 1, by omega, by go_num, by rw [HE.out]; exact K6.out⟩
        case measure => simp [intOf]; omega
      · have HE := Lib.hid (show fromL tx (l.take (j + 1)) = fromL tx (l.take j) by
          obtain ⟨h, e⟩ := HX.out
          exact fromL_no h (by rw [e]; simpa using ht))
        obtain ⟨t, m⟩ := x
        simp only at c0 c1 ht K1
        have ht' : (t == tx) = false := by simpa using ht
        clear hb1 ht
        go_wp2_with fail
        go_roundw
        case rel => exact ⟨j + 1, by omega, by go_num, by rw [HE.out]; exact K1.out⟩
        case measure => simp [intOf]; omega
    · obtain rfl : j = n := by omega
      have HE := Lib.hid (show fromL tx (l.take j) = fromL tx l by rw [List.take_of_length_le (Nat.le_of_eq HN.out)])
      have HZ := Lib.hid (K0.out.numbers HQ.out (by omega))
      rw [HE.out] at HZ
      clear K0
      go_wp2_with fail
      refine HZ.out.mono ?_
      rintro e w7 ⟨v7, rfl, hr7, hb7⟩
      have HF := Lib.hid (show Is.Rows W (Od.can Is.ltI (fromL tx l)) (.returned v7) w7 from ⟨v7, rfl, hr7, hb7⟩)
      clear hr7 hb7
      go_wp2_with fail
      go_ret
      exact HF.out
set_option maxHeartbeats 4000000 in
theorem rnodes_any (hr : Es.Ls W A c l) (hl : l.length ≤ 300000) : Calls Try.prog 24 #[.slice A l.length c] W (Is.Rows W (Od.can Is.ltI (nodesL l))) := by
  have HR := Lib.hid hr
  obtain ⟨n, hn⟩ : ∃ n, l.length = n := ⟨_, rfl⟩
  rw [hn] at hl ⊢
  have HN := Lib.hid hn
  clear hr hn
  go_enter Try.func24, Try.ntmps24
  go_wp2_with fail
  go_loopw [8, 3] (fun t v wr => ∃ j : Nat, j ≤ n ∧ t = .int .i64 j ∧ Is.Kp W (nodesL (l.take j)) v wr) (fun t _ _ => n - (intOf t).toNat)
  case atStart => exact ⟨0, by omega, rfl, Is.Kp.nil W⟩
  case round =>
    obtain ⟨j, hj, rfl, hk⟩ := hrel
    have K0 := Lib.hid hk
    obtain ⟨A0, c0', ev, -⟩ := hk.row.ls
    subst ev
    obtain ⟨q, hq⟩ : ∃ q, (nodesL (l.take j)).length = q := ⟨_, rfl⟩
    have hq1 : q ≤ 2 * j := by rw [← hq, nodesL_len, List.length_take]; omega
    have HQ := Lib.hid hq
    clear hk
    rw [hq] at K0 ⊢
    clear hq
    by_cases hjn : j < n
    · have hjl : j < l.length := by rw [HN.out]; exact hjn
      obtain ⟨a, rfl, hh⟩ := (HR.out.below K0.out.bel).here hjl
      obtain ⟨c0, c1⟩ := hh
      obtain ⟨x, hx⟩ : ∃ x, l[j] = x := ⟨_, rfl⟩
      have HE := Lib.hid (show nodesL (l.take (j + 1)) = nodesL (l.take j) ++ [x.1, x.2] by rw [nodesL_succ hjl, hx])
      rw [hx] at c0 c1
      have hb1 := box_below wr (.cells #[.int .i64 x.1, .int .i64 x.2] 34)
      have K1 := Lib.hid (K0.out.below hb1)
      obtain ⟨A', c', w6, hrun, hk6⟩ := (K1.out.below (box_below _ (.cells #[.int .i64 x.1, .int .i64 x.2] 3))).join (Is.two_ls _ x.1 x.2) HQ.out rfl rfl (by simp; omega) 24
      have K6 := Lib.hid hk6
      obtain ⟨t, m⟩ := x
      simp only at c0 c1 HE
      simp only [List.length_cons, List.length_nil, Nat.zero_add, Nat.reduceAdd] at hrun K6
      rw [show (wr.alloc (.cells #[.int .i64 t, .int .i64 m] 34)).heap.size = wr.heap.size + 1 by simp] at hrun
      clear hk6 hb1 K1 hx hjl
      go_wp2_with (at_builtin; refine Lib.wpList_append_run _ rfl _ _ _ _ rfl _ _ rfl rfl _ _ hrun ?_)
      go_roundw
      case rel => exact ⟨j + 1, by omega, by go_num, by rw [HE.out]; exact K6.out⟩
      case measure => simp [intOf]; omega
    · obtain rfl : j = n := by omega
      have HE := Lib.hid (show nodesL (l.take j) = nodesL l by rw [List.take_of_length_le (Nat.le_of_eq HN.out)])
      have HZ := Lib.hid (K0.out.numbers HQ.out (by omega))
      rw [HE.out] at HZ
      clear K0
      go_wp2_with fail
      refine HZ.out.mono ?_
      rintro e w7 ⟨v7, rfl, hr7, hb7⟩
      have HF := Lib.hid (show Is.Rows W (Od.can Is.ltI (nodesL l)) (.returned v7) w7 from ⟨v7, rfl, hr7, hb7⟩)
      clear hr7 hb7
      go_wp2_with fail
      go_ret
      exact HF.out
end
section
variable {W W' : World} {A1 A2 : Option Addr} {c1 c2 : Nat} {xs : List Int}
set_option maxHeartbeats 1000000 in
theorem Is.same_any (h1 : Is.Ls W A1 c1 xs) (h2 : Is.Ls W A2 c2 xs) (hl : xs.length ≤ 1000000) : Calls Try.prog 9 #[.slice A1 xs.length c1, .slice A2 xs.length c2] W fun e w' => e = .returned (.bool true) ∧ Below W.heap.size W w' := by
  have H1 := Lib.hid h1
  have H2 := Lib.hid h2
  clear h1 h2
  obtain ⟨n, hn⟩ : ∃ n, xs.length = n := ⟨_, rfl⟩
  rw [hn] at hl ⊢
  have HN := Lib.hid hn
  clear hn
  go_enter Try.func9, Try.ntmps9
  go_wp2
  go_loopw [13] (fun t wr => ∃ k : Nat, k ≤ n ∧ t = .int .i64 k ∧ ∃ j, wr = W.drewN j) (fun t _ => n - (intOf t).toNat)
  case atStart => exact ⟨0, by omega, rfl, 0, rfl⟩
  case round =>
    obtain ⟨k, hk, rfl, j, rfl⟩ := hrel
    by_cases hlt : k < n
    · have hlt' : k < xs.length := by rw [HN.out]; exact hlt
      obtain ⟨g1, rfl, a0⟩ := (H1.out.drewN j).here hlt'
      obtain ⟨g2, rfl, b0⟩ := (H2.out.drewN j).here hlt'
      generalize xs[k] = x at a0 b0
      generalize hX : W.drewN j = X at a0 b0 ⊢
      have HX := Lib.hid hX
      clear hX hlt'
      go_wp2
      go_quiet (fail)
      have HE := Lib.hid (show X.drewN nq = W.drewN (j + nq) by rw [← HX.out]; simp [World.drewN]; omega)
      generalize X.drewN nq = Y at HE ⊢
      clear a0 b0
      go_wp2
      go_roundw
      case rel => exact ⟨k + 1, by omega, by go_num, j + nq, HE.out⟩
      case measure => simp [intOf]; omega
    · obtain rfl : k = n := by omega
      go_wp2
      go_ret
      exact ⟨rfl, drew_below W j⟩
end
end Go.Proofs.Ytgefponjlliaaaa
