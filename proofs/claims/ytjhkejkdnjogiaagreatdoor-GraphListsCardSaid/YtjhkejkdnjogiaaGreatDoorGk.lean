/- To whom edges of one go; all numbers that stand in edges. -/
import Derived.Test.YtjhkejkdnjogiaaGreatDoorGj
import Derived.Test.YtjhkejkdnjogiaaGreatDoorGc
namespace Go.Proofs.YtjhkejkdnjogiaaGreatDoor
open Go Go.RowKit Go.Shelf
set_option maxRecDepth 100000

/-- numbers of one's own, handed back -/
def Is.Rows (W : World) (xs : List Int) (e : Ending) (w' : World) : Prop := ∃ v, e = .returned v ∧ Is.Row w' W.heap.size v xs ∧ Below W.heap.size W w'
/-- to whom edges of one go -/
def fromL (tx : Int) (l : List Es.Ed) : List Int := (l.filter fun e => e.1 == tx).map fun e => e.2
theorem fromL_no {tx : Int} {l : List Es.Ed} {k : Nat} (hk : k < l.length) (h : (l[k].1 == tx) = false) : fromL tx (l.take (k + 1)) = fromL tx (l.take k) := by
  unfold fromL
  rw [List.take_succ_eq_append_getElem hk, List.filter_append]
  simp [h]
theorem fromL_yes {tx : Int} {l : List Es.Ed} {k : Nat} (hk : k < l.length) (h : (l[k].1 == tx) = true) : fromL tx (l.take (k + 1)) = fromL tx (l.take k) ++ [l[k].2] := by
  unfold fromL
  rw [List.take_succ_eq_append_getElem hk, List.filter_append]
  simp [h]
theorem fromL_len (tx : Int) (l : List Es.Ed) : (fromL tx l).length ≤ l.length := by
  unfold fromL
  rw [List.length_map]
  exact List.length_filter_le _ _
/-- all numbers -/
def nodesL (l : List Es.Ed) : List Int := l.flatMap fun e => [e.1, e.2]
theorem nodesL_succ {l : List Es.Ed} {k : Nat} (hk : k < l.length) : nodesL (l.take (k + 1)) = nodesL (l.take k) ++ [l[k].1, l[k].2] := by
  unfold nodesL
  rw [List.take_succ_eq_append_getElem hk, List.flatMap_append]
  simp
theorem nodesL_len (l : List Es.Ed) : (nodesL l).length = 2 * l.length := by
  unfold nodesL
  induction l with
  | nil => rfl
  | cons x xs ih => rw [List.flatMap_cons, List.length_append, ih]; simp; omega
section
variable {W : World} {A : Option Addr} {c : Nat} {l : List Es.Ed}
theorem Is.Kp.rising {W' : World} {v : Value} {xs : List Int} {n : Nat} (h : Is.Kp W xs v W') (hn : xs.length = n) (hl : n ≤ 1000000) : Calls Tryz.prog 43 #[v] W' fun e w' => Is.Rows W (Od.can Is.ltI xs) e w' :=
  (Is.rising_any h.row h.bel.size (by omega)).mono fun _ _ ⟨v', he, hr, hb⟩ => ⟨v', he, hr, h.bel.trans hb⟩
set_option maxHeartbeats 4000000 in
theorem from_any (hr : Es.Ls W A c l) (hl : l.length ≤ 300000) (tx : Int) : Calls Tryz.prog 19 #[.slice A l.length c, .int .i64 tx] W (Is.Rows W (Od.can Is.ltI (fromL tx l))) := by
  have HR := Lib.hid hr
  obtain ⟨n, hn⟩ : ∃ n, l.length = n := ⟨_, rfl⟩
  rw [hn] at hl ⊢
  have HN := Lib.hid hn
  clear hr hn
  go_enter Tryz.func19, Tryz.ntmps19
  go_wp2_with fail
  go_loopw [10, 5] (fun t v wr => ∃ j : Nat, j ≤ n ∧ t = .int .i64 j ∧ Is.Kp W (fromL tx (l.take j)) v wr) (fun t _ _ => n - (intOf t).toNat)
  case atStart => exact ⟨0, by omega, rfl, Is.Kp.nil W⟩
  case round =>
    obtain ⟨j, hj, rfl, hk⟩ := hrel
    have K0 := Lib.hid hk
    obtain ⟨A0, c0', ev, -⟩ := hk.row.ls
    subst ev
    obtain ⟨q, hq⟩ : ∃ q, (fromL tx (l.take j)).length = q := ⟨_, rfl⟩
    have hq1 : q ≤ j := by rw [← hq]; refine Nat.le_trans (fromL_len _ _) ?_; rw [List.length_take]; omega
    have HQ := Lib.hid hq
    clear hk
    rw [hq] at K0 ⊢
    clear hq
    by_cases hjn : j < n
    · have hjl : j < l.length := by rw [HN.out]; exact hjn
      obtain ⟨a, rfl, hh⟩ := (HR.out.below K0.out.bel).here hjl
      obtain ⟨c0, c1⟩ := hh
      obtain ⟨x, hx⟩ : ∃ x, l[j] = x := ⟨_, rfl⟩
      have HX := Lib.hid (show ∃ h : j < l.length, l[j] = x from ⟨hjl, hx⟩)
      rw [hx] at c0 c1
      have hb1 := box_below wr (.cells #[.int .i64 x.1, .int .i64 x.2] 47)
      have K1 := Lib.hid (K0.out.below hb1)
      clear hx hjl
      by_cases ht : x.1 = tx
      · have HE := Lib.hid (show fromL tx (l.take (j + 1)) = fromL tx (l.take j) ++ [x.2] by
          obtain ⟨h, e⟩ := HX.out
          rw [fromL_yes h (by rw [e]; simpa using ht), e])
        obtain ⟨A', c', w6, hrun, hk6⟩ := (K1.out.below (box_below _ (.cells #[.int .i64 x.2] 3))).join (Is.box_ls _ x.2) HQ.out rfl rfl (by simp; omega) 49
        have K6 := Lib.hid hk6
        obtain ⟨t, m⟩ := x
        simp only at c0 c1 ht
        simp only [List.length_cons, List.length_nil, Nat.zero_add] at hrun K6
        rw [show (wr.alloc (.cells #[.int .i64 t, .int .i64 m] 47)).heap.size = wr.heap.size + 1 by simp] at hrun
        subst ht
        clear hk6 hb1 K1
        go_wp2_with (at_builtin; refine Lib.wpList_append_run _ rfl _ _ _ _ rfl _ _ rfl rfl _ _ hrun ?_)
        go_roundw
        case rel => exact ⟨j + 1, by omega, by go_num, by rw [HE.out]; exact K6.out⟩
        case measure => simp [intOf]; omega
      · have HE := Lib.hid (show fromL tx (l.take (j + 1)) = fromL tx (l.take j) by
          obtain ⟨h, e⟩ := HX.out
          exact fromL_no h (by rw [e]; simpa using ht))
        obtain ⟨t, m⟩ := x
        simp only at c0 c1 ht K1
        have ht' : (t == tx) = false := by simpa using ht
        clear hb1 ht
        go_wp2_with fail
        go_roundw
        case rel => exact ⟨j + 1, by omega, by go_num, by rw [HE.out]; exact K1.out⟩
        case measure => simp [intOf]; omega
    · obtain rfl : j = n := by omega
      have HE := Lib.hid (show fromL tx (l.take j) = fromL tx l by rw [List.take_of_length_le (Nat.le_of_eq HN.out)])
      have HZ := Lib.hid (K0.out.rising HQ.out (by omega))
      rw [HE.out] at HZ
      clear K0
      go_wp2_with fail
      refine HZ.out.mono ?_
      rintro e w7 ⟨v7, rfl, hr7, hb7⟩
      have HF := Lib.hid (show Is.Rows W (Od.can Is.ltI (fromL tx l)) (.returned v7) w7 from ⟨v7, rfl, hr7, hb7⟩)
      clear hr7 hb7
      go_wp2_with fail
      go_ret
      exact HF.out
set_option maxHeartbeats 4000000 in
theorem nodes_any (hr : Es.Ls W A c l) (hl : l.length ≤ 300000) : Calls Tryz.prog 21 #[.slice A l.length c] W (Is.Rows W (Od.can Is.ltI (nodesL l))) := by
  have HR := Lib.hid hr
  obtain ⟨n, hn⟩ : ∃ n, l.length = n := ⟨_, rfl⟩
  rw [hn] at hl ⊢
  have HN := Lib.hid hn
  clear hr hn
  go_enter Tryz.func21, Tryz.ntmps21
  go_wp2_with fail
  go_loopw [8, 3] (fun t v wr => ∃ j : Nat, j ≤ n ∧ t = .int .i64 j ∧ Is.Kp W (nodesL (l.take j)) v wr) (fun t _ _ => n - (intOf t).toNat)
  case atStart => exact ⟨0, by omega, rfl, Is.Kp.nil W⟩
  case round =>
    obtain ⟨j, hj, rfl, hk⟩ := hrel
    have K0 := Lib.hid hk
    obtain ⟨A0, c0', ev, -⟩ := hk.row.ls
    subst ev
    obtain ⟨q, hq⟩ : ∃ q, (nodesL (l.take j)).length = q := ⟨_, rfl⟩
    have hq1 : q ≤ 2 * j := by rw [← hq, nodesL_len, List.length_take]; omega
    have HQ := Lib.hid hq
    clear hk
    rw [hq] at K0 ⊢
    clear hq
    by_cases hjn : j < n
    · have hjl : j < l.length := by rw [HN.out]; exact hjn
      obtain ⟨a, rfl, hh⟩ := (HR.out.below K0.out.bel).here hjl
      obtain ⟨c0, c1⟩ := hh
      obtain ⟨x, hx⟩ : ∃ x, l[j] = x := ⟨_, rfl⟩
      have HE := Lib.hid (show nodesL (l.take (j + 1)) = nodesL (l.take j) ++ [x.1, x.2] by rw [nodesL_succ hjl, hx])
      rw [hx] at c0 c1
      have hb1 := box_below wr (.cells #[.int .i64 x.1, .int .i64 x.2] 47)
      have K1 := Lib.hid (K0.out.below hb1)
      obtain ⟨A', c', w6, hrun, hk6⟩ := (K1.out.below (box_below _ (.cells #[.int .i64 x.1, .int .i64 x.2] 3))).join (Is.two_ls _ x.1 x.2) HQ.out rfl rfl (by simp; omega) 49
      have K6 := Lib.hid hk6
      obtain ⟨t, m⟩ := x
      simp only at c0 c1 HE
      simp only [List.length_cons, List.length_nil, Nat.zero_add, Nat.reduceAdd] at hrun K6
      rw [show (wr.alloc (.cells #[.int .i64 t, .int .i64 m] 47)).heap.size = wr.heap.size + 1 by simp] at hrun
      clear hk6 hb1 K1 hx hjl
      go_wp2_with (at_builtin; refine Lib.wpList_append_run _ rfl _ _ _ _ rfl _ _ rfl rfl _ _ hrun ?_)
      go_roundw
      case rel => exact ⟨j + 1, by omega, by go_num, by rw [HE.out]; exact K6.out⟩
      case measure => simp [intOf]; omega
    · obtain rfl : j = n := by omega
      have HE := Lib.hid (show nodesL (l.take j) = nodesL l by rw [List.take_of_length_le (Nat.le_of_eq HN.out)])
      have HZ := Lib.hid (K0.out.rising HQ.out (by omega))
      rw [HE.out] at HZ
      clear K0
      go_wp2_with fail
      refine HZ.out.mono ?_
      rintro e w7 ⟨v7, rfl, hr7, hb7⟩
      have HF := Lib.hid (show Is.Rows W (Od.can Is.ltI (nodesL l)) (.returned v7) w7 from ⟨v7, rfl, hr7, hb7⟩)
      clear hr7 hb7
      go_wp2_with fail
      go_ret
      exact HF.out
end
end Go.Proofs.YtjhkejkdnjogiaaGreatDoor
