/- What the document's functions on lists hand back lies in memory that was made since. -/
import Derived.Test.YtjhkejkdnjogiaaGreatDoorQg
import Derived.Deep.Cut
import Derived.Test.YtjhkejkdnjogiaaGreatDoorTt
import Derived.Deep.RegionHeld3
namespace Go.Proofs.YtjhkejkdnjogiaaGreatDoor.Hs
open Go Go.RowKit Go.Shelf
set_option maxRecDepth 100000

/-- a list is handed out, in memory that was made since -/
def Fars (W : World) (xs : List Hd) (e : Ending) (w' : World) : Prop := ∃ A c, e = .returned (.slice A xs.length c) ∧ (Ls w' A c xs ∧ ∀ a, A = some a → W.heap.size ≤ a.block) ∧ Below W.heap.size W w'
section
variable {W W' : World} {A : Option Addr} {c : Nat} {xs : List Hd}
set_option maxHeartbeats 2000000 in
theorem rwithout_far (hr : Ls W A c xs) (hl : xs.length ≤ 500) (tx : Int) : Calls Tryz.prog 99 #[.slice A xs.length c, .int .i64 tx] W (Fars W (wout tx xs)) := by
  have HR := Lib.hid hr
  obtain ⟨n, hn⟩ : ∃ n, xs.length = n := ⟨_, rfl⟩
  rw [hn] at hl ⊢
  have HN := Lib.hid hn
  clear hr hn
  go_enter Tryz.func99, Tryz.ntmps99
  go_wp2
  go_loopw [10, 5] (fun t v wr => ∃ j : Nat, j ≤ n ∧ t = .int .i64 j ∧ Kep W tx xs j v wr) (fun t _ _ => n - (intOf t).toNat)
  case atStart => exact ⟨0, by omega, rfl, World.ownsRow_nil _ _ _ _, Below.refl _ _⟩
  case round =>
    obtain ⟨j, hj, rfl, hk⟩ := hrel
    have K0 := Lib.hid hk
    obtain ⟨A0, c0', ev, -⟩ := hk.row.ls
    subst ev
    obtain ⟨q, hq⟩ : ∃ q, (wout tx (xs.take j)).length = q := ⟨_, rfl⟩
    have hq1 : q ≤ j := by rw [← hq]; refine Nat.le_trans (wout_len _ _) ?_; rw [List.length_take]; omega
    have HQ := Lib.hid hq
    clear hk
    rw [hq] at K0 ⊢
    clear hq
    by_cases hjn : j < n
    · have hjl : j < xs.length := by rw [HN.out]; exact hjn
      obtain ⟨a, rfl, hh⟩ := (HR.out.below K0.out.bel).here hjl
      obtain ⟨c0, c1⟩ := hh
      obtain ⟨x, hx⟩ : ∃ x, xs[j] = x := ⟨_, rfl⟩
      rw [hx] at c0 c1
      have hb1 := box_below wr (.cells #[.int .i64 x.1, .int .i64 x.2] 84)
      have K1 := Lib.hid (K0.out.below hb1)
      by_cases ht : x.1 = tx
      · have HE := Lib.hid (wout_no (tx := tx) hjl (by rw [hx]; simpa using ht))
        obtain ⟨t, m⟩ := x
        simp only at c0 c1 ht K1
        subst ht
        clear hx hb1 hjl
        go_wp2
        go_roundw
        case rel => exact ⟨j + 1, by omega, by go_num, by have := K1.out; exact ⟨by rw [HE.out]; exact this.row, this.bel⟩⟩
        case measure => simp [intOf]; omega
      · have HE := Lib.hid (wout_yes (tx := tx) hjl (by rw [hx]; simpa using ht))
        rw [hx] at HE
        have hbx := box_ls wr x
        have hx2 := box_ls (wr.alloc (.cells #[.int .i64 x.1, .int .i64 x.2] 84)) x
        have hb2 := box_below (wr.alloc (.cells #[.int .i64 x.1, .int .i64 x.2] 84)) (.cells #[.int .i64 x.1, .int .i64 x.2] 84)
        have hs2 := (K1.out.bel.trans (hb2.mono K1.out.bel.size)).size
        have hr2 : Row _ W.heap.size _ _ := row_below K1.out.row hb2
        obtain ⟨v', w', hrun, hrow, hg, -⟩ := hr2.app hx2 (by rw [HQ.out]; simp; omega) hs2 77
        obtain ⟨A', c', rfl, -⟩ := hrow.ls
        have K2 := Lib.hid (show Kep W tx xs (j + 1) (.slice A' (wout tx (xs.take j) ++ [x]).length c') w' from ⟨by rw [HE.out]; exact hrow, (K1.out.bel.trans (hb2.mono K1.out.bel.size)).trans (hr2.app_below hg hs2)⟩)
        rw [List.length_append, HQ.out] at K2 hrun
        obtain ⟨t, m⟩ := x
        simp only at c0 c1 ht
        simp only [List.length_cons, List.length_nil, Nat.zero_add] at K2 hrun
        rw [show (wr.alloc (.cells #[.int .i64 t, .int .i64 m] 84)).heap.size = wr.heap.size + 1 by simp] at hrun
        have ht' : (t != tx) = true := by simpa using ht
        clear hx hbx hx2 hb1 hb2 hs2 hr2 hrow hg K1 HE hjl ht
        go_wp2_with (at_builtin; refine Lib.wpList_append_run _ rfl _ _ _ _ rfl _ _ rfl rfl _ _ hrun ?_)
        go_roundw
        case rel => exact ⟨j + 1, by omega, by go_num, K2.out⟩
        case measure => simp [intOf]; omega
    · obtain rfl : j = n := by omega
      have hr := K0.out.row
      have hall : xs.take j = xs := List.take_of_length_le (Nat.le_of_eq HN.out)
      rw [hall] at hr HQ
      obtain ⟨A', c', hv, hd⟩ := hr.ls
      rw [HQ.out] at hv
      cases hv
      have HD := Lib.hid (And.intro hd hr.far)
      have HB := Lib.hid K0.out.bel
      clear hr hd K0 hall
      go_wp2
      go_ret
      exact ⟨A0, c0', by rw [HQ.out]; rfl, HD.out, HB.out⟩
set_option maxHeartbeats 1000000 in
theorem rset_row (hr : Ls W A c xs) (hl : xs.length ≤ 500) (tx m : Int) : Calls Tryz.prog 106 #[.slice A xs.length c, .int .i64 tx, .int .i64 m] W (Rows W (setL tx m xs)) := by
  have HR := Lib.hid hr
  obtain ⟨n, hn⟩ : ∃ n, xs.length = n := ⟨_, rfl⟩
  rw [hn] at hl ⊢
  have HN := Lib.hid hn
  clear hr hn
  go_enter Tryz.func106, Tryz.ntmps106
  go_wp2
  go_loopw [13, 8, 7] (fun t d v wr => ∃ j : Nat, j ≤ n ∧ t = .int .i64 j ∧ d = .bool (dn tx (xs.take j)) ∧ Kp W (pre tx m (xs.take j)) v wr) (fun t _ _ _ => n - (intOf t).toNat)
  case atStart => exact ⟨0, by omega, rfl, rfl, World.ownsRow_nil _ _ _ _, Below.refl _ _⟩
  case round =>
    obtain ⟨j, hj, rfl, rfl, hk⟩ := hrel
    have hpl : (pre tx m (xs.take j)).length = j := by rw [pre_len, List.length_take]; have := HN.out; omega
    obtain ⟨A0, c0', ev, -⟩ := hk.row.ls
    rw [hpl] at ev
    subst ev
    have K0 := Lib.hid hk
    have HPL := Lib.hid hpl
    clear hk hpl
    obtain ⟨d, hd⟩ : ∃ d, dn tx (xs.take j) = d := ⟨_, rfl⟩
    have HD := Lib.hid hd
    rw [hd]
    clear hd
    by_cases hjn : j < n
    · have hjl : j < xs.length := by rw [HN.out]; exact hjn
      obtain ⟨a, rfl, c0, c1⟩ := (HR.out.below K0.out.bel).here hjl
      have HT := Lib.hid (List.take_succ_eq_append_getElem hjl)
      generalize xs[j] = x at c0 c1 HT
      obtain ⟨t, mm⟩ := x
      simp only at c0 c1
      clear hjl
      by_cases ht : t = tx
      · subst ht
        cases d
        · have hb1 := box_below wr (.cells #[.int .i64 t, .int .i64 m] 84)
          obtain ⟨A2, c2, w3, hrun, hk3⟩ := (K0.out.below hb1).app (x := (t, m)) HPL.out (by omega) 77
          simp only at hrun
          rw [show (wr.alloc (.cells #[.int .i64 t, .int .i64 m] 84)).heap.size = wr.heap.size + 1 by simp] at hrun
          have HE := Lib.hid (pre_new (tx := t) (m := m) (l := xs.take j) (x := (t, mm)) (by simp) HD.out)
          have HS := Lib.hid (dn_snoc t (xs.take j) (t, mm))
          rw [← HT.out] at HE HS
          rw [← HE.out] at hk3
          have K3 := Lib.hid hk3
          have HD2 := Lib.hid (show dn t (xs.take (j + 1)) = true by rw [HS.out]; simp)
          clear hk3 hb1 HE HS
          go_wp2_with (at_builtin; refine Lib.wpList_append_run _ rfl _ _ _ _ rfl _ _ rfl rfl _ _ hrun ?_)
          go_roundw
          case rel => exact ⟨j + 1, by omega, by go_num, by rw [HD2.out], K3.out⟩
          case measure => simp [intOf]; omega
        · have hb1 := box_below wr (.cells #[.int .i64 t, .int .i64 mm] 84)
          obtain ⟨A2, c2, w3, hrun, hk3⟩ := (K0.out.below hb1).app (x := (t, mm)) HPL.out (by omega) 77
          simp only at hrun
          rw [show (wr.alloc (.cells #[.int .i64 t, .int .i64 mm] 84)).heap.size = wr.heap.size + 1 by simp] at hrun
          have HE := Lib.hid (pre_keep (tx := t) (m := m) (l := xs.take j) (x := (t, mm)) (.inr HD.out))
          have HS := Lib.hid (dn_snoc t (xs.take j) (t, mm))
          rw [← HT.out] at HE HS
          rw [← HE.out] at hk3
          have K3 := Lib.hid hk3
          have HD2 := Lib.hid (show dn t (xs.take (j + 1)) = true by rw [HS.out]; simp)
          clear hk3 hb1 HE HS
          go_wp2_with (at_builtin; refine Lib.wpList_append_run _ rfl _ _ _ _ rfl _ _ rfl rfl _ _ hrun ?_)
          go_roundw
          case rel => exact ⟨j + 1, by omega, by go_num, by rw [HD2.out], K3.out⟩
          case measure => simp [intOf]; omega
      · have hne : (t == tx) = false := by simpa using ht
        have hb1 := box_below wr (.cells #[.int .i64 t, .int .i64 mm] 84)
        obtain ⟨A2, c2, w3, hrun, hk3⟩ := (K0.out.below hb1).app (x := (t, mm)) HPL.out (by omega) 77
        simp only at hrun
        rw [show (wr.alloc (.cells #[.int .i64 t, .int .i64 mm] 84)).heap.size = wr.heap.size + 1 by simp] at hrun
        have HE := Lib.hid (pre_keep (tx := tx) (m := m) (l := xs.take j) (x := (t, mm)) (.inl hne))
        have HS := Lib.hid (dn_snoc tx (xs.take j) (t, mm))
        rw [← HT.out] at HE HS
        rw [← HE.out] at hk3
        have K3 := Lib.hid hk3
        have HD2 := Lib.hid (show dn tx (xs.take (j + 1)) = d by rw [HS.out, HD.out, hne]; simp)
        clear hk3 hb1 HE HS ht
        go_wp2_with (at_builtin; refine Lib.wpList_append_run _ rfl _ _ _ _ rfl _ _ rfl rfl _ _ hrun ?_)
        go_roundw
        case rel => exact ⟨j + 1, by omega, by go_num, by rw [HD2.out], K3.out⟩
        case measure => simp [intOf]; omega
    · obtain rfl : j = n := by omega
      have HT := Lib.hid (List.take_of_length_le (Nat.le_of_eq HN.out))
      rw [HT.out] at HD K0 HPL
      cases d
      · obtain ⟨A2, c2, w3, hrun, hk3⟩ := K0.out.app (x := (tx, m)) HPL.out (by omega) 77
        simp only at hrun
        have K3 := Lib.hid hk3
        clear hk3
        go_wp2_with (at_builtin; refine Lib.wpList_append_run _ rfl _ _ _ _ rfl _ _ rfl rfl _ _ hrun ?_)
        go_ret
        exact rows_of K3.out (by rw [List.length_append, HPL.out]; rfl) (setL_post HD.out)
      · go_wp2
        go_ret
        exact rows_of K0.out HPL.out (setL_pre HD.out)
end
end Go.Proofs.YtjhkejkdnjogiaaGreatDoor.Hs
namespace Go.Proofs.YtjhkejkdnjogiaaGreatDoor.Ws
open Go Go.RowKit Go.Shelf
set_option maxRecDepth 100000

section
variable {W W' : World} {A : Option Addr} {c K : Nat} {xs : List Wt}
set_option maxHeartbeats 2000000 in
theorem rwithout_far (hr : Ls W A c xs) (hl : xs.length ≤ 500) (tx : Int) : Calls Tryz.prog 100 #[.slice A xs.length c, .int .i64 tx] W (Fars W (wout tx xs)) := by
  have HR := Lib.hid hr
  obtain ⟨n, hn⟩ : ∃ n, xs.length = n := ⟨_, rfl⟩
  rw [hn] at hl ⊢
  have HN := Lib.hid hn
  clear hr hn
  go_enter Tryz.func100, Tryz.ntmps100
  go_wp2
  go_loopw [10, 5] (fun t v wr => ∃ j : Nat, j ≤ n ∧ t = .int .i64 j ∧ Kep W tx xs j v wr) (fun t _ _ => n - (intOf t).toNat)
  case atStart => exact ⟨0, by omega, rfl, World.ownsRow_nil _ _ _ _, Below.refl _ _⟩
  case round =>
    obtain ⟨j, hj, rfl, hk⟩ := hrel
    have K0 := Lib.hid hk
    obtain ⟨A0, c0', ev, -⟩ := hk.row.ls
    subst ev
    obtain ⟨q, hq⟩ : ∃ q, (wout tx (xs.take j)).length = q := ⟨_, rfl⟩
    have hq1 : q ≤ j := by rw [← hq]; refine Nat.le_trans (wout_len _ _) ?_; rw [List.length_take]; omega
    have HQ := Lib.hid hq
    clear hk
    rw [hq] at K0 ⊢
    clear hq
    by_cases hjn : j < n
    · have hjl : j < xs.length := by rw [HN.out]; exact hjn
      obtain ⟨a, rfl, hh⟩ := (HR.out.below K0.out.bel).here hjl
      obtain ⟨c0, c1, c2, c3⟩ := hh
      obtain ⟨x, hx⟩ : ∃ x, xs[j] = x := ⟨_, rfl⟩
      rw [hx] at c0 c1 c2 c3
      have hb1 := box_below wr (.cells #[.int .i64 x.1, .int .i64 x.2.1, .bool x.2.2.1, .bool x.2.2.2] 54)
      have K1 := Lib.hid (K0.out.below hb1)
      by_cases ht : x.1 = tx
      · have HE := Lib.hid (wout_no (tx := tx) hjl (by rw [hx]; simpa using ht))
        obtain ⟨t, m, cv, ii⟩ := x
        simp only at c0 c1 c2 c3 ht K1
        subst ht
        clear hx hb1 hjl
        go_wp2
        go_roundw
        case rel => exact ⟨j + 1, by omega, by go_num, by have := K1.out; exact ⟨by rw [HE.out]; exact this.row, this.bel⟩⟩
        case measure => simp [intOf]; omega
      · have HE := Lib.hid (wout_yes (tx := tx) hjl (by rw [hx]; simpa using ht))
        rw [hx] at HE
        have hbx := box_ls wr x
        have hx2 := box_ls (wr.alloc (.cells #[.int .i64 x.1, .int .i64 x.2.1, .bool x.2.2.1, .bool x.2.2.2] 54)) x
        have hb2 := box_below (wr.alloc (.cells #[.int .i64 x.1, .int .i64 x.2.1, .bool x.2.2.1, .bool x.2.2.2] 54)) (.cells #[.int .i64 x.1, .int .i64 x.2.1, .bool x.2.2.1, .bool x.2.2.2] 54)
        have hs2 := (K1.out.bel.trans (hb2.mono K1.out.bel.size)).size
        have hr2 : Row _ W.heap.size _ _ := row_below K1.out.row hb2
        obtain ⟨v', w', hrun, hrow, hg, -⟩ := hr2.app hx2 (by rw [HQ.out]; simp; omega) hs2 67
        obtain ⟨A', c', rfl, -⟩ := hrow.ls
        have K2 := Lib.hid (show Kep W tx xs (j + 1) (.slice A' (wout tx (xs.take j) ++ [x]).length c') w' from ⟨by rw [HE.out]; exact hrow, (K1.out.bel.trans (hb2.mono K1.out.bel.size)).trans (hr2.app_below hg hs2)⟩)
        rw [List.length_append, HQ.out] at K2 hrun
        obtain ⟨t, m, cv, ii⟩ := x
        simp only at c0 c1 c2 c3 ht
        simp only [List.length_cons, List.length_nil, Nat.zero_add] at K2 hrun
        rw [show (wr.alloc (.cells #[.int .i64 t, .int .i64 m, .bool cv, .bool ii] 54)).heap.size = wr.heap.size + 1 by simp] at hrun
        have ht' : (t != tx) = true := by simpa using ht
        clear hx hbx hx2 hb1 hb2 hs2 hr2 hrow hg K1 HE hjl ht
        go_wp2_with (at_builtin; refine Lib.wpList_append_run _ rfl _ _ _ _ rfl _ _ rfl rfl _ _ hrun ?_)
        go_roundw
        case rel => exact ⟨j + 1, by omega, by go_num, K2.out⟩
        case measure => simp [intOf]; omega
    · obtain rfl : j = n := by omega
      have hr := K0.out.row
      have hall : xs.take j = xs := List.take_of_length_le (Nat.le_of_eq HN.out)
      rw [hall] at hr HQ
      obtain ⟨A', c', hv, hd⟩ := hr.ls
      rw [HQ.out] at hv
      cases hv
      have HD := Lib.hid (And.intro hd hr.far)
      have HB := Lib.hid K0.out.bel
      clear hr hd K0 hall
      go_wp2
      go_ret
      exact ⟨A0, c0', by rw [HQ.out]; rfl, HD.out, HB.out⟩
set_option maxHeartbeats 4000000 in
theorem rinsert_far (hr : Ls W A c xs) (hl : xs.length ≤ 500) (x : Wt) : Calls Tryz.prog 107 #[.slice A xs.length c, wv x] W (Fars W (ins x xs)) := by
  have hx := box_below W (.cells #[.int .i64 x.1, .int .i64 x.2.1, .bool x.2.2.1, .bool x.2.2.2] 54)
  have hbx := box_ls W x
  have HP := Lib.hid (rplace_any (hr.below hx) (by omega) x.2.2.1)
  have hle := plN_le (fun y => y.2.2.1 || !x.2.2.1) xs
  have HI := Lib.hid (show ins x xs = xs.take (plc x.2.2.1 xs) ++ [x] ++ xs.drop (plc x.2.2.1 xs) from rfl)
  change plc x.2.2.1 xs ≤ _ at hle
  generalize plc x.2.2.1 xs = k at *
  have H1 := Lib.hid (hr.head k)
  have H3 := Lib.hid (hr.tl hle)
  obtain ⟨SA, hSA⟩ : ∃ SA, tlA A c k = SA := ⟨_, rfl⟩
  have HSA := Lib.hid hSA
  rw [hSA] at H3
  have hcap := hr.cap
  have hroom : c ≤ 9223372036854775807 := by have := hr.room; unfold maxLen at this; omega
  obtain ⟨n, hn⟩ : ∃ n, xs.length = n := ⟨_, rfl⟩
  rw [hn] at hle hl hcap HP ⊢
  have HN := Lib.hid hn
  obtain ⟨tx, m, cv, ii⟩ := x
  simp only at hx hbx HP
  have HX := Lib.hid hx
  have HR := Lib.hid hr
  have hkc : (k : Int) ≤ (c : Int) := by omega
  have L1 := Lib.hid (H1.out.below HX.out)
  have L3 := Lib.hid (H3.out.below HX.out)
  have N1 := Lib.hid (show (xs.take k).length = k by rw [List.length_take, HN.out]; omega)
  have N3 := Lib.hid (show (xs.drop k).length = n - k by rw [List.length_drop, HN.out])
  have HIL := Lib.hid (show (ins (tx, m, cv, ii) xs).length = n + 1 by rw [HI.out, List.length_append, List.length_append, N1.out, N3.out]; simp; omega)
  obtain ⟨ad, had, e0, e1, e2, e3⟩ := hbx.here (i := 0) (by simp)
  cases had
  simp only [List.getElem_cons_zero, Nat.zero_mul, add_at, Nat.zero_add] at e0 e1 e2 e3
  have hs4 : S4 W.heap.size tx m cv ii (W.alloc (.cells #[.int .i64 tx, .int .i64 m, .bool cv, .bool ii] 54)) := ⟨e0, e1, e2, e3⟩
  have HS4 := Lib.hid hs4
  have HL1 := Lib.hid (show (xs.take k ++ [(tx, m, cv, ii)]).length = k + 1 by rw [List.length_append, N1.out]; rfl)
  have HSZ := Lib.hid (show Below W.heap.size W (W.alloc (.cells #[.int .i64 tx, .int .i64 m, .bool cv, .bool ii] 54)) from HX.out)
  clear hr hx hbx hSA hn H1 H3 e0 e1 e2 e3 hs4
  cases A with
  | none =>
    obtain rfl : c = 0 := HR.out.nil rfl
    obtain rfl : n = 0 := by omega
    obtain rfl : k = 0 := by omega
    obtain rfl : SA = none := by rw [← HSA.out]; rfl
    go_enter Tryz.func107, Tryz.ntmps107
    go_wp2_with (go_at_call 104; ((with_reducible refine HP.out.mono ?_); rintro e w' ⟨rfl, rfl⟩))
    generalize W.heap.size = Bx at HS4 ⊢
    generalize W.alloc (.cells #[.int .i64 tx, .int .i64 m, .bool cv, .bool ii] 54) = w1 at *
    go_region_held3 (SB Bx tx m cv ii w1) (first | exact sb_drew HS4.out | exact sb_box HS4.out | exact sb_alloc HS4.out hsa | assumption | fail) (first
          | (refine step_nil (base := w1.heap.size) (A := none) (c := 0) (n := 0) (ys := xs.take 0) ?h1 (.const (.slice none 0 0)) (.tmp 12) ?h2 ?h3 ?h4 ?h5 N1.out ?h6 ?h7 ?_; rotate_right; (case h1 => rfl); (case h2 => rfl); (case h3 => kernel_rfl); (case h4 => kernel_rfl); (case h5 => first | exact L1.out.below (drew_below w1 1) | exact (L1.out.below (box_below w1 _)).drewN 1); (case h6 => omega); (case h7 => first | exact Nat.le_refl _ | simp); intro A1 c1 wa hra hba; have hsa : SB Bx tx m cv ii w1 wa := (by first | exact sb_full HS4.out (sb_drew HS4.out) hba | exact sb_full HS4.out (sb_box HS4.out) hba))
          | (refine step_row (base := w1.heap.size) (A := some ⟨wa.heap.size, 0, none⟩) (A0 := A1) (c0 := c1) (c := 1) (n := 1) (m := 0) (q := 0 + 1) (xs := xs.take 0) (ys := [(tx, m, cv, ii)]) ?h1 (.tmp 13) (.tmp 15) ?h2 ?h3 ?h4 ?h5 ?h6 N1.out rfl rfl ?h7 ?h8 ?_; rotate_right; (case h1 => rfl); (case h2 => rfl); (case h3 => kernel_rfl); (case h4 => kernel_rfl); (case h5 => exact row_below hra (box_below _ _)); (case h6 => exact box_ls wa (tx, m, cv, ii)); (case h7 => omega); (case h8 => exact (sb_bel (sb_alloc HS4.out hsa)).size); intro A2 c2 wb hrb hbb; have hsb : SB Bx tx m cv ii w1 wb := sb_app HS4.out (sb_alloc HS4.out hsa) hbb)
          | (refine step_row (base := w1.heap.size) (A := some ⟨w1.heap.size, 0, none⟩) (A0 := A1) (c0 := c1) (c := 1) (n := 1) (m := 0) (q := 0 + 1) (xs := xs.take 0) (ys := [(tx, m, cv, ii)]) ?h1 (.tmp 13) (.tmp 15) ?h2 ?h3 ?h4 ?h5 ?h6 N1.out rfl rfl ?h7 ?h8 ?_; rotate_right; (case h1 => rfl); (case h2 => rfl); (case h3 => kernel_rfl); (case h4 => kernel_rfl); (case h5 => exact hra); (case h6 => exact ((box_ls w1 (tx, m, cv, ii)).drewN 1).below hba); (case h7 => omega); (case h8 => exact (sb_bel hsa).size); intro A2 c2 wb hrb hbb; have hsb : SB Bx tx m cv ii w1 wb := sb_app HS4.out hsa hbb)
          | (refine step_row (base := w1.heap.size) (A := none) (A0 := A2) (c0 := c2) (c := 0) (n := 0) (m := 0 + 1) (q := 1) (xs := xs.take 0 ++ [(tx, m, cv, ii)]) (ys := xs.drop 0) ?h1 (.tmp 16) (.tmp 19) ?h2 ?h3 ?h4 ?h5 ?h6 ?h9 N3.out ?h10 ?h7 ?h8 ?_; rotate_right; (case h1 => rfl); (case h2 => rfl); (case h3 => kernel_rfl); (case h4 => kernel_rfl); (case h5 => exact hrb); (case h6 => exact L3.out.below (sb_bel hsb)); (case h7 => omega); (case h8 => exact (sb_bel hsb).size); (case h9 => exact HL1.out); (case h10 => omega); intro A3 c3 wc hrc hbc; have hsc : SB Bx tx m cv ii w1 wc := sb_app HS4.out hsb hbc) | fail)
    all_goals
      obtain ⟨A4, c4, hv, hls⟩ := (show ∃ A c, Value.slice A3 (1) c3 = .slice A (ins (tx, m, cv, ii) xs).length c ∧ Ls wc A c (ins (tx, m, cv, ii) xs) by rw [HI.out]; exact hrc.ls)
      have HB := Lib.hid (HSZ.out.trans ((sb_bel hsc).mono HSZ.out.size))
      have HV := Lib.hid hv
      have HL := Lib.hid (And.intro hls (show ∀ a, A4 = some a → W.heap.size ≤ a.block from by injection hv with e1 e2 e3; rw [← e1]; exact fun a ha => Nat.le_trans HSZ.out.size (hrc.far a ha)))
      clear hv hls hra hba hrb hbb hrc hbc hsa hsb hsc
      go_wp2_with fail
      go_ret
      exact ⟨A4, c4, by rw [← HV.out]; rfl, HL.out, HB.out⟩
  | some a =>
    by_cases hck : c = k
    · obtain rfl : n = c := by omega
      obtain rfl : k = n := by omega
      obtain rfl : SA = some a := by rw [← HSA.out]; unfold tlA; rw [if_pos rfl]
      replace L3 := Lib.hid L3.out
      rw [Nat.sub_self] at L3 N3
      clear hck
      go_enter Tryz.func107, Tryz.ntmps107
      go_wp2_with (go_at_call 104; ((with_reducible refine HP.out.mono ?_); rintro e w' ⟨rfl, rfl⟩))
      generalize W.heap.size = Bx at HS4 ⊢
      generalize W.alloc (.cells #[.int .i64 tx, .int .i64 m, .bool cv, .bool ii] 54) = w1 at *
      go_region_held3 (SB Bx tx m cv ii w1) (first | exact sb_drew HS4.out | exact sb_box HS4.out | exact sb_alloc HS4.out hsa | assumption | fail) (first
            | (refine step_nil (base := w1.heap.size) (A := some a) (c := k) (n := k) (ys := xs.take k) ?h1 (.const (.slice none 0 0)) (.tmp 12) ?h2 ?h3 ?h4 ?h5 N1.out ?h6 ?h7 ?_; rotate_right; (case h1 => rfl); (case h2 => rfl); (case h3 => kernel_rfl); (case h4 => kernel_rfl); (case h5 => first | exact L1.out.below (drew_below w1 1) | exact (L1.out.below (box_below w1 _)).drewN 1); (case h6 => omega); (case h7 => first | exact Nat.le_refl _ | simp); intro A1 c1 wa hra hba; have hsa : SB Bx tx m cv ii w1 wa := (by first | exact sb_full HS4.out (sb_drew HS4.out) hba | exact sb_full HS4.out (sb_box HS4.out) hba))
            | (refine step_row (base := w1.heap.size) (A := some ⟨wa.heap.size, 0, none⟩) (A0 := A1) (c0 := c1) (c := 1) (n := 1) (m := k) (q := k + 1) (xs := xs.take k) (ys := [(tx, m, cv, ii)]) ?h1 (.tmp 13) (.tmp 15) ?h2 ?h3 ?h4 ?h5 ?h6 N1.out rfl rfl ?h7 ?h8 ?_; rotate_right; (case h1 => rfl); (case h2 => rfl); (case h3 => kernel_rfl); (case h4 => kernel_rfl); (case h5 => exact row_below hra (box_below _ _)); (case h6 => exact box_ls wa (tx, m, cv, ii)); (case h7 => omega); (case h8 => exact (sb_bel (sb_alloc HS4.out hsa)).size); intro A2 c2 wb hrb hbb; have hsb : SB Bx tx m cv ii w1 wb := sb_app HS4.out (sb_alloc HS4.out hsa) hbb)
            | (refine step_row (base := w1.heap.size) (A := some ⟨w1.heap.size, 0, none⟩) (A0 := A1) (c0 := c1) (c := 1) (n := 1) (m := k) (q := k + 1) (xs := xs.take k) (ys := [(tx, m, cv, ii)]) ?h1 (.tmp 13) (.tmp 15) ?h2 ?h3 ?h4 ?h5 ?h6 N1.out rfl rfl ?h7 ?h8 ?_; rotate_right; (case h1 => rfl); (case h2 => rfl); (case h3 => kernel_rfl); (case h4 => kernel_rfl); (case h5 => exact hra); (case h6 => exact ((box_ls w1 (tx, m, cv, ii)).drewN 1).below hba); (case h7 => omega); (case h8 => exact (sb_bel hsa).size); intro A2 c2 wb hrb hbb; have hsb : SB Bx tx m cv ii w1 wb := sb_app HS4.out hsa hbb)
            | (refine step_row (base := w1.heap.size) (A := some a) (A0 := A2) (c0 := c2) (c := 0) (n := 0) (m := k + 1) (q := k + 1) (xs := xs.take k ++ [(tx, m, cv, ii)]) (ys := xs.drop k) ?h1 (.tmp 16) (.tmp 19) ?h2 ?h3 ?h4 ?h5 ?h6 ?h9 N3.out ?h10 ?h7 ?h8 ?_; rotate_right; (case h1 => rfl); (case h2 => rfl); (case h3 => kernel_rfl); (case h4 => kernel_rfl); (case h5 => exact hrb); (case h6 => exact L3.out.below (sb_bel hsb)); (case h7 => omega); (case h8 => exact (sb_bel hsb).size); (case h9 => exact HL1.out); (case h10 => omega); intro A3 c3 wc hrc hbc; have hsc : SB Bx tx m cv ii w1 wc := sb_app HS4.out hsb hbc) | fail)
      all_goals
        obtain ⟨A4, c4, hv, hls⟩ := (show ∃ A c, Value.slice A3 (k + 1) c3 = .slice A (ins (tx, m, cv, ii) xs).length c ∧ Ls wc A c (ins (tx, m, cv, ii) xs) by rw [HI.out]; exact hrc.ls)
        have HB := Lib.hid (HSZ.out.trans ((sb_bel hsc).mono HSZ.out.size))
        have HV := Lib.hid hv
        have HL := Lib.hid (And.intro hls (show ∀ a, A4 = some a → W.heap.size ≤ a.block from by injection hv with e1 e2 e3; rw [← e1]; exact fun a ha => Nat.le_trans HSZ.out.size (hrc.far a ha)))
        clear hv hls hra hba hrb hbb hrc hbc hsa hsb hsc
        go_wp2_with fail
        go_ret
        exact ⟨A4, c4, by rw [← HV.out]; rfl, HL.out, HB.out⟩
    · obtain rfl : SA = some (a.add (k * 4)) := by rw [← HSA.out]; unfold tlA; rw [if_neg hck]; rfl
      go_enter Tryz.func107, Tryz.ntmps107
      go_wp2_with (go_at_call 104; ((with_reducible refine HP.out.mono ?_); rintro e w' ⟨rfl, rfl⟩))
      generalize W.heap.size = Bx at HS4 ⊢
      generalize W.alloc (.cells #[.int .i64 tx, .int .i64 m, .bool cv, .bool ii] 54) = w1 at *
      go_region_held3 (SB Bx tx m cv ii w1) (first | exact sb_drew HS4.out | exact sb_box HS4.out | exact sb_alloc HS4.out hsa | assumption | fail) (first
            | (refine step_nil (base := w1.heap.size) (A := some a) (c := c) (n := k) (ys := xs.take k) ?h1 (.const (.slice none 0 0)) (.tmp 12) ?h2 ?h3 ?h4 ?h5 N1.out ?h6 ?h7 ?_; rotate_right; (case h1 => rfl); (case h2 => rfl); (case h3 => kernel_rfl); (case h4 => kernel_rfl); (case h5 => first | exact L1.out.below (drew_below w1 1) | exact (L1.out.below (box_below w1 _)).drewN 1); (case h6 => omega); (case h7 => first | exact Nat.le_refl _ | simp); intro A1 c1 wa hra hba; have hsa : SB Bx tx m cv ii w1 wa := (by first | exact sb_full HS4.out (sb_drew HS4.out) hba | exact sb_full HS4.out (sb_box HS4.out) hba))
            | (refine step_row (base := w1.heap.size) (A := some ⟨wa.heap.size, 0, none⟩) (A0 := A1) (c0 := c1) (c := 1) (n := 1) (m := k) (q := k + 1) (xs := xs.take k) (ys := [(tx, m, cv, ii)]) ?h1 (.tmp 13) (.tmp 15) ?h2 ?h3 ?h4 ?h5 ?h6 N1.out rfl rfl ?h7 ?h8 ?_; rotate_right; (case h1 => rfl); (case h2 => rfl); (case h3 => kernel_rfl); (case h4 => kernel_rfl); (case h5 => exact row_below hra (box_below _ _)); (case h6 => exact box_ls wa (tx, m, cv, ii)); (case h7 => omega); (case h8 => exact (sb_bel (sb_alloc HS4.out hsa)).size); intro A2 c2 wb hrb hbb; have hsb : SB Bx tx m cv ii w1 wb := sb_app HS4.out (sb_alloc HS4.out hsa) hbb)
            | (refine step_row (base := w1.heap.size) (A := some ⟨w1.heap.size, 0, none⟩) (A0 := A1) (c0 := c1) (c := 1) (n := 1) (m := k) (q := k + 1) (xs := xs.take k) (ys := [(tx, m, cv, ii)]) ?h1 (.tmp 13) (.tmp 15) ?h2 ?h3 ?h4 ?h5 ?h6 N1.out rfl rfl ?h7 ?h8 ?_; rotate_right; (case h1 => rfl); (case h2 => rfl); (case h3 => kernel_rfl); (case h4 => kernel_rfl); (case h5 => exact hra); (case h6 => exact ((box_ls w1 (tx, m, cv, ii)).drewN 1).below hba); (case h7 => omega); (case h8 => exact (sb_bel hsa).size); intro A2 c2 wb hrb hbb; have hsb : SB Bx tx m cv ii w1 wb := sb_app HS4.out hsa hbb)
            | (refine step_row (base := w1.heap.size) (A := some (a.add (k * 4))) (A0 := A2) (c0 := c2) (c := (c - k)) (n := (n - k)) (m := k + 1) (q := n + 1) (xs := xs.take k ++ [(tx, m, cv, ii)]) (ys := xs.drop k) ?h1 (.tmp 16) (.tmp 19) ?h2 ?h3 ?h4 ?h5 ?h6 ?h9 N3.out ?h10 ?h7 ?h8 ?_; rotate_right; (case h1 => rfl); (case h2 => rfl); (case h3 => kernel_rfl); (case h4 => kernel_rfl); (case h5 => exact hrb); (case h6 => exact L3.out.below (sb_bel hsb)); (case h7 => omega); (case h8 => exact (sb_bel hsb).size); (case h9 => exact HL1.out); (case h10 => omega); intro A3 c3 wc hrc hbc; have hsc : SB Bx tx m cv ii w1 wc := sb_app HS4.out hsb hbc) | fail)
      all_goals
        obtain ⟨A4, c4, hv, hls⟩ := (show ∃ A c, Value.slice A3 (n + 1) c3 = .slice A (ins (tx, m, cv, ii) xs).length c ∧ Ls wc A c (ins (tx, m, cv, ii) xs) by rw [HI.out]; exact hrc.ls)
        have HB := Lib.hid (HSZ.out.trans ((sb_bel hsc).mono HSZ.out.size))
        have HV := Lib.hid hv
        have HL := Lib.hid (And.intro hls (show ∀ a, A4 = some a → W.heap.size ≤ a.block from by injection hv with e1 e2 e3; rw [← e1]; exact fun a ha => Nat.le_trans HSZ.out.size (hrc.far a ha)))
        clear hv hls hra hba hrb hbb hrc hbc hsa hsb hsc
        go_wp2_with fail
        go_ret
        exact ⟨A4, c4, by rw [← HV.out]; rfl, HL.out, HB.out⟩
end
end Go.Proofs.YtjhkejkdnjogiaaGreatDoor.Ws
/- The document's queue in memory, with its node; how many both are; its copy; what keeps every number. -/
namespace Go.Proofs.YtjhkejkdnjogiaaGreatDoor
open Go Go.RowKit Go.Shelf
set_option maxRecDepth 100000

/-- a number or a bool -/
def isNb (v : Value) : Prop := (∃ k x, v = .int k x) ∨ ∃ b, v = .bool b
/-- every cell that has a number, or a bool, keeps it -/
def Nb (W W' : World) : Prop := ∀ (a : Addr) (v : Value), W.cell? a = some v → isNb v → W'.cell? a = some v
section
variable {W W' w w' : World} {T : Nat → Prop}
theorem Nb.refl (W : World) : Nb W W := fun _ _ h _ => h
theorem Nb.trans (h : Nb W w) (k : Nb w w') : Nb W w' := fun a v ha hv => k a v (h a v ha hv) hv
theorem Nb.below (h : Below W.heap.size W W') : Nb W W' := fun _ _ ha _ => (h.cell (cell_lt ha)).trans ha
theorem Nb.then (h : Nb W w) (hb : Below w.heap.size w w') : Nb W w' := h.trans (Nb.below hb)
theorem Nb.set {b o : Nat} {u : Value} (h : W.cell? ⟨b, o, none⟩ = some u) (hu : ¬ isNb u) (v : Value) : Nb W (W.setCell ⟨b, o, none⟩ v) := fun a x ha hx => by
  by_cases e : (⟨b, o, none⟩ : Addr) = a
  · subst e
    rw [h] at ha
    cases ha
    exact absurd hx hu
  · rw [World.cell?_setCell_other (h := e)]; exact ha
theorem Nb.grown {row : Option Nat} (h : Nb W w) (hg : w.grownBy w' row) (hr : ∀ k, row = some k → W.heap.size ≤ k) : Nb W w' := fun a v ha hv => by
  have h1 := h a v ha hv
  refine (World.cell?_of_block (w := w) (hg.block a.block (cell_lt h1) fun e => ?_)).trans h1
  have := hr _ e.symm
  have := cell_lt ha
  omega
theorem not_nb_slice (A : Option Addr) (n c : Nat) : ¬ isNb (.slice A n c) := by rintro (⟨_, _, h⟩ | ⟨_, h⟩) <;> cases h
theorem not_nb_ptr (A : Option Addr) : ¬ isNb (.pointer A) := by rintro (⟨_, _, h⟩ | ⟨_, h⟩) <;> cases h
theorem Hs.flat_nb : ∀ {xs : List Hs.Hd} {u : Value}, u ∈ Hs.flat xs → isNb u
  | [], u, h => by simp [Hs.flat] at h
  | x :: xs, u, h => by
    have e : Hs.flat (x :: xs) = [.int .i64 x.1, .int .i64 x.2] ++ Hs.flat xs := by simp [Hs.flat, Hs.cellsW]
    rw [e, List.mem_append] at h
    rcases h with h | h
    · simp only [List.mem_cons, List.not_mem_nil, or_false] at h
      rcases h with rfl | rfl <;> exact .inl ⟨_, _, rfl⟩
    · exact Hs.flat_nb h
theorem Ws.flat_nb : ∀ {xs : List Ws.Wt} {u : Value}, u ∈ Ws.flat xs → isNb u
  | [], u, h => by simp [Ws.flat] at h
  | x :: xs, u, h => by
    have e : Ws.flat (x :: xs) = [.int .i64 x.1, .int .i64 x.2.1, .bool x.2.2.1, .bool x.2.2.2] ++ Ws.flat xs := by simp [Ws.flat, Ws.cellsW]
    rw [e, List.mem_append] at h
    rcases h with h | h
    · simp only [List.mem_cons, List.not_mem_nil, or_false] at h
      rcases h with rfl | rfl | rfl | rfl
      · exact .inl ⟨_, _, rfl⟩
      · exact .inl ⟨_, _, rfl⟩
      · exact .inr ⟨_, rfl⟩
      · exact .inr ⟨_, rfl⟩
    · exact Ws.flat_nb h
theorem Hs.Ls.nb {A : Option Addr} {c : Nat} {xs : List Hs.Hd} (h : Hs.Ls W A c xs) (hn : Nb W W') : Hs.Ls W' A c xs :=
  ⟨h.cap, h.room, h.nil, fun a ha j u hj => hn _ _ (h.at' a ha j u hj) (Hs.flat_nb (List.mem_of_getElem? hj))⟩
theorem Ws.Ls.nb {A : Option Addr} {c : Nat} {xs : List Ws.Wt} (h : Ws.Ls W A c xs) (hn : Nb W W') : Ws.Ls W' A c xs :=
  ⟨h.cap, h.room, h.nil, fun a ha j u hj => hn _ _ (h.at' a ha j u hj) (Ws.flat_nb (List.mem_of_getElem? hj))⟩
end
/-- a list that lies where the elder one lay, or in memory that was made since -/
def Frb {α : Type} (B : Nat) (A : Option Addr × List α) (A' : Option Addr) (xs : List α) : Prop := xs = [] ∨ ∀ a, A' = some a → B ≤ a.block ∨ (A.2 ≠ [] ∧ ∃ a0, A.1 = some a0 ∧ a0.block = a.block)
section
variable {α : Type} {N N' : Nat} {A A' A'' : Option Addr} {xs ys zs : List α} {T : Nat → Prop}
theorem Frb.refl (N : Nat) (A : Option Addr) (xs : List α) : Frb N (A, xs) A xs := by
  by_cases h : xs = []
  · exact .inl h
  · exact .inr fun a ha => .inr ⟨h, a, ha, rfl⟩
theorem Frb.new {Z : Option Addr × List α} (h : ∀ a, A' = some a → N ≤ a.block) : Frb N Z A' ys := .inr fun a ha => .inl (h a ha)
theorem Frb.trans {Z : Option Addr × List α} (h : Frb N Z A' ys) (k : Frb N' (A', ys) A'' zs) (hn : N ≤ N') : Frb N Z A'' zs := by
  rcases k with k | k
  · exact .inl k
  · refine .inr fun a ha => ?_
    rcases k a ha with q | ⟨q, a0, q2, q3⟩
    · exact .inl (Nat.le_trans hn q)
    · rcases h with h | h
      · exact absurd h q
      · rcases h a0 q2 with z | ⟨z, a1, z2, z3⟩
        · exact .inl (by rw [← q3]; exact z)
        · exact .inr ⟨z, a1, z2, z3.trans q3⟩
theorem Frb.down {Z : Option Addr × List α} (h : Frb N' Z A' ys) (hn : N ≤ N') : Frb N Z A' ys := h.imp id fun q a ha => (q a ha).imp (Nat.le_trans hn) id
theorem Off.frb (h : Off T A xs) (k : Frb N (A, xs) A' ys) (hT : ∀ k, T k → k < N) : Off T A' ys := by
  rcases k with k | k
  · exact .inl k
  · refine .inr fun a ha ht => ?_
    rcases k a ha with q | ⟨q, a0, q2, q3⟩
    · have := hT _ ht; omega
    · rcases h with h | h
      · exact q h
      · exact h a0 q2 (by rw [q3]; exact ht)
end
section
variable {ops : Array Oper} {o : Oper} {a : Act} {w : World} {K : Act → World → Prop} {Q : Exit → Act → World → Prop} {E : Prop}
/-- append of holds to nothing, in a region that draws -/
theorem Hs.step_nil {base c n : Nat} {A : Option Addr} {ys : List Hs.Hd} (hg : o.guard = none) (s x : Operand) (hop : o.op = Op.call { callee := Callee.builtin Builtin.append, args := #[s, x], argTypes := #[77, 77] })
    (hs : a.eval s = .slice none 0 0) (hx : a.eval x = .slice A n c) (hl : Hs.Ls w A c ys) (hn : ys.length = n) (hle : n ≤ 1000) (hb : base ≤ w.heap.size)
    (hK : ∀ A' c' w', Hs.Row w' base (.slice A' n c') ys → Below w.heap.size w w' → K (a.put o.dst (.slice A' n c')) w') :
    if Region.wanted o (yielded ops a.tmps) = true then Oper.wp Tryz.prog o a w K Q else E := by
  subst hn
  obtain ⟨v', w', hrun, hrow, hgr, -⟩ := (show Hs.Row w base (.slice none 0 0) [] from World.ownsRow_nil _ _ _ _).app hl (by simpa using hle) hb o.type
  obtain ⟨A', c', rfl, -⟩ := hrow.ls
  have hw : Region.wanted o (yielded ops a.tmps) = true := by simp [Region.wanted, hg]
  rw [if_pos hw]
  unfold Oper.wp
  simp [execOp, hop, resolve, invoke, builtin, hs, hx, hrun, Result.andThen]
  exact hK _ _ _ hrow ⟨hgr.os, hgr.tape, hgr.output, hgr.size, fun k hk => hgr.block k hk (by simp [Value.ownBlock])⟩
end
/-- the document's queue lies in a block: its node, its holds, its waits -/
structure RAt (W : World) (b : Nat) (p : Pa.Pt) (A1 : Option Addr) (c1 : Nat) (A2 : Option Addr) (c2 : Nat) (H : List Hs.Hd) (L : List Ws.Wt) : Prop where
  blk : W.heap[b]? = some (.cells #[.int .i64 p.a, .int .i64 p.b, .int .i64 p.c, .int .i64 p.d, .int .i64 p.e, .slice A1 H.length c1, .slice A2 L.length c2] 79 (0, 0))
  h : Hs.Ls W A1 c1 H
  l : Ws.Ls W A2 c2 L
section
variable {W W' : World} {b n1 n2 : Nat} {p : Pa.Pt} {A1 A2 B1 B2 : Option Addr} {c1 c2 d1 d2 : Nat} {H H' : List Hs.Hd} {L L' : List Ws.Wt}
theorem RAt.e0 (h : RAt W b p A1 c1 A2 c2 H L) : W.cell? ⟨b, 0, none⟩ = some (.int .i64 p.a) := by rw [cell_blk h.blk]; rfl
theorem RAt.e1 (h : RAt W b p A1 c1 A2 c2 H L) : W.cell? ⟨b, 1, none⟩ = some (.int .i64 p.b) := by rw [cell_blk h.blk]; rfl
theorem RAt.e2 (h : RAt W b p A1 c1 A2 c2 H L) : W.cell? ⟨b, 2, none⟩ = some (.int .i64 p.c) := by rw [cell_blk h.blk]; rfl
theorem RAt.e3 (h : RAt W b p A1 c1 A2 c2 H L) : W.cell? ⟨b, 3, none⟩ = some (.int .i64 p.d) := by rw [cell_blk h.blk]; rfl
theorem RAt.e4 (h : RAt W b p A1 c1 A2 c2 H L) : W.cell? ⟨b, 4, none⟩ = some (.int .i64 p.e) := by rw [cell_blk h.blk]; rfl
theorem RAt.e5 (h : RAt W b p A1 c1 A2 c2 H L) : W.cell? ⟨b, 5, none⟩ = some (.slice A1 H.length c1) := by rw [cell_blk h.blk]; rfl
theorem RAt.e6 (h : RAt W b p A1 c1 A2 c2 H L) : W.cell? ⟨b, 6, none⟩ = some (.slice A2 L.length c2) := by rw [cell_blk h.blk]; rfl
theorem RAt.e5n (h : RAt W b p A1 c1 A2 c2 H L) {n : Nat} (hn : H.length = n) : W.cell? ⟨b, 5, none⟩ = some (.slice A1 n c1) := by rw [← hn]; exact h.e5
theorem RAt.e6n (h : RAt W b p A1 c1 A2 c2 H L) {n : Nat} (hn : L.length = n) : W.cell? ⟨b, 6, none⟩ = some (.slice A2 n c2) := by rw [← hn]; exact h.e6
theorem RAt.lt (h : RAt W b p A1 c1 A2 c2 H L) : b < W.heap.size := lt_blk h.blk
theorem RAt.fz (h : RAt W b p A1 c1 A2 c2 H L) (k : Nat) : W.frozen? ⟨b, k, none⟩ = false := free_blk h.blk
theorem RAt.below (h : RAt W b p A1 c1 A2 c2 H L) (hb : Below W.heap.size W W') : RAt W' b p A1 c1 A2 c2 H L :=
  ⟨(hb.block b h.lt).trans h.blk, h.h.below hb, h.l.below hb⟩
/-- another queue was changed -/
theorem RAt.beside {T : Nat → Prop} (h : RAt W b p A1 c1 A2 c2 H L) (ho : OnlyS T W W') (hb : ¬ T b) (hn : Nb W W') : RAt W' b p A1 c1 A2 c2 H L :=
  ⟨(ho.block b h.lt hb).trans h.blk, h.h.nb hn, h.l.nb hn⟩
theorem RAt.stay {T : Nat → Prop} (h : RAt W b p A1 c1 A2 c2 H L) (ho : OnlyS T W W') (hb : ¬ T b) (h1 : Off T A1 H) (h2 : Off T A2 L) : RAt W' b p A1 c1 A2 c2 H L :=
  ⟨(ho.block b h.lt hb).trans h.blk, h.h.stay ho h1, h.l.stay ho h2⟩
theorem RAt.nb5 (h : RAt W b p A1 c1 A2 c2 H L) (v : Value) : Nb W (W.setCell ⟨b, 5, none⟩ v) := Nb.set h.e5 (not_nb_slice _ _ _) v
theorem RAt.nb6 (h : RAt W b p A1 c1 A2 c2 H L) (v : Value) : Nb W (W.setCell ⟨b, 6, none⟩ v) := Nb.set h.e6 (not_nb_slice _ _ _) v
theorem RAt.set5 (h : RAt W b p A1 c1 A2 c2 H L) (hh : Hs.Ls W B1 d1 H') : RAt (W.setCell ⟨b, 5, none⟩ (.slice B1 H'.length d1)) b p B1 d1 A2 c2 H' L :=
  ⟨by rw [set_blk _ h.blk]; rfl, hh.nb (h.nb5 _), h.l.nb (h.nb5 _)⟩
theorem RAt.set6 (h : RAt W b p A1 c1 A2 c2 H L) (hl : Ws.Ls W B2 d2 L') : RAt (W.setCell ⟨b, 6, none⟩ (.slice B2 L'.length d2)) b p A1 c1 B2 d2 H L' :=
  ⟨by rw [set_blk _ h.blk]; rfl, h.h.nb (h.nb6 _), hl.nb (h.nb6 _)⟩
theorem RAt.new (W : World) (p : Pa.Pt) (hh : Hs.Ls W A1 c1 H) (hl : Ws.Ls W A2 c2 L) :
    RAt (W.alloc (.cells #[.int .i64 p.a, .int .i64 p.b, .int .i64 p.c, .int .i64 p.d, .int .i64 p.e, .slice A1 H.length c1, .slice A2 L.length c2] 79)) W.heap.size p A1 c1 A2 c2 H L :=
  ⟨heap_alloc_new W _, hh.below (box_below _ _), hl.below (box_below _ _)⟩
/-- what a call leaves that may change the document's queue alone -/
def RLeft (b : Nat) (p : Pa.Pt) (W : World) (A1 : Option Addr × List Hs.Hd) (A2 : Option Addr × List Ws.Wt) (H : List Hs.Hd) (L : List Ws.Wt) (w' : World) : Prop :=
  (∃ B1 d1 B2 d2, RAt w' b p B1 d1 B2 d2 H L ∧ Frb W.heap.size A1 B1 H ∧ Frb W.heap.size A2 B2 L) ∧ OnlyS (· = b) W w' ∧ Nb W w'
theorem rsize_any (h : RAt W b p A1 c1 A2 c2 H L) (h1 : H.length ≤ 5000) (h2 : L.length ≤ 5000) : Calls Tryz.prog 62 #[qp b] W fun e w' => e = .returned (.int .i64 ((H.length + L.length : Nat) : Int)) ∧ Below W.heap.size W w' := by
  have e5 := h.e5
  have e6 := h.e6
  clear h
  generalize H.length = n at *
  generalize L.length = m at *
  go_enter Tryz.func62, Tryz.ntmps62
  go_wp2
  go_quiet (fail)
  go_wp2
  go_ret
  exact ⟨ret_int (by omega), drew_below _ _⟩
/-- the cells of the document's queue, in a later world -/
abbrev SR (b : Nat) (p : Pa.Pt) (A1 : Option Addr) (n1 c1 : Nat) (A2 : Option Addr) (n2 c2 : Nat) (W w' : World) : Prop :=
  w'.cell? ⟨b, 0, none⟩ = some (.int .i64 p.a) ∧ w'.cell? ⟨b, 1, none⟩ = some (.int .i64 p.b) ∧ w'.cell? ⟨b, 2, none⟩ = some (.int .i64 p.c) ∧ w'.cell? ⟨b, 3, none⟩ = some (.int .i64 p.d) ∧ w'.cell? ⟨b, 4, none⟩ = some (.int .i64 p.e) ∧
    w'.cell? ⟨b, 5, none⟩ = some (.slice A1 n1 c1) ∧ w'.cell? ⟨b, 6, none⟩ = some (.slice A2 n2 c2) ∧ Below W.heap.size W w'
theorem sr_of (h : RAt W b p A1 c1 A2 c2 H L) (hn1 : H.length = n1) (hn2 : L.length = n2) (hb : Below W.heap.size W W') : SR b p A1 n1 c1 A2 n2 c2 W W' := by
  have q := h.below hb
  exact ⟨q.e0, q.e1, q.e2, q.e3, q.e4, q.e5n hn1, q.e6n hn2, hb⟩
theorem sr_bel (h : SR b p A1 n1 c1 A2 n2 c2 W W') : Below W.heap.size W W' := h.2.2.2.2.2.2.2
/-- a queue that was made, its lists with it -/
def RMk (W : World) (p : Pa.Pt) (H : List Hs.Hd) (L : List Ws.Wt) (e : Ending) (w' : World) : Prop :=
  ∃ b A1 c1 A2 c2, e = .returned (qp b) ∧ RAt w' b p A1 c1 A2 c2 H L ∧ Below W.heap.size W w' ∧ W.heap.size ≤ b ∧ (∀ a, A1 = some a → W.heap.size ≤ a.block ∧ a.block ≠ b) ∧ ∀ a, A2 = some a → W.heap.size ≤ a.block ∧ a.block ≠ b
theorem far_lt {W : World} {K c n m z : Nat} {ty : TypeId} {A : Option Addr} {vs : List Value} (h : W.ownsRow K ty z (.slice A n c) m vs) : ∀ a, A = some a → K ≤ a.block ∧ a.block < W.heap.size := by
  rintro a rfl
  refine h.lt a.block ?_
  rcases h.2 with ⟨h0, _⟩ | ⟨g, cap, cur, e, hb, _⟩
  · cases h0
  · cases e; rfl
theorem copied {w : World} (hn1 : H.length = n1) (hn2 : L.length = n2) (hb : Below W.heap.size W w) (hh : Hs.Ls w B1 d1 H) (hl : Ws.Ls w B2 d2 L) (f1 : ∀ a, B1 = some a → W.heap.size ≤ a.block ∧ a.block < w.heap.size) (f2 : ∀ a, B2 = some a → W.heap.size ≤ a.block ∧ a.block < w.heap.size) :
    RMk W p H L (.returned (.pointer (some ⟨w.heap.size, 0, none⟩))) (w.alloc (.cells #[.int .i64 p.a, .int .i64 p.b, .int .i64 p.c, .int .i64 p.d, .int .i64 p.e, .slice B1 n1 d1, .slice B2 n2 d2] 79)) := by
  subst hn1
  subst hn2
  exact ⟨w.heap.size, B1, d1, B2, d2, rfl, RAt.new w p hh hl, hb.trans ((box_below _ _).mono hb.size), hb.size, fun a ha => ⟨(f1 a ha).1, Nat.ne_of_lt (f1 a ha).2⟩, fun a ha => ⟨(f2 a ha).1, Nat.ne_of_lt (f2 a ha).2⟩⟩
set_option maxHeartbeats 4000000 in
theorem rcopy_any (h : RAt W b p A1 c1 A2 c2 H L) (h1 : H.length ≤ 500) (h2 : L.length ≤ 500) : Calls Tryz.prog 61 #[qp b] W (RMk W p H L) := by
  obtain ⟨n1, hn1⟩ : ∃ n, H.length = n := ⟨_, rfl⟩
  obtain ⟨n2, hn2⟩ : ∃ n, L.length = n := ⟨_, rfl⟩
  have HQ := Lib.hid h
  have HS := Lib.hid (fun (w' : World) (hb : Below W.heap.size W w') => sr_of h hn1 hn2 hb)
  have N1 := Lib.hid hn1
  have N2 := Lib.hid hn2
  rw [hn1] at h1
  rw [hn2] at h2
  clear h hn1 hn2
  obtain ⟨pa, pb, pc, pd, pe⟩ := p
  go_enter Tryz.func61, Tryz.ntmps61
  go_wp2
  go_region_held3 (SR b ⟨pa, pb, pc, pd, pe⟩ A1 n1 c1 A2 n2 c2 W) (first | exact HS.out _ (drew_below W 1) | assumption | exact HS.out _ ((sr_bel hsb).trans ((box_below _ _).mono (sr_bel hsb).size)) | exact HS.out _ ((sr_bel hsa).trans ((box_below _ _).mono (sr_bel hsa).size)) | fail) (first
    | (refine Hs.step_nil (base := W.heap.size) (A := A1) (c := c1) (n := n1) (ys := H) ?h1 (.const (.slice none 0 0)) (.tmp 10) ?h2 ?h3 ?h4 ?h5 N1.out ?h6 ?h7 ?_; rotate_right; (case h1 => rfl); (case h2 => rfl); (case h3 => kernel_rfl); (case h4 => kernel_rfl); (case h5 => first | exact HQ.out.h.below (drew_below W 1) | exact HQ.out.h.below (sr_bel hsb)); (case h6 => omega); (case h7 => first | exact Nat.le_refl _ | exact (sr_bel hsb).size); intro B1 d1 wa hra hba; have hsa : SR b ⟨pa, pb, pc, pd, pe⟩ A1 n1 c1 A2 n2 c2 W wa := (by first | exact HS.out _ ((drew_below W 1).trans hba) | exact HS.out _ ((sr_bel hsb).trans (hba.mono (sr_bel hsb).size))))
    | (refine Ws.step_nil (base := W.heap.size) (A := A2) (c := c2) (n := n2) (ys := L) ?h1 (.const (.slice none 0 0)) (.tmp 15) ?h2 ?h3 ?h4 ?h5 N2.out ?h6 ?h7 ?_; rotate_right; (case h1 => rfl); (case h2 => rfl); (case h3 => kernel_rfl); (case h4 => kernel_rfl); (case h5 => first | exact HQ.out.l.below (drew_below W 1) | exact HQ.out.l.below (sr_bel hsa)); (case h6 => omega); (case h7 => first | exact Nat.le_refl _ | exact (sr_bel hsa).size); intro B2 d2 wb hrb hbb; have hsb : SR b ⟨pa, pb, pc, pd, pe⟩ A1 n1 c1 A2 n2 c2 W wb := (by first | exact HS.out _ ((drew_below W 1).trans hbb) | exact HS.out _ ((sr_bel hsa).trans (hbb.mono (sr_bel hsa).size))))
    | fail)
  all_goals
    have HM := Lib.hid (by first | exact copied N1.out N2.out (sr_bel hsb) (Hs.Row.lsv (row_below hra hbb)) hrb.lsv (far_lt (row_below hra hbb)) (far_lt hrb) | exact copied N1.out N2.out (sr_bel hsa) hra.lsv (Ws.Row.lsv (row_below hrb hba)) (far_lt hra) (far_lt (row_below hrb hba)) : RMk W ⟨pa, pb, pc, pd, pe⟩ H L _ _)
    clear hra hrb hba hbb hsa hsb
    go_wp2
    go_ret
    exact HM.out
end
end Go.Proofs.YtjhkejkdnjogiaaGreatDoor
