/- What one has is set: the walk of the document's answer. -/
import Derived.Test.YteaibamkfccplaaDoorHS2
namespace Go.Proofs.YteaibamkfccplaaDoor.Hs
open Go Go.RowKit Go.Shelf

theorem setL_pre {tx m : Int} {xs : List Hd} (h : dn tx xs = true) : pre tx m xs = setL tx m xs := by unfold pre; rw [h]; rfl
theorem setL_post {tx m : Int} {xs : List Hd} (h : dn tx xs = false) : pre tx m xs ++ [(tx, m)] = setL tx m xs := by unfold pre; rw [h, setL_none h]; rfl
section
variable {W W' : World} {A : Option Addr} {c : Nat} {xs : List Hd}
set_option maxHeartbeats 1000000 in
theorem rset_any (hr : Ls W A c xs) (hl : xs.length ≤ 500) (tx m : Int) : Calls Tryd.prog 36 #[.slice A xs.length c, .int .i64 tx, .int .i64 m] W (Lists W (setL tx m xs)) := by
  have HR := Lib.hid hr
  obtain ⟨n, hn⟩ : ∃ n, xs.length = n := ⟨_, rfl⟩
  rw [hn] at hl ⊢
  have HN := Lib.hid hn
  clear hr hn
  go_enter Tryd.func36, Tryd.ntmps36
  go_wp2
  go_loopw [13, 8, 7] (fun t d v wr => ∃ j : Nat, j ≤ n ∧ t = .int .i64 j ∧ d = .bool (dn tx (xs.take j)) ∧ Kp W (pre tx m (xs.take j)) v wr) (fun t _ _ _ => n - (intOf t).toNat)
  case atStart => exact ⟨0, by omega, rfl, rfl, World.ownsRow_nil _ _ _ _, Below.refl _ _⟩
  case round =>
    obtain ⟨j, hj, rfl, rfl, hk⟩ := hrel
    have hpl : (pre tx m (xs.take j)).length = j := by rw [pre_len, List.length_take]; have := HN.out; omega
    obtain ⟨A0, c0', ev, -⟩ := hk.row.ls
    rw [hpl] at ev
    subst ev
    have K0 := Lib.hid hk
    have HPL := Lib.hid hpl
    clear hk hpl
    obtain ⟨d, hd⟩ : ∃ d, dn tx (xs.take j) = d := ⟨_, rfl⟩
    have HD := Lib.hid hd
    rw [hd]
    clear hd
    by_cases hjn : j < n
    · have hjl : j < xs.length := by rw [HN.out]; exact hjn
      obtain ⟨a, rfl, c0, c1⟩ := (HR.out.below K0.out.bel).here hjl
      have HT := Lib.hid (List.take_succ_eq_append_getElem hjl)
      generalize xs[j] = x at c0 c1 HT
      obtain ⟨t, mm⟩ := x
      simp only at c0 c1
      clear hjl
      by_cases ht : t = tx
      · subst ht
        cases d
        · have hb1 := box_below wr (.cells #[.int .i64 t, .int .i64 m] 76)
          obtain ⟨A2, c2, w3, hrun, hk3⟩ := (K0.out.below hb1).app (x := (t, m)) HPL.out (by omega) 25
          simp only at hrun
          rw [show (wr.alloc (.cells #[.int .i64 t, .int .i64 m] 76)).heap.size = wr.heap.size + 1 by simp] at hrun
          have HE := Lib.hid (pre_new (tx := t) (m := m) (l := xs.take j) (x := (t, mm)) (by simp) HD.out)
          have HS := Lib.hid (dn_snoc t (xs.take j) (t, mm))
          rw [← HT.out] at HE HS
          rw [← HE.out] at hk3
          have K3 := Lib.hid hk3
          have HD2 := Lib.hid (show dn t (xs.take (j + 1)) = true by rw [HS.out]; simp)
          clear hk3 hb1 HE HS
          go_wp2_with (at_builtin; refine Lib.wpList_append_run _ rfl _ _ _ _ rfl _ _ rfl rfl _ _ hrun ?_)
          go_roundw
          case rel => exact ⟨j + 1, by omega, by go_num, by rw [HD2.out], K3.out⟩
          case measure => simp [intOf]; omega
        · have hb1 := box_below wr (.cells #[.int .i64 t, .int .i64 mm] 76)
          obtain ⟨A2, c2, w3, hrun, hk3⟩ := (K0.out.below hb1).app (x := (t, mm)) HPL.out (by omega) 25
          simp only at hrun
          rw [show (wr.alloc (.cells #[.int .i64 t, .int .i64 mm] 76)).heap.size = wr.heap.size + 1 by simp] at hrun
          have HE := Lib.hid (pre_keep (tx := t) (m := m) (l := xs.take j) (x := (t, mm)) (.inr HD.out))
          have HS := Lib.hid (dn_snoc t (xs.take j) (t, mm))
          rw [← HT.out] at HE HS
          rw [← HE.out] at hk3
          have K3 := Lib.hid hk3
          have HD2 := Lib.hid (show dn t (xs.take (j + 1)) = true by rw [HS.out]; simp)
          clear hk3 hb1 HE HS
          go_wp2_with (at_builtin; refine Lib.wpList_append_run _ rfl _ _ _ _ rfl _ _ rfl rfl _ _ hrun ?_)
          go_roundw
          case rel => exact ⟨j + 1, by omega, by go_num, by rw [HD2.out], K3.out⟩
          case measure => simp [intOf]; omega
      · have hne : (t == tx) = false := by simpa using ht
        have hb1 := box_below wr (.cells #[.int .i64 t, .int .i64 mm] 76)
        obtain ⟨A2, c2, w3, hrun, hk3⟩ := (K0.out.below hb1).app (x := (t, mm)) HPL.out (by omega) 25
        simp only at hrun
        rw [show (wr.alloc (.cells #[.int .i64 t, .int .i64 mm] 76)).heap.size = wr.heap.size + 1 by simp] at hrun
        have HE := Lib.hid (pre_keep (tx := tx) (m := m) (l := xs.take j) (x := (t, mm)) (.inl hne))
        have HS := Lib.hid (dn_snoc tx (xs.take j) (t, mm))
        rw [← HT.out] at HE HS
        rw [← HE.out] at hk3
        have K3 := Lib.hid hk3
        have HD2 := Lib.hid (show dn tx (xs.take (j + 1)) = d by rw [HS.out, HD.out, hne]; simp)
        clear hk3 hb1 HE HS ht
        go_wp2_with (at_builtin; refine Lib.wpList_append_run _ rfl _ _ _ _ rfl _ _ rfl rfl _ _ hrun ?_)
        go_roundw
        case rel => exact ⟨j + 1, by omega, by go_num, by rw [HD2.out], K3.out⟩
        case measure => simp [intOf]; omega
    · obtain rfl : j = n := by omega
      have HT := Lib.hid (List.take_of_length_le (Nat.le_of_eq HN.out))
      rw [HT.out] at HD K0 HPL
      cases d
      · obtain ⟨A2, c2, w3, hrun, hk3⟩ := K0.out.app (x := (tx, m)) HPL.out (by omega) 25
        simp only at hrun
        have K3 := Lib.hid hk3
        clear hk3
        go_wp2_with (at_builtin; refine Lib.wpList_append_run _ rfl _ _ _ _ rfl _ _ rfl rfl _ _ hrun ?_)
        go_ret
        exact lists_of K3.out (by rw [List.length_append, HPL.out]; rfl) (setL_post HD.out)
      · go_wp2
        go_ret
        exact lists_of K0.out HPL.out (setL_pre HD.out)
end
end Go.Proofs.YteaibamkfccplaaDoor.Hs
