/- What one has is set: the walks of the program's answer and of the document's. -/
import Derived.Test.YteaibamkfccplaaDoorHS1
namespace Go.Proofs.YteaibamkfccplaaDoor.Hs
open Go Go.RowKit Go.Shelf

theorem dn_false {tx : Int} {xs : List Hd} (h : ∀ x ∈ xs, (x.1 == tx) = false) : dn tx xs = false := by
  unfold dn
  rw [List.any_eq_false]
  intro x hx
  rw [h x hx]
  simp
theorem lists_of {W w2 : World} {zs ys : List Hd} {A' : Option Addr} {c' k : Nat} (h : Kp W ys (.slice A' k c') w2) (hk : ys.length = k) (he : ys = zs) : Lists W zs (.returned (.slice A' k c')) w2 := by
  subst he
  subst hk
  obtain ⟨A1, c1, hv, hls⟩ := h.row.ls
  cases hv
  exact ⟨_, _, rfl, hls, h.bel⟩
section
variable {W W' : World} {A : Option Addr} {c : Nat} {xs : List Hd}
set_option maxHeartbeats 1000000 in
theorem set_any (hr : Ls W A c xs) (hl : xs.length ≤ 500) (tx m : Int) : Calls Tryd.prog 89 #[.slice A xs.length c, .int .i64 tx, .int .i64 m] W (Lists W (setL tx m xs)) := by
  have H := Lib.hid (clone_any hr hl)
  obtain ⟨n, hn⟩ : ∃ n, xs.length = n := ⟨_, rfl⟩
  rcases idx_cases (fun x => x.1 == tx) xs with ⟨h1, h2⟩ | ⟨k, hk, h1, h3, h4⟩
  · have HI := Lib.hid (fun (w1 : World) (A1 : Option Addr) (c1 : Nat) (h : Ls w1 A1 c1 xs) => by
      have := index_any (prd_tx (T := fun _ => False) (W := w1.alloc (.cells #[.int .i64 tx] 3)) (B := w1.heap.size) (tx := tx) (by simp [go_sem]) (fun h => h)) (h.below (box_below _ _)) (by omega)
      rw [h1, hn] at this
      exact this)
    have HE := Lib.hid (setL_none (m := m) (dn_false h2))
    have HN := Lib.hid hn
    rw [hn] at hl H ⊢
    clear hr h1 h2 hn
    go_enter Tryd.func89, Tryd.ntmps89
    go_wp2_with fail
    refine H.out.mono ?_
    rintro e w1 ⟨v, rfl, hv, hb⟩
    obtain ⟨A1, c1, rfl, hls⟩ := hv.ls
    rw [HN.out] at hv ⊢
    have HI1 := Lib.hid (HI.out _ _ _ hls)
    have HK := Lib.hid (show Kp W xs (.slice A1 n c1) w1 from ⟨hv, hb⟩)
    clear hv hb hls HI
    go_wp2_with (go_at_call 61; ((with_reducible refine (ofc_any tx _).mono ?_); rintro e w' ⟨rfl, rfl⟩))
    refine HI1.out.mono ?_
    rintro e w2 ⟨rfl, hb2⟩
    obtain ⟨A2, c2, w3, hrun, hk3⟩ := ((HK.out.below (box_below _ _)).below hb2).app (x := (tx, m)) HN.out (by omega) 25
    have HK3 := Lib.hid hk3
    clear hk3 hb2 HI1
    simp only at hrun
    go_wp2_with (at_builtin; refine Lib.wpList_append_run _ rfl _ _ _ _ rfl _ _ rfl rfl _ _ hrun ?_)
    go_ret
    exact lists_of HK3.out (by rw [List.length_append, HN.out]; rfl) HE.out.symm
  · have HI := Lib.hid (fun (w1 : World) (A1 : Option Addr) (c1 : Nat) (h : Ls w1 A1 c1 xs) => by
      have := index_any (prd_tx (T := fun _ => False) (W := w1.alloc (.cells #[.int .i64 tx] 3)) (B := w1.heap.size) (tx := tx) (by simp [go_sem]) (fun h => h)) (h.below (box_below _ _)) (by omega)
      rw [h1, hn] at this
      exact this)
    have HE := Lib.hid (setL_at (m := m) hk h4 h3)
    have HP := Lib.hid (pair_of (m := m) h3)
    have HN := Lib.hid hn
    have hkn : k < n := by rw [← hn]; exact hk
    have HK0 := Lib.hid hk
    rw [hn] at hl H ⊢
    clear hr h1 h3 h4 hn
    go_enter Tryd.func89, Tryd.ntmps89
    go_wp2_with fail
    refine H.out.mono ?_
    rintro e w1 ⟨v, rfl, hv, hb⟩
    obtain ⟨A1, c1, rfl, hls⟩ := hv.ls
    rw [HN.out] at hv ⊢
    have HI1 := Lib.hid (HI.out _ _ _ hls)
    have HK := Lib.hid (show Kp W xs (.slice A1 n c1) w1 from ⟨hv, hb⟩)
    clear HI
    obtain ⟨g, rfl⟩ : ∃ g, A1 = some ⟨g, 0, none⟩ := by
      rcases hv.2 with ⟨h0, _⟩ | ⟨g, cap, cur, e, _⟩
      · cases h0; omega
      · cases e; exact ⟨g, rfl⟩
    have hgl := (hv.lt g rfl).1
    clear hv hb hls
    go_wp2_with (go_at_call 61; ((with_reducible refine (ofc_any tx _).mono ?_); rintro e w' ⟨rfl, rfl⟩))
    refine HI1.out.mono ?_
    rintro e w2 ⟨rfl, hb2⟩
    have hk2 := (HK.out.below (box_below _ _)).below hb2
    obtain ⟨y, t1⟩ := Option.isSome_iff_exists.1 (hk2.row.there (k := k * 2 + 1) (by rw [HN.out]; omega))
    have f1 : w2.frozen? ⟨g, k * 2 + 1, none⟩ = false := hk2.row.free
    have hrw := hk2.row
    unfold Row at hrw
    rw [HN.out] at hrw
    have hst := row_store hrw (k * 2 + 1) (.int .i64 m)
    rw [set_one m HK0.out, HP.out] at hst
    have HK3 := Lib.hid (show Kp W (xs.set k (tx, m)) (.slice (some ⟨g, 0, none⟩) n c1) (w2.setCell ⟨g, k * 2 + 1, none⟩ (.int .i64 m)) from ⟨by unfold Row; rw [List.length_set, HN.out]; exact hst, hk2.bel.setCell (p := ⟨g, k * 2 + 1, none⟩) hgl _⟩)
    clear hk2 hrw hst hb2 HI1
    go_wp2_with fail
    go_ret
    exact lists_of HK3.out (by rw [List.length_set, HN.out]) HE.out.symm
end
end Go.Proofs.YteaibamkfccplaaDoor.Hs
