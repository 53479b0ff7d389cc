/- A list is copied; those of others: the program's answer and the document's. -/
import Derived.Test.YteaibamkfccplaaDoorHD2
namespace Go.Proofs.YteaibamkfccplaaDoor.Hs
open Go Go.RowKit Go.Shelf

@[go_sem] theorem eql22_none (w : World) (n c : Nat) : (binOp .eql 25 (.slice none n c) (.slice none 0 0)).run Tryd.prog w = .ok (.bool true) w := Lib.run_eql_slice_nil w 25 76 none n c 0 0 Tryd.underlying25
@[go_sem] theorem eql22_some (w : World) (a : Addr) (n c : Nat) : (binOp .eql 25 (.slice (some a) n c) (.slice none 0 0)).run Tryd.prog w = .ok (.bool false) w := Lib.run_eql_slice_nil w 25 76 (some a) n c 0 0 Tryd.underlying25
theorem ofc_any (tx : Int) (W : World) : Calls Tryd.prog 61 #[.int .i64 tx] W fun e w' => e = .returned (.func (.func 83) #[] #[.pointer (some ⟨W.heap.size, 0, none⟩)]) ∧ w' = W.alloc (.cells #[.int .i64 tx] 3) := by
  go_enter Tryd.func61, Tryd.ntmps61
  go_wp2
  go_ret
  exact ⟨rfl, rfl⟩
/-- a list is handed out, in memory of its own -/
def Lists (W : World) (xs : List Hd) (e : Ending) (w' : World) : Prop := ∃ A c, e = .returned (.slice A xs.length c) ∧ Ls w' A c xs ∧ Below W.heap.size W w'
section
variable {W W' : World} {A : Option Addr} {c K : Nat} {xs : List Hd}
theorem clone_any (hr : Ls W A c xs) (hl : xs.length ≤ 500) : Calls Tryd.prog 46 #[.slice A xs.length c] W fun e w' => ∃ v, e = .returned v ∧ Row w' W.heap.size v xs ∧ Below W.heap.size W w' := by
  cases A with
  | none =>
    have := hr.empty; subst this
    have hc := hr.nil rfl
    subst hc
    clear hr
    go_enter Tryd.func46, Tryd.ntmps46
    go_wp2
    go_ret
    exact ⟨_, rfl, World.ownsRow_nil _ _ _ _, Below.refl _ _⟩
  | some a =>
    have h0 : Row (W.alloc (.cells #[] 76)) W.heap.size (.slice (some ⟨W.heap.size, 0, none⟩) 0 0) [] :=
      ⟨rfl, .inr ⟨W.heap.size, 0, #[], rfl, Nat.le_refl _, heap_alloc_new W _, Nat.le_refl _, Nat.zero_le _, rfl, rfl⟩⟩
    have hx := box_below W (.cells #[] 76)
    obtain ⟨v', w', hrun, hrow, hg, -⟩ := h0.app (hr.below hx) (by simp; omega) hx.size 25
    have HR := Lib.hid hrow
    have HB := Lib.hid (hx.trans (h0.app_below hg hx.size))
    simp only [List.nil_append] at HR
    generalize xs.length = n at *
    clear hr h0 hx hrow hg
    go_enter Tryd.func46, Tryd.ntmps46
    go_wp2_with (at_builtin; refine Lib.wpList_append_run _ rfl _ _ _ _ rfl _ _ rfl rfl _ _ hrun ?_)
    go_ret
    exact ⟨_, rfl, HR.out, HB.out⟩
/-- those of others -/
def wout (tx : Int) (xs : List Hd) : List Hd := xs.filter (fun x => !(x.1 == tx))
theorem without_any (hr : Ls W A c xs) (hl : xs.length ≤ 500) (tx : Int) : Calls Tryd.prog 40 #[.slice A xs.length c, .int .i64 tx] W (Lists W (wout tx xs)) := by
  have H := Lib.hid (clone_any hr hl)
  have HD := Lib.hid (fun (w1 : World) (v : Value) (h : Row w1 W.heap.size v xs) (hb : Below W.heap.size W w1) =>
    (show Calls Tryd.prog 72 #[v, .func (.func 83) #[] #[.pointer (some ⟨w1.heap.size, 0, none⟩)]] (w1.alloc (.cells #[.int .i64 tx] 3)) (Lists W (wout tx xs)) from by
      have hx := box_below w1 (.cells #[.int .i64 tx] 3)
      refine (delete_any (prd_tx (tx := tx) (by simp [go_sem]) ?_) (row_below h hx) (by omega)).mono ?_
      · intro e
        have := (h.lt _ e).2
        omega
      · rintro e w' ⟨v', rfl, h1, h2⟩
        obtain ⟨A', c', rfl, hls⟩ := h1.ls
        exact ⟨A', c', rfl, hls, (hb.trans (hx.mono hb.size)).trans (h2.below (fun k hk => (h.lt k hk).1) (Nat.le_trans hb.size hx.size))⟩))
  clear hr hl
  generalize xs.length = n at *
  go_enter Tryd.func40, Tryd.ntmps40
  go_wp2_with fail
  refine H.out.mono ?_
  rintro e w1 ⟨v, rfl, h1, h2⟩
  have HC := Lib.hid (HD.out _ _ h1 h2)
  clear h1 h2
  go_wp2_with (first | (go_at_call 61; ((with_reducible refine (ofc_any tx _).mono ?_); rintro e w' ⟨rfl, rfl⟩)) | (go_at_call 72; ((with_reducible refine HC.out.mono ?_); rintro e w' ⟨A', c', rfl, hls, hb⟩)))
  have HL := Lib.hid hls
  have HB := Lib.hid hb
  clear hls hb
  obtain ⟨k, hk⟩ : ∃ k, (wout tx xs).length = k := ⟨_, rfl⟩
  have HK := Lib.hid hk
  rw [hk]
  clear hk
  go_ret
  exact ⟨A', c', by rw [HK.out]; rfl, HL.out, HB.out⟩
/-- what has been kept so far -/
structure Kep (W : World) (tx : Int) (xs : List Hd) (k : Nat) (v : Value) (w1 : World) : Prop where
  row : Row w1 W.heap.size v (wout tx (xs.take k))
  bel : Below W.heap.size W w1
theorem Kep.below {tx : Int} {k : Nat} {v : Value} (h : Kep W tx xs k v W') {w2 : World} (hb : Below W'.heap.size W' w2) : Kep W tx xs k v w2 :=
  ⟨row_below h.row hb, h.bel.trans (hb.mono h.bel.size)⟩
theorem wout_no {tx : Int} {k : Nat} (hk : k < xs.length) (h : (xs[k].1 == tx) = true) : wout tx (xs.take (k + 1)) = wout tx (xs.take k) := by
  unfold wout
  rw [List.take_succ_eq_append_getElem hk, List.filter_append]
  simp [h]
theorem wout_yes {tx : Int} {k : Nat} (hk : k < xs.length) (h : (xs[k].1 == tx) = false) : wout tx (xs.take (k + 1)) = wout tx (xs.take k) ++ [xs[k]] := by
  unfold wout
  rw [List.take_succ_eq_append_getElem hk, List.filter_append]
  simp [h]
theorem wout_len (tx : Int) (xs : List Hd) : (wout tx xs).length ≤ xs.length := List.length_filter_le _ _
set_option maxHeartbeats 2000000 in
theorem rwithout_any (hr : Ls W A c xs) (hl : xs.length ≤ 500) (tx : Int) : Calls Tryd.prog 43 #[.slice A xs.length c, .int .i64 tx] W (Lists W (wout tx xs)) := by
  have HR := Lib.hid hr
  obtain ⟨n, hn⟩ : ∃ n, xs.length = n := ⟨_, rfl⟩
  rw [hn] at hl ⊢
  have HN := Lib.hid hn
  clear hr hn
  go_enter Tryd.func43, Tryd.ntmps43
  go_wp2
  go_loopw [10, 5] (fun t v wr => ∃ j : Nat, j ≤ n ∧ t = .int .i64 j ∧ Kep W tx xs j v wr) (fun t _ _ => n - (intOf t).toNat)
  case atStart => exact ⟨0, by omega, rfl, World.ownsRow_nil _ _ _ _, Below.refl _ _⟩
  case round =>
    obtain ⟨j, hj, rfl, hk⟩ := hrel
    have K0 := Lib.hid hk
    obtain ⟨A0, c0', ev, -⟩ := hk.row.ls
    subst ev
    obtain ⟨q, hq⟩ : ∃ q, (wout tx (xs.take j)).length = q := ⟨_, rfl⟩
    have hq1 : q ≤ j := by rw [← hq]; refine Nat.le_trans (wout_len _ _) ?_; rw [List.length_take]; omega
    have HQ := Lib.hid hq
    clear hk
    rw [hq] at K0 ⊢
    clear hq
    by_cases hjn : j < n
    · have hjl : j < xs.length := by rw [HN.out]; exact hjn
      obtain ⟨a, rfl, hh⟩ := (HR.out.below K0.out.bel).here hjl
      obtain ⟨c0, c1⟩ := hh
      obtain ⟨x, hx⟩ : ∃ x, xs[j] = x := ⟨_, rfl⟩
      rw [hx] at c0 c1
      have hb1 := box_below wr (.cells #[.int .i64 x.1, .int .i64 x.2] 76)
      have K1 := Lib.hid (K0.out.below hb1)
      by_cases ht : x.1 = tx
      · have HE := Lib.hid (wout_no (tx := tx) hjl (by rw [hx]; simpa using ht))
        obtain ⟨t, m⟩ := x
        simp only at c0 c1 ht K1
        subst ht
        clear hx hb1 hjl
        go_wp2
        go_roundw
        case rel => exact ⟨j + 1, by omega, by go_num, by have := K1.out; exact ⟨by rw [HE.out]; exact this.row, this.bel⟩⟩
        case measure => simp [intOf]; omega
      · have HE := Lib.hid (wout_yes (tx := tx) hjl (by rw [hx]; simpa using ht))
        rw [hx] at HE
        have hbx := box_ls wr x
        have hx2 := box_ls (wr.alloc (.cells #[.int .i64 x.1, .int .i64 x.2] 76)) x
        have hb2 := box_below (wr.alloc (.cells #[.int .i64 x.1, .int .i64 x.2] 76)) (.cells #[.int .i64 x.1, .int .i64 x.2] 76)
        have hs2 := (K1.out.bel.trans (hb2.mono K1.out.bel.size)).size
        have hr2 : Row _ W.heap.size _ _ := row_below K1.out.row hb2
        obtain ⟨v', w', hrun, hrow, hg, -⟩ := hr2.app hx2 (by rw [HQ.out]; simp; omega) hs2 25
        obtain ⟨A', c', rfl, -⟩ := hrow.ls
        have K2 := Lib.hid (show Kep W tx xs (j + 1) (.slice A' (wout tx (xs.take j) ++ [x]).length c') w' from ⟨by rw [HE.out]; exact hrow, (K1.out.bel.trans (hb2.mono K1.out.bel.size)).trans (hr2.app_below hg hs2)⟩)
        rw [List.length_append, HQ.out] at K2 hrun
        obtain ⟨t, m⟩ := x
        simp only at c0 c1 ht
        simp only [List.length_cons, List.length_nil, Nat.zero_add] at K2 hrun
        rw [show (wr.alloc (.cells #[.int .i64 t, .int .i64 m] 76)).heap.size = wr.heap.size + 1 by simp] at hrun
        have ht' : (t != tx) = true := by simpa using ht
        clear hx hbx hx2 hb1 hb2 hs2 hr2 hrow hg K1 HE hjl ht
        go_wp2_with (at_builtin; refine Lib.wpList_append_run _ rfl _ _ _ _ rfl _ _ rfl rfl _ _ hrun ?_)
        go_roundw
        case rel => exact ⟨j + 1, by omega, by go_num, K2.out⟩
        case measure => simp [intOf]; omega
    · obtain rfl : j = n := by omega
      have hr := K0.out.row
      have hall : xs.take j = xs := List.take_of_length_le (Nat.le_of_eq HN.out)
      rw [hall] at hr HQ
      obtain ⟨A', c', hv, hd⟩ := hr.ls
      rw [HQ.out] at hv
      cases hv
      have HD := Lib.hid hd
      have HB := Lib.hid K0.out.bel
      clear hr hd K0 hall
      go_wp2
      go_ret
      exact ⟨A0, c0', by rw [HQ.out]; rfl, HD.out, HB.out⟩
end
end Go.Proofs.YteaibamkfccplaaDoor.Hs
