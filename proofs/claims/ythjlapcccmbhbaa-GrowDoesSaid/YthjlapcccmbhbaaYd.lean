/- The document's answers: with a lock; with one in the place of those below. -/
import Derived.Test.YthjlapcccmbhbaaYc
import Derived.Test.YthjlapcccmbhbaaXe
namespace Go.Proofs.Ythjlapcccmbhbaa.Lk
open Go Go.RowKit Go.Shelf Pa
set_option maxRecDepth 100000

theorem with_in {xs : List Hd} {x y : Hd} (h : inL xs x.1 = true) : withL (xs ++ [y]) x = withL xs x ++ [y] := by
  induction xs with
  | nil => simp [inL] at h
  | cons z xs ih =>
    rw [List.cons_append]
    unfold withL
    by_cases e : eqP z.1 x.1 = true
    · rw [if_pos e, if_pos e, List.cons_append]
    · rw [if_neg e, if_neg e, ih, List.cons_append]
      unfold inL at h ⊢
      have e' : eqP z.1 x.1 = false := by simpa using e
      simpa [e'] using h
theorem in_no {xs : List Hd} {p : Pt} (h : inL xs p = false) : ∀ y ∈ xs, eqP y.1 p = false := fun y hy => by
  have := List.any_eq_false.1 h y hy
  simpa using this
theorem with_out {xs : List Hd} {x : Hd} (h : inL xs x.1 = false) : withL xs x = xs ++ [x] := with_none (in_no h)
theorem with_first {xs : List Hd} {x y : Hd} (h : inL xs x.1 = false) (e : eqP y.1 x.1 = true) : withL (xs ++ [y]) x = xs ++ [x] := by
  induction xs with
  | nil =>
    show withL [y] x = [x]
    unfold withL
    rw [if_pos e]
  | cons z xs ih =>
    have h1 := in_no h z (by simp)
    rw [List.cons_append]
    unfold withL
    rw [if_neg (by rw [h1]; simp), ih, List.cons_append]
    unfold inL at h ⊢
    simpa [h1] using h
/-- as far as that has gone -/
def midL (ys : List Hd) (x : Hd) : List Hd := if inL ys x.1 then withL ys x else ys
theorem mid_in {ys : List Hd} {x y : Hd} (h : inL ys x.1 = true) : midL (ys ++ [y]) x = midL ys x ++ [y] := by
  unfold midL
  rw [in_snoc, h, Bool.true_or, if_pos rfl, if_pos rfl, with_in h]
theorem mid_first {ys : List Hd} {x y : Hd} (h : inL ys x.1 = false) (e : eqP y.1 x.1 = true) : midL (ys ++ [y]) x = midL ys x ++ [x] := by
  unfold midL
  rw [in_snoc, h, e, Bool.or_true, if_pos rfl, if_neg (by simp), with_first h e]
theorem mid_out {ys : List Hd} {x y : Hd} (h : inL ys x.1 = false) (e : eqP y.1 x.1 = false) : midL (ys ++ [y]) x = midL ys x ++ [y] := by
  unfold midL
  rw [in_snoc, h, e, Bool.or_false, if_neg (by simp), if_neg (by simp)]
theorem mid_len (ys : List Hd) (x : Hd) : (midL ys x).length ≤ ys.length + 1 := by
  unfold midL
  split
  · exact with_len x ys
  · omega
section
variable {W W' : World} {A : Option Addr} {c : Nat} {xs : List Hd}
set_option maxHeartbeats 4000000 in
theorem rwith_any (hr : Ls W A c xs) (hl : xs.length ≤ 400) (x : Hd) : Calls Try.prog 46 #[.slice A xs.length c, wv x] W (Lists W (withL xs x)) := by
  have hx := Go.Proofs.Ythjlapcccmbhbaa.box_below W (.cells #[.int .i64 x.1.a, .int .i64 x.1.b, .int .i64 x.1.c, .int .i64 x.1.d, .int .i64 x.1.e, .int .i64 x.2] 27)
  have HX := Lib.hid hx
  have HR := Lib.hid (hr.below hx)
  have HLk := Lib.hid (LkAt.new W x)
  obtain ⟨n, hn⟩ : ∃ n, xs.length = n := ⟨_, rfl⟩
  have HN := Lib.hid hn
  rw [hn] at hl ⊢
  clear hr hx hn
  obtain ⟨⟨xa, xb, xc, xd, xe⟩, xm⟩ := x
  simp only at HX HLk HR
  go_enter Try.func46, Try.ntmps46
  go_wp2_with fail
  generalize W.alloc (.cells #[.int .i64 xa, .int .i64 xb, .int .i64 xc, .int .i64 xd, .int .i64 xe, .int .i64 xm] 27) = W1 at *
  go_loopw [5, 6, 11] (fun l d i wr => ∃ k : Nat, k ≤ n ∧ i = .int .i64 (k : Nat) ∧ d = .bool (inL (xs.take k) ⟨xa, xb, xc, xd, xe⟩) ∧ Row wr W1.heap.size l (midL (xs.take k) (⟨xa, xb, xc, xd, xe⟩, xm)) ∧ Below W1.heap.size W1 wr) (fun _ _ i _ => n - (intOf i).toNat)
  case atStart => exact ⟨0, by omega, rfl, rfl, World.ownsRow_nil _ _ _ _, Below.refl _ _⟩
  case round =>
    obtain ⟨k, hk, rfl, rfl, hrow, hb⟩ := hrel
    have HRow := Lib.hid hrow
    have HB := Lib.hid hb
    clear hrow hb
    have hml := mid_len (xs.take k) (⟨xa, xb, xc, xd, xe⟩, xm)
    rw [List.length_take] at hml
    by_cases hlt : k < n
    · have i1 : (0 : Int) ≤ (k : Int) := by omega
      have i2 : (k : Int) < (n : Int) := by omega
      have hkl : k < xs.length := by rw [HN.out]; exact hlt
      obtain ⟨a, rfl, hh⟩ := (HR.out.below HB.out).here hkl
      have hT := take_next hkl
      obtain ⟨y, hy⟩ : ∃ y, xs[k] = y := ⟨_, rfl⟩
      rw [hy] at hh hT
      have HIn := Lib.hid (in_snoc (xs.take k) y ⟨xa, xb, xc, xd, xe⟩)
      have HT := Lib.hid hT
      clear hy hT
      obtain ⟨c0, c1, c2, c3, c4, c5⟩ := hh
      have HBx := Lib.hid (Go.Proofs.Ythjlapcccmbhbaa.box_below wr (.cells #[.int .i64 y.1.a, .int .i64 y.1.b, .int .i64 y.1.c, .int .i64 y.1.d, .int .i64 y.1.e, .int .i64 y.2] 27))
      obtain ⟨d0, d1, d2, d3, d4, d5, dlt⟩ := (HLk.out.later HB.out).later HBx.out
      have hlt2 := (HLk.out.later HB.out).lt
      have hne : ¬ W.heap.size = wr.heap.size := Nat.ne_of_lt hlt2
      have HRow2 := Lib.hid (row_below HRow.out HBx.out)
      have HB2 := Lib.hid (thenCall HB.out HBx.out)
      obtain ⟨⟨ya, yb, yc, yd, ye⟩, ym⟩ := y
      simp only at c0 c1 c2 c3 c4 c5 d0 d1 d2 d3 d4 d5 HBx HRow2 HB2 HIn
      obtain ⟨dn, hdn⟩ : ∃ dn, inL (xs.take k) ⟨xa, xb, xc, xd, xe⟩ = dn := ⟨_, rfl⟩
      have HDn := Lib.hid hdn
      rw [hdn] at HIn ⊢
      clear hdn
      cases he : eqP ⟨ya, yb, yc, yd, ye⟩ ⟨xa, xb, xc, xd, xe⟩
      · have HE := Lib.hid he
        have HMid : Hid (midL (xs.take k ++ [((⟨ya, yb, yc, yd, ye⟩, ym) : Hd)]) (⟨xa, xb, xc, xd, xe⟩, xm) = midL (xs.take k) (⟨xa, xb, xc, xd, xe⟩, xm) ++ [(⟨ya, yb, yc, yd, ye⟩, ym)]) := by
          cases dn
          · exact mid_out HDn.out HE.out
          · exact mid_in HDn.out
        obtain ⟨w2, hw2⟩ : ∃ w2, wr.alloc (.cells #[.int .i64 ya, .int .i64 yb, .int .i64 yc, .int .i64 yd, .int .i64 ye, .int .i64 ym] 27) = w2 := ⟨_, rfl⟩
        rw [hw2] at HRow2 HB2
        have hb3 := Go.Proofs.Ythjlapcccmbhbaa.box_below w2 (.cells #[.int .i64 ya, .int .i64 yb, .int .i64 yc, .int .i64 yd, .int .i64 ye, .int .i64 ym] 27)
        have hrow3 := row_below HRow2.out hb3
        have hle3 : W1.heap.size ≤ (w2.alloc (.cells #[.int .i64 ya, .int .i64 yb, .int .i64 yc, .int .i64 yd, .int .i64 ye, .int .i64 ym] 27)).heap.size := Nat.le_trans (HB2.out).size hb3.size
        obtain ⟨v', w9, hrun, hrow9, hg9, -⟩ := Row.app hrow3 (box_ls w2 (⟨ya, yb, yc, yd, ye⟩, ym)) (by simp; omega) hle3 22
        have HB9 := Lib.hid ((thenCall (HB2.out) hb3).trans (Row.app_below hrow3 hg9 hle3))
        have HRow9 := Lib.hid hrow9
        clear hrow3 hrow9 hg9 hle3 hb3
        rw [show w2.heap.size = wr.heap.size + 1 by rw [← hw2]; simp, ← hw2] at hrun
        clear hw2
        go_wp2_with (at_builtin; refine Lib.wpList_append_run _ rfl _ _ _ _ rfl _ _ rfl rfl _ _ hrun ?_)
        go_roundw
        case rel => exact ⟨k + 1, by omega, by go_num, by rw [HT.out, HIn.out, HE.out, Bool.or_false], by rw [HT.out, HMid.out]; exact HRow9.out, HB9.out⟩
        case measure => simp [intOf]; omega
      · have HE := Lib.hid he
        cases dn
        · have HMid := Lib.hid (mid_first (y := ((⟨ya, yb, yc, yd, ye⟩, ym) : Hd)) (x := (⟨xa, xb, xc, xd, xe⟩, xm)) HDn.out HE.out)
          obtain ⟨w2, hw2⟩ : ∃ w2, wr.alloc (.cells #[.int .i64 xa, .int .i64 xb, .int .i64 xc, .int .i64 xd, .int .i64 xe, .int .i64 xm] 27) = w2 := ⟨_, rfl⟩
          have hbx2 := Go.Proofs.Ythjlapcccmbhbaa.box_below wr (.cells #[.int .i64 xa, .int .i64 xb, .int .i64 xc, .int .i64 xd, .int .i64 xe, .int .i64 xm] 27)
          rw [hw2] at hbx2
          have hrow2 := row_below HRow.out hbx2
          have hb2 := thenCall HB.out hbx2
          have hb3 := Go.Proofs.Ythjlapcccmbhbaa.box_below w2 (.cells #[.int .i64 xa, .int .i64 xb, .int .i64 xc, .int .i64 xd, .int .i64 xe, .int .i64 xm] 27)
          have hrow3 := row_below hrow2 hb3
          have hle3 : W1.heap.size ≤ (w2.alloc (.cells #[.int .i64 xa, .int .i64 xb, .int .i64 xc, .int .i64 xd, .int .i64 xe, .int .i64 xm] 27)).heap.size := Nat.le_trans (hb2).size hb3.size
          obtain ⟨v', w9, hrun, hrow9, hg9, -⟩ := Row.app hrow3 (box_ls w2 (⟨xa, xb, xc, xd, xe⟩, xm)) (by simp; omega) hle3 22
          have HB9 := Lib.hid ((thenCall (hb2) hb3).trans (Row.app_below hrow3 hg9 hle3))
          have HRow9 := Lib.hid hrow9
          clear hrow3 hrow9 hg9 hle3 hb3
          rw [show w2.heap.size = wr.heap.size + 1 by rw [← hw2]; simp, ← hw2] at hrun
          clear hw2 hbx2 hrow2 hb2
          go_wp2_with (at_builtin; refine Lib.wpList_append_run _ rfl _ _ _ _ rfl _ _ rfl rfl _ _ hrun ?_)
          go_roundw
          case rel => exact ⟨k + 1, by omega, by go_num, by rw [HT.out, HIn.out, HE.out, Bool.or_true], by rw [HT.out, HMid.out]; exact HRow9.out, HB9.out⟩
          case measure => simp [intOf]; omega
        · have HMid := Lib.hid (mid_in (y := ((⟨ya, yb, yc, yd, ye⟩, ym) : Hd)) (x := (⟨xa, xb, xc, xd, xe⟩, xm)) HDn.out)
          obtain ⟨w2, hw2⟩ : ∃ w2, wr.alloc (.cells #[.int .i64 ya, .int .i64 yb, .int .i64 yc, .int .i64 yd, .int .i64 ye, .int .i64 ym] 27) = w2 := ⟨_, rfl⟩
          rw [hw2] at HRow2 HB2
          have hb3 := Go.Proofs.Ythjlapcccmbhbaa.box_below w2 (.cells #[.int .i64 ya, .int .i64 yb, .int .i64 yc, .int .i64 yd, .int .i64 ye, .int .i64 ym] 27)
          have hrow3 := row_below HRow2.out hb3
          have hle3 : W1.heap.size ≤ (w2.alloc (.cells #[.int .i64 ya, .int .i64 yb, .int .i64 yc, .int .i64 yd, .int .i64 ye, .int .i64 ym] 27)).heap.size := Nat.le_trans (HB2.out).size hb3.size
          obtain ⟨v', w9, hrun, hrow9, hg9, -⟩ := Row.app hrow3 (box_ls w2 (⟨ya, yb, yc, yd, ye⟩, ym)) (by simp; omega) hle3 22
          have HB9 := Lib.hid ((thenCall (HB2.out) hb3).trans (Row.app_below hrow3 hg9 hle3))
          have HRow9 := Lib.hid hrow9
          clear hrow3 hrow9 hg9 hle3 hb3
          rw [show w2.heap.size = wr.heap.size + 1 by rw [← hw2]; simp, ← hw2] at hrun
          clear hw2
          go_wp2_with (at_builtin; refine Lib.wpList_append_run _ rfl _ _ _ _ rfl _ _ rfl rfl _ _ hrun ?_)
          go_roundw
          case rel => exact ⟨k + 1, by omega, by go_num, by rw [HT.out, HIn.out, Bool.true_or], by rw [HT.out, HMid.out]; exact HRow9.out, HB9.out⟩
          case measure => simp [intOf]; omega
    · obtain rfl : k = n := by omega
      have HTk : Hid (xs.take k = xs) := List.take_of_length_le (Nat.le_of_eq HN.out)
      rw [HTk.out] at HRow ⊢
      cases hin : inL xs ⟨xa, xb, xc, xd, xe⟩
      · have hmid : midL xs (⟨xa, xb, xc, xd, xe⟩, xm) = xs := by unfold midL; rw [hin]; rfl
        have HWo := Lib.hid (with_out (x := (⟨xa, xb, xc, xd, xe⟩, xm)) hin)
        rw [hmid] at HRow
        obtain ⟨d0, d1, d2, d3, d4, d5, dlt⟩ := HLk.out.later HB.out
        simp only at d0 d1 d2 d3 d4 d5
        have hnl := HN.out
        have hb3 := Go.Proofs.Ythjlapcccmbhbaa.box_below wr (.cells #[.int .i64 xa, .int .i64 xb, .int .i64 xc, .int .i64 xd, .int .i64 xe, .int .i64 xm] 27)
        have hrow3 := row_below HRow.out hb3
        have hle3 : W1.heap.size ≤ (wr.alloc (.cells #[.int .i64 xa, .int .i64 xb, .int .i64 xc, .int .i64 xd, .int .i64 xe, .int .i64 xm] 27)).heap.size := Nat.le_trans (HB.out).size hb3.size
        obtain ⟨v', w9, hrun, hrow9, hg9, -⟩ := Row.app hrow3 (box_ls wr (⟨xa, xb, xc, xd, xe⟩, xm)) (by simp; omega) hle3 22
        have HB9 := Lib.hid ((thenCall (HB.out) hb3).trans (Row.app_below hrow3 hg9 hle3))
        have HRow9 := Lib.hid hrow9
        clear hrow3 hrow9 hg9 hle3 hb3
        clear hin hmid hnl
        go_wp2_with (at_builtin; refine Lib.wpList_append_run _ rfl _ _ _ _ rfl _ _ rfl rfl _ _ hrun ?_)
        obtain ⟨A', c', rfl, hls⟩ := HRow9.out.ls
        have HLs := Lib.hid hls
        clear hls
        go_ret
        rw [HWo.out]
        exact ⟨A', c', rfl, HLs.out, HX.out.trans (HB9.out.mono HX.out.size)⟩
      · have hmid : midL xs (⟨xa, xb, xc, xd, xe⟩, xm) = withL xs (⟨xa, xb, xc, xd, xe⟩, xm) := by unfold midL; rw [hin]; rfl
        rw [hmid] at HRow
        obtain ⟨A', c', rfl, hls⟩ := HRow.out.ls
        have HLs := Lib.hid hls
        clear hls hin hmid
        go_wp2_with fail
        go_ret
        exact ⟨A', c', rfl, HLs.out, HX.out.trans (HB.out.mono HX.out.size)⟩
end
end Go.Proofs.Ythjlapcccmbhbaa.Lk
