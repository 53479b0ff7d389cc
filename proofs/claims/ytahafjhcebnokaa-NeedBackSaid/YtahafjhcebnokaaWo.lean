/- The locks at other nodes. -/
import Derived.Test.YtahafjhcebnokaaRi
import Derived.Test.YtahafjhcebnokaaLg
namespace Go.Proofs.Ytahafjhcebnokaa.Lk
open Go Go.RowKit Go.Shelf Pa
set_option maxRecDepth 100000

/-- those at other nodes -/
def outL (xs : List Hd) (p : Pt) : List Hd := xs.filter fun x => !(eqP x.1 p)
theorem out_snoc_yes {xs : List Hd} {x : Hd} {p : Pt} (h : eqP x.1 p = false) : outL (xs ++ [x]) p = outL xs p ++ [x] := by unfold outL; rw [List.filter_append]; simp [h]
theorem out_snoc_no {xs : List Hd} {x : Hd} {p : Pt} (h : eqP x.1 p = true) : outL (xs ++ [x]) p = outL xs p := by unfold outL; rw [List.filter_append]; simp [h]
theorem out_len (xs : List Hd) (p : Pt) : (outL xs p).length ≤ xs.length := List.length_filter_le _ _
section
variable {W W' : World} {A : Option Addr} {c : Nat} {xs : List Hd}
set_option maxHeartbeats 2000000 in
theorem without_any (hr : Ls W A c xs) (hl : xs.length ≤ 400) (q : Pt) : Calls Try.prog 15 #[.slice A xs.length c, q.v] W (Lists W (outL xs q)) := by
  have hx := Go.Proofs.Ytahafjhcebnokaa.box_below W (.cells #[.int .i64 q.a, .int .i64 q.b, .int .i64 q.c, .int .i64 q.d, .int .i64 q.e] 25)
  have HR := Lib.hid (hr.below hx)
  have HP := Lib.hid (PtAt.new W q.a q.b q.c q.d q.e)
  have HX := Lib.hid hx
  obtain ⟨n, hn⟩ : ∃ n, xs.length = n := ⟨_, rfl⟩
  have HN := Lib.hid hn
  rw [hn] at hl ⊢
  clear hr hx hn
  obtain ⟨qa, qb, qc, qd, qe⟩ := q
  simp only at HP HX HR
  go_enter Try.func15, Try.ntmps15
  go_wp2_with fail
  unfold boxed at HP
  generalize W.alloc (.cells #[.int .i64 qa, .int .i64 qb, .int .i64 qc, .int .i64 qd, .int .i64 qe] 25) = W1 at *
  go_loopw [5, 10] (fun l i wr => ∃ k : Nat, k ≤ n ∧ i = .int .i64 (k : Nat) ∧ Row wr W1.heap.size l (outL (xs.take k) ⟨qa, qb, qc, qd, qe⟩) ∧ Below W1.heap.size W1 wr) (fun _ i _ => n - (intOf i).toNat)
  case atStart => exact ⟨0, by omega, rfl, World.ownsRow_nil _ _ _ _, Below.refl _ _⟩
  case round =>
    obtain ⟨k, hk, rfl, hrow, hb⟩ := hrel
    have HRow := Lib.hid hrow
    have HB := Lib.hid hb
    clear hrow hb
    by_cases hlt : k < n
    · have i1 : (0 : Int) ≤ (k : Int) := by omega
      have i2 : (k : Int) < (n : Int) := by omega
      have hkl : k < xs.length := by rw [HN.out]; exact hlt
      obtain ⟨a, rfl, hh⟩ := (HR.out.below HB.out).here hkl
      obtain ⟨x, hx⟩ : ∃ x, xs[k] = x := ⟨_, rfl⟩
      rw [hx] at hh
      have HT : Hid (xs.take (k + 1) = xs.take k ++ [x]) := by unfold Hid; rw [List.take_succ_eq_append_getElem hkl, hx]
      clear hx
      obtain ⟨c0, c1, c2, c3, c4, c5⟩ := hh
      have HBx := Lib.hid (Go.Proofs.Ytahafjhcebnokaa.box_below wr (.cells #[.int .i64 x.1.a, .int .i64 x.1.b, .int .i64 x.1.c, .int .i64 x.1.d, .int .i64 x.1.e, .int .i64 x.2] 32))
      have HXx := Lib.hid (LkAt.new wr x)
      obtain ⟨⟨xa, xb, xc, xd, xe⟩, xm⟩ := x
      simp only at c0 c1 c2 c3 c4 c5 HBx HXx
      obtain ⟨p0, p1, p2, p3, p4, hlp⟩ := HP.out.later HB.out
      simp only at p0 p1 p2 p3 p4 hlp
      have hne : ¬ W.heap.size = wr.heap.size := Nat.ne_of_lt hlp
      have hlen := out_len (xs.take k) ⟨qa, qb, qc, qd, qe⟩
      rw [List.length_take] at hlen
      cases he : eqP ⟨xa, xb, xc, xd, xe⟩ ⟨qa, qb, qc, qd, qe⟩
      · have HO := Lib.hid (out_snoc_yes (xs := xs.take k) (x := (⟨xa, xb, xc, xd, xe⟩, xm)) he)
        obtain ⟨w2, hw2⟩ : ∃ w2, wr.alloc (.cells #[.int .i64 xa, .int .i64 xb, .int .i64 xc, .int .i64 xd, .int .i64 xe, .int .i64 xm] 32) = w2 := ⟨_, rfl⟩
        have hb2 : Below wr.heap.size wr w2 := by rw [← hw2]; exact HBx.out
        have hb3 := Go.Proofs.Ytahafjhcebnokaa.box_below w2 (.cells #[.int .i64 xa, .int .i64 xb, .int .i64 xc, .int .i64 xd, .int .i64 xe, .int .i64 xm] 32)
        have hrow3 := row_below (row_below HRow.out hb2) hb3
        have hle3 : W1.heap.size ≤ (w2.alloc (.cells #[.int .i64 xa, .int .i64 xb, .int .i64 xc, .int .i64 xd, .int .i64 xe, .int .i64 xm] 32)).heap.size := Nat.le_trans (Nat.le_trans HB.out.size hb2.size) hb3.size
        obtain ⟨v', w9, hrun, hrow9, hg9, -⟩ := Row.app hrow3 (box_ls w2 (⟨xa, xb, xc, xd, xe⟩, xm)) (by simp; omega) hle3 22
        have HB9 := Lib.hid ((HB.out.trans ((thenCall hb2 hb3).mono HB.out.size)).trans (Row.app_below hrow3 hg9 hle3))
        have HRow9 := Lib.hid hrow9
        have hsz2 : w2.heap.size = wr.heap.size + 1 := by rw [← hw2]; simp
        rw [hsz2] at hrun
        rw [← hw2] at hrun
        clear hsz2
        clear hrow3 hrow9 hg9 hle3 hb2 hb3 hw2
        go_wp2_with (at_builtin; refine Lib.wpList_append_run _ rfl _ _ _ _ rfl _ _ rfl rfl _ _ hrun ?_)
        go_roundw
        case rel => exact ⟨k + 1, by omega, by go_num, by rw [HT.out, HO.out]; exact HRow9.out, HB9.out⟩
        case measure => simp [intOf]; omega
      · have HO := Lib.hid (out_snoc_no (xs := xs.take k) (x := (⟨xa, xb, xc, xd, xe⟩, xm)) he)
        go_wp2_with fail
        go_roundw
        case rel => exact ⟨k + 1, by omega, by go_num, by rw [HT.out, HO.out]; exact row_below HRow.out HBx.out, HB.out.trans (HBx.out.mono HB.out.size)⟩
        case measure => simp [intOf]; omega
    · obtain rfl : k = n := by omega
      have HTk : Hid (xs.take k = xs) := List.take_of_length_le (Nat.le_of_eq HN.out)
      obtain ⟨A', c', rfl, hls⟩ := HRow.out.ls
      rw [HTk.out] at hls
      have HLs := Lib.hid hls
      clear hls
      go_wp2_with fail
      go_ret
      rw [HTk.out]
      exact ⟨A', c', rfl, HLs.out, HX.out.trans (HB.out.mono HX.out.size)⟩
end
end Go.Proofs.Ytahafjhcebnokaa.Lk
