/- What is held below a node: the document's answer. -/
import Derived.Test.YthjlapcccmbhbaaYg
namespace Go.Proofs.Ythjlapcccmbhbaa.Lk
open Go Go.RowKit Go.Shelf Pa
set_option maxRecDepth 100000

section
variable {W W' : World} {A : Option Addr} {c : Nat} {xs : List Hd}
set_option maxHeartbeats 4000000 in
theorem rbelow_any (hr : Ls W A c xs) (hl : xs.length ≤ 300) (q : Pt) : Calls Try.prog 14 #[.slice A xs.length c, q.v] W (Picks W (fun x => belB x q) xs) := by
  have hx := Go.Proofs.Ythjlapcccmbhbaa.box_below W (.cells #[.int .i64 q.a, .int .i64 q.b, .int .i64 q.c, .int .i64 q.d, .int .i64 q.e] 25)
  have HR := Lib.hid (hr.below hx)
  have HX := Lib.hid hx
  have HQ := Lib.hid (PtAt.new W q.a q.b q.c q.d q.e)
  obtain ⟨n, hn⟩ : ∃ n, xs.length = n := ⟨_, rfl⟩
  have HN := Lib.hid hn
  rw [hn] at hl ⊢
  clear hr hn hx
  obtain ⟨qa, qb, qc, qd, qe⟩ := q
  simp only at HX HQ HR
  go_enter Try.func14, Try.ntmps14
  go_wp2_with fail
  unfold boxed at HQ
  generalize W.alloc (.cells #[.int .i64 qa, .int .i64 qb, .int .i64 qc, .int .i64 qd, .int .i64 qe] 25) = W1 at *
  go_loopw [5, 10] (fun l i wr => ∃ k : Nat, k ≤ n ∧ i = .int .i64 (k : Nat) ∧ Row wr W1.heap.size l (fitL (fun x => belB x ⟨qa, qb, qc, qd, qe⟩) (xs.take k)) ∧ Below W1.heap.size W1 wr) (fun _ i _ => n - (intOf i).toNat)
  case atStart => exact ⟨0, by omega, rfl, World.ownsRow_nil _ _ _ _, Below.refl _ _⟩
  case round =>
    obtain ⟨k, hk, rfl, hrow, hb⟩ := hrel
    have HRow := Lib.hid hrow
    have HB := Lib.hid hb
    clear hrow hb
    by_cases hlt : k < n
    · have i1 : (0 : Int) ≤ (k : Int) := by omega
      have i2 : (k : Int) < (n : Int) := by omega
      have hkl : k < xs.length := by rw [HN.out]; exact hlt
      obtain ⟨a, rfl, hh⟩ := (HR.out.below HB.out).here hkl
      obtain ⟨x, hx⟩ : ∃ x, xs[k] = x := ⟨_, rfl⟩
      rw [hx] at hh
      have HT : Hid (fitL (fun x => belB x ⟨qa, qb, qc, qd, qe⟩) (xs.take (k + 1)) = fitL (fun x => belB x ⟨qa, qb, qc, qd, qe⟩) (xs.take k) ++ if (!(eqP x.1 ⟨qa, qb, qc, qd, qe⟩) && wiB x.1 ⟨qa, qb, qc, qd, qe⟩) then [x] else []) := by
        unfold Hid
        rw [List.take_succ_eq_append_getElem hkl, hx, fit_snoc]
        rfl
      clear hx
      obtain ⟨c0, c1, c2, c3, c4, c5⟩ := hh
      have HBx := Lib.hid (Go.Proofs.Ythjlapcccmbhbaa.box_below wr (.cells #[.int .i64 x.1.a, .int .i64 x.1.b, .int .i64 x.1.c, .int .i64 x.1.d, .int .i64 x.1.e, .int .i64 x.2] 27))
      have HXx := Lib.hid (LkAt.new wr x)
      have HC := Lib.hid (fun w => rwithin_list x.1 ⟨qa, qb, qc, qd, qe⟩ w)
      simp only [wi_any] at HC
      obtain ⟨r, hr⟩ : ∃ r, wiB x.1 ⟨qa, qb, qc, qd, qe⟩ = r := ⟨_, rfl⟩
      rw [hr] at HT
      simp only [hr] at HC
      clear hr
      obtain ⟨p0, p1, p2, p3, p4, plt⟩ := HQ.out.later HB.out
      simp only at p0 p1 p2 p3 p4 plt
      have hne : ¬ W.heap.size = wr.heap.size := Nat.ne_of_lt plt
      obtain ⟨⟨xa, xb, xc, xd, xe⟩, xm⟩ := x
      simp only at c0 c1 c2 c3 c4 c5 HBx HXx HC HT
      have hlen := fit_len (fun x => belB x ⟨qa, qb, qc, qd, qe⟩) (xs.take k)
      rw [List.length_take] at hlen
      cases he : eqP ⟨xa, xb, xc, xd, xe⟩ ⟨qa, qb, qc, qd, qe⟩
      · have HE := Lib.hid he
        go_wp2_with fail
        refine (HC.out _).mono ?_
        rintro e1 w1 ⟨rfl, hb1⟩
        have HB1 := Lib.hid (thenCall (thenCall HB.out HBx.out) hb1)
        obtain ⟨d0, d1, d2, d3, d4, d5, hltx⟩ := HXx.out.later hb1
        have HRow1 := Lib.hid (row_below (row_below HRow.out HBx.out) hb1)
        simp only at d0 d1 d2 d3 d4 d5 hltx
        have HT2 := Lib.hid HT.out
        rw [he, Bool.not_false, Bool.true_and] at HT2
        clear hb1 c0 c1 c2 c3 c4 c5 HRow HBx HXx HC p0 p1 p2 p3 p4 HT
        cases r
        · go_wp2_with fail
          go_roundw
          case rel => exact ⟨k + 1, by omega, by go_num, by rw [HT2.out]; simpa using HRow1.out, HB1.out⟩
          case measure => simp [intOf]; omega
        · have hb3 := Go.Proofs.Ythjlapcccmbhbaa.box_below w1 (.cells #[.int .i64 xa, .int .i64 xb, .int .i64 xc, .int .i64 xd, .int .i64 xe, .int .i64 xm] 27)
          have hrow3 := row_below HRow1.out hb3
          have hle3 : W1.heap.size ≤ (w1.alloc (.cells #[.int .i64 xa, .int .i64 xb, .int .i64 xc, .int .i64 xd, .int .i64 xe, .int .i64 xm] 27)).heap.size := Nat.le_trans HB1.out.size hb3.size
          obtain ⟨v', w9, hrun, hrow9, hg9, -⟩ := Row.app hrow3 (box_ls w1 (⟨xa, xb, xc, xd, xe⟩, xm)) (by simp; omega) hle3 22
          have HB9 := Lib.hid ((thenCall HB1.out hb3).trans (Row.app_below hrow3 hg9 hle3))
          have HRow9 := Lib.hid hrow9
          clear hrow3 hrow9 hg9 hle3 hb3
          go_wp2_with (at_builtin; refine Lib.wpList_append_run _ rfl _ _ _ _ rfl _ _ rfl rfl _ _ hrun ?_)
          go_roundw
          case rel => exact ⟨k + 1, by omega, by go_num, by rw [HT2.out]; exact HRow9.out, HB9.out⟩
          case measure => simp [intOf]; omega
      · have HE := Lib.hid he
        have HT2 := Lib.hid HT.out
        rw [he, Bool.not_true, Bool.false_and] at HT2
        go_wp2_with fail
        go_roundw
        case rel => exact ⟨k + 1, by omega, by go_num, by rw [HT2.out]; simpa using row_below HRow.out HBx.out, thenCall HB.out HBx.out⟩
        case measure => simp [intOf]; omega
    · obtain rfl : k = n := by omega
      have HTk : Hid (xs.take k = xs) := List.take_of_length_le (Nat.le_of_eq HN.out)
      obtain ⟨A', c', rfl, hls⟩ := HRow.out.ls
      rw [HTk.out] at hls ⊢
      have HBa := Lib.hid (rback_any hls (Nat.le_trans (fit_len (fun x => belB x ⟨qa, qb, qc, qd, qe⟩) xs) (by rw [HN.out]; exact hl)) (fun x hx => bel_right (List.mem_filter.1 hx).2))
      clear hls HRow
      go_wp2_with fail
      refine HBa.out.mono ?_
      rintro e2 w2 ⟨ys, hbk, A2, c2, rfl, hls2, hb2⟩
      have HE : Hid (Bk (fitL (fun x => belB x ⟨qa, qb, qc, qd, qe⟩) xs) ys ∧ Ls w2 A2 c2 ys ∧ Below W1.heap.size W1 w2) := ⟨hbk, hls2, thenCall HB.out hb2⟩
      clear hbk hls2 hb2
      go_wp2_with fail
      go_ret
      exact ⟨ys, HE.out.1, A2, c2, rfl, HE.out.2.1, HX.out.trans (HE.out.2.2.mono HX.out.size)⟩
end
end Go.Proofs.Ythjlapcccmbhbaa.Lk
