/- Those that are picked, in the order in which locks go. -/
import Derived.Test.YthjlapcccmbhbaaWc
import Derived.Test.YthjlapcccmbhbaaSi
namespace Go.Proofs.Ythjlapcccmbhbaa.Lk
open Go Go.RowKit Go.Shelf Pa
set_option maxRecDepth 100000

section
variable {W W' : World} {A : Option Addr} {c : Nat} {xs : List Hd}
set_option maxHeartbeats 4000000 in
theorem gback_any {gf : Nat} {cs : Array Value} {f : Pt → Bool} (hp : PrdP (fun _ => False) W gf cs f) (hf : ∀ p, f p = true → rightB p = true) (hr : Ls W A c xs) (hl : xs.length ≤ 30) :
    Calls Try.prog 36 #[.slice A xs.length c, .func (.func gf) #[] cs] W fun e w' => ∃ ys, Bk (fitL f xs) ys ∧ Lists W ys e w' := by
  obtain ⟨eg, hp⟩ := hp
  have HP := Lib.hid hp
  have HR := Lib.hid hr
  obtain ⟨n, hn⟩ : ∃ n, xs.length = n := ⟨_, rfl⟩
  have HN := Lib.hid hn
  rw [hn] at hl ⊢
  have HF := Lib.hid hf
  clear hr hn hp hf
  go_enter Try.func36, Try.ntmps36
  go_wp2_with fail
  go_loopw [5, 10] (fun l i wr => ∃ k : Nat, k ≤ n ∧ i = .int .i64 (k : Nat) ∧ Row wr W.heap.size l (fitL f (xs.take k)) ∧ Below W.heap.size W wr) (fun _ i _ => n - (intOf i).toNat)
  case atStart => exact ⟨0, by omega, rfl, World.ownsRow_nil _ _ _ _, Below.refl _ _⟩
  case round =>
    obtain ⟨k, hk, rfl, hrow, hb⟩ := hrel
    have HRow := Lib.hid hrow
    have HB := Lib.hid hb
    clear hrow hb
    by_cases hlt : k < n
    · have i1 : (0 : Int) ≤ (k : Int) := by omega
      have i2 : (k : Int) < (n : Int) := by omega
      have hkl : k < xs.length := by rw [HN.out]; exact hlt
      obtain ⟨a, rfl, hh⟩ := (HR.out.below HB.out).here hkl
      obtain ⟨x, hx⟩ : ∃ x, xs[k] = x := ⟨_, rfl⟩
      rw [hx] at hh
      have HT : Hid (fitL f (xs.take (k + 1)) = fitL f (xs.take k) ++ if f x.1 then [x] else []) := by unfold Hid; rw [List.take_succ_eq_append_getElem hkl, hx, fit_snoc]
      clear hx
      obtain ⟨c0, c1, c2, c3, c4, c5⟩ := hh
      have HBx := Lib.hid (Go.Proofs.Ythjlapcccmbhbaa.box_below wr (.cells #[.int .i64 x.1.a, .int .i64 x.1.b, .int .i64 x.1.c, .int .i64 x.1.d, .int .i64 x.1.e, .int .i64 x.2] 27))
      have HXx := Lib.hid (LkAt.new wr x)
      have HC := Lib.hid (HP.out _ x.1 (OnlyS.of_below (thenCall HB.out HBx.out)))
      obtain ⟨r, hr⟩ : ∃ r, f x.1 = r := ⟨_, rfl⟩
      rw [hr] at HT HC
      clear hr
      obtain ⟨⟨xa, xb, xc, xd, xe⟩, xm⟩ := x
      simp only at c0 c1 c2 c3 c4 c5 HBx HXx HC
      have hlen := fit_len f (xs.take k)
      rw [List.length_take] at hlen
      go_wp2_with fail
      refine HC.out.mono ?_
      rintro e1 w1 ⟨rfl, hb1⟩
      have HB1 := Lib.hid (thenCall (thenCall HB.out HBx.out) hb1)
      obtain ⟨d0, d1, d2, d3, d4, d5, hltx⟩ := HXx.out.later hb1
      have HRow1 := Lib.hid (row_below (row_below HRow.out HBx.out) hb1)
      simp only at d0 d1 d2 d3 d4 d5 hltx
      clear hb1 c0 c1 c2 c3 c4 c5 HRow HBx HXx HC
      cases r
      · go_wp2_with fail
        go_roundw
        case rel => exact ⟨k + 1, by omega, by go_num, by rw [HT.out]; simpa using HRow1.out, HB1.out⟩
        case measure => simp [intOf]; omega
      · have hb3 := Go.Proofs.Ythjlapcccmbhbaa.box_below w1 (.cells #[.int .i64 xa, .int .i64 xb, .int .i64 xc, .int .i64 xd, .int .i64 xe, .int .i64 xm] 27)
        have hrow3 := row_below HRow1.out hb3
        have hle3 : W.heap.size ≤ (w1.alloc (.cells #[.int .i64 xa, .int .i64 xb, .int .i64 xc, .int .i64 xd, .int .i64 xe, .int .i64 xm] 27)).heap.size := Nat.le_trans HB1.out.size hb3.size
        obtain ⟨v', w9, hrun, hrow9, hg9, -⟩ := Row.app hrow3 (box_ls w1 (⟨xa, xb, xc, xd, xe⟩, xm)) (by simp; omega) hle3 22
        have HB9 := Lib.hid ((thenCall HB1.out hb3).trans (Row.app_below hrow3 hg9 hle3))
        have HRow9 := Lib.hid hrow9
        clear hrow3 hrow9 hg9 hle3 hb3
        go_wp2_with (at_builtin; refine Lib.wpList_append_run _ rfl _ _ _ _ rfl _ _ rfl rfl _ _ hrun ?_)
        go_roundw
        case rel => exact ⟨k + 1, by omega, by go_num, by rw [HT.out]; exact HRow9.out, HB9.out⟩
        case measure => simp [intOf]; omega
    · obtain rfl : k = n := by omega
      have HTk : Hid (xs.take k = xs) := List.take_of_length_le (Nat.le_of_eq HN.out)
      obtain ⟨A', c', rfl, hls⟩ := HRow.out.ls
      rw [HTk.out] at hls ⊢
      have HBa := Lib.hid (back_any hls (Nat.le_trans (fit_len f xs) (by rw [HN.out]; exact hl)) (fun x hx => HF.out _ (List.mem_filter.1 hx).2))
      clear hls HRow
      go_wp2_with fail
      refine HBa.out.mono ?_
      rintro e2 w2 ⟨ys, hbk, A2, c2, rfl, hls2, hb2⟩
      have HE : Hid (Bk (fitL f xs) ys ∧ Ls w2 A2 c2 ys ∧ Below W.heap.size W w2) := ⟨hbk, hls2, thenCall HB.out hb2⟩
      clear hbk hls2 hb2
      go_wp2_with fail
      go_ret
      exact ⟨ys, HE.out.1, A2, c2, rfl, HE.out.2.1, HE.out.2.2⟩
/-- those of these nodes, handed out in the order in which they go -/
def Picks (W : World) (f : Pt → Bool) (xs : List Hd) (e : Ending) (w' : World) : Prop := ∃ ys, Bk (fitL f xs) ys ∧ Lists W ys e w'
theorem kids_any (hr : Ls W A c xs) (hl : xs.length ≤ 30) (q : Pt) : Calls Try.prog 11 #[.slice A xs.length c, q.v] W (Picks W (fun x => kidB x q) xs) := by
  have hx := Go.Proofs.Ythjlapcccmbhbaa.box_below W (.cells #[.int .i64 q.a, .int .i64 q.b, .int .i64 q.c, .int .i64 q.d, .int .i64 q.e] 25)
  have HG := Lib.hid (gback_any (kid_at (PtAt.new W q.a q.b q.c q.d q.e) (fun h => h)) (fun _ h => kid_right h) (hr.below hx) hl)
  have HX := Lib.hid hx
  obtain ⟨n, hn⟩ : ∃ n, xs.length = n := ⟨_, rfl⟩
  rw [hn] at HG ⊢
  clear hr hx hl hn
  obtain ⟨qa, qb, qc, qd, qe⟩ := q
  simp only at HG HX
  go_enter Try.func11, Try.ntmps11
  go_wp2_with fail
  refine HG.out.mono ?_
  rintro e2 w2 ⟨ys, hbk, A2, c2, rfl, hls2, hb2⟩
  have HE : Hid (Picks W (fun x => kidB x ⟨qa, qb, qc, qd, qe⟩) xs (.returned (.slice A2 ys.length c2)) w2) := ⟨ys, hbk, A2, c2, rfl, hls2, thenCall HX.out hb2⟩
  clear hbk hls2 hb2
  go_wp2_with fail
  go_ret
  exact HE.out
theorem gbelow_any (hr : Ls W A c xs) (hl : xs.length ≤ 30) (q : Pt) : Calls Try.prog 13 #[.slice A xs.length c, q.v] W (Picks W (fun x => belB x q) xs) := by
  have hx := Go.Proofs.Ythjlapcccmbhbaa.box_below W (.cells #[.int .i64 q.a, .int .i64 q.b, .int .i64 q.c, .int .i64 q.d, .int .i64 q.e] 25)
  have HG := Lib.hid (gback_any (bel_at (PtAt.new W q.a q.b q.c q.d q.e) (fun h => h)) (fun _ h => bel_right h) (hr.below hx) hl)
  have HX := Lib.hid hx
  obtain ⟨n, hn⟩ : ∃ n, xs.length = n := ⟨_, rfl⟩
  rw [hn] at HG ⊢
  clear hr hx hl hn
  obtain ⟨qa, qb, qc, qd, qe⟩ := q
  simp only at HG HX
  go_enter Try.func13, Try.ntmps13
  go_wp2_with fail
  refine HG.out.mono ?_
  rintro e2 w2 ⟨ys, hbk, A2, c2, rfl, hls2, hb2⟩
  have HE : Hid (Picks W (fun x => belB x ⟨qa, qb, qc, qd, qe⟩) xs (.returned (.slice A2 ys.length c2)) w2) := ⟨ys, hbk, A2, c2, rfl, hls2, thenCall HX.out hb2⟩
  clear hbk hls2 hb2
  go_wp2_with fail
  go_ret
  exact HE.out
end
end Go.Proofs.Ythjlapcccmbhbaa.Lk
