/- The walk of NeedPlans. -/
import Derived.Test.YtahafjhcebnokaaLe
namespace Go.Proofs.Ytahafjhcebnokaa.Lk
open Go Go.RowKit Go.Shelf Pa
set_option maxRecDepth 100000

/-- a lock in a box -/
structure LkAt (w : World) (B : Nat) (x : Hd) : Prop where
  c0 : w.cell? ⟨B, 0, none⟩ = some (.int .i64 x.1.a)
  c1 : w.cell? ⟨B, 1, none⟩ = some (.int .i64 x.1.b)
  c2 : w.cell? ⟨B, 2, none⟩ = some (.int .i64 x.1.c)
  c3 : w.cell? ⟨B, 3, none⟩ = some (.int .i64 x.1.d)
  c4 : w.cell? ⟨B, 4, none⟩ = some (.int .i64 x.1.e)
  c5 : w.cell? ⟨B, 5, none⟩ = some (.int .i64 x.2)
  lt : B < w.heap.size
theorem LkAt.later {W W' : World} {B : Nat} {x : Hd} (h : LkAt W B x) (hb : Below W.heap.size W W') : LkAt W' B x := by
  obtain ⟨k, _⟩ := kept hb
  exact ⟨(k _ _ h.lt).trans h.c0, (k _ _ h.lt).trans h.c1, (k _ _ h.lt).trans h.c2, (k _ _ h.lt).trans h.c3, (k _ _ h.lt).trans h.c4, (k _ _ h.lt).trans h.c5, Nat.lt_of_lt_of_le h.lt hb.size⟩
theorem LkAt.new (w : World) (x : Hd) : LkAt (w.alloc (.cells #[.int .i64 x.1.a, .int .i64 x.1.b, .int .i64 x.1.c, .int .i64 x.1.d, .int .i64 x.1.e, .int .i64 x.2] 32)) w.heap.size x := by
  refine ⟨?_, ?_, ?_, ?_, ?_, ?_, by simp⟩ <;> simp [go_sem]
theorem wgives {W0 : World} {f : Nat} {args : Array Value} {v : Value} (h : ∀ w, Below W0.heap.size W0 w → Calls Try.prog f args w fun e w' => e = .returned v ∧ Below w.heap.size w w') : Pa.Gives W0 f args v :=
  fun w' hb => (h w' hb).mono fun _ _ ⟨he, hb'⟩ => ⟨he, hb.trans (hb'.mono hb.size)⟩
theorem eq_none {p : Pt} {m : Int} (h : planE p m = 0 ∨ planE p m = 1) : (planE p m == 0) = decide (planE p m = 0) := by
  rcases h with h | h <;> rw [h] <;> rfl
set_option maxHeartbeats 8000000 in
theorem plans_walk (A : Option Addr) (n c : Nat) (xs : List Hd) (q : Pt) (m : Int) (W : World) (hl : xs.length = n) (hr : Ls W A c xs) :
    Calls Try.prog 5 #[.slice A n c, q.v, .int .i64 m] W fun e w' => e = .returned (.bool true) ∧ Below W.heap.size W w' := by
  have HX := Lib.hid (Go.Proofs.Ytahafjhcebnokaa.box_below W (.cells #[.int .i64 q.a, .int .i64 q.b, .int .i64 q.c, .int .i64 q.d, .int .i64 q.e] 25))
  have HP0 := Lib.hid (PtAt.new W q.a q.b q.c q.d q.e)
  by_cases h30 : n ≤ 30
  · have HF := Lib.hid (fun w => few_any A n c w)
    rw [decide_eq_true h30] at HF
    have HPl := Lib.hid (fun (w1 : World) (hb : Below W.heap.size W w1) => plan_any (hr.below hb) (by omega) q m)
    have HO := Lib.hid (fun (w1 : World) (hb : Below W.heap.size W w1) (p : Pt) => of_any (hr.below hb) (by omega) p)
    rw [hl] at HPl HO
    have HWi := Lib.hid (fun (p : Pt) (w : World) => rwithin_list q p w)
    obtain ⟨ls, hls, hI, hRi, hE, hLen⟩ : ∃ ls, planL xs q m = ls ∧ (∀ x ∈ ls, ItemOk xs q m x) ∧ ls.Pairwise (fun a b => a.1.e < b.1.e) ∧ (planE q m = 0 ∨ (planE q m = 1 ∧ ls = [])) ∧ ls.length ≤ 4 :=
      ⟨_, rfl, fun x hx => (plan_item hx).2.2, plan_rise xs q m, plan_err xs q m, plan_len xs q m⟩
    have HI := Lib.hid hI
    have HRi := Lib.hid (List.pairwise_iff_getElem.1 hRi)
    have HE := Lib.hid hE
    have HLen := Lib.hid hLen
    clear hr hl hI hRi hE hLen
    unfold ListsE at HPl
    rw [hls] at HPl
    clear hls
    obtain ⟨er, her⟩ : ∃ er, planE q m = er := ⟨_, rfl⟩
    rw [her] at HPl HE
    clear her
    obtain ⟨qa, qb, qc, qd, qe⟩ := q
    simp only at HX HP0
    go_enter Try.func5, Try.ntmps5
    go_wp2_with fail
    refine (awake_any _).mono ?_
    rintro e1 w1 ⟨rfl, hb1⟩
    have HB1 := Lib.hid (thenCall HX.out hb1)
    have hp1 := HP0.out.later hb1
    have HP1 := Lib.hid hp1
    obtain ⟨p0, p1, p2, p3, p4, hlt1⟩ := hp1
    clear hb1
    go_wp2_with fail
    refine (HF.out _).mono ?_
    rintro e2 w2 ⟨rfl, rfl⟩
    go_wp2_with fail
    refine (HPl.out _ HB1.out).mono ?_
    rintro e3 w3 ⟨A3, c3, rfl, hls3, hb3⟩
    have HLs := Lib.hid hls3
    have HB3 := Lib.hid (thenCall HB1.out hb3)
    have HP3 := Lib.hid (HP1.out.later hb3)
    obtain ⟨k, hk⟩ : ∃ k, ls.length = k := ⟨_, rfl⟩
    have HK := Lib.hid hk
    rw [hk]
    have hk4 : k ≤ 4 := by rw [← hk]; exact HLen.out
    clear hls3 hb3 p0 p1 p2 p3 p4 hlt1 hk
    go_wp2_with fail
    go_loopw [25] (fun t wr => ∃ j : Nat, j ≤ k ∧ t = .int .i64 j ∧ Below w3.heap.size w3 wr) (fun t _ => k - (intOf t).toNat)
    case atStart => exact ⟨0, by omega, rfl, Below.refl _ _⟩
    case round =>
      obtain ⟨j, hj, rfl, hb⟩ := hrel
      have HB := Lib.hid hb
      clear hb
      by_cases hjk : j < k
      · have hjl : j < ls.length := by rw [HK.out]; exact hjk
        have i1 : (0 : Int) ≤ (j : Int) := by omega
        have i2 : (j : Int) < (k : Int) := by omega
        obtain ⟨a, rfl, hh⟩ := (HLs.out.below HB.out).here hjl
        obtain ⟨x, hx⟩ : ∃ x, ls[j] = x := ⟨_, rfl⟩
        have hI := HI.out _ (List.getElem_mem hjl)
        rw [hx] at hh hI
        obtain ⟨hw, -, hn, hy⟩ := hI
        have HXj := Lib.hid hx
        clear hx
        obtain ⟨⟨xa, xb, xc, xd, xe⟩, xm⟩ := x
        obtain ⟨c0, c1, c2, c3', c4, c5⟩ := hh
        have hway : anyL ⟨xa, xb, xc, xd, xe⟩ (waysP ⟨qa, qb, qc, qd, qe⟩) = true := List.any_eq_true.2 ⟨_, hw, eqP_self _⟩
        have HBX := Lib.hid (thenCall HB.out (Go.Proofs.Ytahafjhcebnokaa.box_below wr (.cells #[.int .i64 xa, .int .i64 xb, .int .i64 xc, .int .i64 xd, .int .i64 xe, .int .i64 xm] 32)))
        obtain ⟨d0, d1, d2, d3, d4, d5, hltx⟩ := LkAt.new wr (⟨xa, xb, xc, xd, xe⟩, xm)
        obtain ⟨p0, p1, p2, p3, p4, hlt1⟩ := HP3.out.later HBX.out
        simp only at c0 c1 c2 c3' c4 c5 d0 d1 d2 d3 d4 d5 hltx
        obtain ⟨r, hr⟩ : ∃ r, ofL xs ⟨xa, xb, xc, xd, xe⟩ = r := ⟨_, rfl⟩
        simp only [hr] at hn hy
        go_wp2_with fail
        rcases Nat.eq_zero_or_pos j with rfl | hj0
        · clear c0 c1 c2 c3' c4 c5
          generalize wr.alloc (.cells #[.int .i64 xa, .int .i64 xb, .int .i64 xc, .int .i64 xd, .int .i64 xe, .int .i64 xm] 32) = W1 at *
          have gW : Pa.Gives W1 16 #[.agg #[.int .i64 qa, .int .i64 qb, .int .i64 qc, .int .i64 qd, .int .i64 qe], .agg #[.int .i64 xa, .int .i64 xb, .int .i64 xc, .int .i64 xd, .int .i64 xe]] (.bool true) := wgives fun w _ => by have := HWi.out ⟨xa, xb, xc, xd, xe⟩ w; rwa [hway] at this
          have gO : Pa.Gives W1 14 #[.slice A n c, .agg #[.int .i64 xa, .int .i64 xb, .int .i64 xc, .int .i64 xd, .int .i64 xe]] (.int .i64 r) := wgives fun w hb => by have := HO.out w (thenCall (thenCall HB3.out HBX.out) hb) ⟨xa, xb, xc, xd, xe⟩; rwa [hr] at this
          have gC1 : Pa.Gives W1 17 #[.int .i64 r, .int .i64 xm] (.bool false) := fun w' hb => by rw [← hn]; exact rcov_any r xm W1 w' hb
          have gC2 : Pa.Gives W1 17 #[.int .i64 xm, .int .i64 r] (.bool true) := fun w' hb => by rw [← hy]; exact rcov_any xm r W1 w' hb
          refine wp_region_later W1 (by kernel_rfl) (by kernel_rfl) (Below.refl _ _) ?_
          repeat (go_big_quiet_step (((first | go_at_call 16 | go_at_call 14 | go_at_call 17); exact Gives.later (by with_reducible assumption))))
          refine wpQuiet_nil ?_
          rintro _ ⟨⟨w4, hb4⟩, rfl⟩
          have HB4 := Lib.hid (thenCall HBX.out hb4)
          clear gW gO gC1 gC2 d0 d1 d2 d3 d4 d5 p0 p1 p2 p3 p4 hb4
          go_wp2_with fail
          go_roundw
          case rel => exact ⟨1, by omega, by go_num, HB4.out⟩
          case measure => simp [intOf]; omega
        · obtain ⟨i, rfl⟩ : ∃ i, j = i + 1 := ⟨j - 1, by omega⟩
          have hil : i < ls.length := by omega
          obtain ⟨a2, ha2, hp2⟩ := (HLs.out.below HBX.out).here hil
          obtain rfl : a = a2 := by simpa using ha2
          obtain ⟨-, -, -, -, f4, -⟩ := hp2
          have hrise := HRi.out i (i + 1) hil hjl (by omega)
          rw [HXj.out] at hrise
          simp only at hrise
          obtain ⟨pe, hpe⟩ : ∃ pe, ls[i].1.e = pe := ⟨_, rfl⟩
          rw [hpe] at f4 hrise
          have i3 : (((i + 1 : Nat) : Int) - 1) = (i : Int) := by omega
          have i4 : (i : Int) < (k : Int) := by omega
          have i5 : (0 : Int) ≤ (i : Int) := by omega
          have i6 : ¬ xe ≤ pe := by omega
          have i7 : (0 : Int) < ((i + 1 : Nat) : Int) := by omega
          have f5 := cell_lt f4
          simp only at f5
          clear c0 c1 c2 c3' c4 c5 ha2 hpe hrise
          generalize wr.alloc (.cells #[.int .i64 xa, .int .i64 xb, .int .i64 xc, .int .i64 xd, .int .i64 xe, .int .i64 xm] 32) = W1 at *
          have gW : Pa.Gives W1 16 #[.agg #[.int .i64 qa, .int .i64 qb, .int .i64 qc, .int .i64 qd, .int .i64 qe], .agg #[.int .i64 xa, .int .i64 xb, .int .i64 xc, .int .i64 xd, .int .i64 xe]] (.bool true) := wgives fun w _ => by have := HWi.out ⟨xa, xb, xc, xd, xe⟩ w; rwa [hway] at this
          have gO : Pa.Gives W1 14 #[.slice A n c, .agg #[.int .i64 xa, .int .i64 xb, .int .i64 xc, .int .i64 xd, .int .i64 xe]] (.int .i64 r) := wgives fun w hb => by have := HO.out w (thenCall (thenCall HB3.out HBX.out) hb) ⟨xa, xb, xc, xd, xe⟩; rwa [hr] at this
          have gC1 : Pa.Gives W1 17 #[.int .i64 r, .int .i64 xm] (.bool false) := fun w' hb => by rw [← hn]; exact rcov_any r xm W1 w' hb
          have gC2 : Pa.Gives W1 17 #[.int .i64 xm, .int .i64 r] (.bool true) := fun w' hb => by rw [← hy]; exact rcov_any xm r W1 w' hb
          refine wp_region_later W1 (by kernel_rfl) (by kernel_rfl) (Below.refl _ _) ?_
          repeat (go_big_quiet_step (((first | go_at_call 16 | go_at_call 14 | go_at_call 17); exact Gives.later (by with_reducible assumption))))
          refine wpQuiet_nil ?_
          rintro _ ⟨⟨w4, hb4⟩, rfl⟩
          have HB4 := Lib.hid (thenCall HBX.out hb4)
          clear gW gO gC1 gC2 d0 d1 d2 d3 d4 d5 p0 p1 p2 p3 p4 hb4
          go_wp2_with fail
          go_roundw
          case rel => exact ⟨i + 1 + 1, by omega, by go_num, HB4.out⟩
          case measure => simp [intOf]; omega
      · obtain rfl : j = k := by omega
        rcases HE.out with he | ⟨he, hn⟩
        · subst he
          go_wp2_with fail
          go_ret
          exact ⟨rfl, thenCall HB3.out HB.out⟩
        · subst he
          have hj0 : j = 0 := by rw [← HK.out, hn]; rfl
          subst hj0
          go_wp2_with fail
          go_ret
          exact ⟨rfl, thenCall HB3.out HB.out⟩
  · have HF := Lib.hid (fun w => few_any A n c w)
    rw [decide_eq_false h30] at HF
    clear hr hl
    obtain ⟨qa, qb, qc, qd, qe⟩ := q
    simp only at HX
    go_enter Try.func5, Try.ntmps5
    go_wp2_with fail
    refine (awake_any _).mono ?_
    rintro e1 w1 ⟨rfl, hb1⟩
    have HB1 := Lib.hid (thenCall HX.out hb1)
    clear hb1
    go_wp2_with fail
    refine (HF.out _).mono ?_
    rintro e2 w2 ⟨rfl, rfl⟩
    go_wp2_with fail
    go_ret
    exact ⟨rfl, HB1.out⟩
end Go.Proofs.Ytahafjhcebnokaa.Lk
