/- The walk of GrowPicks. -/
import Derived.Test.YthjlapcccmbhbaaXa
namespace Go.Proofs.Ythjlapcccmbhbaa.Lk
open Go Go.RowKit Go.Shelf Pa
set_option maxRecDepth 100000

theorem re_do : ∀ x, x ≤ 3 → reN (doN x) = x := by decide +kernel
theorem top_mem {xs : List Hd} {x : Hd} (h : x ∈ xs) : reN (kn x.2) ≤ topL xs := by
  unfold topL
  have up : ∀ (xs : List Hd) (m : Nat), m ≤ xs.foldl (fun m x => max m (reN (kn x.2))) m := by
    intro xs
    induction xs with
    | nil => intro m; exact Nat.le_refl _
    | cons x xs ih => intro m; exact Nat.le_trans (Nat.le_max_left _ _) (ih _)
  have : ∀ (xs : List Hd) (m : Nat), x ∈ xs → reN (kn x.2) ≤ xs.foldl (fun m x => max m (reN (kn x.2))) m := by
    intro xs
    induction xs with
    | nil => intro m h; cases h
    | cons y xs ih =>
      intro m h
      rcases List.mem_cons.1 h with rfl | h
      · exact Nat.le_trans (Nat.le_max_right _ _) (up xs _)
      · exact ih _ h
  exact this xs 0 h
/-- what a lock that comes in the place of many lets one do -/
structure Pd (xs : List Hd) (n : Int) (x : Hd) : Prop where
  one : 1 ≤ n
  kids : n ≤ (cntL xs x.1 : Int)
  bel : ∀ y ∈ fitL (fun p => belB p x.1) xs, reN (kn y.2) ≤ reN (kn x.2)
  cov : covB (kn x.2) (kn (ofL xs x.1)) = true
  more : reN (kn (ofL xs x.1)) < reN (kn x.2)
theorem pd_of {xs : List Hd} {n : Int} {x : Hd} (h1 : 1 ≤ n) (hc : candB xs n x.1 = true) (hx : x = itemG xs x.1) : Pd xs n x := by
  unfold candB at hc
  rw [Bool.and_eq_true, decide_eq_true_eq, decide_eq_true_eq] at hc
  have hk : kn x.2 = supN (kn (ofL xs x.1)) (doN (mxL xs x.1)) := by
    have := congrArg Prod.snd hx
    rw [this]
    exact kn_nat (supN_le _ _)
  have hr := sup_r (kn (ofL xs x.1)) (kn_le _) (doN (mxL xs x.1)) (doN_le _)
  have hl := sup_l (kn (ofL xs x.1)) (kn_le _) (doN (mxL xs x.1)) (doN_le _)
  have hm : mxL xs x.1 ≤ reN (kn x.2) := by
    have := cov_re hr
    rw [re_do _ (mx_le _ _)] at this
    rw [hk]
    exact this
  refine ⟨h1, hc.1, fun y hy => Nat.le_trans (top_mem hy) hm, by rw [hk]; exact hl, Nat.lt_of_lt_of_le hc.2 hm⟩
section
variable {W W' : World} {A : Option Addr} {c : Nat} {xs : List Hd}
set_option maxHeartbeats 8000000 in
theorem picks_walk (hr : Ls W A c xs) (hf : ∀ x ∈ xs, FitP x.1 ∧ wf64 x.2) (n : Int) :
    Calls Try.prog 5 #[.slice A xs.length c, .int .i64 n] W fun e w' => e = .returned (.bool true) ∧ Below W.heap.size W w' := by
  by_cases h30 : xs.length ≤ 30
  · have HF := Lib.hid (fun w => few_any A xs.length c w)
    rw [decide_eq_true h30] at HF
    have HPi := Lib.hid (fun (w : World) (hb : Below W.heap.size W w) => pick_any (hr.below hb) h30 hf n)
    have HKi := Lib.hid (fun (w : World) (hb : Below W.heap.size W w) q => kids_any (hr.below hb) h30 q)
    have HBe := Lib.hid (fun (w : World) (hb : Below W.heap.size W w) q => gbelow_any (hr.below hb) h30 q)
    have HOf := Lib.hid (fun (w : World) (hb : Below W.heap.size W w) q => of_any (hr.below hb) (by omega) q)
    clear hr hf
    obtain ⟨m, hm⟩ : ∃ m, xs.length = m := ⟨_, rfl⟩
    rw [hm] at HF HPi HKi HBe HOf h30 ⊢
    have HMm := Lib.hid hm
    clear hm
    go_enter Try.func5, Try.ntmps5
    go_wp2_with fail
    refine (awake_any _).mono ?_
    rintro e1 w1 ⟨rfl, hb1⟩
    have HB1 := Lib.hid hb1
    clear hb1
    go_wp2_with fail
    refine (HF.out _).mono ?_
    rintro e2 w2 ⟨rfl, rfl⟩
    go_wp2_with fail
    refine (HPi.out _ HB1.out).mono ?_
    rintro e3 w3 ⟨x, b, rfl, hpi, hb3⟩
    have hx3 := Go.Proofs.Ythjlapcccmbhbaa.box_below w3 (.cells #[.int .i64 x.1.a, .int .i64 x.1.b, .int .i64 x.1.c, .int .i64 x.1.d, .int .i64 x.1.e, .int .i64 x.2] 27)
    have HB3 := Lib.hid (thenCall (thenCall HB1.out hb3) hx3)
    rcases hpi with ⟨rfl, rfl, -⟩ | ⟨rfl, h1, -, hc, hx, -⟩
    · have hself : eqH ((⟨0, 0, 0, 0, 0⟩, 0) : Hd) (⟨0, 0, 0, 0, 0⟩, 0) = true := eqH_self _
      clear hb3 hx3
      go_wp2_with fail
      go_ret
      exact ⟨by first | rfl | (rw [hself]; rfl), HB3.out⟩
    · have HPd := Lib.hid (pd_of h1 hc hx)
      have HL3 := Lib.hid (LkAt.new w3 x)
      have HKi3 := Lib.hid (HKi.out _ HB3.out x.1)
      obtain ⟨⟨xa, xb, xc, xd, xe⟩, xm⟩ := x
      have hn1 : decide (n < 1) = false := by simp; omega
      clear hb3 hx3 h1 hc hx HKi
      simp only at HL3 HB3 HKi3
      go_wp2_with fail
      refine HKi3.out.mono ?_
      rintro e4 w4 ⟨ys, hbk, A4, c4, rfl, hls4, hb4⟩
      have hkl : ys.length = cntL xs ⟨xa, xb, xc, xd, xe⟩ := hbk.stb.perm.length_eq
      have hnk : n ≤ (ys.length : Int) := by rw [hkl]; exact HPd.out.kids
      have HB4 := Lib.hid (thenCall HB3.out hb4)
      have hl4 := HL3.out.later hb4
      have HL4 := Lib.hid hl4
      have HBe4 := Lib.hid (HBe.out _ HB4.out ⟨xa, xb, xc, xd, xe⟩)
      obtain ⟨d0, d1, d2, d3, d4, d5, dlt⟩ := hl4
      simp only at d0 d1 d2 d3 d4 d5
      obtain ⟨ky, hky⟩ : ∃ ky, ys.length = ky := ⟨_, rfl⟩
      rw [hky] at hnk ⊢
      have hnk' : decide ((ky : Int) < n) = false := by simp; omega
      clear hbk hls4 hb4 hkl HBe hky hnk
      go_wp2_with fail
      refine HBe4.out.mono ?_
      rintro e5 w5 ⟨zs, hbk5, A5, c5, rfl, hls5, hb5⟩
      have hzm : ∀ y ∈ zs, reN (kn y.2) ≤ reN (kn xm) := fun y hy => HPd.out.bel y (hbk5.stb.perm.mem_iff.1 hy)
      have HZm := Lib.hid hzm
      have hzl : zs.length ≤ 30 := by
        have h1 := hbk5.stb.perm.length_eq
        have h2 := fit_len (fun p => belB p ⟨xa, xb, xc, xd, xe⟩) xs
        rw [HMm.out] at h2
        omega
      have HB5 := Lib.hid (thenCall HB4.out hb5)
      have HL5 := Lib.hid (HL4.out.later hb5)
      have HLs5 := Lib.hid hls5
      obtain ⟨lz, hlz⟩ : ∃ l, zs.length = l := ⟨_, rfl⟩
      have HLz := Lib.hid hlz
      rw [hlz] at hzl ⊢
      obtain ⟨rx, hrx⟩ : ∃ r, reN (kn xm) = r := ⟨_, rfl⟩
      have HRx := Lib.hid hrx
      clear hbk5 hb5 hzm hls5 hlz hrx d0 d1 d2 d3 d4 d5 dlt
      go_wp2_with fail
      go_loopw [41] (fun i wr => ∃ k : Nat, k ≤ lz ∧ i = .int .i64 (k : Nat) ∧ Below w5.heap.size w5 wr) (fun i _ => lz - (intOf i).toNat)
      case atStart => exact ⟨0, by omega, rfl, Below.refl _ _⟩
      case round =>
        obtain ⟨k, hk, rfl, hb⟩ := hrel
        have HB := Lib.hid hb
        clear hb
        by_cases hlt : k < lz
        · have i1 : (0 : Int) ≤ (k : Int) := by omega
          have i2 : (k : Int) < (lz : Int) := by omega
          have hkl : k < zs.length := by rw [HLz.out]; exact hlt
          obtain ⟨a, rfl, hh⟩ := (HLs5.out.below HB.out).here hkl
          obtain ⟨y, hy⟩ : ∃ y, zs[k] = y := ⟨_, rfl⟩
          rw [hy] at hh
          have hym : reN (kn y.2) ≤ rx := by rw [← HRx.out]; exact HZm.out y (by rw [← hy]; exact List.getElem_mem hkl)
          obtain ⟨c0, c1, c2, c3, c4', c5'⟩ := hh
          have HBx := Lib.hid (Go.Proofs.Ythjlapcccmbhbaa.box_below wr (.cells #[.int .i64 y.1.a, .int .i64 y.1.b, .int .i64 y.1.c, .int .i64 y.1.d, .int .i64 y.1.e, .int .i64 y.2] 27))
          have hlx := (HL5.out.later HB.out).later HBx.out
          have hly := LkAt.new wr y
          obtain ⟨ry, hry⟩ : ∃ r, reN (kn y.2) = r := ⟨_, rfl⟩
          rw [hry] at hym
          obtain ⟨⟨ya, yb, yc, yd, ye⟩, ym⟩ := y
          obtain ⟨p0, p1, p2, p3, p4, p5, plt⟩ := hly
          obtain ⟨q0, q1, q2, q3, q4, q5, qlt⟩ := hlx
          simp only at c0 c1 c2 c3 c4' c5' HBx p0 p1 p2 p3 p4 p5 q0 q1 q2 q3 q4 q5 hry
          have hym' : decide ((rx : Int) < (ry : Int)) = false := by simp; omega
          clear hy
          go_wp2_with fail
          obtain ⟨W1, hW1⟩ : ∃ W1, wr.alloc (.cells #[.int .i64 ya, .int .i64 yb, .int .i64 yc, .int .i64 yd, .int .i64 ye, .int .i64 ym] 27) = W1 := ⟨_, rfl⟩
          rw [hW1] at HBx p0 p1 p2 p3 p4 p5 plt q0 q1 q2 q3 q4 q5 qlt
          rw [hW1]
          have g1 : Pa.Gives W1 22 #[.int .i64 ym] (.int .i64 (ry : Nat)) := wgives fun w _ => by have := rre_any ym w; rw [hry] at this; exact this.mono fun _ _ h => h
          have g2 : Pa.Gives W1 22 #[.int .i64 xm] (.int .i64 (rx : Nat)) := wgives fun w _ => by have := rre_any xm w; rw [HRx.out] at this; exact this.mono fun _ _ h => h
          clear hW1 c0 c1 c2 c3 c4' c5' hry
          refine wp_region_later W1 (by kernel_rfl) (by kernel_rfl) (Below.refl _ _) ?_
          repeat (go_big_quiet_step ((go_at_call 22; exact Gives.later (by with_reducible assumption))))
          refine wpQuiet_nil ?_
          rintro w7 ⟨⟨_, hb7⟩, rfl⟩
          have HB7 := Lib.hid (thenCall (thenCall HB.out HBx.out) hb7)
          clear g1 g2 p0 p1 p2 p3 p4 p5 plt q0 q1 q2 q3 q4 q5 qlt hb7
          go_wp2_with fail
          go_roundw
          case rel => exact ⟨k + 1, by omega, by go_num, HB7.out⟩
          case measure => simp [intOf]; omega
        · obtain rfl : k = lz := by omega
          obtain ⟨u, hu⟩ : ∃ u, ofL xs ⟨xa, xb, xc, xd, xe⟩ = u := ⟨_, rfl⟩
          have hcov : covB (kn xm) (kn u) = true := by rw [← hu]; exact HPd.out.cov
          have hmore : reN (kn u) < rx := by rw [← hu, ← HRx.out]; exact HPd.out.more
          obtain ⟨ru, hru⟩ : ∃ r, reN (kn u) = r := ⟨_, rfl⟩
          rw [hru] at hmore
          have HU := Lib.hid hu
          have HRu := Lib.hid hru
          have HCov := Lib.hid hcov
          have hm' : decide ((ru : Int) < (rx : Int)) = true := by simp; omega
          obtain ⟨q0, q1, q2, q3, q4, q5, qlt⟩ := HL5.out.later HB.out
          simp only at q0 q1 q2 q3 q4 q5
          have gO : Pa.Gives wr 21 #[.slice A m c, .agg #[.int .i64 xa, .int .i64 xb, .int .i64 xc, .int .i64 xd, .int .i64 xe]] (.int .i64 u) := wgives fun w hb => by have := HOf.out w (thenCall (thenCall HB5.out HB.out) hb) ⟨xa, xb, xc, xd, xe⟩; rwa [HU.out] at this
          have gC : Pa.Gives wr 23 #[.int .i64 xm, .int .i64 u] (.bool true) := fun w' hb => by rw [← HCov.out]; exact rcov_any xm u wr w' hb
          have g1 : Pa.Gives wr 22 #[.int .i64 xm] (.int .i64 (rx : Nat)) := wgives fun w _ => by have := rre_any xm w; rw [HRx.out] at this; exact this.mono fun _ _ h => h
          have g2 : Pa.Gives wr 22 #[.int .i64 u] (.int .i64 (ru : Nat)) := wgives fun w _ => by have := rre_any u w; rw [HRu.out] at this; exact this.mono fun _ _ h => h
          clear hu hru hcov
          go_wp2_with fail
          refine wp_region_later wr (by kernel_rfl) (by kernel_rfl) (Below.refl _ _) ?_
          repeat (go_big_quiet_step (((first | go_at_call 21 | go_at_call 22 | go_at_call 23); exact Gives.later (by with_reducible assumption))))
          refine wpQuiet_nil ?_
          rintro w7 ⟨⟨_, hb7⟩, rfl⟩
          have HB7 := Lib.hid (thenCall (thenCall HB5.out HB.out) hb7)
          clear gO gC g1 g2 q0 q1 q2 q3 q4 q5 qlt hb7
          go_wp2_with fail
          go_ret
          exact ⟨rfl, HB7.out⟩
  · have HF := Lib.hid (fun w => few_any A xs.length c w)
    rw [decide_eq_false h30] at HF
    clear hr hf
    go_enter Try.func5, Try.ntmps5
    go_wp2_with fail
    refine (awake_any _).mono ?_
    rintro e1 w1 ⟨rfl, hb1⟩
    have HB1 := Lib.hid hb1
    clear hb1
    go_wp2_with fail
    refine (HF.out _).mono ?_
    rintro e2 w2 ⟨rfl, rfl⟩
    go_wp2_with fail
    go_ret
    exact ⟨rfl, HB1.out⟩
theorem picks_law (A : Option Addr) (m c : Nat) (xs : List Hd) (n : Int) (W : World) (h1 : xs.length = m) (h2 : Ls W A c xs) (h3 : ∀ x ∈ xs, FitP x.1 ∧ wf64 x.2) :
    Calls Try.prog 5 #[.slice A m c, .int .i64 n] W fun e w' => e = .returned (.bool true) ∧ Below W.heap.size W w' := by
  subst h1
  exact picks_walk h2 h3 n
end
end Go.Proofs.Ythjlapcccmbhbaa.Lk
