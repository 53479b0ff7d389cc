/- The walk of the law GroupLess: whatever holds and numbers came in, it returns true and changes nothing that was there. -/
import Derived.Test.YtfapgecpndlibaaDoorB1
namespace Go.Proofs.YtfapgecpndlibaaDoor
open Go Go.RowKit Go.Shelf

theorem rmay_g {m : Int} {b : Bool} (w : World) (h : decide (0 ≤ m ∧ m ≤ 6) = b) : Gives w 8 #[.int .i64 m] (.bool b) := fun w' hb => by
  cases b
  · exact acc_same hb (rmay_no m w' (by simpa using h))
  · have := of_decide_eq_true h
    exact acc_same hb (rmay_yes m w' this.1 this.2)
set_option maxRecDepth 100000 in
set_option maxHeartbeats 4000000 in
theorem less_walk (A : Option Addr) (n c : Nat) (xs : List Hd) (tx m away : Int) (W : World) (ht : TabG W) (hn : xs.length = n) (hr : Ls W A c xs) (_ : ∀ x ∈ xs, wf64 x.1) (hm : n ≤ maxLen) :
    Calls Tryd.prog 5 #[.slice A n c, .int .i64 tx, .int .i64 m, .int .i64 away] W fun e w' => e = .returned (.bool true) ∧ Below W.heap.size W w' := by
  have hmx : n ≤ 9223372036854775807 := by unfold maxLen at hm; omega
  have qa := Lib.hid (awake_g ht)
  have HN := Lib.hid hn
  have HR := Lib.hid hr
  have HT := Lib.hid ht
  have HB0 := Lib.hid (Below.refl W.heap.size W)
  by_cases h30 : n ≤ 30
  · have d30 : decide (n ≤ 30) = true := by simpa using h30
    have HD := Lib.hid (fun (w1 : World) (hb : Below W.heap.size W w1) => without_any (hr.below hb) (by omega) away)
    rw [hn] at HD
    clear hn hr hm ht
    go_enter Tryd.func5, Tryd.ntmps5
    go_wp2_with fail
    refine Gives.use qa.out HB0.out ?_
    intro w1 hb1
    have HF1 := Lib.hid (few_any A n c w1)
    rw [d30] at HF1
    have HD1 := Lib.hid (HD.out _ hb1)
    have HB1 := Lib.hid hb1
    clear hb1
    go_wp2_with (go_at_call 7; ((with_reducible refine HF1.out.mono ?_); rintro e w2 ⟨rfl, rfl⟩))
    refine HD1.out.mono ?_
    rintro e w2 ⟨A1, c1, rfl, hls, hb2⟩
    have hyl := wout_len away xs
    rw [HN.out] at hyl
    have HB2 := Lib.hid (HB1.out.trans (hb2.mono HB1.out.size))
    obtain ⟨ys, hys⟩ : ∃ ys, wout away xs = ys := ⟨_, rfl⟩
    have HYS := Lib.hid hys
    rw [hys] at hls hyl ⊢
    have HL := Lib.hid hls
    obtain ⟨k, hk⟩ : ∃ k, ys.length = k := ⟨_, rfl⟩
    have HKL := Lib.hid hk
    rw [hk] at hyl ⊢
    clear hb2 hls hys hk HF1 HD1 HD
    obtain ⟨G, hG⟩ : ∃ G, grpN (mods xs) = G := ⟨_, rfl⟩
    have HG := Lib.hid hG
    have kG : G ≤ 6 := hG ▸ grpN_le _
    clear hG
    go_wp2_with fail
    go_loopw [22] (fun t wr => ∃ j : Nat, j ≤ n ∧ t = .int .i64 j ∧ Below w2.heap.size w2 wr) (fun t _ => n - (intOf t).toNat)
    case atStart => exact ⟨0, by omega, rfl, Below.refl _ _⟩
    case round =>
      obtain ⟨j, hj, rfl, hb⟩ := hrel
      have HB3 := Lib.hid (HB2.out.trans (hb.mono HB2.out.size))
      by_cases hlt : j < n
      · have hlt' : j < xs.length := by rw [HN.out]; exact hlt
        obtain ⟨a, rfl, c0, c1⟩ := (HR.out.below HB3.out).here hlt'
        have hcv := grp_covers (List.getElem_mem hlt')
        generalize xs[j]'hlt' = x at c0 c1 hcv
        obtain ⟨t, md⟩ := x
        simp only at c0 c1 hcv
        have hx := box_below wr (.cells #[.int .i64 t, .int .i64 md] 28)
        have HB4 := Lib.hid (HB3.out.trans (hx.mono HB3.out.size))
        have HB5 := Lib.hid (hb.trans (hx.mono hb.size))
        rw [HG.out] at hcv
        have HCV := Lib.hid hcv
        clear hcv hb hx hlt'
        go_wp2_with fail
        generalize hW1 : wr.alloc (.cells #[.int .i64 t, .int .i64 md] 28) = W1 at *
        have e1 : W1.cell? ⟨wr.heap.size, 1, none⟩ = some (.int .i64 md) := by rw [← hW1]; simp [go_sem]
        have hlt1 := cell_lt e1
        generalize wr.heap.size = Ba at *
        clear hW1 c0 c1
        have gM : Gives W1 9 #[.slice (some a) n c] (.int .i64 (G : Nat)) := fun w' hb => by
          have := acc hb (mode_any (HR.out.below (HB4.out.trans (hb.mono HB4.out.size))) (by have := HN.out; omega))
          rw [HN.out, HG.out] at this
          exact this
        have gC : Gives W1 23 #[.int .i64 (G : Nat), .int .i64 md] (.bool true) := rcov_g W1 (by rw [kn_nat kG]; exact HCV.out)
        obtain ⟨b, hb0⟩ : ∃ b, decide (0 ≤ md ∧ md ≤ 6) = b := ⟨_, rfl⟩
        have gB : Gives W1 8 #[.int .i64 md] (.bool b) := rmay_g W1 hb0
        clear hb0
        cases b
        all_goals
          refine wp_region_later W1 (by kernel_rfl) (by kernel_rfl) (Below.refl _ _) ?_
          repeat (go_big_quiet_step (((first | go_at_call 8 | go_at_call 9 | go_at_call 23); exact Gives.later (by with_reducible assumption))))
          refine wpQuiet_nil ?_
          intro w5 hw5
          have HB6 := Lib.hid (HB5.out.trans ((in_later hw5).mono HB5.out.size))
          clear hw5 gM gC gB e1
          go_wp2_with fail
          go_roundw
          case rel => exact ⟨j + 1, by omega, by go_num, HB6.out⟩
          case measure => simp [intOf]; omega
      · obtain rfl : j = n := by omega
        obtain ⟨g, hg⟩ : ∃ g, goesB tx m xs = g := ⟨_, rfl⟩
        obtain ⟨g2, hg2⟩ : ∃ g, goesB tx m ys = g := ⟨_, rfl⟩
        obtain ⟨G2, hG2⟩ : ∃ G, grpN (mods ys) = G := ⟨_, rfl⟩
        have kG2 : G2 ≤ 6 := hG2 ▸ grpN_le _
        have hgg : g = true → g2 = true := fun h => by rw [← hg2, ← HYS.out]; exact wout_goes (by rw [hg, h])
        have hcc : covB G G2 = true := by rw [← HG.out, ← hG2, ← HYS.out]; exact grp_less _ _
        have hW3 := HT.out.later HB3.out
        have hx3 := HR.out.below HB3.out
        have hy3 := HL.out.below hb
        have hyk := HKL.out
        have hnk := HN.out
        have p1 : Gives wr 13 #[.slice A j c, .int .i64 tx, .int .i64 m] (.bool g) := fun w' hb => by
          have := acc hb (goes_any (hW3.later hb) (hx3.below hb) (by omega) tx m)
          rw [hnk, hg] at this
          exact this
        have p2 : Gives wr 13 #[.slice A1 k c1, .int .i64 tx, .int .i64 m] (.bool g2) := fun w' hb => by
          have := acc hb (goes_any (hW3.later hb) (hy3.below hb) (by omega) tx m)
          rw [hyk, hg2] at this
          exact this
        have p3 : Gives wr 9 #[.slice A j c] (.int .i64 (G : Nat)) := fun w' hb => by
          have := acc hb (mode_any (hx3.below hb) (by omega))
          rw [hnk, HG.out] at this
          exact this
        have p4 : Gives wr 9 #[.slice A1 k c1] (.int .i64 (G2 : Nat)) := fun w' hb => by
          have := acc hb (mode_any (hy3.below hb) (by omega))
          rw [hyk, hG2] at this
          exact this
        have p5 : Gives wr 23 #[.int .i64 (G : Nat), .int .i64 (G2 : Nat)] (.bool true) := rcov_g wr (by rw [kn_nat kG, kn_nat kG2]; exact hcc)
        have p6 : Gives wr 11 #[.slice A1 k c1, .int .i64 away] (.int .i64 0) := fun w' hb => by
          have := acc hb (modeOf_any (hy3.below hb) (by omega) away)
          rw [hyk, ← HYS.out, wout_fst] at this
          exact this
        have hbr : Below wr.heap.size wr wr := Below.refl _ _
        have HGG := Lib.hid hgg
        clear hg hg2 hG2 hgg hcc hW3 hx3 hy3 hyk hnk hb
        cases g
        · go_wp2_with ((first | go_at_call 13 | go_at_call 9 | go_at_call 23 | go_at_call 11); refine Gives.use (w0 := wr) (by with_reducible assumption) (by assumption) ?_; intro w6 hb6)
          have HB7 := Lib.hid (HB3.out.trans (hb6.mono HB3.out.size))
          go_ret
          exact ⟨rfl, HB7.out⟩
        · obtain rfl : g2 = true := HGG.out rfl
          go_wp2_with ((first | go_at_call 13 | go_at_call 9 | go_at_call 23 | go_at_call 11); refine Gives.use (w0 := wr) (by with_reducible assumption) (by assumption) ?_; intro w6 hb6)
          have HB7 := Lib.hid (HB3.out.trans (hb6.mono HB3.out.size))
          go_ret
          exact ⟨rfl, HB7.out⟩
  · have d30 : decide (n ≤ 30) = false := by simpa using h30
    clear hn hr hm ht
    go_enter Tryd.func5, Tryd.ntmps5
    go_wp2_with fail
    refine Gives.use qa.out HB0.out ?_
    intro w1 hb1
    have HF1 := Lib.hid (few_any A n c w1)
    rw [d30] at HF1
    go_wp2_with (go_at_call 7; ((with_reducible refine HF1.out.mono ?_); rintro e w2 ⟨rfl, rfl⟩))
    go_ret
    exact ⟨rfl, hb1⟩
end Go.Proofs.YtfapgecpndlibaaDoor
