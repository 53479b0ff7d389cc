/- The walk of the law that slots play no part. -/
import Derived.Test.YthoicmbpjcgdpaaH2
import Derived.Deep.RegionHeld3
namespace Go.Proofs.Ythoicmbpjcgdpaa
open Go Go.RowKit Go.Shelf

theorem slots_long (m n : Int) (A : Option Addr) (L c : Nat) (w : World) (h : 40 < L) (hm : L ≤ maxLen) :
    Calls Try.prog 5 #[.int .i64 m, .int .i64 n, .slice A L c] w fun e w' => e = .returned (.bool true) ∧ Below w.heap.size w w' := by
  unfold maxLen at hm
  have h1 : (40 : Int) < (L : Int) := by omega
  set_option maxRecDepth 100000 in
  go_enter Try.func5, Try.ntmps5
  go_wp2_with fail
  refine (awake_any _).mono ?_
  rintro e w1 ⟨rfl, hb1⟩
  go_wp2_with fail
  go_ret
  exact ⟨rfl, hb1⟩
/-- two wheels with the same alarms -/
def Two (w W : World) (b1 b2 : Nat) (l : List Al) : Prop :=
  ∃ S1 S2 m1 m2, Wh W b1 S1 m1 ∧ m1.Perm l ∧ Wh W b2 S2 m2 ∧ m2.Perm l ∧ (∀ k, S1 k → ¬ S2 k) ∧ w.heap.size ≤ b1 ∧ w.heap.size ≤ b2 ∧ Below w.heap.size w W
theorem Two.pair {w W : World} {b1 b2 : Nat} {l : List Al} (h : Two w W b1 b2 l) (kd x y : Int) :
    Pair w (W.alloc (.cells #[.int .i64 kd, .int .i64 x, .int .i64 y] 33)) b1 b2 W.heap.size (· = W.heap.size) kd x y l l := by
  obtain ⟨S1, S2, m1, m2, h1, p1, h2, p2, hd, q1, q2, hb⟩ := h
  have hx := box_below W (.cells #[.int .i64 kd, .int .i64 x, .int .i64 y] 33)
  refine ⟨⟨S1, S2, m1, m2, h1.below hx, p1, h2.below hx, p2, hd, ?_⟩, q1, q2, ?_, rfl, ?_, ?_, ?_, hb.alloc hb.size _⟩
  · rintro k rfl
    exact ⟨fun q => Nat.lt_irrefl _ (h1.lt q).2, fun q => Nat.lt_irrefl _ (h2.lt q).2⟩
  · rintro k rfl; simp
  all_goals simp [go_sem]
theorem Pair.two {w W : World} {b1 b2 Bd : Nat} {K : Nat → Prop} {kd x y : Int} {l : List Al} (h : Pair w W b1 b2 Bd K kd x y l l) : Two w W b1 b2 l := by
  obtain ⟨S1, S2, m1, m2, h1, p1, h2, p2, hd, _⟩ := h.ex
  exact ⟨S1, S2, m1, m2, h1, p1, h2, p2, hd, h.w1, h.w2, h.bel⟩
theorem Two.below {w W W' : World} {b1 b2 : Nat} {l : List Al} (h : Two w W b1 b2 l) (hb : Below W.heap.size W W') : Two w W' b1 b2 l := by
  obtain ⟨S1, S2, m1, m2, h1, p1, h2, p2, hd, q1, q2, hb0⟩ := h
  exact ⟨S1, S2, m1, m2, h1.below hb, p1, h2.below hb, p2, hd, q1, q2, hb0.trans (hb.mono hb0.size)⟩
theorem Two.bel {w W : World} {b1 b2 : Nat} {l : List Al} (h : Two w W b1 b2 l) : Below w.heap.size w W := by
  obtain ⟨S1, S2, m1, m2, h1, p1, h2, p2, hd, q1, q2, hb⟩ := h
  exact hb
theorem drew_below (W : World) : Below W.heap.size W W.drew := ⟨rfl, rfl, rfl, Nat.le_refl _, fun _ _ => rfl⟩
theorem drewN_below (W : World) (k : Nat) : Below W.heap.size W (W.drewN k) := ⟨rfl, rfl, rfl, Nat.le_refl _, fun _ _ => rfl⟩
theorem Pair.deed {w W : World} {b1 b2 Bd : Nat} {K : Nat → Prop} {kd x y : Int} {l1 l2 : List Al} (h : Pair w W b1 b2 Bd K kd x y l1 l2) : W.cell? ⟨Bd, 1, none⟩ = some (.int .i64 x) ∧ W.cell? ⟨Bd, 2, none⟩ = some (.int .i64 y) := ⟨h.c1, h.c2⟩

theorem Two.swap {w W : World} {b1 b2 : Nat} {l : List Al} (h : Two w W b1 b2 l) : Two w W b2 b1 l := by
  obtain ⟨S1, S2, m1, m2, h1, p1, h2, p2, hd, q1, q2, hb⟩ := h
  exact ⟨S2, S1, m2, m1, h2, p2, h1, p1, fun k hk hk1 => hd k hk1 hk, q2, q1, hb⟩
def TwoAll (w W : World) (b1 b2 : Nat) (l : List Al) (e : Ending) (w' : World) : Prop := ∃ v, e = .returned v ∧ Row w' W.heap.size v (srt l) ∧ Two w w' b1 b2 l ∧ Below W.heap.size W w'
theorem two_all {w W : World} {b1 b2 : Nat} {l : List Al} (h : Two w W b1 b2 l) (hl : l.length ≤ 1000) : Calls Try.prog 16 #[wp b1] W (TwoAll w W b1 b2 l) := by
  have h0 := h
  obtain ⟨S1, S2, m1, m2, h1, p1, h2, p2, hd, q1, q2, hb⟩ := h
  refine (lawall_any (fun w' hb => (h1.below hb).seen) (by rw [p1.length_eq]; exact hl)).mono ?_
  rintro e w' ⟨v, rfl, hr, hb⟩
  exact ⟨v, rfl, by rw [← srt_congr p1]; exact hr, h0.below hb, hb⟩
theorem row_plus {W W' : World} {n₁ : Nat} {v : Value} {ys : List Al} {K : Nat → Prop} (h : Row W n₁ v ys) (hk : Keeps (Plus K v) W W') : Row W' n₁ v ys := h.keep fun g hg => hk.block g (.inr hg)
theorem row_later {W W' : World} {n₁ : Nat} {v : Value} {ys : List Al} (h : Row W n₁ v ys) (hb : Below W.heap.size W W') : Row W' n₁ v ys := h.keep fun g hg => hb.block g (h.lt g hg).2
set_option maxHeartbeats 8000000 in
set_option maxRecDepth 100000 in
theorem slots_short (m n : Int) (A : Option Addr) (L c : Nat) (w : World) (h : ¬ 40 < L) (hin : InD w A L) :
    Calls Try.prog 5 #[.int .i64 m, .int .i64 n, .slice A L c] w fun e w' => e = .returned (.bool true) ∧ Below w.heap.size w w' := by
  have I := Lib.hid hin
  clear hin
  have hL : ¬ (40 : Int) < (L : Int) := by omega
  go_enter Try.func5, Try.ntmps5
  go_wp2_with fail
  refine (awake_any _).mono ?_
  rintro e w1 ⟨rfl, hb1⟩
  go_wp2_with fail
  refine (fresh_new m w w1 hb1).mono ?_
  rintro e w2 ⟨rfl, _, hw2, hb2⟩
  have hb2' := hb1.trans (hb2.mono hb1.size)
  have hz1 := hb1.size
  have hz2 := hb2.size
  have HW2 := Lib.hid hw2
  have HB2 := Lib.hid hb2'
  clear hw2 hb2 hb2' hb1
  go_wp2_with fail
  refine (fresh_new n w w2 HB2.out).mono ?_
  rintro e w3 ⟨rfl, _, hw3, hb3⟩
  have HT : Hid (Two w w3 w1.heap.size w2.heap.size []) := ⟨_, _, _, _, HW2.out.below hb3, List.Perm.refl _, hw3, List.Perm.refl _, fun k h1 h2 => by have := (HW2.out.lt h1).2; omega, hz1, by omega, HB2.out.trans (hb3.mono HB2.out.size)⟩
  generalize w1.heap.size = b1 at HT ⊢
  generalize w2.heap.size = b2 at HT ⊢
  clear hw3 hb3 HW2 HB2
  go_wp2_with fail
  go_loopw [26] (fun t wr => ∃ (k : Nat) (l : List Al), k ≤ L ∧ t = .int .i64 k ∧ l.length ≤ k ∧ Ids l ∧ Two w wr b1 b2 l) (fun t _ => L - (intOf t).toNat)
  case atStart => exact ⟨0, [], by omega, rfl, by simp, Ids.nil, HT.out⟩
  case round =>
    obtain ⟨k, l, hk, rfl, hlk, hid, htw⟩ := hrel
    clear HT
    have HI := Lib.hid hid
    have HTw := Lib.hid htw
    clear hid htw
    by_cases hlt : k < L
    · obtain ⟨ad, kd, x, y, rfl, c0, c1, c2⟩ := I.out.at HTw.out.bel hlt
      have HP := Lib.hid (HTw.out.pair kd x y)
      have hl : l.length ≤ 1000 := by omega
      by_cases hk0 : kd = 0
      · subst hk0
        go_wp2_with fail
        have hp0 := HP.out.below (drew_below _)
        have hp1 := HP.out
        clear c0 c1 c2
        generalize wr.alloc (.cells #[.int .i64 0, .int .i64 x, .int .i64 y] 33) = W0 at hp0 hp1 HP ⊢
        generalize wr.heap.size = Bd at hp0 hp1 HP ⊢
        obtain ⟨d1, d2⟩ := hp1.deed
        go_region_held3 (fun w' => w'.cell? ⟨Bd, 1, none⟩ = some (.int .i64 x) ∧ w'.cell? ⟨Bd, 2, none⟩ = some (.int .i64 y)) (first | exact Pair.deed (by assumption)) (first | (go_at_call 9; ((with_reducible refine (pair_set (x, y) (by assumption) HI.out hl).mono ?_); rintro e w1 ⟨rfl, hq1, _⟩)) | (go_at_call 9; ((with_reducible refine (pair_set (x, y) (Pair.swap (by assumption)) HI.out hl).mono ?_); rintro e w2 ⟨rfl, hq2, _⟩)))
        have HQ := Lib.hid hq2.two.swap
        have HI2 := Lib.hid (HI.out.set (a := (x, y)))
        have hl1 : (setL (x, y) l).length ≤ k + 1 := Nat.le_trans (setL_length _ _) (by omega)
        have hl2 : (setL (x, y) l).length ≤ 1000 := by omega
        clear hp0 hp1 HP d1 d2 hq1 hq2
        go_wp2_with fail
        refine (two_all HQ.out hl2).mono ?_
        rintro e w3 ⟨v1, rfl, hr1, ht3, hb3⟩
        have HR1 := Lib.hid hr1
        have HT3 := Lib.hid ht3
        clear hr1 ht3 hb3 HQ
        go_wp2_with fail
        refine (two_all HT3.out.swap hl2).mono ?_
        rintro e w4 ⟨v2, rfl, hr2, ht4, hb4⟩
        have HR1' := Lib.hid (row_later HR1.out hb4)
        have HR2 := Lib.hid hr2
        have HT4 := Lib.hid ht4.swap
        clear hr2 ht4 hb4 HR1 HT3
        go_wp2_with fail
        refine (same_any HR1'.out.reads HR2.out.reads (by rw [srt_length]; exact hl2)).mono ?_
        rintro e w5 ⟨rfl, q, rfl⟩
        go_wp2_with fail
        go_roundw
        case rel => exact ⟨k + 1, _, by omega, by go_num, hl1, HI2.out, HT4.out.below (drewN_below _ _)⟩
        case measure => simp [intOf]; omega
      · have hk0b : (kd == 0) = false := by simpa using hk0
        clear hk0
        by_cases hk1 : kd = 1
        · subst hk1
          go_wp2_with fail
          have hp0 := HP.out.below (drew_below _)
          have hp1 := HP.out
          clear c0 c1 c2
          generalize wr.alloc (.cells #[.int .i64 1, .int .i64 x, .int .i64 y] 33) = W0 at hp0 hp1 HP ⊢
          generalize wr.heap.size = Bd at hp0 hp1 HP ⊢
          obtain ⟨d1, d2⟩ := hp1.deed
          go_region_held3 (fun w' => w'.cell? ⟨Bd, 1, none⟩ = some (.int .i64 x) ∧ w'.cell? ⟨Bd, 2, none⟩ = some (.int .i64 y)) (first | exact Pair.deed (by assumption)) (first | (go_at_call 11; ((with_reducible refine (pair_stop x (by assumption) HI.out).mono ?_); rintro e w1 ⟨rfl, hq1, _⟩)) | (go_at_call 11; ((with_reducible refine (pair_stop x (Pair.swap (by assumption)) HI.out).mono ?_); rintro e w2 ⟨rfl, hq2, _⟩)))
          have HQ := Lib.hid hq2.two.swap
          have HI2 := Lib.hid (HI.out.filter (fun z => !(z.1 == x)))
          have hl1 : (l.filter (fun z => !(z.1 == x))).length ≤ k + 1 := Nat.le_trans (List.length_filter_le _ _) (by omega)
          have hl2 : (l.filter (fun z => !(z.1 == x))).length ≤ 1000 := by omega
          clear hp0 hp1 HP d1 d2 hq1 hq2
          go_wp2_with fail
          refine (two_all HQ.out hl2).mono ?_
          rintro e w3 ⟨v1, rfl, hr1, ht3, hb3⟩
          have HR1 := Lib.hid hr1
          have HT3 := Lib.hid ht3
          clear hr1 ht3 hb3 HQ
          go_wp2_with fail
          refine (two_all HT3.out.swap hl2).mono ?_
          rintro e w4 ⟨v2, rfl, hr2, ht4, hb4⟩
          have HR1' := Lib.hid (row_later HR1.out hb4)
          have HR2 := Lib.hid hr2
          have HT4 := Lib.hid ht4.swap
          clear hr2 ht4 hb4 HR1 HT3
          go_wp2_with fail
          refine (same_any HR1'.out.reads HR2.out.reads (by rw [srt_length]; exact hl2)).mono ?_
          rintro e w5 ⟨rfl, q, rfl⟩
          go_wp2_with fail
          go_roundw
          case rel => exact ⟨k + 1, _, by omega, by go_num, hl1, HI2.out, HT4.out.below (drewN_below _ _)⟩
          case measure => simp [intOf]; omega
        · have hk1b : (kd == 1) = false := by simpa using hk1
          clear hk1
          have hdl : (dueL y (srt l)).length ≤ 1000 := Nat.le_trans (List.takeWhile_sublist _).length_le (by rw [srt_length]; exact hl)
          go_wp2_with fail
          have hp0 := HP.out.below (drew_below _)
          have hp1 := HP.out
          clear c0 c1 c2
          generalize wr.alloc (.cells #[.int .i64 kd, .int .i64 x, .int .i64 y] 33) = W0 at hp0 hp1 HP ⊢
          generalize wr.heap.size = Bd at hp0 hp1 HP ⊢
          obtain ⟨d1, d2⟩ := hp1.deed
          go_region_held3 (fun w' => w'.cell? ⟨Bd, 1, none⟩ = some (.int .i64 x) ∧ w'.cell? ⟨Bd, 2, none⟩ = some (.int .i64 y)) (first | exact Pair.deed (by assumption)) (first | (go_at_call 14; ((with_reducible refine (pair_due y (by assumption) hl).mono ?_); rintro e w1 ⟨v1, rfl, hr1, hq1, hk1⟩)) | (go_at_call 14; ((with_reducible refine (pair_due y (Pair.swap (by assumption)) hl).mono ?_); rintro e w2 ⟨v2, rfl, hr2, hq2, hk2⟩)) | (go_at_call 13; ((with_reducible refine (same_any (row_plus hr1 hk2).reads hr2.reads hdl).mono ?_); rintro e w3 ⟨rfl, kq, rfl⟩; have hq3 := hq2.below (drewN_below w2 kq))))
          have HQ := Lib.hid hq3.two.swap
          have HI2 := Lib.hid (HI.out.filter (fun z => !decide (z.2 ≤ y)))
          have hl1 : (l.filter (fun z => !decide (z.2 ≤ y))).length ≤ k + 1 := Nat.le_trans (List.length_filter_le _ _) (by omega)
          have hl2 : (l.filter (fun z => !decide (z.2 ≤ y))).length ≤ 1000 := by omega
          clear hp0 hp1 HP d1 d2 hq1 hq2 hq3 hr1 hr2 hk1 hk2
          go_wp2_with fail
          refine (two_all HQ.out hl2).mono ?_
          rintro e w3 ⟨v1, rfl, hr1, ht3, hb3⟩
          have HR1 := Lib.hid hr1
          have HT3 := Lib.hid ht3
          clear hr1 ht3 hb3 HQ
          go_wp2_with fail
          refine (two_all HT3.out.swap hl2).mono ?_
          rintro e w4 ⟨v2, rfl, hr2, ht4, hb4⟩
          have HR1' := Lib.hid (row_later HR1.out hb4)
          have HR2 := Lib.hid hr2
          have HT4 := Lib.hid ht4.swap
          clear hr2 ht4 hb4 HR1 HT3
          go_wp2_with fail
          refine (same_any HR1'.out.reads HR2.out.reads (by rw [srt_length]; exact hl2)).mono ?_
          rintro e w5 ⟨rfl, q, rfl⟩
          go_wp2_with fail
          go_roundw
          case rel => exact ⟨k + 1, _, by omega, by go_num, hl1, HI2.out, HT4.out.below (drewN_below _ _)⟩
          case measure => simp [intOf]; omega
    · obtain rfl : k = L := by omega
      have hbe := HTw.out.bel
      clear HTw HI
      go_wp2_with fail
      refine (at_none 1 _).mono ?_
      rintro e w4 ⟨rfl, q4⟩
      have e4 := hbe.trans (q4.mono hbe.size)
      clear q4
      go_wp2_with fail
      refine (set_none (0, 0) _).mono ?_
      rintro e w5 ⟨rfl, q5⟩
      have e5 := e4.trans (q5.mono e4.size)
      clear q5
      go_wp2_with fail
      refine (stop_none 0 _).mono ?_
      rintro e w6 ⟨rfl, q6⟩
      have e6 := e5.trans (q6.mono e5.size)
      clear q6
      go_wp2_with fail
      refine (due_none 9 _).mono ?_
      rintro e w7 ⟨rfl, q7⟩
      have e7 := e6.trans (q7.mono e6.size)
      clear q7
      go_wp2_with fail
      refine (len_none _).mono ?_
      rintro e w8 ⟨rfl, q8⟩
      have e8 := e7.trans (q8.mono e7.size)
      clear q8
      go_wp2_with fail
      refine (all_none _).mono ?_
      rintro e w9 ⟨v, rfl, hr, q9⟩
      have e9 := e8.trans (q9.mono e8.size)
      obtain ⟨A9, c9, rfl⟩ := row_slice hr
      clear q9 hr
      go_wp2_with fail
      go_ret
      exact ⟨rfl, e9⟩
theorem slots_walk (m n : Int) (A : Option Addr) (L c : Nat) (w : World) (hm : L ≤ maxLen) (hin : InD w A L) :
    Calls Try.prog 5 #[.int .i64 m, .int .i64 n, .slice A L c] w fun e w' => e = .returned (.bool true) ∧ Below w.heap.size w w' := by
  by_cases h : 40 < L
  · exact slots_long m n A L c w h hm
  · exact slots_short m n A L c w h hin
end Go.Proofs.Ythoicmbpjcgdpaa
