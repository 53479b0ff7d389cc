/- A latch is taken, and given. -/
import Derived.Test.YtmaiogaeibmpnaaA3
namespace Go.Proofs.Ytmaiogaeibmpnaa
open Go Go.RowKit

theorem fitL_mem {p : Nat → Bool} {N k : Nat} : k ∈ fitL p N ↔ k < N ∧ p k = true := by
  unfold fitL
  rw [List.mem_filter, List.mem_range]
theorem fitL_sorted (p : Nat → Bool) (N : Nat) : (fitL p N).Pairwise (· < ·) := List.Pairwise.filter _ List.pairwise_lt_range
theorem held_mem {N k : Nat} {wh : Nat → Int} {who : Int} : k ∈ heldL N wh who ↔ k < N ∧ 0 ≤ wh k ∧ wh k = who := by
  unfold heldL
  rw [fitL_mem, fit_yes]
theorem fit_no {y x : Int} (h : ¬ x = y) : fit true y x = false := by
  cases e : fit true y x
  · rfl
  · exact absurd (fit_yes.1 e).2 h
theorem held_neg {N : Nat} {wh : Nat → Int} {who : Int} (h : who < 0) : heldL N wh who = [] := by
  apply List.eq_nil_iff_forall_not_mem.2
  intro k hk
  have := held_mem.1 hk
  omega
/-- one has a greater one -/
def rankB (N : Nat) (wh : Nat → Int) (who : Int) (i : Nat) : Bool := (heldL N wh who).any fun k => decide (i < k)
theorem rank_last {N m i : Nat} {wh : Nat → Int} {who : Int} (hm : (heldL N wh who).length = m + 1) (hl : m < (heldL N wh who).length) : rankB N wh who i = decide (i < (heldL N wh who)[m]) := by
  have hs : (heldL N wh who).Pairwise (· < ·) := fitL_sorted _ _
  unfold rankB
  generalize heldL N wh who = l at *
  rw [Bool.eq_iff_iff, List.any_eq_true, decide_eq_true_iff]
  constructor
  · rintro ⟨k, hk, hik⟩
    obtain ⟨j, hj, rfl⟩ := List.getElem_of_mem hk
    simp at hik
    by_cases e : j = m
    · subst e; exact hik
    · have := List.pairwise_iff_getElem.1 hs j m hj hl (by omega)
      omega
  · intro h
    exact ⟨_, List.getElem_mem hl, by simpa using h⟩
theorem rank_none {N i : Nat} {wh : Nat → Int} {who : Int} (hm : (heldL N wh who).length = 0) : rankB N wh who i = false := by
  unfold rankB
  rw [List.length_eq_zero_iff.1 hm]
  rfl
/-- what Take answers, and what it leaves -/
def takeE (N : Nat) (wh : Nat → Int) (who i : Int) : Int :=
  if mayB N who i = false then 1 else if wh i.toNat = who then 3 else if rankB N wh who i.toNat = true then 30 else if 0 ≤ wh i.toNat then 31 else 0
def takeW (N : Nat) (wh : Nat → Int) (who i : Int) : Nat → Int := if takeE N wh who i = 0 then upd wh i.toNat who else wh
/-- what Give answers, and what it leaves -/
def giveE (N : Nat) (wh : Nat → Int) (who i : Int) : Int :=
  if mayB N who i = false then 1 else if wh i.toNat = who then 0 else 2
def giveW (N : Nat) (wh : Nat → Int) (who i : Int) : Nat → Int := if giveE N wh who i = 0 then upd wh i.toNat (-1) else wh
theorem may_yes {N : Nat} {who i : Int} (h : mayB N who i = true) : 0 ≤ who ∧ ∃ k : Nat, i = k ∧ k < N := by
  unfold mayB at h
  rw [Bool.and_eq_true] at h
  exact ⟨by simpa using h.1, is_yes h.2⟩
theorem may_is {N k : Nat} {who : Int} (h : 0 ≤ who) (hk : k < N) : mayB N who (k : Int) = true := by
  unfold mayB
  rw [is_is hk, decide_eq_true h]; rfl
theorem in_later {W w : World} (h : ∃ x : Later W, w = x.w) : Below W.heap.size W w := by
  obtain ⟨x, rfl⟩ := h
  exact x.h
theorem drew1_below (w : World) : Below w.heap.size w w.drew := ⟨rfl, rfl, rfl, Nat.le_refl _, fun _ _ => rfl⟩
section
variable {W W' : World} {b g N : Nat} {wh : Nat → Int}
/-- what a call leaves -/
def Did (W : World) (b g N : Nat) (x : Int) (wh : Nat → Int) (e : Ending) (w' : World) : Prop := e = .returned (.int .i64 x) ∧ Lat w' b g N wh ∧ OnlyS (· = g) W w'
set_option maxHeartbeats 1000000 in
theorem Lat.give (h : Lat W b g N wh) (who i : Int) : Calls Try.prog 11 #[wp b, .int .i64 who, .int .i64 i] W (Did W b g N (giveE N wh who i) (giveW N wh who i)) := by
  have HM := Lib.hid (h.may who i)
  cases hm : mayB N who i
  · have e : giveE N wh who i = 1 := by unfold giveE; rw [if_pos hm]
    have e2 : giveW N wh who i = wh := by unfold giveW; rw [e]; rfl
    rw [e, e2]
    have H := Lib.hid h
    rw [hm] at HM
    clear h hm e e2
    go_enter Try.func11, Try.ntmps11
    go_wp2_with (go_at_call 19; ((with_reducible refine HM.out.mono ?_); rintro e w' ⟨rfl, rfl⟩))
    go_ret
    exact ⟨rfl, H.out, OnlyS.refl _ _⟩
  · obtain ⟨hw, k, rfl, hk⟩ := may_yes hm
    have hbox := box_below W (.cells #[.bool true, .int .i64 who] 49)
    have H1 := Lib.hid (h.below hbox)
    have q0 := H1.out.c0
    have q1 := H1.out.r0 k hk
    have q2 := H1.out.r1 k hk
    have hgl := H1.out.gl
    have hbl := H1.out.lt
    have hnb := h.nb
    have HBox := Lib.hid hbox
    rw [hm] at HM
    have t0 : (W.alloc (.cells #[.bool true, .int .i64 who] 49)).cell? ⟨W.heap.size, 0, none⟩ = some (.bool true) := by simp [go_sem]
    have t1 : (W.alloc (.cells #[.bool true, .int .i64 who] 49)).cell? ⟨W.heap.size, 1, none⟩ = some (.int .i64 who) := by simp [go_sem]
    have tl : W.heap.size < (W.alloc (.cells #[.bool true, .int .i64 who] 49)).heap.size := by simp
    by_cases hx : wh k = who
    · have e : giveE N wh who (k : Int) = 0 := by unfold giveE; rw [if_neg (by rw [hm]; simp), if_pos (by rw [Int.toNat_natCast]; exact hx)]
      have e2 : giveW N wh who (k : Int) = upd wh k (-1) := by unfold giveW; rw [e, if_pos rfl, Int.toNat_natCast]
      rw [e, e2]
      have gh := has_g (W := W.alloc (.cells #[.bool true, .int .i64 who] 49)) (fit_yes.2 ⟨by rw [hx]; exact hw, hx⟩)
      clear h hm hx e e2
      generalize fl (wh k) = z0 at q1 gh
      generalize nm (wh k) = z1 at q2 gh
      go_enter Try.func11, Try.ntmps11
      go_wp2_with (go_at_call 19; ((with_reducible refine HM.out.mono ?_); rintro e w' ⟨rfl, rfl⟩))
      generalize W.alloc (.cells #[.bool true, .int .i64 who] 49) = W1 at *
      refine wp_region_later W1 (by kernel_rfl) (by kernel_rfl) (Below.refl _ _) ?_
      repeat (go_big_quiet_step ((go_at_call 20; exact Gives.later (by with_reducible assumption))))
      refine wpQuiet_nil ?_
      intro w2 hw2
      have hb2 := in_later hw2
      clear hw2
      have H2 := H1.out.below hb2
      have q0 := H2.c0
      have q1 := H2.r0 k hk
      have q2 := H2.r1 k hk
      have f0 := H2.fz (k * 2)
      have f1 := H2.fz (k * 2 + 1)
      have HE := Lib.hid (H2.set k (x := -1) (by omega) rfl rfl)
      have HO := Lib.hid (((OnlyS.of_below (S := (· = g)) (HBox.out.trans (hb2.mono HBox.out.size))).setIn g (k * 2) (.bool (fl (-1))) (.inl rfl)).setIn g (k * 2 + 1) (.int .i64 (nm (-1))) (.inl rfl))
      clear H1 H2 hb2 HM
      go_wp2
      go_ret
      exact ⟨rfl, HE.out, HO.out⟩
    · have e : giveE N wh who (k : Int) = 2 := by unfold giveE; rw [if_neg (by rw [hm]; simp), if_neg (by rw [Int.toNat_natCast]; exact hx)]
      have e2 : giveW N wh who (k : Int) = wh := by unfold giveW; rw [e]; rfl
      rw [e, e2]
      have gh := has_g (W := W.alloc (.cells #[.bool true, .int .i64 who] 49)) (fit_no hx)
      clear h hm hx e e2
      generalize fl (wh k) = z0 at q1 gh
      generalize nm (wh k) = z1 at q2 gh
      go_enter Try.func11, Try.ntmps11
      go_wp2_with (go_at_call 19; ((with_reducible refine HM.out.mono ?_); rintro e w' ⟨rfl, rfl⟩))
      generalize W.alloc (.cells #[.bool true, .int .i64 who] 49) = W1 at *
      refine wp_region_later W1 (by kernel_rfl) (by kernel_rfl) (Below.refl _ _) ?_
      repeat (go_big_quiet_step ((go_at_call 20; exact Gives.later (by with_reducible assumption))))
      refine wpQuiet_nil ?_
      intro w2 hw2
      have hb2 := in_later hw2
      clear hw2
      have H2 := Lib.hid (H1.out.below hb2)
      have HO := Lib.hid (OnlyS.of_below (S := (· = g)) (HBox.out.trans (hb2.mono HBox.out.size)))
      clear H1 hb2 HM
      go_wp2
      go_ret
      exact ⟨rfl, H2.out, HO.out⟩
set_option maxHeartbeats 2000000 in
theorem Lat.take (h : Lat W b g N wh) (who i : Int) : Calls Try.prog 9 #[wp b, .int .i64 who, .int .i64 i] W (Did W b g N (takeE N wh who i) (takeW N wh who i)) := by
  have HM := Lib.hid (h.may who i)
  cases hm : mayB N who i
  · have e : takeE N wh who i = 1 := by unfold takeE; rw [if_pos hm]
    have e2 : takeW N wh who i = wh := by unfold takeW; rw [e]; rfl
    rw [e, e2]
    have H := Lib.hid h
    rw [hm] at HM
    clear h hm e e2
    go_enter Try.func9, Try.ntmps9
    go_wp2_with (go_at_call 19; ((with_reducible refine HM.out.mono ?_); rintro e w' ⟨rfl, rfl⟩))
    go_ret
    exact ⟨rfl, H.out, OnlyS.refl _ _⟩
  · obtain ⟨hw, k, rfl, hk⟩ := may_yes hm
    have hbox := box_below W (.cells #[.bool true, .int .i64 who] 49)
    have HH := Lib.hid ((h.below hbox).held who)
    have HBox := Lib.hid hbox
    have H := Lib.hid h
    have hnb := h.nb
    have HEa := Lib.hid (show takeE N wh who (k : Int) = if wh k = who then 3 else if rankB N wh who k = true then 30 else if 0 ≤ wh k then 31 else 0 by unfold takeE; rw [if_neg (by rw [hm]; simp), Int.toNat_natCast])
    have HWa := Lib.hid (show takeW N wh who (k : Int) = if takeE N wh who (k : Int) = 0 then upd wh k who else wh by unfold takeW; rw [Int.toNat_natCast])
    rw [hm] at HM
    have t0 : (W.alloc (.cells #[.bool true, .int .i64 who] 49)).cell? ⟨W.heap.size, 0, none⟩ = some (.bool true) := by simp [go_sem]
    have t1 : (W.alloc (.cells #[.bool true, .int .i64 who] 49)).cell? ⟨W.heap.size, 1, none⟩ = some (.int .i64 who) := by simp [go_sem]
    have tl : W.heap.size < (W.alloc (.cells #[.bool true, .int .i64 who] 49)).heap.size := by simp
    generalize takeE N wh who (k : Int) = E at *
    generalize takeW N wh who (k : Int) = WH at *
    clear h hm hbox
    go_enter Try.func9, Try.ntmps9
    go_wp2_with (go_at_call 19; ((with_reducible refine HM.out.mono ?_); rintro e w' ⟨rfl, rfl⟩))
    refine HH.out.mono ?_
    rintro e w1 ⟨A, c, rfl, hd, hb⟩
    have T0 := Lib.hid ((hb.cell (p := ⟨W.heap.size, 0, none⟩) tl).trans t0)
    have T1 := Lib.hid ((hb.cell (p := ⟨W.heap.size, 1, none⟩) tl).trans t1)
    have TL := Lib.hid (Nat.lt_of_lt_of_le tl hb.size)
    have hb1 := HBox.out.trans (hb.mono HBox.out.size)
    have HB1 := Lib.hid hb1
    have H1 := Lib.hid (H.out.below hb1)
    have HD := Lib.hid (hd.weak HBox.out.size)
    have hml : (heldL N wh who).length ≤ N := fitL_len _ _
    obtain ⟨m, hmm⟩ : ∃ m, (heldL N wh who).length = m := ⟨_, rfl⟩
    have HMm := Lib.hid hmm
    rw [hmm] at hml ⊢
    clear t0 t1 tl hb hb1 hd HBox HH H hmm
    go_wp2_with fail
    have q0 := H1.out.c0
    have q1 := H1.out.r0 k hk
    have q2 := H1.out.r1 k hk
    have hgl := H1.out.gl
    have hbl := H1.out.lt
    have t0 := T0.out
    have t1 := T1.out
    have tl := TL.out
    by_cases hx : wh k = who
    · obtain rfl : 3 = E := by rw [HEa.out, if_pos hx]
      obtain rfl : wh = WH := by rw [HWa.out]; rfl
      have gh := has_g (W := w1) (fit_yes.2 ⟨by rw [hx]; exact hw, hx⟩)
      clear hx HEa HWa
      generalize fl (wh k) = z0 at q1 gh
      generalize nm (wh k) = z1 at q2 gh
      refine wp_region_later w1 (by kernel_rfl) (by kernel_rfl) (Below.refl _ _) ?_
      repeat (go_big_quiet_step ((go_at_call 20; exact Gives.later (by with_reducible assumption))))
      refine wpQuiet_nil ?_
      intro w2 hw2
      have hb2 := in_later hw2
      clear hw2
      have H2 := Lib.hid (H1.out.below hb2)
      have HB2 := Lib.hid (HB1.out.trans (hb2.mono HB1.out.size))
      have HD2 := Lib.hid (HD.out.below hb2)
      clear H1 HB1 HD
      go_wp2
      go_ret
      exact ⟨rfl, H2.out, OnlyS.of_below HB2.out⟩
    · rw [if_neg hx] at HEa
      have gh := has_g (W := w1) (fit_no hx)
      have HX := Lib.hid hx
      clear hx
      have HZ := Lib.hid (show fl (wh k) = decide (0 ≤ wh k) from rfl)
      obtain ⟨z0, hz0⟩ : ∃ z0, fl (wh k) = z0 := ⟨_, rfl⟩
      rw [hz0] at q1 gh HZ
      generalize nm (wh k) = z1 at q2 gh
      have HZ0 := Lib.hid hz0
      clear hz0
      refine wp_region_later w1 (by kernel_rfl) (by kernel_rfl) (Below.refl _ _) ?_
      repeat (go_big_quiet_step ((go_at_call 20; exact Gives.later (by with_reducible assumption))))
      refine wpQuiet_nil ?_
      intro w2 hw2
      have hb2 := in_later hw2
      clear hw2
      have H2 := Lib.hid (H1.out.below hb2)
      have HB2 := Lib.hid (HB1.out.trans (hb2.mono HB1.out.size))
      have HD2 := Lib.hid (HD.out.below hb2)
      have q0 := H2.out.c0
      have q1 := H2.out.r0 k hk
      have q2 := H2.out.r1 k hk
      rw [HZ0.out] at q1
      clear H1 HB1 HD
      have t0 := (hb2.cell (p := ⟨W.heap.size, 0, none⟩) tl).trans t0
      have t1 := (hb2.cell (p := ⟨W.heap.size, 1, none⟩) tl).trans t1
      clear hb2
      by_cases hr : rankB N wh who k = true
      · rw [if_pos hr] at HEa
        obtain rfl : 30 = E := HEa.out.symm
        obtain rfl : wh = WH := by rw [HWa.out]; rfl
        cases m with
        | zero => rw [rank_none HMm.out] at hr; cases hr
        | succ m =>
          have hl : m < (heldL N wh who).length := by rw [HMm.out]; omega
          rw [rank_last HMm.out hl] at hr
          obtain ⟨g2, rfl, q3⟩ := HD2.out.cell hl
          generalize (heldL N wh who)[m] = y at *
          have hky : k < y := by simpa using hr
          clear hr
          go_wp2
          go_ret
          exact ⟨rfl, H2.out, OnlyS.of_below HB2.out⟩
      · rw [if_neg hr] at HEa
        cases m with
        | zero =>
          clear hr
          cases z0
          · obtain rfl : 0 = E := by rw [HEa.out, if_neg (by simpa using HZ.out.symm)]
            rw [if_pos rfl] at HWa
            have f0 := H2.out.fz (k * 2)
            have f1 := H2.out.fz (k * 2 + 1)
            have HE := Lib.hid ((H2.out.set k (x := who) (by omega) (v0 := .bool true) (v1 := .int .i64 who) (by simp [fl, hw]) (by simp [nm, hw])).below (drew1_below _))
            have HO := Lib.hid (((OnlyS.of_below (S := (· = g)) HB2.out).setIn g (k * 2) (.bool true) (.inl rfl)).setIn g (k * 2 + 1) (.int .i64 who) (.inl rfl)).drew
            clear HEa H2 HB2 HD2 gh
            go_wp2
            go_region
            all_goals
              go_wp2
              go_ret
              exact ⟨rfl, by rw [HWa.out]; exact HE.out, HO.out⟩
          · obtain rfl : 31 = E := by rw [HEa.out, if_pos (by simpa using HZ.out.symm)]
            obtain rfl : wh = WH := by rw [HWa.out]; rfl
            clear HEa HWa
            go_wp2
            go_ret
            exact ⟨rfl, H2.out, OnlyS.of_below HB2.out⟩
        | succ m =>
          have hl : m < (heldL N wh who).length := by rw [HMm.out]; omega
          rw [rank_last HMm.out hl] at hr
          obtain ⟨g2, rfl, q3⟩ := HD2.out.cell hl
          generalize (heldL N wh who)[m] = y at *
          have hky : ¬ k < y := by simpa using hr
          clear hr
          cases z0
          · obtain rfl : 0 = E := by rw [HEa.out, if_neg (by simpa using HZ.out.symm)]
            rw [if_pos rfl] at HWa
            have f0 := H2.out.fz (k * 2)
            have f1 := H2.out.fz (k * 2 + 1)
            have HE := Lib.hid ((H2.out.set k (x := who) (by omega) (v0 := .bool true) (v1 := .int .i64 who) (by simp [fl, hw]) (by simp [nm, hw])).below (drew1_below _))
            have HO := Lib.hid (((OnlyS.of_below (S := (· = g)) HB2.out).setIn g (k * 2) (.bool true) (.inl rfl)).setIn g (k * 2 + 1) (.int .i64 who) (.inl rfl)).drew
            clear HEa H2 HB2 HD2 gh
            go_wp2
            go_region
            all_goals
              go_wp2
              go_ret
              exact ⟨rfl, by rw [HWa.out]; exact HE.out, HO.out⟩
          · obtain rfl : 31 = E := by rw [HEa.out, if_pos (by simpa using HZ.out.symm)]
            obtain rfl : wh = WH := by rw [HWa.out]; rfl
            clear HEa HWa
            go_wp2
            go_ret
            exact ⟨rfl, H2.out, OnlyS.of_below HB2.out⟩
end
end Go.Proofs.Ytmaiogaeibmpnaa
