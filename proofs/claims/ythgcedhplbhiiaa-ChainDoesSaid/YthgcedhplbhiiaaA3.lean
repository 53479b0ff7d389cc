/- A place is cut out of its row. -/
import Derived.Test.YthgcedhplbhiiaaA2
namespace Go.Proofs.Ythgcedhplbhiiaa
open Go Go.RowKit
section
variable {W W' : World} {b g N c : Nat} {rw : Nat → Int} {pv nx : Nat → Nat}
theorem in_yes {N : Nat} {rw : Nat → Int} {i : Nat} (hi : i < N) (h : rw i ≠ -1) : inB N rw (i : Int) = true := by
  unfold inB
  rw [has_is, decide_eq_true hi]
  simpa using h
theorem in_no {N : Nat} {rw : Nat → Int} {i : Int} (h : ∀ k : Nat, i = k → k < N → rw k = -1) : inB N rw i = false := by
  unfold inB
  cases hb : hasB N i
  · rfl
  · obtain ⟨k, rfl, hk⟩ := has_yes hb
    rw [Int.toNat_natCast, h k rfl hk]
    rfl
theorem free_yes {N : Nat} {rw : Nat → Int} {i : Nat} (hi : i < N) (h : rw i = -1) : freeB N rw (i : Int) = true := by
  unfold freeB
  rw [has_is, decide_eq_true hi]
  simpa using h
theorem free_no {N : Nat} {rw : Nat → Int} {i : Int} (h : ∀ k : Nat, i = k → k < N → rw k ≠ -1) : freeB N rw i = false := by
  unfold freeB
  cases hb : hasB N i
  · rfl
  · obtain ⟨k, rfl, hk⟩ := has_yes hb
    rw [Int.toNat_natCast]
    simpa using h k rfl hk
set_option maxHeartbeats 1000000 in
theorem cutn_any (W : World) (i : Int) : Calls Try.prog 13 #[.pointer none, .int .i64 i] W fun e w' => e = .returned (.bool false) ∧ W = w' := by
  go_enter Try.func13, Try.ntmps13
  go_wp2_with (go_at_call 28; ((with_reducible refine (inn_any W i).mono ?_); rintro e w' ⟨rfl, rfl⟩))
  go_ret
  exact ⟨rfl, rfl⟩
theorem Lnk.cut_no (h : Lnk W b g N c rw pv nx) {i : Int} (hi : inB N rw i = false) : Calls Try.prog 13 #[wp b, .int .i64 i] W fun e w' => e = .returned (.bool false) ∧ W = w' := by
  have H := Lib.hid (h.in i)
  rw [hi] at H
  clear h hi
  go_enter Try.func13, Try.ntmps13
  go_wp2_with (go_at_call 28; ((with_reducible refine H.out.mono ?_); rintro e w' ⟨rfl, rfl⟩))
  go_ret
  exact ⟨rfl, rfl⟩
set_option maxHeartbeats 2000000 in
theorem Lnk.cut_yes (h : Lnk W b g N c rw pv nx) {i : Nat} (hi : i < N) (hin : rw i ≠ -1) (hp : pv i < 2 * N) (hn : nx i < 2 * N) : Calls Try.prog 13 #[wp b, .int .i64 (i : Int)] W fun e w' => e = .returned (.bool true) ∧
    Lnk w' b g N c (upd rw i (-1)) (upd (upd pv (nx i) (pv i)) i 0) (upd (upd nx (pv i) (nx i)) i 0) ∧ OnlyS (· = g) W w' := by
  have HI := Lib.hid (h.in (i : Int))
  rw [in_yes hi hin] at HI
  have hnb := h.nb
  have hbg := h.ne
  have hgb := Ne.symm h.ne
  have hi2 : i < 2 * N := by omega
  have hblt := h.lt
  have hglt := h.gl
  have q0 := h.c0
  have q2 := h.r0 i hi2
  have q3 := h.r1 i hi2
  have q4 := h.r2 i hi2
  have q5 := h.r2 (pv i) hp
  have f5 := h.fz (pv i * 3 + 2)
  have h1 := ((h.set2 (pv i) (nx i)).below (box_below _ (.cells #[.int .i64 (rw i), .int .i64 (pv i : Int), .int .i64 (nx i : Int)] 50))).below (drew1_below _)
  have o1 : OnlyS (· = g) W ((W.setCell ⟨g, pv i * 3 + 2, none⟩ (.int .i64 (nx i : Int))).alloc (.cells #[.int .i64 (rw i), .int .i64 (pv i : Int), .int .i64 (nx i : Int)] 50)).drew :=
    (((OnlyS.refl (· = g) W).setIn g _ _ (.inl rfl)).alloc _).drew
  have s1 : ((W.setCell ⟨g, pv i * 3 + 2, none⟩ (.int .i64 (nx i : Int))).alloc (.cells #[.int .i64 (rw i), .int .i64 (pv i : Int), .int .i64 (nx i : Int)] 50)).drew.cell? ⟨W.heap.size, 1, none⟩ = some (.int .i64 (pv i : Int)) := by simp [go_sem]
  have s2 : ((W.setCell ⟨g, pv i * 3 + 2, none⟩ (.int .i64 (nx i : Int))).alloc (.cells #[.int .i64 (rw i), .int .i64 (pv i : Int), .int .i64 (nx i : Int)] 50)).drew.cell? ⟨W.heap.size, 2, none⟩ = some (.int .i64 (nx i : Int)) := by simp [go_sem]
  have S1 := Lib.hid s1
  have S2 := Lib.hid s2
  have H1 := Lib.hid h1
  have O1 := Lib.hid o1
  clear h h1 o1 s1 s2
  have hM : 2 * N ≤ 8192 := by omega
  obtain ⟨M, hMN⟩ : ∃ M, 2 * N = M := ⟨_, rfl⟩
  have HM := Lib.hid hMN
  rw [hMN] at hp hn q0 hM hi2
  clear hMN hin
  generalize rw i = x at *
  generalize pv i = y at *
  generalize nx i = z at *
  go_enter Try.func13, Try.ntmps13
  go_wp2_with (go_at_call 28; ((with_reducible refine HI.out.mono ?_); rintro e w' ⟨rfl, rfl⟩))
  go_region
  all_goals
    clear q0 q2 q3 q4 q5 f5
    have hbB : b ≠ W.heap.size := by omega
    have hgB : g ≠ W.heap.size := by omega
    have hBb := Ne.symm hbB
    have hBg := Ne.symm hgB
    generalize ((W.setCell ⟨g, y * 3 + 2, none⟩ (.int .i64 (z : Int))).alloc (.cells #[.int .i64 x, .int .i64 (y : Int), .int .i64 (z : Int)] 50)).drew = W1 at H1 O1 S1 S2 ⊢
    generalize W.heap.size = B at *
    have q0 := H1.out.c0
    rw [HM.out] at q0
    have hz := hn
    rw [← HM.out] at hn
    have q1 := H1.out.r1 z hn
    have f1 := H1.out.fz (z * 3 + 1)
    have s1 := S1.out
    have s2 := S2.out
    have H2 := Lib.hid ((H1.out.set1 z y).below (drew1_below _))
    have O2 := Lib.hid ((O1.out.setIn g (z * 3 + 1) (.int .i64 (y : Int)) (.inl rfl)).drew)
    clear H1 O1 S1 S2 hn
    go_wp2
    go_region
    all_goals
      clear q0 q1 f1 s1 s2
      generalize (W1.setCell ⟨g, z * 3 + 1, none⟩ (.int .i64 (y : Int))).drew = W2 at H2 O2 ⊢
      have q0 := H2.out.c0
      rw [HM.out] at q0
      have hj := hi2
      rw [← HM.out] at hi2
      have q1 := H2.out.r0 i hi2
      have q2 := H2.out.r1 i hi2
      have q3 := H2.out.r2 i hi2
      have f1 := H2.out.fz (i * 3)
      have f2 := H2.out.fz (i * 3 + 1)
      have f3 := H2.out.fz (i * 3 + 2)
      have HE := Lib.hid (((H2.out.set0 i (-1)).set1 i 0).set2 i 0)
      have HO := Lib.hid (((O2.out.setIn g (i * 3) (.int .i64 (-1)) (.inl rfl)).setIn g (i * 3 + 1) (.int .i64 0) (.inl rfl)).setIn g (i * 3 + 2) (.int .i64 0) (.inl rfl))
      clear H2 O2 hi2
      go_wp2
      go_ret
      exact ⟨rfl, HE.out, HO.out⟩
end
end Go.Proofs.Ythgcedhplbhiiaa
