/- The chapter's example. -/
import Derived.Test.YthjlapcccmbhbaaWl
import Derived.Test.YthjlapcccmbhbaaXz
namespace Go.Proofs.Ythjlapcccmbhbaa.Lk
open Go Go.RowKit Go.Shelf Pa
set_option maxRecDepth 100000

/-- the example's locks -/
def exL : List Hd := [(⟨1, 0, 0, 0, 1⟩, 1), (⟨1, 1, 0, 0, 2⟩, 3), (⟨1, 2, 0, 0, 2⟩, 3)]
theorem ex_pick {x : Hd} {b : Bool} (h : PickIs exL 2 x b) : x = (⟨1, 0, 0, 0, 1⟩, 3) ∧ b = true := by
  have h0 : 0 < cntL exL ⟨1, 0, 0, 0, 1⟩ := by decide
  have hc : candB exL 2 ⟨1, 0, 0, 0, 1⟩ = true := by decide
  have hi : itemG exL ⟨1, 0, 0, 0, 1⟩ = (⟨1, 0, 0, 0, 1⟩, 3) := by decide
  rcases h with ⟨-, -, h | h⟩ | ⟨rfl, -, h1, -, h2, -⟩
  · omega
  · rw [h _ h0] at hc; cases hc
  · refine ⟨?_, rfl⟩
    have hp : x.1 = ⟨1, 0, 0, 0, 1⟩ := by
      unfold cntL at h1
      obtain ⟨y, hy⟩ := List.exists_mem_of_length_pos h1
      obtain ⟨g1, g2⟩ := List.mem_filter.1 hy
      have g2' : kidB y.1 x.1 = true := g2
      have e : y = (⟨1, 0, 0, 0, 1⟩, 1) ∨ y = (⟨1, 1, 0, 0, 2⟩, 3) ∨ y = (⟨1, 2, 0, 0, 2⟩, 3) := by simpa [exL] using g1
      unfold kidB at g2'
      rw [Bool.and_eq_true] at g2'
      have g3 := (eqP_iff _ _).1 g2'.2
      rcases e with rfl | rfl | rfl
      · exact absurd g2'.1 (by decide)
      · rw [← g3]; decide
      · rw [← g3]; decide
    rw [h2, hp, hi]
theorem ex_ls (W : World) : Ls (W.alloc (.cells #[.int .i64 1, .int .i64 0, .int .i64 0, .int .i64 0, .int .i64 1, .int .i64 1, .int .i64 1, .int .i64 1, .int .i64 0, .int .i64 0, .int .i64 2, .int .i64 3, .int .i64 1, .int .i64 2, .int .i64 0, .int .i64 0, .int .i64 2, .int .i64 3] 27)) (some ⟨W.heap.size, 0, none⟩) 3 exL := by
  refine ⟨Nat.le_refl _, by decide, by simp, fun a ha j u hj => ?_⟩
  obtain rfl : (⟨W.heap.size, 0, none⟩ : Addr) = a := by simpa using ha
  rw [add_at]
  match j, hj with
  | 0, hj => simp [flat, cellsW, exL] at hj; subst hj; simp [go_sem]
  | 1, hj => simp [flat, cellsW, exL] at hj; subst hj; simp [go_sem]
  | 2, hj => simp [flat, cellsW, exL] at hj; subst hj; simp [go_sem]
  | 3, hj => simp [flat, cellsW, exL] at hj; subst hj; simp [go_sem]
  | 4, hj => simp [flat, cellsW, exL] at hj; subst hj; simp [go_sem]
  | 5, hj => simp [flat, cellsW, exL] at hj; subst hj; simp [go_sem]
  | 6, hj => simp [flat, cellsW, exL] at hj; subst hj; simp [go_sem]
  | 7, hj => simp [flat, cellsW, exL] at hj; subst hj; simp [go_sem]
  | 8, hj => simp [flat, cellsW, exL] at hj; subst hj; simp [go_sem]
  | 9, hj => simp [flat, cellsW, exL] at hj; subst hj; simp [go_sem]
  | 10, hj => simp [flat, cellsW, exL] at hj; subst hj; simp [go_sem]
  | 11, hj => simp [flat, cellsW, exL] at hj; subst hj; simp [go_sem]
  | 12, hj => simp [flat, cellsW, exL] at hj; subst hj; simp [go_sem]
  | 13, hj => simp [flat, cellsW, exL] at hj; subst hj; simp [go_sem]
  | 14, hj => simp [flat, cellsW, exL] at hj; subst hj; simp [go_sem]
  | 15, hj => simp [flat, cellsW, exL] at hj; subst hj; simp [go_sem]
  | 16, hj => simp [flat, cellsW, exL] at hj; subst hj; simp [go_sem]
  | 17, hj => simp [flat, cellsW, exL] at hj; subst hj; simp [go_sem]
  | j + 18, hj => simp [flat, cellsW, exL] at hj
theorem ex_fit : ∀ x ∈ exL, FitP x.1 ∧ wf64 x.2 := by
  intro x hx
  have e : x = (⟨1, 0, 0, 0, 1⟩, 1) ∨ x = (⟨1, 1, 0, 0, 2⟩, 3) ∨ x = (⟨1, 2, 0, 0, 2⟩, 3) := by simpa [exL] using hx
  rcases e with rfl | rfl | rfl
  · exact ⟨fit_right (by decide), by decide⟩
  · exact ⟨fit_right (by decide), by decide⟩
  · exact ⟨fit_right (by decide), by decide⟩
theorem below_drew1 {K : Nat} {a w : World} (h : Below K a w) : Below K a w.drew := h.trans ⟨rfl, rfl, rfl, Nat.le_refl _, fun _ _ => rfl⟩
theorem at_one {W : World} {B : Nat} (h : W.cell? ⟨B, 0, none⟩ = some (.int .i64 1)) :
    Calls Try.prog 24 #[.slice (some ⟨B, 0, none⟩) 1 1] W fun e w' => e = .returned (Pt.v ⟨1, 0, 0, 0, 1⟩) ∧ Below W.heap.size W w' := by
  have hl := cell_lt h
  simp only at hl
  have hne : ¬ B = W.heap.size := Nat.ne_of_lt hl
  go_enter Try.func24, Try.ntmps24
  go_wp2_with fail
  go_region
  go_wp2_with fail
  refine bodyPost_ret (v := Pt.v ⟨1, 0, 0, 0, 1⟩) (by simp [results, Try.results24, go_sem]) rfl ⟨rfl, ?_⟩
  exact below_drew1 (Go.Proofs.Ythjlapcccmbhbaa.box_below W _)
theorem at_two {W : World} {B : Nat} {x : Int} (h : W.cell? ⟨B, 0, none⟩ = some (.int .i64 1)) (h1 : W.cell? ⟨B, 1, none⟩ = some (.int .i64 x)) (hx : x = 1 ∨ x = 2) :
    Calls Try.prog 24 #[.slice (some ⟨B, 0, none⟩) 2 2] W fun e w' => e = .returned (Pt.v ⟨1, x, 0, 0, 2⟩) ∧ Below W.heap.size W w' := by
  have hl := cell_lt h
  simp only at hl
  have hne : ¬ B = W.heap.size := Nat.ne_of_lt hl
  rcases hx with rfl | rfl
  all_goals
    go_enter Try.func24, Try.ntmps24
    go_wp2_with fail
    go_region
    go_wp2_with fail
    refine bodyPost_ret (v := Pt.v ⟨1, _, 0, 0, 2⟩) (by simp [results, Try.results24, go_sem]) rfl ⟨rfl, ?_⟩
    exact below_drew1 (Go.Proofs.Ythjlapcccmbhbaa.box_below W _)
theorem enters24 : ∀ args w, (callFunc 24 args).run Try.prog w = .ok (.enter 24 args) w := enters_of Try.func24 (by kernel_rfl) rfl
set_option maxHeartbeats 4000000 in
theorem awake_any (W : World) : Calls Try.prog 6 #[] W fun e w' => e = .returned (.bool true) ∧ Below W.heap.size W w' := by
  have eg := enters24
  have HPi := Lib.hid (fun (w : World) => pick_any (ex_ls w) (by decide) ex_fit 2)
  have H1 := Lib.hid (at_one (W := W.alloc (.cells #[.int .i64 1] 3)) (B := W.heap.size) (by simp [go_sem]))
  have HX1 := Lib.hid (Go.Proofs.Ythjlapcccmbhbaa.box_below W (.cells #[.int .i64 1] 3))
  go_enter Try.func6, Try.ntmps6
  go_wp2_with fail
  refine H1.out.mono ?_
  rintro e1 w1 ⟨rfl, hb1⟩
  have HB1 := Lib.hid (thenCall HX1.out hb1)
  have HX2 := Lib.hid (Go.Proofs.Ythjlapcccmbhbaa.box_below w1 (.cells #[.int .i64 1, .int .i64 1] 3))
  have H2 := Lib.hid (at_two (W := w1.alloc (.cells #[.int .i64 1, .int .i64 1] 3)) (B := w1.heap.size) (x := 1) (by simp [go_sem]) (by simp [go_sem]) (.inl rfl))
  clear hb1
  go_wp2_with fail
  refine H2.out.mono ?_
  rintro e2 w2 ⟨rfl, hb2⟩
  have HB2 := Lib.hid (thenCall (thenCall HB1.out HX2.out) hb2)
  have HX3 := Lib.hid (Go.Proofs.Ythjlapcccmbhbaa.box_below w2 (.cells #[.int .i64 1, .int .i64 2] 3))
  have H3 := Lib.hid (at_two (W := w2.alloc (.cells #[.int .i64 1, .int .i64 2] 3)) (B := w2.heap.size) (x := 2) (by simp [go_sem]) (by simp [go_sem]) (.inr rfl))
  clear hb2
  go_wp2_with fail
  refine H3.out.mono ?_
  rintro e3 w3 ⟨rfl, hb3⟩
  have HB3 := Lib.hid (thenCall (thenCall HB2.out HX3.out) hb3)
  clear hb3
  go_wp2_with fail
  refine (HPi.out _).mono ?_
  rintro e4 w4 ⟨x, b, rfl, hpi, hb4⟩
  obtain ⟨rfl, rfl⟩ := ex_pick hpi
  have HB4 := Lib.hid (thenCall (thenCall HB3.out (Go.Proofs.Ythjlapcccmbhbaa.box_below w3 _)) hb4)
  have HL4 := Lib.hid (LkAt.new w4 ((⟨1, 0, 0, 0, 1⟩, 3) : Hd))
  have HX4 := Lib.hid (Go.Proofs.Ythjlapcccmbhbaa.box_below w4 (.cells #[.int .i64 1, .int .i64 0, .int .i64 0, .int .i64 0, .int .i64 1, .int .i64 3] 27))
  clear hpi hb4 HPi
  go_wp2_with fail
  obtain ⟨w5, hw5⟩ : ∃ w5, w4.alloc (.cells #[.int .i64 1, .int .i64 0, .int .i64 0, .int .i64 0, .int .i64 1, .int .i64 3] 27) = w5 := ⟨_, rfl⟩
  rw [hw5]
  have hl5 : LkAt w5 w4.heap.size ((⟨1, 0, 0, 0, 1⟩, 3) : Hd) := by rw [← hw5]; exact HL4.out
  have HL5 := Lib.hid hl5
  have HB5 : Hid (Below W.heap.size W w5) := by rw [← hw5]; exact thenCall HB4.out HX4.out
  have hb5 : Below w5.heap.size w5 w5.drew := below_drew1 (Below.refl _ _)
  have hsq : ∀ w, Below w5.heap.size w5 w → w.cell? ⟨w4.heap.size, 0, none⟩ = some (.int .i64 1) ∧ w.cell? ⟨w4.heap.size, 1, none⟩ = some (.int .i64 0) ∧ w.cell? ⟨w4.heap.size, 2, none⟩ = some (.int .i64 0) ∧ w.cell? ⟨w4.heap.size, 3, none⟩ = some (.int .i64 0) ∧ w.cell? ⟨w4.heap.size, 4, none⟩ = some (.int .i64 1) ∧ w.cell? ⟨w4.heap.size, 5, none⟩ = some (.int .i64 3) := fun w hb => by
    have h := HL5.out.later hb
    exact ⟨h.c0, h.c1, h.c2, h.c3, h.c4, h.c5⟩
  have HSq := Lib.hid hsq
  have hs5 := hsq _ hb5
  have hx6 : Below w5.heap.size w5 (w5.alloc (.cells #[.int .i64 1] 3)).drew := below_drew1 (Go.Proofs.Ythjlapcccmbhbaa.box_below w5 _)
  have HB6 := Lib.hid hx6
  have hs6 := hsq _ hx6
  have H6 := Lib.hid (at_one (W := (w5.alloc (.cells #[.int .i64 1] 3)).drew) (B := w5.heap.size) (by show (w5.alloc (.cells #[.int .i64 1] 3)).cell? _ = _; simp [go_sem]))
  have hself : eqH ((⟨1, 0, 0, 0, 1⟩, 3) : Hd) (⟨1, 0, 0, 0, 1⟩, 3) = true := eqH_self _
  clear hw5 hl5 hb5 hsq hx6
  go_region_held3 (fun w => w.cell? ⟨w4.heap.size, 0, none⟩ = some (.int .i64 1) ∧ w.cell? ⟨w4.heap.size, 1, none⟩ = some (.int .i64 0) ∧ w.cell? ⟨w4.heap.size, 2, none⟩ = some (.int .i64 0) ∧ w.cell? ⟨w4.heap.size, 3, none⟩ = some (.int .i64 0) ∧ w.cell? ⟨w4.heap.size, 4, none⟩ = some (.int .i64 1) ∧ w.cell? ⟨w4.heap.size, 5, none⟩ = some (.int .i64 3)) (first | exact hs5 | exact hs6 | exact hs7)
    (first
      | (go_at_call 24; (with_reducible refine H6.out.mono ?_); rintro e7 w7 ⟨rfl, hb7⟩; have hs7 := HSq.out _ (thenCall HB6.out hb7))
      | fail)
  all_goals
    have HB7 := Lib.hid (thenCall HB5.out (thenCall HB6.out hb7))
    clear hb7 hs5 hs6 hs7
    go_wp2_with fail
    go_ret
    exact ⟨rfl, HB7.out⟩
end Go.Proofs.Ythjlapcccmbhbaa.Lk
