/- The contracts of the document's answers on one node, the third part: a kid; and which of two is less. -/
import Derived.Test.YtmlljgijbffepaaF1
import Derived.Test.YtmlljgijbffepaaB0
namespace Go.Proofs.Ytmlljgijbffepaa
open Go Go.RowKit

theorem numB_in' {n : Int} (h0 : 0 ≤ n) (h1 : n ≤ 999) : numB n = true := by simp [numB, h0, h1]
theorem kid_test {a b c d e n : Int} (h : rightB ⟨a, b, c, d, e⟩ = true) (h4 : e ≠ 4) : rightB (kidP ⟨a, b, c, d, e⟩ n) = numB n := by
  cases hn : numB n
  · have hf := (right_iff a b c d e).1 h
    cases hh : rightB (kidP ⟨a, b, c, d, e⟩ n)
    · rfl
    · have h1 := hf.e1
      have h2 := hf.e4
      rw [← hn]
      unfold kidP at hh
      have hk := right_bd hh
      simp only at hk
      have : 0 ≤ n ∧ n ≤ 999 := by
        rcases (by omega : e = 1 ∨ e = 2 ∨ e = 3) with rfl | rfl | rfl <;> simp at hk <;> omega
      exact (numB_in' this.1 this.2).symm
  · exact kid_right (by unfold kidB; rw [h, hn]; simp [h4])

set_option maxHeartbeats 2000000 in
theorem rkid_any (p : Pt) (n : Int) (w : World) :
    Calls Try.prog 12 #[p.v, .int .i64 n] w fun e w' => e = .returned (kidV p n) ∧ Below w.heap.size w w' := by
  obtain ⟨a, b, c, d, e⟩ := p
  cases hr : rightB ⟨a, b, c, d, e⟩
  · have HV := Lib.hid (show kidV ⟨a, b, c, d, e⟩ n = .tuple #[Pt.v ⟨0, 0, 0, 0, 0⟩, .bool false] by simp [kidV, kidB, hr])
    go_enter Try.func12, Try.ntmps12
    go_wp2_with (go_at_call 25; ((with_reducible refine (rright_any ⟨a, b, c, d, e⟩ _).mono ?_); rintro e1 w1 ⟨rfl, hb1⟩; rw [hr]; obtain ⟨hc1, hf1⟩ := kept hb1))
    exact bodyPost_ret (v := .tuple #[Pt.v ⟨0, 0, 0, 0, 0⟩, .bool false]) (by simp [results, Try.results12, go_sem, hc1]) rfl ⟨by rw [HV.out], below_set5 (below_past hb1) (by omega) _ _ _ _ _⟩
  · have hd := right_depth hr
    simp only at hd
    by_cases h1 : e = 4
    · have HV := Lib.hid (show kidV ⟨a, b, c, d, e⟩ n = .tuple #[Pt.v ⟨0, 0, 0, 0, 0⟩, .bool false] by simp [kidV, kidB, h1])
      have h1' : (e == 4) = true := by simp [h1]
      clear h1
      go_enter Try.func12, Try.ntmps12
      go_wp2_with (go_at_call 25; ((with_reducible refine (rright_any ⟨a, b, c, d, e⟩ _).mono ?_); rintro e1 w1 ⟨rfl, hb1⟩; rw [hr]; obtain ⟨hc1, hf1⟩ := kept hb1))
      exact bodyPost_ret (v := .tuple #[Pt.v ⟨0, 0, 0, 0, 0⟩, .bool false]) (by simp [results, Try.results12, go_sem, hc1]) rfl ⟨by rw [HV.out], below_set5 (below_past hb1) (by omega) _ _ _ _ _⟩
    · have HT := Lib.hid (kid_test (n := n) hr h1)
      have HR := Lib.hid hr
      cases hn : numB n
      · have HV := Lib.hid (show kidV ⟨a, b, c, d, e⟩ n = .tuple #[Pt.v ⟨0, 0, 0, 0, 0⟩, .bool false] by simp [kidV, kidB, hn])
        clear hr
        rcases (by omega : e = 1 ∨ e = 2 ∨ e = 3) with rfl | rfl | rfl
        · have hT : rightB ⟨a, n, c, d, 2⟩ = false := by rw [← hn, ← HT.out]; simp [kidP]
          clear h1 hd hn
          go_enter Try.func12, Try.ntmps12
          go_wp2_with fail
          have hr := HR.out
          refine (rright_any ⟨a, b, c, d, 1⟩ _).mono ?_
          rintro e1 w1 ⟨rfl, hb1⟩
          rw [hr]
          obtain ⟨⟨c0, c1, c2, c3, c4⟩, ⟨f0, f1, f2, f3, f4⟩, ⟨d0, d1, d2, d3, d4⟩, ⟨g0, g1, g2, g3, g4⟩⟩ := kept_two hb1
          have l0 : w.heap.size < w1.heap.size := by have := lt_two hb1; omega
          have l1 : w.heap.size + 1 < w1.heap.size := lt_two hb1
          have n0 : ¬ w.heap.size = w1.heap.size := by omega
          have n1 : ¬ w.heap.size + 1 = w1.heap.size := by omega
          clear hr
          go_wp2_with fail
          refine (rright_any ⟨a, n, c, d, 2⟩ _).mono ?_
          rintro e2 w2 ⟨rfl, hb2⟩
          rw [hT]
          clear c0 c1 c2 c3 c4 f0 f1 f2 f3 f4 d0 d1 d2 d3 d4 g0 g1 g2 g3 g4
          have hb3 := (hb1.alloc hb1.size _).trans (hb2.mono (Nat.le_trans hb1.size (by simp)))
          obtain ⟨⟨c0, c1, c2, c3, c4⟩, ⟨f0, f1, f2, f3, f4⟩, ⟨d0, d1, d2, d3, d4⟩, ⟨g0, g1, g2, g3, g4⟩⟩ := kept_two hb3
          obtain ⟨q0, q1, q2, q3, q4, ql⟩ := (PtAt.new w1 a n c d 2).later hb2
          go_wp2_with fail
          exact bodyPost_ret (v := .tuple #[Pt.v ⟨0, 0, 0, 0, 0⟩, .bool false]) (by simp [results, Try.results12, go_sem, d0, d1, d2, d3, d4]) rfl ⟨by rw [HV.out], below_set5 (below_past hb3) (by omega) _ _ _ _ _⟩
        · have hT : rightB ⟨a, b, n, d, 3⟩ = false := by rw [← hn, ← HT.out]; simp [kidP]
          clear h1 hd hn
          go_enter Try.func12, Try.ntmps12
          go_wp2_with fail
          have hr := HR.out
          refine (rright_any ⟨a, b, c, d, 2⟩ _).mono ?_
          rintro e1 w1 ⟨rfl, hb1⟩
          rw [hr]
          obtain ⟨⟨c0, c1, c2, c3, c4⟩, ⟨f0, f1, f2, f3, f4⟩, ⟨d0, d1, d2, d3, d4⟩, ⟨g0, g1, g2, g3, g4⟩⟩ := kept_two hb1
          have l0 : w.heap.size < w1.heap.size := by have := lt_two hb1; omega
          have l1 : w.heap.size + 1 < w1.heap.size := lt_two hb1
          have n0 : ¬ w.heap.size = w1.heap.size := by omega
          have n1 : ¬ w.heap.size + 1 = w1.heap.size := by omega
          clear hr
          go_wp2_with fail
          refine (rright_any ⟨a, b, n, d, 3⟩ _).mono ?_
          rintro e2 w2 ⟨rfl, hb2⟩
          rw [hT]
          clear c0 c1 c2 c3 c4 f0 f1 f2 f3 f4 d0 d1 d2 d3 d4 g0 g1 g2 g3 g4
          have hb3 := (hb1.alloc hb1.size _).trans (hb2.mono (Nat.le_trans hb1.size (by simp)))
          obtain ⟨⟨c0, c1, c2, c3, c4⟩, ⟨f0, f1, f2, f3, f4⟩, ⟨d0, d1, d2, d3, d4⟩, ⟨g0, g1, g2, g3, g4⟩⟩ := kept_two hb3
          obtain ⟨q0, q1, q2, q3, q4, ql⟩ := (PtAt.new w1 a b n d 3).later hb2
          go_wp2_with fail
          exact bodyPost_ret (v := .tuple #[Pt.v ⟨0, 0, 0, 0, 0⟩, .bool false]) (by simp [results, Try.results12, go_sem, d0, d1, d2, d3, d4]) rfl ⟨by rw [HV.out], below_set5 (below_past hb3) (by omega) _ _ _ _ _⟩
        · have hT : rightB ⟨a, b, c, n, 4⟩ = false := by rw [← hn, ← HT.out]; simp [kidP]
          clear h1 hd hn
          go_enter Try.func12, Try.ntmps12
          go_wp2_with fail
          have hr := HR.out
          refine (rright_any ⟨a, b, c, d, 3⟩ _).mono ?_
          rintro e1 w1 ⟨rfl, hb1⟩
          rw [hr]
          obtain ⟨⟨c0, c1, c2, c3, c4⟩, ⟨f0, f1, f2, f3, f4⟩, ⟨d0, d1, d2, d3, d4⟩, ⟨g0, g1, g2, g3, g4⟩⟩ := kept_two hb1
          have l0 : w.heap.size < w1.heap.size := by have := lt_two hb1; omega
          have l1 : w.heap.size + 1 < w1.heap.size := lt_two hb1
          have n0 : ¬ w.heap.size = w1.heap.size := by omega
          have n1 : ¬ w.heap.size + 1 = w1.heap.size := by omega
          clear hr
          go_wp2_with fail
          refine (rright_any ⟨a, b, c, n, 4⟩ _).mono ?_
          rintro e2 w2 ⟨rfl, hb2⟩
          rw [hT]
          clear c0 c1 c2 c3 c4 f0 f1 f2 f3 f4 d0 d1 d2 d3 d4 g0 g1 g2 g3 g4
          have hb3 := (hb1.alloc hb1.size _).trans (hb2.mono (Nat.le_trans hb1.size (by simp)))
          obtain ⟨⟨c0, c1, c2, c3, c4⟩, ⟨f0, f1, f2, f3, f4⟩, ⟨d0, d1, d2, d3, d4⟩, ⟨g0, g1, g2, g3, g4⟩⟩ := kept_two hb3
          obtain ⟨q0, q1, q2, q3, q4, ql⟩ := (PtAt.new w1 a b c n 4).later hb2
          go_wp2_with fail
          exact bodyPost_ret (v := .tuple #[Pt.v ⟨0, 0, 0, 0, 0⟩, .bool false]) (by simp [results, Try.results12, go_sem, d0, d1, d2, d3, d4]) rfl ⟨by rw [HV.out], below_set5 (below_past hb3) (by omega) _ _ _ _ _⟩
      · have HV := Lib.hid (show kidV ⟨a, b, c, d, e⟩ n = .tuple #[(kidP ⟨a, b, c, d, e⟩ n).v, .bool true] by simp [kidV, kidB, hn, hr, h1])
        clear hr
        rcases (by omega : e = 1 ∨ e = 2 ∨ e = 3) with rfl | rfl | rfl
        · have hT : rightB ⟨a, n, c, d, 2⟩ = true := by rw [← hn, ← HT.out]; simp [kidP]
          clear h1 hd hn
          go_enter Try.func12, Try.ntmps12
          go_wp2_with fail
          have hr := HR.out
          refine (rright_any ⟨a, b, c, d, 1⟩ _).mono ?_
          rintro e1 w1 ⟨rfl, hb1⟩
          rw [hr]
          obtain ⟨⟨c0, c1, c2, c3, c4⟩, ⟨f0, f1, f2, f3, f4⟩, ⟨d0, d1, d2, d3, d4⟩, ⟨g0, g1, g2, g3, g4⟩⟩ := kept_two hb1
          have l0 : w.heap.size < w1.heap.size := by have := lt_two hb1; omega
          have l1 : w.heap.size + 1 < w1.heap.size := lt_two hb1
          have n0 : ¬ w.heap.size = w1.heap.size := by omega
          have n1 : ¬ w.heap.size + 1 = w1.heap.size := by omega
          clear hr
          go_wp2_with fail
          refine (rright_any ⟨a, n, c, d, 2⟩ _).mono ?_
          rintro e2 w2 ⟨rfl, hb2⟩
          rw [hT]
          clear c0 c1 c2 c3 c4 f0 f1 f2 f3 f4 d0 d1 d2 d3 d4 g0 g1 g2 g3 g4
          have hb3 := (hb1.alloc hb1.size _).trans (hb2.mono (Nat.le_trans hb1.size (by simp)))
          obtain ⟨⟨c0, c1, c2, c3, c4⟩, ⟨f0, f1, f2, f3, f4⟩, ⟨d0, d1, d2, d3, d4⟩, ⟨g0, g1, g2, g3, g4⟩⟩ := kept_two hb3
          obtain ⟨q0, q1, q2, q3, q4, ql⟩ := (PtAt.new w1 a n c d 2).later hb2
          go_wp2_with fail
          exact bodyPost_ret (v := .tuple #[Pt.v ⟨a, n, c, d, 2⟩, .bool true]) (by simp [results, Try.results12, go_sem, d0, d1, d2, d3, d4]) rfl ⟨by rw [HV.out]; simp [kidP], below_set5 (below_past hb3) (by omega) _ _ _ _ _⟩
        · have hT : rightB ⟨a, b, n, d, 3⟩ = true := by rw [← hn, ← HT.out]; simp [kidP]
          clear h1 hd hn
          go_enter Try.func12, Try.ntmps12
          go_wp2_with fail
          have hr := HR.out
          refine (rright_any ⟨a, b, c, d, 2⟩ _).mono ?_
          rintro e1 w1 ⟨rfl, hb1⟩
          rw [hr]
          obtain ⟨⟨c0, c1, c2, c3, c4⟩, ⟨f0, f1, f2, f3, f4⟩, ⟨d0, d1, d2, d3, d4⟩, ⟨g0, g1, g2, g3, g4⟩⟩ := kept_two hb1
          have l0 : w.heap.size < w1.heap.size := by have := lt_two hb1; omega
          have l1 : w.heap.size + 1 < w1.heap.size := lt_two hb1
          have n0 : ¬ w.heap.size = w1.heap.size := by omega
          have n1 : ¬ w.heap.size + 1 = w1.heap.size := by omega
          clear hr
          go_wp2_with fail
          refine (rright_any ⟨a, b, n, d, 3⟩ _).mono ?_
          rintro e2 w2 ⟨rfl, hb2⟩
          rw [hT]
          clear c0 c1 c2 c3 c4 f0 f1 f2 f3 f4 d0 d1 d2 d3 d4 g0 g1 g2 g3 g4
          have hb3 := (hb1.alloc hb1.size _).trans (hb2.mono (Nat.le_trans hb1.size (by simp)))
          obtain ⟨⟨c0, c1, c2, c3, c4⟩, ⟨f0, f1, f2, f3, f4⟩, ⟨d0, d1, d2, d3, d4⟩, ⟨g0, g1, g2, g3, g4⟩⟩ := kept_two hb3
          obtain ⟨q0, q1, q2, q3, q4, ql⟩ := (PtAt.new w1 a b n d 3).later hb2
          go_wp2_with fail
          exact bodyPost_ret (v := .tuple #[Pt.v ⟨a, b, n, d, 3⟩, .bool true]) (by simp [results, Try.results12, go_sem, d0, d1, d2, d3, d4]) rfl ⟨by rw [HV.out]; simp [kidP], below_set5 (below_past hb3) (by omega) _ _ _ _ _⟩
        · have hT : rightB ⟨a, b, c, n, 4⟩ = true := by rw [← hn, ← HT.out]; simp [kidP]
          clear h1 hd hn
          go_enter Try.func12, Try.ntmps12
          go_wp2_with fail
          have hr := HR.out
          refine (rright_any ⟨a, b, c, d, 3⟩ _).mono ?_
          rintro e1 w1 ⟨rfl, hb1⟩
          rw [hr]
          obtain ⟨⟨c0, c1, c2, c3, c4⟩, ⟨f0, f1, f2, f3, f4⟩, ⟨d0, d1, d2, d3, d4⟩, ⟨g0, g1, g2, g3, g4⟩⟩ := kept_two hb1
          have l0 : w.heap.size < w1.heap.size := by have := lt_two hb1; omega
          have l1 : w.heap.size + 1 < w1.heap.size := lt_two hb1
          have n0 : ¬ w.heap.size = w1.heap.size := by omega
          have n1 : ¬ w.heap.size + 1 = w1.heap.size := by omega
          clear hr
          go_wp2_with fail
          refine (rright_any ⟨a, b, c, n, 4⟩ _).mono ?_
          rintro e2 w2 ⟨rfl, hb2⟩
          rw [hT]
          clear c0 c1 c2 c3 c4 f0 f1 f2 f3 f4 d0 d1 d2 d3 d4 g0 g1 g2 g3 g4
          have hb3 := (hb1.alloc hb1.size _).trans (hb2.mono (Nat.le_trans hb1.size (by simp)))
          obtain ⟨⟨c0, c1, c2, c3, c4⟩, ⟨f0, f1, f2, f3, f4⟩, ⟨d0, d1, d2, d3, d4⟩, ⟨g0, g1, g2, g3, g4⟩⟩ := kept_two hb3
          obtain ⟨q0, q1, q2, q3, q4, ql⟩ := (PtAt.new w1 a b c n 4).later hb2
          go_wp2_with fail
          exact bodyPost_ret (v := .tuple #[Pt.v ⟨a, b, c, n, 4⟩, .bool true]) (by simp [results, Try.results12, go_sem, d0, d1, d2, d3, d4]) rfl ⟨by rw [HV.out]; simp [kidP], below_set5 (below_past hb3) (by omega) _ _ _ _ _⟩
end Go.Proofs.Ytmlljgijbffepaa
