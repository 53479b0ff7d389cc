/- The contracts of the document's own answers on modes, the second part: which goes with which. -/
import Derived.Test.YtagbfonmeolnjaaDoorR1
namespace Go.Proofs.YtagbfonmeolnjaaDoor
open Go Go.RowKit

theorem goes_none (j : Nat) : goesN 0 j = true := rfl
theorem goes_to_none : ∀ i, i ≤ 6 → goesN i 0 = true := by decide +kernel
theorem rcompat_any (m n : Int) (w : World) :
    Calls Tryd.prog 14 #[.int .i64 m, .int .i64 n] w fun e w' => e = .returned (.bool (goesN (kn m) (kn n))) ∧ w = w' := by
  by_cases h : 0 ≤ m ∧ m ≤ 6
  · by_cases g : 0 ≤ n ∧ n ≤ 6
    · have y1 := fun w => rmay_yes m w h.1 h.2
      have y2 := fun w => rmay_yes n w g.1 g.2
      rcases in_cases h with rfl | rfl | rfl | rfl | rfl | rfl | rfl <;> rcases in_cases g with rfl | rfl | rfl | rfl | rfl | rfl | rfl
      all_goals
        clear h g
        go_enter Tryd.func14, Tryd.ntmps14
        go_wp2_with (go_at_call 12; first | ((with_reducible refine (y1 _).mono ?_); rintro e w' ⟨rfl, rfl⟩) | ((with_reducible refine (y2 _).mono ?_); rintro e w' ⟨rfl, rfl⟩))
        go_ret
        exact ⟨rfl, rfl⟩
    · have y1 := fun w => rmay_yes m w h.1 h.2
      have y2 := fun w => rmay_no n w g
      rw [kn_out g, goes_to_none _ (kn_le m)]
      clear h g
      go_enter Tryd.func14, Tryd.ntmps14
      go_wp2_with (go_at_call 12; first | ((with_reducible refine (y1 _).mono ?_); rintro e w' ⟨rfl, rfl⟩) | ((with_reducible refine (y2 _).mono ?_); rintro e w' ⟨rfl, rfl⟩))
      go_ret
      exact ⟨rfl, rfl⟩
  · have y1 := fun w => rmay_no m w h
    rw [kn_out h, goes_none]
    clear h
    go_enter Tryd.func14, Tryd.ntmps14
    go_wp2_with (go_at_call 12; (with_reducible refine (y1 _).mono ?_); rintro e w' ⟨rfl, rfl⟩)
    go_ret
    exact ⟨rfl, rfl⟩
theorem rcom_g {m n : Int} {b : Bool} (w : World) (h : goesN (kn m) (kn n) = b) : Gives w 14 #[.int .i64 m, .int .i64 n] (.bool b) := fun w' hb => by rw [← h]; exact acc_same hb (rcompat_any m n w')
theorem rpar_g {m : Int} {v : Nat} (w : World) (h : parN (kn m) = v) : Gives w 18 #[.int .i64 m] (.int .i64 (v : Nat)) := fun w' hb => by rw [← h]; exact acc_same hb (rparent_any m w')
theorem rname_g {m : Int} {s : ByteArray} (w : World) (h : nameN (kn m) = s) : Gives w 10 #[.int .i64 m] (.string s) := fun w' hb => by rw [← h]; exact acc_same hb (rname_any m w')
theorem rre_g {m : Int} {v : Nat} (w : World) (h : reN (kn m) = v) : Gives w 20 #[.int .i64 m] (.int .i64 (v : Nat)) := fun w' hb => by rw [← h]; exact acc hb (rre_any m w')
theorem rim_g {m : Int} {v : Nat} (w : World) (h : imN (kn m) = v) : Gives w 33 #[.int .i64 m] (.int .i64 (v : Nat)) := fun w' hb => by rw [← h]; exact acc hb (rim_any m w')
theorem rsym_any (m n : Int) (w0 w : World) (hb : Below w0.heap.size w0 w) :
    Calls Tryd.prog 16 #[.int .i64 m, .int .i64 n] w fun e w' => e = .returned (.bool (symB (kn m) (kn n))) ∧ Below w0.heap.size w0 w' := by
  unfold symB
  cases h1 : goesN (kn m) (kn n)
  · have q1 : Gives w0 14 #[.int .i64 m, .int .i64 n] (.bool false) := rcom_g w0 h1
    obtain ⟨b, h2⟩ : ∃ b, goesN (kn n) (kn m) = b := ⟨_, rfl⟩
    have q2 : Gives w0 14 #[.int .i64 n, .int .i64 m] (.bool b) := rcom_g w0 h2
    rw [h2, Bool.false_or]
    clear h1 h2
    go_enter Tryd.func16, Tryd.ntmps16
    go_wp2_with (go_at_call 14; refine Gives.use (w0 := w0) (by with_reducible assumption) (by assumption) ?_; intro w1 hb1)
    go_ret
    exact ⟨rfl, by assumption⟩
  · have q1 : Gives w0 14 #[.int .i64 m, .int .i64 n] (.bool true) := rcom_g w0 h1
    rw [Bool.true_or]
    clear h1
    go_enter Tryd.func16, Tryd.ntmps16
    go_wp2_with (go_at_call 14; refine Gives.use (w0 := w0) (by with_reducible assumption) (by assumption) ?_; intro w1 hb1)
    go_ret
    exact ⟨rfl, by assumption⟩
theorem rsym_g {m n : Int} {b : Bool} (w : World) (h : symB (kn m) (kn n) = b) : Gives w 16 #[.int .i64 m, .int .i64 n] (.bool b) := fun w' hb => by rw [← h]; exact rsym_any m n w w' hb
theorem rcov_any (m n : Int) (w0 w : World) (hb : Below w0.heap.size w0 w) :
    Calls Tryd.prog 32 #[.int .i64 m, .int .i64 n] w fun e w' => e = .returned (.bool (covB (kn m) (kn n))) ∧ Below w0.heap.size w0 w' := by
  unfold covB
  obtain ⟨a, ha⟩ : ∃ a, reN (kn m) = a := ⟨_, rfl⟩
  obtain ⟨b, hb'⟩ : ∃ b, imN (kn m) = b := ⟨_, rfl⟩
  obtain ⟨c, hc⟩ : ∃ c, reN (kn n) = c := ⟨_, rfl⟩
  obtain ⟨d, hd⟩ : ∃ d, imN (kn n) = d := ⟨_, rfl⟩
  have q1 : Gives w0 20 #[.int .i64 m] (.int .i64 (a : Nat)) := rre_g w0 ha
  have q2 : Gives w0 33 #[.int .i64 m] (.int .i64 (b : Nat)) := rim_g w0 hb'
  have q3 : Gives w0 20 #[.int .i64 n] (.int .i64 (c : Nat)) := rre_g w0 hc
  have q4 : Gives w0 33 #[.int .i64 n] (.int .i64 (d : Nat)) := rim_g w0 hd
  rw [ha, hb', hc, hd]
  clear ha hb' hc hd
  by_cases h1 : c ≤ a
  · have e1 : decide (c ≤ a) = true := by simpa using h1
    rw [e1, Bool.true_and]
    go_enter Tryd.func32, Tryd.ntmps32
    go_wp2_with ((first | go_at_call 20 | go_at_call 33); refine Gives.use (w0 := w0) (by with_reducible assumption) (by assumption) ?_; intro w1 hb1)
    go_ret
    exact ⟨rfl, by assumption⟩
  · have e1 : decide (c ≤ a) = false := by simpa using h1
    rw [e1, Bool.false_and]
    go_enter Tryd.func32, Tryd.ntmps32
    go_wp2_with ((first | go_at_call 20 | go_at_call 33); refine Gives.use (w0 := w0) (by with_reducible assumption) (by assumption) ?_; intro w1 hb1)
    go_ret
    exact ⟨rfl, by assumption⟩
theorem rcov_g {m n : Int} {b : Bool} (w : World) (h : covB (kn m) (kn n) = b) : Gives w 32 #[.int .i64 m, .int .i64 n] (.bool b) := fun w' hb => by rw [← h]; exact rcov_any m n w w' hb
end Go.Proofs.YtagbfonmeolnjaaDoor
