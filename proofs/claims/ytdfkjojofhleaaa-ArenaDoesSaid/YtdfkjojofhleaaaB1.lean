/- One arena beside other blocks; the chapter's example. -/
import Derived.Test.YtdfkjojofhleaaaA5
namespace Go.Proofs.Ytdfkjojofhleaaa
open Go Go.RowKit

/-- one arena that was made above what there was, and other blocks beside it -/
def One (w W : World) (b : Nat) (K : Nat → Prop) (m : Nat) (ps : List Pl) (fs : List Nat) : Prop :=
  ∃ S, Ar W b S m ps fs ∧ w.heap.size ≤ b ∧ Below w.heap.size w W ∧ ∀ k, K k → k < W.heap.size ∧ ¬ S k ∧ w.heap.size ≤ k
theorem One.bel {w W : World} {b m : Nat} {K : Nat → Prop} {ps : List Pl} {fs : List Nat} (h : One w W b K m ps fs) : Below w.heap.size w W := by
  obtain ⟨S, _, _, h4, _⟩ := h
  exact h4
theorem One.bounds {w W : World} {b m : Nat} {K : Nat → Prop} {ps : List Pl} {fs : List Nat} (h : One w W b K m ps fs) : fs.length ≤ ps.length ∧ ps.length ≤ m ∧ m ≤ 4096 := by
  obtain ⟨S, h1, _⟩ := h
  exact h1.bounds
theorem One.klt {w W : World} {b m : Nat} {K : Nat → Prop} {ps : List Pl} {fs : List Nat} (h : One w W b K m ps fs) {k : Nat} (hk : K k) : k < W.heap.size ∧ w.heap.size ≤ k := by
  obtain ⟨S, _, _, _, h5⟩ := h
  exact ⟨(h5 k hk).1, (h5 k hk).2.2⟩
/-- other blocks change, and some are new -/
theorem One.turn {w W W' : World} {b m : Nat} {K K' T : Nat → Prop} {ps : List Pl} {fs : List Nat} (h : One w W b K m ps fs) (ho : OnlyS T W W') (hT : ∀ k, T k → K k) (hK : ∀ k, K' k → (K k ∨ W.heap.size ≤ k) ∧ k < W'.heap.size) : One w W' b K' m ps fs := by
  obtain ⟨S, h1, h3, h4, h5⟩ := h
  refine ⟨S, h1.keep ho (fun k hk hk2 => (h5 k (hT k hk2)).2.1 hk), h3, h4.trans (ho.below (fun k hk => (h5 k (hT k hk)).2.2) h4.size), fun k hk => ?_⟩
  obtain ⟨hk1, hk2⟩ := hK k hk
  refine ⟨hk2, fun hs => ?_, ?_⟩
  · rcases hk1 with q | q
    · exact (h5 k q).2.1 hs
    · have := (h1.lt hs).2; omega
  · rcases hk1 with q | q
    · exact (h5 k q).2.2
    · have := h4.size; omega
theorem One.below {w W W' : World} {b m : Nat} {K : Nat → Prop} {ps : List Pl} {fs : List Nat} (h : One w W b K m ps fs) (hb : Below W.heap.size W W') : One w W' b K m ps fs :=
  h.turn (OnlyS.of_below (S := fun _ => False) hb) (fun _ h => h.elim) (fun _ hk => ⟨.inl hk, Nat.lt_of_lt_of_le (h.klt hk).1 hb.size⟩)
theorem one_does {w W : World} {b m f : Nat} {K : Nat → Prop} {ps ps' : List Pl} {fs fs' : List Nat} {args : Array Value} {v : Value} (h : One w W b K m ps fs) (hc : ∀ S, Ar W b S m ps fs → Calls Try.prog f args W (Does W b S v m ps' fs')) :
    Calls Try.prog f args W fun e w' => e = .returned v ∧ One w w' b K m ps' fs' ∧ Keeps K W w' := by
  obtain ⟨S, h1, h3, h4, h5⟩ := h
  refine (hc S h1).mono ?_
  rintro e w' ⟨S', rfl, k1, k3, k4⟩
  refine ⟨rfl, ⟨S', k1, h3, h4.trans (k3.below (fun k hk => Nat.le_trans h3 (h1.lt hk).1) h4.size), fun k hk => ⟨Nat.lt_of_lt_of_le (h5 k hk).1 k3.size, fun hs => ?_, (h5 k hk).2.2⟩⟩, ⟨k3.size, fun k hk => k3.block k (h5 k hk).1 (h5 k hk).2.1⟩⟩
  rcases k4 k hs with q | q
  · exact (h5 k hk).2.1 q
  · have := (h5 k hk).1; omega
theorem one_new (n : Int) (w W : World) (hb : Below w.heap.size w W) :
    Calls Try.prog 7 #[.int .i64 n] W fun e w' => e = .returned (wp W.heap.size) ∧ One w w' W.heap.size (fun _ => False) (cl n) [] [] ∧ Below W.heap.size W w' := by
  refine (new_any n W).mono ?_
  rintro e w' ⟨rfl, h1, h2⟩
  exact ⟨rfl, ⟨_, ⟨_, _, h1, fun _ => Iff.rfl⟩, hb.size, hb.trans (h2.mono hb.size), fun _ h => h.elim⟩, h2⟩
theorem one_len {w W : World} {b m : Nat} {K : Nat → Prop} {ps : List Pl} {fs : List Nat} (h : One w W b K m ps fs) :
    Calls Try.prog 17 #[wp b] W fun e w' => e = .returned (.int .i64 ((ps.length : Int) - (fs.length : Int))) ∧ ∃ k, w' = W.drewN k := by
  obtain ⟨S, ⟨pv, fv, h1, _⟩, _⟩ := h
  exact len_any h1
theorem one_left {w W : World} {b m : Nat} {K : Nat → Prop} {ps : List Pl} {fs : List Nat} (h : One w W b K m ps fs) :
    Calls Try.prog 16 #[wp b] W fun e w' => e = .returned (.int .i64 ((m : Int) - ((ps.length : Int) - (fs.length : Int)))) ∧ ∃ k, w' = W.drewN k := by
  obtain ⟨S, ⟨pv, fv, h1, _⟩, _⟩ := h
  exact left_any h1
theorem one_get {w W : World} {b m : Nat} {K : Nat → Prop} {ps : List Pl} {fs : List Nat} (h : One w W b K m ps fs) (i : Int) :
    Calls Try.prog 15 #[wp b, .int .i64 i] W fun e w' => e = .returned (.tuple #[.int .i64 (hasI ps i), .bool (usedB ps i)]) ∧ W = w' := by
  obtain ⟨S, h1, _⟩ := h
  exact get_any h1 i
set_option maxHeartbeats 1000000 in
theorem awake_any (w : World) : Calls Try.prog 6 #[] w fun e w' => e = .returned (.bool true) ∧ Below w.heap.size w w' := by
  go_enter Try.func6, Try.ntmps6
  go_wp2_with fail
  refine (one_new 2 w w (Below.refl _ _)).mono ?_
  rintro e w1 ⟨rfl, hf, _⟩
  have H1 := Lib.hid hf
  clear hf
  go_wp2_with fail
  refine (one_does H1.out fun S h => take_new h 7 (by decide)).mono ?_
  rintro e w2 ⟨rfl, hf, _⟩
  have H2 := Lib.hid hf
  clear hf H1
  go_wp2_with fail
  refine (one_does H2.out fun S h => take_new h 8 (by decide)).mono ?_
  rintro e w3 ⟨rfl, hf, _⟩
  have H3 := Lib.hid hf
  clear hf H2
  go_wp2_with fail
  refine (one_does H3.out fun S h => free_yes (k := 0) h (by simp) rfl (by simp)).mono ?_
  rintro e w4 ⟨rfl, hf, _⟩
  have H4 := Lib.hid hf
  clear hf H3
  go_wp2_with fail
  refine (one_does H4.out fun S h => take_old (gs := []) (i := 0) h 9 (by simp)).mono ?_
  rintro e w5 ⟨rfl, hf, _⟩
  have H5 := Lib.hid hf
  clear hf H4
  go_wp2_with fail
  refine (one_get H5.out 0).mono ?_
  rintro e w6 ⟨rfl, rfl⟩
  go_wp2_with fail
  go_ret
  exact ⟨congrArg (fun q => Ending.returned (Value.bool q)) (show (hasI [((9 : Int), true), (8, true)] 0 == 9) = true by decide), H5.out.bel⟩
end Go.Proofs.Ytdfkjojofhleaaa
