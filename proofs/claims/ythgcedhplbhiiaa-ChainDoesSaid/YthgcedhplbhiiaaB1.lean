/- Links that were made above what there was; the chapter's example. -/
import Derived.Test.YthgcedhplbhiiaaA9
namespace Go.Proofs.Ythgcedhplbhiiaa
open Go Go.RowKit

structure One (w W : World) (b g N : Nat) (L : Nat → List Nat) : Prop where
  ln : Ln W b g N L
  bel : Below w.heap.size w W
  hb : w.heap.size ≤ b
  hg : w.heap.size ≤ g
section
variable {w W W' : World} {b g N : Nat} {L L' : Nat → List Nat} {v : Value} {e : Ending}
theorem One.did (h : One w W b g N L) (hd : Did W b g N v L' e W') : e = .returned v ∧ One w W' b g N L' ∧ OnlyS (· = g) W W' :=
  ⟨hd.1, ⟨hd.2.1, h.bel.trans (hd.2.2.below (fun k hk => by rw [hk]; exact h.hg) h.bel.size), h.hb, h.hg⟩, hd.2.2⟩
theorem One.below (h : One w W b g N L) (hb : Below W.heap.size W W') : One w W' b g N L := ⟨h.ln.below hb, h.bel.trans (hb.mono h.bel.size), h.hb, h.hg⟩
theorem one_new {n : Int} (hn : n ≤ 4096) (w W : World) (hb : Below w.heap.size w W) : Calls Try.prog 7 #[.int .i64 n] W fun e w' => ∃ b g, e = .returned (wp b) ∧ One w w' b g (cl n) (fun _ => []) ∧ Below W.heap.size W w' ∧ W.heap.size ≤ b ∧ W.heap.size ≤ g := by
  refine (new_any n W hn).mono ?_
  rintro e w' ⟨b, g, rfl, h1, h2, h3, h4⟩
  exact ⟨b, g, rfl, ⟨h1, hb.trans (h2.mono hb.size), Nat.le_trans hb.size h3, Nat.le_trans hb.size h4⟩, h2, h3, h4⟩
end
/-- one row alone -/
def sole (r : Nat) (l : List Nat) : Nat → List Nat := upd (fun _ => []) r l
theorem sole_nil (r : Nat) : sole r [] = fun _ => [] := by funext k; unfold sole upd; split <;> rfl
theorem sole_upd (r : Nat) (l l' : List Nat) : upd (sole r l) r l' = sole r l' := by funext k; unfold sole upd; split <;> rfl
theorem sole_same (r : Nat) (l : List Nat) : sole r l r = l := upd_same _ _ _
theorem sole_out {N r : Nat} {l : List Nat} {i : Int} (h : ∀ k ∈ l, (k : Int) ≠ i) : At N (sole r l) i none := by
  intro s _ k hk
  unfold sole upd at hk
  split at hk
  · exact h k hk
  · simp at hk
theorem sole_at {N r k n : Nat} {l : List Nat} (hr : r < N) (h : l[k]? = some n) : At N (sole r l) (n : Int) (some (r, k)) := ⟨hr, n, by rw [sole_same]; exact h, rfl⟩
theorem sole_back {N r i : Nat} {l : List Nat} (hr : r < N) (hi : i < N) : backB N none (r : Int) (i : Int) = true ∧ backL N (sole r l) none (r : Int) (i : Int) = sole r (l ++ [i]) := by
  have e : backB N none (r : Int) (i : Int) = true := by unfold backB; rw [has_is, has_is, decide_eq_true hr, decide_eq_true hi]; rfl
  refine ⟨e, ?_⟩
  unfold backL
  rw [e, if_pos rfl, Int.toNat_natCast, Int.toNat_natCast, sole_same, sole_upd]
theorem sole_ahead {N r k i : Nat} {l : List Nat} (hi : i < N) : aheadB N (some (r, k)) none (r : Int) (i : Int) = true ∧ aheadL N (sole r l) (some (r, k)) none (r : Int) (i : Int) = sole r (l.take k ++ i :: l.drop k) := by
  have e : aheadB N (some (r, k)) none (r : Int) (i : Int) = true := by unfold aheadB sameRow; rw [has_is, decide_eq_true hi]; simp
  refine ⟨e, ?_⟩
  unfold aheadL
  rw [e, if_pos rfl, Int.toNat_natCast]
  simp only [sole_same]
  rw [sole_upd]
theorem sole_list {N r : Nat} {l : List Nat} (hr : r < N) : listOf N (sole r l) (r : Int) = l := by
  unfold listOf
  rw [has_is, decide_eq_true hr, if_pos rfl, Int.toNat_natCast, sole_same]
theorem Rd.lit3 (W : World) (x y z : Nat) : Rd (W.alloc (.cells #[.int .i64 (x : Int), .int .i64 (y : Int), .int .i64 (z : Int)] 3)) W.heap.size (some ⟨W.heap.size, 0, none⟩) 3 [x, y, z] := by
  refine ⟨Nat.le_refl _, by decide, by simp, fun a ha => ?_⟩
  obtain rfl : (⟨W.heap.size, 0, none⟩ : Addr) = a := by simpa using ha
  refine ⟨_, rfl, Nat.le_refl _, by simp, fun i hi => ?_⟩
  have h3 : i = 0 ∨ i = 1 ∨ i = 2 := by simp at hi; omega
  rcases h3 with rfl | rfl | rfl <;> simp [go_sem]
set_option maxHeartbeats 1000000 in
theorem awake_any (w : World) : Calls Try.prog 6 #[] w fun e w' => e = .returned (.bool true) ∧ Below w.heap.size w w' := by
  go_enter Try.func6, Try.ntmps6
  go_wp2_with fail
  refine (one_new (n := 5) (by omega) w w (Below.refl _ _)).mono ?_
  rintro e w1 ⟨b, g, rfl, hf, -⟩
  rw [show cl 5 = 5 from rfl, ← sole_nil 0] at hf
  have H1 := Lib.hid hf
  clear hf
  go_wp2_with fail
  refine (H1.out.ln.back (i := 3) (sole_out (by simp)) 0).mono ?_
  intro e w2 hd
  obtain ⟨rfl, hf, -⟩ := H1.out.did hd
  have H2 : Hid (One w w2 b g 5 (sole 0 [3])) := ((sole_back (N := 5) (r := 0) (i := 3) (l := []) (by omega) (by omega)).2 ▸ hf : One w w2 b g 5 (sole 0 ([] ++ [3])))
  rw [show backB 5 none 0 3 = true from rfl]
  clear hf hd H1
  go_wp2_with fail
  refine (H2.out.ln.back (i := 1) (sole_out (by simp)) 0).mono ?_
  intro e w3 hd
  obtain ⟨rfl, hf, -⟩ := H2.out.did hd
  have H3 : Hid (One w w3 b g 5 (sole 0 [3, 1])) := ((sole_back (N := 5) (r := 0) (i := 1) (l := [3]) (by omega) (by omega)).2 ▸ hf : One w w3 b g 5 (sole 0 ([3] ++ [1])))
  rw [show backB 5 none 0 1 = true from rfl]
  clear hf hd H2
  go_wp2_with fail
  refine (H3.out.ln.ahead (i := 2) (sole_at (k := 1) (n := 1) (by omega) rfl) (sole_out (by simp)) 0).mono ?_
  intro e w4 hd
  obtain ⟨rfl, hf, -⟩ := H3.out.did hd
  have H4 : Hid (One w w4 b g 5 (sole 0 [3, 2, 1])) := ((sole_ahead (N := 5) (r := 0) (k := 1) (i := 2) (l := [3, 1]) (by omega)).2 ▸ hf : One w w4 b g 5 (sole 0 (([3, 1] : List Nat).take 1 ++ 2 :: ([3, 1] : List Nat).drop 1)))
  rw [show aheadB 5 (some (0, 1)) none 0 2 = true from rfl]
  clear hf hd H3
  go_wp2_with fail
  have hl := H4.out.ln.list 0
  rw [show listOf 5 (sole 0 [3, 2, 1]) 0 = [3, 2, 1] from rfl] at hl
  refine hl.mono ?_
  rintro e w5 ⟨A, c, rfl, hr, hb⟩
  have H5 := Lib.hid (H4.out.below hb)
  have HR := Lib.hid (hr.below (box_below w5 (.cells #[.int .i64 3, .int .i64 2, .int .i64 1] 3)))
  clear hl H4 hr hb
  go_wp2_with fail
  have hs := same_list HR.out (Rd.lit3 w5 3 2 1) (by simp)
  refine hs.mono ?_
  rintro e w6 ⟨rfl, hb⟩
  have H6 := Lib.hid ((H5.out.below (box_below _ _)).below hb)
  clear hs hb
  go_wp2_with fail
  go_ret
  exact ⟨rfl, H6.out.bel⟩
end Go.Proofs.Ythgcedhplbhiiaa
