/- Drawn; two lists that are alike; the chapter's example. -/
import Derived.Test.YtjaiahnibeieiaaA2
namespace Go.Proofs.Ytjaiahnibeieiaa
open Go Go.RowKit

/-- the seed behind k draws -/
def seedN (s : Nat) : Nat → Nat
  | 0 => s
  | k + 1 => nx (seedN s k)
theorem seedN_lt {s : Nat} (h : s < 18446744073709551616) (k : Nat) : seedN s k < 18446744073709551616 := by
  induction k with
  | zero => exact h
  | succ k ih => exact nx_lt ih
/-- what is drawn -/
def drawn (s N : Nat) : Nat → Int := fun i => ((seedN s (i + 1) % N : Nat) : Int)
def Draws (W : World) (N M s : Nat) (e : Ending) (w' : World) : Prop := ∃ g, e = .returned (.slice (some ⟨g, 0, none⟩) M M) ∧ Arr w' g M (drawn s N) ∧ Below W.heap.size W w'
set_option maxHeartbeats 1000000 in
theorem drawn_yes {N M s : Nat} (W : World) (h1 : 1 ≤ N) (h2 : N ≤ 64) (h3 : M ≤ 65536) (hs : s < 18446744073709551616) : Calls Try.prog 9 #[.int .i64 (N : Int), .int .i64 (M : Int), .int .u64 (s : Int)] W (Draws W N M s) := by
  have HF := Lib.hid (may_any (N : Int) (M : Int) W)
  rw [may_nat h1 h2 h3] at HF
  have hmk := mk_ints W M h3
  have H0 := Lib.hid (Arr.made W M)
  have B0 := Lib.hid (box_below W (.cells (madeCells #[.int .i64 0] M) 3))
  go_enter Try.func9, Try.ntmps9
  go_wp2_with (go_at_call 20; ((with_reducible refine HF.out.mono ?_); rintro e w' ⟨rfl, rfl⟩))
  generalize W.alloc (.cells (madeCells #[.int .i64 0] M) 3) = W1 at H0 B0 ⊢
  clear hmk HF
  obtain ⟨g, hg⟩ : ∃ g, W.heap.size = g := ⟨_, rfl⟩
  have HG := Lib.hid hg
  rw [hg] at H0
  rw [hg]
  clear hg
  go_loopw [17, 2] (fun t v wr => ∃ k : Nat, k ≤ M ∧ t = .int .i64 k ∧ v = .int .u64 (seedN s k : Int) ∧ Arr wr g M (fill (drawn s N) k) ∧ Below W.heap.size W wr) (fun t _ _ => M - (intOf t).toNat)
  case atStart => exact ⟨0, by omega, rfl, rfl, H0.out.congr (fun i _ => (if_neg (Nat.not_lt_zero i)).symm), B0.out⟩
  case round =>
    obtain ⟨k, hk, rfl, rfl, hn, hb⟩ := hrel
    have H := Lib.hid hn
    have HB := Lib.hid hb
    clear hn hb H0 B0
    by_cases hlt : k < M
    · have q0 := H.out.at' k hlt
      have f0 := H.out.fz k
      have HE := Lib.hid (H.out.fill)
      have hgl : W.heap.size ≤ g := by rw [HG.out]; exact Nat.le_refl _
      have HO := Lib.hid (HB.out.setCell (p := ⟨g, k, none⟩) hgl (.int .i64 (drawn s N k)))
      generalize fill (drawn s N) k k = x0 at q0
      have HX := Lib.hid (next_any (seedN s k) wr (seedN_lt hs k))
      have hy := seedN_lt hs (k + 1)
      have hdr : drawn s N k = ((seedN s (k + 1) % N : Nat) : Int) := rfl
      rw [hdr] at HE HO
      rw [show nx (seedN s k) = seedN s (k + 1) from rfl] at HX
      obtain ⟨y, hyy⟩ : ∃ y, seedN s (k + 1) = y := ⟨_, rfl⟩
      have HD := Lib.hid hyy
      rw [hyy] at HX HE HO hy
      clear hyy
      generalize seedN s k = y0 at HX
      have hr : y % N < N := Nat.mod_lt _ (by omega)
      have hN0 : ¬ (N : Int) = 0 := by omega
      have hm : ((y : Int)).tmod (N : Int) = ((y % N : Nat) : Int) := by rw [Int.tmod_eq_emod_of_nonneg (by omega)]; simp
      have hu : IntKind.u64.wrap (N : Int) = (N : Int) := by rw [IntKind.wrap_u64]; omega
      have hw : IntKind.u64.wrap ((y % N : Nat) : Int) = ((y % N : Nat) : Int) := by rw [IntKind.wrap_u64]; omega
      generalize y % N = r at hr hm hw HE HO
      clear H HB hgl hdr
      go_wp2_with (go_at_call 13; ((with_reducible refine HX.out.mono ?_); rintro e w' ⟨rfl, rfl⟩))
      go_roundw
      case rel => exact ⟨k + 1, by omega, by go_num, by rw [HD.out], HE.out, HO.out⟩
      case measure => simp [intOf]; omega
    · obtain rfl : k = M := by omega
      have HE := Lib.hid (H.out.congr (f' := drawn s N) (fun i hi => if_pos hi))
      clear H
      go_wp2
      go_ret
      exact ⟨g, rfl, HE.out, HB.out⟩
theorem drawn_no {n m : Int} {s : Nat} (W : World) (h : mayB n m = false) : Calls Try.prog 9 #[.int .i64 n, .int .i64 m, .int .u64 (s : Int)] W fun e w' => e = .returned (.slice none 0 0) ∧ W = w' := by
  have HF := Lib.hid (may_any n m W)
  rw [h] at HF
  go_enter Try.func9, Try.ntmps9
  go_wp2_with (go_at_call 20; ((with_reducible refine HF.out.mono ?_); rintro e w' ⟨rfl, rfl⟩))
  go_ret
  exact ⟨rfl, rfl⟩
set_option maxHeartbeats 1000000 in
theorem same_ints {W : World} {n c1 c2 : Nat} {A1 A2 : Option Addr} {f : Nat → Int} (h1 : Rf W A1 n f) (h2 : Rf W A2 n f) (hl : n ≤ 70000) : Calls Try.prog 21 #[.slice A1 n c1, .slice A2 n c2] W fun e w' => e = .returned (.bool true) ∧ ∃ k, w' = W.drewN k := by
  have H1 := Lib.hid h1
  have H2 := Lib.hid h2
  clear h1 h2
  go_enter Try.func21, Try.ntmps21
  go_wp2
  go_loopw [13] (fun t wr => ∃ k : Nat, k ≤ n ∧ t = .int .i64 k ∧ ∃ j, wr = W.drewN j) (fun t _ => n - (intOf t).toNat)
  case atStart => exact ⟨0, by omega, rfl, 0, rfl⟩
  case round =>
    obtain ⟨k, hk, rfl, j, rfl⟩ := hrel
    by_cases hlt : k < n
    · obtain ⟨g1, rfl, -, e1⟩ := H1.out k hlt
      obtain ⟨g2, rfl, -, e2⟩ := H2.out k hlt
      have e1' : (W.drewN j).cell? (g1.add k) = some (.int .i64 (f k)) := e1
      have e2' : (W.drewN j).cell? (g2.add k) = some (.int .i64 (f k)) := e2
      clear e1 e2
      generalize f k = x at e1' e2'
      generalize hX : W.drewN j = X at e1' e2' ⊢
      have HX := Lib.hid hX
      clear hX
      go_wp2
      go_quiet (fail)
      have HE := Lib.hid (show X.drewN nq = W.drewN (j + nq) by rw [← HX.out]; simp [World.drewN]; omega)
      generalize X.drewN nq = Y at HE ⊢
      clear e1' e2'
      go_wp2
      go_roundw
      case rel => exact ⟨k + 1, by omega, by go_num, j + nq, HE.out⟩
      case measure => simp [intOf]; omega
    · obtain rfl : k = n := by omega
      go_wp2
      go_ret
      exact ⟨rfl, j, rfl⟩
theorem same_any {W : World} {n c1 c2 : Nat} {A1 A2 : Option Addr} {f : Nat → Int} (h1 : Rf W A1 n f) (h2 : Rf W A2 n f) (hl : n ≤ 70000) : Calls Try.prog 11 #[.slice A1 n c1, .slice A2 n c2] W fun e w' => e = .returned (.bool true) ∧ Below W.heap.size W w' := by
  have H := Lib.hid (same_ints (c1 := c1) (c2 := c2) h1 h2 hl)
  clear h1 h2 hl
  go_enter Try.func11, Try.ntmps11
  go_wp2_with (go_at_call 21; ((with_reducible refine H.out.mono ?_); rintro e w' ⟨rfl, k, rfl⟩))
  go_ret
  exact ⟨rfl, drew_below W k⟩
theorem lit3 (W : World) : Rf (W.alloc (.cells #[.int .i64 0, .int .i64 1, .int .i64 0] 3)) (some ⟨W.heap.size, 0, none⟩) 3 (fun i => ((i % 2 : Nat) : Int)) := by
  intro i hi
  refine ⟨_, rfl, by simp, ?_⟩
  have h3 : i = 0 ∨ i = 1 ∨ i = 2 := by omega
  rcases h3 with rfl | rfl | rfl <;> simp [go_sem]
theorem nx_one : nx 1 ≠ 1 := by decide
set_option maxHeartbeats 1000000 in
theorem awake_any (w : World) : Calls Try.prog 7 #[] w fun e w' => e = .returned (.bool true) ∧ Below w.heap.size w w' := by
  go_enter Try.func7, Try.ntmps7
  go_wp2_with fail
  refine (round_yes (N := 2) (M := 3) w (by omega) (by omega) (by omega)).mono ?_
  rintro e w1 ⟨g, rfl, ha, hb⟩
  have HS := Lib.hid (same_any (c1 := 3) (c2 := 3) (ha.below (box_below w1 (.cells #[.int .i64 0, .int .i64 1, .int .i64 0] 3))).rf (lit3 w1) (by omega))
  have HB := Lib.hid (hb.trans ((box_below w1 (.cells #[.int .i64 0, .int .i64 1, .int .i64 0] 3)).mono hb.size))
  clear ha hb
  go_wp2_with fail
  refine HS.out.mono ?_
  rintro e w2 ⟨rfl, hb2⟩
  have HB2 := Lib.hid (HB.out.trans (hb2.mono HB.out.size))
  have hn : ((nx 1 : Int) != 1) = true := by have := nx_one; simp; omega
  have HX := Lib.hid (next_any 1 w2 (by omega))
  generalize nx 1 = y at hn HX
  clear hb2 HS HB
  go_wp2_with fail
  refine HX.out.mono ?_
  rintro e w3 ⟨rfl, rfl⟩
  go_wp2_with fail
  go_ret
  exact ⟨rfl, HB2.out⟩
end Go.Proofs.Ytjaiahnibeieiaa
