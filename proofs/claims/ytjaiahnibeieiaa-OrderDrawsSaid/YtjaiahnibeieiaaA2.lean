/- Numbers in a block of their own; a list that is read; Round and Drawn; two lists that are alike; the chapter's example. -/
import Derived.Test.YtjaiahnibeieiaaA1
import Derived.BigQuiet
namespace Go.Proofs.Ytjaiahnibeieiaa
open Go Go.RowKit

abbrev wp (b : Nat) : Value := .pointer (some ⟨b, 0, none⟩)
theorem set_other {W : World} {k o i : Nat} {u : Value} (h : i ≠ k) : (W.setCell ⟨k, o, none⟩ u).heap[i]? = W.heap[i]? := Below.heap_setCell W ⟨k, o, none⟩ u i h
theorem cell_far {W : World} {k o o' : Nat} {u : Value} (h : o' ≠ o) : (W.setCell ⟨k, o, none⟩ u).cell? ⟨k, o', none⟩ = W.cell? ⟨k, o', none⟩ :=
  World.cell?_setCell_other _ _ _ _ (fun e => h (by injection e with e1 e2; exact e2.symm))
theorem cell_near {W : World} {k o : Nat} {u x : Value} (h : W.cell? ⟨k, o, none⟩ = some x) : (W.setCell ⟨k, o, none⟩ u).cell? ⟨k, o, none⟩ = some u :=
  World.cell?_setCell_same' _ _ _ (by rw [h]; rfl)
theorem block_add' (a : Addr) (n : Nat) : (a.add n).block = a.block := by unfold Addr.add; split <;> rfl
/-- one value is changed -/
def upd (f : Nat → Int) (k : Nat) (x : Int) : Nat → Int := fun i => if i = k then x else f i
/-- numbers in a block of their own -/
structure Arr (W : World) (g n : Nat) (f : Nat → Int) : Prop where
  at' : ∀ i, i < n → W.cell? ⟨g, i, none⟩ = some (.int .i64 (f i))
  fz : ∀ o, W.frozen? ⟨g, o, none⟩ = false
  lt : g < W.heap.size
section
variable {W W' : World} {g n : Nat} {f f' : Nat → Int}
theorem Arr.keep (h : Arr W g n f) (hs : W.heap.size ≤ W'.heap.size) (hg : W'.heap[g]? = W.heap[g]?) : Arr W' g n f :=
  ⟨fun i hi => (World.cell?_of_block (w := W) (a := ⟨g, i, none⟩) hg).trans (h.at' i hi), fun o => (World.frozen?_of_block (w := W) (a := ⟨g, o, none⟩) hg).trans (h.fz o), Nat.lt_of_lt_of_le h.lt hs⟩
theorem Arr.below (h : Arr W g n f) (hb : Below W.heap.size W W') : Arr W' g n f := h.keep hb.size (hb.block g h.lt)
theorem Arr.only {T : Nat → Prop} (h : Arr W g n f) (ho : OnlyS T W W') (hn : ¬ T g) : Arr W' g n f := h.keep ho.size (ho.block g h.lt hn)
theorem Arr.congr (h : Arr W g n f) (he : ∀ i, i < n → f i = f' i) : Arr W g n f' := ⟨fun i hi => by rw [← he i hi]; exact h.at' i hi, h.fz, h.lt⟩
theorem Arr.set (h : Arr W g n f) (k : Nat) (x : Int) : Arr (W.setCell ⟨g, k, none⟩ (.int .i64 x)) g n (upd f k x) := by
  refine ⟨fun i hi => ?_, fun o => by rw [World.frozen?_setCell]; exact h.fz o, by simpa [World.setCell] using h.lt⟩
  unfold upd
  by_cases e : i = k
  · subst e; rw [if_pos rfl]; exact cell_near (h.at' i hi)
  · rw [if_neg e, cell_far e]; exact h.at' i hi
end
/-- the first k are laid -/
def fill (F : Nat → Int) (k : Nat) : Nat → Int := fun i => if i < k then F i else 0
theorem Arr.fill {W : World} {g n k : Nat} {F : Nat → Int} (h : Arr W g n (fill F k)) : Arr (W.setCell ⟨g, k, none⟩ (.int .i64 (F k))) g n (Ytjaiahnibeieiaa.fill F (k + 1)) :=
  (h.set k (F k)).congr fun i _ => by
    unfold upd Ytjaiahnibeieiaa.fill
    by_cases e : i = k
    · subst e; rw [if_pos rfl, if_pos (Nat.lt_succ_self _)]
    · rw [if_neg e]
      by_cases e2 : i < k
      · rw [if_pos e2, if_pos (by omega)]
      · rw [if_neg e2, if_neg (by omega)]
theorem info3 : (Try.prog.info? 3).map (fun i => (i.zero, i.size, i.bytes)) = some (some (.int .i64 0), 1, 8) := by kernel_rfl
theorem mk_ints (W : World) (N : Nat) (hN : N ≤ 65536) : (Instr.makeSlice 23 (.int .i64 (N : Int)) (.int .i64 (N : Int))).run Try.prog W = .ok (.slice (some ⟨W.heap.size, 0, none⟩) N N) (W.alloc (.cells (madeCells #[.int .i64 0] N) 3)) := by
  obtain ⟨i0, hi, hz0, hz1, hz2⟩ := info_parts info3
  have := run_make (P := Try.prog) W 23 3 i0 _ Try.underlying23 hi hz0 .i64 .i64 (N : Int) (N : Int) (by omega) (Int.le_refl _) (by rw [hz2]; omega) (by omega)
  rw [hz1, Int.toNat_natCast, Nat.mul_one] at this
  exact this
theorem heap_new' (w : World) (o : Obj) : (w.alloc o).heap[w.heap.size]? = some o := heap_alloc_new w o
theorem Arr.made (W : World) (N : Nat) : Arr (W.alloc (.cells (madeCells #[.int .i64 0] N) 3)) W.heap.size N (fun _ => 0) := by
  have hb := heap_new' W (.cells (madeCells #[.int .i64 0] N) 3)
  refine ⟨fun i hi => ?_, fun o => frozen_of_row _ _ _ _ _ hb, by simp⟩
  rw [cell_of_row _ _ _ _ _ _ hb]
  simp [madeCells, hi, Nat.mod_one]
/-- a list that is read -/
def Rf (W : World) (A : Option Addr) (n : Nat) (f : Nat → Int) : Prop := ∀ i, i < n → ∃ ad, A = some ad ∧ ad.block < W.heap.size ∧ W.cell? (ad.add i) = some (.int .i64 (f i))
theorem Rf.below {W W' : World} {A : Option Addr} {n : Nat} {f : Nat → Int} (h : Rf W A n f) (hb : Below W.heap.size W W') : Rf W' A n f := by
  intro i hi
  obtain ⟨ad, h1, h2, h3⟩ := h i hi
  exact ⟨ad, h1, Nat.lt_of_lt_of_le h2 hb.size, by rw [hb.cell (p := ad.add i) (by rw [block_add']; exact h2)]; exact h3⟩
theorem Rf.keep {W W' : World} {A : Option Addr} {n : Nat} {f : Nat → Int} (h : Rf W A n f) (hs : W.heap.size ≤ W'.heap.size) (hk : ∀ ad, A = some ad → 0 < n → W'.heap[ad.block]? = W.heap[ad.block]?) : Rf W' A n f := by
  intro i hi
  obtain ⟨ad, h1, h2, h3⟩ := h i hi
  exact ⟨ad, h1, Nat.lt_of_lt_of_le h2 hs, (World.cell?_of_block (w := W) (a := ad.add i) (by rw [block_add']; exact hk ad h1 (by omega))).trans h3⟩
theorem Rf.congr {W : World} {A : Option Addr} {n : Nat} {f f' : Nat → Int} (h : Rf W A n f) (he : ∀ i, i < n → f i = f' i) : Rf W A n f' := fun i hi => by
  obtain ⟨ad, h1, h2, h3⟩ := h i hi
  exact ⟨ad, h1, h2, by rw [← he i hi]; exact h3⟩
theorem Arr.rf {W : World} {g n : Nat} {f : Nat → Int} (h : Arr W g n f) : Rf W (some ⟨g, 0, none⟩) n f := fun i hi => ⟨_, rfl, h.lt, by rw [add_at]; exact h.at' i hi⟩
/-- what Round answers -/
def Rounds (W : World) (N M : Nat) (e : Ending) (w' : World) : Prop := ∃ g, e = .returned (.slice (some ⟨g, 0, none⟩) M M) ∧ Arr w' g M (fun i => ((i % N : Nat) : Int)) ∧ Below W.heap.size W w'
theorem may_nat {N M : Nat} (h1 : 1 ≤ N) (h2 : N ≤ 64) (h3 : M ≤ 65536) : mayB (N : Int) (M : Int) = true := by unfold mayB; simp; omega
theorem may_yes {n m : Int} (h : mayB n m = true) : ∃ N M : Nat, n = N ∧ m = M ∧ 1 ≤ N ∧ N ≤ 64 ∧ M ≤ 65536 := by
  unfold mayB at h
  simp at h
  exact ⟨n.toNat, m.toNat, by omega, by omega, by omega, by omega, by omega⟩
set_option maxHeartbeats 1000000 in
theorem round_yes {N M : Nat} (W : World) (h1 : 1 ≤ N) (h2 : N ≤ 64) (h3 : M ≤ 65536) : Calls Try.prog 8 #[.int .i64 (N : Int), .int .i64 (M : Int)] W (Rounds W N M) := by
  have HF := Lib.hid (may_any (N : Int) (M : Int) W)
  rw [may_nat h1 h2 h3] at HF
  have hmk := mk_ints W M h3
  have H0 := Lib.hid (Arr.made W M)
  have B0 := Lib.hid (box_below W (.cells (madeCells #[.int .i64 0] M) 3))
  go_enter Try.func8, Try.ntmps8
  go_wp2_with (go_at_call 20; ((with_reducible refine HF.out.mono ?_); rintro e w' ⟨rfl, rfl⟩))
  generalize W.alloc (.cells (madeCells #[.int .i64 0] M) 3) = W1 at H0 B0 ⊢
  clear hmk HF
  obtain ⟨g, hg⟩ : ∃ g, W.heap.size = g := ⟨_, rfl⟩
  have HG := Lib.hid hg
  rw [hg] at H0
  rw [hg]
  clear hg
  go_loopw [15] (fun t wr => ∃ k : Nat, k ≤ M ∧ t = .int .i64 k ∧ Arr wr g M (fill (fun i => ((i % N : Nat) : Int)) k) ∧ Below W.heap.size W wr) (fun t _ => M - (intOf t).toNat)
  case atStart => exact ⟨0, by omega, rfl, H0.out.congr (fun i _ => (if_neg (Nat.not_lt_zero i)).symm), B0.out⟩
  case round =>
    obtain ⟨k, hk, rfl, hn, hb⟩ := hrel
    have H := Lib.hid hn
    have HB := Lib.hid hb
    clear hn hb H0 B0
    by_cases hlt : k < M
    · have q0 := H.out.at' k hlt
      have f0 := H.out.fz k
      have hm : ((k : Int)).tmod (N : Int) = ((k % N : Nat) : Int) := by rw [Int.tmod_eq_emod_of_nonneg (by omega)]; simp
      have hN0 : ¬ (N : Int) = 0 := by omega
      have HE := Lib.hid (H.out.fill)
      have hgl : W.heap.size ≤ g := by rw [HG.out]; exact Nat.le_refl _
      have HO := Lib.hid (HB.out.setCell (p := ⟨g, k, none⟩) hgl (.int .i64 ((k % N : Nat) : Int)))
      generalize fill (fun i => ((i % N : Nat) : Int)) k k = x0 at q0
      clear H HB hgl
      go_wp2
      go_roundw
      case rel => exact ⟨k + 1, by omega, by go_num, HE.out, HO.out⟩
      case measure => simp [intOf]; omega
    · obtain rfl : k = M := by omega
      have HE := Lib.hid (H.out.congr (f' := fun i => ((i % N : Nat) : Int)) (fun i hi => if_pos hi))
      clear H
      go_wp2
      go_ret
      exact ⟨g, rfl, HE.out, HB.out⟩
theorem round_no {n m : Int} (W : World) (h : mayB n m = false) : Calls Try.prog 8 #[.int .i64 n, .int .i64 m] W fun e w' => e = .returned (.slice none 0 0) ∧ W = w' := by
  have HF := Lib.hid (may_any n m W)
  rw [h] at HF
  go_enter Try.func8, Try.ntmps8
  go_wp2_with (go_at_call 20; ((with_reducible refine HF.out.mono ?_); rintro e w' ⟨rfl, rfl⟩))
  go_ret
  exact ⟨rfl, rfl⟩
end Go.Proofs.Ytjaiahnibeieiaa
