/- Links are made: so many places and rows, all empty. -/
import Derived.Test.YthgcedhplbhiiaaA3
namespace Go.Proofs.Ythgcedhplbhiiaa
open Go Go.RowKit

/-- nodes lie in a block, nobody's yet -/
structure Nds (W : World) (g N : Nat) (rw : Nat → Int) (pv nx : Nat → Nat) : Prop where
  r0 : ∀ k, k < 2 * N → W.cell? ⟨g, k * 3, none⟩ = some (.int .i64 (rw k))
  r1 : ∀ k, k < 2 * N → W.cell? ⟨g, k * 3 + 1, none⟩ = some (.int .i64 (pv k : Int))
  r2 : ∀ k, k < 2 * N → W.cell? ⟨g, k * 3 + 2, none⟩ = some (.int .i64 (nx k : Int))
  fz : ∀ o, W.frozen? ⟨g, o, none⟩ = false
  gl : g < W.heap.size
section
variable {W W' : World} {b g N c : Nat} {rw rw' : Nat → Int} {pv nx pv' nx' : Nat → Nat}
theorem Nds.congr (h : Nds W g N rw pv nx) (h0 : ∀ k, k < 2 * N → rw' k = rw k) (h1 : ∀ k, k < 2 * N → pv' k = pv k) (h2 : ∀ k, k < 2 * N → nx' k = nx k) : Nds W g N rw' pv' nx' :=
  ⟨fun k hk => by rw [h0 k hk]; exact h.r0 k hk, fun k hk => by rw [h1 k hk]; exact h.r1 k hk, fun k hk => by rw [h2 k hk]; exact h.r2 k hk, h.fz, h.gl⟩
theorem Nds.set0 (h : Nds W g N rw pv nx) (i : Nat) (v : Int) : Nds (W.setCell ⟨g, i * 3, none⟩ (.int .i64 v)) g N (upd rw i v) pv nx := by
  refine ⟨fun k hk => ?_, fun k hk => ?_, fun k hk => ?_, fun o => ?_, by simpa [World.setCell] using h.gl⟩
  · by_cases e : k = i
    · subst e; rw [upd_same]; exact cell_near (h.r0 k hk)
    · rw [upd_other e, cell_far (by omega)]; exact h.r0 k hk
  · rw [cell_far (by omega)]; exact h.r1 k hk
  · rw [cell_far (by omega)]; exact h.r2 k hk
  · rw [World.frozen?_setCell]; exact h.fz o
theorem Nds.set1 (h : Nds W g N rw pv nx) (i v : Nat) : Nds (W.setCell ⟨g, i * 3 + 1, none⟩ (.int .i64 (v : Int))) g N rw (upd pv i v) nx := by
  refine ⟨fun k hk => ?_, fun k hk => ?_, fun k hk => ?_, fun o => ?_, by simpa [World.setCell] using h.gl⟩
  · rw [cell_far (by omega)]; exact h.r0 k hk
  · by_cases e : k = i
    · subst e; rw [upd_same]; exact cell_near (h.r1 k hk)
    · rw [upd_other e, cell_far (by omega)]; exact h.r1 k hk
  · rw [cell_far (by omega)]; exact h.r2 k hk
  · rw [World.frozen?_setCell]; exact h.fz o
theorem Nds.set2 (h : Nds W g N rw pv nx) (i v : Nat) : Nds (W.setCell ⟨g, i * 3 + 2, none⟩ (.int .i64 (v : Int))) g N rw pv (upd nx i v) := by
  refine ⟨fun k hk => ?_, fun k hk => ?_, fun k hk => ?_, fun o => ?_, by simpa [World.setCell] using h.gl⟩
  · rw [cell_far (by omega)]; exact h.r0 k hk
  · rw [cell_far (by omega)]; exact h.r1 k hk
  · by_cases e : k = i
    · subst e; rw [upd_same]; exact cell_near (h.r2 k hk)
    · rw [upd_other e, cell_far (by omega)]; exact h.r2 k hk
  · rw [World.frozen?_setCell]; exact h.fz o
/-- links with these rows -/
def Ln (W : World) (b g N : Nat) (L : Nat → List Nat) : Prop := ∃ c rw pv nx, Lnk W b g N c rw pv nx ∧ Rings N L rw pv nx
theorem Ln.nb {L : Nat → List Nat} (h : Ln W b g N L) : N ≤ 4096 := by obtain ⟨_, _, _, _, h, _⟩ := h; exact h.nb
theorem Ln.lt {L : Nat → List Nat} (h : Ln W b g N L) : b < W.heap.size ∧ g < W.heap.size ∧ b ≠ g := by obtain ⟨_, _, _, _, h, _⟩ := h; exact ⟨h.lt, h.gl, h.ne⟩
theorem Ln.only {T : Nat → Prop} {L : Nat → List Nat} (h : Ln W b g N L) (ho : OnlyS T W W') (h1 : ¬ T b) (h2 : ¬ T g) : Ln W' b g N L := by
  obtain ⟨c, rw, pv, nx, h, hr⟩ := h
  exact ⟨c, rw, pv, nx, h.only ho h1 h2, hr⟩
theorem Ln.below {L : Nat → List Nat} (h : Ln W b g N L) (hb : Below W.heap.size W W') : Ln W' b g N L := by
  obtain ⟨c, rw, pv, nx, h, hr⟩ := h
  exact ⟨c, rw, pv, nx, h.below hb, hr⟩

def cl (n : Int) : Nat := if n < 0 then 0 else if 4096 < n then 4096 else n.toNat
theorem cl_le (n : Int) : cl n ≤ 4096 := by unfold cl; split <;> (try split) <;> omega
def rwK (N k j : Nat) : Int := if j < k then -1 else if N ≤ j ∧ j < N + k then ((j - N : Nat) : Int) else 0
def pvK (N k j : Nat) : Nat := if N ≤ j ∧ j < N + k then j else 0
theorem rwK_next {N k : Nat} (hk : k < N) (j : Nat) : rwK N (k + 1) j = upd (upd (rwK N k) k (-1)) (N + k) (k : Int) j := by
  unfold upd rwK
  by_cases e1 : j = N + k
  · subst e1
    rw [if_neg (by omega), if_pos (by omega), if_pos rfl]
    congr 1; omega
  · rw [if_neg e1]
    by_cases e2 : j = k
    · subst e2
      rw [if_pos (by omega), if_pos rfl]
    · rw [if_neg e2]
      by_cases e3 : j < k
      · rw [if_pos (by omega), if_pos e3]
      · rw [if_neg (by omega), if_neg e3]
        by_cases e4 : N ≤ j ∧ j < N + k
        · rw [if_pos e4, if_pos (by omega)]
        · rw [if_neg e4, if_neg (by omega)]
theorem pvK_next {N k : Nat} (j : Nat) : pvK N (k + 1) j = upd (pvK N k) (N + k) (N + k) j := by
  unfold upd pvK
  by_cases e1 : j = N + k
  · subst e1
    rw [if_pos (by omega), if_pos rfl]
  · rw [if_neg e1]
    by_cases e4 : N ≤ j ∧ j < N + k
    · rw [if_pos e4, if_pos (by omega)]
    · rw [if_neg e4, if_neg (by omega)]
theorem info50 : (Try.prog.info? 50).map (fun i => (i.zero, i.size, i.bytes)) = some (some (.agg #[.int .i64 0, .int .i64 0, .int .i64 0]), 3, 24) := by kernel_rfl
theorem heap_new' (w : World) (o : Obj) : (w.alloc o).heap[w.heap.size]? = some o := heap_alloc_new w o
theorem zero3 {n j : Nat} (hj : j < n) : (madeCells #[.int .i64 0, .int .i64 0, .int .i64 0] n)[j]? = some (.int .i64 0) := by
  have h3 : j % 3 = 0 ∨ j % 3 = 1 ∨ j % 3 = 2 := by omega
  rcases h3 with e | e | e <;> simp [madeCells, hj, e]
theorem nds_made (W : World) (N : Nat) : Nds (W.alloc (.cells (madeCells #[.int .i64 0, .int .i64 0, .int .i64 0] (2 * N * 3)) 50)) W.heap.size N (rwK N 0) (pvK N 0) (pvK N 0) := by
  have hb : (W.alloc (.cells (madeCells #[.int .i64 0, .int .i64 0, .int .i64 0] (2 * N * 3)) 50)).heap[W.heap.size]? = some (.cells (madeCells #[.int .i64 0, .int .i64 0, .int .i64 0] (2 * N * 3)) 50) := heap_new' _ _
  have z1 : ∀ j, rwK N 0 j = 0 := fun j => by unfold rwK; rw [if_neg (by omega), if_neg (by omega)]
  have z2 : ∀ j, pvK N 0 j = 0 := fun j => by unfold pvK; rw [if_neg (by omega)]
  refine ⟨fun k hk => ?_, fun k hk => ?_, fun k hk => ?_, fun o => ?_, by simp⟩
  · rw [cell_of_row _ _ _ _ _ _ hb, z1]; exact zero3 (by omega)
  · rw [cell_of_row _ _ _ _ _ _ hb, z2]; exact zero3 (by omega)
  · rw [cell_of_row _ _ _ _ _ _ hb, z2]; exact zero3 (by omega)
  · exact frozen_of_row _ _ _ _ _ hb
theorem mk_nodes (W : World) (N : Nat) (hN : N ≤ 4096) : (Instr.makeSlice 48 (.int .i64 (2 * (N : Int))) (.int .i64 (2 * (N : Int)))).run Try.prog W = .ok (.slice (some ⟨W.heap.size, 0, none⟩) (2 * N) (2 * N)) (W.alloc (.cells (madeCells #[.int .i64 0, .int .i64 0, .int .i64 0] (2 * N * 3)) 50)) := by
  obtain ⟨i0, hi, hz0, hz1, hz2⟩ := info_parts info50
  have := run_make (P := Try.prog) W 48 50 i0 _ Try.underlying48 hi hz0 .i64 .i64 (2 * (N : Int)) (2 * (N : Int)) (by omega) (Int.le_refl _) (by rw [hz2]; omega) (by omega)
  rw [hz1, show (2 * (N : Int)).toNat = 2 * N by omega] at this
  exact this
def NewAt (W : World) (N : Nat) (e : Ending) (w' : World) : Prop := ∃ b g, e = .returned (wp b) ∧ Ln w' b g N (fun _ => []) ∧ Below W.heap.size W w' ∧ W.heap.size ≤ b ∧ W.heap.size ≤ g
set_option maxHeartbeats 1000000 in
theorem new_nat (N : Nat) (W : World) (hN : N ≤ 4096) : Calls Try.prog 7 #[.int .i64 (N : Int)] W (NewAt W N) := by
  have hmk := mk_nodes W N hN
  have H0 := Lib.hid (nds_made W N)
  have B0 := Lib.hid (box_below W (.cells (madeCells #[.int .i64 0, .int .i64 0, .int .i64 0] (2 * N * 3)) 50))
  have hM : 2 * N ≤ 8192 := by omega
  obtain ⟨M, hMN⟩ : ∃ M, 2 * N = M := ⟨_, rfl⟩
  have HM := Lib.hid hMN
  rw [hMN] at H0 B0 hmk hM
  clear hMN
  go_enter Try.func7, Try.ntmps7
  go_wp2
  generalize W.alloc (.cells (madeCells #[.int .i64 0, .int .i64 0, .int .i64 0] (M * 3)) 50) = W1 at H0 B0 ⊢
  clear hmk
  obtain ⟨g, hg⟩ : ∃ g, W.heap.size = g := ⟨_, rfl⟩
  have HG := Lib.hid hg
  rw [hg] at H0
  rw [hg]
  clear hg
  go_loopw [12] (fun t wr => ∃ k : Nat, k ≤ N ∧ t = .int .i64 k ∧ Nds wr g N (rwK N k) (pvK N k) (pvK N k) ∧ Below W.heap.size W wr) (fun t _ => N - (intOf t).toNat)
  case atStart => exact ⟨0, by omega, rfl, H0.out, B0.out⟩
  case round =>
    obtain ⟨k, hk, rfl, hn, hb⟩ := hrel
    have H := Lib.hid hn
    have HB := Lib.hid hb
    clear hn hb H0 B0
    by_cases hlt : k < N
    · have hm := HM.out
      have k1 : k < M := by omega
      have k2 : N + k < M := by omega
      have q0 := H.out.r0 k (by omega)
      have q1 := H.out.r0 (N + k) (by omega)
      have q2 := H.out.r1 (N + k) (by omega)
      have q3 := H.out.r2 (N + k) (by omega)
      have f0 := H.out.fz (k * 3)
      have f1 := H.out.fz ((N + k) * 3)
      have f2 := H.out.fz ((N + k) * 3 + 1)
      have f3 := H.out.fz ((N + k) * 3 + 2)
      have HE := Lib.hid (((((H.out.set0 k (-1)).set0 (N + k) (k : Int)).set1 (N + k) (N + k)).set2 (N + k) (N + k)).congr (fun j _ => rwK_next hlt j) (fun j _ => pvK_next j) (fun j _ => pvK_next j))
      have hgl : W.heap.size ≤ g := by rw [HG.out]; exact Nat.le_refl _
      have HO := Lib.hid ((((HB.out.setCell (p := ⟨g, k * 3, none⟩) hgl (.int .i64 (-1))).setCell (p := ⟨g, (N + k) * 3, none⟩) hgl (.int .i64 (k : Int))).setCell (p := ⟨g, (N + k) * 3 + 1, none⟩) hgl (.int .i64 ((N + k : Nat) : Int))).setCell (p := ⟨g, (N + k) * 3 + 2, none⟩) hgl (.int .i64 ((N + k : Nat) : Int)))
      clear hm hgl H HB
      generalize rwK N k k = x0 at q0
      generalize rwK N k (N + k) = x1 at q1
      generalize pvK N k (N + k) = x2 at q2 q3
      go_wp2
      go_roundw
      case rel => exact ⟨k + 1, by omega, by go_num, HE.out, HO.out⟩
      case measure => simp [intOf]; omega
    · have hkN : k = N := by omega
      have HN : Ln (wr.alloc (.cells #[.slice (some ⟨g, 0, none⟩) (2 * N) M] 52)) wr.heap.size g N (fun _ => []) := by
        have hb := box_below wr (.cells #[.slice (some ⟨g, 0, none⟩) (2 * N) M] 52)
        have hgl := H.out.gl
        refine ⟨M, _, _, _, ⟨by simp [go_sem], fun j hj => ?_, fun j hj => ?_, fun j hj => ?_, fun o => ?_, by simp; omega, by omega, hN⟩, Rings.start N⟩
        · rw [hb.cell (p := ⟨g, j * 3, none⟩) hgl, H.out.r0 j hj]
          subst hkN
          unfold rwK
          by_cases e : j < k
          · rw [if_pos e, if_pos e]
          · rw [if_neg e, if_neg e, if_pos (by omega)]
        · rw [hb.cell (p := ⟨g, j * 3 + 1, none⟩) hgl, H.out.r1 j hj]
          subst hkN
          unfold pvK
          by_cases e : j < k
          · rw [if_pos e, if_neg (by omega)]
          · rw [if_neg e, if_pos (by omega)]
        · rw [hb.cell (p := ⟨g, j * 3 + 2, none⟩) hgl, H.out.r2 j hj]
          subst hkN
          unfold pvK
          by_cases e : j < k
          · rw [if_pos e, if_neg (by omega)]
          · rw [if_neg e, if_pos (by omega)]
        · rw [hb.frozen (p := ⟨g, o, none⟩) hgl]; exact H.out.fz o
      have HX := Lib.hid HN
      rw [HM.out] at HX
      have HW := Lib.hid (HB.out.trans ((box_below wr (.cells #[.slice (some ⟨g, 0, none⟩) M M] 52)).mono HB.out.size))
      clear HN H
      obtain rfl : k = N := by omega
      go_wp2
      go_ret
      exact ⟨wr.heap.size, g, rfl, HX.out, HW.out, HB.out.size, by rw [HG.out]; exact Nat.le_refl _⟩
theorem cl_nat {N : Nat} (h : N ≤ 4096) : cl (N : Int) = N := by unfold cl; rw [if_neg (by omega), if_neg (by omega)]; simp
theorem mk_none (W : World) : (Instr.makeSlice 48 (.int .i64 0) (.int .i64 0)).run Try.prog W = .ok (.slice (some ⟨W.heap.size, 0, none⟩) 0 0) (W.alloc (.cells #[] 50)) := by kernel_rfl
set_option maxHeartbeats 1000000 in
theorem new_neg {n : Int} (W : World) (hn : n < 0) : Calls Try.prog 7 #[.int .i64 n] W (NewAt W 0) := by
  have hmk := mk_none W
  have B0 := Lib.hid (box_below W (.cells #[] 50))
  have hmx : max n 0 = 0 := by omega
  have G0 : W.heap.size < (W.alloc (.cells #[] 50)).heap.size ∧ ∀ o, (W.alloc (.cells #[] 50)).frozen? ⟨W.heap.size, o, none⟩ = false := ⟨by simp, fun o => frozen_of_row _ _ _ _ _ (heap_new' W _)⟩
  go_enter Try.func7, Try.ntmps7
  go_wp2
  generalize W.alloc (.cells #[] 50) = W1 at B0 G0 ⊢
  clear hmk
  go_loopw [12] (fun t wr => t = .int .i64 0 ∧ W1 = wr) (fun _ _ => 0)
  case atStart => exact ⟨rfl, rfl⟩
  case round =>
    obtain ⟨rfl, rfl⟩ := hrel
    have hs := B0.out.size
    have HG := Lib.hid G0
    clear G0
    have hg1 := HG.out.1
    have HX := Lib.hid (show Ln (W1.alloc (.cells #[.slice (some ⟨W.heap.size, 0, none⟩) 0 0] 52)) W1.heap.size W.heap.size 0 (fun _ => []) by
      refine ⟨0, _, _, _, ⟨by simp [go_sem], fun j hj => by omega, fun j hj => by omega, fun j hj => by omega, fun o => ?_, by simp; omega, by omega, by omega⟩, Rings.start 0⟩
      rw [(box_below W1 _).frozen (p := ⟨W.heap.size, o, none⟩) HG.out.1]
      exact HG.out.2 o)
    have HW := Lib.hid (B0.out.trans ((box_below W1 (.cells #[.slice (some ⟨W.heap.size, 0, none⟩) 0 0] 52)).mono hs))
    go_wp2
    go_ret
    exact ⟨_, _, rfl, HX.out, HW.out, hs, Nat.le_refl _⟩
theorem new_any (n : Int) (W : World) (hn : n ≤ 4096) : Calls Try.prog 7 #[.int .i64 n] W (NewAt W (cl n)) := by
  by_cases h : n < 0
  · rw [show cl n = 0 by unfold cl; rw [if_pos h]]
    exact new_neg W h
  · obtain ⟨k, rfl⟩ : ∃ k : Nat, n = k := ⟨n.toNat, by omega⟩
    rw [cl_nat (by omega)]
    exact new_nat k W (by omega)
end
end Go.Proofs.Ythgcedhplbhiiaa
