/- Room for so many; lists that are joined. -/
import Derived.Test.YteaibamkfccplaaDoorWD3
namespace Go.Proofs.YteaibamkfccplaaDoor.Ws
open Go Go.RowKit Go.Shelf

section
variable {W W' : World} {A : Option Addr} {c K : Nat} {xs : List Wt}
set_option maxRecDepth 100000 in
theorem grow_any (n : Nat) (h1 : 1 ≤ n) (h2 : n ≤ 1000) (W : World) : Calls Tryd.prog 97 #[.slice none 0 0, .int .i64 (n : Int)] W fun e w' => ∃ v, e = .returned v ∧ Row w' W.heap.size v [] ∧ Below W.heap.size W w' := by
  obtain ⟨i0, hi, hz0, hz1, hz2⟩ := info_parts info24
  have hrun := Lib.run_append_nil_zeros (P := Tryd.prog) W 26 3 26 60 i0 _ .i64 .i64 Tryd.underlying26 Tryd.underlying3 hi hz0 n h1 (by rw [hz1]; omega) (by omega) (by rw [hz2]; omega)
  have hge := grownCap_ge W n 0 60
  have hcm := grownCap_le_maxLen W n 0 60 (by unfold maxLen; omega)
  have hsz : (Builtin.zeroCells (Value.agg #[.int .i64 0, .int .i64 0, .bool false, .bool false]).cells n ++ Builtin.zeroCells (Value.agg #[.int .i64 0, .int .i64 0, .bool false, .bool false]).cells (grownCap W n 0 60 - n)).size = grownCap W n 0 60 * 4 := by
    rw [Array.size_append, size_zeroCells, size_zeroCells]
    simp [Value.cells]
    omega
  generalize Builtin.zeroCells (Value.agg #[.int .i64 0, .int .i64 0, .bool false, .bool false]).cells n ++ Builtin.zeroCells (Value.agg #[.int .i64 0, .int .i64 0, .bool false, .bool false]).cells (grownCap W n 0 60 - n) = zs at *
  generalize grownCap W n 0 60 = cp at *
  have HR := Lib.hid (show Row (W.drew.alloc (.cells zs 60)) W.heap.size (.slice (some ⟨W.heap.size, 0, none⟩) 0 cp) [] from
    ⟨rfl, .inr ⟨W.heap.size, cp, zs, rfl, Nat.le_refl _, heap_alloc_new W.drew _, Nat.zero_le _, hcm, hsz, rfl⟩⟩)
  have HB := Lib.hid ((drew_below W 1).trans (box_below W.drew (.cells zs 60)))
  have hcm2 : cp ≤ 9223372036854775807 := by unfold maxLen at hcm; omega
  clear hsz hcm hz0 hz1 hz2 hi
  go_enter Tryd.func97, Tryd.ntmps97
  go_wp2_with (at_builtin; refine Lib.wpList_append_run _ rfl _ _ _ _ rfl _ _ rfl rfl _ _ hrun ?_)
  go_ret
  exact ⟨_, rfl, HR.out, HB.out⟩
/-- the first of some lists, one behind the other -/
def cat (X : Nat → List Wt) : Nat → List Wt
  | 0 => []
  | k + 1 => cat X k ++ X k
/-- lists, one beside the other -/
structure Parts (W : World) (b : Nat) (N : Nat) (A : Nat → Option Addr) (C : Nat → Nat) (X : Nat → List Wt) : Prop where
  c : ∀ k, k < N → W.cell? ⟨b, k, none⟩ = some (.slice (A k) (X k).length (C k))
  l : ∀ k, k < N → Ls W (A k) (C k) (X k)
theorem cat_le {X : Nat → List Wt} : ∀ {N k : Nat}, k ≤ N → (cat X k).length ≤ (cat X N).length
  | 0, 0, _ => Nat.le_refl _
  | N + 1, k, h => by
    rcases Nat.lt_or_ge N k with h' | h'
    · obtain rfl : k = N + 1 := by omega
      exact Nat.le_refl _
    · refine Nat.le_trans (cat_le h') ?_
      simp only [cat, List.length_append]
      omega
theorem Parts.below {b N : Nat} {A : Nat → Option Addr} {C : Nat → Nat} {X : Nat → List Wt} (h : Parts W b N A C X) (hb : Below W.heap.size W W') : Parts W' b N A C X :=
  ⟨fun k hk => by have := h.c k hk; rw [World.cell?_of_block (w := W) (a := ⟨b, k, none⟩) (hb.block _ (cell_lt this))]; exact this, fun k hk => (h.l k hk).below hb⟩
set_option maxHeartbeats 4000000 in
theorem concat_any {b N : Nat} {A : Nat → Option Addr} {C : Nat → Nat} {X : Nat → List Wt} (h : Parts W b N A C X) (h1 : 1 ≤ (cat X N).length) (h2 : (cat X N).length ≤ 1000) (hN : N ≤ 1000) :
    Calls Tryd.prog 90 #[.slice (some ⟨b, 0, none⟩) N N] W (Lists W (cat X N)) := by
  have H := Lib.hid h
  have HG := fun W => Lib.hid (grow_any (cat X N).length h1 h2 W)
  clear h
  obtain ⟨s, hs⟩ : ∃ s, (cat X N).length = s := ⟨_, rfl⟩
  have HS := Lib.hid hs
  rw [hs] at h1 h2 HG
  have hle : ∀ k, k ≤ N → (cat X k).length ≤ s := fun k hk => by rw [← hs]; exact cat_le hk
  have HLE := Lib.hid hle
  clear hs hle
  go_enter Tryd.func90, Tryd.ntmps90
  go_wp2_with fail
  go_loopw [11, 3] (fun t v wr => ∃ k : Nat, k ≤ N ∧ t = .int .i64 k ∧ v = .int .i64 ((cat X k).length : Nat) ∧ W = wr) (fun t _ _ => N - (intOf t).toNat)
  case atStart => exact ⟨0, by omega, rfl, rfl, rfl⟩
  case round =>
    obtain ⟨k, hk, rfl, rfl, rfl⟩ := hrel
    by_cases hkN : k < N
    · have q0 := H.out.c k hkN
      have hk1 := HLE.out k hk
      have hk2 := HLE.out (k + 1) hkN
      have hk3 : (cat X (k + 1)).length = (cat X k).length + (X k).length := by simp [cat]
      have HK := Lib.hid hk3
      rw [hk3] at hk2
      generalize (cat X k).length = y at *
      generalize (X k).length = z at *
      clear hk3
      go_wp2_with fail
      go_roundw
      case rel => exact ⟨k + 1, by omega, by go_num, by rw [HK.out]; go_num, trivial⟩
      case measure => simp [intOf]; omega
    · obtain rfl : k = N := by omega
      rw [HS.out]
      go_wp2_with fail
      refine (HG W).out.mono ?_
      rintro e w1 ⟨v0, rfl, hr0, hb0⟩
      have R0 := Lib.hid hr0
      have B0 := Lib.hid hb0
      clear hr0 hb0
      go_wp2_with fail
      go_loopw [27, 6] (fun t v wr => ∃ j : Nat, j ≤ k ∧ t = .int .i64 j ∧ Row wr W.heap.size v (cat X j) ∧ Below W.heap.size W wr) (fun t _ _ => k - (intOf t).toNat)
      case atStart => exact ⟨0, by omega, rfl, R0.out, B0.out⟩
      case round =>
        obtain ⟨w4, rfl⟩ : ∃ w4, w4 = wr := ⟨_, rfl⟩
        obtain ⟨j, hj, rfl, hr, hb⟩ := hrel
        obtain ⟨A0, c0', ev, hls⟩ := hr.ls
        subst ev
        by_cases hjN : j < k
        · have hP := H.out.below hb
          have q0 := hP.c j hjN
          have hj2 := HLE.out (j + 1) hjN
          have hj3 : (cat X (j + 1)).length = (cat X j).length + (X j).length := by simp [cat]
          rw [hj3] at hj2
          obtain ⟨v', w', hrun, hrow, hg, -⟩ := hr.app (hP.l j hjN) (by omega) hb.size 26
          obtain ⟨A', c', rfl, -⟩ := hrow.ls
          have R2 := Lib.hid (show Row w' W.heap.size (.slice A' (cat X j ++ X j).length c') (cat X (j + 1)) from hrow)
          have B2 := Lib.hid (hb.trans (hr.app_below hg hb.size))
          rw [List.length_append] at R2 hrun
          generalize (cat X j).length = y at *
          generalize (X j).length = z at *
          clear hP hr hls hrow hg hb hj3
          go_wp2_with (at_builtin; refine Lib.wpList_append_run _ rfl _ _ _ _ rfl _ _ rfl rfl _ _ hrun ?_)
          go_roundw
          case rel => exact ⟨j + 1, by omega, by go_num, R2.out, B2.out⟩
          case measure => simp [intOf]; omega
        · obtain rfl : j = k := by omega
          have HL := Lib.hid hls
          have HB := Lib.hid hb
          rw [HS.out] at hr ⊢
          clear hr hls hb
          go_wp2_with fail
          go_ret
          exact ⟨A0, c0', by rw [HS.out]; rfl, HL.out, HB.out⟩
end
end Go.Proofs.YteaibamkfccplaaDoor.Ws
