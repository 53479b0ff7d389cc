/- The modes and the counts as the law GroupDoes gathers them; arrays alike. -/
import Derived.Test.YtfapgecpndlibaaDoorB1
import Derived.Deep.RegionHeld3
namespace Go.Proofs.YtfapgecpndlibaaDoor
open Go Go.RowKit Go.Shelf

theorem range7 : List.range' 0 7 = [0, 1, 2, 3, 4, 5, 6] := rfl
set_option maxRecDepth 100000 in
@[go_sem ↓] theorem eq26 (n : Nat) (w : World) (a0 a1 a2 a3 a4 a5 a6 : Int) :
    (Op.equalIn (n + 2) 26 (.agg #[.int .i64 a0, .int .i64 a1, .int .i64 a2, .int .i64 a3, .int .i64 a4, .int .i64 a5, .int .i64 a6]) (.agg #[.int .i64 a0, .int .i64 a1, .int .i64 a2, .int .i64 a3, .int .i64 a4, .int .i64 a5, .int .i64 a6])).run Tryd.prog w = .ok true w := by
  unfold Op.equalIn
  simp [run_underlying Tryd.underlying26, go_sem]
  rw [range7]
  simp [go_sem, run_equalIn_int (h := Tryd.underlying3)]
abbrev ints (zs : List Int) : List Value := zs.map fun z => Value.int .i64 z
/-- numbers in a row of one's own -/
abbrev Ri (W : World) (K : Nat) (v : Value) (zs : List Int) : Prop := W.ownsRow K 3 1 v zs.length (ints zs)
theorem Ri.nu {W : World} {K : Nat} {v : Value} {zs : List Int} (h : Ri W K v zs) : ∃ A c, v = .slice A zs.length c ∧ Nu W A zs := by
  rcases h.2 with ⟨rfl, h0⟩ | ⟨g, cap, cur, rfl, hb, hg, h1, h2, h3, h4⟩
  · have := List.length_eq_zero_iff.1 h0
    subst this
    exact ⟨none, 0, rfl, fun i hi => absurd hi (Nat.not_lt_zero i)⟩
  · refine ⟨_, cap, rfl, fun i hi => ⟨_, rfl, ?_⟩⟩
    refine h.cells (g := g) rfl i _ ?_
    simp [ints, List.getElem?_eq_getElem hi]
theorem Ri.app {W : World} {K : Nat} {v : Value} {zs : List Int} (h : Ri W K v zs) (x : Int) {n : Nat} (hn : zs.length = n) (hl : n ≤ 900) (hK : K ≤ W.heap.size) (ty : TypeId) :
    ∃ A' c' w2, (Builtin.append_ #[25, 25] ty #[v, .slice (some ⟨W.heap.size, 0, none⟩) 1 1]).run Tryd.prog (W.alloc (.cells #[.int .i64 x] 3)) = .ok (.slice A' (n + 1) c') w2 ∧ Ri w2 K (.slice A' (n + 1) c') (zs ++ [x]) ∧ OnlyS (fun k => v.ownBlock = some k) W w2 := by
  subst hn
  obtain ⟨i0, hi, hz0, hz1, hz2⟩ := info_parts info3
  have hb := box_below W (.cells #[.int .i64 x] 3)
  have h1 : Ri (W.alloc (.cells #[.int .i64 x] 3)) K v zs := row_below h hb
  obtain ⟨v', w2, hrun, hrow, hg, -, -⟩ := run_append_own_at (P := Tryd.prog) (W.alloc (.cells #[.int .i64 x] 3)) K 25 ty 3 i0 _ 1 8 Tryd.underlying25 hi hz0 hz1 hz2 rfl (by decide) v zs.length (ints zs) h1 ⟨W.heap.size, 0, none⟩ 1 1 (ints [x]) (by simp) (fun j u hj => by
    match j, hj with
    | 0, hj => simp at hj; subst hj; rw [add_at]; simp [go_sem]
    | j + 1, hj => simp at hj) (by intro u hu; simp at hu; subst hu; rfl) (by unfold maxLen; omega) (by omega) (Nat.le_trans hK hb.size)
  have hrow' : Ri w2 K v' (zs ++ [x]) := by
    unfold Ri
    rw [List.length_append, show ints (zs ++ [x]) = ints zs ++ ints [x] by simp [ints]]
    exact hrow
  obtain ⟨A', c', rfl, -⟩ := hrow'.nu
  rw [List.length_append] at hrun hrow'
  refine ⟨A', c', w2, hrun, ?_, (OnlyS.of_below hb).grown hg fun k hk => .inl hk⟩
  exact hrow'
/-- what the law has gathered -/
structure Bu (w1 : World) (l : List Hd) (v : Value) (w : World) : Prop where
  row : Ri w (w1.heap.size + 1) v (mods l)
  cnt : Arr w w1.heap.size 7 (cntF l)
  bel : Below w1.heap.size w1 w
theorem Bu.start (w1 : World) : Bu w1 [] (.slice none 0 0) (w1.alloc (.cells zeros7 26)) := ⟨World.ownsRow_nil _ _ _ _, Arr.zeros w1, box_below _ _⟩
theorem Bu.below {w1 w w' : World} {l : List Hd} {v : Value} (h : Bu w1 l v w) (hb : Below w.heap.size w w') : Bu w1 l v w' := ⟨row_below h.row hb, h.cnt.below hb, h.bel.trans (hb.mono h.bel.size)⟩
/-- one more is gathered: its mode is put behind the modes, and its count rises -/
theorem Bu.next {w1 w : World} {l : List Hd} {v : Value} (h : Bu w1 l v w) (x : Hd) {n : Nat} (hn : l.length = n) (hl : n ≤ 900) (ty : TypeId) :
    ∃ A' c' w2, (Builtin.append_ #[25, 25] ty #[v, .slice (some ⟨w.heap.size + 1, 0, none⟩) 1 1]).run Tryd.prog ((w.alloc (.cells #[.int .i64 x.1, .int .i64 x.2] 28)).alloc (.cells #[.int .i64 x.2] 3)) = .ok (.slice A' (n + 1) c') w2 ∧
      w2.cell? ⟨w.heap.size, 1, none⟩ = some (.int .i64 x.2) ∧ w.heap.size < w2.heap.size ∧ Arr w2 w1.heap.size 7 (cntF l) ∧
      Bu w1 (l ++ [x]) (.slice A' (n + 1) c') (w2.setCell ⟨w1.heap.size, kn x.2, none⟩ (.int .i64 (cntF l (kn x.2) + 1))) := by
  have hb := box_below w (.cells #[.int .i64 x.1, .int .i64 x.2] 28)
  have h1 := h.below hb
  have hK : w1.heap.size + 1 ≤ (w.alloc (.cells #[.int .i64 x.1, .int .i64 x.2] 28)).heap.size := h1.cnt.lt
  obtain ⟨A', c', w2, hrun, hrow, ho⟩ := h1.row.app x.2 (n := n) (by rw [mods_len, hn]) hl hK ty
  rw [show (w.alloc (.cells #[.int .i64 x.1, .int .i64 x.2] 28)).heap.size = w.heap.size + 1 by simp] at hrun
  have hown : ∀ k, v.ownBlock = some k → w1.heap.size + 1 ≤ k ∧ k < w.heap.size := fun k hk => ⟨(h.row.lt k hk).1, (h.row.lt k hk).2⟩
  have hc : Arr w2 w1.heap.size 7 (cntF l) := h1.cnt.keep ho.size (ho.block _ h1.cnt.lt (fun hk => by have := hown _ hk; omega))
  have hsz := ho.size
  simp at hsz
  refine ⟨A', c', w2, hrun, ?_, by omega, hc, ?_, ?_, ?_⟩
  · refine ho.cell (v := .int .i64 x.2) (by simp [go_sem]) (fun hk => by have := hown _ hk; omega)
  · have hne : ∀ g, (Value.slice A' (n + 1) c').ownBlock = some g → g ≠ w1.heap.size := fun g hg => by have := (hrow.lt g hg).1; omega
    have e : mods (l ++ [x]) = mods l ++ [x.2] := by simp [mods]
    rw [e]
    exact row_keep hrow fun g hg => Below.heap_setCell w2 ⟨w1.heap.size, kn x.2, none⟩ _ g (hne g hg)
  · rw [cntF_snoc]
    exact hc.set _ _
  · have hb2 : Below w1.heap.size w1 w2 := h1.bel.trans (ho.below (fun k hk => by have := hown k hk; omega) (by omega))
    exact hb2.setCell (p := ⟨w1.heap.size, kn x.2, none⟩) (Nat.le_refl _) _
/-- seven cells, and what was there at first -/
abbrev S7 (B : Nat) (x0 x1 x2 x3 x4 x5 x6 : Int) (w1 w' : World) : Prop :=
  w'.cell? ⟨B, 0, none⟩ = some (.int .i64 x0) ∧ w'.cell? ⟨B, 1, none⟩ = some (.int .i64 x1) ∧ w'.cell? ⟨B, 2, none⟩ = some (.int .i64 x2) ∧ w'.cell? ⟨B, 3, none⟩ = some (.int .i64 x3) ∧ w'.cell? ⟨B, 4, none⟩ = some (.int .i64 x4) ∧ w'.cell? ⟨B, 5, none⟩ = some (.int .i64 x5) ∧ w'.cell? ⟨B, 6, none⟩ = some (.int .i64 x6) ∧ Below w1.heap.size w1 w'
section
variable {B : Nat} {x0 x1 x2 x3 x4 x5 x6 : Int} {w1 w w' : World}
theorem s7_of (h : S7 B x0 x1 x2 x3 x4 x5 x6 w1 w1) (hb : Below w1.heap.size w1 w') : S7 B x0 x1 x2 x3 x4 x5 x6 w1 w' := by
  obtain ⟨h0, h1, h2, h3, h4, h5, h6, -⟩ := h
  exact ⟨(hb.cell (p := ⟨B, 0, none⟩) (cell_lt h0)).trans h0, (hb.cell (p := ⟨B, 1, none⟩) (cell_lt h1)).trans h1, (hb.cell (p := ⟨B, 2, none⟩) (cell_lt h2)).trans h2, (hb.cell (p := ⟨B, 3, none⟩) (cell_lt h3)).trans h3, (hb.cell (p := ⟨B, 4, none⟩) (cell_lt h4)).trans h4, (hb.cell (p := ⟨B, 5, none⟩) (cell_lt h5)).trans h5, (hb.cell (p := ⟨B, 6, none⟩) (cell_lt h6)).trans h6, hb⟩
theorem s7_arr {f : Nat → Int} (h : Arr w1 B 7 f) : S7 B (f 0) (f 1) (f 2) (f 3) (f 4) (f 5) (f 6) w1 w1 :=
  ⟨h.at' 0 (by omega), h.at' 1 (by omega), h.at' 2 (by omega), h.at' 3 (by omega), h.at' 4 (by omega), h.at' 5 (by omega), h.at' 6 (by omega), Below.refl _ _⟩
theorem s7_drew (h : S7 B x0 x1 x2 x3 x4 x5 x6 w1 w1) : S7 B x0 x1 x2 x3 x4 x5 x6 w1 w1.drew := s7_of h (drew_below _ 1)
theorem s7_bel (h : S7 B x0 x1 x2 x3 x4 x5 x6 w1 w) : Below w1.heap.size w1 w := h.2.2.2.2.2.2.2
end
end Go.Proofs.YtfapgecpndlibaaDoor
