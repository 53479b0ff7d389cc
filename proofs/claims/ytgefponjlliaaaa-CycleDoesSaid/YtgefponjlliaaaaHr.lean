/- Rows of rows in memory; the document's ring. -/
import Derived.Test.YtgefponjlliaaaaHq
namespace Go.Proofs.Ytgefponjlliaaaa
open Go Go.RowKit Go.Shelf
set_option maxRecDepth 100000

theorem Is.L0.only {W W' : World} {A : Option Addr} {c : Nat} {xs : List Int} {T : Nat → Prop} (h : Is.L0 W A c xs) (ho : OnlyS T W W') (hT : ∀ a, A = some a → ¬ T a.block) : Is.L0 W' A c xs := ⟨h.ls.only' ho hT, h.off⟩
/-- rows of numbers, read -/
def Rl (W : World) (A : Option Addr) (rows : List (List Int)) : Prop := ∀ i (h : i < rows.length), ∃ a Ai ci, A = some a ∧ W.cell? (a.add i) = some (.slice Ai rows[i].length ci) ∧ Is.L0 W Ai ci rows[i]
theorem Rl.below {W W' : World} {A : Option Addr} {rows : List (List Int)} (h : Rl W A rows) (hb : Below W.heap.size W W') : Rl W' A rows := fun i hi => by
  obtain ⟨a, Ai, ci, h1, h2, h3⟩ := h i hi
  refine ⟨a, Ai, ci, h1, ?_, h3.below hb⟩
  rw [World.cell?_of_block (w := W) (a := a.add i) (hb.block _ (cell_lt h2))]
  exact h2
/-- rows of numbers, a row of one's own that is being built -/
structure Rr (W : World) (K : Nat) (v : Value) (rows : List (List Int)) : Prop where
  own : ∃ vs, W.ownsRow K 24 1 v rows.length vs ∧ ∀ i (h : i < rows.length), ∃ Ai ci, vs[i]? = some (.slice Ai rows[i].length ci) ∧ Is.L0 W Ai ci rows[i] ∧ ∀ a, Ai = some a → v.ownBlock ≠ some a.block ∧ a.block < W.heap.size
section
variable {W W' : World} {K : Nat} {v : Value} {rows : List (List Int)}
theorem Rr.nil (W : World) (K : Nat) : Rr W K (.slice none 0 0) [] := ⟨[], World.ownsRow_nil _ _ _ _, fun i h => by simp at h⟩
theorem Rr.below (h : Rr W K v rows) (hb : Below W.heap.size W W') : Rr W' K v rows := by
  obtain ⟨vs, h1, h2⟩ := h.own
  refine ⟨vs, row_below h1 hb, fun i hi => ?_⟩
  obtain ⟨Ai, ci, h3, h4, h5⟩ := h2 i hi
  exact ⟨Ai, ci, h3, h4.below hb, fun a ha => ⟨(h5 a ha).1, Nat.lt_of_lt_of_le (h5 a ha).2 hb.size⟩⟩
theorem Rr.rl (h : Rr W K v rows) : ∃ A c, v = .slice A rows.length c ∧ Rl W A rows := by
  obtain ⟨vs, h1, h2⟩ := h.own
  rcases h1.2 with ⟨hv, h0⟩ | ⟨g, cap, cur, hv, hb, hg, h3⟩
  · exact ⟨none, 0, by rw [hv, h0], fun i hi => by omega⟩
  · refine ⟨some ⟨g, 0, none⟩, cap, hv, fun i hi => ?_⟩
    obtain ⟨Ai, ci, h3, h4, h5⟩ := h2 i hi
    exact ⟨_, Ai, ci, rfl, h1.cells (g := g) (by rw [hv]; rfl) i _ h3, h4⟩
theorem Rr.put {A : Option Addr} {c m : Nat} {r : List Int} (h : Rr W K v rows) (hK : K ≤ W.heap.size) (hl : rows.length ≤ 10000) (hL : Is.L0 W A c r) (hm : r.length = m) (hA : ∀ a, A = some a → v.ownBlock ≠ some a.block ∧ a.block < W.heap.size) :
    ∃ A' c' W', (Builtin.append_ #[35, 35] 35 #[v, .slice (some ⟨W.heap.size, 0, none⟩) 1 1]).run Try.prog (W.alloc (.cells #[.slice A m c] 24)) = .ok (.slice A' (rows.length + 1) c') W' ∧ Rr W' K (.slice A' (rows.length + 1) c') (rows ++ [r]) ∧ Below K W W' ∧ OnlyS (fun k => v.ownBlock = some k) W W' ∧ ((Value.slice A' (rows.length + 1) c').ownBlock = v.ownBlock ∨ ∀ k, (Value.slice A' (rows.length + 1) c').ownBlock = some k → W.heap.size ≤ k) := by
  subst hm
  obtain ⟨i0, hi, hz0, hz1, hz2⟩ := info_parts info24
  have hbx := box_below W (.cells #[.slice A r.length c] 24)
  have hnew : (W.alloc (.cells #[.slice A r.length c] 24)).cell? ⟨W.heap.size, 0, none⟩ = some (.slice A r.length c) := by simp [go_sem]
  obtain ⟨vs, h1, h2⟩ := (h.below hbx).own
  obtain ⟨v', W', hrun, hrow, hgr, -, hown⟩ := run_append_own_at (P := Try.prog) (W.alloc (.cells #[.slice A r.length c] 24)) K 35 35 24 i0 _ 1 24 Try.underlying35 hi hz0 hz1 hz2 rfl (by decide) v rows.length vs h1 ⟨W.heap.size, 0, none⟩ 1 1 [.slice A r.length c] rfl
    (fun j u hj => by
      cases j with
      | zero => simp at hj; subst hj; exact hnew
      | succ j => simp at hj) (fun u hu => by obtain rfl : u = _ := by simpa using hu
                                              rfl) (by unfold maxLen; omega) (by omega) (Nat.le_trans hK hbx.size)
  have ho : OnlyS (fun k => v.ownBlock = some k) (W.alloc (.cells #[.slice A r.length c] 24)) W' := (OnlyS.refl _ _).grown hgr fun k hk => .inl hk
  have hlen : (rows ++ [r]).length = rows.length + 1 := by simp
  have hsz : (W.alloc (.cells #[.slice A r.length c] 24)).heap.size = W.heap.size + 1 := by simp
  have hvs := h1.1
  have hRr : Rr W' K v' (rows ++ [r]) := by
    refine ⟨vs ++ [.slice A r.length c], by rw [hlen]; exact hrow, fun i hi => ?_⟩
    have far : ∀ a : Addr, v.ownBlock ≠ some a.block → a.block < W.heap.size → v'.ownBlock ≠ some a.block ∧ a.block < W'.heap.size := fun a h3 h4 => by
      refine ⟨fun e => ?_, by have := ho.size; omega⟩
      rcases hown with q | q
      · exact h3 (q ▸ e)
      · rw [q, hsz] at e
        injection e with e
        omega
    rw [hlen] at hi
    rcases Nat.lt_or_ge i rows.length with q | q
    · obtain ⟨vs0, g1, g2⟩ := h.own
      obtain ⟨Ai, ci, h3, h4, h5⟩ := h2 i q
      rw [List.getElem_append_left q]
      refine ⟨Ai, ci, by rw [List.getElem?_append_left (by omega)]; exact h3, h4.only ho fun a ha e => (h5 a ha).1 e, fun a ha => ?_⟩
      have h6 := (h5 a ha)
      rcases Nat.lt_or_ge a.block W.heap.size with q2 | q2
      · exact far a h6.1 q2
      · -- a row read in W lies below it
        refine ⟨fun e => ?_, by have := ho.size; omega⟩
        rcases hown with q3 | q3
        · exact h6.1 (q3 ▸ e)
        · rw [q3, hsz] at e
          injection e with e
          omega
    · obtain rfl : i = rows.length := by omega
      rw [List.getElem_concat_length rfl]
      refine ⟨A, c, by rw [List.getElem?_append_right (by omega)]; simp [hvs], (hL.below hbx).only ho fun a ha e => (hA a ha).1 e, fun a ha => far a (hA a ha).1 (hA a ha).2⟩
  obtain ⟨A', c', rfl, -⟩ := hRr.rl
  rw [hlen] at hRr hrun hown
  refine ⟨A', c', W', hrun, hRr, (hbx.mono hK).trans ?_, (OnlyS.of_below hbx).trans ho, hown.imp (fun q => q) fun q k hk => ?_⟩
  · exact ho.below (fun k hk => (h1.lt k hk).1) (Nat.le_trans hK hbx.size)
  · rw [q, hsz] at hk
    injection hk with hk
    omega
end
end Go.Proofs.Ytgefponjlliaaaa
