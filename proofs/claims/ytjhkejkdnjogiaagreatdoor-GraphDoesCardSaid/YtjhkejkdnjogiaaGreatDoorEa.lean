/- Rows of pointers to the document's queues; lists of them that are joined; the document's table in memory. -/
import Derived.Test.YtjhkejkdnjogiaaGreatDoorRd
import Derived.Lib.AppendZeros
import Derived.ArgAppend
namespace Go.Proofs.YtjhkejkdnjogiaaGreatDoor.Rt
open Go Go.RowKit Go.Shelf
set_option maxRecDepth 100000

/-- the cells of pointers -/
def ptrs (fs : List Nat) : List Value := fs.map fun (i : Nat) => qp i
theorem ptrs_length (fs : List Nat) : (ptrs fs).length = fs.length * 1 := by simp [ptrs]
theorem info81 : (Tryz.prog.info? 37).map (fun i => (i.zero, i.size, i.bytes)) = some (some (.pointer none), 1, 8) := by kernel_rfl
/-- a slice that reads as a list, in blocks from K on -/
structure Rd (W : World) (K : Nat) (A : Option Addr) (c : Nat) (l : List Nat) : Prop where
  cap : l.length ≤ c
  room : c ≤ maxLen
  nil : A = none → l = [] ∧ c = 0
  at' : ∀ a, A = some a → ∃ g, a = ⟨g, 0, none⟩ ∧ K ≤ g ∧ g < W.heap.size ∧ (∀ o, W.frozen? ⟨g, o, none⟩ = false) ∧ ∀ i (h : i < l.length), W.cell? ⟨g, i, none⟩ = some (qp l[i])
section
variable {W W' : World} {K c : Nat} {A : Option Addr} {l : List Nat}
theorem Rd.keepT (h : Rd W K A c l) (hs : W.heap.size ≤ W'.heap.size) (hk : ∀ a, A = some a → W'.heap[a.block]? = W.heap[a.block]?) : Rd W' K A c l := by
  refine ⟨h.cap, h.room, h.nil, fun a ha => ?_⟩
  obtain ⟨g, rfl, h1, h2, h4, h3⟩ := h.at' a ha
  have hb := hk _ ha
  exact ⟨g, rfl, h1, Nat.lt_of_lt_of_le h2 hs, fun o => (World.frozen?_of_block (w := W) (a := ⟨g, o, none⟩) hb).trans (h4 o), fun i hi => (World.cell?_of_block (w := W) (a := ⟨g, i, none⟩) hb).trans (h3 i hi)⟩
theorem Rd.lt (h : Rd W K A c l) : ∀ a, A = some a → K ≤ a.block ∧ a.block < W.heap.size := fun a ha => by
  obtain ⟨g, rfl, h1, h2, -⟩ := h.at' a ha
  exact ⟨h1, h2⟩
theorem Rd.below (h : Rd W K A c l) (hb : Below W.heap.size W W') : Rd W' K A c l := h.keepT hb.size fun a ha => hb.block _ (h.lt a ha).2
theorem Rd.cell (h : Rd W K A c l) {i : Nat} (hi : i < l.length) : ∃ g, A = some ⟨g, 0, none⟩ ∧ W.cell? ⟨g, i, none⟩ = some (qp l[i]) := by
  cases A with
  | none => have := (h.nil rfl).1; subst this; simp at hi
  | some a =>
    obtain ⟨g, rfl, _, _, _, h4⟩ := h.at' a rfl
    exact ⟨g, rfl, h4 i hi⟩
theorem Rd.nilq (W : World) (K : Nat) : Rd W K none 0 [] := ⟨Nat.le_refl _, Nat.zero_le _, fun _ => ⟨rfl, rfl⟩, fun _ h => by cases h⟩
theorem Rd.weak {K' : Nat} (h : Rd W K A c l) (hk : K' ≤ K) : Rd W K' A c l := by
  refine ⟨h.cap, h.room, h.nil, fun a ha => ?_⟩
  obtain ⟨g, rfl, h1, h2, h3⟩ := h.at' a ha
  exact ⟨g, rfl, by omega, h2, h3⟩
theorem Rd.of_row {v : Value} {n : Nat} (h : W.ownsRow K 37 1 v n (ptrs l)) (hn : l.length = n) : ∃ A c, v = .slice A n c ∧ Rd W K A c l := by
  subst hn
  rcases h.2 with ⟨rfl, h0⟩ | ⟨g', cap', cur, rfl, hb, hg, h1, h2, h3, h4⟩
  · exact ⟨none, 0, by rw [h0], by omega, Nat.zero_le _, fun _ => ⟨List.length_eq_zero_iff.1 h0, rfl⟩, fun _ h => by cases h⟩
  · refine ⟨_, cap', rfl, by omega, h2, by simp, fun a ha => ?_⟩
    obtain rfl : (⟨g', 0, none⟩ : Addr) = a := by simpa using ha
    refine ⟨g', rfl, hb, (Array.getElem?_eq_some_iff.1 hg).1, fun o => free_blk hg, fun i hi => ?_⟩
    have e1 : (ptrs l)[i]? = some (qp l[i]) := by simp [ptrs, hi]
    have := h.cells (g := g') rfl i _ e1
    rwa [add_at] at this
theorem Rd.takes {k : Nat} (h : Rd W K A c l) (hk : k ≤ l.length) : Rd W K A (l.take k).length (l.take k) := by
  refine ⟨Nat.le_refl _, ?_, fun e => ?_, fun a ha => ?_⟩
  · rw [List.length_take]; exact Nat.le_trans (Nat.min_le_right _ _) (Nat.le_trans h.cap h.room)
  · have := (h.nil e).1; subst this; simp
  · obtain ⟨g, rfl, h1, h2, h4, h3⟩ := h.at' a ha
    refine ⟨g, rfl, h1, h2, h4, fun j hj => ?_⟩
    rw [List.length_take] at hj
    rw [h3 j (by omega), List.getElem_take]
/-- a pointer of it is turned -/
theorem Rd.put {g : Nat} (h : Rd W K (some ⟨g, 0, none⟩) c l) {i : Nat} (hi : i < l.length) (q : Nat) : Rd (W.setCell ⟨g, i, none⟩ (qp q)) K (some ⟨g, 0, none⟩) c (l.set i q) := by
  refine ⟨by rw [List.length_set]; exact h.cap, h.room, by simp, fun a ha => ?_⟩
  obtain ⟨g', e, h1, h2, h4, h3⟩ := h.at' _ rfl
  cases e
  cases ha
  refine ⟨g, rfl, h1, by simpa [World.setCell] using h2, fun o => by rw [World.frozen?_setCell]; exact h4 o, fun j hj => ?_⟩
  rw [List.length_set] at hj
  by_cases e : i = j
  · subst e
    rw [World.cell?_setCell_same' _ _ _ (by rw [h3 i hi]; rfl), List.getElem_set_self]
  · rw [World.cell?_setCell_other (h := fun q => e (by injection q)), h3 j hj, List.getElem_set_ne e]
end
/-- what is read from an address on -/
def From (W : World) (SA : Option Addr) (l : List Nat) : Prop := ∀ i (h : i < l.length), ∃ g off, SA = some ⟨g, off, none⟩ ∧ W.cell? ⟨g, off + i, none⟩ = some (qp l[i])
section
variable {W W' : World} {K c : Nat} {A SA : Option Addr} {l l1 l2 : List Nat}
theorem Rd.from (h : Rd W K A c l) : From W A l := fun i hi => by
  obtain ⟨g, rfl, h2⟩ := h.cell hi
  exact ⟨g, 0, rfl, by rw [Nat.zero_add]; exact h2⟩
theorem From.news (h : From W SA l) (h0 : 0 < l.length) : ∃ g off, SA = some ⟨g, off, none⟩ ∧ ∀ j u, (ptrs l)[j]? = some u → W.cell? ((⟨g, off, none⟩ : Addr).add j) = some u := by
  obtain ⟨g, off, rfl, -⟩ := h 0 h0
  refine ⟨g, off, rfl, fun j u hj => ?_⟩
  have hj2 : j < l.length := by
    have := (List.getElem?_eq_some_iff.1 hj).1
    rw [ptrs_length] at this
    omega
  obtain ⟨g', off', e, h2⟩ := h j hj2
  cases e
  rw [Addr.add_lit, h2, ← hj]
  simp only [ptrs, List.getElem?_map, List.getElem?_eq_getElem hj2, Option.map_some]
theorem ptrs_one (l : List Nat) : ∀ u ∈ ptrs l, u.oneCell' = true := by
  intro u hu
  obtain ⟨x, -, rfl⟩ := List.mem_map.1 hu
  rfl
theorem ptrs_append (l1 l2 : List Nat) : ptrs (l1 ++ l2) = ptrs l1 ++ ptrs l2 := by simp [ptrs]
/-- what joining leaves -/
structure Joins (W : World) (l : List Nat) (A' : Option Addr) (c' : Nat) (w' : World) : Prop where
  rd : Rd w' W.heap.size A' c' l
  bel : Below W.heap.size W w'
theorem join_some (h : Rd W K A l1.length l1) (hs : From W SA l2) (h0 : 0 < l2.length) (hl : l1.length + l2.length ≤ 20000) (sc : Nat) (ty : TypeId) :
    ∃ A' c' w', (Builtin.append_ #[38, 38] ty #[.slice A l1.length l1.length, .slice SA l2.length sc]).run Tryz.prog W = .ok (.slice A' (l1.length + l2.length) c') w' ∧ Joins W (l1 ++ l2) A' c' w' := by
  obtain ⟨i0, hi, hz0, hz1, hz2⟩ := info_parts info81
  obtain ⟨sg, so, rfl, hn⟩ := hs.news h0
  have hbel : ∀ {w' : World}, W.grownBy w' none → Below W.heap.size W w' := fun hg => ⟨hg.os, hg.tape, hg.output, hg.size, fun j hj => hg.block j hj (by simp)⟩
  cases A with
  | none =>
    obtain ⟨rfl, -⟩ := h.nil rfl
    obtain ⟨g, cap, w', hr, hown, hg, hgo, hlt⟩ := run_append_lies (P := Tryz.prog) (w := W) 38 ty W.heap.size 37 i0 (.pointer none) 1 8 Tryz.underlying38 hi hz0 hz1 hz2 rfl (by decide) (.slice none 0 0) 0 [] (World.ownsRow_nil _ _ _ _) ⟨sg, so, none⟩ l2.length sc (ptrs l2) (ptrs_length _) hn (ptrs_one _) h0 (by unfold maxLen; omega) (by omega) (Nat.le_refl _) _ rfl
    obtain ⟨A', c', e, hrd⟩ := Rd.of_row (l := l2) hown (by simp)
    cases e
    exact ⟨_, _, w', hr, hrd, hbel hg⟩
  | some a =>
    obtain ⟨g, rfl, h1, h2, -, h3⟩ := h.at' a rfl
    obtain ⟨v', w', hr, hown, hg⟩ := run_append_arg_grows (P := Tryz.prog) W 38 ty 37 i0 (.pointer none) 1 8 Tryz.underlying38 hi hz0 hz1 hz2 rfl (by decide) ⟨g, 0, none⟩ l1.length l1.length (ptrs l1) (ptrs_length _)
      (fun j u hj => by
        have hj2 : j < l1.length := by
          have := (List.getElem?_eq_some_iff.1 hj).1
          rw [ptrs_length] at this
          omega
        rw [add_at, h3 j hj2, ← hj]
        simp only [ptrs, List.getElem?_map, List.getElem?_eq_getElem hj2, Option.map_some])
      ⟨sg, so, none⟩ l2.length sc (ptrs l2) (ptrs_length _) hn (by omega) (by unfold maxLen; omega) (by omega)
    rw [← ptrs_append] at hown
    obtain ⟨A', c', rfl, hrd⟩ := Rd.of_row (l := l1 ++ l2) hown (by simp)
    exact ⟨_, _, w', hr, hrd, hbel hg⟩
/-- nothing is put behind a list -/
theorem join_none {g n : Nat} {a : Addr} (sc : Nat) (ty : TypeId) : (Builtin.append_ #[38, 38] ty #[.slice (some ⟨g, 0, none⟩) n n, .slice (some a) 0 sc]).run Tryz.prog W = .ok (.slice (some ⟨g, 0, none⟩) n n) W := by
  obtain ⟨i0, hi, hz0, hz1, hz2⟩ := info_parts info81
  exact run_append_room_cells (P := Tryz.prog) W 38 ty 37 i0 Tryz.underlying38 hi g 0 n n a 0 sc [] (by simp) (by simp) (by simp) (by omega) (by simp) (by simp)
theorem join_nil {g n : Nat} (ty : TypeId) : (Builtin.append_ #[38, 38] ty #[.slice (some ⟨g, 0, none⟩) n n, .slice none 0 0]).run Tryz.prog W = .ok (.slice (some ⟨g, 0, none⟩) n n) W := by
  obtain ⟨i0, hi, hz0, hz1, hz2⟩ := info_parts info81
  simp [Builtin.append_, run_underlying Tryz.underlying38, sizeOf, typeInfo, hi, Builtin.lenOf, Builtin.firstCells, storeCells]
theorem Rd.lit (W : World) (k : Nat) : Rd (W.alloc (.cells #[qp k] 37)) W.heap.size (some ⟨W.heap.size, 0, none⟩) 1 [k] := by
  refine ⟨Nat.le_refl _, by decide, by simp, fun a ha => ?_⟩
  obtain rfl : (⟨W.heap.size, 0, none⟩ : Addr) = a := by simpa using ha
  refine ⟨_, rfl, Nat.le_refl _, by simp, fun o => by simp [go_sem], fun i hi => ?_⟩
  obtain rfl : i = 0 := by simpa using hi
  simp [go_sem]
/-- one is put ahead of a list -/
theorem join_front (h : Rd W K A c l) (k : Nat) (hl : l.length ≤ 5000) (ty : TypeId) :
    ∃ A' c' w', (Builtin.append_ #[38, 38] ty #[.slice (some ⟨W.heap.size, 0, none⟩) 1 1, .slice A l.length c]).run Tryz.prog (W.alloc (.cells #[qp k] 37)) = .ok (.slice A' (l.length + 1) c') w' ∧ Joins W (k :: l) A' c' w' := by
  have hx := box_below W (.cells #[qp k] 37)
  have h1 := h.below hx
  have hs := Rd.lit W k
  cases l with
  | nil =>
    cases A with
    | none =>
      obtain ⟨-, rfl⟩ := h.nil rfl
      exact ⟨_, _, _, join_nil ty, hs, hx⟩
    | some a => exact ⟨_, _, _, join_none c ty, hs, hx⟩
  | cons y l =>
    obtain ⟨A', c', w', hr, hj⟩ := join_some (l1 := [k]) hs h1.from (by simp) (by simp at hl ⊢; omega) c ty
    have hb := hj.bel
    refine ⟨A', c', w', ?_, hj.rd.weak (by simp), hx.trans (hb.mono hx.size)⟩
    rw [Nat.add_comm]
    exact hr
end
section
variable {W W' : World} {K c : Nat} {A SA : Option Addr} {l l1 l2 : List Nat}
theorem Rd.drops {g c k : Nat} {l : List Nat} (h : Rd W K (some ⟨g, 0, none⟩) c l) : From W (some ⟨g, k, none⟩) (l.drop k) := fun j hj => by
  rw [List.length_drop] at hj
  obtain ⟨g', e, h3⟩ := h.cell (i := k + j) (by omega)
  cases e
  exact ⟨g, k, rfl, by rw [h3, List.getElem_drop]⟩
theorem join_any {g sc : Nat} {sa : Addr} {l1 l2 : List Nat} (h : Rd W K (some ⟨g, 0, none⟩) l1.length l1) (hs : From W (some sa) l2) (hl : l1.length + l2.length ≤ 20000) (hK : K ≤ W.heap.size) (ty : TypeId) :
    ∃ A' c' w', (Builtin.append_ #[38, 38] ty #[.slice (some ⟨g, 0, none⟩) l1.length l1.length, .slice (some sa) l2.length sc]).run Tryz.prog W = .ok (.slice A' (l1.length + l2.length) c') w' ∧ Rd w' K A' c' (l1 ++ l2) ∧ Below W.heap.size W w' ∧ (A' = some ⟨g, 0, none⟩ ∨ ∀ a, A' = some a → W.heap.size ≤ a.block) := by
  cases l2 with
  | nil => exact ⟨_, _, _, join_none sc ty, by rw [List.append_nil]; exact h, Below.refl _ _, .inl rfl⟩
  | cons x l2 =>
    obtain ⟨A', c', w', hr, hj⟩ := join_some h hs (by simp) hl sc ty
    exact ⟨A', c', w', hr, hj.rd.weak hK, hj.bel, .inr fun a ha => (hj.rd.lt a ha).1⟩
/-- append in a region that draws, by what it comes to -/
theorem step_append_run {P : Program} {ops : Array Oper} {o : Oper} {a : Act} {w : World} {K : Act → World → Prop} {Q : Exit → Act → World → Prop} {E : Prop}
    (hg : o.guard = none) (s x : Operand) (t : TypeId) (hop : o.op = Op.call { callee := Callee.builtin Builtin.append, args := #[s, x], argTypes := #[t, t] })
    (vs vx : Value) (hs : a.eval s = vs) (hx : a.eval x = vx) (v' : Value) (w' : World) (hrun : (Builtin.append_ #[t, t] o.type #[vs, vx]).run P w = .ok v' w') (hK : K (a.put o.dst v') w') :
    if Region.wanted o (yielded ops a.tmps) = true then Oper.wp P o a w K Q else E := by
  have hw : Region.wanted o (yielded ops a.tmps) = true := by simp [Region.wanted, hg]
  rw [if_pos hw]
  unfold Oper.wp
  simp [execOp, hop, resolve, invoke, builtin, hs, hx, hrun, Result.andThen]
  exact hK
end
/-- the document's table lies in memory: its entries, of which each list lies off all that either table may change -/
structure Di (W : World) (t K : Nat) (m : Nat) (mr : Int) (es : List Nd) (D : Nat → Prop) (A : Option Addr) (c : Nat) : Prop where
  blk : W.heap[t]? = some (.cells #[.slice A es.length c, .int .i64 (m : Int), .int .i64 mr] 40 (0, 0))
  rd : Rd W K A c (es.map (·.q))
  ent : ∀ e, e ∈ es → ∃ A1 c1 A2 c2, RAt W e.q e.p A1 c1 A2 c2 e.H e.L ∧ Off D A1 e.H ∧ Off D A2 e.L
  one : (es.map (·.q)).Nodup
  dt : D t
  da : ∀ a, A = some a → D a.block
  dq : ∀ e, e ∈ es → D e.q
  dl : ∀ k, D k → k < W.heap.size
  na : ∀ a, A = some a → a.block ≠ t
  nq : ∀ e, e ∈ es → e.q ≠ t ∧ ∀ a, A = some a → a.block ≠ e.q
  kt : K ≤ t
  kq : ∀ e, e ∈ es → K ≤ e.q
/-- its own blocks -/
def Own (t : Nat) (A : Option Addr) (es : List Nd) (k : Nat) : Prop := k = t ∨ (∃ a, A = some a ∧ a.block = k) ∨ ∃ e, e ∈ es ∧ e.q = k
/-- what a call of the document's leaves -/
def Dout (W : World) (t K m : Nat) (mr : Int) (es : List Nd) (A : Option Addr) (D : Nat → Prop) (es' : List Nd) (w' : World) : Prop :=
  ∃ A' c' D', Di w' t K m mr es' D' A' c' ∧ OnlyS (Own t A es) W w' ∧ Nb W w' ∧ (∀ k, D k → D' k) ∧ ∀ k, Own t A' es' k → Own t A es k ∨ W.heap.size ≤ k
section
variable {W W' w : World} {t K m c : Nat} {mr : Int} {es es' : List Nd} {D D' T : Nat → Prop} {A : Option Addr} {e : Nd} {A1 A2 : Option Addr} {c1 c2 : Nat}
theorem Di.e0 (h : Di W t K m mr es D A c) {n : Nat} (hn : es.length = n) : W.cell? ⟨t, 0, none⟩ = some (.slice A n c) := by subst hn; rw [cell_blk h.blk]; rfl
theorem Di.e1 (h : Di W t K m mr es D A c) : W.cell? ⟨t, 1, none⟩ = some (.int .i64 (m : Int)) := by rw [cell_blk h.blk]; rfl
theorem Di.e2 (h : Di W t K m mr es D A c) : W.cell? ⟨t, 2, none⟩ = some (.int .i64 mr) := by rw [cell_blk h.blk]; rfl
theorem Di.lt (h : Di W t K m mr es D A c) : t < W.heap.size := lt_blk h.blk
theorem Di.fz (h : Di W t K m mr es D A c) (k : Nat) : W.frozen? ⟨t, k, none⟩ = false := free_blk h.blk
theorem Di.own (h : Di W t K m mr es D A c) : ∀ k, Own t A es k → D k := by
  rintro k (rfl | ⟨a, ha, rfl⟩ | ⟨e, he, rfl⟩)
  · exact h.dt
  · exact h.da a ha
  · exact h.dq e he
theorem Di.ownK (h : Di W t K m mr es D A c) : ∀ k, Own t A es k → K ≤ k := by
  rintro k (rfl | ⟨a, ha, rfl⟩ | ⟨e, he, rfl⟩)
  · exact h.kt
  · exact (h.rd.lt a ha).1
  · exact h.kq e he
theorem Di.below (h : Di W t K m mr es D A c) (hb : Below W.heap.size W W') : Di W' t K m mr es D A c :=
  ⟨(hb.block t h.lt).trans h.blk, h.rd.below hb, fun e he => by
    obtain ⟨A1, c1, A2, c2, h1, h2⟩ := h.ent e he
    exact ⟨A1, c1, A2, c2, h1.below hb, h2⟩, h.one, h.dt, h.da, h.dq, fun k hk => Nat.lt_of_lt_of_le (h.dl k hk) hb.size, h.na, h.nq, h.kt, h.kq⟩
/-- the i-th entry -/
theorem Di.at (h : Di W t K m mr es D A c) {i : Nat} (hi : i < es.length) : ∃ g, A = some ⟨g, 0, none⟩ ∧ W.cell? ⟨g, i, none⟩ = some (qp es[i].q) ∧ W.frozen? ⟨g, i, none⟩ = false := by
  obtain ⟨g, rfl, h1⟩ := h.rd.cell (i := i) (by simpa using hi)
  obtain ⟨g', e, -, -, h4, -⟩ := h.rd.at' _ rfl
  cases e
  refine ⟨g, rfl, ?_, h4 i⟩
  rw [h1]
  simp
theorem Dout.refl (h : Di W t K m mr es D A c) : Dout W t K m mr es A D es W := ⟨A, c, D, h, OnlyS.refl _ _, Nb.refl _, fun _ hk => hk, fun _ hk => .inl hk⟩
theorem Dout.same (h : Di W t K m mr es D A c) (hb : Below W.heap.size W W') : Dout W t K m mr es A D es W' := ⟨A, c, D, h.below hb, OnlyS.of_below hb, Nb.below hb, fun _ hk => hk, fun _ hk => .inl hk⟩
/-- the other table was changed -/
theorem Di.stay (h : Di W t K m mr es D A c) (hD : ∀ k, T k → D k) (hO : ∀ k, Own t A es k → ¬ T k) (ho : OnlyS T W W') {N : Nat → Prop} (hN : ∀ k, N k → W.heap.size ≤ k ∧ k < W'.heap.size) : Di W' t K m mr es (fun k => D k ∨ N k) A c := by
  refine ⟨(ho.block t h.lt (hO t (.inl rfl))).trans h.blk, h.rd.keepT ho.size fun a ha => ho.block _ (h.rd.lt a ha).2 (hO _ (.inr (.inl ⟨a, ha, rfl⟩))), fun e he => ?_, h.one, .inl h.dt, fun a ha => .inl (h.da a ha), fun e he => .inl (h.dq e he), fun k hk => ?_, h.na, h.nq, h.kt, h.kq⟩
  · obtain ⟨A1, c1, A2, c2, h1, h2, h3⟩ := h.ent e he
    exact ⟨A1, c1, A2, c2, h1.stay ho (hO _ (.inr (.inr ⟨e, he, rfl⟩))) (h2.mono hD) (h3.mono hD), h2.grow h1.h.in (fun k hk => hk.imp id fun q => (hN k q).1), h3.grow h1.l.in (fun k hk => hk.imp id fun q => (hN k q).1)⟩
  · rcases hk with q | q
    · exact Nat.lt_of_lt_of_le (h.dl k q) ho.size
    · exact (hN k q).2
end
end Go.Proofs.YtjhkejkdnjogiaaGreatDoor.Rt
