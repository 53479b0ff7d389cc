/- Numbers in a block that is written; a label to which one goes back; marks that are spread. -/
import Derived.Test.YtggmnjnigmbooaaHd
namespace Go.Proofs.Ytggmnjnigmbooaa
open Go Go.RowKit Go.Shelf
set_option maxRecDepth 100000

theorem cell_far {W : World} {k o o' : Nat} {u : Value} (h : o' ≠ o) : (W.setCell ⟨k, o, none⟩ u).cell? ⟨k, o', none⟩ = W.cell? ⟨k, o', none⟩ :=
  World.cell?_setCell_other _ _ _ _ (fun e => h (by injection e with e1 e2; exact e2.symm))
theorem cell_near {W : World} {k o : Nat} {u x : Value} (h : W.cell? ⟨k, o, none⟩ = some x) : (W.setCell ⟨k, o, none⟩ u).cell? ⟨k, o, none⟩ = some u :=
  World.cell?_setCell_same' _ _ _ (by rw [h]; rfl)
/-- numbers in a block: place i reads as f i -/
structure Arr (W : World) (g n : Nat) (f : Nat → Int) : Prop where
  at' : ∀ i, i < n → W.cell? ⟨g, i, none⟩ = some (.int .i64 (f i))
  fz : ∀ o, W.frozen? ⟨g, o, none⟩ = false
  lt : g < W.heap.size
section
variable {W W' : World} {g n : Nat} {f f' : Nat → Int}
theorem Arr.keep (h : Arr W g n f) (hs : W.heap.size ≤ W'.heap.size) (hg : W'.heap[g]? = W.heap[g]?) : Arr W' g n f :=
  ⟨fun i hi => (World.cell?_of_block (w := W) (a := ⟨g, i, none⟩) hg).trans (h.at' i hi), fun o => (World.frozen?_of_block (w := W) (a := ⟨g, o, none⟩) hg).trans (h.fz o), Nat.lt_of_lt_of_le h.lt hs⟩
theorem Arr.below (h : Arr W g n f) (hb : Below W.heap.size W W') : Arr W' g n f := h.keep hb.size (hb.block g h.lt)
theorem Arr.only {T : Nat → Prop} (h : Arr W g n f) (ho : OnlyS T W W') (hn : ¬ T g) : Arr W' g n f := h.keep ho.size (ho.block g h.lt hn)
theorem Arr.congr (h : Arr W g n f) (he : ∀ i, i < n → f i = f' i) : Arr W g n f' := ⟨fun i hi => by rw [← he i hi]; exact h.at' i hi, h.fz, h.lt⟩
theorem Arr.set (h : Arr W g n f) (k : Nat) (x : Int) : Arr (W.setCell ⟨g, k, none⟩ (.int .i64 x)) g n (Cy.upd f k x) := by
  refine ⟨fun i hi => ?_, fun o => by rw [World.frozen?_setCell]; exact h.fz o, by simpa [World.setCell] using h.lt⟩
  unfold Cy.upd
  by_cases e : i = k
  · subst e; rw [if_pos rfl]; exact cell_near (h.at' i hi)
  · rw [if_neg e, cell_far e]; exact h.at' i hi
end
theorem mk_ints (W : World) (N : Nat) (hN : N ≤ 65536) : (Instr.makeSlice 23 (.int .i64 (N : Int)) (.int .i64 (N : Int))).run Try.prog W = .ok (.slice (some ⟨W.heap.size, 0, none⟩) N N) (W.alloc (.cells (madeCells #[.int .i64 0] N) 3)) := by
  obtain ⟨i0, hi, hz0, hz1, hz2⟩ := info_parts Is.info3
  have := run_make (P := Try.prog) W 23 3 i0 _ Try.underlying23 hi hz0 .i64 .i64 (N : Int) (N : Int) (by omega) (Int.le_refl _) (by rw [hz2]; omega) (by omega)
  rw [hz1, Int.toNat_natCast, Nat.mul_one] at this
  exact this
theorem Arr.made (W : World) (N : Nat) : Arr (W.alloc (.cells (madeCells #[.int .i64 0] N) 3)) W.heap.size N (fun _ => 0) := by
  have hb := heap_new' W (.cells (madeCells #[.int .i64 0] N) 3)
  refine ⟨fun i hi => ?_, fun o => frozen_of_row _ _ _ _ _ hb, by simp⟩
  rw [cell_of_row _ _ _ _ _ _ hb]
  simp [madeCells, hi, Nat.mod_one]

theorem least {p : Nat → Prop} (h : ∃ n, p n) : ∃ n, p n ∧ ∀ m, p m → n ≤ m := by
  obtain ⟨n, hn⟩ := h
  induction n using Nat.strongRecOn with
  | _ n ih =>
    by_cases hm : ∃ m, m < n ∧ p m
    · obtain ⟨m, h1, h2⟩ := hm
      exact ih m h1 h2
    · exact ⟨n, hn, fun m hp => by
        by_cases hl : m < n
        · exact absurd ⟨m, hl, hp⟩ hm
        · omega⟩
/-- code with a label: beside what holds there goes a number that each way back lowers -/
theorem scope_ranked {P : Program} {a : Act} {w : World} {Q : Exit → Act → World → Prop} {c rest : Code} (l : Nat) (J : Nat → Act → World → Prop) (hf : findLabel c l = some (Code.skip.seq rest))
    (first : (∀ n a w, J n a w → rest.wp P (Exit.jump l (fun a w => ∃ n, J n a w) Q) a w) → c.wp P (Exit.jump l (fun a w => ∃ n, J n a w) Q) a w)
    (pass : ∀ n a w, J n a w → rest.wp P (Exit.jump l (fun a' w' => ∃ m, m < n ∧ J m a' w') Q) a w) : (Code.scope c).wp P Q a w := by
  classical
  have hp : ∀ n a w, J n a w → rest.wp P (Exit.jump l (fun a w => ∃ n, J n a w) Q) a w := fun n a w hJ => by
    refine Code.wp_mono ?_ (pass n a w hJ)
    intro e a' w' he
    cases e with
    | goto l' =>
      obtain ⟨h1, m, -, h3⟩ := he
      exact ⟨h1, m, h3⟩
    | _ => exact he
  refine wp_scope_jumps l (fun a w => ∃ n, J n a w) (fun a w => if h : ∃ n, J n a w then Classical.choose (least h) else 0) hf (first hp) ?_
  intro a w hJ
  have hs := Classical.choose_spec (least hJ)
  refine wp_seq (wp_skip ?_)
  refine Code.wp_mono ?_ (pass _ a w hs.1)
  intro e a' w' he
  cases e with
  | goto l' =>
    obtain ⟨h1, m, h2, h3⟩ := he
    refine ⟨h1, ⟨m, h3⟩, ?_⟩
    have hs' := Classical.choose_spec (least (p := fun n => J n a' w') ⟨m, h3⟩)
    have h4 := hs'.2 m h3
    simp only [dif_pos hJ, dif_pos (show ∃ n, J n a' w' from ⟨m, h3⟩)]
    omega
  | _ => exact he

/-- a spreading on its way, in memory -/
structure Sg (W1 : World) (to : Cy.Tos) (m : Nat → Int) (s : Nat) (mark : Int) (g n N : Nat) (f : Nat → Int) (st : List Nat) (v : Value) (w : World) : Prop where
  arr : Arr w g n f
  row : Is.Row w W1.heap.size v (ints st)
  only : OnlyS (· = g) W1 w
  sp : Cy.Sp to m s mark f st
  lt : ∀ x ∈ st, x < n
  le : 2 * Cy.bare n f + st.length ≤ N
  small : N ≤ 2000
  far : g < W1.heap.size
/-- .. in the midst of a place's own -/
structure Sm (W1 : World) (to : Cy.Tos) (m : Nat → Int) (s : Nat) (mark : Int) (g n N a k : Nat) (f : Nat → Int) (st : List Nat) (v : Value) (w : World) : Prop where
  arr : Arr w g n f
  row : Is.Row w W1.heap.size v (ints st)
  only : OnlyS (· = g) W1 w
  sp : Cy.Spm to m s mark a k f st
  lt : ∀ x ∈ st, x < n
  le : 2 * Cy.bare n f + st.length ≤ N
  small : N ≤ 2000
  far : g < W1.heap.size
section
variable {W1 w : World} {to : Cy.Tos} {m f : Nat → Int} {s g n N a k : Nat} {mark : Int} {st : List Nat} {v : Value}
/-- the last one of a row of places -/
theorem Is.Row.last {W : World} {K : Nat} {st : List Nat} {a : Nat} {v : Value} (h : Is.Row W K v (ints (st ++ [a]))) :
    ∃ b c, v = .slice (some ⟨b, 0, none⟩) (st.length + 1) c ∧ W.cell? ⟨b, st.length, none⟩ = some (.int .i64 (a : Int)) ∧ Is.Row W K (.slice (some ⟨b, 0, none⟩) st.length c) (ints st) ∧ st.length ≤ c ∧ K ≤ b ∧ b < W.heap.size := by
  have h0 := h
  rcases h.2 with ⟨rfl, h1⟩ | ⟨b, c, cur, rfl, hb, hg, h1, h2, h3, h4⟩
  · rw [ints_length] at h1; simp at h1
  · have hl : (ints (st ++ [a])).length = st.length + 1 := by rw [ints_length]; simp
    rw [hl] at h1
    refine ⟨b, c, by rw [hl], ?_, ?_, by omega, hb, (Array.getElem?_eq_some_iff.1 hg).1⟩
    · have h5 := h0.cells (g := b) rfl st.length _ (Is.flat_at (ints (st ++ [a])) st.length (by rw [hl]; omega))
      rw [add_at] at h5
      rw [h5, ints_get]
      simp
    · have h5 := row_cut h (i := st.length) (by rw [hl]; omega)
      unfold Is.Row
      rw [ints_length]
      have e : (Is.flat (ints (st ++ [a]))).take (st.length * 1) = Is.flat (ints st) := by
        rw [ints_append, Is.flat_append, Nat.mul_one]
        exact List.take_left' (by rw [Is.flat_length, ints_length, Nat.mul_one])
      rw [e] at h5
      exact h5
theorem Sg.pop (h : Sg W1 to m s mark g n N f (st ++ [a]) v w) : ∃ b c, v = .slice (some ⟨b, 0, none⟩) (st.length + 1) c ∧ w.cell? ⟨b, st.length, none⟩ = some (.int .i64 (a : Int)) ∧ a < n ∧ st.length ≤ c ∧ 1 ≤ N ∧
    Sm W1 to m s mark g n (N - 1) a 0 f st (.slice (some ⟨b, 0, none⟩) st.length c) w := by
  obtain ⟨b, c, rfl, h1, h2, h3, -⟩ := h.row.last
  have hle := h.le
  rw [List.length_append, List.length_singleton] at hle
  exact ⟨b, c, rfl, h1, h.lt a (by simp), h3, by omega, h.arr, h2, h.only, h.sp.pop, fun x hx => h.lt x (by simp [hx]), by omega, by have := h.small; omega, h.far⟩
theorem Sm.skip (h : Sm W1 to m s mark g n N a k f st v w) (hk : k < (Cy.nx to a).length) (hf : f (Cy.nx to a)[k] ≠ 0) : Sm W1 to m s mark g n N a (k + 1) f st v w :=
  ⟨h.arr, h.row, h.only, h.sp.skip hk hf, h.lt, h.le, h.small, h.far⟩
theorem Sm.put (h : Sm W1 to m s mark g n N a k f st v w) (hm : mark ≠ 0) (hk : k < (Cy.nx to a).length) {b : Nat} (hb : (Cy.nx to a)[k] = b) (hf : f b = 0) (hbn : b < n) :
    ∃ A c A' c' w2, v = .slice A st.length c ∧ (Builtin.append_ #[23, 23] 23 #[.slice A st.length c, .slice (some ⟨w.heap.size, 0, none⟩) 1 1]).run Try.prog ((w.setCell ⟨g, b, none⟩ (.int .i64 mark)).alloc (.cells #[.int .i64 (b : Int)] 3)) = .ok (.slice A' (st.length + 1) c') w2 ∧
      Sm W1 to m s mark g n N a (k + 1) (Cy.upd f b mark) (st ++ [b]) (.slice A' (st.length + 1) c') w2 := by
  obtain ⟨A, c, hv, -⟩ := h.row.ls
  rw [ints_length] at hv
  subst hv
  have hfar := h.far
  have h1 : Is.Row (w.setCell ⟨g, b, none⟩ (.int .i64 mark)) W1.heap.size (.slice A st.length c) (ints st) := row_keep h.row fun j hj => Below.heap_setCell w ⟨g, b, none⟩ _ j (by have := (h.row.lt j hj).1; show j ≠ g; omega)
  have hs : (w.setCell ⟨g, b, none⟩ (.int .i64 mark)).heap.size = w.heap.size := by simp [World.setCell]
  have hbx := box_below (w.setCell ⟨g, b, none⟩ (.int .i64 mark)) (.cells #[.int .i64 (b : Int)] 3)
  have hle := h.le
  have hbu := Cy.bare_upd hbn hf hm
  have hsm := h.small
  obtain ⟨v', w2, hrun, hrow, hgr, -⟩ := Is.Row.app' (row_below h1 hbx) (ys := [(b : Int)]) (Is.box_ls _ b) (by simp) (by rw [ints_length]; simp; omega) (by have := h.only.size; simp; omega) 23
  obtain ⟨A', c', rfl, -⟩ := hrow.ls
  have hlen : (ints st ++ [(b : Int)]).length = st.length + 1 := by simp [ints_length]
  rw [hlen] at hrun hrow
  rw [hs] at hrun
  have ho : OnlyS (· = g) W1 w2 := by
    refine (h.only.setIn g b _ (.inl rfl)).alloc (.cells #[.int .i64 (b : Int)] 3) |>.grown hgr fun j hj => .inr ?_
    have := (h.row.lt j hj).1
    omega
  refine ⟨A, c, A', c', w2, rfl, hrun, ?_, ?_, ho, ?_, ?_, ?_, hsm, hfar⟩
  · have h2 := (h.arr.set b mark).below hbx
    refine h2.only (T := fun j => (Value.slice A st.length c).ownBlock = some j) ((OnlyS.refl _ _).grown hgr fun j hj => .inl hj) fun hj => ?_
    have := (h.row.lt g hj).1
    omega
  · rw [ints_append]; exact hrow
  · have := h.sp.put hm hk (by rw [hb]; exact hf)
    rw [hb] at this
    exact this
  · intro x hx
    rcases List.mem_append.1 hx with hx | hx
    · exact h.lt x hx
    · obtain rfl : x = b := by simpa using hx
      exact hbn
  · rw [List.length_append, List.length_singleton]
    omega
theorem Sm.done (h : Sm W1 to m s mark g n N a (Cy.nx to a).length f st v w) : Sg W1 to m s mark g n N f st v w :=
  ⟨h.arr, h.row, h.only, h.sp.done, h.lt, h.le, h.small, h.far⟩
end
def Sj (W1 : World) (R : Nat) (to : Cy.Tos) (m : Nat → Int) (s : Nat) (mark : Int) (g n : Nat) (A1 : Option Addr) (n1 c1 : Nat) (A2 : Option Addr) (c2 : Nat) (N : Nat) (a' : Act) (w' : World) : Prop :=
  ∃ (f : Nat → Int) (st : List Nat) (v : Value) (u5 u6 u7 u9 u10 u11 u12 u13 u14 u15 u16 u17 u18 u19 u20 u21 u22 u23 u24 u25 u26 u27 u28 u29 u30 u31 u32 u33 u34 u35 u36 u37 u38 u39 u40 u41 u42 u43 u44 u45 u46 u47 u48 u49 u50 u51 : Value), a' = { tmps := #[wayV A1 n1 c1 A2 n c2, .int .i64 s, .int .i64 mark, .slice (some ⟨g, 0, none⟩) n n, .pointer (some ⟨R, 0, none⟩), u5, u6, u7, v, u9, u10, u11, u12, u13, u14, u15, u16, u17, u18, u19, u20, u21, u22, u23, u24, u25, u26, u27, u28, u29, u30, u31, u32, u33, u34, u35, u36, u37, u38, u39, u40, u41, u42, u43, u44, u45, u46, u47, u48, u49, u50, u51], defers := [] } ∧ Sg W1 to m s mark g n N f st v w'
theorem Sj.mk' {W1 : World} {R : Nat} {to : Cy.Tos} {m : Nat → Int} {s : Nat} {mark : Int} {g n : Nat} {A1 : Option Addr} {n1 c1 : Nat} {A2 : Option Addr} {c2 : Nat} {f : Nat → Int} {st : List Nat} {v : Value} {u5 u6 u7 u9 u10 u11 u12 u13 u14 u15 u16 u17 u18 u19 u20 u21 u22 u23 u24 u25 u26 u27 u28 u29 u30 u31 u32 u33 u34 u35 u36 u37 u38 u39 u40 u41 u42 u43 u44 u45 u46 u47 u48 u49 u50 u51 : Value} {N : Nat} {w' : World} (h : Sg W1 to m s mark g n N f st v w') :
    Sj W1 R to m s mark g n A1 n1 c1 A2 c2 N { tmps := #[wayV A1 n1 c1 A2 n c2, .int .i64 s, .int .i64 mark, .slice (some ⟨g, 0, none⟩) n n, .pointer (some ⟨R, 0, none⟩), u5, u6, u7, v, u9, u10, u11, u12, u13, u14, u15, u16, u17, u18, u19, u20, u21, u22, u23, u24, u25, u26, u27, u28, u29, u30, u31, u32, u33, u34, u35, u36, u37, u38, u39, u40, u41, u42, u43, u44, u45, u46, u47, u48, u49, u50, u51], defers := [] } w' := ⟨f, st, v, u5, u6, u7, u9, u10, u11, u12, u13, u14, u15, u16, u17, u18, u19, u20, u21, u22, u23, u24, u25, u26, u27, u28, u29, u30, u31, u32, u33, u34, u35, u36, u37, u38, u39, u40, u41, u42, u43, u44, u45, u46, u47, u48, u49, u50, u51, rfl, h⟩
/-- marks that have been spread -/
def Spread (to : Cy.Tos) (m : Nat → Int) (s : Nat) (mark : Int) (g n : Nat) (W : World) (e : Ending) (w' : World) : Prop :=
  e = .returned (.tuple #[]) ∧ ∃ f, Arr w' g n f ∧ (∀ x, (Cy.Spr to m s x → f x = mark) ∧ (¬ Cy.Spr to m s x → f x = m x)) ∧ OnlyS (· = g) W w'
/-- ways that are read: wider bounds -/
structure Okr (to : Cy.Tos) : Prop where
  inn : Cy.Inn to
  len : to.length ≤ 800
  deg : ∀ i, (Cy.nx to i).length ≤ 400000
theorem Okw.okr {to : Cy.Tos} (h : Okw to) : Okr to := ⟨h.inn, h.len, fun i => Nat.le_trans (h.deg i) (by omega)⟩
theorem Okw.back {to bt : Cy.Tos} (h : Okw to) (ht : Cy.Trn to bt) : Okr bt := ⟨ht.turned.inn, by rw [ht.len]; exact h.len, fun i => Nat.le_trans (ht.most i) (by have := h.len; omega)⟩
set_option maxHeartbeats 8000000 in
theorem spread_any {W : World} {A1 A2 : Option Addr} {n1 c1 c2 n g s : Nat} {mark : Int} {m : Nat → Int} {to : Cy.Tos} (ht : Ta W g A2 c2 to) (ho : Okr to) (hn : to.length = n) (ha : Arr W g n m) (hs : s < n) (hm : mark ≠ 0) :
    Calls Try.prog 37 #[wayV A1 n1 c1 A2 n c2, .int .i64 s, .int .i64 mark, .slice (some ⟨g, 0, none⟩) n n] W (Spread to m s mark g n W) := by
  have HO := Lib.hid ho
  have HN := Lib.hid hn
  have hnl : n ≤ 800 := hn ▸ ho.len
  have hgl := ha.lt
  have hX := box_below W (.cells #[.slice A1 n1 c1, .slice A2 n c2] 48)
  have HT := Lib.hid (ht.below hX)
  have HX := Lib.hid hX
  have x1 : (W.alloc (.cells #[.slice A1 n1 c1, .slice A2 n c2] 48)).cell? ⟨W.heap.size, 1, none⟩ = some (.slice A2 n c2) := by simp [go_sem]
  have HA := Lib.hid (ha.below hX)
  have HW := Lib.hid (show g < (W.alloc (.cells #[.slice A1 n1 c1, .slice A2 n c2] 48)).heap.size ∧ g ≠ W.heap.size ∧ W.heap.size < (W.alloc (.cells #[.slice A1 n1 c1, .slice A2 n c2] 48)).heap.size from ⟨by simp; omega, by omega, by simp⟩)
  have HM := Lib.hid hm
  clear ht ho hn hgl hX ha hm
  go_enter Try.func37, Try.ntmps37
  go_wp2_with fail
  generalize W.alloc (.cells #[.slice A1 n1 c1, .slice A2 n c2] 48) = W1 at *
  have HX1 := Lib.hid x1
  clear x1
  go_wp2_with fail
  refine scope_ranked 0 (Sj W1 W.heap.size to m s mark g n A1 n1 c1 A2 c2) rfl ?_ ?_
  · intro hpass
    have HQ := Lib.hid hpass
    clear hpass
    have HSg := Lib.hid (show Sg W1 to m s mark g n (2 * n + 1) m [s] (.slice (some ⟨W1.heap.size, 0, none⟩) 1 1) (W1.alloc (.cells #[.int .i64 (s : Int)] 3)) from
      ⟨HA.out.below (box_below _ _), Is.lit_row W1 s, (OnlyS.refl _ _).alloc _, Cy.Sp.start HM.out, fun x hx => by
        obtain rfl : x = s := by simpa using hx
        exact hs, by have := Cy.bare_le n m; simp; omega, by omega, HW.out.1⟩)
    go_wp2
    rename_i hK
    refine wp_label ?_
    refine hK _ _ ?_
    exact HQ.out _ _ _ (Sj.mk' HSg.out)
  · rintro N a' wr ⟨f, st, v, u5, u6, u7, u9, u10, u11, u12, u13, u14, u15, u16, u17, u18, u19, u20, u21, u22, u23, u24, u25, u26, u27, u28, u29, u30, u31, u32, u33, u34, u35, u36, u37, u38, u39, u40, u41, u42, u43, u44, u45, u46, u47, u48, u49, u50, u51, rfl, hg⟩
    have HSg := Lib.hid hg
    clear hg
    rcases List.eq_nil_or_concat st with rfl | ⟨st, a, rfl⟩
    · obtain ⟨A8, c8, hv, -⟩ := HSg.out.row.ls
      simp only [ints, List.map_nil, List.length_nil] at hv
      subst hv
      have HF := Lib.hid (show Spread to m s mark g n W (.returned (.tuple #[])) wr from ⟨rfl, f, HSg.out.arr, fun x => HSg.out.sp.end x, by
        refine ((OnlyS.of_below HX.out).trans HSg.out.only).mono fun k _ h => h⟩)
      go_wp2_with fail
      simp only [Exit.jump]
      exact bodyPost_ret (results_none rfl _ _ _) rfl HF.out
    · rw [List.concat_eq_append] at HSg
      obtain ⟨b, c, rfl, z1, han, hlc, hN1, hsm⟩ := HSg.out.pop
      have HSm := Lib.hid hsm
      obtain ⟨q, hq⟩ : ∃ q, st.length = q := ⟨_, rfl⟩
      have HQ := Lib.hid hq
      obtain ⟨a2, A3, c3, ha2, hls⟩ := HT.out.row (i := a) (by rw [HN.out]; exact han)
      subst ha2
      have z2 := (hls wr HSg.out.only).1
      have z3 := HSg.out.only.cell HX1.out (by have := HW.out.2.1; show ¬ W.heap.size = g; omega)
      obtain ⟨L, hL⟩ : ∃ L, Cy.nx to a = L := ⟨_, rfl⟩
      have HL := Lib.hid hL
      have hl4 : L.length ≤ 400000 := by rw [← hL]; exact HO.out.deg a
      rw [hL] at z2 hls
      obtain ⟨p, hp⟩ : ∃ p, L.length = p := ⟨_, rfl⟩
      have HP := Lib.hid hp
      rw [hp] at z2 hl4
      rw [hq] at z1 hlc
      have HSm' := Lib.hid (show ∃ f st v, v = .slice (some ⟨b, 0, none⟩) q c ∧ Sm W1 to m s mark g n (N - 1) a 0 f st v wr from ⟨f, st, _, by rw [hq], hsm⟩)
      have HLs := Lib.hid hls
      have HN1 := Lib.hid hN1
      rw [hq]
      have hq2 : q ≤ 2000 := by have h1 := hsm.le; have h2 := hsm.small; omega
      have hq0 : ((q : Int) + 1 == 0) = false := by simp; omega
      clear hsm HSm hq hls hL hp HSg hN1
      go_wp2_with fail
      go_loopw [34, 8] (fun t v wr => ∃ (k : Nat) (f : Nat → Int) (st : List Nat), k ≤ p ∧ t = .int .i64 k ∧ Sm W1 to m s mark g n (N - 1) a k f st v wr) (fun t _ _ => p - (intOf t).toNat)
      case atStart =>
        obtain ⟨f, st, v, rfl, h⟩ := HSm'.out
        exact ⟨0, f, st, Nat.zero_le _, rfl, h⟩
      case round =>
        obtain ⟨k, f, st, hk, rfl, hsm⟩ := hrel
        have HSm := Lib.hid hsm
        clear hsm HSm' z1 z2 z3
        by_cases hkp : k < p
        · have hkl : k < L.length := by rw [HP.out]; exact hkp
          obtain ⟨a3, ha3, z2⟩ := (HLs.out wr HSm.out.only).2.here (i := k) (by rw [ints_length]; exact hkl)
          subst ha3
          rw [ints_get] at z2
          obtain ⟨b2, hb2⟩ : ∃ b2, L[k] = b2 := ⟨_, rfl⟩
          rw [hb2] at z2
          have hkn : k < (Cy.nx to a).length := by rw [HL.out]; exact hkl
          have hbn : (Cy.nx to a)[k] = b2 := by simp only [HL.out]; exact hb2
          have hb2n : b2 < n := by
            rw [← HN.out, ← hbn]
            exact HO.out.inn a _ (List.getElem_mem _)
          have zf := HSm.out.arr.at' b2 hb2n
          have zz := HSm.out.arr.fz b2
          have hgw := HSm.out.arr.lt
          by_cases hf0 : f b2 = 0
          · obtain ⟨A9, c9, A8, c8, w8, rfl, hrun, hsm2⟩ := HSm.out.put HM.out hkn hbn hf0 hb2n
            have HSm2 := Lib.hid hsm2
            obtain ⟨q9, hq9⟩ : ∃ q9, st.length = q9 := ⟨_, rfl⟩
            rw [hq9] at hrun ⊢
            have HSm3 := Lib.hid (show ∃ f st, Sm W1 to m s mark g n (N - 1) a (k + 1) f st (.slice A8 (q9 + 1) c8) w8 from ⟨_, _, hq9 ▸ hsm2⟩)
            rw [hf0] at zf
            clear hkl hb2 hkn hbn HSm hsm2 HSm2 hq9 hf0
            go_wp2_with (at_builtin; refine Lib.wpList_append_run _ rfl _ _ _ _ rfl _ _ rfl rfl _ _ hrun ?_)
            go_roundw
            case rel =>
              obtain ⟨f, st, h⟩ := HSm3.out
              exact ⟨k + 1, f, st, by omega, by go_num, h⟩
            case measure => simp [intOf]; omega
          · have HSm2 := Lib.hid (HSm.out.skip hkn (by rw [hbn]; exact hf0))
            generalize f b2 = y at zf hf0
            have hy : (y == 0) = false := by simpa using hf0
            clear hkl hb2 hkn hbn HSm hf0
            go_wp2_with fail
            go_roundw
            case rel => exact ⟨k + 1, f, st, by omega, by go_num, HSm2.out⟩
            case measure => simp [intOf]; omega
        · obtain rfl : k = p := by omega
          have HSg := Lib.hid ((show Sm W1 to m s mark g n (N - 1) a (Cy.nx to a).length f st _ wr by rw [HL.out, HP.out]; exact HSm.out).done)
          go_wp2_with fail
          refine wp_goto ?_
          exact ⟨rfl, N - 1, by have := HN1.out; omega, Sj.mk' HSg.out⟩
end Go.Proofs.Ytggmnjnigmbooaa
