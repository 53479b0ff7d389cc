/- The order in which a walk leaves places, in memory. -/
import Derived.Test.YtggmnjnigmbooaaHe
namespace Go.Proofs.Ytggmnjnigmbooaa
open Go Go.RowKit Go.Shelf
set_option maxRecDepth 100000

/-- what is put behind a row of numbers of one's own, nothing too, and where it lies then -/
theorem Is.Row.app2 {W : World} {K : Nat} {v : Value} {xs ys : List Int} {A : Option Addr} {c : Nat} (h : Is.Row W K v xs) (hs : Is.Ls W A c ys) (hl : xs.length + ys.length ≤ 1000000) (hK : K ≤ W.heap.size) (ty : TypeId) :
    ∃ v' W', (Builtin.append_ #[23, 23] ty #[v, .slice A ys.length c]).run Try.prog W = .ok v' W' ∧ Is.Row W' K v' (xs ++ ys) ∧ W.grownBy W' v.ownBlock ∧ (v'.ownBlock = v.ownBlock ∨ v'.ownBlock = some W.heap.size) := by
  obtain ⟨i0, hi, hz0, hz1, hz2⟩ := info_parts Is.info3
  cases A with
  | none =>
    have := hs.empty; subst this
    have hc := hs.nil rfl
    subst hc
    obtain ⟨A', c', rfl, hls⟩ := h.ls
    exact ⟨_, W, run_append_nothing (P := Try.prog) W 23 23 ty 3 i0 Try.underlying23 hi A' xs.length c' hls.cap _ (by rw [hz1]; exact hs.src), by rw [List.append_nil]; exact h, ⟨rfl, rfl, rfl, Nat.le_refl _, fun _ _ _ => rfl⟩, .inl rfl⟩
  | some a =>
    obtain ⟨v', W', h1, h2, h3, -, h5⟩ := run_append_own_at (P := Try.prog) W K 23 ty 3 i0 _ 1 8 Try.underlying23 hi hz0 hz1 hz2 rfl (by decide) v xs.length (Is.flat xs) h a ys.length c (Is.flat ys) (Is.flat_length ys) (hs.at' a rfl) (Is.flat_one ys) (by unfold maxLen; omega) (by omega) hK
    refine ⟨v', W', h1, ?_, h3, h5⟩
    unfold Is.Row
    rw [Is.flat_append, List.length_append]
    exact h2
/-- the last one of a row -/
theorem Is.Row.lastI {W : World} {K : Nat} {xs : List Int} {x : Int} {v : Value} (h : Is.Row W K v (xs ++ [x])) :
    ∃ b c, v = .slice (some ⟨b, 0, none⟩) (xs.length + 1) c ∧ W.cell? ⟨b, xs.length, none⟩ = some (.int .i64 x) ∧ Is.Row W K (.slice (some ⟨b, 0, none⟩) xs.length c) xs ∧ xs.length ≤ c ∧ K ≤ b ∧ b < W.heap.size := by
  have h0 := h
  rcases h.2 with ⟨rfl, h1⟩ | ⟨b, c, cur, rfl, hb, hg, h1, h2, h3, h4⟩
  · simp at h1
  · have hl : (xs ++ [x]).length = xs.length + 1 := by simp
    rw [hl] at h1
    refine ⟨b, c, by rw [hl], ?_, ?_, by omega, hb, (Array.getElem?_eq_some_iff.1 hg).1⟩
    · have h5 := h0.cells (g := b) rfl xs.length _ (Is.flat_at (xs ++ [x]) xs.length (by rw [hl]; omega))
      rw [add_at] at h5
      rw [h5]
      simp
    · have h5 := row_cut h (i := xs.length) (by rw [hl]; omega)
      unfold Is.Row
      have e : (Is.flat (xs ++ [x])).take (xs.length * 1) = Is.flat xs := by
        rw [Is.flat_append, Nat.mul_one]
        exact List.take_left' (by rw [Is.flat_length, Nat.mul_one])
      rw [e] at h5
      exact h5
/-- yes and no in a block: place i reads as f i -/
structure Brr (W : World) (g n : Nat) (f : Nat → Bool) : Prop where
  at' : ∀ i, i < n → W.cell? ⟨g, i, none⟩ = some (.bool (f i))
  fz : ∀ o, W.frozen? ⟨g, o, none⟩ = false
  lt : g < W.heap.size
section
variable {W W' : World} {g n : Nat} {f : Nat → Bool}
theorem Brr.keep (h : Brr W g n f) (hs : W.heap.size ≤ W'.heap.size) (hg : W'.heap[g]? = W.heap[g]?) : Brr W' g n f :=
  ⟨fun i hi => (World.cell?_of_block (w := W) (a := ⟨g, i, none⟩) hg).trans (h.at' i hi), fun o => (World.frozen?_of_block (w := W) (a := ⟨g, o, none⟩) hg).trans (h.fz o), Nat.lt_of_lt_of_le h.lt hs⟩
theorem Brr.below (h : Brr W g n f) (hb : Below W.heap.size W W') : Brr W' g n f := h.keep hb.size (hb.block g h.lt)
theorem Brr.set (h : Brr W g n f) (k : Nat) (x : Bool) : Brr (W.setCell ⟨g, k, none⟩ (.bool x)) g n (Cy.upd f k x) := by
  refine ⟨fun i hi => ?_, fun o => by rw [World.frozen?_setCell]; exact h.fz o, by simpa [World.setCell] using h.lt⟩
  unfold Cy.upd
  by_cases e : i = k
  · subst e; rw [if_pos rfl]; exact cell_near (h.at' i hi)
  · rw [if_neg e, cell_far e]; exact h.at' i hi
end
theorem info4 : (Try.prog.info? 4).map (fun i => (i.zero, i.size, i.bytes)) = some (some (.bool false), 1, 1) := by kernel_rfl
theorem mk_bools (W : World) (N : Nat) (hN : N ≤ 65536) : (Instr.makeSlice 71 (.int .i64 (N : Int)) (.int .i64 (N : Int))).run Try.prog W = .ok (.slice (some ⟨W.heap.size, 0, none⟩) N N) (W.alloc (.cells (madeCells #[.bool false] N) 4)) := by
  obtain ⟨i0, hi, hz0, hz1, hz2⟩ := info_parts info4
  have := run_make (P := Try.prog) W 71 4 i0 _ Try.underlying71 hi hz0 .i64 .i64 (N : Int) (N : Int) (by omega) (Int.le_refl _) (by rw [hz2]; omega) (by omega)
  rw [hz1, Int.toNat_natCast, Nat.mul_one] at this
  exact this
theorem Brr.made (W : World) (N : Nat) : Brr (W.alloc (.cells (madeCells #[.bool false] N) 4)) W.heap.size N (fun _ => false) := by
  have hb := heap_new' W (.cells (madeCells #[.bool false] N) 4)
  refine ⟨fun i hi => ?_, fun o => frozen_of_row _ _ _ _ _ hb, by simp⟩
  rw [cell_of_row _ _ _ _ _ _ hb]
  simp [madeCells, hi, Nat.mod_one]
/-- the stack as it lies in memory -/
def encs (st : List Cy.It) : List Int := (st.map Cy.It.enc).reverse
theorem encs_length (st : List Cy.It) : (encs st).length = st.length := by simp [encs]
theorem encs_cons (x : Cy.It) (st : List Cy.It) : encs (x :: st) = encs st ++ [x.enc] := by simp [encs]
theorem encs_come (a : Nat) (p ys : List Nat) (st : List Cy.It) : encs (ys.reverse.map Cy.It.at ++ .mk a p :: st) = (encs st ++ [-1 - (a : Int)]) ++ ints ys := by
  simp [encs, ints, Cy.It.enc, List.map_reverse, Function.comp_def]
theorem encs_start (n : Nat) : encs ((List.range n).reverse.map Cy.It.at) = ints (List.range n) := by
  simp [encs, ints, Cy.It.enc, List.map_reverse, Function.comp_def]
theorem cost_le {to : Cy.Tos} {sn : Nat → Bool} (hd : ∀ i, (Cy.nx to i).length ≤ 400) : ∀ k, Cy.cost to sn k ≤ k * 402
  | 0 => Nat.le_refl _
  | k + 1 => by
    unfold Cy.cost
    have h1 := cost_le (sn := sn) hd k
    have h2 := hd k
    split <;> omega
/-- the walk on its way, in memory: the row that is left, the stack, who has been seen -/
structure Lg (W1 : World) (to : Cy.Tos) (gs n N : Nat) (sn : Nat → Bool) (L : List Nat) (st : List Cy.It) (v3 v4 : Value) (w : World) : Prop where
  r3 : Is.Row w W1.heap.size v3 (ints L)
  r4 : Is.Row w W1.heap.size v4 (encs st)
  br : Brr w gs n sn
  ap : ∀ b, v3.ownBlock = some b → v4.ownBlock ≠ some b
  a3 : v3.ownBlock ≠ some gs
  a4 : v4.ownBlock ≠ some gs
  gK : W1.heap.size ≤ gs
  bel : Below W1.heap.size W1 w
  lf : Cy.Lf to sn L st
  le : st.length + Cy.cost to sn n ≤ N
  small : N ≤ 330000
section
variable {W1 w : World} {to : Cy.Tos} {gs n N a : Nat} {sn : Nat → Bool} {L p : List Nat} {st : List Cy.It} {x : Cy.It} {v3 v4 : Value}
theorem Lg.top (h : Lg W1 to gs n N sn L (x :: st) v3 v4 w) : ∃ b c, v4 = .slice (some ⟨b, 0, none⟩) (st.length + 1) c ∧ w.cell? ⟨b, st.length, none⟩ = some (.int .i64 x.enc) ∧ st.length ≤ c ∧ st.length < N ∧
    Is.Row w W1.heap.size (.slice (some ⟨b, 0, none⟩) st.length c) (encs st) := by
  have h4 := h.r4
  rw [encs_cons] at h4
  obtain ⟨b, c, rfl, h1, h2, h3, -⟩ := Is.Row.lastI h4
  rw [encs_length] at h1 h2 h3
  have hle := h.le
  rw [List.length_cons] at hle
  exact ⟨b, c, by rw [encs_length], h1, h3, by omega, h2⟩
/-- nothing of three rows' blocks is changed by what is put behind one of them -/
theorem row_far {W W' : World} {K : Nat} {u v : Value} {xs : List Int} (h : Is.Row W K v xs) (hg : W.grownBy W' u.ownBlock) (hn : ∀ b, v.ownBlock = some b → u.ownBlock ≠ some b) : Is.Row W' K v xs :=
  row_keep h fun b hb => hg.block b (h.lt b hb).2 fun e => hn b hb e.symm
theorem Brr.far {W W' : World} {g n : Nat} {f : Nat → Bool} {u : Value} (h : Brr W g n f) (hg : W.grownBy W' u.ownBlock) (hn : u.ownBlock ≠ some g) : Brr W' g n f :=
  h.keep hg.size (hg.block g h.lt fun e => hn e.symm)
theorem Lg.leave {b c : Nat} (h : Lg W1 to gs n N sn L (.mk a p :: st) v3 (.slice (some ⟨b, 0, none⟩) (st.length + 1) c) w) (hr : Is.Row w W1.heap.size (.slice (some ⟨b, 0, none⟩) st.length c) (encs st)) (hL : L.length ≤ 100000) :
    ∃ A3 q c3 A' c' w2, v3 = .slice A3 q c3 ∧ (Builtin.append_ #[23, 23] 23 #[.slice A3 q c3, .slice (some ⟨w.heap.size, 0, none⟩) 1 1]).run Try.prog (w.alloc (.cells #[.int .i64 (a : Int)] 3)) = .ok (.slice A' (q + 1) c') w2 ∧
      Lg W1 to gs n (N - 1) sn (L ++ [a]) st (.slice A' (q + 1) c') (.slice (some ⟨b, 0, none⟩) st.length c) w2 := by
  have hbx := box_below w (.cells #[.int .i64 (a : Int)] 3)
  obtain ⟨A3, c3, hv, -⟩ := h.r3.ls
  rw [ints_length] at hv
  subst hv
  obtain ⟨v', w2, hrun, hrow, hgr, hown⟩ := Is.Row.app2 (row_below h.r3 hbx) (ys := [(a : Int)]) (Is.box_ls w a) (by rw [ints_length]; simp; omega) (by have := h.bel.size; simp; omega) 23
  obtain ⟨A', c', rfl, -⟩ := hrow.ls
  have hlen : (ints L ++ [(a : Int)]).length = L.length + 1 := by simp [ints_length]
  rw [hlen] at hrun hrow hown
  have hle := h.le
  rw [List.length_cons] at hle
  have hsm := h.small
  have hap : ∀ j, (Value.slice (some ⟨b, 0, none⟩) st.length c).ownBlock = some j → (Value.slice A3 L.length c3).ownBlock ≠ some j := fun j hj hj' => h.ap j hj' hj
  have hsz : ∀ j, (Value.slice A' (L.length + 1) c').ownBlock = some j → (Value.slice A3 L.length c3).ownBlock = some j ∨ w.heap.size ≤ j := fun j hj => by
    rcases hown with q | q
    · rw [q] at hj; exact .inl hj
    · rw [q] at hj
      right
      have : (w.alloc (.cells #[.int .i64 (a : Int)] 3)).heap.size = j := by simpa using hj
      simp at this
      omega
  refine ⟨A3, L.length, c3, A', c', w2, rfl, hrun, ?_, row_far (row_below hr hbx) hgr hap, (h.br.below hbx).far hgr h.a3, fun j hj hj' => ?_, fun hj => ?_, h.a4, h.gK, h.bel.trans (Is.Row.app_below (row_below h.r3 hbx) hgr (by have := h.bel.size; simp; omega) |> fun k => ?_), h.lf.leave, by omega, by omega⟩
  · rw [ints_append]; exact hrow
  · rcases hsz j hj with q | q
    · exact h.ap j q hj'
    · have := (hr.lt j hj').2; omega
  · rcases hsz gs hj with q | q
    · exact h.a3 q
    · have := h.br.lt; omega
  · exact (hbx.mono h.bel.size).trans k
theorem Lg.pass {b c : Nat} (h : Lg W1 to gs n N sn L (.at a :: st) v3 (.slice (some ⟨b, 0, none⟩) (st.length + 1) c) w) (hr : Is.Row w W1.heap.size (.slice (some ⟨b, 0, none⟩) st.length c) (encs st)) (hs : sn a = true) :
    Lg W1 to gs n (N - 1) sn L st v3 (.slice (some ⟨b, 0, none⟩) st.length c) w := by
  have hle := h.le
  rw [List.length_cons] at hle
  have hsm := h.small
  exact ⟨h.r3, hr, h.br, h.ap, h.a3, h.a4, h.gK, h.bel, h.lf.pass hs, by omega, by omega⟩
theorem Lg.come {b c : Nat} {A : Option Addr} {cA : Nat} {W0 : World} (hi : Cy.Inn to) (hn : to.length = n) (h : Lg W1 to gs n N sn L (.at a :: st) v3 (.slice (some ⟨b, 0, none⟩) (st.length + 1) c) w) (hr : Is.Row w W1.heap.size (.slice (some ⟨b, 0, none⟩) st.length c) (encs st)) (hs : sn a = false)
    (hl : Is.Ls W0 A cA (ints (Cy.nx to a))) (hB : Below W0.heap.size W0 W1) :
    ∃ A' c' w2 A'' q'' c'' w3, (Builtin.append_ #[23, 23] 23 #[.slice (some ⟨b, 0, none⟩) st.length c, .slice (some ⟨w.heap.size, 0, none⟩) 1 1]).run Try.prog ((w.setCell ⟨gs, a, none⟩ (.bool true)).alloc (.cells #[.int .i64 (-1 - (a : Int))] 3)) = .ok (.slice A' (st.length + 1) c') w2 ∧
      (Builtin.append_ #[23, 23] 23 #[.slice A' (st.length + 1) c', .slice A (Cy.nx to a).length cA]).run Try.prog w2 = .ok (.slice A'' q'' c'') w3 ∧ Below W1.heap.size W1 w2 ∧
      ∃ st', Lg W1 to gs n (N - 1) (Cy.upd sn a true) L st' v3 (.slice A'' q'' c'') w3 := by
  have han : a < to.length := h.lf.at' a (List.mem_cons_self ..)
  have hbx := box_below (w.setCell ⟨gs, a, none⟩ (.bool true)) (.cells #[.int .i64 (-1 - (a : Int))] 3)
  have hsz : (w.setCell ⟨gs, a, none⟩ (.bool true)).heap.size = w.heap.size := by simp [World.setCell]
  have hle := h.le
  rw [List.length_cons] at hle
  have hsm := h.small
  have hgK := h.gK
  have hcost := Cy.cost_upd (to := to) (k := n) (by omega) hs
  have hkeep : ∀ {v : Value} {xs : List Int}, Is.Row w W1.heap.size v xs → v.ownBlock ≠ some gs → Is.Row (w.setCell ⟨gs, a, none⟩ (.bool true)) W1.heap.size v xs := fun {v xs} hv hne =>
    row_keep hv fun j hj => Below.heap_setCell w ⟨gs, a, none⟩ _ j (by rintro rfl; exact hne hj)
  have hb1 : Below W1.heap.size W1 (w.setCell ⟨gs, a, none⟩ (.bool true)) := h.bel.setCell hgK _
  have r4 := row_below (hkeep hr h.a4) hbx
  obtain ⟨v', w2, hrun, hrow, hgr, hown⟩ := Is.Row.app2 r4 (ys := [-1 - (a : Int)]) (Is.box_ls _ _) (by rw [encs_length]; simp; omega) (by have := h.bel.size; simp; omega) 23
  obtain ⟨A', c', rfl, -⟩ := hrow.ls
  have hlen : (encs st ++ [-1 - (a : Int)]).length = st.length + 1 := by simp [encs_length]
  rw [hlen] at hrun hrow hown
  rw [hsz] at hrun
  have hB2 : Below W1.heap.size W1 w2 := hb1.trans ((hbx.mono hb1.size).trans (Is.Row.app_below r4 hgr (by have := h.bel.size; simp; omega)))
  have hl2 := hl.below (hB.trans (hB2.mono hB.size))
  have hw2 := hB2.size
  obtain ⟨v'', w3, hrun2, hrow2, hgr2, hown2⟩ := Is.Row.app2 hrow hl2 (by rw [hlen, ints_length]; omega) hw2 23
  obtain ⟨A'', c'', rfl, -⟩ := hrow2.ls
  rw [ints_length] at hrun2
  have own1 : ∀ j, (Value.slice A' (st.length + 1) c').ownBlock = some j → (Value.slice (some ⟨b, 0, none⟩) st.length c).ownBlock = some j ∨ w.heap.size ≤ j := fun j hj => by
    rcases hown with q | q
    · rw [q] at hj; exact .inl hj
    · rw [q] at hj
      right
      have : ((w.setCell ⟨gs, a, none⟩ (.bool true)).alloc (.cells #[.int .i64 (-1 - (a : Int))] 3)).heap.size = j := by simpa using hj
      simp at this
      omega
  have hg2 : w.heap.size < w2.heap.size := by
    have h9 := hgr.size
    rw [show ((w.setCell ⟨gs, a, none⟩ (.bool true)).alloc (.cells #[.int .i64 (-1 - (a : Int))] 3)).heap.size = w.heap.size + 1 by simp [World.setCell]] at h9
    omega
  have own2 : ∀ j, (Value.slice A'' ((encs st ++ [-1 - (a : Int)]) ++ ints (Cy.nx to a)).length c'').ownBlock = some j → (Value.slice (some ⟨b, 0, none⟩) st.length c).ownBlock = some j ∨ w.heap.size ≤ j := fun j hj => by
    rcases hown2 with q | q
    · rw [q] at hj; exact own1 j hj
    · rw [q] at hj
      right
      have : w2.heap.size = j := by simpa using hj
      omega
  have ap1 : ∀ j, v3.ownBlock = some j → (Value.slice (some ⟨b, 0, none⟩) st.length c).ownBlock ≠ some j := fun j hj hj' => h.ap j hj hj'
  have ap2 : ∀ j, v3.ownBlock = some j → (Value.slice A' (st.length + 1) c').ownBlock ≠ some j := fun j hj hj' => by
    rcases own1 j hj' with q | q
    · exact ap1 j hj q
    · have := (h.r3.lt j hj).2; omega
  have r3a := row_far (row_far (row_below (hkeep h.r3 h.a3) hbx) hgr ap1) hgr2 ap2
  have gs1 : (Value.slice A' (st.length + 1) c').ownBlock ≠ some gs := fun hj => by
    rcases own1 gs hj with q | q
    · exact h.a4 q
    · have := h.br.lt; omega
  refine ⟨A', c', w2, A'', _, c'', w3, hrun, hrun2, hB2, _, r3a, ?_, (((h.br.set a true).below hbx).far hgr h.a4).far hgr2 gs1, fun j hj hj' => ?_, h.a3, fun hj => ?_, hgK, hB2.trans (Is.Row.app_below hrow hgr2 hw2), h.lf.come hi hs, ?_, by omega⟩
  · rw [encs_come]; exact hrow2
  · rcases own2 j hj' with q | q
    · exact ap1 j hj q
    · have := (h.r3.lt j hj).2; omega
  · rcases own2 gs hj with q | q
    · exact h.a4 q
    · have := h.br.lt; omega
  · rw [List.length_append, List.length_map, List.length_reverse, List.length_cons]
    omega
end
def Lj (W1 : World) (R : Nat) (to : Cy.Tos) (gs n : Nat) (A1 : Option Addr) (n1 c1 : Nat) (A2 : Option Addr) (c2 : Nat) (N : Nat) (a' : Act) (w' : World) : Prop :=
  ∃ (sn : Nat → Bool) (L : List Nat) (st : List Cy.It) (v3 : Value) (v4 : Value) (u5 u7 u8 u9 u10 u11 u12 u13 u14 u15 u16 u17 u18 u19 u20 u21 u22 u23 u24 u25 u26 u27 u28 u29 u30 u31 u32 u33 u34 u35 u36 u37 u38 u39 u40 u41 u42 u43 u44 u45 u46 u47 u48 u49 u50 u51 u52 u53 u54 u55 u56 u57 u58 u59 u60 u61 u62 u63 u64 u65 u66 : Value), a' = { tmps := #[wayV A1 n1 c1 A2 n c2, .pointer (some ⟨R, 0, none⟩), .slice none 0 0, v3, v4, u5, .slice (some ⟨gs, 0, none⟩) n n, u7, u8, u9, u10, u11, u12, u13, u14, u15, u16, u17, u18, u19, u20, u21, u22, u23, u24, u25, u26, u27, u28, u29, u30, u31, u32, u33, u34, u35, u36, u37, u38, u39, u40, u41, u42, u43, u44, u45, u46, u47, u48, u49, u50, u51, u52, u53, u54, u55, u56, u57, u58, u59, u60, u61, u62, u63, u64, u65, u66], defers := [] } ∧ Lg W1 to gs n N sn L st v3 v4 w'
theorem Lj.mk' {W1 : World} {R : Nat} {to : Cy.Tos} {gs n : Nat} {A1 : Option Addr} {n1 c1 : Nat} {A2 : Option Addr} {c2 : Nat} {sn : Nat → Bool} {L : List Nat} {st : List Cy.It} {v3 : Value} {v4 : Value} {u5 u7 u8 u9 u10 u11 u12 u13 u14 u15 u16 u17 u18 u19 u20 u21 u22 u23 u24 u25 u26 u27 u28 u29 u30 u31 u32 u33 u34 u35 u36 u37 u38 u39 u40 u41 u42 u43 u44 u45 u46 u47 u48 u49 u50 u51 u52 u53 u54 u55 u56 u57 u58 u59 u60 u61 u62 u63 u64 u65 u66 : Value} {N : Nat} {w' : World} (h : Lg W1 to gs n N sn L st v3 v4 w') :
    Lj W1 R to gs n A1 n1 c1 A2 c2 N { tmps := #[wayV A1 n1 c1 A2 n c2, .pointer (some ⟨R, 0, none⟩), .slice none 0 0, v3, v4, u5, .slice (some ⟨gs, 0, none⟩) n n, u7, u8, u9, u10, u11, u12, u13, u14, u15, u16, u17, u18, u19, u20, u21, u22, u23, u24, u25, u26, u27, u28, u29, u30, u31, u32, u33, u34, u35, u36, u37, u38, u39, u40, u41, u42, u43, u44, u45, u46, u47, u48, u49, u50, u51, u52, u53, u54, u55, u56, u57, u58, u59, u60, u61, u62, u63, u64, u65, u66], defers := [] } w' := ⟨sn, L, st, v3, v4, u5, u7, u8, u9, u10, u11, u12, u13, u14, u15, u16, u17, u18, u19, u20, u21, u22, u23, u24, u25, u26, u27, u28, u29, u30, u31, u32, u33, u34, u35, u36, u37, u38, u39, u40, u41, u42, u43, u44, u45, u46, u47, u48, u49, u50, u51, u52, u53, u54, u55, u56, u57, u58, u59, u60, u61, u62, u63, u64, u65, u66, rfl, h⟩
/-- a row of all places in the order in which they are left -/
def Leaves (to : Cy.Tos) (W : World) (e : Ending) (w' : World) : Prop := ∃ v L, e = .returned v ∧ Is.Row w' W.heap.size v (ints L) ∧ Cy.Lft to L ∧ Below W.heap.size W w'
set_option maxHeartbeats 8000000 in
theorem left_any {W : World} {A1 A2 : Option Addr} {n1 c1 c2 n : Nat} {to : Cy.Tos} (ht : Tl W A2 c2 to) (ho : Okw to) (hn : to.length = n) :
    Calls Try.prog 36 #[wayV A1 n1 c1 A2 n c2] W (Leaves to W) := by
  have HT := Lib.hid ht
  have HO := Lib.hid ho
  have HN := Lib.hid hn
  have hnl : n ≤ 800 := hn ▸ ho.len
  have hX := box_below W (.cells #[.slice A1 n1 c1, .slice A2 n c2] 48)
  have HX := Lib.hid hX
  have x1 : (W.alloc (.cells #[.slice A1 n1 c1, .slice A2 n c2] 48)).cell? ⟨W.heap.size, 1, none⟩ = some (.slice A2 n c2) := by simp [go_sem]
  have hsz : W.heap.size < (W.alloc (.cells #[.slice A1 n1 c1, .slice A2 n c2] 48)).heap.size := by simp
  have HR := Lib.hid hsz
  clear ht ho hn hX hsz
  go_enter Try.func36, Try.ntmps36
  go_wp2_with fail
  generalize W.alloc (.cells #[.slice A1 n1 c1, .slice A2 n c2] 48) = W1 at *
  have HX1 := Lib.hid x1
  refine scope_ranked 0 (fun N a' w' => ∃ gs, Lj W1 W.heap.size to gs n A1 n1 c1 A2 c2 N a' w') rfl ?_ ?_
  · intro hpass
    have HQ := Lib.hid hpass
    clear hpass
    go_wp2_with fail
    go_loopw [11, 4] (fun t v wr => ∃ k : Nat, k ≤ n ∧ t = .int .i64 k ∧ Is.Kp W1 (ints (List.range k)) v wr) (fun t _ _ => n - (intOf t).toNat)
    case atStart => exact ⟨0, Nat.zero_le _, rfl, Is.Kp.nil W1⟩
    case round =>
      obtain ⟨k, hk, rfl, hkp⟩ := hrel
      have HK := Lib.hid hkp
      obtain ⟨A4, c4, hv, -⟩ := hkp.row.ls
      rw [ints_length, List.length_range] at hv
      subst hv
      clear hkp x1
      by_cases hkn : k < n
      · obtain ⟨A', c', w2, hrun, hk2⟩ := (HK.out.below (box_below wr (.cells #[.int .i64 (k : Int)] 3))).join (Is.box_ls wr k) (n := k) (m := 1) (q := k + 1) (by rw [ints_length, List.length_range]) rfl rfl (by omega) 23
        have HK2 := Lib.hid (show Is.Kp W1 (ints (List.range (k + 1))) (.slice A' (k + 1) c') w2 by
          rw [List.range_succ, ints_append]
          exact hk2)
        clear hk2
        go_wp2_with (at_builtin; refine Lib.wpList_append_run _ rfl _ _ _ _ rfl _ _ rfl rfl _ _ hrun ?_)
        go_roundw
        case rel => exact ⟨k + 1, by omega, by go_num, HK2.out⟩
        case measure => simp [intOf]; omega
      · obtain rfl : k = n := by omega
        have z1 := (HK.out.bel.cell (p := ⟨W.heap.size, 1, none⟩) HR.out).trans HX1.out
        have hmk := mk_bools wr k (by omega)
        have hbx := box_below wr (.cells (madeCells #[.bool false] k) 4)
        have HLg := Lib.hid (show Lg W1 to wr.heap.size k (k + Cy.cost to (fun _ => false) k) (fun _ => false) [] ((List.range k).reverse.map Cy.It.at) (.slice none 0 0) (.slice A4 k c4) (wr.alloc (.cells (madeCells #[.bool false] k) 4)) from by
          have hc := cost_le (sn := fun _ => false) HO.out.deg k
          have hlt := fun j hj => HK.out.row.lt j hj
          refine ⟨World.ownsRow_nil _ _ _ _, ?_, Brr.made _ _, fun b hb => (by cases hb), fun hb => (by cases hb), fun hb => (by have := (hlt _ hb).2; omega), HK.out.bel.size, HK.out.bel.trans (hbx.mono HK.out.bel.size), ?_, by simp, by omega⟩
          · rw [encs_start]
            exact row_below HK.out.row hbx
          · have := Cy.Lf.start to (fun _ => false) fun _ => rfl
            rw [HN.out] at this
            exact this)
        clear hbx
        go_wp2
        rename_i hK
        refine wp_label ?_
        refine hK _ _ ?_
        exact HQ.out _ _ _ ⟨_, Lj.mk' HLg.out⟩
  · rintro N a' wr ⟨gs, sn, L, st, v3, v4, u5, u7, u8, u9, u10, u11, u12, u13, u14, u15, u16, u17, u18, u19, u20, u21, u22, u23, u24, u25, u26, u27, u28, u29, u30, u31, u32, u33, u34, u35, u36, u37, u38, u39, u40, u41, u42, u43, u44, u45, u46, u47, u48, u49, u50, u51, u52, u53, u54, u55, u56, u57, u58, u59, u60, u61, u62, u63, u64, u65, u66, rfl, hg⟩
    have HLg := Lib.hid hg
    have hLl : L.length ≤ 800 := by
      have := Cy.nodup_lt hg.lf.nd hg.lf.lt
      rw [HN.out] at this
      omega
    clear hg x1
    cases st with
    | nil =>
      obtain ⟨A4, c4, hv, -⟩ := HLg.out.r4.ls
      simp only [encs, List.map_nil, List.reverse_nil, List.length_nil] at hv
      subst hv
      obtain ⟨A3, c3, hv, -⟩ := HLg.out.r3.ls
      subst hv
      have HF := Lib.hid (show Leaves to W (.returned (.slice A3 (ints L).length c3)) wr from ⟨_, L, rfl, row_base HLg.out.r3 HX.out.size, HLg.out.lf.end, HX.out.trans (HLg.out.bel.mono HX.out.size)⟩)
      go_wp2_with fail
      simp only [Exit.jump]
      go_ret
      exact HF.out
    | cons x st =>
      obtain ⟨b, c, rfl, z1, hlc, hN1, hrow⟩ := HLg.out.top
      have HRow := Lib.hid hrow
      obtain ⟨q, hq⟩ : ∃ q, st.length = q := ⟨_, rfl⟩
      have hq0 : ((q : Int) + 1 == 0) = false := by simp; omega
      have hqm : q ≤ 330000 := by have := HLg.out.small; omega
      have HN1 := Lib.hid hN1
      cases x with
      | mk a p =>
        obtain ⟨A3, q3, c3, A', c', w2, rfl, hrun, hlg⟩ := HLg.out.leave HRow.out (by omega)
        rw [hq] at z1 hlc hlg ⊢
        have HLg2 := Lib.hid hlg
        have han := HLg.out.lf.mk' a p (List.mem_cons_self ..)
        rw [HN.out] at han
        have e1 : (-1 : Int) - (-1 - (a : Int)) = a := by omega
        have e2 : decide ((-1 : Int) - (a : Int) < 0) = true := by simp; omega
        simp only [Cy.It.enc] at z1
        obtain ⟨y, hy⟩ : ∃ y : Int, -1 - (a : Int) = y := ⟨_, rfl⟩
        rw [hy] at z1 e1 e2
        clear hrow hq hN1 hlg HRow HLg hy
        go_wp2_with (at_builtin; refine Lib.wpList_append_run _ rfl _ _ _ _ rfl _ _ rfl rfl _ _ hrun ?_)
        refine wp_goto ?_
        exact ⟨rfl, N - 1, by have := HN1.out; omega, gs, Lj.mk' HLg2.out⟩
      | «at» a =>
        have han := HLg.out.lf.at' a (List.mem_cons_self ..)
        rw [HN.out] at han
        have zb := HLg.out.br.at' a han
        have zf := HLg.out.br.fz a
        have zl := HLg.out.br.lt
        have e1 : decide ((a : Int) < 0) = false := by simp
        simp only [Cy.It.enc] at z1
        cases hs : sn a with
        | true =>
          have HLg2 := Lib.hid (HLg.out.pass HRow.out hs)
          rw [hs] at zb
          rw [hq] at z1 hlc HLg2 ⊢
          clear hrow hq hN1 HRow HLg hs
          go_wp2_with fail
          refine wp_goto ?_
          exact ⟨rfl, N - 1, by have := HN1.out; omega, gs, Lj.mk' HLg2.out⟩
        | false =>
          obtain ⟨a2, A3, c3, ha2, z0, hls⟩ := HT.out.row (i := a) (by rw [HN.out]; exact han)
          subst ha2
          obtain ⟨A', c', w2, A'', q'', c'', w3, hrun, hrun2, hb2, st', hlg⟩ := HLg.out.come HO.out.inn HN.out HRow.out hs hls HX.out
          have HLg2 := Lib.hid hlg
          have y0 := (hb2.cell (p := ⟨W.heap.size, 1, none⟩) HR.out).trans HX1.out
          have y1 := ((HX.out.trans (hb2.mono HX.out.size)).cell (p := a2.add a) (cell_lt z0)).trans z0
          rw [hs] at zb
          rw [hq] at z1 hlc hrun hrun2 ⊢
          obtain ⟨p, hp⟩ : ∃ p, (Cy.nx to a).length = p := ⟨_, rfl⟩
          rw [hp] at hrun2 y1
          clear hrow hq hN1 HRow HLg hs hls z0 hlg hb2 hp
          go_wp2_with (at_builtin; first | (refine Lib.wpList_append_run _ rfl _ _ _ _ rfl _ _ rfl rfl _ _ hrun ?_) | (refine Lib.wpList_append_run _ rfl _ _ _ _ rfl _ _ rfl rfl _ _ hrun2 ?_))
          refine wp_goto ?_
          exact ⟨rfl, N - 1, by have := HN1.out; omega, gs, Lj.mk' HLg2.out⟩
end Go.Proofs.Ytggmnjnigmbooaa
