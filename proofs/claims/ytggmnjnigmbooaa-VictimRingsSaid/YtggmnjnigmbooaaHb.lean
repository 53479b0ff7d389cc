/- Rows of places in memory: a list of them that is read; one that is being built, row by row. -/
import Derived.Test.YtggmnjnigmbooaaHa
import Derived.Test.YtggmnjnigmbooaaPD
namespace Go.Proofs.Ytggmnjnigmbooaa
open Go Go.RowKit Go.Shelf
set_option maxRecDepth 100000

/-- places, as the program has them -/
def ints (l : List Nat) : List Int := l.map fun x : Nat => (x : Int)
theorem ints_length (l : List Nat) : (ints l).length = l.length := by simp [ints]
theorem ints_append (l m : List Nat) : ints (l ++ m) = ints l ++ ints m := by simp [ints]
theorem ints_get (l : List Nat) (i : Nat) (h : i < (ints l).length) : (ints l)[i] = ((l[i]'(by rw [ints_length] at h; exact h) : Nat) : Int) := by simp [ints]

/-- what is put behind a row of numbers of one's own, and where it lies then -/
theorem Is.Row.app' {W : World} {K : Nat} {v : Value} {xs ys : List Int} {A : Option Addr} {c : Nat} (h : Is.Row W K v xs) (hs : Is.Ls W A c ys) (h0 : 0 < ys.length) (hl : xs.length + ys.length ≤ 1000000) (hK : K ≤ W.heap.size) (ty : TypeId) :
    ∃ v' W', (Builtin.append_ #[23, 23] ty #[v, .slice A ys.length c]).run Try.prog W = .ok v' W' ∧ Is.Row W' K v' (xs ++ ys) ∧ W.grownBy W' v.ownBlock ∧ (v'.ownBlock = v.ownBlock ∨ v'.ownBlock = some W.heap.size) := by
  obtain ⟨i0, hi, hz0, hz1, hz2⟩ := info_parts Is.info3
  cases A with
  | none => rw [hs.empty] at h0; simp at h0
  | some a =>
    obtain ⟨v', W', h1, h2, h3, -, h5⟩ := run_append_own_at (P := Try.prog) W K 23 ty 3 i0 _ 1 8 Try.underlying23 hi hz0 hz1 hz2 rfl (by decide) v xs.length (Is.flat xs) h a ys.length c (Is.flat ys) (Is.flat_length ys) (hs.at' a rfl) (Is.flat_one ys) (by unfold maxLen; omega) (by omega) hK
    refine ⟨v', W', h1, ?_, h3, h5⟩
    unfold Is.Row
    rw [Is.flat_append, List.length_append]
    exact h2

/-- rows of places that are read -/
structure Tl (W : World) (A : Option Addr) (c : Nat) (to : Cy.Tos) : Prop where
  cap : to.length ≤ c
  room : c ≤ maxLen
  nil : A = none → c = 0
  at' : ∀ a, A = some a → ∀ i (h : i < to.length), ∃ Ai ci, W.cell? (a.add i) = some (.slice Ai to[i].length ci) ∧ Is.Ls W Ai ci (ints to[i])
section
variable {W W' : World} {A : Option Addr} {c : Nat} {to : Cy.Tos}
theorem Tl.below (h : Tl W A c to) (hb : Below W.heap.size W W') : Tl W' A c to :=
  ⟨h.cap, h.room, h.nil, fun a ha i hi => by
    obtain ⟨Ai, ci, h1, h2⟩ := h.at' a ha i hi
    refine ⟨Ai, ci, ?_, h2.below hb⟩
    rw [World.cell?_of_block (w := W) (a := a.add i) (hb.block _ (cell_lt h1))]
    exact h1⟩
theorem Tl.here (h : Tl W A c to) {i : Nat} (hi : i < to.length) : ∃ a Ai ci, A = some a ∧ W.cell? (a.add i) = some (.slice Ai to[i].length ci) ∧ Is.Ls W Ai ci (ints to[i]) := by
  cases A with
  | none =>
    have := h.cap
    have := h.nil rfl
    omega
  | some a =>
    obtain ⟨Ai, ci, h1, h2⟩ := h.at' a rfl i hi
    exact ⟨a, Ai, ci, rfl, h1, h2⟩
end

/-- rows of places that are being built: block g has their slices, each has a block of its own -/
structure Tw (W : World) (K g : Nat) (to : Cy.Tos) (vs : List Value) : Prop where
  blk : W.heap[g]? = some (.cells vs.toArray 23 (0, 0))
  len : vs.length = to.length
  gK : g < K
  row : ∀ i (h : i < vs.length) (h' : i < to.length), Is.Row W K vs[i] (ints to[i])
  apart : ∀ i j (hi : i < vs.length) (hj : j < vs.length) b, i ≠ j → vs[i].ownBlock = some b → vs[j].ownBlock ≠ some b
section
variable {W W' : World} {K g : Nat} {to : Cy.Tos} {vs : List Value}
theorem Tw.start (hg : W.heap[g]? = some (.cells (Array.replicate to.length (.slice none 0 0)) 23 (0, 0))) (hgK : g < K) (h0 : ∀ i (h : i < to.length), to[i] = []) : Tw W K g to (List.replicate to.length (.slice none 0 0)) := by
  refine ⟨by rw [hg]; simp, by simp, hgK, fun i h h' => ?_, fun i j hi hj b _ hb => ?_⟩
  · rw [h0 i h', List.getElem_replicate]
    exact World.ownsRow_nil _ _ _ _
  · rw [List.getElem_replicate] at hb; cases hb
theorem Tw.below (h : Tw W K g to vs) (hb : Below W.heap.size W W') : Tw W' K g to vs :=
  ⟨(hb.block g (Array.getElem?_eq_some_iff.1 h.blk).1).trans h.blk, h.len, h.gK, fun i hi hi' => row_below (h.row i hi hi') hb, h.apart⟩
theorem Tw.only {T : Nat → Prop} (h : Tw W K g to vs) (ho : OnlyS T W W') (hg : ¬ T g) (hT : ∀ k, K ≤ k → ¬ T k) : Tw W' K g to vs :=
  ⟨(ho.block g (Array.getElem?_eq_some_iff.1 h.blk).1 hg).trans h.blk, h.len, h.gK, fun i hi hi' => row_keep (h.row i hi hi') fun b hb => by
    have := (h.row i hi hi').lt b hb
    exact ho.block b this.2 (hT b this.1), h.apart⟩
theorem Tw.drewN (h : Tw W K g to vs) (k : Nat) : Tw (W.drewN k) K g to vs := ⟨h.blk, h.len, h.gK, fun i hi hi' => row_keep (h.row i hi hi') fun _ _ => rfl, h.apart⟩
theorem Tw.cell (h : Tw W K g to vs) {i : Nat} (hi : i < to.length) : ∃ A c, W.cell? ⟨g, i, none⟩ = some (.slice A to[i].length c) ∧ vs[i]'(by rw [h.len]; exact hi) = .slice A to[i].length c := by
  have hv : i < vs.length := by rw [h.len]; exact hi
  obtain ⟨A, c, e, -⟩ := (h.row i hv hi).ls
  rw [ints_length] at e
  refine ⟨A, c, ?_, e⟩
  unfold World.cell?
  simp only [h.blk]
  rw [← e]
  simp [hv]
theorem Tw.free (h : Tw W K g to vs) {i : Nat} : W.frozen? ⟨g, i, none⟩ = false := by
  unfold World.frozen?
  simp [h.blk]
/-- one is put behind the row of a place -/
theorem Tw.put (h : Tw W K g to vs) (hK : K ≤ W.heap.size) {i : Nat} (hi : i < to.length) (hl : to[i].length ≤ 900000) (x : Nat) :
    ∃ A q c A' c' W2, W.cell? ⟨g, i, none⟩ = some (.slice A q c) ∧ q ≤ 900000 ∧
      (Builtin.append_ #[23, 23] 23 #[.slice A q c, .slice (some ⟨W.heap.size, 0, none⟩) 1 1]).run Try.prog (W.alloc (.cells #[.int .i64 x] 3)) = .ok (.slice A' (q + 1) c') W2 ∧
      W2.cell? ⟨g, i, none⟩ = some (.slice A q c) ∧ W2.frozen? ⟨g, i, none⟩ = false ∧ OnlyS (fun k => K ≤ k) W W2 ∧
      Tw (W2.setCell ⟨g, i, none⟩ (.slice A' (q + 1) c')) K g (to.set i (to[i] ++ [x])) (vs.set i (.slice A' (q + 1) c')) ∧ OnlyS (fun k => k = g ∨ K ≤ k) W (W2.setCell ⟨g, i, none⟩ (.slice A' (q + 1) c')) := by
  have hv : i < vs.length := by rw [h.len]; exact hi
  obtain ⟨A, c, hc, e⟩ := h.cell hi
  have hb := box_below W (.cells #[.int .i64 (x : Int)] 3)
  have hrow := h.row i hv hi
  obtain ⟨v', W2, hrun, hrow2, hgr, hown⟩ := Is.Row.app' (row_below hrow hb) (ys := [(x : Int)]) (Is.box_ls W x) (by simp) (by rw [ints_length]; simp; omega) (Nat.le_trans hK hb.size) 23
  obtain ⟨A', c', rfl, -⟩ := hrow2.ls
  have hlen : (ints to[i] ++ [(x : Int)]).length = to[i].length + 1 := by simp [ints_length]
  rw [hlen] at hrun hrow2 hown
  rw [e] at hrun hgr hown
  have hlt := (Array.getElem?_eq_some_iff.1 h.blk).1
  have hgK := h.gK
  -- of what there was, only the row's own block may have changed
  have ho1 : OnlyS (fun k => vs[i].ownBlock = some k) W W2 := (OnlyS.of_below hb).trans ((OnlyS.refl _ (W.alloc (.cells #[.int .i64 (x : Int)] 3))).grown hgr fun k hk => .inl (by rw [e]; exact hk))
  have ho : OnlyS (fun k => K ≤ k) W W2 := ho1.mono fun k _ hk => (hrow.lt k hk).1
  have hblk2 : W2.heap[g]? = some (.cells vs.toArray 23 (0, 0)) := (ho.block g hlt (by omega)).trans h.blk
  have hset : (W2.setCell ⟨g, i, none⟩ (.slice A' (to[i].length + 1) c')).heap[g]? = some (.cells (vs.set i (.slice A' (to[i].length + 1) c')).toArray 23 (0, 0)) := by
    rw [Es.set_blk _ hblk2]
    simp
  refine ⟨A, to[i].length, c, A', c', W2, hc, hl, hrun, (ho.cell hc (by omega)), by unfold World.frozen?; simp [hblk2], ho, ⟨hset, by simpa using h.len, hgK, fun j hj hj' => ?_, fun j k hj hk b hne hjb => ?_⟩, (ho.mono fun k _ hk => .inr hk).trans ((OnlyS.set _ _ _ _).mono fun k _ hk => .inl hk)⟩
  · have hj1 : j < vs.length := by simpa using hj
    have hj2 : j < to.length := by simpa using hj'
    have hkeep : ∀ b, K ≤ b → (W2.setCell ⟨g, i, none⟩ (.slice A' (to[i].length + 1) c')).heap[b]? = W2.heap[b]? := fun b hb => Below.heap_setCell W2 ⟨g, i, none⟩ _ b (by show b ≠ g; omega)
    by_cases hji : j = i
    · subst hji
      simp only [List.getElem_set_self]
      rw [ints_append]
      exact row_keep (show Is.Row W2 K _ (ints to[j] ++ [(x : Int)]) from hrow2) fun b hb => hkeep b (hrow2.lt b hb).1
    · rw [List.getElem_set_ne (by omega), List.getElem_set_ne (by omega)]
      have hr := h.row j hj1 hj2
      refine row_keep hr fun b hb => ?_
      have hb1 := hr.lt b hb
      rw [hkeep b hb1.1]
      exact ho1.block b hb1.2 fun hib => h.apart j i hj1 hv b hji hb hib
  · have hj1 : j < vs.length := by simpa using hj
    have hk1 : k < vs.length := by simpa using hk
    have hnew : ∀ b, (Value.slice A' (to[i].length + 1) c').ownBlock = some b → vs[i].ownBlock = some b ∨ W.heap.size ≤ b := fun b hb => by
      rcases hown with q | q
      · exact .inl (by rw [e, ← q]; exact hb)
      · rw [q] at hb
        right
        have : (W.alloc (.cells #[.int .i64 (x : Int)] 3)).heap.size = b := by simpa using hb
        simp at this
        omega
    by_cases hji : j = i
    · subst hji
      rw [List.getElem_set_self] at hjb
      rw [List.getElem_set_ne hne]
      rcases hnew b hjb with q | q
      · exact h.apart j k hv hk1 b hne q
      · intro hkb
        have := (h.row k hk1 (by rw [← h.len]; exact hk1)).lt b hkb
        omega
    · rw [List.getElem_set_ne (by omega)] at hjb
      by_cases hki : k = i
      · subst hki
        rw [List.getElem_set_self]
        intro hkb
        rcases hnew b hkb with q | q
        · exact h.apart j k hj1 hk1 b hne hjb q
        · have := (h.row j hj1 (by rw [← h.len]; exact hj1)).lt b hjb
          omega
      · rw [List.getElem_set_ne (by omega)]
        exact h.apart j k hj1 hk1 b hne hjb
/-- what has been built is read -/
theorem Tw.tl (h : Tw W K g to vs) (hm : to.length ≤ maxLen) : Tl W (some ⟨g, 0, none⟩) to.length to := by
  refine ⟨Nat.le_refl _, hm, by simp, fun a ha i hi => ?_⟩
  obtain rfl : (⟨g, 0, none⟩ : Addr) = a := by simpa using ha
  obtain ⟨A, c, hc, e⟩ := h.cell hi
  obtain ⟨A', c', e', hls⟩ := (h.row i (by rw [h.len]; exact hi) hi).ls
  rw [ints_length] at e'
  rw [e] at e'
  injection e' with e1 _ e2
  subst e1
  subst e2
  exact ⟨A, c, by rw [add_at]; exact hc, hls⟩
end
end Go.Proofs.Ytggmnjnigmbooaa
