/- Edges in memory: two cells each; a list that is read; a row of one's own, what is put behind it; a copy; two lists held against each other. -/
import Derived.Test.YtggmnjnigmbooaaR1
import Derived.Maps.AppendAt
import Derived.Deep.Upon
import Derived.Lib.AppendZeros
import Derived.Test.YtggmnjnigmbooaaK1
import Derived.BigQuiet
import Derived.Lib.SliceRun
import Derived.Deep.RegionHeld3
import Derived.Maps.OwnSet
import Derived.Maps.Views
import Derived.Maps.Keyed
import Derived.Lib.SlicesCompact
import Derived.Lib.Hide
namespace Go.Proofs.Ytggmnjnigmbooaa.Es
open Go Go.RowKit Go.Shelf
set_option maxRecDepth 100000

/-- an edge: from whom, to whom -/
abbrev Ed := Int × Int
def cellsW (x : Ed) : List Value := [.int .i64 x.1, .int .i64 x.2]
abbrev wv (x : Ed) : Value := .agg #[.int .i64 x.1, .int .i64 x.2]
def flat (xs : List Ed) : List Value := xs.flatMap cellsW
theorem flat_length (xs : List Ed) : (flat xs).length = xs.length * 2 := by
  induction xs with
  | nil => rfl
  | cons x xs ih => simp only [flat, List.flatMap_cons, List.length_append, List.length_cons] at ih ⊢; rw [ih]; simp [cellsW]; omega
theorem flat_append (xs ys : List Ed) : flat (xs ++ ys) = flat xs ++ flat ys := by simp [flat]
theorem flat_at : ∀ (xs : List Ed) (i j : Nat) (h : i < xs.length), j < 2 → (flat xs)[i * 2 + j]? = (cellsW xs[i])[j]?
  | x :: xs, 0, j, h, hj => by
    simp only [flat, List.flatMap_cons, Nat.zero_mul, Nat.zero_add, List.getElem_cons_zero]
    rw [List.getElem?_append_left (by simp [cellsW]; exact hj)]
  | x :: xs, i + 1, j, h, hj => by
    simp only [flat, List.flatMap_cons, List.getElem_cons_succ]
    rw [List.getElem?_append_right (by simp [cellsW]; omega)]
    have e : (i + 1) * 2 + j - (cellsW x).length = i * 2 + j := by simp [cellsW]; omega
    rw [e]
    exact flat_at xs i j (by simpa using h) hj
theorem flat_one (xs : List Ed) : ∀ u ∈ flat xs, u.oneCell' = true := by
  intro u hu
  obtain ⟨x, -, hx⟩ := List.mem_flatMap.1 hu
  simp only [cellsW, List.mem_cons, List.not_mem_nil, or_false] at hx
  rcases hx with rfl | rfl <;> rfl
theorem block_add' (a : Addr) (n : Nat) : (a.add n).block = a.block := by unfold Addr.add; split <;> rfl
theorem add_next (a : Addr) (k j : Nat) (hj : 0 < j) : a.add (k + j) = ⟨(a.add k).block, (a.add k).off + j, none⟩ := by
  unfold Addr.add
  rw [if_neg (by omega)]
  split
  · rename_i h; subst h; simp
  · simp; omega
theorem infoE : (Try.prog.info? 34).map (fun i => (i.zero, i.size, i.bytes)) = some (some (.agg #[.int .i64 0, .int .i64 0]), 2, 16) := by kernel_rfl

/-- a list that is read -/
structure Ls (W : World) (A : Option Addr) (c : Nat) (xs : List Ed) : Prop where
  cap : xs.length ≤ c
  room : c ≤ maxLen
  nil : A = none → c = 0
  at' : ∀ a, A = some a → ∀ j u, (flat xs)[j]? = some u → W.cell? (a.add j) = some u
/-- one of them, cell by cell -/
structure Here (W : World) (a : Addr) (i : Nat) (x : Ed) : Prop where
  c0 : W.cell? (a.add (i * 2)) = some (.int .i64 x.1)
  c1 : W.cell? ⟨(a.add (i * 2)).block, (a.add (i * 2)).off + 1, none⟩ = some (.int .i64 x.2)
section
variable {W W' : World} {A : Option Addr} {c K : Nat} {xs ys : List Ed}
theorem Ls.nils (W : World) : Ls W none 0 [] := ⟨Nat.le_refl _, Nat.zero_le _, fun _ => rfl, by simp⟩
theorem Ls.empty (h : Ls W none c xs) : xs = [] := by
  have h1 := h.cap
  have h2 := h.nil rfl
  exact List.length_eq_zero_iff.1 (by omega)
theorem Ls.keep (h : Ls W A c xs) (hk : ∀ a, A = some a → W'.heap[a.block]? = W.heap[a.block]?) : Ls W' A c xs :=
  ⟨h.cap, h.room, h.nil, fun a ha j u hj => (World.cell?_of_block (w := W) (a := a.add j) (by rw [block_add']; exact hk a ha)).trans (h.at' a ha j u hj)⟩
theorem Ls.below (h : Ls W A c xs) (hb : Below W.heap.size W W') : Ls W' A c xs :=
  ⟨h.cap, h.room, h.nil, fun a ha j u hj => by
    have := h.at' a ha j u hj
    rw [World.cell?_of_block (w := W) (a := a.add j) (hb.block _ (cell_lt this))]
    exact this⟩
theorem Ls.only {T : Nat → Prop} (h : Ls W A c xs) (ho : OnlyS T W W') (hT : ∀ a, A = some a → ¬ T a.block) : Ls W' A c xs :=
  ⟨h.cap, h.room, h.nil, fun a ha j u hj => by
    have := h.at' a ha j u hj
    rw [World.cell?_of_block (w := W) (a := a.add j) (ho.block _ (cell_lt this) (by rw [block_add']; exact hT a ha))]
    exact this⟩
theorem Ls.drewN (h : Ls W A c xs) (k : Nat) : Ls (W.drewN k) A c xs := ⟨h.cap, h.room, h.nil, h.at'⟩
theorem Ls.here (h : Ls W A c xs) {i : Nat} (hi : i < xs.length) : ∃ a, A = some a ∧ Here W a i xs[i] := by
  cases A with
  | none => have := h.empty; subst this; simp at hi
  | some a =>
    have key : ∀ j u, j < 2 → (cellsW xs[i])[j]? = some u → W.cell? (a.add (i * 2 + j)) = some u := fun j u hj hu => h.at' a rfl _ _ ((flat_at xs i j hi hj).trans hu)
    refine ⟨a, rfl, key 0 _ (by omega) rfl, ?_⟩
    rw [← add_next _ _ 1 (by omega)]; exact key 1 _ (by omega) rfl
theorem Ls.head (h : Ls W A c xs) (k : Nat) : Ls W A c (xs.take k) := by
  refine ⟨by rw [List.length_take]; have := h.cap; omega, h.room, h.nil, fun a ha j u hj => h.at' a ha j u ?_⟩
  have hj1 := (List.getElem?_eq_some_iff.1 hj).1
  have e : flat xs = flat (xs.take k) ++ flat (xs.drop k) := by rw [← flat_append, List.take_append_drop]
  rw [e, List.getElem?_append_left hj1]
  exact hj
theorem add_add (a : Addr) (i j : Nat) (hi : 0 < i) : (⟨a.block, a.off + i, none⟩ : Addr).add j = a.add (i + j) := by
  unfold Addr.add
  rw [if_neg (by omega : ¬ i + j = 0)]
  split
  · rename_i h; subst h; simp
  · simp; omega
theorem Ls.tail {a : Addr} (h : Ls W (some a) c xs) {k : Nat} (h0 : 0 < k) (hk : k ≤ xs.length) : Ls W (some ⟨a.block, a.off + k * 2, none⟩) (c - k) (xs.drop k) := by
  refine ⟨by rw [List.length_drop]; have := h.cap; omega, Nat.le_trans (Nat.sub_le _ _) h.room, by simp, fun b hb j u hj => ?_⟩
  obtain rfl : (⟨a.block, a.off + k * 2, none⟩ : Addr) = b := by simpa using hb
  rw [add_add a (k * 2) j (by omega)]
  refine h.at' a rfl _ _ ?_
  have e : flat xs = flat (xs.take k) ++ flat (xs.drop k) := by rw [← flat_append, List.take_append_drop]
  rw [e, List.getElem?_append_right (by rw [flat_length, List.length_take]; omega), flat_length, List.length_take]
  rw [show k * 2 + j - min k xs.length * 2 = j by rw [Nat.min_eq_left hk]; omega]
  exact hj
theorem Ls.none_left (a : Addr) (hc : c ≤ maxLen) : Ls W (some a) c [] := ⟨Nat.zero_le _, hc, by simp, fun _ _ j u hj => by simp [flat] at hj⟩
/-- one of one's own -/
abbrev Row (W : World) (K : Nat) (v : Value) (xs : List Ed) : Prop := W.ownsRow K 34 2 v xs.length (flat xs)
theorem Row.ls {v : Value} (h : Row W K v xs) : ∃ A c, v = .slice A xs.length c ∧ Ls W A c xs := by
  rcases h.2 with ⟨rfl, h0⟩ | ⟨g, cap, cur, rfl, hb, hg, h1, h2, h3, h4⟩
  · have := List.length_eq_zero_iff.1 h0
    subst this
    exact ⟨none, 0, rfl, Ls.nils _⟩
  · refine ⟨_, cap, rfl, by omega, h2, by simp, fun a ha j u hj => ?_⟩
    obtain rfl : (⟨g, 0, none⟩ : Addr) = a := by simpa using ha
    exact h.cells (g := g) rfl j u hj
theorem Ls.src (h : Ls W A c ys) : Src Try.prog 2 24 (.slice A ys.length c) ys.length (flat ys) W := by
  cases A with
  | none =>
    have := h.empty; subst this
    exact Src.ofNil W Try.underlying24 c
  | some a => exact Src.ofSlice W Try.underlying24 a ys.length c (flat ys) (flat_length ys) (h.at' a rfl) (flat_one ys)
/-- what is put behind a row of one's own -/
theorem Row.app {v : Value} (h : Row W K v xs) (hs : Ls W A c ys) (hl : xs.length + ys.length ≤ 1000000) (hK : K ≤ W.heap.size) (ty : TypeId) :
    ∃ v' W', (Builtin.append_ #[24, 24] ty #[v, .slice A ys.length c]).run Try.prog W = .ok v' W' ∧ Row W' K v' (xs ++ ys) ∧ W.grownBy W' v.ownBlock ∧ (v'.ownBlock = v.ownBlock ∨ v'.ownBlock = some W.heap.size) := by
  obtain ⟨i0, hi, hz0, hz1, hz2⟩ := info_parts infoE
  cases A with
  | none =>
    have := hs.empty; subst this
    have hc := hs.nil rfl
    subst hc
    obtain ⟨A', c', rfl, hls⟩ := h.ls
    refine ⟨_, W, run_append_nothing (P := Try.prog) W 24 24 ty 34 i0 Try.underlying24 hi A' xs.length c' hls.cap _ (by rw [hz1]; exact hs.src), by rw [List.append_nil]; exact h, ⟨rfl, rfl, rfl, Nat.le_refl _, fun _ _ _ => rfl⟩, .inl rfl⟩
  | some a =>
    obtain ⟨v', W', h1, h2, h3, -, h5⟩ := run_append_own_at (P := Try.prog) W K 24 ty 34 i0 _ 2 16 Try.underlying24 hi hz0 hz1 hz2 rfl (by decide) v xs.length (flat xs) h a ys.length c (flat ys) (flat_length ys) (hs.at' a rfl) (flat_one ys) (by unfold maxLen; omega) (by omega) hK
    refine ⟨v', W', h1, ?_, h3, h5⟩
    unfold Row
    rw [flat_append, List.length_append]
    exact h2
theorem Row.app_below {v : Value} (h : Row W K v xs) (hg : W.grownBy W' v.ownBlock) (hK : K ≤ W.heap.size) : Below K W W' :=
  OnlyS.below (S := fun k => v.ownBlock = some k) ((OnlyS.refl _ W).grown hg fun _ hk => .inl hk) (fun k hk => (h.lt k hk).1) hK
theorem box_ls (W : World) (x : Ed) : Ls (W.alloc (.cells #[.int .i64 x.1, .int .i64 x.2] 34)) (some ⟨W.heap.size, 0, none⟩) 1 [x] := by
  refine ⟨Nat.le_refl _, by decide, by simp, fun a ha j u hj => ?_⟩
  obtain rfl : (⟨W.heap.size, 0, none⟩ : Addr) = a := by simpa using ha
  rw [add_at]
  match j, hj with
  | 0, hj => simp [flat, cellsW] at hj; subst hj; simp [go_sem]
  | 1, hj => simp [flat, cellsW] at hj; subst hj; simp [go_sem]
  | j + 2, hj => simp [flat, cellsW] at hj
end
theorem set_blk {W : World} {g o : Nat} {cur : Array Value} {t : TypeId} {fr : Nat × Nat} (v : Value) (h : W.heap[g]? = some (.cells cur t fr)) : (W.setCell ⟨g, o, none⟩ v).heap[g]? = some (.cells (cur.setIfInBounds o v) t fr) := by
  obtain ⟨hlt, hk⟩ := Array.getElem?_eq_some_iff.1 h
  show (W.heap.modify g _)[g]? = _
  rw [Array.getElem?_eq_getElem (by rw [Array.size_modify]; exact hlt), Array.getElem_modify_self, hk]
  rfl
theorem sets_blk {t : TypeId} {fr : Nat × Nat} {g : Nat} : ∀ (vs : List Value) (W : World) (o : Nat) (cur : Array Value), W.heap[g]? = some (.cells cur t fr) →
    ∃ cur', (W.setCells g o vs).heap[g]? = some (.cells cur' t fr) ∧ cur'.size = cur.size ∧ (∀ k, k < o → cur'[k]? = cur[k]?) ∧ OnlyS (· = g) W (W.setCells g o vs)
  | [], W, o, cur, h => ⟨cur, h, rfl, fun _ _ => rfl, OnlyS.refl _ _⟩
  | v :: vs, W, o, cur, h => by
    obtain ⟨cur', h1, h2, h3, h4⟩ := sets_blk vs (W.setCell ⟨g, o, none⟩ v) (o + 1) _ (set_blk (o := o) v h)
    refine ⟨cur', h1, by simpa using h2, fun k hk => ?_, (OnlyS.set g o W v).trans h4⟩
    rw [h3 k (by omega), Array.getElem?_setIfInBounds_ne (by omega)]
/-- one is stored, cell by cell -/
abbrev put2 (W : World) (g o : Nat) (x : Ed) : World := (W.setCell ⟨g, o, none⟩ (.int .i64 x.1)).setCell ⟨g, o + 1, none⟩ (.int .i64 x.2)
theorem flat_set (zs : List Ed) (i : Nat) (x : Ed) (h : i < zs.length) : flat (zs.set i x) = ((flat zs).set (i * 2) (.int .i64 x.1)).set (i * 2 + 1) (.int .i64 x.2) := by
  induction zs generalizing i with
  | nil => simp at h
  | cons z zs ih =>
    have e : ∀ (y : Ed) (ys : List Ed), flat (y :: ys) = .int .i64 y.1 :: .int .i64 y.2 :: flat ys := fun y ys => by simp [flat, cellsW]
    cases i with
    | zero => simp [e]
    | succ i =>
      have h' : i < zs.length := by simpa using h
      rw [List.set_cons_succ, e, e, ih i h', show (i + 1) * 2 = i * 2 + 1 + 1 by omega]
      simp
section
variable {W W' : World} {g n cap K : Nat} {zs : List Ed}
theorem Row.keep {v : Value} (h : Row W K v zs) (hk : ∀ g, v.ownBlock = some g → W'.heap[g]? = W.heap[g]?) : Row W' K v zs := row_keep h hk
theorem Row.put (h : Row W K (.slice (some ⟨g, 0, none⟩) n cap) zs) (x : Ed) {i : Nat} (hi : i < zs.length) : Row (put2 W g (i * 2) x) K (.slice (some ⟨g, 0, none⟩) n cap) (zs.set i x) := by
  rcases h.2 with ⟨h0, _⟩ | ⟨g', cap', cur, e, hb, hg, h1, h2, h3, h4⟩
  · cases h0
  · cases e
    refine ⟨flat_length _, .inr ⟨g, cap, _, by simp, hb, set_blk _ (set_blk _ hg), by simpa using h1, h2, by simpa using h3, ?_⟩⟩
    rw [flat_set _ _ _ hi, ← h4]
    simp [List.take_set]
/-- a shorter slice of the same row, whatever stands behind -/
theorem Row.cut {i : Nat} (h : Row W K (.slice (some ⟨g, 0, none⟩) n cap) zs) (hi : i ≤ zs.length)
    (hg' : ∀ cur, W.heap[g]? = some (.cells cur 34 (0, 0)) → ∃ cur', W'.heap[g]? = some (.cells cur' 34 (0, 0)) ∧ cur'.size = cur.size ∧ ∀ k, k < i * 2 → cur'[k]? = cur[k]?) :
    Row W' K (.slice (some ⟨g, 0, none⟩) i cap) (zs.take i) := by
  rcases h.2 with ⟨h0, _⟩ | ⟨g', cap', cur, e, hb, hg, h1, h2, h3, h4⟩
  · cases h0
  · cases e
    obtain ⟨cur', k1, k2, k3⟩ := hg' cur hg
    have hl : (zs.take i).length = i := by rw [List.length_take]; omega
    refine ⟨flat_length _, .inr ⟨g, cap, cur', by rw [hl], hb, k1, by omega, h2, by omega, ?_⟩⟩
    rw [hl]
    have e1 : flat (zs.take i) = (flat zs).take (i * 2) := by
      have e2 : flat zs = flat (zs.take i) ++ flat (zs.drop i) := by rw [← flat_append, List.take_append_drop]
      rw [e2, List.take_left' (by rw [flat_length, hl])]
    rw [e1, ← h4, List.take_take]
    apply List.ext_getElem?
    intro k
    rw [List.getElem?_take, List.getElem?_take]
    by_cases hk : k < i * 2
    · rw [if_pos hk, if_pos (by omega), Array.getElem?_toList, Array.getElem?_toList, k3 k hk]
    · rw [if_neg hk, if_neg (by omega)]
theorem Row.blk (h : Row W K (.slice (some ⟨g, 0, none⟩) n cap) zs) : ∃ cur, W.heap[g]? = some (.cells cur 34 (0, 0)) ∧ zs.length ≤ cap ∧ cap ≤ maxLen := by
  rcases h.2 with ⟨h0, _⟩ | ⟨g', cap', cur, e, _, hb, h1, h2, _⟩
  · cases h0
  · cases e; exact ⟨cur, hb, h1, h2⟩
theorem Row.free {k : Nat} (h : Row W K (.slice (some ⟨g, 0, none⟩) n cap) zs) : W.frozen? ⟨g, k, none⟩ = false := by
  obtain ⟨cur, hb, -⟩ := h.blk
  exact frozen_of_row _ _ _ _ _ hb
theorem Row.there {k : Nat} (h : Row W K (.slice (some ⟨g, 0, none⟩) n cap) zs) (hk : k < zs.length * 2) : (W.cell? ⟨g, k, none⟩).isSome = true := by
  have h1 := h.cells (g := g) rfl k _ (List.getElem?_eq_getElem (by rw [flat_length]; exact hk))
  rw [add_at] at h1
  rw [h1]; rfl
end
/-- as many zeros -/
def zz (n : Nat) : List Value := (Builtin.zeroCells (Value.agg #[.int .i64 0, .int .i64 0]).cells n).toList
theorem zz_length (n : Nat) : (zz n).length = n * 2 := by simp [zz, size_zeroCells, Value.cells]
theorem zz_one (n : Nat) : ∀ u ∈ zz n, u.oneCell' = true := by
  intro u hu
  obtain ⟨k, hk, rfl⟩ := List.getElem_of_mem hu
  simp only [zz, Builtin.zeroCells, Value.cells, Array.getElem_toList]
  have h2 : k % 2 = 0 ∨ k % 2 = 1 := by omega
  rcases h2 with e | e <;> simp [e] <;> rfl
theorem run_clear_w (w : World) (ty : TypeId) (b o n c : Nat) (hn : 0 < n) (hc : ∀ j, j < n * 2 → (w.cell? ⟨b, o + j, none⟩).isSome = true) (hf : ∀ j, j < n * 2 → w.frozen? ⟨b, o + j, none⟩ = false) :
    (Builtin.clear_ #[24] ty #[.slice (some ⟨b, o, none⟩) n c]).run Try.prog w = .ok (.tuple #[]) (w.setCells b o (zz n)) := by
  have hst := run_storeCells_cells (P := Try.prog) b o (zz n) 0 w (by rw [zz_length]; simpa using hc) (by rw [zz_length]; simpa using hf) (zz_one n)
  simp only [Nat.add_zero] at hst
  obtain ⟨m, rfl⟩ : ∃ m, n = m + 1 := ⟨n - 1, by omega⟩
  unfold zz at hst
  simp [Builtin.clear_, run_underlying Try.underlying24, Try.zeroValue34, hst, zz]
@[go_sem] theorem eqlE_none (w : World) (n c : Nat) : (binOp .eql 24 (.slice none n c) (.slice none 0 0)).run Try.prog w = .ok (.bool true) w := Lib.run_eql_slice_nil w 24 34 none n c 0 0 Try.underlying24
@[go_sem] theorem eqlE_some (w : World) (a : Addr) (n c : Nat) : (binOp .eql 24 (.slice (some a) n c) (.slice none 0 0)).run Try.prog w = .ok (.bool false) w := Lib.run_eql_slice_nil w 24 34 (some a) n c 0 0 Try.underlying24
/-- a list is handed out, in memory of its own -/
def Lists (W : World) (xs : List Ed) (e : Ending) (w' : World) : Prop := ∃ A c, e = .returned (.slice A xs.length c) ∧ Ls w' A c xs ∧ Below W.heap.size W w'
section
variable {W W' : World} {A : Option Addr} {c K : Nat} {xs : List Ed}
theorem clone_any (hr : Ls W A c xs) (hl : xs.length ≤ 1000000) : Calls Try.prog 29 #[.slice A xs.length c] W fun e w' => ∃ v, e = .returned v ∧ Row w' W.heap.size v xs ∧ Below W.heap.size W w' := by
  cases A with
  | none =>
    have := hr.empty; subst this
    have hc := hr.nil rfl
    subst hc
    clear hr
    go_enter Try.func29, Try.ntmps29
    go_wp2
    go_ret
    exact ⟨_, rfl, World.ownsRow_nil _ _ _ _, Below.refl _ _⟩
  | some a =>
    have h0 : Row (W.alloc (.cells #[] 34)) W.heap.size (.slice (some ⟨W.heap.size, 0, none⟩) 0 0) [] :=
      ⟨rfl, .inr ⟨W.heap.size, 0, #[], rfl, Nat.le_refl _, heap_alloc_new W _, Nat.le_refl _, Nat.zero_le _, rfl, rfl⟩⟩
    have hx := box_below W (.cells #[] 34)
    obtain ⟨v', w', hrun, hrow, hg, -⟩ := h0.app (hr.below hx) (by simp; omega) hx.size 24
    have HR := Lib.hid hrow
    have HB := Lib.hid (hx.trans (h0.app_below hg hx.size))
    simp only [List.nil_append] at HR
    generalize xs.length = n at *
    clear hr h0 hx hrow hg
    go_enter Try.func29, Try.ntmps29
    go_wp2_with (at_builtin; refine Lib.wpList_append_run _ rfl _ _ _ _ rfl _ _ rfl rfl _ _ hrun ?_)
    go_ret
    exact ⟨_, rfl, HR.out, HB.out⟩
end
section
variable {W W' : World} {A1 A2 : Option Addr} {c1 c2 : Nat} {xs : List Ed}
end
end Go.Proofs.Ytggmnjnigmbooaa.Es
/- Lists in an order, each thing once: what is put in its place, the one list that holds these things, what is left of a sorted list when those that stand there again are taken away. -/
namespace Go.Proofs.Ytggmnjnigmbooaa.Od
open Go

variable {α : Type} [DecidableEq α] {lt : α → α → Bool} {l a b : List α} {x y : α}
/-- an order in which each two that are not one stand -/
structure Ordr (lt : α → α → Bool) : Prop where
  irr : ∀ a, lt a a = false
  tr : ∀ a b c, lt a b = true → lt b c = true → lt a c = true
  tot : ∀ a b, lt a b = false → lt b a = false → a = b
/-- rising -/
def Asc (lt : α → α → Bool) (l : List α) : Prop := l.Pairwise fun a b => lt a b = true
/-- put in its place, once -/
def ins (lt : α → α → Bool) (x : α) : List α → List α
  | [] => [x]
  | y :: ys => if lt y x then y :: ins lt x ys else if y = x then y :: ys else x :: y :: ys
/-- these, rising, each once -/
def can (lt : α → α → Bool) (l : List α) : List α := l.foldl (fun out x => ins lt x out) []
theorem can_snoc (l : List α) (x : α) : can lt (l ++ [x]) = ins lt x (can lt l) := by simp [can]
theorem can_nil : can lt ([] : List α) = [] := rfl
theorem ins_mem : y ∈ ins lt x l ↔ y = x ∨ y ∈ l := by
  induction l with
  | nil => simp [ins]
  | cons z zs ih =>
    unfold ins
    split
    · simp only [List.mem_cons, ih]
      constructor
      · rintro (h | h | h)
        · exact .inr (.inl h)
        · exact .inl h
        · exact .inr (.inr h)
      · rintro (h | h | h)
        · exact .inr (.inl h)
        · exact .inl h
        · exact .inr (.inr h)
    · split
      · rename_i h
        subst h
        simp
      · simp
theorem ins_asc (o : Ordr lt) (h : Asc lt l) : Asc lt (ins lt x l) := by
  induction l with
  | nil => exact List.pairwise_singleton _ _
  | cons z zs ih =>
    obtain ⟨h1, h2⟩ := List.pairwise_cons.1 h
    unfold ins
    split
    · rename_i hz
      refine List.pairwise_cons.2 ⟨fun y hy => ?_, ih h2⟩
      rcases ins_mem.1 hy with rfl | hy
      · exact hz
      · exact h1 y hy
    · split
      · exact h
      · rename_i hz hne
        have hxz : lt x z = true := by
          cases e : lt x z
          · exact absurd (o.tot z x (by simpa using hz) e) hne
          · rfl
        refine List.pairwise_cons.2 ⟨fun y hy => ?_, h⟩
        rcases List.mem_cons.1 hy with rfl | hy
        · exact hxz
        · exact o.tr _ _ _ hxz (h1 y hy)
theorem can_mem : x ∈ can lt l ↔ x ∈ l := by
  have : ∀ (l s : List α), x ∈ l.foldl (fun out x => ins lt x out) s ↔ x ∈ s ∨ x ∈ l := by
    intro l
    induction l with
    | nil => simp
    | cons z zs ih =>
      intro s
      rw [List.foldl_cons, ih, ins_mem, List.mem_cons]
      constructor
      · rintro ((h | h) | h)
        · exact .inr (.inl h)
        · exact .inl h
        · exact .inr (.inr h)
      · rintro (h | h | h)
        · exact .inl (.inr h)
        · exact .inl (.inl h)
        · exact .inr h
  unfold can
  rw [this]
  simp
theorem can_asc (o : Ordr lt) (l : List α) : Asc lt (can lt l) := by
  have : ∀ (l s : List α), Asc lt s → Asc lt (l.foldl (fun out x => ins lt x out) s) := by
    intro l
    induction l with
    | nil => exact fun _ h => h
    | cons z zs ih => exact fun s h => ih _ (ins_asc o h)
  exact this l [] List.Pairwise.nil
omit [DecidableEq α] in
theorem asc_ext (o : Ordr lt) : ∀ {a b : List α}, Asc lt a → Asc lt b → (∀ x, x ∈ a ↔ x ∈ b) → a = b
  | [], [], _, _, _ => rfl
  | [], y :: ys, _, _, h => by have := (h y).2 List.mem_cons_self; cases this
  | x :: xs, [], _, _, h => by have := (h x).1 List.mem_cons_self; cases this
  | x :: xs, y :: ys, ha, hb, h => by
    obtain ⟨a1, a2⟩ := List.pairwise_cons.1 ha
    obtain ⟨b1, b2⟩ := List.pairwise_cons.1 hb
    have hxy : x = y := by
      rcases List.mem_cons.1 ((h x).1 List.mem_cons_self) with e | h1
      · exact e
      · rcases List.mem_cons.1 ((h y).2 List.mem_cons_self) with e | h2
        · exact e.symm
        · have k1 := b1 x h1
          have k2 := a1 y h2
          have := o.tr _ _ _ k1 k2
          rw [o.irr] at this
          cases this
    subst hxy
    rw [asc_ext o a2 b2 fun z => ?_]
    have hz := h z
    simp only [List.mem_cons] at hz
    constructor
    · intro hm
      rcases hz.1 (.inr hm) with e | h1
      · subst e
        have := a1 z hm
        rw [o.irr] at this
        cases this
      · exact h1
    · intro hm
      rcases hz.2 (.inr hm) with e | h1
      · subst e
        have := b1 z hm
        rw [o.irr] at this
        cases this
      · exact h1
theorem can_is (o : Ordr lt) (h : Asc lt a) (hm : ∀ x, x ∈ a ↔ x ∈ l) : a = can lt l :=
  asc_ext o h (can_asc o l) fun x => (hm x).trans can_mem.symm
theorem can_self (o : Ordr lt) (h : Asc lt a) : can lt a = a := (can_is o h fun _ => Iff.rfl).symm
theorem can_eq (o : Ordr lt) (hm : ∀ x, x ∈ a ↔ x ∈ b) : can lt a = can lt b := can_is o (can_asc o a) fun x => can_mem.trans (hm x)
theorem ins_len (x : α) (l : List α) : (ins lt x l).length ≤ l.length + 1 := by
  induction l with
  | nil => exact Nat.le_refl _
  | cons z zs ih =>
    unfold ins
    split
    · simpa using ih
    · split
      · simp
      · simp
theorem can_len (l : List α) : (can lt l).length ≤ l.length := by
  have : ∀ (l s : List α), (l.foldl (fun out x => ins lt x out) s).length ≤ s.length + l.length := by
    intro l
    induction l with
    | nil => exact fun s => Nat.le_refl _
    | cons z zs ih =>
      intro s
      have h1 := ih (ins lt z s)
      have h2 := ins_len (lt := lt) z s
      rw [List.foldl_cons, List.length_cons]
      omega
  have := this l []
  unfold can
  simpa using this
/-- one that is there stays -/
theorem ins_at (o : Ordr lt) : ∀ {l : List α} {k : Nat}, (∀ j (_ : j < k) (h : j < l.length), lt l[j] x = true) → (h : k < l.length) → l[k] = x → ins lt x l = l
  | y :: ys, 0, _, _, e => by
    simp only [List.getElem_cons_zero] at e
    subst e
    unfold ins
    rw [o.irr]
    simp
  | y :: ys, k + 1, hl, h, e => by
    have h0 := hl 0 (by omega) (by simp)
    simp only [List.getElem_cons_zero] at h0
    simp only [List.getElem_cons_succ] at e
    unfold ins
    rw [if_pos h0, ins_at o (k := k) (fun j hj hjl => by have := hl (j + 1) (by omega) (by simpa using hjl); simpa using this) (by simpa using h) e]
/-- one that is not comes behind those that are less -/
theorem ins_new : ∀ {l : List α} {k : Nat}, k ≤ l.length → (∀ j (_ : j < k) (h : j < l.length), lt l[j] x = true) → (∀ h : k < l.length, lt l[k] x = false ∧ l[k] ≠ x) → ins lt x l = l.take k ++ x :: l.drop k
  | [], k, h0, _, _ => by
    obtain rfl : k = 0 := by simpa using h0
    rfl
  | y :: ys, 0, _, _, h => by
    obtain ⟨h1, h2⟩ := h (by simp)
    simp only [List.getElem_cons_zero] at h1 h2
    unfold ins
    rw [h1, if_neg (by simp), if_neg h2]
    rfl
  | y :: ys, k + 1, hk, hl, h => by
    have h0 := hl 0 (by omega) (by simp)
    simp only [List.getElem_cons_zero] at h0
    unfold ins
    rw [if_pos h0, ins_new (k := k) (by simpa using hk) (fun j hj hjl => by have := hl (j + 1) (by omega) (by simpa using hjl); simpa using this) (fun hh => by have := h (by simpa using hh); simpa using this)]
    simp
theorem ins_last (h : ∀ y ∈ l, lt y x = true) : ins lt x l = l ++ [x] := by
  have := ins_new (lt := lt) (x := x) (l := l) (k := l.length) (Nat.le_refl _) (fun j _ hj => h _ (List.getElem_mem hj)) (fun hh => absurd hh (Nat.lt_irrefl _))
  simpa using this
theorem ins_old (o : Ordr lt) (h : Asc lt l) (hx : x ∈ l) : ins lt x l = l :=
  asc_ext o (ins_asc o h) h fun _ => ins_mem.trans ⟨fun hy => hy.elim (fun e => e ▸ hx) id, .inr⟩
/-- sorted; one may stand there twice -/
def Srt (lt : α → α → Bool) (l : List α) : Prop := l.Pairwise fun a b => lt b a = false
omit [DecidableEq α] in
theorem take_last (xs : List α) {m : Nat} (hm : m < xs.length) : xs.take (m + 1) = xs.take m ++ [xs[m]] := List.take_succ_eq_append_getElem hm
theorem can_again (o : Ordr lt) {xs : List α} {m : Nat} (hm : m < xs.length) (h0 : 0 < m) (e : xs[m] = xs[m - 1]) : can lt (xs.take (m + 1)) = can lt (xs.take m) := by
  rw [take_last xs hm, can_snoc]
  refine ins_old o (can_asc o _) (can_mem.2 ?_)
  rw [e]
  exact List.mem_take_iff_getElem.2 ⟨m - 1, by omega, rfl⟩
theorem can_more (o : Ordr lt) {xs : List α} (hs : Srt lt xs) {m : Nat} (hm : m < xs.length) (h0 : 0 < m) (e : xs[m] ≠ xs[m - 1]) : can lt (xs.take (m + 1)) = can lt (xs.take m) ++ [xs[m]] := by
  rw [take_last xs hm, can_snoc]
  refine ins_last fun y hy => ?_
  obtain ⟨j, hj, rfl⟩ := List.mem_take_iff_getElem.1 (can_mem.1 hy)
  have hp := List.pairwise_iff_getElem.1 hs
  have h1 : lt xs[m - 1] xs[m] = true := by
    cases q : lt xs[m - 1] xs[m]
    · exact absurd (o.tot _ _ (hp (m - 1) m (by omega) hm (by omega)) q) e
    · rfl
  by_cases hjm : j = m - 1
  · subst hjm; exact h1
  · have h2 := hp j (m - 1) (by omega) (by omega) (by omega)
    cases q : lt xs[j] xs[m - 1]
    · have := o.tot _ _ q h2
      rw [this]
      exact h1
    · exact o.tr _ _ _ q h1
theorem can_one (x : α) : can lt [x] = [x] := rfl
theorem can_short (xs : List α) (h : xs.length < 2) : can lt xs = xs := by
  match xs, h with
  | [], _ => rfl
  | [x], _ => rfl
/-- while nothing stood there twice -/
theorem can_grow (o : Ordr lt) {xs : List α} (hs : Srt lt xs) {m : Nat} (hm : m < xs.length) (h0 : 0 < m) (e : xs[m] ≠ xs[m - 1]) (h : can lt (xs.take m) = xs.take m) : can lt (xs.take (m + 1)) = xs.take (m + 1) := by
  rw [can_more o hs hm h0 e, h, take_last xs hm]
/-- so many places have been looked at: what is left of them lies ahead, the rest as it was -/
structure Cmid (lt : α → α → Bool) (xs zs : List α) (k m : Nat) : Prop where
  len : zs.length = xs.length
  km : k < m
  mn : m ≤ xs.length
  kept : zs.take k = can lt (xs.take m)
  rest : zs.drop k = xs.drop k
theorem Cmid.at {xs zs : List α} {k m j : Nat} (h : Cmid lt xs zs k m) (hk : k ≤ j) (hj : j < xs.length) : ∃ hz : j < zs.length, zs[j] = xs[j] := by
  have hz : j < zs.length := by rw [h.len]; exact hj
  refine ⟨hz, ?_⟩
  have e1 : (zs.drop k)[j - k]? = (xs.drop k)[j - k]? := by rw [h.rest]
  rw [List.getElem?_drop, List.getElem?_drop, show k + (j - k) = j by omega, List.getElem?_eq_getElem hz, List.getElem?_eq_getElem hj] at e1
  exact Option.some.inj e1
theorem Cmid.start (o : Ordr lt) {xs : List α} {k : Nat} (hk : k < xs.length) (h0 : 0 < k) (h : can lt (xs.take k) = xs.take k) (e : xs[k] = xs[k - 1]) : Cmid lt xs xs k (k + 1) :=
  ⟨rfl, Nat.lt_succ_self _, hk, by rw [can_again o hk h0 e, h], rfl⟩
theorem Cmid.skip (o : Ordr lt) {xs zs : List α} {k m : Nat} (h : Cmid lt xs zs k m) (hm : m < xs.length) (e : xs[m] = xs[m - 1]) : Cmid lt xs zs k (m + 1) :=
  ⟨h.len, Nat.lt_succ_of_lt h.km, hm, by rw [can_again o hm (by have := h.km; omega) e, h.kept], h.rest⟩
theorem Cmid.keep (o : Ordr lt) {xs zs : List α} (hs : Srt lt xs) {k m : Nat} (h : Cmid lt xs zs k m) (hm : m < xs.length) (e : xs[m] ≠ xs[m - 1]) : Cmid lt xs (zs.set k xs[m]) (k + 1) (m + 1) := by
  have hkm := h.km
  have hkz : k < zs.length := by rw [h.len]; omega
  refine ⟨by rw [List.length_set, h.len], by omega, hm, ?_, ?_⟩
  · rw [can_more o hs hm (by omega) e, List.take_succ_eq_append_getElem (by simpa using hkz), List.take_set_of_le (Nat.le_refl _), h.kept]
    simp
  · rw [List.drop_set_of_lt (by omega), ← List.drop_drop, ← List.drop_drop, h.rest]
theorem Cmid.done {xs zs : List α} {k : Nat} (h : Cmid lt xs zs k xs.length) : zs.take k = can lt xs := by
  rw [h.kept, List.take_length]
/-- what the library's function says of a sorted row -/
theorem compact_can [Inhabited α] (o : Ordr lt) {xs : List α} (hs : Srt lt xs) : Lib.compactUpTo xs.toArray xs.toArray.size = can lt xs := by
  have key : ∀ m, m ≤ xs.length → Lib.compactUpTo xs.toArray m = can lt (xs.take m) := by
    intro m
    induction m with
    | zero => intro _; rfl
    | succ m ih =>
      intro hm
      have hml : m < xs.length := by omega
      have g : ∀ j (h : j < xs.length), xs.toArray[j]! = xs[j] := fun j h => by
        rw [getElem!_pos xs.toArray j (by simpa using h)]
        simp
      rw [Lib.compactUpTo_succ, ih (by omega)]
      by_cases h0 : m = 0
      · subst h0
        rw [Lib.keeps_lt_one _ 0 (by omega), g 0 hml, take_last xs hml]
        simp [can, ins]
      · by_cases e : xs[m] = xs[m - 1]
        · rw [Lib.keeps_neg (by omega) (by rw [g m hml, g (m - 1) (by omega)]; exact e), can_again o hml (by omega) e]
          simp
        · rw [Lib.keeps_pos (by rw [g m hml, g (m - 1) (by omega)]; exact e), can_more o hs hml (by omega) e, g m hml]
          simp
  have := key xs.length (Nat.le_refl _)
  rw [List.take_length] at this
  simpa using this
end Go.Proofs.Ytggmnjnigmbooaa.Od
/- Edges compared; those of a sorted row that stand there again are taken away by the library. -/
namespace Go.Proofs.Ytggmnjnigmbooaa.Es
open Go Go.RowKit Go.Shelf
set_option maxRecDepth 100000

/-- by from whom, then by to whom -/
def lessE (a b : Ed) : Bool := if a.1 = b.1 then decide (a.2 < b.2) else decide (a.1 < b.1)
theorem lessE_iff {a b : Ed} : lessE a b = true ↔ a.1 < b.1 ∨ (a.1 = b.1 ∧ a.2 < b.2) := by
  unfold lessE
  split
  · rename_i h; rw [decide_eq_true_iff]; omega
  · rename_i h; rw [decide_eq_true_iff]; omega
theorem lessE_not {a b : Ed} : lessE a b = false ↔ ¬ (a.1 < b.1 ∨ (a.1 = b.1 ∧ a.2 < b.2)) := by
  rw [← lessE_iff]; simp
theorem ordE : Od.Ordr lessE where
  irr a := lessE_not.2 (by omega)
  tr a b c h1 h2 := by rw [lessE_iff] at *; omega
  tot a b h1 h2 := by
    rw [lessE_not] at *
    exact Prod.ext (by omega) (by omega)
def eqE (x y : Ed) : Bool := x.1 == y.1 && x.2 == y.2
@[go_sem ↓] theorem eqE_run (n : Nat) (w : World) (a b c d : Int) :
    (Op.equalIn (n + 3) 34 (.agg #[.int .i64 a, .int .i64 b]) (.agg #[.int .i64 c, .int .i64 d])).run Try.prog w = .ok (eqE (a, b) (c, d)) w := by
  rw [run_equalIn_struct w (n + 2) 34 _ _ (by kernel_rfl) (by kernel_rfl)]
  simp [go_sem]
  unfold eqE
  by_cases h1 : a = c <;> by_cases h2 : b = d <;> simp [h1, h2]
theorem eqE_iff {x y : Ed} : eqE x y = true ↔ x = y := by
  unfold eqE
  rw [Bool.and_eq_true, beq_iff_eq, beq_iff_eq]
  exact ⟨fun h => Prod.ext h.1 h.2, fun h => by rw [h]; exact ⟨rfl, rfl⟩⟩
theorem eqE_self (x : Ed) : eqE x x = true := eqE_iff.2 rfl
theorem eqE_ne {x y : Ed} (h : x ≠ y) : eqE x y = false := by
  cases e : eqE x y
  · rfl
  · exact absurd (eqE_iff.1 e) h
/-- what a call that takes some of a row away hands back -/
def Drops (W : World) (K : Nat) (v : Value) (xs : List Ed) (e : Ending) (w' : World) : Prop :=
  ∃ v', e = .returned v' ∧ Row w' K v' xs ∧ OnlyS (fun k => v.ownBlock = some k) W w'
section
variable {W W' : World} {c K : Nat} {xs : List Ed} {v : Value}
theorem Row.drewN (h : Row W K v xs) (q : Nat) : Row (W.drewN q) K v xs := row_keep h fun _ _ => rfl
/-- its cells, at a place -/
theorem Row.cellsAt {g n : Nat} (h : Row W K (.slice (some ⟨g, 0, none⟩) n c) xs) {i : Nat} (hi : i < xs.length) : W.cell? ⟨g, i * 2, none⟩ = some (.int .i64 xs[i].1) ∧ W.cell? ⟨g, i * 2 + 1, none⟩ = some (.int .i64 xs[i].2) := by
  have h0 := h.cells (g := g) rfl (i * 2) (.int .i64 xs[i].1) (by have := flat_at xs i 0 hi (by omega); rw [Nat.add_zero] at this; rw [this]; rfl)
  have h1 := h.cells (g := g) rfl (i * 2 + 1) (.int .i64 xs[i].2) (by rw [flat_at xs i 1 hi (by omega)]; rfl)
  rw [add_at] at h0 h1
  exact ⟨h0, h1⟩
set_option maxHeartbeats 8000000 in
theorem compact_any (hr : Row W K v xs) (hl : xs.length ≤ 1000000) (hs : Od.Srt lessE xs) : Calls Try.prog 32 #[v] W (Drops W K v (Od.can lessE xs)) := by
  by_cases h2 : xs.length < 2
  · rw [Od.can_short xs h2]
    obtain ⟨A, c, rfl, -⟩ := hr.ls
    have HR := Lib.hid hr
    generalize xs.length = n at *
    have h2' : ((n : Int) < 2) := by omega
    clear hr h2
    go_enter Try.func32, Try.ntmps32
    go_wp2
    go_ret
    exact ⟨_, rfl, HR.out, OnlyS.refl _ _⟩
  · obtain ⟨A, c, rfl, -⟩ := hr.ls
    have hg : ∃ g, A = some ⟨g, 0, none⟩ := by
      rcases hr.2 with ⟨h0, h1⟩ | ⟨g, cap, cur, e, _⟩
      · omega
      · cases e; exact ⟨g, rfl⟩
    obtain ⟨g, rfl⟩ := hg
    obtain ⟨cur, hblk, hnc, hcm⟩ := hr.blk
    have HG := Lib.hid (Array.getElem?_eq_some_iff.1 hblk).1
    have HR := Lib.hid hr
    have HS := Lib.hid hs
    obtain ⟨n, hn⟩ : ∃ n, xs.length = n := ⟨_, rfl⟩
    have HN := Lib.hid hn
    have hcm2 : c ≤ 9223372036854775807 := by unfold maxLen at hcm; omega
    rw [hn] at hnc hl h2 ⊢
    rw [hn] at HR
    have h2' : ¬ ((n : Int) < 2) := by omega
    clear hr hs hblk hcm hn
    go_enter Try.func32, Try.ntmps32
    go_wp2
    go_loopw [3] (fun s wr => ∃ k q : Nat, 1 ≤ k ∧ k ≤ n ∧ s = .int .i64 k ∧ wr = W.drewN q ∧ Od.can lessE (xs.take k) = xs.take k) (fun s _ => n - (intOf s).toNat)
    case atStart =>
      refine ⟨1, 0, Nat.le_refl _, by omega, rfl, rfl, ?_⟩
      exact Od.can_short _ (by rw [List.length_take]; omega)
    case round =>
      obtain ⟨k, q, hk1, hk, rfl, rfl, hall⟩ := hrel
      have HA := Lib.hid hall
      clear hall
      by_cases hlt : k < n
      · have hkl : k < xs.length := by rw [HN.out]; exact hlt
        obtain ⟨a0, a1⟩ := (HR.out.drewN q).cellsAt hkl
        obtain ⟨b0, b1⟩ := (HR.out.drewN q).cellsAt (i := k - 1) (by omega)
        obtain ⟨x, hx⟩ : ∃ x, xs[k] = x := ⟨_, rfl⟩
        obtain ⟨y, hy⟩ : ∃ y, xs[k - 1]'(by omega) = y := ⟨_, rfl⟩
        have HX := Lib.hid (show ∃ h : k < xs.length, xs[k] = x from ⟨hkl, hx⟩)
        have HY := Lib.hid (show ∃ h : k - 1 < xs.length, xs[k - 1] = y from ⟨by omega, hy⟩)
        rw [hx] at a0 a1
        rw [hy] at b0 b1
        obtain ⟨x1, x2⟩ := x
        obtain ⟨y1, y2⟩ := y
        simp only at a0 a1 b0 b1
        clear hx hy hkl
        generalize hXw : W.drewN q = X at a0 a1 b0 b1 ⊢
        have HXw := Lib.hid hXw
        clear hXw
        by_cases hdup : ((x1, x2) : Ed) = (y1, y2)
        · have heq := eqE_iff.2 hdup
          have HD := Lib.hid hdup
          clear hdup
          go_wp2
          go_quiet (fail)
          have HE := Lib.hid (show X.drewN nq = W.drewN (q + nq) by rw [← HXw.out]; simp [World.drewN]; omega)
          generalize X.drewN nq = Y at HE ⊢
          clear a0 a1 b0 b1
          go_wp2
          have HRY := Lib.hid (show Row Y K (.slice (some ⟨g, 0, none⟩) n c) xs by rw [HE.out]; exact HR.out.drewN _)
          have HOY := Lib.hid (show OnlyS (· = g) W Y by rw [HE.out]; exact (OnlyS.refl _ _).drewN _)
          have HM0 := Lib.hid (show Od.Cmid lessE xs xs k (k + 1) by
            obtain ⟨h1, e1⟩ := HX.out
            obtain ⟨h3, e3⟩ := HY.out
            exact Od.Cmid.start ordE h1 (by omega) HA.out (by rw [e1, e3, HD.out]))
          clear HXw HE
          go_loopw [3, 5] (fun s t wr => ∃ (a b : Nat) (zs : List Ed), s = .int .i64 a ∧ t = .int .i64 b ∧ 1 ≤ b ∧ Od.Cmid lessE xs zs a (k + b) ∧ Row wr K (.slice (some ⟨g, 0, none⟩) n c) zs ∧ OnlyS (· = g) W wr) (fun _ t _ => n - (intOf t).toNat)
          case atStart => exact ⟨k, 1, xs, rfl, rfl, Nat.le_refl _, HM0.out, HRY.out, HOY.out⟩
          case round =>
            obtain ⟨a, b, zs, rfl, rfl, hb1, hmid, hrow, hon⟩ := hrel
            have hab := hmid.km
            have hbn : k + b ≤ n := by rw [← HN.out]; exact hmid.mn
            have HMd := Lib.hid hmid
            have HRw := Lib.hid hrow
            have HOn := Lib.hid hon
            have hzn : zs.length = n := by rw [hmid.len, HN.out]
            have HZN := Lib.hid hzn
            clear hmid hrow hon HM0 HRY HOY hzn
            by_cases hlt2 : k + b < n
            · have hml : k + b < xs.length := by rw [HN.out]; exact hlt2
              obtain ⟨hz1, e1⟩ := HMd.out.at (by omega) hml
              obtain ⟨hz2, e2⟩ := HMd.out.at (j := k + b - 1) (by omega) (by omega)
              obtain ⟨c0, c1⟩ := HRw.out.cellsAt hz1
              obtain ⟨d0, d1⟩ := HRw.out.cellsAt hz2
              rw [e1] at c0 c1
              rw [e2] at d0 d1
              obtain ⟨u, hu⟩ : ∃ u, xs[k + b] = u := ⟨_, rfl⟩
              obtain ⟨z, hz⟩ : ∃ z, xs[k + b - 1]'(by omega) = z := ⟨_, rfl⟩
              have HU := Lib.hid (show ∃ h : k + b < xs.length, xs[k + b] = u from ⟨hml, hu⟩)
              have HZ := Lib.hid (show ∃ h : k + b - 1 < xs.length, xs[k + b - 1] = z from ⟨by omega, hz⟩)
              rw [hu] at c0 c1
              rw [hz] at d0 d1
              obtain ⟨u1, u2⟩ := u
              obtain ⟨z1, z2⟩ := z
              simp only at c0 c1 d0 d1
              rw [show (k + b) * 2 = k * 2 + b * 2 by omega] at c0 c1
              rw [show (k + b - 1) * 2 = k * 2 + (b - 1) * 2 by omega] at d0 d1
              have hzk : k * 2 + b * 2 < zs.length * 2 := by omega
              clear hu hz hz1 hz2 e1 e2 hml
              by_cases hd2 : ((u1, u2) : Ed) = (z1, z2)
              · have heq2 := eqE_iff.2 hd2
                have HD2 := Lib.hid hd2
                clear hd2
                go_wp2
                go_quiet (fail)
                have HRn := Lib.hid (HRw.out.drewN nq)
                have HOn2 := Lib.hid (HOn.out.drewN nq)
                generalize wr.drewN nq = Y2 at HRn HOn2 ⊢
                clear c0 c1 d0 d1
                go_wp2
                go_roundw
                case rel =>
                  refine ⟨a, b + 1, zs, rfl, by go_num, by omega, ?_, HRn.out, HOn2.out⟩
                  obtain ⟨h1, e1⟩ := HU.out
                  obtain ⟨h3, e3⟩ := HZ.out
                  exact HMd.out.skip ordE h1 (by rw [e1, e3, HD2.out])
                case measure => simp [intOf]; omega
              · have heq2 := eqE_ne hd2
                have HD2 := Lib.hid hd2
                clear hd2
                go_wp2
                go_quiet (fail)
                have HRn := Lib.hid (HRw.out.drewN nq)
                have HOn2 := Lib.hid (HOn.out.drewN nq)
                have c0' := (show (wr.drewN nq).cell? ⟨g, k * 2 + b * 2, none⟩ = some (.int .i64 u1) from c0)
                have c1' := (show (wr.drewN nq).cell? ⟨g, k * 2 + b * 2 + 1, none⟩ = some (.int .i64 u2) from c1)
                generalize wr.drewN nq = Y2 at HRn HOn2 c0' c1' ⊢
                clear c0 c1 d0 d1
                have haz : a < zs.length := by rw [HZN.out]; omega
                have s0 := HRn.out.there (k := a * 2) (by omega)
                have s1 := HRn.out.there (k := a * 2 + 1) (by omega)
                obtain ⟨y0, t0⟩ := Option.isSome_iff_exists.1 s0
                obtain ⟨y1', t1⟩ := Option.isSome_iff_exists.1 s1
                have f0 : Y2.frozen? ⟨g, a * 2, none⟩ = false := HRn.out.free
                have f1 : Y2.frozen? ⟨g, a * 2 + 1, none⟩ = false := HRn.out.free
                have HPut := Lib.hid (HRn.out.put (u1, u2) haz)
                have han : a < n := by omega
                clear s0 s1 haz
                go_wp2
                go_roundw
                case rel =>
                  refine ⟨a + 1, b + 1, zs.set a (u1, u2), by go_num, by go_num, by omega, ?_, HPut.out, (HOn2.out.trans (OnlyS.set _ _ _ _)).trans (OnlyS.set _ _ _ _)⟩
                  obtain ⟨h1, e1⟩ := HU.out
                  obtain ⟨h3, e3⟩ := HZ.out
                  have := HMd.out.keep ordE HS.out h1 (by rw [e1, e3]; exact HD2.out)
                  rw [e1] at this
                  exact this
                case measure => simp [intOf]; omega
            · obtain rfl : n = k + b := by omega
              have hzl : zs.length = k + b := HZN.out
              have hclr := fun ty => run_clear_w wr ty g (a * 2) (k + b - a) (c - a) (by omega) (fun j hj => HRw.out.there (by omega)) (fun j _ => HRw.out.free)
              clear hzl
              go_wp2
              go_ret
              have hset : ∀ cur, wr.heap[g]? = some (.cells cur 34 (0, 0)) → ∃ cur', (wr.setCells g (a * 2) (zz (k + b - a))).heap[g]? = some (.cells cur' 34 (0, 0)) ∧ cur'.size = cur.size ∧ ∀ j, j < a * 2 → cur'[j]? = cur[j]? := fun cur hcur => by
                obtain ⟨cur', q1, q2, q3, _⟩ := sets_blk (zz (k + b - a)) wr (a * 2) cur hcur
                exact ⟨cur', q1, q2, q3⟩
              refine ⟨_, rfl, ?_, ?_⟩
              · have hmd := HMd.out
                rw [← HN.out] at hmd
                have hz := hmd.done
                rw [← hz]
                have := HRw.out.cut (i := a) (by rw [HZN.out]; omega) hset
                exact this
              · obtain ⟨cur, hb, -⟩ := HRw.out.blk
                obtain ⟨_, _, _, _, q4⟩ := sets_blk (zz (k + b - a)) wr (a * 2) cur hb
                exact (HOn.out.trans q4).mono (fun k _ hk => by rw [hk]; rfl)
        · have heq := eqE_ne hdup
          have HD := Lib.hid hdup
          clear hdup
          go_wp2
          go_quiet (fail)
          have HE := Lib.hid (show X.drewN nq = W.drewN (q + nq) by rw [← HXw.out]; simp [World.drewN]; omega)
          generalize X.drewN nq = Y at HE ⊢
          clear a0 a1 b0 b1
          go_wp2
          go_roundw
          case rel =>
            refine ⟨k + 1, q + nq, by omega, by omega, by go_num, HE.out, ?_⟩
            obtain ⟨h1, e1⟩ := HX.out
            obtain ⟨h3, e3⟩ := HY.out
            exact Od.can_grow ordE HS.out h1 (by omega) (by rw [e1, e3]; exact HD.out) HA.out
          case measure => simp [intOf]; omega
      · obtain rfl : k = n := by omega
        have HE := Lib.hid (show Od.can lessE xs = xs by
          have := HA.out
          rwa [List.take_of_length_le (by rw [HN.out]; exact Nat.le_refl _)] at this)
        go_wp2
        go_ret
        exact ⟨_, rfl, by rw [HE.out]; exact HR.out.drewN q, (OnlyS.refl _ _).drewN q⟩
end
end Go.Proofs.Ytggmnjnigmbooaa.Es
