/- Edges in memory: two cells each; a list that is read; a row of one's own, what is put behind it; a copy; two lists held against each other. -/
import Derived.Test.YtjhkejkdnjogiaaGreatDoorR1
import Derived.Maps.AppendAt
import Derived.Deep.Upon
import Derived.Lib.AppendZeros
import Derived.Test.YtjhkejkdnjogiaaGreatDoorMo
import Derived.BigQuiet
import Derived.Lib.SliceRun
import Derived.Deep.RegionHeld3
import Derived.Maps.OwnSet
import Derived.Maps.Views
import Derived.Maps.Keyed
namespace Go.Proofs.YtjhkejkdnjogiaaGreatDoor.Es
open Go Go.RowKit Go.Shelf
set_option maxRecDepth 100000

/-- an edge: from whom, to whom -/
abbrev Ed := Int × Int
def cellsW (x : Ed) : List Value := [.int .i64 x.1, .int .i64 x.2]
abbrev wv (x : Ed) : Value := .agg #[.int .i64 x.1, .int .i64 x.2]
def flat (xs : List Ed) : List Value := xs.flatMap cellsW
theorem flat_length (xs : List Ed) : (flat xs).length = xs.length * 2 := by
  induction xs with
  | nil => rfl
  | cons x xs ih => simp only [flat, List.flatMap_cons, List.length_append, List.length_cons] at ih ⊢; rw [ih]; simp [cellsW]; omega
theorem flat_append (xs ys : List Ed) : flat (xs ++ ys) = flat xs ++ flat ys := by simp [flat]
theorem flat_at : ∀ (xs : List Ed) (i j : Nat) (h : i < xs.length), j < 2 → (flat xs)[i * 2 + j]? = (cellsW xs[i])[j]?
  | x :: xs, 0, j, h, hj => by
    simp only [flat, List.flatMap_cons, Nat.zero_mul, Nat.zero_add, List.getElem_cons_zero]
    rw [List.getElem?_append_left (by simp [cellsW]; exact hj)]
  | x :: xs, i + 1, j, h, hj => by
    simp only [flat, List.flatMap_cons, List.getElem_cons_succ]
    rw [List.getElem?_append_right (by simp [cellsW]; omega)]
    have e : (i + 1) * 2 + j - (cellsW x).length = i * 2 + j := by simp [cellsW]; omega
    rw [e]
    exact flat_at xs i j (by simpa using h) hj
theorem flat_one (xs : List Ed) : ∀ u ∈ flat xs, u.oneCell' = true := by
  intro u hu
  obtain ⟨x, -, hx⟩ := List.mem_flatMap.1 hu
  simp only [cellsW, List.mem_cons, List.not_mem_nil, or_false] at hx
  rcases hx with rfl | rfl <;> rfl
theorem block_add' (a : Addr) (n : Nat) : (a.add n).block = a.block := by unfold Addr.add; split <;> rfl
theorem add_next (a : Addr) (k j : Nat) (hj : 0 < j) : a.add (k + j) = ⟨(a.add k).block, (a.add k).off + j, none⟩ := by
  unfold Addr.add
  rw [if_neg (by omega)]
  split
  · rename_i h; subst h; simp
  · simp; omega
theorem infoE : (Tryz.prog.info? 47).map (fun i => (i.zero, i.size, i.bytes)) = some (some (.agg #[.int .i64 0, .int .i64 0]), 2, 16) := by kernel_rfl

/-- a list that is read -/
structure Ls (W : World) (A : Option Addr) (c : Nat) (xs : List Ed) : Prop where
  cap : xs.length ≤ c
  room : c ≤ maxLen
  nil : A = none → c = 0
  at' : ∀ a, A = some a → ∀ j u, (flat xs)[j]? = some u → W.cell? (a.add j) = some u
/-- one of them, cell by cell -/
structure Here (W : World) (a : Addr) (i : Nat) (x : Ed) : Prop where
  c0 : W.cell? (a.add (i * 2)) = some (.int .i64 x.1)
  c1 : W.cell? ⟨(a.add (i * 2)).block, (a.add (i * 2)).off + 1, none⟩ = some (.int .i64 x.2)
section
variable {W W' : World} {A : Option Addr} {c K : Nat} {xs ys : List Ed}
theorem Ls.nils (W : World) : Ls W none 0 [] := ⟨Nat.le_refl _, Nat.zero_le _, fun _ => rfl, by simp⟩
theorem Ls.empty (h : Ls W none c xs) : xs = [] := by
  have h1 := h.cap
  have h2 := h.nil rfl
  exact List.length_eq_zero_iff.1 (by omega)
theorem Ls.keep (h : Ls W A c xs) (hk : ∀ a, A = some a → W'.heap[a.block]? = W.heap[a.block]?) : Ls W' A c xs :=
  ⟨h.cap, h.room, h.nil, fun a ha j u hj => (World.cell?_of_block (w := W) (a := a.add j) (by rw [block_add']; exact hk a ha)).trans (h.at' a ha j u hj)⟩
theorem Ls.below (h : Ls W A c xs) (hb : Below W.heap.size W W') : Ls W' A c xs :=
  ⟨h.cap, h.room, h.nil, fun a ha j u hj => by
    have := h.at' a ha j u hj
    rw [World.cell?_of_block (w := W) (a := a.add j) (hb.block _ (cell_lt this))]
    exact this⟩
theorem Ls.only {T : Nat → Prop} (h : Ls W A c xs) (ho : OnlyS T W W') (hT : ∀ a, A = some a → ¬ T a.block) : Ls W' A c xs :=
  ⟨h.cap, h.room, h.nil, fun a ha j u hj => by
    have := h.at' a ha j u hj
    rw [World.cell?_of_block (w := W) (a := a.add j) (ho.block _ (cell_lt this) (by rw [block_add']; exact hT a ha))]
    exact this⟩
theorem Ls.drewN (h : Ls W A c xs) (k : Nat) : Ls (W.drewN k) A c xs := ⟨h.cap, h.room, h.nil, h.at'⟩
theorem Ls.here (h : Ls W A c xs) {i : Nat} (hi : i < xs.length) : ∃ a, A = some a ∧ Here W a i xs[i] := by
  cases A with
  | none => have := h.empty; subst this; simp at hi
  | some a =>
    have key : ∀ j u, j < 2 → (cellsW xs[i])[j]? = some u → W.cell? (a.add (i * 2 + j)) = some u := fun j u hj hu => h.at' a rfl _ _ ((flat_at xs i j hi hj).trans hu)
    refine ⟨a, rfl, key 0 _ (by omega) rfl, ?_⟩
    rw [← add_next _ _ 1 (by omega)]; exact key 1 _ (by omega) rfl
theorem Ls.head (h : Ls W A c xs) (k : Nat) : Ls W A c (xs.take k) := by
  refine ⟨by rw [List.length_take]; have := h.cap; omega, h.room, h.nil, fun a ha j u hj => h.at' a ha j u ?_⟩
  have hj1 := (List.getElem?_eq_some_iff.1 hj).1
  have e : flat xs = flat (xs.take k) ++ flat (xs.drop k) := by rw [← flat_append, List.take_append_drop]
  rw [e, List.getElem?_append_left hj1]
  exact hj
theorem add_add (a : Addr) (i j : Nat) (hi : 0 < i) : (⟨a.block, a.off + i, none⟩ : Addr).add j = a.add (i + j) := by
  unfold Addr.add
  rw [if_neg (by omega : ¬ i + j = 0)]
  split
  · rename_i h; subst h; simp
  · simp; omega
theorem Ls.tail {a : Addr} (h : Ls W (some a) c xs) {k : Nat} (h0 : 0 < k) (hk : k ≤ xs.length) : Ls W (some ⟨a.block, a.off + k * 2, none⟩) (c - k) (xs.drop k) := by
  refine ⟨by rw [List.length_drop]; have := h.cap; omega, Nat.le_trans (Nat.sub_le _ _) h.room, by simp, fun b hb j u hj => ?_⟩
  obtain rfl : (⟨a.block, a.off + k * 2, none⟩ : Addr) = b := by simpa using hb
  rw [add_add a (k * 2) j (by omega)]
  refine h.at' a rfl _ _ ?_
  have e : flat xs = flat (xs.take k) ++ flat (xs.drop k) := by rw [← flat_append, List.take_append_drop]
  rw [e, List.getElem?_append_right (by rw [flat_length, List.length_take]; omega), flat_length, List.length_take]
  rw [show k * 2 + j - min k xs.length * 2 = j by rw [Nat.min_eq_left hk]; omega]
  exact hj
theorem Ls.none_left (a : Addr) (hc : c ≤ maxLen) : Ls W (some a) c [] := ⟨Nat.zero_le _, hc, by simp, fun _ _ j u hj => by simp [flat] at hj⟩
/-- one of one's own -/
abbrev Row (W : World) (K : Nat) (v : Value) (xs : List Ed) : Prop := W.ownsRow K 47 2 v xs.length (flat xs)
theorem Row.ls {v : Value} (h : Row W K v xs) : ∃ A c, v = .slice A xs.length c ∧ Ls W A c xs := by
  rcases h.2 with ⟨rfl, h0⟩ | ⟨g, cap, cur, rfl, hb, hg, h1, h2, h3, h4⟩
  · have := List.length_eq_zero_iff.1 h0
    subst this
    exact ⟨none, 0, rfl, Ls.nils _⟩
  · refine ⟨_, cap, rfl, by omega, h2, by simp, fun a ha j u hj => ?_⟩
    obtain rfl : (⟨g, 0, none⟩ : Addr) = a := by simpa using ha
    exact h.cells (g := g) rfl j u hj
theorem Ls.src (h : Ls W A c ys) : Src Tryz.prog 2 35 (.slice A ys.length c) ys.length (flat ys) W := by
  cases A with
  | none =>
    have := h.empty; subst this
    exact Src.ofNil W Tryz.underlying35 c
  | some a => exact Src.ofSlice W Tryz.underlying35 a ys.length c (flat ys) (flat_length ys) (h.at' a rfl) (flat_one ys)
/-- what is put behind a row of one's own -/
theorem Row.app {v : Value} (h : Row W K v xs) (hs : Ls W A c ys) (hl : xs.length + ys.length ≤ 1000000) (hK : K ≤ W.heap.size) (ty : TypeId) :
    ∃ v' W', (Builtin.append_ #[35, 35] ty #[v, .slice A ys.length c]).run Tryz.prog W = .ok v' W' ∧ Row W' K v' (xs ++ ys) ∧ W.grownBy W' v.ownBlock ∧ (v'.ownBlock = v.ownBlock ∨ v'.ownBlock = some W.heap.size) := by
  obtain ⟨i0, hi, hz0, hz1, hz2⟩ := info_parts infoE
  cases A with
  | none =>
    have := hs.empty; subst this
    have hc := hs.nil rfl
    subst hc
    obtain ⟨A', c', rfl, hls⟩ := h.ls
    refine ⟨_, W, run_append_nothing (P := Tryz.prog) W 35 35 ty 47 i0 Tryz.underlying35 hi A' xs.length c' hls.cap _ (by rw [hz1]; exact hs.src), by rw [List.append_nil]; exact h, ⟨rfl, rfl, rfl, Nat.le_refl _, fun _ _ _ => rfl⟩, .inl rfl⟩
  | some a =>
    obtain ⟨v', W', h1, h2, h3, -, h5⟩ := run_append_own_at (P := Tryz.prog) W K 35 ty 47 i0 _ 2 16 Tryz.underlying35 hi hz0 hz1 hz2 rfl (by decide) v xs.length (flat xs) h a ys.length c (flat ys) (flat_length ys) (hs.at' a rfl) (flat_one ys) (by unfold maxLen; omega) (by omega) hK
    refine ⟨v', W', h1, ?_, h3, h5⟩
    unfold Row
    rw [flat_append, List.length_append]
    exact h2
theorem Row.app_below {v : Value} (h : Row W K v xs) (hg : W.grownBy W' v.ownBlock) (hK : K ≤ W.heap.size) : Below K W W' :=
  OnlyS.below (S := fun k => v.ownBlock = some k) ((OnlyS.refl _ W).grown hg fun _ hk => .inl hk) (fun k hk => (h.lt k hk).1) hK
theorem box_ls (W : World) (x : Ed) : Ls (W.alloc (.cells #[.int .i64 x.1, .int .i64 x.2] 47)) (some ⟨W.heap.size, 0, none⟩) 1 [x] := by
  refine ⟨Nat.le_refl _, by decide, by simp, fun a ha j u hj => ?_⟩
  obtain rfl : (⟨W.heap.size, 0, none⟩ : Addr) = a := by simpa using ha
  rw [add_at]
  match j, hj with
  | 0, hj => simp [flat, cellsW] at hj; subst hj; simp [go_sem]
  | 1, hj => simp [flat, cellsW] at hj; subst hj; simp [go_sem]
  | j + 2, hj => simp [flat, cellsW] at hj
end
theorem set_blk {W : World} {g o : Nat} {cur : Array Value} {t : TypeId} {fr : Nat × Nat} (v : Value) (h : W.heap[g]? = some (.cells cur t fr)) : (W.setCell ⟨g, o, none⟩ v).heap[g]? = some (.cells (cur.setIfInBounds o v) t fr) := by
  obtain ⟨hlt, hk⟩ := Array.getElem?_eq_some_iff.1 h
  show (W.heap.modify g _)[g]? = _
  rw [Array.getElem?_eq_getElem (by rw [Array.size_modify]; exact hlt), Array.getElem_modify_self, hk]
  rfl
theorem sets_blk {t : TypeId} {fr : Nat × Nat} {g : Nat} : ∀ (vs : List Value) (W : World) (o : Nat) (cur : Array Value), W.heap[g]? = some (.cells cur t fr) →
    ∃ cur', (W.setCells g o vs).heap[g]? = some (.cells cur' t fr) ∧ cur'.size = cur.size ∧ (∀ k, k < o → cur'[k]? = cur[k]?) ∧ OnlyS (· = g) W (W.setCells g o vs)
  | [], W, o, cur, h => ⟨cur, h, rfl, fun _ _ => rfl, OnlyS.refl _ _⟩
  | v :: vs, W, o, cur, h => by
    obtain ⟨cur', h1, h2, h3, h4⟩ := sets_blk vs (W.setCell ⟨g, o, none⟩ v) (o + 1) _ (set_blk (o := o) v h)
    refine ⟨cur', h1, by simpa using h2, fun k hk => ?_, (OnlyS.set g o W v).trans h4⟩
    rw [h3 k (by omega), Array.getElem?_setIfInBounds_ne (by omega)]
/-- one is stored, cell by cell -/
abbrev put2 (W : World) (g o : Nat) (x : Ed) : World := (W.setCell ⟨g, o, none⟩ (.int .i64 x.1)).setCell ⟨g, o + 1, none⟩ (.int .i64 x.2)
theorem flat_set (zs : List Ed) (i : Nat) (x : Ed) (h : i < zs.length) : flat (zs.set i x) = ((flat zs).set (i * 2) (.int .i64 x.1)).set (i * 2 + 1) (.int .i64 x.2) := by
  induction zs generalizing i with
  | nil => simp at h
  | cons z zs ih =>
    have e : ∀ (y : Ed) (ys : List Ed), flat (y :: ys) = .int .i64 y.1 :: .int .i64 y.2 :: flat ys := fun y ys => by simp [flat, cellsW]
    cases i with
    | zero => simp [e]
    | succ i =>
      have h' : i < zs.length := by simpa using h
      rw [List.set_cons_succ, e, e, ih i h', show (i + 1) * 2 = i * 2 + 1 + 1 by omega]
      simp
section
variable {W W' : World} {g n cap K : Nat} {zs : List Ed}
theorem Row.keep {v : Value} (h : Row W K v zs) (hk : ∀ g, v.ownBlock = some g → W'.heap[g]? = W.heap[g]?) : Row W' K v zs := row_keep h hk
theorem Row.put (h : Row W K (.slice (some ⟨g, 0, none⟩) n cap) zs) (x : Ed) {i : Nat} (hi : i < zs.length) : Row (put2 W g (i * 2) x) K (.slice (some ⟨g, 0, none⟩) n cap) (zs.set i x) := by
  rcases h.2 with ⟨h0, _⟩ | ⟨g', cap', cur, e, hb, hg, h1, h2, h3, h4⟩
  · cases h0
  · cases e
    refine ⟨flat_length _, .inr ⟨g, cap, _, by simp, hb, set_blk _ (set_blk _ hg), by simpa using h1, h2, by simpa using h3, ?_⟩⟩
    rw [flat_set _ _ _ hi, ← h4]
    simp [List.take_set]
/-- a shorter slice of the same row, whatever stands behind -/
theorem Row.cut {i : Nat} (h : Row W K (.slice (some ⟨g, 0, none⟩) n cap) zs) (hi : i ≤ zs.length)
    (hg' : ∀ cur, W.heap[g]? = some (.cells cur 47 (0, 0)) → ∃ cur', W'.heap[g]? = some (.cells cur' 47 (0, 0)) ∧ cur'.size = cur.size ∧ ∀ k, k < i * 2 → cur'[k]? = cur[k]?) :
    Row W' K (.slice (some ⟨g, 0, none⟩) i cap) (zs.take i) := by
  rcases h.2 with ⟨h0, _⟩ | ⟨g', cap', cur, e, hb, hg, h1, h2, h3, h4⟩
  · cases h0
  · cases e
    obtain ⟨cur', k1, k2, k3⟩ := hg' cur hg
    have hl : (zs.take i).length = i := by rw [List.length_take]; omega
    refine ⟨flat_length _, .inr ⟨g, cap, cur', by rw [hl], hb, k1, by omega, h2, by omega, ?_⟩⟩
    rw [hl]
    have e1 : flat (zs.take i) = (flat zs).take (i * 2) := by
      have e2 : flat zs = flat (zs.take i) ++ flat (zs.drop i) := by rw [← flat_append, List.take_append_drop]
      rw [e2, List.take_left' (by rw [flat_length, hl])]
    rw [e1, ← h4, List.take_take]
    apply List.ext_getElem?
    intro k
    rw [List.getElem?_take, List.getElem?_take]
    by_cases hk : k < i * 2
    · rw [if_pos hk, if_pos (by omega), Array.getElem?_toList, Array.getElem?_toList, k3 k hk]
    · rw [if_neg hk, if_neg (by omega)]
theorem Row.blk (h : Row W K (.slice (some ⟨g, 0, none⟩) n cap) zs) : ∃ cur, W.heap[g]? = some (.cells cur 47 (0, 0)) ∧ zs.length ≤ cap ∧ cap ≤ maxLen := by
  rcases h.2 with ⟨h0, _⟩ | ⟨g', cap', cur, e, _, hb, h1, h2, _⟩
  · cases h0
  · cases e; exact ⟨cur, hb, h1, h2⟩
theorem Row.free {k : Nat} (h : Row W K (.slice (some ⟨g, 0, none⟩) n cap) zs) : W.frozen? ⟨g, k, none⟩ = false := by
  obtain ⟨cur, hb, -⟩ := h.blk
  exact frozen_of_row _ _ _ _ _ hb
theorem Row.there {k : Nat} (h : Row W K (.slice (some ⟨g, 0, none⟩) n cap) zs) (hk : k < zs.length * 2) : (W.cell? ⟨g, k, none⟩).isSome = true := by
  have h1 := h.cells (g := g) rfl k _ (List.getElem?_eq_getElem (by rw [flat_length]; exact hk))
  rw [add_at] at h1
  rw [h1]; rfl
end
/-- as many zeros -/
def zz (n : Nat) : List Value := (Builtin.zeroCells (Value.agg #[.int .i64 0, .int .i64 0]).cells n).toList
theorem zz_length (n : Nat) : (zz n).length = n * 2 := by simp [zz, size_zeroCells, Value.cells]
theorem zz_one (n : Nat) : ∀ u ∈ zz n, u.oneCell' = true := by
  intro u hu
  obtain ⟨k, hk, rfl⟩ := List.getElem_of_mem hu
  simp only [zz, Builtin.zeroCells, Value.cells, Array.getElem_toList]
  have h2 : k % 2 = 0 ∨ k % 2 = 1 := by omega
  rcases h2 with e | e <;> simp [e] <;> rfl
theorem run_clear_w (w : World) (ty : TypeId) (b o n c : Nat) (hn : 0 < n) (hc : ∀ j, j < n * 2 → (w.cell? ⟨b, o + j, none⟩).isSome = true) (hf : ∀ j, j < n * 2 → w.frozen? ⟨b, o + j, none⟩ = false) :
    (Builtin.clear_ #[35] ty #[.slice (some ⟨b, o, none⟩) n c]).run Tryz.prog w = .ok (.tuple #[]) (w.setCells b o (zz n)) := by
  have hst := run_storeCells_cells (P := Tryz.prog) b o (zz n) 0 w (by rw [zz_length]; simpa using hc) (by rw [zz_length]; simpa using hf) (zz_one n)
  simp only [Nat.add_zero] at hst
  obtain ⟨m, rfl⟩ : ∃ m, n = m + 1 := ⟨n - 1, by omega⟩
  unfold zz at hst
  simp [Builtin.clear_, run_underlying Tryz.underlying35, Tryz.zeroValue47, hst, zz]
@[go_sem] theorem eqlE_none (w : World) (n c : Nat) : (binOp .eql 35 (.slice none n c) (.slice none 0 0)).run Tryz.prog w = .ok (.bool true) w := Lib.run_eql_slice_nil w 35 47 none n c 0 0 Tryz.underlying35
@[go_sem] theorem eqlE_some (w : World) (a : Addr) (n c : Nat) : (binOp .eql 35 (.slice (some a) n c) (.slice none 0 0)).run Tryz.prog w = .ok (.bool false) w := Lib.run_eql_slice_nil w 35 47 (some a) n c 0 0 Tryz.underlying35
/-- a list is handed out, in memory of its own -/
def Lists (W : World) (xs : List Ed) (e : Ending) (w' : World) : Prop := ∃ A c, e = .returned (.slice A xs.length c) ∧ Ls w' A c xs ∧ Below W.heap.size W w'
section
variable {W W' : World} {A : Option Addr} {c K : Nat} {xs : List Ed}
theorem clone_any (hr : Ls W A c xs) (hl : xs.length ≤ 1000000) : Calls Tryz.prog 39 #[.slice A xs.length c] W fun e w' => ∃ v, e = .returned v ∧ Row w' W.heap.size v xs ∧ Below W.heap.size W w' := by
  cases A with
  | none =>
    have := hr.empty; subst this
    have hc := hr.nil rfl
    subst hc
    clear hr
    go_enter Tryz.func39, Tryz.ntmps39
    go_wp2
    go_ret
    exact ⟨_, rfl, World.ownsRow_nil _ _ _ _, Below.refl _ _⟩
  | some a =>
    have h0 : Row (W.alloc (.cells #[] 47)) W.heap.size (.slice (some ⟨W.heap.size, 0, none⟩) 0 0) [] :=
      ⟨rfl, .inr ⟨W.heap.size, 0, #[], rfl, Nat.le_refl _, heap_alloc_new W _, Nat.le_refl _, Nat.zero_le _, rfl, rfl⟩⟩
    have hx := box_below W (.cells #[] 47)
    obtain ⟨v', w', hrun, hrow, hg, -⟩ := h0.app (hr.below hx) (by simp; omega) hx.size 35
    have HR := Lib.hid hrow
    have HB := Lib.hid (hx.trans (h0.app_below hg hx.size))
    simp only [List.nil_append] at HR
    generalize xs.length = n at *
    clear hr h0 hx hrow hg
    go_enter Tryz.func39, Tryz.ntmps39
    go_wp2_with (at_builtin; refine Lib.wpList_append_run _ rfl _ _ _ _ rfl _ _ rfl rfl _ _ hrun ?_)
    go_ret
    exact ⟨_, rfl, HR.out, HB.out⟩
end
section
variable {W W' : World} {A1 A2 : Option Addr} {c1 c2 : Nat} {xs : List Ed}
set_option maxHeartbeats 1000000 in
theorem same_any (h1 : Ls W A1 c1 xs) (h2 : Ls W A2 c2 xs) (hl : xs.length ≤ 1000000) : Calls Tryz.prog 10 #[.slice A1 xs.length c1, .slice A2 xs.length c2] W fun e w' => e = .returned (.bool true) ∧ Below W.heap.size W w' := by
  have H1 := Lib.hid h1
  have H2 := Lib.hid h2
  clear h1 h2
  obtain ⟨n, hn⟩ : ∃ n, xs.length = n := ⟨_, rfl⟩
  rw [hn] at hl ⊢
  have HN := Lib.hid hn
  clear hn
  go_enter Tryz.func10, Tryz.ntmps10
  go_wp2
  go_loopw [13] (fun t wr => ∃ k : Nat, k ≤ n ∧ t = .int .i64 k ∧ ∃ j, wr = W.drewN j) (fun t _ => n - (intOf t).toNat)
  case atStart => exact ⟨0, by omega, rfl, 0, rfl⟩
  case round =>
    obtain ⟨k, hk, rfl, j, rfl⟩ := hrel
    by_cases hlt : k < n
    · have hlt' : k < xs.length := by rw [HN.out]; exact hlt
      obtain ⟨g1, rfl, e1⟩ := (H1.out.drewN j).here hlt'
      obtain ⟨g2, rfl, e2⟩ := (H2.out.drewN j).here hlt'
      generalize xs[k] = x at e1 e2
      obtain ⟨t, m⟩ := x
      obtain ⟨a0, a1⟩ := e1
      obtain ⟨b0, b1⟩ := e2
      simp only at a0 a1 b0 b1
      generalize hX : W.drewN j = X at a0 a1 b0 b1 ⊢
      have HX := Lib.hid hX
      clear hX hlt'
      go_wp2
      go_quiet (fail)
      have HE := Lib.hid (show X.drewN nq = W.drewN (j + nq) by rw [← HX.out]; simp [World.drewN]; omega)
      generalize X.drewN nq = Y at HE ⊢
      clear a0 a1 b0 b1
      go_wp2
      go_roundw
      case rel => exact ⟨k + 1, by omega, by go_num, j + nq, HE.out⟩
      case measure => simp [intOf]; omega
    · obtain rfl : k = n := by omega
      go_wp2
      go_ret
      exact ⟨rfl, drew_below W j⟩
end
end Go.Proofs.YtjhkejkdnjogiaaGreatDoor.Es
