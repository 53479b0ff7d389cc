/- Locks in memory: six cells each; a list that is read; a row of one's own, and what is put behind it. -/
import Derived.Test.YthjlapcccmbhbaaR1
import Derived.Test.YthjlapcccmbhbaaPb
import Derived.Test.YthjlapcccmbhbaaMo
import Derived.Maps.AppendAt
import Derived.Deep.Upon
import Derived.Lib.AppendZeros
namespace Go.Proofs.Ythjlapcccmbhbaa.Lk
open Go Go.RowKit

/-- a lock: where, which mode -/
abbrev Hd := Pa.Pt × Int
def cellsW (x : Hd) : List Value := [.int .i64 x.1.a, .int .i64 x.1.b, .int .i64 x.1.c, .int .i64 x.1.d, .int .i64 x.1.e, .int .i64 x.2]
abbrev wv (x : Hd) : Value := .agg #[.int .i64 x.1.a, .int .i64 x.1.b, .int .i64 x.1.c, .int .i64 x.1.d, .int .i64 x.1.e, .int .i64 x.2]
def flat (xs : List Hd) : List Value := xs.flatMap cellsW
theorem flat_length (xs : List Hd) : (flat xs).length = xs.length * 6 := by
  induction xs with
  | nil => rfl
  | cons x xs ih => simp only [flat, List.flatMap_cons, List.length_append, List.length_cons] at ih ⊢; rw [ih]; simp [cellsW]; omega
theorem flat_append (xs ys : List Hd) : flat (xs ++ ys) = flat xs ++ flat ys := by simp [flat]
theorem flat_at : ∀ (xs : List Hd) (i j : Nat) (h : i < xs.length), j < 6 → (flat xs)[i * 6 + j]? = (cellsW xs[i])[j]?
  | x :: xs, 0, j, h, hj => by
    simp only [flat, List.flatMap_cons, Nat.zero_mul, Nat.zero_add, List.getElem_cons_zero]
    rw [List.getElem?_append_left (by simp [cellsW]; exact hj)]
  | x :: xs, i + 1, j, h, hj => by
    simp only [flat, List.flatMap_cons, List.getElem_cons_succ]
    rw [List.getElem?_append_right (by simp [cellsW]; omega)]
    have e : (i + 1) * 6 + j - (cellsW x).length = i * 6 + j := by simp [cellsW]; omega
    rw [e]
    exact flat_at xs i j (by simpa using h) hj
theorem flat_one (xs : List Hd) : ∀ u ∈ flat xs, u.oneCell' = true := by
  intro u hu
  obtain ⟨x, -, hx⟩ := List.mem_flatMap.1 hu
  simp only [cellsW, List.mem_cons, List.not_mem_nil, or_false] at hx
  rcases hx with rfl | rfl | rfl | rfl | rfl | rfl <;> rfl
theorem block_add' (a : Addr) (n : Nat) : (a.add n).block = a.block := by unfold Addr.add; split <;> rfl
theorem add_next (a : Addr) (k j : Nat) (hj : 0 < j) : a.add (k + j) = ⟨(a.add k).block, (a.add k).off + j, none⟩ := by
  unfold Addr.add
  rw [if_neg (by omega)]
  split
  · rename_i h; subst h; simp
  · simp; omega
theorem info28 : (Try.prog.info? 27).map (fun i => (i.zero, i.size, i.bytes)) = some (some (.agg #[.int .i64 0, .int .i64 0, .int .i64 0, .int .i64 0, .int .i64 0, .int .i64 0]), 6, 48) := by kernel_rfl

/-- a list that is read -/
structure Ls (W : World) (A : Option Addr) (c : Nat) (xs : List Hd) : Prop where
  cap : xs.length ≤ c
  room : c ≤ maxLen
  nil : A = none → c = 0
  at' : ∀ a, A = some a → ∀ j u, (flat xs)[j]? = some u → W.cell? (a.add j) = some u
/-- one of them, cell by cell -/
structure Here (W : World) (a : Addr) (i : Nat) (x : Hd) : Prop where
  c0 : W.cell? (a.add (i * 6)) = some (.int .i64 x.1.a)
  c1 : W.cell? ⟨(a.add (i * 6)).block, (a.add (i * 6)).off + 1, none⟩ = some (.int .i64 x.1.b)
  c2 : W.cell? ⟨(a.add (i * 6)).block, (a.add (i * 6)).off + 2, none⟩ = some (.int .i64 x.1.c)
  c3 : W.cell? ⟨(a.add (i * 6)).block, (a.add (i * 6)).off + 3, none⟩ = some (.int .i64 x.1.d)
  c4 : W.cell? ⟨(a.add (i * 6)).block, (a.add (i * 6)).off + 4, none⟩ = some (.int .i64 x.1.e)
  c5 : W.cell? ⟨(a.add (i * 6)).block, (a.add (i * 6)).off + 5, none⟩ = some (.int .i64 x.2)
section
variable {W W' : World} {A : Option Addr} {c K : Nat} {xs ys : List Hd}
theorem Ls.nils (W : World) : Ls W none 0 [] := ⟨Nat.le_refl _, Nat.zero_le _, fun _ => rfl, by simp⟩
theorem Ls.empty (h : Ls W none c xs) : xs = [] := by
  have h1 := h.cap
  have h2 := h.nil rfl
  exact List.length_eq_zero_iff.1 (by omega)
theorem Ls.keep (h : Ls W A c xs) (hk : ∀ a, A = some a → W'.heap[a.block]? = W.heap[a.block]?) : Ls W' A c xs :=
  ⟨h.cap, h.room, h.nil, fun a ha j u hj => (World.cell?_of_block (w := W) (a := a.add j) (by rw [block_add']; exact hk a ha)).trans (h.at' a ha j u hj)⟩
theorem Ls.below (h : Ls W A c xs) (hb : Below W.heap.size W W') : Ls W' A c xs :=
  ⟨h.cap, h.room, h.nil, fun a ha j u hj => by
    have := h.at' a ha j u hj
    rw [World.cell?_of_block (w := W) (a := a.add j) (hb.block _ (cell_lt this))]
    exact this⟩
theorem Ls.only {T : Nat → Prop} (h : Ls W A c xs) (ho : OnlyS T W W') (hT : ∀ a, A = some a → ¬ T a.block) : Ls W' A c xs :=
  ⟨h.cap, h.room, h.nil, fun a ha j u hj => by
    have := h.at' a ha j u hj
    rw [World.cell?_of_block (w := W) (a := a.add j) (ho.block _ (cell_lt this) (by rw [block_add']; exact hT a ha))]
    exact this⟩
theorem Ls.drewN (h : Ls W A c xs) (k : Nat) : Ls (W.drewN k) A c xs := ⟨h.cap, h.room, h.nil, h.at'⟩
theorem Ls.here (h : Ls W A c xs) {i : Nat} (hi : i < xs.length) : ∃ a, A = some a ∧ Here W a i xs[i] := by
  cases A with
  | none => have := h.empty; subst this; simp at hi
  | some a =>
    have key : ∀ j u, j < 6 → (cellsW xs[i])[j]? = some u → W.cell? (a.add (i * 6 + j)) = some u := fun j u hj hu => h.at' a rfl _ _ ((flat_at xs i j hi hj).trans hu)
    refine ⟨a, rfl, key 0 _ (by omega) rfl, ?_, ?_, ?_, ?_, ?_⟩
    · rw [← add_next _ _ 1 (by omega)]; exact key 1 _ (by omega) rfl
    · rw [← add_next _ _ 2 (by omega)]; exact key 2 _ (by omega) rfl
    · rw [← add_next _ _ 3 (by omega)]; exact key 3 _ (by omega) rfl
    · rw [← add_next _ _ 4 (by omega)]; exact key 4 _ (by omega) rfl
    · rw [← add_next _ _ 5 (by omega)]; exact key 5 _ (by omega) rfl
theorem Ls.head (h : Ls W A c xs) (k : Nat) : Ls W A c (xs.take k) := by
  refine ⟨by rw [List.length_take]; have := h.cap; omega, h.room, h.nil, fun a ha j u hj => h.at' a ha j u ?_⟩
  have hj1 := (List.getElem?_eq_some_iff.1 hj).1
  have e : flat xs = flat (xs.take k) ++ flat (xs.drop k) := by rw [← flat_append, List.take_append_drop]
  rw [e, List.getElem?_append_left hj1]
  exact hj
theorem add_add (a : Addr) (i j : Nat) (hi : 0 < i) : (⟨a.block, a.off + i, none⟩ : Addr).add j = a.add (i + j) := by
  unfold Addr.add
  rw [if_neg (by omega : ¬ i + j = 0)]
  split
  · rename_i h; subst h; simp
  · simp; omega
theorem Ls.tail {a : Addr} (h : Ls W (some a) c xs) {k : Nat} (h0 : 0 < k) (hk : k ≤ xs.length) : Ls W (some ⟨a.block, a.off + k * 6, none⟩) (c - k) (xs.drop k) := by
  refine ⟨by rw [List.length_drop]; have := h.cap; omega, Nat.le_trans (Nat.sub_le _ _) h.room, by simp, fun b hb j u hj => ?_⟩
  obtain rfl : (⟨a.block, a.off + k * 6, none⟩ : Addr) = b := by simpa using hb
  rw [add_add a (k * 6) j (by omega)]
  refine h.at' a rfl _ _ ?_
  have e : flat xs = flat (xs.take k) ++ flat (xs.drop k) := by rw [← flat_append, List.take_append_drop]
  rw [e, List.getElem?_append_right (by rw [flat_length, List.length_take]; omega), flat_length, List.length_take]
  rw [show k * 6 + j - min k xs.length * 6 = j by rw [Nat.min_eq_left hk]; omega]
  exact hj
theorem Ls.none_left (a : Addr) (hc : c ≤ maxLen) : Ls W (some a) c [] := ⟨Nat.zero_le _, hc, by simp, fun _ _ j u hj => by simp [flat] at hj⟩
/-- one of one's own -/
abbrev Row (W : World) (K : Nat) (v : Value) (xs : List Hd) : Prop := W.ownsRow K 27 6 v xs.length (flat xs)
theorem Row.ls {v : Value} (h : Row W K v xs) : ∃ A c, v = .slice A xs.length c ∧ Ls W A c xs := by
  rcases h.2 with ⟨rfl, h0⟩ | ⟨g, cap, cur, rfl, hb, hg, h1, h2, h3, h4⟩
  · have := List.length_eq_zero_iff.1 h0
    subst this
    exact ⟨none, 0, rfl, Ls.nils _⟩
  · refine ⟨_, cap, rfl, by omega, h2, by simp, fun a ha j u hj => ?_⟩
    obtain rfl : (⟨g, 0, none⟩ : Addr) = a := by simpa using ha
    exact h.cells (g := g) rfl j u hj
theorem Ls.src (h : Ls W A c ys) : Src Try.prog 6 22 (.slice A ys.length c) ys.length (flat ys) W := by
  cases A with
  | none =>
    have := h.empty; subst this
    exact Src.ofNil W Try.underlying22 c
  | some a => exact Src.ofSlice W Try.underlying22 a ys.length c (flat ys) (flat_length ys) (h.at' a rfl) (flat_one ys)
/-- what is put behind a row of one's own -/
theorem Row.app {v : Value} (h : Row W K v xs) (hs : Ls W A c ys) (hl : xs.length + ys.length ≤ 1000) (hK : K ≤ W.heap.size) (ty : TypeId) :
    ∃ v' W', (Builtin.append_ #[22, 22] ty #[v, .slice A ys.length c]).run Try.prog W = .ok v' W' ∧ Row W' K v' (xs ++ ys) ∧ W.grownBy W' v.ownBlock ∧ (v'.ownBlock = v.ownBlock ∨ v'.ownBlock = some W.heap.size) := by
  obtain ⟨i0, hi, hz0, hz1, hz2⟩ := info_parts info28
  cases A with
  | none =>
    have := hs.empty; subst this
    have hc := hs.nil rfl
    subst hc
    obtain ⟨A', c', rfl, hls⟩ := h.ls
    refine ⟨_, W, run_append_nothing (P := Try.prog) W 22 22 ty 27 i0 Try.underlying22 hi A' xs.length c' hls.cap _ (by rw [hz1]; exact hs.src), by rw [List.append_nil]; exact h, ⟨rfl, rfl, rfl, Nat.le_refl _, fun _ _ _ => rfl⟩, .inl rfl⟩
  | some a =>
    obtain ⟨v', W', h1, h2, h3, -, h5⟩ := run_append_own_at (P := Try.prog) W K 22 ty 27 i0 _ 6 48 Try.underlying22 hi hz0 hz1 hz2 rfl (by decide) v xs.length (flat xs) h a ys.length c (flat ys) (flat_length ys) (hs.at' a rfl) (flat_one ys) (by unfold maxLen; omega) (by omega) hK
    refine ⟨v', W', h1, ?_, h3, h5⟩
    unfold Row
    rw [flat_append, List.length_append]
    exact h2
theorem Row.app_below {v : Value} (h : Row W K v xs) (hg : W.grownBy W' v.ownBlock) (hK : K ≤ W.heap.size) : Below K W W' :=
  OnlyS.below (S := fun k => v.ownBlock = some k) ((OnlyS.refl _ W).grown hg fun _ hk => .inl hk) (fun k hk => (h.lt k hk).1) hK
theorem box_ls (W : World) (x : Hd) : Ls (W.alloc (.cells #[.int .i64 x.1.a, .int .i64 x.1.b, .int .i64 x.1.c, .int .i64 x.1.d, .int .i64 x.1.e, .int .i64 x.2] 27)) (some ⟨W.heap.size, 0, none⟩) 1 [x] := by
  refine ⟨Nat.le_refl _, by decide, by simp, fun a ha j u hj => ?_⟩
  obtain rfl : (⟨W.heap.size, 0, none⟩ : Addr) = a := by simpa using ha
  rw [add_at]
  match j, hj with
  | 0, hj => simp [flat, cellsW] at hj; subst hj; simp [go_sem]
  | 1, hj => simp [flat, cellsW] at hj; subst hj; simp [go_sem]
  | 2, hj => simp [flat, cellsW] at hj; subst hj; simp [go_sem]
  | 3, hj => simp [flat, cellsW] at hj; subst hj; simp [go_sem]
  | 4, hj => simp [flat, cellsW] at hj; subst hj; simp [go_sem]
  | 5, hj => simp [flat, cellsW] at hj; subst hj; simp [go_sem]
  | j + 6, hj => simp [flat, cellsW] at hj
end
end Go.Proofs.Ythjlapcccmbhbaa.Lk
