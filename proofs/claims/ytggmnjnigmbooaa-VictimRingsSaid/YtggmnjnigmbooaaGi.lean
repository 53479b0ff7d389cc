/- Numbers in memory (int and int64): a list that is read; a row of one's own, what is put behind it. -/
import Derived.Test.YtggmnjnigmbooaaGa
namespace Go.Proofs.Ytggmnjnigmbooaa.Is
open Go Go.RowKit Go.Shelf
set_option maxRecDepth 100000

abbrev enc : Int → Value := Value.int .i64
def flat (xs : List Int) : List Value := xs.map enc
theorem flat_length (xs : List Int) : (flat xs).length = xs.length * 1 := by simp [flat]
theorem flat_append (xs ys : List Int) : flat (xs ++ ys) = flat xs ++ flat ys := by simp [flat]
theorem flat_at (xs : List Int) (i : Nat) (h : i < xs.length) : (flat xs)[i]? = some (enc xs[i]) := by simp [flat, h]
theorem flat_one (xs : List Int) : ∀ u ∈ flat xs, u.oneCell' = true := by
  intro u hu
  obtain ⟨x, -, rfl⟩ := List.mem_map.1 hu
  rfl
theorem info3 : (Try.prog.info? 3).map (fun i => (i.zero, i.size, i.bytes)) = some (some (.int .i64 0), 1, 8) := by kernel_rfl
/-- a list that is read -/
structure Ls (W : World) (A : Option Addr) (c : Nat) (xs : List Int) : Prop where
  cap : xs.length ≤ c
  room : c ≤ maxLen
  nil : A = none → c = 0
  at' : ∀ a, A = some a → ∀ j u, (flat xs)[j]? = some u → W.cell? (a.add j) = some u
section
variable {W W' : World} {A : Option Addr} {c K : Nat} {xs ys : List Int}
theorem Ls.empty (h : Ls W none c xs) : xs = [] := by
  have h1 := h.cap
  have h2 := h.nil rfl
  exact List.length_eq_zero_iff.1 (by omega)
theorem Ls.below (h : Ls W A c xs) (hb : Below W.heap.size W W') : Ls W' A c xs :=
  ⟨h.cap, h.room, h.nil, fun a ha j u hj => by
    have := h.at' a ha j u hj
    rw [World.cell?_of_block (w := W) (a := a.add j) (hb.block _ (cell_lt this))]
    exact this⟩
theorem Ls.drewN (h : Ls W A c xs) (k : Nat) : Ls (W.drewN k) A c xs := ⟨h.cap, h.room, h.nil, h.at'⟩
theorem Ls.here (h : Ls W A c xs) {i : Nat} (hi : i < xs.length) : ∃ a, A = some a ∧ W.cell? (a.add i) = some (.int .i64 xs[i]) := by
  cases A with
  | none => have := h.empty; subst this; simp at hi
  | some a => exact ⟨a, rfl, h.at' a rfl _ _ (flat_at xs i hi)⟩
/-- one of one's own -/
abbrev Row (W : World) (K : Nat) (v : Value) (xs : List Int) : Prop := W.ownsRow K 3 1 v xs.length (flat xs)
theorem Row.ls {v : Value} (h : Row W K v xs) : ∃ A c, v = .slice A xs.length c ∧ Ls W A c xs := by
  rcases h.2 with ⟨rfl, h0⟩ | ⟨g, cap, cur, rfl, hb, hg, h1, h2, h3, h4⟩
  · have := List.length_eq_zero_iff.1 h0
    subst this
    exact ⟨none, 0, rfl, Nat.le_refl _, Nat.zero_le _, fun _ => rfl, by simp⟩
  · refine ⟨_, cap, rfl, by omega, h2, by simp, fun a ha j u hj => ?_⟩
    obtain rfl : (⟨g, 0, none⟩ : Addr) = a := by simpa using ha
    exact h.cells (g := g) rfl j u hj
theorem Ls.src (h : Ls W A c ys) : Src Try.prog 1 23 (.slice A ys.length c) ys.length (flat ys) W := by
  cases A with
  | none =>
    have := h.empty; subst this
    exact Src.ofNil W Try.underlying23 c
  | some a => exact Src.ofSlice W Try.underlying23 a ys.length c (flat ys) (flat_length ys) (h.at' a rfl) (flat_one ys)
/-- what is put behind a row of one's own -/
theorem Row.app {v : Value} (h : Row W K v xs) (hs : Ls W A c ys) (hl : xs.length + ys.length ≤ 1000000) (hK : K ≤ W.heap.size) (ty : TypeId) :
    ∃ v' W', (Builtin.append_ #[23, 23] ty #[v, .slice A ys.length c]).run Try.prog W = .ok v' W' ∧ Row W' K v' (xs ++ ys) ∧ W.grownBy W' v.ownBlock := by
  obtain ⟨i0, hi, hz0, hz1, hz2⟩ := info_parts info3
  cases A with
  | none =>
    have := hs.empty; subst this
    have hc := hs.nil rfl
    subst hc
    obtain ⟨A', c', rfl, hls⟩ := h.ls
    exact ⟨_, W, run_append_nothing (P := Try.prog) W 23 23 ty 3 i0 Try.underlying23 hi A' xs.length c' hls.cap _ (by rw [hz1]; exact hs.src), by rw [List.append_nil]; exact h, ⟨rfl, rfl, rfl, Nat.le_refl _, fun _ _ _ => rfl⟩⟩
  | some a =>
    obtain ⟨v', W', h1, h2, h3, -, -⟩ := run_append_own_at (P := Try.prog) W K 23 ty 3 i0 _ 1 8 Try.underlying23 hi hz0 hz1 hz2 rfl (by decide) v xs.length (flat xs) h a ys.length c (flat ys) (flat_length ys) (hs.at' a rfl) (flat_one ys) (by unfold maxLen; omega) (by omega) hK
    refine ⟨v', W', h1, ?_, h3⟩
    unfold Row
    rw [flat_append, List.length_append]
    exact h2
theorem Row.app_below {v : Value} (h : Row W K v xs) (hg : W.grownBy W' v.ownBlock) (hK : K ≤ W.heap.size) : Below K W W' :=
  OnlyS.below (S := fun k => v.ownBlock = some k) ((OnlyS.refl _ W).grown hg fun _ hk => .inl hk) (fun k hk => (h.lt k hk).1) hK
/-- two numbers in a block -/
theorem two_ls (W : World) (x y : Int) : Ls (W.alloc (.cells #[.int .i64 x, .int .i64 y] 3)) (some ⟨W.heap.size, 0, none⟩) 2 [x, y] := by
  refine ⟨Nat.le_refl _, by decide, by simp, fun a ha j u hj => ?_⟩
  obtain rfl : (⟨W.heap.size, 0, none⟩ : Addr) = a := by simpa using ha
  rw [add_at]
  match j, hj with
  | 0, hj => simp [flat] at hj; subst hj; simp [go_sem]
  | 1, hj => simp [flat] at hj; subst hj; simp [go_sem]
  | j + 2, hj => simp [flat] at hj
theorem box_ls (W : World) (x : Int) : Ls (W.alloc (.cells #[.int .i64 x] 3)) (some ⟨W.heap.size, 0, none⟩) 1 [x] := by
  refine ⟨Nat.le_refl _, by decide, by simp, fun a ha j u hj => ?_⟩
  obtain rfl : (⟨W.heap.size, 0, none⟩ : Addr) = a := by simpa using ha
  rw [add_at]
  match j, hj with
  | 0, hj => simp [flat] at hj; subst hj; simp [go_sem]
  | j + 1, hj => simp [flat] at hj
end
/-- a row of one's own, made since -/
structure Kp (W : World) (l : List Int) (v : Value) (w1 : World) : Prop where
  row : Row w1 W.heap.size v l
  bel : Below W.heap.size W w1
section
variable {W W' : World} {A : Option Addr} {c : Nat} {xs l : List Int} {v : Value}
theorem Kp.nil (W : World) : Kp W [] (.slice none 0 0) W := ⟨World.ownsRow_nil _ _ _ _, Below.refl _ _⟩
theorem Kp.below (h : Kp W l v W') {w2 : World} (hb : Below W'.heap.size W' w2) : Kp W l v w2 := ⟨row_below h.row hb, h.bel.trans (hb.mono h.bel.size)⟩
theorem Kp.join {n m q : Nat} {ys : List Int} (h : Kp W l v W') (hs : Ls W' A c ys) (hn : l.length = n) (hm : ys.length = m) (hq : n + m = q) (hl : q ≤ 1000000) (ty : TypeId) :
    ∃ A' c' w2, (Builtin.append_ #[23, 23] ty #[v, .slice A m c]).run Try.prog W' = .ok (.slice A' q c') w2 ∧ Kp W (l ++ ys) (.slice A' q c') w2 := by
  subst hn
  subst hm
  subst hq
  obtain ⟨v', w2, hrun, hrow, hg⟩ := h.row.app hs hl h.bel.size ty
  obtain ⟨A', c', rfl, -⟩ := hrow.ls
  rw [List.length_append] at hrun hrow
  exact ⟨A', c', w2, hrun, hrow, h.bel.trans (h.row.app_below hg h.bel.size)⟩
end
end Go.Proofs.Ytggmnjnigmbooaa.Is
