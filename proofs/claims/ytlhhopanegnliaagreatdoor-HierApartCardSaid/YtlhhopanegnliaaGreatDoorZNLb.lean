import Derived.Test.YtlhhopanegnliaaGreatDoorRows
import Derived.Test.YtlhhopanegnliaaGreatDoorR1
import Derived.Test.YtlhhopanegnliaaGreatDoorZNPb
import Derived.Test.YtlhhopanegnliaaGreatDoorProg
import Derived.Test.YtlhhopanegnliaaGreatDoorMo
import Derived.Maps.AppendAt
import Derived.Deep.Upon
import Derived.Lib.AppendZeros
import Derived.ProofKit
import Derived.OpenShut
import Derived.Carry
import Derived.ChangeSlices
import Derived.Deep.Slices
import Derived.Test.YtlhhopanegnliaaGreatDoorZTg
import Derived.StillTailTactics
import Derived.Laws.FloatArith
namespace Go.Proofs.YtlhhopanegnliaaGreatDoor.Lk
open Go Go.RowKit
abbrev Hd := Pa.Pt × Int
def cellsW (x : Hd) : List Value := [.int .i64 x.1.a, .int .i64 x.1.b, .int .i64 x.1.c, .int .i64 x.1.d, .int .i64 x.1.e, .int .i64 x.2]
abbrev wv (x : Hd) : Value := .agg #[.int .i64 x.1.a, .int .i64 x.1.b, .int .i64 x.1.c, .int .i64 x.1.d, .int .i64 x.1.e, .int .i64 x.2]
def flat (xs : List Hd) : List Value := xs.flatMap cellsW
theorem flat_length (xs : List Hd) : (flat xs).length = xs.length * 6 := by
  induction xs with
  | nil => rfl
  | cons x xs ih => simp only [flat, List.flatMap_cons, List.length_append, List.length_cons] at ih ⊢; rw [ih]; simp [cellsW]; omega
theorem flat_append (xs ys : List Hd) : flat (xs ++ ys) = flat xs ++ flat ys := by simp [flat]
theorem flat_at : ∀ (xs : List Hd) (i j : Nat) (h : i < xs.length), j < 6 → (flat xs)[i * 6 + j]? = (cellsW xs[i])[j]?
  | x :: xs, 0, j, h, hj => by
    simp only [flat, List.flatMap_cons, Nat.zero_mul, Nat.zero_add, List.getElem_cons_zero]
    rw [List.getElem?_append_left (by simp [cellsW]; exact hj)]
  | x :: xs, i + 1, j, h, hj => by
    simp only [flat, List.flatMap_cons, List.getElem_cons_succ]
    rw [List.getElem?_append_right (by simp [cellsW]; omega)]
    have e : (i + 1) * 6 + j - (cellsW x).length = i * 6 + j := by simp [cellsW]; omega
    rw [e]
    exact flat_at xs i j (by simpa using h) hj
theorem flat_one (xs : List Hd) : ∀ u ∈ flat xs, u.oneCell' = true := by
  intro u hu
  obtain ⟨x, -, hx⟩ := List.mem_flatMap.1 hu
  simp only [cellsW, List.mem_cons, List.not_mem_nil, or_false] at hx
  rcases hx with rfl | rfl | rfl | rfl | rfl | rfl <;> rfl
theorem block_add' (a : Addr) (n : Nat) : (a.add n).block = a.block := by unfold Addr.add; split <;> rfl
theorem add_next (a : Addr) (k j : Nat) (hj : 0 < j) : a.add (k + j) = ⟨(a.add k).block, (a.add k).off + j, none⟩ := by
  unfold Addr.add
  rw [if_neg (by omega)]
  split
  · rename_i h; subst h; simp
  · simp; omega
theorem info28 : (Tryz.prog.info? 39).map (fun i => (i.zero, i.size, i.bytes)) = some (some (.agg #[.int .i64 0, .int .i64 0, .int .i64 0, .int .i64 0, .int .i64 0, .int .i64 0]), 6, 48) := by kernel_rfl
structure Ls (W : World) (A : Option Addr) (c : Nat) (xs : List Hd) : Prop where
  cap : xs.length ≤ c
  room : c ≤ maxLen
  nil : A = none → c = 0
  at' : ∀ a, A = some a → ∀ j u, (flat xs)[j]? = some u → W.cell? (a.add j) = some u
structure Here (W : World) (a : Addr) (i : Nat) (x : Hd) : Prop where
  c0 : W.cell? (a.add (i * 6)) = some (.int .i64 x.1.a)
  c1 : W.cell? ⟨(a.add (i * 6)).block, (a.add (i * 6)).off + 1, none⟩ = some (.int .i64 x.1.b)
  c2 : W.cell? ⟨(a.add (i * 6)).block, (a.add (i * 6)).off + 2, none⟩ = some (.int .i64 x.1.c)
  c3 : W.cell? ⟨(a.add (i * 6)).block, (a.add (i * 6)).off + 3, none⟩ = some (.int .i64 x.1.d)
  c4 : W.cell? ⟨(a.add (i * 6)).block, (a.add (i * 6)).off + 4, none⟩ = some (.int .i64 x.1.e)
  c5 : W.cell? ⟨(a.add (i * 6)).block, (a.add (i * 6)).off + 5, none⟩ = some (.int .i64 x.2)
section
variable {W W' : World} {A : Option Addr} {c K : Nat} {xs ys : List Hd}
theorem Ls.nils (W : World) : Ls W none 0 [] := ⟨Nat.le_refl _, Nat.zero_le _, fun _ => rfl, by simp⟩
theorem Ls.empty (h : Ls W none c xs) : xs = [] := by
  have h1 := h.cap
  have h2 := h.nil rfl
  exact List.length_eq_zero_iff.1 (by omega)
theorem Ls.keep (h : Ls W A c xs) (hk : ∀ a, A = some a → W'.heap[a.block]? = W.heap[a.block]?) : Ls W' A c xs :=
  ⟨h.cap, h.room, h.nil, fun a ha j u hj => (World.cell?_of_block (w := W) (a := a.add j) (by rw [block_add']; exact hk a ha)).trans (h.at' a ha j u hj)⟩
theorem Ls.below (h : Ls W A c xs) (hb : Below W.heap.size W W') : Ls W' A c xs :=
  ⟨h.cap, h.room, h.nil, fun a ha j u hj => by
    have := h.at' a ha j u hj
    rw [World.cell?_of_block (w := W) (a := a.add j) (hb.block _ (cell_lt this))]
    exact this⟩
theorem Ls.only {T : Nat → Prop} (h : Ls W A c xs) (ho : OnlyS T W W') (hT : ∀ a, A = some a → ¬ T a.block) : Ls W' A c xs :=
  ⟨h.cap, h.room, h.nil, fun a ha j u hj => by
    have := h.at' a ha j u hj
    rw [World.cell?_of_block (w := W) (a := a.add j) (ho.block _ (cell_lt this) (by rw [block_add']; exact hT a ha))]
    exact this⟩
theorem Ls.drewN (h : Ls W A c xs) (k : Nat) : Ls (W.drewN k) A c xs := ⟨h.cap, h.room, h.nil, h.at'⟩
theorem Ls.here (h : Ls W A c xs) {i : Nat} (hi : i < xs.length) : ∃ a, A = some a ∧ Here W a i xs[i] := by
  cases A with
  | none => have := h.empty; subst this; simp at hi
  | some a =>
    have key : ∀ j u, j < 6 → (cellsW xs[i])[j]? = some u → W.cell? (a.add (i * 6 + j)) = some u := fun j u hj hu => h.at' a rfl _ _ ((flat_at xs i j hi hj).trans hu)
    refine ⟨a, rfl, key 0 _ (by omega) rfl, ?_, ?_, ?_, ?_, ?_⟩
    · rw [← add_next _ _ 1 (by omega)]; exact key 1 _ (by omega) rfl
    · rw [← add_next _ _ 2 (by omega)]; exact key 2 _ (by omega) rfl
    · rw [← add_next _ _ 3 (by omega)]; exact key 3 _ (by omega) rfl
    · rw [← add_next _ _ 4 (by omega)]; exact key 4 _ (by omega) rfl
    · rw [← add_next _ _ 5 (by omega)]; exact key 5 _ (by omega) rfl
theorem Ls.head (h : Ls W A c xs) (k : Nat) : Ls W A c (xs.take k) := by
  refine ⟨by rw [List.length_take]; have := h.cap; omega, h.room, h.nil, fun a ha j u hj => h.at' a ha j u ?_⟩
  have hj1 := (List.getElem?_eq_some_iff.1 hj).1
  have e : flat xs = flat (xs.take k) ++ flat (xs.drop k) := by rw [← flat_append, List.take_append_drop]
  rw [e, List.getElem?_append_left hj1]
  exact hj
theorem add_add (a : Addr) (i j : Nat) (hi : 0 < i) : (⟨a.block, a.off + i, none⟩ : Addr).add j = a.add (i + j) := by
  unfold Addr.add
  rw [if_neg (by omega : ¬ i + j = 0)]
  split
  · rename_i h; subst h; simp
  · simp; omega
theorem Ls.tail {a : Addr} (h : Ls W (some a) c xs) {k : Nat} (h0 : 0 < k) (hk : k ≤ xs.length) : Ls W (some ⟨a.block, a.off + k * 6, none⟩) (c - k) (xs.drop k) := by
  refine ⟨by rw [List.length_drop]; have := h.cap; omega, Nat.le_trans (Nat.sub_le _ _) h.room, by simp, fun b hb j u hj => ?_⟩
  obtain rfl : (⟨a.block, a.off + k * 6, none⟩ : Addr) = b := by simpa using hb
  rw [add_add a (k * 6) j (by omega)]
  refine h.at' a rfl _ _ ?_
  have e : flat xs = flat (xs.take k) ++ flat (xs.drop k) := by rw [← flat_append, List.take_append_drop]
  rw [e, List.getElem?_append_right (by rw [flat_length, List.length_take]; omega), flat_length, List.length_take]
  rw [show k * 6 + j - min k xs.length * 6 = j by rw [Nat.min_eq_left hk]; omega]
  exact hj
theorem Ls.none_left (a : Addr) (hc : c ≤ maxLen) : Ls W (some a) c [] := ⟨Nat.zero_le _, hc, by simp, fun _ _ j u hj => by simp [flat] at hj⟩
abbrev Row (W : World) (K : Nat) (v : Value) (xs : List Hd) : Prop := W.ownsRow K 39 6 v xs.length (flat xs)
theorem Row.ls {v : Value} (h : Row W K v xs) : ∃ A c, v = .slice A xs.length c ∧ Ls W A c xs := by
  rcases h.2 with ⟨rfl, h0⟩ | ⟨g, cap, cur, rfl, hb, hg, h1, h2, h3, h4⟩
  · have := List.length_eq_zero_iff.1 h0
    subst this
    exact ⟨none, 0, rfl, Ls.nils _⟩
  · refine ⟨_, cap, rfl, by omega, h2, by simp, fun a ha j u hj => ?_⟩
    obtain rfl : (⟨g, 0, none⟩ : Addr) = a := by simpa using ha
    exact h.cells (g := g) rfl j u hj
theorem Ls.src (h : Ls W A c ys) : Src Tryz.prog 6 35 (.slice A ys.length c) ys.length (flat ys) W := by
  cases A with
  | none =>
    have := h.empty; subst this
    exact Src.ofNil W Tryz.underlying35 c
  | some a => exact Src.ofSlice W Tryz.underlying35 a ys.length c (flat ys) (flat_length ys) (h.at' a rfl) (flat_one ys)
theorem Row.app {v : Value} (h : Row W K v xs) (hs : Ls W A c ys) (hl : xs.length + ys.length ≤ 1000) (hK : K ≤ W.heap.size) (ty : TypeId) :
    ∃ v' W', (Builtin.append_ #[35, 35] ty #[v, .slice A ys.length c]).run Tryz.prog W = .ok v' W' ∧ Row W' K v' (xs ++ ys) ∧ W.grownBy W' v.ownBlock ∧ (v'.ownBlock = v.ownBlock ∨ v'.ownBlock = some W.heap.size) := by
  obtain ⟨i0, hi, hz0, hz1, hz2⟩ := info_parts info28
  cases A with
  | none =>
    have := hs.empty; subst this
    have hc := hs.nil rfl
    subst hc
    obtain ⟨A', c', rfl, hls⟩ := h.ls
    refine ⟨_, W, run_append_nothing (P := Tryz.prog) W 35 35 ty 39 i0 Tryz.underlying35 hi A' xs.length c' hls.cap _ (by rw [hz1]; exact hs.src), by rw [List.append_nil]; exact h, ⟨rfl, rfl, rfl, Nat.le_refl _, fun _ _ _ => rfl⟩, .inl rfl⟩
  | some a =>
    obtain ⟨v', W', h1, h2, h3, -, h5⟩ := run_append_own_at (P := Tryz.prog) W K 35 ty 39 i0 _ 6 48 Tryz.underlying35 hi hz0 hz1 hz2 rfl (by decide) v xs.length (flat xs) h a ys.length c (flat ys) (flat_length ys) (hs.at' a rfl) (flat_one ys) (by unfold maxLen; omega) (by omega) hK
    refine ⟨v', W', h1, ?_, h3, h5⟩
    unfold Row
    rw [flat_append, List.length_append]
    exact h2
theorem Row.app_below {v : Value} (h : Row W K v xs) (hg : W.grownBy W' v.ownBlock) (hK : K ≤ W.heap.size) : Below K W W' :=
  OnlyS.below (S := fun k => v.ownBlock = some k) ((OnlyS.refl _ W).grown hg fun _ hk => .inl hk) (fun k hk => (h.lt k hk).1) hK
theorem box_ls (W : World) (x : Hd) : Ls (W.alloc (.cells #[.int .i64 x.1.a, .int .i64 x.1.b, .int .i64 x.1.c, .int .i64 x.1.d, .int .i64 x.1.e, .int .i64 x.2] 39)) (some ⟨W.heap.size, 0, none⟩) 1 [x] := by
  refine ⟨Nat.le_refl _, by decide, by simp, fun a ha j u hj => ?_⟩
  obtain rfl : (⟨W.heap.size, 0, none⟩ : Addr) = a := by simpa using ha
  rw [add_at]
  match j, hj with
  | 0, hj => simp [flat, cellsW] at hj; subst hj; simp [go_sem]
  | 1, hj => simp [flat, cellsW] at hj; subst hj; simp [go_sem]
  | 2, hj => simp [flat, cellsW] at hj; subst hj; simp [go_sem]
  | 3, hj => simp [flat, cellsW] at hj; subst hj; simp [go_sem]
  | 4, hj => simp [flat, cellsW] at hj; subst hj; simp [go_sem]
  | 5, hj => simp [flat, cellsW] at hj; subst hj; simp [go_sem]
  | j + 6, hj => simp [flat, cellsW] at hj
end
end Go.Proofs.YtlhhopanegnliaaGreatDoor.Lk
namespace Go.Proofs.YtlhhopanegnliaaGreatDoor
open Go Go.ChangeShapes Go.WideShapes Go.ChangeAt Go.RowKit Go.Deep
set_option maxRecDepth 100000

theorem cells23 : Tryz.prog.cellsOf 28 = 4 := by kernel_rfl
theorem cells25 : Tryz.prog.cellsOf 30 = 5 := by kernel_rfl
abbrev wf64 (x : Int) : Prop := (Lit.int .i64 x).wf = true
structure FitP (p : Pa.Pt) : Prop where
  a : wf64 p.a
  b : wf64 p.b
  c : wf64 p.c
  d : wf64 p.d
  e : wf64 p.e
theorem add_zero' (a : Addr) : a.add 0 = a := if_pos rfl
instance : Inhabited Lk.Hd := ⟨(⟨0, 0, 0, 0, 0⟩, 0)⟩
end Go.Proofs.YtlhhopanegnliaaGreatDoor
namespace Go.Proofs.YtlhhopanegnliaaGreatDoor.Lk
open Go Go.RowKit Go.Shelf Pa
set_option maxRecDepth 100000
def parN (j : Nat) : Nat := if j = 0 then 0 else if j = 1 ∨ j = 3 then 1 else 2
theorem parent_any (m : Int) (w : World) :
    Calls Tryz.prog 72 #[.int .i64 m] w fun e w' => e = .returned (.int .i64 (parN (kn m) : Nat)) ∧ Below w.heap.size w w' := by
  have H := Lib.hid (known_any m w)
  have hc := kn_cases m
  obtain ⟨k, hk⟩ : ∃ k, kn m = k := ⟨_, rfl⟩
  rw [hk] at H hc ⊢
  rcases hc with rfl | rfl | rfl | rfl | rfl | rfl | rfl
  all_goals
    go_enter Tryz.func72, Tryz.ntmps72
    go_wp2_with fail
    refine H.out.mono ?_
    rintro e w' ⟨rfl, rfl⟩
    go_wp2_with fail
    go_ret
    exact ⟨rfl, Below.refl _ _⟩
theorem conv_is (w : World) : ∀ x, x ≤ 3 → (convert 149 3 (.float .f64 (fb x))).run Tryz.prog w = .ok (.int .i64 (x : Nat)) w := by
  intro x hx
  refine run_convert_float_int w 149 3 .f64 .i64 _ _ (by rw [Tryz.underlying149]; rfl) Tryz.underlying3 ?_
  have h1 : x = 0 ∨ x = 1 ∨ x = 2 ∨ x = 3 := by omega
  rcases h1 with rfl | rfl | rfl | rfl <;> decide +kernel
theorem does_any (m : Int) (w : World) :
    Calls Tryz.prog 62 #[.int .i64 m] w fun e w' => e = .returned (.int .i64 (reN (kn m) : Nat)) ∧ Below w.heap.size w w' := by
  have H := Lib.hid (at_is m w (kn m) (kn_le m) rfl)
  have hc := fun w => conv_is w (reN (kn m)) (reN_le _)
  go_enter Tryz.func62, Tryz.ntmps62
  go_wp2_with fail
  refine H.out.mono ?_
  rintro e w' ⟨rfl, hb⟩
  go_wp2_with fail
  go_ret
  exact ⟨rfl, hb⟩
def plB (m : Int) : Bool := m == 3 || m == 5 || m == 6
def Prd (T : Nat → Prop) (W : World) (gf : Nat) (cs : Array Value) (p : Hd → Bool) : Prop :=
  (∀ args w, (callFunc gf args).run Tryz.prog w = .ok (.enter gf args) w) ∧
  ∀ (W' : World) (x : Hd), OnlyS T W W' → Calls Tryz.prog gf (#[wv x] ++ cs) W' fun e w' => e = .returned (.bool (p x)) ∧ Below W'.heap.size W' w'
theorem prd_at {T : Nat → Prop} {W : World} {B : Nat} {p : Pt} (hc : PtAt W B p) (hT : ¬ T B) : Prd T W 151 #[.pointer (some ⟨B, 0, none⟩)] (fun x => eqP x.1 p) := by
  refine ⟨enters_of Tryz.func151 (by kernel_rfl) rfl, fun W' x ho => ?_⟩
  obtain ⟨⟨xa, xb, xc, xd, xe⟩, m⟩ := x
  obtain ⟨pa, pb, pc, pd, pe⟩ := p
  obtain ⟨c0, c1, c2, c3, c4, hl⟩ := hc
  simp only at c0 c1 c2 c3 c4
  have d0 := ho.cell c0 hT
  have d1 := ho.cell c1 hT
  have d2 := ho.cell c2 hT
  have d3 := ho.cell c3 hT
  have d4 := ho.cell c4 hT
  have hlt := cell_lt d0
  simp only at hlt
  have hne : ¬ B = W'.heap.size := Nat.ne_of_lt hlt
  clear ho c0 c1 c2 c3 c4 hT
  go_enter Tryz.func151, Tryz.ntmps151
  go_wp2_with fail
  go_ret
  exact ⟨rfl, Go.Proofs.YtlhhopanegnliaaGreatDoor.box_below _ _⟩
def idxP (p : Hd → Bool) : List Hd → Int
  | [] => -1
  | x :: xs => if p x then 0 else if idxP p xs = -1 then -1 else idxP p xs + 1
theorem idx_none {p : Hd → Bool} {xs : List Hd} (h : ∀ i (h : i < xs.length), p xs[i] = false) : idxP p xs = -1 := by
  induction xs with
  | nil => rfl
  | cons x xs ih =>
    have h1 := h 0 (by simp)
    have h2 := ih (fun i hi => h (i + 1) (by simpa using hi))
    simp at h1
    simp [idxP, h1, h2]
theorem idx_some {p : Hd → Bool} : ∀ {xs : List Hd} {k : Nat} (hk : k < xs.length), (∀ i (h : i < k), p (xs[i]'(by omega)) = false) → p xs[k] = true → idxP p xs = k
  | x :: xs, 0, _, _, hp => by simp at hp; simp [idxP, hp]
  | x :: xs, k + 1, hk, h, hp => by
    have h1 := h 0 (by omega)
    have h2 := idx_some (xs := xs) (k := k) (by simpa using hk) (fun i hi => h (i + 1) (by omega)) hp
    simp at h1
    have h3 : ¬ ((k : Int) = -1) := by omega
    simp [idxP, h1, h2, h3]
theorem idx_cases (p : Hd → Bool) (xs : List Hd) : (idxP p xs = -1 ∧ ∀ x ∈ xs, p x = false) ∨ ∃ (k : Nat) (hk : k < xs.length), idxP p xs = k ∧ p xs[k] = true ∧ ∀ i (h : i < k), p (xs[i]'(by omega)) = false := by
  induction xs with
  | nil => exact .inl ⟨rfl, by simp⟩
  | cons x xs ih =>
    cases hx : p x
    · rcases ih with ⟨h1, h2⟩ | ⟨k, hk, h1, h2, h3⟩
      · exact .inl ⟨by simp [idxP, hx, h1], fun y hy => by
          rcases List.mem_cons.1 hy with rfl | hy
          · exact hx
          · exact h2 y hy⟩
      · refine .inr ⟨k + 1, by simpa using hk, ?_, by simpa using h2, fun i hi => ?_⟩
        · have h4 : ¬ ((k : Int) = -1) := by omega
          simp [idxP, hx, h1, h4]
        · cases i with
          | zero => simpa using hx
          | succ i => simpa using h3 i (by omega)
    · exact .inr ⟨0, by simp, by simp [idxP, hx], by simpa using hx, fun i hi => by omega⟩
section
variable {T : Nat → Prop} {W W' : World} {gf : Nat} {cs : Array Value} {p : Hd → Bool} {A : Option Addr} {c : Nat} {xs : List Hd}
set_option maxHeartbeats 2000000 in
theorem index_any (hp : Prd T W gf cs p) (hr : Ls W A c xs) (hl : xs.length ≤ 5000) :
    Calls Tryz.prog 150 #[.slice A xs.length c, .func (.func gf) #[] cs] W fun e w' => e = .returned (.int .i64 (idxP p xs)) ∧ Below W.heap.size W w' := by
  obtain ⟨eg, hp⟩ := hp
  have HP := Lib.hid hp
  have HR := Lib.hid hr
  obtain ⟨n, hn⟩ : ∃ n, xs.length = n := ⟨_, rfl⟩
  rw [hn] at hl ⊢
  have HN := Lib.hid hn
  clear hp hr hn
  go_enter Tryz.func150, Tryz.ntmps150
  go_wp2
  go_loopw [8] (fun t wr => ∃ j : Nat, j ≤ n ∧ t = .int .i64 j ∧ (∀ i (_ : i < j) (h : i < xs.length), p xs[i] = false) ∧ Below W.heap.size W wr) (fun t _ => n - (intOf t).toNat)
  case atStart => exact ⟨0, by omega, rfl, fun i hi => by omega, Below.refl _ _⟩
  case round =>
    obtain ⟨j, hj, rfl, hall, hb⟩ := hrel
    have HA := Lib.hid hall
    clear hall
    by_cases hjn : j < n
    · have hjl : j < xs.length := by rw [HN.out]; exact hjn
      obtain ⟨a, rfl, hh⟩ := (HR.out.below hb).here hjl
      obtain ⟨c0, c1, c2, c3, c4, c5⟩ := hh
      have hcall := Lib.hid (HP.out wr xs[j] (OnlyS.of_below hb))
      have HB0 := Lib.hid hb
      have hsz := hb.size
      clear hb
      obtain ⟨x, hx⟩ : ∃ x, xs[j] = x := ⟨_, rfl⟩
      have HX := Lib.hid hx
      rw [hx] at c0 c1 c2 c3 c4 c5 hcall
      obtain ⟨q, hq⟩ : ∃ q, p x = q := ⟨_, rfl⟩
      rw [hq] at hcall
      have HQ := Lib.hid hq
      clear hq hx
      cases q
      · go_wp2_with fail
        refine hcall.out.mono ?_
        rintro e w1 ⟨rfl, hb1⟩
        have HB := Lib.hid (HB0.out.trans (hb1.mono HB0.out.size))
        clear c0 c1 c2 c3 c4 c5 hb1 hcall
        go_wp2_with fail
        go_roundw
        case rel =>
          refine ⟨j + 1, by omega, by go_num, fun i hi hi' => ?_, HB.out⟩
          by_cases e : i = j
          · subst e
            rw [HX.out]; exact HQ.out
          · exact HA.out i (by omega) hi'
        case measure => simp [intOf]; omega
      · go_wp2_with fail
        refine hcall.out.mono ?_
        rintro e w1 ⟨rfl, hb1⟩
        have HB := Lib.hid (HB0.out.trans (hb1.mono HB0.out.size))
        clear c0 c1 c2 c3 c4 c5 hb1 hcall
        go_wp2_with fail
        go_ret
        refine ⟨?_, HB.out⟩
        rw [idx_some hjl (fun i hi => HA.out i hi (by omega)) (by rw [HX.out]; exact HQ.out)]
        rfl
    · obtain rfl : j = n := by omega
      go_wp2_with fail
      go_ret
      refine ⟨?_, hb⟩
      rw [idx_none fun i hi => HA.out i (by rw [← HN.out]; exact hi) hi]
      rfl
abbrev plI (xs : List Hd) (p : Pt) : Int := idxP (fun x => eqP x.1 p) xs
def ofL : List Hd → Pt → Int
  | [], _ => 0
  | x :: xs, p => if eqP x.1 p then x.2 else ofL xs p
theorem of_none {p : Pt} : ∀ {xs : List Hd}, (∀ x ∈ xs, eqP x.1 p = false) → ofL xs p = 0
  | [], _ => rfl
  | x :: xs, h => by rw [ofL, h x (by simp), of_none (fun y hy => h y (by simp [hy]))]; simp
theorem of_some {p : Pt} : ∀ {xs : List Hd} {k : Nat} (hk : k < xs.length), (∀ i (h : i < k), eqP (xs[i]'(by omega)).1 p = false) → eqP xs[k].1 p = true → ofL xs p = xs[k].2
  | x :: xs, 0, _, _, hp => by simp at hp; simp [ofL, hp]
  | x :: xs, k + 1, hk, h, hp => by
    have h1 := h 0 (by omega)
    have h2 := of_some (xs := xs) (k := k) (by simpa using hk) (fun i hi => h (i + 1) (by omega)) hp
    simp at h1
    simp [ofL, h1, h2]
theorem place_any (hr : Ls W A c xs) (hl : xs.length ≤ 1000) (q : Pt) :
    Calls Tryz.prog 111 #[.slice A xs.length c, q.v] W fun e w' => e = .returned (.int .i64 (plI xs q)) ∧ Below W.heap.size W w' := by
  have hx := Go.Proofs.YtlhhopanegnliaaGreatDoor.box_below W (.cells #[.int .i64 q.a, .int .i64 q.b, .int .i64 q.c, .int .i64 q.d, .int .i64 q.e] 30)
  have H := Lib.hid (index_any (prd_at (T := fun _ => False) (PtAt.new W q.a q.b q.c q.d q.e) (fun h => h)) (hr.below hx) (by omega))
  have HX := Lib.hid hx
  obtain ⟨a, b, c', d, e⟩ := q
  simp only at H HX hx
  clear hx hr
  go_enter Tryz.func111, Tryz.ntmps111
  go_wp2_with fail
  refine H.out.mono ?_
  rintro r w1 ⟨rfl, hb1⟩
  have HB := Lib.hid (HX.out.trans (hb1.mono HX.out.size))
  clear hb1
  go_wp2_with fail
  go_ret
  exact ⟨rfl, HB.out⟩
set_option maxHeartbeats 1000000 in
theorem of_any (hr : Ls W A c xs) (hl : xs.length ≤ 1000) (q : Pt) :
    Calls Tryz.prog 63 #[.slice A xs.length c, q.v] W fun e w' => e = .returned (.int .i64 (ofL xs q)) ∧ Below W.heap.size W w' := by
  have hx := Go.Proofs.YtlhhopanegnliaaGreatDoor.box_below W (.cells #[.int .i64 q.a, .int .i64 q.b, .int .i64 q.c, .int .i64 q.d, .int .i64 q.e] 30)
  have hr1 := hr.below hx
  have H := Lib.hid (place_any hr1 hl q)
  have hp := PtAt.new W q.a q.b q.c q.d q.e
  obtain ⟨c0, c1, c2, c3, c4, hlt⟩ := hp
  have HX := Lib.hid hx
  have HR := Lib.hid hr1
  obtain ⟨n, hn⟩ : ∃ n, xs.length = n := ⟨_, rfl⟩
  rcases idx_cases (fun x => eqP x.1 q) xs with ⟨h1, h2⟩ | ⟨k, hk, h1, h2, h3⟩
  · have HO := Lib.hid (of_none h2)
    have h1' : plI xs q = -1 := h1
    rw [h1'] at H
    rw [HO.out]
    obtain ⟨a, b, c', d, e⟩ := q
    simp only at H HX hx c0 c1 c2 c3 c4
    clear hx hr hr1 h1 h2 HR h1'
    rw [hn] at H ⊢
    clear hn
    go_enter Tryz.func63, Tryz.ntmps63
    go_wp2_with fail
    refine H.out.mono ?_
    rintro r w1 ⟨rfl, hb1⟩
    have HB := Lib.hid (HX.out.trans (hb1.mono HX.out.size))
    clear hb1
    go_wp2_with fail
    go_ret
    exact ⟨rfl, HB.out⟩
  · obtain ⟨m, hm⟩ : ∃ m, xs[k].2 = m := ⟨_, rfl⟩
    have HO := Lib.hid ((of_some hk h3 h2).trans hm)
    have HM := Lib.hid hm
    clear hm
    have h1' : plI xs q = (k : Int) := h1
    rw [h1'] at H
    rw [HO.out]
    obtain ⟨a, b, c', d, e⟩ := q
    simp only at H HX hx c0 c1 c2 c3 c4
    have hk' : k < n := by omega
    have hl' : n ≤ 1000 := by omega
    clear hx hr hr1 h1 h2 h3 h1'
    rw [hn] at H ⊢
    have HN := Lib.hid hn
    clear hn
    have hk0 : ¬ (k : Int) < 0 := by omega
    go_enter Tryz.func63, Tryz.ntmps63
    go_wp2_with fail
    refine H.out.mono ?_
    rintro r w1 ⟨rfl, hb1⟩
    obtain ⟨a', rfl, hh⟩ := (HR.out.below hb1).here hk
    have HB := Lib.hid (HX.out.trans (hb1.mono HX.out.size))
    clear hb1 c0 c1 c2 c3 c4
    obtain ⟨_, _, _, _, _, c5⟩ := hh
    rw [HM.out] at c5
    go_wp2_with fail
    go_ret
    exact ⟨rfl, HB.out⟩
@[go_sem] theorem eql22_none (w : World) (n c : Nat) : (binOp .eql 35 (.slice none n c) (.slice none 0 0)).run Tryz.prog w = .ok (.bool true) w := Lib.run_eql_slice_nil w 35 39 none n c 0 0 Tryz.underlying35
@[go_sem] theorem eql22_some (w : World) (a : Addr) (n c : Nat) : (binOp .eql 35 (.slice (some a) n c) (.slice none 0 0)).run Tryz.prog w = .ok (.bool false) w := Lib.run_eql_slice_nil w 35 39 (some a) n c 0 0 Tryz.underlying35
theorem clone_any (hr : Ls W A c xs) (hl : xs.length ≤ 500) : Calls Tryz.prog 118 #[.slice A xs.length c] W fun e w' => ∃ v, e = .returned v ∧ Row w' W.heap.size v xs ∧ Below W.heap.size W w' := by
  cases A with
  | none =>
    have := hr.empty; subst this
    have hc := hr.nil rfl
    subst hc
    clear hr
    go_enter Tryz.func118, Tryz.ntmps118
    go_wp2
    go_ret
    exact ⟨_, rfl, World.ownsRow_nil _ _ _ _, Below.refl _ _⟩
  | some a =>
    have h0 : Row (W.alloc (.cells #[] 39)) W.heap.size (.slice (some ⟨W.heap.size, 0, none⟩) 0 0) [] :=
      ⟨rfl, .inr ⟨W.heap.size, 0, #[], rfl, Nat.le_refl _, heap_alloc_new W _, Nat.le_refl _, Nat.zero_le _, rfl, rfl⟩⟩
    have hx := Go.Proofs.YtlhhopanegnliaaGreatDoor.box_below W (.cells #[] 39)
    obtain ⟨v', w', hrun, hrow, hg, -⟩ := h0.app (hr.below hx) (by simp; omega) hx.size 35
    have HR := Lib.hid hrow
    have HB := Lib.hid (hx.trans (h0.app_below hg hx.size))
    simp only [List.nil_append] at HR
    generalize xs.length = n at *
    clear hr h0 hx hrow hg
    go_enter Tryz.func118, Tryz.ntmps118
    go_wp2_with (at_builtin; refine Lib.wpList_append_run _ rfl _ _ _ _ rfl _ _ rfl rfl _ _ hrun ?_)
    go_ret
    exact ⟨_, rfl, HR.out, HB.out⟩
end
end Go.Proofs.YtlhhopanegnliaaGreatDoor.Lk
