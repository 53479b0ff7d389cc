/- The library's sort of numbers, and what it takes away of those that stand there again, laid at this program by the shelf's plain mode. -/
import Derived.Shelf.SortM.AssemblyIn
import Derived.Shelf.SortM.SortNone
import Derived.Sort.EveryDepth
import Derived.Shelf.SlicesE.Compact
import Derived.Test.YtgefponjlliaaaaProg
import Derived.Test.YtgefponjlliaaaaGa
namespace Go.Proofs.Ytgefponjlliaaaa
open Go.Shelf
def sortI_ren : Go.Shelf.Ren := ⟨fun | 5 => 44 | 8 => 59 | 7 => 58 | 19 => 73 | 20 => 74 | 10 => 65 | 11 => 66 | 12 => 67 | 13 => 68 | 14 => 69 | 15 => 70 | 16 => 56 | 17 => 71 | 18 => 72 | 30 => 83 | 31 => 84 | 32 => 85 | 33 => 86 | 34 => 87 | 35 => 42 | 40 => 91 | n => n, fun | 23 => 24 | 25 => 3 | 3 => 3 | 32 => 75 | 22 => 24 | 0 => 0 | 44 => 84 | 46 => 87 | 4 => 4 | 36 => 92 | 35 => 91 | 41 => 49 | 5 => 5 | 9 => 9 | 53 => 104 | 57 => 108 | 63 => 112 | 64 => 113 | n => n, fun | n => n⟩
theorem sortI : Go.Proofs.SlLaysM.n5 Try.prog sortI_ren := {
  mixed := by kernel_rfl
  f5 := ⟨Try.f44.name, by decide, Try.func44.trans (congrArg some (by kernel_rfl))⟩
  f7 := ⟨Try.f58.name, by decide, Try.func58.trans (congrArg some (by kernel_rfl))⟩
  f8 := Try.func59.trans (congrArg some (by kernel_rfl))
  f10 := ⟨Try.f65.name, by decide, Try.func65.trans (congrArg some (by kernel_rfl))⟩
  f11 := ⟨Try.f66.name, by decide, Try.func66.trans (congrArg some (by kernel_rfl))⟩
  f12 := ⟨Try.f67.name, by decide, Try.func67.trans (congrArg some (by kernel_rfl))⟩
  f13 := ⟨Try.f68.name, by decide, Try.func68.trans (congrArg some (by kernel_rfl))⟩
  f14 := ⟨Try.f69.name, by decide, Try.func69.trans (congrArg some (by kernel_rfl))⟩
  f15 := ⟨Try.f70.name, by decide, Try.func70.trans (congrArg some (by kernel_rfl))⟩
  f16 := ⟨Try.f56.name, by decide, Try.func56.trans (congrArg some (by kernel_rfl))⟩
  f17 := ⟨Try.f71.name, by decide, Try.func71.trans (congrArg some (by kernel_rfl))⟩
  f18 := ⟨Try.f72.name, by decide, Try.func72.trans (congrArg some (by kernel_rfl))⟩
  f19 := Try.func73.trans (congrArg some (by kernel_rfl))
  f20 := Try.func74.trans (congrArg some (by kernel_rfl))
  f30 := ⟨Try.f83.name, by decide, Try.func83.trans (congrArg some (by kernel_rfl))⟩
  f31 := Try.func84.trans (congrArg some (by kernel_rfl))
  f32 := Try.func85.trans (congrArg some (by kernel_rfl))
  f33 := ⟨Try.f86.name, by decide, Try.func86.trans (congrArg some (by kernel_rfl))⟩
  f34 := ⟨Try.f87.name, by decide, Try.func87.trans (congrArg some (by kernel_rfl))⟩
  f35 := ⟨Try.f42.name, by decide, Try.func42.trans (congrArg some (by kernel_rfl))⟩
  f40 := ⟨Try.f91.name, by decide, Try.func91.trans (congrArg some (by kernel_rfl))⟩
  t0 := Try.underlying0
  a0 := Try.isAgg0
  z0 := Try.sizeOf0
  v0 := Try.zeroValue0
  t3 := Try.underlying3
  a3 := Try.isAgg3
  z3 := Try.sizeOf3
  v3 := Try.zeroValue3
  t4 := Try.underlying4
  a4 := Try.isAgg4
  z4 := Try.sizeOf4
  v4 := Try.zeroValue4
  t5 := Try.underlying5
  a5 := Try.isAgg5
  z5 := Try.sizeOf5
  v5 := Try.zeroValue5
  t9 := Try.underlying9
  a9 := Try.isAgg9
  z9 := Try.sizeOf9
  v9 := Try.zeroValue9
  t22 := Try.underlying24
  a22 := Try.isAgg24
  z22 := Try.sizeOf24
  v22 := Try.zeroValue24
  t23 := Try.underlying24
  a23 := Try.isAgg24
  z23 := Try.sizeOf24
  v23 := Try.zeroValue24
  t25 := Try.underlying3
  a25 := Try.isAgg3
  z25 := Try.sizeOf3
  v25 := Try.zeroValue3
  t32 := Try.underlying75
  a32 := Try.isAgg75
  z32 := Try.sizeOf75
  v32 := Try.zeroValue75
  t35 := Try.underlying91
  a35 := Try.isAgg91
  z35 := Try.sizeOf91
  v35 := Try.zeroValue91
  t36 := Try.underlying92
  a36 := Try.isAgg92
  z36 := Try.sizeOf92
  v36 := Try.zeroValue92
  t41 := Try.underlying49
  a41 := Try.isAgg49
  z41 := Try.sizeOf49
  v41 := Try.zeroValue49
  t44 := Try.underlying84
  a44 := Try.isAgg84
  z44 := Try.sizeOf84
  v44 := Try.zeroValue84
  t46 := Try.underlying87
  a46 := Try.isAgg87
  z46 := Try.sizeOf87
  v46 := Try.zeroValue87
  t53 := Try.underlying104
  a53 := Try.isAgg104
  z53 := Try.sizeOf104
  v53 := Try.zeroValue104
  t57 := Try.underlying108
  a57 := Try.isAgg108
  z57 := Try.sizeOf108
  v57 := Try.zeroValue108
  t63 := Try.underlying112
  a63 := Try.isAgg112
  z63 := Try.sizeOf112
  v63 := Try.zeroValue112
  t64 := Try.underlying113
  a64 := Try.isAgg113
  z64 := Try.sizeOf113
  v64 := Try.zeroValue113 }
def compI_ren : Go.Shelf.Ren := ⟨fun | 43 => 45 | n => n, fun | 22 => 24 | 23 => 3 | 3 => 3 | 4 => 4 | 0 => 0 | n => n, fun | n => n⟩
theorem compI : Go.Proofs.SlLaysE.n43 Try.prog compI_ren := {
  mixed := by kernel_rfl
  f43 := ⟨Try.f45.name, by decide, Try.func45.trans (congrArg some (by kernel_rfl))⟩
  t0 := Try.underlying0
  a0 := Try.isAgg0
  z0 := Try.sizeOf0
  v0 := Try.zeroValue0
  t3 := Try.underlying3
  a3 := Try.isAgg3
  z3 := Try.sizeOf3
  v3 := Try.zeroValue3
  t4 := Try.underlying4
  a4 := Try.isAgg4
  z4 := Try.sizeOf4
  v4 := Try.zeroValue4
  t22 := Try.underlying24
  a22 := Try.isAgg24
  z22 := Try.sizeOf24
  v22 := Try.zeroValue24
  a23 := Try.isAgg3
  z23 := Try.sizeOf3 }
end Go.Proofs.Ytgefponjlliaaaa
/- Numbers in memory: a list that is read, a row of one's own; sorted by the library, each once. -/
namespace Go.Proofs.Ytgefponjlliaaaa.Is
open Go Go.RowKit Go.Shelf Go.Lib Go.Sort
set_option maxRecDepth 100000

abbrev enc : Int → Value := Value.int .i64
def flat (xs : List Int) : List Value := xs.map enc
theorem flat_length (xs : List Int) : (flat xs).length = xs.length * 1 := by simp [flat]
theorem flat_append (xs ys : List Int) : flat (xs ++ ys) = flat xs ++ flat ys := by simp [flat]
theorem flat_at (xs : List Int) (i : Nat) (h : i < xs.length) : (flat xs)[i]? = some (enc xs[i]) := by simp [flat, h]
theorem flat_one (xs : List Int) : ∀ u ∈ flat xs, u.oneCell' = true := by
  intro u hu
  obtain ⟨x, -, rfl⟩ := List.mem_map.1 hu
  rfl
theorem info3 : (Try.prog.info? 3).map (fun i => (i.zero, i.size, i.bytes)) = some (some (.int .i64 0), 1, 8) := by kernel_rfl
/-- a list that is read -/
structure Ls (W : World) (A : Option Addr) (c : Nat) (xs : List Int) : Prop where
  cap : xs.length ≤ c
  room : c ≤ maxLen
  nil : A = none → c = 0
  at' : ∀ a, A = some a → ∀ j u, (flat xs)[j]? = some u → W.cell? (a.add j) = some u
section
variable {W W' : World} {A : Option Addr} {c K : Nat} {xs ys : List Int}
theorem Ls.empty (h : Ls W none c xs) : xs = [] := by
  have h1 := h.cap
  have h2 := h.nil rfl
  exact List.length_eq_zero_iff.1 (by omega)
theorem Ls.below (h : Ls W A c xs) (hb : Below W.heap.size W W') : Ls W' A c xs :=
  ⟨h.cap, h.room, h.nil, fun a ha j u hj => by
    have := h.at' a ha j u hj
    rw [World.cell?_of_block (w := W) (a := a.add j) (hb.block _ (cell_lt this))]
    exact this⟩
theorem Ls.drewN (h : Ls W A c xs) (k : Nat) : Ls (W.drewN k) A c xs := ⟨h.cap, h.room, h.nil, h.at'⟩
theorem Ls.here (h : Ls W A c xs) {i : Nat} (hi : i < xs.length) : ∃ a, A = some a ∧ W.cell? (a.add i) = some (.int .i64 xs[i]) := by
  cases A with
  | none => have := h.empty; subst this; simp at hi
  | some a => exact ⟨a, rfl, h.at' a rfl _ _ (flat_at xs i hi)⟩
/-- one of one's own -/
abbrev Row (W : World) (K : Nat) (v : Value) (xs : List Int) : Prop := W.ownsRow K 3 1 v xs.length (flat xs)
theorem Row.ls {v : Value} (h : Row W K v xs) : ∃ A c, v = .slice A xs.length c ∧ Ls W A c xs := by
  rcases h.2 with ⟨rfl, h0⟩ | ⟨g, cap, cur, rfl, hb, hg, h1, h2, h3, h4⟩
  · have := List.length_eq_zero_iff.1 h0
    subst this
    exact ⟨none, 0, rfl, Nat.le_refl _, Nat.zero_le _, fun _ => rfl, by simp⟩
  · refine ⟨_, cap, rfl, by omega, h2, by simp, fun a ha j u hj => ?_⟩
    obtain rfl : (⟨g, 0, none⟩ : Addr) = a := by simpa using ha
    exact h.cells (g := g) rfl j u hj
theorem Ls.src (h : Ls W A c ys) : Src Try.prog 1 24 (.slice A ys.length c) ys.length (flat ys) W := by
  cases A with
  | none =>
    have := h.empty; subst this
    exact Src.ofNil W Try.underlying24 c
  | some a => exact Src.ofSlice W Try.underlying24 a ys.length c (flat ys) (flat_length ys) (h.at' a rfl) (flat_one ys)
/-- what is put behind a row of one's own -/
theorem Row.app {v : Value} (h : Row W K v xs) (hs : Ls W A c ys) (hl : xs.length + ys.length ≤ 1000000) (hK : K ≤ W.heap.size) (ty : TypeId) :
    ∃ v' W', (Builtin.append_ #[24, 24] ty #[v, .slice A ys.length c]).run Try.prog W = .ok v' W' ∧ Row W' K v' (xs ++ ys) ∧ W.grownBy W' v.ownBlock := by
  obtain ⟨i0, hi, hz0, hz1, hz2⟩ := info_parts info3
  cases A with
  | none =>
    have := hs.empty; subst this
    have hc := hs.nil rfl
    subst hc
    obtain ⟨A', c', rfl, hls⟩ := h.ls
    exact ⟨_, W, run_append_nothing (P := Try.prog) W 24 24 ty 3 i0 Try.underlying24 hi A' xs.length c' hls.cap _ (by rw [hz1]; exact hs.src), by rw [List.append_nil]; exact h, ⟨rfl, rfl, rfl, Nat.le_refl _, fun _ _ _ => rfl⟩⟩
  | some a =>
    obtain ⟨v', W', h1, h2, h3, -, -⟩ := run_append_own_at (P := Try.prog) W K 24 ty 3 i0 _ 1 8 Try.underlying24 hi hz0 hz1 hz2 rfl (by decide) v xs.length (flat xs) h a ys.length c (flat ys) (flat_length ys) (hs.at' a rfl) (flat_one ys) (by unfold maxLen; omega) (by omega) hK
    refine ⟨v', W', h1, ?_, h3⟩
    unfold Row
    rw [flat_append, List.length_append]
    exact h2
theorem Row.app_below {v : Value} (h : Row W K v xs) (hg : W.grownBy W' v.ownBlock) (hK : K ≤ W.heap.size) : Below K W W' :=
  OnlyS.below (S := fun k => v.ownBlock = some k) ((OnlyS.refl _ W).grown hg fun _ hk => .inl hk) (fun k hk => (h.lt k hk).1) hK
/-- two numbers in a block -/
theorem two_ls (W : World) (x y : Int) : Ls (W.alloc (.cells #[.int .i64 x, .int .i64 y] 3)) (some ⟨W.heap.size, 0, none⟩) 2 [x, y] := by
  refine ⟨Nat.le_refl _, by decide, by simp, fun a ha j u hj => ?_⟩
  obtain rfl : (⟨W.heap.size, 0, none⟩ : Addr) = a := by simpa using ha
  rw [add_at]
  match j, hj with
  | 0, hj => simp [flat] at hj; subst hj; simp [go_sem]
  | 1, hj => simp [flat] at hj; subst hj; simp [go_sem]
  | j + 2, hj => simp [flat] at hj
theorem box_ls (W : World) (x : Int) : Ls (W.alloc (.cells #[.int .i64 x] 3)) (some ⟨W.heap.size, 0, none⟩) 1 [x] := by
  refine ⟨Nat.le_refl _, by decide, by simp, fun a ha j u hj => ?_⟩
  obtain rfl : (⟨W.heap.size, 0, none⟩ : Addr) = a := by simpa using ha
  rw [add_at]
  match j, hj with
  | 0, hj => simp [flat] at hj; subst hj; simp [go_sem]
  | j + 1, hj => simp [flat] at hj
end
/-- a row of one's own, made since -/
structure Kp (W : World) (l : List Int) (v : Value) (w1 : World) : Prop where
  row : Row w1 W.heap.size v l
  bel : Below W.heap.size W w1
section
variable {W W' : World} {A : Option Addr} {c : Nat} {xs l : List Int} {v : Value}
theorem Kp.nil (W : World) : Kp W [] (.slice none 0 0) W := ⟨World.ownsRow_nil _ _ _ _, Below.refl _ _⟩
theorem Kp.below (h : Kp W l v W') {w2 : World} (hb : Below W'.heap.size W' w2) : Kp W l v w2 := ⟨row_below h.row hb, h.bel.trans (hb.mono h.bel.size)⟩
theorem Kp.join {n m q : Nat} {ys : List Int} (h : Kp W l v W') (hs : Ls W' A c ys) (hn : l.length = n) (hm : ys.length = m) (hq : n + m = q) (hl : q ≤ 1000000) (ty : TypeId) :
    ∃ A' c' w2, (Builtin.append_ #[24, 24] ty #[v, .slice A m c]).run Try.prog W' = .ok (.slice A' q c') w2 ∧ Kp W (l ++ ys) (.slice A' q c') w2 := by
  subst hn
  subst hm
  subst hq
  obtain ⟨v', w2, hrun, hrow, hg⟩ := h.row.app hs hl h.bel.size ty
  obtain ⟨A', c', rfl, -⟩ := hrow.ls
  rw [List.length_append] at hrun hrow
  exact ⟨A', c', w2, hrun, hrow, h.bel.trans (h.row.app_below hg h.bel.size)⟩
end
/-- numbers rise -/
def ltI (a b : Int) : Bool := decide (a < b)
theorem ordI : Od.Ordr ltI where
  irr a := by simp [ltI]
  tr a b c h1 h2 := by simp only [ltI, decide_eq_true_iff] at *; omega
  tot a b h1 h2 := by simp only [ltI, decide_eq_false_iff_not] at *; omega
def srt (xs : List Int) : List Int := xs.mergeSort fun x y => decide (x ≤ y)
theorem srt_perm (xs : List Int) : (srt xs).Perm xs := List.mergeSort_perm _ _
theorem srt_sorted (xs : List Int) : Od.Srt ltI (srt xs) := by
  have h := List.pairwise_mergeSort (le := fun x y : Int => decide (x ≤ y))
    (fun a b c h1 h2 => by simp only [decide_eq_true_iff] at *; omega)
    (fun a b => by simp only [Bool.or_eq_true, decide_eq_true_iff]; omega) xs
  refine h.imp fun {a b} hab => ?_
  simp only [decide_eq_true_iff] at hab
  simp only [ltI, decide_eq_false_iff_not]
  omega
theorem srt_can (xs : List Int) : Od.can ltI (srt xs) = Od.can ltI xs := Od.can_eq ordI fun _ => (srt_perm xs).mem_iff
theorem row_holds {W : World} {K g n cap : Nat} {xs : List Int} (h : Row W K (.slice (some ⟨g, 0, none⟩) n cap) xs) : Holds enc W g 0 xs.toArray := by
  intro j hj
  have hj' : j < xs.length := by simpa using hj
  have h1 := h.cells (g := g) rfl j _ (flat_at xs j hj')
  rw [add_at] at h1
  rcases h.2 with ⟨h0, _⟩ | ⟨g', cap', cur, e, _, hb, _⟩
  · cases h0
  · cases e
    refine ⟨?_, by rw [Nat.zero_add]; unfold World.frozen?; simp [hb]⟩
    rw [Nat.zero_add, h1, getElem!_pos _ j hj]
    simp
theorem put_heap {w : World} {g m : Nat} {ys : List Int} {os : Array Obj} {cur : Array Value} (hg : w.heap[g]? = some (.cells cur 3 (0, 0))) :
    (grow (putRow enc (Go.Sort.ahead w m) g 0 ys.toArray) os).heap[g]? = some (.cells (putCells enc 0 ys.toArray cur) 3 (0, 0)) ∧
    (∀ k, k ≠ g → k < w.heap.size → (grow (putRow enc (Go.Sort.ahead w m) g 0 ys.toArray) os).heap[k]? = w.heap[k]?) ∧ w.heap.size ≤ (grow (putRow enc (Go.Sort.ahead w m) g 0 ys.toArray) os).heap.size := by
  have hlt := (Array.getElem?_eq_some_iff.1 hg).1
  have e : (Go.Sort.ahead w m).heap = w.heap := rfl
  unfold putRow mapBlock grow
  rw [e]
  refine ⟨?_, fun k hk hks => ?_, ?_⟩
  · simp only [Array.getElem?_append, Array.size_modify]
    rw [if_pos hlt, Array.getElem?_modify, if_pos rfl, hg]
    rfl
  · simp only [Array.getElem?_append, Array.size_modify]
    rw [if_pos hks, Array.getElem?_modify, if_neg (Ne.symm hk)]
  · simp
theorem put_row {w : World} {K g n cap m : Nat} {xs ys : List Int} {os : Array Obj} (h : Row w K (.slice (some ⟨g, 0, none⟩) n cap) xs) (hl : ys.length = xs.length) :
    Row (grow (putRow enc (Go.Sort.ahead w m) g 0 ys.toArray) os) K (.slice (some ⟨g, 0, none⟩) n cap) ys ∧ OnlyS (· = g) w (grow (putRow enc (Go.Sort.ahead w m) g 0 ys.toArray) os) := by
  rcases h.2 with ⟨h0, _⟩ | ⟨g', cap', cur, e, hb, hg, h1, h2, h3, h4⟩
  · cases h0
  · cases e
    have hph := put_heap (m := m) (ys := ys) (os := os) hg
    refine ⟨⟨flat_length _, .inr ⟨g, cap, _, by rw [hl], hb, hph.1, by rw [hl]; exact h1, h2, by simp [putCells, h3], ?_⟩⟩, rfl, rfl, rfl, hph.2.2, fun k hk hn => hph.2.1 k hn hk⟩
    apply List.ext_getElem?
    intro k
    rw [List.getElem?_take]
    by_cases hk : k < ys.length * 1
    · have hk' : k < ys.length := by omega
      rw [if_pos hk, Array.getElem?_toList]
      have hc : k < cur.size := by rw [h3]; omega
      unfold putCells
      rw [Array.getElem?_mapIdx, Array.getElem?_eq_getElem hc]
      simp only [Option.map_some, Nat.zero_le, Nat.zero_add, true_and, List.size_toArray]
      rw [if_pos hk', flat_at ys k hk', Nat.sub_zero, getElem!_pos _ k (by simpa using hk')]
      simp
    · rw [if_neg hk, List.getElem?_eq_none (by rw [flat_length]; omega)]
section
variable {W : World} {K : Nat} {v : Value} {xs : List Int}
theorem sort_any (h : Row W K v xs) (hl : xs.length ≤ 1000000) : Calls Try.prog 44 #[v] W fun e w' => e = .returned (.tuple #[]) ∧ Row w' K v (srt xs) ∧ OnlyS (fun k => v.ownBlock = some k) W w' := by
  rcases h.2 with ⟨rfl, h0⟩ | ⟨g, cap, cur, rfl, hb, hg, h1, h2, h3, h4⟩
  · have := List.length_eq_zero_iff.1 h0
    subst this
    have hc := AnyM.slices_Sort_int_none sortI none 0 W
    refine Calls.mono (f := 44) hc ?_
    rintro e w' ⟨rfl, rfl⟩
    exact ⟨rfl, by simp only [srt, List.mergeSort_nil]; exact h, OnlyS.refl _ _⟩
  · have hlt := (Array.getElem?_eq_some_iff.1 hg).1
    have hc := calls_of_every_depth fun D => AnySM.slices_Sort_int_in sortI D g 0 cap xs W (row_holds h) hlt (by omega)
    refine Calls.mono (f := 44) hc ?_
    rintro e w' ⟨rfl, n, os, rfl⟩
    obtain ⟨k1, k2⟩ := put_row (m := n) (os := os) (ys := srt xs) h (srt_perm xs).length_eq
    exact ⟨rfl, k1, k2.mono fun k _ hk => by rw [hk]; rfl⟩
theorem compact_any (h : Row W K v xs) (hl : xs.length ≤ 1000000) (hs : Od.Srt ltI xs) : Calls Try.prog 45 #[v] W fun e w' => ∃ v', e = .returned v' ∧ Row w' K v' (Od.can ltI xs) ∧ OnlyS (fun k => v.ownBlock = some k) W w' := by
  rcases h.2 with ⟨rfl, h0⟩ | ⟨g, cap, cur, rfl, hb, hg, h1, h2, h3, h4⟩
  · have := List.length_eq_zero_iff.1 h0
    subst this
    have HR := Lib.hid h
    clear h
    go_enter Try.func45, Try.ntmps45
    go_wp2
    go_ret
    exact ⟨_, rfl, HR.out, OnlyS.refl _ _⟩
  · have hc := AnyE.slices_Compact compI enc (fun _ => rfl) (EqlAt.intD _ _ _) (NeqAt.intD _ _ _) 0 Try.zeroValue3 g 0 cap xs.toArray W (row_holds h) (by simp; omega) (by simpa using h1)
    refine Calls.mono (f := 45) hc ?_
    rintro e w' ⟨rfl, q, rfl⟩
    rw [Od.compact_can ordI hs]
    have hcl := Od.can_len (lt := ltI) xs
    have hlen : (Od.can ltI xs ++ List.replicate (xs.toArray.size - (Od.can ltI xs).length) (0 : Int)).length = xs.length := by simp; omega
    obtain ⟨k1, k2⟩ := put_row (m := q) (os := #[]) (ys := Od.can ltI xs ++ List.replicate (xs.toArray.size - (Od.can ltI xs).length) (0 : Int)) h hlen
    rw [grow_empty] at k1 k2
    refine ⟨_, rfl, ?_, k2.mono fun k _ hk => by rw [hk]; rfl⟩
    unfold Row at k1
    rw [hlen] at k1
    have k3 := row_cut k1 hcl
    rw [Nat.mul_one, flat_append, List.take_left' (by rw [flat_length, Nat.mul_one])] at k3
    exact k3
/-- rising, each once -/
theorem rising_any (h : Row W K v xs) (hK : K ≤ W.heap.size) (hl : xs.length ≤ 1000000) : Calls Try.prog 34 #[v] W fun e w' => ∃ v', e = .returned v' ∧ Row w' K v' (Od.can ltI xs) ∧ Below K W w' := by
  have HS := Lib.hid (sort_any h hl)
  have HV := Lib.hid (fun k (hk : v.ownBlock = some k) => (h.lt k hk).1)
  have HL := Lib.hid (show (srt xs).length ≤ 1000000 by rw [(srt_perm xs).length_eq]; exact hl)
  have HK := Lib.hid hK
  obtain ⟨A, c, rfl, -⟩ := h.ls
  generalize xs.length = n at *
  clear h hl hK
  go_enter Try.func34, Try.ntmps34
  go_wp2_with fail
  refine HS.out.mono ?_
  rintro e w1 ⟨rfl, hr1, ho1⟩
  have HB1 := Lib.hid (ho1.below HV.out HK.out)
  have HC := Lib.hid (compact_any hr1 HL.out (srt_sorted xs))
  rw [srt_can] at HC
  clear hr1 ho1 HS
  go_wp2_with fail
  refine HC.out.mono ?_
  rintro e w2 ⟨v2, rfl, hr2, ho2⟩
  have HR2 := Lib.hid hr2
  have HB2 := Lib.hid (HB1.out.trans (ho2.below HV.out (Nat.le_trans HK.out HB1.out.size)))
  clear hr2 ho2 HC
  go_wp2_with fail
  go_ret
  exact ⟨v2, rfl, HR2.out, HB2.out⟩
end
end Go.Proofs.Ytgefponjlliaaaa.Is
/- To whom edges of one go; all numbers that stand in edges. -/
namespace Go.Proofs.Ytgefponjlliaaaa
open Go Go.RowKit Go.Shelf
set_option maxRecDepth 100000

/-- numbers of one's own, handed back -/
def Is.Rows (W : World) (xs : List Int) (e : Ending) (w' : World) : Prop := ∃ v, e = .returned v ∧ Is.Row w' W.heap.size v xs ∧ Below W.heap.size W w'
/-- to whom edges of one go -/
def fromL (tx : Int) (l : List Es.Ed) : List Int := (l.filter fun e => e.1 == tx).map fun e => e.2
theorem fromL_no {tx : Int} {l : List Es.Ed} {k : Nat} (hk : k < l.length) (h : (l[k].1 == tx) = false) : fromL tx (l.take (k + 1)) = fromL tx (l.take k) := by
  unfold fromL
  rw [List.take_succ_eq_append_getElem hk, List.filter_append]
  simp [h]
theorem fromL_yes {tx : Int} {l : List Es.Ed} {k : Nat} (hk : k < l.length) (h : (l[k].1 == tx) = true) : fromL tx (l.take (k + 1)) = fromL tx (l.take k) ++ [l[k].2] := by
  unfold fromL
  rw [List.take_succ_eq_append_getElem hk, List.filter_append]
  simp [h]
theorem fromL_len (tx : Int) (l : List Es.Ed) : (fromL tx l).length ≤ l.length := by
  unfold fromL
  rw [List.length_map]
  exact List.length_filter_le _ _
/-- all numbers -/
def nodesL (l : List Es.Ed) : List Int := l.flatMap fun e => [e.1, e.2]
theorem nodesL_succ {l : List Es.Ed} {k : Nat} (hk : k < l.length) : nodesL (l.take (k + 1)) = nodesL (l.take k) ++ [l[k].1, l[k].2] := by
  unfold nodesL
  rw [List.take_succ_eq_append_getElem hk, List.flatMap_append]
  simp
theorem nodesL_len (l : List Es.Ed) : (nodesL l).length = 2 * l.length := by
  unfold nodesL
  induction l with
  | nil => rfl
  | cons x xs ih => rw [List.flatMap_cons, List.length_append, ih]; simp; omega
section
variable {W : World} {A : Option Addr} {c : Nat} {l : List Es.Ed}
theorem Is.Kp.rising {W' : World} {v : Value} {xs : List Int} {n : Nat} (h : Is.Kp W xs v W') (hn : xs.length = n) (hl : n ≤ 1000000) : Calls Try.prog 34 #[v] W' fun e w' => Is.Rows W (Od.can Is.ltI xs) e w' :=
  (Is.rising_any h.row h.bel.size (by omega)).mono fun _ _ ⟨v', he, hr, hb⟩ => ⟨v', he, hr, h.bel.trans hb⟩
set_option maxHeartbeats 4000000 in
theorem from_any (hr : Es.Ls W A c l) (hl : l.length ≤ 300000) (tx : Int) : Calls Try.prog 17 #[.slice A l.length c, .int .i64 tx] W (Is.Rows W (Od.can Is.ltI (fromL tx l))) := by
  have HR := Lib.hid hr
  obtain ⟨n, hn⟩ : ∃ n, l.length = n := ⟨_, rfl⟩
  rw [hn] at hl ⊢
  have HN := Lib.hid hn
  clear hr hn
  go_enter Try.func17, Try.ntmps17
  go_wp2_with fail
  go_loopw [10, 5] (fun t v wr => ∃ j : Nat, j ≤ n ∧ t = .int .i64 j ∧ Is.Kp W (fromL tx (l.take j)) v wr) (fun t _ _ => n - (intOf t).toNat)
  case atStart => exact ⟨0, by omega, rfl, Is.Kp.nil W⟩
  case round =>
    obtain ⟨j, hj, rfl, hk⟩ := hrel
    have K0 := Lib.hid hk
    obtain ⟨A0, c0', ev, -⟩ := hk.row.ls
    subst ev
    obtain ⟨q, hq⟩ : ∃ q, (fromL tx (l.take j)).length = q := ⟨_, rfl⟩
    have hq1 : q ≤ j := by rw [← hq]; refine Nat.le_trans (fromL_len _ _) ?_; rw [List.length_take]; omega
    have HQ := Lib.hid hq
    clear hk
    rw [hq] at K0 ⊢
    clear hq
    by_cases hjn : j < n
    · have hjl : j < l.length := by rw [HN.out]; exact hjn
      obtain ⟨a, rfl, hh⟩ := (HR.out.below K0.out.bel).here hjl
      obtain ⟨c0, c1⟩ := hh
      obtain ⟨x, hx⟩ : ∃ x, l[j] = x := ⟨_, rfl⟩
      have HX := Lib.hid (show ∃ h : j < l.length, l[j] = x from ⟨hjl, hx⟩)
      rw [hx] at c0 c1
      have hb1 := box_below wr (.cells #[.int .i64 x.1, .int .i64 x.2] 34)
      have K1 := Lib.hid (K0.out.below hb1)
      clear hx hjl
      by_cases ht : x.1 = tx
      · have HE := Lib.hid (show fromL tx (l.take (j + 1)) = fromL tx (l.take j) ++ [x.2] by
          obtain ⟨h, e⟩ := HX.out
          rw [fromL_yes h (by rw [e]; simpa using ht), e])
        obtain ⟨A', c', w6, hrun, hk6⟩ := (K1.out.below (box_below _ (.cells #[.int .i64 x.2] 3))).join (Is.box_ls _ x.2) HQ.out rfl rfl (by simp; omega) 24
        have K6 := Lib.hid hk6
        obtain ⟨t, m⟩ := x
        simp only at c0 c1 ht
        simp only [List.length_cons, List.length_nil, Nat.zero_add] at hrun K6
        rw [show (wr.alloc (.cells #[.int .i64 t, .int .i64 m] 34)).heap.size = wr.heap.size + 1 by simp] at hrun
        subst ht
        clear hk6 hb1 K1
        go_wp2_with (at_builtin; refine Lib.wpList_append_run _ rfl _ _ _ _ rfl _ _ rfl rfl _ _ hrun ?_)
        go_roundw
        case rel => exact ⟨j + 1, by omega, by go_num, by rw [HE.out]; exact K6.out⟩
        case measure => simp [intOf]; omega
      · have HE := Lib.hid (show fromL tx (l.take (j + 1)) = fromL tx (l.take j) by
          obtain ⟨h, e⟩ := HX.out
          exact fromL_no h (by rw [e]; simpa using ht))
        obtain ⟨t, m⟩ := x
        simp only at c0 c1 ht K1
        have ht' : (t == tx) = false := by simpa using ht
        clear hb1 ht
        go_wp2_with fail
        go_roundw
        case rel => exact ⟨j + 1, by omega, by go_num, by rw [HE.out]; exact K1.out⟩
        case measure => simp [intOf]; omega
    · obtain rfl : j = n := by omega
      have HE := Lib.hid (show fromL tx (l.take j) = fromL tx l by rw [List.take_of_length_le (Nat.le_of_eq HN.out)])
      have HZ := Lib.hid (K0.out.rising HQ.out (by omega))
      rw [HE.out] at HZ
      clear K0
      go_wp2_with fail
      refine HZ.out.mono ?_
      rintro e w7 ⟨v7, rfl, hr7, hb7⟩
      have HF := Lib.hid (show Is.Rows W (Od.can Is.ltI (fromL tx l)) (.returned v7) w7 from ⟨v7, rfl, hr7, hb7⟩)
      clear hr7 hb7
      go_wp2_with fail
      go_ret
      exact HF.out
set_option maxHeartbeats 4000000 in
theorem nodes_any (hr : Es.Ls W A c l) (hl : l.length ≤ 300000) : Calls Try.prog 18 #[.slice A l.length c] W (Is.Rows W (Od.can Is.ltI (nodesL l))) := by
  have HR := Lib.hid hr
  obtain ⟨n, hn⟩ : ∃ n, l.length = n := ⟨_, rfl⟩
  rw [hn] at hl ⊢
  have HN := Lib.hid hn
  clear hr hn
  go_enter Try.func18, Try.ntmps18
  go_wp2_with fail
  go_loopw [8, 3] (fun t v wr => ∃ j : Nat, j ≤ n ∧ t = .int .i64 j ∧ Is.Kp W (nodesL (l.take j)) v wr) (fun t _ _ => n - (intOf t).toNat)
  case atStart => exact ⟨0, by omega, rfl, Is.Kp.nil W⟩
  case round =>
    obtain ⟨j, hj, rfl, hk⟩ := hrel
    have K0 := Lib.hid hk
    obtain ⟨A0, c0', ev, -⟩ := hk.row.ls
    subst ev
    obtain ⟨q, hq⟩ : ∃ q, (nodesL (l.take j)).length = q := ⟨_, rfl⟩
    have hq1 : q ≤ 2 * j := by rw [← hq, nodesL_len, List.length_take]; omega
    have HQ := Lib.hid hq
    clear hk
    rw [hq] at K0 ⊢
    clear hq
    by_cases hjn : j < n
    · have hjl : j < l.length := by rw [HN.out]; exact hjn
      obtain ⟨a, rfl, hh⟩ := (HR.out.below K0.out.bel).here hjl
      obtain ⟨c0, c1⟩ := hh
      obtain ⟨x, hx⟩ : ∃ x, l[j] = x := ⟨_, rfl⟩
      have HE := Lib.hid (show nodesL (l.take (j + 1)) = nodesL (l.take j) ++ [x.1, x.2] by rw [nodesL_succ hjl, hx])
      rw [hx] at c0 c1
      have hb1 := box_below wr (.cells #[.int .i64 x.1, .int .i64 x.2] 34)
      have K1 := Lib.hid (K0.out.below hb1)
      obtain ⟨A', c', w6, hrun, hk6⟩ := (K1.out.below (box_below _ (.cells #[.int .i64 x.1, .int .i64 x.2] 3))).join (Is.two_ls _ x.1 x.2) HQ.out rfl rfl (by simp; omega) 24
      have K6 := Lib.hid hk6
      obtain ⟨t, m⟩ := x
      simp only at c0 c1 HE
      simp only [List.length_cons, List.length_nil, Nat.zero_add, Nat.reduceAdd] at hrun K6
      rw [show (wr.alloc (.cells #[.int .i64 t, .int .i64 m] 34)).heap.size = wr.heap.size + 1 by simp] at hrun
      clear hk6 hb1 K1 hx hjl
      go_wp2_with (at_builtin; refine Lib.wpList_append_run _ rfl _ _ _ _ rfl _ _ rfl rfl _ _ hrun ?_)
      go_roundw
      case rel => exact ⟨j + 1, by omega, by go_num, by rw [HE.out]; exact K6.out⟩
      case measure => simp [intOf]; omega
    · obtain rfl : j = n := by omega
      have HE := Lib.hid (show nodesL (l.take j) = nodesL l by rw [List.take_of_length_le (Nat.le_of_eq HN.out)])
      have HZ := Lib.hid (K0.out.rising HQ.out (by omega))
      rw [HE.out] at HZ
      clear K0
      go_wp2_with fail
      refine HZ.out.mono ?_
      rintro e w7 ⟨v7, rfl, hr7, hb7⟩
      have HF := Lib.hid (show Is.Rows W (Od.can Is.ltI (nodesL l)) (.returned v7) w7 from ⟨v7, rfl, hr7, hb7⟩)
      clear hr7 hb7
      go_wp2_with fail
      go_ret
      exact HF.out
end
end Go.Proofs.Ytgefponjlliaaaa
