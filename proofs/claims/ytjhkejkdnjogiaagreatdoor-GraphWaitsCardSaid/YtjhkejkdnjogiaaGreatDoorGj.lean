/- The library's sort of numbers, and what it takes away of those that stand there again, laid at this program by the shelf's plain mode. -/
import Derived.Shelf.SortM.AssemblyIn
import Derived.Shelf.SortM.SortNone
import Derived.Sort.EveryDepth
import Derived.Shelf.SlicesE.Compact
import Derived.Test.YtjhkejkdnjogiaaGreatDoorProg
import Derived.Test.YtjhkejkdnjogiaaGreatDoorGa
namespace Go.Proofs.YtjhkejkdnjogiaaGreatDoor
open Go.Shelf
def sortI_ren : Go.Shelf.Ren := ⟨fun | 5 => 81 | 8 => 80 | 7 => 127 | 19 => 125 | 20 => 126 | 10 => 160 | 11 => 161 | 12 => 162 | 13 => 163 | 14 => 164 | 15 => 165 | 16 => 166 | 17 => 167 | 18 => 168 | 30 => 191 | 31 => 156 | 32 => 157 | 33 => 192 | 34 => 193 | 35 => 194 | 40 => 207 | n => n, fun | 23 => 49 | 25 => 3 | 3 => 3 | 32 => 138 | 22 => 49 | 0 => 0 | 44 => 184 | 46 => 118 | 4 => 4 | 36 => 178 | 35 => 177 | 41 => 115 | 5 => 5 | 9 => 9 | 53 => 204 | 57 => 208 | 63 => 221 | 64 => 72 | n => n, fun | n => n⟩
theorem sortI : Go.Proofs.SlLaysM.n5 Tryz.prog sortI_ren := {
  mixed := by kernel_rfl
  f5 := ⟨Tryz.f81.name, by decide, Tryz.func81.trans (congrArg some (by kernel_rfl))⟩
  f7 := ⟨Tryz.f127.name, by decide, Tryz.func127.trans (congrArg some (by kernel_rfl))⟩
  f8 := Tryz.func80.trans (congrArg some (by kernel_rfl))
  f10 := ⟨Tryz.f160.name, by decide, Tryz.func160.trans (congrArg some (by kernel_rfl))⟩
  f11 := ⟨Tryz.f161.name, by decide, Tryz.func161.trans (congrArg some (by kernel_rfl))⟩
  f12 := ⟨Tryz.f162.name, by decide, Tryz.func162.trans (congrArg some (by kernel_rfl))⟩
  f13 := ⟨Tryz.f163.name, by decide, Tryz.func163.trans (congrArg some (by kernel_rfl))⟩
  f14 := ⟨Tryz.f164.name, by decide, Tryz.func164.trans (congrArg some (by kernel_rfl))⟩
  f15 := ⟨Tryz.f165.name, by decide, Tryz.func165.trans (congrArg some (by kernel_rfl))⟩
  f16 := ⟨Tryz.f166.name, by decide, Tryz.func166.trans (congrArg some (by kernel_rfl))⟩
  f17 := ⟨Tryz.f167.name, by decide, Tryz.func167.trans (congrArg some (by kernel_rfl))⟩
  f18 := ⟨Tryz.f168.name, by decide, Tryz.func168.trans (congrArg some (by kernel_rfl))⟩
  f19 := Tryz.func125.trans (congrArg some (by kernel_rfl))
  f20 := Tryz.func126.trans (congrArg some (by kernel_rfl))
  f30 := ⟨Tryz.f191.name, by decide, Tryz.func191.trans (congrArg some (by kernel_rfl))⟩
  f31 := Tryz.func156.trans (congrArg some (by kernel_rfl))
  f32 := Tryz.func157.trans (congrArg some (by kernel_rfl))
  f33 := ⟨Tryz.f192.name, by decide, Tryz.func192.trans (congrArg some (by kernel_rfl))⟩
  f34 := ⟨Tryz.f193.name, by decide, Tryz.func193.trans (congrArg some (by kernel_rfl))⟩
  f35 := ⟨Tryz.f194.name, by decide, Tryz.func194.trans (congrArg some (by kernel_rfl))⟩
  f40 := ⟨Tryz.f207.name, by decide, Tryz.func207.trans (congrArg some (by kernel_rfl))⟩
  t0 := Tryz.underlying0
  a0 := Tryz.isAgg0
  z0 := Tryz.sizeOf0
  v0 := Tryz.zeroValue0
  t3 := Tryz.underlying3
  a3 := Tryz.isAgg3
  z3 := Tryz.sizeOf3
  v3 := Tryz.zeroValue3
  t4 := Tryz.underlying4
  a4 := Tryz.isAgg4
  z4 := Tryz.sizeOf4
  v4 := Tryz.zeroValue4
  t5 := Tryz.underlying5
  a5 := Tryz.isAgg5
  z5 := Tryz.sizeOf5
  v5 := Tryz.zeroValue5
  t9 := Tryz.underlying9
  a9 := Tryz.isAgg9
  z9 := Tryz.sizeOf9
  v9 := Tryz.zeroValue9
  t22 := Tryz.underlying49
  a22 := Tryz.isAgg49
  z22 := Tryz.sizeOf49
  v22 := Tryz.zeroValue49
  t23 := Tryz.underlying49
  a23 := Tryz.isAgg49
  z23 := Tryz.sizeOf49
  v23 := Tryz.zeroValue49
  t25 := Tryz.underlying3
  a25 := Tryz.isAgg3
  z25 := Tryz.sizeOf3
  v25 := Tryz.zeroValue3
  t32 := Tryz.underlying138
  a32 := Tryz.isAgg138
  z32 := Tryz.sizeOf138
  v32 := Tryz.zeroValue138
  t35 := Tryz.underlying177
  a35 := Tryz.isAgg177
  z35 := Tryz.sizeOf177
  v35 := Tryz.zeroValue177
  t36 := Tryz.underlying178
  a36 := Tryz.isAgg178
  z36 := Tryz.sizeOf178
  v36 := Tryz.zeroValue178
  t41 := Tryz.underlying115
  a41 := Tryz.isAgg115
  z41 := Tryz.sizeOf115
  v41 := Tryz.zeroValue115
  t44 := Tryz.underlying184
  a44 := Tryz.isAgg184
  z44 := Tryz.sizeOf184
  v44 := Tryz.zeroValue184
  t46 := Tryz.underlying118
  a46 := Tryz.isAgg118
  z46 := Tryz.sizeOf118
  v46 := Tryz.zeroValue118
  t53 := Tryz.underlying204
  a53 := Tryz.isAgg204
  z53 := Tryz.sizeOf204
  v53 := Tryz.zeroValue204
  t57 := Tryz.underlying208
  a57 := Tryz.isAgg208
  z57 := Tryz.sizeOf208
  v57 := Tryz.zeroValue208
  t63 := Tryz.underlying221
  a63 := Tryz.isAgg221
  z63 := Tryz.sizeOf221
  v63 := Tryz.zeroValue221
  t64 := Tryz.underlying72
  a64 := Tryz.isAgg72
  z64 := Tryz.sizeOf72
  v64 := Tryz.zeroValue72 }
def compI_ren : Go.Shelf.Ren := ⟨fun | 43 => 82 | n => n, fun | 22 => 49 | 23 => 3 | 3 => 3 | 4 => 4 | 0 => 0 | n => n, fun | n => n⟩
theorem compI : Go.Proofs.SlLaysE.n43 Tryz.prog compI_ren := {
  mixed := by kernel_rfl
  f43 := ⟨Tryz.f82.name, by decide, Tryz.func82.trans (congrArg some (by kernel_rfl))⟩
  t0 := Tryz.underlying0
  a0 := Tryz.isAgg0
  z0 := Tryz.sizeOf0
  v0 := Tryz.zeroValue0
  t3 := Tryz.underlying3
  a3 := Tryz.isAgg3
  z3 := Tryz.sizeOf3
  v3 := Tryz.zeroValue3
  t4 := Tryz.underlying4
  a4 := Tryz.isAgg4
  z4 := Tryz.sizeOf4
  v4 := Tryz.zeroValue4
  t22 := Tryz.underlying49
  a22 := Tryz.isAgg49
  z22 := Tryz.sizeOf49
  v22 := Tryz.zeroValue49
  a23 := Tryz.isAgg3
  z23 := Tryz.sizeOf3 }
end Go.Proofs.YtjhkejkdnjogiaaGreatDoor
/- Numbers in memory: a list that is read, a row of one's own; sorted by the library, each once. -/
namespace Go.Proofs.YtjhkejkdnjogiaaGreatDoor.Is
open Go Go.RowKit Go.Shelf Go.Lib Go.Sort
set_option maxRecDepth 100000

abbrev enc : Int → Value := Value.int .i64
def flat (xs : List Int) : List Value := xs.map enc
theorem flat_length (xs : List Int) : (flat xs).length = xs.length * 1 := by simp [flat]
theorem flat_append (xs ys : List Int) : flat (xs ++ ys) = flat xs ++ flat ys := by simp [flat]
theorem flat_at (xs : List Int) (i : Nat) (h : i < xs.length) : (flat xs)[i]? = some (enc xs[i]) := by simp [flat, h]
theorem flat_one (xs : List Int) : ∀ u ∈ flat xs, u.oneCell' = true := by
  intro u hu
  obtain ⟨x, -, rfl⟩ := List.mem_map.1 hu
  rfl
theorem info3 : (Tryz.prog.info? 3).map (fun i => (i.zero, i.size, i.bytes)) = some (some (.int .i64 0), 1, 8) := by kernel_rfl
/-- a list that is read -/
structure Ls (W : World) (A : Option Addr) (c : Nat) (xs : List Int) : Prop where
  cap : xs.length ≤ c
  room : c ≤ maxLen
  nil : A = none → c = 0
  at' : ∀ a, A = some a → ∀ j u, (flat xs)[j]? = some u → W.cell? (a.add j) = some u
section
variable {W W' : World} {A : Option Addr} {c K : Nat} {xs ys : List Int}
theorem Ls.empty (h : Ls W none c xs) : xs = [] := by
  have h1 := h.cap
  have h2 := h.nil rfl
  exact List.length_eq_zero_iff.1 (by omega)
theorem Ls.below (h : Ls W A c xs) (hb : Below W.heap.size W W') : Ls W' A c xs :=
  ⟨h.cap, h.room, h.nil, fun a ha j u hj => by
    have := h.at' a ha j u hj
    rw [World.cell?_of_block (w := W) (a := a.add j) (hb.block _ (cell_lt this))]
    exact this⟩
theorem Ls.drewN (h : Ls W A c xs) (k : Nat) : Ls (W.drewN k) A c xs := ⟨h.cap, h.room, h.nil, h.at'⟩
theorem Ls.here (h : Ls W A c xs) {i : Nat} (hi : i < xs.length) : ∃ a, A = some a ∧ W.cell? (a.add i) = some (.int .i64 xs[i]) := by
  cases A with
  | none => have := h.empty; subst this; simp at hi
  | some a => exact ⟨a, rfl, h.at' a rfl _ _ (flat_at xs i hi)⟩
/-- one of one's own -/
abbrev Row (W : World) (K : Nat) (v : Value) (xs : List Int) : Prop := W.ownsRow K 3 1 v xs.length (flat xs)
theorem Row.ls {v : Value} (h : Row W K v xs) : ∃ A c, v = .slice A xs.length c ∧ Ls W A c xs := by
  rcases h.2 with ⟨rfl, h0⟩ | ⟨g, cap, cur, rfl, hb, hg, h1, h2, h3, h4⟩
  · have := List.length_eq_zero_iff.1 h0
    subst this
    exact ⟨none, 0, rfl, Nat.le_refl _, Nat.zero_le _, fun _ => rfl, by simp⟩
  · refine ⟨_, cap, rfl, by omega, h2, by simp, fun a ha j u hj => ?_⟩
    obtain rfl : (⟨g, 0, none⟩ : Addr) = a := by simpa using ha
    exact h.cells (g := g) rfl j u hj
theorem Ls.src (h : Ls W A c ys) : Src Tryz.prog 1 49 (.slice A ys.length c) ys.length (flat ys) W := by
  cases A with
  | none =>
    have := h.empty; subst this
    exact Src.ofNil W Tryz.underlying49 c
  | some a => exact Src.ofSlice W Tryz.underlying49 a ys.length c (flat ys) (flat_length ys) (h.at' a rfl) (flat_one ys)
/-- what is put behind a row of one's own -/
theorem Row.app {v : Value} (h : Row W K v xs) (hs : Ls W A c ys) (hl : xs.length + ys.length ≤ 1000000) (hK : K ≤ W.heap.size) (ty : TypeId) :
    ∃ v' W', (Builtin.append_ #[49, 49] ty #[v, .slice A ys.length c]).run Tryz.prog W = .ok v' W' ∧ Row W' K v' (xs ++ ys) ∧ W.grownBy W' v.ownBlock := by
  obtain ⟨i0, hi, hz0, hz1, hz2⟩ := info_parts info3
  cases A with
  | none =>
    have := hs.empty; subst this
    have hc := hs.nil rfl
    subst hc
    obtain ⟨A', c', rfl, hls⟩ := h.ls
    exact ⟨_, W, run_append_nothing (P := Tryz.prog) W 49 49 ty 3 i0 Tryz.underlying49 hi A' xs.length c' hls.cap _ (by rw [hz1]; exact hs.src), by rw [List.append_nil]; exact h, ⟨rfl, rfl, rfl, Nat.le_refl _, fun _ _ _ => rfl⟩⟩
  | some a =>
    obtain ⟨v', W', h1, h2, h3, -, -⟩ := run_append_own_at (P := Tryz.prog) W K 49 ty 3 i0 _ 1 8 Tryz.underlying49 hi hz0 hz1 hz2 rfl (by decide) v xs.length (flat xs) h a ys.length c (flat ys) (flat_length ys) (hs.at' a rfl) (flat_one ys) (by unfold maxLen; omega) (by omega) hK
    refine ⟨v', W', h1, ?_, h3⟩
    unfold Row
    rw [flat_append, List.length_append]
    exact h2
theorem Row.app_below {v : Value} (h : Row W K v xs) (hg : W.grownBy W' v.ownBlock) (hK : K ≤ W.heap.size) : Below K W W' :=
  OnlyS.below (S := fun k => v.ownBlock = some k) ((OnlyS.refl _ W).grown hg fun _ hk => .inl hk) (fun k hk => (h.lt k hk).1) hK
/-- two numbers in a block -/
theorem two_ls (W : World) (x y : Int) : Ls (W.alloc (.cells #[.int .i64 x, .int .i64 y] 3)) (some ⟨W.heap.size, 0, none⟩) 2 [x, y] := by
  refine ⟨Nat.le_refl _, by decide, by simp, fun a ha j u hj => ?_⟩
  obtain rfl : (⟨W.heap.size, 0, none⟩ : Addr) = a := by simpa using ha
  rw [add_at]
  match j, hj with
  | 0, hj => simp [flat] at hj; subst hj; simp [go_sem]
  | 1, hj => simp [flat] at hj; subst hj; simp [go_sem]
  | j + 2, hj => simp [flat] at hj
theorem box_ls (W : World) (x : Int) : Ls (W.alloc (.cells #[.int .i64 x] 3)) (some ⟨W.heap.size, 0, none⟩) 1 [x] := by
  refine ⟨Nat.le_refl _, by decide, by simp, fun a ha j u hj => ?_⟩
  obtain rfl : (⟨W.heap.size, 0, none⟩ : Addr) = a := by simpa using ha
  rw [add_at]
  match j, hj with
  | 0, hj => simp [flat] at hj; subst hj; simp [go_sem]
  | j + 1, hj => simp [flat] at hj
end
/-- a row of one's own, made since -/
structure Kp (W : World) (l : List Int) (v : Value) (w1 : World) : Prop where
  row : Row w1 W.heap.size v l
  bel : Below W.heap.size W w1
section
variable {W W' : World} {A : Option Addr} {c : Nat} {xs l : List Int} {v : Value}
theorem Kp.nil (W : World) : Kp W [] (.slice none 0 0) W := ⟨World.ownsRow_nil _ _ _ _, Below.refl _ _⟩
theorem Kp.below (h : Kp W l v W') {w2 : World} (hb : Below W'.heap.size W' w2) : Kp W l v w2 := ⟨row_below h.row hb, h.bel.trans (hb.mono h.bel.size)⟩
theorem Kp.join {n m q : Nat} {ys : List Int} (h : Kp W l v W') (hs : Ls W' A c ys) (hn : l.length = n) (hm : ys.length = m) (hq : n + m = q) (hl : q ≤ 1000000) (ty : TypeId) :
    ∃ A' c' w2, (Builtin.append_ #[49, 49] ty #[v, .slice A m c]).run Tryz.prog W' = .ok (.slice A' q c') w2 ∧ Kp W (l ++ ys) (.slice A' q c') w2 := by
  subst hn
  subst hm
  subst hq
  obtain ⟨v', w2, hrun, hrow, hg⟩ := h.row.app hs hl h.bel.size ty
  obtain ⟨A', c', rfl, -⟩ := hrow.ls
  rw [List.length_append] at hrun hrow
  exact ⟨A', c', w2, hrun, hrow, h.bel.trans (h.row.app_below hg h.bel.size)⟩
end
/-- numbers rise -/
def ltI (a b : Int) : Bool := decide (a < b)
theorem ordI : Od.Ordr ltI where
  irr a := by simp [ltI]
  tr a b c h1 h2 := by simp only [ltI, decide_eq_true_iff] at *; omega
  tot a b h1 h2 := by simp only [ltI, decide_eq_false_iff_not] at *; omega
def srt (xs : List Int) : List Int := xs.mergeSort fun x y => decide (x ≤ y)
theorem srt_perm (xs : List Int) : (srt xs).Perm xs := List.mergeSort_perm _ _
theorem srt_sorted (xs : List Int) : Od.Srt ltI (srt xs) := by
  have h := List.pairwise_mergeSort (le := fun x y : Int => decide (x ≤ y))
    (fun a b c h1 h2 => by simp only [decide_eq_true_iff] at *; omega)
    (fun a b => by simp only [Bool.or_eq_true, decide_eq_true_iff]; omega) xs
  refine h.imp fun {a b} hab => ?_
  simp only [decide_eq_true_iff] at hab
  simp only [ltI, decide_eq_false_iff_not]
  omega
theorem srt_can (xs : List Int) : Od.can ltI (srt xs) = Od.can ltI xs := Od.can_eq ordI fun _ => (srt_perm xs).mem_iff
theorem row_holds {W : World} {K g n cap : Nat} {xs : List Int} (h : Row W K (.slice (some ⟨g, 0, none⟩) n cap) xs) : Holds enc W g 0 xs.toArray := by
  intro j hj
  have hj' : j < xs.length := by simpa using hj
  have h1 := h.cells (g := g) rfl j _ (flat_at xs j hj')
  rw [add_at] at h1
  rcases h.2 with ⟨h0, _⟩ | ⟨g', cap', cur, e, _, hb, _⟩
  · cases h0
  · cases e
    refine ⟨?_, by rw [Nat.zero_add]; unfold World.frozen?; simp [hb]⟩
    rw [Nat.zero_add, h1, getElem!_pos _ j hj]
    simp
theorem put_heap {w : World} {g m : Nat} {ys : List Int} {os : Array Obj} {cur : Array Value} (hg : w.heap[g]? = some (.cells cur 3 (0, 0))) :
    (grow (putRow enc (Go.Sort.ahead w m) g 0 ys.toArray) os).heap[g]? = some (.cells (putCells enc 0 ys.toArray cur) 3 (0, 0)) ∧
    (∀ k, k ≠ g → k < w.heap.size → (grow (putRow enc (Go.Sort.ahead w m) g 0 ys.toArray) os).heap[k]? = w.heap[k]?) ∧ w.heap.size ≤ (grow (putRow enc (Go.Sort.ahead w m) g 0 ys.toArray) os).heap.size := by
  have hlt := (Array.getElem?_eq_some_iff.1 hg).1
  have e : (Go.Sort.ahead w m).heap = w.heap := rfl
  unfold putRow mapBlock grow
  rw [e]
  refine ⟨?_, fun k hk hks => ?_, ?_⟩
  · simp only [Array.getElem?_append, Array.size_modify]
    rw [if_pos hlt, Array.getElem?_modify, if_pos rfl, hg]
    rfl
  · simp only [Array.getElem?_append, Array.size_modify]
    rw [if_pos hks, Array.getElem?_modify, if_neg (Ne.symm hk)]
  · simp
theorem put_row {w : World} {K g n cap m : Nat} {xs ys : List Int} {os : Array Obj} (h : Row w K (.slice (some ⟨g, 0, none⟩) n cap) xs) (hl : ys.length = xs.length) :
    Row (grow (putRow enc (Go.Sort.ahead w m) g 0 ys.toArray) os) K (.slice (some ⟨g, 0, none⟩) n cap) ys ∧ OnlyS (· = g) w (grow (putRow enc (Go.Sort.ahead w m) g 0 ys.toArray) os) := by
  rcases h.2 with ⟨h0, _⟩ | ⟨g', cap', cur, e, hb, hg, h1, h2, h3, h4⟩
  · cases h0
  · cases e
    have hph := put_heap (m := m) (ys := ys) (os := os) hg
    refine ⟨⟨flat_length _, .inr ⟨g, cap, _, by rw [hl], hb, hph.1, by rw [hl]; exact h1, h2, by simp [putCells, h3], ?_⟩⟩, rfl, rfl, rfl, hph.2.2, fun k hk hn => hph.2.1 k hn hk⟩
    apply List.ext_getElem?
    intro k
    rw [List.getElem?_take]
    by_cases hk : k < ys.length * 1
    · have hk' : k < ys.length := by omega
      rw [if_pos hk, Array.getElem?_toList]
      have hc : k < cur.size := by rw [h3]; omega
      unfold putCells
      rw [Array.getElem?_mapIdx, Array.getElem?_eq_getElem hc]
      simp only [Option.map_some, Nat.zero_le, Nat.zero_add, true_and, List.size_toArray]
      rw [if_pos hk', flat_at ys k hk', Nat.sub_zero, getElem!_pos _ k (by simpa using hk')]
      simp
    · rw [if_neg hk, List.getElem?_eq_none (by rw [flat_length]; omega)]
section
variable {W : World} {K : Nat} {v : Value} {xs : List Int}
theorem sort_any (h : Row W K v xs) (hl : xs.length ≤ 1000000) : Calls Tryz.prog 81 #[v] W fun e w' => e = .returned (.tuple #[]) ∧ Row w' K v (srt xs) ∧ OnlyS (fun k => v.ownBlock = some k) W w' := by
  rcases h.2 with ⟨rfl, h0⟩ | ⟨g, cap, cur, rfl, hb, hg, h1, h2, h3, h4⟩
  · have := List.length_eq_zero_iff.1 h0
    subst this
    have hc := AnyM.slices_Sort_int_none sortI none 0 W
    refine Calls.mono (f := 81) hc ?_
    rintro e w' ⟨rfl, rfl⟩
    exact ⟨rfl, by simp only [srt, List.mergeSort_nil]; exact h, OnlyS.refl _ _⟩
  · have hlt := (Array.getElem?_eq_some_iff.1 hg).1
    have hc := calls_of_every_depth fun D => AnySM.slices_Sort_int_in sortI D g 0 cap xs W (row_holds h) hlt (by omega)
    refine Calls.mono (f := 81) hc ?_
    rintro e w' ⟨rfl, n, os, rfl⟩
    obtain ⟨k1, k2⟩ := put_row (m := n) (os := os) (ys := srt xs) h (srt_perm xs).length_eq
    exact ⟨rfl, k1, k2.mono fun k _ hk => by rw [hk]; rfl⟩
theorem compact_any (h : Row W K v xs) (hl : xs.length ≤ 1000000) (hs : Od.Srt ltI xs) : Calls Tryz.prog 82 #[v] W fun e w' => ∃ v', e = .returned v' ∧ Row w' K v' (Od.can ltI xs) ∧ OnlyS (fun k => v.ownBlock = some k) W w' := by
  rcases h.2 with ⟨rfl, h0⟩ | ⟨g, cap, cur, rfl, hb, hg, h1, h2, h3, h4⟩
  · have := List.length_eq_zero_iff.1 h0
    subst this
    have HR := Lib.hid h
    clear h
    go_enter Tryz.func82, Tryz.ntmps82
    go_wp2
    go_ret
    exact ⟨_, rfl, HR.out, OnlyS.refl _ _⟩
  · have hc := AnyE.slices_Compact compI enc (fun _ => rfl) (EqlAt.intD _ _ _) (NeqAt.intD _ _ _) 0 Tryz.zeroValue3 g 0 cap xs.toArray W (row_holds h) (by simp; omega) (by simpa using h1)
    refine Calls.mono (f := 82) hc ?_
    rintro e w' ⟨rfl, q, rfl⟩
    rw [Od.compact_can ordI hs]
    have hcl := Od.can_len (lt := ltI) xs
    have hlen : (Od.can ltI xs ++ List.replicate (xs.toArray.size - (Od.can ltI xs).length) (0 : Int)).length = xs.length := by simp; omega
    obtain ⟨k1, k2⟩ := put_row (m := q) (os := #[]) (ys := Od.can ltI xs ++ List.replicate (xs.toArray.size - (Od.can ltI xs).length) (0 : Int)) h hlen
    rw [grow_empty] at k1 k2
    refine ⟨_, rfl, ?_, k2.mono fun k _ hk => by rw [hk]; rfl⟩
    unfold Row at k1
    rw [hlen] at k1
    have k3 := row_cut k1 hcl
    rw [Nat.mul_one, flat_append, List.take_left' (by rw [flat_length, Nat.mul_one])] at k3
    exact k3
/-- rising, each once -/
theorem rising_any (h : Row W K v xs) (hK : K ≤ W.heap.size) (hl : xs.length ≤ 1000000) : Calls Tryz.prog 43 #[v] W fun e w' => ∃ v', e = .returned v' ∧ Row w' K v' (Od.can ltI xs) ∧ Below K W w' := by
  have HS := Lib.hid (sort_any h hl)
  have HV := Lib.hid (fun k (hk : v.ownBlock = some k) => (h.lt k hk).1)
  have HL := Lib.hid (show (srt xs).length ≤ 1000000 by rw [(srt_perm xs).length_eq]; exact hl)
  have HK := Lib.hid hK
  obtain ⟨A, c, rfl, -⟩ := h.ls
  generalize xs.length = n at *
  clear h hl hK
  go_enter Tryz.func43, Tryz.ntmps43
  go_wp2_with fail
  refine HS.out.mono ?_
  rintro e w1 ⟨rfl, hr1, ho1⟩
  have HB1 := Lib.hid (ho1.below HV.out HK.out)
  have HC := Lib.hid (compact_any hr1 HL.out (srt_sorted xs))
  rw [srt_can] at HC
  clear hr1 ho1 HS
  go_wp2_with fail
  refine HC.out.mono ?_
  rintro e w2 ⟨v2, rfl, hr2, ho2⟩
  have HR2 := Lib.hid hr2
  have HB2 := Lib.hid (HB1.out.trans (ho2.below HV.out (Nat.le_trans HK.out HB1.out.size)))
  clear hr2 ho2 HC
  go_wp2_with fail
  go_ret
  exact ⟨v2, rfl, HR2.out, HB2.out⟩
end
end Go.Proofs.YtjhkejkdnjogiaaGreatDoor.Is
/- To whom edges of one go; all numbers that stand in edges. -/
namespace Go.Proofs.YtjhkejkdnjogiaaGreatDoor
open Go Go.RowKit Go.Shelf
set_option maxRecDepth 100000

/-- numbers of one's own, handed back -/
def Is.Rows (W : World) (xs : List Int) (e : Ending) (w' : World) : Prop := ∃ v, e = .returned v ∧ Is.Row w' W.heap.size v xs ∧ Below W.heap.size W w'
/-- to whom edges of one go -/
def fromL (tx : Int) (l : List Es.Ed) : List Int := (l.filter fun e => e.1 == tx).map fun e => e.2
theorem fromL_no {tx : Int} {l : List Es.Ed} {k : Nat} (hk : k < l.length) (h : (l[k].1 == tx) = false) : fromL tx (l.take (k + 1)) = fromL tx (l.take k) := by
  unfold fromL
  rw [List.take_succ_eq_append_getElem hk, List.filter_append]
  simp [h]
theorem fromL_yes {tx : Int} {l : List Es.Ed} {k : Nat} (hk : k < l.length) (h : (l[k].1 == tx) = true) : fromL tx (l.take (k + 1)) = fromL tx (l.take k) ++ [l[k].2] := by
  unfold fromL
  rw [List.take_succ_eq_append_getElem hk, List.filter_append]
  simp [h]
theorem fromL_len (tx : Int) (l : List Es.Ed) : (fromL tx l).length ≤ l.length := by
  unfold fromL
  rw [List.length_map]
  exact List.length_filter_le _ _
/-- all numbers -/
def nodesL (l : List Es.Ed) : List Int := l.flatMap fun e => [e.1, e.2]
theorem nodesL_succ {l : List Es.Ed} {k : Nat} (hk : k < l.length) : nodesL (l.take (k + 1)) = nodesL (l.take k) ++ [l[k].1, l[k].2] := by
  unfold nodesL
  rw [List.take_succ_eq_append_getElem hk, List.flatMap_append]
  simp
theorem nodesL_len (l : List Es.Ed) : (nodesL l).length = 2 * l.length := by
  unfold nodesL
  induction l with
  | nil => rfl
  | cons x xs ih => rw [List.flatMap_cons, List.length_append, ih]; simp; omega
section
variable {W : World} {A : Option Addr} {c : Nat} {l : List Es.Ed}
theorem Is.Kp.rising {W' : World} {v : Value} {xs : List Int} {n : Nat} (h : Is.Kp W xs v W') (hn : xs.length = n) (hl : n ≤ 1000000) : Calls Tryz.prog 43 #[v] W' fun e w' => Is.Rows W (Od.can Is.ltI xs) e w' :=
  (Is.rising_any h.row h.bel.size (by omega)).mono fun _ _ ⟨v', he, hr, hb⟩ => ⟨v', he, hr, h.bel.trans hb⟩
set_option maxHeartbeats 4000000 in
theorem from_any (hr : Es.Ls W A c l) (hl : l.length ≤ 300000) (tx : Int) : Calls Tryz.prog 19 #[.slice A l.length c, .int .i64 tx] W (Is.Rows W (Od.can Is.ltI (fromL tx l))) := by
  have HR := Lib.hid hr
  obtain ⟨n, hn⟩ : ∃ n, l.length = n := ⟨_, rfl⟩
  rw [hn] at hl ⊢
  have HN := Lib.hid hn
  clear hr hn
  go_enter Tryz.func19, Tryz.ntmps19
  go_wp2_with fail
  go_loopw [10, 5] (fun t v wr => ∃ j : Nat, j ≤ n ∧ t = .int .i64 j ∧ Is.Kp W (fromL tx (l.take j)) v wr) (fun t _ _ => n - (intOf t).toNat)
  case atStart => exact ⟨0, by omega, rfl, Is.Kp.nil W⟩
  case round =>
    obtain ⟨j, hj, rfl, hk⟩ := hrel
    have K0 := Lib.hid hk
    obtain ⟨A0, c0', ev, -⟩ := hk.row.ls
    subst ev
    obtain ⟨q, hq⟩ : ∃ q, (fromL tx (l.take j)).length = q := ⟨_, rfl⟩
    have hq1 : q ≤ j := by rw [← hq]; refine Nat.le_trans (fromL_len _ _) ?_; rw [List.length_take]; omega
    have HQ := Lib.hid hq
    clear hk
    rw [hq] at K0 ⊢
    clear hq
    by_cases hjn : j < n
    · have hjl : j < l.length := by rw [HN.out]; exact hjn
      obtain ⟨a, rfl, hh⟩ := (HR.out.below K0.out.bel).here hjl
      obtain ⟨c0, c1⟩ := hh
      obtain ⟨x, hx⟩ : ∃ x, l[j] = x := ⟨_, rfl⟩
      have HX := Lib.hid (show ∃ h : j < l.length, l[j] = x from ⟨hjl, hx⟩)
      rw [hx] at c0 c1
      have hb1 := box_below wr (.cells #[.int .i64 x.1, .int .i64 x.2] 47)
      have K1 := Lib.hid (K0.out.below hb1)
      clear hx hjl
      by_cases ht : x.1 = tx
      · have HE := Lib.hid (show fromL tx (l.take (j + 1)) = fromL tx (l.take j) ++ [x.2] by
          obtain ⟨h, e⟩ := HX.out
          rw [fromL_yes h (by rw [e]; simpa using ht), e])
        obtain ⟨A', c', w6, hrun, hk6⟩ := (K1.out.below (box_below _ (.cells #[.int .i64 x.2] 3))).join (Is.box_ls _ x.2) HQ.out rfl rfl (by simp; omega) 49
        have K6 := Lib.hid hk6
        obtain ⟨t, m⟩ := x
        simp only at c0 c1 ht
        simp only [List.length_cons, List.length_nil, Nat.zero_add] at hrun K6
        rw [show (wr.alloc (.cells #[.int .i64 t, .int .i64 m] 47)).heap.size = wr.heap.size + 1 by simp] at hrun
        subst ht
        clear hk6 hb1 K1
        go_wp2_with (at_builtin; refine Lib.wpList_append_run _ rfl _ _ _ _ rfl _ _ rfl rfl _ _ hrun ?_)
        go_roundw
        case rel => exact ⟨j + 1, by omega, by go_num, by rw [HE.out]; exact K6.out⟩
        case measure => simp [intOf]; omega
      · have HE := Lib.hid (show fromL tx (l.take (j + 1)) = fromL tx (l.take j) by
          obtain ⟨h, e⟩ := HX.out
          exact fromL_no h (by rw [e]; simpa using ht))
        obtain ⟨t, m⟩ := x
        simp only at c0 c1 ht K1
        have ht' : (t == tx) = false := by simpa using ht
        clear hb1 ht
        go_wp2_with fail
        go_roundw
        case rel => exact ⟨j + 1, by omega, by go_num, by rw [HE.out]; exact K1.out⟩
        case measure => simp [intOf]; omega
    · obtain rfl : j = n := by omega
      have HE := Lib.hid (show fromL tx (l.take j) = fromL tx l by rw [List.take_of_length_le (Nat.le_of_eq HN.out)])
      have HZ := Lib.hid (K0.out.rising HQ.out (by omega))
      rw [HE.out] at HZ
      clear K0
      go_wp2_with fail
      refine HZ.out.mono ?_
      rintro e w7 ⟨v7, rfl, hr7, hb7⟩
      have HF := Lib.hid (show Is.Rows W (Od.can Is.ltI (fromL tx l)) (.returned v7) w7 from ⟨v7, rfl, hr7, hb7⟩)
      clear hr7 hb7
      go_wp2_with fail
      go_ret
      exact HF.out
set_option maxHeartbeats 4000000 in
theorem nodes_any (hr : Es.Ls W A c l) (hl : l.length ≤ 300000) : Calls Tryz.prog 21 #[.slice A l.length c] W (Is.Rows W (Od.can Is.ltI (nodesL l))) := by
  have HR := Lib.hid hr
  obtain ⟨n, hn⟩ : ∃ n, l.length = n := ⟨_, rfl⟩
  rw [hn] at hl ⊢
  have HN := Lib.hid hn
  clear hr hn
  go_enter Tryz.func21, Tryz.ntmps21
  go_wp2_with fail
  go_loopw [8, 3] (fun t v wr => ∃ j : Nat, j ≤ n ∧ t = .int .i64 j ∧ Is.Kp W (nodesL (l.take j)) v wr) (fun t _ _ => n - (intOf t).toNat)
  case atStart => exact ⟨0, by omega, rfl, Is.Kp.nil W⟩
  case round =>
    obtain ⟨j, hj, rfl, hk⟩ := hrel
    have K0 := Lib.hid hk
    obtain ⟨A0, c0', ev, -⟩ := hk.row.ls
    subst ev
    obtain ⟨q, hq⟩ : ∃ q, (nodesL (l.take j)).length = q := ⟨_, rfl⟩
    have hq1 : q ≤ 2 * j := by rw [← hq, nodesL_len, List.length_take]; omega
    have HQ := Lib.hid hq
    clear hk
    rw [hq] at K0 ⊢
    clear hq
    by_cases hjn : j < n
    · have hjl : j < l.length := by rw [HN.out]; exact hjn
      obtain ⟨a, rfl, hh⟩ := (HR.out.below K0.out.bel).here hjl
      obtain ⟨c0, c1⟩ := hh
      obtain ⟨x, hx⟩ : ∃ x, l[j] = x := ⟨_, rfl⟩
      have HE := Lib.hid (show nodesL (l.take (j + 1)) = nodesL (l.take j) ++ [x.1, x.2] by rw [nodesL_succ hjl, hx])
      rw [hx] at c0 c1
      have hb1 := box_below wr (.cells #[.int .i64 x.1, .int .i64 x.2] 47)
      have K1 := Lib.hid (K0.out.below hb1)
      obtain ⟨A', c', w6, hrun, hk6⟩ := (K1.out.below (box_below _ (.cells #[.int .i64 x.1, .int .i64 x.2] 3))).join (Is.two_ls _ x.1 x.2) HQ.out rfl rfl (by simp; omega) 49
      have K6 := Lib.hid hk6
      obtain ⟨t, m⟩ := x
      simp only at c0 c1 HE
      simp only [List.length_cons, List.length_nil, Nat.zero_add, Nat.reduceAdd] at hrun K6
      rw [show (wr.alloc (.cells #[.int .i64 t, .int .i64 m] 47)).heap.size = wr.heap.size + 1 by simp] at hrun
      clear hk6 hb1 K1 hx hjl
      go_wp2_with (at_builtin; refine Lib.wpList_append_run _ rfl _ _ _ _ rfl _ _ rfl rfl _ _ hrun ?_)
      go_roundw
      case rel => exact ⟨j + 1, by omega, by go_num, by rw [HE.out]; exact K6.out⟩
      case measure => simp [intOf]; omega
    · obtain rfl : j = n := by omega
      have HE := Lib.hid (show nodesL (l.take j) = nodesL l by rw [List.take_of_length_le (Nat.le_of_eq HN.out)])
      have HZ := Lib.hid (K0.out.rising HQ.out (by omega))
      rw [HE.out] at HZ
      clear K0
      go_wp2_with fail
      refine HZ.out.mono ?_
      rintro e w7 ⟨v7, rfl, hr7, hb7⟩
      have HF := Lib.hid (show Is.Rows W (Od.can Is.ltI (nodesL l)) (.returned v7) w7 from ⟨v7, rfl, hr7, hb7⟩)
      clear hr7 hb7
      go_wp2_with fail
      go_ret
      exact HF.out
end
end Go.Proofs.YtjhkejkdnjogiaaGreatDoor
