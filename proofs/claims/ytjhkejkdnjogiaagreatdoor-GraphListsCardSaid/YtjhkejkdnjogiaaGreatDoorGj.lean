/- Numbers in memory: a list that is read, a row of one's own; sorted by the library, each once. -/
import Derived.Test.YtjhkejkdnjogiaaGreatDoorGi
import Derived.Test.YtjhkejkdnjogiaaGreatDoorGb
import Derived.Test.YtjhkejkdnjogiaaGreatDoorGa
namespace Go.Proofs.YtjhkejkdnjogiaaGreatDoor.Is
open Go Go.RowKit Go.Shelf Go.Lib Go.Sort
set_option maxRecDepth 100000

abbrev enc : Int → Value := Value.int .i64
def flat (xs : List Int) : List Value := xs.map enc
theorem flat_length (xs : List Int) : (flat xs).length = xs.length * 1 := by simp [flat]
theorem flat_append (xs ys : List Int) : flat (xs ++ ys) = flat xs ++ flat ys := by simp [flat]
theorem flat_at (xs : List Int) (i : Nat) (h : i < xs.length) : (flat xs)[i]? = some (enc xs[i]) := by simp [flat, h]
theorem flat_one (xs : List Int) : ∀ u ∈ flat xs, u.oneCell' = true := by
  intro u hu
  obtain ⟨x, -, rfl⟩ := List.mem_map.1 hu
  rfl
theorem info3 : (Tryz.prog.info? 3).map (fun i => (i.zero, i.size, i.bytes)) = some (some (.int .i64 0), 1, 8) := by kernel_rfl
/-- a list that is read -/
structure Ls (W : World) (A : Option Addr) (c : Nat) (xs : List Int) : Prop where
  cap : xs.length ≤ c
  room : c ≤ maxLen
  nil : A = none → c = 0
  at' : ∀ a, A = some a → ∀ j u, (flat xs)[j]? = some u → W.cell? (a.add j) = some u
section
variable {W W' : World} {A : Option Addr} {c K : Nat} {xs ys : List Int}
theorem Ls.empty (h : Ls W none c xs) : xs = [] := by
  have h1 := h.cap
  have h2 := h.nil rfl
  exact List.length_eq_zero_iff.1 (by omega)
theorem Ls.below (h : Ls W A c xs) (hb : Below W.heap.size W W') : Ls W' A c xs :=
  ⟨h.cap, h.room, h.nil, fun a ha j u hj => by
    have := h.at' a ha j u hj
    rw [World.cell?_of_block (w := W) (a := a.add j) (hb.block _ (cell_lt this))]
    exact this⟩
theorem Ls.drewN (h : Ls W A c xs) (k : Nat) : Ls (W.drewN k) A c xs := ⟨h.cap, h.room, h.nil, h.at'⟩
theorem Ls.here (h : Ls W A c xs) {i : Nat} (hi : i < xs.length) : ∃ a, A = some a ∧ W.cell? (a.add i) = some (.int .i64 xs[i]) := by
  cases A with
  | none => have := h.empty; subst this; simp at hi
  | some a => exact ⟨a, rfl, h.at' a rfl _ _ (flat_at xs i hi)⟩
/-- one of one's own -/
abbrev Row (W : World) (K : Nat) (v : Value) (xs : List Int) : Prop := W.ownsRow K 3 1 v xs.length (flat xs)
theorem Row.ls {v : Value} (h : Row W K v xs) : ∃ A c, v = .slice A xs.length c ∧ Ls W A c xs := by
  rcases h.2 with ⟨rfl, h0⟩ | ⟨g, cap, cur, rfl, hb, hg, h1, h2, h3, h4⟩
  · have := List.length_eq_zero_iff.1 h0
    subst this
    exact ⟨none, 0, rfl, Nat.le_refl _, Nat.zero_le _, fun _ => rfl, by simp⟩
  · refine ⟨_, cap, rfl, by omega, h2, by simp, fun a ha j u hj => ?_⟩
    obtain rfl : (⟨g, 0, none⟩ : Addr) = a := by simpa using ha
    exact h.cells (g := g) rfl j u hj
theorem Ls.src (h : Ls W A c ys) : Src Tryz.prog 1 49 (.slice A ys.length c) ys.length (flat ys) W := by
  cases A with
  | none =>
    have := h.empty; subst this
    exact Src.ofNil W Tryz.underlying49 c
  | some a => exact Src.ofSlice W Tryz.underlying49 a ys.length c (flat ys) (flat_length ys) (h.at' a rfl) (flat_one ys)
/-- what is put behind a row of one's own -/
theorem Row.app {v : Value} (h : Row W K v xs) (hs : Ls W A c ys) (hl : xs.length + ys.length ≤ 1000000) (hK : K ≤ W.heap.size) (ty : TypeId) :
    ∃ v' W', (Builtin.append_ #[49, 49] ty #[v, .slice A ys.length c]).run Tryz.prog W = .ok v' W' ∧ Row W' K v' (xs ++ ys) ∧ W.grownBy W' v.ownBlock := by
  obtain ⟨i0, hi, hz0, hz1, hz2⟩ := info_parts info3
  cases A with
  | none =>
    have := hs.empty; subst this
    have hc := hs.nil rfl
    subst hc
    obtain ⟨A', c', rfl, hls⟩ := h.ls
    exact ⟨_, W, run_append_nothing (P := Tryz.prog) W 49 49 ty 3 i0 Tryz.underlying49 hi A' xs.length c' hls.cap _ (by rw [hz1]; exact hs.src), by rw [List.append_nil]; exact h, ⟨rfl, rfl, rfl, Nat.le_refl _, fun _ _ _ => rfl⟩⟩
  | some a =>
    obtain ⟨v', W', h1, h2, h3, -, -⟩ := run_append_own_at (P := Tryz.prog) W K 49 ty 3 i0 _ 1 8 Tryz.underlying49 hi hz0 hz1 hz2 rfl (by decide) v xs.length (flat xs) h a ys.length c (flat ys) (flat_length ys) (hs.at' a rfl) (flat_one ys) (by unfold maxLen; omega) (by omega) hK
    refine ⟨v', W', h1, ?_, h3⟩
    unfold Row
    rw [flat_append, List.length_append]
    exact h2
theorem Row.app_below {v : Value} (h : Row W K v xs) (hg : W.grownBy W' v.ownBlock) (hK : K ≤ W.heap.size) : Below K W W' :=
  OnlyS.below (S := fun k => v.ownBlock = some k) ((OnlyS.refl _ W).grown hg fun _ hk => .inl hk) (fun k hk => (h.lt k hk).1) hK
/-- two numbers in a block -/
theorem two_ls (W : World) (x y : Int) : Ls (W.alloc (.cells #[.int .i64 x, .int .i64 y] 3)) (some ⟨W.heap.size, 0, none⟩) 2 [x, y] := by
  refine ⟨Nat.le_refl _, by decide, by simp, fun a ha j u hj => ?_⟩
  obtain rfl : (⟨W.heap.size, 0, none⟩ : Addr) = a := by simpa using ha
  rw [add_at]
  match j, hj with
  | 0, hj => simp [flat] at hj; subst hj; simp [go_sem]
  | 1, hj => simp [flat] at hj; subst hj; simp [go_sem]
  | j + 2, hj => simp [flat] at hj
theorem box_ls (W : World) (x : Int) : Ls (W.alloc (.cells #[.int .i64 x] 3)) (some ⟨W.heap.size, 0, none⟩) 1 [x] := by
  refine ⟨Nat.le_refl _, by decide, by simp, fun a ha j u hj => ?_⟩
  obtain rfl : (⟨W.heap.size, 0, none⟩ : Addr) = a := by simpa using ha
  rw [add_at]
  match j, hj with
  | 0, hj => simp [flat] at hj; subst hj; simp [go_sem]
  | j + 1, hj => simp [flat] at hj
end
/-- a row of one's own, made since -/
structure Kp (W : World) (l : List Int) (v : Value) (w1 : World) : Prop where
  row : Row w1 W.heap.size v l
  bel : Below W.heap.size W w1
section
variable {W W' : World} {A : Option Addr} {c : Nat} {xs l : List Int} {v : Value}
theorem Kp.nil (W : World) : Kp W [] (.slice none 0 0) W := ⟨World.ownsRow_nil _ _ _ _, Below.refl _ _⟩
theorem Kp.below (h : Kp W l v W') {w2 : World} (hb : Below W'.heap.size W' w2) : Kp W l v w2 := ⟨row_below h.row hb, h.bel.trans (hb.mono h.bel.size)⟩
theorem Kp.join {n m q : Nat} {ys : List Int} (h : Kp W l v W') (hs : Ls W' A c ys) (hn : l.length = n) (hm : ys.length = m) (hq : n + m = q) (hl : q ≤ 1000000) (ty : TypeId) :
    ∃ A' c' w2, (Builtin.append_ #[49, 49] ty #[v, .slice A m c]).run Tryz.prog W' = .ok (.slice A' q c') w2 ∧ Kp W (l ++ ys) (.slice A' q c') w2 := by
  subst hn
  subst hm
  subst hq
  obtain ⟨v', w2, hrun, hrow, hg⟩ := h.row.app hs hl h.bel.size ty
  obtain ⟨A', c', rfl, -⟩ := hrow.ls
  rw [List.length_append] at hrun hrow
  exact ⟨A', c', w2, hrun, hrow, h.bel.trans (h.row.app_below hg h.bel.size)⟩
end
/-- numbers rise -/
def ltI (a b : Int) : Bool := decide (a < b)
theorem ordI : Od.Ordr ltI where
  irr a := by simp [ltI]
  tr a b c h1 h2 := by simp only [ltI, decide_eq_true_iff] at *; omega
  tot a b h1 h2 := by simp only [ltI, decide_eq_false_iff_not] at *; omega
def srt (xs : List Int) : List Int := xs.mergeSort fun x y => decide (x ≤ y)
theorem srt_perm (xs : List Int) : (srt xs).Perm xs := List.mergeSort_perm _ _
theorem srt_sorted (xs : List Int) : Od.Srt ltI (srt xs) := by
  have h := List.pairwise_mergeSort (le := fun x y : Int => decide (x ≤ y))
    (fun a b c h1 h2 => by simp only [decide_eq_true_iff] at *; omega)
    (fun a b => by simp only [Bool.or_eq_true, decide_eq_true_iff]; omega) xs
  refine h.imp fun {a b} hab => ?_
  simp only [decide_eq_true_iff] at hab
  simp only [ltI, decide_eq_false_iff_not]
  omega
theorem srt_can (xs : List Int) : Od.can ltI (srt xs) = Od.can ltI xs := Od.can_eq ordI fun _ => (srt_perm xs).mem_iff
theorem row_holds {W : World} {K g n cap : Nat} {xs : List Int} (h : Row W K (.slice (some ⟨g, 0, none⟩) n cap) xs) : Holds enc W g 0 xs.toArray := by
  intro j hj
  have hj' : j < xs.length := by simpa using hj
  have h1 := h.cells (g := g) rfl j _ (flat_at xs j hj')
  rw [add_at] at h1
  rcases h.2 with ⟨h0, _⟩ | ⟨g', cap', cur, e, _, hb, _⟩
  · cases h0
  · cases e
    refine ⟨?_, by rw [Nat.zero_add]; unfold World.frozen?; simp [hb]⟩
    rw [Nat.zero_add, h1, getElem!_pos _ j hj]
    simp
theorem put_heap {w : World} {g m : Nat} {ys : List Int} {os : Array Obj} {cur : Array Value} (hg : w.heap[g]? = some (.cells cur 3 (0, 0))) :
    (grow (putRow enc (Go.Sort.ahead w m) g 0 ys.toArray) os).heap[g]? = some (.cells (putCells enc 0 ys.toArray cur) 3 (0, 0)) ∧
    (∀ k, k ≠ g → k < w.heap.size → (grow (putRow enc (Go.Sort.ahead w m) g 0 ys.toArray) os).heap[k]? = w.heap[k]?) ∧ w.heap.size ≤ (grow (putRow enc (Go.Sort.ahead w m) g 0 ys.toArray) os).heap.size := by
  have hlt := (Array.getElem?_eq_some_iff.1 hg).1
  have e : (Go.Sort.ahead w m).heap = w.heap := rfl
  unfold putRow mapBlock grow
  rw [e]
  refine ⟨?_, fun k hk hks => ?_, ?_⟩
  · simp only [Array.getElem?_append, Array.size_modify]
    rw [if_pos hlt, Array.getElem?_modify, if_pos rfl, hg]
    rfl
  · simp only [Array.getElem?_append, Array.size_modify]
    rw [if_pos hks, Array.getElem?_modify, if_neg (Ne.symm hk)]
  · simp
theorem put_row {w : World} {K g n cap m : Nat} {xs ys : List Int} {os : Array Obj} (h : Row w K (.slice (some ⟨g, 0, none⟩) n cap) xs) (hl : ys.length = xs.length) :
    Row (grow (putRow enc (Go.Sort.ahead w m) g 0 ys.toArray) os) K (.slice (some ⟨g, 0, none⟩) n cap) ys ∧ OnlyS (· = g) w (grow (putRow enc (Go.Sort.ahead w m) g 0 ys.toArray) os) := by
  rcases h.2 with ⟨h0, _⟩ | ⟨g', cap', cur, e, hb, hg, h1, h2, h3, h4⟩
  · cases h0
  · cases e
    have hph := put_heap (m := m) (ys := ys) (os := os) hg
    refine ⟨⟨flat_length _, .inr ⟨g, cap, _, by rw [hl], hb, hph.1, by rw [hl]; exact h1, h2, by simp [putCells, h3], ?_⟩⟩, rfl, rfl, rfl, hph.2.2, fun k hk hn => hph.2.1 k hn hk⟩
    apply List.ext_getElem?
    intro k
    rw [List.getElem?_take]
    by_cases hk : k < ys.length * 1
    · have hk' : k < ys.length := by omega
      rw [if_pos hk, Array.getElem?_toList]
      have hc : k < cur.size := by rw [h3]; omega
      unfold putCells
      rw [Array.getElem?_mapIdx, Array.getElem?_eq_getElem hc]
      simp only [Option.map_some, Nat.zero_le, Nat.zero_add, true_and, List.size_toArray]
      rw [if_pos hk', flat_at ys k hk', Nat.sub_zero, getElem!_pos _ k (by simpa using hk')]
      simp
    · rw [if_neg hk, List.getElem?_eq_none (by rw [flat_length]; omega)]
section
variable {W : World} {K : Nat} {v : Value} {xs : List Int}
theorem sort_any (h : Row W K v xs) (hl : xs.length ≤ 1000000) : Calls Tryz.prog 81 #[v] W fun e w' => e = .returned (.tuple #[]) ∧ Row w' K v (srt xs) ∧ OnlyS (fun k => v.ownBlock = some k) W w' := by
  rcases h.2 with ⟨rfl, h0⟩ | ⟨g, cap, cur, rfl, hb, hg, h1, h2, h3, h4⟩
  · have := List.length_eq_zero_iff.1 h0
    subst this
    have hc := AnyM.slices_Sort_int_none sortI none 0 W
    refine Calls.mono (f := 81) hc ?_
    rintro e w' ⟨rfl, rfl⟩
    exact ⟨rfl, by simp only [srt, List.mergeSort_nil]; exact h, OnlyS.refl _ _⟩
  · have hlt := (Array.getElem?_eq_some_iff.1 hg).1
    have hc := calls_of_every_depth fun D => AnySM.slices_Sort_int_in sortI D g 0 cap xs W (row_holds h) hlt (by omega)
    refine Calls.mono (f := 81) hc ?_
    rintro e w' ⟨rfl, n, os, rfl⟩
    obtain ⟨k1, k2⟩ := put_row (m := n) (os := os) (ys := srt xs) h (srt_perm xs).length_eq
    exact ⟨rfl, k1, k2.mono fun k _ hk => by rw [hk]; rfl⟩
theorem compact_any (h : Row W K v xs) (hl : xs.length ≤ 1000000) (hs : Od.Srt ltI xs) : Calls Tryz.prog 82 #[v] W fun e w' => ∃ v', e = .returned v' ∧ Row w' K v' (Od.can ltI xs) ∧ OnlyS (fun k => v.ownBlock = some k) W w' := by
  rcases h.2 with ⟨rfl, h0⟩ | ⟨g, cap, cur, rfl, hb, hg, h1, h2, h3, h4⟩
  · have := List.length_eq_zero_iff.1 h0
    subst this
    have HR := Lib.hid h
    clear h
    go_enter Tryz.func82, Tryz.ntmps82
    go_wp2
    go_ret
    exact ⟨_, rfl, HR.out, OnlyS.refl _ _⟩
  · have hc := AnyE.slices_Compact compI enc (fun _ => rfl) (EqlAt.intD _ _ _) (NeqAt.intD _ _ _) 0 Tryz.zeroValue3 g 0 cap xs.toArray W (row_holds h) (by simp; omega) (by simpa using h1)
    refine Calls.mono (f := 82) hc ?_
    rintro e w' ⟨rfl, q, rfl⟩
    rw [Od.compact_can ordI hs]
    have hcl := Od.can_len (lt := ltI) xs
    have hlen : (Od.can ltI xs ++ List.replicate (xs.toArray.size - (Od.can ltI xs).length) (0 : Int)).length = xs.length := by simp; omega
    obtain ⟨k1, k2⟩ := put_row (m := q) (os := #[]) (ys := Od.can ltI xs ++ List.replicate (xs.toArray.size - (Od.can ltI xs).length) (0 : Int)) h hlen
    rw [grow_empty] at k1 k2
    refine ⟨_, rfl, ?_, k2.mono fun k _ hk => by rw [hk]; rfl⟩
    unfold Row at k1
    rw [hlen] at k1
    have k3 := row_cut k1 hcl
    rw [Nat.mul_one, flat_append, List.take_left' (by rw [flat_length, Nat.mul_one])] at k3
    exact k3
/-- rising, each once -/
theorem rising_any (h : Row W K v xs) (hK : K ≤ W.heap.size) (hl : xs.length ≤ 1000000) : Calls Tryz.prog 43 #[v] W fun e w' => ∃ v', e = .returned v' ∧ Row w' K v' (Od.can ltI xs) ∧ Below K W w' := by
  have HS := Lib.hid (sort_any h hl)
  have HV := Lib.hid (fun k (hk : v.ownBlock = some k) => (h.lt k hk).1)
  have HL := Lib.hid (show (srt xs).length ≤ 1000000 by rw [(srt_perm xs).length_eq]; exact hl)
  have HK := Lib.hid hK
  obtain ⟨A, c, rfl, -⟩ := h.ls
  generalize xs.length = n at *
  clear h hl hK
  go_enter Tryz.func43, Tryz.ntmps43
  go_wp2_with fail
  refine HS.out.mono ?_
  rintro e w1 ⟨rfl, hr1, ho1⟩
  have HB1 := Lib.hid (ho1.below HV.out HK.out)
  have HC := Lib.hid (compact_any hr1 HL.out (srt_sorted xs))
  rw [srt_can] at HC
  clear hr1 ho1 HS
  go_wp2_with fail
  refine HC.out.mono ?_
  rintro e w2 ⟨v2, rfl, hr2, ho2⟩
  have HR2 := Lib.hid hr2
  have HB2 := Lib.hid (HB1.out.trans (ho2.below HV.out (Nat.le_trans HK.out HB1.out.size)))
  clear hr2 ho2 HC
  go_wp2_with fail
  go_ret
  exact ⟨v2, rfl, HR2.out, HB2.out⟩
end
end Go.Proofs.YtjhkejkdnjogiaaGreatDoor.Is
