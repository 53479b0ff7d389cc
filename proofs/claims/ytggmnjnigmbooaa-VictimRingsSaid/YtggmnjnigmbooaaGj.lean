/- The library's sort of numbers, and what it takes away of those that stand there again, laid at this program by the shelf's plain mode. -/
import Derived.Shelf.SortM.AssemblyIn
import Derived.Shelf.SortM.SortNone
import Derived.Sort.EveryDepth
import Derived.Shelf.SlicesE.Compact
import Derived.Test.YtggmnjnigmbooaaProg
import Derived.Test.YtggmnjnigmbooaaGi
namespace Go.Proofs.Ytggmnjnigmbooaa
open Go.Shelf
def sortI_ren : Go.Shelf.Ren := ⟨fun | 5 => 39 | 8 => 42 | 7 => 47 | 19 => 56 | 20 => 57 | 10 => 59 | 11 => 60 | 12 => 61 | 13 => 62 | 14 => 63 | 15 => 64 | 16 => 44 | 17 => 65 | 18 => 66 | 30 => 72 | 31 => 68 | 32 => 69 | 33 => 73 | 34 => 74 | 35 => 58 | 40 => 76 | n => n, fun | 23 => 23 | 25 => 3 | 3 => 3 | 32 => 68 | 22 => 23 | 0 => 0 | 44 => 81 | 46 => 83 | 4 => 4 | 36 => 75 | 35 => 74 | 41 => 42 | 5 => 5 | 9 => 9 | 53 => 89 | 57 => 93 | 63 => 97 | 64 => 98 | n => n, fun | n => n⟩
theorem sortI : Go.Proofs.SlLaysM.n5 Try.prog sortI_ren := {
  mixed := by kernel_rfl
  f5 := ⟨Try.f39.name, by decide, Try.func39.trans (congrArg some (by kernel_rfl))⟩
  f7 := ⟨Try.f47.name, by decide, Try.func47.trans (congrArg some (by kernel_rfl))⟩
  f8 := Try.func42.trans (congrArg some (by kernel_rfl))
  f10 := ⟨Try.f59.name, by decide, Try.func59.trans (congrArg some (by kernel_rfl))⟩
  f11 := ⟨Try.f60.name, by decide, Try.func60.trans (congrArg some (by kernel_rfl))⟩
  f12 := ⟨Try.f61.name, by decide, Try.func61.trans (congrArg some (by kernel_rfl))⟩
  f13 := ⟨Try.f62.name, by decide, Try.func62.trans (congrArg some (by kernel_rfl))⟩
  f14 := ⟨Try.f63.name, by decide, Try.func63.trans (congrArg some (by kernel_rfl))⟩
  f15 := ⟨Try.f64.name, by decide, Try.func64.trans (congrArg some (by kernel_rfl))⟩
  f16 := ⟨Try.f44.name, by decide, Try.func44.trans (congrArg some (by kernel_rfl))⟩
  f17 := ⟨Try.f65.name, by decide, Try.func65.trans (congrArg some (by kernel_rfl))⟩
  f18 := ⟨Try.f66.name, by decide, Try.func66.trans (congrArg some (by kernel_rfl))⟩
  f19 := Try.func56.trans (congrArg some (by kernel_rfl))
  f20 := Try.func57.trans (congrArg some (by kernel_rfl))
  f30 := ⟨Try.f72.name, by decide, Try.func72.trans (congrArg some (by kernel_rfl))⟩
  f31 := Try.func68.trans (congrArg some (by kernel_rfl))
  f32 := Try.func69.trans (congrArg some (by kernel_rfl))
  f33 := ⟨Try.f73.name, by decide, Try.func73.trans (congrArg some (by kernel_rfl))⟩
  f34 := ⟨Try.f74.name, by decide, Try.func74.trans (congrArg some (by kernel_rfl))⟩
  f35 := ⟨Try.f58.name, by decide, Try.func58.trans (congrArg some (by kernel_rfl))⟩
  f40 := ⟨Try.f76.name, by decide, Try.func76.trans (congrArg some (by kernel_rfl))⟩
  t0 := Try.underlying0
  a0 := Try.isAgg0
  z0 := Try.sizeOf0
  v0 := Try.zeroValue0
  t3 := Try.underlying3
  a3 := Try.isAgg3
  z3 := Try.sizeOf3
  v3 := Try.zeroValue3
  t4 := Try.underlying4
  a4 := Try.isAgg4
  z4 := Try.sizeOf4
  v4 := Try.zeroValue4
  t5 := Try.underlying5
  a5 := Try.isAgg5
  z5 := Try.sizeOf5
  v5 := Try.zeroValue5
  t9 := Try.underlying9
  a9 := Try.isAgg9
  z9 := Try.sizeOf9
  v9 := Try.zeroValue9
  t22 := Try.underlying23
  a22 := Try.isAgg23
  z22 := Try.sizeOf23
  v22 := Try.zeroValue23
  t23 := Try.underlying23
  a23 := Try.isAgg23
  z23 := Try.sizeOf23
  v23 := Try.zeroValue23
  t25 := Try.underlying3
  a25 := Try.isAgg3
  z25 := Try.sizeOf3
  v25 := Try.zeroValue3
  t32 := Try.underlying68
  a32 := Try.isAgg68
  z32 := Try.sizeOf68
  v32 := Try.zeroValue68
  t35 := Try.underlying74
  a35 := Try.isAgg74
  z35 := Try.sizeOf74
  v35 := Try.zeroValue74
  t36 := Try.underlying75
  a36 := Try.isAgg75
  z36 := Try.sizeOf75
  v36 := Try.zeroValue75
  t41 := Try.underlying42
  a41 := Try.isAgg42
  z41 := Try.sizeOf42
  v41 := Try.zeroValue42
  t44 := Try.underlying81
  a44 := Try.isAgg81
  z44 := Try.sizeOf81
  v44 := Try.zeroValue81
  t46 := Try.underlying83
  a46 := Try.isAgg83
  z46 := Try.sizeOf83
  v46 := Try.zeroValue83
  t53 := Try.underlying89
  a53 := Try.isAgg89
  z53 := Try.sizeOf89
  v53 := Try.zeroValue89
  t57 := Try.underlying93
  a57 := Try.isAgg93
  z57 := Try.sizeOf93
  v57 := Try.zeroValue93
  t63 := Try.underlying97
  a63 := Try.isAgg97
  z63 := Try.sizeOf97
  v63 := Try.zeroValue97
  t64 := Try.underlying98
  a64 := Try.isAgg98
  z64 := Try.sizeOf98
  v64 := Try.zeroValue98 }
def compI_ren : Go.Shelf.Ren := ⟨fun | 43 => 40 | n => n, fun | 22 => 23 | 23 => 3 | 3 => 3 | 4 => 4 | 0 => 0 | n => n, fun | n => n⟩
theorem compI : Go.Proofs.SlLaysE.n43 Try.prog compI_ren := {
  mixed := by kernel_rfl
  f43 := ⟨Try.f40.name, by decide, Try.func40.trans (congrArg some (by kernel_rfl))⟩
  t0 := Try.underlying0
  a0 := Try.isAgg0
  z0 := Try.sizeOf0
  v0 := Try.zeroValue0
  t3 := Try.underlying3
  a3 := Try.isAgg3
  z3 := Try.sizeOf3
  v3 := Try.zeroValue3
  t4 := Try.underlying4
  a4 := Try.isAgg4
  z4 := Try.sizeOf4
  v4 := Try.zeroValue4
  t22 := Try.underlying23
  a22 := Try.isAgg23
  z22 := Try.sizeOf23
  v22 := Try.zeroValue23
  a23 := Try.isAgg3
  z23 := Try.sizeOf3 }
end Go.Proofs.Ytggmnjnigmbooaa
/- Numbers in memory: a list that is read, a row of one's own; sorted by the library, each once. -/
namespace Go.Proofs.Ytggmnjnigmbooaa.Is
open Go Go.RowKit Go.Shelf Go.Lib Go.Sort
/-- numbers rise -/
def ltI (a b : Int) : Bool := decide (a < b)
theorem ordI : Od.Ordr ltI where
  irr a := by simp [ltI]
  tr a b c h1 h2 := by simp only [ltI, decide_eq_true_iff] at *; omega
  tot a b h1 h2 := by simp only [ltI, decide_eq_false_iff_not] at *; omega
def srt (xs : List Int) : List Int := xs.mergeSort fun x y => decide (x ≤ y)
theorem srt_perm (xs : List Int) : (srt xs).Perm xs := List.mergeSort_perm _ _
theorem srt_sorted (xs : List Int) : Od.Srt ltI (srt xs) := by
  have h := List.pairwise_mergeSort (le := fun x y : Int => decide (x ≤ y))
    (fun a b c h1 h2 => by simp only [decide_eq_true_iff] at *; omega)
    (fun a b => by simp only [Bool.or_eq_true, decide_eq_true_iff]; omega) xs
  refine h.imp fun {a b} hab => ?_
  simp only [decide_eq_true_iff] at hab
  simp only [ltI, decide_eq_false_iff_not]
  omega
theorem srt_can (xs : List Int) : Od.can ltI (srt xs) = Od.can ltI xs := Od.can_eq ordI fun _ => (srt_perm xs).mem_iff
theorem row_holds {W : World} {K g n cap : Nat} {xs : List Int} (h : Row W K (.slice (some ⟨g, 0, none⟩) n cap) xs) : Holds enc W g 0 xs.toArray := by
  intro j hj
  have hj' : j < xs.length := by simpa using hj
  have h1 := h.cells (g := g) rfl j _ (flat_at xs j hj')
  rw [add_at] at h1
  rcases h.2 with ⟨h0, _⟩ | ⟨g', cap', cur, e, _, hb, _⟩
  · cases h0
  · cases e
    refine ⟨?_, by rw [Nat.zero_add]; unfold World.frozen?; simp [hb]⟩
    rw [Nat.zero_add, h1, getElem!_pos _ j hj]
    simp
theorem put_heap {w : World} {g m : Nat} {ys : List Int} {os : Array Obj} {cur : Array Value} (hg : w.heap[g]? = some (.cells cur 3 (0, 0))) :
    (grow (putRow enc (Go.Sort.ahead w m) g 0 ys.toArray) os).heap[g]? = some (.cells (putCells enc 0 ys.toArray cur) 3 (0, 0)) ∧
    (∀ k, k ≠ g → k < w.heap.size → (grow (putRow enc (Go.Sort.ahead w m) g 0 ys.toArray) os).heap[k]? = w.heap[k]?) ∧ w.heap.size ≤ (grow (putRow enc (Go.Sort.ahead w m) g 0 ys.toArray) os).heap.size := by
  have hlt := (Array.getElem?_eq_some_iff.1 hg).1
  have e : (Go.Sort.ahead w m).heap = w.heap := rfl
  unfold putRow mapBlock grow
  rw [e]
  refine ⟨?_, fun k hk hks => ?_, ?_⟩
  · simp only [Array.getElem?_append, Array.size_modify]
    rw [if_pos hlt, Array.getElem?_modify, if_pos rfl, hg]
    rfl
  · simp only [Array.getElem?_append, Array.size_modify]
    rw [if_pos hks, Array.getElem?_modify, if_neg (Ne.symm hk)]
  · simp
theorem put_row {w : World} {K g n cap m : Nat} {xs ys : List Int} {os : Array Obj} (h : Row w K (.slice (some ⟨g, 0, none⟩) n cap) xs) (hl : ys.length = xs.length) :
    Row (grow (putRow enc (Go.Sort.ahead w m) g 0 ys.toArray) os) K (.slice (some ⟨g, 0, none⟩) n cap) ys ∧ OnlyS (· = g) w (grow (putRow enc (Go.Sort.ahead w m) g 0 ys.toArray) os) := by
  rcases h.2 with ⟨h0, _⟩ | ⟨g', cap', cur, e, hb, hg, h1, h2, h3, h4⟩
  · cases h0
  · cases e
    have hph := put_heap (m := m) (ys := ys) (os := os) hg
    refine ⟨⟨flat_length _, .inr ⟨g, cap, _, by rw [hl], hb, hph.1, by rw [hl]; exact h1, h2, by simp [putCells, h3], ?_⟩⟩, rfl, rfl, rfl, hph.2.2, fun k hk hn => hph.2.1 k hn hk⟩
    apply List.ext_getElem?
    intro k
    rw [List.getElem?_take]
    by_cases hk : k < ys.length * 1
    · have hk' : k < ys.length := by omega
      rw [if_pos hk, Array.getElem?_toList]
      have hc : k < cur.size := by rw [h3]; omega
      unfold putCells
      rw [Array.getElem?_mapIdx, Array.getElem?_eq_getElem hc]
      simp only [Option.map_some, Nat.zero_le, Nat.zero_add, true_and, List.size_toArray]
      rw [if_pos hk', flat_at ys k hk', Nat.sub_zero, getElem!_pos _ k (by simpa using hk')]
      simp
    · rw [if_neg hk, List.getElem?_eq_none (by rw [flat_length]; omega)]
section
variable {W : World} {K : Nat} {v : Value} {xs : List Int}
theorem sort_any (h : Row W K v xs) (hl : xs.length ≤ 1000000) : Calls Try.prog 39 #[v] W fun e w' => e = .returned (.tuple #[]) ∧ Row w' K v (srt xs) ∧ OnlyS (fun k => v.ownBlock = some k) W w' := by
  rcases h.2 with ⟨rfl, h0⟩ | ⟨g, cap, cur, rfl, hb, hg, h1, h2, h3, h4⟩
  · have := List.length_eq_zero_iff.1 h0
    subst this
    have hc := AnyM.slices_Sort_int_none sortI none 0 W
    refine Calls.mono (f := 39) hc ?_
    rintro e w' ⟨rfl, rfl⟩
    exact ⟨rfl, by simp only [srt, List.mergeSort_nil]; exact h, OnlyS.refl _ _⟩
  · have hlt := (Array.getElem?_eq_some_iff.1 hg).1
    have hc := calls_of_every_depth fun D => AnySM.slices_Sort_int_in sortI D g 0 cap xs W (row_holds h) hlt (by omega)
    refine Calls.mono (f := 39) hc ?_
    rintro e w' ⟨rfl, n, os, rfl⟩
    obtain ⟨k1, k2⟩ := put_row (m := n) (os := os) (ys := srt xs) h (srt_perm xs).length_eq
    exact ⟨rfl, k1, k2.mono fun k _ hk => by rw [hk]; rfl⟩
theorem compact_any (h : Row W K v xs) (hl : xs.length ≤ 1000000) (hs : Od.Srt ltI xs) : Calls Try.prog 40 #[v] W fun e w' => ∃ v', e = .returned v' ∧ Row w' K v' (Od.can ltI xs) ∧ OnlyS (fun k => v.ownBlock = some k) W w' := by
  rcases h.2 with ⟨rfl, h0⟩ | ⟨g, cap, cur, rfl, hb, hg, h1, h2, h3, h4⟩
  · have := List.length_eq_zero_iff.1 h0
    subst this
    have HR := Lib.hid h
    clear h
    go_enter Try.func40, Try.ntmps40
    go_wp2
    go_ret
    exact ⟨_, rfl, HR.out, OnlyS.refl _ _⟩
  · have hc := AnyE.slices_Compact compI enc (fun _ => rfl) (EqlAt.intD _ _ _) (NeqAt.intD _ _ _) 0 Try.zeroValue3 g 0 cap xs.toArray W (row_holds h) (by simp; omega) (by simpa using h1)
    refine Calls.mono (f := 40) hc ?_
    rintro e w' ⟨rfl, q, rfl⟩
    rw [Od.compact_can ordI hs]
    have hcl := Od.can_len (lt := ltI) xs
    have hlen : (Od.can ltI xs ++ List.replicate (xs.toArray.size - (Od.can ltI xs).length) (0 : Int)).length = xs.length := by simp; omega
    obtain ⟨k1, k2⟩ := put_row (m := q) (os := #[]) (ys := Od.can ltI xs ++ List.replicate (xs.toArray.size - (Od.can ltI xs).length) (0 : Int)) h hlen
    rw [grow_empty] at k1 k2
    refine ⟨_, rfl, ?_, k2.mono fun k _ hk => by rw [hk]; rfl⟩
    unfold Row at k1
    rw [hlen] at k1
    have k3 := row_cut k1 hcl
    rw [Nat.mul_one, flat_append, List.take_left' (by rw [flat_length, Nat.mul_one])] at k3
    exact k3
/-- rising, each once -/
theorem rising_any (h : Row W K v xs) (hK : K ≤ W.heap.size) (hl : xs.length ≤ 1000000) : Calls Try.prog 28 #[v] W fun e w' => ∃ v', e = .returned v' ∧ Row w' K v' (Od.can ltI xs) ∧ Below K W w' := by
  have HS := Lib.hid (sort_any h hl)
  have HV := Lib.hid (fun k (hk : v.ownBlock = some k) => (h.lt k hk).1)
  have HL := Lib.hid (show (srt xs).length ≤ 1000000 by rw [(srt_perm xs).length_eq]; exact hl)
  have HK := Lib.hid hK
  obtain ⟨A, c, rfl, -⟩ := h.ls
  generalize xs.length = n at *
  clear h hl hK
  go_enter Try.func28, Try.ntmps28
  go_wp2_with fail
  refine HS.out.mono ?_
  rintro e w1 ⟨rfl, hr1, ho1⟩
  have HB1 := Lib.hid (ho1.below HV.out HK.out)
  have HC := Lib.hid (compact_any hr1 HL.out (srt_sorted xs))
  rw [srt_can] at HC
  clear hr1 ho1 HS
  go_wp2_with fail
  refine HC.out.mono ?_
  rintro e w2 ⟨v2, rfl, hr2, ho2⟩
  have HR2 := Lib.hid hr2
  have HB2 := Lib.hid (HB1.out.trans (ho2.below HV.out (Nat.le_trans HK.out HB1.out.size)))
  clear hr2 ho2 HC
  go_wp2_with fail
  go_ret
  exact ⟨v2, rfl, HR2.out, HB2.out⟩
end
end Go.Proofs.Ytggmnjnigmbooaa.Is
/- To whom edges of one go; all numbers that stand in edges. -/
namespace Go.Proofs.Ytggmnjnigmbooaa
open Go Go.RowKit Go.Shelf
set_option maxRecDepth 100000

/-- numbers of one's own, handed back -/
def Is.Rows (W : World) (xs : List Int) (e : Ending) (w' : World) : Prop := ∃ v, e = .returned v ∧ Is.Row w' W.heap.size v xs ∧ Below W.heap.size W w'
/-- to whom edges of one go -/
def fromL (tx : Int) (l : List Es.Ed) : List Int := (l.filter fun e => e.1 == tx).map fun e => e.2
theorem fromL_no {tx : Int} {l : List Es.Ed} {k : Nat} (hk : k < l.length) (h : (l[k].1 == tx) = false) : fromL tx (l.take (k + 1)) = fromL tx (l.take k) := by
  unfold fromL
  rw [List.take_succ_eq_append_getElem hk, List.filter_append]
  simp [h]
theorem fromL_yes {tx : Int} {l : List Es.Ed} {k : Nat} (hk : k < l.length) (h : (l[k].1 == tx) = true) : fromL tx (l.take (k + 1)) = fromL tx (l.take k) ++ [l[k].2] := by
  unfold fromL
  rw [List.take_succ_eq_append_getElem hk, List.filter_append]
  simp [h]
theorem fromL_len (tx : Int) (l : List Es.Ed) : (fromL tx l).length ≤ l.length := by
  unfold fromL
  rw [List.length_map]
  exact List.length_filter_le _ _
/-- all numbers -/
def nodesL (l : List Es.Ed) : List Int := l.flatMap fun e => [e.1, e.2]
theorem nodesL_succ {l : List Es.Ed} {k : Nat} (hk : k < l.length) : nodesL (l.take (k + 1)) = nodesL (l.take k) ++ [l[k].1, l[k].2] := by
  unfold nodesL
  rw [List.take_succ_eq_append_getElem hk, List.flatMap_append]
  simp
theorem nodesL_len (l : List Es.Ed) : (nodesL l).length = 2 * l.length := by
  unfold nodesL
  induction l with
  | nil => rfl
  | cons x xs ih => rw [List.flatMap_cons, List.length_append, ih]; simp; omega
section
variable {W : World} {A : Option Addr} {c : Nat} {l : List Es.Ed}
theorem Is.Kp.rising {W' : World} {v : Value} {xs : List Int} {n : Nat} (h : Is.Kp W xs v W') (hn : xs.length = n) (hl : n ≤ 1000000) : Calls Try.prog 28 #[v] W' fun e w' => Is.Rows W (Od.can Is.ltI xs) e w' :=
  (Is.rising_any h.row h.bel.size (by omega)).mono fun _ _ ⟨v', he, hr, hb⟩ => ⟨v', he, hr, h.bel.trans hb⟩
set_option maxHeartbeats 4000000 in
theorem nodes_any (hr : Es.Ls W A c l) (hl : l.length ≤ 300000) : Calls Try.prog 22 #[.slice A l.length c] W (Is.Rows W (Od.can Is.ltI (nodesL l))) := by
  have HR := Lib.hid hr
  obtain ⟨n, hn⟩ : ∃ n, l.length = n := ⟨_, rfl⟩
  rw [hn] at hl ⊢
  have HN := Lib.hid hn
  clear hr hn
  go_enter Try.func22, Try.ntmps22
  go_wp2_with fail
  go_loopw [8, 3] (fun t v wr => ∃ j : Nat, j ≤ n ∧ t = .int .i64 j ∧ Is.Kp W (nodesL (l.take j)) v wr) (fun t _ _ => n - (intOf t).toNat)
  case atStart => exact ⟨0, by omega, rfl, Is.Kp.nil W⟩
  case round =>
    obtain ⟨j, hj, rfl, hk⟩ := hrel
    have K0 := Lib.hid hk
    obtain ⟨A0, c0', ev, -⟩ := hk.row.ls
    subst ev
    obtain ⟨q, hq⟩ : ∃ q, (nodesL (l.take j)).length = q := ⟨_, rfl⟩
    have hq1 : q ≤ 2 * j := by rw [← hq, nodesL_len, List.length_take]; omega
    have HQ := Lib.hid hq
    clear hk
    rw [hq] at K0 ⊢
    clear hq
    by_cases hjn : j < n
    · have hjl : j < l.length := by rw [HN.out]; exact hjn
      obtain ⟨a, rfl, hh⟩ := (HR.out.below K0.out.bel).here hjl
      obtain ⟨c0, c1⟩ := hh
      obtain ⟨x, hx⟩ : ∃ x, l[j] = x := ⟨_, rfl⟩
      have HE := Lib.hid (show nodesL (l.take (j + 1)) = nodesL (l.take j) ++ [x.1, x.2] by rw [nodesL_succ hjl, hx])
      rw [hx] at c0 c1
      have hb1 := box_below wr (.cells #[.int .i64 x.1, .int .i64 x.2] 34)
      have K1 := Lib.hid (K0.out.below hb1)
      obtain ⟨A', c', w6, hrun, hk6⟩ := (K1.out.below (box_below _ (.cells #[.int .i64 x.1, .int .i64 x.2] 3))).join (Is.two_ls _ x.1 x.2) HQ.out rfl rfl (by simp; omega) 23
      have K6 := Lib.hid hk6
      obtain ⟨t, m⟩ := x
      simp only at c0 c1 HE
      simp only [List.length_cons, List.length_nil, Nat.zero_add, Nat.reduceAdd] at hrun K6
      rw [show (wr.alloc (.cells #[.int .i64 t, .int .i64 m] 34)).heap.size = wr.heap.size + 1 by simp] at hrun
      clear hk6 hb1 K1 hx hjl
      go_wp2_with (at_builtin; refine Lib.wpList_append_run _ rfl _ _ _ _ rfl _ _ rfl rfl _ _ hrun ?_)
      go_roundw
      case rel => exact ⟨j + 1, by omega, by go_num, by rw [HE.out]; exact K6.out⟩
      case measure => simp [intOf]; omega
    · obtain rfl : j = n := by omega
      have HE := Lib.hid (show nodesL (l.take j) = nodesL l by rw [List.take_of_length_le (Nat.le_of_eq HN.out)])
      have HZ := Lib.hid (K0.out.rising HQ.out (by omega))
      rw [HE.out] at HZ
      clear K0
      go_wp2_with fail
      refine HZ.out.mono ?_
      rintro e w7 ⟨v7, rfl, hr7, hb7⟩
      have HF := Lib.hid (show Is.Rows W (Od.can Is.ltI (nodesL l)) (.returned v7) w7 from ⟨v7, rfl, hr7, hb7⟩)
      clear hr7 hb7
      go_wp2_with fail
      go_ret
      exact HF.out
end
end Go.Proofs.Ytggmnjnigmbooaa
