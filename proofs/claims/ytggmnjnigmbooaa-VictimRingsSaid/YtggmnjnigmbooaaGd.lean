/- The library's sort by a comparison, laid at this program by the shelf's plain mode. -/
import Derived.Shelf.SlSortCmp.NoneTotal
import Derived.Test.YtggmnjnigmbooaaProg
import Derived.Test.YtggmnjnigmbooaaGa
import Derived.Test.YtggmnjnigmbooaaK1
namespace Go.Proofs.Ytggmnjnigmbooaa
open Go.Shelf
def sortE_ren : Go.Shelf.Ren := ⟨fun | 6 => 30 | 15 => 42 | 14 => 41 | 28 => 56 | 29 => 57 | 20 => 48 | 21 => 49 | 22 => 50 | 23 => 51 | 24 => 52 | 25 => 53 | 26 => 54 | 27 => 55 | 46 => 67 | 47 => 68 | 48 => 69 | 49 => 70 | 50 => 71 | 57 => 75 | n => n, fun | 22 => 24 | 24 => 34 | 25 => 57 | 3 => 3 | 39 => 68 | 0 => 0 | 53 => 81 | 55 => 83 | 4 => 4 | 46 => 75 | 45 => 74 | 50 => 42 | 5 => 5 | 9 => 9 | 66 => 89 | 70 => 93 | 76 => 97 | 77 => 98 | n => n, fun | n => n⟩
theorem sortE : Go.Proofs.SlLaysF0.n6 Try.prog sortE_ren := {
  mixed := by kernel_rfl
  f6 := ⟨Try.f30.name, by decide, Try.func30.trans (congrArg some (by kernel_rfl))⟩
  f14 := ⟨Try.f41.name, by decide, Try.func41.trans (congrArg some (by kernel_rfl))⟩
  f15 := Try.func42.trans (congrArg some (by kernel_rfl))
  f20 := ⟨Try.f48.name, by decide, Try.func48.trans (congrArg some (by kernel_rfl))⟩
  f21 := ⟨Try.f49.name, by decide, Try.func49.trans (congrArg some (by kernel_rfl))⟩
  f22 := ⟨Try.f50.name, by decide, Try.func50.trans (congrArg some (by kernel_rfl))⟩
  f23 := ⟨Try.f51.name, by decide, Try.func51.trans (congrArg some (by kernel_rfl))⟩
  f24 := ⟨Try.f52.name, by decide, Try.func52.trans (congrArg some (by kernel_rfl))⟩
  f25 := ⟨Try.f53.name, by decide, Try.func53.trans (congrArg some (by kernel_rfl))⟩
  f26 := ⟨Try.f54.name, by decide, Try.func54.trans (congrArg some (by kernel_rfl))⟩
  f27 := ⟨Try.f55.name, by decide, Try.func55.trans (congrArg some (by kernel_rfl))⟩
  f28 := Try.func56.trans (congrArg some (by kernel_rfl))
  f29 := Try.func57.trans (congrArg some (by kernel_rfl))
  f46 := ⟨Try.f67.name, by decide, Try.func67.trans (congrArg some (by kernel_rfl))⟩
  f47 := Try.func68.trans (congrArg some (by kernel_rfl))
  f48 := Try.func69.trans (congrArg some (by kernel_rfl))
  f49 := ⟨Try.f70.name, by decide, Try.func70.trans (congrArg some (by kernel_rfl))⟩
  f50 := ⟨Try.f71.name, by decide, Try.func71.trans (congrArg some (by kernel_rfl))⟩
  f57 := ⟨Try.f75.name, by decide, Try.func75.trans (congrArg some (by kernel_rfl))⟩
  t0 := Try.underlying0
  a0 := Try.isAgg0
  z0 := Try.sizeOf0
  v0 := Try.zeroValue0
  t3 := Try.underlying3
  a3 := Try.isAgg3
  z3 := Try.sizeOf3
  v3 := Try.zeroValue3
  t4 := Try.underlying4
  a4 := Try.isAgg4
  z4 := Try.sizeOf4
  v4 := Try.zeroValue4
  t5 := Try.underlying5
  a5 := Try.isAgg5
  z5 := Try.sizeOf5
  v5 := Try.zeroValue5
  t9 := Try.underlying9
  a9 := Try.isAgg9
  z9 := Try.sizeOf9
  v9 := Try.zeroValue9
  t22 := Try.underlying24
  a22 := Try.isAgg24
  z22 := Try.sizeOf24
  v22 := Try.zeroValue24
  t25 := Try.underlying57
  a25 := Try.isAgg57
  z25 := Try.sizeOf57
  v25 := Try.zeroValue57
  t39 := Try.underlying68
  a39 := Try.isAgg68
  z39 := Try.sizeOf68
  v39 := Try.zeroValue68
  t45 := Try.underlying74
  a45 := Try.isAgg74
  z45 := Try.sizeOf74
  v45 := Try.zeroValue74
  t46 := Try.underlying75
  a46 := Try.isAgg75
  z46 := Try.sizeOf75
  v46 := Try.zeroValue75
  t50 := Try.underlying42
  a50 := Try.isAgg42
  z50 := Try.sizeOf42
  v50 := Try.zeroValue42
  t53 := Try.underlying81
  a53 := Try.isAgg81
  z53 := Try.sizeOf81
  v53 := Try.zeroValue81
  t55 := Try.underlying83
  a55 := Try.isAgg83
  z55 := Try.sizeOf83
  v55 := Try.zeroValue83
  t66 := Try.underlying89
  a66 := Try.isAgg89
  z66 := Try.sizeOf89
  v66 := Try.zeroValue89
  t70 := Try.underlying93
  a70 := Try.isAgg93
  z70 := Try.sizeOf93
  v70 := Try.zeroValue93
  t76 := Try.underlying97
  a76 := Try.isAgg97
  z76 := Try.sizeOf97
  v76 := Try.zeroValue97
  t77 := Try.underlying98
  a77 := Try.isAgg98
  z77 := Try.sizeOf98
  v77 := Try.zeroValue98 }
end Go.Proofs.Ytggmnjnigmbooaa
namespace Go.Proofs.Ytggmnjnigmbooaa.Pa
open Go Go.RowKit Go.Sort
theorem grown_of {W w' : World} (h : BelowD W w') : ∃ q os', w' = grow (W.drewN q) os' := by
  have hd := h.drawn
  replace h := h.bel
  refine ⟨w'.drawn - W.drawn, w'.heap.extract W.heap.size w'.heap.size, ?_⟩
  obtain ⟨h1, t1, d1, o1, u1⟩ := w'
  obtain ⟨h2, t2, d2, o2, u2⟩ := W
  have e1 := h.os
  have e2 := h.tape
  have e3 := h.output
  have e4 := h.size
  have e5 := h.block
  simp only at e1 e2 e3 e4 e5 hd
  subst e1 e2 e3
  unfold grow
  simp only [World.drewN, World.mk.injEq]
  refine ⟨?_, trivial, by omega, trivial, trivial⟩
  apply Array.ext_getElem?
  intro k
  rw [Array.getElem?_append]
  by_cases hk : k < h2.size
  · rw [if_pos hk]; exact e5 k hk
  · rw [if_neg hk, Array.getElem?_extract]
    by_cases hk2 : k < h1.size
    · rw [if_pos (by omega)]; congr 1; omega
    · rw [if_neg (by omega)]; simp; omega
end Go.Proofs.Ytggmnjnigmbooaa.Pa
/- Edges: which one is less; a row of them sorted by the library; in order, each once. -/
namespace Go.Proofs.Ytggmnjnigmbooaa.Es
open Go Go.RowKit Go.Shelf Go.Lib Go.Sort
set_option maxRecDepth 100000

theorem less_any (x y : Ed) (W : World) : Calls Try.prog 43 #[wv x, wv y] W fun e w' => e = .returned (.bool (lessE x y)) ∧ Pa.BelowD W w' := by
  have HX := Lib.hid ((Pa.box_belowD W (.cells #[.int .i64 x.1, .int .i64 x.2] 34)).trans (Pa.box_belowD _ (.cells #[.int .i64 y.1, .int .i64 y.2] 34)))
  obtain ⟨a, b⟩ := x
  obtain ⟨c, d⟩ := y
  by_cases h : a = c
  · have HV := Lib.hid (show lessE (a, b) (c, d) = decide (b < d) by unfold lessE; rw [if_pos h])
    subst h
    go_enter Try.func43, Try.ntmps43
    go_wp2
    go_ret
    exact ⟨by rw [HV.out]; rfl, HX.out⟩
  · have HV := Lib.hid (show lessE (a, b) (c, d) = decide (a < c) by unfold lessE; rw [if_neg h])
    have h' : (a == c) = false := by simpa using h
    go_enter Try.func43, Try.ntmps43
    go_wp2
    go_ret
    exact ⟨by rw [HV.out]; rfl, HX.out⟩
/-- how two edges compare -/
def cmpE (x y : Ed) : Int := if x = y then 0 else if lessE x y then -1 else 1
theorem lt_less (x y : Ed) : ltOf cmpE x y = lessE x y := by
  unfold ltOf cmpE
  by_cases h : x = y
  · subst h
    rw [ordE.irr]
    simp
  · rw [if_neg h]
    cases lessE x y <;> simp
theorem compare_any (x y : Ed) (W : World) : Calls Try.prog 31 #[wv x, wv y] W fun e w' => e = .returned (.int .i64 (cmpE x y)) ∧ Pa.BelowD W w' := by
  have HX := Lib.hid ((Pa.box_belowD W (.cells #[.int .i64 x.1, .int .i64 x.2] 34)).trans (Pa.box_belowD _ (.cells #[.int .i64 y.1, .int .i64 y.2] 34)))
  have HL := Lib.hid (fun W => less_any x y W)
  by_cases h : x = y
  · have HV := Lib.hid (show cmpE x y = 0 by unfold cmpE; rw [if_pos h])
    have he := eqE_iff.2 h
    clear HL h
    obtain ⟨a, b⟩ := x
    obtain ⟨c, d⟩ := y
    go_enter Try.func31, Try.ntmps31
    go_wp2
    go_ret
    exact ⟨by rw [HV.out]; rfl, HX.out⟩
  · have he := eqE_ne h
    have HV := Lib.hid (show cmpE x y = if lessE x y then -1 else 1 by unfold cmpE; rw [if_neg h])
    clear h
    generalize lessE x y = q at *
    generalize cmpE x y = z at *
    obtain ⟨a, b⟩ := x
    obtain ⟨c, d⟩ := y
    go_enter Try.func31, Try.ntmps31
    go_wp2_with fail
    refine (HL.out _).mono ?_
    rintro r w1 ⟨rfl, hb1⟩
    have HB := Lib.hid (HX.out.trans hb1)
    clear hb1 HL
    cases q
    · go_wp2_with fail
      go_ret
      exact ⟨by rw [HV.out]; rfl, HB.out⟩
    · go_wp2_with fail
      go_ret
      exact ⟨by rw [HV.out]; rfl, HB.out⟩
theorem swoE : SWO (ltOf cmpE) where
  irrefl x := by rw [lt_less]; exact ordE.irr _
  trans x y z h1 h2 := by rw [lt_less] at *; exact ordE.tr _ _ _ h1 h2
  ntrans x y z h1 h2 := by
    rw [lt_less] at *
    rw [lessE_not] at *
    omega
theorem totE (x y : Ed) (h1 : ltOf cmpE x y = false) (h2 : ltOf cmpE y x = false) : x = y := by
  rw [lt_less] at *
  exact ordE.tot _ _ h1 h2
/-- edges in order -/
def srt (xs : List Ed) : List Ed := xs.mergeSort fun x y => !(ltOf cmpE) y x
theorem srt_perm (xs : List Ed) : (srt xs).Perm xs := List.mergeSort_perm _ _
theorem srt_length (xs : List Ed) : (srt xs).length = xs.length := (srt_perm xs).length_eq
theorem srt_sorted (xs : List Ed) : Od.Srt lessE (srt xs) := by
  have h := List.pairwise_mergeSort (le := fun x y => !(ltOf cmpE) y x)
    (fun a b c h1 h2 => by simp only [Bool.not_eq_true'] at *; exact swoE.ntrans c b a h2 h1)
    (fun a b => by
      simp only [Bool.or_eq_true, Bool.not_eq_true']
      cases h : ltOf cmpE b a
      · exact .inl rfl
      · right
        cases h2 : ltOf cmpE a b
        · rfl
        · have := swoE.trans _ _ _ h h2
          rw [swoE.irrefl] at this; cases this) xs
  refine h.imp ?_
  intro a b hab
  simpa [lt_less] using hab
theorem srt_can (xs : List Ed) : Od.can lessE (srt xs) = Od.can lessE xs := Od.can_eq ordE fun _ => (srt_perm xs).mem_iff
theorem cmpLays (blk off size : Nat) (w : World) : CmpLays Try.prog 31 #[] cellsW 2 cmpE blk off size w :=
  fun _ _ _ _ x y => (compare_any x y _).mono fun _ _ ⟨he, hb⟩ => ⟨he, Pa.grown_of hb⟩
theorem flatK_flat (xs : List Ed) : flatK cellsW 2 xs.toArray = (flat xs).toArray := by
  apply Array.ext
  · simp [flat_length]
  · intro t h1 h2
    simp [flat_length] at h2
    have ht : t < xs.toArray.size * 2 := by simpa using h2
    have hd : t / 2 < xs.length := by omega
    have hm : t % 2 < 2 := Nat.mod_lt _ (by omega)
    have e1 : (flatK cellsW 2 xs.toArray)[t] = (cellsW xs.toArray[t / 2]!)[t % 2]! := by
      rw [← get_flatK cellsW 2 xs.toArray t ht, getElem!_pos _ t h1]
    rw [e1]
    have e2 : xs.toArray[t / 2]! = xs[t / 2] := by rw [getElem!_pos _ _ (by simpa using hd)]; simp
    rw [e2]
    have f1 := flat_at xs (t / 2) (t % 2) hd hm
    have h3 : t < (flat xs).length := by rw [flat_length]; exact h2
    show _ = (flat xs)[t]
    rw [show t / 2 * 2 + t % 2 = t by omega, List.getElem?_eq_getElem h3] at f1
    have h5 : t % 2 < (cellsW xs[t / 2]).length := by simpa [cellsW] using hm
    rw [List.getElem?_eq_getElem h5] at f1
    simp only [Option.some.injEq] at f1
    rw [f1]
    exact getElem!_pos (cellsW xs[t / 2]) (t % 2) h5
theorem row_holds {W : World} {base g n cap : Nat} {xs : List Ed} (h : Row W base (.slice (some ⟨g, 0, none⟩) n cap) xs) : HoldsK cellsW 2 W g 0 xs.toArray := by
  unfold HoldsK
  rw [flatK_flat]
  intro j hj
  have hj' : j < (flat xs).length := by simpa using hj
  have h1 := h.cells (g := g) rfl j _ (List.getElem?_eq_getElem hj')
  rw [add_at] at h1
  rcases h.2 with ⟨h0, _⟩ | ⟨g', cap', cur, e, _, hb, _⟩
  · cases h0
  · cases e
    refine ⟨?_, by rw [Nat.zero_add]; unfold World.frozen?; simp [hb]⟩
    rw [Nat.zero_add, h1, getElem!_pos _ j hj]
    simp
theorem sort_heap {w : World} {g m : Nat} {xs : List Ed} {os : Array Obj} {cur : Array Value} (hg : w.heap[g]? = some (.cells cur 34 (0, 0))) :
    (sortWorldK cellsW 2 w g 0 m xs.toArray os).heap[g]? = some (.cells (putCells id 0 (flat xs).toArray cur) 34 (0, 0)) ∧
    (∀ k, k ≠ g → k < w.heap.size → (sortWorldK cellsW 2 w g 0 m xs.toArray os).heap[k]? = w.heap[k]?) ∧ w.heap.size ≤ (sortWorldK cellsW 2 w g 0 m xs.toArray os).heap.size := by
  have hlt := (Array.getElem?_eq_some_iff.1 hg).1
  have e : (Go.Sort.ahead w m).heap = w.heap := rfl
  unfold sortWorldK putRowK putRow mapBlock grow
  rw [flatK_flat, e]
  refine ⟨?_, fun k hk hks => ?_, ?_⟩
  · simp only [Array.getElem?_append, Array.size_modify]
    rw [if_pos hlt, Array.getElem?_modify, if_pos rfl, hg]
    rfl
  · simp only [Array.getElem?_append, Array.size_modify]
    rw [if_pos hks, Array.getElem?_modify, if_neg (Ne.symm hk)]
  · simp
theorem sort_row {w : World} {base g n cap m : Nat} {xs ys : List Ed} {os : Array Obj} (h : Row w base (.slice (some ⟨g, 0, none⟩) n cap) xs) (hl : ys.length = xs.length) :
    Row (sortWorldK cellsW 2 w g 0 m ys.toArray os) base (.slice (some ⟨g, 0, none⟩) n cap) ys := by
  rcases h.2 with ⟨h0, _⟩ | ⟨g', cap', cur, e, hb, hg, h1, h2, h3, h4⟩
  · cases h0
  · cases e
    refine ⟨flat_length _, .inr ⟨g, cap, _, by rw [hl], hb, (sort_heap hg).1, by rw [hl]; exact h1, h2, by simp [putCells, h3], ?_⟩⟩
    apply List.ext_getElem?
    intro k
    rw [List.getElem?_take]
    by_cases hk : k < ys.length * 2
    · rw [if_pos hk, Array.getElem?_toList]
      have hc : k < cur.size := by rw [h3]; omega
      have hf : k < (flat ys).length := by rw [flat_length]; exact hk
      unfold putCells
      rw [Array.getElem?_mapIdx, Array.getElem?_eq_getElem hc]
      simp only [Option.map_some, Nat.zero_le, Nat.zero_add, true_and, List.size_toArray]
      rw [if_pos hf, List.getElem?_eq_getElem hf, Nat.sub_zero, getElem!_pos _ k (by simpa using hf)]
      simp
    · rw [if_neg hk, List.getElem?_eq_none (by rw [flat_length]; omega)]
theorem sortf_any {w : World} {base : Nat} {v : Value} {xs : List Ed} (h : Row w base v xs) (hl : xs.length ≤ 1000000) :
    Calls Try.prog 30 #[v, .func (.func 31) #[] #[]] w fun e w' => e = .returned (.tuple #[]) ∧ Row w' base v (srt xs) ∧ Below base w w' ∧ OnlyS (fun k => v.ownBlock = some k) w w' := by
  have eg : ∀ args w, (callFunc 31 args).run Try.prog w = .ok (.enter 31 args) w := enters_of Try.func31 (by kernel_rfl) rfl
  by_cases h0 : xs = []
  · subst h0
    have e : srt [] = [] := by simp [srt]
    rw [e]
    have : ∃ p cap, v = .slice p 0 cap := by
      rcases h.2 with ⟨rfl, _⟩ | ⟨g', cap', cur, rfl, _⟩
      · exact ⟨_, _, rfl⟩
      · exact ⟨_, _, rfl⟩
    obtain ⟨p, cap, rfl⟩ := this
    have hc := AnyF.slices_SortFunc_none sortE p cap (.func (.func 31) #[] #[]) w
    refine Calls.mono (f := 30) hc ?_
    rintro e w' ⟨rfl, rfl⟩
    exact ⟨rfl, h, Below.refl _ _, OnlyS.refl _ _⟩
  · rcases h.2 with ⟨rfl, hn⟩ | ⟨g, cap, cur, rfl, hb, hg, h1, h2, h3, h4⟩
    · exact absurd (List.length_eq_zero_iff.1 hn) h0
    · have hlt := (Array.getElem?_eq_some_iff.1 hg).1
      have hh := row_holds h
      have hc := AnyQ.slices_SortFunc_total sortE 2 Try.isAgg34 Try.sizeOf34 cellsW (fun _ => rfl) (fun x v hv => by simp [cellsW] at hv; rcases hv with rfl | rfl <;> rfl) cmpE swoE 31 #[] g 0 cap xs.toArray w eg (cmpLays _ _ _ _) hh hlt (by simp; omega) totE
      refine Calls.mono (f := 30) hc ?_
      rintro e w' ⟨rfl, n, os, rfl⟩
      have hsz := (sort_heap (m := n) (xs := srt xs) (os := os) hg)
      refine ⟨rfl, sort_row h (srt_length xs), ⟨rfl, rfl, rfl, hsz.2.2, fun k hk => hsz.2.1 k (by omega) (by omega)⟩, ⟨rfl, rfl, rfl, hsz.2.2, fun k hk hn => hsz.2.1 k (fun e => hn (by rw [e]; rfl)) hk⟩⟩
/-- a list of edges of one's own, handed back -/
def RowsG (W : World) (xs : List Ed) (e : Ending) (w' : World) : Prop := ∃ v, e = .returned v ∧ Row w' W.heap.size v xs ∧ Below W.heap.size W w'
theorem sort_any {W : World} {A : Option Addr} {c : Nat} {xs : List Ed} (hr : Ls W A c xs) (hl : xs.length ≤ 1000000) : Calls Try.prog 23 #[.slice A xs.length c] W (RowsG W (Od.can lessE xs)) := by
  have HC := Lib.hid (clone_any hr hl)
  have HL := Lib.hid hl
  obtain ⟨n, hn⟩ : ∃ n, xs.length = n := ⟨_, rfl⟩
  rw [hn] at HC ⊢
  clear hr hl hn
  go_enter Try.func23, Try.ntmps23
  go_wp2_with fail
  refine HC.out.mono ?_
  rintro e w1 ⟨v, rfl, hrow, hb1⟩
  have HS := Lib.hid (sortf_any hrow HL.out)
  have HB1 := Lib.hid hb1
  have HV := Lib.hid (fun k (hk : v.ownBlock = some k) => (hrow.lt k hk).1)
  clear hrow hb1 HC
  go_wp2_with fail
  refine HS.out.mono ?_
  rintro e w2 ⟨rfl, hrow2, hb2, -⟩
  have HK := Lib.hid (compact_any hrow2 (by rw [srt_length]; exact HL.out) (srt_sorted xs))
  have HB2 := Lib.hid (HB1.out.trans hb2)
  rw [srt_can] at HK
  clear hrow2 hb2 HS HB1
  go_wp2_with fail
  refine HK.out.mono ?_
  rintro e w3 ⟨v3, rfl, hrow3, ho3⟩
  have HR3 := Lib.hid hrow3
  have HB3 := Lib.hid (HB2.out.trans (ho3.below HV.out HB2.out.size))
  clear hrow3 ho3 HK
  go_wp2_with fail
  go_ret
  exact ⟨v3, rfl, HR3.out, HB3.out⟩
/-- a row of one's own, made since -/
structure Kp (W : World) (l : List Ed) (v : Value) (w1 : World) : Prop where
  row : Row w1 W.heap.size v l
  bel : Below W.heap.size W w1
section
variable {W W' : World} {A : Option Addr} {c : Nat} {xs l : List Ed} {v : Value}
theorem Kp.nil (W : World) : Kp W [] (.slice none 0 0) W := ⟨World.ownsRow_nil _ _ _ _, Below.refl _ _⟩
theorem Kp.below (h : Kp W l v W') {w2 : World} (hb : Below W'.heap.size W' w2) : Kp W l v w2 := ⟨row_below h.row hb, h.bel.trans (hb.mono h.bel.size)⟩
/-- others are put behind -/
theorem Kp.join {n m q : Nat} {ys : List Ed} (h : Kp W l v W') (hs : Ls W' A c ys) (hn : l.length = n) (hm : ys.length = m) (hq : n + m = q) (hl : q ≤ 1000000) (ty : TypeId) :
    ∃ A' c' w2, (Builtin.append_ #[24, 24] ty #[v, .slice A m c]).run Try.prog W' = .ok (.slice A' q c') w2 ∧ Kp W (l ++ ys) (.slice A' q c') w2 := by
  subst hn
  subst hm
  subst hq
  obtain ⟨v', w2, hrun, hrow, hg, -⟩ := h.row.app hs hl h.bel.size ty
  obtain ⟨A', c', rfl, -⟩ := hrow.ls
  rw [List.length_append] at hrun hrow
  exact ⟨A', c', w2, hrun, hrow, h.bel.trans (h.row.app_below hg h.bel.size)⟩
/-- one is put behind -/
theorem Kp.app {n : Nat} {x : Ed} (h : Kp W l v W') (hn : l.length = n) (hl : n ≤ 900000) (ty : TypeId) :
    ∃ A' c' w2, (Builtin.append_ #[24, 24] ty #[v, .slice (some ⟨W'.heap.size, 0, none⟩) 1 1]).run Try.prog (W'.alloc (.cells #[.int .i64 x.1, .int .i64 x.2] 34)) = .ok (.slice A' (n + 1) c') w2 ∧ Kp W (l ++ [x]) (.slice A' (n + 1) c') w2 :=
  (h.below (box_below W' _)).join (m := 1) (q := n + 1) (box_ls W' x) hn rfl rfl (by omega) ty
theorem Kp.rows {W0 : World} {e : Ending} {zs : List Ed} (h : Kp W l v W') (hb : Below W0.heap.size W0 W) (he : e = .returned v) (hz : l = zs) : RowsG W0 zs e W' := by
  subst hz
  exact ⟨v, he, row_base h.row hb.size, hb.trans (h.bel.mono hb.size)⟩
end
end Go.Proofs.Ytggmnjnigmbooaa.Es
