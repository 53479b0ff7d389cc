/- The library's sort by a comparison, laid at this program by the shelf's plain mode. -/
import Derived.Shelf.SlSortCmp.NoneTotal
import Derived.Test.YtjhkejkdnjogiaaGreatDoorProg
import Derived.Test.YtjhkejkdnjogiaaGreatDoorGa
import Derived.Test.YtjhkejkdnjogiaaGreatDoorPd
namespace Go.Proofs.YtjhkejkdnjogiaaGreatDoor
open Go.Shelf
def sortE_ren : Go.Shelf.Ren := ⟨fun | 6 => 40 | 15 => 80 | 14 => 79 | 28 => 125 | 29 => 126 | 20 => 117 | 21 => 118 | 22 => 119 | 23 => 120 | 24 => 121 | 25 => 122 | 26 => 123 | 27 => 124 | 46 => 155 | 47 => 156 | 48 => 157 | 49 => 158 | 50 => 159 | 57 => 190 | n => n, fun | 22 => 35 | 24 => 47 | 25 => 90 | 3 => 3 | 39 => 138 | 0 => 0 | 53 => 184 | 55 => 118 | 4 => 4 | 46 => 178 | 45 => 177 | 50 => 115 | 5 => 5 | 9 => 9 | 66 => 204 | 70 => 208 | 76 => 221 | 77 => 72 | n => n, fun | n => n⟩
theorem sortE : Go.Proofs.SlLaysF0.n6 Tryz.prog sortE_ren := {
  mixed := by kernel_rfl
  f6 := ⟨Tryz.f40.name, by decide, Tryz.func40.trans (congrArg some (by kernel_rfl))⟩
  f14 := ⟨Tryz.f79.name, by decide, Tryz.func79.trans (congrArg some (by kernel_rfl))⟩
  f15 := Tryz.func80.trans (congrArg some (by kernel_rfl))
  f20 := ⟨Tryz.f117.name, by decide, Tryz.func117.trans (congrArg some (by kernel_rfl))⟩
  f21 := ⟨Tryz.f118.name, by decide, Tryz.func118.trans (congrArg some (by kernel_rfl))⟩
  f22 := ⟨Tryz.f119.name, by decide, Tryz.func119.trans (congrArg some (by kernel_rfl))⟩
  f23 := ⟨Tryz.f120.name, by decide, Tryz.func120.trans (congrArg some (by kernel_rfl))⟩
  f24 := ⟨Tryz.f121.name, by decide, Tryz.func121.trans (congrArg some (by kernel_rfl))⟩
  f25 := ⟨Tryz.f122.name, by decide, Tryz.func122.trans (congrArg some (by kernel_rfl))⟩
  f26 := ⟨Tryz.f123.name, by decide, Tryz.func123.trans (congrArg some (by kernel_rfl))⟩
  f27 := ⟨Tryz.f124.name, by decide, Tryz.func124.trans (congrArg some (by kernel_rfl))⟩
  f28 := Tryz.func125.trans (congrArg some (by kernel_rfl))
  f29 := Tryz.func126.trans (congrArg some (by kernel_rfl))
  f46 := ⟨Tryz.f155.name, by decide, Tryz.func155.trans (congrArg some (by kernel_rfl))⟩
  f47 := Tryz.func156.trans (congrArg some (by kernel_rfl))
  f48 := Tryz.func157.trans (congrArg some (by kernel_rfl))
  f49 := ⟨Tryz.f158.name, by decide, Tryz.func158.trans (congrArg some (by kernel_rfl))⟩
  f50 := ⟨Tryz.f159.name, by decide, Tryz.func159.trans (congrArg some (by kernel_rfl))⟩
  f57 := ⟨Tryz.f190.name, by decide, Tryz.func190.trans (congrArg some (by kernel_rfl))⟩
  t0 := Tryz.underlying0
  a0 := Tryz.isAgg0
  z0 := Tryz.sizeOf0
  v0 := Tryz.zeroValue0
  t3 := Tryz.underlying3
  a3 := Tryz.isAgg3
  z3 := Tryz.sizeOf3
  v3 := Tryz.zeroValue3
  t4 := Tryz.underlying4
  a4 := Tryz.isAgg4
  z4 := Tryz.sizeOf4
  v4 := Tryz.zeroValue4
  t5 := Tryz.underlying5
  a5 := Tryz.isAgg5
  z5 := Tryz.sizeOf5
  v5 := Tryz.zeroValue5
  t9 := Tryz.underlying9
  a9 := Tryz.isAgg9
  z9 := Tryz.sizeOf9
  v9 := Tryz.zeroValue9
  t22 := Tryz.underlying35
  a22 := Tryz.isAgg35
  z22 := Tryz.sizeOf35
  v22 := Tryz.zeroValue35
  t25 := Tryz.underlying90
  a25 := Tryz.isAgg90
  z25 := Tryz.sizeOf90
  v25 := Tryz.zeroValue90
  t39 := Tryz.underlying138
  a39 := Tryz.isAgg138
  z39 := Tryz.sizeOf138
  v39 := Tryz.zeroValue138
  t45 := Tryz.underlying177
  a45 := Tryz.isAgg177
  z45 := Tryz.sizeOf177
  v45 := Tryz.zeroValue177
  t46 := Tryz.underlying178
  a46 := Tryz.isAgg178
  z46 := Tryz.sizeOf178
  v46 := Tryz.zeroValue178
  t50 := Tryz.underlying115
  a50 := Tryz.isAgg115
  z50 := Tryz.sizeOf115
  v50 := Tryz.zeroValue115
  t53 := Tryz.underlying184
  a53 := Tryz.isAgg184
  z53 := Tryz.sizeOf184
  v53 := Tryz.zeroValue184
  t55 := Tryz.underlying118
  a55 := Tryz.isAgg118
  z55 := Tryz.sizeOf118
  v55 := Tryz.zeroValue118
  t66 := Tryz.underlying204
  a66 := Tryz.isAgg204
  z66 := Tryz.sizeOf204
  v66 := Tryz.zeroValue204
  t70 := Tryz.underlying208
  a70 := Tryz.isAgg208
  z70 := Tryz.sizeOf208
  v70 := Tryz.zeroValue208
  t76 := Tryz.underlying221
  a76 := Tryz.isAgg221
  z76 := Tryz.sizeOf221
  v76 := Tryz.zeroValue221
  t77 := Tryz.underlying72
  a77 := Tryz.isAgg72
  z77 := Tryz.sizeOf72
  v77 := Tryz.zeroValue72 }
end Go.Proofs.YtjhkejkdnjogiaaGreatDoor
/- Edges: which one is less; a row of them sorted by the library; in order, each once. -/
namespace Go.Proofs.YtjhkejkdnjogiaaGreatDoor.Es
open Go Go.RowKit Go.Shelf Go.Lib Go.Sort
set_option maxRecDepth 100000

theorem less_any (x y : Ed) (W : World) : Calls Tryz.prog 16 #[wv x, wv y] W fun e w' => e = .returned (.bool (lessE x y)) ∧ Pa.BelowD W w' := by
  have HX := Lib.hid ((Pa.box_belowD W (.cells #[.int .i64 x.1, .int .i64 x.2] 47)).trans (Pa.box_belowD _ (.cells #[.int .i64 y.1, .int .i64 y.2] 47)))
  obtain ⟨a, b⟩ := x
  obtain ⟨c, d⟩ := y
  by_cases h : a = c
  · have HV := Lib.hid (show lessE (a, b) (c, d) = decide (b < d) by unfold lessE; rw [if_pos h])
    subst h
    go_enter Tryz.func16, Tryz.ntmps16
    go_wp2
    go_ret
    exact ⟨by rw [HV.out]; rfl, HX.out⟩
  · have HV := Lib.hid (show lessE (a, b) (c, d) = decide (a < c) by unfold lessE; rw [if_neg h])
    have h' : (a == c) = false := by simpa using h
    go_enter Tryz.func16, Tryz.ntmps16
    go_wp2
    go_ret
    exact ⟨by rw [HV.out]; rfl, HX.out⟩
/-- how two edges compare -/
def cmpE (x y : Ed) : Int := if x = y then 0 else if lessE x y then -1 else 1
theorem lt_less (x y : Ed) : ltOf cmpE x y = lessE x y := by
  unfold ltOf cmpE
  by_cases h : x = y
  · subst h
    rw [ordE.irr]
    simp
  · rw [if_neg h]
    cases lessE x y <;> simp
theorem compare_any (x y : Ed) (W : World) : Calls Tryz.prog 41 #[wv x, wv y] W fun e w' => e = .returned (.int .i64 (cmpE x y)) ∧ Pa.BelowD W w' := by
  have HX := Lib.hid ((Pa.box_belowD W (.cells #[.int .i64 x.1, .int .i64 x.2] 47)).trans (Pa.box_belowD _ (.cells #[.int .i64 y.1, .int .i64 y.2] 47)))
  have HL := Lib.hid (fun W => less_any x y W)
  by_cases h : x = y
  · have HV := Lib.hid (show cmpE x y = 0 by unfold cmpE; rw [if_pos h])
    have he := eqE_iff.2 h
    clear HL h
    obtain ⟨a, b⟩ := x
    obtain ⟨c, d⟩ := y
    go_enter Tryz.func41, Tryz.ntmps41
    go_wp2
    go_ret
    exact ⟨by rw [HV.out]; rfl, HX.out⟩
  · have he := eqE_ne h
    have HV := Lib.hid (show cmpE x y = if lessE x y then -1 else 1 by unfold cmpE; rw [if_neg h])
    clear h
    generalize lessE x y = q at *
    generalize cmpE x y = z at *
    obtain ⟨a, b⟩ := x
    obtain ⟨c, d⟩ := y
    go_enter Tryz.func41, Tryz.ntmps41
    go_wp2_with fail
    refine (HL.out _).mono ?_
    rintro r w1 ⟨rfl, hb1⟩
    have HB := Lib.hid (HX.out.trans hb1)
    clear hb1 HL
    cases q
    · go_wp2_with fail
      go_ret
      exact ⟨by rw [HV.out]; rfl, HB.out⟩
    · go_wp2_with fail
      go_ret
      exact ⟨by rw [HV.out]; rfl, HB.out⟩
theorem swoE : SWO (ltOf cmpE) where
  irrefl x := by rw [lt_less]; exact ordE.irr _
  trans x y z h1 h2 := by rw [lt_less] at *; exact ordE.tr _ _ _ h1 h2
  ntrans x y z h1 h2 := by
    rw [lt_less] at *
    rw [lessE_not] at *
    omega
theorem totE (x y : Ed) (h1 : ltOf cmpE x y = false) (h2 : ltOf cmpE y x = false) : x = y := by
  rw [lt_less] at *
  exact ordE.tot _ _ h1 h2
/-- edges in order -/
def srt (xs : List Ed) : List Ed := xs.mergeSort fun x y => !(ltOf cmpE) y x
theorem srt_perm (xs : List Ed) : (srt xs).Perm xs := List.mergeSort_perm _ _
theorem srt_length (xs : List Ed) : (srt xs).length = xs.length := (srt_perm xs).length_eq
theorem srt_sorted (xs : List Ed) : Od.Srt lessE (srt xs) := by
  have h := List.pairwise_mergeSort (le := fun x y => !(ltOf cmpE) y x)
    (fun a b c h1 h2 => by simp only [Bool.not_eq_true'] at *; exact swoE.ntrans c b a h2 h1)
    (fun a b => by
      simp only [Bool.or_eq_true, Bool.not_eq_true']
      cases h : ltOf cmpE b a
      · exact .inl rfl
      · right
        cases h2 : ltOf cmpE a b
        · rfl
        · have := swoE.trans _ _ _ h h2
          rw [swoE.irrefl] at this; cases this) xs
  refine h.imp ?_
  intro a b hab
  simpa [lt_less] using hab
theorem srt_can (xs : List Ed) : Od.can lessE (srt xs) = Od.can lessE xs := Od.can_eq ordE fun _ => (srt_perm xs).mem_iff
theorem cmpLays (blk off size : Nat) (w : World) : CmpLays Tryz.prog 41 #[] cellsW 2 cmpE blk off size w :=
  fun _ _ _ _ x y => (compare_any x y _).mono fun _ _ ⟨he, hb⟩ => ⟨he, Pa.grown_of hb⟩
theorem flatK_flat (xs : List Ed) : flatK cellsW 2 xs.toArray = (flat xs).toArray := by
  apply Array.ext
  · simp [flat_length]
  · intro t h1 h2
    simp [flat_length] at h2
    have ht : t < xs.toArray.size * 2 := by simpa using h2
    have hd : t / 2 < xs.length := by omega
    have hm : t % 2 < 2 := Nat.mod_lt _ (by omega)
    have e1 : (flatK cellsW 2 xs.toArray)[t] = (cellsW xs.toArray[t / 2]!)[t % 2]! := by
      rw [← get_flatK cellsW 2 xs.toArray t ht, getElem!_pos _ t h1]
    rw [e1]
    have e2 : xs.toArray[t / 2]! = xs[t / 2] := by rw [getElem!_pos _ _ (by simpa using hd)]; simp
    rw [e2]
    have f1 := flat_at xs (t / 2) (t % 2) hd hm
    have h3 : t < (flat xs).length := by rw [flat_length]; exact h2
    show _ = (flat xs)[t]
    rw [show t / 2 * 2 + t % 2 = t by omega, List.getElem?_eq_getElem h3] at f1
    have h5 : t % 2 < (cellsW xs[t / 2]).length := by simpa [cellsW] using hm
    rw [List.getElem?_eq_getElem h5] at f1
    simp only [Option.some.injEq] at f1
    rw [f1]
    exact getElem!_pos (cellsW xs[t / 2]) (t % 2) h5
theorem row_holds {W : World} {base g n cap : Nat} {xs : List Ed} (h : Row W base (.slice (some ⟨g, 0, none⟩) n cap) xs) : HoldsK cellsW 2 W g 0 xs.toArray := by
  unfold HoldsK
  rw [flatK_flat]
  intro j hj
  have hj' : j < (flat xs).length := by simpa using hj
  have h1 := h.cells (g := g) rfl j _ (List.getElem?_eq_getElem hj')
  rw [add_at] at h1
  rcases h.2 with ⟨h0, _⟩ | ⟨g', cap', cur, e, _, hb, _⟩
  · cases h0
  · cases e
    refine ⟨?_, by rw [Nat.zero_add]; unfold World.frozen?; simp [hb]⟩
    rw [Nat.zero_add, h1, getElem!_pos _ j hj]
    simp
theorem sort_heap {w : World} {g m : Nat} {xs : List Ed} {os : Array Obj} {cur : Array Value} (hg : w.heap[g]? = some (.cells cur 47 (0, 0))) :
    (sortWorldK cellsW 2 w g 0 m xs.toArray os).heap[g]? = some (.cells (putCells id 0 (flat xs).toArray cur) 47 (0, 0)) ∧
    (∀ k, k ≠ g → k < w.heap.size → (sortWorldK cellsW 2 w g 0 m xs.toArray os).heap[k]? = w.heap[k]?) ∧ w.heap.size ≤ (sortWorldK cellsW 2 w g 0 m xs.toArray os).heap.size := by
  have hlt := (Array.getElem?_eq_some_iff.1 hg).1
  have e : (Go.Sort.ahead w m).heap = w.heap := rfl
  unfold sortWorldK putRowK putRow mapBlock grow
  rw [flatK_flat, e]
  refine ⟨?_, fun k hk hks => ?_, ?_⟩
  · simp only [Array.getElem?_append, Array.size_modify]
    rw [if_pos hlt, Array.getElem?_modify, if_pos rfl, hg]
    rfl
  · simp only [Array.getElem?_append, Array.size_modify]
    rw [if_pos hks, Array.getElem?_modify, if_neg (Ne.symm hk)]
  · simp
theorem sort_row {w : World} {base g n cap m : Nat} {xs ys : List Ed} {os : Array Obj} (h : Row w base (.slice (some ⟨g, 0, none⟩) n cap) xs) (hl : ys.length = xs.length) :
    Row (sortWorldK cellsW 2 w g 0 m ys.toArray os) base (.slice (some ⟨g, 0, none⟩) n cap) ys := by
  rcases h.2 with ⟨h0, _⟩ | ⟨g', cap', cur, e, hb, hg, h1, h2, h3, h4⟩
  · cases h0
  · cases e
    refine ⟨flat_length _, .inr ⟨g, cap, _, by rw [hl], hb, (sort_heap hg).1, by rw [hl]; exact h1, h2, by simp [putCells, h3], ?_⟩⟩
    apply List.ext_getElem?
    intro k
    rw [List.getElem?_take]
    by_cases hk : k < ys.length * 2
    · rw [if_pos hk, Array.getElem?_toList]
      have hc : k < cur.size := by rw [h3]; omega
      have hf : k < (flat ys).length := by rw [flat_length]; exact hk
      unfold putCells
      rw [Array.getElem?_mapIdx, Array.getElem?_eq_getElem hc]
      simp only [Option.map_some, Nat.zero_le, Nat.zero_add, true_and, List.size_toArray]
      rw [if_pos hf, List.getElem?_eq_getElem hf, Nat.sub_zero, getElem!_pos _ k (by simpa using hf)]
      simp
    · rw [if_neg hk, List.getElem?_eq_none (by rw [flat_length]; omega)]
theorem sortf_any {w : World} {base : Nat} {v : Value} {xs : List Ed} (h : Row w base v xs) (hl : xs.length ≤ 1000000) :
    Calls Tryz.prog 40 #[v, .func (.func 41) #[] #[]] w fun e w' => e = .returned (.tuple #[]) ∧ Row w' base v (srt xs) ∧ Below base w w' ∧ OnlyS (fun k => v.ownBlock = some k) w w' := by
  have eg : ∀ args w, (callFunc 41 args).run Tryz.prog w = .ok (.enter 41 args) w := enters_of Tryz.func41 (by kernel_rfl) rfl
  by_cases h0 : xs = []
  · subst h0
    have e : srt [] = [] := by simp [srt]
    rw [e]
    have : ∃ p cap, v = .slice p 0 cap := by
      rcases h.2 with ⟨rfl, _⟩ | ⟨g', cap', cur, rfl, _⟩
      · exact ⟨_, _, rfl⟩
      · exact ⟨_, _, rfl⟩
    obtain ⟨p, cap, rfl⟩ := this
    have hc := AnyF.slices_SortFunc_none sortE p cap (.func (.func 41) #[] #[]) w
    refine Calls.mono (f := 40) hc ?_
    rintro e w' ⟨rfl, rfl⟩
    exact ⟨rfl, h, Below.refl _ _, OnlyS.refl _ _⟩
  · rcases h.2 with ⟨rfl, hn⟩ | ⟨g, cap, cur, rfl, hb, hg, h1, h2, h3, h4⟩
    · exact absurd (List.length_eq_zero_iff.1 hn) h0
    · have hlt := (Array.getElem?_eq_some_iff.1 hg).1
      have hh := row_holds h
      have hc := AnyQ.slices_SortFunc_total sortE 2 Tryz.isAgg47 Tryz.sizeOf47 cellsW (fun _ => rfl) (fun x v hv => by simp [cellsW] at hv; rcases hv with rfl | rfl <;> rfl) cmpE swoE 41 #[] g 0 cap xs.toArray w eg (cmpLays _ _ _ _) hh hlt (by simp; omega) totE
      refine Calls.mono (f := 40) hc ?_
      rintro e w' ⟨rfl, n, os, rfl⟩
      have hsz := (sort_heap (m := n) (xs := srt xs) (os := os) hg)
      refine ⟨rfl, sort_row h (srt_length xs), ⟨rfl, rfl, rfl, hsz.2.2, fun k hk => hsz.2.1 k (by omega) (by omega)⟩, ⟨rfl, rfl, rfl, hsz.2.2, fun k hk hn => hsz.2.1 k (fun e => hn (by rw [e]; rfl)) hk⟩⟩
/-- a list of edges of one's own, handed back -/
def Rows (W : World) (xs : List Ed) (e : Ending) (w' : World) : Prop := ∃ v, e = .returned v ∧ Row w' W.heap.size v xs ∧ Below W.heap.size W w'
theorem sort_any {W : World} {A : Option Addr} {c : Nat} {xs : List Ed} (hr : Ls W A c xs) (hl : xs.length ≤ 1000000) : Calls Tryz.prog 15 #[.slice A xs.length c] W (Rows W (Od.can lessE xs)) := by
  have HC := Lib.hid (clone_any hr hl)
  have HL := Lib.hid hl
  obtain ⟨n, hn⟩ : ∃ n, xs.length = n := ⟨_, rfl⟩
  rw [hn] at HC ⊢
  clear hr hl hn
  go_enter Tryz.func15, Tryz.ntmps15
  go_wp2_with fail
  refine HC.out.mono ?_
  rintro e w1 ⟨v, rfl, hrow, hb1⟩
  have HS := Lib.hid (sortf_any hrow HL.out)
  have HB1 := Lib.hid hb1
  have HV := Lib.hid (fun k (hk : v.ownBlock = some k) => (hrow.lt k hk).1)
  clear hrow hb1 HC
  go_wp2_with fail
  refine HS.out.mono ?_
  rintro e w2 ⟨rfl, hrow2, hb2, -⟩
  have HK := Lib.hid (compact_any hrow2 (by rw [srt_length]; exact HL.out) (srt_sorted xs))
  have HB2 := Lib.hid (HB1.out.trans hb2)
  rw [srt_can] at HK
  clear hrow2 hb2 HS HB1
  go_wp2_with fail
  refine HK.out.mono ?_
  rintro e w3 ⟨v3, rfl, hrow3, ho3⟩
  have HR3 := Lib.hid hrow3
  have HB3 := Lib.hid (HB2.out.trans (ho3.below HV.out HB2.out.size))
  clear hrow3 ho3 HK
  go_wp2_with fail
  go_ret
  exact ⟨v3, rfl, HR3.out, HB3.out⟩
end Go.Proofs.YtjhkejkdnjogiaaGreatDoor.Es
