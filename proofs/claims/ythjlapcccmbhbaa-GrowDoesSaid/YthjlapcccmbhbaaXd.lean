/- Stores into a row's own block; what is cleared; those of which a condition holds go out of a row of one's own, in its own memory. -/
import Derived.Test.YthjlapcccmbhbaaLg
import Derived.Lib.SliceRun
import Derived.Laws.IdiomCopy
namespace Go.Proofs.Ythjlapcccmbhbaa.Lk
open Go Go.RowKit Go.Shelf Pa
set_option maxRecDepth 100000

theorem set_blk {W : World} {g o : Nat} {cur : Array Value} {t : TypeId} {fr : Nat × Nat} (v : Value) (h : W.heap[g]? = some (.cells cur t fr)) : (W.setCell ⟨g, o, none⟩ v).heap[g]? = some (.cells (cur.setIfInBounds o v) t fr) := by
  obtain ⟨hlt, hk⟩ := Array.getElem?_eq_some_iff.1 h
  show (W.heap.modify g _)[g]? = _
  rw [Array.getElem?_eq_getElem (by rw [Array.size_modify]; exact hlt), Array.getElem_modify_self, hk]
  rfl
theorem sets_blk {t : TypeId} {fr : Nat × Nat} {g : Nat} : ∀ (vs : List Value) (W : World) (o : Nat) (cur : Array Value), W.heap[g]? = some (.cells cur t fr) →
    ∃ cur', (W.setCells g o vs).heap[g]? = some (.cells cur' t fr) ∧ cur'.size = cur.size ∧ (∀ k, k < o → cur'[k]? = cur[k]?) ∧ OnlyS (· = g) W (W.setCells g o vs)
  | [], W, o, cur, h => ⟨cur, h, rfl, fun _ _ => rfl, OnlyS.refl _ _⟩
  | v :: vs, W, o, cur, h => by
    obtain ⟨cur', h1, h2, h3, h4⟩ := sets_blk vs (W.setCell ⟨g, o, none⟩ v) (o + 1) _ (set_blk (o := o) v h)
    refine ⟨cur', h1, by simpa using h2, fun k hk => ?_, (OnlyS.set g o W v).trans h4⟩
    rw [h3 k (by omega), Array.getElem?_setIfInBounds_ne (by omega)]
section
variable {W W' : World} {g n cap K : Nat} {zs : List Hd}
theorem Row.keep {v : Value} (h : Row W K v zs) (hk : ∀ g, v.ownBlock = some g → W'.heap[g]? = W.heap[g]?) : Row W' K v zs := row_keep h hk
/-- a shorter slice of the same row, whatever stands behind -/
theorem Row.cut {i : Nat} (h : Row W K (.slice (some ⟨g, 0, none⟩) n cap) zs) (hi : i ≤ zs.length)
    (hg' : ∀ cur, W.heap[g]? = some (.cells cur 27 (0, 0)) → ∃ cur', W'.heap[g]? = some (.cells cur' 27 (0, 0)) ∧ cur'.size = cur.size ∧ ∀ k, k < i * 6 → cur'[k]? = cur[k]?) :
    Row W' K (.slice (some ⟨g, 0, none⟩) i cap) (zs.take i) := by
  rcases h.2 with ⟨h0, _⟩ | ⟨g', cap', cur, e, hb, hg, h1, h2, h3, h4⟩
  · cases h0
  · cases e
    obtain ⟨cur', k1, k2, k3⟩ := hg' cur hg
    have hl : (zs.take i).length = i := by rw [List.length_take]; omega
    refine ⟨flat_length _, .inr ⟨g, cap, cur', by rw [hl], hb, k1, by omega, h2, by omega, ?_⟩⟩
    rw [hl]
    have e1 : flat (zs.take i) = (flat zs).take (i * 6) := by
      have e2 : flat zs = flat (zs.take i) ++ flat (zs.drop i) := by rw [← flat_append, List.take_append_drop]
      rw [e2, List.take_left' (by rw [flat_length, hl])]
    rw [e1, ← h4, List.take_take]
    apply List.ext_getElem?
    intro k
    rw [List.getElem?_take, List.getElem?_take]
    by_cases hk : k < i * 6
    · rw [if_pos hk, if_pos (by omega), Array.getElem?_toList, Array.getElem?_toList, k3 k hk]
    · rw [if_neg hk, if_neg (by omega)]
theorem Row.blk (h : Row W K (.slice (some ⟨g, 0, none⟩) n cap) zs) : ∃ cur, W.heap[g]? = some (.cells cur 27 (0, 0)) ∧ zs.length ≤ cap ∧ cap ≤ maxLen := by
  rcases h.2 with ⟨h0, _⟩ | ⟨g', cap', cur, e, _, hb, h1, h2, _⟩
  · cases h0
  · cases e; exact ⟨cur, hb, h1, h2⟩
theorem Row.free {k : Nat} (h : Row W K (.slice (some ⟨g, 0, none⟩) n cap) zs) : W.frozen? ⟨g, k, none⟩ = false := by
  obtain ⟨cur, hb, -⟩ := h.blk
  exact frozen_of_row _ _ _ _ _ hb
theorem Row.there {k : Nat} (h : Row W K (.slice (some ⟨g, 0, none⟩) n cap) zs) (hk : k < zs.length * 6) : (W.cell? ⟨g, k, none⟩).isSome = true := by
  have h1 := h.cells (g := g) rfl k _ (List.getElem?_eq_getElem (by rw [flat_length]; exact hk))
  rw [add_at] at h1
  rw [h1]; rfl
end
/-- as many zeros -/
def zz (n : Nat) : List Value := (Builtin.zeroCells (Value.agg #[.int .i64 0, .int .i64 0, .int .i64 0, .int .i64 0, .int .i64 0, .int .i64 0]).cells n).toList
theorem zz_length (n : Nat) : (zz n).length = n * 6 := by simp [zz, size_zeroCells, Value.cells]
theorem zz_one (n : Nat) : ∀ u ∈ zz n, u.oneCell' = true := by
  intro u hu
  obtain ⟨k, hk, rfl⟩ := List.getElem_of_mem hu
  simp only [zz, Builtin.zeroCells, Value.cells, Array.getElem_toList]
  have h4 : k % 6 = 0 ∨ k % 6 = 1 ∨ k % 6 = 2 ∨ k % 6 = 3 ∨ k % 6 = 4 ∨ k % 6 = 5 := by omega
  rcases h4 with e | e | e | e | e | e <;> simp [e] <;> rfl
theorem run_clear_w (w : World) (ty : TypeId) (b o n c : Nat) (hn : 0 < n) (hc : ∀ j, j < n * 6 → (w.cell? ⟨b, o + j, none⟩).isSome = true) (hf : ∀ j, j < n * 6 → w.frozen? ⟨b, o + j, none⟩ = false) :
    (Builtin.clear_ #[22] ty #[.slice (some ⟨b, o, none⟩) n c]).run Try.prog w = .ok (.tuple #[]) (w.setCells b o (zz n)) := by
  have hst := run_storeCells_cells (P := Try.prog) b o (zz n) 0 w (by rw [zz_length]; simpa using hc) (by rw [zz_length]; simpa using hf) (zz_one n)
  simp only [Nat.add_zero] at hst
  obtain ⟨m, rfl⟩ : ∃ m, n = m + 1 := ⟨n - 1, by omega⟩
  unfold zz at hst
  simp [Builtin.clear_, run_underlying Try.underlying22, Try.zeroValue27, hst, zz]
theorem filter_none {p : Hd → Bool} {xs : List Hd} (h : ∀ x ∈ xs, p x = false) : xs.filter (fun x => !p x) = xs := List.filter_eq_self.2 fun x hx => by simp [h x hx]
/-- how a row stands as it is gone through: i kept, j looked at -/
structure Mid (p : Hd → Bool) (xs zs : List Hd) (i j : Nat) : Prop where
  len : zs.length = xs.length
  ij : i < j
  jn : j ≤ xs.length
  kept : zs.take i = (xs.take j).filter (fun x => !p x)
  rest : zs.drop j = xs.drop j
theorem Mid.start {p : Hd → Bool} {xs : List Hd} {i : Nat} (h : i < xs.length) (hp : p xs[i] = true) (ha : ∀ k (h : k < i), p (xs[k]'(by omega)) = false) : Mid p xs xs i (i + 1) := by
  refine ⟨rfl, by omega, h, ?_, rfl⟩
  have ha' : ∀ y ∈ xs.take i, p y = false := by
    intro y hy
    obtain ⟨k, hk, rfl⟩ := List.getElem_of_mem hy
    rw [List.getElem_take]
    exact ha k (by rw [List.length_take] at hk; omega)
  rw [List.take_succ_eq_append_getElem h, List.filter_append, filter_none ha']
  simp [hp]
theorem Mid.at {p : Hd → Bool} {xs zs : List Hd} {i j : Nat} (h : Mid p xs zs i j) (hj : j < xs.length) : ∃ hz : j < zs.length, zs[j] = xs[j] := by
  have hz : j < zs.length := by rw [h.len]; exact hj
  refine ⟨hz, ?_⟩
  have := congrArg (fun l => l[0]?) h.rest
  simp [List.getElem?_drop, List.getElem?_eq_getElem hz, List.getElem?_eq_getElem hj] at this
  exact this
theorem Mid.skip {p : Hd → Bool} {xs zs : List Hd} {i j : Nat} (h : Mid p xs zs i j) (hj : j < xs.length) (hp : p xs[j] = true) : Mid p xs zs i (j + 1) := by
  refine ⟨h.len, by have := h.ij; omega, hj, ?_, ?_⟩
  · rw [h.kept, List.take_succ_eq_append_getElem hj, List.filter_append]; simp [hp]
  · rw [← List.drop_drop, ← List.drop_drop, h.rest]
theorem Mid.keep {p : Hd → Bool} {xs zs : List Hd} {i j : Nat} (h : Mid p xs zs i j) (hj : j < xs.length) (hp : p xs[j] = false) : Mid p xs (zs.set i xs[j]) (i + 1) (j + 1) := by
  have hij := h.ij
  have hz : i < zs.length := by rw [h.len]; omega
  refine ⟨by simpa using h.len, by omega, hj, ?_, ?_⟩
  · have hl : i < (zs.set i xs[j]).length := by simpa using hz
    rw [List.take_succ_eq_append_getElem hl, List.take_set_of_le (Nat.le_refl _), h.kept, List.take_succ_eq_append_getElem hj, List.filter_append]
    simp [hp]
  · rw [List.drop_set_of_lt (by omega), ← List.drop_drop, ← List.drop_drop, h.rest]
theorem Mid.done {p : Hd → Bool} {xs zs : List Hd} {i : Nat} (h : Mid p xs zs i xs.length) : zs.take i = xs.filter (fun x => !p x) := by
  rw [h.kept, List.take_length]
/-- what a call that drops some of a row hands back -/
def Drops (W : World) (K : Nat) (v : Value) (xs : List Hd) (e : Ending) (w' : World) : Prop :=
  ∃ v', e = .returned v' ∧ Row w' K v' xs ∧ OnlyS (fun k => v.ownBlock = some k) W w'
section
variable {T : Nat → Prop} {W W' : World} {gf : Nat} {cs : Array Value} {p : Hd → Bool} {A : Option Addr} {c K : Nat} {xs : List Hd}
set_option maxRecDepth 100000 in
set_option maxHeartbeats 4000000 in
theorem delete_any {v : Value} (hp : Prd (fun k => v.ownBlock = some k) W gf cs p) (hr : Row W K v xs) (hl : xs.length ≤ 5000) :
    Calls Try.prog 43 #[v, .func (.func gf) #[] cs] W (Drops W K v (xs.filter (fun x => !p x))) := by
  obtain ⟨A, c, rfl, hls⟩ := hr.ls
  have HI := Lib.hid (index_any hp hls hl)
  rcases idx_cases p xs with ⟨h1, h2⟩ | ⟨i, h2, h1, h3, h4⟩
  · rw [h1] at HI
    have HF := Lib.hid (filter_none h2)
    have HR := Lib.hid hr
    clear hp hr hls hl h1 h2
    generalize xs.length = n at *
    go_enter Try.func43, Try.ntmps43
    go_wp2_with (go_at_call 66; ((with_reducible refine HI.out.mono ?_); rintro e w1 ⟨rfl, hb1⟩))
    go_ret
    exact ⟨_, rfl, by rw [HF.out]; exact Row.keep HR.out fun g hg => hb1.block g (HR.out.lt g hg).2, OnlyS.of_below hb1⟩
  · rw [h1] at HI
    have HM := Lib.hid (Mid.start h2 h3 h4)
    obtain ⟨eg, hp⟩ := hp
    cases A with
    | none => exact absurd h2 (by rw [hls.empty]; simp)
    | some ad =>
      obtain ⟨g, rfl⟩ : ∃ g, ad = ⟨g, 0, none⟩ := by
        rcases hr.2 with ⟨h0, _⟩ | ⟨g, cap, cur, e, _⟩
        · cases h0
        · cases e; exact ⟨g, rfl⟩
      obtain ⟨cur, hblk, hnc, hcm⟩ := Row.blk hr
      have hgl := (Array.getElem?_eq_some_iff.1 hblk).1
      have hp' : ∀ (W' : World) (x : Hd), OnlyS (· = g) W W' → Calls Try.prog gf (#[wv x] ++ cs) W' fun e w' => e = .returned (.bool (p x)) ∧ Below W'.heap.size W' w' :=
        fun W' x ho => hp W' x (ho.mono fun k _ hk => by rw [hk]; rfl)
      have HP := Lib.hid hp'
      have HR := Lib.hid hr
      obtain ⟨n, hn⟩ : ∃ n, xs.length = n := ⟨_, rfl⟩
      have HN := Lib.hid hn
      have hin : i < n := by rw [← hn]; exact h2
      have hcm2 : c ≤ 9223372036854775807 := by unfold maxLen at hcm; omega
      rw [hn] at hnc HI hl
      rw [hn] at HR ⊢
      clear hp hp' hr hls h1 h2 h3 h4 hblk hcm hn
      go_enter Try.func43, Try.ntmps43
      go_wp2_with fail
      refine HI.out.mono ?_
      rintro e w1 ⟨rfl, hb1⟩
      have HR1 := Lib.hid (Row.keep HR.out (W' := w1) fun g' hg' => hb1.block g' (HR.out.lt g' hg').2)
      have HO1 := Lib.hid (OnlyS.of_below (S := (· = g)) hb1)
      have hi1 : ((i : Int) == -1) = false := by simp
      clear HI hb1
      go_wp2_with fail
      go_loopw [5, 6] (fun s t wr => ∃ (a b : Nat) (zs : List Hd), s = .int .i64 a ∧ t = .int .i64 b ∧ Mid p xs zs a b ∧ Row wr K (.slice (some ⟨g, 0, none⟩) n c) zs ∧ OnlyS (· = g) W wr) (fun _ t _ => n - (intOf t).toNat)
      case atStart => exact ⟨i, i + 1, xs, rfl, by go_num, HM.out, HR1.out, HO1.out⟩
      case round =>
        obtain ⟨a, b, zs, rfl, rfl, hmid, hrow, hon⟩ := hrel
        have hab := hmid.ij
        have hbn : b ≤ n := by rw [← HN.out]; exact hmid.jn
        have HMd := Lib.hid hmid
        have HRw := Lib.hid hrow
        have HOn := Lib.hid hon
        have hsz := hon.size
        have hzn : zs.length = n := by rw [hmid.len, HN.out]
        have HZN := Lib.hid hzn
        clear hmid hrow hon HM HR1 HO1 hzn
        by_cases hlt : b < n
        · have hbl : b < xs.length := by rw [HN.out]; exact hlt
          obtain ⟨hbz, hze⟩ := HMd.out.at hbl
          obtain ⟨a', c', ev, hls⟩ := HRw.out.ls
          rw [HZN.out] at ev
          cases ev
          obtain ⟨ad, had, c0, c1, c2, c3, c4, c5⟩ := hls.here hbz
          cases had
          obtain ⟨x, hx⟩ : ∃ x, xs[b] = x := ⟨_, rfl⟩
          rw [hze, hx] at c0 c1 c2 c3 c4 c5
          have HX := Lib.hid hx
          clear hls hx hze
          obtain ⟨⟨xa, xb, xc, xd, xe⟩, xm⟩ := x
          simp only [add_at] at c0 c1 c2 c3 c4 c5
          have hb1 := Go.Proofs.Ythjlapcccmbhbaa.box_below wr (.cells #[.int .i64 xa, .int .i64 xb, .int .i64 xc, .int .i64 xd, .int .i64 xe, .int .i64 xm] 27)
          have hbx := box_ls wr (⟨xa, xb, xc, xd, xe⟩, xm)
          have hcall := Lib.hid (HP.out (wr.alloc (.cells #[.int .i64 xa, .int .i64 xb, .int .i64 xc, .int .i64 xd, .int .i64 xe, .int .i64 xm] 27)) (⟨xa, xb, xc, xd, xe⟩, xm) (HOn.out.trans (OnlyS.of_below hb1)))
          obtain ⟨q, hpx⟩ : ∃ q, p (⟨xa, xb, xc, xd, xe⟩, xm) = q := ⟨_, rfl⟩
          rw [hpx] at hcall
          have HPX := Lib.hid (show p xs[b] = q by rw [HX.out]; exact hpx)
          clear hpx
          cases q
          · go_wp2_with fail
            refine hcall.out.mono ?_
            rintro e w2 ⟨rfl, hb2⟩
            have hb3 : Below wr.heap.size wr w2 := hb1.trans (hb2.mono hb1.size)
            obtain ⟨ad2, had2, e0, e1, e2, e3, e4, e5⟩ := (hbx.below hb2).here (i := 0) (by simp)
            cases had2
            simp only [List.getElem_cons_zero, Nat.zero_mul, add_at, Nat.zero_add] at e0 e1 e2 e3 e4 e5
            have HR2 := Lib.hid (Row.keep HRw.out (W' := w2) fun g' hg' => hb3.block g' (HRw.out.lt g' hg').2)
            have haz : a < zs.length := by rw [HZN.out]; omega
            have han : a < n := by omega
            have hpl := Row.at HR2.out haz
            obtain ⟨u, hu⟩ : ∃ u, zs[a] = u := ⟨_, rfl⟩
            rw [hu] at hpl
            obtain ⟨y0, y1, y2, y3, y4, y5, f0, f1, f2, f3, f4, f5, -⟩ := hpl
            have HO2 := Lib.hid (HOn.out.trans (OnlyS.of_below hb3))
            have HPut := Lib.hid (Row.put HR2.out HZN.out haz (⟨xa, xb, xc, xd, xe⟩, xm))
            clear hcall hb1 hb2 hb3 hbx c0 c1 c2 c3 c4 c5 hu haz hbz
            go_wp2_with fail
            go_roundw
            case rel =>
              refine ⟨a + 1, b + 1, zs.set a (⟨xa, xb, xc, xd, xe⟩, xm), by go_num, by go_num, ?_, HPut.out, HO2.out.trans (put6_only w2 g (a * 6) (⟨xa, xb, xc, xd, xe⟩, xm))⟩
              have := HMd.out.keep (by rw [HN.out]; exact hlt) HPX.out
              rw [HX.out] at this
              exact this
            case measure => simp [intOf]; omega
          · go_wp2_with fail
            refine hcall.out.mono ?_
            rintro e w2 ⟨rfl, hb2⟩
            have hb3 : Below wr.heap.size wr w2 := hb1.trans (hb2.mono hb1.size)
            have HR2 := Lib.hid (Row.keep HRw.out (W' := w2) fun g' hg' => hb3.block g' (HRw.out.lt g' hg').2)
            have HO2 := Lib.hid (HOn.out.trans (OnlyS.of_below hb3))
            clear hcall hb1 hb2 hb3 hbx c0 c1 c2 c3 c4 c5 hbz
            go_wp2_with fail
            go_roundw
            case rel => exact ⟨a, b + 1, zs, rfl, by go_num, HMd.out.skip (by rw [HN.out]; exact hlt) HPX.out, HR2.out, HO2.out⟩
            case measure => simp [intOf]; omega
        · obtain rfl : b = n := by omega
          have hzl : zs.length = b := HZN.out
          have hclr := fun ty => run_clear_w wr ty g (a * 6) (b - a) (c - a) (by omega) (fun k hk => Row.there HRw.out (by omega)) (fun k _ => Row.free HRw.out)
          clear hzl
          go_wp2_with fail
          go_ret
          have hset : ∀ cur, wr.heap[g]? = some (.cells cur 27 (0, 0)) → ∃ cur', (wr.setCells g (a * 6) (zz (b - a))).heap[g]? = some (.cells cur' 27 (0, 0)) ∧ cur'.size = cur.size ∧ ∀ k, k < a * 6 → cur'[k]? = cur[k]? := fun cur hcur => by
            obtain ⟨cur', q1, q2, q3, _⟩ := sets_blk (zz (b - a)) wr (a * 6) cur hcur
            exact ⟨cur', q1, q2, q3⟩
          refine ⟨_, rfl, ?_, ?_⟩
          · have hmd := HMd.out
            rw [← HN.out] at hmd
            have hz := hmd.done
            rw [← hz]
            have := Row.cut HRw.out (i := a) (by rw [HZN.out]; omega) hset
            exact this
          · obtain ⟨cur, hb, -⟩ := Row.blk HRw.out
            obtain ⟨_, _, _, _, q4⟩ := sets_blk (zz (b - a)) wr (a * 6) cur hb
            exact (HOn.out.trans q4).mono (fun k _ hk => by rw [hk]; rfl)
end
end Go.Proofs.Ythjlapcccmbhbaa.Lk
