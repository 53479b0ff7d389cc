/- A list is copied; those of which a condition holds go out of a row of one's own, in its own memory; those of others. -/
import Derived.Test.YteaibamkfccplaaDoorHD1
namespace Go.Proofs.YteaibamkfccplaaDoor.Hs
open Go Go.RowKit Go.Shelf

theorem filter_none {p : Hd → Bool} {xs : List Hd} (h : ∀ x ∈ xs, p x = false) : xs.filter (fun x => !p x) = xs := List.filter_eq_self.2 fun x hx => by simp [h x hx]
/-- how a row stands as it is gone through: i kept, j looked at -/
structure Mid (p : Hd → Bool) (xs zs : List Hd) (i j : Nat) : Prop where
  len : zs.length = xs.length
  ij : i < j
  jn : j ≤ xs.length
  kept : zs.take i = (xs.take j).filter (fun x => !p x)
  rest : zs.drop j = xs.drop j
theorem Mid.start {p : Hd → Bool} {xs : List Hd} {i : Nat} (h : i < xs.length) (hp : p xs[i] = true) (ha : ∀ k (h : k < i), p (xs[k]'(by omega)) = false) : Mid p xs xs i (i + 1) := by
  refine ⟨rfl, by omega, h, ?_, rfl⟩
  have ha' : ∀ y ∈ xs.take i, p y = false := by
    intro y hy
    obtain ⟨k, hk, rfl⟩ := List.getElem_of_mem hy
    rw [List.getElem_take]
    exact ha k (by rw [List.length_take] at hk; omega)
  rw [List.take_succ_eq_append_getElem h, List.filter_append, filter_none ha']
  simp [hp]
theorem Mid.at {p : Hd → Bool} {xs zs : List Hd} {i j : Nat} (h : Mid p xs zs i j) (hj : j < xs.length) : ∃ hz : j < zs.length, zs[j] = xs[j] := by
  have hz : j < zs.length := by rw [h.len]; exact hj
  refine ⟨hz, ?_⟩
  have := congrArg (fun l => l[0]?) h.rest
  simp [List.getElem?_drop, List.getElem?_eq_getElem hz, List.getElem?_eq_getElem hj] at this
  exact this
theorem Mid.skip {p : Hd → Bool} {xs zs : List Hd} {i j : Nat} (h : Mid p xs zs i j) (hj : j < xs.length) (hp : p xs[j] = true) : Mid p xs zs i (j + 1) := by
  refine ⟨h.len, by have := h.ij; omega, hj, ?_, ?_⟩
  · rw [h.kept, List.take_succ_eq_append_getElem hj, List.filter_append]; simp [hp]
  · rw [← List.drop_drop, ← List.drop_drop, h.rest]
theorem Mid.keep {p : Hd → Bool} {xs zs : List Hd} {i j : Nat} (h : Mid p xs zs i j) (hj : j < xs.length) (hp : p xs[j] = false) : Mid p xs (zs.set i xs[j]) (i + 1) (j + 1) := by
  have hij := h.ij
  have hz : i < zs.length := by rw [h.len]; omega
  refine ⟨by simpa using h.len, by omega, hj, ?_, ?_⟩
  · have hl : i < (zs.set i xs[j]).length := by simpa using hz
    rw [List.take_succ_eq_append_getElem hl, List.take_set_of_le (Nat.le_refl _), h.kept, List.take_succ_eq_append_getElem hj, List.filter_append]
    simp [hp]
  · rw [List.drop_set_of_lt (by omega), ← List.drop_drop, ← List.drop_drop, h.rest]
theorem Mid.done {p : Hd → Bool} {xs zs : List Hd} {i : Nat} (h : Mid p xs zs i xs.length) : zs.take i = xs.filter (fun x => !p x) := by
  rw [h.kept, List.take_length]
/-- what a call that drops some of a row hands back -/
def Drops (W : World) (K : Nat) (v : Value) (xs : List Hd) (e : Ending) (w' : World) : Prop :=
  ∃ v', e = .returned v' ∧ Row w' K v' xs ∧ OnlyS (fun k => v.ownBlock = some k) W w'
section
variable {T : Nat → Prop} {W W' : World} {gf : Nat} {cs : Array Value} {p : Hd → Bool} {A : Option Addr} {c K : Nat} {xs : List Hd}
set_option maxRecDepth 100000 in
set_option maxHeartbeats 4000000 in
theorem delete_any {v : Value} (hp : Prd (fun k => v.ownBlock = some k) W gf cs p) (hr : Row W K v xs) (hl : xs.length ≤ 5000) :
    Calls Tryd.prog 72 #[v, .func (.func gf) #[] cs] W (Drops W K v (xs.filter (fun x => !p x))) := by
  obtain ⟨A, c, rfl, hls⟩ := hr.ls
  have HI := Lib.hid (index_any (hp.mono (OnlyS.refl _ _)) hls hl)
  rcases idx_cases p xs with ⟨h1, h2⟩ | ⟨i, h2, h1, h3, h4⟩
  · rw [h1] at HI
    have HF := Lib.hid (filter_none h2)
    have HR := Lib.hid hr
    clear hp hr hls hl h1 h2
    generalize xs.length = n at *
    go_enter Tryd.func72, Tryd.ntmps72
    go_wp2_with (go_at_call 60; ((with_reducible refine HI.out.mono ?_); rintro e w1 ⟨rfl, hb1⟩))
    go_ret
    exact ⟨_, rfl, by rw [HF.out]; exact HR.out.keep fun g hg => hb1.block g (HR.out.lt g hg).2, OnlyS.of_below hb1⟩
  · rw [h1] at HI
    have HM := Lib.hid (Mid.start h2 h3 h4)
    obtain ⟨eg, hp⟩ := hp
    cases A with
    | none => exact absurd h2 (by rw [hls.empty]; simp)
    | some ad =>
      obtain ⟨g, rfl⟩ : ∃ g, ad = ⟨g, 0, none⟩ := by
        rcases hr.2 with ⟨h0, _⟩ | ⟨g, cap, cur, e, _⟩
        · cases h0
        · cases e; exact ⟨g, rfl⟩
      obtain ⟨cur, hblk, hnc, hcm⟩ := hr.blk
      have hgl := (Array.getElem?_eq_some_iff.1 hblk).1
      have hp' : ∀ (W' : World) (x : Hd), OnlyS (· = g) W W' → Calls Tryd.prog gf (#[wv x] ++ cs) W' fun e w' => e = .returned (.bool (p x)) ∧ Below W'.heap.size W' w' :=
        fun W' x ho => hp W' x (ho.mono fun k _ hk => by rw [hk]; rfl)
      have HP := Lib.hid hp'
      have HR := Lib.hid hr
      obtain ⟨n, hn⟩ : ∃ n, xs.length = n := ⟨_, rfl⟩
      have HN := Lib.hid hn
      have hin : i < n := by rw [← hn]; exact h2
      have hcm2 : c ≤ 9223372036854775807 := by unfold maxLen at hcm; omega
      rw [hn] at hnc HI hl
      rw [hn] at HR ⊢
      clear hp hp' hr hls h1 h2 h3 h4 hblk hcm hn
      go_enter Tryd.func72, Tryd.ntmps72
      go_wp2_with fail
      refine HI.out.mono ?_
      rintro e w1 ⟨rfl, hb1⟩
      have HR1 := Lib.hid (HR.out.keep (W' := w1) fun g' hg' => hb1.block g' (HR.out.lt g' hg').2)
      have HO1 := Lib.hid (OnlyS.of_below (S := (· = g)) hb1)
      have hi1 : ((i : Int) == -1) = false := by simp
      clear HI hb1
      go_wp2_with fail
      go_loopw [5, 6] (fun s t wr => ∃ (a b : Nat) (zs : List Hd), s = .int .i64 a ∧ t = .int .i64 b ∧ Mid p xs zs a b ∧ Row wr K (.slice (some ⟨g, 0, none⟩) n c) zs ∧ OnlyS (· = g) W wr) (fun _ t _ => n - (intOf t).toNat)
      case atStart => exact ⟨i, i + 1, xs, rfl, by go_num, HM.out, HR1.out, HO1.out⟩
      case round =>
        obtain ⟨a, b, zs, rfl, rfl, hmid, hrow, hon⟩ := hrel
        have hab := hmid.ij
        have hbn : b ≤ n := by rw [← HN.out]; exact hmid.jn
        have HMd := Lib.hid hmid
        have HRw := Lib.hid hrow
        have HOn := Lib.hid hon
        have hsz := hon.size
        have hzn : zs.length = n := by rw [hmid.len, HN.out]
        have HZN := Lib.hid hzn
        clear hmid hrow hon HM HR1 HO1 hzn
        by_cases hlt : b < n
        · have hbl : b < xs.length := by rw [HN.out]; exact hlt
          obtain ⟨hbz, hze⟩ := HMd.out.at hbl
          obtain ⟨a', c', ev, hls⟩ := HRw.out.ls
          rw [HZN.out] at ev
          cases ev
          obtain ⟨ad, had, c0, c1⟩ := hls.here hbz
          cases had
          obtain ⟨x, hx⟩ : ∃ x, xs[b] = x := ⟨_, rfl⟩
          rw [hze, hx] at c0 c1
          have HX := Lib.hid hx
          clear hls hx hze
          obtain ⟨t, m⟩ := x
          simp only [add_at] at c0 c1
          have hb1 := box_below wr (.cells #[.int .i64 t, .int .i64 m] 76)
          have hbx := box_ls wr (t, m)
          have hcall := Lib.hid (HP.out (wr.alloc (.cells #[.int .i64 t, .int .i64 m] 76)) (t, m) (HOn.out.trans (OnlyS.of_below hb1)))
          obtain ⟨q, hpx⟩ : ∃ q, p (t, m) = q := ⟨_, rfl⟩
          rw [hpx] at hcall
          have HPX := Lib.hid (show p xs[b] = q by rw [HX.out]; exact hpx)
          clear hpx
          cases q
          · go_wp2_with fail
            refine hcall.out.mono ?_
            rintro e w2 ⟨rfl, hb2⟩
            have hb3 : Below wr.heap.size wr w2 := hb1.trans (hb2.mono hb1.size)
            obtain ⟨ad2, had2, e0, e1⟩ := (hbx.below hb2).here (i := 0) (by simp)
            cases had2
            simp only [List.getElem_cons_zero, Nat.zero_mul, add_at, Nat.zero_add] at e0 e1
            have HR2 := Lib.hid (HRw.out.keep (W' := w2) fun g' hg' => hb3.block g' (HRw.out.lt g' hg').2)
            have haz : a < zs.length := by rw [HZN.out]; omega
            have han : a < n := by omega
            have s0 := HR2.out.there (k := a * 2) (by omega)
            have s1 := HR2.out.there (k := a * 2 + 1) (by omega)
            obtain ⟨y0, t0⟩ := Option.isSome_iff_exists.1 s0
            obtain ⟨y1, t1⟩ := Option.isSome_iff_exists.1 s1
            have f0 : w2.frozen? ⟨g, a * 2, none⟩ = false := HR2.out.free
            have f1 : w2.frozen? ⟨g, a * 2 + 1, none⟩ = false := HR2.out.free
            have HO2 := Lib.hid (HOn.out.trans (OnlyS.of_below hb3))
            have HPut := Lib.hid (HR2.out.put (t, m) haz)
            clear hcall hb1 hb2 hb3 hbx c0 c1 s0 s1 haz hbz
            go_wp2_with fail
            go_roundw
            case rel =>
              refine ⟨a + 1, b + 1, zs.set a (t, m), by go_num, by go_num, ?_, HPut.out, (HO2.out.trans (OnlyS.set _ _ _ _)).trans (OnlyS.set _ _ _ _)⟩
              have := HMd.out.keep (by rw [HN.out]; exact hlt) HPX.out
              rw [HX.out] at this
              exact this
            case measure => simp [intOf]; omega
          · go_wp2_with fail
            refine hcall.out.mono ?_
            rintro e w2 ⟨rfl, hb2⟩
            have hb3 : Below wr.heap.size wr w2 := hb1.trans (hb2.mono hb1.size)
            have HR2 := Lib.hid (HRw.out.keep (W' := w2) fun g' hg' => hb3.block g' (HRw.out.lt g' hg').2)
            have HO2 := Lib.hid (HOn.out.trans (OnlyS.of_below hb3))
            clear hcall hb1 hb2 hb3 hbx c0 c1 hbz
            go_wp2_with fail
            go_roundw
            case rel => exact ⟨a, b + 1, zs, rfl, by go_num, HMd.out.skip (by rw [HN.out]; exact hlt) HPX.out, HR2.out, HO2.out⟩
            case measure => simp [intOf]; omega
        · obtain rfl : b = n := by omega
          have hzl : zs.length = b := HZN.out
          have hclr := fun ty => run_clear_w wr ty g (a * 2) (b - a) (c - a) (by omega) (fun k hk => HRw.out.there (by omega)) (fun k _ => HRw.out.free)
          clear hzl
          go_wp2_with fail
          go_ret
          have hset : ∀ cur, wr.heap[g]? = some (.cells cur 76 (0, 0)) → ∃ cur', (wr.setCells g (a * 2) (zz (b - a))).heap[g]? = some (.cells cur' 76 (0, 0)) ∧ cur'.size = cur.size ∧ ∀ k, k < a * 2 → cur'[k]? = cur[k]? := fun cur hcur => by
            obtain ⟨cur', q1, q2, q3, _⟩ := sets_blk (zz (b - a)) wr (a * 2) cur hcur
            exact ⟨cur', q1, q2, q3⟩
          refine ⟨_, rfl, ?_, ?_⟩
          · have hmd := HMd.out
            rw [← HN.out] at hmd
            have hz := hmd.done
            rw [← hz]
            have := HRw.out.cut (i := a) (by rw [HZN.out]; omega) hset
            exact this
          · obtain ⟨cur, hb, -⟩ := HRw.out.blk
            obtain ⟨_, _, _, _, q4⟩ := sets_blk (zz (b - a)) wr (a * 2) cur hb
            exact (HOn.out.trans q4).mono (fun k _ hk => by rw [hk]; rfl)
end
end Go.Proofs.YteaibamkfccplaaDoor.Hs
