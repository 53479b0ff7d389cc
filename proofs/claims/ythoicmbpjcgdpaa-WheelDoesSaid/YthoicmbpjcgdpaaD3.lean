/- The alarms of which a condition holds go out of a row, in its own memory. -/
import Derived.Test.YthoicmbpjcgdpaaD2
namespace Go.Proofs.Ythoicmbpjcgdpaa
open Go Go.RowKit Go.Shelf

/-- what a call that drops alarms of a row hands back -/
def Drops (W : World) (base : Nat) (v : Value) (xs : List Al) (e : Ending) (w' : World) : Prop :=
  ∃ v', e = .returned v' ∧ Row w' base v' xs ∧ v'.ownBlock = v.ownBlock ∧ OnlyS (fun k => v.ownBlock = some k) W w'

theorem filter_none {p : Al → Bool} {xs : List Al} (h : ∀ x ∈ xs, p x = false) : xs.filter (fun x => !p x) = xs := List.filter_eq_self.2 fun x hx => by simp [h x hx]
theorem idx_cases (p : Al → Bool) (xs : List Al) : (idxP p xs = -1 ∧ ∀ x ∈ xs, p x = false) ∨ ∃ i : Nat, idxP p xs = i ∧ ∃ h : i < xs.length, p xs[i] = true ∧ ∀ y ∈ xs.take i, p y = false := by
  induction xs with
  | nil => left; simp [idxP]
  | cons x xs ih =>
    cases hx : p x
    · rcases ih with ⟨h1, h2⟩ | ⟨i, h1, h2, h3, h4⟩
      · left
        refine ⟨by simp [idxP, hx, h1], fun y hy => ?_⟩
        rcases List.mem_cons.1 hy with rfl | hy
        · exact hx
        · exact h2 y hy
      · right
        refine ⟨i + 1, ?_, by simpa using h2, by simpa using h3, fun y hy => ?_⟩
        · have : ¬ ((i : Int) = -1) := by omega
          simp [idxP, hx, h1, this]
        · rw [List.take_succ_cons] at hy
          rcases List.mem_cons.1 hy with rfl | hy
          · exact hx
          · exact h4 y hy
    · right
      exact ⟨0, by simp [idxP, hx], by simp, by simpa using hx, by simp⟩
/-- how a row stands as it is gone through: i kept, j looked at -/
structure Mid (p : Al → Bool) (xs zs : List Al) (i j : Nat) : Prop where
  len : zs.length = xs.length
  ij : i < j
  jn : j ≤ xs.length
  kept : zs.take i = (xs.take j).filter (fun x => !p x)
  rest : zs.drop j = xs.drop j
theorem Mid.start {p : Al → Bool} {xs : List Al} {i : Nat} (h : i < xs.length) (hp : p xs[i] = true) (ha : ∀ y ∈ xs.take i, p y = false) : Mid p xs xs i (i + 1) := by
  refine ⟨rfl, by omega, h, ?_, rfl⟩
  rw [List.take_succ_eq_append_getElem h, List.filter_append, filter_none ha]
  simp [hp]
theorem Mid.at {p : Al → Bool} {xs zs : List Al} {i j : Nat} (h : Mid p xs zs i j) (hj : j < xs.length) : ∃ hz : j < zs.length, zs[j] = xs[j] := by
  have hz : j < zs.length := by rw [h.len]; exact hj
  refine ⟨hz, ?_⟩
  have := congrArg (fun l => l[0]?) h.rest
  simp [List.getElem?_drop, List.getElem?_eq_getElem hz, List.getElem?_eq_getElem hj] at this
  exact this
theorem Mid.skip {p : Al → Bool} {xs zs : List Al} {i j : Nat} (h : Mid p xs zs i j) (hj : j < xs.length) (hp : p xs[j] = true) : Mid p xs zs i (j + 1) := by
  refine ⟨h.len, by have := h.ij; omega, hj, ?_, ?_⟩
  · rw [h.kept, List.take_succ_eq_append_getElem hj, List.filter_append]; simp [hp]
  · rw [← List.drop_drop, ← List.drop_drop, h.rest]
theorem Mid.keep {p : Al → Bool} {xs zs : List Al} {i j : Nat} (h : Mid p xs zs i j) (hj : j < xs.length) (hp : p xs[j] = false) : Mid p xs (zs.set i xs[j]) (i + 1) (j + 1) := by
  have hij := h.ij
  have hz : i < zs.length := by rw [h.len]; omega
  refine ⟨by simpa using h.len, by omega, hj, ?_, ?_⟩
  · have hl : i < (zs.set i xs[j]).length := by simpa using hz
    rw [List.take_succ_eq_append_getElem hl, List.take_set_of_le (Nat.le_refl _), h.kept, List.take_succ_eq_append_getElem hj, List.filter_append]
    simp [hp]
  · rw [List.drop_set_of_lt (by omega), ← List.drop_drop, ← List.drop_drop, h.rest]
theorem Mid.done {p : Al → Bool} {xs zs : List Al} {i : Nat} (h : Mid p xs zs i xs.length) : zs.take i = xs.filter (fun x => !p x) := by
  rw [h.kept, List.take_length]
theorem row_free {W : World} {base g n cap k : Nat} {xs : List Al} (h : Row W base (.slice (some ⟨g, 0, none⟩) n cap) xs) : W.frozen? ⟨g, k, none⟩ = false := by
  rcases h.2 with ⟨h0, _⟩ | ⟨g', cap', cur, e, _, hb, _⟩
  · cases h0
  · cases e; exact (blk_cell hb).2
theorem row_blk {W : World} {base g n cap : Nat} {xs : List Al} (h : Row W base (.slice (some ⟨g, 0, none⟩) n cap) xs) : ∃ cur, W.heap[g]? = some (.cells cur 31 (0, 0)) := by
  rcases h.2 with ⟨h0, _⟩ | ⟨g', cap', cur, e, _, hb, _⟩
  · cases h0
  · cases e; exact ⟨cur, hb⟩
theorem row_some {W : World} {base g n cap k : Nat} {xs : List Al} (h : Row W base (.slice (some ⟨g, 0, none⟩) n cap) xs) (hk : k < xs.length * 2) : (W.cell? ⟨g, k, none⟩).isSome = true := by
  have h1 := h.cells (g := g) rfl k _ (List.getElem?_eq_getElem (by rw [flat_length]; exact hk))
  rw [add_at] at h1
  rw [h1]; rfl

set_option maxRecDepth 100000 in
set_option maxHeartbeats 4000000 in
theorem delete_any {gf Bc : Nat} {cv : Value} {p : Al → Bool} {W : World} {base : Nat} {v : Value} {xs : List Al} (hp : Pred gf Bc cv p) (hr : Row W base v xs) (hc : W.cell? ⟨Bc, 0, none⟩ = some cv) (hne : v.ownBlock ≠ some Bc) :
    Calls Try.prog 28 #[v, .func (.func gf) #[] #[.pointer (some ⟨Bc, 0, none⟩)]] W (Drops W base v (xs.filter (fun x => !p x))) := by
  have HI := Lib.hid (index_any hp hr hc)
  rcases idx_cases p xs with ⟨h1, h2⟩ | ⟨i, h1, h2, h3, h4⟩
  · rw [h1] at HI
    have HF := Lib.hid (filter_none h2)
    have HR := Lib.hid hr
    clear hp hr hc hne h1 h2
    go_enter Try.func28, Try.ntmps28
    go_wp2_with fail
    refine HI.out.mono ?_
    rintro e w1 ⟨rfl, hb1⟩
    go_wp2_with fail
    go_ret
    exact ⟨v, rfl, by rw [HF.out]; exact HR.out.keep fun g hg => hb1.block g (HR.out.lt g hg).2, rfl, OnlyS.of_below hb1⟩
  · rw [h1] at HI
    have HM := Lib.hid (Mid.start h2 h3 h4)
    obtain ⟨eg, hp⟩ := hp
    have HP := Lib.hid hp
    have HR := Lib.hid hr
    have HC := Lib.hid hc
    have hcl := cell_lt hc
    rcases hr.2 with ⟨rfl, hn⟩ | ⟨g, cap, cur, rfl, hgb, hg, hnc, hcm, hcs, hct⟩
    · exact absurd h2 (by rw [hn]; omega)
    · obtain ⟨n, hn⟩ : ∃ n, xs.length = n := ⟨_, rfl⟩
      have HN := Lib.hid hn
      have hin : i < n := by rw [← hn]; exact h2
      have hm : n ≤ 9223372036854775807 := by unfold maxLen at hcm; omega
      have hcm2 : cap ≤ 9223372036854775807 := by unfold maxLen at hcm; omega
      have hgl := (Array.getElem?_eq_some_iff.1 hg).1
      have hi1 : ((i : Int) == -1) = false := by simp
      have hgc : Bc ≠ g := fun e => hne (by rw [e]; rfl)
      rw [hn] at hnc HI
      rw [hn] at HR ⊢
      clear hp hr hc hne h1 h2 h3 h4 hg hcs hct hgb hcm hn
      go_enter Try.func28, Try.ntmps28
      go_wp2_with fail
      refine HI.out.mono ?_
      rintro e w1 ⟨rfl, hb1⟩
      have HR1 := Lib.hid (HR.out.keep (W' := w1) fun g' hg' => hb1.block g' (HR.out.lt g' hg').2)
      have HO1 := Lib.hid (OnlyS.of_below (S := (· = g)) hb1)
      clear HI hb1
      go_wp2_with fail
      go_loopw [5, 6] (fun s t wr => ∃ (a b : Nat) (zs : List Al), s = .int .i64 a ∧ t = .int .i64 b ∧ Mid p xs zs a b ∧ Row wr base (.slice (some ⟨g, 0, none⟩) n cap) zs ∧ OnlyS (· = g) W wr) (fun _ t _ => n - (intOf t).toNat)
      case atStart => exact ⟨i, i + 1, xs, rfl, by go_num, HM.out, HR1.out, HO1.out⟩
      case round =>
        obtain ⟨a, b, zs, rfl, rfl, hmid, hrow, hon⟩ := hrel
        have hab := hmid.ij
        have hbn : b ≤ n := by rw [← HN.out]; exact hmid.jn
        have HMd := Lib.hid hmid
        have HRw := Lib.hid hrow
        have HOn := Lib.hid hon
        have hsz := hon.size
        clear hmid hrow hon HM HR1 HO1
        by_cases hlt : b < n
        · have hbl : b < xs.length := by rw [HN.out]; exact hlt
          obtain ⟨hbz, hze⟩ := HMd.out.at hbl
          obtain ⟨c1, c2⟩ := row_cells HRw.out hbz
          obtain ⟨x, hx⟩ : ∃ x, xs[b] = x := ⟨_, rfl⟩
          rw [hze, hx] at c1 c2
          have HX := Lib.hid hx
          have hcw : wr.cell? ⟨Bc, 0, none⟩ = some cv := (World.cell?_of_block (w := W) (a := ⟨Bc, 0, none⟩) (HOn.out.block Bc hcl hgc)).trans HC.out
          have hb1 := box_below wr (.cells #[.int .i64 x.1, .int .i64 x.2] 31)
          have hcall := Lib.hid (HP.out (wr.alloc (.cells #[.int .i64 x.1, .int .i64 x.2] 31)) x ((hb1.cell (p := ⟨Bc, 0, none⟩) (Nat.lt_of_lt_of_le hcl hsz)).trans hcw))
          clear hx hze hcw
          cases hpx : p x
          · rw [hpx] at hcall
            have HPX := Lib.hid (show p xs[b] = false by rw [HX.out]; exact hpx)
            clear hpx
            go_wp2_with fail
            refine hcall.out.mono ?_
            rintro e w2 ⟨rfl, hb2⟩
            have hb3 : Below wr.heap.size wr w2 := hb1.trans (hb2.mono hb1.size)
            have hbx := (BoxA.new wr x)
            have e0 : w2.cell? ⟨wr.heap.size, 0, none⟩ = some (.int .i64 x.1) := (hb2.cell (p := ⟨wr.heap.size, 0, none⟩) (by simp)).trans hbx.c0
            have e1 : w2.cell? ⟨wr.heap.size, 1, none⟩ = some (.int .i64 x.2) := (hb2.cell (p := ⟨wr.heap.size, 1, none⟩) (by simp)).trans hbx.c1
            have HR2 := Lib.hid (HRw.out.keep (W' := w2) fun g' hg' => hb3.block g' (HRw.out.lt g' hg').2)
            have haz : a < zs.length := by omega
            have han : a < n := by omega
            obtain ⟨s1, s2⟩ := row_cells HR2.out haz
            have f1 : w2.frozen? ⟨g, a * 2, none⟩ = false := row_free HR2.out
            have f2 : w2.frozen? ⟨g, a * 2 + 1, none⟩ = false := row_free HR2.out
            have HO2 := Lib.hid (HOn.out.trans (OnlyS.of_below hb3))
            clear hcall hb1 hb2 hb3 hbx c1 c2
            go_wp2_with fail
            go_roundw
            case rel =>
              refine ⟨a + 1, b + 1, zs.set a x, by go_num, by go_num, ?_, row_set HR2.out x haz, (HO2.out.trans (OnlyS.set _ _ _ _)).trans (OnlyS.set _ _ _ _)⟩
              have := HMd.out.keep (by rw [HN.out]; exact hlt) HPX.out
              rw [HX.out] at this
              exact this
            case measure => simp [intOf]; omega
          · rw [hpx] at hcall
            have HPX := Lib.hid (show p xs[b] = true by rw [HX.out]; exact hpx)
            clear hpx
            go_wp2_with fail
            refine hcall.out.mono ?_
            rintro e w2 ⟨rfl, hb2⟩
            have hb3 : Below wr.heap.size wr w2 := hb1.trans (hb2.mono hb1.size)
            have HR2 := Lib.hid (HRw.out.keep (W' := w2) fun g' hg' => hb3.block g' (HRw.out.lt g' hg').2)
            have HO2 := Lib.hid (HOn.out.trans (OnlyS.of_below hb3))
            clear hcall hb1 hb2 hb3 c1 c2
            go_wp2_with fail
            go_roundw
            case rel => exact ⟨a, b + 1, zs, rfl, by go_num, HMd.out.skip (by rw [HN.out]; exact hlt) HPX.out, HR2.out, HO2.out⟩
            case measure => simp [intOf]; omega
        · obtain rfl : b = n := by omega
          have hzl : zs.length = b := by rw [HMd.out.len, HN.out]
          have hclr := fun ty => run_clear_al wr ty g (a * 2) (b - a) (cap - a) (by omega) (fun k hk => row_some HRw.out (by omega)) (fun k _ => row_free HRw.out)
          clear hzl
          go_wp2_with fail
          go_ret
          have hset : ∀ cur, wr.heap[g]? = some (.cells cur 31 (0, 0)) → ∃ cur', (wr.setCells g (a * 2) (List.replicate ((b - a) * 2) (.int .i64 0))).heap[g]? = some (.cells cur' 31 (0, 0)) ∧ cur'.size = cur.size ∧ ∀ k, k < a * 2 → cur'[k]? = cur[k]? := fun cur hcur => by
            obtain ⟨cur', q1, q2, q3, _⟩ := sets_blk (List.replicate ((b - a) * 2) (.int .i64 0)) wr (a * 2) cur hcur
            exact ⟨cur', q1, q2, q3⟩
          refine ⟨_, rfl, ?_, rfl, ?_⟩
          · have hmd := HMd.out
            rw [← HN.out] at hmd
            rw [← hmd.done]
            exact row_cut HRw.out (by rw [HMd.out.len, HN.out]; omega) hset
          · obtain ⟨cur, hb⟩ := row_blk HRw.out
            obtain ⟨_, _, _, _, q4⟩ := sets_blk (List.replicate ((b - a) * 2) (.int .i64 0)) wr (a * 2) cur hb
            exact (HOn.out.trans q4).mono (fun k _ hk => by rw [hk]; rfl)
end Go.Proofs.Ythoicmbpjcgdpaa
