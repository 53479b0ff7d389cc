/- An alarm of the document's wheel is stopped. -/
import Derived.Test.YthoicmbpjcgdpaaP2
import Derived.Deep.RegionLawGrows
import Derived.Deep.RegionLaw
namespace Go.Proofs.Ythoicmbpjcgdpaa
open Go Go.RowKit Go.Shelf

/-- a row of its own behind a store of it into the wheel's cell -/
theorem ref_of_row {W w1 : World} {bx base cap : Nat} {v0 : Value} {g : Nat} {ys : List Al} (hr : Row w1 base (.slice (some ⟨g, 0, none⟩) ys.length cap) ys) (hb : bx < base) (hl : ys.length ≤ 1000) (hc : w1.cell? ⟨bx, 0, none⟩ = some v0) (hf : w1.frozen? ⟨bx, 0, none⟩ = false) (ho : OnlyS (· = bx) W w1) (hz : W.heap.size ≤ base) :
    RefAt (w1.setCell ⟨bx, 0, none⟩ (.slice (some ⟨g, 0, none⟩) ys.length cap)) bx (some ⟨g, 0, none⟩) cap ys ∧ OnlyS (· = bx) W (w1.setCell ⟨bx, 0, none⟩ (.slice (some ⟨g, 0, none⟩) ys.length cap)) ∧ ∀ k, OfLst (some ⟨g, 0, none⟩) k → W.heap.size ≤ k := by
  have hr2 := ownsRow_setCell_below hr (a := ⟨bx, 0, none⟩) hb (.slice (some ⟨g, 0, none⟩) ys.length cap)
  obtain ⟨q1, q2⟩ := hr.lt g rfl
  rcases hr.2 with ⟨h0, _⟩ | ⟨g', cap', cur, e, hgb, hg, h1, h2, h3, h4⟩
  · cases h0
  · cases e
    refine ⟨⟨World.cell?_setCell_same' _ _ _ (by rw [hc]; rfl), by rw [World.frozen?_setCell]; exact hf, ⟨by simp, h1, hl, by unfold maxLen at h2; exact h2, fun a ha => ?_⟩, ?_⟩, ho.trans (OnlyS.set _ _ _ _), ?_⟩
    · obtain rfl : (⟨g, 0, none⟩ : Addr) = a := by simpa using ha
      refine ⟨g, 0, rfl, by simpa [World.setCell] using q2, fun i hi => ?_⟩
      obtain ⟨e1, e2⟩ := row_cells hr2 hi
      rw [Nat.zero_add]
      exact ⟨e1, e2⟩
    · rintro ⟨a, ha, hb2⟩
      obtain rfl : (⟨g, 0, none⟩ : Addr) = a := by simpa using ha
      simp at hb2
      omega
    · rintro k ⟨a, ha, hb2⟩
      obtain rfl : (⟨g, 0, none⟩ : Addr) = a := by simpa using ha
      simp at hb2
      omega
/-- the cells of a part of a list -/
theorem lst_part {W : World} {g off c : Nat} {xs : List Al} (h : Lst W (some ⟨g, off, none⟩) c xs) (i m : Nat) (hm : i + m ≤ xs.length) :
    ∀ j u, (flat ((xs.drop i).take m))[j]? = some u → W.cell? ((⟨g, off + i * 2, none⟩ : Addr).add j) = some u := by
  intro j u hj
  obtain ⟨g', off', e, _, hc⟩ := h.at' _ rfl
  cases e
  have hjl : j < m * 2 := by
    have := (List.getElem?_eq_some_iff.1 hj).1
    rw [flat_length, List.length_take, List.length_drop] at this
    omega
  have hadd : (⟨g, off + i * 2, none⟩ : Addr).add j = ⟨g, off + i * 2 + j, none⟩ := by
    unfold Addr.add
    split
    · rename_i h0; rw [h0]; rfl
    · rfl
  rw [hadd]
  have hd : j / 2 < ((xs.drop i).take m).length := by rw [List.length_take, List.length_drop]; omega
  obtain ⟨f1, f2⟩ := flat_at _ (j / 2) hd
  have hi2 : i + j / 2 < xs.length := by omega
  obtain ⟨c1, c2⟩ := hc (i + j / 2) hi2
  have ex : ((xs.drop i).take m)[j / 2] = xs[i + j / 2] := by simp [List.getElem_take, List.getElem_drop]
  rw [ex] at f1 f2
  rcases Nat.mod_two_eq_zero_or_one j with e | e
  · have e2 : j / 2 * 2 = j := by omega
    rw [e2, hj] at f1
    rw [f1, ← c1]
    congr 2
    omega
  · have e2 : j / 2 * 2 + 1 = j := by omega
    rw [e2, hj] at f2
    rw [f2, ← c2]
    congr 2
    omega
/-- the wheel's cell behind a step that makes memory alone -/
theorem ref_keep {W0 w1 : World} {bx : Nat} {v : Value} (hb : bx < W0.heap.size) (hg : W0.grownBy w1 none) (hc : W0.cell? ⟨bx, 0, none⟩ = some v) (hf : W0.frozen? ⟨bx, 0, none⟩ = false) : w1.cell? ⟨bx, 0, none⟩ = some v ∧ w1.frozen? ⟨bx, 0, none⟩ = false := by
  have h1 : w1.heap[bx]? = W0.heap[bx]? := hg.block bx hb (by simp)
  exact ⟨(World.cell?_of_block (w := W0) (a := ⟨bx, 0, none⟩) h1).trans hc, (World.frozen?_of_block (w := W0) (a := ⟨bx, 0, none⟩) h1).trans hf⟩
theorem ownsRow_pos {W : World} {base k : Nat} {v : Value} {xs : List Value} (h : W.ownsRow base 31 2 v k xs) (hk : 0 < k) : ∃ g cap, v = .slice (some ⟨g, 0, none⟩) k cap := by
  rcases h.2 with ⟨_, h0⟩ | ⟨g, cap, _, rfl, _⟩
  · omega
  · exact ⟨g, cap, rfl⟩
def RStop (W : World) (bx : Nat) (A : Option Addr) (v : Bool) (ys : List Al) (e : Ending) (w' : World) : Prop :=
  ∃ A' c', e = .returned (.bool v) ∧ RefAt w' bx A' c' ys ∧ OnlyS (· = bx) W w' ∧ ∀ k, OfLst A' k → OfLst A k ∨ W.heap.size ≤ k

theorem rstop_done {W w1 w5 : World} {bx c n i g' cap' : Nat} {A A2 : Option Addr} {xs : List Al} (hb1 : Below W.heap.size W w1) (hn : xs.length = n) (hi : i + 1 < n) (hs : n ≤ 1000) (hlt1 : bx < w1.heap.size)
    (hown : w5.ownsRow w1.drew.heap.size 31 2 (.slice (some ⟨g', 0, none⟩) (i + (n - (i + 1))) cap') (i + (n - (i + 1))) (flat (xs.take i) ++ flat (xs.drop (i + 1)))) (hgrow : w1.drew.grownBy w5 none)
    (r1 : w5.cell? ⟨bx, 0, none⟩ = some (.slice A2 n c)) (r2 : w5.frozen? ⟨bx, 0, none⟩ = false) :
    RStop W bx A true (xs.take i ++ xs.drop (i + 1)) (.returned (.bool true)) (w5.setCell ⟨bx, 0, none⟩ (.slice (some ⟨g', 0, none⟩) (i + (n - (i + 1))) cap')) := by
  have hl : (xs.take i ++ xs.drop (i + 1)).length = i + (n - (i + 1)) := by
    rw [List.length_append, List.length_take, List.length_drop, hn]; omega
  have hr : Row w5 w1.heap.size (.slice (some ⟨g', 0, none⟩) (xs.take i ++ xs.drop (i + 1)).length cap') (xs.take i ++ xs.drop (i + 1)) := by
    unfold Row
    rw [flat_append, hl]
    exact hown
  have ho : OnlyS (· = bx) W w5 := by
    exact ⟨hgrow.os.trans hb1.os, hgrow.tape.trans hb1.tape, hgrow.output.trans hb1.output, Nat.le_trans hb1.size hgrow.size, fun k hk _ => (hgrow.block k (Nat.lt_of_lt_of_le hk hb1.size) (by simp)).trans (hb1.block k hk)⟩
  obtain ⟨e1, e2, e3⟩ := ref_of_row hr hlt1 (by rw [hl]; omega) r1 r2 ho hb1.size
  rw [hl] at e1 e2
  exact ⟨_, _, rfl, e1, e2, fun k hk => .inr (e3 k hk)⟩
set_option maxRecDepth 100000 in
set_option maxHeartbeats 4000000 in
theorem rstop_yes {W : World} {bx g off c : Nat} {xs : List Al} (id : Int) {i : Nat} (h : RefAt W bx (some ⟨g, off, none⟩) c xs) (hx : idxP (isId id) xs = i) (hi : i + 1 < xs.length) :
    Calls Try.prog 12 #[wp bx, .int .i64 id] W (RStop W bx (some ⟨g, off, none⟩) true (xs.take i ++ xs.drop (i + 1))) := by
  have HF := Lib.hid (rfind_any id h)
  rw [hx] at HF
  have H := Lib.hid h
  have hlt := h.lt
  clear h hx
  go_enter Try.func12, Try.ntmps12
  go_wp2_with fail
  refine HF.out.mono ?_
  rintro e w1 ⟨rfl, hb1⟩
  have H1 := Lib.hid (H.out.below hb1)
  have hc := H1.out.cell
  have hf := H1.out.free
  have hs := H1.out.lst.small
  have hcp := H1.out.lst.cap
  have hrm := H1.out.lst.room
  have hgl := H1.out.lst.lt ⟨_, rfl, rfl⟩
  have hlt1 := H1.out.lt
  obtain ⟨n, hn⟩ : ∃ n, xs.length = n := ⟨_, rfl⟩
  have HN := Lib.hid hn
  rw [hn] at hc hs hcp hi
  obtain ⟨i0, hi0, hz0, hz1, hz2⟩ := info_parts info31
  have q1 : IntKind.i64.wrap ((i : Int) + 1) = ((i + 1 : Nat) : Int) := by rw [Int.natCast_succ]; exact IntWalk.i64_in _ (by omega)
  have q2 : ¬ c = i + 1 := by omega
  have q3 : i ≤ c := by omega
  have q4 : i + 1 ≤ n := by omega
  have q5 : (0 : Int) ≤ (i : Int) + 1 := by omega
  have q6 : (i : Int) + 1 ≤ (n : Int) := by omega
  have hlo : (flat (xs.take i)).length = i * 2 := by rw [flat_length, List.length_take]; omega
  have hln : (flat (xs.drop (i + 1))).length = (n - (i + 1)) * 2 := by rw [flat_length, List.length_drop]; omega
  have hold : ∀ b, (some ⟨g, off, none⟩ : Option Addr) = some b → ∀ j u, (flat (xs.take i))[j]? = some u → w1.drew.cell? (b.add j) = some u := by
    intro b hb j u hj
    obtain rfl : (⟨g, off, none⟩ : Addr) = b := by simpa using hb
    have := lst_part H1.out.lst 0 i (by omega) j u (by simpa using hj)
    simpa using this
  have hnew : ∀ j u, (flat (xs.drop (i + 1)))[j]? = some u → w1.drew.cell? ((⟨g, off + (i + 1) * 2, none⟩ : Addr).add j) = some u := by
    intro j u hj
    exact lst_part H1.out.lst (i + 1) (n - (i + 1)) (by omega) j u (by rw [List.take_of_length_le (by rw [List.length_drop]; omega)]; exact hj)
  have HOl := Lib.hid hold
  have HNw := Lib.hid hnew
  have HLo := Lib.hid hlo
  have HLn := Lib.hid hln
  have HC := Lib.hid (show w1.drew.cell? ⟨bx, 0, none⟩ = some (.slice (some ⟨g, off, none⟩) n c) from hc)
  have HFr := Lib.hid (show w1.drew.frozen? ⟨bx, 0, none⟩ = false from hf)
  clear hold hnew hlo hln hn HF
  go_wp2_with fail
  go_region_law (first
    | (refine step_append_grows rfl (.tmp 18) (.tmp 25) 27 rfl 31 i0 (.agg #[.int .i64 0, .int .i64 0]) 2 16 Try.underlying27 hi0 hz0 hz1 hz2 rfl (by decide) (some ⟨g, off, none⟩) i i (flat (xs.take i)) rfl (by simp) HLo.out HOl.out ⟨g, off + (i + 1) * 2, none⟩ (n - (i + 1)) (c - (i + 1)) (flat (xs.drop (i + 1))) rfl HLn.out HNw.out (flat_one _) (by omega) (by unfold maxLen; omega) (by omega) ?_; intro v' w5 hown hgrow; obtain ⟨g', cap', rfl⟩ := ownsRow_pos hown (by omega); obtain ⟨r1, r2⟩ := ref_keep (W0 := w1.drew) hlt1 hgrow HC.out HFr.out))
  all_goals
    clear q1
    go_wp2
    go_ret
    exact rstop_done hb1 HN.out hi hs hlt1 hown hgrow r1 r2
/-- append of nothing, as one step of a region that draws -/
theorem step_append_nothing {P : Program} {ops : Array Oper} {o : Oper} {a : Act} {w : World} {K : Act → World → Prop} {Q : Exit → Act → World → Prop} {E : Prop}
    (hg : o.guard = none) (s x : Operand) (t : TypeId) (hop : o.op = Op.call { callee := Callee.builtin Builtin.append, args := #[s, x], argTypes := #[t, t] })
    (e : TypeId) (i : TypeInfo) (size : Nat) (h1 : P.underlying t = some (.slice e)) (h2 : P.info? e = some i) (h4 : i.size = size)
    (b off n cap : Nat) (hs : a.eval s = .slice (some ⟨b, off, none⟩) n cap) (ad : Addr) (m c : Nat) (hx : a.eval x = .slice (some ad) m c) (hm : m = 0) (hroom : n ≤ cap)
    (hK : K (a.put o.dst (.slice (some ⟨b, off, none⟩) n cap)) w) :
    if Region.wanted o (yielded ops a.tmps) = true then Oper.wp P o a w K Q else E := by
  subst hm
  exact step_append_room hg s x t hop e i size h1 h2 h4 b off n cap hs ad 0 c [] hx (by simp) (by simp) (by simp) (by simpa using hroom) (by simp) hK
theorem rstop_done2 {W w1 : World} {bx g off c n i : Nat} {xs : List Al} (hb1 : Below W.heap.size W w1) (h1 : RefAt w1 bx (some ⟨g, off, none⟩) c xs) (hn : xs.length = n) (hi : i + 1 = n) :
    RStop W bx (some ⟨g, off, none⟩) true (xs.take i ++ xs.drop (i + 1)) (.returned (.bool true)) (w1.drew.setCell ⟨bx, 0, none⟩ (.slice (some ⟨g, off, none⟩) i i)) := by
  have e : xs.take i ++ xs.drop (i + 1) = xs.take i := by rw [List.drop_of_length_le (by omega), List.append_nil]
  have hl : (xs.take i).length = i := by rw [List.length_take]; omega
  rw [e]
  have hgb : g ≠ bx := fun e => h1.ne ⟨_, rfl, e⟩
  have hc : w1.cell? ⟨bx, 0, none⟩ = some (.slice (some ⟨g, off, none⟩) xs.length c) := h1.cell
  have ho : OnlyS (· = bx) W (w1.drew.setCell ⟨bx, 0, none⟩ (.slice (some ⟨g, off, none⟩) i i)) := (OnlyS.of_below (b := w1.drew) hb1.drew).trans (OnlyS.set _ _ _ _)
  have hblk : (w1.drew.setCell ⟨bx, 0, none⟩ (.slice (some ⟨g, off, none⟩) i i)).heap[g]? = w1.heap[g]? := Below.heap_setCell w1.drew ⟨bx, 0, none⟩ _ _ hgb
  have hs := h1.lst.small
  refine ⟨_, i, rfl, ⟨?_, ?_, ⟨by simp, by omega, by omega, by omega, fun a ha => ?_⟩, h1.ne⟩, ho, fun k hk => .inl hk⟩
  · rw [hl]
    exact World.cell?_setCell_same' _ _ _ (by show (w1.cell? ⟨bx, 0, none⟩).isSome = true; rw [hc]; rfl)
  · rw [World.frozen?_setCell]; exact h1.free
  · obtain ⟨g', off', rfl, hg, hcs⟩ := h1.lst.at' a ha
    obtain ⟨rfl, rfl⟩ : g = g' ∧ off = off' := by simpa using ha
    refine ⟨g, off, rfl, by simpa [World.setCell] using hg, fun j hj => ?_⟩
    have hj2 : j < xs.length := by omega
    rw [List.getElem_take]
    exact ⟨(World.cell?_of_block (w := w1) (a := ⟨g, off + j * 2, none⟩) hblk).trans (hcs j hj2).1, (World.cell?_of_block (w := w1) (a := ⟨g, off + j * 2 + 1, none⟩) hblk).trans (hcs j hj2).2⟩

set_option maxRecDepth 100000 in
set_option maxHeartbeats 4000000 in
theorem rstop_last {W : World} {bx g off c : Nat} {xs : List Al} (id : Int) {i : Nat} (h : RefAt W bx (some ⟨g, off, none⟩) c xs) (hx : idxP (isId id) xs = i) (hi : i + 1 = xs.length) :
    Calls Try.prog 12 #[wp bx, .int .i64 id] W (RStop W bx (some ⟨g, off, none⟩) true (xs.take i ++ xs.drop (i + 1))) := by
  have HF := Lib.hid (rfind_any id h)
  rw [hx] at HF
  have H := Lib.hid h
  clear h hx
  go_enter Try.func12, Try.ntmps12
  go_wp2_with fail
  refine HF.out.mono ?_
  rintro e w1 ⟨rfl, hb1⟩
  have H1 := Lib.hid (H.out.below hb1)
  have hc := H1.out.cell
  have hf := H1.out.free
  have hs := H1.out.lst.small
  have hcp := H1.out.lst.cap
  have hrm := H1.out.lst.room
  obtain ⟨n, hn⟩ : ∃ n, xs.length = n := ⟨_, rfl⟩
  have HN := Lib.hid hn
  rw [hn] at hc hs hcp hi
  obtain ⟨i0, hi0, hz0, hz1, hz2⟩ := info_parts info31
  have q1 : IntKind.i64.wrap ((i : Int) + 1) = ((i + 1 : Nat) : Int) := by rw [Int.natCast_succ]; exact IntWalk.i64_in _ (by omega)
  have q3 : i ≤ c := by omega
  have q4 : i + 1 ≤ n := by omega
  have q5 : (0 : Int) ≤ (i : Int) + 1 := by omega
  have q6 : (i : Int) + 1 ≤ (n : Int) := by omega
  have HI := Lib.hid hi
  clear HF hn hi
  have q7 : (i : Int) ≤ (i : Int) + 1 := by omega
  by_cases q2 : c = i + 1
  · subst q2
    go_wp2_with fail
    go_region_law (first
      | refine step_append_nothing rfl (.tmp 18) (.tmp 25) 27 rfl 31 i0 2 Try.underlying27 hi0 hz1 g off i i rfl ⟨g, off, none⟩ (n - (i + 1)) 0 rfl (by have := HI.out; omega) (Nat.le_refl _) ?_)
    all_goals
      clear q1
      go_wp2
      go_ret
      exact rstop_done2 hb1 H1.out HN.out HI.out
  · go_wp2_with fail
    go_region_law (first
      | refine step_append_nothing rfl (.tmp 18) (.tmp 25) 27 rfl 31 i0 2 Try.underlying27 hi0 hz1 g off i i rfl ⟨g, off + (i + 1) * 2, none⟩ (n - (i + 1)) (c - (i + 1)) rfl (by have := HI.out; omega) (Nat.le_refl _) ?_)
    all_goals
      clear q1
      go_wp2
      go_ret
      exact rstop_done2 hb1 H1.out HN.out HI.out
set_option maxRecDepth 100000 in
theorem rstop_no {W : World} {bx c : Nat} {A : Option Addr} {xs : List Al} (id : Int) (h : RefAt W bx A c xs) (hx : idxP (isId id) xs = -1) :
    Calls Try.prog 12 #[wp bx, .int .i64 id] W (RStop W bx A false xs) := by
  have HF := Lib.hid (rfind_any id h)
  rw [hx] at HF
  have H := Lib.hid h
  clear h hx
  go_enter Try.func12, Try.ntmps12
  go_wp2_with fail
  refine HF.out.mono ?_
  rintro e w1 ⟨rfl, hb1⟩
  go_wp2_with fail
  go_ret
  exact ⟨_, _, rfl, H.out.below hb1, OnlyS.of_below hb1, fun k hk => .inl hk⟩
/-- what is left when one is stopped -/
def stopR (id : Int) (xs : List Al) : List Al := xs.filter (fun x => !(x.1 == id))
theorem stop_parts {id : Int} {xs : List Al} (h : Ids xs) {i : Nat} (hi : i < xs.length) (he : xs[i].1 = id) : stopR id xs = xs.take i ++ xs.drop (i + 1) ∧ idxP (isId id) xs = i := by
  obtain ⟨e, _⟩ := take_split xs hi
  have hu := h
  unfold Ids at hu
  rw [e, List.map_append, List.map_cons, List.nodup_append] at hu
  obtain ⟨_, h2, h3⟩ := hu
  rw [List.nodup_cons] at h2
  have p1 : ∀ y ∈ xs.take i, isId id y = false := by
    intro y hy
    have := h3 y.1 (List.mem_map_of_mem hy) xs[i].1 (by simp)
    simp [isId]
    rw [← he]
    exact this
  have p2 : ∀ y ∈ xs.drop (i + 1), isId id y = false := by
    intro y hy
    simp [isId]
    intro e2
    exact h2.1 (by rw [he, ← e2]; exact List.mem_map_of_mem hy)
  constructor
  · unfold stopR
    conv => lhs; rw [e]
    rw [List.filter_append, List.filter_cons, List.filter_eq_self.2 (fun y hy => by have := p1 y hy; simp [isId] at this ⊢; exact this), List.filter_eq_self.2 (fun y hy => by have := p2 y hy; simp [isId] at this ⊢; exact this)]
    simp [he]
  · conv => lhs; rw [e]
    rw [idx_some p1 (by simp [isId, he]), List.length_take]
    omega
theorem rstop_any {W : World} {bx c : Nat} {A : Option Addr} {xs : List Al} (id : Int) (h : RefAt W bx A c xs) (hu : Ids xs) :
    Calls Try.prog 12 #[wp bx, .int .i64 id] W (RStop W bx A (findA id xs).2 (stopR id xs)) := by
  cases hf : (findA id xs).2
  · have hn := findA_no hf
    have e1 : idxP (isId id) xs = -1 := idx_none (fun y hy => by simpa [isId] using hn y hy)
    have e2 : stopR id xs = xs := List.filter_eq_self.2 (fun y hy => by simpa using hn y hy)
    rw [e2]
    exact rstop_no id h e1
  · obtain ⟨m1, m2⟩ := findA_yes hf
    obtain ⟨i, hi, e⟩ := List.getElem_of_mem m1
    obtain ⟨s1, s2⟩ := stop_parts (id := id) hu hi (by rw [e]; exact m2)
    rw [s1]
    cases A with
    | none => have := (h.lst.nil rfl).1; subst this; simp at hi
    | some a =>
      obtain ⟨g, off, rfl, _, _⟩ := h.lst.at' a rfl
      by_cases hl : i + 1 < xs.length
      · exact rstop_yes id h s2 hl
      · exact rstop_last id h s2 (by omega)
end Go.Proofs.Ythoicmbpjcgdpaa
