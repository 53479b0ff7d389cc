/- Rows of nodes in memory, and the contracts of the two functions that give the nodes above a node. -/
import Derived.Test.YtmlljgijbffepaaF1
import Derived.Test.YtmlljgijbffepaaB0
import Derived.Laws.AppendOwn
namespace Go.Proofs.Ytmlljgijbffepaa
open Go Go.RowKit

def cellsP (p : Pt) : List Value := [.int .i64 p.a, .int .i64 p.b, .int .i64 p.c, .int .i64 p.d, .int .i64 p.e]
def cellsL (ps : List Pt) : List Value := ps.flatMap cellsP
theorem info24 : ∃ i z, Try.prog.info? 24 = some i ∧ i.zero = some z ∧ i.size = 5 ∧ i.bytes = 40 ∧ z.cells.size = 5 :=
  ⟨_, .agg #[.int .i64 0, .int .i64 0, .int .i64 0, .int .i64 0, .int .i64 0], rfl, by kernel_rfl, by kernel_rfl, by kernel_rfl, by kernel_rfl⟩

/-- the nodes of which the first numbers of p are made, up to a depth -/
def waysL (p : Pt) : Nat → List Pt
  | 0 => []
  | k + 1 => waysL p k ++ [cutP p ((k : Nat) + 1)]
def waysP (p : Pt) : List Pt := if rightB p = true then waysL p p.e.toNat else []

theorem own_or (v : Value) : v.ownBlock = none ∨ v.ownBlock ≠ none := by cases v.ownBlock <;> simp
theorem below_grown {w w' : World} (h : Below w.heap.size w w') : w.grownBy w' none := ⟨h.os, h.tape, h.output, h.size, fun j hj _ => h.block j hj⟩
/-- a row of nodes that a slice shows -/
structure RowAt (w : World) (v : Value) (ps : List Pt) : Prop where
  row : (v = .slice none 0 0 ∧ ps = []) ∨ ∃ g cap, v = .slice (some ⟨g, 0, none⟩) ps.length cap ∧ g < w.heap.size ∧ ∀ i (h : i < ps.length), w.cell? ⟨g, i * 5, none⟩ = some (.int .i64 ps[i].a) ∧ w.cell? ⟨g, i * 5 + 1, none⟩ = some (.int .i64 ps[i].b) ∧ w.cell? ⟨g, i * 5 + 2, none⟩ = some (.int .i64 ps[i].c) ∧ w.cell? ⟨g, i * 5 + 3, none⟩ = some (.int .i64 ps[i].d) ∧ w.cell? ⟨g, i * 5 + 4, none⟩ = some (.int .i64 ps[i].e)
theorem cellsL_at : ∀ (ps : List Pt) (i j : Nat) (h : i < ps.length), j < 5 → (cellsL ps)[i * 5 + j]? = (cellsP ps[i])[j]?
  | p :: ps, 0, j, h, hj => by
    simp only [cellsL, List.flatMap_cons, Nat.zero_mul, Nat.zero_add, List.getElem_cons_zero]
    rw [List.getElem?_append_left (by simp [cellsP]; exact hj)]
  | p :: ps, i + 1, j, h, hj => by
    simp only [cellsL, List.flatMap_cons, List.getElem_cons_succ]
    rw [List.getElem?_append_right (by simp [cellsP]; omega)]
    have e : (i + 1) * 5 + j - (cellsP p).length = i * 5 + j := by simp [cellsP]; omega
    rw [e]
    exact cellsL_at ps i j (by simpa using h) hj
theorem row_of_own {w : World} {B : Nat} {v : Value} {ps : List Pt} (h : w.ownsRow B 24 5 v ps.length (cellsL ps)) : RowAt w v ps := by
  refine ⟨?_⟩
  rcases h.2 with ⟨rfl, h0⟩ | ⟨g, cap, cur, rfl, hb, hg, hn, hc, hcs, ht⟩
  · exact .inl ⟨rfl, List.length_eq_zero_iff.1 h0⟩
  · refine .inr ⟨g, cap, rfl, (Array.getElem?_eq_some_iff.1 hg).1, fun i hi => ?_⟩
    have key : ∀ j, j < 5 → w.cell? ⟨g, i * 5 + j, none⟩ = (cellsP ps[i])[j]? := fun j hj => by
      have e1 := cellsL_at ps i j hi hj
      rw [← e1, ← ht, List.getElem?_take, if_pos (by omega)]
      simp [World.cell?, hg]
    exact ⟨(key 0 (by omega)).trans rfl, (key 1 (by omega)).trans rfl, (key 2 (by omega)).trans rfl, (key 3 (by omega)).trans rfl, (key 4 (by omega)).trans rfl⟩
theorem RowAt.later {W w' : World} {v : Value} {ps : List Pt} (h : RowAt W v ps) (hb : Below W.heap.size W w') : RowAt w' v ps := by
  refine ⟨?_⟩
  rcases h.row with h | ⟨g, cap, rfl, hg, hc⟩
  · exact .inl h
  · obtain ⟨k, _⟩ := kept hb
    exact .inr ⟨g, cap, rfl, Nat.lt_of_lt_of_le hg hb.size, fun i hi => by rw [k _ _ hg, k _ _ hg, k _ _ hg, k _ _ hg, k _ _ hg]; exact hc i hi⟩
theorem waysL_len (p : Pt) : ∀ k, (waysL p k).length = k
  | 0 => rfl
  | k + 1 => by rw [waysL, List.length_append, waysL_len p k]; rfl
theorem cellsL_snoc (ps : List Pt) (p : Pt) : cellsL (ps ++ [p]) = cellsL ps ++ cellsP p := by simp [cellsL]
def WRel (p : Pt) (k B : Nat) (l i : Value) (wr : World) : Prop := ∃ j : Nat, j ≤ k ∧ i = .int .i64 ((j : Nat) + 1) ∧ wr.ownsRow B 24 5 l j (cellsL (waysL p j))
theorem one_cells (p : Pt) : ∀ u ∈ cellsP p, u.oneCell' = true := by
  intro u hu
  simp only [cellsP, List.mem_cons, List.not_mem_nil, or_false] at hu
  rcases hu with rfl | rfl | rfl | rfl | rfl <;> rfl

theorem new_cells (w : World) (x0 x1 x2 x3 x4 : Int) : ∀ (q : Nat) (u : Value), (cellsP ⟨x0, x1, x2, x3, x4⟩)[q]? = some u → (boxed w x0 x1 x2 x3 x4).cell? ((⟨w.heap.size, 0, none⟩ : Addr).add q) = some u
  | 0, u, h => by simp [cellsP] at h; subst h; simp [Addr.add, go_sem]
  | 1, u, h => by simp [cellsP] at h; subst h; simp [Addr.add, go_sem]
  | 2, u, h => by simp [cellsP] at h; subst h; simp [Addr.add, go_sem]
  | 3, u, h => by simp [cellsP] at h; subst h; simp [Addr.add, go_sem]
  | 4, u, h => by simp [cellsP] at h; subst h; simp [Addr.add, go_sem]
  | q + 5, u, h => by simp [cellsP] at h

set_option maxHeartbeats 2000000 in
theorem ways_yes (a b c d : Int) (k : Nat) (w : World) (hr : rightB ⟨a, b, c, d, k⟩ = true) (k1 : 1 ≤ k) (k4 : k ≤ 4) :
    Calls Try.prog 14 #[Pt.v ⟨a, b, c, d, k⟩] w fun e w' => ∃ v, e = .returned v ∧ RowAt w' v (waysL ⟨a, b, c, d, k⟩ k) ∧ Below w.heap.size w w' := by
  obtain ⟨i0, z0, hi, hz, hs, hby, hzs⟩ := info24
  go_enter Try.func14, Try.ntmps14
  go_wp2_with fail
  refine (may_any ⟨a, b, c, d, k⟩ _).mono ?_
  rintro e1 w1 ⟨rfl, hb1⟩
  rw [hr]
  have hp1 := (PtAt.new w a b c d k).later hb1
  have hbe := below_box hb1
  clear hb1 hr
  go_wp2_with fail
  go_loopw [3, 4] (fun l i wr => WRel ⟨a, b, c, d, k⟩ k w1.heap.size l i wr ∧ Below w1.heap.size w1 wr) (fun _ i _ => (k + 1 - (intOf i).toNat))
  case atStart => exact ⟨⟨0, by omega, rfl, World.ownsRow_nil _ _ _ _⟩, Below.refl _ _⟩
  case round =>
    obtain ⟨⟨j, hj, rfl, hown⟩, hb⟩ := hrel
    obtain ⟨c0, c1, c2, c3, c4, hl⟩ := hp1.later hb
    by_cases hlt : j < k
    · have h1 : ((j : Int) + 1) ≤ (k : Int) := by omega
      go_wp2_with fail
      refine (top_any ⟨a, b, c, d, k⟩ _ _ (by omega) (by omega)).mono ?_
      rintro e2 w2 ⟨rfl, hb2⟩
      have hown2 := hown.kept (below_grown hb2) (own_or _)
      obtain ⟨⟨x0, x1, x2, x3, x4⟩, ht⟩ : ∃ t, cutP ⟨a, b, c, d, k⟩ ((j : Int) + 1) = t := ⟨_, rfl⟩
      rw [ht]
      have HS : Hid (cellsL (waysL ⟨a, b, c, d, k⟩ (j + 1)) = cellsL (waysL ⟨a, b, c, d, k⟩ j) ++ cellsP ⟨x0, x1, x2, x3, x4⟩) := Lib.hid (by rw [waysL, cellsL_snoc, ← ht])
      clear ht c0 c1 c2 c3 c4
      have hsz := hb.size
      have hsz2 := hb2.size
      go_wp2_with (at_builtin; refine wpList_append_own _ rfl _ _ 31 rfl w1.heap.size 24 i0 z0 5 40 Try.underlying31 hi hz hs hby hzs (by decide) _ _ _ rfl (hown2.alloc _) ⟨w2.heap.size, 0, none⟩ 1 1 (cellsP ⟨x0, x1, x2, x3, x4⟩) rfl rfl ?a1 (one_cells _) (by unfold maxLen; omega) (by omega) (by simp; omega) ?_)
      case a1 => exact new_cells w2 x0 x1 x2 x3 x4
      intro v' w3 hown3 hg _
      go_wp2_with fail
      go_roundw
      case rel =>
        refine ⟨⟨j + 1, by omega, by go_num, by rw [HS.out]; exact hown3⟩, ?_⟩
        exact (((hb.trans (hb2.mono hsz)).alloc (by omega) _).grown hg (by simp; omega) (fun q hq => (hown.lt q hq).1))
      case measure => simp [intOf]; omega
    · obtain rfl : j = k := by omega
      have h1 : ¬ ((j : Int) + 1) ≤ (j : Int) := by omega
      go_wp2_with fail
      go_ret
      exact ⟨_, rfl, row_of_own (by rw [waysL_len]; exact hown), thenCall hbe hb⟩

set_option maxHeartbeats 2000000 in
theorem rways_yes (a b c d : Int) (k : Nat) (w : World) (hr : rightB ⟨a, b, c, d, k⟩ = true) (k1 : 1 ≤ k) (k4 : k ≤ 4) :
    Calls Try.prog 15 #[Pt.v ⟨a, b, c, d, k⟩] w fun e w' => ∃ v, e = .returned v ∧ RowAt w' v (waysL ⟨a, b, c, d, k⟩ k) ∧ Below w.heap.size w w' := by
  obtain ⟨i0, z0, hi, hz, hs, hby, hzs⟩ := info24
  go_enter Try.func15, Try.ntmps15
  have HR := Lib.hid hr
  clear hr
  go_wp2_with fail
  have hp1 : PtAt (w.alloc (.cells #[.int .i64 a, .int .i64 b, .int .i64 c, .int .i64 d, .int .i64 (k : Int)] 24)) w.heap.size ⟨a, b, c, d, k⟩ := PtAt.new w a b c d k
  have hbe := box_below w (.cells #[.int .i64 a, .int .i64 b, .int .i64 c, .int .i64 d, .int .i64 (k : Int)] 24)
  generalize w.alloc (.cells #[.int .i64 a, .int .i64 b, .int .i64 c, .int .i64 d, .int .i64 (k : Int)] 24) = w1 at hp1 hbe ⊢
  go_loopw [3, 4] (fun l i wr => WRel ⟨a, b, c, d, k⟩ k w1.heap.size l i wr ∧ Below w1.heap.size w1 wr) (fun _ i _ => (k + 1 - (intOf i).toNat))
  case atStart => exact ⟨⟨0, by omega, rfl, World.ownsRow_nil _ _ _ _⟩, Below.refl _ _⟩
  case round =>
    obtain ⟨⟨j, hj, rfl, hown0⟩, hb0⟩ := hrel
    obtain ⟨c0, c1, c2, c3, c4, hl0⟩ := hp1.later hb0
    go_wp2_with fail
    refine (rright_any ⟨a, b, c, d, k⟩ _).mono ?_
    rintro e1 w1' ⟨rfl, hb1⟩
    rw [HR.out]
    have hown := hown0.kept (below_grown hb1) (own_or _)
    have hb := hb0.trans (hb1.mono hb0.size)
    clear c0 c1 c2 c3 c4 hown0 hb1 hb0 hl0
    obtain ⟨c0, c1, c2, c3, c4, hl⟩ := hp1.later hb
    by_cases hlt : j < k
    · have h1 : ((j : Int) + 1) ≤ (k : Int) := by omega
      go_wp2_with fail
      refine (front_any ⟨a, b, c, d, k⟩ _ _ (by omega) (by omega)).mono ?_
      rintro e2 w2 ⟨rfl, hb2⟩
      have hown2 := hown.kept (below_grown hb2) (own_or _)
      obtain ⟨⟨x0, x1, x2, x3, x4⟩, ht⟩ : ∃ t, cutP ⟨a, b, c, d, k⟩ ((j : Int) + 1) = t := ⟨_, rfl⟩
      rw [ht]
      have HS : Hid (cellsL (waysL ⟨a, b, c, d, k⟩ (j + 1)) = cellsL (waysL ⟨a, b, c, d, k⟩ j) ++ cellsP ⟨x0, x1, x2, x3, x4⟩) := Lib.hid (by rw [waysL, cellsL_snoc, ← ht])
      clear ht c0 c1 c2 c3 c4
      have hsz := hb.size
      have hsz2 := hb2.size
      go_wp2_with (at_builtin; refine wpList_append_own _ rfl _ _ 31 rfl w1.heap.size 24 i0 z0 5 40 Try.underlying31 hi hz hs hby hzs (by decide) _ _ _ rfl (hown2.alloc _) ⟨w2.heap.size, 0, none⟩ 1 1 (cellsP ⟨x0, x1, x2, x3, x4⟩) rfl rfl ?a1 (one_cells _) (by unfold maxLen; omega) (by omega) (by simp; omega) ?_)
      case a1 => exact new_cells w2 x0 x1 x2 x3 x4
      intro v' w3 hown3 hg _
      go_wp2_with fail
      go_roundw
      case rel =>
        refine ⟨⟨j + 1, by omega, by go_num, by rw [HS.out]; exact hown3⟩, ?_⟩
        exact (((hb.trans (hb2.mono hsz)).alloc (by omega) _).grown hg (by simp; omega) (fun q hq => (hown.lt q hq).1))
      case measure => simp [intOf]; omega
    · obtain rfl : j = k := by omega
      have h1 : ¬ ((j : Int) + 1) ≤ (j : Int) := by omega
      go_wp2_with fail
      go_ret
      exact ⟨_, rfl, row_of_own (by rw [waysL_len]; exact hown), thenCall hbe hb⟩
theorem ways_no (p : Pt) (w : World) (hr : rightB p = false) :
    Calls Try.prog 14 #[p.v] w fun e w' => e = .returned (.slice none 0 0) ∧ Below w.heap.size w w' := by
  obtain ⟨a, b, c, d, e⟩ := p
  go_enter Try.func14, Try.ntmps14
  go_wp2_with fail
  refine (may_any ⟨a, b, c, d, e⟩ _).mono ?_
  rintro e1 w1 ⟨rfl, hb1⟩
  rw [hr]
  go_wp2_with fail
  go_ret
  exact ⟨rfl, below_box hb1⟩
theorem rways_no (p : Pt) (w : World) (hr : rightB p = false) :
    Calls Try.prog 15 #[p.v] w fun e w' => e = .returned (.slice none 0 0) ∧ Below w.heap.size w w' := by
  obtain ⟨a, b, c, d, e⟩ := p
  go_enter Try.func15, Try.ntmps15
  go_wp2_with fail
  refine wp_loop_rounds 1 ?_
  rw [rounds_succ]
  go_wp2_with fail
  refine (rright_any ⟨a, b, c, d, e⟩ _).mono ?_
  rintro e1 w1 ⟨rfl, hb1⟩
  rw [hr]
  go_wp2_with fail
  go_ret
  exact ⟨rfl, below_box hb1⟩
theorem row_nil (w : World) : RowAt w (.slice none 0 0) [] := ⟨.inl ⟨rfl, rfl⟩⟩
theorem ways_any (p : Pt) (w : World) : Calls Try.prog 14 #[p.v] w fun e w' => ∃ v, e = .returned v ∧ RowAt w' v (waysP p) ∧ Below w.heap.size w w' := by
  cases hr : rightB p
  · rw [show waysP p = [] by simp [waysP, hr]]
    exact (ways_no p w hr).mono fun _ w' ⟨he, hb⟩ => ⟨_, he, row_nil w', hb⟩
  · have hd := right_depth hr
    rw [show waysP p = waysL p p.e.toNat by simp [waysP, hr]]
    obtain ⟨a, b, c, d, e⟩ := p
    simp only at hd
    obtain ⟨k, rfl⟩ : ∃ k : Nat, e = k := ⟨e.toNat, by omega⟩
    exact ways_yes a b c d k w hr (by omega) (by omega)
theorem rways_any (p : Pt) (w : World) : Calls Try.prog 15 #[p.v] w fun e w' => ∃ v, e = .returned v ∧ RowAt w' v (waysP p) ∧ Below w.heap.size w w' := by
  cases hr : rightB p
  · rw [show waysP p = [] by simp [waysP, hr]]
    exact (rways_no p w hr).mono fun _ w' ⟨he, hb⟩ => ⟨_, he, row_nil w', hb⟩
  · have hd := right_depth hr
    rw [show waysP p = waysL p p.e.toNat by simp [waysP, hr]]
    obtain ⟨a, b, c, d, e⟩ := p
    simp only at hd
    obtain ⟨k, rfl⟩ : ∃ k : Nat, e = k := ⟨e.toNat, by omega⟩
    exact rways_yes a b c d k w hr (by omega) (by omega)
end Go.Proofs.Ytmlljgijbffepaa
