/- The arena of the heads of nodes: a place is taken. -/
import Derived.Test.YtmolohncllcgbaaGreatDoorAb
namespace Go.Proofs.YtmolohncllcgbaaGreatDoor.An
open Go Go.RowKit Go.Shelf
set_option maxRecDepth 100000

/-- behind an append to the places -/
theorem placed_done {W W1 X w5 : World} {b m g cap n : Nat} {pv fv v : Value} {ps : List Pl} {fs : List Nat} {x : Pl} {S : Nat → Prop} (h : ArenaAt W1 b m pv fv ps fs) (hS : ∀ k, (k = b ∨ pv.ownBlock = some k ∨ fv.ownBlock = some k) ↔ S k) (ho : OnlyS S W W1) (hl : ps.length < m) (hn : ps.length = n) (hX : Below W1.heap.size W1 X)
    (hown : w5.ownsRow (b + 1) 169 7 (.slice (some ⟨g, 0, none⟩) (n + 1) cap) (n + 1) (flat ps ++ plv x)) (hg : X.grownBy w5 pv.ownBlock) (hgo : pv.ownBlock = some g ∨ W1.heap.size ≤ g) :
    (w5.cell? ⟨b, 1, none⟩ = some pv ∧ w5.frozen? ⟨b, 1, none⟩ = false) ∧ Does W b S v m (ps ++ [x]) fs (.returned v) (w5.setCell ⟨b, 1, none⟩ (.slice (some ⟨g, 0, none⟩) (n + 1) cap)) := by
  subst hn
  have hlt := h.lt
  have hk : ∀ j, j < W1.heap.size → pv.ownBlock ≠ some j → w5.heap[j]? = W1.heap[j]? := fun j hj hne => (hg.block j (Nat.lt_of_lt_of_le hj hX.size) (fun e => hne e.symm)).trans (hX.block j hj)
  have hb5 : w5.heap[b]? = W1.heap[b]? := hk b hlt (fun e => by have := (h.rp.lt b e).1; omega)
  have q0 : ∀ o, w5.cell? ⟨b, o, none⟩ = W1.cell? ⟨b, o, none⟩ := fun o => World.cell?_of_block (w := W1) (a := ⟨b, o, none⟩) hb5
  have q1 : ∀ o, w5.frozen? ⟨b, o, none⟩ = W1.frozen? ⟨b, o, none⟩ := fun o => World.frozen?_of_block (w := W1) (a := ⟨b, o, none⟩) hb5
  have q2 : ∀ o, o ≠ 1 → (w5.setCell ⟨b, 1, none⟩ (.slice (some ⟨g, 0, none⟩) (ps.length + 1) cap)).cell? ⟨b, o, none⟩ = W1.cell? ⟨b, o, none⟩ := fun o ho => by
    rw [World.cell?_setCell_other (h := fun e => ho (by injection e with e1 e2; exact e2.symm))]
    exact q0 o
  refine ⟨⟨(q0 1).trans h.c1, (q1 1).trans h.f1⟩, fun j => j = b ∨ (Value.slice (some ⟨g, 0, none⟩) (ps.length + 1) cap).ownBlock = some j ∨ fv.ownBlock = some j, rfl, ⟨_, fv, ⟨?_, ?_, ?_, ?_, ?_, ?_, ?_, ?_, ?_, ?_, h.mle⟩, fun _ => Iff.rfl⟩, ?_, ?_⟩
  · exact (q2 0 (by omega)).trans h.c0
  · exact World.cell?_setCell_same' _ _ _ (by rw [q0, h.c1]; rfl)
  · exact (q2 2 (by omega)).trans h.c2
  · rw [World.frozen?_setCell]; exact (q1 1).trans h.f1
  · rw [World.frozen?_setCell]; exact (q1 2).trans h.f2
  · rw [flat_snoc, List.length_append]
    exact ownsRow_setCell_below hown (Nat.lt_succ_self b) _
  · refine row_keep h.rf fun j hj => ?_
    have hj2 := h.rf.lt j hj
    refine (Below.heap_setCell w5 ⟨b, 1, none⟩ _ j (fun e => ?_)).trans (hk j hj2.2 (fun e => h.ne j e hj))
    have e' : j = b := e
    omega
  · intro j hj e
    obtain rfl : g = j := by simpa [Value.ownBlock] using hj
    rcases hgo with q | q
    · exact h.ne g q e
    · have := (h.rf.lt g e).2; omega
  · rw [List.length_append]; exact Nat.le_trans h.fle (Nat.le_add_right _ _)
  · rw [List.length_append]; exact hl
  · refine (OnlyS.grown (w1 := X) (ho.trans (OnlyS.of_below hX)) hg (fun j hj => .inl ((hS j).1 (.inr (.inl hj))))).setIn b 1 _ (.inl ((hS b).1 (.inl rfl)))
  · rintro j (rfl | hj | hj)
    · exact .inl ((hS _).1 (.inl rfl))
    · obtain rfl : g = j := by simpa [Value.ownBlock] using hj
      rcases hgo with q | q
      · exact .inl ((hS _).1 (.inr (.inl q)))
      · exact .inr (Nat.le_trans ho.size q)
    · exact .inl ((hS _).1 (.inr (.inr hj)))
/-- the cells of what is taken -/
abbrev pcs (p : Pa.Pt) (q : Nat) : Array Value := #[.int .i64 p.a, .int .i64 p.b, .int .i64 p.c, .int .i64 p.d, .int .i64 p.e, .pointer (some ⟨q, 0, none⟩), .bool true]
abbrev hca (p : Pa.Pt) (q : Nat) : Array Value := #[.int .i64 p.a, .int .i64 p.b, .int .i64 p.c, .int .i64 p.d, .int .i64 p.e, .pointer (some ⟨q, 0, none⟩)]
theorem new_place (W : World) (p : Pa.Pt) (q : Nat) : ∀ j u, (plv (some (p, q)))[j]? = some u → (W.alloc (.cells (pcs p q) 169)).cell? ((⟨W.heap.size, 0, none⟩ : Addr).add j) = some u := by
  intro j u hj
  rw [add_at]
  match j, hj with
  | 0, hj => simp [plv] at hj; subst hj; simp [go_sem]
  | 1, hj => simp [plv] at hj; subst hj; simp [go_sem]
  | 2, hj => simp [plv] at hj; subst hj; simp [go_sem]
  | 3, hj => simp [plv] at hj; subst hj; simp [go_sem]
  | 4, hj => simp [plv] at hj; subst hj; simp [go_sem]
  | 5, hj => simp [plv] at hj; subst hj; simp [go_sem]
  | 6, hj => simp [plv] at hj; subst hj; simp [go_sem]
  | k + 7, hj => simp [plv] at hj
theorem one_place (p : Pa.Pt) (q : Nat) : ∀ u ∈ plv (some (p, q)), u.oneCell' = true := by
  intro u hu
  simp [plv] at hu
  rcases hu with rfl | rfl | rfl | rfl | rfl | rfl | rfl <;> rfl
/-- a head that was boxed, at the beginning of its block -/
structure Bxd (w : World) (B : Nat) (p : Pa.Pt) (q : Nat) : Prop where
  c0 : w.cell? ⟨B, 0, none⟩ = some (.int .i64 p.a)
  c1 : w.cell? ⟨B, 1, none⟩ = some (.int .i64 p.b)
  c2 : w.cell? ⟨B, 2, none⟩ = some (.int .i64 p.c)
  c3 : w.cell? ⟨B, 3, none⟩ = some (.int .i64 p.d)
  c4 : w.cell? ⟨B, 4, none⟩ = some (.int .i64 p.e)
  c5 : w.cell? ⟨B, 5, none⟩ = some (.pointer (some ⟨q, 0, none⟩))
theorem Bxd.lt {w : World} {B q : Nat} {p : Pa.Pt} (h : Bxd w B p q) : B < w.heap.size := cell_lt h.c0
theorem Bxd.below {w w' : World} {B q : Nat} {p : Pa.Pt} (h : Bxd w B p q) (hb : Below w.heap.size w w') : Bxd w' B p q := by
  have k : ∀ o, w'.cell? ⟨B, o, none⟩ = w.cell? ⟨B, o, none⟩ := fun o => hb.cell (p := ⟨B, o, none⟩) h.lt
  exact ⟨(k 0).trans h.c0, (k 1).trans h.c1, (k 2).trans h.c2, (k 3).trans h.c3, (k 4).trans h.c4, (k 5).trans h.c5⟩
theorem Bxd.new (w : World) (p : Pa.Pt) (q : Nat) (t : TypeId) : Bxd (w.alloc (.cells (hca p q) t)) w.heap.size p q := by
  refine ⟨?_, ?_, ?_, ?_, ?_, ?_⟩ <;> simp [go_sem]
theorem Bxd.newp (w : World) (p : Pa.Pt) (q : Nat) : Bxd (w.alloc (.cells (pcs p q) 169)) w.heap.size p q := by
  refine ⟨?_, ?_, ?_, ?_, ?_, ?_⟩ <;> simp [go_sem]
set_option maxHeartbeats 2000000 in
/-- one that was never taken -/
theorem take_new {W : World} {b m : Nat} {S : Nat → Prop} {ps : List Pl} (h : Ar W b S m ps []) (p : Pa.Pt) (q : Nat) (hm : ps.length < m) :
    Calls Tryz.prog 79 #[wp b, hv p q] W (Does W b S (.tuple #[.int .i64 (ps.length : Int), .bool true]) m (ps ++ [some (p, q)]) []) := by
  have hx0 := box_below W (.cells (hca p q) 68)
  have HX0 := Lib.hid hx0
  have HB := Lib.hid (Bxd.new W p q 68)
  obtain ⟨pv, fv, h, hS⟩ := h
  have HL := Lib.hid (left_any (h.below hx0))
  obtain ⟨z, hz⟩ : ∃ z : Nat, ((m : Int) - ((ps.length : Int) - (([] : List Nat).length : Int))) = (z : Int) + 1 := ⟨m - ps.length - 1, by simp; omega⟩
  rw [hz] at HL
  have HS := Lib.hid hS
  have H := Lib.hid (h.below hx0)
  have hm' := h.mle
  have HM := Lib.hid hm
  have hn4 : ps.length ≤ 4096 := by omega
  obtain ⟨A, c, rfl, _⟩ := row_slice h.rp
  obtain ⟨A2, c2, rfl, _⟩ := row_slice h.rf
  obtain ⟨n, hn⟩ : ∃ n, ps.length = n := ⟨_, rfl⟩
  have HN := Lib.hid hn
  rw [hn] at H HS hn4
  rw [hn]
  have hnz : ((z : Int) + 1 == 0) = false := by simp; omega
  obtain ⟨i0, hi, hz0, hz1, hz2⟩ := info_parts info_place
  obtain ⟨pa, pb, pc, pd, pe⟩ := p
  clear h hm hS hz hn hx0
  go_enter Tryz.func79, Tryz.ntmps79
  go_wp2_with fail
  refine HL.out.mono ?_
  rintro e w1 ⟨rfl, j, rfl⟩
  have hb1 := drew_below (W.alloc (.cells #[.int .i64 pa, .int .i64 pb, .int .i64 pc, .int .i64 pd, .int .i64 pe, .pointer (some ⟨q, 0, none⟩)] 68)) j
  have HB1 := Lib.hid (HB.out.below hb1)
  have HO1 := Lib.hid (HX0.out.trans (hb1.mono HX0.out.size))
  have hH1 := H.out.below hb1
  clear HB HX0
  generalize World.drewN _ j = w1 at HB1 HO1 hH1 ⊢
  clear hb1 HL
  have H1 := Lib.hid hH1
  have hx := box_below w1 (.cells #[.int .i64 pa, .int .i64 pb, .int .i64 pc, .int .i64 pd, .int .i64 pe, .pointer (some ⟨q, 0, none⟩), .bool true] 169)
  have hA1 := hH1.below hx
  have HA1 := Lib.hid hA1
  have HO := Lib.hid (OnlyS.of_below (S := S) (HO1.out.trans (hx.mono HO1.out.size)))
  obtain ⟨b0, b1, b2, b3, b4, b5⟩ := HB1.out
  have HN1 := Lib.hid (Bxd.newp w1 ⟨pa, pb, pc, pd, pe⟩ q)
  have d6 : (w1.alloc (.cells #[.int .i64 pa, .int .i64 pb, .int .i64 pc, .int .i64 pd, .int .i64 pe, .pointer (some ⟨q, 0, none⟩), .bool true] 169)).cell? ⟨w1.heap.size, 6, none⟩ = some (.bool true) := by simp [go_sem]
  have D6 := Lib.hid d6
  have k4 := hH1.c2
  have hlt1 := hH1.lt
  clear hA1 hx hH1 d6
  simp only at b0 b1 b2 b3 b4 b5
  go_wp2_with fail
  have d6 := D6.out
  obtain ⟨d0, d1, d2, d3, d4, d5⟩ := HN1.out
  simp only at d0 d1 d2 d3 d4 d5
  have k1 := HA1.out.c1
  have k2 := HA1.out.c2
  have k3 := HA1.out.f1
  have hlt := HA1.out.lt
  clear k4 hlt1 H H1 HN1 D6 b0 b1 b2 b3 b4 b5 HB1 HO1
  generalize w1.heap.size = B0 at d0 d1 d2 d3 d4 d5 d6 ⊢
  generalize w1.alloc (.cells #[.int .i64 pa, .int .i64 pb, .int .i64 pc, .int .i64 pd, .int .i64 pe, .pointer (some ⟨q, 0, none⟩), .bool true] 169) = w2 at HA1 HO d0 d1 d2 d3 d4 d5 d6 k1 k2 k3 hlt ⊢
  have hrow5 : ((w2.alloc (.cells #[.int .i64 pa, .int .i64 pb, .int .i64 pc, .int .i64 pd, .int .i64 pe, .pointer (some ⟨q, 0, none⟩), .bool true] 169)).drew).ownsRow (b + 1) 169 7 (.slice A n c) n (flat ps) := by
    have := HA1.out.rp.alloc (.cells #[.int .i64 pa, .int .i64 pb, .int .i64 pc, .int .i64 pd, .int .i64 pe, .pointer (some ⟨q, 0, none⟩), .bool true] 169)
    rw [HN.out] at this
    exact this
  have hc5 : ∀ j u, (plv (some (⟨pa, pb, pc, pd, pe⟩, q)))[j]? = some u → ((w2.alloc (.cells #[.int .i64 pa, .int .i64 pb, .int .i64 pc, .int .i64 pd, .int .i64 pe, .pointer (some ⟨q, 0, none⟩), .bool true] 169)).drew).cell? ((⟨w2.heap.size, 0, none⟩ : Addr).add j) = some u := new_place w2 ⟨pa, pb, pc, pd, pe⟩ q
  have hz5 : b + 1 ≤ ((w2.alloc (.cells #[.int .i64 pa, .int .i64 pb, .int .i64 pc, .int .i64 pd, .int .i64 pe, .pointer (some ⟨q, 0, none⟩), .bool true] 169)).drew).heap.size := by
    show b + 1 ≤ (w2.alloc (.cells #[.int .i64 pa, .int .i64 pb, .int .i64 pc, .int .i64 pd, .int .i64 pe, .pointer (some ⟨q, 0, none⟩), .bool true] 169)).heap.size
    simp
    omega
  have hH5 : ((w2.alloc (.cells #[.int .i64 pa, .int .i64 pb, .int .i64 pc, .int .i64 pd, .int .i64 pe, .pointer (some ⟨q, 0, none⟩), .bool true] 169)).drew).heap.size = w2.heap.size + 1 := by
    show (w2.alloc (.cells #[.int .i64 pa, .int .i64 pb, .int .i64 pc, .int .i64 pd, .int .i64 pe, .pointer (some ⟨q, 0, none⟩), .bool true] 169)).heap.size = _
    simp
  have HC5 := Lib.hid hc5
  have HR5 := Lib.hid hrow5
  have HH5 := Lib.hid hH5
  have HZ5 := Lib.hid hz5
  have hX : Below w2.heap.size w2 ((w2.alloc (.cells #[.int .i64 pa, .int .i64 pb, .int .i64 pc, .int .i64 pd, .int .i64 pe, .pointer (some ⟨q, 0, none⟩), .bool true] 169)).drew) := by
    have := box_below w2 (.cells #[.int .i64 pa, .int .i64 pb, .int .i64 pc, .int .i64 pd, .int .i64 pe, .pointer (some ⟨q, 0, none⟩), .bool true] 169)
    exact ⟨this.os, this.tape, this.output, this.size, this.block⟩
  have HX := Lib.hid hX
  clear hc5 hrow5 hz5 hH5 hX
  go_region_law (first
    | (refine step_append_lies _ rfl (.tmp 26) (.tmp 28) 118 rfl (b + 1) 169 i0 (.agg #[.int .i64 0, .int .i64 0, .int .i64 0, .int .i64 0, .int .i64 0, .pointer none, .bool false]) 7 56 Tryz.underlying118 hi hz0 hz1 hz2 rfl (by decide) (.slice A n c) n (flat ps) rfl HR5.out ⟨w2.heap.size, 0, none⟩ 1 1 (plv (some (⟨pa, pb, pc, pd, pe⟩, q))) rfl rfl HC5.out (one_place ⟨pa, pb, pc, pd, pe⟩ q) (by decide) (by unfold maxLen; omega) (by omega) HZ5.out (w2.heap.size + 1) HH5.out ?_; intro g cap w5 hown hgrow hg hglt; obtain ⟨⟨r1, r2⟩, hD⟩ := placed_done (x := some (⟨pa, pb, pc, pd, pe⟩, q)) (v := .tuple #[.int .i64 (n : Int), .bool true]) HA1.out HS.out HO.out HM.out HN.out HX.out hown hgrow (hg.imp id (fun e => by omega)); have HD := Lib.hid hD; clear hD))
  all_goals
    go_wp2
    go_ret2
    exact HD.out
end Go.Proofs.YtmolohncllcgbaaGreatDoor.An
